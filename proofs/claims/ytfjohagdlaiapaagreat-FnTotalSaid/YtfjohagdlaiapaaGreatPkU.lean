/-
  The names of a term in memory: nameList.add, the method listNames, namesOf; and nameValid.
-/
import Derived.Test.YtfjohagdlaiapaaGreatPkB
import Derived.Maps.OwnSet
import Derived.Maps.AppendAt
import Derived.Test.YtfjohagdlaiapaaGreatPkA
import Derived.Laws.OwnMore
namespace Go.Proofs.YtfjohagdlaiapaaGreat
open Go.RowKit Go.WideMaps Go.Maps

set_option maxHeartbeats 400000
set_option maxRecDepth 100000

theorem law_key : Keyed Tryz.prog 9 := string_keyed Tryz.underlying9
theorem zero_bool (w : World) : (zeroValue 4).run Tryz.prog w = .ok (.bool false) w := by kernel_rfl
theorem info_string : (Tryz.prog.info? 9).map (fun i => (i.zero, i.size, i.bytes)) = some (some (.string ⟨#[]⟩), 1, 16) := by kernel_rfl

/-- The list lies in the blocks from mb on: the map, the list's own block, the row of names. -/
def NL (w : World) (mb : Nat) (ns : List (List UInt8)) : Prop :=
  ∃ sv, w.heap[mb + 1]? = some (.cells #[sv, .map (some mb)] 146 (0, 0)) ∧ w.ownsRow (mb + 2) 9 1 sv ns.length (ns.map str) ∧
    ∃ D : DataW Unit, w.ownsMap Tryz.prog 9 (plainElem Tryz.prog 4) mb ns.length D ∧ ∀ x, D.atKey (.string x) (.lit (.bool false)) = .lit (.bool (decide (x ∈ ns)))

theorem NL.lt {w : World} {mb : Nat} {ns : List (List UInt8)} (h : NL w mb ns) : mb + 2 ≤ w.heap.size := by
  obtain ⟨sv, h, _⟩ := h
  exact (Array.getElem?_eq_some_iff.1 h).1

theorem key_str (n : List UInt8) (h : n.length ≤ maxLen) : keyOf Tryz.prog 9 (str n) = some (.string n) := by
  have := keyOf_string_mk Tryz.underlying9 (s := ⟨n.toArray⟩) (by show n.toArray.size ≤ _; simpa using h)
  simpa using this

theorem look_run {w : World} {mb k : Nat} {D : DataW Unit} {ns : List (List UInt8)} (ho : w.ownsMap Tryz.prog 9 (plainElem Tryz.prog 4) mb k D) (hD : ∀ x, D.atKey (.string x) (.lit (.bool false)) = .lit (.bool (decide (x ∈ ns)))) (n : List UInt8) (h : n.length ≤ maxLen) :
    (Instr.lookup 144 (.map (some mb)) (str n) false).run Tryz.prog w = .ok (.bool (decide (n ∈ ns))) w := by
  obtain ⟨v, ps, hrun, hv⟩ := ho.lookup law_key Tryz.underlying144 (zero_bool w) (plainElem_bool Tryz.underlying4 false) (key_str n h)
  rw [hD] at hv
  unfold plainElem at hv
  rw [Tryz.underlying4] at hv
  cases v <;> simp at hv
  obtain ⟨rfl, _⟩ := hv
  exact hrun

theorem add_old (w : World) (mb : Nat) (ns : List (List UInt8)) (n : List UInt8) (h : NL w mb ns) (hn : n ∈ ns) (hl : n.length ≤ maxLen) :
    Calls Tryz.prog 184 #[.pointer (some ⟨mb + 1, 0, none⟩), str n] w fun e w' => e = .returned (.tuple #[]) ∧ w = w' := by
  obtain ⟨sv, h0, hr, D, hm, hD⟩ := h
  have c1 : w.cell? ⟨mb + 1, 1, none⟩ = some (.map (some mb)) := cell_of_heap h0
  have hrun := look_run hm hD n hl
  rw [show decide (n ∈ ns) = true by simpa using hn] at hrun
  clear hD hm hr hn
  go_enter Tryz.func184, Tryz.ntmps184
  go_wp2_with fail
  go_end0
  exact ⟨rfl, rfl⟩

theorem list_kept {w1 w2 : World} {mb : Nat} {sv : Value} {k : Nat} {xs : List Value} {o : Obj} (h : w1.heap[mb + 1]? = some (.cells #[sv, .map (some mb)] 146 (0, 0))) (hr : w1.ownsRow (mb + 2) 9 1 sv k xs) (hg : (w1.alloc o).grownBy w2 sv.ownBlock) :
    w2.heap[mb + 1]? = some (.cells #[sv, .map (some mb)] 146 (0, 0)) := by
  have hlt := (Array.getElem?_eq_some_iff.1 h).1
  rw [hg.block _ (by simp; omega) (fun e => by have := (hr.lt _ e.symm).1; omega), Below.heap_alloc _ _ _ hlt]
  exact h

theorem list_free {w : World} {mb : Nat} {cs : Array Value} {T : TypeId} (h : w.heap[mb + 1]? = some (.cells cs T (0, 0))) : w.frozen? ⟨mb + 1, 0, none⟩ = false := by
  simp [World.frozen?, h]

theorem own_slice {w : World} {base n size : Nat} {T : TypeId} {v : Value} {xs : List Value} (h : w.ownsRow base T size v n xs) : ∃ ao an ac, v = .slice ao an ac := by
  rcases h.2 with ⟨rfl, _⟩ | ⟨g, cap, cur, rfl, _⟩
  · exact ⟨_, _, _, rfl⟩
  · exact ⟨_, _, _, rfl⟩

theorem own_slice_len {w : World} {base n size : Nat} {T : TypeId} {v : Value} {xs : List Value} (h : w.ownsRow base T size v n xs) : ∃ ao ac, v = .slice ao n ac := by
  rcases h.2 with ⟨rfl, rfl⟩ | ⟨g, cap, cur, rfl, _⟩
  · exact ⟨_, _, rfl⟩
  · exact ⟨_, _, rfl⟩

theorem add_new (w : World) (mb : Nat) (ns : List (List UInt8)) (n : List UInt8) (h : NL w mb ns) (hn : n ∉ ns) (hl : n.length ≤ maxLen) (hk : ns.length ≤ 1000000) :
    Calls Tryz.prog 184 #[.pointer (some ⟨mb + 1, 0, none⟩), str n] w fun e w' => e = .returned (.tuple #[]) ∧ NL w' mb (ns ++ [n]) ∧ Below mb w w' := by
  obtain ⟨sv, h0, hr, D, hm, hD⟩ := h
  have c1 : w.cell? ⟨mb + 1, 1, none⟩ = some (.map (some mb)) := cell_of_heap h0
  have c0 : w.cell? ⟨mb + 1, 0, none⟩ = some sv := cell_of_heap h0
  have hrun := look_run hm hD n hl
  rw [show decide (n ∈ ns) = false by simpa using hn] at hrun
  obtain ⟨i0, hi, hz0, hz1, hz2⟩ := info_parts info_string
  have hun := Tryz.underlying66
  have hkey := key_str n hl
  have hmax : ns.length < maxLen := by unfold maxLen; omega
  have HMI := hm.isMap
  have HD := Lib.hid hD
  have H0 := Lib.hid h0
  have hlt0 := (Array.getElem?_eq_some_iff.1 h0).1
  clear hD h0
  go_enter Tryz.func184, Tryz.ntmps184
  go_wp2_with (at_mapUpdate; refine wpList_mapUpdate_own _ rfl _ _ _ 144 rfl 9 4 law_key Tryz.underlying144 _ mb _ _ rfl hm hmax _ _ _ rfl rfl hkey _ [] (plainElem_bool Tryz.underlying4 true) ?_)
  intro w1 hm1 hg1
  have h1 : w1.heap[mb + 1]? = some (.cells #[sv, .map (some mb)] 146 (0, 0)) := by
    rw [hg1.block _ (Array.getElem?_eq_some_iff.1 H0.out).1 (fun e => by injection e with e; omega)]; exact H0.out
  have d0 : w1.cell? ⟨mb + 1, 0, none⟩ = some sv := cell_of_heap h1
  have H1 := Lib.hid h1
  have hr1 := hr.kept hg1 (by
    cases hv : sv.ownBlock with
    | none => exact Or.inl rfl
    | some k => right; intro e; injection e with e; have := (hr.lt k hv).1; omega)
  have hsz : mb + 2 ≤ (w1.alloc (.cells #[str n] 9)).heap.size := by
    have := (Array.getElem?_eq_some_iff.1 h1).1
    simp; omega
  have hone : ∀ u ∈ [str n], u.oneCell' = true := by simp [Value.oneCell']
  have hm16 : (ns.length + 1) * 16 ≤ 140737488355328 := by omega
  have HR := Lib.hid hr1
  have HM := Lib.hid hm1
  have HG := Lib.hid hg1
  clear h1 hrun c0 c1 hr hr1 hm hm1 hg1
  go_wp2_with (at_builtin; refine wpList_append_own _ rfl _ _ 66 rfl (mb + 2) 9 i0 (.string ⟨#[]⟩) 1 16 hun hi hz0 hz1 hz2 rfl (by decide) _ _ _ rfl (World.ownsRow.alloc HR.out _) ⟨w1.heap.size, 0, none⟩ 1 1 [str n] rfl rfl (cell_one_new _ _ _) hone hmax hm16 hsz ?_; intro v2 w2 ho2 hg2 hiff; clear hiff; obtain ⟨ao, an, ac, rfl⟩ := own_slice ho2; have H2 := Lib.hid (list_kept H1.out HR.out hg2); have f0 := list_free H2.out; have e0 : w2.cell? ⟨mb + 1, 0, none⟩ = some sv := cell_of_heap H2.out; have HG2 : Hid ((w1.alloc (.cells #[str n] 9)).grownBy w2 sv.ownBlock) := Lib.hid hg2; have HO2 : Hid (w2.ownsRow (mb + 2) 9 1 (.slice ao an ac) (ns.length + 1) (ns.map str ++ [str n])) := Lib.hid ho2; clear hg2 ho2)
  go_end0
  have hs1 := HG.out.size
  refine ⟨rfl, ⟨.slice ao an ac, ?_, ?_, D.put (.string n) (.lit (.bool true)), ?_, ?_⟩, ?_⟩
  · simp [World.setCell, Array.getElem?_modify, H2.out]
  · have := ownsRow_setCell_below HO2.out (a := ⟨mb + 1, 0, none⟩) (by simp) (.slice ao an ac)
    simpa using this
  · have h1 := (HM.out.alloc (.cells #[str n] 9)).kept HG2.out (by
      cases hv : sv.ownBlock with
      | none => simp
      | some k => intro e; injection e with e; have := (HR.out.lt k hv).1; omega)
    have := h1.setCell (a := ⟨mb + 1, 0, none⟩) (by simp) (.slice ao an ac)
    simpa using this
  · intro x
    by_cases hx : x = n
    · subst hx
      rw [atKey_put_same HMI (by trivial)]
      simp
    · rw [atKey_put_other (by intro e; injection e with e; exact hx e), HD.out]
      simp [hx]
  · exact ((((Below.refl mb w).grown HG.out (by omega) (fun k hk => by injection hk with hk; omega)).alloc (by omega) _).grown HG2.out (by omega) (fun k hk => by have := (HR.out.lt k hk).1; omega)).setCell (by simp) _

/-! ### listNames -/

def ListPost (mb : Nat) (w : World) (ns : List (List UInt8)) (e : Ending) (w' : World) : Prop := e = .returned (.tuple #[]) ∧ NL w' mb ns ∧ Below mb w w'

/-- The method listNames of v, a term in blocks below mb. -/
def ListOk (w : World) (mb : Nat) (v : Value) (t : Tm) : Prop :=
  ∃ T x f y, v = .iface T x ∧ (∀ W, Below mb w W → (method 309 T x "loop.example/realizers/impl.listNames").run Tryz.prog W = .ok (f, y) W) ∧ (∀ args w', (callFunc f args).run Tryz.prog w' = .ok (.enter f args) w') ∧
    ∀ W, Below mb w W → ∀ ns, NL W mb ns → ns.length + t.size ≤ 1000000 → Calls Tryz.prog f #[y, .pointer (some ⟨mb + 1, 0, none⟩)] W (ListPost mb W (t.names ns))

theorem leaf_list (w : World) (v : Value) : Calls Tryz.prog 160 #[.agg #[], v] w fun e w' => e = .returned (.tuple #[]) ∧ w' = w.alloc (.cells #[] 88) := by
  go_enter Tryz.func160, Tryz.ntmps160
  go_wp2_with fail
  go_end0
  exact ⟨rfl, rfl⟩

theorem NL.alloc {w : World} {mb : Nat} {ns : List (List UInt8)} (h : NL w mb ns) (o : Obj) : NL (w.alloc o) mb ns := by
  obtain ⟨sv, h0, hr, D, hm, hD⟩ := h
  exact ⟨sv, by rw [Below.heap_alloc _ _ _ (Array.getElem?_eq_some_iff.1 h0).1]; exact h0, hr.alloc _, D, hm.alloc _, hD⟩

theorem n_list (W : World) (b mb : Nat) (n : List UInt8) (ns : List (List UInt8)) (hc : W.cell? ⟨b, 0, none⟩ = some (str n)) (h : NL W mb ns) (hl : n.length ≤ maxLen) (hk : ns.length ≤ 1000000) :
    Calls Tryz.prog 181 #[.pointer (some ⟨b, 0, none⟩), .pointer (some ⟨mb + 1, 0, none⟩)] W (ListPost mb W ((Tm.nm n).names ns)) := by
  by_cases hn : n ∈ ns
  · have hf : (Tm.nm n).names ns = ns := by simp [Tm.names, hn]
    rw [hf]
    have hadd := add_old W mb ns n h hn hl
    have HN := Lib.hid h
    clear hf hn h
    go_enter Tryz.func181, Tryz.ntmps181
    go_wp2_with (go_at_call 184; refine hadd.mono ?_; rintro e w' ⟨rfl, rfl⟩)
    go_end0
    exact ⟨rfl, HN.out, Below.refl _ _⟩
  · have hf : (Tm.nm n).names ns = ns ++ [n] := by simp [Tm.names, hn]
    rw [hf]
    have hadd := add_new W mb ns n h hn hl hk
    clear hf hn h
    go_enter Tryz.func181, Tryz.ntmps181
    go_wp2_with (go_at_call 184; refine hadd.mono ?_; rintro e w' ⟨rfl, h1, h2⟩; have H1 := Lib.hid h1; clear h1)
    go_end0
    exact ⟨rfl, H1.out, h2⟩

theorem cell_mb {w : World} {mb b i : Nat} {v : Value} (h : w.cell? ⟨b, i, none⟩ = some v) (hb : b < mb) : ∀ W, Below mb w W → W.cell? ⟨b, i, none⟩ = some v := fun W hW => by rw [hW.cell (p := ⟨b, i, none⟩) hb]; exact h

theorem a_list (w W : World) (b mb : Nat) (T1 T2 : TypeId) (x1 x2 : Value) (f a : Tm) (ns : List (List UInt8)) (hW : Below mb w W)
    (h0 : ∀ W, Below mb w W → W.cell? ⟨b, 0, none⟩ = some (.iface T1 x1)) (h1 : ∀ W, Below mb w W → W.cell? ⟨b, 1, none⟩ = some (.iface T2 x2))
    (hf : ListOk w mb (.iface T1 x1) f) (ha : ListOk w mb (.iface T2 x2) a) (h : NL W mb ns) (hl : ns.length + (f.app a).size ≤ 1000000) :
    Calls Tryz.prog 173 #[.pointer (some ⟨b, 0, none⟩), .pointer (some ⟨mb + 1, 0, none⟩)] W (ListPost mb W ((f.app a).names ns)) := by
  obtain ⟨_, _, g4, z4, e0, k4, l4, d4⟩ := hf
  injection e0 with e1 e2
  subst e1; subst e2
  obtain ⟨_, _, g5, z5, e0, k5, l5, d5⟩ := ha
  injection e0 with e1 e2
  subst e1; subst e2
  have hnl := Tm.names_len f ns
  simp only [Tm.size] at hl
  have HN := Lib.hid h
  clear h
  go_enter Tryz.func173, Tryz.ntmps173
  go_wp2_with (first
    | (go_at_fn g4; refine (d4 _ hW _ HN.out (by omega)).mono ?_; rintro e w1 ⟨rfl, hn1, hb1⟩; have H1 := Lib.hid hn1; clear hn1; have hW1 := hW.trans hb1)
    | (go_at_fn g5; refine (d5 _ hW1 _ H1.out (by omega)).mono ?_; rintro e w2 ⟨rfl, hn2, hb2⟩; have H2 := Lib.hid hn2; clear hn2))
  go_end0
  exact ⟨rfl, H2.out, hb1.trans hb2⟩

theorem heap_mb {w W : World} {mb b : Nat} {o : Obj} (h : w.heap[b]? = some o) (hb : b < mb) (hW : Below mb w W) : W.heap[b]? = some o := by rw [hW.block b hb]; exact h

theorem TV.listOk {w : World} {B mb : Nat} (hmb : ∀ (b : Nat) (o : Obj), w.heap[b]? = some o → b < mb) : ∀ {t : Tm} {v : Value}, TV w B t v → t.good = true → ListOk w mb v t
  | .k, _, ⟨b, fr, hv, _, h⟩, _ => ⟨_, _, _, _, hv, fun W hb => (meth_kLetter_listNames b W fr _ (heap_mb h (hmb _ _ h) hb)).1, (meth_kLetter_listNames b w fr _ h).2, fun W hW ns hn _ => (leaf_list W _).mono fun e w' ⟨he, hw⟩ => ⟨he, hw ▸ NL.alloc hn _, hw ▸ (Below.refl mb W).alloc (by have := hn.lt; omega) _⟩⟩
  | .s, _, ⟨b, fr, hv, _, h⟩, _ => ⟨_, _, _, _, hv, fun W hb => (meth_sLetter_listNames b W fr _ (heap_mb h (hmb _ _ h) hb)).1, (meth_sLetter_listNames b w fr _ h).2, fun W hW ns hn _ => (leaf_list W _).mono fun e w' ⟨he, hw⟩ => ⟨he, hw ▸ NL.alloc hn _, hw ▸ (Below.refl mb W).alloc (by have := hn.lt; omega) _⟩⟩
  | .nm n, _, ⟨b, fr, hv, _, h⟩, hg => ⟨_, _, _, _, hv, fun W _ => (meth_nameAtom_listNames _ W).1, (meth_nameAtom_listNames ⟨b, 0, none⟩ w).2, fun W hW ns hn hl => n_list W b mb n ns (cell_of_heap (heap_mb h (hmb _ _ h) hW)) hn (by
      simp only [Tm.good] at hg
      cases n with
      | nil => simp [Tm.nameOk] at hg
      | cons c ds => simp only [Tm.nameOk, Bool.and_eq_true, decide_eq_true_eq] at hg; unfold maxLen; simp; omega) (by omega)⟩
  | .app f a, _, ⟨b, fr, vf, va, hv, _, h, hf, ha⟩, hg => by
    simp only [Tm.good, Bool.and_eq_true] at hg
    have sf := TV.listOk hmb hf hg.1
    have sa := TV.listOk hmb ha hg.2
    obtain ⟨T1, x1, rfl, _⟩ := hf.asks
    obtain ⟨T2, x2, rfl, _⟩ := ha.asks
    exact ⟨_, _, _, _, hv, fun W _ => (meth_application_listNames _ W).1, (meth_application_listNames ⟨b, 0, none⟩ w).2, fun W hW ns hn hl =>
      a_list w W b mb T1 T2 x1 x2 f a ns hW (cell_mb (cell_of_heap (i := 0) h) (hmb _ _ h)) (cell_mb (cell_of_heap (i := 1) h) (hmb _ _ h)) sf sa hn hl⟩

/-! ### namesOf -/

def NamesPost (w : World) (t : Tm) (e : Ending) (w' : World) : Prop :=
  ∃ sv, e = .returned sv ∧ Below w.heap.size w w' ∧ w'.ownsRow w.heap.size 9 1 sv (t.names []).length ((t.names []).map str)

theorem ownsRow_base {w : World} {B B' n size : Nat} {T : TypeId} {v : Value} {xs : List Value} (h : w.ownsRow B T size v n xs) (hB : B' ≤ B) : w.ownsRow B' T size v n xs := by
  obtain ⟨h1, h2⟩ := h
  refine ⟨h1, ?_⟩
  rcases h2 with h2 | ⟨g, cap, cur, hv, hg, r⟩
  · exact Or.inl h2
  · exact Or.inr ⟨g, cap, cur, hv, Nat.le_trans hB hg, r⟩

theorem NL.start (w : World) : NL ((w.alloc (.map #[] 0)).alloc (.cells #[.slice none 0 0, .map (some w.heap.size)] 146)) w.heap.size [] := by
  refine ⟨.slice none 0 0, ?_, World.ownsRow_nil _ _ _ _, .map [], (World.ownsMap_made w _ _ _).alloc _, fun x => by simp [DataW.atKey]⟩
  have := heap_new (w.alloc (.map #[] 0)) (.cells #[.slice none 0 0, .map (some w.heap.size)] 146)
  simpa using this

theorem namesOf_any (w : World) (B : Nat) (t : Tm) (v : Value) (h : TV w B t v) (hg : t.good = true) (hl : t.size ≤ 1000000) :
    Calls Tryz.prog 77 #[v] w (NamesPost w t) := by
  obtain ⟨T1, x1, f1, y1, rfl, m1, n1, c1⟩ := h.listOk (mb := w.heap.size) (fun b o hb => (Array.getElem?_eq_some_iff.1 hb).1) hg
  have hmm := @run_makeMap Tryz.prog
  have hst := NL.start w
  have hb1 : Below w.heap.size w ((w.alloc (.map #[] 0)).alloc (.cells #[.slice none 0 0, .map (some w.heap.size)] 146)) := ((Below.refl _ _).alloc (Nat.le_refl _) _).alloc (by simp) _
  have HS := Lib.hid hst
  clear hst
  go_enter Tryz.func77, Tryz.ntmps77
  go_wp2_with fail
  refine (c1 _ hb1 _ HS.out (by simpa using hl)).mono ?_
  rintro e w1 ⟨rfl, hn1, hb2⟩
  obtain ⟨sv, h0, hr, _⟩ := hn1
  obtain ⟨ao, an, ac, rfl⟩ := own_slice hr
  have d0 : w1.cell? ⟨w.heap.size + 1, 0, none⟩ = some (.slice ao an ac) := cell_of_heap h0
  have HR := Lib.hid (ownsRow_base hr (B' := w.heap.size) (by omega))
  clear hr h0
  go_wp2_with fail
  go_ret
  exact ⟨_, rfl, hb1.trans hb2, HR.out⟩

/-! ### nameValid -/

theorem nameOk_len (l : List UInt8) : Tm.nameOk l = (!l.isEmpty && decide (Tm.nameLen l 0 = l.length)) := by
  cases hl : l with
  | nil => rfl
  | cons c ds =>
    rw [← hl]
    have hne : l.isEmpty = false := by rw [hl]; rfl
    rw [hne, Bool.eq_iff_iff]
    simp only [Bool.not_false, Bool.true_and, decide_eq_true_eq]
    constructor
    · exact fun h => Tm.nameLen_of l l [] 0 (by simp) h (by simp)
    · intro h
      have := Tm.nameLen_sound l 0 (by rw [h, hl]; simp)
      rw [h] at this
      simpa using this.1

end Go.Proofs.YtfjohagdlaiapaaGreat

namespace Go.Proofs.YtfjohagdlaiapaaGreat
open Go.RowKit

set_option maxHeartbeats 1000000
set_option maxRecDepth 100000

/-- The slice value holds these texts. -/
def Strs (w : World) (sv : Value) (ns : List (List UInt8)) : Prop :=
  (sv = .slice none 0 0 ∧ ns = []) ∨ ∃ b off cap, sv = .slice (some ⟨b, off, none⟩) ns.length cap ∧ ∀ j (h : j < ns.length), w.cell? ⟨b, off + j, none⟩ = some (str ns[j])

theorem ownsRow_strs {w : World} {base : Nat} {T : TypeId} {sv : Value} {ns : List (List UInt8)} (h : w.ownsRow base T 1 sv ns.length (ns.map str)) : Strs w sv ns := by
  rcases h.2 with ⟨rfl, h0⟩ | ⟨g, cap, cur, rfl, hb, hh, hn, hc, hs, ht⟩
  · exact Or.inl ⟨rfl, List.length_eq_zero_iff.1 h0⟩
  · refine Or.inr ⟨g, 0, cap, rfl, fun j hj => ?_⟩
    have := h.cells (g := g) rfl j (str ns[j]) (by simp [hj])
    have hadd : (⟨g, 0, none⟩ : Addr).add j = ⟨g, 0 + j, none⟩ := by unfold Addr.add; split <;> simp_all
    rw [hadd] at this
    exact this

theorem s_has (w : World) (sv : Value) (ns : List (List UInt8)) (x : List UInt8) (h : Strs w sv ns) (hn : ns.length ≤ 1000000000) :
    Calls Tryz.prog 82 #[sv, str x] w fun e w' => e = .returned (.bool (decide (x ∈ ns))) ∧ w = w' := by
  rcases h with ⟨rfl, rfl⟩ | ⟨b, off, cap, rfl, hc⟩
  · go_enter Tryz.func82, Tryz.ntmps82
    go_wp2_with fail
    go_loop [5] (fun i => i = .int .i64 0) (fun _ => 0)
    case atStart => rfl
    case round =>
      obtain rfl := hrel
      go_wp2_with fail
      go_ret
      exact ⟨by simp, rfl⟩
  · obtain ⟨r, hr⟩ : ∃ r, r = decide (x ∈ ns) := ⟨_, rfl⟩
    rw [← hr]
    have hstart : Hid (r = decide (x ∈ ns.drop 0)) := by show _ = _; rw [hr]; simp
    have HC := Lib.hid hc
    clear hr hc
    go_enter Tryz.func82, Tryz.ntmps82
    go_wp2_with fail
    go_loop [5] (fun i => ∃ k : Nat, i = .int .i64 k ∧ k ≤ ns.length ∧ Hid (r = decide (x ∈ ns.drop k))) (fun i => ns.length - (intOf i).toNat)
    case atStart => exact ⟨0, rfl, Nat.zero_le _, hstart⟩
    case round =>
      obtain ⟨k, rfl, hk, hr⟩ := hrel
      clear hstart
      by_cases hlt : k < ns.length
      · have hck := HC.out k hlt
        have hd := List.drop_eq_getElem_cons hlt
        rw [hd] at hr
        clear hd
        generalize ns[k] = y at hck hr
        by_cases he : y = x
        · subst he
          have HS : Hid (r = true) := by show _ = _; rw [hr.out]; simp
          clear hr
          go_wp2_with fail
          go_ret
          exact ⟨by rw [HS.out]; rfl, rfl⟩
        · have heq : (y == x) = false := beq_eq_false_iff_ne.2 he
          have HS : Hid (r = decide (x ∈ ns.drop (k + 1))) := by show _ = _; rw [hr.out]; simp [Ne.symm he]
          clear hr he
          go_wp2_with fail
          go_round
          case rel => exact ⟨k + 1, by go_num, by omega, HS⟩
          case measure => simp [intOf]; omega
      · have HS : Hid (r = false) := by show _ = _; rw [hr.out, List.drop_eq_nil_of_le (by omega)]; simp
        clear hr
        go_wp2_with fail
        go_ret
        exact ⟨by rw [HS.out]; rfl, rfl⟩

/-! ### growing -/

theorem grew_drew {a b : World} {r : Option Nat} (h : a.grownBy b r) : a.grownBy b.drew r := ⟨h.os, h.tape, h.output, h.size, h.block⟩
theorem grew_refl (a : World) (r : Option Nat) : a.grownBy a r := ⟨rfl, rfl, rfl, Nat.le_refl _, fun _ _ _ => rfl⟩
theorem grew_alloc {a b : World} {r : Option Nat} (h : a.grownBy b r) (o : Obj) : a.grownBy (b.alloc o) r :=
  ⟨h.os, h.tape, h.output, by simp; have := h.size; omega, fun k hk hr => by rw [Below.heap_alloc _ _ _ (Nat.lt_of_lt_of_le hk h.size)]; exact h.block k hk hr⟩
theorem grew_trans {a b c : World} {r r2 : Option Nat} (h1 : a.grownBy b r) (h2 : b.grownBy c r2) (hr : r2 = r ∨ ∃ k, r2 = some k ∧ a.heap.size ≤ k) : a.grownBy c r := by
  refine ⟨h2.os.trans h1.os, h2.tape.trans h1.tape, h2.output.trans h1.output, Nat.le_trans h1.size h2.size, fun k hk hne => ?_⟩
  rw [h2.block k (Nat.lt_of_lt_of_le hk h1.size) ?_]
  · exact h1.block k hk hne
  · rcases hr with rfl | ⟨k', rfl, hk'⟩
    · exact hne
    · intro e; injection e with e; omega

theorem grew_heap {a b : World} {r : Option Nat} (h : a.grownBy b r) {k : Nat} {o : Obj} (hk : a.heap[k]? = some o) (hr : some k ≠ r) : b.heap[k]? = some o := by
  rw [h.block k (Array.getElem?_eq_some_iff.1 hk).1 hr]; exact hk

def NamesP (mb : Nat) (w : World) (sv : Value) (ns : List (List UInt8)) (e : Ending) (w' : World) : Prop :=
  ∃ sv', e = .returned sv' ∧ w'.ownsRow mb 9 1 sv' ns.length (ns.map str) ∧ w.grownBy w' sv.ownBlock ∧ (sv'.ownBlock = sv.ownBlock ∨ ∃ k, sv'.ownBlock = some k ∧ w.heap.size ≤ k)

theorem name_ne {n : List UInt8} (h : Tm.nameOk n = true) : n.isEmpty = false ∧ (n == [107]) = false ∧ (n == [115]) = false := by
  refine ⟨?_, ?_, ?_⟩
  · cases n with
    | nil => simp [Tm.nameOk] at h
    | cons => rfl
  · rw [beq_eq_false_iff_ne]; rintro rfl; revert h; decide
  · rw [beq_eq_false_iff_ne]; rintro rfl; revert h; decide

theorem names_k (mb : Nat) (W : World) (v sv : Value) (ns : List (List UInt8)) (ho : W.ownsRow mb 9 1 sv ns.length (ns.map str)) :
    Calls Tryz.prog 54 #[.agg #[str [107], v], sv] W (NamesP mb W sv ns) := by
  have HO := Lib.hid ho
  clear ho
  go_enter Tryz.func54, Tryz.ntmps54
  go_wp2_with fail
  go_ret
  exact ⟨_, rfl, HO.out.alloc _, grew_alloc (grew_refl _ _) _, Or.inl rfl⟩

theorem names_s (mb : Nat) (W : World) (v sv : Value) (ns : List (List UInt8)) (ho : W.ownsRow mb 9 1 sv ns.length (ns.map str)) :
    Calls Tryz.prog 54 #[.agg #[str [115], v], sv] W (NamesP mb W sv ns) := by
  have HO := Lib.hid ho
  clear ho
  go_enter Tryz.func54, Tryz.ntmps54
  go_wp2_with fail
  go_ret
  exact ⟨_, rfl, HO.out.alloc _, grew_alloc (grew_refl _ _) _, Or.inl rfl⟩

theorem sinfo_string : (Tryz.prog.info? 9).map (fun i => (i.zero, i.size, i.bytes)) = some (some (.string ⟨#[]⟩), 1, 16) := by kernel_rfl

theorem names_nm (mb : Nat) (W : World) (n : List UInt8) (v sv : Value) (ns : List (List UInt8)) (hn : Tm.nameOk n = true) (ho : W.ownsRow mb 9 1 sv ns.length (ns.map str)) (hmb : mb ≤ W.heap.size) (hl : ns.length ≤ 1000000) :
    Calls Tryz.prog 54 #[.agg #[str n, v], sv] W (NamesP mb W sv ((Tm.nm n).names ns)) := by
  obtain ⟨e0, e1, e2⟩ := name_ne hn
  have hhas := s_has (W.alloc (.cells #[str n, v] 55)) sv ns n (ownsRow_strs (ho.alloc _)) (by omega)
  by_cases hm : n ∈ ns
  · rw [show (Tm.nm n).names ns = ns by simp [Tm.names, hm]]
    rw [show decide (n ∈ ns) = true by simpa using hm] at hhas
    have HO := Lib.hid ho
    clear ho hm hn
    go_enter Tryz.func54, Tryz.ntmps54
    go_wp2_with (go_at_call 82; refine hhas.mono ?_; rintro e w' ⟨rfl, rfl⟩)
    go_ret
    exact ⟨_, rfl, HO.out.alloc _, grew_alloc (grew_refl _ _) _, Or.inl rfl⟩
  · rw [show (Tm.nm n).names ns = ns ++ [n] by simp [Tm.names, hm]]
    rw [show decide (n ∈ ns) = false by simpa using hm] at hhas
    obtain ⟨i0, hi, hz0, hz1, hz2⟩ := info_parts sinfo_string
    have hun := Tryz.underlying66
    have hmax : ns.length + 1 ≤ maxLen := by unfold maxLen; omega
    have hm16 : (ns.length + 1) * 16 ≤ 140737488355328 := by omega
    have hone : ∀ u ∈ [str n], u.oneCell' = true := by simp [Value.oneCell']
    have hsz : mb ≤ ((W.alloc (.cells #[str n, v] 55)).alloc (.cells #[str n] 9)).heap.size := by simp; omega
    have hown := (ho.alloc (.cells #[str n, v] 55)).alloc (.cells #[str n] 9)
    have hnews := cell_one_new (W.alloc (.cells #[str n, v] 55)) (str n) 9
    rw [show (W.alloc (.cells #[str n, v] 55)).heap.size = W.heap.size + 1 by simp] at hnews
    have hlt := ho.lt
    have HLT := Lib.hid hlt
    have HO := Lib.hid hown
    clear ho hm hn hown hlt
    go_enter Tryz.func54, Tryz.ntmps54
    go_wp2_with (first
      | (go_at_call 82; refine hhas.mono ?_; rintro e w' ⟨rfl, rfl⟩)
      | (at_builtin; refine wpList_append_own_at _ rfl _ _ 66 rfl mb 9 i0 (.string ⟨#[]⟩) 1 16 hun hi hz0 hz1 hz2 rfl (by decide) _ _ _ rfl HO.out ⟨W.heap.size + 1, 0, none⟩ 1 1 [str n] rfl rfl hnews hone hmax hm16 hsz ?_; intro v2 w2 ho2 hg2 hiff hor2; clear hiff; have HO2 := Lib.hid ho2; have HG2 := Lib.hid hg2; have HOR := Lib.hid hor2; clear ho2 hg2 hor2))
    go_ret
    refine ⟨_, rfl, by simpa using HO2.out, grew_trans (grew_alloc (grew_alloc (grew_refl W sv.ownBlock) _) _) HG2.out (Or.inl rfl), ?_⟩
    rcases HOR.out with h | h
    · exact Or.inl h
    · exact Or.inr ⟨_, h, by simp; omega⟩

theorem names_app (mb : Nat) (w W : World) (g cap : Nat) (fr : Nat × Nat) (s0 s1 : List UInt8) (a0 a1 : Option Addr) (n0 c0 n1 c1 : Nat) (f a : Tm) (sv : Value) (ns : List (List UInt8))
    (hw : w.heap.size = mb) (hh : w.heap[g]? = some (.cells #[str s0, .slice a0 n0 c0, str s1, .slice a1 n1 c1] 55 fr)) (hW : After w W) (ho : W.ownsRow mb 9 1 sv ns.length (ns.map str)) (hl : ns.length + (f.size + a.size) ≤ 1000000)
    (hf : ∀ W, After w W → ∀ sv ns, W.ownsRow mb 9 1 sv ns.length (ns.map str) → ns.length + f.size ≤ 1000000 → Calls Tryz.prog 54 #[.agg #[str s0, .slice a0 n0 c0], sv] W (NamesP mb W sv (f.names ns)))
    (ha : ∀ W, After w W → ∀ sv ns, W.ownsRow mb 9 1 sv ns.length (ns.map str) → ns.length + a.size ≤ 1000000 → Calls Tryz.prog 54 #[.agg #[str s1, .slice a1 n1 c1], sv] W (NamesP mb W sv (a.names ns))) :
    Calls Tryz.prog 54 #[.agg #[str [], .slice (some ⟨g, 0, none⟩) 2 cap], sv] W (NamesP mb W sv ((f.app a).names ns)) := by
  have hlen := Tm.names_len f ns
  obtain ⟨X, hX⟩ : ∃ X, X = W.alloc (.cells #[str [], .slice (some ⟨g, 0, none⟩) 2 cap] 55) := ⟨_, rfl⟩
  obtain ⟨r, hr⟩ : ∃ r, r = sv.ownBlock := ⟨_, rfl⟩
  have hgw := (Array.getElem?_eq_some_iff.1 hh).1
  have hgW := hW.size
  have hrlt : ∀ k, r = some k → mb ≤ k ∧ k < W.heap.size := by rw [hr]; exact ho.lt
  have hWX : W.grownBy X r := by rw [hX]; exact grew_alloc (grew_refl _ _) _
  have hbX : X.heap[W.heap.size]? = some (.cells #[str [], .slice (some ⟨g, 0, none⟩) 2 cap] 55 (0, 0)) := by rw [hX]; exact heap_new' _ _
  have hgX : X.heap[g]? = some (.cells #[str s0, .slice a0 n0 c0, str s1, .slice a1 n1 c1] 55 fr) := grew_heap hWX (hW.heap hh) (fun e => by have := (hrlt _ e.symm).1; omega)
  have hXs : X.heap.size = W.heap.size + 1 := by rw [hX]; simp
  have hwX : After w X := by rw [hX]; exact hW.alloc _
  have hgne : some g ≠ r := fun e => by have := (hrlt _ e.symm).1; omega
  have hbne : some W.heap.size ≠ r := fun e => by have := (hrlt _ e.symm).2; omega
  have b1 : ∀ W', X.grownBy W' r → W'.cell? ⟨W.heap.size, 1, none⟩ = some (.slice (some ⟨g, 0, none⟩) 2 cap) := fun W' h => cell_of_heap (grew_heap h hbX hbne)
  have g0 : ∀ W', X.grownBy W' r → W'.cell? ⟨g, 0, none⟩ = some (str s0) := fun W' h => cell_of_heap (grew_heap h hgX hgne)
  have g1 : ∀ W', X.grownBy W' r → W'.cell? ⟨g, 1, none⟩ = some (.slice a0 n0 c0) := fun W' h => cell_of_heap (grew_heap h hgX hgne)
  have g2 : ∀ W', X.grownBy W' r → W'.cell? ⟨g, 2, none⟩ = some (str s1) := fun W' h => cell_of_heap (grew_heap h hgX hgne)
  have g3 : ∀ W', X.grownBy W' r → W'.cell? ⟨g, 3, none⟩ = some (.slice a1 n1 c1) := fun W' h => cell_of_heap (grew_heap h hgX hgne)
  have hlater : ∀ W', X.grownBy W' r → After w W' := fun W' h => hwX.grown h (by omega) (fun k hk => by have := (hrlt k hk).1; omega)
  have hself : X.grownBy X.drew r := grew_drew (grew_refl _ _)
  have hcf := hf X.drew (hlater _ hself) sv ns (by rw [hX]; exact (ho.alloc _).drew) (by omega)
  have hca := fun W' (h : X.grownBy W' r) sv' ho' => ha W' (hlater _ h) sv' (f.names ns) ho' (by omega)
  unfold NamesP at hcf hca
  rw [← hr] at hcf
  rw [show (f.app a).names ns = a.names (f.names ns) by simp [Tm.names]]
  generalize f.names ns = ns1 at *
  generalize a.names ns1 = ns2 at *
  have HWX := Lib.hid hWX
  have HR := Lib.hid hr
  go_enter Tryz.func54, Tryz.ntmps54
  go_wp2_with fail
  rw [← hX]
  clear hf ha ho hlater hwX hX hr hWX hrlt hgX hbX hh hgne hbne hlen
  go_region_held3 (fun W' => X.grownBy W' r) (first | assumption | exact grew_drew (by assumption) | go_keep)
    (first
      | (go_at_call_of 54 a0; refine hcf.mono ?_; rintro e w1 ⟨sv1, rfl, ho1, hg1, hor1⟩; have hG1 := grew_trans hself hg1 (Or.inl rfl); have HO1 := Lib.hid ho1; have HOR1 := Lib.hid hor1; clear ho1 hor1)
      | (go_at_call_of 54 a1; refine (hca _ hG1 _ HO1.out).mono ?_; rintro e w2 ⟨sv2, rfl, ho2, hg2, hor2⟩; have HO2 := Lib.hid ho2; have HOR2 := Lib.hid hor2; have HG2 := Lib.hid hg2; have hG2 := grew_trans hG1 hg2 (by rcases HOR1.out with h | ⟨k, h, hk⟩; exact Or.inl h; exact Or.inr ⟨k, h, hk⟩); clear ho2 hor2 hg2))
  go_wp2_with fail
  go_ret
  refine ⟨_, rfl, HO2.out, by rw [← HR.out]; exact grew_trans HWX.out hG2 (Or.inl rfl), ?_⟩
  rw [← HR.out]
  have hs1 := HWX.out.size
  have hs2 := hG1.size
  rcases HOR2.out with h | ⟨k, h, hk⟩
  · rcases HOR1.out with h' | ⟨k, h', hk⟩
    · exact Or.inl (h.trans h')
    · exact Or.inr ⟨k, h.trans h', by simp at hk; omega⟩
  · exact Or.inr ⟨k, h, by omega⟩

theorem ST.names {w : World} {t : Tm} : ∀ {v : Value}, ST w t v → t.good = true → ∀ W, After w W → ∀ sv ns, W.ownsRow w.heap.size 9 1 sv ns.length (ns.map str) → ns.length + t.size ≤ 1000000 →
    Calls Tryz.prog 54 #[v, sv] W (NamesP w.heap.size W sv (t.names ns)) := by
  induction t with
  | k => intro v h hg W hW sv ns ho hl; simp only [ST] at h; subst h; exact names_k _ W _ sv ns ho
  | s => intro v h hg W hW sv ns ho hl; simp only [ST] at h; subst h; exact names_s _ W _ sv ns ho
  | nm n => intro v h hg W hW sv ns ho hl; simp only [ST] at h; subst h; exact names_nm _ W n _ sv ns hg ho hW.size (by omega)
  | app f a ihf iha =>
    intro v h hg W hW sv ns ho hl
    obtain ⟨g, cap, fr, s0, p0, s1, p1, rfl, hh, hf, ha⟩ := h
    simp only [Tm.good, Bool.and_eq_true] at hg
    simp only [Tm.size] at hl
    obtain ⟨x0, a0, n0, c0, rfl, rfl⟩ := parts_form hf
    obtain ⟨x1, a1, n1, c1, rfl, rfl⟩ := parts_form ha
    exact names_app _ w W g cap fr x0 x1 a0 a1 n0 c0 n1 c1 f a sv ns rfl hh hW ho hl (ihf hf hg.1) (iha ha hg.2)
end Go.Proofs.YtfjohagdlaiapaaGreat

namespace Go.Proofs.YtfjohagdlaiapaaGreat
open Go.RowKit

set_option maxHeartbeats 4000000
set_option maxRecDepth 100000

/-- What l1Term hands back: a tree, and whether it is a term. -/
def STermPost (w : World) (l : List UInt8) (e : Ending) (w' : World) : Prop :=
  ∃ s ao n c, e = .returned (.tuple #[.agg #[str s, .slice ao n c], .bool (Tm.parse l).isSome]) ∧ After w w' ∧ ∀ t, Tm.parse l = some t → ST w' t (.agg #[str s, .slice ao n c])

theorem mread_parse {l : List UInt8} (h : l.length ≤ 24000) : Tm.parse l = match Tm.mread l 1501 0 with
    | some (t, j) => if j = l.length ∧ t.size ≤ 3000 then some t else none
    | none => none := by
  rw [← Tm.mparse_eq]
  unfold Tm.mparse
  rw [if_neg (by omega)]
  rfl

theorem s_term (w : World) (l : List UInt8) (hl : l.length ≤ 1000000000) :
    Calls Tryz.prog 53 #[str l] w (STermPost w l) := by
  have hsz : (⟨l.toArray⟩ : ByteArray).size = l.length := by show l.toArray.size = _; simp
  by_cases hbig : 24000 < l.length
  · have hfin : Tm.parse l = none := by rw [← Tm.mparse_eq]; unfold Tm.mparse; rw [if_pos hbig]
    have H := Lib.hid hfin
    clear hfin
    go_enter Tryz.func53, Tryz.ntmps53
    go_wp2_with fail
    exact bodyPost_ret (v := .tuple #[.agg #[.string ⟨#[]⟩, .slice none 0 0], .bool false]) (by simp [results, Tryz.results53, go_sem]) rfl
      ⟨[], none, 0, 0, by rw [H.out]; rfl, After.new _ _, fun t he => by rw [H.out] at he; simp at he⟩
  · have hp := mread_parse (l := l) (by omega)
    have hcall : ∀ W, Calls Tryz.prog 81 #[str l, .int .i64 0, .int .i64 0] W (SReadPost W (Tm.mread l 1501 0)) := fun W => s_read l hl 1501 0 0 0 W rfl (Nat.zero_le _) (by omega) (by omega)
    cases hq : Tm.mread l 1501 0 with
    | none =>
      have H := Lib.hid (show Tm.parse l = none by rw [hp, hq])
      have hpl : place none = -1 := rfl
      rw [hq] at hcall
      have hne : ((-1 : Int) == (l.length : Int)) = false := by rw [beq_eq_false_iff_ne]; omega
      clear hp hq
      go_enter Tryz.func53, Tryz.ntmps53
      go_wp2_with fail
      refine (hcall _).mono ?_
      rintro e w1 ⟨s1, ao1, n1, c1, rfl, hb1, ht1⟩
      clear ht1 hcall
      obtain ⟨r0, r1, f0, f1, hz⟩ := box2 hb1
      go_wp2_with fail
      go_region
      go_wp2_with fail
      exact bodyPost_ret (v := .tuple #[.agg #[str s1, .slice ao1 n1 c1], .bool false]) (by simp [results, Tryz.results53, go_sem, r0, r1, hz]) rfl
        ⟨s1, ao1, n1, c1, by rw [H.out]; rfl, After.drew (After.alloc (After.set2 hb1) _), fun t he => by rw [H.out] at he; simp at he⟩
    | some p =>
      obtain ⟨t, j⟩ := p
      obtain ⟨zt, hj⟩ := reads_size (Tm.mread_sound hq)
      have hgd := (Tm.mread_sound hq).2.2.2.1
      have hpl : place (some (t, j)) = (j : Int) := rfl
      rw [hq] at hcall hp
      simp only at hp
      by_cases hjl : j = l.length
      · subst hjl
        by_cases h3 : t.size ≤ 3000
        · have H := Lib.hid (show Tm.parse l = some t by rw [hp]; simp [h3])
          have h3' : (t.size : Int) ≤ 3000 := by omega
          clear hp hq
          go_enter Tryz.func53, Tryz.ntmps53
          go_wp2_with fail
          refine (hcall _).mono ?_
          rintro e w1 ⟨s1, ao1, n1, c1, rfl, hb1, ht1⟩
          have hst := Lib.hid (ht1 t _ rfl)
          clear ht1 hcall
          obtain ⟨r0, r1, f0, f1, hz⟩ := box2 hb1
          have hal := After.new w1 (.cells #[str s1, .slice ao1 n1 c1] 55)
          go_wp2_with fail
          go_region_with (go_at_call 55; refine ((ST.later hal.drew hst.out).size hgd (by omega)).mono ?_; rintro e w2 ⟨rfl, hb2⟩; have hb3 := (hb1.trans hal.drew).trans hb2; obtain ⟨p0, p1, p2, p3, p4⟩ := box2 hb3; obtain ⟨q0, q1, q2, q3, q4⟩ := box2 ((After.refl (w1.alloc (.cells #[str s1, .slice ao1 n1 c1] 55))).drew.trans hb2); have hne : w1.heap.size ≠ w.heap.size := by omega)
          all_goals
            go_wp2_with fail
            exact bodyPost_ret (v := .tuple #[.agg #[str s1, .slice ao1 n1 c1], .bool true]) (by simp [results, Tryz.results53, go_sem, p0, p1]) rfl
              ⟨s1, ao1, n1, c1, by rw [H.out]; rfl, After.set2 hb3, fun t' he => by rw [H.out] at he; obtain rfl := Option.some.inj he; exact (ST.later (hal.drew.trans hb2) hst.out).sets (i := 0) (j := 1) hb3⟩
        · have H := Lib.hid (show Tm.parse l = none by rw [hp]; simp [h3])
          have h3' : (3000 : Int) < (t.size : Int) := by omega
          clear hp hq
          go_enter Tryz.func53, Tryz.ntmps53
          go_wp2_with fail
          refine (hcall _).mono ?_
          rintro e w1 ⟨s1, ao1, n1, c1, rfl, hb1, ht1⟩
          have hst := Lib.hid (ht1 t _ rfl)
          clear ht1 hcall
          obtain ⟨r0, r1, f0, f1, hz⟩ := box2 hb1
          have hal := After.new w1 (.cells #[str s1, .slice ao1 n1 c1] 55)
          go_wp2_with fail
          go_region_with (go_at_call 55; refine ((ST.later hal.drew hst.out).size hgd (by omega)).mono ?_; rintro e w2 ⟨rfl, hb2⟩; have hb3 := (hb1.trans hal.drew).trans hb2; obtain ⟨p0, p1, p2, p3, p4⟩ := box2 hb3; obtain ⟨q0, q1, q2, q3, q4⟩ := box2 ((After.refl (w1.alloc (.cells #[str s1, .slice ao1 n1 c1] 55))).drew.trans hb2); have hne : w1.heap.size ≠ w.heap.size := by omega)
          all_goals
            go_wp2_with fail
            exact bodyPost_ret (v := .tuple #[.agg #[str s1, .slice ao1 n1 c1], .bool false]) (by simp [results, Tryz.results53, go_sem, p0, p1]; exact h3') rfl
              ⟨s1, ao1, n1, c1, by rw [H.out]; rfl, After.set2 hb3, fun t' he => by rw [H.out] at he; simp at he⟩
      · have H := Lib.hid (show Tm.parse l = none by rw [hp]; simp [hjl])
        have hne : ((j : Int) == (l.length : Int)) = false := by rw [beq_eq_false_iff_ne]; omega
        clear hp hq
        go_enter Tryz.func53, Tryz.ntmps53
        go_wp2_with fail
        refine (hcall _).mono ?_
        rintro e w1 ⟨s1, ao1, n1, c1, rfl, hb1, ht1⟩
        clear ht1 hcall
        obtain ⟨r0, r1, f0, f1, hz⟩ := box2 hb1
        go_wp2_with fail
        go_region
        go_wp2_with fail
        exact bodyPost_ret (v := .tuple #[.agg #[str s1, .slice ao1 n1 c1], .bool false]) (by simp [results, Tryz.results53, go_sem, r0, r1, hz]) rfl
          ⟨s1, ao1, n1, c1, by rw [H.out]; rfl, After.drew (After.alloc (After.set2 hb1) _), fun t he => by rw [H.out] at he; simp at he⟩
end Go.Proofs.YtfjohagdlaiapaaGreat

namespace Go.Proofs.YtfjohagdlaiapaaGreat
open Go.RowKit

set_option maxHeartbeats 400000
set_option maxRecDepth 100000

def ManyPost (w : World) (B n : Nat) (t : Tm) (e : Ending) (w' : World) : Prop :=
  ∃ v', e = .returned (.tuple #[v', .int .i64 ((t.many n).2 : Nat)]) ∧ Below w.heap.size w w' ∧ TV w' B (t.many n).1 v'

/-- After k rounds. -/
def Rounds (w : World) (B n : Nat) (t : Tm) (v i : Value) (wr : World) : Prop :=
  ∃ (k : Nat) (u : Tm), i = .int .i64 k ∧ k ≤ n ∧ TV wr B u v ∧ u.fits = true ∧ Below w.heap.size w wr ∧ Hid (t.many n = ((u.many (n - k)).1, (u.many (n - k)).2 + k))

theorem stepTerms_any (w : World) (B n : Nat) (t : Tm) (v : Value) (h : TV w B t v) (hB : B ≤ w.heap.size) (hz : t.fits = true) (hn : n ≤ 1000000) :
    Calls Tryz.prog 64 #[v, .int .i64 n] w (ManyPost w B n t) := by
  go_enter Tryz.func64, Tryz.ntmps64
  go_wp2_with fail
  go_loopw [0, 10] (fun v i wr => Rounds w B n t v i wr) (fun _ i _ => n - (intOf i).toNat)
  case atStart => exact ⟨0, t, rfl, Nat.zero_le _, h, hz, Below.refl _ _, by simp [Hid]⟩
  case round =>
    obtain ⟨k, u, rfl, hk, hu, hf, hb, hm⟩ := hrel
    have hs := fits_size hf
    have hBr := Nat.le_trans hB hb.size
    by_cases hlt : k < n
    · cases hst : u.stepFit with
      | none =>
        have hsome : u.stepFit.isSome = false := by rw [hst]; rfl
        have hfin : t.many n = (u, k) := by
          rw [hm.out, show n - k = (n - k - 1) + 1 by omega, Tm.many_succ, hst]; simp
        have H := Lib.hid hfin
        clear hst hfin hm
        go_wp2_with (go_at_call 88; refine (stepTerm_any _ B u _ hu hBr (by omega)).mono ?_; rintro e w1 ⟨v1, rfl, hb1, hv1⟩; clear hv1)
        go_ret2
        exact ⟨_, by rw [H.out]; rfl, below_trans hb hb1, by rw [H.out]; exact hu.below hb1⟩
      | some u' =>
        have hsome : u.stepFit.isSome = true := by rw [hst]; rfl
        have hf' := stepFit_fits hst
        have hfin : t.many n = ((u'.many (n - (k + 1))).1, (u'.many (n - (k + 1))).2 + (k + 1)) := by
          rw [hm.out, show n - k = (n - (k + 1)) + 1 by omega, Tm.many_succ, hst]; simp; omega
        have H := Lib.hid hfin
        have H2 := Lib.hid hst
        clear hst hfin hm
        go_wp2_with (go_at_call 88; refine (stepTerm_any _ B u _ hu hBr (by omega)).mono ?_; rintro e w1 ⟨v1, rfl, hb1, hv1⟩; have HV := Lib.hid (hv1 u' H2.out); clear hv1)
        go_roundw
        case rel => exact ⟨k + 1, u', by go_num, by omega, HV.out, hf', below_trans hb hb1, H⟩
        case measure => simp [intOf]; omega
    · have hfin : t.many n = (u, n) := by
        rw [hm.out, show n - k = 0 by omega]; simp [Tm.many]; omega
      have H := Lib.hid hfin
      clear hfin hm
      go_wp2_with fail
      go_ret2
      exact ⟨_, by rw [H.out]; rfl, hb, by rw [H.out]; exact hu⟩

def NormPost (w : World) (B : Nat) (t : Tm) (e : Ending) (w' : World) : Prop :=
  ∃ v', e = .returned (.tuple #[v', .int .i64 ((t.many 6000).2 : Nat), .bool (t.many 6000).1.normal]) ∧ Below w.heap.size w w' ∧ TV w' B (t.many 6000).1 v'

theorem normalTerm_any (w : World) (B : Nat) (t : Tm) (v : Value) (h : TV w B t v) (hB : B ≤ w.heap.size) (hz : t.fits = true) :
    Calls Tryz.prog 35 #[v] w (NormPost w B t) := by
  go_enter Tryz.func35, Tryz.ntmps35
  go_wp2_with fail
  refine (stepTerms_any _ B 6000 t _ h hB hz (by omega)).mono ?_
  rintro e w1 ⟨v1, rfl, hb1, hv1⟩
  obtain ⟨T1, x1, rfl, _, _, _, ⟨f1, y1, m1, n1, c1⟩⟩ := hv1.asks
  have hb0 := Below.refl w1.heap.size w1
  generalize hn : (t.many 6000).2 = n
  generalize hl : (t.many 6000).1 = l at *
  have HN := Lib.hid hn
  have HL := Lib.hid hl
  clear hn hl
  go_wp2_with (go_at_fn f1; refine (c1 _ (by assumption)).mono ?_; rintro e w2 ⟨rfl, hb2⟩)
  go_ret3
  exact ⟨_, by rw [HN.out, HL.out]; rfl, below_trans hb1 hb2, by rw [HL.out]; exact hv1.below hb2⟩
end Go.Proofs.YtfjohagdlaiapaaGreat

namespace Go.Proofs.YtfjohagdlaiapaaGreat
open Go.RowKit

set_option maxHeartbeats 400000
set_option maxRecDepth 100000

def BothPost (w : World) (B : Nat) (l m : List UInt8) (e : Ending) (w' : World) : Prop :=
  ∃ v1 v2, e = .returned (.tuple #[v1, v2, .bool ((Tm.parse l).isSome && (Tm.parse m).isSome)]) ∧ Below w.heap.size w w' ∧ ∀ t u, Tm.parse l = some t → Tm.parse m = some u → TV w' B t v1 ∧ TV w' B u v2

end Go.Proofs.YtfjohagdlaiapaaGreat

namespace Go.Proofs.YtfjohagdlaiapaaGreat
open Go.RowKit

set_option maxHeartbeats 400000
set_option maxRecDepth 100000

theorem normal_none (t : Tm) : t.normal = t.step.isNone := by
  rw [Bool.eq_iff_iff, normal_step, Option.isNone_iff_eq_none]

theorem norm_eq (t : Tm) : t.norm = if (t.many 6000).1.normal = true then some (t.many 6000) else none := by
  unfold Tm.norm
  simp only [normal_step]

/-- A text and a number handed back, or nothing. -/
def NumRes (w : World) (r : Option (List UInt8 × Nat)) (e : Ending) (w' : World) : Prop :=
  e = .returned (.tuple #[str ((r.map Prod.fst).getD []), .int .i64 (((r.map Prod.snd).getD 0 : Nat) : Int), .bool r.isSome]) ∧ Below w.heap.size w w'

theorem impl_normal (w : World) (l : List UInt8) (hl : l.length ≤ 1000000000) :
    Calls Tryz.prog 14 #[str l] w fun e w' => e = .returned (.bool (Tm.pNormal l)) ∧ Below w.heap.size w w' := by
  have hread := readTerm_any w _ l (Nat.le_refl _) hl
  unfold Tm.pNormal
  unfold ParsePost at hread
  cases hp : Tm.parse l with
  | none =>
    rw [hp] at hread
    go_enter Tryz.func14, Tryz.ntmps14
    go_wp2_with (go_at_call 34; refine hread.mono ?_; rintro e w1 ⟨v1, rfl, hb1, hv1⟩; clear hv1)
    go_ret
    exact ⟨rfl, hb1⟩
  | some t =>
    rw [hp] at hread
    clear hp
    simp only [← normal_none]
    go_enter Tryz.func14, Tryz.ntmps14
    go_wp2_with fail
    refine hread.mono ?_
    rintro e w1 ⟨v1, rfl, hb1, hv1⟩
    obtain ⟨T1, x1, rfl, _, _, _, ⟨f1, y1, m1, n1, c1⟩⟩ := (hv1 t rfl).asks
    have hb0 := Below.refl w1.heap.size w1
    clear hv1 hread
    go_wp2_with (go_at_fn f1; refine (c1 _ hb0).mono ?_; rintro e w2 ⟨rfl, hb2⟩)
    go_ret
    exact ⟨rfl, below_trans hb1 hb2⟩

theorem impl_norm (w : World) (l : List UInt8) (hl : l.length ≤ 1000000000) :
    Calls Tryz.prog 13 #[str l] w (NumRes w (Tm.pNorm l)) := by
  have hread := readTerm_any w _ l (Nat.le_refl _) hl
  unfold Tm.pNorm
  unfold ParsePost at hread
  cases hp : Tm.parse l with
  | none =>
    rw [hp] at hread
    go_enter Tryz.func13, Tryz.ntmps13
    go_wp2_with (go_at_call 34; refine hread.mono ?_; rintro e w1 ⟨v1, rfl, hb1, hv1⟩; clear hv1)
    go_ret3
    exact ⟨rfl, hb1⟩
  | some t =>
    obtain ⟨hg, hf, hs, _, _⟩ := Tm.parse_facts hp
    rw [hp] at hread
    clear hp
    obtain ⟨hgm, hfm⟩ := Tm.many_good 6000 t hg hf
    have htm := Tm.text_le _ hgm
    have hsm := fits_size hfm
    have hnorm := fun W v h hB => normalTerm_any W w.heap.size t v h hB hf
    unfold NormPost at hnorm
    have hne := norm_eq t
    generalize hm : t.many 6000 = m at *
    clear hm
    obtain ⟨u, c⟩ := m
    simp only at hne hnorm hgm hfm htm hsm
    generalize hb : u.normal = b at *
    simp only [hne]
    clear hne hb
    cases b
    all_goals
      go_enter Tryz.func13, Tryz.ntmps13
      go_wp2_with fail
      refine hread.mono ?_
      rintro e w1 ⟨v1, rfl, hb1, hv1⟩
      have hcall := hnorm w1 v1 (hv1 t rfl) hb1.size
      clear hv1 hread hnorm
      go_wp2_with (first
        | (go_at_call 35; refine hcall.mono ?_; rintro e w2 ⟨v2, rfl, hb2, hv2⟩; have HV := Lib.hid hv2; clear hv2)
        | (go_at_call 28; refine (textOf_any _ _ u _ HV.out hgm (by omega)).mono ?_; rintro e w3 ⟨rfl, hb3⟩))
      go_ret3
      first
        | exact ⟨rfl, below_trans (below_trans hb1 hb2) hb3⟩
        | exact ⟨rfl, below_trans hb1 hb2⟩
end Go.Proofs.YtfjohagdlaiapaaGreat

namespace Go.Proofs.YtfjohagdlaiapaaGreat
open Go.RowKit

set_option maxHeartbeats 1000000
set_option maxRecDepth 100000

end Go.Proofs.YtfjohagdlaiapaaGreat

namespace Go.Proofs.YtfjohagdlaiapaaGreat

namespace Tm
def U : Tm := .nm [117]
def VV : Tm := .nm [118]
def kC : Tm := abs [120] (abs [121] (abs [122] X))
def sC : Tm := abs [120] (abs [121] (abs [122] Y))
def appC (f a : Tm) : Tm := app k (app k (pair f a))
/-- The code of a term; a name stands for any code. -/
def code : Tm → Tm
  | k => kC
  | s => sC
  | nm n => nm n
  | app f a => appC (code f) (code a)
def recC (a b c : Tm) : Tm := app fix (abs [117] (abs [118] (app (app (app VV a) b) (abs [120] (abs [121] c)))))
def runC : Tm := recC k s (app (app U X) (app U Y))
def joinC : Tm := abs [117] (abs [118] (abs [120] (abs [121] (abs [122] (app (app Z U) VV)))))
def quoteC : Tm := recC (code kC) (code sC) (app (app joinC (app (app joinC (code joinC)) (app U X))) (app U Y))

theorem kC_size : kC.size = 4 := by decide +kernel
theorem sC_size : sC.size = 2 := by decide +kernel
theorem code_size_le : ∀ t : Tm, (code t).size + 9 ≤ 13 * t.size
  | k => by rw [code, kC_size]; decide
  | s => by rw [code, sC_size]; decide
  | nm n => by simp [code, size]
  | app f a => by
    have := code_size_le f
    have := code_size_le a
    simp only [code, appC, size, size_pair]
    omega
/-- Codes of closed terms are large. -/
theorem code_size_ge : ∀ t : Tm, (∀ n, t ≠ nm n) → (∀ x ∈ names [] t, False) → 11 * t.size ≤ (code t).size + 9
  | k, _, _ => by rw [code, kC_size]; decide
  | s, _, _ => by rw [code, sC_size]; decide
  | nm n, h, _ => absurd rfl (h n)
  | app f a, _, h => by
    have hn : ∀ x, has x (app f a) = false := fun x => by
      cases hx : has x (app f a) with
      | false => rfl
      | true => exact (h x ((mem_names x (app f a) []).2 (Or.inr hx))).elim
    have hfa : ∀ x, has x f = false ∧ has x a = false := fun x => by have := hn x; simpa [has] using this
    have hf : ∀ x ∈ names [] f, False := fun x hx => by
      rcases (mem_names x f []).1 hx with h' | h'
      · cases h'
      · rw [(hfa x).1] at h'; cases h'
    have ha : ∀ x ∈ names [] a, False := fun x hx => by
      rcases (mem_names x a []).1 hx with h' | h'
      · cases h'
      · rw [(hfa x).2] at h'; cases h'
    have nf : ∀ n, f ≠ nm n := fun n e => by
      subst e
      have := (hfa n).1
      simp [has] at this
    have na : ∀ n, a ≠ nm n := fun n e => by
      subst e
      have := (hfa n).2
      simp [has] at this
    have := code_size_ge f nf hf
    have := code_size_ge a na ha
    simp only [code, appC, size, size_pair]
    omega
theorem code_good : ∀ t : Tm, t.good = true → (code t).good = true
  | k, _ => by decide +kernel
  | s, _ => by decide +kernel
  | nm n, h => h
  | app f a, h => by
    simp only [good, Bool.and_eq_true] at h
    simp only [code, appC, good, good_pair, code_good f h.1, code_good a h.2]
    rfl
/-- A closed term read from a text. -/
def closedOf (l : List UInt8) : Option Tm := match parse l with
  | some t => if (names [] t).isEmpty then some t else none
  | none => none
/-- The code of the closed term of a text, if it is a term. -/
def codeT (l : List UInt8) : Option Tm := match closedOf l with
  | some t => if (code t).fits then some (code t) else none
  | none => none
theorem closed_facts {l : List UInt8} {t : Tm} (h : closedOf l = some t) : parse l = some t ∧ names [] t = [] := by
  unfold closedOf at h
  cases hp : parse l with
  | none => rw [hp] at h; cases h
  | some u =>
    rw [hp] at h
    by_cases hn : (names [] u).isEmpty = true
    · simp only [hn, if_true] at h
      obtain rfl := Option.some.inj h
      exact ⟨rfl, List.isEmpty_iff.1 hn⟩
    · simp only [hn] at h
      cases h
theorem codeT_facts {l : List UInt8} {c : Tm} (h : codeT l = some c) : ∃ t, closedOf l = some t ∧ c = code t ∧ c.fits = true ∧ c.good = true := by
  unfold codeT at h
  cases hp : closedOf l with
  | none => rw [hp] at h; cases h
  | some u =>
    rw [hp] at h
    by_cases hn : (code u).fits = true
    · simp only [hn, if_true] at h
      obtain rfl := Option.some.inj h
      exact ⟨u, rfl, rfl, hn, code_good u (parse_facts (closed_facts hp).1).1⟩
    · simp only [hn] at h
      cases h
/-- What an application comes to, if it is a term. -/
def endOf (t : Tm) : Option Tm := if t.fits then t.norm.map Prod.fst else none
def pCodeOf (l : List UInt8) : Option (List UInt8) := (codeT l).map text
def pCodeRun (l : List UInt8) : Option (List UInt8) := (codeT l).bind fun c => (endOf (app runC c)).map text
def pCodeJoin (l m : List UInt8) : Option (List UInt8) := (codeT l).bind fun c => (codeT m).bind fun d => (endOf (app (app joinC c) d)).map text
def pCodeQuote (l : List UInt8) : Option (List UInt8) := (codeT l).bind fun c => (endOf (app runC (code c))).map text
def pFixOf (l : List UInt8) : Option (List UInt8) := (parse l).bind fun t => if (app fix t).fits then some (text (app fix t)) else none
def pFixApply (l m : List UInt8) : Option (List UInt8) := match parse l, parse m with
  | some t, some u => (endOf (app (app fix t) u)).map text
  | _, _ => none
def word (w : List UInt8) : Option Tm :=
  if w = [114, 117, 110] then some runC else if w = [106, 111, 105, 110] then some joinC else if w = [113, 117, 111, 116, 101] then some quoteC else none
def pWord (w : List UInt8) : Option (List UInt8) := (word w).map text
theorem word_good {w : List UInt8} {t : Tm} (h : word w = some t) : t.good = true ∧ t.text.length ≤ 100000 := by
  unfold word at h
  repeat' split at h
  all_goals first | (obtain rfl := Option.some.inj h; exact ⟨by decide +kernel, by decide +kernel⟩) | cases h
theorem endOf_eq (t : Tm) : endOf t = if t.fits = true then (if (t.many 6000).1.normal = true then some (t.many 6000).1 else none) else none := by
  unfold endOf
  rw [norm_eq]
  split
  · split <;> rfl
  · rfl
theorem endOf_facts {t u : Tm} (h : endOf t = some u) (hg : t.good = true) : u.good = true ∧ u.fits = true := by
  rw [endOf_eq] at h
  split at h
  · rename_i hf
    split at h
    · obtain rfl := Option.some.inj h
      exact many_good 6000 _ hg hf
    · cases h
  · cases h
end Tm
end Go.Proofs.YtfjohagdlaiapaaGreat

namespace Go.Proofs.YtfjohagdlaiapaaGreat
open Go.RowKit

set_option maxHeartbeats 1000000
set_option maxRecDepth 100000

theorem closed_if {l : List UInt8} {t : Tm} (hp : Tm.parse l = some t) : Tm.closedOf l = if (t.names []).length = 0 then some t else none := by
  unfold Tm.closedOf
  rw [hp]
  by_cases h0 : t.names [] = []
  · simp [h0]
  · have : ¬ (t.names []).length = 0 := fun e => h0 (List.length_eq_zero_iff.1 e)
    have h0' : (t.names []).isEmpty = false := by simpa using h0
    simp [h0', this]

theorem readClosed_any (w : World) (B : Nat) (l : List UInt8) (hB : B ≤ w.heap.size) (hl : l.length ≤ 1000000000) :
    Calls Tryz.prog 47 #[str l] w (DataPost w B (Tm.closedOf l)) := by
  have hread := readTerm_any w B l hB hl
  unfold ParsePost at hread
  cases hp : Tm.parse l with
  | none =>
    have hfin : Tm.closedOf l = none := by simp [Tm.closedOf, hp]
    rw [hp] at hread
    rw [hfin]
    clear hp hfin
    go_enter Tryz.func47, Tryz.ntmps47
    go_wp2_with (go_at_call 34; refine hread.mono ?_; rintro e w1 ⟨v1, rfl, hb1, hv1⟩; clear hv1)
    go_ret2
    exact ⟨_, rfl, hb1, fun t h => by cases h⟩
  | some t =>
    obtain ⟨hg, hf, hs, _, _⟩ := Tm.parse_facts hp
    rw [closed_if hp]
    rw [hp] at hread
    obtain ⟨k, hk⟩ : ∃ k, k = (t.names []).length := ⟨_, rfl⟩
    rw [← hk]
    have HK := Lib.hid hk
    clear hp hk
    by_cases hk0 : k = 0
    · subst hk0
      simp only [if_true]
      go_enter Tryz.func47, Tryz.ntmps47
      go_wp2_with fail
      refine hread.mono ?_
      rintro e w1 ⟨v1, rfl, hb1, hv1⟩
      have ht1 := hv1 t rfl
      have hn := namesOf_any w1 _ t v1 ht1 hg (by omega)
      have HT1 := Lib.hid ht1
      clear hv1 hread ht1
      go_wp2_with (go_at_call 77; refine hn.mono ?_; rintro e w2 ⟨sv, rfl, hb2, ho2⟩; rw [← HK.out] at ho2; obtain ⟨ao, ac, rfl⟩ := own_slice_len ho2; clear ho2)
      go_ret2
      exact ⟨_, rfl, below_trans hb1 hb2, fun t' h => by obtain rfl := Option.some.inj h; exact HT1.out.below hb2⟩
    · have hk1 : 0 < (k : Int) := by omega
      rw [if_neg hk0]
      go_enter Tryz.func47, Tryz.ntmps47
      go_wp2_with fail
      refine hread.mono ?_
      rintro e w1 ⟨v1, rfl, hb1, hv1⟩
      have hn := namesOf_any w1 _ t v1 (hv1 t rfl) hg (by omega)
      clear hv1 hread
      go_wp2_with (go_at_call 77; refine hn.mono ?_; rintro e w2 ⟨sv, rfl, hb2, ho2⟩; rw [← HK.out] at ho2; obtain ⟨ao, ac, rfl⟩ := own_slice_len ho2; clear ho2)
      go_ret2
      exact ⟨_, rfl, below_trans hb1 hb2, fun t h => by cases h⟩
end Go.Proofs.YtfjohagdlaiapaaGreat

namespace Go.Proofs.YtfjohagdlaiapaaGreat
open Go.RowKit

set_option maxHeartbeats 1000000
set_option maxRecDepth 100000

theorem closedOf_isSome (l : List UInt8) : (Tm.closedOf l).isSome = Tm.pClosed l := by
  unfold Tm.pClosed
  cases hp : Tm.parse l with
  | none => simp [Tm.closedOf, hp]
  | some t =>
    rw [closed_if hp]
    by_cases h0 : (t.names []).length = 0
    · rw [if_pos h0]; simp [List.length_eq_zero_iff.1 h0]
    · rw [if_neg h0]
      have : t.names [] ≠ [] := fun e => h0 (by rw [e]; rfl)
      simp [this]

end Go.Proofs.YtfjohagdlaiapaaGreat

namespace Go.Proofs.YtfjohagdlaiapaaGreat
open Go.RowKit

set_option maxHeartbeats 400000
set_option maxRecDepth 100000

/-- A list of names handed back, or nothing. -/
def NamesRes (w : World) (r : Option (List (List UInt8))) (e : Ending) (w' : World) : Prop :=
  ∃ sv, e = .returned (.tuple #[sv, .bool r.isSome]) ∧ Below w.heap.size w w' ∧ w'.ownsRow w.heap.size 9 1 sv (r.getD []).length ((r.getD []).map str)

/-- A text handed back, or nothing. -/
def TextRes (w : World) (r : Option (List UInt8)) (e : Ending) (w' : World) : Prop :=
  e = .returned (.tuple #[str (r.getD []), .bool r.isSome]) ∧ Below w.heap.size w w'

end Go.Proofs.YtfjohagdlaiapaaGreat

namespace Go.Proofs.YtfjohagdlaiapaaGreat
open Go.RowKit

set_option maxHeartbeats 1000000
set_option maxRecDepth 100000

def SNamesRes (w : World) (r : Option (List (List UInt8))) (e : Ending) (w' : World) : Prop :=
  ∃ sv, e = .returned (.tuple #[sv, .bool r.isSome]) ∧ After w w' ∧ w'.ownsRow w.heap.size 9 1 sv (r.getD []).length ((r.getD []).map str)

theorem own_empty (w : World) : (w.alloc (.cells #[] 9)).ownsRow w.heap.size 9 1 (.slice (some ⟨w.heap.size, 0, none⟩) 0 0) ([] : List (List UInt8)).length (([] : List (List UInt8)).map str) := by
  have := World.ownsRow_lit (base := w.heap.size) (e := 9) (size := 1) w #[] 0 (Nat.le_refl _) (by simp) (by simp)
  simpa using this

/-- The call of l1Names behind the reader. -/
theorem names_call (w1 : World) (t : Tm) (s1 : List UInt8) (ao1 : Option Addr) (n1 c1 : Nat) (h : ST w1 t (.agg #[str s1, .slice ao1 n1 c1])) (hg : t.good = true) (hs : t.size ≤ 3000) :
    Calls Tryz.prog 54 #[.agg #[str s1, .slice ao1 n1 c1], .slice (some ⟨w1.heap.size + 1, 0, none⟩) 0 0] ((w1.alloc (.cells #[str s1, .slice ao1 n1 c1] 55)).alloc (.cells #[] 9)) fun e w' =>
      ∃ sv, e = .returned sv ∧ After w1 w' ∧ w'.ownsRow w1.heap.size 9 1 sv (t.names []).length ((t.names []).map str) := by
  have hX := After.new w1 (.cells #[str s1, .slice ao1 n1 c1] 55)
  have hsz : (w1.alloc (.cells #[str s1, .slice ao1 n1 c1] 55)).heap.size = w1.heap.size + 1 := by simp
  have hown := own_empty (w1.alloc (.cells #[str s1, .slice ao1 n1 c1] 55))
  have hnames := ST.names (h.later hX) hg _ (After.new _ (.cells #[] 9)) _ [] hown (by simp; omega)
  rw [hsz] at hnames
  refine hnames.mono ?_
  rintro e w2 ⟨sv, he, ho, hgr, hor⟩
  refine ⟨sv, he, ?_, ownsRow_base ho (by omega)⟩
  exact (hX.alloc (.cells #[] 9)).grown hgr (by simp; omega) (fun k hk => by simp [Value.ownBlock] at hk; omega)

end Go.Proofs.YtfjohagdlaiapaaGreat
