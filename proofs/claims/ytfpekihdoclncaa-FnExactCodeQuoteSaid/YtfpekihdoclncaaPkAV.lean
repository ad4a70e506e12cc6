/-
  The names of a term in memory: nameList.add, the method listNames, namesOf; and nameValid.
-/
import Derived.Test.YtfpekihdoclncaaPkAU
import Derived.Maps.OwnSet
import Derived.Test.YtfpekihdoclncaaPkAT
import Derived.Test.YtfpekihdoclncaaPkAG
namespace Go.Proofs.Ytfpekihdoclncaa
open Go.RowKit Go.WideMaps Go.Maps

set_option maxHeartbeats 400000
set_option maxRecDepth 100000

theorem law_key : Keyed Try.prog 9 := string_keyed Try.underlying9
theorem zero_bool (w : World) : (zeroValue 4).run Try.prog w = .ok (.bool false) w := by kernel_rfl
theorem info_string : (Try.prog.info? 9).map (fun i => (i.zero, i.size, i.bytes)) = some (some (.string ⟨#[]⟩), 1, 16) := by kernel_rfl

/-- The list lies in the blocks from mb on: the map, the list's own block, the row of names. -/
def NL (w : World) (mb : Nat) (ns : List (List UInt8)) : Prop :=
  ∃ sv, w.heap[mb + 1]? = some (.cells #[sv, .map (some mb)] 136 (0, 0)) ∧ w.ownsRow (mb + 2) 9 1 sv ns.length (ns.map str) ∧
    ∃ D : DataW Unit, w.ownsMap Try.prog 9 (plainElem Try.prog 4) mb ns.length D ∧ ∀ x, D.atKey (.string x) (.lit (.bool false)) = .lit (.bool (decide (x ∈ ns)))

theorem NL.lt {w : World} {mb : Nat} {ns : List (List UInt8)} (h : NL w mb ns) : mb + 2 ≤ w.heap.size := by
  obtain ⟨sv, h, _⟩ := h
  exact (Array.getElem?_eq_some_iff.1 h).1

theorem key_str (n : List UInt8) (h : n.length ≤ maxLen) : keyOf Try.prog 9 (str n) = some (.string n) := by
  have := keyOf_string_mk Try.underlying9 (s := ⟨n.toArray⟩) (by show n.toArray.size ≤ _; simpa using h)
  simpa using this

theorem look_run {w : World} {mb k : Nat} {D : DataW Unit} {ns : List (List UInt8)} (ho : w.ownsMap Try.prog 9 (plainElem Try.prog 4) mb k D) (hD : ∀ x, D.atKey (.string x) (.lit (.bool false)) = .lit (.bool (decide (x ∈ ns)))) (n : List UInt8) (h : n.length ≤ maxLen) :
    (Instr.lookup 134 (.map (some mb)) (str n) false).run Try.prog w = .ok (.bool (decide (n ∈ ns))) w := by
  obtain ⟨v, ps, hrun, hv⟩ := ho.lookup law_key Try.underlying134 (zero_bool w) (plainElem_bool Try.underlying4 false) (key_str n h)
  rw [hD] at hv
  unfold plainElem at hv
  rw [Try.underlying4] at hv
  cases v <;> simp at hv
  obtain ⟨rfl, _⟩ := hv
  exact hrun

theorem add_old (w : World) (mb : Nat) (ns : List (List UInt8)) (n : List UInt8) (h : NL w mb ns) (hn : n ∈ ns) (hl : n.length ≤ maxLen) :
    Calls Try.prog 148 #[.pointer (some ⟨mb + 1, 0, none⟩), str n] w fun e w' => e = .returned (.tuple #[]) ∧ w = w' := by
  obtain ⟨sv, h0, hr, D, hm, hD⟩ := h
  have c1 : w.cell? ⟨mb + 1, 1, none⟩ = some (.map (some mb)) := cell_of_heap h0
  have hrun := look_run hm hD n hl
  rw [show decide (n ∈ ns) = true by simpa using hn] at hrun
  clear hD hm hr hn
  go_enter Try.func148, Try.ntmps148
  go_wp2_with fail
  go_end0
  exact ⟨rfl, rfl⟩

theorem list_kept {w1 w2 : World} {mb : Nat} {sv : Value} {k : Nat} {xs : List Value} {o : Obj} (h : w1.heap[mb + 1]? = some (.cells #[sv, .map (some mb)] 136 (0, 0))) (hr : w1.ownsRow (mb + 2) 9 1 sv k xs) (hg : (w1.alloc o).grownBy w2 sv.ownBlock) :
    w2.heap[mb + 1]? = some (.cells #[sv, .map (some mb)] 136 (0, 0)) := by
  have hlt := (Array.getElem?_eq_some_iff.1 h).1
  rw [hg.block _ (by simp; omega) (fun e => by have := (hr.lt _ e.symm).1; omega), Below.heap_alloc _ _ _ hlt]
  exact h

theorem list_free {w : World} {mb : Nat} {cs : Array Value} {T : TypeId} (h : w.heap[mb + 1]? = some (.cells cs T (0, 0))) : w.frozen? ⟨mb + 1, 0, none⟩ = false := by
  simp [World.frozen?, h]

theorem own_slice {w : World} {base n size : Nat} {T : TypeId} {v : Value} {xs : List Value} (h : w.ownsRow base T size v n xs) : ∃ ao an ac, v = .slice ao an ac := by
  rcases h.2 with ⟨rfl, _⟩ | ⟨g, cap, cur, rfl, _⟩
  · exact ⟨_, _, _, rfl⟩
  · exact ⟨_, _, _, rfl⟩

theorem own_slice_len {w : World} {base n size : Nat} {T : TypeId} {v : Value} {xs : List Value} (h : w.ownsRow base T size v n xs) : ∃ ao ac, v = .slice ao n ac := by
  rcases h.2 with ⟨rfl, rfl⟩ | ⟨g, cap, cur, rfl, _⟩
  · exact ⟨_, _, rfl⟩
  · exact ⟨_, _, rfl⟩

theorem add_new (w : World) (mb : Nat) (ns : List (List UInt8)) (n : List UInt8) (h : NL w mb ns) (hn : n ∉ ns) (hl : n.length ≤ maxLen) (hk : ns.length ≤ 1000000) :
    Calls Try.prog 148 #[.pointer (some ⟨mb + 1, 0, none⟩), str n] w fun e w' => e = .returned (.tuple #[]) ∧ NL w' mb (ns ++ [n]) ∧ Below mb w w' := by
  obtain ⟨sv, h0, hr, D, hm, hD⟩ := h
  have c1 : w.cell? ⟨mb + 1, 1, none⟩ = some (.map (some mb)) := cell_of_heap h0
  have c0 : w.cell? ⟨mb + 1, 0, none⟩ = some sv := cell_of_heap h0
  have hrun := look_run hm hD n hl
  rw [show decide (n ∈ ns) = false by simpa using hn] at hrun
  obtain ⟨i0, hi, hz0, hz1, hz2⟩ := info_parts info_string
  have hun := Try.underlying65
  have hkey := key_str n hl
  have hmax : ns.length < maxLen := by unfold maxLen; omega
  have HMI := hm.isMap
  have HD := Lib.hid hD
  have H0 := Lib.hid h0
  have hlt0 := (Array.getElem?_eq_some_iff.1 h0).1
  clear hD h0
  go_enter Try.func148, Try.ntmps148
  go_wp2_with (at_mapUpdate; refine wpList_mapUpdate_own _ rfl _ _ _ 134 rfl 9 4 law_key Try.underlying134 _ mb _ _ rfl hm hmax _ _ _ rfl rfl hkey _ [] (plainElem_bool Try.underlying4 true) ?_)
  intro w1 hm1 hg1
  have h1 : w1.heap[mb + 1]? = some (.cells #[sv, .map (some mb)] 136 (0, 0)) := by
    rw [hg1.block _ (Array.getElem?_eq_some_iff.1 H0.out).1 (fun e => by injection e with e; omega)]; exact H0.out
  have d0 : w1.cell? ⟨mb + 1, 0, none⟩ = some sv := cell_of_heap h1
  have H1 := Lib.hid h1
  have hr1 := hr.kept hg1 (by
    cases hv : sv.ownBlock with
    | none => exact Or.inl rfl
    | some k => right; intro e; injection e with e; have := (hr.lt k hv).1; omega)
  have hsz : mb + 2 ≤ (w1.alloc (.cells #[str n] 9)).heap.size := by
    have := (Array.getElem?_eq_some_iff.1 h1).1
    simp; omega
  have hone : ∀ u ∈ [str n], u.oneCell' = true := by simp [Value.oneCell']
  have hm16 : (ns.length + 1) * 16 ≤ 140737488355328 := by omega
  have HR := Lib.hid hr1
  have HM := Lib.hid hm1
  have HG := Lib.hid hg1
  clear h1 hrun c0 c1 hr hr1 hm hm1 hg1
  go_wp2_with (at_builtin; refine wpList_append_own _ rfl _ _ 65 rfl (mb + 2) 9 i0 (.string ⟨#[]⟩) 1 16 hun hi hz0 hz1 hz2 rfl (by decide) _ _ _ rfl (World.ownsRow.alloc HR.out _) ⟨w1.heap.size, 0, none⟩ 1 1 [str n] rfl rfl (cell_one_new _ _ _) hone hmax hm16 hsz ?_; intro v2 w2 ho2 hg2 hiff; clear hiff; obtain ⟨ao, an, ac, rfl⟩ := own_slice ho2; have H2 := Lib.hid (list_kept H1.out HR.out hg2); have f0 := list_free H2.out; have e0 : w2.cell? ⟨mb + 1, 0, none⟩ = some sv := cell_of_heap H2.out; have HG2 : Hid ((w1.alloc (.cells #[str n] 9)).grownBy w2 sv.ownBlock) := Lib.hid hg2; have HO2 : Hid (w2.ownsRow (mb + 2) 9 1 (.slice ao an ac) (ns.length + 1) (ns.map str ++ [str n])) := Lib.hid ho2; clear hg2 ho2)
  go_end0
  have hs1 := HG.out.size
  refine ⟨rfl, ⟨.slice ao an ac, ?_, ?_, D.put (.string n) (.lit (.bool true)), ?_, ?_⟩, ?_⟩
  · simp [World.setCell, Array.getElem?_modify, H2.out]
  · have := ownsRow_setCell_below HO2.out (a := ⟨mb + 1, 0, none⟩) (by simp) (.slice ao an ac)
    simpa using this
  · have h1 := (HM.out.alloc (.cells #[str n] 9)).kept HG2.out (by
      cases hv : sv.ownBlock with
      | none => simp
      | some k => intro e; injection e with e; have := (HR.out.lt k hv).1; omega)
    have := h1.setCell (a := ⟨mb + 1, 0, none⟩) (by simp) (.slice ao an ac)
    simpa using this
  · intro x
    by_cases hx : x = n
    · subst hx
      rw [atKey_put_same HMI (by trivial)]
      simp
    · rw [atKey_put_other (by intro e; injection e with e; exact hx e), HD.out]
      simp [hx]
  · exact ((((Below.refl mb w).grown HG.out (by omega) (fun k hk => by injection hk with hk; omega)).alloc (by omega) _).grown HG2.out (by omega) (fun k hk => by have := (HR.out.lt k hk).1; omega)).setCell (by simp) _

/-! ### listNames -/

def ListPost (mb : Nat) (w : World) (ns : List (List UInt8)) (e : Ending) (w' : World) : Prop := e = .returned (.tuple #[]) ∧ NL w' mb ns ∧ Below mb w w'

/-- The method listNames of v, a term in blocks below mb. -/
def ListOk (w : World) (mb : Nat) (v : Value) (t : Tm) : Prop :=
  ∃ T x f y, v = .iface T x ∧ (∀ W, Below mb w W → (method 271 T x "loop.example/realizers/impl.listNames").run Try.prog W = .ok (f, y) W) ∧ (∀ args w', (callFunc f args).run Try.prog w' = .ok (.enter f args) w') ∧
    ∀ W, Below mb w W → ∀ ns, NL W mb ns → ns.length + t.size ≤ 1000000 → Calls Try.prog f #[y, .pointer (some ⟨mb + 1, 0, none⟩)] W (ListPost mb W (t.names ns))

theorem leaf_list (w : World) (v : Value) : Calls Try.prog 124 #[.agg #[], v] w fun e w' => e = .returned (.tuple #[]) ∧ w' = w.alloc (.cells #[] 74) := by
  go_enter Try.func124, Try.ntmps124
  go_wp2_with fail
  go_end0
  exact ⟨rfl, rfl⟩

theorem NL.alloc {w : World} {mb : Nat} {ns : List (List UInt8)} (h : NL w mb ns) (o : Obj) : NL (w.alloc o) mb ns := by
  obtain ⟨sv, h0, hr, D, hm, hD⟩ := h
  exact ⟨sv, by rw [Below.heap_alloc _ _ _ (Array.getElem?_eq_some_iff.1 h0).1]; exact h0, hr.alloc _, D, hm.alloc _, hD⟩

theorem n_list (W : World) (b mb : Nat) (n : List UInt8) (ns : List (List UInt8)) (hc : W.cell? ⟨b, 0, none⟩ = some (str n)) (h : NL W mb ns) (hl : n.length ≤ maxLen) (hk : ns.length ≤ 1000000) :
    Calls Try.prog 145 #[.pointer (some ⟨b, 0, none⟩), .pointer (some ⟨mb + 1, 0, none⟩)] W (ListPost mb W ((Tm.nm n).names ns)) := by
  by_cases hn : n ∈ ns
  · have hf : (Tm.nm n).names ns = ns := by simp [Tm.names, hn]
    rw [hf]
    have hadd := add_old W mb ns n h hn hl
    have HN := Lib.hid h
    clear hf hn h
    go_enter Try.func145, Try.ntmps145
    go_wp2_with (go_at_call 148; refine hadd.mono ?_; rintro e w' ⟨rfl, rfl⟩)
    go_end0
    exact ⟨rfl, HN.out, Below.refl _ _⟩
  · have hf : (Tm.nm n).names ns = ns ++ [n] := by simp [Tm.names, hn]
    rw [hf]
    have hadd := add_new W mb ns n h hn hl hk
    clear hf hn h
    go_enter Try.func145, Try.ntmps145
    go_wp2_with (go_at_call 148; refine hadd.mono ?_; rintro e w' ⟨rfl, h1, h2⟩; have H1 := Lib.hid h1; clear h1)
    go_end0
    exact ⟨rfl, H1.out, h2⟩

theorem cell_mb {w : World} {mb b i : Nat} {v : Value} (h : w.cell? ⟨b, i, none⟩ = some v) (hb : b < mb) : ∀ W, Below mb w W → W.cell? ⟨b, i, none⟩ = some v := fun W hW => by rw [hW.cell (p := ⟨b, i, none⟩) hb]; exact h

theorem a_list (w W : World) (b mb : Nat) (T1 T2 : TypeId) (x1 x2 : Value) (f a : Tm) (ns : List (List UInt8)) (hW : Below mb w W)
    (h0 : ∀ W, Below mb w W → W.cell? ⟨b, 0, none⟩ = some (.iface T1 x1)) (h1 : ∀ W, Below mb w W → W.cell? ⟨b, 1, none⟩ = some (.iface T2 x2))
    (hf : ListOk w mb (.iface T1 x1) f) (ha : ListOk w mb (.iface T2 x2) a) (h : NL W mb ns) (hl : ns.length + (f.app a).size ≤ 1000000) :
    Calls Try.prog 137 #[.pointer (some ⟨b, 0, none⟩), .pointer (some ⟨mb + 1, 0, none⟩)] W (ListPost mb W ((f.app a).names ns)) := by
  obtain ⟨_, _, g4, z4, e0, k4, l4, d4⟩ := hf
  injection e0 with e1 e2
  subst e1; subst e2
  obtain ⟨_, _, g5, z5, e0, k5, l5, d5⟩ := ha
  injection e0 with e1 e2
  subst e1; subst e2
  have hnl := Tm.names_len f ns
  simp only [Tm.size] at hl
  have HN := Lib.hid h
  clear h
  go_enter Try.func137, Try.ntmps137
  go_wp2_with (first
    | (go_at_fn g4; refine (d4 _ hW _ HN.out (by omega)).mono ?_; rintro e w1 ⟨rfl, hn1, hb1⟩; have H1 := Lib.hid hn1; clear hn1; have hW1 := hW.trans hb1)
    | (go_at_fn g5; refine (d5 _ hW1 _ H1.out (by omega)).mono ?_; rintro e w2 ⟨rfl, hn2, hb2⟩; have H2 := Lib.hid hn2; clear hn2))
  go_end0
  exact ⟨rfl, H2.out, hb1.trans hb2⟩

theorem heap_mb {w W : World} {mb b : Nat} {o : Obj} (h : w.heap[b]? = some o) (hb : b < mb) (hW : Below mb w W) : W.heap[b]? = some o := by rw [hW.block b hb]; exact h

theorem TV.listOk {w : World} {B mb : Nat} (hmb : ∀ (b : Nat) (o : Obj), w.heap[b]? = some o → b < mb) : ∀ {t : Tm} {v : Value}, TV w B t v → t.good = true → ListOk w mb v t
  | .k, _, ⟨b, fr, hv, _, h⟩, _ => ⟨_, _, _, _, hv, fun W hb => (meth_kLetter_listNames b W fr _ (heap_mb h (hmb _ _ h) hb)).1, (meth_kLetter_listNames b w fr _ h).2, fun W hW ns hn _ => (leaf_list W _).mono fun e w' ⟨he, hw⟩ => ⟨he, hw ▸ NL.alloc hn _, hw ▸ (Below.refl mb W).alloc (by have := hn.lt; omega) _⟩⟩
  | .s, _, ⟨b, fr, hv, _, h⟩, _ => ⟨_, _, _, _, hv, fun W hb => (meth_sLetter_listNames b W fr _ (heap_mb h (hmb _ _ h) hb)).1, (meth_sLetter_listNames b w fr _ h).2, fun W hW ns hn _ => (leaf_list W _).mono fun e w' ⟨he, hw⟩ => ⟨he, hw ▸ NL.alloc hn _, hw ▸ (Below.refl mb W).alloc (by have := hn.lt; omega) _⟩⟩
  | .nm n, _, ⟨b, fr, hv, _, h⟩, hg => ⟨_, _, _, _, hv, fun W _ => (meth_nameAtom_listNames _ W).1, (meth_nameAtom_listNames ⟨b, 0, none⟩ w).2, fun W hW ns hn hl => n_list W b mb n ns (cell_of_heap (heap_mb h (hmb _ _ h) hW)) hn (by
      simp only [Tm.good] at hg
      cases n with
      | nil => simp [Tm.nameOk] at hg
      | cons c ds => simp only [Tm.nameOk, Bool.and_eq_true, decide_eq_true_eq] at hg; unfold maxLen; simp; omega) (by omega)⟩
  | .app f a, _, ⟨b, fr, vf, va, hv, _, h, hf, ha⟩, hg => by
    simp only [Tm.good, Bool.and_eq_true] at hg
    have sf := TV.listOk hmb hf hg.1
    have sa := TV.listOk hmb ha hg.2
    obtain ⟨T1, x1, rfl, _⟩ := hf.asks
    obtain ⟨T2, x2, rfl, _⟩ := ha.asks
    exact ⟨_, _, _, _, hv, fun W _ => (meth_application_listNames _ W).1, (meth_application_listNames ⟨b, 0, none⟩ w).2, fun W hW ns hn hl =>
      a_list w W b mb T1 T2 x1 x2 f a ns hW (cell_mb (cell_of_heap (i := 0) h) (hmb _ _ h)) (cell_mb (cell_of_heap (i := 1) h) (hmb _ _ h)) sf sa hn hl⟩

/-! ### namesOf -/

def NamesPost (w : World) (t : Tm) (e : Ending) (w' : World) : Prop :=
  ∃ sv, e = .returned sv ∧ Below w.heap.size w w' ∧ w'.ownsRow w.heap.size 9 1 sv (t.names []).length ((t.names []).map str)

theorem ownsRow_base {w : World} {B B' n size : Nat} {T : TypeId} {v : Value} {xs : List Value} (h : w.ownsRow B T size v n xs) (hB : B' ≤ B) : w.ownsRow B' T size v n xs := by
  obtain ⟨h1, h2⟩ := h
  refine ⟨h1, ?_⟩
  rcases h2 with h2 | ⟨g, cap, cur, hv, hg, r⟩
  · exact Or.inl h2
  · exact Or.inr ⟨g, cap, cur, hv, Nat.le_trans hB hg, r⟩

theorem NL.start (w : World) : NL ((w.alloc (.map #[] 0)).alloc (.cells #[.slice none 0 0, .map (some w.heap.size)] 136)) w.heap.size [] := by
  refine ⟨.slice none 0 0, ?_, World.ownsRow_nil _ _ _ _, .map [], (World.ownsMap_made w _ _ _).alloc _, fun x => by simp [DataW.atKey]⟩
  have := heap_new (w.alloc (.map #[] 0)) (.cells #[.slice none 0 0, .map (some w.heap.size)] 136)
  simpa using this

theorem namesOf_any (w : World) (B : Nat) (t : Tm) (v : Value) (h : TV w B t v) (hg : t.good = true) (hl : t.size ≤ 1000000) :
    Calls Try.prog 78 #[v] w (NamesPost w t) := by
  obtain ⟨T1, x1, f1, y1, rfl, m1, n1, c1⟩ := h.listOk (mb := w.heap.size) (fun b o hb => (Array.getElem?_eq_some_iff.1 hb).1) hg
  have hmm := @run_makeMap Try.prog
  have hst := NL.start w
  have hb1 : Below w.heap.size w ((w.alloc (.map #[] 0)).alloc (.cells #[.slice none 0 0, .map (some w.heap.size)] 136)) := ((Below.refl _ _).alloc (Nat.le_refl _) _).alloc (by simp) _
  have HS := Lib.hid hst
  clear hst
  go_enter Try.func78, Try.ntmps78
  go_wp2_with fail
  refine (c1 _ hb1 _ HS.out (by simpa using hl)).mono ?_
  rintro e w1 ⟨rfl, hn1, hb2⟩
  obtain ⟨sv, h0, hr, _⟩ := hn1
  obtain ⟨ao, an, ac, rfl⟩ := own_slice hr
  have d0 : w1.cell? ⟨w.heap.size + 1, 0, none⟩ = some (.slice ao an ac) := cell_of_heap h0
  have HR := Lib.hid (ownsRow_base hr (B' := w.heap.size) (by omega))
  clear hr h0
  go_wp2_with fail
  go_ret
  exact ⟨_, rfl, hb1.trans hb2, HR.out⟩
end Go.Proofs.Ytfpekihdoclncaa

namespace Go.Proofs.Ytfpekihdoclncaa
open Go.RowKit

set_option maxHeartbeats 1000000
set_option maxRecDepth 100000

theorem closed_if {l : List UInt8} {t : Tm} (hp : Tm.parse l = some t) : Tm.closedOf l = if (t.names []).length = 0 then some t else none := by
  unfold Tm.closedOf
  rw [hp]
  by_cases h0 : t.names [] = []
  · simp [h0]
  · have : ¬ (t.names []).length = 0 := fun e => h0 (List.length_eq_zero_iff.1 e)
    have h0' : (t.names []).isEmpty = false := by simpa using h0
    simp [h0', this]

theorem readClosed_any (w : World) (B : Nat) (l : List UInt8) (hB : B ≤ w.heap.size) (hl : l.length ≤ 1000000000) :
    Calls Try.prog 52 #[str l] w (DataPost w B (Tm.closedOf l)) := by
  have hread := readTerm_any w B l hB hl
  unfold ParsePost at hread
  cases hp : Tm.parse l with
  | none =>
    have hfin : Tm.closedOf l = none := by simp [Tm.closedOf, hp]
    rw [hp] at hread
    rw [hfin]
    clear hp hfin
    go_enter Try.func52, Try.ntmps52
    go_wp2_with (go_at_call 48; refine hread.mono ?_; rintro e w1 ⟨v1, rfl, hb1, hv1⟩; clear hv1)
    go_ret2
    exact ⟨_, rfl, hb1, fun t h => by cases h⟩
  | some t =>
    obtain ⟨hg, hf, hs, _, _⟩ := Tm.parse_facts hp
    rw [closed_if hp]
    rw [hp] at hread
    obtain ⟨k, hk⟩ : ∃ k, k = (t.names []).length := ⟨_, rfl⟩
    rw [← hk]
    have HK := Lib.hid hk
    clear hp hk
    by_cases hk0 : k = 0
    · subst hk0
      simp only [if_true]
      go_enter Try.func52, Try.ntmps52
      go_wp2_with fail
      refine hread.mono ?_
      rintro e w1 ⟨v1, rfl, hb1, hv1⟩
      have ht1 := hv1 t rfl
      have hn := namesOf_any w1 _ t v1 ht1 hg (by omega)
      have HT1 := Lib.hid ht1
      clear hv1 hread ht1
      go_wp2_with (go_at_call 78; refine hn.mono ?_; rintro e w2 ⟨sv, rfl, hb2, ho2⟩; rw [← HK.out] at ho2; obtain ⟨ao, ac, rfl⟩ := own_slice_len ho2; clear ho2)
      go_ret2
      exact ⟨_, rfl, below_trans hb1 hb2, fun t' h => by obtain rfl := Option.some.inj h; exact HT1.out.below hb2⟩
    · have hk1 : 0 < (k : Int) := by omega
      rw [if_neg hk0]
      go_enter Try.func52, Try.ntmps52
      go_wp2_with fail
      refine hread.mono ?_
      rintro e w1 ⟨v1, rfl, hb1, hv1⟩
      have hn := namesOf_any w1 _ t v1 (hv1 t rfl) hg (by omega)
      clear hv1 hread
      go_wp2_with (go_at_call 78; refine hn.mono ?_; rintro e w2 ⟨sv, rfl, hb2, ho2⟩; rw [← HK.out] at ho2; obtain ⟨ao, ac, rfl⟩ := own_slice_len ho2; clear ho2)
      go_ret2
      exact ⟨_, rfl, below_trans hb1 hb2, fun t h => by cases h⟩
end Go.Proofs.Ytfpekihdoclncaa

namespace Go.Proofs.Ytfpekihdoclncaa
open Go.RowKit

set_option maxHeartbeats 1000000
set_option maxRecDepth 100000

theorem closedOf_isSome (l : List UInt8) : (Tm.closedOf l).isSome = Tm.pClosed l := by
  unfold Tm.pClosed
  cases hp : Tm.parse l with
  | none => simp [Tm.closedOf, hp]
  | some t =>
    rw [closed_if hp]
    by_cases h0 : (t.names []).length = 0
    · rw [if_pos h0]; simp [List.length_eq_zero_iff.1 h0]
    · rw [if_neg h0]
      have : t.names [] ≠ [] := fun e => h0 (by rw [e]; rfl)
      simp [this]

theorem impl_closed (w : World) (l : List UInt8) (hl : l.length ≤ 1000000000) :
    Calls Try.prog 25 #[str l] w fun e w' => e = .returned (.bool (Tm.pClosed l)) ∧ Below w.heap.size w w' := by
  have hread := readClosed_any w w.heap.size l (Nat.le_refl _) hl
  unfold DataPost at hread
  rw [closedOf_isSome] at hread
  generalize Tm.pClosed l = b at *
  go_enter Try.func25, Try.ntmps25
  go_wp2_with fail
  refine hread.mono ?_
  rintro e w1 ⟨v1, rfl, hb1, hv1⟩
  clear hv1 hread
  go_wp2_with fail
  go_ret
  exact ⟨rfl, hb1⟩
end Go.Proofs.Ytfpekihdoclncaa
