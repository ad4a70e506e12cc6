/-
  The names of a term in memory: nameList.add, the method listNames, namesOf; and nameValid.
-/
import Derived.Test.YtjomocjlnjgkeaaPkAK
import Derived.Maps.OwnSet
import Derived.Test.YtjomocjlnjgkeaaPkAE
import Derived.Lib.AppendStr
namespace Go.Proofs.Ytjomocjlnjgkeaa
open Go.RowKit Go.WideMaps Go.Maps

set_option maxHeartbeats 400000
set_option maxRecDepth 100000

theorem law_key : Keyed Try.prog 9 := string_keyed Try.underlying9
theorem zero_bool (w : World) : (zeroValue 4).run Try.prog w = .ok (.bool false) w := by kernel_rfl
theorem info_string : (Try.prog.info? 9).map (fun i => (i.zero, i.size, i.bytes)) = some (some (.string ⟨#[]⟩), 1, 16) := by kernel_rfl

/-- The list lies in the blocks from mb on: the map, the list's own block, the row of names. -/
def NL (w : World) (mb : Nat) (ns : List (List UInt8)) : Prop :=
  ∃ sv, w.heap[mb + 1]? = some (.cells #[sv, .map (some mb)] 130 (0, 0)) ∧ w.ownsRow (mb + 2) 9 1 sv ns.length (ns.map str) ∧
    ∃ D : DataW Unit, w.ownsMap Try.prog 9 (plainElem Try.prog 4) mb ns.length D ∧ ∀ x, D.atKey (.string x) (.lit (.bool false)) = .lit (.bool (decide (x ∈ ns)))

theorem NL.lt {w : World} {mb : Nat} {ns : List (List UInt8)} (h : NL w mb ns) : mb + 2 ≤ w.heap.size := by
  obtain ⟨sv, h, _⟩ := h
  exact (Array.getElem?_eq_some_iff.1 h).1

theorem key_str (n : List UInt8) (h : n.length ≤ maxLen) : keyOf Try.prog 9 (str n) = some (.string n) := by
  have := keyOf_string_mk Try.underlying9 (s := ⟨n.toArray⟩) (by show n.toArray.size ≤ _; simpa using h)
  simpa using this

theorem look_run {w : World} {mb k : Nat} {D : DataW Unit} {ns : List (List UInt8)} (ho : w.ownsMap Try.prog 9 (plainElem Try.prog 4) mb k D) (hD : ∀ x, D.atKey (.string x) (.lit (.bool false)) = .lit (.bool (decide (x ∈ ns)))) (n : List UInt8) (h : n.length ≤ maxLen) :
    (Instr.lookup 128 (.map (some mb)) (str n) false).run Try.prog w = .ok (.bool (decide (n ∈ ns))) w := by
  obtain ⟨v, ps, hrun, hv⟩ := ho.lookup law_key Try.underlying128 (zero_bool w) (plainElem_bool Try.underlying4 false) (key_str n h)
  rw [hD] at hv
  unfold plainElem at hv
  rw [Try.underlying4] at hv
  cases v <;> simp at hv
  obtain ⟨rfl, _⟩ := hv
  exact hrun

theorem add_old (w : World) (mb : Nat) (ns : List (List UInt8)) (n : List UInt8) (h : NL w mb ns) (hn : n ∈ ns) (hl : n.length ≤ maxLen) :
    Calls Try.prog 165 #[.pointer (some ⟨mb + 1, 0, none⟩), str n] w fun e w' => e = .returned (.tuple #[]) ∧ w = w' := by
  obtain ⟨sv, h0, hr, D, hm, hD⟩ := h
  have c1 : w.cell? ⟨mb + 1, 1, none⟩ = some (.map (some mb)) := cell_of_heap h0
  have hrun := look_run hm hD n hl
  rw [show decide (n ∈ ns) = true by simpa using hn] at hrun
  clear hD hm hr hn
  go_enter Try.func165, Try.ntmps165
  go_wp2_with fail
  go_end0
  exact ⟨rfl, rfl⟩

theorem list_kept {w1 w2 : World} {mb : Nat} {sv : Value} {k : Nat} {xs : List Value} {o : Obj} (h : w1.heap[mb + 1]? = some (.cells #[sv, .map (some mb)] 130 (0, 0))) (hr : w1.ownsRow (mb + 2) 9 1 sv k xs) (hg : (w1.alloc o).grownBy w2 sv.ownBlock) :
    w2.heap[mb + 1]? = some (.cells #[sv, .map (some mb)] 130 (0, 0)) := by
  have hlt := (Array.getElem?_eq_some_iff.1 h).1
  rw [hg.block _ (by simp; omega) (fun e => by have := (hr.lt _ e.symm).1; omega), Below.heap_alloc _ _ _ hlt]
  exact h

theorem list_free {w : World} {mb : Nat} {cs : Array Value} {T : TypeId} (h : w.heap[mb + 1]? = some (.cells cs T (0, 0))) : w.frozen? ⟨mb + 1, 0, none⟩ = false := by
  simp [World.frozen?, h]

theorem own_slice {w : World} {base n size : Nat} {T : TypeId} {v : Value} {xs : List Value} (h : w.ownsRow base T size v n xs) : ∃ ao an ac, v = .slice ao an ac := by
  rcases h.2 with ⟨rfl, _⟩ | ⟨g, cap, cur, rfl, _⟩
  · exact ⟨_, _, _, rfl⟩
  · exact ⟨_, _, _, rfl⟩

theorem own_slice_len {w : World} {base n size : Nat} {T : TypeId} {v : Value} {xs : List Value} (h : w.ownsRow base T size v n xs) : ∃ ao ac, v = .slice ao n ac := by
  rcases h.2 with ⟨rfl, rfl⟩ | ⟨g, cap, cur, rfl, _⟩
  · exact ⟨_, _, rfl⟩
  · exact ⟨_, _, rfl⟩

theorem add_new (w : World) (mb : Nat) (ns : List (List UInt8)) (n : List UInt8) (h : NL w mb ns) (hn : n ∉ ns) (hl : n.length ≤ maxLen) (hk : ns.length ≤ 1000000) :
    Calls Try.prog 165 #[.pointer (some ⟨mb + 1, 0, none⟩), str n] w fun e w' => e = .returned (.tuple #[]) ∧ NL w' mb (ns ++ [n]) ∧ Below mb w w' := by
  obtain ⟨sv, h0, hr, D, hm, hD⟩ := h
  have c1 : w.cell? ⟨mb + 1, 1, none⟩ = some (.map (some mb)) := cell_of_heap h0
  have c0 : w.cell? ⟨mb + 1, 0, none⟩ = some sv := cell_of_heap h0
  have hrun := look_run hm hD n hl
  rw [show decide (n ∈ ns) = false by simpa using hn] at hrun
  obtain ⟨i0, hi, hz0, hz1, hz2⟩ := info_parts info_string
  have hun := Try.underlying43
  have hkey := key_str n hl
  have hmax : ns.length < maxLen := by unfold maxLen; omega
  have HMI := hm.isMap
  have HD := Lib.hid hD
  have H0 := Lib.hid h0
  have hlt0 := (Array.getElem?_eq_some_iff.1 h0).1
  clear hD h0
  go_enter Try.func165, Try.ntmps165
  go_wp2_with (at_mapUpdate; refine wpList_mapUpdate_own _ rfl _ _ _ 128 rfl 9 4 law_key Try.underlying128 _ mb _ _ rfl hm hmax _ _ _ rfl rfl hkey _ [] (plainElem_bool Try.underlying4 true) ?_)
  intro w1 hm1 hg1
  have h1 : w1.heap[mb + 1]? = some (.cells #[sv, .map (some mb)] 130 (0, 0)) := by
    rw [hg1.block _ (Array.getElem?_eq_some_iff.1 H0.out).1 (fun e => by injection e with e; omega)]; exact H0.out
  have d0 : w1.cell? ⟨mb + 1, 0, none⟩ = some sv := cell_of_heap h1
  have H1 := Lib.hid h1
  have hr1 := hr.kept hg1 (by
    cases hv : sv.ownBlock with
    | none => exact Or.inl rfl
    | some k => right; intro e; injection e with e; have := (hr.lt k hv).1; omega)
  have hsz : mb + 2 ≤ (w1.alloc (.cells #[str n] 9)).heap.size := by
    have := (Array.getElem?_eq_some_iff.1 h1).1
    simp; omega
  have hone : ∀ u ∈ [str n], u.oneCell' = true := by simp [Value.oneCell']
  have hm16 : (ns.length + 1) * 16 ≤ 140737488355328 := by omega
  have HR := Lib.hid hr1
  have HM := Lib.hid hm1
  have HG := Lib.hid hg1
  clear h1 hrun c0 c1 hr hr1 hm hm1 hg1
  go_wp2_with (at_builtin; refine wpList_append_own _ rfl _ _ 43 rfl (mb + 2) 9 i0 (.string ⟨#[]⟩) 1 16 hun hi hz0 hz1 hz2 rfl (by decide) _ _ _ rfl (World.ownsRow.alloc HR.out _) ⟨w1.heap.size, 0, none⟩ 1 1 [str n] rfl rfl (cell_one_new _ _ _) hone hmax hm16 hsz ?_; intro v2 w2 ho2 hg2 hiff; clear hiff; obtain ⟨ao, an, ac, rfl⟩ := own_slice ho2; have H2 := Lib.hid (list_kept H1.out HR.out hg2); have f0 := list_free H2.out; have e0 : w2.cell? ⟨mb + 1, 0, none⟩ = some sv := cell_of_heap H2.out; have HG2 : Hid ((w1.alloc (.cells #[str n] 9)).grownBy w2 sv.ownBlock) := Lib.hid hg2; have HO2 : Hid (w2.ownsRow (mb + 2) 9 1 (.slice ao an ac) (ns.length + 1) (ns.map str ++ [str n])) := Lib.hid ho2; clear hg2 ho2)
  go_end0
  have hs1 := HG.out.size
  refine ⟨rfl, ⟨.slice ao an ac, ?_, ?_, D.put (.string n) (.lit (.bool true)), ?_, ?_⟩, ?_⟩
  · simp [World.setCell, Array.getElem?_modify, H2.out]
  · have := ownsRow_setCell_below HO2.out (a := ⟨mb + 1, 0, none⟩) (by simp) (.slice ao an ac)
    simpa using this
  · have h1 := (HM.out.alloc (.cells #[str n] 9)).kept HG2.out (by
      cases hv : sv.ownBlock with
      | none => simp
      | some k => intro e; injection e with e; have := (HR.out.lt k hv).1; omega)
    have := h1.setCell (a := ⟨mb + 1, 0, none⟩) (by simp) (.slice ao an ac)
    simpa using this
  · intro x
    by_cases hx : x = n
    · subst hx
      rw [atKey_put_same HMI (by trivial)]
      simp
    · rw [atKey_put_other (by intro e; injection e with e; exact hx e), HD.out]
      simp [hx]
  · exact ((((Below.refl mb w).grown HG.out (by omega) (fun k hk => by injection hk with hk; omega)).alloc (by omega) _).grown HG2.out (by omega) (fun k hk => by have := (HR.out.lt k hk).1; omega)).setCell (by simp) _

/-! ### listNames -/

def ListPost (mb : Nat) (w : World) (ns : List (List UInt8)) (e : Ending) (w' : World) : Prop := e = .returned (.tuple #[]) ∧ NL w' mb ns ∧ Below mb w w'

/-- The method listNames of v, a term in blocks below mb. -/
def ListOk (w : World) (mb : Nat) (v : Value) (t : Tm) : Prop :=
  ∃ T x f y, v = .iface T x ∧ (∀ W, Below mb w W → (method 311 T x "loop.example/realizers/impl.listNames").run Try.prog W = .ok (f, y) W) ∧ (∀ args w', (callFunc f args).run Try.prog w' = .ok (.enter f args) w') ∧
    ∀ W, Below mb w W → ∀ ns, NL W mb ns → ns.length + t.size ≤ 1000000 → Calls Try.prog f #[y, .pointer (some ⟨mb + 1, 0, none⟩)] W (ListPost mb W (t.names ns))

theorem leaf_list (w : World) (v : Value) : Calls Try.prog 166 #[.agg #[], v] w fun e w' => e = .returned (.tuple #[]) ∧ w' = w.alloc (.cells #[] 99) := by
  go_enter Try.func166, Try.ntmps166
  go_wp2_with fail
  go_end0
  exact ⟨rfl, rfl⟩

theorem NL.alloc {w : World} {mb : Nat} {ns : List (List UInt8)} (h : NL w mb ns) (o : Obj) : NL (w.alloc o) mb ns := by
  obtain ⟨sv, h0, hr, D, hm, hD⟩ := h
  exact ⟨sv, by rw [Below.heap_alloc _ _ _ (Array.getElem?_eq_some_iff.1 h0).1]; exact h0, hr.alloc _, D, hm.alloc _, hD⟩

theorem n_list (W : World) (b mb : Nat) (n : List UInt8) (ns : List (List UInt8)) (hc : W.cell? ⟨b, 0, none⟩ = some (str n)) (h : NL W mb ns) (hl : n.length ≤ maxLen) (hk : ns.length ≤ 1000000) :
    Calls Try.prog 159 #[.pointer (some ⟨b, 0, none⟩), .pointer (some ⟨mb + 1, 0, none⟩)] W (ListPost mb W ((Tm.nm n).names ns)) := by
  by_cases hn : n ∈ ns
  · have hf : (Tm.nm n).names ns = ns := by simp [Tm.names, hn]
    rw [hf]
    have hadd := add_old W mb ns n h hn hl
    have HN := Lib.hid h
    clear hf hn h
    go_enter Try.func159, Try.ntmps159
    go_wp2_with (go_at_call 165; refine hadd.mono ?_; rintro e w' ⟨rfl, rfl⟩)
    go_end0
    exact ⟨rfl, HN.out, Below.refl _ _⟩
  · have hf : (Tm.nm n).names ns = ns ++ [n] := by simp [Tm.names, hn]
    rw [hf]
    have hadd := add_new W mb ns n h hn hl hk
    clear hf hn h
    go_enter Try.func159, Try.ntmps159
    go_wp2_with (go_at_call 165; refine hadd.mono ?_; rintro e w' ⟨rfl, h1, h2⟩; have H1 := Lib.hid h1; clear h1)
    go_end0
    exact ⟨rfl, H1.out, h2⟩

theorem cell_mb {w : World} {mb b i : Nat} {v : Value} (h : w.cell? ⟨b, i, none⟩ = some v) (hb : b < mb) : ∀ W, Below mb w W → W.cell? ⟨b, i, none⟩ = some v := fun W hW => by rw [hW.cell (p := ⟨b, i, none⟩) hb]; exact h

theorem a_list (w W : World) (b mb : Nat) (T1 T2 : TypeId) (x1 x2 : Value) (f a : Tm) (ns : List (List UInt8)) (hW : Below mb w W)
    (h0 : ∀ W, Below mb w W → W.cell? ⟨b, 0, none⟩ = some (.iface T1 x1)) (h1 : ∀ W, Below mb w W → W.cell? ⟨b, 1, none⟩ = some (.iface T2 x2))
    (hf : ListOk w mb (.iface T1 x1) f) (ha : ListOk w mb (.iface T2 x2) a) (h : NL W mb ns) (hl : ns.length + (f.app a).size ≤ 1000000) :
    Calls Try.prog 178 #[.pointer (some ⟨b, 0, none⟩), .pointer (some ⟨mb + 1, 0, none⟩)] W (ListPost mb W ((f.app a).names ns)) := by
  obtain ⟨_, _, g4, z4, e0, k4, l4, d4⟩ := hf
  injection e0 with e1 e2
  subst e1; subst e2
  obtain ⟨_, _, g5, z5, e0, k5, l5, d5⟩ := ha
  injection e0 with e1 e2
  subst e1; subst e2
  have hnl := Tm.names_len f ns
  simp only [Tm.size] at hl
  have HN := Lib.hid h
  clear h
  go_enter Try.func178, Try.ntmps178
  go_wp2_with (first
    | (go_at_fn g4; refine (d4 _ hW _ HN.out (by omega)).mono ?_; rintro e w1 ⟨rfl, hn1, hb1⟩; have H1 := Lib.hid hn1; clear hn1; have hW1 := hW.trans hb1)
    | (go_at_fn g5; refine (d5 _ hW1 _ H1.out (by omega)).mono ?_; rintro e w2 ⟨rfl, hn2, hb2⟩; have H2 := Lib.hid hn2; clear hn2))
  go_end0
  exact ⟨rfl, H2.out, hb1.trans hb2⟩

theorem heap_mb {w W : World} {mb b : Nat} {o : Obj} (h : w.heap[b]? = some o) (hb : b < mb) (hW : Below mb w W) : W.heap[b]? = some o := by rw [hW.block b hb]; exact h

theorem TV.listOk {w : World} {B mb : Nat} (hmb : ∀ (b : Nat) (o : Obj), w.heap[b]? = some o → b < mb) : ∀ {t : Tm} {v : Value}, TV w B t v → t.good = true → ListOk w mb v t
  | .k, _, ⟨b, fr, hv, _, h⟩, _ => ⟨_, _, _, _, hv, fun W hb => (meth_kLetter_listNames b W fr _ (heap_mb h (hmb _ _ h) hb)).1, (meth_kLetter_listNames b w fr _ h).2, fun W hW ns hn _ => (leaf_list W _).mono fun e w' ⟨he, hw⟩ => ⟨he, hw ▸ NL.alloc hn _, hw ▸ (Below.refl mb W).alloc (by have := hn.lt; omega) _⟩⟩
  | .s, _, ⟨b, fr, hv, _, h⟩, _ => ⟨_, _, _, _, hv, fun W hb => (meth_sLetter_listNames b W fr _ (heap_mb h (hmb _ _ h) hb)).1, (meth_sLetter_listNames b w fr _ h).2, fun W hW ns hn _ => (leaf_list W _).mono fun e w' ⟨he, hw⟩ => ⟨he, hw ▸ NL.alloc hn _, hw ▸ (Below.refl mb W).alloc (by have := hn.lt; omega) _⟩⟩
  | .nm n, _, ⟨b, fr, hv, _, h⟩, hg => ⟨_, _, _, _, hv, fun W _ => (meth_nameAtom_listNames _ W).1, (meth_nameAtom_listNames ⟨b, 0, none⟩ w).2, fun W hW ns hn hl => n_list W b mb n ns (cell_of_heap (heap_mb h (hmb _ _ h) hW)) hn (by
      simp only [Tm.good] at hg
      cases n with
      | nil => simp [Tm.nameOk] at hg
      | cons c ds => simp only [Tm.nameOk, Bool.and_eq_true, decide_eq_true_eq] at hg; unfold maxLen; simp; omega) (by omega)⟩
  | .app f a, _, ⟨b, fr, vf, va, hv, _, h, hf, ha⟩, hg => by
    simp only [Tm.good, Bool.and_eq_true] at hg
    have sf := TV.listOk hmb hf hg.1
    have sa := TV.listOk hmb ha hg.2
    obtain ⟨T1, x1, rfl, _⟩ := hf.asks
    obtain ⟨T2, x2, rfl, _⟩ := ha.asks
    exact ⟨_, _, _, _, hv, fun W _ => (meth_application_listNames _ W).1, (meth_application_listNames ⟨b, 0, none⟩ w).2, fun W hW ns hn hl =>
      a_list w W b mb T1 T2 x1 x2 f a ns hW (cell_mb (cell_of_heap (i := 0) h) (hmb _ _ h)) (cell_mb (cell_of_heap (i := 1) h) (hmb _ _ h)) sf sa hn hl⟩

/-! ### namesOf -/

def NamesPost (w : World) (t : Tm) (e : Ending) (w' : World) : Prop :=
  ∃ sv, e = .returned sv ∧ Below w.heap.size w w' ∧ w'.ownsRow w.heap.size 9 1 sv (t.names []).length ((t.names []).map str)

theorem ownsRow_base {w : World} {B B' n size : Nat} {T : TypeId} {v : Value} {xs : List Value} (h : w.ownsRow B T size v n xs) (hB : B' ≤ B) : w.ownsRow B' T size v n xs := by
  obtain ⟨h1, h2⟩ := h
  refine ⟨h1, ?_⟩
  rcases h2 with h2 | ⟨g, cap, cur, hv, hg, r⟩
  · exact Or.inl h2
  · exact Or.inr ⟨g, cap, cur, hv, Nat.le_trans hB hg, r⟩

theorem NL.start (w : World) : NL ((w.alloc (.map #[] 0)).alloc (.cells #[.slice none 0 0, .map (some w.heap.size)] 130)) w.heap.size [] := by
  refine ⟨.slice none 0 0, ?_, World.ownsRow_nil _ _ _ _, .map [], (World.ownsMap_made w _ _ _).alloc _, fun x => by simp [DataW.atKey]⟩
  have := heap_new (w.alloc (.map #[] 0)) (.cells #[.slice none 0 0, .map (some w.heap.size)] 130)
  simpa using this

theorem namesOf_any (w : World) (B : Nat) (t : Tm) (v : Value) (h : TV w B t v) (hg : t.good = true) (hl : t.size ≤ 1000000) :
    Calls Try.prog 57 #[v] w (NamesPost w t) := by
  obtain ⟨T1, x1, f1, y1, rfl, m1, n1, c1⟩ := h.listOk (mb := w.heap.size) (fun b o hb => (Array.getElem?_eq_some_iff.1 hb).1) hg
  have hmm := @run_makeMap Try.prog
  have hst := NL.start w
  have hb1 : Below w.heap.size w ((w.alloc (.map #[] 0)).alloc (.cells #[.slice none 0 0, .map (some w.heap.size)] 130)) := ((Below.refl _ _).alloc (Nat.le_refl _) _).alloc (by simp) _
  have HS := Lib.hid hst
  clear hst
  go_enter Try.func57, Try.ntmps57
  go_wp2_with fail
  refine (c1 _ hb1 _ HS.out (by simpa using hl)).mono ?_
  rintro e w1 ⟨rfl, hn1, hb2⟩
  obtain ⟨sv, h0, hr, _⟩ := hn1
  obtain ⟨ao, an, ac, rfl⟩ := own_slice hr
  have d0 : w1.cell? ⟨w.heap.size + 1, 0, none⟩ = some (.slice ao an ac) := cell_of_heap h0
  have HR := Lib.hid (ownsRow_base hr (B' := w.heap.size) (by omega))
  clear hr h0
  go_wp2_with fail
  go_ret
  exact ⟨_, rfl, hb1.trans hb2, HR.out⟩
end Go.Proofs.Ytjomocjlnjgkeaa

namespace Go.Proofs.Ytjomocjlnjgkeaa
open Go.RowKit

set_option maxHeartbeats 400000
set_option maxRecDepth 100000

/-- Bytes as cells. -/
def bcells (l : List UInt8) : List Value := l.map fun c => Value.int .u8 c.toNat

theorem bcells_len (l : List UInt8) : (bcells l).length = l.length := by simp [bcells]
theorem bcells_append (a b : List UInt8) : bcells (a ++ b) = bcells a ++ bcells b := by simp [bcells]
theorem bcells_str (l : List UInt8) : Lib.strCells ⟨l.toArray⟩ = bcells l := by simp [Lib.strCells, bcells]

/-- The slice value sv owns the bytes xs. -/
def Own (w : World) (base : Nat) (sv : Value) (xs : List UInt8) : Prop := w.ownsRow base 5 1 sv xs.length (bcells xs)

theorem info_byte : (Try.prog.info? 5).map (fun i => (i.zero, i.size, i.bytes)) = some (some (.int .u8 0), 1, 1) := by kernel_rfl

def WritePost (w : World) (xs l : List UInt8) (e : Ending) (w' : World) : Prop :=
  ∃ sv, e = .returned sv ∧ Below w.heap.size w w' ∧ Own w' w.heap.size sv (xs ++ l)

def WriteOk (w : World) (v : Value) (t : Tm) : Prop :=
  ∃ T x f y, v = .iface T x ∧ (∀ W, Below w.heap.size w W → (method 311 T x "loop.example/realizers/impl.write").run Try.prog W = .ok (f, y) W) ∧ (∀ args w', (callFunc f args).run Try.prog w' = .ok (.enter f args) w') ∧
    ∀ W, Below w.heap.size w W → ∀ sv xs, Own W w.heap.size sv xs → xs.length + t.text.length ≤ 1000000 → Calls Try.prog f #[y, sv] W (WritePost w xs t.text)

theorem own_new {w W w' : World} {sv v' : Value} {xs l : List UInt8} {o : Obj} (hW : Below w.heap.size w W) (ho : w'.ownsRow w.heap.size 5 1 v' (xs.length + l.length) (bcells xs ++ bcells l)) (hg : (W.alloc o).grownBy w' sv.ownBlock)
    (hs : Own W w.heap.size sv xs) : Below w.heap.size w w' ∧ Own w' w.heap.size v' (xs ++ l) :=
  ⟨(below_alloc hW o).grown hg (below_alloc hW o).size (fun k hk => (hs.lt k hk).1), by unfold Own; rw [bcells_append, List.length_append]; exact ho⟩

theorem own_new' {w W w' : World} {sv v' : Value} {xs l : List UInt8} (hW : Below w.heap.size w W) (ho : w'.ownsRow w.heap.size 5 1 v' (xs.length + l.length) (bcells xs ++ bcells l)) (hg : W.grownBy w' sv.ownBlock)
    (hs : Own W w.heap.size sv xs) : Below w.heap.size w w' ∧ Own w' w.heap.size v' (xs ++ l) :=
  ⟨hW.grown hg hW.size (fun k hk => (hs.lt k hk).1), by unfold Own; rw [bcells_append, List.length_append]; exact ho⟩

theorem undrew {w w' : World} {row : Option Nat} (h : w.drew.grownBy w' row) : w.grownBy w' row := ⟨h.os, h.tape, h.output, h.size, h.block⟩

theorem k_write (w W : World) (y sv : Value) (xs : List UInt8) (hW : Below w.heap.size w W) (hs : Own W w.heap.size sv xs) (hl : xs.length + 1 ≤ 1000000) :
    Calls Try.prog 174 #[y, sv] W (WritePost w xs [107]) := by
  obtain ⟨i0, hi, hz0, hz1, hz2⟩ := info_parts info_byte
  have hun := Try.underlying25
  have hm : xs.length + 1 ≤ maxLen := by unfold maxLen; omega
  go_enter Try.func174, Try.ntmps174
  go_wp2_with (at_builtin; refine wpList_append_own _ rfl _ _ 25 rfl w.heap.size 5 i0 (.int .u8 0) 1 1 hun hi hz0 hz1 hz2 rfl (by decide) _ _ _ rfl (World.ownsRow.alloc hs _) ⟨W.heap.size, 0, none⟩ 1 1 (bcells [107]) rfl rfl (cell_one_new _ _ _) (by simp [bcells, Value.oneCell']) hm (by omega) (below_alloc hW _).size ?_; intro v1 w1 ho hg _; obtain ⟨hb1, ho1⟩ := own_new hW ho hg hs; clear ho hg)
  go_ret
  exact ⟨_, rfl, hb1, ho1⟩

theorem s_write (w W : World) (y sv : Value) (xs : List UInt8) (hW : Below w.heap.size w W) (hs : Own W w.heap.size sv xs) (hl : xs.length + 1 ≤ 1000000) :
    Calls Try.prog 170 #[y, sv] W (WritePost w xs [115]) := by
  obtain ⟨i0, hi, hz0, hz1, hz2⟩ := info_parts info_byte
  have hun := Try.underlying25
  have hm : xs.length + 1 ≤ maxLen := by unfold maxLen; omega
  go_enter Try.func170, Try.ntmps170
  go_wp2_with (at_builtin; refine wpList_append_own _ rfl _ _ 25 rfl w.heap.size 5 i0 (.int .u8 0) 1 1 hun hi hz0 hz1 hz2 rfl (by decide) _ _ _ rfl (World.ownsRow.alloc hs _) ⟨W.heap.size, 0, none⟩ 1 1 (bcells [115]) rfl rfl (cell_one_new _ _ _) (by simp [bcells, Value.oneCell']) hm (by omega) (below_alloc hW _).size ?_; intro v1 w1 ho hg _; obtain ⟨hb1, ho1⟩ := own_new hW ho hg hs; clear ho hg)
  go_ret
  exact ⟨_, rfl, hb1, ho1⟩

theorem n_write (w W : World) (b : Nat) (n : List UInt8) (sv : Value) (xs : List UInt8) (hc : W.cell? ⟨b, 0, none⟩ = some (str n)) (hW : Below w.heap.size w W) (hs : Own W w.heap.size sv xs) (hl : xs.length + n.length ≤ 1000000) :
    Calls Try.prog 164 #[.pointer (some ⟨b, 0, none⟩), sv] W (WritePost w xs n) := by
  obtain ⟨i0, hi, hz0, hz1, hz2⟩ := info_parts info_byte
  have hun := Try.underlying25
  have hus := Try.underlying9
  have hm : xs.length + (⟨n.toArray⟩ : ByteArray).size ≤ maxLen := by unfold maxLen; show xs.length + n.toArray.size ≤ _; simp; omega
  have hm2 : xs.length + (⟨n.toArray⟩ : ByteArray).size ≤ 140737488355328 := by show xs.length + n.toArray.size ≤ _; simp; omega
  have hsz : (⟨n.toArray⟩ : ByteArray).size = n.length := by show n.toArray.size = _; simp
  have HSZ := Lib.hid hsz
  clear hsz
  go_enter Try.func164, Try.ntmps164
  go_wp2_with (at_builtin; refine Lib.wpList_append_own_string _ rfl _ _ 25 9 rfl w.heap.size 5 i0 hun hus hi hz0 hz1 hz2 _ _ _ rfl hs ⟨n.toArray⟩ rfl hm hm2 hW.size ?_; intro v1 w1 ho hg _; rw [HSZ.out, bcells_str] at ho; obtain ⟨hb1, ho1⟩ := own_new' hW ho hg hs; clear ho hg)
  go_ret
  exact ⟨_, rfl, hb1, ho1⟩

theorem a_write (w W : World) (b : Nat) (T1 T2 : TypeId) (x1 x2 : Value) (f a : Tm) (sv : Value) (xs : List UInt8) (hW : Below w.heap.size w W)
    (h0 : ∀ W, Below w.heap.size w W → W.cell? ⟨b, 0, none⟩ = some (.iface T1 x1)) (h1 : ∀ W, Below w.heap.size w W → W.cell? ⟨b, 1, none⟩ = some (.iface T2 x2))
    (hf : WriteOk w (.iface T1 x1) f) (ha : WriteOk w (.iface T2 x2) a) (hs : Own W w.heap.size sv xs) (hl : xs.length + (f.app a).text.length ≤ 1000000) :
    Calls Try.prog 183 #[.pointer (some ⟨b, 0, none⟩), sv] W (WritePost w xs (f.app a).text) := by
  obtain ⟨i0, hi, hz0, hz1, hz2⟩ := info_parts info_byte
  have hun := Try.underlying25
  obtain ⟨_, _, g4, z4, e0, k4, l4, d4⟩ := hf
  injection e0 with e1 e2
  subst e1; subst e2
  obtain ⟨_, _, g5, z5, e0, k5, l5, d5⟩ := ha
  injection e0 with e1 e2
  subst e1; subst e2
  simp only [Tm.text, List.length_cons, List.length_append, List.length_nil] at hl
  have m1 : xs.length + 1 ≤ maxLen := by unfold maxLen; omega
  have hnew : Below w.heap.size w ((W.alloc (.cells #[.int .u8 40] 5)).drew) := (below_alloc hW _).drew
  have hone : ∀ u ∈ bcells [40], u.oneCell' = true := by simp [bcells, Value.oneCell']
  have hsz : ((W.alloc (.cells #[.int .u8 40] 5)).drew).heap.size = W.heap.size + 1 := by simp
  go_enter Try.func183, Try.ntmps183
  go_wp2_with fail
  go_region_held3 (fun W' => Below w.heap.size w W') (first | assumption | exact hW.drew | go_keep)
    (first
      | (refine step_append_lies _ (by rfl) _ _ 25 (by rfl) w.heap.size 5 i0 (.int .u8 0) 1 1 hun hi hz0 hz1 hz2 rfl (by omega) _ _ _ (by rfl) (World.ownsRow.drew (World.ownsRow.alloc hs _)) ⟨W.heap.size, 0, none⟩ 1 1 (bcells [40]) (by rfl) (by rfl) (cell_one_new _ _ _) hone (by omega) m1 (by omega) hnew.size (W.heap.size + 1) hsz ?_; intro g1 q1 w1 ho hg _ _; obtain ⟨hb1, ho1⟩ := own_new hW ho (undrew hg) hs; clear ho hg)
      | (go_at_fn g4; refine (d4 _ (by assumption) _ _ ho1 ?_).mono ?_; (simp; omega); rintro e w2 ⟨v2, rfl, hb2, ho2⟩))
  clear ho1 hb1
  obtain ⟨ys, hys⟩ : ∃ ys, ys = xs ++ [40] ++ f.text := ⟨_, rfl⟩
  rw [← hys] at ho2
  have hyl : ys.length ≤ xs.length + 1 + f.text.length := by rw [hys]; simp; omega
  have HY := Lib.hid hys
  clear hys
  have m2 : ys.length + 1 ≤ maxLen := by unfold maxLen; omega
  have hnew2 : Below w.heap.size w ((w2.alloc (.cells #[.int .u8 32] 5)).drew) := (below_alloc hb2 _).drew
  have hone2 : ∀ u ∈ bcells [32], u.oneCell' = true := by simp [bcells, Value.oneCell']
  have hsz2 : ((w2.alloc (.cells #[.int .u8 32] 5)).drew).heap.size = w2.heap.size + 1 := by simp
  go_wp2_with fail
  go_region_held3 (fun W' => Below w.heap.size w W') (first | assumption | exact hb2.drew | go_keep)
    (first
      | (refine step_append_lies _ (by rfl) _ _ 25 (by rfl) w.heap.size 5 i0 (.int .u8 0) 1 1 hun hi hz0 hz1 hz2 rfl (by omega) _ _ _ (by rfl) (World.ownsRow.drew (World.ownsRow.alloc ho2 _)) ⟨w2.heap.size, 0, none⟩ 1 1 (bcells [32]) (by rfl) (by rfl) (cell_one_new _ _ _) hone2 (by omega) m2 (by omega) hnew2.size (w2.heap.size + 1) hsz2 ?_; intro g3 q3 w3 ho hg _ _; obtain ⟨hb3, ho3⟩ := own_new hb2 ho (undrew hg) ho2; clear ho hg)
      | (go_at_fn g5; refine (d5 _ (by assumption) _ _ ho3 ?_).mono ?_; (simp; omega); rintro e w4 ⟨v4, rfl, hb4, ho4⟩))
  clear ho3 hb3
  obtain ⟨zs, hzs⟩ : ∃ zs, zs = ys ++ [32] ++ a.text := ⟨_, rfl⟩
  rw [← hzs] at ho4
  have hzl : zs.length ≤ ys.length + 1 + a.text.length := by rw [hzs]; simp; omega
  have HZ := Lib.hid hzs
  clear hzs
  have m3 : zs.length + 1 ≤ maxLen := by unfold maxLen; omega
  go_wp2_with (at_builtin; refine wpList_append_own _ rfl _ _ 25 rfl w.heap.size 5 i0 (.int .u8 0) 1 1 hun hi hz0 hz1 hz2 rfl (by decide) _ _ _ rfl (World.ownsRow.alloc ho4 _) ⟨w4.heap.size, 0, none⟩ 1 1 (bcells [41]) rfl rfl (cell_one_new _ _ _) (by simp [bcells, Value.oneCell']) m3 (by omega) (below_alloc hb4 _).size ?_; intro v5 w5 ho hg _; obtain ⟨hb5, ho5⟩ := own_new hb4 ho hg ho4; clear ho hg)
  go_ret
  refine ⟨_, rfl, hb5, ?_⟩
  rw [HZ.out, HY.out] at ho5
  simpa [Tm.text, List.append_assoc] using ho5

theorem TV.writeOk {w : World} {B : Nat} : ∀ {t : Tm} {v : Value}, TV w B t v → WriteOk w v t
  | .k, _, ⟨b, fr, hv, _, h⟩ => ⟨_, _, _, _, hv, fun W _ => (meth_kLetter_write _ W).1, (meth_kLetter_write ⟨b, 0, none⟩ w).2, fun W hW sv xs hs hl => k_write w W _ sv xs hW hs hl⟩
  | .s, _, ⟨b, fr, hv, _, h⟩ => ⟨_, _, _, _, hv, fun W _ => (meth_sLetter_write _ W).1, (meth_sLetter_write ⟨b, 0, none⟩ w).2, fun W hW sv xs hs hl => s_write w W _ sv xs hW hs hl⟩
  | .nm n, _, ⟨b, fr, hv, _, h⟩ => ⟨_, _, _, _, hv, fun W _ => (meth_nameAtom_write _ W).1, (meth_nameAtom_write ⟨b, 0, none⟩ w).2, fun W hW sv xs hs hl => n_write w W b n sv xs (cell_of_heap (heap_later h hW)) hW hs hl⟩
  | .app f a, _, ⟨b, fr, vf, va, hv, _, h, hf, ha⟩ => by
    have sf := TV.writeOk hf
    have sa := TV.writeOk ha
    obtain ⟨T1, x1, rfl, _⟩ := hf.asks
    obtain ⟨T2, x2, rfl, _⟩ := ha.asks
    exact ⟨_, _, _, _, hv, fun W _ => (meth_application_write _ W).1, (meth_application_write ⟨b, 0, none⟩ w).2, fun W hW sv xs hs hl =>
      a_write w W b T1 T2 x1 x2 f a sv xs hW (cell_later' (cell_of_heap (i := 0) h)) (cell_later' (cell_of_heap (i := 1) h)) sf sa hs hl⟩

theorem foldl_push (l : List UInt8) : ∀ s : ByteArray, (l.map fun c => (c.toNat : Int)).foldl (fun r n => r.push (UInt8.ofNat n.toNat)) s = ⟨(s.data.toList ++ l).toArray⟩ := by
  induction l with
  | nil => intro s; simp
  | cons c l ih =>
    intro s
    rw [List.map_cons, List.foldl_cons, ih]
    simp [ByteArray.push]

/-- A string made of the bytes that a slice value owns. -/
theorem run_text {w : World} {base : Nat} {sv : Value} {xs : List UInt8} (hs : Own w base sv xs) (hne : xs ≠ []) : (convert 25 9 sv).run Try.prog w = .ok (str xs) w := by
  have hl := hs.1
  rcases hs.2 with ⟨_, h0⟩ | ⟨g, cap, cur, rfl, _, hh, _⟩
  · exact absurd (List.length_eq_zero_iff.1 h0) hne
  · have hc := hs.cells (g := g) rfl
    rw [run_convert_bytes_string w _ _ _ _ _ _ Try.underlying25 Try.underlying5 Try.underlying9]
    rw [run_bytesToString w _ _ _ (xs.map fun c => (c.toNat : Int)) (by
      have := run_loadCells_list (P := Try.prog) (w := w) ⟨g, 0, none⟩ (bcells xs) hc
      rw [bcells_len] at this
      rw [show ((xs.map fun c => (c.toNat : Int)).map (Value.int .u8)) = bcells xs by simp [bcells, Function.comp_def]]
      exact this)]
    rw [foldl_push]
    rfl

theorem textOf_any (w : World) (B : Nat) (t : Tm) (v : Value) (h : TV w B t v) (hg : t.good = true) (hl : t.text.length ≤ 1000000) :
    Calls Try.prog 35 #[v] w fun e w' => e = .returned (str t.text) ∧ Below w.heap.size w w' := by
  obtain ⟨T1, x1, f1, y1, rfl, m1, n1, c1⟩ := h.writeOk
  have hb0 := Below.refl w.heap.size w
  have ho : Own w w.heap.size (.slice none 0 0) [] := World.ownsRow_nil w w.heap.size _ 1
  go_enter Try.func35, Try.ntmps35
  go_wp2_with (go_at_fn f1; refine (c1 _ hb0 _ [] ho (by simpa using hl)).mono ?_; rintro e w1 ⟨v1, rfl, hb1, ho1⟩; have hc := run_text ho1 (Tm.text_ne t hg))
  go_ret
  exact ⟨rfl, hb1⟩
end Go.Proofs.Ytjomocjlnjgkeaa
