/-
  The program's functions of words: zeroFunction, nextFunction, argumentFunction, wordFunction.
-/
import Derived.Test.YtjomocjlnjgkeaaPkBK
import Derived.Test.YtjomocjlnjgkeaaPkAS
namespace Go.Proofs.Ytjomocjlnjgkeaa
open Go.RowKit

set_option maxHeartbeats 1000000
set_option maxRecDepth 100000

/-- A new compiled function text, not yet counted. -/
def NewPost (w : World) (B : Nat) (t : FT) (e : Ending) (w' : World) : Prop :=
  ∃ b vr vf, e = .returned (ptr b) ∧ After w w' ∧ w.heap.size ≤ b ∧ w'.heap[b]? = some (.cells #[.int .i64 (FT.arity t : Nat), .int .i64 0, .bool false, vr, vf] 73 (0, 0)) ∧
    ∀ w'' : World, (∀ k, B ≤ k → k < w'.heap.size → k ≠ b → w''.heap[k]? = w'.heap[k]?) → TV w'' B (FT.real t) vr ∧ FnV w'' B t vf

theorem NewPost.mk {w W : World} {B : Nat} {t : FT} {vr vf : Value} (ha : After w W) (ht : TV W B (FT.real t) vr) (hf : FnV W B t vf) :
    NewPost w B t (.returned (ptr W.heap.size)) (W.alloc (.cells #[.int .i64 (FT.arity t : Nat), .int .i64 0, .bool false, vr, vf] 73 (0, 0))) := by
  refine ⟨_, vr, vf, rfl, ha.alloc _, ha.size, heap_top _ _, fun w'' hs => ?_⟩
  have hk : ∀ k, B ≤ k → k < W.heap.size → w''.heap[k]? = W.heap[k]? := fun k h1 h2 => by
    rw [hs k h1 (by simp; omega) (by omega)]
    exact (below_new W _).block k h2
  exact ⟨ht.same hk, hf.same hk⟩

theorem ns_len (a : Nat) (ha : a ≤ 3) : (FT.ns a).length = a := by simp [FT.ns]; omega

theorem ns_at (a j : Nat) (ha : a ≤ 3) (hj : j < a) : (#[str [120], str [121], str [122]] : Array Value)[j]? = some (str ((FT.ns a)[j]?.getD [])) := by
  match a, j, ha, hj with
  | 1, 0, _, _ => rfl
  | 2, 0, _, _ => rfl
  | 2, 1, _, _ => rfl
  | 3, 0, _, _ => rfl
  | 3, 1, _, _ => rfl
  | 3, 2, _, _ => rfl

/-- The names of arguments, as a slice. -/
def ArgN (w : World) (g _a : Nat) : Prop := w.heap[g]? = some (.cells #[str [120], str [121], str [122]] 9 (0, 0))

theorem ArgN.strs {w : World} {g a : Nat} (h : ArgN w g a) (ha : a ≤ 3) : StrsB w.heap.size w (.slice (some ⟨g, 0, none⟩) a 3) (FT.ns a) := by
  refine Or.inr ⟨g, 0, 3, by rw [ns_len a ha], (Array.getElem?_eq_some_iff.1 h).1, fun j hj => ?_⟩
  rw [ns_len a ha] at hj
  rw [Nat.zero_add, cell_of_heap h]
  exact ns_at a j ha hj

theorem ArgN.cells {w : World} {g a : Nat} (h : ArgN w g a) (ha : a ≤ 3) : ∀ j, j < (FT.ns a).length → w.cell? ⟨g, j, none⟩ = some (str ((FT.ns a)[j]?.getD [])) := fun j hj => by
  rw [ns_len a ha] at hj
  rw [cell_of_heap h]
  exact ns_at a j ha hj

theorem zeroFn_any (w : World) (B a : Nat) (ha : a ≤ 3) (hB : B ≤ w.heap.size) :
    Calls Try.prog 107 #[.int .i64 a] w (NewPost w B (.z a)) := by
  have h1 := argNames_any w a ha
  have hN : ArgN (w.alloc (.cells #[str [120], str [121], str [122]] 9 (0, 0))) w.heap.size a := heap_top _ _
  have hB1 : B ≤ (w.alloc (.cells #[str [120], str [121], str [122]] 9 (0, 0))).heap.size := by simp; omega
  have hW1 := After.new w (.cells #[str [120], str [121], str [122]] 9 (0, 0))
  have h2 := numeral_any (w.alloc (.cells #[str [120], str [121], str [122]] 9 (0, 0))) B 0 hB1 (by omega)
  unfold TermPost at h2
  generalize w.alloc (.cells #[str [120], str [121], str [122]] 9 (0, 0)) = W1 at *
  go_enter Try.func107, Try.ntmps107
  go_wp2_with (go_at_call 119; refine h1.mono ?_; rintro e w1 ⟨rfl, rfl⟩)
  refine h2.mono ?_
  rintro e w2 ⟨v2, rfl, hb2, ht2⟩
  have hN2 : ArgN w2 w.heap.size a := After.heap hb2 hN
  have h3 := absAll_any w2 B (FT.ns a) _ _ v2 (hN2.strs ha) ht2 (Nat.le_trans hB1 hb2.size) (by rw [ns_len a ha]; omega) (by decide)
  unfold TermPost at h3
  clear h1 h2 ht2 hN hN2
  go_wp2_with fail
  refine h3.mono ?_
  rintro e w3 ⟨v3, rfl, hb3, ht3⟩
  obtain ⟨T3, x3, rfl, _⟩ := ht3.asks
  have HT := Lib.hid ht3
  clear h3 ht3
  go_wp2_with fail
  go_ret
  have hal := (hW1.trans hb2).trans hb3
  exact NewPost.mk hal HT.out rfl

theorem next_any (w : World) (B : Nat) (hB : B ≤ w.heap.size) : Calls Try.prog 108 #[] w (NewPost w B .inc) := by
  have h1 := succ_any w B hB
  unfold TermPost at h1
  go_enter Try.func108, Try.ntmps108
  go_wp2_with fail
  refine h1.mono ?_
  rintro e w1 ⟨v1, rfl, hb1, ht1⟩
  obtain ⟨T1, x1, rfl, _⟩ := ht1.asks
  have HT := Lib.hid ht1
  clear h1 ht1
  go_wp2_with fail
  go_ret
  exact NewPost.mk hb1 HT.out rfl

theorem vs_at (i a : Nat) (hi : i < a) (ha : a ≤ 3) : (FT.vs a).getD i .k = .nm ((FT.ns a)[i]?.getD []) := by
  match a, i, ha, hi with
  | 1, 0, _, _ => rfl
  | 2, 0, _, _ => rfl
  | 2, 1, _, _ => rfl
  | 3, 0, _, _ => rfl
  | 3, 1, _, _ => rfl
  | 3, 2, _, _ => rfl

theorem arg_any (w : World) (B i a : Nat) (hi : i < a) (ha : a ≤ 3) (hB : B ≤ w.heap.size) :
    Calls Try.prog 109 #[.int .i64 i, .int .i64 a] w (NewPost w B (.p i a)) := by
  obtain ⟨W0, hW0⟩ : ∃ W0, W0 = w.alloc (.cells #[.int .i64 (i : Nat)] 3 (0, 0)) := ⟨_, rfl⟩
  have h1 := argNames_any W0 a ha
  have a0 : After w W0 := by rw [hW0]; exact After.new _ _
  have g0 : W0.heap[w.heap.size]? = some (.cells #[.int .i64 (i : Nat)] 3 (0, 0)) := by rw [hW0]; exact heap_top _ _
  obtain ⟨W1, hW1⟩ : ∃ W1, W1 = W0.alloc (.cells #[str [120], str [121], str [122]] 9 (0, 0)) := ⟨_, rfl⟩
  have hN : ArgN W1 W0.heap.size a := by rw [hW1]; exact heap_top _ _
  have a1 : After W0 W1 := by rw [hW1]; exact After.new _ _
  rw [← hW1] at h1
  have hci := cell_later' (cell_of_heap (i := 0) g0) W1 a1
  have hni := cell_of_heap (i := i) hN
  rw [ns_at a i ha hi] at hni
  obtain ⟨nm, hnm⟩ : ∃ nm, nm = (FT.ns a)[i]?.getD [] := ⟨_, rfl⟩
  rw [← hnm] at hni
  obtain ⟨W2, hW2⟩ : ∃ W2, W2 = W1.alloc (.cells #[str nm] 101 (0, 0)) := ⟨_, rfl⟩
  have a2 : After W1 W2 := by rw [hW2]; exact After.new _ _
  have hsz : B ≤ W2.heap.size := Nat.le_trans hB (Nat.le_trans a0.size (Nat.le_trans a1.size a2.size))
  have hT2 : TV W2 B (.nm nm) (.iface 97 (ptr W1.heap.size)) := ⟨_, (0, 0), rfl, Nat.le_trans hB (Nat.le_trans a0.size a1.size), by rw [hW2]; exact heap_top _ _⟩
  have h3 := absAll_any W2 B (FT.ns a) _ _ _ ((show ArgN W2 W0.heap.size a from a2.heap hN).strs ha) hT2 hsz (by rw [ns_len a ha]; omega) (by simp [Tm.size])
  rw [hnm, ← vs_at i a hi ha] at h3
  unfold TermPost at h3
  have hi' : (i : Int) < (a : Int) := by omega
  have HN := Lib.hid hnm
  have HW0 := Lib.hid hW0
  have HW2 := Lib.hid hW2
  clear hN hT2 hnm hW0 hW1 hW2
  go_enter Try.func109, Try.ntmps109
  go_wp2_with fail
  rw [← HW0.out]
  refine h1.mono ?_
  rintro e w1 ⟨rfl, rfl⟩
  clear h1
  go_wp2_with fail
  rw [← HW2.out]
  refine h3.mono ?_
  rintro e w3 ⟨v3, rfl, hb3, ht3⟩
  obtain ⟨T3, x3, rfl, _⟩ := ht3.asks
  have HT := Lib.hid ht3
  clear h3 ht3 hci hni
  go_wp2_with fail
  go_ret
  have hall := ((a0.trans a1).trans a2).trans hb3
  exact NewPost.mk hall HT.out ⟨_, rfl, hB, ((a1.trans a2).trans hb3).heap g0⟩
end Go.Proofs.Ytjomocjlnjgkeaa

namespace Go.Proofs.Ytjomocjlnjgkeaa
open Go.RowKit

set_option maxHeartbeats 1000000
set_option maxRecDepth 100000

def WFPost (w : World) (B : Nat) (o : Option FT) (e : Ending) (w' : World) : Prop :=
  ∃ v, e = .returned (.tuple #[v, .bool o.isSome]) ∧ After w w' ∧ ∀ t, o = some t → CV w' B t v

/-- What is counted is a compiled function text. -/
theorem counted {w1 : World} {B b : Nat} {t : FT} {vr vf : Value} (hB : B ≤ b) (hh : w1.heap[b]? = some (.cells #[.int .i64 (FT.arity t : Nat), .int .i64 0, .bool false, vr, vf] 73 (0, 0)))
    (hs : ∀ w'' : World, (∀ k, B ≤ k → k < w1.heap.size → k ≠ b → w''.heap[k]? = w1.heap[k]?) → TV w'' B (FT.real t) vr ∧ FnV w'' B t vf) (n : Int) (tot : Bool) (hn : n = (FT.size t : Nat)) (ht : tot = FT.total t) :
    CV ((w1.setCell ⟨b, 1, none⟩ (.int .i64 n)).setCell ⟨b, 2, none⟩ (.bool tot)) B t (ptr b) := by
  subst hn
  subst ht
  obtain ⟨h1, h2⟩ := hs ((w1.setCell ⟨b, 1, none⟩ (.int .i64 (FT.size t : Nat))).setCell ⟨b, 2, none⟩ (.bool (FT.total t))) (fun k _ _ hk => by
    have hk' : b ≠ k := fun e => hk e.symm
    simp [World.setCell, Array.getElem?_modify, hk'])
  refine ⟨b, vr, vf, rfl, hB, ?_, h1, h2⟩
  simp [World.setCell, Array.getElem?_modify, hh]

theorem After.le {w W : World} (h : After w W) : w.heap.size ≤ W.heap.size := Below.size h

theorem after_set2 {w w1 : World} {b : Nat} (ha : After w w1) (hb : w.heap.size ≤ b) (u v : Value) : After w ((w1.setCell ⟨b, 1, none⟩ u).setCell ⟨b, 2, none⟩ v) :=
  (Below.setCell (p := ⟨b, 1, none⟩) ha hb u).setCell (p := ⟨b, 2, none⟩) hb v

theorem word_z0 (w : World) (B : Nat) (hB : B ≤ w.heap.size) : Calls Try.prog 100 #[str [122, 48]] w (WFPost w B (some (.z 0))) := by
  obtain ⟨W1, hW1⟩ : ∃ W1, W1 = w.alloc (.cells #[.int .i64 0, .int .i64 0, .bool false, .nilIface, .nilFunc] 73 (0, 0)) := ⟨_, rfl⟩
  have a1 : After w W1 := by rw [hW1]; exact After.new _ _
  have hc := zeroFn_any W1 B 0 (by omega) (Nat.le_trans hB a1.size)
  have HW := Lib.hid hW1
  clear hW1
  go_enter Try.func100, Try.ntmps100
  go_wp2_with fail
  rw [← HW.out]
  refine hc.mono ?_
  rintro e w1 ⟨b, vr, vf, rfl, ha, hb, hh, hs⟩
  have f1 : w1.frozen? ⟨b, 1, none⟩ = false := by simp [World.frozen?, hh]
  have f2 : w1.frozen? ⟨b, 2, none⟩ = false := by simp [World.frozen?, hh]
  have c1 : w1.cell? ⟨b, 1, none⟩ = some (.int .i64 0) := cell_of_heap hh
  have c2 : w1.cell? ⟨b, 2, none⟩ = some (.bool false) := cell_of_heap hh
  have HH := Lib.hid hh
  have HS := Lib.hid hs
  clear hh hs hc
  go_wp2_with fail
  go_ret2
  have hs1 := a1.size
  exact ⟨_, rfl, after_set2 (a1.trans ha) (by omega) _ _, fun t ht => by obtain rfl := Option.some.inj ht; exact counted (by omega) HH.out HS.out _ _ rfl rfl⟩

theorem word_z1 (w : World) (B : Nat) (hB : B ≤ w.heap.size) : Calls Try.prog 100 #[str [122, 49]] w (WFPost w B (some (.z 1))) := by
  obtain ⟨W1, hW1⟩ : ∃ W1, W1 = w.alloc (.cells #[.int .i64 0, .int .i64 0, .bool false, .nilIface, .nilFunc] 73 (0, 0)) := ⟨_, rfl⟩
  have a1 : After w W1 := by rw [hW1]; exact After.new _ _
  have hc := zeroFn_any W1 B 1 (by omega) (Nat.le_trans hB a1.size)
  have HW := Lib.hid hW1
  clear hW1
  go_enter Try.func100, Try.ntmps100
  go_wp2_with fail
  rw [← HW.out]
  refine hc.mono ?_
  rintro e w1 ⟨b, vr, vf, rfl, ha, hb, hh, hs⟩
  have f1 : w1.frozen? ⟨b, 1, none⟩ = false := by simp [World.frozen?, hh]
  have f2 : w1.frozen? ⟨b, 2, none⟩ = false := by simp [World.frozen?, hh]
  have c1 : w1.cell? ⟨b, 1, none⟩ = some (.int .i64 0) := cell_of_heap hh
  have c2 : w1.cell? ⟨b, 2, none⟩ = some (.bool false) := cell_of_heap hh
  have HH := Lib.hid hh
  have HS := Lib.hid hs
  clear hh hs hc
  go_wp2_with fail
  go_ret2
  have hs1 := a1.size
  exact ⟨_, rfl, after_set2 (a1.trans ha) (by omega) _ _, fun t ht => by obtain rfl := Option.some.inj ht; exact counted (by omega) HH.out HS.out _ _ rfl rfl⟩

theorem word_z2 (w : World) (B : Nat) (hB : B ≤ w.heap.size) : Calls Try.prog 100 #[str [122, 50]] w (WFPost w B (some (.z 2))) := by
  obtain ⟨W1, hW1⟩ : ∃ W1, W1 = w.alloc (.cells #[.int .i64 0, .int .i64 0, .bool false, .nilIface, .nilFunc] 73 (0, 0)) := ⟨_, rfl⟩
  have a1 : After w W1 := by rw [hW1]; exact After.new _ _
  have hc := zeroFn_any W1 B 2 (by omega) (Nat.le_trans hB a1.size)
  have HW := Lib.hid hW1
  clear hW1
  go_enter Try.func100, Try.ntmps100
  go_wp2_with fail
  rw [← HW.out]
  refine hc.mono ?_
  rintro e w1 ⟨b, vr, vf, rfl, ha, hb, hh, hs⟩
  have f1 : w1.frozen? ⟨b, 1, none⟩ = false := by simp [World.frozen?, hh]
  have f2 : w1.frozen? ⟨b, 2, none⟩ = false := by simp [World.frozen?, hh]
  have c1 : w1.cell? ⟨b, 1, none⟩ = some (.int .i64 0) := cell_of_heap hh
  have c2 : w1.cell? ⟨b, 2, none⟩ = some (.bool false) := cell_of_heap hh
  have HH := Lib.hid hh
  have HS := Lib.hid hs
  clear hh hs hc
  go_wp2_with fail
  go_ret2
  have hs1 := a1.size
  exact ⟨_, rfl, after_set2 (a1.trans ha) (by omega) _ _, fun t ht => by obtain rfl := Option.some.inj ht; exact counted (by omega) HH.out HS.out _ _ rfl rfl⟩

theorem word_z3 (w : World) (B : Nat) (hB : B ≤ w.heap.size) : Calls Try.prog 100 #[str [122, 51]] w (WFPost w B (some (.z 3))) := by
  obtain ⟨W1, hW1⟩ : ∃ W1, W1 = w.alloc (.cells #[.int .i64 0, .int .i64 0, .bool false, .nilIface, .nilFunc] 73 (0, 0)) := ⟨_, rfl⟩
  have a1 : After w W1 := by rw [hW1]; exact After.new _ _
  have hc := zeroFn_any W1 B 3 (by omega) (Nat.le_trans hB a1.size)
  have HW := Lib.hid hW1
  clear hW1
  go_enter Try.func100, Try.ntmps100
  go_wp2_with fail
  rw [← HW.out]
  refine hc.mono ?_
  rintro e w1 ⟨b, vr, vf, rfl, ha, hb, hh, hs⟩
  have f1 : w1.frozen? ⟨b, 1, none⟩ = false := by simp [World.frozen?, hh]
  have f2 : w1.frozen? ⟨b, 2, none⟩ = false := by simp [World.frozen?, hh]
  have c1 : w1.cell? ⟨b, 1, none⟩ = some (.int .i64 0) := cell_of_heap hh
  have c2 : w1.cell? ⟨b, 2, none⟩ = some (.bool false) := cell_of_heap hh
  have HH := Lib.hid hh
  have HS := Lib.hid hs
  clear hh hs hc
  go_wp2_with fail
  go_ret2
  have hs1 := a1.size
  exact ⟨_, rfl, after_set2 (a1.trans ha) (by omega) _ _, fun t ht => by obtain rfl := Option.some.inj ht; exact counted (by omega) HH.out HS.out _ _ rfl rfl⟩

theorem word_inc (w : World) (B : Nat) (hB : B ≤ w.heap.size) : Calls Try.prog 100 #[str [105, 110, 99]] w (WFPost w B (some .inc)) := by
  obtain ⟨W1, hW1⟩ : ∃ W1, W1 = w.alloc (.cells #[.int .i64 0, .int .i64 0, .bool false, .nilIface, .nilFunc] 73 (0, 0)) := ⟨_, rfl⟩
  have a1 : After w W1 := by rw [hW1]; exact After.new _ _
  have hc := next_any W1 B (Nat.le_trans hB a1.size)
  have HW := Lib.hid hW1
  clear hW1
  go_enter Try.func100, Try.ntmps100
  go_wp2_with fail
  rw [← HW.out]
  refine hc.mono ?_
  rintro e w1 ⟨b, vr, vf, rfl, ha, hb, hh, hs⟩
  have f1 : w1.frozen? ⟨b, 1, none⟩ = false := by simp [World.frozen?, hh]
  have f2 : w1.frozen? ⟨b, 2, none⟩ = false := by simp [World.frozen?, hh]
  have c1 : w1.cell? ⟨b, 1, none⟩ = some (.int .i64 0) := cell_of_heap hh
  have c2 : w1.cell? ⟨b, 2, none⟩ = some (.bool false) := cell_of_heap hh
  have HH := Lib.hid hh
  have HS := Lib.hid hs
  clear hh hs hc
  go_wp2_with fail
  go_ret2
  have hs1 := a1.size
  exact ⟨_, rfl, after_set2 (a1.trans ha) (by omega) _ _, fun t ht => by obtain rfl := Option.some.inj ht; exact counted (by omega) HH.out HS.out _ _ rfl rfl⟩

theorem word_p01 (w : World) (B : Nat) (hB : B ≤ w.heap.size) : Calls Try.prog 100 #[str [112, 48, 49]] w (WFPost w B (some (.p 0 1))) := by
  obtain ⟨W1, hW1⟩ : ∃ W1, W1 = w.alloc (.cells #[.int .i64 0, .int .i64 0, .bool false, .nilIface, .nilFunc] 73 (0, 0)) := ⟨_, rfl⟩
  have a1 : After w W1 := by rw [hW1]; exact After.new _ _
  have hself := After.refl W1
  have hc := fun W (hW : After W1 W) => arg_any W B 0 1 (by omega) (by omega) (Nat.le_trans hB (Nat.le_trans a1.size hW.size))
  have HW := Lib.hid hW1
  clear hW1
  go_enter Try.func100, Try.ntmps100
  go_wp2_with fail
  rw [← HW.out]
  go_region_held3 (fun W' => After W1 W') (first | assumption | exact hself.drew | go_keep)
    ((go_at_call 109; refine (hc _ (by assumption)).mono ?_; rintro e w1 ⟨b, vr, vf, rfl, ha, hb, hh, hs⟩; have HH := Lib.hid hh; have HS := Lib.hid hs; clear hh hs; have hb' := Nat.le_trans (After.le (w := W1) (by assumption)) hb; have ha' := After.trans (by assumption) ha))
  all_goals
    have f1 : w1.frozen? ⟨b, 1, none⟩ = false := by simp [World.frozen?, HH.out]
    have f2 : w1.frozen? ⟨b, 2, none⟩ = false := by simp [World.frozen?, HH.out]
    have c1 : w1.cell? ⟨b, 1, none⟩ = some (.int .i64 0) := cell_of_heap HH.out
    have c2 : w1.cell? ⟨b, 2, none⟩ = some (.bool false) := cell_of_heap HH.out
    go_wp2_with fail
    go_ret2
    have hs1 := a1.size
    exact ⟨_, rfl, after_set2 (a1.trans ha') (by omega) _ _, fun t ht => by obtain rfl := Option.some.inj ht; exact counted (by omega) HH.out HS.out _ _ rfl rfl⟩

theorem word_p02 (w : World) (B : Nat) (hB : B ≤ w.heap.size) : Calls Try.prog 100 #[str [112, 48, 50]] w (WFPost w B (some (.p 0 2))) := by
  obtain ⟨W1, hW1⟩ : ∃ W1, W1 = w.alloc (.cells #[.int .i64 0, .int .i64 0, .bool false, .nilIface, .nilFunc] 73 (0, 0)) := ⟨_, rfl⟩
  have a1 : After w W1 := by rw [hW1]; exact After.new _ _
  have hself := After.refl W1
  have hc := fun W (hW : After W1 W) => arg_any W B 0 2 (by omega) (by omega) (Nat.le_trans hB (Nat.le_trans a1.size hW.size))
  have HW := Lib.hid hW1
  clear hW1
  go_enter Try.func100, Try.ntmps100
  go_wp2_with fail
  rw [← HW.out]
  go_region_held3 (fun W' => After W1 W') (first | assumption | exact hself.drew | go_keep)
    ((go_at_call 109; refine (hc _ (by assumption)).mono ?_; rintro e w1 ⟨b, vr, vf, rfl, ha, hb, hh, hs⟩; have HH := Lib.hid hh; have HS := Lib.hid hs; clear hh hs; have hb' := Nat.le_trans (After.le (w := W1) (by assumption)) hb; have ha' := After.trans (by assumption) ha))
  all_goals
    have f1 : w1.frozen? ⟨b, 1, none⟩ = false := by simp [World.frozen?, HH.out]
    have f2 : w1.frozen? ⟨b, 2, none⟩ = false := by simp [World.frozen?, HH.out]
    have c1 : w1.cell? ⟨b, 1, none⟩ = some (.int .i64 0) := cell_of_heap HH.out
    have c2 : w1.cell? ⟨b, 2, none⟩ = some (.bool false) := cell_of_heap HH.out
    go_wp2_with fail
    go_ret2
    have hs1 := a1.size
    exact ⟨_, rfl, after_set2 (a1.trans ha') (by omega) _ _, fun t ht => by obtain rfl := Option.some.inj ht; exact counted (by omega) HH.out HS.out _ _ rfl rfl⟩

theorem word_p12 (w : World) (B : Nat) (hB : B ≤ w.heap.size) : Calls Try.prog 100 #[str [112, 49, 50]] w (WFPost w B (some (.p 1 2))) := by
  obtain ⟨W1, hW1⟩ : ∃ W1, W1 = w.alloc (.cells #[.int .i64 0, .int .i64 0, .bool false, .nilIface, .nilFunc] 73 (0, 0)) := ⟨_, rfl⟩
  have a1 : After w W1 := by rw [hW1]; exact After.new _ _
  have hself := After.refl W1
  have hc := fun W (hW : After W1 W) => arg_any W B 1 2 (by omega) (by omega) (Nat.le_trans hB (Nat.le_trans a1.size hW.size))
  have HW := Lib.hid hW1
  clear hW1
  go_enter Try.func100, Try.ntmps100
  go_wp2_with fail
  rw [← HW.out]
  go_region_held3 (fun W' => After W1 W') (first | assumption | exact hself.drew | go_keep)
    ((go_at_call 109; refine (hc _ (by assumption)).mono ?_; rintro e w1 ⟨b, vr, vf, rfl, ha, hb, hh, hs⟩; have HH := Lib.hid hh; have HS := Lib.hid hs; clear hh hs; have hb' := Nat.le_trans (After.le (w := W1) (by assumption)) hb; have ha' := After.trans (by assumption) ha))
  all_goals
    have f1 : w1.frozen? ⟨b, 1, none⟩ = false := by simp [World.frozen?, HH.out]
    have f2 : w1.frozen? ⟨b, 2, none⟩ = false := by simp [World.frozen?, HH.out]
    have c1 : w1.cell? ⟨b, 1, none⟩ = some (.int .i64 0) := cell_of_heap HH.out
    have c2 : w1.cell? ⟨b, 2, none⟩ = some (.bool false) := cell_of_heap HH.out
    go_wp2_with fail
    go_ret2
    have hs1 := a1.size
    exact ⟨_, rfl, after_set2 (a1.trans ha') (by omega) _ _, fun t ht => by obtain rfl := Option.some.inj ht; exact counted (by omega) HH.out HS.out _ _ rfl rfl⟩

theorem word_p03 (w : World) (B : Nat) (hB : B ≤ w.heap.size) : Calls Try.prog 100 #[str [112, 48, 51]] w (WFPost w B (some (.p 0 3))) := by
  obtain ⟨W1, hW1⟩ : ∃ W1, W1 = w.alloc (.cells #[.int .i64 0, .int .i64 0, .bool false, .nilIface, .nilFunc] 73 (0, 0)) := ⟨_, rfl⟩
  have a1 : After w W1 := by rw [hW1]; exact After.new _ _
  have hself := After.refl W1
  have hc := fun W (hW : After W1 W) => arg_any W B 0 3 (by omega) (by omega) (Nat.le_trans hB (Nat.le_trans a1.size hW.size))
  have HW := Lib.hid hW1
  clear hW1
  go_enter Try.func100, Try.ntmps100
  go_wp2_with fail
  rw [← HW.out]
  go_region_held3 (fun W' => After W1 W') (first | assumption | exact hself.drew | go_keep)
    ((go_at_call 109; refine (hc _ (by assumption)).mono ?_; rintro e w1 ⟨b, vr, vf, rfl, ha, hb, hh, hs⟩; have HH := Lib.hid hh; have HS := Lib.hid hs; clear hh hs; have hb' := Nat.le_trans (After.le (w := W1) (by assumption)) hb; have ha' := After.trans (by assumption) ha))
  all_goals
    have f1 : w1.frozen? ⟨b, 1, none⟩ = false := by simp [World.frozen?, HH.out]
    have f2 : w1.frozen? ⟨b, 2, none⟩ = false := by simp [World.frozen?, HH.out]
    have c1 : w1.cell? ⟨b, 1, none⟩ = some (.int .i64 0) := cell_of_heap HH.out
    have c2 : w1.cell? ⟨b, 2, none⟩ = some (.bool false) := cell_of_heap HH.out
    go_wp2_with fail
    go_ret2
    have hs1 := a1.size
    exact ⟨_, rfl, after_set2 (a1.trans ha') (by omega) _ _, fun t ht => by obtain rfl := Option.some.inj ht; exact counted (by omega) HH.out HS.out _ _ rfl rfl⟩

theorem word_p13 (w : World) (B : Nat) (hB : B ≤ w.heap.size) : Calls Try.prog 100 #[str [112, 49, 51]] w (WFPost w B (some (.p 1 3))) := by
  obtain ⟨W1, hW1⟩ : ∃ W1, W1 = w.alloc (.cells #[.int .i64 0, .int .i64 0, .bool false, .nilIface, .nilFunc] 73 (0, 0)) := ⟨_, rfl⟩
  have a1 : After w W1 := by rw [hW1]; exact After.new _ _
  have hself := After.refl W1
  have hc := fun W (hW : After W1 W) => arg_any W B 1 3 (by omega) (by omega) (Nat.le_trans hB (Nat.le_trans a1.size hW.size))
  have HW := Lib.hid hW1
  clear hW1
  go_enter Try.func100, Try.ntmps100
  go_wp2_with fail
  rw [← HW.out]
  go_region_held3 (fun W' => After W1 W') (first | assumption | exact hself.drew | go_keep)
    ((go_at_call 109; refine (hc _ (by assumption)).mono ?_; rintro e w1 ⟨b, vr, vf, rfl, ha, hb, hh, hs⟩; have HH := Lib.hid hh; have HS := Lib.hid hs; clear hh hs; have hb' := Nat.le_trans (After.le (w := W1) (by assumption)) hb; have ha' := After.trans (by assumption) ha))
  all_goals
    have f1 : w1.frozen? ⟨b, 1, none⟩ = false := by simp [World.frozen?, HH.out]
    have f2 : w1.frozen? ⟨b, 2, none⟩ = false := by simp [World.frozen?, HH.out]
    have c1 : w1.cell? ⟨b, 1, none⟩ = some (.int .i64 0) := cell_of_heap HH.out
    have c2 : w1.cell? ⟨b, 2, none⟩ = some (.bool false) := cell_of_heap HH.out
    go_wp2_with fail
    go_ret2
    have hs1 := a1.size
    exact ⟨_, rfl, after_set2 (a1.trans ha') (by omega) _ _, fun t ht => by obtain rfl := Option.some.inj ht; exact counted (by omega) HH.out HS.out _ _ rfl rfl⟩

theorem word_p23 (w : World) (B : Nat) (hB : B ≤ w.heap.size) : Calls Try.prog 100 #[str [112, 50, 51]] w (WFPost w B (some (.p 2 3))) := by
  obtain ⟨W1, hW1⟩ : ∃ W1, W1 = w.alloc (.cells #[.int .i64 0, .int .i64 0, .bool false, .nilIface, .nilFunc] 73 (0, 0)) := ⟨_, rfl⟩
  have a1 : After w W1 := by rw [hW1]; exact After.new _ _
  have hself := After.refl W1
  have hc := fun W (hW : After W1 W) => arg_any W B 2 3 (by omega) (by omega) (Nat.le_trans hB (Nat.le_trans a1.size hW.size))
  have HW := Lib.hid hW1
  clear hW1
  go_enter Try.func100, Try.ntmps100
  go_wp2_with fail
  rw [← HW.out]
  go_region_held3 (fun W' => After W1 W') (first | assumption | exact hself.drew | go_keep)
    ((go_at_call 109; refine (hc _ (by assumption)).mono ?_; rintro e w1 ⟨b, vr, vf, rfl, ha, hb, hh, hs⟩; have HH := Lib.hid hh; have HS := Lib.hid hs; clear hh hs; have hb' := Nat.le_trans (After.le (w := W1) (by assumption)) hb; have ha' := After.trans (by assumption) ha))
  all_goals
    have f1 : w1.frozen? ⟨b, 1, none⟩ = false := by simp [World.frozen?, HH.out]
    have f2 : w1.frozen? ⟨b, 2, none⟩ = false := by simp [World.frozen?, HH.out]
    have c1 : w1.cell? ⟨b, 1, none⟩ = some (.int .i64 0) := cell_of_heap HH.out
    have c2 : w1.cell? ⟨b, 2, none⟩ = some (.bool false) := cell_of_heap HH.out
    go_wp2_with fail
    go_ret2
    have hs1 := a1.size
    exact ⟨_, rfl, after_set2 (a1.trans ha') (by omega) _ _, fun t ht => by obtain rfl := Option.some.inj ht; exact counted (by omega) HH.out HS.out _ _ rfl rfl⟩

theorem word_none (w : World) (B : Nat) (l : List UInt8) (n0 : (l == [122, 48]) = false) (n1 : (l == [122, 49]) = false) (n2 : (l == [122, 50]) = false) (n3 : (l == [122, 51]) = false) (n4 : (l == [105, 110, 99]) = false) (n5 : (l == [112, 48, 49]) = false) (n6 : (l == [112, 48, 50]) = false) (n7 : (l == [112, 49, 50]) = false) (n8 : (l == [112, 48, 51]) = false) (n9 : (l == [112, 49, 51]) = false) (n10 : (l == [112, 50, 51]) = false) : Calls Try.prog 100 #[str l] w (WFPost w B none) := by
  go_enter Try.func100, Try.ntmps100
  go_wp2_with fail
  go_ret2
  exact ⟨_, rfl, After.new _ _, fun t ht => by cases ht⟩

theorem wordF_any (w : World) (B : Nat) (l : List UInt8) (hB : B ≤ w.heap.size) : Calls Try.prog 100 #[str l] w (WFPost w B (FT.word l)) := by
  by_cases h0 : l = [122, 48]
  · subst h0; exact word_z0 w B hB
  by_cases h1 : l = [122, 49]
  · subst h1; exact word_z1 w B hB
  by_cases h2 : l = [122, 50]
  · subst h2; exact word_z2 w B hB
  by_cases h3 : l = [122, 51]
  · subst h3; exact word_z3 w B hB
  by_cases h4 : l = [105, 110, 99]
  · subst h4; exact word_inc w B hB
  by_cases h5 : l = [112, 48, 49]
  · subst h5; exact word_p01 w B hB
  by_cases h6 : l = [112, 48, 50]
  · subst h6; exact word_p02 w B hB
  by_cases h7 : l = [112, 49, 50]
  · subst h7; exact word_p12 w B hB
  by_cases h8 : l = [112, 48, 51]
  · subst h8; exact word_p03 w B hB
  by_cases h9 : l = [112, 49, 51]
  · subst h9; exact word_p13 w B hB
  by_cases h10 : l = [112, 50, 51]
  · subst h10; exact word_p23 w B hB
  rw [show FT.word l = none by simp [FT.word, h0, h1, h2, h3, h4, h5, h6, h7, h8, h9, h10]]
  exact word_none w B l (by simpa using h0) (by simpa using h1) (by simpa using h2) (by simpa using h3) (by simpa using h4) (by simpa using h5) (by simpa using h6) (by simpa using h7) (by simpa using h8) (by simpa using h9) (by simpa using h10)
end Go.Proofs.Ytjomocjlnjgkeaa
