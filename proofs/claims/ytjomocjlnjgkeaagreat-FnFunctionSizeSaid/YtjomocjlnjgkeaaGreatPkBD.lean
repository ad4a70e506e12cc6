/-
  The program's wordFunction.
-/
import Derived.Test.YtjomocjlnjgkeaaGreatPkBC
namespace Go.Proofs.YtjomocjlnjgkeaaGreat
open Go.RowKit

set_option maxHeartbeats 1000000
set_option maxRecDepth 100000

def WFPost (w : World) (B : Nat) (o : Option FT) (e : Ending) (w' : World) : Prop :=
  ∃ v, e = .returned (.tuple #[v, .bool o.isSome]) ∧ After w w' ∧ ∀ t, o = some t → CV w' B t v

/-- What is counted is a compiled function text. -/
theorem counted {w1 : World} {B b : Nat} {t : FT} {vr vf : Value} (hB : B ≤ b) (hh : w1.heap[b]? = some (.cells #[.int .i64 (FT.arity t : Nat), .int .i64 0, .bool false, vr, vf] 60 (0, 0)))
    (hs : ∀ w'' : World, (∀ k, B ≤ k → k < w1.heap.size → k ≠ b → w''.heap[k]? = w1.heap[k]?) → TV w'' B (FT.real t) vr ∧ FnV w'' B t vf) (n : Int) (tot : Bool) (hn : n = (FT.size t : Nat)) (ht : tot = FT.total t) :
    CV ((w1.setCell ⟨b, 1, none⟩ (.int .i64 n)).setCell ⟨b, 2, none⟩ (.bool tot)) B t (ptr b) := by
  subst hn
  subst ht
  obtain ⟨h1, h2⟩ := hs ((w1.setCell ⟨b, 1, none⟩ (.int .i64 (FT.size t : Nat))).setCell ⟨b, 2, none⟩ (.bool (FT.total t))) (fun k _ _ hk => by
    have hk' : b ≠ k := fun e => hk e.symm
    simp [World.setCell, Array.getElem?_modify, hk'])
  refine ⟨b, vr, vf, rfl, hB, ?_, h1, h2⟩
  simp [World.setCell, Array.getElem?_modify, hh]

theorem After.le {w W : World} (h : After w W) : w.heap.size ≤ W.heap.size := Below.size h

theorem after_set2 {w w1 : World} {b : Nat} (ha : After w w1) (hb : w.heap.size ≤ b) (u v : Value) : After w ((w1.setCell ⟨b, 1, none⟩ u).setCell ⟨b, 2, none⟩ v) :=
  (Below.setCell (p := ⟨b, 1, none⟩) ha hb u).setCell (p := ⟨b, 2, none⟩) hb v

theorem word_z0 (w : World) (B : Nat) (hB : B ≤ w.heap.size) : Calls Tryz.prog 95 #[str [122, 48]] w (WFPost w B (some (.z 0))) := by
  obtain ⟨W1, hW1⟩ : ∃ W1, W1 = w.alloc (.cells #[.int .i64 0, .int .i64 0, .bool false, .nilIface, .nilFunc] 60 (0, 0)) := ⟨_, rfl⟩
  have a1 : After w W1 := by rw [hW1]; exact After.new _ _
  have hc := zeroFn_any W1 B 0 (by omega) (Nat.le_trans hB a1.size)
  have HW := Lib.hid hW1
  clear hW1
  go_enter Tryz.func95, Tryz.ntmps95
  go_wp2_with fail
  rw [← HW.out]
  refine hc.mono ?_
  rintro e w1 ⟨b, vr, vf, rfl, ha, hb, hh, hs⟩
  have f1 : w1.frozen? ⟨b, 1, none⟩ = false := by simp [World.frozen?, hh]
  have f2 : w1.frozen? ⟨b, 2, none⟩ = false := by simp [World.frozen?, hh]
  have c1 : w1.cell? ⟨b, 1, none⟩ = some (.int .i64 0) := cell_of_heap hh
  have c2 : w1.cell? ⟨b, 2, none⟩ = some (.bool false) := cell_of_heap hh
  have HH := Lib.hid hh
  have HS := Lib.hid hs
  clear hh hs hc
  go_wp2_with fail
  go_ret2
  have hs1 := a1.size
  exact ⟨_, rfl, after_set2 (a1.trans ha) (by omega) _ _, fun t ht => by obtain rfl := Option.some.inj ht; exact counted (by omega) HH.out HS.out _ _ rfl rfl⟩

theorem word_z1 (w : World) (B : Nat) (hB : B ≤ w.heap.size) : Calls Tryz.prog 95 #[str [122, 49]] w (WFPost w B (some (.z 1))) := by
  obtain ⟨W1, hW1⟩ : ∃ W1, W1 = w.alloc (.cells #[.int .i64 0, .int .i64 0, .bool false, .nilIface, .nilFunc] 60 (0, 0)) := ⟨_, rfl⟩
  have a1 : After w W1 := by rw [hW1]; exact After.new _ _
  have hc := zeroFn_any W1 B 1 (by omega) (Nat.le_trans hB a1.size)
  have HW := Lib.hid hW1
  clear hW1
  go_enter Tryz.func95, Tryz.ntmps95
  go_wp2_with fail
  rw [← HW.out]
  refine hc.mono ?_
  rintro e w1 ⟨b, vr, vf, rfl, ha, hb, hh, hs⟩
  have f1 : w1.frozen? ⟨b, 1, none⟩ = false := by simp [World.frozen?, hh]
  have f2 : w1.frozen? ⟨b, 2, none⟩ = false := by simp [World.frozen?, hh]
  have c1 : w1.cell? ⟨b, 1, none⟩ = some (.int .i64 0) := cell_of_heap hh
  have c2 : w1.cell? ⟨b, 2, none⟩ = some (.bool false) := cell_of_heap hh
  have HH := Lib.hid hh
  have HS := Lib.hid hs
  clear hh hs hc
  go_wp2_with fail
  go_ret2
  have hs1 := a1.size
  exact ⟨_, rfl, after_set2 (a1.trans ha) (by omega) _ _, fun t ht => by obtain rfl := Option.some.inj ht; exact counted (by omega) HH.out HS.out _ _ rfl rfl⟩

theorem word_z2 (w : World) (B : Nat) (hB : B ≤ w.heap.size) : Calls Tryz.prog 95 #[str [122, 50]] w (WFPost w B (some (.z 2))) := by
  obtain ⟨W1, hW1⟩ : ∃ W1, W1 = w.alloc (.cells #[.int .i64 0, .int .i64 0, .bool false, .nilIface, .nilFunc] 60 (0, 0)) := ⟨_, rfl⟩
  have a1 : After w W1 := by rw [hW1]; exact After.new _ _
  have hc := zeroFn_any W1 B 2 (by omega) (Nat.le_trans hB a1.size)
  have HW := Lib.hid hW1
  clear hW1
  go_enter Tryz.func95, Tryz.ntmps95
  go_wp2_with fail
  rw [← HW.out]
  refine hc.mono ?_
  rintro e w1 ⟨b, vr, vf, rfl, ha, hb, hh, hs⟩
  have f1 : w1.frozen? ⟨b, 1, none⟩ = false := by simp [World.frozen?, hh]
  have f2 : w1.frozen? ⟨b, 2, none⟩ = false := by simp [World.frozen?, hh]
  have c1 : w1.cell? ⟨b, 1, none⟩ = some (.int .i64 0) := cell_of_heap hh
  have c2 : w1.cell? ⟨b, 2, none⟩ = some (.bool false) := cell_of_heap hh
  have HH := Lib.hid hh
  have HS := Lib.hid hs
  clear hh hs hc
  go_wp2_with fail
  go_ret2
  have hs1 := a1.size
  exact ⟨_, rfl, after_set2 (a1.trans ha) (by omega) _ _, fun t ht => by obtain rfl := Option.some.inj ht; exact counted (by omega) HH.out HS.out _ _ rfl rfl⟩

theorem word_z3 (w : World) (B : Nat) (hB : B ≤ w.heap.size) : Calls Tryz.prog 95 #[str [122, 51]] w (WFPost w B (some (.z 3))) := by
  obtain ⟨W1, hW1⟩ : ∃ W1, W1 = w.alloc (.cells #[.int .i64 0, .int .i64 0, .bool false, .nilIface, .nilFunc] 60 (0, 0)) := ⟨_, rfl⟩
  have a1 : After w W1 := by rw [hW1]; exact After.new _ _
  have hc := zeroFn_any W1 B 3 (by omega) (Nat.le_trans hB a1.size)
  have HW := Lib.hid hW1
  clear hW1
  go_enter Tryz.func95, Tryz.ntmps95
  go_wp2_with fail
  rw [← HW.out]
  refine hc.mono ?_
  rintro e w1 ⟨b, vr, vf, rfl, ha, hb, hh, hs⟩
  have f1 : w1.frozen? ⟨b, 1, none⟩ = false := by simp [World.frozen?, hh]
  have f2 : w1.frozen? ⟨b, 2, none⟩ = false := by simp [World.frozen?, hh]
  have c1 : w1.cell? ⟨b, 1, none⟩ = some (.int .i64 0) := cell_of_heap hh
  have c2 : w1.cell? ⟨b, 2, none⟩ = some (.bool false) := cell_of_heap hh
  have HH := Lib.hid hh
  have HS := Lib.hid hs
  clear hh hs hc
  go_wp2_with fail
  go_ret2
  have hs1 := a1.size
  exact ⟨_, rfl, after_set2 (a1.trans ha) (by omega) _ _, fun t ht => by obtain rfl := Option.some.inj ht; exact counted (by omega) HH.out HS.out _ _ rfl rfl⟩

theorem word_inc (w : World) (B : Nat) (hB : B ≤ w.heap.size) : Calls Tryz.prog 95 #[str [105, 110, 99]] w (WFPost w B (some .inc)) := by
  obtain ⟨W1, hW1⟩ : ∃ W1, W1 = w.alloc (.cells #[.int .i64 0, .int .i64 0, .bool false, .nilIface, .nilFunc] 60 (0, 0)) := ⟨_, rfl⟩
  have a1 : After w W1 := by rw [hW1]; exact After.new _ _
  have hc := next_any W1 B (Nat.le_trans hB a1.size)
  have HW := Lib.hid hW1
  clear hW1
  go_enter Tryz.func95, Tryz.ntmps95
  go_wp2_with fail
  rw [← HW.out]
  refine hc.mono ?_
  rintro e w1 ⟨b, vr, vf, rfl, ha, hb, hh, hs⟩
  have f1 : w1.frozen? ⟨b, 1, none⟩ = false := by simp [World.frozen?, hh]
  have f2 : w1.frozen? ⟨b, 2, none⟩ = false := by simp [World.frozen?, hh]
  have c1 : w1.cell? ⟨b, 1, none⟩ = some (.int .i64 0) := cell_of_heap hh
  have c2 : w1.cell? ⟨b, 2, none⟩ = some (.bool false) := cell_of_heap hh
  have HH := Lib.hid hh
  have HS := Lib.hid hs
  clear hh hs hc
  go_wp2_with fail
  go_ret2
  have hs1 := a1.size
  exact ⟨_, rfl, after_set2 (a1.trans ha) (by omega) _ _, fun t ht => by obtain rfl := Option.some.inj ht; exact counted (by omega) HH.out HS.out _ _ rfl rfl⟩

theorem word_p01 (w : World) (B : Nat) (hB : B ≤ w.heap.size) : Calls Tryz.prog 95 #[str [112, 48, 49]] w (WFPost w B (some (.p 0 1))) := by
  obtain ⟨W1, hW1⟩ : ∃ W1, W1 = w.alloc (.cells #[.int .i64 0, .int .i64 0, .bool false, .nilIface, .nilFunc] 60 (0, 0)) := ⟨_, rfl⟩
  have a1 : After w W1 := by rw [hW1]; exact After.new _ _
  have hself := After.refl W1
  have hc := fun W (hW : After W1 W) => arg_any W B 0 1 (by omega) (by omega) (Nat.le_trans hB (Nat.le_trans a1.size hW.size))
  have HW := Lib.hid hW1
  clear hW1
  go_enter Tryz.func95, Tryz.ntmps95
  go_wp2_with fail
  rw [← HW.out]
  go_region_held3 (fun W' => After W1 W') (first | assumption | exact hself.drew | go_keep)
    ((go_at_call 109; refine (hc _ (by assumption)).mono ?_; rintro e w1 ⟨b, vr, vf, rfl, ha, hb, hh, hs⟩; have HH := Lib.hid hh; have HS := Lib.hid hs; clear hh hs; have hb' := Nat.le_trans (After.le (w := W1) (by assumption)) hb; have ha' := After.trans (by assumption) ha))
  all_goals
    have f1 : w1.frozen? ⟨b, 1, none⟩ = false := by simp [World.frozen?, HH.out]
    have f2 : w1.frozen? ⟨b, 2, none⟩ = false := by simp [World.frozen?, HH.out]
    have c1 : w1.cell? ⟨b, 1, none⟩ = some (.int .i64 0) := cell_of_heap HH.out
    have c2 : w1.cell? ⟨b, 2, none⟩ = some (.bool false) := cell_of_heap HH.out
    go_wp2_with fail
    go_ret2
    have hs1 := a1.size
    exact ⟨_, rfl, after_set2 (a1.trans ha') (by omega) _ _, fun t ht => by obtain rfl := Option.some.inj ht; exact counted (by omega) HH.out HS.out _ _ rfl rfl⟩

theorem word_p02 (w : World) (B : Nat) (hB : B ≤ w.heap.size) : Calls Tryz.prog 95 #[str [112, 48, 50]] w (WFPost w B (some (.p 0 2))) := by
  obtain ⟨W1, hW1⟩ : ∃ W1, W1 = w.alloc (.cells #[.int .i64 0, .int .i64 0, .bool false, .nilIface, .nilFunc] 60 (0, 0)) := ⟨_, rfl⟩
  have a1 : After w W1 := by rw [hW1]; exact After.new _ _
  have hself := After.refl W1
  have hc := fun W (hW : After W1 W) => arg_any W B 0 2 (by omega) (by omega) (Nat.le_trans hB (Nat.le_trans a1.size hW.size))
  have HW := Lib.hid hW1
  clear hW1
  go_enter Tryz.func95, Tryz.ntmps95
  go_wp2_with fail
  rw [← HW.out]
  go_region_held3 (fun W' => After W1 W') (first | assumption | exact hself.drew | go_keep)
    ((go_at_call 109; refine (hc _ (by assumption)).mono ?_; rintro e w1 ⟨b, vr, vf, rfl, ha, hb, hh, hs⟩; have HH := Lib.hid hh; have HS := Lib.hid hs; clear hh hs; have hb' := Nat.le_trans (After.le (w := W1) (by assumption)) hb; have ha' := After.trans (by assumption) ha))
  all_goals
    have f1 : w1.frozen? ⟨b, 1, none⟩ = false := by simp [World.frozen?, HH.out]
    have f2 : w1.frozen? ⟨b, 2, none⟩ = false := by simp [World.frozen?, HH.out]
    have c1 : w1.cell? ⟨b, 1, none⟩ = some (.int .i64 0) := cell_of_heap HH.out
    have c2 : w1.cell? ⟨b, 2, none⟩ = some (.bool false) := cell_of_heap HH.out
    go_wp2_with fail
    go_ret2
    have hs1 := a1.size
    exact ⟨_, rfl, after_set2 (a1.trans ha') (by omega) _ _, fun t ht => by obtain rfl := Option.some.inj ht; exact counted (by omega) HH.out HS.out _ _ rfl rfl⟩

theorem word_p12 (w : World) (B : Nat) (hB : B ≤ w.heap.size) : Calls Tryz.prog 95 #[str [112, 49, 50]] w (WFPost w B (some (.p 1 2))) := by
  obtain ⟨W1, hW1⟩ : ∃ W1, W1 = w.alloc (.cells #[.int .i64 0, .int .i64 0, .bool false, .nilIface, .nilFunc] 60 (0, 0)) := ⟨_, rfl⟩
  have a1 : After w W1 := by rw [hW1]; exact After.new _ _
  have hself := After.refl W1
  have hc := fun W (hW : After W1 W) => arg_any W B 1 2 (by omega) (by omega) (Nat.le_trans hB (Nat.le_trans a1.size hW.size))
  have HW := Lib.hid hW1
  clear hW1
  go_enter Tryz.func95, Tryz.ntmps95
  go_wp2_with fail
  rw [← HW.out]
  go_region_held3 (fun W' => After W1 W') (first | assumption | exact hself.drew | go_keep)
    ((go_at_call 109; refine (hc _ (by assumption)).mono ?_; rintro e w1 ⟨b, vr, vf, rfl, ha, hb, hh, hs⟩; have HH := Lib.hid hh; have HS := Lib.hid hs; clear hh hs; have hb' := Nat.le_trans (After.le (w := W1) (by assumption)) hb; have ha' := After.trans (by assumption) ha))
  all_goals
    have f1 : w1.frozen? ⟨b, 1, none⟩ = false := by simp [World.frozen?, HH.out]
    have f2 : w1.frozen? ⟨b, 2, none⟩ = false := by simp [World.frozen?, HH.out]
    have c1 : w1.cell? ⟨b, 1, none⟩ = some (.int .i64 0) := cell_of_heap HH.out
    have c2 : w1.cell? ⟨b, 2, none⟩ = some (.bool false) := cell_of_heap HH.out
    go_wp2_with fail
    go_ret2
    have hs1 := a1.size
    exact ⟨_, rfl, after_set2 (a1.trans ha') (by omega) _ _, fun t ht => by obtain rfl := Option.some.inj ht; exact counted (by omega) HH.out HS.out _ _ rfl rfl⟩

theorem word_p03 (w : World) (B : Nat) (hB : B ≤ w.heap.size) : Calls Tryz.prog 95 #[str [112, 48, 51]] w (WFPost w B (some (.p 0 3))) := by
  obtain ⟨W1, hW1⟩ : ∃ W1, W1 = w.alloc (.cells #[.int .i64 0, .int .i64 0, .bool false, .nilIface, .nilFunc] 60 (0, 0)) := ⟨_, rfl⟩
  have a1 : After w W1 := by rw [hW1]; exact After.new _ _
  have hself := After.refl W1
  have hc := fun W (hW : After W1 W) => arg_any W B 0 3 (by omega) (by omega) (Nat.le_trans hB (Nat.le_trans a1.size hW.size))
  have HW := Lib.hid hW1
  clear hW1
  go_enter Tryz.func95, Tryz.ntmps95
  go_wp2_with fail
  rw [← HW.out]
  go_region_held3 (fun W' => After W1 W') (first | assumption | exact hself.drew | go_keep)
    ((go_at_call 109; refine (hc _ (by assumption)).mono ?_; rintro e w1 ⟨b, vr, vf, rfl, ha, hb, hh, hs⟩; have HH := Lib.hid hh; have HS := Lib.hid hs; clear hh hs; have hb' := Nat.le_trans (After.le (w := W1) (by assumption)) hb; have ha' := After.trans (by assumption) ha))
  all_goals
    have f1 : w1.frozen? ⟨b, 1, none⟩ = false := by simp [World.frozen?, HH.out]
    have f2 : w1.frozen? ⟨b, 2, none⟩ = false := by simp [World.frozen?, HH.out]
    have c1 : w1.cell? ⟨b, 1, none⟩ = some (.int .i64 0) := cell_of_heap HH.out
    have c2 : w1.cell? ⟨b, 2, none⟩ = some (.bool false) := cell_of_heap HH.out
    go_wp2_with fail
    go_ret2
    have hs1 := a1.size
    exact ⟨_, rfl, after_set2 (a1.trans ha') (by omega) _ _, fun t ht => by obtain rfl := Option.some.inj ht; exact counted (by omega) HH.out HS.out _ _ rfl rfl⟩

theorem word_p13 (w : World) (B : Nat) (hB : B ≤ w.heap.size) : Calls Tryz.prog 95 #[str [112, 49, 51]] w (WFPost w B (some (.p 1 3))) := by
  obtain ⟨W1, hW1⟩ : ∃ W1, W1 = w.alloc (.cells #[.int .i64 0, .int .i64 0, .bool false, .nilIface, .nilFunc] 60 (0, 0)) := ⟨_, rfl⟩
  have a1 : After w W1 := by rw [hW1]; exact After.new _ _
  have hself := After.refl W1
  have hc := fun W (hW : After W1 W) => arg_any W B 1 3 (by omega) (by omega) (Nat.le_trans hB (Nat.le_trans a1.size hW.size))
  have HW := Lib.hid hW1
  clear hW1
  go_enter Tryz.func95, Tryz.ntmps95
  go_wp2_with fail
  rw [← HW.out]
  go_region_held3 (fun W' => After W1 W') (first | assumption | exact hself.drew | go_keep)
    ((go_at_call 109; refine (hc _ (by assumption)).mono ?_; rintro e w1 ⟨b, vr, vf, rfl, ha, hb, hh, hs⟩; have HH := Lib.hid hh; have HS := Lib.hid hs; clear hh hs; have hb' := Nat.le_trans (After.le (w := W1) (by assumption)) hb; have ha' := After.trans (by assumption) ha))
  all_goals
    have f1 : w1.frozen? ⟨b, 1, none⟩ = false := by simp [World.frozen?, HH.out]
    have f2 : w1.frozen? ⟨b, 2, none⟩ = false := by simp [World.frozen?, HH.out]
    have c1 : w1.cell? ⟨b, 1, none⟩ = some (.int .i64 0) := cell_of_heap HH.out
    have c2 : w1.cell? ⟨b, 2, none⟩ = some (.bool false) := cell_of_heap HH.out
    go_wp2_with fail
    go_ret2
    have hs1 := a1.size
    exact ⟨_, rfl, after_set2 (a1.trans ha') (by omega) _ _, fun t ht => by obtain rfl := Option.some.inj ht; exact counted (by omega) HH.out HS.out _ _ rfl rfl⟩

theorem word_p23 (w : World) (B : Nat) (hB : B ≤ w.heap.size) : Calls Tryz.prog 95 #[str [112, 50, 51]] w (WFPost w B (some (.p 2 3))) := by
  obtain ⟨W1, hW1⟩ : ∃ W1, W1 = w.alloc (.cells #[.int .i64 0, .int .i64 0, .bool false, .nilIface, .nilFunc] 60 (0, 0)) := ⟨_, rfl⟩
  have a1 : After w W1 := by rw [hW1]; exact After.new _ _
  have hself := After.refl W1
  have hc := fun W (hW : After W1 W) => arg_any W B 2 3 (by omega) (by omega) (Nat.le_trans hB (Nat.le_trans a1.size hW.size))
  have HW := Lib.hid hW1
  clear hW1
  go_enter Tryz.func95, Tryz.ntmps95
  go_wp2_with fail
  rw [← HW.out]
  go_region_held3 (fun W' => After W1 W') (first | assumption | exact hself.drew | go_keep)
    ((go_at_call 109; refine (hc _ (by assumption)).mono ?_; rintro e w1 ⟨b, vr, vf, rfl, ha, hb, hh, hs⟩; have HH := Lib.hid hh; have HS := Lib.hid hs; clear hh hs; have hb' := Nat.le_trans (After.le (w := W1) (by assumption)) hb; have ha' := After.trans (by assumption) ha))
  all_goals
    have f1 : w1.frozen? ⟨b, 1, none⟩ = false := by simp [World.frozen?, HH.out]
    have f2 : w1.frozen? ⟨b, 2, none⟩ = false := by simp [World.frozen?, HH.out]
    have c1 : w1.cell? ⟨b, 1, none⟩ = some (.int .i64 0) := cell_of_heap HH.out
    have c2 : w1.cell? ⟨b, 2, none⟩ = some (.bool false) := cell_of_heap HH.out
    go_wp2_with fail
    go_ret2
    have hs1 := a1.size
    exact ⟨_, rfl, after_set2 (a1.trans ha') (by omega) _ _, fun t ht => by obtain rfl := Option.some.inj ht; exact counted (by omega) HH.out HS.out _ _ rfl rfl⟩

theorem word_none (w : World) (B : Nat) (l : List UInt8) (n0 : (l == [122, 48]) = false) (n1 : (l == [122, 49]) = false) (n2 : (l == [122, 50]) = false) (n3 : (l == [122, 51]) = false) (n4 : (l == [105, 110, 99]) = false) (n5 : (l == [112, 48, 49]) = false) (n6 : (l == [112, 48, 50]) = false) (n7 : (l == [112, 49, 50]) = false) (n8 : (l == [112, 48, 51]) = false) (n9 : (l == [112, 49, 51]) = false) (n10 : (l == [112, 50, 51]) = false) : Calls Tryz.prog 95 #[str l] w (WFPost w B none) := by
  go_enter Tryz.func95, Tryz.ntmps95
  go_wp2_with fail
  go_ret2
  exact ⟨_, rfl, After.new _ _, fun t ht => by cases ht⟩

theorem wordF_any (w : World) (B : Nat) (l : List UInt8) (hB : B ≤ w.heap.size) : Calls Tryz.prog 95 #[str l] w (WFPost w B (FT.word l)) := by
  by_cases h0 : l = [122, 48]
  · subst h0; exact word_z0 w B hB
  by_cases h1 : l = [122, 49]
  · subst h1; exact word_z1 w B hB
  by_cases h2 : l = [122, 50]
  · subst h2; exact word_z2 w B hB
  by_cases h3 : l = [122, 51]
  · subst h3; exact word_z3 w B hB
  by_cases h4 : l = [105, 110, 99]
  · subst h4; exact word_inc w B hB
  by_cases h5 : l = [112, 48, 49]
  · subst h5; exact word_p01 w B hB
  by_cases h6 : l = [112, 48, 50]
  · subst h6; exact word_p02 w B hB
  by_cases h7 : l = [112, 49, 50]
  · subst h7; exact word_p12 w B hB
  by_cases h8 : l = [112, 48, 51]
  · subst h8; exact word_p03 w B hB
  by_cases h9 : l = [112, 49, 51]
  · subst h9; exact word_p13 w B hB
  by_cases h10 : l = [112, 50, 51]
  · subst h10; exact word_p23 w B hB
  rw [show FT.word l = none by simp [FT.word, h0, h1, h2, h3, h4, h5, h6, h7, h8, h9, h10]]
  exact word_none w B l (by simpa using h0) (by simpa using h1) (by simpa using h2) (by simpa using h3) (by simpa using h4) (by simpa using h5) (by simpa using h6) (by simpa using h7) (by simpa using h8) (by simpa using h9) (by simpa using h10)
end Go.Proofs.YtjomocjlnjgkeaaGreat

namespace Go.Proofs.YtjomocjlnjgkeaaGreat
open Go.RowKit

set_option maxHeartbeats 2000000
set_option maxRecDepth 100000

/-- A slice of compiled function texts. -/
def PartsV (w : World) (B : Nat) (sv : Value) (ps : List FT) : Prop :=
  (ps = [] ∧ ∃ ao cap, sv = .slice ao 0 cap) ∨ ∃ s o cap cs T fr, sv = .slice (some ⟨s, o, none⟩) ps.length cap ∧ ps.length ≤ cap ∧ B ≤ s ∧ w.heap[s]? = some (.cells cs T fr) ∧ ∀ j (h : j < ps.length), ∃ v, cs[o + j]? = some v ∧ CV w B ps[j] v

theorem PartsV.after {w W : World} {B : Nat} {sv : Value} {ps : List FT} (h : PartsV w B sv ps) (ha : After w W) : PartsV W B sv ps := by
  rcases h with h | ⟨s, o, cap, cs, T, fr, hv, hl, hs, hh, hc⟩
  · exact Or.inl h
  · exact Or.inr ⟨s, o, cap, cs, T, fr, hv, hl, hs, ha.heap hh, fun j hj => by obtain ⟨v, h1, h2⟩ := hc j hj; exact ⟨v, h1, h2.after ha⟩⟩

theorem PartsV.at {w : World} {B : Nat} {sv : Value} {ps : List FT} (h : PartsV w B sv ps) (j : Nat) (hj : j < ps.length) : ∃ s o cap v, sv = .slice (some ⟨s, o, none⟩) ps.length cap ∧ ps.length ≤ cap ∧ w.cell? ⟨s, o + j, none⟩ = some v ∧ CV w B ps[j] v := by
  rcases h with ⟨h, _⟩ | ⟨s, o, cap, cs, T, fr, hv, hl, hs, hh, hc⟩
  · rw [h] at hj; simp at hj
  · obtain ⟨v, h1, h2⟩ := hc j hj
    exact ⟨s, o, cap, v, hv, hl, by rw [cell_of_heap hh]; exact h1, h2⟩

theorem PartsV.form {w : World} {B : Nat} {sv : Value} {ps : List FT} (h : PartsV w B sv ps) : ∃ ao cap, sv = .slice ao ps.length cap := by
  rcases h with ⟨rfl, ao, cap, rfl⟩ | ⟨s, o, cap, cs, T, fr, rfl, _⟩
  · exact ⟨_, _, rfl⟩
  · exact ⟨_, _, rfl⟩

/-- The fields of a compiled function text, in all later worlds. -/
theorem CV.fields {w : World} {B : Nat} {t : FT} {v : Value} (h : CV w B t v) : ∃ b T x vf, v = ptr b ∧ B ≤ b ∧ w.heap[b]? = some (.cells #[.int .i64 (FT.arity t : Nat), .int .i64 (FT.size t : Nat), .bool (FT.total t), .iface T x, vf] 60 (0, 0)) ∧
    TV w B (FT.real t) (.iface T x) ∧ FnV w B t vf := by
  obtain ⟨b, vr, vf, hv, hb, hh, ht, hf⟩ := h
  obtain ⟨T, x, rfl, _⟩ := ht.asks
  exact ⟨b, T, x, vf, hv, hb, hh, ht, hf⟩

def compL (F : Tm) (a : Nat) (gs : List FT) : Tm := gs.foldl (fun acc g => Tm.app acc (FT.appL (FT.real g) (FT.vs a))) F

theorem compL_snoc (F : Tm) (a : Nat) (gs : List FT) (g : FT) : compL F a (gs ++ [g]) = Tm.app (compL F a gs) (FT.appL (FT.real g) (FT.vs a)) := by simp [compL, List.foldl_append]

theorem appL_size (F : Tm) (a : Nat) (ha : a ≤ 3) : (FT.appL F (FT.vs a)).size = F.size + a := by
  match a, ha with
  | 0, _ => rfl
  | 1, _ => rfl
  | 2, _ => rfl
  | 3, _ => rfl

theorem vs_sum (a : Nat) (ha : a ≤ 3) : ((FT.vs a).map Tm.size).sum = a := by
  match a, ha with
  | 0, _ => rfl
  | 1, _ => rfl
  | 2, _ => rfl
  | 3, _ => rfl

theorem vs_ns (a : Nat) : (FT.ns a).map Tm.nm = FT.vs a := by simp [FT.ns, FT.vs, List.map_take, Tm.X, Tm.Y, Tm.Z]
theorem vs_len (a : Nat) : (FT.vs a).length ≤ 3 := by simp [FT.vs]; omega

theorem compL_size (F : Tm) (a : Nat) (ha : a ≤ 3) : ∀ gs : List FT, (compL F a gs).size = F.size + (gs.map fun g => (FT.real g).size + a).sum := by
  intro gs
  unfold compL
  induction gs generalizing F with
  | nil => simp
  | cons g gs ih => rw [List.foldl_cons, ih]; simp only [Tm.size, appL_size _ a ha, List.map_cons, List.sum_cons]; omega

theorem le_sum {n : Nat} : ∀ {l : List Nat}, n ∈ l → n ≤ l.sum
  | [], h => by cases h
  | m :: l, h => by
    rw [List.sum_cons]
    rcases List.mem_cons.1 h with rfl | h
    · omega
    · have := le_sum h; omega

theorem compL_le (F : Tm) (a : Nat) (ha : a ≤ 3) (gs : List FT) (k : Nat) : (compL F a (gs.take k)).size ≤ (compL F a gs).size := by
  rw [compL_size F a ha, compL_size F a ha, List.map_take]
  have := sum_take (gs.map fun g => (FT.real g).size + a) k
  omega

theorem ArgsT.less {w : World} {B B' : Nat} {sv : Value} {us : List Tm} (h : ArgsT w B sv us) (hB : B' ≤ B) : ArgsT w B' sv us := by
  rcases h with h | ⟨b, o, cap, hv, hc⟩
  · exact Or.inl h
  · exact Or.inr ⟨b, o, cap, hv, fun j hj => by obtain ⟨v, h1, h2⟩ := hc j hj; exact ⟨v, h1, h2.less hB⟩⟩

theorem compR_any (w : World) (B a : Nat) (f : FT) (g0 : FT) (gs : List FT) (pf sv : Value) (hf : CV w B f pf) (hgs : PartsV w B sv (g0 :: gs)) (hB : B ≤ w.heap.size) (ha : FT.arity g0 = a) (ha3 : a ≤ 3) (hn : gs.length ≤ 5)
    (hz : (compL (FT.real f) a (g0 :: gs)).size ≤ 3900) :
    Calls Tryz.prog 128 #[pf, sv] w (TermPost w B (FT.absAll (FT.ns a) (compL (FT.real f) a (g0 :: gs)))) := by
  obtain ⟨ps, hps⟩ : ∃ ps, ps = g0 :: gs := ⟨_, rfl⟩
  have hpl : ps.length = gs.length + 1 := by rw [hps]; rfl
  have hp0 : ps[0]'(by omega) = g0 := by simp [hps]
  rw [← hps] at hgs hz ⊢
  clear hps
  obtain ⟨W1, hW1⟩ : ∃ W1, W1 = w.alloc (.cells #[str [120], str [121], str [122]] 9 (0, 0)) := ⟨_, rfl⟩
  have a1 : After w W1 := by rw [hW1]; exact After.new _ _
  have hN : ArgN W1 w.heap.size a := by rw [hW1]; exact heap_top _ _
  have h1 := argNames_any w a ha3
  rw [← hW1] at h1
  obtain ⟨bf, Tf, xf, vf, rfl, hbf, hhf, htf, _⟩ := hf.fields
  obtain ⟨s, o, cap, v0, rfl, hcap, hc0, hv0⟩ := hgs.at 0 (by omega)
  rw [hp0] at hv0
  rw [Nat.add_zero] at hc0
  obtain ⟨b0, T0, x0, vf0, rfl, hb0, hh0, _, _⟩ := hv0.fields
  rw [ha] at hh0
  have c00 := cell_of_heap (i := 0) hh0
  have cf3 := cell_later' (cell_of_heap (i := 3) hhf) W1 a1
  have hlen1 : (0 : Int) < (ps.length : Int) := by omega
  have HT := Lib.hid (htf.below a1)
  have HP := Lib.hid hgs
  have HN := Lib.hid hN
  have hB1 : B ≤ W1.heap.size := Nat.le_trans hB a1.size
  have hpl6 : ps.length ≤ 6 := by omega
  clear hW1 hf hhf htf hgs hv0 hh0 hN hpl hp0 hn
  go_enter Tryz.func128, Tryz.ntmps128
  go_wp2_with (go_at_call 120; refine h1.mono ?_; rintro e w1 ⟨rfl, rfl⟩; clear h1 c00 hc0)
  go_loopw [6, 8, 22] (fun whole _ i wr => ∃ k : Nat, i = .int .i64 k ∧ k ≤ ps.length ∧ Hid (TV wr B (compL (FT.real f) a (ps.take k)) whole) ∧ After w1 wr) (fun _ _ i _ => ps.length - (intOf i).toNat)
  case atStart => exact ⟨0, rfl, Nat.zero_le _, HT, After.refl _⟩
  case round =>
    obtain ⟨k, rfl, hk, ht, hr⟩ := hrel
    clear cf3
    by_cases hlt : k < ps.length
    · obtain ⟨T1, x1, rfl, _⟩ := TV.asks ht.out
      obtain ⟨s', o', cap', v, hsv, _, hck, hv⟩ := (HP.out.after (a1.trans hr)).at k hlt
      injection hsv with e1 e2 e3
      injection e1 with e1
      injection e1 with e1 e4
      subst e1
      subst e4
      subst e3
      obtain ⟨b, T, x, vfk, rfl, hb, hh, htk, _⟩ := hv.fields
      have c3 : ∀ W, After wr W → W.cell? ⟨b, 3, none⟩ = some (.iface T x) := cell_later' (cell_of_heap (i := 3) hh)
      have hBr := Nat.le_trans hB1 hr.size
      have hnm := fun W (hW : After wr W) => nameTerms_any W w.heap.size 3 (FT.ns a) ((show ArgN W w.heap.size a from (hr.trans hW).heap HN.out).cells ha3) (by rw [ns_len a ha3]; omega)
      rw [ns_len a ha3, vs_ns] at hnm
      have hself := After.refl wr
      have hsz := compL_size (FT.real f) a ha3 ps
      have hszk := compL_size (FT.real f) a ha3 (ps.take k)
      have hgk : (FT.real ps[k]).size + a ≤ (ps.map fun g => (FT.real g).size + a).sum := le_sum (List.mem_map.2 ⟨ps[k], List.getElem_mem hlt, rfl⟩)
      have hGz : (FT.real ps[k]).size + a ≤ 3900 := by omega
      have hAz := Nat.le_trans (compL_le (FT.real f) a ha3 ps k) hz
      have hvs := vs_sum a ha3
      have hvl := vs_len a
      have hap := appL_size (FT.real ps[k]) a ha3
      have hsn : ps.take (k + 1) = ps.take k ++ [ps[k]] := by simp
      have hsn2 := congrArg (fun l => compL (FT.real f) a l) hsn
      simp only [compL_snoc] at hsn2
      have HT1 := Lib.hid ht.out
      have HTK := Lib.hid htk
      have HSN := Lib.hid hsn2
      have hkl : (k : Int) < (ps.length : Int) := by omega
      clear ht htk hsn hsn2 hsz hszk hlen1 hh
      generalize hA : compL (FT.real f) a (ps.take k) = A at *
      generalize hG : FT.real ps[k] = G at *
      go_wp2_with fail
      go_region_held3 (fun W' => After wr W') (first | assumption | exact hself.drew | go_keep)
        (first
          | (go_at_call 139; refine (hnm _ (by first | assumption | exact hself.drew)).mono ?_; rintro e x1 ⟨sv1, rfl, hb1, hv1⟩; obtain ⟨ao1, cap1, rfl⟩ := hv1.form; have hb1' := After.trans (by first | assumption | exact hself.drew) hb1; have HV1 := Lib.hid (hv1.less (Nat.le_trans hBr (After.le (by first | assumption | exact hself.drew)))); clear hv1)
          | (go_at_call 60; refine (applyAll_sl x1 B G _ _ (FT.vs a) HV1.out (HTK.out.below hb1') (Nat.le_trans hBr hb1'.size) (by omega) (by omega)).mono ?_; rintro e x2 ⟨v2, rfl, hb2, ht2⟩; obtain ⟨T2, y2, rfl, _⟩ := ht2.asks; have HT2 := Lib.hid ht2; clear ht2; have hb2' := hb1'.trans hb2)
          | (go_at_call 85; refine (apply_any x2 B A (FT.appL G (FT.vs a)) _ _ (HT1.out.below hb2') HT2.out (Nat.le_trans hBr hb2'.size) (by omega)).mono ?_; rintro e x3 ⟨v3, rfl, hb3, ht3⟩; obtain ⟨T3, y3, rfl, _⟩ := ht3.asks; have HT3 := Lib.hid ht3; clear ht3; have hb3' := hb2'.trans hb3))
      all_goals
        go_wp2_with fail
        go_roundw
        case rel => exact ⟨k + 1, by go_num, by omega, by rw [HSN.out]; exact HT3, hr.trans hb3'⟩
        case measure => simp [intOf]; omega
    · obtain rfl : k = ps.length := by omega
      obtain ⟨T1, x1, rfl, _⟩ := TV.asks ht.out
      rw [List.take_length] at ht
      have hna := fun W (hW : After wr W) => absAll_any W B (FT.ns a) _ _ _ (((show ArgN W w.heap.size a from (hr.trans hW).heap HN.out)).strs ha3) (ht.out.below hW) (Nat.le_trans hB1 (hr.trans hW).size) (by rw [ns_len a ha3]; omega) hz
      unfold TermPost at hna
      have hself := After.refl wr
      clear ht hlen1
      go_wp2_with (go_at_call 119; refine (hna _ (by first | assumption | exact hself.drew)).mono ?_; rintro e x1 ⟨v1, rfl, hb1, hv1⟩; have HV := Lib.hid hv1; clear hv1)
      go_ret
      exact ⟨_, rfl, a1.trans (hr.trans hb1), HV.out⟩
end Go.Proofs.YtjomocjlnjgkeaaGreat

namespace Go.Proofs.YtjomocjlnjgkeaaGreat
open Go.RowKit

set_option maxHeartbeats 2000000
set_option maxRecDepth 100000

theorem nm2_after (W : World) (B : Nat) (x y : List UInt8) (hB : B ≤ W.heap.size) :
    After W ((W.alloc (.cells #[str x] 100 (0, 0))).alloc (.cells #[str y] 100 (0, 0))) ∧
    TV ((W.alloc (.cells #[str x] 100 (0, 0))).alloc (.cells #[str y] 100 (0, 0))) B (.nm x) (.iface 96 (ptr W.heap.size)) ∧
    TV ((W.alloc (.cells #[str x] 100 (0, 0))).alloc (.cells #[str y] 100 (0, 0))) B (.nm y) (.iface 96 (ptr (W.heap.size + 1))) :=
  ⟨(After.new _ _).alloc _, nm_val (heap_below2 W _ _) hB, nm_val (heap_top2 W _ _) (by omega)⟩

theorem strs2 (W : World) (x y : List UInt8) : StrsB (W.alloc (.cells #[str x, str y] 9 (0, 0))).heap.size (W.alloc (.cells #[str x, str y] 9 (0, 0))) (.slice (some ⟨W.heap.size, 0, none⟩) 2 2) [x, y] := by
  refine Or.inr ⟨W.heap.size, 0, 2, rfl, by simp, fun j hj => ?_⟩
  rw [Nat.zero_add, cell_of_heap (heap_top W _)]
  match j, hj with
  | 0, _ => rfl
  | 1, _ => rfl

theorem StrsB.after {b b' : Nat} {w W : World} {sv : Value} {ns : List (List UInt8)} (h : StrsB b w sv ns) (ha : After w W) (hb : b ≤ b') : StrsB b' W sv ns := by
  rcases h with h | ⟨g, o, c, hv, hg, hc⟩
  · exact Or.inl h
  · exact Or.inr ⟨g, o, c, hv, Nat.lt_of_lt_of_le hg hb, fun j hj => cell_later' (hc j hj) _ ha⟩

theorem size_absAll (xs : List (List UInt8)) (t : Tm) (h5 : xs.length < 5) (hz : t.size ≤ 3900) : (FT.absAll xs t).size ≤ 1000000 := absR_small _ _ (by simpa using h5) hz

theorem seaR_any (w : World) (B a : Nat) (f : FT) (pf : Value) (hf : CV w B f pf) (hB : B ≤ w.heap.size) (ha : FT.arity f = a + 1) (ha2 : a ≤ 2) (hz : (FT.real f).size ≤ 3000)
    (hy : (FT.absAll [[117], [118]] (FT.seaB (FT.real f) a)).size ≤ 3800) :
    Calls Tryz.prog 133 #[pf] w (TermPost w B (FT.seaT (FT.real f) a)) := by
  obtain ⟨bf, Tf, xf, vf, rfl, hbf, hhf, htf, _⟩ := hf.fields
  rw [ha] at hhf
  obtain ⟨n, hn⟩ : ∃ n : Nat, n = a + 1 := ⟨_, rfl⟩
  rw [← hn] at hhf
  obtain ⟨W1, hW1⟩ : ∃ W1, W1 = w.alloc (.cells #[str [120], str [121], str [122]] 9 (0, 0)) := ⟨_, rfl⟩
  have a1 : After w W1 := by rw [hW1]; exact After.new _ _
  have hN1 : ArgN W1 w.heap.size a := by rw [hW1]; exact heap_top _ _
  have h1 : ∀ m : Int, m = a → Calls Tryz.prog 120 #[.int .i64 m] w fun e w' => e = .returned (.slice (some ⟨w.heap.size, 0, none⟩) a 3) ∧ w' = W1 := fun m hm => by
    rw [hm, hW1]; exact argNames_any w a (by omega)
  have hB1 := Nat.le_trans hB a1.size
  obtain ⟨a2, hU, hV⟩ := nm2_after W1 B [117] [118] hB1
  obtain ⟨W2, hW2⟩ : ∃ W2, W2 = (W1.alloc (.cells #[str [117]] 100 (0, 0))).alloc (.cells #[str [118]] 100 (0, 0)) := ⟨_, rfl⟩
  rw [← hW2] at a2 hU hV
  have a12 := a1.trans a2
  have c0 : w.cell? ⟨bf, 0, none⟩ = some (.int .i64 n) := cell_of_heap (i := 0) hhf
  have c3 : W2.cell? ⟨bf, 3, none⟩ = some (.iface Tf xf) := cell_later' (cell_of_heap (i := 3) hhf) W2 a12
  rw [hW2] at c3
  have hF := htf.below a12
  generalize hG : FT.real f = F at *
  have k1 := apply_any W2 B F FT.V _ _ hF hV (Nat.le_trans hB a12.size) (by simp [FT.V, Tm.size]; omega)
  have HU := Lib.hid hU
  have HV := Lib.hid hV
  have HN1 := Lib.hid hN1
  have HW2 := Lib.hid hW2
  have hn1 : (n : Int) - 1 = a := by omega
  have hn3 : n ≤ 3 := by omega
  have HNN := Lib.hid hn1
  clear hf hhf htf hU hV hF hW2 hn1 hW1 hN1
  go_enter Tryz.func133, Tryz.ntmps133
  go_wp2_with fail
  refine (h1 _ (by omega)).mono ?_
  rintro e w1 ⟨rfl, rfl⟩
  clear h1 c0
  go_wp2_with fail
  rw [← HW2.out]
  refine k1.mono ?_
  rintro e w3 ⟨v3, rfl, hb3, ht3⟩
  have a3 := a2.trans hb3
  have k2 := nameTerms_any w3 w.heap.size 3 (FT.ns a) ((show ArgN w3 w.heap.size a from a3.heap HN1.out).cells (by omega)) (by rw [ns_len a (by omega)]; omega)
  rw [ns_len a (by omega), vs_ns] at k2
  have HT3 := Lib.hid ht3
  clear k1 ht3 c3
  go_wp2_with fail
  refine k2.mono ?_
  rintro e w4 ⟨sv4, rfl, hb4, hv4⟩
  have k3 := applyAll_sl w4 B (F.app FT.V) v3 sv4 (FT.vs a) (hv4.less (Nat.le_trans (Nat.le_trans hB a12.size) hb3.size)) (HT3.out.below hb4) (Nat.le_trans (Nat.le_trans (Nat.le_trans hB a12.size) hb3.size) hb4.size) (by rw [vs_sum a (by omega)]; simp [Tm.size, FT.V]; omega) (by have := vs_len a; omega)
  unfold TermPost at k3
  clear k2 hv4
  go_wp2_with fail
  refine k3.mono ?_
  rintro e w5 ⟨v5, rfl, hb5, ht5⟩
  have b3 : After W2 w3 := hb3
  have a5 := (b3.trans hb4).trans hb5
  have hB5 := Nat.le_trans hB (a12.trans a5).size
  have k4 := succ_any w5 B hB5
  unfold TermPost at k4
  have HT5 := Lib.hid ht5
  clear k3 ht5 HT3 a3 hb3 hb4 hb5
  go_wp2_with fail
  refine k4.mono ?_
  rintro e w6 ⟨v6, rfl, hb6, ht6⟩
  have a6 := a5.trans hb6
  have hB6 := Nat.le_trans hB (a12.trans a6).size
  have k5 := apply_any w6 B Tm.succ FT.V _ _ ht6 (HV.out.below a6) hB6 (by decide +kernel)
  clear k4 ht6
  go_wp2_with fail
  refine k5.mono ?_
  rintro e w7 ⟨v7, rfl, hb7, ht7⟩
  have a7 := a6.trans hb7
  have hB7 := Nat.le_trans hB (a12.trans a7).size
  have k6 := apply_any w7 B FT.U (.app Tm.succ FT.V) _ _ (HU.out.below a7) ht7 hB7 (by decide +kernel)
  clear k5 ht7
  go_wp2_with fail
  refine k6.mono ?_
  rintro e w8 ⟨v8, rfl, hb8, ht8⟩
  have a8 := a7.trans hb8
  have b58 : After w5 w8 := (show After w5 w6 from hb6).trans ((show After w6 w7 from hb7).trans hb8)
  obtain ⟨W9, hW9⟩ : ∃ W9, W9 = w8.alloc (.cells #[str [117], str [118]] 9 (0, 0)) := ⟨_, rfl⟩
  have a9 : After w8 W9 := by rw [hW9]; exact After.new _ _
  have hS9 : StrsB W9.heap.size W9 (.slice (some ⟨w8.heap.size, 0, none⟩) 2 2) [[117], [118]] := by rw [hW9]; exact strs2 w8 _ _
  have hB9 := Nat.le_trans hB (a12.trans (a8.trans a9)).size
  have k7 := bit_any W9 B true hB9
  unfold TermPost at k7
  simp only [if_true] at k7
  have HT8 := Lib.hid ht8
  have HS9 := Lib.hid hS9
  have HW9 := Lib.hid hW9
  clear k6 ht8 hS9 hW9 hb6 hb7 hb8 a6 a7
  go_wp2_with fail
  rw [← HW9.out]
  refine k7.mono ?_
  rintro e w10 ⟨v10, rfl, hb10, ht10⟩
  obtain ⟨T10, x10, rfl, _⟩ := ht10.asks
  obtain ⟨T8, x8, rfl, _⟩ := HT8.out.asks
  have b10 : After W9 w10 := hb10
  obtain ⟨W11, hW11⟩ : ∃ W11, W11 = w10.alloc (.cells #[.iface T10 x10, .iface 96 (ptr (w1.heap.size + 1)), .iface T8 x8] 43 (0, 0)) := ⟨_, rfl⟩
  have a11 : After w10 W11 := by rw [hW11]; exact After.new _ _
  have c811 := a9.trans (b10.trans a11)
  have c511 := b58.trans c811
  have cc := a5.trans c511
  have hB11 := Nat.le_trans hB (a12.trans cc).size
  have k8 := applyAll3 W11 B w10.heap.size ((FT.vs a).foldl Tm.app (F.app FT.V)) .k FT.V (FT.U.app (Tm.succ.app FT.V)) v5 _ _ _ (0, 0) (by rw [hW11]; exact heap_top _ _) (HT5.out.below c511) (ht10.below a11) (HV.out.below cc) (HT8.out.below c811) hB11 (by
    have := appL_size (F.app FT.V) a (by omega)
    unfold FT.appL at this
    rw [this]
    simp [Tm.size, FT.V, FT.U, FT.size_succ]; omega)
  rw [show ((((FT.vs a).foldl Tm.app (F.app FT.V)).app .k).app FT.V).app (FT.U.app (Tm.succ.app FT.V)) = FT.seaB F a from rfl] at k8
  unfold TermPost at k8
  have HW11 := Lib.hid hW11
  clear k7 ht10 hW11 hb10
  go_wp2_with fail
  rw [← HW11.out]
  refine k8.mono ?_
  rintro e w12 ⟨v12, rfl, hb12, ht12⟩
  have b12 : After W11 w12 := hb12
  have hB12 := Nat.le_trans hB11 b12.size
  have hzb : (FT.seaB F a).size ≤ 3900 := by
    have := appL_size (F.app FT.V) a (by omega)
    simp only [FT.seaB, Tm.size, this]
    simp [Tm.size, FT.V, FT.U, FT.size_succ]; omega
  have k9 := absAll_any w12 B [[117], [118]] _ _ v12 (HS9.out.after ((b10.trans a11).trans b12) ((b10.trans a11).trans b12).size) ht12 hB12 (by decide) hzb
  unfold TermPost at k9
  clear k8 ht12 hb12
  go_wp2_with fail
  refine k9.mono ?_
  rintro e w13 ⟨v13, rfl, hb13, ht13⟩
  have b13 : After w12 w13 := hb13
  obtain ⟨T13, x13, rfl, _⟩ := ht13.asks
  have hB13 := Nat.le_trans hB12 b13.size
  have k10 := fix_any w13 B hB13
  unfold TermPost at k10
  have HT13 := Lib.hid ht13
  clear k9 ht13 hb13
  go_wp2_with fail
  refine k10.mono ?_
  rintro e w14 ⟨v14, rfl, hb14, ht14⟩
  have b14 : After w13 w14 := hb14
  have hB14 := Nat.le_trans hB13 b14.size
  have k11 := numeral_any w14 B 0 hB14 (by omega)
  unfold TermPost at k11
  have HT14 := Lib.hid ht14
  clear k10 ht14 hb14
  go_wp2_with fail
  refine k11.mono ?_
  rintro e w15 ⟨v15, rfl, hb15, ht15⟩
  have b15 : After w14 w15 := hb15
  obtain ⟨T15, x15, rfl, _⟩ := ht15.asks
  obtain ⟨W16, hW16⟩ : ∃ W16, W16 = w15.alloc (.cells #[.iface T13 x13, .iface T15 x15] 43 (0, 0)) := ⟨_, rfl⟩
  have a16 : After w15 W16 := by rw [hW16]; exact After.new _ _
  have hB16 := Nat.le_trans hB14 (b15.trans a16).size
  have k12 := applyAll2 W16 B w15.heap.size Tm.fix (FT.absAll [[117], [118]] (FT.seaB F a)) (Tm.num 0) v14 _ _ (0, 0) (by rw [hW16]; exact heap_top _ _) (HT14.out.below (b15.trans a16)) (HT13.out.below (b14.trans (b15.trans a16))) (ht15.below a16) hB16 (by rw [FT.size_fix]; simp [Tm.num, Tm.I, Tm.size]; omega)
  unfold TermPost at k12
  have HW16 := Lib.hid hW16
  clear k11 ht15 hW16 hb15
  go_wp2_with fail
  rw [← HW16.out]
  refine k12.mono ?_
  rintro e w17 ⟨v17, rfl, hb17, ht17⟩
  have b17 : After W16 w17 := hb17
  have d17 : After w1 w17 := a2.trans (cc.trans (b12.trans (b13.trans (b14.trans ((b15.trans a16).trans b17)))))
  have hN17 : ArgN w17 w.heap.size a := d17.heap HN1.out
  have k13 := absAll_any w17 B (FT.ns a) _ _ v17 (hN17.strs (by omega)) ht17 (Nat.le_trans hB16 b17.size) (by rw [ns_len a (by omega)]; omega) (by simp only [Tm.size, FT.size_fix]; simp [Tm.num, Tm.I, Tm.size]; omega)
  unfold TermPost at k13
  clear k12 ht17 hb17 hN17
  go_wp2_with fail
  refine k13.mono ?_
  rintro e w18 ⟨v18, rfl, hb18, ht18⟩
  have b18 : After w17 w18 := hb18
  have HT18 := Lib.hid ht18
  clear k13 ht18
  go_wp2_with fail
  go_ret
  exact ⟨_, rfl, (a1.trans d17).trans b18, HT18.out⟩

theorem search_any (w : World) (B : Nat) (f : FT) (pf : Value) (hf : CV w B f pf) (hB : B ≤ w.heap.size) (h0 : 0 < FT.arity f) (h3 : FT.arity f ≤ 3) (hz : (FT.real f).size ≤ 3000)
    (hy : (FT.absAll [[117], [118]] (FT.seaB (FT.real f) (FT.arity f - 1))).size ≤ 3800) :
    Calls Tryz.prog 116 #[pf] w (NewPost w B (.m f)) := by
  obtain ⟨a, ha⟩ : ∃ a, a = FT.arity f - 1 := ⟨_, rfl⟩
  rw [← ha] at hy
  have ha1 : FT.arity f = a + 1 := by omega
  obtain ⟨W1, hW1⟩ : ∃ W1, W1 = w.alloc (.cells #[pf] 55 (0, 0)) := ⟨_, rfl⟩
  have a1 : After w W1 := by rw [hW1]; exact After.new _ _
  have hq : W1.heap[w.heap.size]? = some (.cells #[pf] 55 (0, 0)) := by rw [hW1]; exact heap_top _ _
  have hB1 := Nat.le_trans hB a1.size
  have hf1 := hf.after a1
  have k1 := fun W (hW : After W1 W) => seaR_any W B a f pf (hf1.after hW) (Nat.le_trans hB1 hW.size) ha1 (by omega) hz hy
  unfold TermPost at k1
  have hself := After.refl W1
  obtain ⟨bf, Tf, xf, vf, rfl, hbf, hhf, htf, _⟩ := hf1.fields
  rw [ha1] at hhf
  have c0 : ∀ W, After W1 W → W.cell? ⟨bf, 0, none⟩ = some (.int .i64 ((a + 1 : Nat) : Int)) := fun W hW => cell_later' (cell_of_heap (i := 0) hhf) W hW
  have q0 : ∀ W, After W1 W → W.cell? ⟨w.heap.size, 0, none⟩ = some (ptr bf) := fun W hW => cell_later' (cell_of_heap (i := 0) hq) W hW
  have HF1 := Lib.hid hf1
  have HQ := Lib.hid hq
  have HA := Lib.hid ha
  have HW1 := Lib.hid hW1
  have ha2 : a ≤ 2 := by omega
  clear hf hf1 hq ha hW1 hhf htf hy
  go_enter Tryz.func116, Tryz.ntmps116
  go_wp2_with fail
  rw [← HW1.out]
  go_region_held3 (fun W' => After W1 W') (first | assumption | exact hself.drew | exact After.alloc (by assumption) _ | go_keep)
    (first | (go_at_call 133; refine (k1 _ (by first | assumption | exact hself.drew)).mono ?_; rintro e x1 ⟨v1, rfl, hb1, ht1⟩; obtain ⟨T1, y1, rfl, _⟩ := ht1.asks; have hb1' : After W1 x1 := After.trans (by first | assumption | exact hself.drew) hb1; have HT := Lib.hid ht1; clear ht1))
  all_goals
    go_wp2_with fail
    go_ret
    rw [IntWalk.i64_in (a : Int) (by omega)]
    have e := HA.out
    subst e
    exact NewPost.mk (a1.trans hb1') HT.out ⟨_, _, rfl, hB, hb1'.heap HQ.out, HF1.out.after hb1'⟩
end Go.Proofs.YtjomocjlnjgkeaaGreat
