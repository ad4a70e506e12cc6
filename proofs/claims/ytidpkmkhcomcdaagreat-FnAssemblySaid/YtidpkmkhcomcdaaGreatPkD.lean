/-
  The model's abstraction of a name: l1Uses, l2Abs.
-/
import Derived.Test.YtidpkmkhcomcdaaGreatPkC
import Derived.Test.YtidpkmkhcomcdaaGreatPkB
import Derived.RangeFuncNested
import Derived.RangeFuncBound
import Derived.RangeFuncCalls
import Derived.RangeFuncLeaves
import Derived.Shelf.Abstract
import Derived.WalkKit
import Derived.OwnWalkIn
import Derived.TacticsInMore
import Derived.LoopNIn
import Derived.LoopIn
import Derived.Lib.Hide
import Derived.Test.YtidpkmkhcomcdaaGreatPkA
namespace Go.Proofs.YtidpkmkhcomcdaaGreat
open Go.RowKit

set_option maxHeartbeats 2000000
set_option maxRecDepth 100000

namespace Tm
/-- No atom without letters. -/
def Plain : Tm → Prop
  | nm n => n ≠ []
  | app f a => Plain f ∧ Plain a
  | _ => True
def isNm (x : List UInt8) : Tm → Bool
  | nm n => n == x
  | _ => false
def abs (x : List UInt8) : Tm → Tm
  | nm n => if n = x then I else app k (nm n)
  | app f a => if uses x (app f a) = 0 then app k (app f a) else if isNm x a = true ∧ uses x f = 0 then f else app (app s (abs x f)) (abs x a)
  | t => app k t
theorem plain_good {t : Tm} : t.good = true → t.Plain := by
  induction t with
  | nm n => intro h; exact text_ne (.nm n) h
  | app f a ihf iha => intro h; simp only [good, Bool.and_eq_true] at h; exact ⟨ihf h.1, iha h.2⟩
  | k => intro _; trivial
  | s => intro _; trivial
end Tm

theorem usesG_atom (w : World) (s name : List UInt8) (v : Value) (hs : s ≠ []) (b : Bool) (hb : (s == name) = b) :
    Calls Tryz.prog 99 #[.agg #[str s, v], str name] w fun e w' => e = .returned (.int .i64 (if b then 1 else 0)) ∧ After w w' := by
  have he : s.isEmpty = false := by cases s with | nil => exact absurd rfl hs | cons => rfl
  clear hs
  cases b
  all_goals
    try simp only [beq_iff_eq] at hb
    try subst hb
    go_enter Tryz.func99, Tryz.ntmps99
    go_wp2_with fail
    go_ret
    exact ⟨rfl, After.new _ _⟩

theorem usesG_app (w : World) (name : List UInt8) (g cap : Nat) (fr : Nat × Nat) (s0 s1 : List UInt8) (a0 a1 : Option Addr) (n0 c0 n1 c1 : Nat) (f a : Tm) (hh : w.heap[g]? = some (.cells #[str s0, .slice a0 n0 c0, str s1, .slice a1 n1 c1] 53 fr))
    (hf : ∀ W, After w W → Calls Tryz.prog 99 #[.agg #[str s0, .slice a0 n0 c0], str name] W fun e w' => e = .returned (.int .i64 (f.uses name : Nat)) ∧ After W w')
    (ha : ∀ W, After w W → Calls Tryz.prog 99 #[.agg #[str s1, .slice a1 n1 c1], str name] W fun e w' => e = .returned (.int .i64 (a.uses name : Nat)) ∧ After W w') (hz : f.uses name + a.uses name ≤ 1000000000000) :
    Calls Tryz.prog 99 #[.agg #[str [], .slice (some ⟨g, 0, none⟩) 2 cap], str name] w fun e w' => e = .returned (.int .i64 ((f.app a).uses name : Nat)) ∧ After w w' := by
  obtain ⟨hnew, hself, b0, b1, g0, g1, g2, g3⟩ := kid_facts w g cap fr s0 s1 a0 a1 n0 c0 n1 c1 hh
  have hw : IntKind.i64.wrap ((f.uses name : Int) + (a.uses name : Int)) = (((f.app a).uses name : Nat) : Int) := by rw [IntWalk.i64_in _ (by omega)]; simp [Tm.uses]
  have HW := Lib.hid hw
  clear hw
  go_enter Tryz.func99, Tryz.ntmps99
  go_wp2_with fail
  go_region_held3 (fun W' => After (w.alloc (.cells #[str [], .slice (some ⟨g, 0, none⟩) 2 cap] 53)) W') (first | assumption | exact hself.drew | go_keep)
    (first
      | (go_at_call_of 99 a0; refine (hf _ (hnew.trans (by assumption))).mono ?_; rintro e w1 ⟨rfl, hb1⟩; have hb1' := After.trans (by assumption) hb1)
      | (go_at_call_of 99 a1; refine (ha _ (hnew.trans (by assumption))).mono ?_; rintro e w2 ⟨rfl, hb2⟩; have hb2' := After.trans (by assumption) hb2))
  go_wp2_with fail
  go_ret
  exact ⟨by rw [← HW.out]; rfl, hnew.trans hb2'⟩

theorem ST.usesG {t : Tm} (name : List UInt8) (hk : ([107] == name) = false) (hs : ([115] == name) = false) : ∀ {w : World} {v : Value}, ST w t v → t.Plain → t.size ≤ 1000000000 → Calls Tryz.prog 99 #[v, str name] w fun e w' => e = .returned (.int .i64 (t.uses name : Nat)) ∧ After w w' := by
  induction t with
  | k => intro w v h _ _; simp only [ST] at h; subst h; exact usesG_atom w _ name _ (by simp [Tm.text]) false hk
  | s => intro w v h _ _; simp only [ST] at h; subst h; exact usesG_atom w _ name _ (by simp [Tm.text]) false hs
  | nm n =>
    intro w v h hg _; simp only [ST] at h; subst h
    refine (usesG_atom w _ name _ hg _ rfl).mono ?_
    rintro e w' ⟨rfl, hb⟩
    refine ⟨?_, hb⟩
    by_cases hx : n = name <;> simp [Tm.uses, hx]
  | app f a ihf iha =>
    intro w v h hg hz
    obtain ⟨g, cap, fr, s0, p0, s1, p1, rfl, hh, hf, ha⟩ := h
    simp only [Tm.size] at hz
    obtain ⟨x0, a0, n0, c0, rfl, rfl⟩ := parts_form hf
    obtain ⟨x1, a1, n1, c1, rfl, rfl⟩ := parts_form ha
    have h1 := Tm.uses_le name f
    have h2 := Tm.uses_le name a
    exact usesG_app w name g cap fr x0 x1 a0 a1 n0 c0 n1 c1 f a hh (fun W hW => ihf (hf.later hW) hg.1 (by omega)) (fun W hW => iha (ha.later hW) hg.2 (by omega)) (by omega)

/-! ### l2Abs -/

theorem abs_i (w : World) (x : List UInt8) (ao : Option Addr) (n c : Nat) : Calls Tryz.prog 80 #[str x, .agg #[str x, .slice ao n c]] w (TreePost w Tm.I) := by
  have hA : After w ((w.alloc (.cells #[str x, .slice ao n c] 53)).alloc (.cells #[.string ⟨#[]⟩, .slice none 0 0] 53)) := (After.new _ _).alloc _
  have hres := heap_new2 w _ (.cells #[str x, .slice ao n c] 53) (.cells #[.string ⟨#[]⟩, .slice none 0 0] 53) rfl
  have hI := s_i ((w.alloc (.cells #[str x, .slice ao n c] 53)).alloc (.cells #[.string ⟨#[]⟩, .slice none 0 0] 53))
  unfold TreePost at hI
  have HRES := Lib.hid hres
  clear hres
  go_enter Tryz.func80, Tryz.ntmps80
  go_wp2_with fail
  refine hI.mono ?_
  rintro e w1 ⟨t1, ao1, n1, c1, rfl, hb1, ht1⟩
  have HT := Lib.hid ht1
  obtain ⟨z0, z1, z2, z3, l2⟩ := pair_facts HRES.out hb1
  clear ht1 hI
  go_wp2_with fail
  refine bodyPost_ret (v := .agg #[str t1, .slice ao1 n1 c1]) (by simp [results, Tryz.results80, go_sem, z0, z1]) rfl
    ⟨t1, ao1, n1, c1, rfl, Below.setCell (Below.setCell (hA.trans hb1) (by simp) _) (by simp) _, HT.out.sets2 (hb1.heap HRES.out)⟩

theorem abs_k (w : World) (x s : List UInt8) (ao : Option Addr) (n c : Nat) (t : Tm) (h : ST w t (.agg #[str s, .slice ao n c])) (hne : (s == x) = false)
    (hu : ∀ W, After w W → Calls Tryz.prog 99 #[.agg #[str s, .slice ao n c], str x] W fun e w' => e = .returned (.int .i64 0) ∧ After W w') :
    Calls Tryz.prog 80 #[str x, .agg #[str s, .slice ao n c]] w (TreePost w (.app .k t)) := by
  have hA : After w ((w.alloc (.cells #[str s, .slice ao n c] 53)).alloc (.cells #[.string ⟨#[]⟩, .slice none 0 0] 53)) := (After.new _ _).alloc _
  have hres := heap_new2 w _ (.cells #[str s, .slice ao n c] 53) (.cells #[.string ⟨#[]⟩, .slice none 0 0] 53) rfl
  have hbox := heap_old2 w (.cells #[str s, .slice ao n c] 53) (.cells #[.string ⟨#[]⟩, .slice none 0 0] 53)
  have hcall := hu _ hA
  have HRES := Lib.hid hres
  have HBOX := Lib.hid hbox
  have HT0 := Lib.hid (h.later hA)
  clear hres hbox hu h
  go_enter Tryz.func80, Tryz.ntmps80
  go_wp2_with fail
  refine hcall.mono ?_
  rintro e w1 ⟨rfl, hb1⟩
  obtain ⟨k0, k1, _, _, l1⟩ := pair_facts HBOX.out hb1
  have happ := s_app (w1.alloc (.cells #[str s, .slice ao n c] 53)) .k t [107] s none ao 0 0 n c w1.heap.size (0, 0) rfl (HT0.out.later (After.alloc hb1 _)) (heap_new' _ _)
  unfold TreePost at happ
  have hA1 := After.alloc hb1 (.cells #[str s, .slice ao n c] 53)
  clear hcall
  go_wp2_with fail
  refine happ.mono ?_
  rintro e w2 ⟨t2, ao2, n2, c2, rfl, hb2, ht2⟩
  have HT := Lib.hid ht2
  have hA2 := hA1.trans hb2
  obtain ⟨z0, z1, z2, z3, l2⟩ := pair_facts HRES.out hA2
  clear ht2 happ k0 k1
  go_wp2_with fail
  refine bodyPost_ret (v := .agg #[str t2, .slice ao2 n2 c2]) (by simp [results, Tryz.results80, go_sem, z0, z1]) rfl
    ⟨t2, ao2, n2, c2, rfl, Below.setCell (Below.setCell (hA.trans hA2) (by simp) _) (by simp) _, HT.out.sets2 (hA2.heap HRES.out)⟩

theorem abs_end (w : World) (x : List UInt8) (g q : Nat) (fr : Nat × Nat) (s0 : List UInt8) (a0 a1 : Option Addr) (n0 c0 n1 c1 : Nat) (f : Tm) (u : Nat) (hh : w.heap[g]? = some (.cells #[str s0, .slice a0 n0 c0, str x, .slice a1 n1 c1] 53 fr)) (hf : ST w f (.agg #[str s0, .slice a0 n0 c0])) (hx : ([] == x) = false) (hu0 : 0 < u)
    (hu : ∀ W, After w W → Calls Tryz.prog 99 #[.agg #[str [], .slice (some ⟨g, 0, none⟩) 2 q], str x] W fun e w' => e = .returned (.int .i64 u) ∧ After W w')
    (hu2 : ∀ W, After w W → Calls Tryz.prog 99 #[.agg #[str s0, .slice a0 n0 c0], str x] W fun e w' => e = .returned (.int .i64 0) ∧ After W w') :
    Calls Tryz.prog 80 #[str x, .agg #[str [], .slice (some ⟨g, 0, none⟩) 2 q]] w (TreePost w f) := by
  have hA : After w ((w.alloc (.cells #[str [], .slice (some ⟨g, 0, none⟩) 2 q] 53)).alloc (.cells #[.string ⟨#[]⟩, .slice none 0 0] 53)) := (After.new _ _).alloc _
  have hres := heap_new2 w _ (.cells #[str [], .slice (some ⟨g, 0, none⟩) 2 q] 53) (.cells #[.string ⟨#[]⟩, .slice none 0 0] 53) rfl
  have hbox := heap_old2 w (.cells #[str [], .slice (some ⟨g, 0, none⟩) 2 q] 53) (.cells #[.string ⟨#[]⟩, .slice none 0 0] 53)
  have hcall := hu _ hA
  have hu0' : ((u : Int) == 0) = false := by rw [beq_eq_false_iff_ne]; omega
  have HRES := Lib.hid hres
  have HBOX := Lib.hid hbox
  have HH := Lib.hid (hA.heap hh)
  have HU2 := Lib.hid hu2
  have HF := Lib.hid (hf.later hA)
  clear hres hbox hu hf hh hu2 hu0
  go_enter Tryz.func80, Tryz.ntmps80
  go_wp2_with fail
  refine hcall.mono ?_
  rintro e w1 ⟨rfl, hb1⟩
  obtain ⟨k0, k1, _, _, l1⟩ := pair_facts HBOX.out hb1
  have g0 : w1.cell? ⟨g, 0, none⟩ = some (str s0) := cell_of_heap (hb1.heap HH.out)
  have g1 : w1.cell? ⟨g, 1, none⟩ = some (.slice a0 n0 c0) := cell_of_heap (hb1.heap HH.out)
  have g2 : w1.cell? ⟨g, 2, none⟩ = some (str x) := cell_of_heap (hb1.heap HH.out)
  have hcall2 := HU2.out _ (hA.trans hb1)
  clear hcall
  go_wp2_with fail
  refine hcall2.mono ?_
  rintro e w2 ⟨rfl, hb2⟩
  have hb12 := After.trans hb1 hb2
  clear k0 k1 g0 g1 g2 l1
  obtain ⟨k0, k1, _, _, l1⟩ := pair_facts HBOX.out hb12
  have g0 : w2.cell? ⟨g, 0, none⟩ = some (str s0) := cell_of_heap (hb12.heap HH.out)
  have g1 : w2.cell? ⟨g, 1, none⟩ = some (.slice a0 n0 c0) := cell_of_heap (hb12.heap HH.out)
  obtain ⟨z0, z1, z2, z3, l2⟩ := pair_facts HRES.out hb12
  clear hcall2
  go_wp2_with fail
  refine bodyPost_ret (v := .agg #[str s0, .slice a0 n0 c0]) (by simp [results, Tryz.results80, go_sem, z0, z1]) rfl
    ⟨s0, a0, n0, c0, rfl, Below.setCell (Below.setCell (hA.trans hb12) (by simp) _) (by simp) _, (HF.out.later hb12).sets2 (hb12.heap HRES.out)⟩

theorem abs_s (w : World) (x : List UInt8) (g q : Nat) (fr : Nat × Nat) (s0 s1 : List UInt8) (a0 a1 : Option Addr) (n0 c0 n1 c1 : Nat) (F A : Tm) (u u2 : Nat) (b : Bool) (hh : w.heap[g]? = some (.cells #[str s0, .slice a0 n0 c0, str s1, .slice a1 n1 c1] 53 fr)) (hx : ([] == x) = false) (hu0 : 0 < u) (hb : (s1 == x) = b) (hu20 : b = true → 0 < u2)
    (hu : ∀ W, After w W → Calls Tryz.prog 99 #[.agg #[str [], .slice (some ⟨g, 0, none⟩) 2 q], str x] W fun e w' => e = .returned (.int .i64 u) ∧ After W w')
    (hu2 : ∀ W, After w W → Calls Tryz.prog 99 #[.agg #[str s0, .slice a0 n0 c0], str x] W fun e w' => e = .returned (.int .i64 u2) ∧ After W w')
    (hrf : ∀ W, After w W → Calls Tryz.prog 80 #[str x, .agg #[str s0, .slice a0 n0 c0]] W (TreePost W F))
    (hra : ∀ W, After w W → Calls Tryz.prog 80 #[str x, .agg #[str s1, .slice a1 n1 c1]] W (TreePost W A)) :
    Calls Tryz.prog 80 #[str x, .agg #[str [], .slice (some ⟨g, 0, none⟩) 2 q]] w (TreePost w (.app (.app .s F) A)) := by
  have hA : After w ((w.alloc (.cells #[str [], .slice (some ⟨g, 0, none⟩) 2 q] 53)).alloc (.cells #[.string ⟨#[]⟩, .slice none 0 0] 53)) := (After.new _ _).alloc _
  have hres := heap_new2 w _ (.cells #[str [], .slice (some ⟨g, 0, none⟩) 2 q] 53) (.cells #[.string ⟨#[]⟩, .slice none 0 0] 53) rfl
  have hbox := heap_old2 w (.cells #[str [], .slice (some ⟨g, 0, none⟩) 2 q] 53) (.cells #[.string ⟨#[]⟩, .slice none 0 0] 53)
  have hcall := hu _ hA
  have hglt := (Array.getElem?_eq_some_iff.1 hh).1
  have hu0' : ((u : Int) == 0) = false := by rw [beq_eq_false_iff_ne]; omega
  have HRES := Lib.hid hres
  have HBOX := Lib.hid hbox
  have HH := Lib.hid (hA.heap hh)
  have HU2 := Lib.hid hu2
  have HU20 := Lib.hid hu20
  have HRF := Lib.hid hrf
  have HRA := Lib.hid hra
  clear hres hbox hu hh hu2 hu0 hu20 hrf hra
  cases b
  · go_enter Tryz.func80, Tryz.ntmps80
    go_wp2_with fail
    refine hcall.mono ?_
    rintro e Y ⟨rfl, hY⟩
    obtain ⟨k0, k1, _, _, l1⟩ := pair_facts HBOX.out hY
    have g2 : Y.cell? ⟨g, 2, none⟩ = some (str s1) := cell_of_heap (hY.heap HH.out)
    clear hcall
    go_wp2_with fail
    clear k0 k1 g2 l1
    have hwY := hA.trans hY
    have hgY := hY.heap HH.out
    have hbY := hY.heap HBOX.out
    have hrY := hY.heap HRES.out
    have o1 : ∀ W, ButFor Y (w.heap.size + 1) W → W.cell? ⟨w.heap.size, 1, none⟩ = some (.slice (some ⟨g, 0, none⟩) 2 q) := fun W hW => hW.cell (by omega) (cell_of_heap hbY)
    have q0 : ∀ W, ButFor Y (w.heap.size + 1) W → W.cell? ⟨g, 0, none⟩ = some (str s0) := fun W hW => hW.cell (by omega) (cell_of_heap hgY)
    have q1 : ∀ W, ButFor Y (w.heap.size + 1) W → W.cell? ⟨g, 1, none⟩ = some (.slice a0 n0 c0) := fun W hW => hW.cell (by omega) (cell_of_heap hgY)
    have q2 : ∀ W, ButFor Y (w.heap.size + 1) W → W.cell? ⟨g, 2, none⟩ = some (str s1) := fun W hW => hW.cell (by omega) (cell_of_heap hgY)
    have q3 : ∀ W, ButFor Y (w.heap.size + 1) W → W.cell? ⟨g, 3, none⟩ = some (.slice a1 n1 c1) := fun W hW => hW.cell (by omega) (cell_of_heap hgY)
    have hbf : ButFor Y (w.heap.size + 1) Y.drew := ⟨Nat.le_refl _, fun _ _ _ => rfl⟩
    have hself := After.refl Y
    have hzres : ∀ W, After Y W → W.cell? ⟨w.heap.size + 1, 0, none⟩ = some (.string ⟨#[]⟩) ∧ W.cell? ⟨w.heap.size + 1, 1, none⟩ = some (.slice none 0 0) ∧ W.frozen? ⟨w.heap.size + 1, 0, none⟩ = false ∧ W.frozen? ⟨w.heap.size + 1, 1, none⟩ = false := fun W hW => by
      obtain ⟨a1, a2, a3, a4, _⟩ := pair_facts hrY hW
      exact ⟨a1, a2, a3, a4⟩
    have HZ := Lib.hid hzres
    have HWY := Lib.hid hwY
    have HRY := Lib.hid hrY
    clear hzres hwY hgY hbY hrY hY hA HH HBOX HRES
    go_region_held3 (fun W' => ButFor Y (w.heap.size + 1) W') (first | assumption | exact hbf | exact After.butFor (by assumption) | exact ButFor.alloc (by assumption) _ | exact ButFor.set (ButFor.set (by assumption) _ _) _ _ | go_keep)
      (first
        | (go_at_call_of 80 a0; refine (HRF.out _ (HWY.out.trans hself.drew)).mono ?_; rintro e w3 ⟨t3, ao3, nn3, cc3, rfl, hbb3, hs3⟩; have hA3 := After.trans hself.drew hbb3)
        | (go_at_call_of 80 a1; refine (HRA.out _ (HWY.out.trans hA3)).mono ?_; rintro e w4 ⟨t4, ao4, nn4, cc4, rfl, hbb4, hs4⟩; have hA4 := After.trans hA3 hbb4; have hs3' := hs3.later hbb4)
        | (go_at_call 78; refine (s_app2 _ .s F A [115] t3 t4 none ao3 ao4 0 0 nn3 cc3 nn4 cc4 _ (0, 0) rfl ?_ ?_ ?_).mono ?_; exact hs3'.later (After.new _ _); exact hs4.later (After.new _ _); exact heap_new' _ _; rintro e w5 ⟨t5, ao5, nn5, cc5, rfl, hbb5, hs5⟩; have hA5 := After.trans (hA4.alloc _) hbb5; obtain ⟨z0, z1, z2, z3⟩ := HZ.out _ hA5))
    all_goals
      go_wp2_with fail
      refine bodyPost_ret (v := .agg #[str t5, .slice ao5 nn5 cc5]) (by simp [results, Tryz.results80, go_sem, z0, z1]) rfl ⟨t5, ao5, nn5, cc5, rfl, Below.setCell (Below.setCell (HWY.out.trans hA5) (by simp) _) (by simp) _, ?_⟩
      exact hs5.sets2 (hA5.heap HRY.out)
  · simp only [beq_iff_eq] at hb
    subst hb
    have hu2' : ((u2 : Int) == 0) = false := by rw [beq_eq_false_iff_ne]; have := HU20.out rfl; omega
    go_enter Tryz.func80, Tryz.ntmps80
    go_wp2_with fail
    refine hcall.mono ?_
    rintro e w1 ⟨rfl, hb1⟩
    obtain ⟨k0, k1, _, _, l1⟩ := pair_facts HBOX.out hb1
    have g0 : w1.cell? ⟨g, 0, none⟩ = some (str s0) := cell_of_heap (hb1.heap HH.out)
    have g1 : w1.cell? ⟨g, 1, none⟩ = some (.slice a0 n0 c0) := cell_of_heap (hb1.heap HH.out)
    have g2 : w1.cell? ⟨g, 2, none⟩ = some (str s1) := cell_of_heap (hb1.heap HH.out)
    have hcall2 := HU2.out _ (hA.trans hb1)
    clear hcall
    go_wp2_with fail
    refine hcall2.mono ?_
    rintro e Y ⟨rfl, hb2⟩
    have hY := After.trans hb1 hb2
    clear hcall2 k0 k1 g0 g1 g2 l1
    go_wp2_with fail
    have hwY := hA.trans hY
    have hgY := hY.heap HH.out
    have hbY := hY.heap HBOX.out
    have hrY := hY.heap HRES.out
    have o1 : ∀ W, ButFor Y (w.heap.size + 1) W → W.cell? ⟨w.heap.size, 1, none⟩ = some (.slice (some ⟨g, 0, none⟩) 2 q) := fun W hW => hW.cell (by omega) (cell_of_heap hbY)
    have q0 : ∀ W, ButFor Y (w.heap.size + 1) W → W.cell? ⟨g, 0, none⟩ = some (str s0) := fun W hW => hW.cell (by omega) (cell_of_heap hgY)
    have q1 : ∀ W, ButFor Y (w.heap.size + 1) W → W.cell? ⟨g, 1, none⟩ = some (.slice a0 n0 c0) := fun W hW => hW.cell (by omega) (cell_of_heap hgY)
    have q2 : ∀ W, ButFor Y (w.heap.size + 1) W → W.cell? ⟨g, 2, none⟩ = some (str s1) := fun W hW => hW.cell (by omega) (cell_of_heap hgY)
    have q3 : ∀ W, ButFor Y (w.heap.size + 1) W → W.cell? ⟨g, 3, none⟩ = some (.slice a1 n1 c1) := fun W hW => hW.cell (by omega) (cell_of_heap hgY)
    have hbf : ButFor Y (w.heap.size + 1) Y.drew := ⟨Nat.le_refl _, fun _ _ _ => rfl⟩
    have hself := After.refl Y
    have hzres : ∀ W, After Y W → W.cell? ⟨w.heap.size + 1, 0, none⟩ = some (.string ⟨#[]⟩) ∧ W.cell? ⟨w.heap.size + 1, 1, none⟩ = some (.slice none 0 0) ∧ W.frozen? ⟨w.heap.size + 1, 0, none⟩ = false ∧ W.frozen? ⟨w.heap.size + 1, 1, none⟩ = false := fun W hW => by
      obtain ⟨a1, a2, a3, a4, _⟩ := pair_facts hrY hW
      exact ⟨a1, a2, a3, a4⟩
    have HZ := Lib.hid hzres
    have HWY := Lib.hid hwY
    have HRY := Lib.hid hrY
    clear hzres hwY hgY hbY hrY hY hA HH HBOX HRES hb1 hb2
    go_region_held3 (fun W' => ButFor Y (w.heap.size + 1) W') (first | assumption | exact hbf | exact After.butFor (by assumption) | exact ButFor.alloc (by assumption) _ | exact ButFor.set (ButFor.set (by assumption) _ _) _ _ | go_keep)
      (first
        | (go_at_call_of 80 a0; refine (HRF.out _ (HWY.out.trans hself.drew)).mono ?_; rintro e w3 ⟨t3, ao3, nn3, cc3, rfl, hbb3, hs3⟩; have hA3 := After.trans hself.drew hbb3)
        | (go_at_call_of 80 a1; refine (HRA.out _ (HWY.out.trans hA3)).mono ?_; rintro e w4 ⟨t4, ao4, nn4, cc4, rfl, hbb4, hs4⟩; have hA4 := After.trans hA3 hbb4; have hs3' := hs3.later hbb4)
        | (go_at_call 78; refine (s_app2 _ .s F A [115] t3 t4 none ao3 ao4 0 0 nn3 cc3 nn4 cc4 _ (0, 0) rfl ?_ ?_ ?_).mono ?_; exact hs3'.later (After.new _ _); exact hs4.later (After.new _ _); exact heap_new' _ _; rintro e w5 ⟨t5, ao5, nn5, cc5, rfl, hbb5, hs5⟩; have hA5 := After.trans (hA4.alloc _) hbb5; obtain ⟨z0, z1, z2, z3⟩ := HZ.out _ hA5))
    all_goals
      go_wp2_with fail
      refine bodyPost_ret (v := .agg #[str t5, .slice ao5 nn5 cc5]) (by simp [results, Tryz.results80, go_sem, z0, z1]) rfl ⟨t5, ao5, nn5, cc5, rfl, Below.setCell (Below.setCell (HWY.out.trans hA5) (by simp) _) (by simp) _, ?_⟩
      exact hs5.sets2 (hA5.heap HRY.out)

theorem nm_eq {w : World} {a : Tm} {s : List UInt8} {y : Value} (x : List UInt8) (h : ST w a (.agg #[str s, y])) (hx : ([] == x) = false) (hk : ([107] == x) = false) (hs : ([115] == x) = false) : (s == x) = a.isNm x := by
  cases a with
  | app f a => obtain ⟨rfl, _⟩ := app_form h; rw [hx]; rfl
  | k => obtain rfl := atom_form h rfl; simp only [Tm.text]; rw [hk]; rfl
  | s => obtain rfl := atom_form h rfl; simp only [Tm.text]; rw [hs]; rfl
  | nm n => obtain rfl := atom_form h rfl; rfl

theorem ST.abs {t : Tm} (x : List UInt8) (hx : ([] == x) = false) (hk : ([107] == x) = false) (hs : ([115] == x) = false) : ∀ {w : World} {v : Value}, ST w t v → t.Plain → t.size ≤ 1000000000 → Calls Tryz.prog 80 #[str x, v] w (TreePost w (t.abs x)) := by
  induction t with
  | k => intro w v h hp hz; have hu := fun W (hW : After w W) => (h.later hW).usesG x hk hs hp hz; simp only [ST] at h; subst h; exact abs_k w x _ none 0 0 .k rfl hk hu
  | s => intro w v h hp hz; have hu := fun W (hW : After w W) => (h.later hW).usesG x hk hs hp hz; simp only [ST] at h; subst h; exact abs_k w x _ none 0 0 .s rfl hs hu
  | nm n =>
    intro w v h hp hz
    have hu := fun W (hW : After w W) => (h.later hW).usesG x hk hs hp hz
    simp only [ST] at h
    subst h
    by_cases hn : n = x
    · subst hn
      rw [show (Tm.nm n).abs n = Tm.I by simp [Tm.abs]]
      exact abs_i w n none 0 0
    · rw [show (Tm.nm n).abs x = .app .k (.nm n) by simp [Tm.abs, hn]]
      have hu0 : (Tm.nm n).uses x = 0 := by simp [Tm.uses, hn]
      rw [hu0] at hu
      exact abs_k w x n none 0 0 (.nm n) rfl (beq_eq_false_iff_ne.2 hn) hu
  | app f a ihf iha =>
    intro w v h hp hz
    have hu := fun W (hW : After w W) => (h.later hW).usesG x hk hs hp hz
    have h' := h
    obtain ⟨g, cap, fr, s0, p0, s1, p1, rfl, hh, hf, ha⟩ := h
    simp only [Tm.size] at hz
    obtain ⟨x0, a0, n0, c0, rfl, rfl⟩ := parts_form hf
    obtain ⟨x1, a1, n1, c1, rfl, rfl⟩ := parts_form ha
    by_cases h0 : (f.app a).uses x = 0
    · rw [show (f.app a).abs x = .app .k (f.app a) by simp only [Tm.abs, h0, if_true]]
      rw [h0] at hu
      exact abs_k w x [] (some ⟨g, 0, none⟩) 2 cap _ h' hx hu
    · have hu2 := fun W (hW : After w W) => (hf.later hW).usesG x hk hs hp.1 (by omega)
      have hb := nm_eq x ha hx hk hs
      by_cases hend : a.isNm x = true ∧ f.uses x = 0
      · rw [show (f.app a).abs x = f by simp only [Tm.abs, if_neg h0, if_pos hend]]
        rw [hend.1, beq_iff_eq] at hb
        subst hb
        rw [hend.2] at hu2
        exact abs_end w x1 g cap fr x0 a0 a1 n0 c0 n1 c1 f _ hh hf hx (Nat.pos_of_ne_zero h0) hu hu2
      · rw [show (f.app a).abs x = .app (.app .s (f.abs x)) (a.abs x) by simp only [Tm.abs, if_neg h0, if_neg hend]]
        exact abs_s w x g cap fr x0 x1 a0 a1 n0 c0 n1 c1 (f.abs x) (a.abs x) _ _ (a.isNm x) hh hx (Nat.pos_of_ne_zero h0) hb (fun h => Nat.pos_of_ne_zero fun h2 => hend ⟨h, h2⟩) hu hu2
          (fun W hW => ihf (hf.later hW) hp.1 (by omega)) (fun W hW => iha (ha.later hW) hp.2 (by omega))
end Go.Proofs.YtidpkmkhcomcdaaGreat

namespace Go.Proofs.YtidpkmkhcomcdaaGreat
open Go.RowKit

set_option maxHeartbeats 2000000
set_option maxRecDepth 100000

namespace Tm
theorem abs_none (x : List UInt8) (t : Tm) (h : uses x t = 0) : abs x t = app k t := by
  cases t with
  | nm n => simp only [uses] at h; split at h; · simp at h
            rename_i hn; simp [abs, hn]
  | app f a => simp only [abs, h, if_true]
  | k => rfl
  | s => rfl
theorem isNm_uses (x : List UInt8) (t : Tm) (h : uses x t = 0) : isNm x t = false := by
  cases t with
  | nm n => simp only [uses] at h; split at h; · simp at h
            rename_i hn; simp [isNm, hn]
  | _ => rfl
theorem pair_abs (x : List UInt8) (a b : Tm) (ha : uses x a = 0) (hb : uses x b = 0) : abs x (app (app (nm x) a) b) = pair a b := by
  have h1 : uses x (app (app (nm x) a) b) = 1 := by simp [uses, ha, hb]
  have h2 : uses x (app (nm x) a) = 1 := by simp [uses, ha]
  rw [abs, h1, if_neg (by decide), isNm_uses x b hb, if_neg (by simp), abs_none x b hb, abs, h2, if_neg (by decide), isNm_uses x a ha, if_neg (by simp), abs_none x a ha]
  simp [abs, pair]
theorem uses_bad (x : List UInt8) (hx : nameOk x = false) : ∀ {t : Tm}, good t = true → uses x t = 0
  | nm n, h => by
    simp only [uses]
    split
    · rename_i hn; subst hn; simp only [good] at h; rw [hx] at h; simp at h
    · rfl
  | app f a, h => by simp only [good, Bool.and_eq_true] at h; simp only [uses, uses_bad x hx h.1, uses_bad x hx h.2]
  | k, _ => rfl
  | s, _ => rfl
end Tm

theorem s_nm (w : World) (x : List UInt8) : Calls Tryz.prog 81 #[str x] w fun e w' => e = .returned (.agg #[str x, .slice none 0 0]) ∧ After w w' := by
  have hA := After.new w (.cells #[str x, .slice none 0 0] 53)
  go_enter Tryz.func81, Tryz.ntmps81
  go_wp2_with fail
  exact bodyPost_ret (v := .agg #[str x, .slice none 0 0]) (by simp [results, Tryz.results81, go_sem]) rfl ⟨rfl, hA⟩

theorem s_pair (w : World) (a b : Tm) (s1 s2 : List UInt8) (ao1 ao2 : Option Addr) (n1 c1 n2 c2 : Nat) (ha : ST w a (.agg #[str s1, .slice ao1 n1 c1])) (hb : ST w b (.agg #[str s2, .slice ao2 n2 c2])) (hga : a.good = true) (hgb : b.good = true) (hz : a.size + b.size ≤ 100000000) :
    Calls Tryz.prog 57 #[.agg #[str s1, .slice ao1 n1 c1], .agg #[str s2, .slice ao2 n2 c2]] w (TreePost w (Tm.pair a b)) := by
  obtain ⟨z, hz'⟩ : ∃ z : List UInt8, z = [122, 57, 57, 57, 57] := ⟨_, rfl⟩
  have hzb : Tm.nameOk z = false := by rw [hz']; decide
  have hz0 : ([] == z) = false := by rw [hz']; decide
  have hzk : ([107] == z) = false := by rw [hz']; decide
  have hzs : ([115] == z) = false := by rw [hz']; decide
  have hpair := Tm.pair_abs z a b (Tm.uses_bad z hzb hga) (Tm.uses_bad z hzb hgb)
  have hplain : (Tm.app (.app (.nm z) a) b).Plain := ⟨⟨by show z ≠ []; rw [hz']; simp, Tm.plain_good hga⟩, Tm.plain_good hgb⟩
  have habs := fun W v (h : ST W (.app (.app (.nm z) a) b) v) => h.abs z hz0 hzk hzs hplain (by simp [Tm.size]; omega)
  rw [hpair] at habs
  unfold TreePost at habs
  obtain ⟨Y, hY⟩ : ∃ Y, Y = ((w.alloc (.cells #[str s1, .slice ao1 n1 c1] 53)).alloc (.cells #[str s2, .slice ao2 n2 c2] 53)).alloc (.cells #[.string ⟨#[]⟩, .slice none 0 0] 53) := ⟨_, rfl⟩
  have hwY : After w Y := by rw [hY]; exact ((After.new _ _).alloc _).alloc _
  have h1Y : Y.heap[w.heap.size]? = some (.cells #[str s1, .slice ao1 n1 c1] 53 (0, 0)) := by rw [hY]; exact (After.new _ _).heap (heap_old2 _ _ _)
  have h2Y : Y.heap[w.heap.size + 1]? = some (.cells #[str s2, .slice ao2 n2 c2] 53 (0, 0)) := by rw [hY]; exact (After.new _ _).heap (heap_new2 _ _ _ _ rfl)
  have hrY : Y.heap[w.heap.size + 1 + 1]? = some (.cells #[.string ⟨#[]⟩, .slice none 0 0] 53 (0, 0)) := by rw [hY]; exact heap_new3 _ _ _ _
  have p0 : ∀ W, ButFor Y (w.heap.size + 1 + 1) W → W.cell? ⟨w.heap.size, 0, none⟩ = some (str s1) := fun W hW => hW.cell (by omega) (cell_of_heap h1Y)
  have p1 : ∀ W, ButFor Y (w.heap.size + 1 + 1) W → W.cell? ⟨w.heap.size, 1, none⟩ = some (.slice ao1 n1 c1) := fun W hW => hW.cell (by omega) (cell_of_heap h1Y)
  have p2 : ∀ W, ButFor Y (w.heap.size + 1 + 1) W → W.cell? ⟨w.heap.size + 1, 0, none⟩ = some (str s2) := fun W hW => hW.cell (by omega) (cell_of_heap h2Y)
  have p3 : ∀ W, ButFor Y (w.heap.size + 1 + 1) W → W.cell? ⟨w.heap.size + 1, 1, none⟩ = some (.slice ao2 n2 c2) := fun W hW => hW.cell (by omega) (cell_of_heap h2Y)
  have hbf : ButFor Y (w.heap.size + 1 + 1) Y.drew := ⟨Nat.le_refl _, fun _ _ _ => rfl⟩
  have hself := After.refl Y
  have hzres : ∀ W, After Y W → W.cell? ⟨w.heap.size + 1 + 1, 0, none⟩ = some (.string ⟨#[]⟩) ∧ W.cell? ⟨w.heap.size + 1 + 1, 1, none⟩ = some (.slice none 0 0) ∧ W.frozen? ⟨w.heap.size + 1 + 1, 0, none⟩ = false ∧ W.frozen? ⟨w.heap.size + 1 + 1, 1, none⟩ = false := fun W hW => by
    obtain ⟨a1, a2, a3, a4, _⟩ := pair_facts hrY hW
    exact ⟨a1, a2, a3, a4⟩
  have hnm := fun W => s_nm W z
  have HZ := Lib.hid hzres
  have HWY := Lib.hid hwY
  have HRY := Lib.hid hrY
  have HTA := Lib.hid (ha.later hwY)
  have HTB := Lib.hid (hb.later hwY)
  have HAB := Lib.hid habs
  have HZN : Hid (z = [122, 57, 57, 57, 57]) := hz'
  rw [hz'] at hnm
  clear hzres hwY hrY h1Y h2Y ha hb habs hpair hplain hzb hz0 hzk hzs hz'
  go_enter Tryz.func57, Tryz.ntmps57
  go_wp2_with fail
  rw [← hY]
  clear hY
  go_region_held3 (fun W' => ButFor Y (w.heap.size + 1 + 1) W') (first | assumption | exact hbf | exact After.butFor (by assumption) | exact ButFor.alloc (by assumption) _ | exact (hbf.alloc _) | exact ButFor.set (ButFor.set (by assumption) _ _) _ _ | go_keep)
    (first
      | (go_at_call 81
         refine (hnm _).mono ?_
         rintro e w3 ⟨rfl, hb3⟩
         have hA3 := After.trans (by first | exact hself.drew | exact hself.drew.alloc _ | exact (hself.alloc _).drew | exact hself.alloc _) hb3)
      | (go_at_call 78
         refine (s_app2 _ (.nm z) a b _ s1 s2 none ao1 ao2 0 0 n1 c1 n2 c2 _ (0, 0) ?_ ?_ ?_ ?_).mono ?_
         · rw [HZN.out]; rfl
         · first
             | exact HTA.out.later (hA3.alloc _)
             | exact HTA.out.later hA3
         · first
             | exact HTB.out.later (hA3.alloc _)
             | exact HTB.out.later hA3
         · first
             | exact heap_new' _ _
             | exact heap_later (heap_top Y.drew _) hb3
             | exact heap_later (w := (Y.alloc _).drew) (heap_top Y _) hb3
         rintro e w4 ⟨t4, ao4, nn4, cc4, rfl, hb4, ht4⟩
         have HT4 := Lib.hid ht4
         clear ht4
         have hA4 := After.trans (by first | assumption | exact hA3.alloc _) hb4)
      | (go_at_call 80
         have hab := HAB.out _ _ HT4.out
         rw [HZN.out] at hab
         refine hab.mono ?_
         rintro e w5 ⟨t5, ao5, nn5, cc5, rfl, hb5, ht5⟩
         have HT5 := Lib.hid ht5
         clear ht5 hab
         have hA5 := After.trans hA4 hb5
         obtain ⟨z0, z1, z2, z3⟩ := HZ.out _ hA5))
  all_goals
    go_wp2_with fail
    refine bodyPost_ret (v := .agg #[str t5, .slice ao5 nn5 cc5]) (by simp [results, Tryz.results57, go_sem, z0, z1]) rfl ⟨t5, ao5, nn5, cc5, rfl, Below.setCell (Below.setCell (HWY.out.trans hA5) (by show w.heap.size ≤ w.heap.size + 1 + 1; omega) _) (by show w.heap.size ≤ w.heap.size + 1 + 1; omega) _, ?_⟩
    exact HT5.out.sets2 (hA5.heap HRY.out)

theorem s_number (w : World) (n : Nat) (hn : n ≤ 1000000) : Calls Tryz.prog 33 #[.int .i64 n] w (TreePost w (Tm.num n)) := by
  have hA := After.new w (.cells #[.string ⟨#[]⟩, .slice none 0 0] 53)
  have hres := heap_new' w (.cells #[.string ⟨#[]⟩, .slice none 0 0] 53)
  have hI := s_i (w.alloc (.cells #[.string ⟨#[]⟩, .slice none 0 0] 53))
  unfold TreePost at hI
  have HRES := Lib.hid hres
  clear hres
  go_enter Tryz.func33, Tryz.ntmps33
  go_wp2_with fail
  refine hI.mono ?_
  rintro e w1 ⟨t1, ao1, n1, c1, rfl, hb1, ht1⟩
  have hs1 := hb1.size
  have hBX := heap_new' w1 (.cells #[str t1, .slice ao1 n1 c1] 53)
  have hX1 := After.new w1 (.cells #[str t1, .slice ao1 n1 c1] 53)
  have hstart : Hid (ST (w1.alloc (.cells #[str t1, .slice ao1 n1 c1] 53)) (Tm.num 0) (.agg #[str t1, .slice ao1 n1 c1])) := ht1.later hX1
  have hlt1 : w.heap.size < w1.heap.size := by simp at hs1; omega
  clear ht1 hI
  go_wp2_with fail
  go_loopw [4] (fun i wr => ∃ (k : Nat) (s : List UInt8) (ao : Option Addr) (m c : Nat), i = .int .i64 k ∧ k ≤ n ∧ Hid (wr.heap[w1.heap.size]? = some (.cells #[str s, .slice ao m c] 53 (0, 0))) ∧ Hid (wr.heap[w.heap.size]? = some (.cells #[.string ⟨#[]⟩, .slice none 0 0] 53 (0, 0))) ∧
    Hid (ST wr (Tm.num k) (.agg #[str s, .slice ao m c])) ∧ After w wr) (fun i _ => n - (intOf i).toNat)
  case atStart => exact ⟨0, t1, ao1, n1, c1, rfl, Nat.zero_le _, hBX, (hb1.trans hX1).heap HRES.out, hstart, (hA.trans hb1).trans hX1⟩
  case round =>
    clear hstart
    obtain ⟨k, s, ao, m, c, rfl, hk, hbox, hres, ht, hwr⟩ := hrel
    obtain ⟨k0, k1, _, _, l1⟩ := pair_facts hbox.out (After.refl _)
    by_cases hlt : k < n
    · have hgk := Tm.good_num k
      have hzk := Tm.size_num k
      have hpc := fun W a1 s1 n1 c1 (h1 : ST W Tm.no (.agg #[str s1, .slice a1 n1 c1])) (h2 : ST W (Tm.num k) (.agg #[str s, .slice ao m c])) => s_pair W Tm.no (Tm.num k) s1 s a1 ao n1 c1 m c h1 h2 rfl hgk (by rw [hzk]; simp [Tm.no, Tm.I, Tm.size]; omega)
      rw [show Tm.pair Tm.no (Tm.num k) = Tm.num (k + 1) from rfl] at hpc
      have hfa := s_false
      unfold TreePost at hpc hfa
      have HPC := Lib.hid hpc
      have HFA := Lib.hid hfa
      have hself := After.refl wr
      have hlt' : (k : Int) < (n : Int) := by omega
      clear hpc hfa hgk hzk
      go_wp2_with fail
      go_region_with (first
        | (go_at_call 53
           refine (HFA.out _).mono ?_
           rintro e w2 ⟨t2, ao2, n2, c2, rfl, hb2, ht2⟩
           have HT2 := Lib.hid ht2
           clear ht2
           have hA2 := After.trans (by first | exact hself.drew | exact hself) hb2
           obtain ⟨q0, q1, q2, q3, l3⟩ := pair_facts hbox.out hA2)
        | (go_at_call 57
           refine (HPC.out _ _ _ _ _ HT2.out (ht.out.later hA2)).mono ?_
           rintro e w3 ⟨t3, ao3, n3, c3, rfl, hb3, ht3⟩
           have HT3 := Lib.hid ht3
           clear ht3
           have hA3 := hA2.trans hb3
           obtain ⟨r0, r1, r2, r3, l4⟩ := pair_facts hbox.out hA3))
      all_goals
        go_wp2_with fail
        go_roundw
        case rel =>
          have hbox3 := hA3.heap hbox.out
          have hres3 := hA3.heap hres.out
          exact ⟨k + 1, t3, ao3, n3, c3, by go_num, by omega, heap_sets2 hbox3, by show _ = _; rw [heap_sets2_ne (by omega)]; exact hres3, HT3.out.sets2 hbox3, Below.setCell (Below.setCell (hwr.trans hA3) (by simp; omega) _) (by simp; omega) _⟩
        case measure => simp [intOf]; omega
    · obtain rfl : k = n := by omega
      obtain ⟨z0, z1, z2, z3, l2⟩ := pair_facts hres.out (After.refl _)
      go_wp2_with fail
      refine bodyPost_ret (v := .agg #[str s, .slice ao m c]) (by simp [results, Tryz.results33, go_sem, z0, z1]) rfl
        ⟨s, ao, m, c, rfl, Below.setCell (Below.setCell hwr (by simp) _) (by simp) _, ht.out.sets2 hres.out⟩

def SNumOne (w : World) (r : Option (List UInt8)) (e : Ending) (w' : World) : Prop :=
  e = .returned (.tuple #[str (r.getD []), .bool r.isSome]) ∧ After w w'

end Go.Proofs.YtidpkmkhcomcdaaGreat

namespace Go.Proofs.YtidpkmkhcomcdaaGreat
open Go.RowKit

set_option maxHeartbeats 1000000
set_option maxRecDepth 100000

theorem bodyOf_any (x : List UInt8) : ∀ {t : Tm} {w : World} {B : Nat} {v : Value}, TV w B t v → Calls Tryz.prog 101 #[v, str x] w (BodyPost w B (Bd.of x t)) := by
  intro t
  induction t with
  | k => intro w B v h; obtain ⟨b, fr, rfl, _⟩ := id h; exact body_leaf w B x _ b .k (Or.inl rfl) h
  | s => intro w B v h; obtain ⟨b, fr, rfl, _⟩ := id h; exact body_leaf w B x _ b .s (Or.inr rfl) h
  | nm n => intro w B v h; obtain ⟨b, fr, rfl, _⟩ := id h; exact body_name w B x n b h
  | app f a ihf iha =>
    intro w B v h
    have h' := h
    obtain ⟨b, fr, vf, va, rfl, hb, hh, hf, ha⟩ := h
    obtain ⟨T1, x1, rfl, _⟩ := hf.asks
    obtain ⟨T2, x2, rfl, _⟩ := ha.asks
    have hcall := body_parts w B b x f a (Bd.of x f) (Bd.of x a) T1 T2 x1 x2 h' hf (cell_later' (cell_of_heap (i := 0) hh)) (cell_later' (cell_of_heap (i := 1) hh)) (fun W' hW' => ihf (hf.below hW')) (fun W' hW' => iha (ha.below hW'))
    rw [show Bd.of x (.app f a) = Bd.comb f a (Bd.of x f) (Bd.of x a) from rfl]
    generalize Bd.comb f a (Bd.of x f) (Bd.of x a) = c at hcall ⊢
    unfold BodyPost at hcall
    have ha1 := assert_nm_a w (.pointer (some ⟨b, 0, none⟩))
    have ha2 := assert_app w (.pointer (some ⟨b, 0, none⟩))
    clear h' hh hf ha ihf iha
    go_enter Tryz.func101, Tryz.ntmps101
    go_wp2_with fail
    refine hcall.mono ?_
    rintro e w1 ⟨v1, rfl, hb1, hv1⟩
    have HV := Lib.hid hv1
    clear hv1 hcall
    go_wp2_with fail
    go_ret
    exact ⟨_, rfl, hb1, HV.out⟩

theorem comb_in {f a : Tm} {b1 b2 : Bd} (h : ∀ u, b1 ≠ .without u) : Bd.comb f a b1 b2 = .inside b1 b2 := by
  cases b1 with
  | without u => exact absurd rfl (h u)
  | itself => cases b2 <;> rfl
  | atEnd u => cases b2 <;> rfl
  | inside c d => cases b2 <;> rfl

theorem comb_in2 {f a : Tm} {b1 b2 : Bd} (h : ∀ u, b2 ≠ .without u) (h2 : b2 ≠ .itself) : Bd.comb f a b1 b2 = .inside b1 b2 := by
  cases b2 with
  | without u => exact absurd rfl (h u)
  | itself => exact absurd rfl h2
  | atEnd u => cases b1 <;> rfl
  | inside c d => cases b1 <;> rfl

theorem of_none (x : List UInt8) : ∀ {t : Tm}, Tm.uses x t = 0 → Bd.of x t = .without t
  | .k, _ => rfl
  | .s, _ => rfl
  | .nm n, h => by
    simp only [Tm.uses] at h
    split at h
    · simp at h
    · rename_i hn; simp [Bd.of, hn]
  | .app f a, h => by
    simp only [Tm.uses] at h
    rw [Bd.of, of_none x (t := f) (by omega), of_none x (t := a) (by omega)]
    rfl

theorem of_some (x : List UInt8) : ∀ {t : Tm}, Tm.uses x t ≠ 0 → (∀ u, Bd.of x t ≠ .without u) ∧ (Bd.of x t = .itself ↔ Tm.isNm x t = true)
  | .k, h => absurd rfl h
  | .s, h => absurd rfl h
  | .nm n, h => by
    simp only [Tm.uses] at h
    split at h
    · rename_i hn; simp [Bd.of, hn, Tm.isNm]
    · exact absurd rfl h
  | .app f a, h => by
    by_cases hf : Tm.uses x f = 0
    · have ha : Tm.uses x a ≠ 0 := by simp only [Tm.uses] at h; omega
      have ih := of_some x ha
      rw [Bd.of, of_none x hf]
      cases hb : Bd.of x a with
      | without u => exact absurd hb (ih.1 u)
      | itself => exact ⟨fun u => by simp [Bd.comb], by simp [Bd.comb, Tm.isNm]⟩
      | atEnd u => exact ⟨fun u => by simp [Bd.comb], by simp [Bd.comb, Tm.isNm]⟩
      | inside c d => exact ⟨fun u => by simp [Bd.comb], by simp [Bd.comb, Tm.isNm]⟩
    · have ih := of_some x hf
      rw [Bd.of, comb_in ih.1]
      exact ⟨fun u => by simp, by simp [Tm.isNm]⟩

theorem of_term (x : List UInt8) : ∀ t : Tm, (Bd.of x t).term = Tm.abs x t
  | .k => rfl
  | .s => rfl
  | .nm n => by by_cases hn : n = x <;> simp [Bd.of, Tm.abs, hn, Bd.term]
  | .app f a => by
    have ihf := of_term x f
    have iha := of_term x a
    by_cases h0 : Tm.uses x (.app f a) = 0
    · rw [of_none x h0, Tm.abs_none x _ h0]; rfl
    · rw [Tm.abs, if_neg h0]
      by_cases hf : Tm.uses x f = 0
      · have ha : Tm.uses x a ≠ 0 := by simp only [Tm.uses] at h0; omega
        have ha' := of_some x ha
        by_cases hn : Tm.isNm x a = true
        · rw [if_pos ⟨hn, hf⟩, Bd.of, of_none x hf, ha'.2.2 hn]; rfl
        · rw [if_neg (fun h => hn h.1), Bd.of, comb_in2 ha'.1 (fun h => hn (ha'.2.1 h)), Bd.term, ihf, iha]
      · rw [if_neg (fun h => hf h.2), Bd.of, comb_in (of_some x hf).1, Bd.term, ihf, iha]

theorem abs_size (x : List UInt8) : ∀ t : Tm, (Tm.abs x t).size + 1 ≤ 4 * t.size
  | .k => by simp [Tm.abs, Tm.size]
  | .s => by simp [Tm.abs, Tm.size]
  | .nm n => by by_cases hn : n = x <;> simp [Tm.abs, hn, Tm.size, Tm.I]
  | .app f a => by
    have ihf := abs_size x f
    have iha := abs_size x a
    have hf := Tm.size_pos f
    have ha := Tm.size_pos a
    rw [Tm.abs]
    split
    · simp only [Tm.size]; omega
    · split
      · simp only [Tm.size]; omega
      · simp only [Tm.size]; omega

theorem abstraction_any (w : World) (B : Nat) (x : List UInt8) (t : Tm) (v : Value) (h : TV w B t v) (hB : B ≤ w.heap.size) (hz : t.size ≤ 1000000) :
    Calls Tryz.prog 83 #[str x, v] w (TermPost w B (Tm.abs x t)) := by
  have hbody := bodyOf_any x h
  have hsz := abs_size x t
  unfold BodyPost at hbody
  rw [← of_term] at hsz ⊢
  generalize Bd.of x t = b at *
  go_enter Tryz.func83, Tryz.ntmps83
  go_wp2_with fail
  refine hbody.mono ?_
  rintro e w1 ⟨v1, rfl, hb1, hv1⟩
  obtain ⟨T1, x1, f1, y1, rfl, m1, n1, d1⟩ := BV.absOk (Nat.le_trans hB hb1.size) hv1 (by omega)
  have hcall := d1 w1 (Below.refl _ _)
  unfold TermPost at hcall
  clear hv1 hbody d1
  go_wp2_with (go_at_fn f1; refine hcall.mono ?_; rintro e w2 ⟨v2, rfl, hb2, ht2⟩; have HT := Lib.hid ht2; clear ht2)
  go_ret
  exact ⟨_, rfl, below_trans hb1 hb2, HT.out⟩
end Go.Proofs.YtidpkmkhcomcdaaGreat

namespace Go.Proofs.YtidpkmkhcomcdaaGreat
open Go.RowKit Go.Shelf

attribute [local go_sem] Oper.semAt_some

/-- What has come when k rounds are over. -/
def upto {α : Type} (f : Nat → α) (k : Nat) : List α := (List.range k).map f
theorem upto_succ {α : Type} (f : Nat → α) (k : Nat) : upto f (k + 1) = upto f k ++ [f k] := by simp [upto, List.range_succ]
theorem upto_length {α : Type} (f : Nat → α) (k : Nat) : (upto f k).length = k := by simp [upto]

/-- The blocks below m and the block Bs are as they were. -/
def KeepB (m Bs : Nat) (W W' : World) : Prop := ∀ k, (k < m ∨ k = Bs) → W'.heap[k]? = W.heap[k]?
theorem KeepB.trans {m Bs : Nat} {A B C : World} (h : KeepB m Bs A B) (k : KeepB m Bs B C) : KeepB m Bs A C := fun i hi => (k i hi).trans (h i hi)
theorem KeepB.refl (m Bs : Nat) (W : World) : KeepB m Bs W W := fun _ _ => rfl
theorem KeepB.cell {m Bs b i : Nat} {W W' : World} {v : Value} (h : KeepB m Bs W W') (hb : b < m ∨ b = Bs) (hc : W.cell? ⟨b, i, none⟩ = some v) : W'.cell? ⟨b, i, none⟩ = some v := by
  rw [World.cell?_of_block (w := W) (a := ⟨b, i, none⟩) (h b hb)]; exact hc

set_option maxRecDepth 100000 in
set_option maxHeartbeats 2000000 in
theorem back1_in (F : Fence) (n : Nat) (h8 : F.fn 100) (hro : F.round = none) (hn : 1 ≤ n) (l Bs m b off len cap : Nat) (zs : List (List UInt8)) (hreach : len ≤ 1000000000) (hb : b < m) (J Jx : List (Nat × List UInt8) → World → Prop)
    (hY : ∀ pre x W, J pre W → pre.length < len → YieldAt F (n - 1) Tryz.prog l #[.int .i64 (x.1 : Int), str x.2] W fun e W' =>
      (e = .returned (.bool true) ∧ J (pre ++ [x]) W' ∧ KeepB m Bs W W') ∨ (e = .returned (.bool false) ∧ Jx (pre ++ [x]) W'))
    (W : World) (hBs : W.cell? ⟨Bs, 0, none⟩ = some (.slice (some ⟨b, off, none⟩) len cap)) (hc : ∀ j, j < len → W.cell? ⟨b, off + j, none⟩ = some (str (zs[j]?.getD []))) (h0 : J [] W) :
    CallsIn F n Tryz.prog 100 #[.func (.yield l) #[] #[], .pointer (some ⟨Bs, 0, none⟩)] W fun e W' => (∃ v, e = .returned v) ∧
      ((∃ ys, ys = upto (fun j => (len - 1 - j, zs[len - 1 - j]?.getD [])) len ∧ J ys W') ∨ (∃ pre, (∃ k, k ≤ len ∧ pre = upto (fun j => (len - 1 - j, zs[len - 1 - j]?.getD [])) k) ∧ Jx pre W')) := by
  refine callsIn_of_wp Tryz.func100 rfl h8 ?_ hro
  simp only [Tryz.ntmps100, List.size_toArray, List.length_cons, List.length_nil, Nat.reduceAdd, Nat.reduceSub, Array.replicate_succ, Array.replicate_zero, List.push_toArray, List.append_toArray, List.nil_append, List.cons_append]
  gi_wp2
  gi_loopw [3] (fun i wr => ∃ k : Nat, k ≤ len ∧ i = .int .i64 ((len : Int) - 1 - k) ∧ J (upto (fun j => (len - 1 - j, zs[len - 1 - j]?.getD [])) k) wr ∧ KeepB m Bs W wr)
    (fun i _ => (intOf i + 1).toNat)
  case atStart => exact ⟨0, Nat.zero_le _, by simp, h0, KeepB.refl _ _ _⟩
  case round =>
    obtain ⟨k, hk, rfl, hJs, hnx⟩ := hrel
    have hBs' := hnx.cell (Or.inr rfl) hBs
    by_cases hlt : k < len
    · obtain ⟨q, hq⟩ : ∃ q : Nat, q = len - 1 - k := ⟨_, rfl⟩
      have hqi : (len : Int) - 1 - k = (q : Int) := by omega
      have hql : q < len := by omega
      have hcx := hnx.cell (Or.inl hb) (hc q hql)
      obtain ⟨fn, tmps, assign, body, hy, hR⟩ := hY _ (q, zs[q]?.getD []) wr hJs (by rw [upto_length]; exact hlt)
      dsimp only at hy
      simp only [hqi]
      have HQ := Lib.hid hq
      have HQI := Lib.hid hqi
      clear hq hqi
      gi_wp2
      refine hR.mono ?_
      rintro e W3 (⟨rfl, hJ3, hk3⟩ | ⟨rfl, hJx3⟩)
      · gi_wp2
        go_roundw
        case rel => exact ⟨k + 1, by omega, by have := HQI.out; simp; omega, by rw [upto_succ, ← HQ.out]; exact hJ3, hnx.trans hk3⟩
        case measure => simp [intOf]
      · gi_wp2
        refine bodyPost_ret (results_none rfl _ _ _) rfl ?_
        exact ⟨⟨_, rfl⟩, .inr ⟨_, ⟨k + 1, by omega, by rw [upto_succ, ← HQ.out]⟩, hJx3⟩⟩
    · obtain rfl : k = len := by omega
      gi_wp2
      go_end0
      exact ⟨⟨_, rfl⟩, .inl ⟨_, rfl, hJs⟩⟩

set_option maxRecDepth 100000 in
set_option maxHeartbeats 1000000 in
theorem back1_nil_in (F : Fence) (n : Nat) (h8 : F.fn 100) (hro : F.round = none) (l Bs : Nat) (J : List (Nat × List UInt8) → World → Prop) (W : World) (ao : Option Addr) (cap : Nat) (hBs : W.cell? ⟨Bs, 0, none⟩ = some (.slice ao 0 cap)) (h0 : J [] W) :
    CallsIn F n Tryz.prog 100 #[.func (.yield l) #[] #[], .pointer (some ⟨Bs, 0, none⟩)] W fun e W' => (∃ v, e = .returned v) ∧ J [] W' := by
  refine callsIn_of_wp Tryz.func100 rfl h8 ?_ hro
  simp only [Tryz.ntmps100, List.size_toArray, List.length_cons, List.length_nil, Nat.reduceAdd, Nat.reduceSub, Array.replicate_succ, Array.replicate_zero, List.push_toArray, List.append_toArray, List.nil_append, List.cons_append]
  gi_wp2
  gi_loopw [3] (fun i wr => i = .int .i64 (-1) ∧ J [] wr) (fun _ _ => 0)
  case atStart => exact ⟨rfl, h0⟩
  case round =>
    obtain ⟨rfl, hJs⟩ := hrel
    gi_wp2
    go_end0
    exact ⟨⟨_, rfl⟩, hJs⟩

set_option maxHeartbeats 1000000 in
/-- slices.Backward(s): the slice value is boxed; the function value captures the box. -/
theorem back_in (F : Fence) (n : Nat) (h6 : F.fn 82) (hro : F.round = none) (a : Option Addr) (len cap : Nat) (w : World) :
    CallsIn F n Tryz.prog 82 #[.slice a len cap] w fun e w' => e = .returned (.func (.func 100) #[] #[.pointer (some ⟨w.heap.size, 0, none⟩)]) ∧ w' = w.alloc (.cells #[.slice a len cap] 40) := by
  refine callsIn_of_wp Tryz.func82 rfl h6 ?_ hro
  simp only [Tryz.ntmps82, List.size_toArray, List.length_cons, List.length_nil, Nat.reduceAdd, Nat.reduceSub, Array.replicate_succ, Array.replicate_zero, List.push_toArray, List.append_toArray, List.nil_append, List.cons_append]
  gi_wp2
  go_ret
  exact ⟨rfl, rfl⟩

/-- The slice value holds these texts, in a block below m. -/
def StrsB (m : Nat) (W : World) (sv : Value) (zs : List (List UInt8)) : Prop :=
  (∃ ao cap, sv = .slice ao 0 cap ∧ zs = []) ∨ ∃ b off cap, sv = .slice (some ⟨b, off, none⟩) zs.length cap ∧ b < m ∧ ∀ j, j < zs.length → W.cell? ⟨b, off + j, none⟩ = some (str (zs[j]?.getD []))

theorem back_stops (F : Fence) (n : Nat) (h8 : F.fn 100) (hro : F.round = none) (hn : 1 ≤ n) (Bs m : Nat) (sv : Value) (zs : List (List UInt8)) (hreach : zs.length ≤ 1000000000) (w : World) (hBs : Bs < w.heap.size) (hm : m ≤ w.heap.size)
    (hc : w.cell? ⟨Bs, 0, none⟩ = some sv) (hI : StrsB m w sv zs) :
    SeqStopsK F n Tryz.prog 100 #[.pointer (some ⟨Bs, 0, none⟩)] (fun x : Nat × List UInt8 => #[Value.int .i64 (x.1 : Int), str x.2]) (KeepB m Bs) (fun ys => ys = upto (fun j => (zs.length - 1 - j, zs[zs.length - 1 - j]?.getD [])) zs.length)
      (fun pre => ∃ k, k ≤ zs.length ∧ pre = upto (fun j => (zs.length - 1 - j, zs[zs.length - 1 - j]?.getD [])) k) zs.length w := fun l J Jx W hW _ _ hY h0 => by
  have hc' := (hW.cell (p := ⟨Bs, 0, none⟩) hBs).trans hc
  rcases hI with ⟨ao, cap, rfl, rfl⟩ | ⟨b, off, cap, rfl, hb, hcs⟩
  · exact (back1_nil_in F n h8 hro l Bs J W ao cap hc' h0).mono fun e W' ⟨he, hj⟩ => ⟨he, .inl ⟨_, rfl, hj⟩⟩
  · exact back1_in F n h8 hro hn l Bs m b off zs.length cap zs hreach hb J Jx hY W hc' (fun j hj => (hW.cell (p := ⟨b, off + j, none⟩) (show b < w.heap.size by omega)).trans (hcs j hj)) h0

theorem keepB_b {m Bs : Nat} {w : World} (hm : m ≤ w.heap.size) (hBs : Bs < w.heap.size) (W : World) (l : Nat) (o o' : Obj) (hl : w.heap.size ≤ l) (h : W.heap[l]? = some o) (_ : o.isCells = false) (_ : o.isWalk = false) : KeepB m Bs W (W.putObj l o') := fun k hk => by
  have hg := grownBy_putObj' W l o'
  have hlt := (Array.getElem?_eq_some_iff.1 h).1
  exact hg.block k (by omega) (fun e => by injection e with e; omega)
end Go.Proofs.YtidpkmkhcomcdaaGreat

namespace Go.Proofs.YtidpkmkhcomcdaaGreat
open Go.RowKit Go.Shelf

attribute [local go_sem] Oper.semAt_some

/-- Names abstracted one after the other, each result looked at. -/
def absL : List (List UInt8) → Tm → Option Tm
  | [], t => some t
  | x :: xs, t => if (Tm.abs x t).fits = true then absL xs (Tm.abs x t) else none

theorem absL_snoc (xs : List (List UInt8)) (x : List UInt8) : ∀ t, absL (xs ++ [x]) t = (absL xs t).bind fun u => if (Tm.abs x u).fits = true then some (Tm.abs x u) else none := by
  induction xs with
  | nil => intro t; simp [absL]
  | cons y ys ih => intro t; simp only [List.cons_append, absL]; split
                    · exact ih _
                    · rfl

theorem TV.keptCells {A C : World} {B : Nat} (hk : ∀ (b : Nat) (cs : Array Value) (T : TypeId) (fr : Nat × Nat), T ≠ 46 → T ≠ 4 → A.heap[b]? = some (.cells cs T fr) → C.heap[b]? = some (.cells cs T fr)) : ∀ {t : Tm} {v : Value}, TV A B t v → TV C B t v
  | .k, _, ⟨b, fr, hv, hb, h⟩ => ⟨b, fr, hv, hb, hk _ _ _ _ (by decide) (by decide) h⟩
  | .s, _, ⟨b, fr, hv, hb, h⟩ => ⟨b, fr, hv, hb, hk _ _ _ _ (by decide) (by decide) h⟩
  | .nm _, _, ⟨b, fr, hv, hb, h⟩ => ⟨b, fr, hv, hb, hk _ _ _ _ (by decide) (by decide) h⟩
  | .app _ _, _, ⟨b, fr, vf, va, hv, hb, h, hf, ha⟩ => ⟨b, fr, vf, va, hv, hb, hk _ _ _ _ (by decide) (by decide) h, hf.keptCells hk, ha.keptCells hk⟩

theorem TV.grownCells {A C : World} {B : Nat} {row : Option Nat} {t : Tm} {v : Value} (h : TV A B t v) (hg : A.grownBy C row) (hr : ∀ r, row = some r → ∃ o : Obj, A.heap[r]? = some o ∧ o.isCells = false) : TV C B t v :=
  h.keptCells fun b cs T fr _ _ hb => by
    rw [hg.block b (Array.getElem?_eq_some_iff.1 hb).1 (fun e => by obtain ⟨o, ho, hc⟩ := hr b e.symm; rw [hb] at ho; injection ho with ho; subst ho; simp [Obj.isCells] at hc)]
    exact hb

theorem TV.boxSet {A : World} {B b : Nat} {x u : Value} {t : Tm} {v : Value} (h : TV A B t v) (hb : Boxed A b 46 x) : TV (A.setCell ⟨b, 0, none⟩ u) B t v :=
  h.keptCells fun b' cs T fr hT _ hb' => by
    have hne : b' ≠ b := by
      rintro rfl
      rw [show A.heap[b']? = _ from hb] at hb'
      injection hb' with hb'
      injection hb' with _ hb' _
      exact hT hb'.symm
    rw [Below.heap_setCell _ _ _ _ hne]
    exact hb'

theorem TV.boolSet {A : World} {B b : Nat} {x u : Value} {t : Tm} {v : Value} (h : TV A B t v) (hb : Boxed A b 4 x) : TV (A.setCell ⟨b, 0, none⟩ u) B t v :=
  h.keptCells fun b' cs T fr _ hT hb' => by
    have hne : b' ≠ b := by
      rintro rfl
      rw [show A.heap[b']? = _ from hb] at hb'
      injection hb' with hb'
      injection hb' with _ hb' _
      exact hT hb'.symm
    rw [Below.heap_setCell _ _ _ _ hne]
    exact hb'

theorem absL_append (xs ys : List (List UInt8)) : ∀ t, absL (xs ++ ys) t = (absL xs t).bind (absL ys) := by
  induction xs with
  | nil => intro t; simp [absL]
  | cons x xs ih => intro t; simp only [List.cons_append, absL]; split
                    · exact ih _
                    · rfl

theorem back_take (zs : List (List UInt8)) (k : Nat) (hk : k ≤ zs.length) : (upto (fun j => (zs.length - 1 - j, zs[zs.length - 1 - j]?.getD [])) k).map Prod.snd = zs.reverse.take k := by
  apply List.ext_getElem
  · simp [upto, hk]
  · intro i h1 h2
    have hi : i < k := by simpa [upto] using h1
    have hz : zs.length - 1 - i < zs.length := by omega
    simp [upto, hz]

theorem box_kept {A C : World} {b : Nat} {T : TypeId} {x : Value} {row : Option Nat} (h : Boxed A b T x) (hg : A.grownBy C row) (hr : ∀ r, row = some r → ∃ o : Obj, A.heap[r]? = some o ∧ o.isCells = false) : Boxed C b T x :=
  Boxed.kept h hg fun e => by obtain ⟨o, ho, hc⟩ := hr b e.symm; rw [show A.heap[b]? = _ from h] at ho; injection ho with ho; subst ho; simp [Obj.isCells] at hc

theorem box_later {A C : World} {b : Nat} {T : TypeId} {x : Value} (h : Boxed A b T x) (hb : Below A.heap.size A C) : Boxed C b T x := heap_later h hb
theorem keepsOthers_below {A C : World} (h : Below A.heap.size A C) : KeepsOthers A C := ⟨h.size, fun _ _ hk _ => heap_later hk h⟩
theorem keepB_below {m Bs : Nat} {A C : World} (h : Below A.heap.size A C) (hm : m ≤ A.heap.size) (hBs : Bs < A.heap.size) : KeepB m Bs A C := fun k hk => h.block k (by omega)
theorem keepB_set {m Bs b : Nat} {A : World} (v : Value) (h1 : m ≤ b) (h2 : Bs ≠ b) : KeepB m Bs A (A.setCell ⟨b, 0, none⟩ v) := fun k hk => Below.heap_setCell _ _ _ _ (show k ≠ b by omega)

set_option maxRecDepth 100000 in
set_option maxHeartbeats 2000000 in
theorem absN_any (w : World) (B : Nat) (names : List (List UInt8)) (sv : Value) (t : Tm) (v : Value) (hI : StrsB w.heap.size w sv names) (hT : TV w B t v) (hB : B ≤ w.heap.size) (hf : t.fits = true) (hlen : names.length ≤ 1000000000) :
    Calls Tryz.prog 58 #[sv, v] w fun e w' => ∃ v', e = .returned (.tuple #[v', .bool (absL names.reverse t).isSome]) ∧ Below w.heap.size w w' ∧ ∀ u, absL names.reverse t = some u → TV w' B u v' := by
  obtain ⟨T, x, rfl, _⟩ := hT.asks
  obtain ⟨ao, cap, rfl⟩ : ∃ ao cap, sv = .slice ao names.length cap := by
    rcases hI with ⟨ao, cap, rfl, rfl⟩ | ⟨b, off, cap, rfl, _⟩
    · exact ⟨_, _, rfl⟩
    · exact ⟨_, _, rfl⟩
  refine (callsIn_wide (n := 3)).1 ?_
  refine callsIn_of_wp_marks Tryz.func58 rfl trivial ?_ rfl
  simp only [Tryz.ntmps58, List.size_toArray, List.length_cons, List.length_nil, Nat.reduceAdd, Nat.reduceSub, Array.replicate_succ, Array.replicate_zero, List.push_toArray, List.append_toArray, List.nil_append, List.cons_append]
  gi_wp2_with (refine ⟨trivial, ?_⟩; gi_at_call 82; refine (back_in Fence.wide 2 trivial rfl _ _ _ _).mono ?_; rintro e w' ⟨rfl, rfl⟩)
  have b0 := Boxed.new w 46 (.iface T x)
  have b1 := Boxed.new (w.alloc (.cells #[.iface T x] 46)) 46 .nilIface
  have b2 := Boxed.new ((w.alloc (.cells #[.iface T x] 46)).alloc (.cells #[.nilIface] 46)) 4 (.bool false)
  have b3 := Boxed.new (((w.alloc (.cells #[.iface T x] 46)).alloc (.cells #[.nilIface] 46)).alloc (.cells #[.bool false] 4)) 40 (.slice ao names.length cap)
  simp only [World.size_alloc] at b1 b2 b3
  have hB0 : Below w.heap.size w ((((w.alloc (.cells #[.iface T x] 46)).alloc (.cells #[.nilIface] 46)).alloc (.cells #[.bool false] 4)).alloc (.cells #[.slice ao names.length cap] 40)) := below_alloc (below_alloc (below_alloc (below_alloc (Below.refl _ _) _) _) _) _
  have hI' : StrsB w.heap.size ((((w.alloc (.cells #[.iface T x] 46)).alloc (.cells #[.nilIface] 46)).alloc (.cells #[.bool false] 4)).alloc (.cells #[.slice ao names.length cap] 40)) (.slice ao names.length cap) names := by
    rcases hI with h | ⟨b, off, cap', e, hb, hc⟩
    · exact Or.inl h
    · exact Or.inr ⟨b, off, cap', e, hb, fun j hj => cell_later' (hc j hj) _ hB0⟩
  refine wpIn_rangeFunc_ownG rfl (by omega) (gf := 100) (lb := #[.pointer (some ⟨w.heap.size + 1 + 1 + 1, 0, none⟩)]) rfl trivial (enters_of Tryz.func100 (by kernel_rfl) rfl)
    (back_stops Fence.wide 2 trivial rfl (by omega) (w.heap.size + 1 + 1 + 1) w.heap.size _ names hlen _ (by simp) (by simp; omega) b3.cell hI') KeepB.trans (keepB_b (by simp; omega) (by simp)) (Below.refl _ _) (fun _ => rfl)
    (fun pre W => (∃ u vu, absL (pre.map Prod.snd) t = some u ∧ u.fits = true ∧ TV W B u vu ∧ Boxed W w.heap.size 46 vu ∧ Boxed W (w.heap.size + 1) 46 .nilIface ∧ Boxed W (w.heap.size + 1 + 1) 4 (.bool false) ∧ w.heap.size + 1 + 1 + 1 < W.heap.size) ∧ Below w.heap.size w W)
    (fun c pre W => (c = .ret ∧ absL (pre.map Prod.snd) t = none ∧ Boxed W (w.heap.size + 1) 46 .nilIface ∧ Boxed W (w.heap.size + 1 + 1) 4 (.bool false)) ∧ Below w.heap.size w W)
    (OwnFrom.and (Own.from (fun s A C row hs hg hr => by
      obtain ⟨u, vu, h1, h2, h3, h4, h5, h6, h7⟩ := hs
      exact ⟨u, vu, h1, h2, h3.grownCells hg hr, box_kept h4 hg hr, box_kept h5 hg hr, box_kept h6 hg hr, Nat.lt_of_lt_of_le h7 hg.size⟩) _) (ownFrom_below (Nat.le_refl _) (by simp; omega)))
    (fun c => OwnFrom.and (Own.from (fun s A C row hs hg hr => ⟨hs.1, hs.2.1, box_kept hs.2.2.1 hg hr, box_kept hs.2.2.2 hg hr⟩) _) (ownFrom_below (Nat.le_refl _) (by simp; omega)))
    ⟨⟨t, .iface T x, rfl, hf, hT.below hB0, ((b0.alloc _).alloc _).alloc _, (b1.alloc _).alloc _, b2.alloc _, by simp⟩, hB0⟩
    (fun p => { tmps := #[.slice ao names.length cap, .iface T x, undef, .pointer (some ⟨w.heap.size, 0, none⟩), .pointer (some ⟨w.heap.size + 1, 0, none⟩), .pointer (some ⟨w.heap.size + 1 + 1, 0, none⟩), undef, str p.2, .slice ao names.length cap, .func (.func 100) #[] #[.pointer (some ⟨w.heap.size + 1 + 1 + 1, 0, none⟩)], .int .i64 (p.1 : Int), str p.2, undef, undef, undef, undef, undef, undef, undef], defers := [] }) ?assign ?body ?done ?stop
  case assign =>
    intro l p W K hK
    gi_wp2
    exact hK
  case body =>
    rintro l pre p W ⟨⟨u, vu, h1, h2, h3, h4, h5, h6, h7⟩, hBw⟩ _
    obtain ⟨T', x', rfl, _⟩ := h3.asks
    have c0 := h4.cell
    have hsz := fits_size h2
    have hBW := Nat.le_trans hB hBw.size
    have hcall := abstraction_any W B p.2 u _ h3 hBW (by omega)
    unfold TermPost at hcall
    gi_wp2_with (refine ⟨trivial, ?_⟩; gi_at_call 83; refine (CallsIn.inRound l (callsIn_wide.2 hcall)).mono ?_; rintro e w1 ⟨v1, rfl, hb1, ht1⟩; obtain ⟨T1, x1, rfl, _⟩ := ht1.asks; have g4 := box_later h4 hb1; have gc := g4.cell; have gf := g4.frozen; clear c0)
    have ht2 := TV.boxSet (u := .iface T1 x1) ht1 g4
    have e0 := Boxed.set (.iface T1 x1) g4
    have e1 := Boxed.other (box_later h5 hb1) (show w.heap.size + 1 ≠ w.heap.size by omega) (.iface T1 x1)
    have e2 := Boxed.other (box_later h6 hb1) (show w.heap.size + 1 + 1 ≠ w.heap.size by omega) (.iface T1 x1)
    have hfit := fits_any _ B _ _ ht2
    have hs1 := hb1.size
    obtain ⟨fb, hfb⟩ : ∃ fb, fb = (Tm.abs p.2 u).fits := ⟨_, rfl⟩
    rw [← hfb] at hfit
    have hnext : absL ((pre ++ [p]).map Prod.snd) t = if fb = true then some (Tm.abs p.2 u) else none := by
      rw [List.map_append, List.map_singleton, absL_snoc, h1, hfb]; rfl
    have HN := Lib.hid hnext
    have HFB := Lib.hid hfb
    clear hnext hfb
    cases fb
    · gi_wp2_with (refine ⟨trivial, ?_⟩; gi_at_call 84; refine (CallsIn.inRound l (callsIn_wide.2 hfit)).mono ?_; rintro e w3 ⟨rfl, hb3⟩; have f1 := box_later e1 hb3; have f2 := box_later e2 hb3; have f1c := f1.cell; have f1f := f1.frozen; have f2c := f2.cell; have f2f := f2.frozen)
      have hs3 : w1.heap.size ≤ w3.heap.size := by have := hb3.size; simpa [World.setCell] using this
      refine ⟨((keepsOthers_below hb1).trans ((KeepsOthers.setCell _ _ _).trans ((keepsOthers_below hb3).trans ((KeepsOthers.setCell _ _ _).trans (KeepsOthers.setCell _ _ _))))).from _, ⟨rfl, by simpa using HN.out, Boxed.other (Boxed.set .nilIface f1) (by omega) _, Boxed.set (.bool false) (Boxed.other f2 (by omega) _)⟩, ?_⟩
      exact (((hBw.trans (hb1.mono hBw.size)).trans (((Below.refl w.heap.size w1).setCell (p := ⟨w.heap.size, 0, none⟩) (Nat.le_refl _) _).trans (hb3.mono (by simp [World.setCell]; omega)))).setCell (p := ⟨w.heap.size + 1, 0, none⟩) (by simp) _).setCell (p := ⟨w.heap.size + 1 + 1, 0, none⟩) (by simp; omega) _
    · gi_wp2_with (refine ⟨trivial, ?_⟩; gi_at_call 84; refine (CallsIn.inRound l (callsIn_wide.2 hfit)).mono ?_; rintro e w3 ⟨rfl, hb3⟩)
      have hs3 : w1.heap.size ≤ w3.heap.size := by have := hb3.size; simpa [World.setCell] using this
      refine ⟨((keepsOthers_below hb1).trans ((KeepsOthers.setCell _ _ _).trans (keepsOthers_below hb3))).from _, (keepB_below hb1 (by omega) (by omega)).trans ((keepB_set _ (Nat.le_refl _) (by omega)).trans (keepB_below hb3 (by simp [World.setCell]; omega) (by simp [World.setCell]; omega))), ⟨Tm.abs p.2 u, .iface T1 x1, HN.out, HFB.out.symm, ht2.below hb3, box_later e0 hb3, box_later e1 hb3, box_later e2 hb3, by omega⟩, ?_⟩
      exact (hBw.trans (hb1.mono hBw.size)).trans (((Below.refl w.heap.size w1).setCell (p := ⟨w.heap.size, 0, none⟩) (Nat.le_refl _) _).trans (hb3.mono (by simp [World.setCell]; omega)))
  case done =>
    rintro D ys W hD rfl ⟨⟨u, vu, h1, h2, h3, h4, h5, h6, h7⟩, hBw⟩ hK
    rw [back_take _ _ (Nat.le_refl _), List.take_of_length_le (by simp)] at h1
    obtain ⟨T', x', rfl, _⟩ := h3.asks
    have c4 := h4.cell
    have c5 := h5.cell
    have f5 := h5.frozen
    have c6 := h6.cell
    have f6 := h6.frozen
    have HN := Lib.hid h1
    clear h1
    gi_wp2
    have g5 := Boxed.other (Boxed.set (.iface T' x') h5) (show w.heap.size + 1 ≠ w.heap.size + 1 + 1 by omega) (.bool true)
    have g6 := Boxed.set (.bool true) (Boxed.other h6 (show w.heap.size + 1 + 1 ≠ w.heap.size + 1 by omega) (.iface T' x'))
    have hK' := (KeepsOthers.setCell (W.setCell ⟨w.heap.size + 1, 0, none⟩ (.iface T' x')) ⟨w.heap.size + 1 + 1, 0, none⟩ (.bool true)).same D _ ((KeepsOthers.setCell W ⟨w.heap.size + 1, 0, none⟩ (.iface T' x')).same D _ hK rfl) rfl
    refine ⟨by simp, .inl ⟨_, _, rfl, run_takeDeferred hK', ?_⟩⟩
    have r5 := cell_kept g5.cell (grownBy_putObj' _ D (.deferred none)) (fun r e => by cases e; exact ⟨_, hK', rfl⟩)
    have r6 := cell_kept g6.cell (grownBy_putObj' _ D (.deferred none)) (fun r e => by cases e; exact ⟨_, hK', rfl⟩)
    have ht := TV.grownCells (TV.boolSet (u := .bool true) (TV.boxSet (u := .iface T' x') h3 h5) (Boxed.other h6 (show w.heap.size + 1 + 1 ≠ w.heap.size + 1 by omega) (.iface T' x'))) (grownBy_putObj' _ D (.deferred none)) (fun r e => by cases e; exact ⟨_, hK', rfl⟩)
    refine ⟨.tuple #[.iface T' x', .bool true], ?_, .iface T' x', by rw [HN.out]; rfl, ?_, fun u' h => by rw [HN.out] at h; obtain rfl := Option.some.inj h; exact ht⟩
    · simp [results, Tryz.results58, go_sem, r5, r6]
    · exact ((hBw.setCell (p := ⟨w.heap.size + 1, 0, none⟩) (by simp) _).setCell (p := ⟨w.heap.size + 1 + 1, 0, none⟩) (by simp; omega) _).trans (belowK_b (w := w) (Nat.le_refl _) _ D _ _ (by simp at hD; omega) hK' rfl rfl)
  case stop =>
    rintro D c pre W hD ⟨k, hk, rfl⟩ ⟨⟨rfl, h1, h5, h6⟩, hBw⟩ hK
    rw [back_take _ _ hk] at h1
    have h2 : absL names.reverse t = none := by
      rw [← List.take_append_drop k names.reverse, absL_append, h1]; rfl
    have HN := Lib.hid h2
    clear h1 h2
    gi_wp2
    refine ⟨by simp, .inl ⟨_, _, rfl, run_takeDeferred hK, ?_⟩⟩
    have r5 := cell_kept h5.cell (grownBy_putObj' _ D (.deferred none)) (fun r e => by cases e; exact ⟨_, hK, rfl⟩)
    have r6 := cell_kept h6.cell (grownBy_putObj' _ D (.deferred none)) (fun r e => by cases e; exact ⟨_, hK, rfl⟩)
    refine ⟨.tuple #[.nilIface, .bool false], ?_, .nilIface, by rw [HN.out]; rfl, ?_, fun u' h => by rw [HN.out] at h; cases h⟩
    · simp [results, Tryz.results58, go_sem, r5, r6]
    · exact hBw.trans (belowK_b (w := w) (Nat.le_refl _) _ D _ _ (by simp at hD; omega) hK rfl rfl)
end Go.Proofs.YtidpkmkhcomcdaaGreat

namespace Go.Proofs.YtidpkmkhcomcdaaGreat
open Go.RowKit

set_option maxHeartbeats 1000000
set_option maxRecDepth 100000

namespace Tm
def X : Tm := .nm [120]
def Y : Tm := .nm [121]
def Z : Tm := .nm [122]
def half : Tm := abs [120] (abs [121] (app Y (app (app X X) Y)))
def fix : Tm := app half half
def succ : Tm := abs [120] (pair no X)
def pairC : Tm := abs [120] (abs [121] (abs [122] (app (app Z X) Y)))
def first : Tm := abs [120] (app X k)
def second : Tm := abs [120] (app X no)
def pred : Tm := abs [120] (app (app (app X k) I) (app X no))
/-- The closed term of a word. -/
def data (w : List UInt8) : Option Tm :=
  if w = [105] then some I else if w = [116, 114, 117, 101] then some k else if w = [102, 97, 108, 115, 101] then some no
  else if w = [112, 97, 105, 114] then some pairC else if w = [102, 105, 114, 115, 116] then some first else if w = [122, 101, 114, 111] then some first
  else if w = [115, 101, 99, 111, 110, 100] then some second else if w = [115, 117, 99, 99] then some succ else if w = [112, 114, 101, 100] then some pred
  else if w = [102, 105, 120] then some fix else none
theorem data_good {w : List UInt8} {t : Tm} (h : data w = some t) : t.good = true ∧ t.size ≤ 1000 := by
  unfold data at h
  repeat' split at h
  all_goals first | (obtain rfl := Option.some.inj h; exact ⟨by decide +kernel, by decide +kernel⟩) | cases h
end Tm

theorem nm_val {W : World} {B b : Nat} {n : List UInt8} {fr : Nat × Nat} (h : W.heap[b]? = some (.cells #[str n] 93 fr)) (hB : B ≤ b) : TV W B (.nm n) (.iface 89 (.pointer (some ⟨b, 0, none⟩))) := ⟨b, fr, rfl, hB, h⟩

theorem succ_any (w : World) (B : Nat) (hB : B ≤ w.heap.size) : Calls Tryz.prog 63 #[] w (TermPost w B Tm.succ) := by
  have hbit := bit_any w B false hB
  unfold TermPost at hbit
  simp only [Bool.false_eq_true, if_false] at hbit
  go_enter Tryz.func63, Tryz.ntmps63
  go_wp2_with fail
  refine hbit.mono ?_
  rintro e w1 ⟨v1, rfl, hb1, ht1⟩
  have hs1 := hb1.size
  have hnm := nm_val (heap_top w1 (.cells #[str [120]] 93)) (Nat.le_trans hB hs1)
  have hcall := pair_any (w1.alloc (.cells #[str [120]] 93)) B Tm.no Tm.X v1 _ (ht1.below (below_new _ _)) hnm (by simp; omega) (by decide +kernel)
  unfold TermPost at hcall
  have hb2 := below_trans hb1 (below_new w1 (.cells #[str [120]] 93))
  clear ht1 hnm hbit
  go_wp2_with fail
  refine hcall.mono ?_
  rintro e w2 ⟨v2, rfl, hb3, ht2⟩
  have hb4 := below_trans hb2 hb3
  have hcall2 := abstraction_any w2 B [120] _ v2 ht2 (Nat.le_trans hB hb4.size) (by decide +kernel)
  rw [show Tm.abs [120] (Tm.pair Tm.no Tm.X) = Tm.succ from rfl] at hcall2
  unfold TermPost at hcall2
  clear ht2 hcall
  go_wp2_with fail
  refine hcall2.mono ?_
  rintro e w3 ⟨v3, rfl, hb5, ht3⟩
  have HT := Lib.hid ht3
  clear ht3 hcall2
  go_wp2_with fail
  go_ret
  exact ⟨_, rfl, below_trans hb4 hb5, HT.out⟩

theorem applyAll2 (w : World) (B g : Nat) (f a b : Tm) (vf va vb : Value) (fr : Nat × Nat) (hg : w.heap[g]? = some (.cells #[va, vb] 46 fr)) (hf : TV w B f vf) (ha : TV w B a va) (hb : TV w B b vb) (hB : B ≤ w.heap.size) (hz : f.size + a.size + b.size ≤ 1000000) :
    Calls Tryz.prog 59 #[vf, .slice (some ⟨g, 0, none⟩) 2 2] w (TermPost w B (.app (.app f a) b)) :=
  applyAll_any w B g f vf [a, b] [va, vb] fr rfl hg hf (fun j hj => by
    match j, hj with
    | 0, _ => exact ha
    | 1, _ => exact hb) hB (by simp; omega) (by simp)

theorem applyAll3 (w : World) (B g : Nat) (f a b c : Tm) (vf va vb vc : Value) (fr : Nat × Nat) (hg : w.heap[g]? = some (.cells #[va, vb, vc] 46 fr)) (hf : TV w B f vf) (ha : TV w B a va) (hb : TV w B b vb) (hc : TV w B c vc) (hB : B ≤ w.heap.size) (hz : f.size + a.size + b.size + c.size ≤ 1000000) :
    Calls Tryz.prog 59 #[vf, .slice (some ⟨g, 0, none⟩) 3 3] w (TermPost w B (.app (.app (.app f a) b) c)) :=
  applyAll_any w B g f vf [a, b, c] [va, vb, vc] fr rfl hg hf (fun j hj => by
    match j, hj with
    | 0, _ => exact ha
    | 1, _ => exact hb
    | 2, _ => exact hc) hB (by simp; omega) (by simp)

theorem fix_any (w : World) (B : Nat) (hB : B ≤ w.heap.size) : Calls Tryz.prog 65 #[] w (TermPost w B Tm.fix) := by
  obtain ⟨os, hos⟩ : ∃ os : List Obj, os = [.cells #[str [120]] 93, .cells #[str [121]] 93, .cells #[.iface 89 (.pointer (some ⟨w.heap.size, 0, none⟩)), .iface 89 (.pointer (some ⟨w.heap.size + 1, 0, none⟩))] 46] := ⟨_, rfl⟩
  have hX : allocL w os = ((w.alloc (.cells #[str [120]] 93)).alloc (.cells #[str [121]] 93)).alloc (.cells #[.iface 89 (.pointer (some ⟨w.heap.size, 0, none⟩)), .iface 89 (.pointer (some ⟨w.heap.size + 1, 0, none⟩))] 46) := by rw [hos]; rfl
  have hA := allocL_below w os
  have h0 : (allocL w os).heap[w.heap.size]? = some (.cells #[str [120]] 93 (0, 0)) := by have := allocL_heap w os 0 (by rw [hos]; simp); simpa [hos] using this
  have h1 : (allocL w os).heap[w.heap.size + 1]? = some (.cells #[str [121]] 93 (0, 0)) := by have := allocL_heap w os 1 (by rw [hos]; simp); simpa [hos] using this
  have h2 : (allocL w os).heap[w.heap.size + 1 + 1]? = some (.cells #[.iface 89 (.pointer (some ⟨w.heap.size, 0, none⟩)), .iface 89 (.pointer (some ⟨w.heap.size + 1, 0, none⟩))] 46 (0, 0)) := by have := allocL_heap w os 2 (by rw [hos]; simp); simpa [hos] using this
  rw [hX] at hA h0 h1 h2
  have hx := nm_val h0 hB
  have hy := nm_val h1 (Nat.le_trans hB (Nat.le_succ _))
  have hc1 := applyAll2 _ B _ Tm.X Tm.X Tm.Y _ _ _ (0, 0) h2 hx hx hy (Nat.le_trans hB hA.size) (by decide +kernel)
  unfold TermPost at hc1
  have HX := Lib.hid hx
  have HY := Lib.hid hy
  clear hx hy h0 h1 h2 hX hos
  go_enter Tryz.func65, Tryz.ntmps65
  go_wp2_with fail
  refine hc1.mono ?_
  rintro e w1 ⟨v1, rfl, hb1, ht1⟩
  have hc2 := apply_any w1 B Tm.Y _ _ v1 (HY.out.below hb1) ht1 (Nat.le_trans hB (below_trans hA hb1).size) (by decide +kernel)
  clear ht1 hc1
  go_wp2_with fail
  refine hc2.mono ?_
  rintro e w2 ⟨v2, rfl, hb2, ht2⟩
  have hB2 := below_trans (below_trans hA hb1) hb2
  have hc3 := abstraction_any w2 B [121] _ v2 ht2 (Nat.le_trans hB hB2.size) (by decide +kernel)
  unfold TermPost at hc3
  clear ht2 hc2
  go_wp2_with fail
  refine hc3.mono ?_
  rintro e w3 ⟨v3, rfl, hb3, ht3⟩
  have hB3 := below_trans hB2 hb3
  have hc4 := abstraction_any w3 B [120] _ v3 ht3 (Nat.le_trans hB hB3.size) (by decide +kernel)
  unfold TermPost at hc4
  clear ht3 hc3
  go_wp2_with fail
  refine hc4.mono ?_
  rintro e w4 ⟨v4, rfl, hb4, ht4⟩
  have hB4 := below_trans hB3 hb4
  have hc5 := apply_any w4 B _ _ v4 v4 ht4 ht4 (Nat.le_trans hB hB4.size) (by decide +kernel)
  clear ht4 hc4
  go_wp2_with fail
  refine hc5.mono ?_
  rintro e w5 ⟨v5, rfl, hb5, ht5⟩
  have HT := Lib.hid ht5
  clear ht5 hc5
  go_wp2_with fail
  go_ret
  exact ⟨_, rfl, below_trans hB4 hb5, HT.out⟩

def DataPost (w : World) (B : Nat) (r : Option Tm) (e : Ending) (w' : World) : Prop :=
  ∃ v, e = .returned (.tuple #[v, .bool r.isSome]) ∧ Below w.heap.size w w' ∧ ∀ t, r = some t → TV w' B t v

/-- What is there behind the first lines of dataTerm. -/
structure DataPre (w : World) (B : Nat) (W : World) : Prop where
  below : Below w.heap.size w W
  x : TV W B Tm.X (.iface 89 (.pointer (some ⟨w.heap.size, 0, none⟩)))
  y : TV W B Tm.Y (.iface 89 (.pointer (some ⟨w.heap.size + 1, 0, none⟩)))
  z : TV W B Tm.Z (.iface 89 (.pointer (some ⟨w.heap.size + 1 + 1, 0, none⟩)))

theorem choice_any (w : World) (B : Nat) (b : Bool) (hB : B ≤ w.heap.size) : Calls Tryz.prog 85 #[.bool b] w (TermPost w B (if b = true then Tm.first else Tm.second)) := by
  have hnm := nm_val (heap_top w (.cells #[str [120]] 93)) hB
  have hn := below_new w (.cells #[str [120]] 93)
  have hbit := bit_any (w.alloc (.cells #[str [120]] 93)) B b (Nat.le_trans hB hn.size)
  unfold TermPost at hbit
  obtain ⟨T, hT⟩ : ∃ T : Tm, T = (if b = true then Tm.k else Tm.no) := ⟨_, rfl⟩
  have hz : T.size ≤ 1000 := by rw [hT]; cases b <;> decide +kernel
  have hfin : Tm.abs [120] (.app Tm.X T) = if b = true then Tm.first else Tm.second := by rw [hT]; cases b <;> rfl
  have hzx : Tm.X.size = 1 := rfl
  have hab : ∀ W v, TV W B (.app Tm.X T) v → B ≤ W.heap.size → Calls Tryz.prog 83 #[str [120], v] W (TermPost W B (Tm.abs [120] (.app Tm.X T))) := fun W v h1 h2 => abstraction_any W B [120] _ v h1 h2 (by simp only [Tm.size]; omega)
  rw [hfin] at hab
  unfold TermPost at hab
  rw [← hT] at hbit
  generalize (if b = true then Tm.first else Tm.second) = R at *
  clear hT hfin
  have HNM := Lib.hid hnm
  clear hnm
  go_enter Tryz.func85, Tryz.ntmps85
  go_wp2_with fail
  refine hbit.mono ?_
  rintro e w1 ⟨v1, rfl, hb1, ht1⟩
  have hb2 := below_trans hn hb1
  have happ := apply_any w1 B Tm.X T _ v1 (HNM.out.below hb1) ht1 (Nat.le_trans hB hb2.size) (by omega)
  clear ht1 hbit
  go_wp2_with fail
  refine happ.mono ?_
  rintro e w2 ⟨v2, rfl, hb3, ht2⟩
  have hb4 := below_trans hb2 hb3
  have hc := hab w2 v2 ht2 (Nat.le_trans hB hb4.size)
  clear ht2 happ hab
  go_wp2_with fail
  refine hc.mono ?_
  rintro e w3 ⟨v3, rfl, hb5, ht3⟩
  have HT := Lib.hid ht3
  clear ht3 hc
  go_wp2_with fail
  go_ret
  exact ⟨_, rfl, below_trans hb4 hb5, HT.out⟩

theorem first_any (w : World) (B : Nat) (hB : B ≤ w.heap.size) : Calls Tryz.prog 60 #[] w (TermPost w B Tm.first) := by
  have hc := choice_any w B true hB
  unfold TermPost at hc
  simp only [if_true] at hc
  go_enter Tryz.func60, Tryz.ntmps60
  go_wp2_with fail
  refine hc.mono ?_
  rintro e w1 ⟨v1, rfl, hb1, ht1⟩
  have HT := Lib.hid ht1
  clear ht1 hc
  go_wp2_with fail
  go_ret
  exact ⟨_, rfl, hb1, HT.out⟩

theorem second_any (w : World) (B : Nat) (hB : B ≤ w.heap.size) : Calls Tryz.prog 61 #[] w (TermPost w B Tm.second) := by
  have hc := choice_any w B false hB
  unfold TermPost at hc
  simp only [Bool.false_eq_true, if_false] at hc
  go_enter Tryz.func61, Tryz.ntmps61
  go_wp2_with fail
  refine hc.mono ?_
  rintro e w1 ⟨v1, rfl, hb1, ht1⟩
  have HT := Lib.hid ht1
  clear ht1 hc
  go_wp2_with fail
  go_ret
  exact ⟨_, rfl, hb1, HT.out⟩

theorem zero_any (w : World) (B : Nat) (hB : B ≤ w.heap.size) : Calls Tryz.prog 62 #[] w (TermPost w B Tm.first) := by
  have hc := first_any w B hB
  unfold TermPost at hc
  skip
  go_enter Tryz.func62, Tryz.ntmps62
  go_wp2_with fail
  refine hc.mono ?_
  rintro e w1 ⟨v1, rfl, hb1, ht1⟩
  have HT := Lib.hid ht1
  clear ht1 hc
  go_wp2_with fail
  go_ret
  exact ⟨_, rfl, hb1, HT.out⟩

theorem pred_any (w : World) (B : Nat) (hB : B ≤ w.heap.size) : Calls Tryz.prog 64 #[] w (TermPost w B Tm.pred) := by
  have hnm := nm_val (heap_top w (.cells #[str [120]] 93)) hB
  have hn := below_new w (.cells #[str [120]] 93)
  have k1 := bit_any (w.alloc (.cells #[str [120]] 93)) B true (Nat.le_trans hB hn.size)
  unfold TermPost at k1
  simp only [if_true] at k1
  have HX := Lib.hid hnm
  clear hnm
  go_enter Tryz.func64, Tryz.ntmps64
  go_wp2_with fail
  refine k1.mono ?_
  rintro e w2 ⟨v2, rfl, hb2, ht2⟩
  clear k1
  have hB2 := below_trans hn hb2
  obtain ⟨T1, x1, rfl, _⟩ := id ht2.asks
  have HY := Lib.hid ht2
  clear ht2
  have k3 := numeral_any w2 B 0 (Nat.le_trans hB hB2.size) (by omega)
  unfold TermPost at k3
  go_wp2_with fail
  refine k3.mono ?_
  rintro e w3 ⟨v3, rfl, hb3, ht3⟩
  clear k3
  have hB3 := below_trans hB2 hb3
  obtain ⟨T3, x3, rfl, _⟩ := id ht3.asks
  have HZ := Lib.hid ht3
  clear ht3
  have k4 := bit_any w3 B false (Nat.le_trans hB hB3.size)
  unfold TermPost at k4
  simp only [Bool.false_eq_true, if_false] at k4
  go_wp2_with fail
  refine k4.mono ?_
  rintro e w4 ⟨v4, rfl, hb4, ht4⟩
  clear k4
  have hB4 := below_trans hB3 hb4
  have k5 := apply_any w4 B Tm.X _ _ _ (((HX.out.below hb2).below hb3).below hb4) ht4 (Nat.le_trans hB hB4.size) (by decide +kernel)
  clear ht4
  go_wp2_with fail
  refine k5.mono ?_
  rintro e w5 ⟨v5, rfl, hb5, ht5⟩
  clear k5
  have hB5 := below_trans hB4 hb5
  obtain ⟨T5, x5, rfl, _⟩ := id ht5.asks
  have hn6 := below_new w5 (.cells #[.iface T1 x1, .iface T3 x3, .iface T5 x5] 46)
  have k6 := applyAll3 (w5.alloc (.cells #[.iface T1 x1, .iface T3 x3, .iface T5 x5] 46)) B _ Tm.X .k (Tm.num 0) (.app Tm.X Tm.no) _ _ _ _ (0, 0) (heap_top w5 _) (((((HX.out.below hb2).below hb3).below hb4).below hb5).below hn6) ((((HY.out.below hb3).below hb4).below hb5).below hn6) (((HZ.out.below hb4).below hb5).below hn6) (ht5.below hn6) (Nat.le_trans hB (below_trans hB5 hn6).size) (by decide +kernel)
  unfold TermPost at k6
  clear ht5
  go_wp2_with fail
  refine k6.mono ?_
  rintro e w6 ⟨v6, rfl, hb6, ht6⟩
  clear k6
  have hB6 := below_trans (below_trans hB5 hn6) hb6
  have k7 := abstraction_any w6 B [120] _ v6 ht6 (Nat.le_trans hB hB6.size) (by decide +kernel)
  rw [show Tm.abs [120] (.app (.app (.app Tm.X .k) (Tm.num 0)) (.app Tm.X Tm.no)) = Tm.pred from rfl] at k7
  unfold TermPost at k7
  clear ht6
  go_wp2_with fail
  refine k7.mono ?_
  rintro e w7 ⟨v7, rfl, hb7, ht7⟩
  have HT := Lib.hid ht7
  clear ht7 k7
  go_wp2_with fail
  go_ret
  exact ⟨_, rfl, below_trans hB6 hb7, HT.out⟩

theorem data_i (w : World) (B : Nat) (hB : B ≤ w.heap.size) : Calls Tryz.prog 35 #[str [105]] w (DataPost w B (some Tm.I)) := by
  obtain ⟨os, hos⟩ : ∃ os : List Obj, os = [.cells #[str [120]] 93, .cells #[str [121]] 93, .cells #[str [122]] 93] := ⟨_, rfl⟩
  have hX : allocL w os = ((w.alloc (.cells #[str [120]] 93)).alloc (.cells #[str [121]] 93)).alloc (.cells #[str [122]] 93) := by rw [hos]; rfl
  have hA := allocL_below w os
  rw [hX] at hA
  clear hX hos
  have hc := identity_any (((w.alloc (.cells #[str [120]] 93)).alloc (.cells #[str [121]] 93)).alloc (.cells #[str [122]] 93)) B (Nat.le_trans hB hA.size)
  unfold TermPost at hc
  skip
  go_enter Tryz.func35, Tryz.ntmps35
  go_wp2_with fail
  refine hc.mono ?_
  rintro e w1 ⟨v1, rfl, hb1, ht1⟩
  have HT := Lib.hid ht1
  clear ht1 hc
  go_wp2_with fail
  go_ret2
  exact ⟨_, rfl, below_trans hA hb1, fun t he => by obtain rfl := Option.some.inj he; exact HT.out⟩

theorem data_true (w : World) (B : Nat) (hB : B ≤ w.heap.size) : Calls Tryz.prog 35 #[str [116, 114, 117, 101]] w (DataPost w B (some .k)) := by
  obtain ⟨os, hos⟩ : ∃ os : List Obj, os = [.cells #[str [120]] 93, .cells #[str [121]] 93, .cells #[str [122]] 93] := ⟨_, rfl⟩
  have hX : allocL w os = ((w.alloc (.cells #[str [120]] 93)).alloc (.cells #[str [121]] 93)).alloc (.cells #[str [122]] 93) := by rw [hos]; rfl
  have hA := allocL_below w os
  rw [hX] at hA
  clear hX hos
  have hc := bit_any (((w.alloc (.cells #[str [120]] 93)).alloc (.cells #[str [121]] 93)).alloc (.cells #[str [122]] 93)) B true (Nat.le_trans hB hA.size)
  unfold TermPost at hc
  simp only [if_true] at hc
  go_enter Tryz.func35, Tryz.ntmps35
  go_wp2_with fail
  refine hc.mono ?_
  rintro e w1 ⟨v1, rfl, hb1, ht1⟩
  have HT := Lib.hid ht1
  clear ht1 hc
  go_wp2_with fail
  go_ret2
  exact ⟨_, rfl, below_trans hA hb1, fun t he => by obtain rfl := Option.some.inj he; exact HT.out⟩

theorem data_false (w : World) (B : Nat) (hB : B ≤ w.heap.size) : Calls Tryz.prog 35 #[str [102, 97, 108, 115, 101]] w (DataPost w B (some Tm.no)) := by
  obtain ⟨os, hos⟩ : ∃ os : List Obj, os = [.cells #[str [120]] 93, .cells #[str [121]] 93, .cells #[str [122]] 93] := ⟨_, rfl⟩
  have hX : allocL w os = ((w.alloc (.cells #[str [120]] 93)).alloc (.cells #[str [121]] 93)).alloc (.cells #[str [122]] 93) := by rw [hos]; rfl
  have hA := allocL_below w os
  rw [hX] at hA
  clear hX hos
  have hc := bit_any (((w.alloc (.cells #[str [120]] 93)).alloc (.cells #[str [121]] 93)).alloc (.cells #[str [122]] 93)) B false (Nat.le_trans hB hA.size)
  unfold TermPost at hc
  simp only [Bool.false_eq_true, if_false] at hc
  go_enter Tryz.func35, Tryz.ntmps35
  go_wp2_with fail
  refine hc.mono ?_
  rintro e w1 ⟨v1, rfl, hb1, ht1⟩
  have HT := Lib.hid ht1
  clear ht1 hc
  go_wp2_with fail
  go_ret2
  exact ⟨_, rfl, below_trans hA hb1, fun t he => by obtain rfl := Option.some.inj he; exact HT.out⟩

theorem data_first (w : World) (B : Nat) (hB : B ≤ w.heap.size) : Calls Tryz.prog 35 #[str [102, 105, 114, 115, 116]] w (DataPost w B (some Tm.first)) := by
  obtain ⟨os, hos⟩ : ∃ os : List Obj, os = [.cells #[str [120]] 93, .cells #[str [121]] 93, .cells #[str [122]] 93] := ⟨_, rfl⟩
  have hX : allocL w os = ((w.alloc (.cells #[str [120]] 93)).alloc (.cells #[str [121]] 93)).alloc (.cells #[str [122]] 93) := by rw [hos]; rfl
  have hA := allocL_below w os
  rw [hX] at hA
  clear hX hos
  have hc := first_any (((w.alloc (.cells #[str [120]] 93)).alloc (.cells #[str [121]] 93)).alloc (.cells #[str [122]] 93)) B (Nat.le_trans hB hA.size)
  unfold TermPost at hc
  skip
  go_enter Tryz.func35, Tryz.ntmps35
  go_wp2_with fail
  refine hc.mono ?_
  rintro e w1 ⟨v1, rfl, hb1, ht1⟩
  have HT := Lib.hid ht1
  clear ht1 hc
  go_wp2_with fail
  go_ret2
  exact ⟨_, rfl, below_trans hA hb1, fun t he => by obtain rfl := Option.some.inj he; exact HT.out⟩

theorem data_second (w : World) (B : Nat) (hB : B ≤ w.heap.size) : Calls Tryz.prog 35 #[str [115, 101, 99, 111, 110, 100]] w (DataPost w B (some Tm.second)) := by
  obtain ⟨os, hos⟩ : ∃ os : List Obj, os = [.cells #[str [120]] 93, .cells #[str [121]] 93, .cells #[str [122]] 93] := ⟨_, rfl⟩
  have hX : allocL w os = ((w.alloc (.cells #[str [120]] 93)).alloc (.cells #[str [121]] 93)).alloc (.cells #[str [122]] 93) := by rw [hos]; rfl
  have hA := allocL_below w os
  rw [hX] at hA
  clear hX hos
  have hc := second_any (((w.alloc (.cells #[str [120]] 93)).alloc (.cells #[str [121]] 93)).alloc (.cells #[str [122]] 93)) B (Nat.le_trans hB hA.size)
  unfold TermPost at hc
  skip
  go_enter Tryz.func35, Tryz.ntmps35
  go_wp2_with fail
  refine hc.mono ?_
  rintro e w1 ⟨v1, rfl, hb1, ht1⟩
  have HT := Lib.hid ht1
  clear ht1 hc
  go_wp2_with fail
  go_ret2
  exact ⟨_, rfl, below_trans hA hb1, fun t he => by obtain rfl := Option.some.inj he; exact HT.out⟩

theorem data_zero (w : World) (B : Nat) (hB : B ≤ w.heap.size) : Calls Tryz.prog 35 #[str [122, 101, 114, 111]] w (DataPost w B (some Tm.first)) := by
  obtain ⟨os, hos⟩ : ∃ os : List Obj, os = [.cells #[str [120]] 93, .cells #[str [121]] 93, .cells #[str [122]] 93] := ⟨_, rfl⟩
  have hX : allocL w os = ((w.alloc (.cells #[str [120]] 93)).alloc (.cells #[str [121]] 93)).alloc (.cells #[str [122]] 93) := by rw [hos]; rfl
  have hA := allocL_below w os
  rw [hX] at hA
  clear hX hos
  have hc := zero_any (((w.alloc (.cells #[str [120]] 93)).alloc (.cells #[str [121]] 93)).alloc (.cells #[str [122]] 93)) B (Nat.le_trans hB hA.size)
  unfold TermPost at hc
  skip
  go_enter Tryz.func35, Tryz.ntmps35
  go_wp2_with fail
  refine hc.mono ?_
  rintro e w1 ⟨v1, rfl, hb1, ht1⟩
  have HT := Lib.hid ht1
  clear ht1 hc
  go_wp2_with fail
  go_ret2
  exact ⟨_, rfl, below_trans hA hb1, fun t he => by obtain rfl := Option.some.inj he; exact HT.out⟩

theorem data_succ (w : World) (B : Nat) (hB : B ≤ w.heap.size) : Calls Tryz.prog 35 #[str [115, 117, 99, 99]] w (DataPost w B (some Tm.succ)) := by
  obtain ⟨os, hos⟩ : ∃ os : List Obj, os = [.cells #[str [120]] 93, .cells #[str [121]] 93, .cells #[str [122]] 93] := ⟨_, rfl⟩
  have hX : allocL w os = ((w.alloc (.cells #[str [120]] 93)).alloc (.cells #[str [121]] 93)).alloc (.cells #[str [122]] 93) := by rw [hos]; rfl
  have hA := allocL_below w os
  rw [hX] at hA
  clear hX hos
  have hc := succ_any (((w.alloc (.cells #[str [120]] 93)).alloc (.cells #[str [121]] 93)).alloc (.cells #[str [122]] 93)) B (Nat.le_trans hB hA.size)
  unfold TermPost at hc
  skip
  go_enter Tryz.func35, Tryz.ntmps35
  go_wp2_with fail
  refine hc.mono ?_
  rintro e w1 ⟨v1, rfl, hb1, ht1⟩
  have HT := Lib.hid ht1
  clear ht1 hc
  go_wp2_with fail
  go_ret2
  exact ⟨_, rfl, below_trans hA hb1, fun t he => by obtain rfl := Option.some.inj he; exact HT.out⟩

theorem data_pred (w : World) (B : Nat) (hB : B ≤ w.heap.size) : Calls Tryz.prog 35 #[str [112, 114, 101, 100]] w (DataPost w B (some Tm.pred)) := by
  obtain ⟨os, hos⟩ : ∃ os : List Obj, os = [.cells #[str [120]] 93, .cells #[str [121]] 93, .cells #[str [122]] 93] := ⟨_, rfl⟩
  have hX : allocL w os = ((w.alloc (.cells #[str [120]] 93)).alloc (.cells #[str [121]] 93)).alloc (.cells #[str [122]] 93) := by rw [hos]; rfl
  have hA := allocL_below w os
  rw [hX] at hA
  clear hX hos
  have hc := pred_any (((w.alloc (.cells #[str [120]] 93)).alloc (.cells #[str [121]] 93)).alloc (.cells #[str [122]] 93)) B (Nat.le_trans hB hA.size)
  unfold TermPost at hc
  skip
  go_enter Tryz.func35, Tryz.ntmps35
  go_wp2_with fail
  refine hc.mono ?_
  rintro e w1 ⟨v1, rfl, hb1, ht1⟩
  have HT := Lib.hid ht1
  clear ht1 hc
  go_wp2_with fail
  go_ret2
  exact ⟨_, rfl, below_trans hA hb1, fun t he => by obtain rfl := Option.some.inj he; exact HT.out⟩

theorem data_fix (w : World) (B : Nat) (hB : B ≤ w.heap.size) : Calls Tryz.prog 35 #[str [102, 105, 120]] w (DataPost w B (some Tm.fix)) := by
  obtain ⟨os, hos⟩ : ∃ os : List Obj, os = [.cells #[str [120]] 93, .cells #[str [121]] 93, .cells #[str [122]] 93] := ⟨_, rfl⟩
  have hX : allocL w os = ((w.alloc (.cells #[str [120]] 93)).alloc (.cells #[str [121]] 93)).alloc (.cells #[str [122]] 93) := by rw [hos]; rfl
  have hA := allocL_below w os
  rw [hX] at hA
  clear hX hos
  have hc := fix_any (((w.alloc (.cells #[str [120]] 93)).alloc (.cells #[str [121]] 93)).alloc (.cells #[str [122]] 93)) B (Nat.le_trans hB hA.size)
  unfold TermPost at hc
  skip
  go_enter Tryz.func35, Tryz.ntmps35
  go_wp2_with fail
  refine hc.mono ?_
  rintro e w1 ⟨v1, rfl, hb1, ht1⟩
  have HT := Lib.hid ht1
  clear ht1 hc
  go_wp2_with fail
  go_ret2
  exact ⟨_, rfl, below_trans hA hb1, fun t he => by obtain rfl := Option.some.inj he; exact HT.out⟩

theorem data_pair (w : World) (B : Nat) (hB : B ≤ w.heap.size) : Calls Tryz.prog 35 #[str [112, 97, 105, 114]] w (DataPost w B (some Tm.pairC)) := by
  obtain ⟨os, hos⟩ : ∃ os : List Obj, os = [.cells #[str [120]] 93, .cells #[str [121]] 93, .cells #[str [122]] 93] := ⟨_, rfl⟩
  have hX : allocL w os = ((w.alloc (.cells #[str [120]] 93)).alloc (.cells #[str [121]] 93)).alloc (.cells #[str [122]] 93) := by rw [hos]; rfl
  have hA := allocL_below w os
  have h0 : (allocL w os).heap[w.heap.size]? = some (.cells #[str [120]] 93 (0, 0)) := by have := allocL_heap w os 0 (by rw [hos]; simp); simpa [hos] using this
  have h1 : (allocL w os).heap[w.heap.size + 1]? = some (.cells #[str [121]] 93 (0, 0)) := by have := allocL_heap w os 1 (by rw [hos]; simp); simpa [hos] using this
  have h2 : (allocL w os).heap[w.heap.size + 1 + 1]? = some (.cells #[str [122]] 93 (0, 0)) := by have := allocL_heap w os 2 (by rw [hos]; simp); simpa [hos] using this
  have hsz : (allocL w os).heap.size = w.heap.size + 1 + 1 + 1 := by rw [hX]; simp
  have D : DataPre w B (allocL w os) := ⟨hA, nm_val h0 hB, nm_val h1 (Nat.le_trans hB (Nat.le_succ _)), nm_val h2 (Nat.le_trans hB (by omega))⟩
  clear h0 h1 h2 hos
  obtain ⟨w2, hw2⟩ : ∃ w2, w2 = allocL w os := ⟨_, rfl⟩
  rw [← hw2] at D hsz hX hA
  obtain ⟨W3, hW3⟩ : ∃ W3, W3 = w2.alloc (.cells #[str [120], str [121], str [122]] 9) := ⟨_, rfl⟩
  have hn3 := below_new w2 (.cells #[str [120], str [121], str [122]] 9)
  have hn4 := below_new W3 (.cells #[.iface 89 (.pointer (some ⟨w.heap.size, 0, none⟩)), .iface 89 (.pointer (some ⟨w.heap.size + 1, 0, none⟩))] 46)
  rw [← hW3] at hn3
  have hcl : W3.heap[w2.heap.size]? = some (.cells #[str [120], str [121], str [122]] 9 (0, 0)) := by rw [hW3]; exact heap_top w2 _
  have hk := applyAll2 (W3.alloc (.cells #[.iface 89 (.pointer (some ⟨w.heap.size, 0, none⟩)), .iface 89 (.pointer (some ⟨w.heap.size + 1, 0, none⟩))] 46)) B _ Tm.Z Tm.X Tm.Y _ _ _ (0, 0) (heap_top W3 _) ((D.z.below hn3).below hn4) ((D.x.below hn3).below hn4) ((D.y.below hn3).below hn4) (Nat.le_trans hB (below_trans (below_trans D.below hn3) hn4).size) (by decide +kernel)
  unfold TermPost at hk
  have hsz3 : W3.heap.size = w.heap.size + 1 + 1 + 1 + 1 := by rw [hW3]; simp; omega
  rw [hsz3] at hk
  rw [hsz] at hcl
  have hW4 : W3 = (((w.alloc (.cells #[str [120]] 93)).alloc (.cells #[str [121]] 93)).alloc (.cells #[str [122]] 93)).alloc (.cells #[str [120], str [121], str [122]] 9) := by rw [hW3, hX]
  have HW3 := Lib.hid hW4
  have HCL := Lib.hid hcl
  have HN3 := Lib.hid hn3
  have HD := Lib.hid D.below
  rw [hW4] at hk
  have hn4' := hn4
  clear hW3 hW4 hcl hn3 hsz3 hsz hX hw2 D hn4
  have HN4 := Lib.hid hn4'
  clear hn4'
  go_enter Tryz.func35, Tryz.ntmps35
  go_wp2_with fail
  refine hk.mono ?_
  rintro e w5 ⟨v5, rfl, hb5, ht5⟩
  clear hk
  have hn34 : Below W3.heap.size W3 w5 := by
    refine below_trans HN4.out ?_
    rw [HW3.out]
    exact hb5
  have hB5 := below_trans (below_trans HD.out HN3.out) hn34
  have hbk := heap_later HCL.out hn34
  have hlt5 := (Array.getElem?_eq_some_iff.1 hbk).1
  have hk6 := absN_any w5 B [[120], [121], [122]] (.slice (some ⟨w.heap.size + 1 + 1 + 1, 0, none⟩) 3 3) _ v5 (Or.inr ⟨w.heap.size + 1 + 1 + 1, 0, 3, rfl, hlt5, fun j hj => by
    have hc := cell_of_heap (i := j) hbk
    match j, hj with
    | 0, _ => simpa using hc
    | 1, _ => simpa using hc
    | 2, _ => simpa using hc⟩) ht5 (Nat.le_trans hB hB5.size) (by decide +kernel) (by simp)
  rw [show absL [[120], [121], [122]].reverse (.app (.app Tm.Z Tm.X) Tm.Y) = some Tm.pairC by kernel_rfl] at hk6
  clear ht5 hbk
  go_wp2_with fail
  refine hk6.mono ?_
  rintro e w6 ⟨v6, rfl, hb6, ht6⟩
  have HT := Lib.hid (ht6 _ rfl)
  clear ht6 hk6
  go_wp2_with fail
  go_ret2
  exact ⟨_, rfl, below_trans hB5 hb6, fun t he => by obtain rfl := Option.some.inj he; exact HT.out⟩

theorem data_none (w : World) (B : Nat) (l : List UInt8) (_hB : B ≤ w.heap.size) (n0 : (l == [105]) = false) (n1 : (l == [116, 114, 117, 101]) = false) (n2 : (l == [102, 97, 108, 115, 101]) = false) (n3 : (l == [112, 97, 105, 114]) = false) (n4 : (l == [102, 105, 114, 115, 116]) = false) (n5 : (l == [122, 101, 114, 111]) = false) (n6 : (l == [115, 101, 99, 111, 110, 100]) = false) (n7 : (l == [115, 117, 99, 99]) = false) (n8 : (l == [112, 114, 101, 100]) = false) (n9 : (l == [102, 105, 120]) = false) : Calls Tryz.prog 35 #[str l] w (DataPost w B none) := by
  obtain ⟨os, hos⟩ : ∃ os : List Obj, os = [.cells #[str [120]] 93, .cells #[str [121]] 93, .cells #[str [122]] 93] := ⟨_, rfl⟩
  have hX : allocL w os = ((w.alloc (.cells #[str [120]] 93)).alloc (.cells #[str [121]] 93)).alloc (.cells #[str [122]] 93) := by rw [hos]; rfl
  have hA := allocL_below w os
  rw [hX] at hA
  clear hX hos
  go_enter Tryz.func35, Tryz.ntmps35
  go_wp2_with fail
  go_ret2
  exact ⟨_, rfl, hA, fun t he => by cases he⟩

theorem data_any (w : World) (B : Nat) (l : List UInt8) (hB : B ≤ w.heap.size) : Calls Tryz.prog 35 #[str l] w (DataPost w B (Tm.data l)) := by
  by_cases h0 : l = [105]
  · subst h0; exact data_i w B hB
  by_cases h1 : l = [116, 114, 117, 101]
  · subst h1; exact data_true w B hB
  by_cases h2 : l = [102, 97, 108, 115, 101]
  · subst h2; exact data_false w B hB
  by_cases h3 : l = [112, 97, 105, 114]
  · subst h3; exact data_pair w B hB
  by_cases h4 : l = [102, 105, 114, 115, 116]
  · subst h4; exact data_first w B hB
  by_cases h5 : l = [122, 101, 114, 111]
  · subst h5; exact data_zero w B hB
  by_cases h6 : l = [115, 101, 99, 111, 110, 100]
  · subst h6; exact data_second w B hB
  by_cases h7 : l = [115, 117, 99, 99]
  · subst h7; exact data_succ w B hB
  by_cases h8 : l = [112, 114, 101, 100]
  · subst h8; exact data_pred w B hB
  by_cases h9 : l = [102, 105, 120]
  · subst h9; exact data_fix w B hB
  rw [show Tm.data l = none by simp only [Tm.data, if_neg h0, if_neg h1, if_neg h2, if_neg h3, if_neg h4, if_neg h5, if_neg h6, if_neg h7, if_neg h8, if_neg h9]]
  exact data_none w B l hB (beq_eq_false_iff_ne.2 h0) (beq_eq_false_iff_ne.2 h1) (beq_eq_false_iff_ne.2 h2) (beq_eq_false_iff_ne.2 h3) (beq_eq_false_iff_ne.2 h4) (beq_eq_false_iff_ne.2 h5) (beq_eq_false_iff_ne.2 h6) (beq_eq_false_iff_ne.2 h7) (beq_eq_false_iff_ne.2 h8) (beq_eq_false_iff_ne.2 h9)

def pData (l : List UInt8) : Option (List UInt8) := (Tm.data l).map Tm.text

theorem impl_data (w : World) (l : List UInt8) : Calls Tryz.prog 12 #[str l] w (NumOne w (pData l)) := by
  have hcall := data_any w w.heap.size l (Nat.le_refl _)
  unfold DataPost at hcall
  cases hd : Tm.data l with
  | none =>
    rw [show pData l = none by simp [pData, hd]]
    rw [hd] at hcall
    clear hd
    go_enter Tryz.func12, Tryz.ntmps12
    go_wp2_with (go_at_call 35; refine hcall.mono ?_; rintro e w1 ⟨v1, rfl, hb1, hv1⟩; clear hv1)
    go_ret2
    exact ⟨rfl, hb1⟩
  | some t =>
    rw [show pData l = some t.text by simp [pData, hd]]
    rw [hd] at hcall
    obtain ⟨hg, hs⟩ := Tm.data_good hd
    have htl := Tm.text_le t hg
    clear hd
    go_enter Tryz.func12, Tryz.ntmps12
    go_wp2_with fail
    refine hcall.mono ?_
    rintro e w1 ⟨v1, rfl, hb1, hv1⟩
    have htx := textOf_any w1 _ t v1 (hv1 t rfl) hg (by omega)
    clear hv1 hcall
    go_wp2_with (go_at_call 28; refine htx.mono ?_; rintro e w4 ⟨rfl, hb4⟩)
    go_ret2
    exact ⟨rfl, below_trans hb1 hb4⟩
end Go.Proofs.YtidpkmkhcomcdaaGreat

namespace Go.Proofs.YtidpkmkhcomcdaaGreat
open Go.RowKit

set_option maxHeartbeats 400000
set_option maxRecDepth 100000

def ManyPost (w : World) (B n : Nat) (t : Tm) (e : Ending) (w' : World) : Prop :=
  ∃ v', e = .returned (.tuple #[v', .int .i64 ((t.many n).2 : Nat)]) ∧ Below w.heap.size w w' ∧ TV w' B (t.many n).1 v'

/-- After k rounds. -/
def Rounds (w : World) (B n : Nat) (t : Tm) (v i : Value) (wr : World) : Prop :=
  ∃ (k : Nat) (u : Tm), i = .int .i64 k ∧ k ≤ n ∧ TV wr B u v ∧ u.fits = true ∧ Below w.heap.size w wr ∧ Hid (t.many n = ((u.many (n - k)).1, (u.many (n - k)).2 + k))

theorem stepTerms_any (w : World) (B n : Nat) (t : Tm) (v : Value) (h : TV w B t v) (hB : B ≤ w.heap.size) (hz : t.fits = true) (hn : n ≤ 1000000) :
    Calls Tryz.prog 118 #[v, .int .i64 n] w (ManyPost w B n t) := by
  go_enter Tryz.func118, Tryz.ntmps118
  go_wp2_with fail
  go_loopw [0, 10] (fun v i wr => Rounds w B n t v i wr) (fun _ i _ => n - (intOf i).toNat)
  case atStart => exact ⟨0, t, rfl, Nat.zero_le _, h, hz, Below.refl _ _, by simp [Hid]⟩
  case round =>
    obtain ⟨k, u, rfl, hk, hu, hf, hb, hm⟩ := hrel
    have hs := fits_size hf
    have hBr := Nat.le_trans hB hb.size
    by_cases hlt : k < n
    · cases hst : u.stepFit with
      | none =>
        have hsome : u.stepFit.isSome = false := by rw [hst]; rfl
        have hfin : t.many n = (u, k) := by
          rw [hm.out, show n - k = (n - k - 1) + 1 by omega, Tm.many_succ, hst]; simp
        have H := Lib.hid hfin
        clear hst hfin hm
        go_wp2_with (go_at_call 119; refine (stepTerm_any _ B u _ hu hBr (by omega)).mono ?_; rintro e w1 ⟨v1, rfl, hb1, hv1⟩; clear hv1)
        go_ret2
        exact ⟨_, by rw [H.out]; rfl, below_trans hb hb1, by rw [H.out]; exact hu.below hb1⟩
      | some u' =>
        have hsome : u.stepFit.isSome = true := by rw [hst]; rfl
        have hf' := stepFit_fits hst
        have hfin : t.many n = ((u'.many (n - (k + 1))).1, (u'.many (n - (k + 1))).2 + (k + 1)) := by
          rw [hm.out, show n - k = (n - (k + 1)) + 1 by omega, Tm.many_succ, hst]; simp; omega
        have H := Lib.hid hfin
        have H2 := Lib.hid hst
        clear hst hfin hm
        go_wp2_with (go_at_call 119; refine (stepTerm_any _ B u _ hu hBr (by omega)).mono ?_; rintro e w1 ⟨v1, rfl, hb1, hv1⟩; have HV := Lib.hid (hv1 u' H2.out); clear hv1)
        go_roundw
        case rel => exact ⟨k + 1, u', by go_num, by omega, HV.out, hf', below_trans hb hb1, H⟩
        case measure => simp [intOf]; omega
    · have hfin : t.many n = (u, n) := by
        rw [hm.out, show n - k = 0 by omega]; simp [Tm.many]; omega
      have H := Lib.hid hfin
      clear hfin hm
      go_wp2_with fail
      go_ret2
      exact ⟨_, by rw [H.out]; rfl, hb, by rw [H.out]; exact hu⟩

def NormPost (w : World) (B : Nat) (t : Tm) (e : Ending) (w' : World) : Prop :=
  ∃ v', e = .returned (.tuple #[v', .int .i64 ((t.many 6000).2 : Nat), .bool (t.many 6000).1.normal]) ∧ Below w.heap.size w w' ∧ TV w' B (t.many 6000).1 v'

theorem normalTerm_any (w : World) (B : Nat) (t : Tm) (v : Value) (h : TV w B t v) (hB : B ≤ w.heap.size) (hz : t.fits = true) :
    Calls Tryz.prog 117 #[v] w (NormPost w B t) := by
  go_enter Tryz.func117, Tryz.ntmps117
  go_wp2_with fail
  refine (stepTerms_any _ B 6000 t _ h hB hz (by omega)).mono ?_
  rintro e w1 ⟨v1, rfl, hb1, hv1⟩
  obtain ⟨T1, x1, rfl, _, _, _, ⟨f1, y1, m1, n1, c1⟩⟩ := hv1.asks
  have hb0 := Below.refl w1.heap.size w1
  generalize hn : (t.many 6000).2 = n
  generalize hl : (t.many 6000).1 = l at *
  have HN := Lib.hid hn
  have HL := Lib.hid hl
  clear hn hl
  go_wp2_with (go_at_fn f1; refine (c1 _ (by assumption)).mono ?_; rintro e w2 ⟨rfl, hb2⟩)
  go_ret3
  exact ⟨_, by rw [HN.out, HL.out]; rfl, below_trans hb1 hb2, by rw [HL.out]; exact hv1.below hb2⟩
end Go.Proofs.YtidpkmkhcomcdaaGreat

namespace Go.Proofs.YtidpkmkhcomcdaaGreat
open Go.RowKit

set_option maxHeartbeats 400000
set_option maxRecDepth 100000

def BothPost (w : World) (B : Nat) (l m : List UInt8) (e : Ending) (w' : World) : Prop :=
  ∃ v1 v2, e = .returned (.tuple #[v1, v2, .bool ((Tm.parse l).isSome && (Tm.parse m).isSome)]) ∧ Below w.heap.size w w' ∧ ∀ t u, Tm.parse l = some t → Tm.parse m = some u → TV w' B t v1 ∧ TV w' B u v2

end Go.Proofs.YtidpkmkhcomcdaaGreat

namespace Go.Proofs.YtidpkmkhcomcdaaGreat
open Go.RowKit

set_option maxHeartbeats 400000
set_option maxRecDepth 100000

theorem normal_none (t : Tm) : t.normal = t.step.isNone := by
  rw [Bool.eq_iff_iff, normal_step, Option.isNone_iff_eq_none]

theorem norm_eq (t : Tm) : t.norm = if (t.many 6000).1.normal = true then some (t.many 6000) else none := by
  unfold Tm.norm
  simp only [normal_step]

/-- A text and a number handed back, or nothing. -/
def NumRes (w : World) (r : Option (List UInt8 × Nat)) (e : Ending) (w' : World) : Prop :=
  e = .returned (.tuple #[str ((r.map Prod.fst).getD []), .int .i64 (((r.map Prod.snd).getD 0 : Nat) : Int), .bool r.isSome]) ∧ Below w.heap.size w w'

end Go.Proofs.YtidpkmkhcomcdaaGreat

namespace Go.Proofs.YtidpkmkhcomcdaaGreat

namespace Tm
def U : Tm := .nm [117]
def VV : Tm := .nm [118]
def kC : Tm := abs [120] (abs [121] (abs [122] X))
def sC : Tm := abs [120] (abs [121] (abs [122] Y))
def appC (f a : Tm) : Tm := app k (app k (pair f a))
/-- The code of a term; a name stands for any code. -/
def code : Tm → Tm
  | k => kC
  | s => sC
  | nm n => nm n
  | app f a => appC (code f) (code a)
def recC (a b c : Tm) : Tm := app fix (abs [117] (abs [118] (app (app (app VV a) b) (abs [120] (abs [121] c)))))
def runC : Tm := recC k s (app (app U X) (app U Y))
def joinC : Tm := abs [117] (abs [118] (abs [120] (abs [121] (abs [122] (app (app Z U) VV)))))
def quoteC : Tm := recC (code kC) (code sC) (app (app joinC (app (app joinC (code joinC)) (app U X))) (app U Y))

theorem kC_size : kC.size = 4 := by decide +kernel
theorem sC_size : sC.size = 2 := by decide +kernel
theorem code_size_le : ∀ t : Tm, (code t).size + 9 ≤ 13 * t.size
  | k => by rw [code, kC_size]; decide
  | s => by rw [code, sC_size]; decide
  | nm n => by simp [code, size]
  | app f a => by
    have := code_size_le f
    have := code_size_le a
    simp only [code, appC, size, size_pair]
    omega
/-- Codes of closed terms are large. -/
theorem code_size_ge : ∀ t : Tm, (∀ n, t ≠ nm n) → (∀ x ∈ names [] t, False) → 11 * t.size ≤ (code t).size + 9
  | k, _, _ => by rw [code, kC_size]; decide
  | s, _, _ => by rw [code, sC_size]; decide
  | nm n, h, _ => absurd rfl (h n)
  | app f a, _, h => by
    have hn : ∀ x, has x (app f a) = false := fun x => by
      cases hx : has x (app f a) with
      | false => rfl
      | true => exact (h x ((mem_names x (app f a) []).2 (Or.inr hx))).elim
    have hfa : ∀ x, has x f = false ∧ has x a = false := fun x => by have := hn x; simpa [has] using this
    have hf : ∀ x ∈ names [] f, False := fun x hx => by
      rcases (mem_names x f []).1 hx with h' | h'
      · cases h'
      · rw [(hfa x).1] at h'; cases h'
    have ha : ∀ x ∈ names [] a, False := fun x hx => by
      rcases (mem_names x a []).1 hx with h' | h'
      · cases h'
      · rw [(hfa x).2] at h'; cases h'
    have nf : ∀ n, f ≠ nm n := fun n e => by
      subst e
      have := (hfa n).1
      simp [has] at this
    have na : ∀ n, a ≠ nm n := fun n e => by
      subst e
      have := (hfa n).2
      simp [has] at this
    have := code_size_ge f nf hf
    have := code_size_ge a na ha
    simp only [code, appC, size, size_pair]
    omega
theorem code_good : ∀ t : Tm, t.good = true → (code t).good = true
  | k, _ => by decide +kernel
  | s, _ => by decide +kernel
  | nm n, h => h
  | app f a, h => by
    simp only [good, Bool.and_eq_true] at h
    simp only [code, appC, good, good_pair, code_good f h.1, code_good a h.2]
    rfl
/-- A closed term read from a text. -/
def closedOf (l : List UInt8) : Option Tm := match parse l with
  | some t => if (names [] t).isEmpty then some t else none
  | none => none
/-- The code of the closed term of a text, if it is a term. -/
def codeT (l : List UInt8) : Option Tm := match closedOf l with
  | some t => if (code t).fits then some (code t) else none
  | none => none
theorem closed_facts {l : List UInt8} {t : Tm} (h : closedOf l = some t) : parse l = some t ∧ names [] t = [] := by
  unfold closedOf at h
  cases hp : parse l with
  | none => rw [hp] at h; cases h
  | some u =>
    rw [hp] at h
    by_cases hn : (names [] u).isEmpty = true
    · simp only [hn, if_true] at h
      obtain rfl := Option.some.inj h
      exact ⟨rfl, List.isEmpty_iff.1 hn⟩
    · simp only [hn] at h
      cases h
theorem codeT_facts {l : List UInt8} {c : Tm} (h : codeT l = some c) : ∃ t, closedOf l = some t ∧ c = code t ∧ c.fits = true ∧ c.good = true := by
  unfold codeT at h
  cases hp : closedOf l with
  | none => rw [hp] at h; cases h
  | some u =>
    rw [hp] at h
    by_cases hn : (code u).fits = true
    · simp only [hn, if_true] at h
      obtain rfl := Option.some.inj h
      exact ⟨u, rfl, rfl, hn, code_good u (parse_facts (closed_facts hp).1).1⟩
    · simp only [hn] at h
      cases h
/-- What an application comes to, if it is a term. -/
def endOf (t : Tm) : Option Tm := if t.fits then t.norm.map Prod.fst else none
def pCodeOf (l : List UInt8) : Option (List UInt8) := (codeT l).map text
def pCodeRun (l : List UInt8) : Option (List UInt8) := (codeT l).bind fun c => (endOf (app runC c)).map text
def pCodeJoin (l m : List UInt8) : Option (List UInt8) := (codeT l).bind fun c => (codeT m).bind fun d => (endOf (app (app joinC c) d)).map text
def pCodeQuote (l : List UInt8) : Option (List UInt8) := (codeT l).bind fun c => (endOf (app runC (code c))).map text
def pFixOf (l : List UInt8) : Option (List UInt8) := (parse l).bind fun t => if (app fix t).fits then some (text (app fix t)) else none
def pFixApply (l m : List UInt8) : Option (List UInt8) := match parse l, parse m with
  | some t, some u => (endOf (app (app fix t) u)).map text
  | _, _ => none
def word (w : List UInt8) : Option Tm :=
  if w = [114, 117, 110] then some runC else if w = [106, 111, 105, 110] then some joinC else if w = [113, 117, 111, 116, 101] then some quoteC else none
def pWord (w : List UInt8) : Option (List UInt8) := (word w).map text
theorem word_good {w : List UInt8} {t : Tm} (h : word w = some t) : t.good = true ∧ t.text.length ≤ 100000 := by
  unfold word at h
  repeat' split at h
  all_goals first | (obtain rfl := Option.some.inj h; exact ⟨by decide +kernel, by decide +kernel⟩) | cases h
theorem endOf_eq (t : Tm) : endOf t = if t.fits = true then (if (t.many 6000).1.normal = true then some (t.many 6000).1 else none) else none := by
  unfold endOf
  rw [norm_eq]
  split
  · split <;> rfl
  · rfl
theorem endOf_facts {t u : Tm} (h : endOf t = some u) (hg : t.good = true) : u.good = true ∧ u.fits = true := by
  rw [endOf_eq] at h
  split at h
  · rename_i hf
    split at h
    · obtain rfl := Option.some.inj h
      exact many_good 6000 _ hg hf
    · cases h
  · cases h
end Tm
end Go.Proofs.YtidpkmkhcomcdaaGreat

namespace Go.Proofs.YtidpkmkhcomcdaaGreat
open Go.RowKit

set_option maxHeartbeats 1000000
set_option maxRecDepth 100000

theorem closed_if {l : List UInt8} {t : Tm} (hp : Tm.parse l = some t) : Tm.closedOf l = if (t.names []).length = 0 then some t else none := by
  unfold Tm.closedOf
  rw [hp]
  by_cases h0 : t.names [] = []
  · simp [h0]
  · have : ¬ (t.names []).length = 0 := fun e => h0 (List.length_eq_zero_iff.1 e)
    have h0' : (t.names []).isEmpty = false := by simpa using h0
    simp [h0', this]

theorem readClosed_any (w : World) (B : Nat) (l : List UInt8) (hB : B ≤ w.heap.size) (hl : l.length ≤ 1000000000) :
    Calls Tryz.prog 39 #[str l] w (DataPost w B (Tm.closedOf l)) := by
  have hread := readTerm_any w B l hB hl
  unfold ParsePost at hread
  cases hp : Tm.parse l with
  | none =>
    have hfin : Tm.closedOf l = none := by simp [Tm.closedOf, hp]
    rw [hp] at hread
    rw [hfin]
    clear hp hfin
    go_enter Tryz.func39, Tryz.ntmps39
    go_wp2_with (go_at_call 67; refine hread.mono ?_; rintro e w1 ⟨v1, rfl, hb1, hv1⟩; clear hv1)
    go_ret2
    exact ⟨_, rfl, hb1, fun t h => by cases h⟩
  | some t =>
    obtain ⟨hg, hf, hs, _, _⟩ := Tm.parse_facts hp
    rw [closed_if hp]
    rw [hp] at hread
    obtain ⟨k, hk⟩ : ∃ k, k = (t.names []).length := ⟨_, rfl⟩
    rw [← hk]
    have HK := Lib.hid hk
    clear hp hk
    by_cases hk0 : k = 0
    · subst hk0
      simp only [if_true]
      go_enter Tryz.func39, Tryz.ntmps39
      go_wp2_with fail
      refine hread.mono ?_
      rintro e w1 ⟨v1, rfl, hb1, hv1⟩
      have ht1 := hv1 t rfl
      have hn := namesOf_any w1 _ t v1 ht1 hg (by omega)
      have HT1 := Lib.hid ht1
      clear hv1 hread ht1
      go_wp2_with (go_at_call 68; refine hn.mono ?_; rintro e w2 ⟨sv, rfl, hb2, ho2⟩; rw [← HK.out] at ho2; obtain ⟨ao, ac, rfl⟩ := own_slice_len ho2; clear ho2)
      go_ret2
      exact ⟨_, rfl, below_trans hb1 hb2, fun t' h => by obtain rfl := Option.some.inj h; exact HT1.out.below hb2⟩
    · have hk1 : 0 < (k : Int) := by omega
      rw [if_neg hk0]
      go_enter Tryz.func39, Tryz.ntmps39
      go_wp2_with fail
      refine hread.mono ?_
      rintro e w1 ⟨v1, rfl, hb1, hv1⟩
      have hn := namesOf_any w1 _ t v1 (hv1 t rfl) hg (by omega)
      clear hv1 hread
      go_wp2_with (go_at_call 68; refine hn.mono ?_; rintro e w2 ⟨sv, rfl, hb2, ho2⟩; rw [← HK.out] at ho2; obtain ⟨ao, ac, rfl⟩ := own_slice_len ho2; clear ho2)
      go_ret2
      exact ⟨_, rfl, below_trans hb1 hb2, fun t h => by cases h⟩
end Go.Proofs.YtidpkmkhcomcdaaGreat

namespace Go.Proofs.YtidpkmkhcomcdaaGreat
open Go.RowKit

set_option maxHeartbeats 1000000
set_option maxRecDepth 100000

theorem closedOf_isSome (l : List UInt8) : (Tm.closedOf l).isSome = Tm.pClosed l := by
  unfold Tm.pClosed
  cases hp : Tm.parse l with
  | none => simp [Tm.closedOf, hp]
  | some t =>
    rw [closed_if hp]
    by_cases h0 : (t.names []).length = 0
    · rw [if_pos h0]; simp [List.length_eq_zero_iff.1 h0]
    · rw [if_neg h0]
      have : t.names [] ≠ [] := fun e => h0 (by rw [e]; rfl)
      simp [this]

end Go.Proofs.YtidpkmkhcomcdaaGreat
