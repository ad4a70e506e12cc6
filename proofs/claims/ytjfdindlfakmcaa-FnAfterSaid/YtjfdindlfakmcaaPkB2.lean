/-
  The closed terms of chapter 2 in the model: l1App of two terms, l2I, l2True, l2False.
-/
import Derived.Test.YtjfdindlfakmcaaPkB1
import Derived.Test.YtjfdindlfakmcaaPkA
import Derived.RangeFuncNested
import Derived.RangeFuncBound
import Derived.RangeFuncCalls
import Derived.RangeFuncLeaves
import Derived.Shelf.Abstract
import Derived.WalkKit
import Derived.OwnWalkIn
import Derived.TacticsInMore
import Derived.LoopNIn
import Derived.LoopIn
import Derived.Lib.Hide
namespace Go.Proofs.Ytjfdindlfakmcaa
open Go.RowKit

set_option maxHeartbeats 1000000
set_option maxRecDepth 100000

theorem s_app2 (w : World) (f a b : Tm) (s1 s2 s3 : List UInt8) (a1 a2 a3 : Option Addr) (n1 c1 n2 c2 n3 c3 g : Nat) (fr : Nat × Nat) (hf : ST w f (.agg #[str s1, .slice a1 n1 c1])) (ha : ST w a (.agg #[str s2, .slice a2 n2 c2])) (hb : ST w b (.agg #[str s3, .slice a3 n3 c3]))
    (hg : w.heap[g]? = some (.cells #[str s2, .slice a2 n2 c2, str s3, .slice a3 n3 c3] 49 fr)) :
    Calls Try.prog 18 #[.agg #[str s1, .slice a1 n1 c1], .slice (some ⟨g, 0, none⟩) 2 2] w (TreePost w ((f.app a).app b)) := by
  have k0 : w.cell? ⟨g, 0, none⟩ = some (str s2) := cell_of_heap hg
  have k1 : w.cell? ⟨g, 1, none⟩ = some (.slice a2 n2 c2) := cell_of_heap hg
  have k2 : w.cell? ⟨g, 2, none⟩ = some (str s3) := cell_of_heap hg
  have k3 : w.cell? ⟨g, 3, none⟩ = some (.slice a3 n3 c3) := cell_of_heap hg
  have hlt := (Array.getElem?_eq_some_iff.1 hg).1
  have HF := Lib.hid hf
  have HA := Lib.hid ha
  have HB := Lib.hid hb
  clear hf ha hb hg
  go_enter Try.func18, Try.ntmps18
  go_wp2_with fail
  refine wp_loop_rounds 3 ?_
  rw [rounds_succ]
  go_wp2_with fail
  go_region
  go_wp2_with fail
  have hx := ((After.new w (.cells #[.string ⟨#[]⟩, .slice (some ⟨w.heap.size + 1 + 1, 0, none⟩) 2 2] 49)).alloc (.cells #[.string ⟨#[]⟩, .slice none 0 0] 49)).alloc (.cells #[str s1, .slice a1 n1 c1, str s2, .slice a2 n2 c2] 49)
  have x2 := hx.cell k2
  have x3 := hx.cell k3
  have hlt2 : g < w.heap.size + 1 + 1 + 1 := by omega
  rw [rounds_succ]
  go_wp2_with fail
  go_region
  go_wp2_with fail
  rw [rounds_succ]
  go_wp2_with fail
  obtain ⟨os, hos⟩ : ∃ os : List Obj, os = [.cells #[.string ⟨#[]⟩, .slice (some ⟨w.heap.size + 1 + 1 + 1, 0, none⟩) 2 2] 49, .cells #[.string ⟨#[]⟩, .slice (some ⟨w.heap.size + 1 + 1 + 1, 0, none⟩) 2 2] 49, .cells #[str s1, .slice a1 n1 c1, str s2, .slice a2 n2 c2] 49, .cells #[.string ⟨#[]⟩, .slice (some ⟨w.heap.size + 1 + 1, 0, none⟩) 2 2, str s3, .slice a3 n3 c3] 49] := ⟨_, rfl⟩
  have hX : allocL w os = (((w.alloc (.cells #[.string ⟨#[]⟩, .slice (some ⟨w.heap.size + 1 + 1 + 1, 0, none⟩) 2 2] 49)).alloc (.cells #[.string ⟨#[]⟩, .slice (some ⟨w.heap.size + 1 + 1 + 1, 0, none⟩) 2 2] 49)).alloc (.cells #[str s1, .slice a1 n1 c1, str s2, .slice a2 n2 c2] 49)).alloc (.cells #[.string ⟨#[]⟩, .slice (some ⟨w.heap.size + 1 + 1, 0, none⟩) 2 2, str s3, .slice a3 n3 c3] 49) := by rw [hos]; rfl
  have hy : After w (allocL w os) := allocL_below w os
  have h2 : (allocL w os).heap[w.heap.size + 1 + 1]? = some (.cells #[str s1, .slice a1 n1 c1, str s2, .slice a2 n2 c2] 49 (0, 0)) := by have := allocL_heap w os 2 (by rw [hos]; simp); simpa [hos] using this
  have h3 : (allocL w os).heap[w.heap.size + 1 + 1 + 1]? = some (.cells #[.string ⟨#[]⟩, .slice (some ⟨w.heap.size + 1 + 1, 0, none⟩) 2 2, str s3, .slice a3 n3 c3] 49 (0, 0)) := by have := allocL_heap w os 3 (by rw [hos]; simp); simpa [hos] using this
  rw [hX] at hy h2 h3
  refine bodyPost_ret (v := .agg #[.string ⟨#[]⟩, .slice (some ⟨w.heap.size + 1 + 1 + 1, 0, none⟩) 2 2]) (by simp [results, Try.results18, go_sem]) rfl ⟨[], some ⟨w.heap.size + 1 + 1 + 1, 0, none⟩, 2, 2, rfl, hy.drew.drew, ?_⟩
  exact ⟨_, 2, (0, 0), _, _, _, _, rfl, h3, ⟨_, 2, (0, 0), _, _, _, _, rfl, h2, HF.out.later hy.drew.drew, HA.out.later hy.drew.drew⟩, HB.out.later hy.drew.drew⟩

theorem s_i (w : World) : Calls Try.prog 31 #[] w (TreePost w Tm.I) := by
  have hAX : After w ((w.alloc (.cells #[.string ⟨#[]⟩, .slice none 0 0] 49)).alloc (.cells #[str [107], .slice none 0 0, str [107], .slice none 0 0] 49)) := (After.new _ _).alloc _
  have hres := heap_old2 w (.cells #[.string ⟨#[]⟩, .slice none 0 0] 49) (.cells #[str [107], .slice none 0 0, str [107], .slice none 0 0] 49)
  have hcall := s_app2 _ .s .k .k [115] [107] [107] none none none 0 0 0 0 0 0 (w.heap.size + 1) (0, 0) rfl rfl rfl (heap_new2 w _ (.cells #[.string ⟨#[]⟩, .slice none 0 0] 49) (.cells #[str [107], .slice none 0 0, str [107], .slice none 0 0] 49) rfl)
  unfold TreePost at hcall
  have HRES := Lib.hid hres
  clear hres
  go_enter Try.func31, Try.ntmps31
  go_wp2_with fail
  refine hcall.mono ?_
  rintro e w1 ⟨t1, ao1, n1, c1, rfl, hb1, ht1⟩
  have HT := Lib.hid ht1
  obtain ⟨z0, z1, z2, z3, l2⟩ := pair_facts HRES.out hb1
  clear ht1 hcall
  go_wp2_with fail
  refine bodyPost_ret (v := .agg #[str t1, .slice ao1 n1 c1]) (by simp [results, Try.results31, go_sem, z0, z1]) rfl
    ⟨t1, ao1, n1, c1, rfl, Below.setCell (Below.setCell (hAX.trans hb1) (by simp) _) (by simp) _, HT.out.sets2 (hb1.heap HRES.out)⟩

end Go.Proofs.Ytjfdindlfakmcaa

namespace Go.Proofs.Ytjfdindlfakmcaa
open Go.RowKit

set_option maxHeartbeats 2000000
set_option maxRecDepth 100000

namespace Tm
/-- No atom without letters. -/
def Plain : Tm → Prop
  | nm n => n ≠ []
  | app f a => Plain f ∧ Plain a
  | _ => True
def isNm (x : List UInt8) : Tm → Bool
  | nm n => n == x
  | _ => false
def abs (x : List UInt8) : Tm → Tm
  | nm n => if n = x then I else app k (nm n)
  | app f a => if uses x (app f a) = 0 then app k (app f a) else if isNm x a = true ∧ uses x f = 0 then f else app (app s (abs x f)) (abs x a)
  | t => app k t
theorem plain_good {t : Tm} : t.good = true → t.Plain := by
  induction t with
  | nm n => intro h; exact text_ne (.nm n) h
  | app f a ihf iha => intro h; simp only [good, Bool.and_eq_true] at h; exact ⟨ihf h.1, iha h.2⟩
  | k => intro _; trivial
  | s => intro _; trivial
end Tm

theorem usesG_atom (w : World) (s name : List UInt8) (v : Value) (hs : s ≠ []) (b : Bool) (hb : (s == name) = b) :
    Calls Try.prog 32 #[.agg #[str s, v], str name] w fun e w' => e = .returned (.int .i64 (if b then 1 else 0)) ∧ After w w' := by
  have he : s.isEmpty = false := by cases s with | nil => exact absurd rfl hs | cons => rfl
  clear hs
  cases b
  all_goals
    try simp only [beq_iff_eq] at hb
    try subst hb
    go_enter Try.func32, Try.ntmps32
    go_wp2_with fail
    go_ret
    exact ⟨rfl, After.new _ _⟩

theorem usesG_app (w : World) (name : List UInt8) (g cap : Nat) (fr : Nat × Nat) (s0 s1 : List UInt8) (a0 a1 : Option Addr) (n0 c0 n1 c1 : Nat) (f a : Tm) (hh : w.heap[g]? = some (.cells #[str s0, .slice a0 n0 c0, str s1, .slice a1 n1 c1] 49 fr))
    (hf : ∀ W, After w W → Calls Try.prog 32 #[.agg #[str s0, .slice a0 n0 c0], str name] W fun e w' => e = .returned (.int .i64 (f.uses name : Nat)) ∧ After W w')
    (ha : ∀ W, After w W → Calls Try.prog 32 #[.agg #[str s1, .slice a1 n1 c1], str name] W fun e w' => e = .returned (.int .i64 (a.uses name : Nat)) ∧ After W w') (hz : f.uses name + a.uses name ≤ 1000000000000) :
    Calls Try.prog 32 #[.agg #[str [], .slice (some ⟨g, 0, none⟩) 2 cap], str name] w fun e w' => e = .returned (.int .i64 ((f.app a).uses name : Nat)) ∧ After w w' := by
  obtain ⟨hnew, hself, b0, b1, g0, g1, g2, g3⟩ := kid_facts w g cap fr s0 s1 a0 a1 n0 c0 n1 c1 hh
  have hw : IntKind.i64.wrap ((f.uses name : Int) + (a.uses name : Int)) = (((f.app a).uses name : Nat) : Int) := by rw [IntWalk.i64_in _ (by omega)]; simp [Tm.uses]
  have HW := Lib.hid hw
  clear hw
  go_enter Try.func32, Try.ntmps32
  go_wp2_with fail
  go_region_held3 (fun W' => After (w.alloc (.cells #[str [], .slice (some ⟨g, 0, none⟩) 2 cap] 49)) W') (first | assumption | exact hself.drew | go_keep)
    (first
      | (go_at_call_of 32 a0; refine (hf _ (hnew.trans (by assumption))).mono ?_; rintro e w1 ⟨rfl, hb1⟩; have hb1' := After.trans (by assumption) hb1)
      | (go_at_call_of 32 a1; refine (ha _ (hnew.trans (by assumption))).mono ?_; rintro e w2 ⟨rfl, hb2⟩; have hb2' := After.trans (by assumption) hb2))
  go_wp2_with fail
  go_ret
  exact ⟨by rw [← HW.out]; rfl, hnew.trans hb2'⟩

theorem ST.usesG {t : Tm} (name : List UInt8) (hk : ([107] == name) = false) (hs : ([115] == name) = false) : ∀ {w : World} {v : Value}, ST w t v → t.Plain → t.size ≤ 1000000000 → Calls Try.prog 32 #[v, str name] w fun e w' => e = .returned (.int .i64 (t.uses name : Nat)) ∧ After w w' := by
  induction t with
  | k => intro w v h _ _; simp only [ST] at h; subst h; exact usesG_atom w _ name _ (by simp [Tm.text]) false hk
  | s => intro w v h _ _; simp only [ST] at h; subst h; exact usesG_atom w _ name _ (by simp [Tm.text]) false hs
  | nm n =>
    intro w v h hg _; simp only [ST] at h; subst h
    refine (usesG_atom w _ name _ hg _ rfl).mono ?_
    rintro e w' ⟨rfl, hb⟩
    refine ⟨?_, hb⟩
    by_cases hx : n = name <;> simp [Tm.uses, hx]
  | app f a ihf iha =>
    intro w v h hg hz
    obtain ⟨g, cap, fr, s0, p0, s1, p1, rfl, hh, hf, ha⟩ := h
    simp only [Tm.size] at hz
    obtain ⟨x0, a0, n0, c0, rfl, rfl⟩ := parts_form hf
    obtain ⟨x1, a1, n1, c1, rfl, rfl⟩ := parts_form ha
    have h1 := Tm.uses_le name f
    have h2 := Tm.uses_le name a
    exact usesG_app w name g cap fr x0 x1 a0 a1 n0 c0 n1 c1 f a hh (fun W hW => ihf (hf.later hW) hg.1 (by omega)) (fun W hW => iha (ha.later hW) hg.2 (by omega)) (by omega)

/-! ### l2Abs -/

theorem abs_i (w : World) (x : List UInt8) (ao : Option Addr) (n c : Nat) : Calls Try.prog 17 #[str x, .agg #[str x, .slice ao n c]] w (TreePost w Tm.I) := by
  have hA : After w ((w.alloc (.cells #[str x, .slice ao n c] 49)).alloc (.cells #[.string ⟨#[]⟩, .slice none 0 0] 49)) := (After.new _ _).alloc _
  have hres := heap_new2 w _ (.cells #[str x, .slice ao n c] 49) (.cells #[.string ⟨#[]⟩, .slice none 0 0] 49) rfl
  have hI := s_i ((w.alloc (.cells #[str x, .slice ao n c] 49)).alloc (.cells #[.string ⟨#[]⟩, .slice none 0 0] 49))
  unfold TreePost at hI
  have HRES := Lib.hid hres
  clear hres
  go_enter Try.func17, Try.ntmps17
  go_wp2_with fail
  refine hI.mono ?_
  rintro e w1 ⟨t1, ao1, n1, c1, rfl, hb1, ht1⟩
  have HT := Lib.hid ht1
  obtain ⟨z0, z1, z2, z3, l2⟩ := pair_facts HRES.out hb1
  clear ht1 hI
  go_wp2_with fail
  refine bodyPost_ret (v := .agg #[str t1, .slice ao1 n1 c1]) (by simp [results, Try.results17, go_sem, z0, z1]) rfl
    ⟨t1, ao1, n1, c1, rfl, Below.setCell (Below.setCell (hA.trans hb1) (by simp) _) (by simp) _, HT.out.sets2 (hb1.heap HRES.out)⟩

theorem abs_k (w : World) (x s : List UInt8) (ao : Option Addr) (n c : Nat) (t : Tm) (h : ST w t (.agg #[str s, .slice ao n c])) (hne : (s == x) = false)
    (hu : ∀ W, After w W → Calls Try.prog 32 #[.agg #[str s, .slice ao n c], str x] W fun e w' => e = .returned (.int .i64 0) ∧ After W w') :
    Calls Try.prog 17 #[str x, .agg #[str s, .slice ao n c]] w (TreePost w (.app .k t)) := by
  have hA : After w ((w.alloc (.cells #[str s, .slice ao n c] 49)).alloc (.cells #[.string ⟨#[]⟩, .slice none 0 0] 49)) := (After.new _ _).alloc _
  have hres := heap_new2 w _ (.cells #[str s, .slice ao n c] 49) (.cells #[.string ⟨#[]⟩, .slice none 0 0] 49) rfl
  have hbox := heap_old2 w (.cells #[str s, .slice ao n c] 49) (.cells #[.string ⟨#[]⟩, .slice none 0 0] 49)
  have hcall := hu _ hA
  have HRES := Lib.hid hres
  have HBOX := Lib.hid hbox
  have HT0 := Lib.hid (h.later hA)
  clear hres hbox hu h
  go_enter Try.func17, Try.ntmps17
  go_wp2_with fail
  refine hcall.mono ?_
  rintro e w1 ⟨rfl, hb1⟩
  obtain ⟨k0, k1, _, _, l1⟩ := pair_facts HBOX.out hb1
  have happ := s_app (w1.alloc (.cells #[str s, .slice ao n c] 49)) .k t [107] s none ao 0 0 n c w1.heap.size (0, 0) rfl (HT0.out.later (After.alloc hb1 _)) (heap_new' _ _)
  unfold TreePost at happ
  have hA1 := After.alloc hb1 (.cells #[str s, .slice ao n c] 49)
  clear hcall
  go_wp2_with fail
  refine happ.mono ?_
  rintro e w2 ⟨t2, ao2, n2, c2, rfl, hb2, ht2⟩
  have HT := Lib.hid ht2
  have hA2 := hA1.trans hb2
  obtain ⟨z0, z1, z2, z3, l2⟩ := pair_facts HRES.out hA2
  clear ht2 happ k0 k1
  go_wp2_with fail
  refine bodyPost_ret (v := .agg #[str t2, .slice ao2 n2 c2]) (by simp [results, Try.results17, go_sem, z0, z1]) rfl
    ⟨t2, ao2, n2, c2, rfl, Below.setCell (Below.setCell (hA.trans hA2) (by simp) _) (by simp) _, HT.out.sets2 (hA2.heap HRES.out)⟩

theorem abs_end (w : World) (x : List UInt8) (g q : Nat) (fr : Nat × Nat) (s0 : List UInt8) (a0 a1 : Option Addr) (n0 c0 n1 c1 : Nat) (f : Tm) (u : Nat) (hh : w.heap[g]? = some (.cells #[str s0, .slice a0 n0 c0, str x, .slice a1 n1 c1] 49 fr)) (hf : ST w f (.agg #[str s0, .slice a0 n0 c0])) (hx : ([] == x) = false) (hu0 : 0 < u)
    (hu : ∀ W, After w W → Calls Try.prog 32 #[.agg #[str [], .slice (some ⟨g, 0, none⟩) 2 q], str x] W fun e w' => e = .returned (.int .i64 u) ∧ After W w')
    (hu2 : ∀ W, After w W → Calls Try.prog 32 #[.agg #[str s0, .slice a0 n0 c0], str x] W fun e w' => e = .returned (.int .i64 0) ∧ After W w') :
    Calls Try.prog 17 #[str x, .agg #[str [], .slice (some ⟨g, 0, none⟩) 2 q]] w (TreePost w f) := by
  have hA : After w ((w.alloc (.cells #[str [], .slice (some ⟨g, 0, none⟩) 2 q] 49)).alloc (.cells #[.string ⟨#[]⟩, .slice none 0 0] 49)) := (After.new _ _).alloc _
  have hres := heap_new2 w _ (.cells #[str [], .slice (some ⟨g, 0, none⟩) 2 q] 49) (.cells #[.string ⟨#[]⟩, .slice none 0 0] 49) rfl
  have hbox := heap_old2 w (.cells #[str [], .slice (some ⟨g, 0, none⟩) 2 q] 49) (.cells #[.string ⟨#[]⟩, .slice none 0 0] 49)
  have hcall := hu _ hA
  have hu0' : ((u : Int) == 0) = false := by rw [beq_eq_false_iff_ne]; omega
  have HRES := Lib.hid hres
  have HBOX := Lib.hid hbox
  have HH := Lib.hid (hA.heap hh)
  have HU2 := Lib.hid hu2
  have HF := Lib.hid (hf.later hA)
  clear hres hbox hu hf hh hu2 hu0
  go_enter Try.func17, Try.ntmps17
  go_wp2_with fail
  refine hcall.mono ?_
  rintro e w1 ⟨rfl, hb1⟩
  obtain ⟨k0, k1, _, _, l1⟩ := pair_facts HBOX.out hb1
  have g0 : w1.cell? ⟨g, 0, none⟩ = some (str s0) := cell_of_heap (hb1.heap HH.out)
  have g1 : w1.cell? ⟨g, 1, none⟩ = some (.slice a0 n0 c0) := cell_of_heap (hb1.heap HH.out)
  have g2 : w1.cell? ⟨g, 2, none⟩ = some (str x) := cell_of_heap (hb1.heap HH.out)
  have hcall2 := HU2.out _ (hA.trans hb1)
  clear hcall
  go_wp2_with fail
  refine hcall2.mono ?_
  rintro e w2 ⟨rfl, hb2⟩
  have hb12 := After.trans hb1 hb2
  clear k0 k1 g0 g1 g2 l1
  obtain ⟨k0, k1, _, _, l1⟩ := pair_facts HBOX.out hb12
  have g0 : w2.cell? ⟨g, 0, none⟩ = some (str s0) := cell_of_heap (hb12.heap HH.out)
  have g1 : w2.cell? ⟨g, 1, none⟩ = some (.slice a0 n0 c0) := cell_of_heap (hb12.heap HH.out)
  obtain ⟨z0, z1, z2, z3, l2⟩ := pair_facts HRES.out hb12
  clear hcall2
  go_wp2_with fail
  refine bodyPost_ret (v := .agg #[str s0, .slice a0 n0 c0]) (by simp [results, Try.results17, go_sem, z0, z1]) rfl
    ⟨s0, a0, n0, c0, rfl, Below.setCell (Below.setCell (hA.trans hb12) (by simp) _) (by simp) _, (HF.out.later hb12).sets2 (hb12.heap HRES.out)⟩

theorem abs_s (w : World) (x : List UInt8) (g q : Nat) (fr : Nat × Nat) (s0 s1 : List UInt8) (a0 a1 : Option Addr) (n0 c0 n1 c1 : Nat) (F A : Tm) (u u2 : Nat) (b : Bool) (hh : w.heap[g]? = some (.cells #[str s0, .slice a0 n0 c0, str s1, .slice a1 n1 c1] 49 fr)) (hx : ([] == x) = false) (hu0 : 0 < u) (hb : (s1 == x) = b) (hu20 : b = true → 0 < u2)
    (hu : ∀ W, After w W → Calls Try.prog 32 #[.agg #[str [], .slice (some ⟨g, 0, none⟩) 2 q], str x] W fun e w' => e = .returned (.int .i64 u) ∧ After W w')
    (hu2 : ∀ W, After w W → Calls Try.prog 32 #[.agg #[str s0, .slice a0 n0 c0], str x] W fun e w' => e = .returned (.int .i64 u2) ∧ After W w')
    (hrf : ∀ W, After w W → Calls Try.prog 17 #[str x, .agg #[str s0, .slice a0 n0 c0]] W (TreePost W F))
    (hra : ∀ W, After w W → Calls Try.prog 17 #[str x, .agg #[str s1, .slice a1 n1 c1]] W (TreePost W A)) :
    Calls Try.prog 17 #[str x, .agg #[str [], .slice (some ⟨g, 0, none⟩) 2 q]] w (TreePost w (.app (.app .s F) A)) := by
  have hA : After w ((w.alloc (.cells #[str [], .slice (some ⟨g, 0, none⟩) 2 q] 49)).alloc (.cells #[.string ⟨#[]⟩, .slice none 0 0] 49)) := (After.new _ _).alloc _
  have hres := heap_new2 w _ (.cells #[str [], .slice (some ⟨g, 0, none⟩) 2 q] 49) (.cells #[.string ⟨#[]⟩, .slice none 0 0] 49) rfl
  have hbox := heap_old2 w (.cells #[str [], .slice (some ⟨g, 0, none⟩) 2 q] 49) (.cells #[.string ⟨#[]⟩, .slice none 0 0] 49)
  have hcall := hu _ hA
  have hglt := (Array.getElem?_eq_some_iff.1 hh).1
  have hu0' : ((u : Int) == 0) = false := by rw [beq_eq_false_iff_ne]; omega
  have HRES := Lib.hid hres
  have HBOX := Lib.hid hbox
  have HH := Lib.hid (hA.heap hh)
  have HU2 := Lib.hid hu2
  have HU20 := Lib.hid hu20
  have HRF := Lib.hid hrf
  have HRA := Lib.hid hra
  clear hres hbox hu hh hu2 hu0 hu20 hrf hra
  cases b
  · go_enter Try.func17, Try.ntmps17
    go_wp2_with fail
    refine hcall.mono ?_
    rintro e Y ⟨rfl, hY⟩
    obtain ⟨k0, k1, _, _, l1⟩ := pair_facts HBOX.out hY
    have g2 : Y.cell? ⟨g, 2, none⟩ = some (str s1) := cell_of_heap (hY.heap HH.out)
    clear hcall
    go_wp2_with fail
    clear k0 k1 g2 l1
    have hwY := hA.trans hY
    have hgY := hY.heap HH.out
    have hbY := hY.heap HBOX.out
    have hrY := hY.heap HRES.out
    have o1 : ∀ W, ButFor Y (w.heap.size + 1) W → W.cell? ⟨w.heap.size, 1, none⟩ = some (.slice (some ⟨g, 0, none⟩) 2 q) := fun W hW => hW.cell (by omega) (cell_of_heap hbY)
    have q0 : ∀ W, ButFor Y (w.heap.size + 1) W → W.cell? ⟨g, 0, none⟩ = some (str s0) := fun W hW => hW.cell (by omega) (cell_of_heap hgY)
    have q1 : ∀ W, ButFor Y (w.heap.size + 1) W → W.cell? ⟨g, 1, none⟩ = some (.slice a0 n0 c0) := fun W hW => hW.cell (by omega) (cell_of_heap hgY)
    have q2 : ∀ W, ButFor Y (w.heap.size + 1) W → W.cell? ⟨g, 2, none⟩ = some (str s1) := fun W hW => hW.cell (by omega) (cell_of_heap hgY)
    have q3 : ∀ W, ButFor Y (w.heap.size + 1) W → W.cell? ⟨g, 3, none⟩ = some (.slice a1 n1 c1) := fun W hW => hW.cell (by omega) (cell_of_heap hgY)
    have hbf : ButFor Y (w.heap.size + 1) Y.drew := ⟨Nat.le_refl _, fun _ _ _ => rfl⟩
    have hself := After.refl Y
    have hzres : ∀ W, After Y W → W.cell? ⟨w.heap.size + 1, 0, none⟩ = some (.string ⟨#[]⟩) ∧ W.cell? ⟨w.heap.size + 1, 1, none⟩ = some (.slice none 0 0) ∧ W.frozen? ⟨w.heap.size + 1, 0, none⟩ = false ∧ W.frozen? ⟨w.heap.size + 1, 1, none⟩ = false := fun W hW => by
      obtain ⟨a1, a2, a3, a4, _⟩ := pair_facts hrY hW
      exact ⟨a1, a2, a3, a4⟩
    have HZ := Lib.hid hzres
    have HWY := Lib.hid hwY
    have HRY := Lib.hid hrY
    clear hzres hwY hgY hbY hrY hY hA HH HBOX HRES
    go_region_held3 (fun W' => ButFor Y (w.heap.size + 1) W') (first | assumption | exact hbf | exact After.butFor (by assumption) | exact ButFor.alloc (by assumption) _ | exact ButFor.set (ButFor.set (by assumption) _ _) _ _ | go_keep)
      (first
        | (go_at_call_of 17 a0; refine (HRF.out _ (HWY.out.trans hself.drew)).mono ?_; rintro e w3 ⟨t3, ao3, nn3, cc3, rfl, hbb3, hs3⟩; have hA3 := After.trans hself.drew hbb3)
        | (go_at_call_of 17 a1; refine (HRA.out _ (HWY.out.trans hA3)).mono ?_; rintro e w4 ⟨t4, ao4, nn4, cc4, rfl, hbb4, hs4⟩; have hA4 := After.trans hA3 hbb4; have hs3' := hs3.later hbb4)
        | (go_at_call 18; refine (s_app2 _ .s F A [115] t3 t4 none ao3 ao4 0 0 nn3 cc3 nn4 cc4 _ (0, 0) rfl ?_ ?_ ?_).mono ?_; exact hs3'.later (After.new _ _); exact hs4.later (After.new _ _); exact heap_new' _ _; rintro e w5 ⟨t5, ao5, nn5, cc5, rfl, hbb5, hs5⟩; have hA5 := After.trans (hA4.alloc _) hbb5; obtain ⟨z0, z1, z2, z3⟩ := HZ.out _ hA5))
    all_goals
      go_wp2_with fail
      refine bodyPost_ret (v := .agg #[str t5, .slice ao5 nn5 cc5]) (by simp [results, Try.results17, go_sem, z0, z1]) rfl ⟨t5, ao5, nn5, cc5, rfl, Below.setCell (Below.setCell (HWY.out.trans hA5) (by simp) _) (by simp) _, ?_⟩
      exact hs5.sets2 (hA5.heap HRY.out)
  · simp only [beq_iff_eq] at hb
    subst hb
    have hu2' : ((u2 : Int) == 0) = false := by rw [beq_eq_false_iff_ne]; have := HU20.out rfl; omega
    go_enter Try.func17, Try.ntmps17
    go_wp2_with fail
    refine hcall.mono ?_
    rintro e w1 ⟨rfl, hb1⟩
    obtain ⟨k0, k1, _, _, l1⟩ := pair_facts HBOX.out hb1
    have g0 : w1.cell? ⟨g, 0, none⟩ = some (str s0) := cell_of_heap (hb1.heap HH.out)
    have g1 : w1.cell? ⟨g, 1, none⟩ = some (.slice a0 n0 c0) := cell_of_heap (hb1.heap HH.out)
    have g2 : w1.cell? ⟨g, 2, none⟩ = some (str s1) := cell_of_heap (hb1.heap HH.out)
    have hcall2 := HU2.out _ (hA.trans hb1)
    clear hcall
    go_wp2_with fail
    refine hcall2.mono ?_
    rintro e Y ⟨rfl, hb2⟩
    have hY := After.trans hb1 hb2
    clear hcall2 k0 k1 g0 g1 g2 l1
    go_wp2_with fail
    have hwY := hA.trans hY
    have hgY := hY.heap HH.out
    have hbY := hY.heap HBOX.out
    have hrY := hY.heap HRES.out
    have o1 : ∀ W, ButFor Y (w.heap.size + 1) W → W.cell? ⟨w.heap.size, 1, none⟩ = some (.slice (some ⟨g, 0, none⟩) 2 q) := fun W hW => hW.cell (by omega) (cell_of_heap hbY)
    have q0 : ∀ W, ButFor Y (w.heap.size + 1) W → W.cell? ⟨g, 0, none⟩ = some (str s0) := fun W hW => hW.cell (by omega) (cell_of_heap hgY)
    have q1 : ∀ W, ButFor Y (w.heap.size + 1) W → W.cell? ⟨g, 1, none⟩ = some (.slice a0 n0 c0) := fun W hW => hW.cell (by omega) (cell_of_heap hgY)
    have q2 : ∀ W, ButFor Y (w.heap.size + 1) W → W.cell? ⟨g, 2, none⟩ = some (str s1) := fun W hW => hW.cell (by omega) (cell_of_heap hgY)
    have q3 : ∀ W, ButFor Y (w.heap.size + 1) W → W.cell? ⟨g, 3, none⟩ = some (.slice a1 n1 c1) := fun W hW => hW.cell (by omega) (cell_of_heap hgY)
    have hbf : ButFor Y (w.heap.size + 1) Y.drew := ⟨Nat.le_refl _, fun _ _ _ => rfl⟩
    have hself := After.refl Y
    have hzres : ∀ W, After Y W → W.cell? ⟨w.heap.size + 1, 0, none⟩ = some (.string ⟨#[]⟩) ∧ W.cell? ⟨w.heap.size + 1, 1, none⟩ = some (.slice none 0 0) ∧ W.frozen? ⟨w.heap.size + 1, 0, none⟩ = false ∧ W.frozen? ⟨w.heap.size + 1, 1, none⟩ = false := fun W hW => by
      obtain ⟨a1, a2, a3, a4, _⟩ := pair_facts hrY hW
      exact ⟨a1, a2, a3, a4⟩
    have HZ := Lib.hid hzres
    have HWY := Lib.hid hwY
    have HRY := Lib.hid hrY
    clear hzres hwY hgY hbY hrY hY hA HH HBOX HRES hb1 hb2
    go_region_held3 (fun W' => ButFor Y (w.heap.size + 1) W') (first | assumption | exact hbf | exact After.butFor (by assumption) | exact ButFor.alloc (by assumption) _ | exact ButFor.set (ButFor.set (by assumption) _ _) _ _ | go_keep)
      (first
        | (go_at_call_of 17 a0; refine (HRF.out _ (HWY.out.trans hself.drew)).mono ?_; rintro e w3 ⟨t3, ao3, nn3, cc3, rfl, hbb3, hs3⟩; have hA3 := After.trans hself.drew hbb3)
        | (go_at_call_of 17 a1; refine (HRA.out _ (HWY.out.trans hA3)).mono ?_; rintro e w4 ⟨t4, ao4, nn4, cc4, rfl, hbb4, hs4⟩; have hA4 := After.trans hA3 hbb4; have hs3' := hs3.later hbb4)
        | (go_at_call 18; refine (s_app2 _ .s F A [115] t3 t4 none ao3 ao4 0 0 nn3 cc3 nn4 cc4 _ (0, 0) rfl ?_ ?_ ?_).mono ?_; exact hs3'.later (After.new _ _); exact hs4.later (After.new _ _); exact heap_new' _ _; rintro e w5 ⟨t5, ao5, nn5, cc5, rfl, hbb5, hs5⟩; have hA5 := After.trans (hA4.alloc _) hbb5; obtain ⟨z0, z1, z2, z3⟩ := HZ.out _ hA5))
    all_goals
      go_wp2_with fail
      refine bodyPost_ret (v := .agg #[str t5, .slice ao5 nn5 cc5]) (by simp [results, Try.results17, go_sem, z0, z1]) rfl ⟨t5, ao5, nn5, cc5, rfl, Below.setCell (Below.setCell (HWY.out.trans hA5) (by simp) _) (by simp) _, ?_⟩
      exact hs5.sets2 (hA5.heap HRY.out)

theorem nm_eq {w : World} {a : Tm} {s : List UInt8} {y : Value} (x : List UInt8) (h : ST w a (.agg #[str s, y])) (hx : ([] == x) = false) (hk : ([107] == x) = false) (hs : ([115] == x) = false) : (s == x) = a.isNm x := by
  cases a with
  | app f a => obtain ⟨rfl, _⟩ := app_form h; rw [hx]; rfl
  | k => obtain rfl := atom_form h rfl; simp only [Tm.text]; rw [hk]; rfl
  | s => obtain rfl := atom_form h rfl; simp only [Tm.text]; rw [hs]; rfl
  | nm n => obtain rfl := atom_form h rfl; rfl

theorem ST.abs {t : Tm} (x : List UInt8) (hx : ([] == x) = false) (hk : ([107] == x) = false) (hs : ([115] == x) = false) : ∀ {w : World} {v : Value}, ST w t v → t.Plain → t.size ≤ 1000000000 → Calls Try.prog 17 #[str x, v] w (TreePost w (t.abs x)) := by
  induction t with
  | k => intro w v h hp hz; have hu := fun W (hW : After w W) => (h.later hW).usesG x hk hs hp hz; simp only [ST] at h; subst h; exact abs_k w x _ none 0 0 .k rfl hk hu
  | s => intro w v h hp hz; have hu := fun W (hW : After w W) => (h.later hW).usesG x hk hs hp hz; simp only [ST] at h; subst h; exact abs_k w x _ none 0 0 .s rfl hs hu
  | nm n =>
    intro w v h hp hz
    have hu := fun W (hW : After w W) => (h.later hW).usesG x hk hs hp hz
    simp only [ST] at h
    subst h
    by_cases hn : n = x
    · subst hn
      rw [show (Tm.nm n).abs n = Tm.I by simp [Tm.abs]]
      exact abs_i w n none 0 0
    · rw [show (Tm.nm n).abs x = .app .k (.nm n) by simp [Tm.abs, hn]]
      have hu0 : (Tm.nm n).uses x = 0 := by simp [Tm.uses, hn]
      rw [hu0] at hu
      exact abs_k w x n none 0 0 (.nm n) rfl (beq_eq_false_iff_ne.2 hn) hu
  | app f a ihf iha =>
    intro w v h hp hz
    have hu := fun W (hW : After w W) => (h.later hW).usesG x hk hs hp hz
    have h' := h
    obtain ⟨g, cap, fr, s0, p0, s1, p1, rfl, hh, hf, ha⟩ := h
    simp only [Tm.size] at hz
    obtain ⟨x0, a0, n0, c0, rfl, rfl⟩ := parts_form hf
    obtain ⟨x1, a1, n1, c1, rfl, rfl⟩ := parts_form ha
    by_cases h0 : (f.app a).uses x = 0
    · rw [show (f.app a).abs x = .app .k (f.app a) by simp only [Tm.abs, h0, if_true]]
      rw [h0] at hu
      exact abs_k w x [] (some ⟨g, 0, none⟩) 2 cap _ h' hx hu
    · have hu2 := fun W (hW : After w W) => (hf.later hW).usesG x hk hs hp.1 (by omega)
      have hb := nm_eq x ha hx hk hs
      by_cases hend : a.isNm x = true ∧ f.uses x = 0
      · rw [show (f.app a).abs x = f by simp only [Tm.abs, if_neg h0, if_pos hend]]
        rw [hend.1, beq_iff_eq] at hb
        subst hb
        rw [hend.2] at hu2
        exact abs_end w x1 g cap fr x0 a0 a1 n0 c0 n1 c1 f _ hh hf hx (Nat.pos_of_ne_zero h0) hu hu2
      · rw [show (f.app a).abs x = .app (.app .s (f.abs x)) (a.abs x) by simp only [Tm.abs, if_neg h0, if_neg hend]]
        exact abs_s w x g cap fr x0 x1 a0 a1 n0 c0 n1 c1 (f.abs x) (a.abs x) _ _ (a.isNm x) hh hx (Nat.pos_of_ne_zero h0) hb (fun h => Nat.pos_of_ne_zero fun h2 => hend ⟨h, h2⟩) hu hu2
          (fun W hW => ihf (hf.later hW) hp.1 (by omega)) (fun W hW => iha (ha.later hW) hp.2 (by omega))
end Go.Proofs.Ytjfdindlfakmcaa

namespace Go.Proofs.Ytjfdindlfakmcaa
open Go.RowKit

set_option maxHeartbeats 2000000
set_option maxRecDepth 100000

namespace Tm
theorem abs_none (x : List UInt8) (t : Tm) (h : uses x t = 0) : abs x t = app k t := by
  cases t with
  | nm n => simp only [uses] at h; split at h; · simp at h
            rename_i hn; simp [abs, hn]
  | app f a => simp only [abs, h, if_true]
  | k => rfl
  | s => rfl
theorem isNm_uses (x : List UInt8) (t : Tm) (h : uses x t = 0) : isNm x t = false := by
  cases t with
  | nm n => simp only [uses] at h; split at h; · simp at h
            rename_i hn; simp [isNm, hn]
  | _ => rfl
theorem pair_abs (x : List UInt8) (a b : Tm) (ha : uses x a = 0) (hb : uses x b = 0) : abs x (app (app (nm x) a) b) = pair a b := by
  have h1 : uses x (app (app (nm x) a) b) = 1 := by simp [uses, ha, hb]
  have h2 : uses x (app (nm x) a) = 1 := by simp [uses, ha]
  rw [abs, h1, if_neg (by decide), isNm_uses x b hb, if_neg (by simp), abs_none x b hb, abs, h2, if_neg (by decide), isNm_uses x a ha, if_neg (by simp), abs_none x a ha]
  simp [abs, pair]
theorem uses_bad (x : List UInt8) (hx : nameOk x = false) : ∀ {t : Tm}, good t = true → uses x t = 0
  | nm n, h => by
    simp only [uses]
    split
    · rename_i hn; subst hn; simp only [good] at h; rw [hx] at h; simp at h
    · rfl
  | app f a, h => by simp only [good, Bool.and_eq_true] at h; simp only [uses, uses_bad x hx h.1, uses_bad x hx h.2]
  | k, _ => rfl
  | s, _ => rfl
end Tm

theorem s_nm (w : World) (x : List UInt8) : Calls Try.prog 19 #[str x] w fun e w' => e = .returned (.agg #[str x, .slice none 0 0]) ∧ After w w' := by
  have hA := After.new w (.cells #[str x, .slice none 0 0] 49)
  go_enter Try.func19, Try.ntmps19
  go_wp2_with fail
  exact bodyPost_ret (v := .agg #[str x, .slice none 0 0]) (by simp [results, Try.results19, go_sem]) rfl ⟨rfl, hA⟩

def SNumOne (w : World) (r : Option (List UInt8)) (e : Ending) (w' : World) : Prop :=
  e = .returned (.tuple #[str (r.getD []), .bool r.isSome]) ∧ After w w'

end Go.Proofs.Ytjfdindlfakmcaa

namespace Go.Proofs.Ytjfdindlfakmcaa
open Go.RowKit

set_option maxHeartbeats 1000000
set_option maxRecDepth 100000

theorem bodyOf_any (x : List UInt8) : ∀ {t : Tm} {w : World} {B : Nat} {v : Value}, TV w B t v → Calls Try.prog 28 #[v, str x] w (BodyPost w B (Bd.of x t)) := by
  intro t
  induction t with
  | k => intro w B v h; obtain ⟨b, fr, rfl, _⟩ := id h; exact body_leaf w B x _ b .k (Or.inl rfl) h
  | s => intro w B v h; obtain ⟨b, fr, rfl, _⟩ := id h; exact body_leaf w B x _ b .s (Or.inr rfl) h
  | nm n => intro w B v h; obtain ⟨b, fr, rfl, _⟩ := id h; exact body_name w B x n b h
  | app f a ihf iha =>
    intro w B v h
    have h' := h
    obtain ⟨b, fr, vf, va, rfl, hb, hh, hf, ha⟩ := h
    obtain ⟨T1, x1, rfl, _⟩ := hf.asks
    obtain ⟨T2, x2, rfl, _⟩ := ha.asks
    have hcall := body_parts w B b x f a (Bd.of x f) (Bd.of x a) T1 T2 x1 x2 h' hf (cell_later' (cell_of_heap (i := 0) hh)) (cell_later' (cell_of_heap (i := 1) hh)) (fun W' hW' => ihf (hf.below hW')) (fun W' hW' => iha (ha.below hW'))
    rw [show Bd.of x (.app f a) = Bd.comb f a (Bd.of x f) (Bd.of x a) from rfl]
    generalize Bd.comb f a (Bd.of x f) (Bd.of x a) = c at hcall ⊢
    unfold BodyPost at hcall
    have ha1 := assert_nm_a w (.pointer (some ⟨b, 0, none⟩))
    have ha2 := assert_app w (.pointer (some ⟨b, 0, none⟩))
    clear h' hh hf ha ihf iha
    go_enter Try.func28, Try.ntmps28
    go_wp2_with fail
    refine hcall.mono ?_
    rintro e w1 ⟨v1, rfl, hb1, hv1⟩
    have HV := Lib.hid hv1
    clear hv1 hcall
    go_wp2_with fail
    go_ret
    exact ⟨_, rfl, hb1, HV.out⟩

theorem comb_in {f a : Tm} {b1 b2 : Bd} (h : ∀ u, b1 ≠ .without u) : Bd.comb f a b1 b2 = .inside b1 b2 := by
  cases b1 with
  | without u => exact absurd rfl (h u)
  | itself => cases b2 <;> rfl
  | atEnd u => cases b2 <;> rfl
  | inside c d => cases b2 <;> rfl

theorem comb_in2 {f a : Tm} {b1 b2 : Bd} (h : ∀ u, b2 ≠ .without u) (h2 : b2 ≠ .itself) : Bd.comb f a b1 b2 = .inside b1 b2 := by
  cases b2 with
  | without u => exact absurd rfl (h u)
  | itself => exact absurd rfl h2
  | atEnd u => cases b1 <;> rfl
  | inside c d => cases b1 <;> rfl

theorem of_none (x : List UInt8) : ∀ {t : Tm}, Tm.uses x t = 0 → Bd.of x t = .without t
  | .k, _ => rfl
  | .s, _ => rfl
  | .nm n, h => by
    simp only [Tm.uses] at h
    split at h
    · simp at h
    · rename_i hn; simp [Bd.of, hn]
  | .app f a, h => by
    simp only [Tm.uses] at h
    rw [Bd.of, of_none x (t := f) (by omega), of_none x (t := a) (by omega)]
    rfl

theorem of_some (x : List UInt8) : ∀ {t : Tm}, Tm.uses x t ≠ 0 → (∀ u, Bd.of x t ≠ .without u) ∧ (Bd.of x t = .itself ↔ Tm.isNm x t = true)
  | .k, h => absurd rfl h
  | .s, h => absurd rfl h
  | .nm n, h => by
    simp only [Tm.uses] at h
    split at h
    · rename_i hn; simp [Bd.of, hn, Tm.isNm]
    · exact absurd rfl h
  | .app f a, h => by
    by_cases hf : Tm.uses x f = 0
    · have ha : Tm.uses x a ≠ 0 := by simp only [Tm.uses] at h; omega
      have ih := of_some x ha
      rw [Bd.of, of_none x hf]
      cases hb : Bd.of x a with
      | without u => exact absurd hb (ih.1 u)
      | itself => exact ⟨fun u => by simp [Bd.comb], by simp [Bd.comb, Tm.isNm]⟩
      | atEnd u => exact ⟨fun u => by simp [Bd.comb], by simp [Bd.comb, Tm.isNm]⟩
      | inside c d => exact ⟨fun u => by simp [Bd.comb], by simp [Bd.comb, Tm.isNm]⟩
    · have ih := of_some x hf
      rw [Bd.of, comb_in ih.1]
      exact ⟨fun u => by simp, by simp [Tm.isNm]⟩

theorem of_term (x : List UInt8) : ∀ t : Tm, (Bd.of x t).term = Tm.abs x t
  | .k => rfl
  | .s => rfl
  | .nm n => by by_cases hn : n = x <;> simp [Bd.of, Tm.abs, hn, Bd.term]
  | .app f a => by
    have ihf := of_term x f
    have iha := of_term x a
    by_cases h0 : Tm.uses x (.app f a) = 0
    · rw [of_none x h0, Tm.abs_none x _ h0]; rfl
    · rw [Tm.abs, if_neg h0]
      by_cases hf : Tm.uses x f = 0
      · have ha : Tm.uses x a ≠ 0 := by simp only [Tm.uses] at h0; omega
        have ha' := of_some x ha
        by_cases hn : Tm.isNm x a = true
        · rw [if_pos ⟨hn, hf⟩, Bd.of, of_none x hf, ha'.2.2 hn]; rfl
        · rw [if_neg (fun h => hn h.1), Bd.of, comb_in2 ha'.1 (fun h => hn (ha'.2.1 h)), Bd.term, ihf, iha]
      · rw [if_neg (fun h => hf h.2), Bd.of, comb_in (of_some x hf).1, Bd.term, ihf, iha]

theorem abs_size (x : List UInt8) : ∀ t : Tm, (Tm.abs x t).size + 1 ≤ 4 * t.size
  | .k => by simp [Tm.abs, Tm.size]
  | .s => by simp [Tm.abs, Tm.size]
  | .nm n => by by_cases hn : n = x <;> simp [Tm.abs, hn, Tm.size, Tm.I]
  | .app f a => by
    have ihf := abs_size x f
    have iha := abs_size x a
    have hf := Tm.size_pos f
    have ha := Tm.size_pos a
    rw [Tm.abs]
    split
    · simp only [Tm.size]; omega
    · split
      · simp only [Tm.size]; omega
      · simp only [Tm.size]; omega

theorem abstraction_any (w : World) (B : Nat) (x : List UInt8) (t : Tm) (v : Value) (h : TV w B t v) (hB : B ≤ w.heap.size) (hz : t.size ≤ 1000000) :
    Calls Try.prog 12 #[str x, v] w (TermPost w B (Tm.abs x t)) := by
  have hbody := bodyOf_any x h
  have hsz := abs_size x t
  unfold BodyPost at hbody
  rw [← of_term] at hsz ⊢
  generalize Bd.of x t = b at *
  go_enter Try.func12, Try.ntmps12
  go_wp2_with fail
  refine hbody.mono ?_
  rintro e w1 ⟨v1, rfl, hb1, hv1⟩
  obtain ⟨T1, x1, f1, y1, rfl, m1, n1, d1⟩ := BV.absOk (Nat.le_trans hB hb1.size) hv1 (by omega)
  have hcall := d1 w1 (Below.refl _ _)
  unfold TermPost at hcall
  clear hv1 hbody d1
  go_wp2_with (go_at_fn f1; refine hcall.mono ?_; rintro e w2 ⟨v2, rfl, hb2, ht2⟩; have HT := Lib.hid ht2; clear ht2)
  go_ret
  exact ⟨_, rfl, below_trans hb1 hb2, HT.out⟩
end Go.Proofs.Ytjfdindlfakmcaa

namespace Go.Proofs.Ytjfdindlfakmcaa
open Go.RowKit Go.Shelf

attribute [local go_sem] Oper.semAt_some

/-- What has come when k rounds are over. -/
def upto {α : Type} (f : Nat → α) (k : Nat) : List α := (List.range k).map f
theorem upto_succ {α : Type} (f : Nat → α) (k : Nat) : upto f (k + 1) = upto f k ++ [f k] := by simp [upto, List.range_succ]
theorem upto_length {α : Type} (f : Nat → α) (k : Nat) : (upto f k).length = k := by simp [upto]

/-- The blocks below m and the block Bs are as they were. -/
def KeepB (m Bs : Nat) (W W' : World) : Prop := ∀ k, (k < m ∨ k = Bs) → W'.heap[k]? = W.heap[k]?
theorem KeepB.trans {m Bs : Nat} {A B C : World} (h : KeepB m Bs A B) (k : KeepB m Bs B C) : KeepB m Bs A C := fun i hi => (k i hi).trans (h i hi)
theorem KeepB.refl (m Bs : Nat) (W : World) : KeepB m Bs W W := fun _ _ => rfl
theorem KeepB.cell {m Bs b i : Nat} {W W' : World} {v : Value} (h : KeepB m Bs W W') (hb : b < m ∨ b = Bs) (hc : W.cell? ⟨b, i, none⟩ = some v) : W'.cell? ⟨b, i, none⟩ = some v := by
  rw [World.cell?_of_block (w := W) (a := ⟨b, i, none⟩) (h b hb)]; exact hc

/-- The slice value holds these texts, in a block below m. -/
def StrsB (m : Nat) (W : World) (sv : Value) (zs : List (List UInt8)) : Prop :=
  (∃ ao cap, sv = .slice ao 0 cap ∧ zs = []) ∨ ∃ b off cap, sv = .slice (some ⟨b, off, none⟩) zs.length cap ∧ b < m ∧ ∀ j, j < zs.length → W.cell? ⟨b, off + j, none⟩ = some (str (zs[j]?.getD []))

theorem keepB_b {m Bs : Nat} {w : World} (hm : m ≤ w.heap.size) (hBs : Bs < w.heap.size) (W : World) (l : Nat) (o o' : Obj) (hl : w.heap.size ≤ l) (h : W.heap[l]? = some o) (_ : o.isCells = false) (_ : o.isWalk = false) : KeepB m Bs W (W.putObj l o') := fun k hk => by
  have hg := grownBy_putObj' W l o'
  have hlt := (Array.getElem?_eq_some_iff.1 h).1
  exact hg.block k (by omega) (fun e => by injection e with e; omega)
end Go.Proofs.Ytjfdindlfakmcaa

namespace Go.Proofs.Ytjfdindlfakmcaa
open Go.RowKit Go.Shelf

attribute [local go_sem] Oper.semAt_some

/-- Names abstracted one after the other, each result looked at. -/
def absL : List (List UInt8) → Tm → Option Tm
  | [], t => some t
  | x :: xs, t => if (Tm.abs x t).fits = true then absL xs (Tm.abs x t) else none

theorem absL_snoc (xs : List (List UInt8)) (x : List UInt8) : ∀ t, absL (xs ++ [x]) t = (absL xs t).bind fun u => if (Tm.abs x u).fits = true then some (Tm.abs x u) else none := by
  induction xs with
  | nil => intro t; simp [absL]
  | cons y ys ih => intro t; simp only [List.cons_append, absL]; split
                    · exact ih _
                    · rfl

theorem TV.keptCells {A C : World} {B : Nat} (hk : ∀ (b : Nat) (cs : Array Value) (T : TypeId) (fr : Nat × Nat), T ≠ 35 → T ≠ 4 → A.heap[b]? = some (.cells cs T fr) → C.heap[b]? = some (.cells cs T fr)) : ∀ {t : Tm} {v : Value}, TV A B t v → TV C B t v
  | .k, _, ⟨b, fr, hv, hb, h⟩ => ⟨b, fr, hv, hb, hk _ _ _ _ (by decide) (by decide) h⟩
  | .s, _, ⟨b, fr, hv, hb, h⟩ => ⟨b, fr, hv, hb, hk _ _ _ _ (by decide) (by decide) h⟩
  | .nm _, _, ⟨b, fr, hv, hb, h⟩ => ⟨b, fr, hv, hb, hk _ _ _ _ (by decide) (by decide) h⟩
  | .app _ _, _, ⟨b, fr, vf, va, hv, hb, h, hf, ha⟩ => ⟨b, fr, vf, va, hv, hb, hk _ _ _ _ (by decide) (by decide) h, hf.keptCells hk, ha.keptCells hk⟩

theorem TV.grownCells {A C : World} {B : Nat} {row : Option Nat} {t : Tm} {v : Value} (h : TV A B t v) (hg : A.grownBy C row) (hr : ∀ r, row = some r → ∃ o : Obj, A.heap[r]? = some o ∧ o.isCells = false) : TV C B t v :=
  h.keptCells fun b cs T fr _ _ hb => by
    rw [hg.block b (Array.getElem?_eq_some_iff.1 hb).1 (fun e => by obtain ⟨o, ho, hc⟩ := hr b e.symm; rw [hb] at ho; injection ho with ho; subst ho; simp [Obj.isCells] at hc)]
    exact hb

theorem TV.boxSet {A : World} {B b : Nat} {x u : Value} {t : Tm} {v : Value} (h : TV A B t v) (hb : Boxed A b 35 x) : TV (A.setCell ⟨b, 0, none⟩ u) B t v :=
  h.keptCells fun b' cs T fr hT _ hb' => by
    have hne : b' ≠ b := by
      rintro rfl
      rw [show A.heap[b']? = _ from hb] at hb'
      injection hb' with hb'
      injection hb' with _ hb' _
      exact hT hb'.symm
    rw [Below.heap_setCell _ _ _ _ hne]
    exact hb'

theorem TV.boolSet {A : World} {B b : Nat} {x u : Value} {t : Tm} {v : Value} (h : TV A B t v) (hb : Boxed A b 4 x) : TV (A.setCell ⟨b, 0, none⟩ u) B t v :=
  h.keptCells fun b' cs T fr _ hT hb' => by
    have hne : b' ≠ b := by
      rintro rfl
      rw [show A.heap[b']? = _ from hb] at hb'
      injection hb' with hb'
      injection hb' with _ hb' _
      exact hT hb'.symm
    rw [Below.heap_setCell _ _ _ _ hne]
    exact hb'

theorem absL_append (xs ys : List (List UInt8)) : ∀ t, absL (xs ++ ys) t = (absL xs t).bind (absL ys) := by
  induction xs with
  | nil => intro t; simp [absL]
  | cons x xs ih => intro t; simp only [List.cons_append, absL]; split
                    · exact ih _
                    · rfl

theorem back_take (zs : List (List UInt8)) (k : Nat) (hk : k ≤ zs.length) : (upto (fun j => (zs.length - 1 - j, zs[zs.length - 1 - j]?.getD [])) k).map Prod.snd = zs.reverse.take k := by
  apply List.ext_getElem
  · simp [upto, hk]
  · intro i h1 h2
    have hi : i < k := by simpa [upto] using h1
    have hz : zs.length - 1 - i < zs.length := by omega
    simp [upto, hz]

theorem box_kept {A C : World} {b : Nat} {T : TypeId} {x : Value} {row : Option Nat} (h : Boxed A b T x) (hg : A.grownBy C row) (hr : ∀ r, row = some r → ∃ o : Obj, A.heap[r]? = some o ∧ o.isCells = false) : Boxed C b T x :=
  Boxed.kept h hg fun e => by obtain ⟨o, ho, hc⟩ := hr b e.symm; rw [show A.heap[b]? = _ from h] at ho; injection ho with ho; subst ho; simp [Obj.isCells] at hc

theorem box_later {A C : World} {b : Nat} {T : TypeId} {x : Value} (h : Boxed A b T x) (hb : Below A.heap.size A C) : Boxed C b T x := heap_later h hb
theorem keepsOthers_below {A C : World} (h : Below A.heap.size A C) : KeepsOthers A C := ⟨h.size, fun _ _ hk _ => heap_later hk h⟩
theorem keepB_below {m Bs : Nat} {A C : World} (h : Below A.heap.size A C) (hm : m ≤ A.heap.size) (hBs : Bs < A.heap.size) : KeepB m Bs A C := fun k hk => h.block k (by omega)
theorem keepB_set {m Bs b : Nat} {A : World} (v : Value) (h1 : m ≤ b) (h2 : Bs ≠ b) : KeepB m Bs A (A.setCell ⟨b, 0, none⟩ v) := fun k hk => Below.heap_setCell _ _ _ _ (show k ≠ b by omega)

end Go.Proofs.Ytjfdindlfakmcaa

namespace Go.Proofs.Ytjfdindlfakmcaa
open Go.RowKit

set_option maxHeartbeats 1000000
set_option maxRecDepth 100000

namespace Tm
def X : Tm := .nm [120]
def Y : Tm := .nm [121]
def Z : Tm := .nm [122]
def half : Tm := abs [120] (abs [121] (app Y (app (app X X) Y)))
def fix : Tm := app half half
def succ : Tm := abs [120] (pair no X)
def pairC : Tm := abs [120] (abs [121] (abs [122] (app (app Z X) Y)))
def first : Tm := abs [120] (app X k)
def second : Tm := abs [120] (app X no)
def pred : Tm := abs [120] (app (app (app X k) I) (app X no))
/-- The closed term of a word. -/
def data (w : List UInt8) : Option Tm :=
  if w = [105] then some I else if w = [116, 114, 117, 101] then some k else if w = [102, 97, 108, 115, 101] then some no
  else if w = [112, 97, 105, 114] then some pairC else if w = [102, 105, 114, 115, 116] then some first else if w = [122, 101, 114, 111] then some first
  else if w = [115, 101, 99, 111, 110, 100] then some second else if w = [115, 117, 99, 99] then some succ else if w = [112, 114, 101, 100] then some pred
  else if w = [102, 105, 120] then some fix else none
theorem data_good {w : List UInt8} {t : Tm} (h : data w = some t) : t.good = true ∧ t.size ≤ 1000 := by
  unfold data at h
  repeat' split at h
  all_goals first | (obtain rfl := Option.some.inj h; exact ⟨by decide +kernel, by decide +kernel⟩) | cases h
end Tm

theorem nm_val {W : World} {B b : Nat} {n : List UInt8} {fr : Nat × Nat} (h : W.heap[b]? = some (.cells #[str n] 44 fr)) (hB : B ≤ b) : TV W B (.nm n) (.iface 40 (.pointer (some ⟨b, 0, none⟩))) := ⟨b, fr, rfl, hB, h⟩

theorem applyAll2 (w : World) (B g : Nat) (f a b : Tm) (vf va vb : Value) (fr : Nat × Nat) (hg : w.heap[g]? = some (.cells #[va, vb] 35 fr)) (hf : TV w B f vf) (ha : TV w B a va) (hb : TV w B b vb) (hB : B ≤ w.heap.size) (hz : f.size + a.size + b.size ≤ 1000000) :
    Calls Try.prog 87 #[vf, .slice (some ⟨g, 0, none⟩) 2 2] w (TermPost w B (.app (.app f a) b)) :=
  applyAll_any w B g f vf [a, b] [va, vb] fr rfl hg hf (fun j hj => by
    match j, hj with
    | 0, _ => exact ha
    | 1, _ => exact hb) hB (by simp; omega) (by simp)

theorem applyAll3 (w : World) (B g : Nat) (f a b c : Tm) (vf va vb vc : Value) (fr : Nat × Nat) (hg : w.heap[g]? = some (.cells #[va, vb, vc] 35 fr)) (hf : TV w B f vf) (ha : TV w B a va) (hb : TV w B b vb) (hc : TV w B c vc) (hB : B ≤ w.heap.size) (hz : f.size + a.size + b.size + c.size ≤ 1000000) :
    Calls Try.prog 87 #[vf, .slice (some ⟨g, 0, none⟩) 3 3] w (TermPost w B (.app (.app (.app f a) b) c)) :=
  applyAll_any w B g f vf [a, b, c] [va, vb, vc] fr rfl hg hf (fun j hj => by
    match j, hj with
    | 0, _ => exact ha
    | 1, _ => exact hb
    | 2, _ => exact hc) hB (by simp; omega) (by simp)

def DataPost (w : World) (B : Nat) (r : Option Tm) (e : Ending) (w' : World) : Prop :=
  ∃ v, e = .returned (.tuple #[v, .bool r.isSome]) ∧ Below w.heap.size w w' ∧ ∀ t, r = some t → TV w' B t v

/-- What is there behind the first lines of dataTerm. -/
structure DataPre (w : World) (B : Nat) (W : World) : Prop where
  below : Below w.heap.size w W
  x : TV W B Tm.X (.iface 40 (.pointer (some ⟨w.heap.size, 0, none⟩)))
  y : TV W B Tm.Y (.iface 40 (.pointer (some ⟨w.heap.size + 1, 0, none⟩)))
  z : TV W B Tm.Z (.iface 40 (.pointer (some ⟨w.heap.size + 1 + 1, 0, none⟩)))

def pData (l : List UInt8) : Option (List UInt8) := (Tm.data l).map Tm.text

end Go.Proofs.Ytjfdindlfakmcaa

namespace Go.Proofs.Ytjfdindlfakmcaa
open Go.RowKit

set_option maxHeartbeats 2000000
set_option maxRecDepth 100000

def lastL : List (List UInt8) → Tm → Tm
  | [], t => t
  | x :: xs, t => if (Tm.abs x t).fits = true then lastL xs (Tm.abs x t) else Tm.abs x t

theorem absL_last : ∀ (xs : List (List UInt8)) {t : Tm}, t.fits = true → absL xs t = if (lastL xs t).fits = true then some (lastL xs t) else none
  | [], t, h => by simp [absL, lastL, h]
  | x :: xs, t, _ => by
    by_cases hf : (Tm.abs x t).fits = true
    · have hl : lastL (x :: xs) t = lastL xs (Tm.abs x t) := by simp [lastL, hf]
      rw [hl]
      simp only [absL, if_pos hf]
      exact absL_last xs hf
    · have hl : lastL (x :: xs) t = Tm.abs x t := by simp [lastL, hf]
      rw [hl, if_neg hf]
      simp [absL, hf]

theorem abs_good (x : List UInt8) : ∀ {t : Tm}, t.good = true → (Tm.abs x t).good = true
  | .k, _ => rfl
  | .s, _ => rfl
  | .nm n, hn => by by_cases he : n = x <;> simp [Tm.abs, he, Tm.I, Tm.good] <;> simpa [Tm.good] using hn
  | .app f a, h => by
    have h' := h
    simp only [Tm.good, Bool.and_eq_true] at h'
    simp only [Tm.abs]
    split
    · simpa [Tm.good] using h'
    · split
      · exact h'.1
      · simp [Tm.good, abs_good x h'.1, abs_good x h'.2]

theorem last_good : ∀ (xs : List (List UInt8)) {t : Tm}, t.good = true → t.fits = true → (lastL xs t).good = true ∧ (lastL xs t).size ≤ 12000
  | [], t, hg, hf => ⟨hg, by have := fits_size hf; simp only [lastL]; omega⟩
  | x :: xs, t, hg, hf => by
    simp only [lastL]
    have hga := abs_good x hg
    have hsz := abs_size x t
    have hfs := fits_size hf
    split
    · rename_i h; exact last_good xs hga h
    · exact ⟨hga, by omega⟩

theorem name_not3 {n : List UInt8} (h : Tm.nameOk n = true) : ([] == n) = false ∧ ([107] == n) = false ∧ ([115] == n) = false := by
  refine ⟨?_, ?_, ?_⟩ <;> (rw [beq_eq_false_iff_ne]; rintro rfl; revert h; decide)

end Go.Proofs.Ytjfdindlfakmcaa
