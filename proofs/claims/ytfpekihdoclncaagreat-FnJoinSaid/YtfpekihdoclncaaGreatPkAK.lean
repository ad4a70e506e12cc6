/-
  The closed terms of chapter 2 in the model: l1App of two terms, l2I, l2True, l2False.
-/
import Derived.Test.YtfpekihdoclncaaGreatPkAJ
import Derived.Test.YtfpekihdoclncaaGreatPkAF
import Derived.Test.YtfpekihdoclncaaGreatPkAH
import Derived.Test.YtfpekihdoclncaaGreatPkAE
namespace Go.Proofs.YtfpekihdoclncaaGreat
open Go.RowKit

set_option maxHeartbeats 1000000
set_option maxRecDepth 100000

theorem s_app2 (w : World) (f a b : Tm) (s1 s2 s3 : List UInt8) (a1 a2 a3 : Option Addr) (n1 c1 n2 c2 n3 c3 g : Nat) (fr : Nat × Nat) (hf : ST w f (.agg #[str s1, .slice a1 n1 c1])) (ha : ST w a (.agg #[str s2, .slice a2 n2 c2])) (hb : ST w b (.agg #[str s3, .slice a3 n3 c3]))
    (hg : w.heap[g]? = some (.cells #[str s2, .slice a2 n2 c2, str s3, .slice a3 n3 c3] 42 fr)) :
    Calls Tryz.prog 19 #[.agg #[str s1, .slice a1 n1 c1], .slice (some ⟨g, 0, none⟩) 2 2] w (TreePost w ((f.app a).app b)) := by
  have k0 : w.cell? ⟨g, 0, none⟩ = some (str s2) := cell_of_heap hg
  have k1 : w.cell? ⟨g, 1, none⟩ = some (.slice a2 n2 c2) := cell_of_heap hg
  have k2 : w.cell? ⟨g, 2, none⟩ = some (str s3) := cell_of_heap hg
  have k3 : w.cell? ⟨g, 3, none⟩ = some (.slice a3 n3 c3) := cell_of_heap hg
  have hlt := (Array.getElem?_eq_some_iff.1 hg).1
  have HF := Lib.hid hf
  have HA := Lib.hid ha
  have HB := Lib.hid hb
  clear hf ha hb hg
  go_enter Tryz.func19, Tryz.ntmps19
  go_wp2_with fail
  refine wp_loop_rounds 3 ?_
  rw [rounds_succ]
  go_wp2_with fail
  go_region
  go_wp2_with fail
  have hx := ((After.new w (.cells #[.string ⟨#[]⟩, .slice (some ⟨w.heap.size + 1 + 1, 0, none⟩) 2 2] 42)).alloc (.cells #[.string ⟨#[]⟩, .slice none 0 0] 42)).alloc (.cells #[str s1, .slice a1 n1 c1, str s2, .slice a2 n2 c2] 42)
  have x2 := hx.cell k2
  have x3 := hx.cell k3
  have hlt2 : g < w.heap.size + 1 + 1 + 1 := by omega
  rw [rounds_succ]
  go_wp2_with fail
  go_region
  go_wp2_with fail
  rw [rounds_succ]
  go_wp2_with fail
  obtain ⟨os, hos⟩ : ∃ os : List Obj, os = [.cells #[.string ⟨#[]⟩, .slice (some ⟨w.heap.size + 1 + 1 + 1, 0, none⟩) 2 2] 42, .cells #[.string ⟨#[]⟩, .slice (some ⟨w.heap.size + 1 + 1 + 1, 0, none⟩) 2 2] 42, .cells #[str s1, .slice a1 n1 c1, str s2, .slice a2 n2 c2] 42, .cells #[.string ⟨#[]⟩, .slice (some ⟨w.heap.size + 1 + 1, 0, none⟩) 2 2, str s3, .slice a3 n3 c3] 42] := ⟨_, rfl⟩
  have hX : allocL w os = (((w.alloc (.cells #[.string ⟨#[]⟩, .slice (some ⟨w.heap.size + 1 + 1 + 1, 0, none⟩) 2 2] 42)).alloc (.cells #[.string ⟨#[]⟩, .slice (some ⟨w.heap.size + 1 + 1 + 1, 0, none⟩) 2 2] 42)).alloc (.cells #[str s1, .slice a1 n1 c1, str s2, .slice a2 n2 c2] 42)).alloc (.cells #[.string ⟨#[]⟩, .slice (some ⟨w.heap.size + 1 + 1, 0, none⟩) 2 2, str s3, .slice a3 n3 c3] 42) := by rw [hos]; rfl
  have hy : After w (allocL w os) := allocL_below w os
  have h2 : (allocL w os).heap[w.heap.size + 1 + 1]? = some (.cells #[str s1, .slice a1 n1 c1, str s2, .slice a2 n2 c2] 42 (0, 0)) := by have := allocL_heap w os 2 (by rw [hos]; simp); simpa [hos] using this
  have h3 : (allocL w os).heap[w.heap.size + 1 + 1 + 1]? = some (.cells #[.string ⟨#[]⟩, .slice (some ⟨w.heap.size + 1 + 1, 0, none⟩) 2 2, str s3, .slice a3 n3 c3] 42 (0, 0)) := by have := allocL_heap w os 3 (by rw [hos]; simp); simpa [hos] using this
  rw [hX] at hy h2 h3
  refine bodyPost_ret (v := .agg #[.string ⟨#[]⟩, .slice (some ⟨w.heap.size + 1 + 1 + 1, 0, none⟩) 2 2]) (by simp [results, Tryz.results19, go_sem]) rfl ⟨[], some ⟨w.heap.size + 1 + 1 + 1, 0, none⟩, 2, 2, rfl, hy.drew.drew, ?_⟩
  exact ⟨_, 2, (0, 0), _, _, _, _, rfl, h3, ⟨_, 2, (0, 0), _, _, _, _, rfl, h2, HF.out.later hy.drew.drew, HA.out.later hy.drew.drew⟩, HB.out.later hy.drew.drew⟩

theorem s_i (w : World) : Calls Tryz.prog 71 #[] w (TreePost w Tm.I) := by
  have hAX : After w ((w.alloc (.cells #[.string ⟨#[]⟩, .slice none 0 0] 42)).alloc (.cells #[str [107], .slice none 0 0, str [107], .slice none 0 0] 42)) := (After.new _ _).alloc _
  have hres := heap_old2 w (.cells #[.string ⟨#[]⟩, .slice none 0 0] 42) (.cells #[str [107], .slice none 0 0, str [107], .slice none 0 0] 42)
  have hcall := s_app2 _ .s .k .k [115] [107] [107] none none none 0 0 0 0 0 0 (w.heap.size + 1) (0, 0) rfl rfl rfl (heap_new2 w _ (.cells #[.string ⟨#[]⟩, .slice none 0 0] 42) (.cells #[str [107], .slice none 0 0, str [107], .slice none 0 0] 42) rfl)
  unfold TreePost at hcall
  have HRES := Lib.hid hres
  clear hres
  go_enter Tryz.func71, Tryz.ntmps71
  go_wp2_with fail
  refine hcall.mono ?_
  rintro e w1 ⟨t1, ao1, n1, c1, rfl, hb1, ht1⟩
  have HT := Lib.hid ht1
  obtain ⟨z0, z1, z2, z3, l2⟩ := pair_facts HRES.out hb1
  clear ht1 hcall
  go_wp2_with fail
  refine bodyPost_ret (v := .agg #[str t1, .slice ao1 n1 c1]) (by simp [results, Tryz.results71, go_sem, z0, z1]) rfl
    ⟨t1, ao1, n1, c1, rfl, Below.setCell (Below.setCell (hAX.trans hb1) (by simp) _) (by simp) _, HT.out.sets2 (hb1.heap HRES.out)⟩

end Go.Proofs.YtfpekihdoclncaaGreat

namespace Go.Proofs.YtfpekihdoclncaaGreat
open Go.RowKit

set_option maxHeartbeats 2000000
set_option maxRecDepth 100000

namespace Tm
/-- No atom without letters. -/
def Plain : Tm → Prop
  | nm n => n ≠ []
  | app f a => Plain f ∧ Plain a
  | _ => True
def isNm (x : List UInt8) : Tm → Bool
  | nm n => n == x
  | _ => false
def abs (x : List UInt8) : Tm → Tm
  | nm n => if n = x then I else app k (nm n)
  | app f a => if uses x (app f a) = 0 then app k (app f a) else if isNm x a = true ∧ uses x f = 0 then f else app (app s (abs x f)) (abs x a)
  | t => app k t
theorem plain_good {t : Tm} : t.good = true → t.Plain := by
  induction t with
  | nm n => intro h; exact text_ne (.nm n) h
  | app f a ihf iha => intro h; simp only [good, Bool.and_eq_true] at h; exact ⟨ihf h.1, iha h.2⟩
  | k => intro _; trivial
  | s => intro _; trivial
end Tm

theorem usesG_atom (w : World) (s name : List UInt8) (v : Value) (hs : s ≠ []) (b : Bool) (hb : (s == name) = b) :
    Calls Tryz.prog 73 #[.agg #[str s, v], str name] w fun e w' => e = .returned (.int .i64 (if b then 1 else 0)) ∧ After w w' := by
  have he : s.isEmpty = false := by cases s with | nil => exact absurd rfl hs | cons => rfl
  clear hs
  cases b
  all_goals
    try simp only [beq_iff_eq] at hb
    try subst hb
    go_enter Tryz.func73, Tryz.ntmps73
    go_wp2_with fail
    go_ret
    exact ⟨rfl, After.new _ _⟩

theorem usesG_app (w : World) (name : List UInt8) (g cap : Nat) (fr : Nat × Nat) (s0 s1 : List UInt8) (a0 a1 : Option Addr) (n0 c0 n1 c1 : Nat) (f a : Tm) (hh : w.heap[g]? = some (.cells #[str s0, .slice a0 n0 c0, str s1, .slice a1 n1 c1] 42 fr))
    (hf : ∀ W, After w W → Calls Tryz.prog 73 #[.agg #[str s0, .slice a0 n0 c0], str name] W fun e w' => e = .returned (.int .i64 (f.uses name : Nat)) ∧ After W w')
    (ha : ∀ W, After w W → Calls Tryz.prog 73 #[.agg #[str s1, .slice a1 n1 c1], str name] W fun e w' => e = .returned (.int .i64 (a.uses name : Nat)) ∧ After W w') (hz : f.uses name + a.uses name ≤ 1000000000000) :
    Calls Tryz.prog 73 #[.agg #[str [], .slice (some ⟨g, 0, none⟩) 2 cap], str name] w fun e w' => e = .returned (.int .i64 ((f.app a).uses name : Nat)) ∧ After w w' := by
  obtain ⟨hnew, hself, b0, b1, g0, g1, g2, g3⟩ := kid_facts w g cap fr s0 s1 a0 a1 n0 c0 n1 c1 hh
  have hw : IntKind.i64.wrap ((f.uses name : Int) + (a.uses name : Int)) = (((f.app a).uses name : Nat) : Int) := by rw [IntWalk.i64_in _ (by omega)]; simp [Tm.uses]
  have HW := Lib.hid hw
  clear hw
  go_enter Tryz.func73, Tryz.ntmps73
  go_wp2_with fail
  go_region_held3 (fun W' => After (w.alloc (.cells #[str [], .slice (some ⟨g, 0, none⟩) 2 cap] 42)) W') (first | assumption | exact hself.drew | go_keep)
    (first
      | (go_at_call_of 73 a0; refine (hf _ (hnew.trans (by assumption))).mono ?_; rintro e w1 ⟨rfl, hb1⟩; have hb1' := After.trans (by assumption) hb1)
      | (go_at_call_of 73 a1; refine (ha _ (hnew.trans (by assumption))).mono ?_; rintro e w2 ⟨rfl, hb2⟩; have hb2' := After.trans (by assumption) hb2))
  go_wp2_with fail
  go_ret
  exact ⟨by rw [← HW.out]; rfl, hnew.trans hb2'⟩

theorem ST.usesG {t : Tm} (name : List UInt8) (hk : ([107] == name) = false) (hs : ([115] == name) = false) : ∀ {w : World} {v : Value}, ST w t v → t.Plain → t.size ≤ 1000000000 → Calls Tryz.prog 73 #[v, str name] w fun e w' => e = .returned (.int .i64 (t.uses name : Nat)) ∧ After w w' := by
  induction t with
  | k => intro w v h _ _; simp only [ST] at h; subst h; exact usesG_atom w _ name _ (by simp [Tm.text]) false hk
  | s => intro w v h _ _; simp only [ST] at h; subst h; exact usesG_atom w _ name _ (by simp [Tm.text]) false hs
  | nm n =>
    intro w v h hg _; simp only [ST] at h; subst h
    refine (usesG_atom w _ name _ hg _ rfl).mono ?_
    rintro e w' ⟨rfl, hb⟩
    refine ⟨?_, hb⟩
    by_cases hx : n = name <;> simp [Tm.uses, hx]
  | app f a ihf iha =>
    intro w v h hg hz
    obtain ⟨g, cap, fr, s0, p0, s1, p1, rfl, hh, hf, ha⟩ := h
    simp only [Tm.size] at hz
    obtain ⟨x0, a0, n0, c0, rfl, rfl⟩ := parts_form hf
    obtain ⟨x1, a1, n1, c1, rfl, rfl⟩ := parts_form ha
    have h1 := Tm.uses_le name f
    have h2 := Tm.uses_le name a
    exact usesG_app w name g cap fr x0 x1 a0 a1 n0 c0 n1 c1 f a hh (fun W hW => ihf (hf.later hW) hg.1 (by omega)) (fun W hW => iha (ha.later hW) hg.2 (by omega)) (by omega)

/-! ### l2Abs -/

theorem abs_i (w : World) (x : List UInt8) (ao : Option Addr) (n c : Nat) : Calls Tryz.prog 60 #[str x, .agg #[str x, .slice ao n c]] w (TreePost w Tm.I) := by
  have hA : After w ((w.alloc (.cells #[str x, .slice ao n c] 42)).alloc (.cells #[.string ⟨#[]⟩, .slice none 0 0] 42)) := (After.new _ _).alloc _
  have hres := heap_new2 w _ (.cells #[str x, .slice ao n c] 42) (.cells #[.string ⟨#[]⟩, .slice none 0 0] 42) rfl
  have hI := s_i ((w.alloc (.cells #[str x, .slice ao n c] 42)).alloc (.cells #[.string ⟨#[]⟩, .slice none 0 0] 42))
  unfold TreePost at hI
  have HRES := Lib.hid hres
  clear hres
  go_enter Tryz.func60, Tryz.ntmps60
  go_wp2_with fail
  refine hI.mono ?_
  rintro e w1 ⟨t1, ao1, n1, c1, rfl, hb1, ht1⟩
  have HT := Lib.hid ht1
  obtain ⟨z0, z1, z2, z3, l2⟩ := pair_facts HRES.out hb1
  clear ht1 hI
  go_wp2_with fail
  refine bodyPost_ret (v := .agg #[str t1, .slice ao1 n1 c1]) (by simp [results, Tryz.results60, go_sem, z0, z1]) rfl
    ⟨t1, ao1, n1, c1, rfl, Below.setCell (Below.setCell (hA.trans hb1) (by simp) _) (by simp) _, HT.out.sets2 (hb1.heap HRES.out)⟩

theorem abs_k (w : World) (x s : List UInt8) (ao : Option Addr) (n c : Nat) (t : Tm) (h : ST w t (.agg #[str s, .slice ao n c])) (hne : (s == x) = false)
    (hu : ∀ W, After w W → Calls Tryz.prog 73 #[.agg #[str s, .slice ao n c], str x] W fun e w' => e = .returned (.int .i64 0) ∧ After W w') :
    Calls Tryz.prog 60 #[str x, .agg #[str s, .slice ao n c]] w (TreePost w (.app .k t)) := by
  have hA : After w ((w.alloc (.cells #[str s, .slice ao n c] 42)).alloc (.cells #[.string ⟨#[]⟩, .slice none 0 0] 42)) := (After.new _ _).alloc _
  have hres := heap_new2 w _ (.cells #[str s, .slice ao n c] 42) (.cells #[.string ⟨#[]⟩, .slice none 0 0] 42) rfl
  have hbox := heap_old2 w (.cells #[str s, .slice ao n c] 42) (.cells #[.string ⟨#[]⟩, .slice none 0 0] 42)
  have hcall := hu _ hA
  have HRES := Lib.hid hres
  have HBOX := Lib.hid hbox
  have HT0 := Lib.hid (h.later hA)
  clear hres hbox hu h
  go_enter Tryz.func60, Tryz.ntmps60
  go_wp2_with fail
  refine hcall.mono ?_
  rintro e w1 ⟨rfl, hb1⟩
  obtain ⟨k0, k1, _, _, l1⟩ := pair_facts HBOX.out hb1
  have happ := s_app (w1.alloc (.cells #[str s, .slice ao n c] 42)) .k t [107] s none ao 0 0 n c w1.heap.size (0, 0) rfl (HT0.out.later (After.alloc hb1 _)) (heap_new' _ _)
  unfold TreePost at happ
  have hA1 := After.alloc hb1 (.cells #[str s, .slice ao n c] 42)
  clear hcall
  go_wp2_with fail
  refine happ.mono ?_
  rintro e w2 ⟨t2, ao2, n2, c2, rfl, hb2, ht2⟩
  have HT := Lib.hid ht2
  have hA2 := hA1.trans hb2
  obtain ⟨z0, z1, z2, z3, l2⟩ := pair_facts HRES.out hA2
  clear ht2 happ k0 k1
  go_wp2_with fail
  refine bodyPost_ret (v := .agg #[str t2, .slice ao2 n2 c2]) (by simp [results, Tryz.results60, go_sem, z0, z1]) rfl
    ⟨t2, ao2, n2, c2, rfl, Below.setCell (Below.setCell (hA.trans hA2) (by simp) _) (by simp) _, HT.out.sets2 (hA2.heap HRES.out)⟩

theorem abs_end (w : World) (x : List UInt8) (g q : Nat) (fr : Nat × Nat) (s0 : List UInt8) (a0 a1 : Option Addr) (n0 c0 n1 c1 : Nat) (f : Tm) (u : Nat) (hh : w.heap[g]? = some (.cells #[str s0, .slice a0 n0 c0, str x, .slice a1 n1 c1] 42 fr)) (hf : ST w f (.agg #[str s0, .slice a0 n0 c0])) (hx : ([] == x) = false) (hu0 : 0 < u)
    (hu : ∀ W, After w W → Calls Tryz.prog 73 #[.agg #[str [], .slice (some ⟨g, 0, none⟩) 2 q], str x] W fun e w' => e = .returned (.int .i64 u) ∧ After W w')
    (hu2 : ∀ W, After w W → Calls Tryz.prog 73 #[.agg #[str s0, .slice a0 n0 c0], str x] W fun e w' => e = .returned (.int .i64 0) ∧ After W w') :
    Calls Tryz.prog 60 #[str x, .agg #[str [], .slice (some ⟨g, 0, none⟩) 2 q]] w (TreePost w f) := by
  have hA : After w ((w.alloc (.cells #[str [], .slice (some ⟨g, 0, none⟩) 2 q] 42)).alloc (.cells #[.string ⟨#[]⟩, .slice none 0 0] 42)) := (After.new _ _).alloc _
  have hres := heap_new2 w _ (.cells #[str [], .slice (some ⟨g, 0, none⟩) 2 q] 42) (.cells #[.string ⟨#[]⟩, .slice none 0 0] 42) rfl
  have hbox := heap_old2 w (.cells #[str [], .slice (some ⟨g, 0, none⟩) 2 q] 42) (.cells #[.string ⟨#[]⟩, .slice none 0 0] 42)
  have hcall := hu _ hA
  have hu0' : ((u : Int) == 0) = false := by rw [beq_eq_false_iff_ne]; omega
  have HRES := Lib.hid hres
  have HBOX := Lib.hid hbox
  have HH := Lib.hid (hA.heap hh)
  have HU2 := Lib.hid hu2
  have HF := Lib.hid (hf.later hA)
  clear hres hbox hu hf hh hu2 hu0
  go_enter Tryz.func60, Tryz.ntmps60
  go_wp2_with fail
  refine hcall.mono ?_
  rintro e w1 ⟨rfl, hb1⟩
  obtain ⟨k0, k1, _, _, l1⟩ := pair_facts HBOX.out hb1
  have g0 : w1.cell? ⟨g, 0, none⟩ = some (str s0) := cell_of_heap (hb1.heap HH.out)
  have g1 : w1.cell? ⟨g, 1, none⟩ = some (.slice a0 n0 c0) := cell_of_heap (hb1.heap HH.out)
  have g2 : w1.cell? ⟨g, 2, none⟩ = some (str x) := cell_of_heap (hb1.heap HH.out)
  have hcall2 := HU2.out _ (hA.trans hb1)
  clear hcall
  go_wp2_with fail
  refine hcall2.mono ?_
  rintro e w2 ⟨rfl, hb2⟩
  have hb12 := After.trans hb1 hb2
  clear k0 k1 g0 g1 g2 l1
  obtain ⟨k0, k1, _, _, l1⟩ := pair_facts HBOX.out hb12
  have g0 : w2.cell? ⟨g, 0, none⟩ = some (str s0) := cell_of_heap (hb12.heap HH.out)
  have g1 : w2.cell? ⟨g, 1, none⟩ = some (.slice a0 n0 c0) := cell_of_heap (hb12.heap HH.out)
  obtain ⟨z0, z1, z2, z3, l2⟩ := pair_facts HRES.out hb12
  clear hcall2
  go_wp2_with fail
  refine bodyPost_ret (v := .agg #[str s0, .slice a0 n0 c0]) (by simp [results, Tryz.results60, go_sem, z0, z1]) rfl
    ⟨s0, a0, n0, c0, rfl, Below.setCell (Below.setCell (hA.trans hb12) (by simp) _) (by simp) _, (HF.out.later hb12).sets2 (hb12.heap HRES.out)⟩

theorem abs_s (w : World) (x : List UInt8) (g q : Nat) (fr : Nat × Nat) (s0 s1 : List UInt8) (a0 a1 : Option Addr) (n0 c0 n1 c1 : Nat) (F A : Tm) (u u2 : Nat) (b : Bool) (hh : w.heap[g]? = some (.cells #[str s0, .slice a0 n0 c0, str s1, .slice a1 n1 c1] 42 fr)) (hx : ([] == x) = false) (hu0 : 0 < u) (hb : (s1 == x) = b) (hu20 : b = true → 0 < u2)
    (hu : ∀ W, After w W → Calls Tryz.prog 73 #[.agg #[str [], .slice (some ⟨g, 0, none⟩) 2 q], str x] W fun e w' => e = .returned (.int .i64 u) ∧ After W w')
    (hu2 : ∀ W, After w W → Calls Tryz.prog 73 #[.agg #[str s0, .slice a0 n0 c0], str x] W fun e w' => e = .returned (.int .i64 u2) ∧ After W w')
    (hrf : ∀ W, After w W → Calls Tryz.prog 60 #[str x, .agg #[str s0, .slice a0 n0 c0]] W (TreePost W F))
    (hra : ∀ W, After w W → Calls Tryz.prog 60 #[str x, .agg #[str s1, .slice a1 n1 c1]] W (TreePost W A)) :
    Calls Tryz.prog 60 #[str x, .agg #[str [], .slice (some ⟨g, 0, none⟩) 2 q]] w (TreePost w (.app (.app .s F) A)) := by
  have hA : After w ((w.alloc (.cells #[str [], .slice (some ⟨g, 0, none⟩) 2 q] 42)).alloc (.cells #[.string ⟨#[]⟩, .slice none 0 0] 42)) := (After.new _ _).alloc _
  have hres := heap_new2 w _ (.cells #[str [], .slice (some ⟨g, 0, none⟩) 2 q] 42) (.cells #[.string ⟨#[]⟩, .slice none 0 0] 42) rfl
  have hbox := heap_old2 w (.cells #[str [], .slice (some ⟨g, 0, none⟩) 2 q] 42) (.cells #[.string ⟨#[]⟩, .slice none 0 0] 42)
  have hcall := hu _ hA
  have hglt := (Array.getElem?_eq_some_iff.1 hh).1
  have hu0' : ((u : Int) == 0) = false := by rw [beq_eq_false_iff_ne]; omega
  have HRES := Lib.hid hres
  have HBOX := Lib.hid hbox
  have HH := Lib.hid (hA.heap hh)
  have HU2 := Lib.hid hu2
  have HU20 := Lib.hid hu20
  have HRF := Lib.hid hrf
  have HRA := Lib.hid hra
  clear hres hbox hu hh hu2 hu0 hu20 hrf hra
  cases b
  · go_enter Tryz.func60, Tryz.ntmps60
    go_wp2_with fail
    refine hcall.mono ?_
    rintro e Y ⟨rfl, hY⟩
    obtain ⟨k0, k1, _, _, l1⟩ := pair_facts HBOX.out hY
    have g2 : Y.cell? ⟨g, 2, none⟩ = some (str s1) := cell_of_heap (hY.heap HH.out)
    clear hcall
    go_wp2_with fail
    clear k0 k1 g2 l1
    have hwY := hA.trans hY
    have hgY := hY.heap HH.out
    have hbY := hY.heap HBOX.out
    have hrY := hY.heap HRES.out
    have o1 : ∀ W, ButFor Y (w.heap.size + 1) W → W.cell? ⟨w.heap.size, 1, none⟩ = some (.slice (some ⟨g, 0, none⟩) 2 q) := fun W hW => hW.cell (by omega) (cell_of_heap hbY)
    have q0 : ∀ W, ButFor Y (w.heap.size + 1) W → W.cell? ⟨g, 0, none⟩ = some (str s0) := fun W hW => hW.cell (by omega) (cell_of_heap hgY)
    have q1 : ∀ W, ButFor Y (w.heap.size + 1) W → W.cell? ⟨g, 1, none⟩ = some (.slice a0 n0 c0) := fun W hW => hW.cell (by omega) (cell_of_heap hgY)
    have q2 : ∀ W, ButFor Y (w.heap.size + 1) W → W.cell? ⟨g, 2, none⟩ = some (str s1) := fun W hW => hW.cell (by omega) (cell_of_heap hgY)
    have q3 : ∀ W, ButFor Y (w.heap.size + 1) W → W.cell? ⟨g, 3, none⟩ = some (.slice a1 n1 c1) := fun W hW => hW.cell (by omega) (cell_of_heap hgY)
    have hbf : ButFor Y (w.heap.size + 1) Y.drew := ⟨Nat.le_refl _, fun _ _ _ => rfl⟩
    have hself := After.refl Y
    have hzres : ∀ W, After Y W → W.cell? ⟨w.heap.size + 1, 0, none⟩ = some (.string ⟨#[]⟩) ∧ W.cell? ⟨w.heap.size + 1, 1, none⟩ = some (.slice none 0 0) ∧ W.frozen? ⟨w.heap.size + 1, 0, none⟩ = false ∧ W.frozen? ⟨w.heap.size + 1, 1, none⟩ = false := fun W hW => by
      obtain ⟨a1, a2, a3, a4, _⟩ := pair_facts hrY hW
      exact ⟨a1, a2, a3, a4⟩
    have HZ := Lib.hid hzres
    have HWY := Lib.hid hwY
    have HRY := Lib.hid hrY
    clear hzres hwY hgY hbY hrY hY hA HH HBOX HRES
    go_region_held3 (fun W' => ButFor Y (w.heap.size + 1) W') (first | assumption | exact hbf | exact After.butFor (by assumption) | exact ButFor.alloc (by assumption) _ | exact ButFor.set (ButFor.set (by assumption) _ _) _ _ | go_keep)
      (first
        | (go_at_call_of 60 a0; refine (HRF.out _ (HWY.out.trans hself.drew)).mono ?_; rintro e w3 ⟨t3, ao3, nn3, cc3, rfl, hbb3, hs3⟩; have hA3 := After.trans hself.drew hbb3)
        | (go_at_call_of 60 a1; refine (HRA.out _ (HWY.out.trans hA3)).mono ?_; rintro e w4 ⟨t4, ao4, nn4, cc4, rfl, hbb4, hs4⟩; have hA4 := After.trans hA3 hbb4; have hs3' := hs3.later hbb4)
        | (go_at_call 19; refine (s_app2 _ .s F A [115] t3 t4 none ao3 ao4 0 0 nn3 cc3 nn4 cc4 _ (0, 0) rfl ?_ ?_ ?_).mono ?_; exact hs3'.later (After.new _ _); exact hs4.later (After.new _ _); exact heap_new' _ _; rintro e w5 ⟨t5, ao5, nn5, cc5, rfl, hbb5, hs5⟩; have hA5 := After.trans (hA4.alloc _) hbb5; obtain ⟨z0, z1, z2, z3⟩ := HZ.out _ hA5))
    all_goals
      go_wp2_with fail
      refine bodyPost_ret (v := .agg #[str t5, .slice ao5 nn5 cc5]) (by simp [results, Tryz.results60, go_sem, z0, z1]) rfl ⟨t5, ao5, nn5, cc5, rfl, Below.setCell (Below.setCell (HWY.out.trans hA5) (by simp) _) (by simp) _, ?_⟩
      exact hs5.sets2 (hA5.heap HRY.out)
  · simp only [beq_iff_eq] at hb
    subst hb
    have hu2' : ((u2 : Int) == 0) = false := by rw [beq_eq_false_iff_ne]; have := HU20.out rfl; omega
    go_enter Tryz.func60, Tryz.ntmps60
    go_wp2_with fail
    refine hcall.mono ?_
    rintro e w1 ⟨rfl, hb1⟩
    obtain ⟨k0, k1, _, _, l1⟩ := pair_facts HBOX.out hb1
    have g0 : w1.cell? ⟨g, 0, none⟩ = some (str s0) := cell_of_heap (hb1.heap HH.out)
    have g1 : w1.cell? ⟨g, 1, none⟩ = some (.slice a0 n0 c0) := cell_of_heap (hb1.heap HH.out)
    have g2 : w1.cell? ⟨g, 2, none⟩ = some (str s1) := cell_of_heap (hb1.heap HH.out)
    have hcall2 := HU2.out _ (hA.trans hb1)
    clear hcall
    go_wp2_with fail
    refine hcall2.mono ?_
    rintro e Y ⟨rfl, hb2⟩
    have hY := After.trans hb1 hb2
    clear hcall2 k0 k1 g0 g1 g2 l1
    go_wp2_with fail
    have hwY := hA.trans hY
    have hgY := hY.heap HH.out
    have hbY := hY.heap HBOX.out
    have hrY := hY.heap HRES.out
    have o1 : ∀ W, ButFor Y (w.heap.size + 1) W → W.cell? ⟨w.heap.size, 1, none⟩ = some (.slice (some ⟨g, 0, none⟩) 2 q) := fun W hW => hW.cell (by omega) (cell_of_heap hbY)
    have q0 : ∀ W, ButFor Y (w.heap.size + 1) W → W.cell? ⟨g, 0, none⟩ = some (str s0) := fun W hW => hW.cell (by omega) (cell_of_heap hgY)
    have q1 : ∀ W, ButFor Y (w.heap.size + 1) W → W.cell? ⟨g, 1, none⟩ = some (.slice a0 n0 c0) := fun W hW => hW.cell (by omega) (cell_of_heap hgY)
    have q2 : ∀ W, ButFor Y (w.heap.size + 1) W → W.cell? ⟨g, 2, none⟩ = some (str s1) := fun W hW => hW.cell (by omega) (cell_of_heap hgY)
    have q3 : ∀ W, ButFor Y (w.heap.size + 1) W → W.cell? ⟨g, 3, none⟩ = some (.slice a1 n1 c1) := fun W hW => hW.cell (by omega) (cell_of_heap hgY)
    have hbf : ButFor Y (w.heap.size + 1) Y.drew := ⟨Nat.le_refl _, fun _ _ _ => rfl⟩
    have hself := After.refl Y
    have hzres : ∀ W, After Y W → W.cell? ⟨w.heap.size + 1, 0, none⟩ = some (.string ⟨#[]⟩) ∧ W.cell? ⟨w.heap.size + 1, 1, none⟩ = some (.slice none 0 0) ∧ W.frozen? ⟨w.heap.size + 1, 0, none⟩ = false ∧ W.frozen? ⟨w.heap.size + 1, 1, none⟩ = false := fun W hW => by
      obtain ⟨a1, a2, a3, a4, _⟩ := pair_facts hrY hW
      exact ⟨a1, a2, a3, a4⟩
    have HZ := Lib.hid hzres
    have HWY := Lib.hid hwY
    have HRY := Lib.hid hrY
    clear hzres hwY hgY hbY hrY hY hA HH HBOX HRES hb1 hb2
    go_region_held3 (fun W' => ButFor Y (w.heap.size + 1) W') (first | assumption | exact hbf | exact After.butFor (by assumption) | exact ButFor.alloc (by assumption) _ | exact ButFor.set (ButFor.set (by assumption) _ _) _ _ | go_keep)
      (first
        | (go_at_call_of 60 a0; refine (HRF.out _ (HWY.out.trans hself.drew)).mono ?_; rintro e w3 ⟨t3, ao3, nn3, cc3, rfl, hbb3, hs3⟩; have hA3 := After.trans hself.drew hbb3)
        | (go_at_call_of 60 a1; refine (HRA.out _ (HWY.out.trans hA3)).mono ?_; rintro e w4 ⟨t4, ao4, nn4, cc4, rfl, hbb4, hs4⟩; have hA4 := After.trans hA3 hbb4; have hs3' := hs3.later hbb4)
        | (go_at_call 19; refine (s_app2 _ .s F A [115] t3 t4 none ao3 ao4 0 0 nn3 cc3 nn4 cc4 _ (0, 0) rfl ?_ ?_ ?_).mono ?_; exact hs3'.later (After.new _ _); exact hs4.later (After.new _ _); exact heap_new' _ _; rintro e w5 ⟨t5, ao5, nn5, cc5, rfl, hbb5, hs5⟩; have hA5 := After.trans (hA4.alloc _) hbb5; obtain ⟨z0, z1, z2, z3⟩ := HZ.out _ hA5))
    all_goals
      go_wp2_with fail
      refine bodyPost_ret (v := .agg #[str t5, .slice ao5 nn5 cc5]) (by simp [results, Tryz.results60, go_sem, z0, z1]) rfl ⟨t5, ao5, nn5, cc5, rfl, Below.setCell (Below.setCell (HWY.out.trans hA5) (by simp) _) (by simp) _, ?_⟩
      exact hs5.sets2 (hA5.heap HRY.out)

theorem nm_eq {w : World} {a : Tm} {s : List UInt8} {y : Value} (x : List UInt8) (h : ST w a (.agg #[str s, y])) (hx : ([] == x) = false) (hk : ([107] == x) = false) (hs : ([115] == x) = false) : (s == x) = a.isNm x := by
  cases a with
  | app f a => obtain ⟨rfl, _⟩ := app_form h; rw [hx]; rfl
  | k => obtain rfl := atom_form h rfl; simp only [Tm.text]; rw [hk]; rfl
  | s => obtain rfl := atom_form h rfl; simp only [Tm.text]; rw [hs]; rfl
  | nm n => obtain rfl := atom_form h rfl; rfl

theorem ST.abs {t : Tm} (x : List UInt8) (hx : ([] == x) = false) (hk : ([107] == x) = false) (hs : ([115] == x) = false) : ∀ {w : World} {v : Value}, ST w t v → t.Plain → t.size ≤ 1000000000 → Calls Tryz.prog 60 #[str x, v] w (TreePost w (t.abs x)) := by
  induction t with
  | k => intro w v h hp hz; have hu := fun W (hW : After w W) => (h.later hW).usesG x hk hs hp hz; simp only [ST] at h; subst h; exact abs_k w x _ none 0 0 .k rfl hk hu
  | s => intro w v h hp hz; have hu := fun W (hW : After w W) => (h.later hW).usesG x hk hs hp hz; simp only [ST] at h; subst h; exact abs_k w x _ none 0 0 .s rfl hs hu
  | nm n =>
    intro w v h hp hz
    have hu := fun W (hW : After w W) => (h.later hW).usesG x hk hs hp hz
    simp only [ST] at h
    subst h
    by_cases hn : n = x
    · subst hn
      rw [show (Tm.nm n).abs n = Tm.I by simp [Tm.abs]]
      exact abs_i w n none 0 0
    · rw [show (Tm.nm n).abs x = .app .k (.nm n) by simp [Tm.abs, hn]]
      have hu0 : (Tm.nm n).uses x = 0 := by simp [Tm.uses, hn]
      rw [hu0] at hu
      exact abs_k w x n none 0 0 (.nm n) rfl (beq_eq_false_iff_ne.2 hn) hu
  | app f a ihf iha =>
    intro w v h hp hz
    have hu := fun W (hW : After w W) => (h.later hW).usesG x hk hs hp hz
    have h' := h
    obtain ⟨g, cap, fr, s0, p0, s1, p1, rfl, hh, hf, ha⟩ := h
    simp only [Tm.size] at hz
    obtain ⟨x0, a0, n0, c0, rfl, rfl⟩ := parts_form hf
    obtain ⟨x1, a1, n1, c1, rfl, rfl⟩ := parts_form ha
    by_cases h0 : (f.app a).uses x = 0
    · rw [show (f.app a).abs x = .app .k (f.app a) by simp only [Tm.abs, h0, if_true]]
      rw [h0] at hu
      exact abs_k w x [] (some ⟨g, 0, none⟩) 2 cap _ h' hx hu
    · have hu2 := fun W (hW : After w W) => (hf.later hW).usesG x hk hs hp.1 (by omega)
      have hb := nm_eq x ha hx hk hs
      by_cases hend : a.isNm x = true ∧ f.uses x = 0
      · rw [show (f.app a).abs x = f by simp only [Tm.abs, if_neg h0, if_pos hend]]
        rw [hend.1, beq_iff_eq] at hb
        subst hb
        rw [hend.2] at hu2
        exact abs_end w x1 g cap fr x0 a0 a1 n0 c0 n1 c1 f _ hh hf hx (Nat.pos_of_ne_zero h0) hu hu2
      · rw [show (f.app a).abs x = .app (.app .s (f.abs x)) (a.abs x) by simp only [Tm.abs, if_neg h0, if_neg hend]]
        exact abs_s w x g cap fr x0 x1 a0 a1 n0 c0 n1 c1 (f.abs x) (a.abs x) _ _ (a.isNm x) hh hx (Nat.pos_of_ne_zero h0) hb (fun h => Nat.pos_of_ne_zero fun h2 => hend ⟨h, h2⟩) hu hu2
          (fun W hW => ihf (hf.later hW) hp.1 (by omega)) (fun W hW => iha (ha.later hW) hp.2 (by omega))
end Go.Proofs.YtfpekihdoclncaaGreat

namespace Go.Proofs.YtfpekihdoclncaaGreat
open Go.RowKit

set_option maxHeartbeats 2000000
set_option maxRecDepth 100000

namespace Tm
theorem abs_none (x : List UInt8) (t : Tm) (h : uses x t = 0) : abs x t = app k t := by
  cases t with
  | nm n => simp only [uses] at h; split at h; · simp at h
            rename_i hn; simp [abs, hn]
  | app f a => simp only [abs, h, if_true]
  | k => rfl
  | s => rfl
theorem isNm_uses (x : List UInt8) (t : Tm) (h : uses x t = 0) : isNm x t = false := by
  cases t with
  | nm n => simp only [uses] at h; split at h; · simp at h
            rename_i hn; simp [isNm, hn]
  | _ => rfl
theorem pair_abs (x : List UInt8) (a b : Tm) (ha : uses x a = 0) (hb : uses x b = 0) : abs x (app (app (nm x) a) b) = pair a b := by
  have h1 : uses x (app (app (nm x) a) b) = 1 := by simp [uses, ha, hb]
  have h2 : uses x (app (nm x) a) = 1 := by simp [uses, ha]
  rw [abs, h1, if_neg (by decide), isNm_uses x b hb, if_neg (by simp), abs_none x b hb, abs, h2, if_neg (by decide), isNm_uses x a ha, if_neg (by simp), abs_none x a ha]
  simp [abs, pair]
theorem uses_bad (x : List UInt8) (hx : nameOk x = false) : ∀ {t : Tm}, good t = true → uses x t = 0
  | nm n, h => by
    simp only [uses]
    split
    · rename_i hn; subst hn; simp only [good] at h; rw [hx] at h; simp at h
    · rfl
  | app f a, h => by simp only [good, Bool.and_eq_true] at h; simp only [uses, uses_bad x hx h.1, uses_bad x hx h.2]
  | k, _ => rfl
  | s, _ => rfl
end Tm

theorem s_nm (w : World) (x : List UInt8) : Calls Tryz.prog 41 #[str x] w fun e w' => e = .returned (.agg #[str x, .slice none 0 0]) ∧ After w w' := by
  have hA := After.new w (.cells #[str x, .slice none 0 0] 42)
  go_enter Tryz.func41, Tryz.ntmps41
  go_wp2_with fail
  exact bodyPost_ret (v := .agg #[str x, .slice none 0 0]) (by simp [results, Tryz.results41, go_sem]) rfl ⟨rfl, hA⟩

def SNumOne (w : World) (r : Option (List UInt8)) (e : Ending) (w' : World) : Prop :=
  e = .returned (.tuple #[str (r.getD []), .bool r.isSome]) ∧ After w w'

end Go.Proofs.YtfpekihdoclncaaGreat
