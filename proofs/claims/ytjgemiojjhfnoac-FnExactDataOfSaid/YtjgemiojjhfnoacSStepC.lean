/-
  The model's steps of an application.
-/
import Derived.Test.YtjgemiojjhfnoacSStepB
namespace Go.Proofs.Ytjgemiojjhfnoac
open Go.RowKit

set_option maxHeartbeats 4000000
set_option maxRecDepth 100000

theorem step_fun (w : World) (f a : Tm) (g1 q1 : Nat) (x1 y1 : List UInt8) (a1 b1 : Option Addr) (n1 c1 m1 d1 : Nat) (fr : Nat × Nat) (hh : w.heap[g1]? = some (.cells #[str x1, .slice a1 n1 c1, str y1, .slice b1 m1 d1] 41 fr))
    (hf : ST w f (.agg #[str x1, .slice a1 n1 c1])) (ha : ST w a (.agg #[str y1, .slice b1 m1 d1])) (hg : (f.app a).good = true) (hr : (f.app a).redex = none)
    (ihf : ∀ W, After w W → Calls Try.prog 84 #[.agg #[str x1, .slice a1 n1 c1]] W (SStepPost W f)) (u : Tm) (hu : f.step = some u) :
    Calls Try.prog 84 #[.agg #[str [], .slice (some ⟨g1, 0, none⟩) 2 q1]] w (SStepPost w (f.app a)) := by
  have hs : (f.app a).step = some (u.app a) := by simp [Tm.step, hr, hu]
  have H := Lib.hid hs
  have HU := Lib.hid hu
  have hsome : f.step.isSome = true := by rw [hu]; rfl
  clear hs hu
  have hX : After w ((w.alloc (.cells #[str [], .slice (some ⟨g1, 0, none⟩) 2 q1] 41)).alloc (.cells #[.string ⟨#[]⟩, .slice none 0 0] 41)) := (After.new _ _).alloc _
  have htree : ST w (f.app a) (.agg #[str [], .slice (some ⟨g1, 0, none⟩) 2 q1]) := ⟨g1, q1, fr, _, _, _, _, rfl, hh, hf, ha⟩
  have hcall := s_redex (htree.later hX) hg
  rw [hr] at hcall
  have HX := Lib.hid hX
  have HF := Lib.hid hf
  have HA := Lib.hid ha
  have HH := Lib.hid hh
  have hlt := (Array.getElem?_eq_some_iff.1 hh).1
  clear hr hX htree hf ha
  go_enter Try.func84, Try.ntmps84
  go_wp2_with fail
  refine hcall.mono ?_
  rintro e w1 ⟨s1, ao1, nn1, cc1, rfl, hb1, ht1⟩
  clear ht1 hcall
  obtain ⟨p0, p1, _, _, hz⟩ := box_facts w _ _ _ w1 hb1
  have hz2 : w.heap.size < w1.heap.size := by omega
  have hw1 := HX.out.trans hb1
  have k0 : w1.cell? ⟨g1, 0, none⟩ = some (str x1) := cell_of_heap (hw1.heap hh)
  have k1 : w1.cell? ⟨g1, 1, none⟩ = some (.slice a1 n1 c1) := cell_of_heap (hw1.heap hh)
  have hlt1 : g1 < w1.heap.size := by omega
  clear hh
  go_wp2_with fail
  refine (ihf _ (hw1.alloc _)).mono ?_
  rintro e w2 ⟨s2, ao2, nn2, cc2, rfl, hb2, ht2⟩
  have HT2 := Lib.hid ht2
  have hb12 := (After.alloc hb1 (.cells #[str s1, .slice ao1 nn1 cc1] 41)).trans hb2
  have hw2 := HX.out.trans hb12
  clear ht2 p0 p1 hz2 k0 k1 hlt1 hz
  obtain ⟨p0, p1, _, _, hz⟩ := box_facts w _ _ _ w2 hb12
  have hz2 : w.heap.size < w2.heap.size := by omega
  go_wp2_with fail
  obtain ⟨X, hX⟩ : ∃ X, X = w2.alloc (.cells #[str s2, .slice ao2 nn2 cc2] 41) := ⟨_, rfl⟩
  have h2X : After w2 X := by rw [hX]; exact After.new _ _
  have hwX := hw2.trans h2X
  have hRX := (box_facts2 w _ _ _ X (hb12.trans h2X)).1
  have hBX : X.heap[w2.heap.size]? = some (.cells #[str s2, .slice ao2 nn2 cc2] 41 (0, 0)) := by rw [hX]; exact heap_new' _ _
  have hTX := (box_facts w _ _ _ X (hb12.trans h2X))
  have hne : w2.heap.size ≠ w.heap.size + 1 := by omega
  have hne2 : g1 ≠ w.heap.size + 1 := by omega
  have o1 : ∀ W, ButFor X (w.heap.size + 1) W → W.cell? ⟨w2.heap.size, 0, none⟩ = some (str s2) := fun W hW => hW.cell hne (cell_of_heap hBX)
  have o2 : ∀ W, ButFor X (w.heap.size + 1) W → W.cell? ⟨w2.heap.size, 1, none⟩ = some (.slice ao2 nn2 cc2) := fun W hW => hW.cell hne (cell_of_heap hBX)
  have o3 : ∀ W, ButFor X (w.heap.size + 1) W → W.cell? ⟨w.heap.size, 1, none⟩ = some (.slice (some ⟨g1, 0, none⟩) 2 q1) := fun W hW => hW.cell (by omega) hTX.2.1
  have o4 : ∀ W, ButFor X (w.heap.size + 1) W → W.cell? ⟨g1, 2, none⟩ = some (str y1) := fun W hW => hW.cell hne2 (cell_of_heap (hwX.heap HH.out))
  have o5 : ∀ W, ButFor X (w.heap.size + 1) W → W.cell? ⟨g1, 3, none⟩ = some (.slice b1 m1 d1) := fun W hW => hW.cell hne2 (cell_of_heap (hwX.heap HH.out))
  have hself := After.refl X
  have hbf : ButFor X (w.heap.size + 1) X.drew := ⟨Nat.le_refl _, fun _ _ _ => rfl⟩
  have hres : ∀ W, After X W → W.cell? ⟨w.heap.size + 1, 0, none⟩ = some (.string ⟨#[]⟩) ∧ W.cell? ⟨w.heap.size + 1, 1, none⟩ = some (.slice none 0 0) ∧ W.frozen? ⟨w.heap.size + 1, 0, none⟩ = false ∧ W.frozen? ⟨w.heap.size + 1, 1, none⟩ = false := fun W hW => by
    have hh := hW.heap hRX
    exact ⟨cell_of_heap hh, cell_of_heap hh, by simp [World.frozen?, hh], by simp [World.frozen?, hh]⟩
  rw [← hX]
  have HUX : Hid (ST X u (.agg #[str s2, .slice ao2 nn2 cc2])) := by
    have := HT2.out.later h2X
    rw [HU.out] at this
    exact this
  have HAX := Lib.hid (HA.out.later hwX)
  have HRES := Lib.hid hres
  have HWX := Lib.hid hwX
  have HRX := Lib.hid hRX
  clear hres hRX hBX hTX hwX hX p0 p1 hz hz2 hw1 hw2 hb12 h2X hb1 hb2
  go_region_held3 (fun W' => ButFor X (w.heap.size + 1) W') (first | assumption | exact hbf | exact After.butFor (by assumption) | exact ButFor.alloc (by assumption) _ | exact ButFor.set (ButFor.set (by assumption) _ _) _ _ | go_keep)
    (first | (go_at_call 39; refine (s_app _ u a s2 y1 ao2 b1 nn2 cc2 m1 d1 _ (0, 0) ?_ ?_ ?_).mono ?_; exact HUX.out.later (hself.alloc _).drew; exact HAX.out.later (hself.alloc _).drew; exact heap_new' _ _; rintro e w3 ⟨t3, ao3, nn3, cc3, rfl, hb3, hs3⟩; have hA3 := After.trans (hself.alloc _).drew hb3; obtain ⟨q0, q1, q2, q3⟩ := HRES.out _ hA3))
  all_goals
    go_wp2_with fail
    refine bodyPost_ret (v := .tuple #[.agg #[str t3, .slice ao3 nn3 cc3], .bool true]) (by simp [results, Try.results84, go_sem, q0, q1]) rfl ⟨t3, ao3, nn3, cc3, by rw [H.out]; rfl, Below.setCell (Below.setCell (HWX.out.trans hA3) (by simp) _) (by simp) _, ?_⟩
    rw [H.out]
    exact hs3.sets2 (hA3.heap HRX.out)

theorem step_arg (w : World) (f a : Tm) (g1 q1 : Nat) (x1 y1 : List UInt8) (a1 b1 : Option Addr) (n1 c1 m1 d1 : Nat) (fr : Nat × Nat) (hh : w.heap[g1]? = some (.cells #[str x1, .slice a1 n1 c1, str y1, .slice b1 m1 d1] 41 fr))
    (hf : ST w f (.agg #[str x1, .slice a1 n1 c1])) (ha : ST w a (.agg #[str y1, .slice b1 m1 d1])) (hg : (f.app a).good = true) (hr : (f.app a).redex = none)
    (ihf : ∀ W, After w W → Calls Try.prog 84 #[.agg #[str x1, .slice a1 n1 c1]] W (SStepPost W f)) (hu : f.step = none) (iha : ∀ W, After w W → Calls Try.prog 84 #[.agg #[str y1, .slice b1 m1 d1]] W (SStepPost W a)) :
    Calls Try.prog 84 #[.agg #[str [], .slice (some ⟨g1, 0, none⟩) 2 q1]] w (SStepPost w (f.app a)) := by
  have hs1 : (f.app a).step.isSome = a.step.isSome := by cases h : a.step <;> simp [Tm.step, hr, hu, h]
  have hs2 : (f.app a).step.getD (f.app a) = f.app (a.step.getD a) := by cases h : a.step <;> simp [Tm.step, hr, hu, h]
  have H1 := Lib.hid hs1
  have H2 := Lib.hid hs2
  have hsome : f.step.isSome = false := by rw [hu]; rfl
  clear hs1 hs2 hu
  have hX : After w ((w.alloc (.cells #[str [], .slice (some ⟨g1, 0, none⟩) 2 q1] 41)).alloc (.cells #[.string ⟨#[]⟩, .slice none 0 0] 41)) := (After.new _ _).alloc _
  have htree : ST w (f.app a) (.agg #[str [], .slice (some ⟨g1, 0, none⟩) 2 q1]) := ⟨g1, q1, fr, _, _, _, _, rfl, hh, hf, ha⟩
  have hcall := s_redex (htree.later hX) hg
  rw [hr] at hcall
  have HX := Lib.hid hX
  have HF := Lib.hid hf
  have HA := Lib.hid ha
  have HH := Lib.hid hh
  have hlt := (Array.getElem?_eq_some_iff.1 hh).1
  clear hr hX htree hf ha
  go_enter Try.func84, Try.ntmps84
  go_wp2_with fail
  refine hcall.mono ?_
  rintro e w1 ⟨s1, ao1, nn1, cc1, rfl, hb1, ht1⟩
  clear ht1 hcall
  obtain ⟨p0, p1, _, _, hz⟩ := box_facts w _ _ _ w1 hb1
  have hz2 : w.heap.size < w1.heap.size := by omega
  have hw1 := HX.out.trans hb1
  have k0 : w1.cell? ⟨g1, 0, none⟩ = some (str x1) := cell_of_heap (hw1.heap hh)
  have k1 : w1.cell? ⟨g1, 1, none⟩ = some (.slice a1 n1 c1) := cell_of_heap (hw1.heap hh)
  have hlt1 : g1 < w1.heap.size := by omega
  clear hh
  go_wp2_with fail
  refine (ihf _ (hw1.alloc _)).mono ?_
  rintro e w2 ⟨s2, ao2, nn2, cc2, rfl, hb2, ht2⟩
  have HT2 := Lib.hid ht2
  have hb12 := (After.alloc hb1 (.cells #[str s1, .slice ao1 nn1 cc1] 41)).trans hb2
  have hw2 := HX.out.trans hb12
  clear ht2 p0 p1 hz2 k0 k1 hlt1 hz
  clear HT2
  obtain ⟨p0, p1, _, _, hz⟩ := box_facts w _ _ _ w2 hb12
  have hz2 : w.heap.size < w2.heap.size := by omega
  have k2 : w2.cell? ⟨g1, 2, none⟩ = some (str y1) := cell_of_heap (hw2.heap HH.out)
  have k3 : w2.cell? ⟨g1, 3, none⟩ = some (.slice b1 m1 d1) := cell_of_heap (hw2.heap HH.out)
  have hlt1 : g1 < w2.heap.size := by omega
  go_wp2_with fail
  refine (iha _ (hw2.alloc _)).mono ?_
  rintro e w3 ⟨s3, ao3, nn3, cc3, rfl, hb3, ht3⟩
  have HT3 := Lib.hid ht3
  have hb13 := (After.alloc hb12 (.cells #[str s2, .slice ao2 nn2 cc2] 41)).trans hb3
  have hw3 := HX.out.trans hb13
  clear ht3 p0 p1 hz2 k2 k3 hlt1 hz
  obtain ⟨p0, p1, _, _, hz⟩ := box_facts w _ _ _ w3 hb13
  have hz2 : w.heap.size < w3.heap.size := by omega
  obtain ⟨gd, hgd⟩ : ∃ b, b = a.step.isSome := ⟨_, rfl⟩
  rw [← hgd]
  have HGD := Lib.hid hgd
  clear hgd
  go_wp2_with fail
  obtain ⟨X, hX⟩ : ∃ X, X = w3.alloc (.cells #[str s3, .slice ao3 nn3 cc3] 41) := ⟨_, rfl⟩
  have h3X : After w3 X := by rw [hX]; exact After.new _ _
  have hwX := hw3.trans h3X
  have hRX := (box_facts2 w _ _ _ X (hb13.trans h3X)).1
  have hBX : X.heap[w3.heap.size]? = some (.cells #[str s3, .slice ao3 nn3 cc3] 41 (0, 0)) := by rw [hX]; exact heap_new' _ _
  have hTX := (box_facts w _ _ _ X (hb13.trans h3X))
  have hne : w3.heap.size ≠ w.heap.size + 1 := by omega
  have hne2 : g1 ≠ w.heap.size + 1 := by omega
  have o1 : ∀ W, ButFor X (w.heap.size + 1) W → W.cell? ⟨w3.heap.size, 0, none⟩ = some (str s3) := fun W hW => hW.cell hne (cell_of_heap hBX)
  have o2 : ∀ W, ButFor X (w.heap.size + 1) W → W.cell? ⟨w3.heap.size, 1, none⟩ = some (.slice ao3 nn3 cc3) := fun W hW => hW.cell hne (cell_of_heap hBX)
  have o3 : ∀ W, ButFor X (w.heap.size + 1) W → W.cell? ⟨w.heap.size, 1, none⟩ = some (.slice (some ⟨g1, 0, none⟩) 2 q1) := fun W hW => hW.cell (by omega) hTX.2.1
  have o4 : ∀ W, ButFor X (w.heap.size + 1) W → W.cell? ⟨g1, 0, none⟩ = some (str x1) := fun W hW => hW.cell hne2 (cell_of_heap (hwX.heap HH.out))
  have o5 : ∀ W, ButFor X (w.heap.size + 1) W → W.cell? ⟨g1, 1, none⟩ = some (.slice a1 n1 c1) := fun W hW => hW.cell hne2 (cell_of_heap (hwX.heap HH.out))
  have hself := After.refl X
  have hbf : ButFor X (w.heap.size + 1) X.drew := ⟨Nat.le_refl _, fun _ _ _ => rfl⟩
  have hres : ∀ W, After X W → W.cell? ⟨w.heap.size + 1, 0, none⟩ = some (.string ⟨#[]⟩) ∧ W.cell? ⟨w.heap.size + 1, 1, none⟩ = some (.slice none 0 0) ∧ W.frozen? ⟨w.heap.size + 1, 0, none⟩ = false ∧ W.frozen? ⟨w.heap.size + 1, 1, none⟩ = false := fun W hW => by
    have hh := hW.heap hRX
    exact ⟨cell_of_heap hh, cell_of_heap hh, by simp [World.frozen?, hh], by simp [World.frozen?, hh]⟩
  rw [← hX]
  have HUX := Lib.hid (HT3.out.later h3X)
  have HFX := Lib.hid (HF.out.later hwX)
  have HRES := Lib.hid hres
  have HWX := Lib.hid hwX
  have HRX := Lib.hid hRX
  clear hres hRX hBX hTX hwX hX p0 p1 hz hz2 hw1 hw2 hw3 hb12 hb13 h3X hb1 hb2 hb3
  go_region_held3 (fun W' => ButFor X (w.heap.size + 1) W') (first | assumption | exact hbf | exact After.butFor (by assumption) | exact ButFor.alloc (by assumption) _ | exact ButFor.set (ButFor.set (by assumption) _ _) _ _ | go_keep)
    (first | (go_at_call 39; refine (s_app _ f (a.step.getD a) x1 s3 a1 ao3 n1 c1 nn3 cc3 _ (0, 0) ?_ ?_ ?_).mono ?_; exact HFX.out.later (hself.alloc _).drew; exact HUX.out.later (hself.alloc _).drew; exact heap_new' _ _; rintro e w4 ⟨t4, ao4, nn4, cc4, rfl, hb4, hs4⟩; have hA4 := After.trans (hself.alloc _).drew hb4; obtain ⟨q0, q1, q2, q3⟩ := HRES.out _ hA4))
  all_goals
    go_wp2_with fail
    refine bodyPost_ret (v := .tuple #[.agg #[str t4, .slice ao4 nn4 cc4], .bool gd]) (by simp [results, Try.results84, go_sem, q0, q1]) rfl ⟨t4, ao4, nn4, cc4, by rw [H1.out, HGD.out], Below.setCell (Below.setCell (HWX.out.trans hA4) (by simp) _) (by simp) _, ?_⟩
    rw [H2.out]
    exact hs4.sets2 (hA4.heap HRX.out)

theorem s_step {t : Tm} : ∀ {w : World} {v : Value}, ST w t v → t.good = true → Calls Try.prog 84 #[v] w (SStepPost w t) := by
  induction t with
  | k => intro w v h hg; obtain ⟨x, ao, n, c, rfl⟩ := h.form; exact step_atom w _ x ao n c h hg rfl
  | s => intro w v h hg; obtain ⟨x, ao, n, c, rfl⟩ := h.form; exact step_atom w _ x ao n c h hg rfl
  | nm m => intro w v h hg; obtain ⟨x, ao, n, c, rfl⟩ := h.form; exact step_atom w _ x ao n c h hg rfl
  | app f a ihf iha =>
    intro w v h hg
    cases hr : (f.app a).redex with
    | some u =>
      obtain ⟨x, ao, n, c, rfl⟩ := h.form
      exact step_redex w _ u x ao n c h hg hr (by simp [Tm.step, hr])
    | none =>
      obtain ⟨g1, q1, fr, s0, p0, s1, p1, rfl, hh, hf, ha⟩ := h
      obtain ⟨x1, a1, n1, c1, rfl, rfl⟩ := parts_form hf
      obtain ⟨y1, b1, m1, d1, rfl, rfl⟩ := parts_form ha
      have hg' := hg
      simp only [Tm.good, Bool.and_eq_true] at hg'
      cases hfs : f.step with
      | some u => exact step_fun w f a g1 q1 x1 y1 a1 b1 n1 c1 m1 d1 fr hh hf ha hg hr (fun W hW => ihf (hf.later hW) hg'.1) u hfs
      | none => exact step_arg w f a g1 q1 x1 y1 a1 b1 n1 c1 m1 d1 fr hh hf ha hg hr (fun W hW => ihf (hf.later hW) hg'.1) hfs (fun W hW => iha (ha.later hW) hg'.2)
end Go.Proofs.Ytjgemiojjhfnoac
