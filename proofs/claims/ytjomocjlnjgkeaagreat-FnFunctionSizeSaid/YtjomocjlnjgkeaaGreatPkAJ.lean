/-
  The model's steps of an application.
-/
import Derived.Test.YtjomocjlnjgkeaaGreatPkAI
import Derived.Test.YtjomocjlnjgkeaaGreatPkAC
import Derived.Test.YtjomocjlnjgkeaaGreatPkAF
namespace Go.Proofs.YtjomocjlnjgkeaaGreat
open Go.RowKit

set_option maxHeartbeats 4000000
set_option maxRecDepth 100000

theorem step_fun (w : World) (f a : Tm) (g1 q1 : Nat) (x1 y1 : List UInt8) (a1 b1 : Option Addr) (n1 c1 m1 d1 : Nat) (fr : Nat × Nat) (hh : w.heap[g1]? = some (.cells #[str x1, .slice a1 n1 c1, str y1, .slice b1 m1 d1] 49 fr))
    (hf : ST w f (.agg #[str x1, .slice a1 n1 c1])) (ha : ST w a (.agg #[str y1, .slice b1 m1 d1])) (hg : (f.app a).good = true) (hr : (f.app a).redex = none)
    (ihf : ∀ W, After w W → Calls Tryz.prog 89 #[.agg #[str x1, .slice a1 n1 c1]] W (SStepPost W f)) (u : Tm) (hu : f.step = some u) :
    Calls Tryz.prog 89 #[.agg #[str [], .slice (some ⟨g1, 0, none⟩) 2 q1]] w (SStepPost w (f.app a)) := by
  have hs : (f.app a).step = some (u.app a) := by simp [Tm.step, hr, hu]
  have H := Lib.hid hs
  have HU := Lib.hid hu
  have hsome : f.step.isSome = true := by rw [hu]; rfl
  clear hs hu
  have hX : After w ((w.alloc (.cells #[str [], .slice (some ⟨g1, 0, none⟩) 2 q1] 49)).alloc (.cells #[.string ⟨#[]⟩, .slice none 0 0] 49)) := (After.new _ _).alloc _
  have htree : ST w (f.app a) (.agg #[str [], .slice (some ⟨g1, 0, none⟩) 2 q1]) := ⟨g1, q1, fr, _, _, _, _, rfl, hh, hf, ha⟩
  have hcall := s_redex (htree.later hX) hg
  rw [hr] at hcall
  have HX := Lib.hid hX
  have HF := Lib.hid hf
  have HA := Lib.hid ha
  have HH := Lib.hid hh
  have hlt := (Array.getElem?_eq_some_iff.1 hh).1
  clear hr hX htree hf ha
  go_enter Tryz.func89, Tryz.ntmps89
  go_wp2_with fail
  refine hcall.mono ?_
  rintro e w1 ⟨s1, ao1, nn1, cc1, rfl, hb1, ht1⟩
  clear ht1 hcall
  obtain ⟨p0, p1, _, _, hz⟩ := box_facts w _ _ _ w1 hb1
  have hz2 : w.heap.size < w1.heap.size := by omega
  have hw1 := HX.out.trans hb1
  have k0 : w1.cell? ⟨g1, 0, none⟩ = some (str x1) := cell_of_heap (hw1.heap hh)
  have k1 : w1.cell? ⟨g1, 1, none⟩ = some (.slice a1 n1 c1) := cell_of_heap (hw1.heap hh)
  have hlt1 : g1 < w1.heap.size := by omega
  clear hh
  go_wp2_with fail
  refine (ihf _ (hw1.alloc _)).mono ?_
  rintro e w2 ⟨s2, ao2, nn2, cc2, rfl, hb2, ht2⟩
  have HT2 := Lib.hid ht2
  have hb12 := (After.alloc hb1 (.cells #[str s1, .slice ao1 nn1 cc1] 49)).trans hb2
  have hw2 := HX.out.trans hb12
  clear ht2 p0 p1 hz2 k0 k1 hlt1 hz
  obtain ⟨p0, p1, _, _, hz⟩ := box_facts w _ _ _ w2 hb12
  have hz2 : w.heap.size < w2.heap.size := by omega
  go_wp2_with fail
  obtain ⟨X, hX⟩ : ∃ X, X = w2.alloc (.cells #[str s2, .slice ao2 nn2 cc2] 49) := ⟨_, rfl⟩
  have h2X : After w2 X := by rw [hX]; exact After.new _ _
  have hwX := hw2.trans h2X
  have hRX := (box_facts2 w _ _ _ X (hb12.trans h2X)).1
  have hBX : X.heap[w2.heap.size]? = some (.cells #[str s2, .slice ao2 nn2 cc2] 49 (0, 0)) := by rw [hX]; exact heap_new' _ _
  have hTX := (box_facts w _ _ _ X (hb12.trans h2X))
  have hne : w2.heap.size ≠ w.heap.size + 1 := by omega
  have hne2 : g1 ≠ w.heap.size + 1 := by omega
  have o1 : ∀ W, ButFor X (w.heap.size + 1) W → W.cell? ⟨w2.heap.size, 0, none⟩ = some (str s2) := fun W hW => hW.cell hne (cell_of_heap hBX)
  have o2 : ∀ W, ButFor X (w.heap.size + 1) W → W.cell? ⟨w2.heap.size, 1, none⟩ = some (.slice ao2 nn2 cc2) := fun W hW => hW.cell hne (cell_of_heap hBX)
  have o3 : ∀ W, ButFor X (w.heap.size + 1) W → W.cell? ⟨w.heap.size, 1, none⟩ = some (.slice (some ⟨g1, 0, none⟩) 2 q1) := fun W hW => hW.cell (by omega) hTX.2.1
  have o4 : ∀ W, ButFor X (w.heap.size + 1) W → W.cell? ⟨g1, 2, none⟩ = some (str y1) := fun W hW => hW.cell hne2 (cell_of_heap (hwX.heap HH.out))
  have o5 : ∀ W, ButFor X (w.heap.size + 1) W → W.cell? ⟨g1, 3, none⟩ = some (.slice b1 m1 d1) := fun W hW => hW.cell hne2 (cell_of_heap (hwX.heap HH.out))
  have hself := After.refl X
  have hbf : ButFor X (w.heap.size + 1) X.drew := ⟨Nat.le_refl _, fun _ _ _ => rfl⟩
  have hres : ∀ W, After X W → W.cell? ⟨w.heap.size + 1, 0, none⟩ = some (.string ⟨#[]⟩) ∧ W.cell? ⟨w.heap.size + 1, 1, none⟩ = some (.slice none 0 0) ∧ W.frozen? ⟨w.heap.size + 1, 0, none⟩ = false ∧ W.frozen? ⟨w.heap.size + 1, 1, none⟩ = false := fun W hW => by
    have hh := hW.heap hRX
    exact ⟨cell_of_heap hh, cell_of_heap hh, by simp [World.frozen?, hh], by simp [World.frozen?, hh]⟩
  rw [← hX]
  have HUX : Hid (ST X u (.agg #[str s2, .slice ao2 nn2 cc2])) := by
    have := HT2.out.later h2X
    rw [HU.out] at this
    exact this
  have HAX := Lib.hid (HA.out.later hwX)
  have HRES := Lib.hid hres
  have HWX := Lib.hid hwX
  have HRX := Lib.hid hRX
  clear hres hRX hBX hTX hwX hX p0 p1 hz hz2 hw1 hw2 hb12 h2X hb1 hb2
  go_region_held3 (fun W' => ButFor X (w.heap.size + 1) W') (first | assumption | exact hbf | exact After.butFor (by assumption) | exact ButFor.alloc (by assumption) _ | exact ButFor.set (ButFor.set (by assumption) _ _) _ _ | go_keep)
    (first | (go_at_call 77; refine (s_app _ u a s2 y1 ao2 b1 nn2 cc2 m1 d1 _ (0, 0) ?_ ?_ ?_).mono ?_; exact HUX.out.later (hself.alloc _).drew; exact HAX.out.later (hself.alloc _).drew; exact heap_new' _ _; rintro e w3 ⟨t3, ao3, nn3, cc3, rfl, hb3, hs3⟩; have hA3 := After.trans (hself.alloc _).drew hb3; obtain ⟨q0, q1, q2, q3⟩ := HRES.out _ hA3))
  all_goals
    go_wp2_with fail
    refine bodyPost_ret (v := .tuple #[.agg #[str t3, .slice ao3 nn3 cc3], .bool true]) (by simp [results, Tryz.results89, go_sem, q0, q1]) rfl ⟨t3, ao3, nn3, cc3, by rw [H.out]; rfl, Below.setCell (Below.setCell (HWX.out.trans hA3) (by simp) _) (by simp) _, ?_⟩
    rw [H.out]
    exact hs3.sets2 (hA3.heap HRX.out)

theorem step_arg (w : World) (f a : Tm) (g1 q1 : Nat) (x1 y1 : List UInt8) (a1 b1 : Option Addr) (n1 c1 m1 d1 : Nat) (fr : Nat × Nat) (hh : w.heap[g1]? = some (.cells #[str x1, .slice a1 n1 c1, str y1, .slice b1 m1 d1] 49 fr))
    (hf : ST w f (.agg #[str x1, .slice a1 n1 c1])) (ha : ST w a (.agg #[str y1, .slice b1 m1 d1])) (hg : (f.app a).good = true) (hr : (f.app a).redex = none)
    (ihf : ∀ W, After w W → Calls Tryz.prog 89 #[.agg #[str x1, .slice a1 n1 c1]] W (SStepPost W f)) (hu : f.step = none) (iha : ∀ W, After w W → Calls Tryz.prog 89 #[.agg #[str y1, .slice b1 m1 d1]] W (SStepPost W a)) :
    Calls Tryz.prog 89 #[.agg #[str [], .slice (some ⟨g1, 0, none⟩) 2 q1]] w (SStepPost w (f.app a)) := by
  have hs1 : (f.app a).step.isSome = a.step.isSome := by cases h : a.step <;> simp [Tm.step, hr, hu, h]
  have hs2 : (f.app a).step.getD (f.app a) = f.app (a.step.getD a) := by cases h : a.step <;> simp [Tm.step, hr, hu, h]
  have H1 := Lib.hid hs1
  have H2 := Lib.hid hs2
  have hsome : f.step.isSome = false := by rw [hu]; rfl
  clear hs1 hs2 hu
  have hX : After w ((w.alloc (.cells #[str [], .slice (some ⟨g1, 0, none⟩) 2 q1] 49)).alloc (.cells #[.string ⟨#[]⟩, .slice none 0 0] 49)) := (After.new _ _).alloc _
  have htree : ST w (f.app a) (.agg #[str [], .slice (some ⟨g1, 0, none⟩) 2 q1]) := ⟨g1, q1, fr, _, _, _, _, rfl, hh, hf, ha⟩
  have hcall := s_redex (htree.later hX) hg
  rw [hr] at hcall
  have HX := Lib.hid hX
  have HF := Lib.hid hf
  have HA := Lib.hid ha
  have HH := Lib.hid hh
  have hlt := (Array.getElem?_eq_some_iff.1 hh).1
  clear hr hX htree hf ha
  go_enter Tryz.func89, Tryz.ntmps89
  go_wp2_with fail
  refine hcall.mono ?_
  rintro e w1 ⟨s1, ao1, nn1, cc1, rfl, hb1, ht1⟩
  clear ht1 hcall
  obtain ⟨p0, p1, _, _, hz⟩ := box_facts w _ _ _ w1 hb1
  have hz2 : w.heap.size < w1.heap.size := by omega
  have hw1 := HX.out.trans hb1
  have k0 : w1.cell? ⟨g1, 0, none⟩ = some (str x1) := cell_of_heap (hw1.heap hh)
  have k1 : w1.cell? ⟨g1, 1, none⟩ = some (.slice a1 n1 c1) := cell_of_heap (hw1.heap hh)
  have hlt1 : g1 < w1.heap.size := by omega
  clear hh
  go_wp2_with fail
  refine (ihf _ (hw1.alloc _)).mono ?_
  rintro e w2 ⟨s2, ao2, nn2, cc2, rfl, hb2, ht2⟩
  have HT2 := Lib.hid ht2
  have hb12 := (After.alloc hb1 (.cells #[str s1, .slice ao1 nn1 cc1] 49)).trans hb2
  have hw2 := HX.out.trans hb12
  clear ht2 p0 p1 hz2 k0 k1 hlt1 hz
  clear HT2
  obtain ⟨p0, p1, _, _, hz⟩ := box_facts w _ _ _ w2 hb12
  have hz2 : w.heap.size < w2.heap.size := by omega
  have k2 : w2.cell? ⟨g1, 2, none⟩ = some (str y1) := cell_of_heap (hw2.heap HH.out)
  have k3 : w2.cell? ⟨g1, 3, none⟩ = some (.slice b1 m1 d1) := cell_of_heap (hw2.heap HH.out)
  have hlt1 : g1 < w2.heap.size := by omega
  go_wp2_with fail
  refine (iha _ (hw2.alloc _)).mono ?_
  rintro e w3 ⟨s3, ao3, nn3, cc3, rfl, hb3, ht3⟩
  have HT3 := Lib.hid ht3
  have hb13 := (After.alloc hb12 (.cells #[str s2, .slice ao2 nn2 cc2] 49)).trans hb3
  have hw3 := HX.out.trans hb13
  clear ht3 p0 p1 hz2 k2 k3 hlt1 hz
  obtain ⟨p0, p1, _, _, hz⟩ := box_facts w _ _ _ w3 hb13
  have hz2 : w.heap.size < w3.heap.size := by omega
  obtain ⟨gd, hgd⟩ : ∃ b, b = a.step.isSome := ⟨_, rfl⟩
  rw [← hgd]
  have HGD := Lib.hid hgd
  clear hgd
  go_wp2_with fail
  obtain ⟨X, hX⟩ : ∃ X, X = w3.alloc (.cells #[str s3, .slice ao3 nn3 cc3] 49) := ⟨_, rfl⟩
  have h3X : After w3 X := by rw [hX]; exact After.new _ _
  have hwX := hw3.trans h3X
  have hRX := (box_facts2 w _ _ _ X (hb13.trans h3X)).1
  have hBX : X.heap[w3.heap.size]? = some (.cells #[str s3, .slice ao3 nn3 cc3] 49 (0, 0)) := by rw [hX]; exact heap_new' _ _
  have hTX := (box_facts w _ _ _ X (hb13.trans h3X))
  have hne : w3.heap.size ≠ w.heap.size + 1 := by omega
  have hne2 : g1 ≠ w.heap.size + 1 := by omega
  have o1 : ∀ W, ButFor X (w.heap.size + 1) W → W.cell? ⟨w3.heap.size, 0, none⟩ = some (str s3) := fun W hW => hW.cell hne (cell_of_heap hBX)
  have o2 : ∀ W, ButFor X (w.heap.size + 1) W → W.cell? ⟨w3.heap.size, 1, none⟩ = some (.slice ao3 nn3 cc3) := fun W hW => hW.cell hne (cell_of_heap hBX)
  have o3 : ∀ W, ButFor X (w.heap.size + 1) W → W.cell? ⟨w.heap.size, 1, none⟩ = some (.slice (some ⟨g1, 0, none⟩) 2 q1) := fun W hW => hW.cell (by omega) hTX.2.1
  have o4 : ∀ W, ButFor X (w.heap.size + 1) W → W.cell? ⟨g1, 0, none⟩ = some (str x1) := fun W hW => hW.cell hne2 (cell_of_heap (hwX.heap HH.out))
  have o5 : ∀ W, ButFor X (w.heap.size + 1) W → W.cell? ⟨g1, 1, none⟩ = some (.slice a1 n1 c1) := fun W hW => hW.cell hne2 (cell_of_heap (hwX.heap HH.out))
  have hself := After.refl X
  have hbf : ButFor X (w.heap.size + 1) X.drew := ⟨Nat.le_refl _, fun _ _ _ => rfl⟩
  have hres : ∀ W, After X W → W.cell? ⟨w.heap.size + 1, 0, none⟩ = some (.string ⟨#[]⟩) ∧ W.cell? ⟨w.heap.size + 1, 1, none⟩ = some (.slice none 0 0) ∧ W.frozen? ⟨w.heap.size + 1, 0, none⟩ = false ∧ W.frozen? ⟨w.heap.size + 1, 1, none⟩ = false := fun W hW => by
    have hh := hW.heap hRX
    exact ⟨cell_of_heap hh, cell_of_heap hh, by simp [World.frozen?, hh], by simp [World.frozen?, hh]⟩
  rw [← hX]
  have HUX := Lib.hid (HT3.out.later h3X)
  have HFX := Lib.hid (HF.out.later hwX)
  have HRES := Lib.hid hres
  have HWX := Lib.hid hwX
  have HRX := Lib.hid hRX
  clear hres hRX hBX hTX hwX hX p0 p1 hz hz2 hw1 hw2 hw3 hb12 hb13 h3X hb1 hb2 hb3
  go_region_held3 (fun W' => ButFor X (w.heap.size + 1) W') (first | assumption | exact hbf | exact After.butFor (by assumption) | exact ButFor.alloc (by assumption) _ | exact ButFor.set (ButFor.set (by assumption) _ _) _ _ | go_keep)
    (first | (go_at_call 77; refine (s_app _ f (a.step.getD a) x1 s3 a1 ao3 n1 c1 nn3 cc3 _ (0, 0) ?_ ?_ ?_).mono ?_; exact HFX.out.later (hself.alloc _).drew; exact HUX.out.later (hself.alloc _).drew; exact heap_new' _ _; rintro e w4 ⟨t4, ao4, nn4, cc4, rfl, hb4, hs4⟩; have hA4 := After.trans (hself.alloc _).drew hb4; obtain ⟨q0, q1, q2, q3⟩ := HRES.out _ hA4))
  all_goals
    go_wp2_with fail
    refine bodyPost_ret (v := .tuple #[.agg #[str t4, .slice ao4 nn4 cc4], .bool gd]) (by simp [results, Tryz.results89, go_sem, q0, q1]) rfl ⟨t4, ao4, nn4, cc4, by rw [H1.out, HGD.out], Below.setCell (Below.setCell (HWX.out.trans hA4) (by simp) _) (by simp) _, ?_⟩
    rw [H2.out]
    exact hs4.sets2 (hA4.heap HRX.out)

theorem s_step {t : Tm} : ∀ {w : World} {v : Value}, ST w t v → t.good = true → Calls Tryz.prog 89 #[v] w (SStepPost w t) := by
  induction t with
  | k => intro w v h hg; obtain ⟨x, ao, n, c, rfl⟩ := h.form; exact step_atom w _ x ao n c h hg rfl
  | s => intro w v h hg; obtain ⟨x, ao, n, c, rfl⟩ := h.form; exact step_atom w _ x ao n c h hg rfl
  | nm m => intro w v h hg; obtain ⟨x, ao, n, c, rfl⟩ := h.form; exact step_atom w _ x ao n c h hg rfl
  | app f a ihf iha =>
    intro w v h hg
    cases hr : (f.app a).redex with
    | some u =>
      obtain ⟨x, ao, n, c, rfl⟩ := h.form
      exact step_redex w _ u x ao n c h hg hr (by simp [Tm.step, hr])
    | none =>
      obtain ⟨g1, q1, fr, s0, p0, s1, p1, rfl, hh, hf, ha⟩ := h
      obtain ⟨x1, a1, n1, c1, rfl, rfl⟩ := parts_form hf
      obtain ⟨y1, b1, m1, d1, rfl, rfl⟩ := parts_form ha
      have hg' := hg
      simp only [Tm.good, Bool.and_eq_true] at hg'
      cases hfs : f.step with
      | some u => exact step_fun w f a g1 q1 x1 y1 a1 b1 n1 c1 m1 d1 fr hh hf ha hg hr (fun W hW => ihf (hf.later hW) hg'.1) u hfs
      | none => exact step_arg w f a g1 q1 x1 y1 a1 b1 n1 c1 m1 d1 fr hh hf ha hg hr (fun W hW => ihf (hf.later hW) hg'.1) hfs (fun W hW => iha (ha.later hW) hg'.2)
end Go.Proofs.YtjomocjlnjgkeaaGreat

namespace Go.Proofs.YtjomocjlnjgkeaaGreat
open Go.RowKit

set_option maxHeartbeats 1000000
set_option maxRecDepth 100000

theorem heap_sets2 {W : World} {b : Nat} {x y u u' : Value} {T : TypeId} {fr : Nat × Nat} (hh : W.heap[b]? = some (.cells #[x, y] T fr)) : ((W.setCell ⟨b, 0, none⟩ u).setCell ⟨b, 1, none⟩ u').heap[b]? = some (.cells #[u, u'] T fr) := by
  simp [World.setCell, Array.getElem?_modify, hh]

theorem heap_sets2_ne {W : World} {b c i j : Nat} {u u' : Value} (hne : c ≠ b) : ((W.setCell ⟨b, i, none⟩ u).setCell ⟨b, j, none⟩ u').heap[c]? = W.heap[c]? := by
  rw [Below.heap_setCell _ _ _ _ hne, Below.heap_setCell _ _ _ _ hne]

theorem pair_facts {W : World} {b : Nat} {x y : Value} {T : TypeId} (h : W.heap[b]? = some (.cells #[x, y] T (0, 0))) {W' : World} (hW : After W W') :
    W'.cell? ⟨b, 0, none⟩ = some x ∧ W'.cell? ⟨b, 1, none⟩ = some y ∧ W'.frozen? ⟨b, 0, none⟩ = false ∧ W'.frozen? ⟨b, 1, none⟩ = false ∧ b < W'.heap.size := by
  have hh := hW.heap h
  exact ⟨cell_of_heap hh, cell_of_heap hh, by simp [World.frozen?, hh], by simp [World.frozen?, hh], (Array.getElem?_eq_some_iff.1 hh).1⟩

def SManyPost (w : World) (t : Tm) (n : Nat) (e : Ending) (w' : World) : Prop :=
  ∃ s ao m c, e = .returned (.tuple #[.agg #[str s, .slice ao m c], .int .i64 (((t.many n).2 : Nat) : Int), .bool (t.many n).1.step.isNone]) ∧ After w w' ∧ ST w' (t.many n).1 (.agg #[str s, .slice ao m c])

/-- After k rounds. -/
def SRounds (w : World) (n : Nat) (t : Tm) (i : Value) (wr : World) : Prop :=
  ∃ (k : Nat) (u : Tm) (s : List UInt8) (ao : Option Addr) (m c : Nat), i = .int .i64 k ∧ k ≤ n ∧ wr.heap[w.heap.size]? = some (.cells #[str s, .slice ao m c] 49 (0, 0)) ∧ wr.heap[w.heap.size + 1]? = some (.cells #[.string ⟨#[]⟩, .slice none 0 0] 49 (0, 0)) ∧
    ST wr u (.agg #[str s, .slice ao m c]) ∧ u.good = true ∧ u.fits = true ∧ After w wr ∧ Hid (t.many n = ((u.many (n - k)).1, (u.many (n - k)).2 + k))

theorem s_many (w : World) (n : Nat) (t : Tm) (s : List UInt8) (ao : Option Addr) (m c : Nat) (h : ST w t (.agg #[str s, .slice ao m c])) (hg : t.good = true) (hz : t.fits = true) (hn : n ≤ 1000000) :
    Calls Tryz.prog 54 #[.agg #[str s, .slice ao m c], .int .i64 n] w (SManyPost w t n) := by
  have hstart : SRounds w n t (.int .i64 0) ((w.alloc (.cells #[str s, .slice ao m c] 49)).alloc (.cells #[.string ⟨#[]⟩, .slice none 0 0] 49)) :=
    ⟨0, t, s, ao, m, c, rfl, Nat.zero_le _, heap_old2 _ _ _, heap_new2 _ _ _ _ rfl, h.later ((After.new _ _).alloc _), hg, hz, (After.new _ _).alloc _, by simp [Hid]⟩
  go_enter Tryz.func54, Tryz.ntmps54
  go_wp2_with fail
  go_loopw [7] (fun i wr => SRounds w n t i wr) (fun i _ => n - (intOf i).toNat)
  case atStart => exact hstart
  case round =>
    clear hstart h hg hz
    obtain ⟨k, u, s, ao, m, c, rfl, hk, hbox, hres, hu, hg, hf, hA, hm⟩ := hrel
    have hfz := fits_size hf
    have hstep := s_step hu hg
    unfold SStepPost at hstep
    obtain ⟨k0, k1, _, _, l1⟩ := pair_facts hbox (After.refl _)
    have HU := Lib.hid hu
    by_cases hlt : k < n
    · cases hst : u.step with
      | none =>
        have hfin : t.many n = (u, k) := by
          rw [hm.out, show n - k = (n - k - 1) + 1 by omega, Tm.many_normal _ _ hst]; simp
        have H := Lib.hid hfin
        have HST := Lib.hid hst
        rw [hst] at hstep
        clear hst hfin hm hu
        go_wp2_with fail
        refine hstep.mono ?_
        rintro e w1 ⟨s1, ao1, m1, c1, rfl, hb1, ht1⟩
        clear ht1 k0 k1
        obtain ⟨k0, k1, _, _, l1⟩ := pair_facts hbox (After.alloc hb1 (.cells #[str s1, .slice ao1 m1 c1] 49))
        obtain ⟨z0, z1, z2, z3, l2⟩ := pair_facts hres (After.alloc hb1 (.cells #[str s1, .slice ao1 m1 c1] 49))
        go_wp2_with fail
        refine bodyPost_ret (v := .tuple #[.agg #[str s, .slice ao m c], .int .i64 k, .bool true]) (by simp [results, Tryz.results54, go_sem, z0, z1]) rfl
          ⟨s, ao, m, c, by rw [H.out]; simp [HST.out], Below.setCell (Below.setCell (hA.trans (After.alloc hb1 _)) (by simp) _) (by simp) _, ?_⟩
        rw [H.out]
        exact (HU.out.later (After.alloc hb1 _)).sets2 ((After.alloc hb1 _).heap hres)
      | some u1 =>
        have hg1 := Tm.step_good hst hg
        have hs1 := step_size hst
        have HST := Lib.hid hst
        rw [hst] at hstep
        simp only [Option.isSome_some, Option.getD_some] at hstep
        cases hf1 : u1.fits with
        | false =>
          have hfin : t.many n = (u, k) := by
            rw [hm.out, show n - k = (n - k - 1) + 1 by omega]; simp [Tm.many, hst, hf1]
          have H := Lib.hid hfin
          clear hst hfin hm hu
          go_wp2_with fail
          refine hstep.mono ?_
          rintro e w1 ⟨s1, ao1, m1, c1, rfl, hb1, ht1⟩
          have hfine := (ht1.later (After.new w1 (.cells #[str s1, .slice ao1 m1 c1] 49))).fine hg1 (by omega)
          rw [hf1] at hfine
          have hw1 := After.alloc hb1 (.cells #[str s1, .slice ao1 m1 c1] 49)
          clear ht1 k0 k1 hstep
          go_wp2_with fail
          refine hfine.mono ?_
          rintro e w2 ⟨rfl, hb2⟩
          obtain ⟨k0, k1, _, _, l1⟩ := pair_facts hbox (hw1.trans hb2)
          obtain ⟨z0, z1, z2, z3, l2⟩ := pair_facts hres (hw1.trans hb2)
          go_wp2_with fail
          refine bodyPost_ret (v := .tuple #[.agg #[str s, .slice ao m c], .int .i64 k, .bool false]) (by simp [results, Tryz.results54, go_sem, z0, z1]) rfl
            ⟨s, ao, m, c, by rw [H.out]; simp [HST.out], Below.setCell (Below.setCell (hA.trans (hw1.trans hb2)) (by simp) _) (by simp) _, ?_⟩
          rw [H.out]
          exact (HU.out.later (hw1.trans hb2)).sets2 ((hw1.trans hb2).heap hres)
        | true =>
          have hfin : t.many n = ((u1.many (n - (k + 1))).1, (u1.many (n - (k + 1))).2 + (k + 1)) := by
            rw [hm.out, show n - k = (n - (k + 1)) + 1 by omega]; simp [Tm.many, hst, hf1]; omega
          have H := Lib.hid hfin
          clear hst hfin hm hu
          go_wp2_with fail
          refine hstep.mono ?_
          rintro e w1 ⟨s1, ao1, m1, c1, rfl, hb1, ht1⟩
          have hT1 := ht1.later (After.new w1 (.cells #[str s1, .slice ao1 m1 c1] 49))
          have hfine := hT1.fine hg1 (by omega)
          rw [hf1] at hfine
          have hw1 := After.alloc hb1 (.cells #[str s1, .slice ao1 m1 c1] 49)
          clear ht1 k0 k1 hstep
          go_wp2_with fail
          refine hfine.mono ?_
          rintro e w2 ⟨rfl, hb2⟩
          obtain ⟨k0, k1, f0, f1, l1⟩ := pair_facts hbox (hw1.trans hb2)
          obtain ⟨n0, n1, _, _, l3⟩ := pair_facts (hb2.heap (heap_new' w1 (.cells #[str s1, .slice ao1 m1 c1] 49))) (After.refl _)
          have hbox2 := (hw1.trans hb2).heap hbox
          have hres2 := (hw1.trans hb2).heap hres
          have HT2 := Lib.hid (hT1.later hb2)
          clear hT1
          go_wp2_with fail
          go_roundw
          case rel =>
            exact ⟨k + 1, u1, s1, ao1, m1, c1, by go_num, by omega, heap_sets2 hbox2, by rw [heap_sets2_ne (by omega)]; exact hres2, HT2.out.sets2 hbox2, hg1, hf1,
              Below.setCell (Below.setCell (hA.trans (hw1.trans hb2)) (by simp) _) (by simp) _, H⟩
          case measure => simp [intOf]; omega
    · have hkn : k = n := by omega
      subst hkn
      have hfin : t.many k = (u, k) := by rw [hm.out]; simp [Tm.many]
      have H := Lib.hid hfin
      obtain ⟨b, hb⟩ : ∃ b, b = u.step.isSome := ⟨_, rfl⟩
      rw [← hb] at hstep
      have HB := Lib.hid hb
      clear hfin hm hu hb
      go_wp2_with fail
      refine hstep.mono ?_
      rintro e w1 ⟨s1, ao1, m1, c1, rfl, hb1, ht1⟩
      clear ht1 k0 k1
      obtain ⟨k0, k1, _, _, l1⟩ := pair_facts hbox (After.alloc hb1 (.cells #[str s1, .slice ao1 m1 c1] 49))
      obtain ⟨z0, z1, z2, z3, l2⟩ := pair_facts hres (After.alloc hb1 (.cells #[str s1, .slice ao1 m1 c1] 49))
      go_wp2_with fail
      refine bodyPost_ret (v := .tuple #[.agg #[str s, .slice ao m c], .int .i64 k, .bool (!b)]) (by simp [results, Tryz.results54, go_sem, z0, z1]) rfl
        ⟨s, ao, m, c, by rw [H.out, HB.out]; cases u.step <;> rfl, Below.setCell (Below.setCell (hA.trans (After.alloc hb1 _)) (by simp) _) (by simp) _, ?_⟩
      rw [H.out]
      exact (HU.out.later (After.alloc hb1 _)).sets2 ((After.alloc hb1 _).heap hres)

def SNormPost (w : World) (t : Tm) (b : Bool) (e : Ending) (w' : World) : Prop :=
  ∃ s ao m c, e = .returned (.tuple #[.agg #[str s, .slice ao m c], .bool b]) ∧ After w w' ∧ ST w' t (.agg #[str s, .slice ao m c])

theorem s_normal_no (w : World) (t : Tm) (s : List UInt8) (ao : Option Addr) (m c : Nat) (h : ST w t (.agg #[str s, .slice ao m c])) (hg : t.good = true) (hz : t.size ≤ 1000000) (hf : t.fits = false) :
    Calls Tryz.prog 29 #[.agg #[str s, .slice ao m c]] w (SNormPost w t false) := by
  obtain ⟨X, hX⟩ : ∃ X, X = (w.alloc (.cells #[str s, .slice ao m c] 49)).alloc (.cells #[.string ⟨#[]⟩, .slice none 0 0] 49) := ⟨_, rfl⟩
  have hAX : After w X := by rw [hX]; exact (After.new _ _).alloc _
  have hbox : X.heap[w.heap.size]? = some (.cells #[str s, .slice ao m c] 49 (0, 0)) := by rw [hX]; exact heap_old2 _ _ _
  have hres : X.heap[w.heap.size + 1]? = some (.cells #[.string ⟨#[]⟩, .slice none 0 0] 49 (0, 0)) := by rw [hX]; exact heap_new2 _ _ _ _ rfl
  have hfine := (h.later hAX).fine hg (by omega)
  rw [hf] at hfine
  have HT := Lib.hid (h.later hAX)
  obtain ⟨k0, k1, _, _, l1⟩ := pair_facts hbox (After.refl _)
  clear h
  go_enter Tryz.func29, Tryz.ntmps29
  go_wp2_with fail
  rw [← hX]
  clear hX
  go_wp2_with fail
  refine hfine.mono ?_
  rintro e w1 ⟨rfl, hb1⟩
  clear k0 k1
  obtain ⟨k0, k1, _, _, l1⟩ := pair_facts hbox hb1
  obtain ⟨z0, z1, z2, z3, l2⟩ := pair_facts hres hb1
  go_wp2_with fail
  refine bodyPost_ret (v := .tuple #[.agg #[str s, .slice ao m c], .bool false]) (by simp [results, Tryz.results29, go_sem, z0, z1]) rfl
    ⟨s, ao, m, c, rfl, Below.setCell (Below.setCell (hAX.trans hb1) (by simp) _) (by simp) _, ?_⟩
  exact (HT.out.later hb1).sets2 (hb1.heap hres)

theorem s_normal (w : World) (t : Tm) (s : List UInt8) (ao : Option Addr) (m c : Nat) (h : ST w t (.agg #[str s, .slice ao m c])) (hg : t.good = true) (hf : t.fits = true) :
    Calls Tryz.prog 29 #[.agg #[str s, .slice ao m c]] w (SNormPost w (t.many 6000).1 (t.many 6000).1.step.isNone) := by
  obtain ⟨X, hX⟩ : ∃ X, X = (w.alloc (.cells #[str s, .slice ao m c] 49)).alloc (.cells #[.string ⟨#[]⟩, .slice none 0 0] 49) := ⟨_, rfl⟩
  have hAX : After w X := by rw [hX]; exact (After.new _ _).alloc _
  have hbox : X.heap[w.heap.size]? = some (.cells #[str s, .slice ao m c] 49 (0, 0)) := by rw [hX]; exact heap_old2 _ _ _
  have hres : X.heap[w.heap.size + 1]? = some (.cells #[.string ⟨#[]⟩, .slice none 0 0] 49 (0, 0)) := by rw [hX]; exact heap_new2 _ _ _ _ rfl
  have hfz := fits_size hf
  have hfine := (h.later hAX).fine hg (by omega)
  rw [hf] at hfine
  have hmany := fun W (hW : After X W) => s_many W 6000 t s ao m c ((h.later hAX).later hW) hg hf (by omega)
  unfold SManyPost at hmany
  generalize hmm : t.many 6000 = mm at *
  obtain ⟨u, i⟩ := mm
  simp only at hmany ⊢
  generalize hb : u.step.isNone = b at *
  obtain ⟨k0, k1, _, _, l1⟩ := pair_facts hbox (After.refl _)
  clear h hmm hb
  go_enter Tryz.func29, Tryz.ntmps29
  go_wp2_with fail
  rw [← hX]
  clear hX
  go_wp2_with fail
  refine hfine.mono ?_
  rintro e w1 ⟨rfl, hb1⟩
  have hcall := hmany w1 hb1
  clear k0 k1 hmany hfine
  obtain ⟨k0, k1, _, _, l1⟩ := pair_facts hbox hb1
  go_wp2_with fail
  refine hcall.mono ?_
  rintro e w2 ⟨s2, ao2, m2, c2, rfl, hb2, ht2⟩
  have HT2 := Lib.hid ht2
  have hw2 := After.alloc (hb1.trans hb2) (.cells #[str s2, .slice ao2 m2 c2] 49)
  clear ht2 k0 k1
  obtain ⟨z0, z1, z2, z3, l2⟩ := pair_facts hres hw2
  have hne : w2.heap.size ≠ w.heap.size + 1 := by have := (Array.getElem?_eq_some_iff.1 ((hb1.trans hb2).heap hres)).1; omega
  go_wp2_with fail
  refine bodyPost_ret (v := .tuple #[.agg #[str s2, .slice ao2 m2 c2], .bool b]) (by simp [results, Tryz.results29, go_sem, z0, z1]) rfl
    ⟨s2, ao2, m2, c2, rfl, Below.setCell (Below.setCell (hAX.trans hw2) (by simp) _) (by simp) _, ?_⟩
  exact (HT2.out.later (After.new w2 _)).sets2 (hw2.heap hres)
end Go.Proofs.YtjomocjlnjgkeaaGreat

namespace Go.Proofs.YtjomocjlnjgkeaaGreat
open Go.RowKit

set_option maxHeartbeats 1000000
set_option maxRecDepth 100000

theorem s_app2 (w : World) (f a b : Tm) (s1 s2 s3 : List UInt8) (a1 a2 a3 : Option Addr) (n1 c1 n2 c2 n3 c3 g : Nat) (fr : Nat × Nat) (hf : ST w f (.agg #[str s1, .slice a1 n1 c1])) (ha : ST w a (.agg #[str s2, .slice a2 n2 c2])) (hb : ST w b (.agg #[str s3, .slice a3 n3 c3]))
    (hg : w.heap[g]? = some (.cells #[str s2, .slice a2 n2 c2, str s3, .slice a3 n3 c3] 49 fr)) :
    Calls Tryz.prog 77 #[.agg #[str s1, .slice a1 n1 c1], .slice (some ⟨g, 0, none⟩) 2 2] w (TreePost w ((f.app a).app b)) := by
  have k0 : w.cell? ⟨g, 0, none⟩ = some (str s2) := cell_of_heap hg
  have k1 : w.cell? ⟨g, 1, none⟩ = some (.slice a2 n2 c2) := cell_of_heap hg
  have k2 : w.cell? ⟨g, 2, none⟩ = some (str s3) := cell_of_heap hg
  have k3 : w.cell? ⟨g, 3, none⟩ = some (.slice a3 n3 c3) := cell_of_heap hg
  have hlt := (Array.getElem?_eq_some_iff.1 hg).1
  have HF := Lib.hid hf
  have HA := Lib.hid ha
  have HB := Lib.hid hb
  clear hf ha hb hg
  go_enter Tryz.func77, Tryz.ntmps77
  go_wp2_with fail
  refine wp_loop_rounds 3 ?_
  rw [rounds_succ]
  go_wp2_with fail
  go_region
  go_wp2_with fail
  have hx := ((After.new w (.cells #[.string ⟨#[]⟩, .slice (some ⟨w.heap.size + 1 + 1, 0, none⟩) 2 2] 49)).alloc (.cells #[.string ⟨#[]⟩, .slice none 0 0] 49)).alloc (.cells #[str s1, .slice a1 n1 c1, str s2, .slice a2 n2 c2] 49)
  have x2 := hx.cell k2
  have x3 := hx.cell k3
  have hlt2 : g < w.heap.size + 1 + 1 + 1 := by omega
  rw [rounds_succ]
  go_wp2_with fail
  go_region
  go_wp2_with fail
  rw [rounds_succ]
  go_wp2_with fail
  obtain ⟨os, hos⟩ : ∃ os : List Obj, os = [.cells #[.string ⟨#[]⟩, .slice (some ⟨w.heap.size + 1 + 1 + 1, 0, none⟩) 2 2] 49, .cells #[.string ⟨#[]⟩, .slice (some ⟨w.heap.size + 1 + 1 + 1, 0, none⟩) 2 2] 49, .cells #[str s1, .slice a1 n1 c1, str s2, .slice a2 n2 c2] 49, .cells #[.string ⟨#[]⟩, .slice (some ⟨w.heap.size + 1 + 1, 0, none⟩) 2 2, str s3, .slice a3 n3 c3] 49] := ⟨_, rfl⟩
  have hX : allocL w os = (((w.alloc (.cells #[.string ⟨#[]⟩, .slice (some ⟨w.heap.size + 1 + 1 + 1, 0, none⟩) 2 2] 49)).alloc (.cells #[.string ⟨#[]⟩, .slice (some ⟨w.heap.size + 1 + 1 + 1, 0, none⟩) 2 2] 49)).alloc (.cells #[str s1, .slice a1 n1 c1, str s2, .slice a2 n2 c2] 49)).alloc (.cells #[.string ⟨#[]⟩, .slice (some ⟨w.heap.size + 1 + 1, 0, none⟩) 2 2, str s3, .slice a3 n3 c3] 49) := by rw [hos]; rfl
  have hy : After w (allocL w os) := allocL_below w os
  have h2 : (allocL w os).heap[w.heap.size + 1 + 1]? = some (.cells #[str s1, .slice a1 n1 c1, str s2, .slice a2 n2 c2] 49 (0, 0)) := by have := allocL_heap w os 2 (by rw [hos]; simp); simpa [hos] using this
  have h3 : (allocL w os).heap[w.heap.size + 1 + 1 + 1]? = some (.cells #[.string ⟨#[]⟩, .slice (some ⟨w.heap.size + 1 + 1, 0, none⟩) 2 2, str s3, .slice a3 n3 c3] 49 (0, 0)) := by have := allocL_heap w os 3 (by rw [hos]; simp); simpa [hos] using this
  rw [hX] at hy h2 h3
  refine bodyPost_ret (v := .agg #[.string ⟨#[]⟩, .slice (some ⟨w.heap.size + 1 + 1 + 1, 0, none⟩) 2 2]) (by simp [results, Tryz.results77, go_sem]) rfl ⟨[], some ⟨w.heap.size + 1 + 1 + 1, 0, none⟩, 2, 2, rfl, hy.drew.drew, ?_⟩
  exact ⟨_, 2, (0, 0), _, _, _, _, rfl, h3, ⟨_, 2, (0, 0), _, _, _, _, rfl, h2, HF.out.later hy.drew.drew, HA.out.later hy.drew.drew⟩, HB.out.later hy.drew.drew⟩

theorem s_i (w : World) : Calls Tryz.prog 55 #[] w (TreePost w Tm.I) := by
  have hAX : After w ((w.alloc (.cells #[.string ⟨#[]⟩, .slice none 0 0] 49)).alloc (.cells #[str [107], .slice none 0 0, str [107], .slice none 0 0] 49)) := (After.new _ _).alloc _
  have hres := heap_old2 w (.cells #[.string ⟨#[]⟩, .slice none 0 0] 49) (.cells #[str [107], .slice none 0 0, str [107], .slice none 0 0] 49)
  have hcall := s_app2 _ .s .k .k [115] [107] [107] none none none 0 0 0 0 0 0 (w.heap.size + 1) (0, 0) rfl rfl rfl (heap_new2 w _ (.cells #[.string ⟨#[]⟩, .slice none 0 0] 49) (.cells #[str [107], .slice none 0 0, str [107], .slice none 0 0] 49) rfl)
  unfold TreePost at hcall
  have HRES := Lib.hid hres
  clear hres
  go_enter Tryz.func55, Tryz.ntmps55
  go_wp2_with fail
  refine hcall.mono ?_
  rintro e w1 ⟨t1, ao1, n1, c1, rfl, hb1, ht1⟩
  have HT := Lib.hid ht1
  obtain ⟨z0, z1, z2, z3, l2⟩ := pair_facts HRES.out hb1
  clear ht1 hcall
  go_wp2_with fail
  refine bodyPost_ret (v := .agg #[str t1, .slice ao1 n1 c1]) (by simp [results, Tryz.results55, go_sem, z0, z1]) rfl
    ⟨t1, ao1, n1, c1, rfl, Below.setCell (Below.setCell (hAX.trans hb1) (by simp) _) (by simp) _, HT.out.sets2 (hb1.heap HRES.out)⟩

theorem s_true (w : World) : Calls Tryz.prog 75 #[] w (TreePost w .k) := by
  have hA := After.new w (.cells #[.string ⟨#[107]⟩, .slice none 0 0] 49)
  go_enter Tryz.func75, Tryz.ntmps75
  go_wp2_with fail
  refine bodyPost_ret (v := .agg #[.string ⟨#[107]⟩, .slice none 0 0]) (by simp [results, Tryz.results75, go_sem]) rfl
    ⟨[107], none, 0, 0, rfl, hA, rfl⟩

theorem s_false (w : World) : Calls Tryz.prog 57 #[] w (TreePost w Tm.no) := by
  have hres := heap_new' w (.cells #[.string ⟨#[]⟩, .slice none 0 0] 49)
  have hA := After.new w (.cells #[.string ⟨#[]⟩, .slice none 0 0] 49)
  have hI := s_i (w.alloc (.cells #[.string ⟨#[]⟩, .slice none 0 0] 49))
  unfold TreePost at hI
  have HRES := Lib.hid hres
  clear hres
  go_enter Tryz.func57, Tryz.ntmps57
  go_wp2_with fail
  refine hI.mono ?_
  rintro e w1 ⟨t1, ao1, n1, c1, rfl, hb1, ht1⟩
  have hcall := s_app (w1.alloc (.cells #[str t1, .slice ao1 n1 c1] 49)) .k Tm.I [107] t1 none ao1 0 0 n1 c1 w1.heap.size (0, 0) rfl (ht1.later (After.new _ _)) (heap_new' _ _)
  unfold TreePost at hcall
  have hA1 := After.alloc hb1 (.cells #[str t1, .slice ao1 n1 c1] 49)
  clear ht1 hI
  go_wp2_with fail
  refine hcall.mono ?_
  rintro e w2 ⟨t2, ao2, n2, c2, rfl, hb2, ht2⟩
  have HT := Lib.hid ht2
  have hA2 := hA1.trans hb2
  obtain ⟨z0, z1, z2, z3, l2⟩ := pair_facts HRES.out hA2
  clear ht2 hcall
  go_wp2_with fail
  refine bodyPost_ret (v := .agg #[str t2, .slice ao2 n2 c2]) (by simp [results, Tryz.results57, go_sem, z0, z1]) rfl
    ⟨t2, ao2, n2, c2, rfl, Below.setCell (Below.setCell (hA.trans hA2) (by simp) _) (by simp) _, HT.out.sets2 (hA2.heap HRES.out)⟩
end Go.Proofs.YtjomocjlnjgkeaaGreat
