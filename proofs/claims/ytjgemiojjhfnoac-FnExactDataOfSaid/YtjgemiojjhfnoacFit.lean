/-
  Does a term in memory fit; a step of it that fits: fits, stepTerm.
-/
import Derived.Test.YtjgemiojjhfnoacStep
namespace Go.Proofs.Ytjgemiojjhfnoac
open Go.RowKit

set_option maxHeartbeats 400000
set_option maxRecDepth 100000

theorem fits_any (w : World) (B : Nat) (t : Tm) (v : Value) (h : TV w B t v) :
    Calls Try.prog 43 #[v] w fun e w' => e = .returned (.bool t.fits) ∧ Below w.heap.size w w' := by
  obtain ⟨T1, x1, rfl, ⟨f1, y1, m1, n1, c1⟩, ⟨f2, y2, m2, n2, c2⟩, _⟩ := h.asks
  have hb0 := Below.refl w.heap.size w
  by_cases h1 : t.size ≤ 3000
  · by_cases h2 : t.depth ≤ 1500
    · have hf : t.fits = true := by simp [Tm.fits, h1, h2]
      rw [hf]
      clear hf
      go_enter Try.func43, Try.ntmps43
      go_wp2_with (first
        | (go_at_fn f1; refine (c1 _ (by assumption)).mono ?_; rintro e w1 ⟨rfl, hb⟩)
        | (go_at_fn f2; refine (c2 _ (by assumption)).mono ?_; rintro e w1 ⟨rfl, hb⟩))
      go_ret
      exact ⟨by simp; omega, hb⟩
    · have hf : t.fits = false := by simp [Tm.fits, h2]
      rw [hf]
      clear hf
      go_enter Try.func43, Try.ntmps43
      go_wp2_with (first
        | (go_at_fn f1; refine (c1 _ (by assumption)).mono ?_; rintro e w1 ⟨rfl, hb⟩)
        | (go_at_fn f2; refine (c2 _ (by assumption)).mono ?_; rintro e w1 ⟨rfl, hb⟩))
      go_ret
      exact ⟨by simp; omega, hb⟩
  · have hf : t.fits = false := by simp [Tm.fits, h1]
    rw [hf]
    clear hf
    go_enter Try.func43, Try.ntmps43
    go_wp2_with (first
      | (go_at_fn f1; refine (c1 _ (by assumption)).mono ?_; rintro e w1 ⟨rfl, hb⟩)
      | (go_at_fn f2; refine (c2 _ (by assumption)).mono ?_; rintro e w1 ⟨rfl, hb⟩))
    go_ret
    exact ⟨by simp, by assumption⟩

def FitPost (w : World) (B : Nat) (t : Tm) (e : Ending) (w' : World) : Prop :=
  ∃ v', e = .returned (.tuple #[v', .bool t.stepFit.isSome]) ∧ Below w.heap.size w w' ∧ ∀ u, t.stepFit = some u → TV w' B u v'

theorem stepTerm_any (w : World) (B : Nat) (t : Tm) (v : Value) (h : TV w B t v) (hB : B ≤ w.heap.size) (hz : t.size ≤ 1000000) :
    Calls Try.prog 88 #[v] w (FitPost w B t) := by
  obtain ⟨T1, x1, f1, y1, rfl, m1, n1, c1⟩ := h.stepOk hB hz
  have hb0 := Below.refl w.heap.size w
  cases hs : t.step with
  | none =>
    have hsome : t.step.isSome = false := by rw [hs]; rfl
    have hfin : t.stepFit = none := by simp [Tm.stepFit, hs]
    have H := Lib.hid hfin
    clear hs hfin
    go_enter Try.func88, Try.ntmps88
    go_wp2_with (go_at_fn f1; refine (c1 _ (by assumption)).mono ?_; rintro e w1 ⟨v1, rfl, hb1, hv1⟩; clear hv1)
    go_ret2
    exact ⟨_, by rw [H.out]; rfl, hb1, fun u hu => by rw [H.out] at hu; simp at hu⟩
  | some u =>
    have hsome : t.step.isSome = true := by rw [hs]; rfl
    have HS := Lib.hid hs
    cases hf : u.fits with
    | false =>
      have hfin : t.stepFit = none := by simp [Tm.stepFit, hs, hf]
      have H := Lib.hid hfin
      clear hs hfin
      go_enter Try.func88, Try.ntmps88
      go_wp2_with (first
        | (go_at_fn f1; refine (c1 _ (by assumption)).mono ?_; rintro e w1 ⟨v1, rfl, hb1, hv1⟩; have HV := Lib.hid (hv1 u HS.out); clear hv1)
        | (go_at_call 43; refine (fits_any _ B u _ HV.out).mono ?_; rintro e w2 ⟨rfl, hb2⟩))
      go_ret2
      exact ⟨_, by rw [H.out]; rfl, below_trans hb1 hb2, fun u hu => by rw [H.out] at hu; simp at hu⟩
    | true =>
      have hfin : t.stepFit = some u := by simp [Tm.stepFit, hs, hf]
      have H := Lib.hid hfin
      clear hs hfin
      go_enter Try.func88, Try.ntmps88
      go_wp2_with (first
        | (go_at_fn f1; refine (c1 _ (by assumption)).mono ?_; rintro e w1 ⟨v1, rfl, hb1, hv1⟩; have HV := Lib.hid (hv1 u HS.out); clear hv1)
        | (go_at_call 43; refine (fits_any _ B u _ HV.out).mono ?_; rintro e w2 ⟨rfl, hb2⟩))
      go_ret2
      refine ⟨_, by rw [H.out]; rfl, below_trans hb1 hb2, fun u' hu => ?_⟩
      rw [H.out] at hu
      obtain rfl := Option.some.inj hu
      exact HV.out.below hb2

theorem fits_size {t : Tm} (h : t.fits = true) : t.size ≤ 3000 ∧ t.depth ≤ 1500 := by
  simp only [Tm.fits, Bool.and_eq_true, decide_eq_true_eq] at h; exact h

theorem stepFit_fits {t u : Tm} (h : t.stepFit = some u) : u.fits = true := by
  unfold Tm.stepFit at h
  split at h
  · split at h
    · obtain rfl := Option.some.inj h; assumption
    · simp at h
  · simp at h
