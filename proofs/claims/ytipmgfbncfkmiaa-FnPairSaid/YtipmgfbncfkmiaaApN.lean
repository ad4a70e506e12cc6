/-
  The program's normalFitting and applyNormal.
-/
import Derived.Test.YtipmgfbncfkmiaaPkU
namespace Go.Proofs.Ytipmgfbncfkmiaa
open Go.RowKit

set_option maxHeartbeats 1000000
set_option maxRecDepth 100000

theorem normalFitting_any (w : World) (B : Nat) (T : Tm) (v3 : Value) (hT : TV w B T v3) (hB : B ≤ w.heap.size) :
    Calls Try.prog 118 #[v3] w (DataPost w B (Tm.endOf T)) := by
  have hfit := fits_any w _ _ v3 hT
  rw [Tm.endOf_eq]
  cases hfa : T.fits with
  | false =>
    simp only [Bool.false_eq_true, if_false]
    rw [hfa] at hfit
    clear hT
    go_enter Try.func118, Try.ntmps118
    go_wp2_with (go_at_call 70; refine hfit.mono ?_; rintro e w4 ⟨rfl, hb4⟩)
    go_ret2
    exact ⟨_, rfl, hb4, fun t h => by cases h⟩
  | true =>
    have hnorm := fun W v h hB => normalTerm_any W B T v h hB hfa
    unfold NormPost at hnorm
    simp only [if_true]
    generalize hmm : T.many 6000 = mm at *
    clear hmm
    obtain ⟨x, c⟩ := mm
    simp only at hnorm ⊢
    generalize hb : x.normal = b at *
    rw [hfa] at hfit
    clear hb hfa
    have hpost : ∀ W v, Below w.heap.size w W → TV W B x v → DataPost w B (if b = true then some x else none) (.returned (.tuple #[v, .bool b])) W := fun W v hb' ht => by
      cases b with
      | true => exact ⟨_, rfl, hb', fun t' h => by obtain rfl := Option.some.inj h; exact ht⟩
      | false => exact ⟨_, rfl, hb', fun t' h => by cases h⟩
    generalize (if b = true then some x else none) = R at hpost ⊢
    have HPOST := Lib.hid hpost
    have HV3 := Lib.hid hT
    clear hpost hT
    go_enter Try.func118, Try.ntmps118
    go_wp2_with (go_at_call 70; refine hfit.mono ?_; rintro e w4 ⟨rfl, hb4⟩)
    have hcall2 := hnorm w4 v3 (HV3.out.below hb4) (Nat.le_trans hB hb4.size)
    clear hnorm hfit
    refine hcall2.mono ?_
    rintro e w6 ⟨v6, rfl, hb6, hv6⟩
    have HV6 := Lib.hid hv6
    clear hv6 hcall2
    go_wp2_with fail
    go_ret2
    exact HPOST.out _ _ (below_trans hb4 hb6) HV6.out

theorem applyNormal_any (w : World) (B : Nat) (f a : Tm) (vf va : Value) (hf : TV w B f vf) (ha : TV w B a va) (hB : B ≤ w.heap.size) (hz : f.size + a.size ≤ 1000000000) :
    Calls Try.prog 87 #[vf, va] w (DataPost w B (Tm.endOf (.app f a))) := by
  have happ := apply_any w B f a vf va hf ha hB (by omega)
  clear hf ha
  go_enter Try.func87, Try.ntmps87
  go_wp2_with fail
  refine happ.mono ?_
  rintro e w2 ⟨v3, rfl, hb2, hv3⟩
  have hcall := normalFitting_any w2 B _ v3 hv3 (Nat.le_trans hB hb2.size)
  unfold DataPost at hcall
  clear hv3 happ
  go_wp2_with fail
  refine hcall.mono ?_
  rintro e w4 ⟨v4, rfl, hb4, hv4⟩
  have HV := Lib.hid hv4
  clear hv4 hcall
  generalize Tm.endOf (.app f a) = R at *
  go_wp2_with fail
  go_ret2
  exact ⟨_, rfl, below_trans hb2 hb4, HV.out⟩
end Go.Proofs.Ytipmgfbncfkmiaa
