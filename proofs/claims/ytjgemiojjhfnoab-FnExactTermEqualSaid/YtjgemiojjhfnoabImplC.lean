/-
  The program's exported functions ApplyOf, TermEqual against the plain mathematics.
-/
import Derived.Test.YtjgemiojjhfnoabImplB
namespace Go.Proofs.Ytjgemiojjhfnoab
open Go.RowKit

set_option maxHeartbeats 400000
set_option maxRecDepth 100000

/-- A text handed back, or nothing. -/
def TextRes' (w : World) (r : Option (List UInt8)) (e : Ending) (w' : World) : Prop :=
  e = .returned (.tuple #[str (r.getD []), .bool r.isSome]) ∧ Below w.heap.size w w'

theorem impl_apply (w : World) (l m : List UInt8) (hl : l.length ≤ 1000000000) (hm : m.length ≤ 1000000000) :
    Calls Try.prog 16 #[str l, str m] w (TextRes' w (Tm.pApply l m)) := by
  have hread := readBoth_any w w.heap.size l m (Nat.le_refl _) hl hm
  unfold BothPost at hread
  by_cases hb : ((Tm.parse l).isSome && (Tm.parse m).isSome) = false
  · have hfin : Tm.pApply l m = none := by
      unfold Tm.pApply
      split
      · rename_i h1 h2; rw [h1, h2] at hb; simp at hb
      · rfl
    rw [hfin]
    rw [hb] at hread
    clear hfin hb
    go_enter Try.func16, Try.ntmps16
    go_wp2_with (go_at_call 32; refine hread.mono ?_; rintro e w1 ⟨v1, v2, rfl, hb1, hv1⟩; clear hv1)
    go_ret2
    exact ⟨rfl, hb1⟩
  · have hb' : ((Tm.parse l).isSome && (Tm.parse m).isSome) = true := by rw [Bool.not_eq_false] at hb; exact hb
    rw [Bool.and_eq_true, Option.isSome_iff_exists, Option.isSome_iff_exists] at hb'
    obtain ⟨⟨t, hp⟩, ⟨u, hq⟩⟩ := hb'
    rw [hp, hq] at hread
    simp only [Option.isSome_some, Bool.and_self] at hread
    clear hb
    obtain ⟨hg, hf, hs, _, _⟩ := Tm.parse_facts hp
    obtain ⟨hgu, hfu, hsu, _, _⟩ := Tm.parse_facts hq
    have hga : (t.app u).good = true := by simp [Tm.good, hg, hgu]
    cases hfa : (t.app u).fits with
    | false =>
      have hfin : Tm.pApply l m = none := by simp [Tm.pApply, hp, hq, hfa]
      rw [hfin]
      clear hfin
      go_enter Try.func16, Try.ntmps16
      go_wp2_with fail
      refine hread.mono ?_
      rintro e w1 ⟨v1, v2, rfl, hb1, hv1⟩
      obtain ⟨ht1, ht2⟩ := hv1 t u rfl rfl
      clear hv1 hread hp hq
      go_wp2_with fail
      refine (apply_any _ _ t u v1 v2 ht1 ht2 hb1.size (by omega)).mono ?_
      rintro e w2 ⟨v3, rfl, hb2, hv3⟩
      have hfit := fits_any w2 _ _ v3 hv3
      rw [hfa] at hfit
      go_wp2_with (go_at_call 34; refine hfit.mono ?_; rintro e w4 ⟨rfl, hb4⟩)
      go_ret2
      exact ⟨rfl, below_trans (below_trans hb1 hb2) hb4⟩
    | true =>
      obtain ⟨hgm, hfm⟩ := Tm.many_good 6000 _ hga hfa
      have htm := Tm.text_le _ hgm
      have hsm := fits_size hfm
      have hnorm := fun W v h hB => normalTerm_any W w.heap.size (t.app u) v h hB hfa
      unfold NormPost at hnorm
      have hne := norm_eq (t.app u)
      generalize hmm : (t.app u).many 6000 = mm at *
      clear hmm
      obtain ⟨x, c⟩ := mm
      simp only at hne hnorm hgm hfm htm hsm
      generalize hb : x.normal = b at *
      have hfin : Tm.pApply l m = if b = true then some x.text else none := by
        simp only [Tm.pApply, hp, hq, hfa, hne, if_true]
        cases b <;> rfl
      rw [hfin]
      clear hne hb hfin
      cases b
      all_goals
        simp only [if_true, Bool.false_eq_true, if_false]
        go_enter Try.func16, Try.ntmps16
        go_wp2_with fail
        refine hread.mono ?_
        rintro e w1 ⟨v1, v2, rfl, hb1, hv1⟩
        obtain ⟨ht1, ht2⟩ := hv1 t u rfl rfl
        clear hv1 hread hp hq
        go_wp2_with fail
        refine (apply_any _ _ t u v1 v2 ht1 ht2 hb1.size (by omega)).mono ?_
        rintro e w2 ⟨v3, rfl, hb2, hv3⟩
        have hfit := fits_any w2 _ _ v3 hv3
        rw [hfa] at hfit
        have HV3 := Lib.hid hv3
        clear hv3
        have hcall := fun W hB hB' => hnorm W v3 (HV3.out.below hB) hB'
        go_wp2_with (go_at_call 34; refine hfit.mono ?_; rintro e w4 ⟨rfl, hb4⟩)
        have hb5 := below_trans (below_trans hb1 hb2) hb4
        have hcall2 := hcall w4 hb4 hb5.size
        clear hcall hnorm
        go_wp2_with (first
          | (go_at_call 29; refine hcall2.mono ?_; rintro e w6 ⟨v6, rfl, hb6, hv6⟩; have HV6 := Lib.hid hv6; clear hv6)
          | (go_at_call 27; refine (textOf_any _ _ x _ HV6.out hgm (by omega)).mono ?_; rintro e w7 ⟨rfl, hb7⟩))
        go_ret2
        first
          | exact ⟨rfl, below_trans (below_trans hb5 hb6) hb7⟩
          | exact ⟨rfl, below_trans hb5 hb6⟩

theorem impl_equal (w : World) (l m : List UInt8) (hl : l.length ≤ 1000000000) (hm : m.length ≤ 1000000000) :
    Calls Try.prog 18 #[str l, str m] w fun e w' => e = .returned (.bool (Tm.pEqual l m)) ∧ Below w.heap.size w w' := by
  have h1 := impl_norm w l hl
  have h2 := fun W => impl_norm W m hm
  unfold NumRes at h1 h2
  unfold Tm.pEqual
  cases hp : Tm.pNorm l with
  | none =>
    rw [hp] at h1
    go_enter Try.func18, Try.ntmps18
    go_wp2_with (go_at_call 14; refine h1.mono ?_; rintro e w1 ⟨rfl, hb1⟩)
    go_ret
    exact ⟨rfl, hb1⟩
  | some p =>
    obtain ⟨x, i⟩ := p
    rw [hp] at h1
    simp only [Option.map_some, Option.getD_some, Option.isSome_some] at h1
    cases hq : Tm.pNorm m with
    | none =>
      rw [hq] at h2
      clear hp hq
      go_enter Try.func18, Try.ntmps18
      go_wp2_with fail
      refine h1.mono ?_
      rintro e w1 ⟨rfl, hb1⟩
      go_wp2_with (go_at_call 14; refine (h2 _).mono ?_; rintro e w2 ⟨rfl, hb2⟩)
      go_ret
      exact ⟨rfl, below_trans hb1 hb2⟩
    | some q =>
      obtain ⟨y, j⟩ := q
      rw [hq] at h2
      simp only [Option.map_some, Option.getD_some, Option.isSome_some] at h2
      clear hp hq
      obtain ⟨b, hb⟩ : ∃ b, b = decide (x = y) := ⟨_, rfl⟩
      simp only [← hb]
      have hxy : (x == y) = b := by rw [hb]; exact Bool.eq_iff_iff.2 (by rw [beq_iff_eq, decide_eq_true_eq])
      clear hb
      cases b
      all_goals
        try simp only [beq_iff_eq] at hxy
        try subst hxy
        go_enter Try.func18, Try.ntmps18
        go_wp2_with fail
        refine h1.mono ?_
        rintro e w1 ⟨rfl, hb1⟩
        go_wp2_with (go_at_call 14; refine (h2 _).mono ?_; rintro e w2 ⟨rfl, hb2⟩)
        go_ret
        exact ⟨rfl, below_trans hb1 hb2⟩
end Go.Proofs.Ytjgemiojjhfnoab
