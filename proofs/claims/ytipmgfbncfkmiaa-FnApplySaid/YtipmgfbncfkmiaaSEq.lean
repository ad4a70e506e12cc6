/-
  The model's TermEqual.
-/
import Derived.Test.YtipmgfbncfkmiaaPkU
namespace Go.Proofs.Ytipmgfbncfkmiaa
open Go.RowKit

set_option maxHeartbeats 1000000
set_option maxRecDepth 100000

theorem spec_equal (w : World) (l m : List UInt8) (hl : l.length ≤ 1000000000) (hm : m.length ≤ 1000000000) :
    Calls Try.prog 44 #[str l, str m] w fun e w' => e = .returned (.bool (Tm.pEqual l m)) ∧ After w w' := by
  have h1 := spec_norm w l hl
  have h2 := fun W => spec_norm W m hm
  unfold SNum at h1 h2
  unfold Tm.pEqual
  cases hp : Tm.pNorm l with
  | none =>
    rw [hp] at h1
    generalize (Option.map Prod.fst (Tm.pNorm m)).getD [] = x at h2
    generalize (Option.map Prod.snd (Tm.pNorm m)).getD 0 = y at h2
    generalize (Tm.pNorm m).isSome = z at h2
    go_enter Try.func44, Try.ntmps44
    go_wp2_with fail
    refine h1.mono ?_
    rintro e w1 ⟨rfl, hb1⟩
    go_wp2_with (go_at_call 38; refine (h2 _).mono ?_; rintro e w2 ⟨rfl, hb2⟩)
    go_ret
    exact ⟨rfl, hb1.trans hb2⟩
  | some p =>
    obtain ⟨x, i⟩ := p
    rw [hp] at h1
    simp only [Option.map_some, Option.getD_some, Option.isSome_some] at h1
    cases hq : Tm.pNorm m with
    | none =>
      rw [hq] at h2
      clear hp hq
      go_enter Try.func44, Try.ntmps44
      go_wp2_with fail
      refine h1.mono ?_
      rintro e w1 ⟨rfl, hb1⟩
      go_wp2_with (go_at_call 38; refine (h2 _).mono ?_; rintro e w2 ⟨rfl, hb2⟩)
      go_ret
      exact ⟨rfl, hb1.trans hb2⟩
    | some q =>
      obtain ⟨y, j⟩ := q
      rw [hq] at h2
      simp only [Option.map_some, Option.getD_some, Option.isSome_some] at h2
      clear hp hq
      obtain ⟨b, hb⟩ : ∃ b, b = decide (x = y) := ⟨_, rfl⟩
      simp only [← hb]
      have hxy : (x == y) = b := by rw [hb]; exact Bool.eq_iff_iff.2 (by rw [beq_iff_eq, decide_eq_true_eq])
      clear hb
      cases b
      all_goals
        try simp only [beq_iff_eq] at hxy
        try subst hxy
        go_enter Try.func44, Try.ntmps44
        go_wp2_with fail
        refine h1.mono ?_
        rintro e w1 ⟨rfl, hb1⟩
        go_wp2_with (go_at_call 38; refine (h2 _).mono ?_; rintro e w2 ⟨rfl, hb2⟩)
        go_ret
        exact ⟨rfl, hb1.trans hb2⟩
end Go.Proofs.Ytipmgfbncfkmiaa
