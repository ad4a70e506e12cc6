/-
  Names of abstractions.
-/
import Derived.Test.YtfjohagdlaiapaaPkK
namespace Go.Proofs.Ytfjohagdlaiapaa

set_option maxRecDepth 100000

namespace Tm
theorem has_abs (n x : List UInt8) : ∀ t : Tm, has n (abs x t) = true → has n t = true ∧ n ≠ x
  | k, h => by simp [abs, has] at h
  | s, h => by simp [abs, has] at h
  | nm m, h => by
    by_cases e : m = x
    · simp [abs, e, I, has] at h
    · simp only [abs, e, if_false, has, Bool.false_or] at h
      have hm : m = n := by simpa [has] using h
      exact ⟨by simp [has, hm], fun e2 => e (by rw [hm, e2])⟩
  | app f a, h => by
    have hu := uses_has x (app f a)
    simp only [abs] at h
    split at h
    · rename_i h0
      have h' : has n (app f a) = true := by simpa [has] using h
      refine ⟨h', fun e => ?_⟩
      subst e
      rw [hu.2 h0] at h'
      cases h'
    · split at h
      · rename_i h1
        have h' : has n (app f a) = true := by simp [has, h]
        refine ⟨h', fun e => ?_⟩
        subst e
        rw [(uses_has n f).2 h1.2] at h
        cases h
      · simp only [has, Bool.false_or, Bool.or_eq_true] at h
        rcases h with h | h
        · obtain ⟨h1, h2⟩ := has_abs n x f h
          exact ⟨by simp [has, h1], h2⟩
        · obtain ⟨h1, h2⟩ := has_abs n x a h
          exact ⟨by simp [has, h1], h2⟩

end Tm
end Go.Proofs.Ytfjohagdlaiapaa
