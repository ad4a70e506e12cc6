/-
  Plain mathematics of the promise of tracking one after the other.
-/
import Derived.Test.YtjfdindlfakmcaaPkK
import Derived.Test.YtjfdindlfakmcaaPkW
namespace Go.Proofs.Ytjfdindlfakmcaa
open Go.RowKit

set_option maxRecDepth 100000

namespace Tm
theorem afterT_star {t u : Tm} (ht : ∀ n, has n t = false) (hu : ∀ n, has n u = false) (a : Tm) : Star (app (afterT t u) a) (app u (app t a)) := by
  have h := abs_star [120] a (app u (app t (nm [120])))
  have e : put (app u (app t (nm [120]))) [120] a = app u (app t a) := by
    show app (put u [120] a) (app (put t [120] a) (put (nm [120]) [120] a)) = _
    rw [put_closed hu, put_closed ht]
    simp [put]
  rw [e] at h
  exact h

theorem afterT_has {t u : Tm} (ht : ∀ n, has n t = false) (hu : ∀ n, has n u = false) (n : List UInt8) : has n (afterT t u) = false := by
  cases hc : has n (afterT t u) with
  | false => rfl
  | true =>
    obtain ⟨h1, h2⟩ := has_abs n [120] _ hc
    simp only [has, hu n, ht n, Bool.false_or] at h1
    have : n = [120] := by
      have := h1
      simp at this
      exact this.symm
    exact (h2 this).elim

def kA (x : List UInt8) : List UInt8 := 40 :: (x ++ 32 :: ([107] ++ [41]))
def mlK (l m : List UInt8) : List UInt8 := 40 :: (m ++ 32 :: ((40 :: (l ++ 32 :: ([107] ++ [41]))) ++ [41]))

theorem pAfter_facts {l m x : List UInt8} (h : pAfter l m = some x) : pClosed x = true ∧ x.length ≤ 21000 ∧ l.length ≤ 21000 ∧ m.length ≤ 21000 ∧
    ∀ a i b j, pNorm (kA x) = some (a, i) → pNorm (mlK l m) = some (b, j) → a = b := by
  unfold pAfter at h
  obtain ⟨t, ht, h2⟩ := Option.bind_eq_some_iff.1 h
  obtain ⟨u, hu, h3⟩ := Option.bind_eq_some_iff.1 h2
  split at h3
  · rename_i hf
    obtain rfl := Option.some.inj h3
    obtain ⟨hp, e1, hg, hft, hn⟩ := closedOf_facts ht
    obtain ⟨hp2, e2, hg2, hft2, hn2⟩ := closedOf_facts hu
    have hga := (after_facts ht hu).1
    refine ⟨closed_text hga hf (afterT_has hn hn2), (parse_facts (parse_text hga hf)).2.2.2.2, by rw [e1]; exact (parse_facts hp).2.2.2.2, by rw [e2]; exact (parse_facts hp2).2.2.2.2, fun a i b j ha hb => ?_⟩
    have ha' : pNorm (app (afterT t u) k).text = some (a, i) := ha
    rw [e1, e2] at hb
    have hb' : pNorm (app u (app t k)).text = some (b, j) := hb
    exact same_end (V := app u (app t k)) (by simp [good, hga]) (by simp [good, hg, hg2]) (afterT_star hn hn2 k) (.refl _) ha' hb'
  · cases h3
end Tm
end Go.Proofs.Ytjfdindlfakmcaa
