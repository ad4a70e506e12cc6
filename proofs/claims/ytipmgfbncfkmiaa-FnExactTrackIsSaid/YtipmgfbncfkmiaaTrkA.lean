/-
  TrackAfter: what it answers; the program's function.
-/
import Derived.Test.YtipmgfbncfkmiaaPkU
import Derived.Test.YtipmgfbncfkmiaaPkB
import Derived.Test.YtipmgfbncfkmiaaPkA
namespace Go.Proofs.Ytipmgfbncfkmiaa
open Go.RowKit

set_option maxHeartbeats 1000000
set_option maxRecDepth 100000

namespace Tm
theorem abs_good' (x : List UInt8) : ∀ {t : Tm}, t.good = true → (Tm.abs x t).good = true
  | .k, _ => by simp [abs, good]
  | .s, _ => by simp [abs, good]
  | .nm n, h => by
    by_cases hn : n = x
    · simp [abs, hn]; decide +kernel
    · simp [abs, hn, good] at h ⊢; exact h
  | .app f a, h => by
    simp only [good, Bool.and_eq_true] at h
    have hf := abs_good' x h.1
    have ha := abs_good' x h.2
    rw [abs]
    split
    · simp [good, h.1, h.2]
    · split
      · exact h.1
      · simp [good, hf, ha]

/-- One after the other. -/
def afterT (t u : Tm) : Tm := abs [120] (app u (app t (nm [120])))
def pAfter (l m : List UInt8) : Option (List UInt8) := (closedOf l).bind fun t => (closedOf m).bind fun u => if (afterT t u).fits = true then some (afterT t u).text else none

theorem text_fits {t : Tm} (hg : t.good = true) (hf : t.fits = true) : t.text.length ≤ 1000000 := by
  have htm := Tm.text_le _ hg
  have hsm := fits_size hf
  omega

theorem after_facts {l m : List UInt8} {t u : Tm} (h : closedOf l = some t) (g : closedOf m = some u) :
    (afterT t u).good = true ∧ (afterT t u).size ≤ 30000 ∧ (app u (app t (nm [120]))).good = true ∧ (app u (app t (nm [120]))).size ≤ 7000 := by
  obtain ⟨hg, hf, hs, _, _⟩ := parse_facts (closed_facts h).1
  obtain ⟨hgu, hfu, hsu, _, _⟩ := parse_facts (closed_facts g).1
  have hx : (nm [120]).good = true := by decide +kernel
  have hi : (app u (app t (nm [120]))).good = true := by simp [good, hg, hgu]; exact hx
  have hz : (app u (app t (nm [120]))).size ≤ 7000 := by simp only [size]; omega
  have := abs_size [120] (app u (app t (nm [120])))
  exact ⟨abs_good' _ hi, by unfold afterT; omega, hi, hz⟩
end Tm

/-- A text handed back, or nothing. -/
def ARes (w : World) (r : Option (List UInt8)) (e : Ending) (w' : World) : Prop :=
  e = .returned (.tuple #[str (r.getD []), .bool r.isSome]) ∧ After w w'

end Go.Proofs.Ytipmgfbncfkmiaa
