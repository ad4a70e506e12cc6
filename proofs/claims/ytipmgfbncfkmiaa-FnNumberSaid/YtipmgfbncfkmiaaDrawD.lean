/-
  The drawing of inputs: pairs, numerals, truth values.
-/
import Derived.Test.YtipmgfbncfkmiaaPkD
import Derived.Test.YtipmgfbncfkmiaaPkR
import Derived.Test.YtipmgfbncfkmiaaSData
import Derived.Test.YtipmgfbncfkmiaaPkB
namespace Go.Proofs.Ytipmgfbncfkmiaa
open Go.RowKit

set_option maxHeartbeats 1000000
set_option maxRecDepth 100000

theorem pair_len {l m x : List UInt8} (h : pPair l m = some x) : x.length ≤ 21000 := by
  unfold pPair at h
  cases hp : Tm.parse l with
  | none => rw [hp] at h; simp at h
  | some t =>
    cases hq : Tm.parse m with
    | none => rw [hp, hq] at h; simp at h
    | some u =>
      rw [hp, hq] at h
      simp only at h
      split at h
      · rename_i hf
        obtain rfl := Option.some.inj h
        have hg : (Tm.pair t u).good = true := by rw [Tm.good_pair, (Tm.parse_facts hp).1, (Tm.parse_facts hq).1]; rfl
        have := Tm.text_le _ hg
        have := fits_size hf
        omega
      · cases h

theorem num_len (k : Nat) (hk : k ≤ 60) : (Tm.num k).text.length ≤ 5000 := by
  have h1 := Tm.text_le _ (Tm.good_num k)
  have h2 := Tm.size_num k
  omega

theorem pNumber_nat (k : Nat) (hk : k ≤ 60) : pNumber (k : Int) = some (Tm.num k).text := by
  unfold pNumber
  rw [if_pos (by omega)]
  rfl

def sgL : List (List UInt8) := [[115, 117, 99, 99], [112, 114, 101, 100]]

end Go.Proofs.Ytipmgfbncfkmiaa
