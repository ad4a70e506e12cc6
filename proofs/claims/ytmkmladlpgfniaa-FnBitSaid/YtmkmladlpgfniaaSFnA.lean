/-
  The model's exported functions: TermValid, TermSize, TermClosed.
-/
import Derived.Test.YtmkmladlpgfniaaPkSRead
namespace Go.Proofs.Ytmkmladlpgfniaa
open Go.RowKit

set_option maxHeartbeats 1000000
set_option maxRecDepth 100000

theorem spec_valid (w : World) (l : List UInt8) (hl : l.length ≤ 1000000000) :
    Calls Try.prog 11 #[str l] w fun e w' => e = .returned (.bool (Tm.parse l).isSome) ∧ After w w' := by
  have hterm := s_term w l hl
  unfold STermPost at hterm
  generalize (Tm.parse l).isSome = b at *
  go_enter Try.func11, Try.ntmps11
  go_wp2_with (go_at_call 34; refine hterm.mono ?_; rintro e w1 ⟨s1, ao1, n1, c1, rfl, hb1, ht1⟩; clear ht1)
  go_ret
  exact ⟨rfl, After.alloc hb1 _⟩

end Go.Proofs.Ytmkmladlpgfniaa
