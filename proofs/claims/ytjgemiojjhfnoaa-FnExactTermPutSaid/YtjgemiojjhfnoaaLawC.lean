/-
  The walk of the law of TermPut: whatever the texts, the program and the model answer alike.
-/
import Derived.Test.YtjgemiojjhfnoaaSFnC
import Derived.Test.YtjgemiojjhfnoaaImplPut
import Derived.Test.YtjgemiojjhfnoaaLawA
namespace Go.Proofs.Ytjgemiojjhfnoaa
open Go.RowKit

set_option maxHeartbeats 1000000
set_option maxRecDepth 100000

theorem law_put (w : World) (l n m : List UInt8) :
    Calls Try.prog 7 #[str l, str n, str m] w fun e w' => e = .returned (.bool true) ∧ After w w' := by
  have hsz := str_size l
  have hsn := str_size n
  have hsm := str_size m
  by_cases hbig : (1048576 : Int) < (l.length : Int)
  · go_enter Try.func7, Try.ntmps7
    go_wp2_with fail
    go_ret
    exact ⟨rfl, After.refl _⟩
  · by_cases hbig2 : (1048576 : Int) < (n.length : Int)
    · go_enter Try.func7, Try.ntmps7
      go_wp2_with fail
      go_ret
      exact ⟨rfl, After.refl _⟩
    · by_cases hbig3 : (1048576 : Int) < (m.length : Int)
      · go_enter Try.func7, Try.ntmps7
        go_wp2_with fail
        go_ret
        exact ⟨rfl, After.refl _⟩
      · have hs := fun W => spec_put W l n m (by omega) (by omega) (by omega)
        have hi := fun W => impl_put W l n m (by omega) (by omega) (by omega)
        unfold SOne at hs
        unfold TextRes at hi
        generalize (Tm.pPut l n m).getD [] = x at *
        generalize (Tm.pPut l n m).isSome = b at *
        go_enter Try.func7, Try.ntmps7
        cases b
        all_goals
          go_wp2_with (first
            | (go_at_call 20; refine (hs _).mono ?_; rintro e w1 ⟨rfl, hb1⟩)
            | (go_at_call 21; refine (hi _).mono ?_; rintro e w2 ⟨rfl, hb2⟩))
          go_ret
          exact ⟨rfl, After.trans hb1 hb2⟩
end Go.Proofs.Ytjgemiojjhfnoaa
