/-
  The walk of the law of TermStep: whatever the text, the program and the model answer alike.
-/
import Derived.Test.YtjgemiojjhfnoaaSFnB
import Derived.Test.YtjgemiojjhfnoaaLawA
namespace Go.Proofs.Ytjgemiojjhfnoaa
open Go.RowKit

set_option maxHeartbeats 1000000
set_option maxRecDepth 100000

theorem law_step (w : World) (l : List UInt8) :
    Calls Try.prog 8 #[str l] w fun e w' => e = .returned (.bool true) ∧ After w w' := by
  have hsz := str_size l
  by_cases hbig : (1048576 : Int) < (l.length : Int)
  · go_enter Try.func8, Try.ntmps8
    go_wp2_with fail
    go_ret
    exact ⟨rfl, After.refl _⟩
  · have hs := fun W => spec_step W l (by omega)
    have hi := fun W => impl_step W l (by omega)
    unfold SText at hs
    unfold TextRes at hi
    generalize (Tm.pStep l).getD [] = x at *
    generalize (Tm.pStep l).isSome = b at *
    go_enter Try.func8, Try.ntmps8
    cases b
    all_goals
      go_wp2_with (first
        | (go_at_call 22; refine (hs _).mono ?_; rintro e w1 ⟨rfl, hb1⟩)
        | (go_at_call 23; refine (hi _).mono ?_; rintro e w2 ⟨rfl, hb2⟩))
      go_ret
      exact ⟨rfl, After.trans hb1 hb2⟩
end Go.Proofs.Ytjgemiojjhfnoaa
