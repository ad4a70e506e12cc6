/-
  The walks of two laws: whatever the text, the program and the model answer alike.
-/
import Derived.Test.YtjgemiojjhfnoaaImpl
import Derived.Test.YtjgemiojjhfnoaaSFnA
namespace Go.Proofs.Ytjgemiojjhfnoaa
open Go.RowKit

set_option maxHeartbeats 1000000
set_option maxRecDepth 100000

theorem str_size (l : List UInt8) : (⟨l.toArray⟩ : ByteArray).size = l.length := by show l.toArray.size = _; simp

theorem law_valid (w : World) (l : List UInt8) :
    Calls Try.prog 3 #[str l] w fun e w' => e = .returned (.bool true) ∧ After w w' := by
  have hsz := str_size l
  by_cases hbig : (1048576 : Int) < (l.length : Int)
  · go_enter Try.func3, Try.ntmps3
    go_wp2_with fail
    go_ret
    exact ⟨rfl, After.refl _⟩
  · have hs := fun W => spec_valid W l (by omega)
    have hi := fun W => impl_valid W l (by omega)
    generalize (Tm.parse l).isSome = b at *
    go_enter Try.func3, Try.ntmps3
    cases b
    all_goals
      go_wp2_with (first
        | (go_at_call 9; refine (hs _).mono ?_; rintro e w1 ⟨rfl, hb1⟩)
        | (go_at_call 10; refine (hi _).mono ?_; rintro e w2 ⟨rfl, hb2⟩))
      go_ret
      exact ⟨rfl, After.trans hb1 hb2⟩

theorem law_size (w : World) (l : List UInt8) :
    Calls Try.prog 4 #[str l] w fun e w' => e = .returned (.bool true) ∧ After w w' := by
  have hsz := str_size l
  by_cases hbig : (1048576 : Int) < (l.length : Int)
  · go_enter Try.func4, Try.ntmps4
    go_wp2_with fail
    go_ret
    exact ⟨rfl, After.refl _⟩
  · have hs := fun W => spec_size W l (by omega)
    have hi := fun W => impl_size W l (by omega)
    generalize Tm.pSize l = b at *
    go_enter Try.func4, Try.ntmps4
    go_wp2_with (first
      | (go_at_call 11; refine (hs _).mono ?_; rintro e w1 ⟨rfl, hb1⟩)
      | (go_at_call 12; refine (hi _).mono ?_; rintro e w2 ⟨rfl, hb2⟩))
    go_ret
    exact ⟨rfl, After.trans hb1 hb2⟩
end Go.Proofs.Ytjgemiojjhfnoaa
