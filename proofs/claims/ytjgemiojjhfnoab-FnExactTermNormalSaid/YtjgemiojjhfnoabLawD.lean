/-
  The walks of five laws: StepMany, TermNormal, NormalOf, ApplyOf, TermEqual.
-/
import Derived.Test.YtjgemiojjhfnoabSFnE
namespace Go.Proofs.Ytjgemiojjhfnoab
open Go.RowKit

set_option maxHeartbeats 1000000
set_option maxRecDepth 100000

theorem str_size (l : List UInt8) : (⟨l.toArray⟩ : ByteArray).size = l.length := by show l.toArray.size = _; simp

theorem law_many (w : World) (l : List UInt8) (n : Int) (_hn : (Lit.int .i64 n).wf = true) :
    Calls Try.prog 3 #[str l, .int .i64 n] w fun e w' => e = .returned (.bool true) ∧ After w w' := by
  have hsz := str_size l
  by_cases hbig : (1048576 : Int) < (l.length : Int)
  · go_enter Try.func3, Try.ntmps3
    go_wp2_with fail
    go_ret
    exact ⟨rfl, After.refl _⟩
  · have hs := fun W => spec_many W l n (by omega)
    have hi := fun W => impl_many W l n (by omega)
    unfold SNum at hs
    unfold NumRes at hi
    generalize ((Tm.pMany l n).map Prod.fst).getD [] = x at *
    generalize ((Tm.pMany l n).map Prod.snd).getD 0 = y at *
    generalize (Tm.pMany l n).isSome = b at *
    go_enter Try.func3, Try.ntmps3
    cases b
    all_goals
      go_wp2_with (first
        | (go_at_call 9; refine (hs _).mono ?_; rintro e w1 ⟨rfl, hb1⟩)
        | (go_at_call 10; refine (hi _).mono ?_; rintro e w2 ⟨rfl, hb2⟩))
      go_ret
      exact ⟨rfl, After.trans hb1 hb2⟩

theorem law_normal (w : World) (l : List UInt8) :
    Calls Try.prog 4 #[str l] w fun e w' => e = .returned (.bool true) ∧ After w w' := by
  have hsz := str_size l
  by_cases hbig : (1048576 : Int) < (l.length : Int)
  · go_enter Try.func4, Try.ntmps4
    go_wp2_with fail
    go_ret
    exact ⟨rfl, After.refl _⟩
  · have hs := fun W => spec_normal W l (by omega)
    have hi := fun W => impl_normal W l (by omega)
    generalize Tm.pNormal l = b at *
    go_enter Try.func4, Try.ntmps4
    cases b
    all_goals
      go_wp2_with (first
        | (go_at_call 11; refine (hs _).mono ?_; rintro e w1 ⟨rfl, hb1⟩)
        | (go_at_call 12; refine (hi _).mono ?_; rintro e w2 ⟨rfl, hb2⟩))
      go_ret
      exact ⟨rfl, After.trans hb1 hb2⟩

theorem law_norm (w : World) (l : List UInt8) :
    Calls Try.prog 5 #[str l] w fun e w' => e = .returned (.bool true) ∧ After w w' := by
  have hsz := str_size l
  by_cases hbig : (1048576 : Int) < (l.length : Int)
  · go_enter Try.func5, Try.ntmps5
    go_wp2_with fail
    go_ret
    exact ⟨rfl, After.refl _⟩
  · have hs := fun W => spec_norm W l (by omega)
    have hi := fun W => impl_norm W l (by omega)
    unfold SNum at hs
    unfold NumRes at hi
    generalize ((Tm.pNorm l).map Prod.fst).getD [] = x at *
    generalize ((Tm.pNorm l).map Prod.snd).getD 0 = y at *
    generalize (Tm.pNorm l).isSome = b at *
    go_enter Try.func5, Try.ntmps5
    cases b
    all_goals
      go_wp2_with (first
        | (go_at_call 13; refine (hs _).mono ?_; rintro e w1 ⟨rfl, hb1⟩)
        | (go_at_call 14; refine (hi _).mono ?_; rintro e w2 ⟨rfl, hb2⟩))
      go_ret
      exact ⟨rfl, After.trans hb1 hb2⟩

theorem law_apply (w : World) (l m : List UInt8) :
    Calls Try.prog 6 #[str l, str m] w fun e w' => e = .returned (.bool true) ∧ After w w' := by
  have hsz := str_size l
  have hsm := str_size m
  by_cases hbig : (1048576 : Int) < (l.length : Int)
  · go_enter Try.func6, Try.ntmps6
    go_wp2_with fail
    go_ret
    exact ⟨rfl, After.refl _⟩
  · by_cases hbig2 : (1048576 : Int) < (m.length : Int)
    · go_enter Try.func6, Try.ntmps6
      go_wp2_with fail
      go_ret
      exact ⟨rfl, After.refl _⟩
    · have hs := fun W => spec_apply W l m (by omega) (by omega)
      have hi := fun W => impl_apply W l m (by omega) (by omega)
      unfold SOne' at hs
      unfold TextRes' at hi
      generalize (Tm.pApply l m).getD [] = x at *
      generalize (Tm.pApply l m).isSome = b at *
      go_enter Try.func6, Try.ntmps6
      cases b
      all_goals
        go_wp2_with (first
          | (go_at_call 15; refine (hs _).mono ?_; rintro e w1 ⟨rfl, hb1⟩)
          | (go_at_call 16; refine (hi _).mono ?_; rintro e w2 ⟨rfl, hb2⟩))
        go_ret
        exact ⟨rfl, After.trans hb1 hb2⟩

theorem law_equal (w : World) (l m : List UInt8) :
    Calls Try.prog 7 #[str l, str m] w fun e w' => e = .returned (.bool true) ∧ After w w' := by
  have hsz := str_size l
  have hsm := str_size m
  by_cases hbig : (1048576 : Int) < (l.length : Int)
  · go_enter Try.func7, Try.ntmps7
    go_wp2_with fail
    go_ret
    exact ⟨rfl, After.refl _⟩
  · by_cases hbig2 : (1048576 : Int) < (m.length : Int)
    · go_enter Try.func7, Try.ntmps7
      go_wp2_with fail
      go_ret
      exact ⟨rfl, After.refl _⟩
    · have hs := fun W => spec_equal W l m (by omega) (by omega)
      have hi := fun W => impl_equal W l m (by omega) (by omega)
      generalize Tm.pEqual l m = b at *
      go_enter Try.func7, Try.ntmps7
      cases b
      all_goals
        go_wp2_with (first
          | (go_at_call 17; refine (hs _).mono ?_; rintro e w1 ⟨rfl, hb1⟩)
          | (go_at_call 18; refine (hi _).mono ?_; rintro e w2 ⟨rfl, hb2⟩))
        go_ret
        exact ⟨rfl, After.trans hb1 hb2⟩
end Go.Proofs.Ytjgemiojjhfnoab
