/-
  The walks of the laws of TermNames and TermClosed.
-/
import Derived.Test.YtjgemiojjhfnoaaSFnF
import Derived.Test.YtjgemiojjhfnoaaMark
import Derived.Test.YtjgemiojjhfnoaaLawA
namespace Go.Proofs.Ytjgemiojjhfnoaa
open Go.RowKit

set_option maxHeartbeats 1000000
set_option maxRecDepth 100000

theorem law_closed (w : World) (l : List UInt8) :
    Calls Try.prog 6 #[str l] w fun e w' => e = .returned (.bool true) ∧ After w w' := by
  have hsz := str_size l
  by_cases hbig : (1048576 : Int) < (l.length : Int)
  · go_enter Try.func6, Try.ntmps6
    go_wp2_with fail
    go_ret
    exact ⟨rfl, After.refl _⟩
  · have hs := fun W => spec_closed W l (by omega)
    have hi := fun W => impl_closed W l (by omega)
    generalize Tm.pClosed l = b at *
    go_enter Try.func6, Try.ntmps6
    cases b
    all_goals
      go_wp2_with (first
        | (go_at_call 18; refine (hs _).mono ?_; rintro e w1 ⟨rfl, hb1⟩)
        | (go_at_call 19; refine (hi _).mono ?_; rintro e w2 ⟨rfl, hb2⟩))
      go_ret
      exact ⟨rfl, After.trans hb1 hb2⟩

theorem ownsRow_after {w w' : World} {base n size : Nat} {T : TypeId} {v : Value} {xs : List Value} (h : w.ownsRow base T size v n xs) (hb : After w w') : w'.ownsRow base T size v n xs :=
  h.kept (grew_after hb) (by cases v.ownBlock with | none => exact Or.inl rfl | some k => exact Or.inr (by simp))

theorem After.grew {w a b : World} {r : Option Nat} (h : After w a) (hg : a.grownBy b r) (hr : ∀ k, r = some k → w.heap.size ≤ k) : After w b := Below.grown h hg h.size hr

theorem pNames_len (l : List UInt8) : ((Tm.pNames l).getD []).length ≤ 3000 := by
  unfold Tm.pNames
  cases hp : Tm.parse l with
  | none => simp
  | some t =>
    obtain ⟨_, _, hs, _, _⟩ := Tm.parse_facts hp
    have := Tm.names_len t []
    simp at this ⊢
    omega

theorem law_names (w : World) (l : List UInt8) :
    Calls Try.prog 5 #[str l] w fun e w' => e = .returned (.bool true) ∧ After w w' := by
  have hsz := str_size l
  by_cases hbig : (1048576 : Int) < (l.length : Int)
  · go_enter Try.func5, Try.ntmps5
    go_wp2_with fail
    go_ret
    exact ⟨rfl, After.refl _⟩
  · have hs := fun W => spec_names W l (by omega)
    have hi := fun W => impl_names W l (by omega)
    have hlen := pNames_len l
    unfold SNamesRes at hs
    unfold NamesRes at hi
    generalize (Tm.pNames l).getD [] = ns at *
    generalize (Tm.pNames l).isSome = b at *
    obtain ⟨z, hz⟩ : ∃ z, z = 1 + ns.length := ⟨_, rfl⟩
    have hmark : ∀ W base sv, W.ownsRow base 9 1 sv ns.length (ns.map str) → Calls Try.prog 16 #[sv, .int .i64 1] W fun e w' => e = .returned (.int .i64 ((z : Nat) : Int)) ∧ w'.ownsRow base 9 1 sv ns.length ((marks 1 ns.length).map str) ∧ W.grownBy w' sv.ownBlock := fun W base sv h => by
      rw [hz]; exact l_mark W base sv ns 1 h (by omega) (by omega)
    have hheld : ∀ W base sv, W.ownsRow base 9 1 sv ns.length ((marks 1 ns.length).map str) → Calls Try.prog 17 #[sv, .int .i64 1] W fun e w' => e = .returned (.int .i64 ((z : Nat) : Int)) ∧ After W w' := fun W base sv h => by
      rw [hz]
      have h' : W.ownsRow base 9 1 sv (marks 1 ns.length).length ((marks 1 ns.length).map str) := by rw [marks_len]; exact h
      exact l_held W sv ns.length 1 (ownsRow_strs h') (by omega) (by omega)
    have heq : ∀ W a b base base', W.ownsRow base 9 1 a ns.length (ns.map str) → W.ownsRow base' 9 1 b ns.length (ns.map str) → Calls Try.prog 15 #[a, b] W fun e w' => e = .returned (.bool true) ∧ After W w' := fun W a b base base' h1 h2 =>
      l_eq W a b ns (ownsRow_strs h1) (ownsRow_strs h2) (by omega)
    have HS := Lib.hid hs
    have HI := Lib.hid hi
    have HM := Lib.hid hmark
    have HH := Lib.hid hheld
    have HE := Lib.hid heq
    clear hs hi hmark hheld heq hz hlen
    go_enter Try.func5, Try.ntmps5
    cases b
    all_goals
      go_wp2_with fail
      refine (HS.out _).mono ?_
      rintro e w1 ⟨sv0, rfl, hb1, ho1⟩
      have HO1 := Lib.hid ho1
      clear ho1
      go_wp2_with fail
      refine (HI.out _).mono ?_
      rintro e w2 ⟨sv1, rfl, hb2, ho2⟩
      have HO1b := Lib.hid (ownsRow_after HO1.out hb2)
      have HO2 := Lib.hid ho2
      have hA2 := After.trans hb1 hb2
      clear ho2
      go_wp2_with fail
      refine (HE.out w2 _ _ _ _ HO2.out HO1b.out).mono ?_
      rintro e w3 ⟨rfl, hb3⟩
      have HO2c := Lib.hid (ownsRow_after HO2.out hb3)
      have HO1c := Lib.hid (ownsRow_after HO1b.out hb3)
      have hA3 := hA2.trans hb3
      go_wp2_with fail
      refine (HM.out w3 _ _ HO2c.out).mono ?_
      rintro e w4 ⟨rfl, ho4, hg4⟩
      have HO2d := Lib.hid ho4
      have HO1d := Lib.hid (HO1c.out.kept hg4 (by
        cases hv : sv0.ownBlock with
        | none => exact Or.inl rfl
        | some k =>
          refine Or.inr fun e => ?_
          have h1 := HO1.out.lt k hv
          have h2 := HO2.out.lt k e.symm
          omega))
      have hA4 := hA3.grew hg4 (fun k hk => by have h1 := HO2.out.lt k hk; have h2 := hb1.size; omega)
      clear ho4 hg4
      go_wp2_with fail
      refine (HH.out w4 _ _ HO2d.out).mono ?_
      rintro e w5 ⟨rfl, hb5⟩
      have HO2e := Lib.hid (ownsRow_after HO2d.out hb5)
      have HO1e := Lib.hid (ownsRow_after HO1d.out hb5)
      have hA5 := hA4.trans hb5
      go_wp2_with fail
      refine (HI.out _).mono ?_
      rintro e w6 ⟨sv2, rfl, hb6, ho6⟩
      have HO6 := Lib.hid ho6
      have HO2f := Lib.hid (ownsRow_after HO2e.out hb6)
      have HO1f := Lib.hid (ownsRow_after HO1e.out hb6)
      have hA6 := hA5.trans hb6
      clear ho6
      go_wp2_with fail
      refine (HE.out w6 _ _ _ _ HO6.out HO1f.out).mono ?_
      rintro e w7 ⟨rfl, hb7⟩
      have HO2g := Lib.hid (ownsRow_after HO2f.out hb7)
      have hA7 := hA6.trans hb7
      go_wp2_with fail
      refine (HH.out w7 _ _ HO2g.out).mono ?_
      rintro e w8 ⟨rfl, hb8⟩
      go_wp2_with fail
      go_ret
      exact ⟨rfl, hA7.trans hb8⟩
end Go.Proofs.Ytjgemiojjhfnoaa
