/-
  The walks of six promises' laws of chapter 4: codes, the interpreter, words, quoting, fixed points: whatever the code, the law returns true.
-/
import Derived.Test.YtfjohagdlaiapaaGreatPkK
import Derived.Test.YtfjohagdlaiapaaGreatPkW
import Derived.Test.YtfjohagdlaiapaaGreatPkYR
import Derived.Test.YtfjohagdlaiapaaGreatPkT
import Derived.Test.YtfjohagdlaiapaaGreatPkU
namespace Go.Proofs.YtfjohagdlaiapaaGreat
open Go.RowKit

set_option maxHeartbeats 1000000
set_option maxRecDepth 100000

theorem run_k : Tm.endOf (Tm.app Tm.runC Tm.kC) = some .k := by kernel_rfl
theorem apply_run_k : Tm.pApply Tm.runC.text Tm.kC.text = some [107] := by
  have h1 : Tm.parse Tm.runC.text = some Tm.runC := Tm.parse_text Tm.runC_good (by decide +kernel)
  have h2 : Tm.parse Tm.kC.text = some Tm.kC := Tm.parse_text (by decide +kernel) (by decide +kernel)
  rw [Tm.pApply_norm h1 h2, ← Tm.endOf_norm (T := Tm.app Tm.runC Tm.kC) (by decide +kernel), run_k]
  rfl
theorem code_k : Tm.pCodeOf [107] = some Tm.kC.text := by kernel_rfl
theorem word_run : Tm.pWord [114, 117, 110] = some Tm.runC.text := rfl
theorem word_facts {l x : List UInt8} (h : Tm.pWord l = some x) : Tm.pClosed x = true ∧ x.length ≤ 100000 := by
  unfold Tm.pWord at h
  obtain ⟨t, ht, rfl⟩ := Option.map_eq_some_iff.1 h
  obtain ⟨hg, hl⟩ := Tm.word_good ht
  refine ⟨?_, hl⟩
  unfold Tm.word at ht
  repeat' split at ht
  all_goals first | (obtain rfl := Option.some.inj ht; exact Tm.closed_text hg (by decide +kernel) (Tm.names_nil.1 (by decide +kernel))) | cases ht

theorem law_pinterp (w : World) (v : Value) (n : Nat) (h : CodeArg w v n) :
    Calls Tryz.prog 4 #[v] w fun e w' => e = .returned (.bool true) ∧ After w w' := by
  obtain ⟨a0, cap, rfl⟩ := h.form
  have hdraw := draw_codeRun w _ n h
  clear h
  by_cases hbig : (1048576 : Int) < (n : Int)
  · go_enter Tryz.func4, Tryz.ntmps4
    go_wp2_with fail
    go_ret
    exact ⟨rfl, After.refl _⟩
  · go_enter Tryz.func4, Tryz.ntmps4
    go_wp2_with fail
    refine hdraw.mono ?_
    rintro e w1 hd
    obtain ⟨l, rfl, hl, ha⟩ := hd.text
    clear hd
    have HA := Lib.hid ha
    clear hdraw ha
    have hi := fun W => impl_codeRun W l (by omega)
    have hs := fun W => spec_codeRun W l (by omega)
    unfold TextRes' at hi
    unfold SOne' at hs
    cases hb : Tm.pCodeRun l with
    | none =>
      simp only [hb, Option.getD_none, Option.isSome_none] at hi hs
      clear hb
      go_wp2_with fail
      refine (hi _).mono ?_
      rintro e w2 ⟨rfl, hb2⟩
      go_wp2_with fail
      refine (hs _).mono ?_
      rintro e w3 ⟨rfl, hb3⟩
      go_wp2_with fail
      go_ret
      exact ⟨by simp, ((HA.out.trans hb2).trans hb3)⟩
    | some x =>
      obtain ⟨f1, f2, f3⟩ := Tm.codeRun_facts hb
      have hn := fun W => impl_norm W l (by omega)
      have hno := fun W => impl_normal W x (by omega)
      unfold NumRes at hn
      simp only [hb, Option.getD_some, Option.isSome_some] at hi hs
      simp only [f1] at hno
      have hA : (Tm.pNorm l).isSome = true → ((Tm.pNorm l).map Prod.fst).getD [] = x := fun h1 => f3 _ _ (some_pair (x := []) (y := 0) h1)
      clear hb f1 f3
      generalize (Tm.pNorm l).isSome = b1 at *
      generalize ((Tm.pNorm l).map Prod.fst).getD [] = x1 at *
      generalize ((Tm.pNorm l).map Prod.snd).getD 0 = n1 at *
      go_wp2_with fail
      refine (hi _).mono ?_
      rintro e w2 ⟨rfl, hb2⟩
      go_wp2_with fail
      refine (hs _).mono ?_
      rintro e w3 ⟨rfl, hb3⟩
      go_wp2_with fail
      refine (hn _).mono ?_
      rintro e w4 ⟨rfl, hb4⟩
      go_wp2_with fail
      refine (hno _).mono ?_
      rintro e w5 ⟨rfl, hb5⟩
      cases b1
      all_goals
        try (have hA' := hA rfl; subst hA')
        clear hA
        go_wp2_with fail
        go_ret
        exact ⟨by simp, ((((HA.out.trans hb2).trans hb3).trans hb4).trans hb5)⟩

theorem law_pquote (w : World) (v : Value) (n : Nat) (h : CodeArg w v n) :
    Calls Tryz.prog 5 #[v] w fun e w' => e = .returned (.bool true) ∧ After w w' := by
  obtain ⟨a0, cap, rfl⟩ := h.form
  have hdraw := draw_codeQuote w _ n h
  clear h
  by_cases hbig : (1048576 : Int) < (n : Int)
  · go_enter Tryz.func5, Tryz.ntmps5
    go_wp2_with fail
    go_ret
    exact ⟨rfl, After.refl _⟩
  · go_enter Tryz.func5, Tryz.ntmps5
    go_wp2_with fail
    refine hdraw.mono ?_
    rintro e w1 hd
    obtain ⟨l, rfl, hl, ha⟩ := hd.text
    clear hd
    have HA := Lib.hid ha
    clear hdraw ha
    have hi := fun W => impl_codeQuote W l (by omega)
    have hs := fun W => spec_codeQuote W l (by omega)
    unfold TextRes' at hi
    unfold SOne' at hs
    cases hb : Tm.pCodeQuote l with
    | none =>
      simp only [hb, Option.getD_none, Option.isSome_none] at hi hs
      clear hb
      go_wp2_with fail
      refine (hi _).mono ?_
      rintro e w2 ⟨rfl, hb2⟩
      go_wp2_with fail
      refine (hs _).mono ?_
      rintro e w3 ⟨rfl, hb3⟩
      go_wp2_with fail
      go_ret
      exact ⟨by simp, ((HA.out.trans hb2).trans hb3)⟩
    | some x =>
      obtain ⟨f1, f2, f3⟩ := Tm.codeQuote_facts hb
      have hco := fun W => impl_codeOf W l (by omega)
      have hru := fun W => impl_codeRun W x (by omega)
      unfold TextRes' at hco hru
      simp only [hb, Option.getD_some, Option.isSome_some] at hi hs
      simp only [f1, Option.getD_some, Option.isSome_some] at hco
      simp only [f2, Option.getD_some, Option.isSome_some] at hru
      clear hb f1 f2
      go_wp2_with fail
      refine (hi _).mono ?_
      rintro e w2 ⟨rfl, hb2⟩
      go_wp2_with fail
      refine (hs _).mono ?_
      rintro e w3 ⟨rfl, hb3⟩
      go_wp2_with fail
      refine (hco _).mono ?_
      rintro e w4 ⟨rfl, hb4⟩
      go_wp2_with fail
      refine (hru _).mono ?_
      rintro e w5 ⟨rfl, hb5⟩
      go_wp2_with fail
      go_ret
      exact ⟨by simp, ((((HA.out.trans hb2).trans hb3).trans hb4).trans hb5)⟩

def fixK (x : List UInt8) : List UInt8 := 40 :: (x ++ 32 :: ([107] ++ [41]))
def fixM (l x m : List UInt8) : List UInt8 := 40 :: ((40 :: (l ++ 32 :: (x ++ [41]))) ++ 32 :: (m ++ [41]))

end Go.Proofs.YtfjohagdlaiapaaGreat
