/-
  The walks of six promises' laws of chapter 4: codes, the interpreter, words, quoting, fixed points: whatever the code, the law returns true.
-/
import Derived.Test.YtfjohagdlaiapaaPkK
import Derived.Test.YtfjohagdlaiapaaPkW
import Derived.Test.YtfjohagdlaiapaaPkYR
import Derived.Test.YtfjohagdlaiapaaPkT
import Derived.Test.YtfjohagdlaiapaaPkU
namespace Go.Proofs.Ytfjohagdlaiapaa
open Go.RowKit

set_option maxHeartbeats 1000000
set_option maxRecDepth 100000

theorem run_k : Tm.endOf (Tm.app Tm.runC Tm.kC) = some .k := by kernel_rfl
theorem apply_run_k : Tm.pApply Tm.runC.text Tm.kC.text = some [107] := by
  have h1 : Tm.parse Tm.runC.text = some Tm.runC := Tm.parse_text Tm.runC_good (by decide +kernel)
  have h2 : Tm.parse Tm.kC.text = some Tm.kC := Tm.parse_text (by decide +kernel) (by decide +kernel)
  rw [Tm.pApply_norm h1 h2, ← Tm.endOf_norm (T := Tm.app Tm.runC Tm.kC) (by decide +kernel), run_k]
  rfl
theorem code_k : Tm.pCodeOf [107] = some Tm.kC.text := by kernel_rfl
theorem word_run : Tm.pWord [114, 117, 110] = some Tm.runC.text := rfl
theorem word_facts {l x : List UInt8} (h : Tm.pWord l = some x) : Tm.pClosed x = true ∧ x.length ≤ 100000 := by
  unfold Tm.pWord at h
  obtain ⟨t, ht, rfl⟩ := Option.map_eq_some_iff.1 h
  obtain ⟨hg, hl⟩ := Tm.word_good ht
  refine ⟨?_, hl⟩
  unfold Tm.word at ht
  repeat' split at ht
  all_goals first | (obtain rfl := Option.some.inj ht; exact Tm.closed_text hg (by decide +kernel) (Tm.names_nil.1 (by decide +kernel))) | cases ht

theorem law_pcode (w : World) (v : Value) (n : Nat) (h : CodeArg w v n) :
    Calls Try.prog 4 #[v] w fun e w' => e = .returned (.bool true) ∧ After w w' := by
  obtain ⟨a0, cap, rfl⟩ := h.form
  have hdraw := draw_codeOf w _ n h
  clear h
  by_cases hbig : (1048576 : Int) < (n : Int)
  · go_enter Try.func4, Try.ntmps4
    go_wp2_with fail
    go_ret
    exact ⟨rfl, After.refl _⟩
  · go_enter Try.func4, Try.ntmps4
    go_wp2_with fail
    refine hdraw.mono ?_
    rintro e w1 hd
    obtain ⟨l, rfl, hl, ha⟩ := hd.text
    clear hd
    have HA := Lib.hid ha
    clear hdraw ha
    have hi := fun W => impl_codeOf W l (by omega)
    have hs := fun W => spec_codeOf W l (by omega)
    unfold TextRes' at hi
    unfold SOne' at hs
    cases hb : Tm.pCodeOf l with
    | none =>
      simp only [hb, Option.getD_none, Option.isSome_none] at hi hs
      clear hb
      go_wp2_with fail
      refine (hi _).mono ?_
      rintro e w2 ⟨rfl, hb2⟩
      go_wp2_with fail
      refine (hs _).mono ?_
      rintro e w3 ⟨rfl, hb3⟩
      go_wp2_with fail
      go_ret
      exact ⟨by simp, ((HA.out.trans hb2).trans hb3)⟩
    | some x =>
      obtain ⟨f1, f2, f3, _⟩ := Tm.code_props hb
      have f4 := code_back hb
      have hr := fun W => impl_codeRead W x (by omega)
      have hc := fun W => impl_closed W x (by omega)
      have hn := fun W => impl_normal W x (by omega)
      unfold TextRes' at hr
      simp only [hb, Option.getD_some, Option.isSome_some] at hi hs
      simp only [f4, Option.getD_some, Option.isSome_some] at hr
      simp only [f1] at hc
      simp only [f2] at hn
      clear hb f1 f2 f4
      go_wp2_with fail
      refine (hi _).mono ?_
      rintro e w2 ⟨rfl, hb2⟩
      go_wp2_with fail
      refine (hs _).mono ?_
      rintro e w3 ⟨rfl, hb3⟩
      go_wp2_with fail
      refine (hr _).mono ?_
      rintro e w4 ⟨rfl, hb4⟩
      go_wp2_with fail
      refine (hc _).mono ?_
      rintro e w5 ⟨rfl, hb5⟩
      go_wp2_with fail
      refine (hn _).mono ?_
      rintro e w6 ⟨rfl, hb6⟩
      go_wp2_with fail
      go_ret
      exact ⟨by simp, (((((HA.out.trans hb2).trans hb3).trans hb4).trans hb5).trans hb6)⟩

theorem law_pwords (w : World) (v : Value) (n : Nat) (h : CodeArg w v n) :
    Calls Try.prog 5 #[v] w fun e w' => e = .returned (.bool true) ∧ After w w' := by
  obtain ⟨a0, cap, rfl⟩ := h.form
  have hdraw := draw_codeWords w _ n h
  clear h
  by_cases hbig : (1048576 : Int) < (n : Int)
  · go_enter Try.func5, Try.ntmps5
    go_wp2_with fail
    go_ret
    exact ⟨rfl, After.refl _⟩
  · go_enter Try.func5, Try.ntmps5
    go_wp2_with fail
    refine hdraw.mono ?_
    rintro e w1 hd
    obtain ⟨l, rfl, hl, ha⟩ := hd.text
    clear hd
    have HA := Lib.hid ha
    clear hdraw ha
    have hi := fun W => impl_codeWords W l
    have hs := fun W => spec_codeWords W l
    unfold TextRes' at hi
    unfold SOne' at hs
    cases hb : Tm.pWord l with
    | none =>
      simp only [hb, Option.getD_none, Option.isSome_none] at hi hs
      clear hb
      go_wp2_with fail
      refine (hi _).mono ?_
      rintro e w2 ⟨rfl, hb2⟩
      go_wp2_with fail
      refine (hs _).mono ?_
      rintro e w3 ⟨rfl, hb3⟩
      go_wp2_with fail
      go_ret
      exact ⟨by simp, ((HA.out.trans hb2).trans hb3)⟩
    | some x =>
      obtain ⟨f1, f2⟩ := word_facts hb
      have hrn := fun W => impl_codeWords W [114, 117, 110]
      have hck := fun W => impl_codeOf W [107] (by decide)
      have y1 : Tm.runC.text.length ≤ 100000 := by decide +kernel
      have y2 : Tm.kC.text.length ≤ 100000 := by decide +kernel
      have hap := fun W => impl_apply W Tm.runC.text Tm.kC.text (by omega) (by omega)
      have hcl := fun W => impl_closed W x (by omega)
      unfold TextRes' at hrn hck hap
      simp only [hb, Option.getD_some, Option.isSome_some] at hi hs
      simp only [word_run, Option.getD_some, Option.isSome_some] at hrn
      simp only [code_k, Option.getD_some, Option.isSome_some] at hck
      simp only [apply_run_k, Option.getD_some, Option.isSome_some] at hap
      simp only [f1] at hcl
      generalize Tm.runC.text = p at *
      generalize Tm.kC.text = q at *
      clear hb f1
      go_wp2_with fail
      refine (hi _).mono ?_
      rintro e w2 ⟨rfl, hb2⟩
      go_wp2_with fail
      refine (hs _).mono ?_
      rintro e w3 ⟨rfl, hb3⟩
      go_wp2_with fail
      refine (hrn _).mono ?_
      rintro e w4 ⟨rfl, hb4⟩
      go_wp2_with fail
      refine (hck _).mono ?_
      rintro e w5 ⟨rfl, hb5⟩
      go_wp2_with fail
      refine (hap _).mono ?_
      rintro e w6 ⟨rfl, hb6⟩
      go_wp2_with fail
      refine (hcl _).mono ?_
      rintro e w7 ⟨rfl, hb7⟩
      go_wp2_with fail
      go_ret
      exact ⟨by simp, ((((((HA.out.trans hb2).trans hb3).trans hb4).trans hb5).trans hb6).trans hb7)⟩

def fixK (x : List UInt8) : List UInt8 := 40 :: (x ++ 32 :: ([107] ++ [41]))
def fixM (l x m : List UInt8) : List UInt8 := 40 :: ((40 :: (l ++ 32 :: (x ++ [41]))) ++ 32 :: (m ++ [41]))

theorem law_pfix (w : World) (v : Value) (n : Nat) (h : CodeArg w v n) :
    Calls Try.prog 6 #[v] w fun e w' => e = .returned (.bool true) ∧ After w w' := by
  obtain ⟨a0, cap, rfl⟩ := h.form
  have hdraw := draw_fixOf w _ n h
  clear h
  by_cases hbig : (1048576 : Int) < (n : Int)
  · go_enter Try.func6, Try.ntmps6
    go_wp2_with fail
    go_ret
    exact ⟨rfl, After.refl _⟩
  · go_enter Try.func6, Try.ntmps6
    go_wp2_with fail
    refine hdraw.mono ?_
    rintro e w1 hd
    obtain ⟨l, rfl, hl, ha⟩ := hd.text
    clear hd
    have HA := Lib.hid ha
    clear hdraw ha
    have hi := fun W => impl_fixOf W l (by omega)
    have hs := fun W => spec_fixOf W l (by omega)
    unfold TextRes' at hi
    unfold SOne' at hs
    cases hb : Tm.pFixOf l with
    | none =>
      simp only [hb, Option.getD_none, Option.isSome_none] at hi hs
      clear hb
      go_wp2_with fail
      refine (hi _).mono ?_
      rintro e w2 ⟨rfl, hb2⟩
      go_wp2_with fail
      refine (hs _).mono ?_
      rintro e w3 ⟨rfl, hb3⟩
      go_wp2_with fail
      go_ret
      exact ⟨by simp, ((HA.out.trans hb2).trans hb3)⟩
    | some x =>
      obtain ⟨f1, f2, f3, f4⟩ := Tm.fixOf_facts hb
      obtain ⟨K, hK⟩ : ∃ K, K = fixK x := ⟨_, rfl⟩
      obtain ⟨S, hS⟩ : ∃ S, S = fixM l x [107] := ⟨_, rfl⟩
      have f5 : ∀ a i b j, Tm.pNorm K = some (a, i) → Tm.pNorm S = some (b, j) → a = b := by rw [hK, hS]; exact f4
      have hnK := fun W => impl_norm W K (by rw [hK]; simp [fixK]; omega)
      have hnS := fun W => impl_norm W S (by rw [hS]; simp [fixM]; omega)
      have hc1 := fun W => impl_closed W x (by omega)
      have hc2 := fun W => impl_closed W l (by omega)
      unfold NumRes at hnK hnS
      simp only [f1] at hc1
      simp only [hb, Option.getD_some, Option.isSome_some] at hi hs
      have hA : (Tm.pNorm K).isSome = true → (Tm.pNorm S).isSome = true → ((Tm.pNorm S).map Prod.fst).getD [] = ((Tm.pNorm K).map Prod.fst).getD [] := fun h1 h2 => (f5 _ _ _ _ (some_pair (x := []) (y := 0) h1) (some_pair (x := []) (y := 0) h2)).symm
      clear hb f1 f4 f5
      generalize Tm.pClosed l = bc at *
      generalize (Tm.pNorm K).isSome = b0 at *
      generalize ((Tm.pNorm K).map Prod.fst).getD [] = x0 at *
      generalize ((Tm.pNorm K).map Prod.snd).getD 0 = n0 at *
      generalize (Tm.pNorm S).isSome = b1 at *
      generalize ((Tm.pNorm S).map Prod.fst).getD [] = x1 at *
      generalize ((Tm.pNorm S).map Prod.snd).getD 0 = n1 at *
      have zl := ssize l
      have zx := ssize x
      have hlena : K.length ≤ 10000000 := by rw [hK]; simp [fixK]; omega
      have qa0 : (⟨#[40]⟩ : ByteArray).size = 1 := rfl
      have qa1 : (⟨#[32, 107, 41]⟩ : ByteArray).size = 3 := rfl
      obtain ⟨ca0, da0, za0, ea0⟩ := cat ⟨#[40]⟩ ⟨x.toArray⟩ (by omega)
      obtain ⟨ca1, da1, za1, ea1⟩ := cat ca0 ⟨#[32, 107, 41]⟩ (by omega)
      have hfina : str K = .string ca1 := by
        refine congrArg Value.string (ByteArray.ext (Array.ext' ?_))
        rw [da1, da0, hK]
        simp [fixK]
      rw [hfina] at hnK
      clear hfina da0 za0 da1 za1 qa0 qa1 hK
      have hlenb : S.length ≤ 10000000 := by rw [hS]; simp [fixM]; omega
      have qb0 : (⟨#[40, 40]⟩ : ByteArray).size = 2 := rfl
      have qb1 : (⟨#[32]⟩ : ByteArray).size = 1 := rfl
      have qb2 : (⟨#[41, 32, 107, 41]⟩ : ByteArray).size = 4 := rfl
      obtain ⟨cb0, db0, zb0, eb0⟩ := cat ⟨#[40, 40]⟩ ⟨l.toArray⟩ (by omega)
      obtain ⟨cb1, db1, zb1, eb1⟩ := cat cb0 ⟨#[32]⟩ (by omega)
      obtain ⟨cb2, db2, zb2, eb2⟩ := cat cb1 ⟨x.toArray⟩ (by omega)
      obtain ⟨cb3, db3, zb3, eb3⟩ := cat cb2 ⟨#[41, 32, 107, 41]⟩ (by omega)
      have hfinb : str S = .string cb3 := by
        refine congrArg Value.string (ByteArray.ext (Array.ext' ?_))
        rw [db3, db2, db1, db0, hS]
        simp [fixM]
      rw [hfinb] at hnS
      clear hfinb db0 zb0 db1 zb1 db2 zb2 db3 zb3 qb0 qb1 qb2 hS
      clear hlena hlenb zl zx
      go_wp2_with fail
      refine (hi _).mono ?_
      rintro e w2 ⟨rfl, hb2⟩
      go_wp2_with fail
      refine (hs _).mono ?_
      rintro e w3 ⟨rfl, hb3⟩
      go_wp2_with fail
      refine (hnK _).mono ?_
      rintro e w4 ⟨rfl, hb4⟩
      go_wp2_with fail
      refine (hnS _).mono ?_
      rintro e w5 ⟨rfl, hb5⟩
      go_wp2_with fail
      refine (hc1 _).mono ?_
      rintro e w6 ⟨rfl, hb6⟩
      go_wp2_with fail
      refine (hc2 _).mono ?_
      rintro e w7 ⟨rfl, hb7⟩
      cases b0 <;> cases b1 <;> cases bc
      all_goals
        try (have hA' := hA rfl rfl; subst hA')
        clear hA
        go_wp2_with fail
        go_ret
        exact ⟨by simp, ((((((HA.out.trans hb2).trans hb3).trans hb4).trans hb5).trans hb6).trans hb7)⟩

theorem law_pfixap (w : World) (v : Value) (n : Nat) (h : CodeArg w v n) :
    Calls Try.prog 7 #[v] w fun e w' => e = .returned (.bool true) ∧ After w w' := by
  obtain ⟨a0, cap, rfl⟩ := h.form
  have hdraw := draw_fixApply w _ n h
  clear h
  by_cases hbig : (1048576 : Int) < (n : Int)
  · go_enter Try.func7, Try.ntmps7
    go_wp2_with fail
    go_ret
    exact ⟨rfl, After.refl _⟩
  · go_enter Try.func7, Try.ntmps7
    go_wp2_with fail
    refine hdraw.mono ?_
    rintro e w1 ⟨l, m, rfl, hl, hm, ha⟩
    have HA := Lib.hid ha
    clear hdraw ha
    have hi := fun W => impl_fixApply W l m (by omega) (by omega)
    have hs := fun W => spec_fixApply W l m (by omega) (by omega)
    unfold TextRes' at hi
    unfold SOne' at hs
    cases hb : Tm.pFixApply l m with
    | none =>
      simp only [hb, Option.getD_none, Option.isSome_none] at hi hs
      clear hb
      go_wp2_with fail
      refine (hi _).mono ?_
      rintro e w2 ⟨rfl, hb2⟩
      go_wp2_with fail
      refine (hs _).mono ?_
      rintro e w3 ⟨rfl, hb3⟩
      go_wp2_with fail
      go_ret
      exact ⟨by simp, ((HA.out.trans hb2).trans hb3)⟩
    | some x =>
      obtain ⟨y, f0, f1, f2, f3, f4, f5, f6⟩ := Tm.fixApply_facts hb
      obtain ⟨S, hS⟩ : ∃ S, S = fixM l y m := ⟨_, rfl⟩
      have f7 : ∀ a i, Tm.pNorm S = some (a, i) → a = x := by rw [hS]; exact f6
      have hfo := fun W => impl_fixOf W l (by omega)
      have hnS := fun W => impl_norm W S (by rw [hS]; simp [fixM]; omega)
      have hno := fun W => impl_normal W x (by omega)
      unfold TextRes' at hfo
      unfold NumRes at hnS
      simp only [f0, Option.getD_some, Option.isSome_some] at hfo
      simp only [f1] at hno
      simp only [hb, Option.getD_some, Option.isSome_some] at hi hs
      have hA : (Tm.pNorm S).isSome = true → ((Tm.pNorm S).map Prod.fst).getD [] = x := fun h1 => f7 _ _ (some_pair (x := []) (y := 0) h1)
      clear hb f0 f1 f6 f7
      generalize (Tm.pNorm S).isSome = b1 at *
      generalize ((Tm.pNorm S).map Prod.fst).getD [] = x1 at *
      generalize ((Tm.pNorm S).map Prod.snd).getD 0 = n1 at *
      have zl := ssize l
      have zy := ssize y
      have zm := ssize m
      have hlenb : S.length ≤ 10000000 := by rw [hS]; simp [fixM]; omega
      have qb0 : (⟨#[40, 40]⟩ : ByteArray).size = 2 := rfl
      have qb1 : (⟨#[32]⟩ : ByteArray).size = 1 := rfl
      have qb2 : (⟨#[41, 32]⟩ : ByteArray).size = 2 := rfl
      have qb3 : (⟨#[41]⟩ : ByteArray).size = 1 := rfl
      obtain ⟨cb0, db0, zb0, eb0⟩ := cat ⟨#[40, 40]⟩ ⟨l.toArray⟩ (by omega)
      obtain ⟨cb1, db1, zb1, eb1⟩ := cat cb0 ⟨#[32]⟩ (by omega)
      obtain ⟨cb2, db2, zb2, eb2⟩ := cat cb1 ⟨y.toArray⟩ (by omega)
      obtain ⟨cb3, db3, zb3, eb3⟩ := cat cb2 ⟨#[41, 32]⟩ (by omega)
      obtain ⟨cb4, db4, zb4, eb4⟩ := cat cb3 ⟨m.toArray⟩ (by omega)
      obtain ⟨cb5, db5, zb5, eb5⟩ := cat cb4 ⟨#[41]⟩ (by omega)
      have hfinb : str S = .string cb5 := by
        refine congrArg Value.string (ByteArray.ext (Array.ext' ?_))
        rw [db5, db4, db3, db2, db1, db0, hS]
        simp [fixM]
      rw [hfinb] at hnS
      clear hfinb db0 zb0 db1 zb1 db2 zb2 db3 zb3 db4 zb4 db5 zb5 qb0 qb1 qb2 qb3 hS
      clear hlenb zl zy zm
      go_wp2_with fail
      refine (hi _).mono ?_
      rintro e w2 ⟨rfl, hb2⟩
      go_wp2_with fail
      refine (hs _).mono ?_
      rintro e w3 ⟨rfl, hb3⟩
      go_wp2_with fail
      refine (hfo _).mono ?_
      rintro e w4 ⟨rfl, hb4⟩
      go_wp2_with fail
      refine (hnS _).mono ?_
      rintro e w5 ⟨rfl, hb5⟩
      go_wp2_with fail
      refine (hno _).mono ?_
      rintro e w6 ⟨rfl, hb6⟩
      cases b1
      all_goals
        try (have hA' := hA rfl; subst hA')
        clear hA
        go_wp2_with fail
        go_ret
        exact ⟨by simp, (((((HA.out.trans hb2).trans hb3).trans hb4).trans hb5).trans hb6)⟩
end Go.Proofs.Ytfjohagdlaiapaa
