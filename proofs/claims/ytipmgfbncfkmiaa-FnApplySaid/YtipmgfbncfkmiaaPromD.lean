/-
  The walks of five promises' laws: normal terms, steps, equality, application: whatever the code, the law returns true.
-/
import Derived.Test.YtipmgfbncfkmiaaDrawN
import Derived.Test.YtipmgfbncfkmiaaImplAp
import Derived.Test.YtipmgfbncfkmiaaSAp
import Derived.Test.YtipmgfbncfkmiaaSEq
import Derived.Test.YtipmgfbncfkmiaaPkE
import Derived.Test.YtipmgfbncfkmiaaPkU
namespace Go.Proofs.Ytipmgfbncfkmiaa
open Go.RowKit

set_option maxHeartbeats 1000000
set_option maxRecDepth 100000

theorem law_pnormal (w : World) (v : Value) (n : Nat) (h : CodeArg w v n) :
    Calls Try.prog 8 #[v] w fun e w' => e = .returned (.bool true) ∧ After w w' := by
  obtain ⟨a0, cap, rfl⟩ := h.form
  have hdraw := draw_normal w _ n h
  clear h
  by_cases hbig : (1048576 : Int) < (n : Int)
  · go_enter Try.func8, Try.ntmps8
    go_wp2_with fail
    go_ret
    exact ⟨rfl, After.refl _⟩
  · go_enter Try.func8, Try.ntmps8
    go_wp2_with fail
    refine hdraw.mono ?_
    rintro e w1 ⟨l, rfl, hl, ha⟩
    have HA := Lib.hid ha
    clear hdraw ha
    have hi := fun W => impl_normal W l (by omega)
    have hs := fun W => spec_normal W l (by omega)
    cases hb : Tm.pNormal l with
    | false =>
      simp only [hb] at hi hs
      clear hb
      go_wp2_with fail
      refine (hi _).mono ?_
      rintro e w2 ⟨rfl, hb2⟩
      go_wp2_with fail
      refine (hs _).mono ?_
      rintro e w3 ⟨rfl, hb3⟩
      go_wp2_with fail
      go_ret
      exact ⟨by simp, ((HA.out.trans hb2).trans hb3)⟩
    | true =>
      obtain ⟨f1, f2⟩ := Tm.normal_facts hb
      have hst := fun W => impl_step W l (by omega)
      have hno := fun W => impl_norm W l (by omega)
      unfold TextRes at hst
      unfold NumRes at hno
      simp only [hb] at hi hs
      simp only [f1, Option.getD_none, Option.isSome_none] at hst
      simp only [f2, Option.map_some, Option.getD_some, Option.isSome_some] at hno
      clear hb f1 f2
      go_wp2_with fail
      refine (hi _).mono ?_
      rintro e w2 ⟨rfl, hb2⟩
      go_wp2_with fail
      refine (hs _).mono ?_
      rintro e w3 ⟨rfl, hb3⟩
      go_wp2_with fail
      refine (hst _).mono ?_
      rintro e w4 ⟨rfl, hb4⟩
      go_wp2_with fail
      refine (hno _).mono ?_
      rintro e w5 ⟨rfl, hb5⟩
      go_wp2_with fail
      go_ret
      exact ⟨by simp, ((((HA.out.trans hb2).trans hb3).trans hb4).trans hb5)⟩

theorem law_pnormof (w : World) (v : Value) (n : Nat) (h : CodeArg w v n) :
    Calls Try.prog 9 #[v] w fun e w' => e = .returned (.bool true) ∧ After w w' := by
  obtain ⟨a0, cap, rfl⟩ := h.form
  have hdraw := draw_normof w _ n h
  clear h
  by_cases hbig : (1048576 : Int) < (n : Int)
  · go_enter Try.func9, Try.ntmps9
    go_wp2_with fail
    go_ret
    exact ⟨rfl, After.refl _⟩
  · go_enter Try.func9, Try.ntmps9
    go_wp2_with fail
    refine hdraw.mono ?_
    rintro e w1 hd
    obtain ⟨l, rfl, hl, ha⟩ := hd.text
    clear hd
    have HA := Lib.hid ha
    clear hdraw ha
    have hi := fun W => impl_norm W l (by omega)
    have hs := fun W => spec_norm W l (by omega)
    unfold NumRes at hi
    unfold SNum at hs
    cases hb : Tm.pNorm l with
    | none =>
      simp only [hb, Option.map_none, Option.getD_none, Option.isSome_none] at hi hs
      clear hb
      go_wp2_with fail
      refine (hi _).mono ?_
      rintro e w2 ⟨rfl, hb2⟩
      go_wp2_with fail
      refine (hs _).mono ?_
      rintro e w3 ⟨rfl, hb3⟩
      go_wp2_with fail
      go_ret
      exact ⟨by simp, ((HA.out.trans hb2).trans hb3)⟩
    | some p =>
      obtain ⟨x, m⟩ := p
      obtain ⟨f1, f2, f3, f4⟩ := Tm.normof_facts hb
      have hma := fun W => impl_many W l (m : Int) (by omega)
      have hno := fun W => impl_normal W x (by omega)
      unfold NumRes at hma
      simp only [hb, Option.map_some, Option.getD_some, Option.isSome_some] at hi hs
      simp only [f1, Option.map_some, Option.getD_some, Option.isSome_some] at hma
      simp only [f2] at hno
      clear hb f1 f2
      go_wp2_with fail
      refine (hi _).mono ?_
      rintro e w2 ⟨rfl, hb2⟩
      go_wp2_with fail
      refine (hs _).mono ?_
      rintro e w3 ⟨rfl, hb3⟩
      go_wp2_with fail
      refine (hma _).mono ?_
      rintro e w4 ⟨rfl, hb4⟩
      go_wp2_with fail
      refine (hno _).mono ?_
      rintro e w5 ⟨rfl, hb5⟩
      go_wp2_with fail
      go_ret
      exact ⟨by simp, ((((HA.out.trans hb2).trans hb3).trans hb4).trans hb5)⟩

theorem law_pmany (w : World) (v : Value) (n : Nat) (h : CodeArg w v n) :
    Calls Try.prog 7 #[v] w fun e w' => e = .returned (.bool true) ∧ After w w' := by
  obtain ⟨a0, cap, rfl⟩ := h.form
  have hdraw := draw_many w _ n h
  clear h
  by_cases hbig : (1048576 : Int) < (n : Int)
  · go_enter Try.func7, Try.ntmps7
    go_wp2_with fail
    go_ret
    exact ⟨rfl, After.refl _⟩
  · go_enter Try.func7, Try.ntmps7
    go_wp2_with fail
    refine hdraw.mono ?_
    rintro e w1 ⟨l, z, rfl, hl, hz1, hz2, ha⟩
    have HA := Lib.hid ha
    clear hdraw ha
    have hi := fun W => impl_many W l z (by omega)
    have hs := fun W => spec_many W l z (by omega)
    unfold NumRes at hi
    unfold SNum at hs
    cases hb : Tm.pMany l z with
    | none =>
      simp only [hb, Option.map_none, Option.getD_none, Option.isSome_none] at hi hs
      clear hb
      go_wp2_with fail
      refine (hi _).mono ?_
      rintro e w2 ⟨rfl, hb2⟩
      go_wp2_with fail
      refine (hs _).mono ?_
      rintro e w3 ⟨rfl, hb3⟩
      go_wp2_with fail
      go_ret
      exact ⟨by simp, ((HA.out.trans hb2).trans hb3)⟩
    | some p =>
      obtain ⟨x, g⟩ := p
      obtain ⟨f0, f1, f2, f3⟩ := Tm.many_facts hb (by omega)
      have hst := fun W => impl_step W x (by omega)
      have hma := fun W => impl_many W l (z + 1) (by omega)
      unfold TextRes at hst
      unfold NumRes at hma
      have hne : (z == 6000) = false := by rw [beq_eq_false_iff_ne]; omega
      simp only [hb, Option.map_some, Option.getD_some, Option.isSome_some] at hi hs
      clear hb
      rcases f3 with ⟨f3, f4⟩ | ⟨y, f3, f5, f4⟩
      · simp only [f3, Option.getD_none, Option.isSome_none] at hst
        simp only [f4, Option.map_some, Option.getD_some, Option.isSome_some] at hma
        clear f3 f4
        by_cases hlt : (g : Int) < z
        all_goals
          go_wp2_with fail
          refine (hi _).mono ?_
          rintro e w2 ⟨rfl, hb2⟩
          go_wp2_with fail
          refine (hs _).mono ?_
          rintro e w3 ⟨rfl, hb3⟩
          go_wp2_with fail
          refine (hst _).mono ?_
          rintro e w4 ⟨rfl, hb4⟩
          go_wp2_with fail
          refine (hma _).mono ?_
          rintro e w5 ⟨rfl, hb5⟩
          go_wp2_with fail
          go_ret
          exact ⟨by simp, ((((HA.out.trans hb2).trans hb3).trans hb4).trans hb5)⟩
      · simp only [f3, Option.getD_some, Option.isSome_some] at hst
        simp only [f4, Option.map_some, Option.getD_some, Option.isSome_some] at hma
        have hge : ¬ (g : Int) < z := by omega
        clear f3 f4
        go_wp2_with fail
        refine (hi _).mono ?_
        rintro e w2 ⟨rfl, hb2⟩
        go_wp2_with fail
        refine (hs _).mono ?_
        rintro e w3 ⟨rfl, hb3⟩
        go_wp2_with fail
        refine (hst _).mono ?_
        rintro e w4 ⟨rfl, hb4⟩
        go_wp2_with fail
        refine (hma _).mono ?_
        rintro e w5 ⟨rfl, hb5⟩
        go_wp2_with fail
        go_ret
        exact ⟨by simp, ((((HA.out.trans hb2).trans hb3).trans hb4).trans hb5)⟩

theorem law_pequal (w : World) (v : Value) (n : Nat) (h : CodeArg w v n) :
    Calls Try.prog 11 #[v] w fun e w' => e = .returned (.bool true) ∧ After w w' := by
  obtain ⟨a0, cap, rfl⟩ := h.form
  have hdraw := draw_equal w _ n h
  clear h
  by_cases hbig : (1048576 : Int) < (n : Int)
  · go_enter Try.func11, Try.ntmps11
    go_wp2_with fail
    go_ret
    exact ⟨rfl, After.refl _⟩
  · go_enter Try.func11, Try.ntmps11
    go_wp2_with fail
    refine hdraw.mono ?_
    rintro e w1 ⟨l, m, rfl, hl, hm, ha⟩
    have HA := Lib.hid ha
    clear hdraw ha
    have hi := fun W => impl_equal W l m (by omega) (by omega)
    have hs := fun W => spec_equal W l m (by omega) (by omega)
    cases hb : Tm.pEqual l m with
    | false =>
      simp only [hb] at hi hs
      clear hb
      go_wp2_with fail
      refine (hi _).mono ?_
      rintro e w2 ⟨rfl, hb2⟩
      go_wp2_with fail
      refine (hs _).mono ?_
      rintro e w3 ⟨rfl, hb3⟩
      go_wp2_with fail
      go_ret
      exact ⟨by simp, ((HA.out.trans hb2).trans hb3)⟩
    | true =>
      obtain ⟨f1, f2⟩ := Tm.equal_facts hb
      have hx := fun W => impl_apply W l [107] (by omega) (by decide)
      have hy := fun W => impl_apply W m [107] (by omega) (by decide)
      have he := fun W => impl_equal W m l (by omega) (by omega)
      unfold TextRes' at hx hy
      simp only [hb] at hi hs
      simp only [f1] at he
      have hA : (Tm.pApply l [107]).isSome = true → (Tm.pApply m [107]).isSome = true → (Tm.pApply m [107]).getD [] = (Tm.pApply l [107]).getD [] := by
        intro h1 h2
        obtain ⟨x, hx⟩ := Option.isSome_iff_exists.1 h1
        obtain ⟨y, hy⟩ := Option.isSome_iff_exists.1 h2
        rw [hx, hy, f2 x y hx hy]
      clear f2 f1 hb
      generalize (Tm.pApply l [107]).isSome = b1 at *
      generalize (Tm.pApply m [107]).isSome = b2 at *
      generalize (Tm.pApply l [107]).getD [] = x1 at *
      generalize (Tm.pApply m [107]).getD [] = x2 at *
      go_wp2_with fail
      refine (hi _).mono ?_
      rintro e w2 ⟨rfl, hb2⟩
      go_wp2_with fail
      refine (hs _).mono ?_
      rintro e w3 ⟨rfl, hb3⟩
      go_wp2_with fail
      refine (hx _).mono ?_
      rintro e w4 ⟨rfl, hb4⟩
      go_wp2_with fail
      refine (hy _).mono ?_
      rintro e w5 ⟨rfl, hb5⟩
      go_wp2_with fail
      refine (he _).mono ?_
      rintro e w6 ⟨rfl, hb6⟩
      cases b1 <;> cases b2
      all_goals
        try (have hA' := hA rfl rfl; subst hA')
        clear hA
        go_wp2_with fail
        go_ret
        exact ⟨by simp, (((((HA.out.trans hb2).trans hb3).trans hb4).trans hb5).trans hb6)⟩

theorem law_papply (w : World) (v : Value) (n : Nat) (h : CodeArg w v n) :
    Calls Try.prog 10 #[v] w fun e w' => e = .returned (.bool true) ∧ After w w' := by
  obtain ⟨a0, cap, rfl⟩ := h.form
  have hdraw := draw_apply w _ n h
  clear h
  by_cases hbig : (1048576 : Int) < (n : Int)
  · go_enter Try.func10, Try.ntmps10
    go_wp2_with fail
    go_ret
    exact ⟨rfl, After.refl _⟩
  · go_enter Try.func10, Try.ntmps10
    go_wp2_with fail
    refine hdraw.mono ?_
    rintro e w1 ⟨l, m, rfl, hl, hm, ha⟩
    have HA := Lib.hid ha
    clear hdraw ha
    have hi := fun W => impl_apply W l m (by omega) (by omega)
    have hs := fun W => spec_apply W l m (by omega) (by omega)
    unfold TextRes' at hi
    unfold SOne' at hs
    cases hb : Tm.pApply l m with
    | none =>
      simp only [hb, Option.getD_none, Option.isSome_none] at hi hs
      clear hb
      go_wp2_with fail
      refine (hi _).mono ?_
      rintro e w2 ⟨rfl, hb2⟩
      go_wp2_with fail
      refine (hs _).mono ?_
      rintro e w3 ⟨rfl, hb3⟩
      go_wp2_with fail
      go_ret
      exact ⟨by simp, ((HA.out.trans hb2).trans hb3)⟩
    | some x =>
      obtain ⟨f1, f2, f3, f4⟩ := Tm.apply_facts hb
      simp only [hb, Option.getD_some, Option.isSome_some] at hi hs
      clear hb
      obtain ⟨K, hK⟩ : ∃ K, K = Tm.kLM l m := ⟨_, rfl⟩
      obtain ⟨S, hS⟩ : ∃ S, S = Tm.sLMW l m := ⟨_, rfl⟩
      obtain ⟨M, hM⟩ : ∃ M, M = Tm.lWmW l m := ⟨_, rfl⟩
      rw [← hK] at f3
      rw [← hS, ← hM] at f4
      have hn0 := fun W => impl_norm W l (by omega)
      have hnK := fun W => impl_norm W K (by rw [hK]; simp [Tm.kLM]; omega)
      have hnS := fun W => impl_norm W S (by rw [hS]; simp [Tm.sLMW]; omega)
      have hnM := fun W => impl_norm W M (by rw [hM]; simp [Tm.lWmW]; omega)
      have hno := fun W => impl_normal W x (by omega)
      unfold NumRes at hn0 hnK hnS hnM
      simp only [f1] at hno
      have hA1 : (Tm.pNorm l).isSome = true → (Tm.pNorm K).isSome = true → ((Tm.pNorm K).map Prod.fst).getD [] = ((Tm.pNorm l).map Prod.fst).getD [] := fun h1 h2 => f3 _ _ _ _ (some_pair (x := []) (y := 0) h1) (some_pair (x := []) (y := 0) h2)
      have hA2 : (Tm.pNorm S).isSome = true → (Tm.pNorm M).isSome = true → ((Tm.pNorm M).map Prod.fst).getD [] = ((Tm.pNorm S).map Prod.fst).getD [] := fun h1 h2 => (f4 _ _ _ _ (some_pair (x := []) (y := 0) h1) (some_pair (x := []) (y := 0) h2)).symm
      clear f1 f3 f4
      generalize (Tm.pNorm l).isSome = b0 at *
      generalize ((Tm.pNorm l).map Prod.fst).getD [] = x0 at *
      generalize ((Tm.pNorm l).map Prod.snd).getD 0 = n0 at *
      generalize (Tm.pNorm K).isSome = b1 at *
      generalize ((Tm.pNorm K).map Prod.fst).getD [] = x1 at *
      generalize ((Tm.pNorm K).map Prod.snd).getD 0 = n1 at *
      generalize (Tm.pNorm S).isSome = b2 at *
      generalize ((Tm.pNorm S).map Prod.fst).getD [] = x2 at *
      generalize ((Tm.pNorm S).map Prod.snd).getD 0 = n2 at *
      generalize (Tm.pNorm M).isSome = b3 at *
      generalize ((Tm.pNorm M).map Prod.fst).getD [] = x3 at *
      generalize ((Tm.pNorm M).map Prod.snd).getD 0 = n3 at *
      have zl := ssize l
      have zm := ssize m
      have hlena : K.length ≤ 10000000 := by rw [hK]; simp [Tm.kLM]; omega
      have qa0 : (⟨#[40, 40, 107, 32]⟩ : ByteArray).size = 4 := rfl
      have qa1 : (⟨#[41, 32]⟩ : ByteArray).size = 2 := rfl
      have qa2 : (⟨#[41]⟩ : ByteArray).size = 1 := rfl
      obtain ⟨ca0, da0, za0, ea0⟩ := cat ⟨#[40, 40, 107, 32]⟩ ⟨l.toArray⟩ (by omega)
      obtain ⟨ca1, da1, za1, ea1⟩ := cat ca0 ⟨#[41, 32]⟩ (by omega)
      obtain ⟨ca2, da2, za2, ea2⟩ := cat ca1 ⟨m.toArray⟩ (by omega)
      obtain ⟨ca3, da3, za3, ea3⟩ := cat ca2 ⟨#[41]⟩ (by omega)
      have hfina : str K = .string ca3 := by
        refine congrArg Value.string (ByteArray.ext (Array.ext' ?_))
        rw [da3, da2, da1, da0, hK]
        simp [Tm.kLM]
      rw [hfina] at hnK
      clear hfina da0 za0 da1 za1 da2 za2 da3 za3 qa0 qa1 qa2 hK
      have hlenb : S.length ≤ 10000000 := by rw [hS]; simp [Tm.sLMW]; omega
      have qb0 : (⟨#[40, 40, 40, 115, 32]⟩ : ByteArray).size = 5 := rfl
      have qb1 : (⟨#[41, 32]⟩ : ByteArray).size = 2 := rfl
      have qb2 : (⟨#[41, 32, 119, 41]⟩ : ByteArray).size = 4 := rfl
      obtain ⟨cb0, db0, zb0, eb0⟩ := cat ⟨#[40, 40, 40, 115, 32]⟩ ⟨l.toArray⟩ (by omega)
      obtain ⟨cb1, db1, zb1, eb1⟩ := cat cb0 ⟨#[41, 32]⟩ (by omega)
      obtain ⟨cb2, db2, zb2, eb2⟩ := cat cb1 ⟨m.toArray⟩ (by omega)
      obtain ⟨cb3, db3, zb3, eb3⟩ := cat cb2 ⟨#[41, 32, 119, 41]⟩ (by omega)
      have hfinb : str S = .string cb3 := by
        refine congrArg Value.string (ByteArray.ext (Array.ext' ?_))
        rw [db3, db2, db1, db0, hS]
        simp [Tm.sLMW]
      rw [hfinb] at hnS
      clear hfinb db0 zb0 db1 zb1 db2 zb2 db3 zb3 qb0 qb1 qb2 hS
      have hleng : M.length ≤ 10000000 := by rw [hM]; simp [Tm.lWmW]; omega
      have qg0 : (⟨#[40, 40]⟩ : ByteArray).size = 2 := rfl
      have qg1 : (⟨#[32, 119, 41, 32, 40]⟩ : ByteArray).size = 5 := rfl
      have qg2 : (⟨#[32, 119, 41, 41]⟩ : ByteArray).size = 4 := rfl
      obtain ⟨cg0, dg0, zg0, eg0⟩ := cat ⟨#[40, 40]⟩ ⟨l.toArray⟩ (by omega)
      obtain ⟨cg1, dg1, zg1, eg1⟩ := cat cg0 ⟨#[32, 119, 41, 32, 40]⟩ (by omega)
      obtain ⟨cg2, dg2, zg2, eg2⟩ := cat cg1 ⟨m.toArray⟩ (by omega)
      obtain ⟨cg3, dg3, zg3, eg3⟩ := cat cg2 ⟨#[32, 119, 41, 41]⟩ (by omega)
      have hfing : str M = .string cg3 := by
        refine congrArg Value.string (ByteArray.ext (Array.ext' ?_))
        rw [dg3, dg2, dg1, dg0, hM]
        simp [Tm.lWmW]
      rw [hfing] at hnM
      clear hfing dg0 zg0 dg1 zg1 dg2 zg2 dg3 zg3 qg0 qg1 qg2 hM
      clear hlena hlenb hleng zl zm
      go_wp2_with fail
      refine (hi _).mono ?_
      rintro e w2 ⟨rfl, hb2⟩
      go_wp2_with fail
      refine (hs _).mono ?_
      rintro e w3 ⟨rfl, hb3⟩
      go_wp2_with fail
      refine (hn0 _).mono ?_
      rintro e w4 ⟨rfl, hb4⟩
      go_wp2_with fail
      refine (hnK _).mono ?_
      rintro e w5 ⟨rfl, hb5⟩
      go_wp2_with fail
      refine (hnS _).mono ?_
      rintro e w6 ⟨rfl, hb6⟩
      go_wp2_with fail
      refine (hnM _).mono ?_
      rintro e w7 ⟨rfl, hb7⟩
      go_wp2_with fail
      refine (hno _).mono ?_
      rintro e w8 ⟨rfl, hb8⟩
      cases b0 <;> cases b1 <;> cases b2 <;> cases b3
      all_goals
        try (have hA1' := hA1 rfl rfl; subst hA1')
        try (have hA2' := hA2 rfl rfl; subst hA2')
        clear hA1 hA2
        go_wp2_with fail
        go_ret
        exact ⟨by simp, (((((((HA.out.trans hb2).trans hb3).trans hb4).trans hb5).trans hb6).trans hb7).trans hb8)⟩
end Go.Proofs.Ytipmgfbncfkmiaa
