/-
  The walk of a promise's law: one after the other: whatever the code, the law returns true.
-/
import Derived.Test.YtjfdindlfakmcaaPkD
import Derived.Test.YtjfdindlfakmcaaPromAg
import Derived.Test.YtjfdindlfakmcaaPkW
import Derived.Test.YtjfdindlfakmcaaPkU
namespace Go.Proofs.Ytjfdindlfakmcaa
open Go.RowKit

set_option maxHeartbeats 1000000
set_option maxRecDepth 100000

theorem draw_after (w : World) (v : Value) (n : Nat) (h : CodeArg w v n) : Calls Try.prog 4 #[v] w fun e w' => ∃ l m : List UInt8, e = .returned (.tuple #[str l, str m]) ∧ l.length ≤ 1000 ∧ m.length ≤ 1000 ∧ After w w' := by
  have hopen := open_any w v n h
  clear h
  go_enter Try.func4, Try.ntmps4
  go_wp2_with fail
  refine hopen.mono ?_
  rintro e w1 ⟨rb, rfl, hr, ha, hd⟩
  have hs := small_any w1 rb 0 hd (by omega)
  clear hopen hd
  go_wp2_with fail
  refine hs.mono ?_
  rintro e w2 ⟨s1, q1, rfl, hz1, hq1, hg1, hd1⟩
  have hs2 := small_any w2 rb q1 hd1 (by omega)
  clear hs hd1
  go_wp2_with fail
  refine hs2.mono ?_
  rintro e w3 ⟨s2, q2, rfl, hz2, hq2, hg2, hd2⟩
  clear hs2 hd2
  obtain ⟨l1, rfl⟩ : ∃ l : List UInt8, s1 = ⟨l.toArray⟩ := ⟨s1.data.toList, by simp⟩
  obtain ⟨l2, rfl⟩ : ∃ l : List UInt8, s2 = ⟨l.toArray⟩ := ⟨s2.data.toList, by simp⟩
  rw [ssize] at hz1 hz2
  go_wp2_with fail
  go_ret2
  exact ⟨l1, l2, rfl, hz1, hz2, after_open ha (grown_trans hg1 hg2) hr⟩

theorem law_pafter (w : World) (v : Value) (n : Nat) (h : CodeArg w v n) :
    Calls Try.prog 3 #[v] w fun e w' => e = .returned (.bool true) ∧ After w w' := by
  obtain ⟨a0, cap, rfl⟩ := h.form
  have hdraw := draw_after w _ n h
  clear h
  by_cases hbig : (1048576 : Int) < (n : Int)
  · go_enter Try.func3, Try.ntmps3
    go_wp2_with fail
    go_ret
    exact ⟨rfl, After.refl _⟩
  · go_enter Try.func3, Try.ntmps3
    go_wp2_with fail
    refine hdraw.mono ?_
    rintro e w1 ⟨l, m, rfl, hl, hm, ha⟩
    have HA := Lib.hid ha
    clear hdraw ha
    have hi := fun W => impl_trackAfter W l m (by omega) (by omega)
    have hs := fun W => spec_trackAfter W l m (by omega) (by omega)
    unfold ARes at hi hs
    cases hb : Tm.pAfter l m with
    | none =>
      simp only [hb, Option.getD_none, Option.isSome_none] at hi hs
      clear hb
      go_wp2_with fail
      refine (hi _).mono ?_
      rintro e w2 ⟨rfl, hb2⟩
      go_wp2_with fail
      refine (hs _).mono ?_
      rintro e w3 ⟨rfl, hb3⟩
      go_wp2_with fail
      go_ret
      exact ⟨by simp, ((HA.out.trans hb2).trans hb3)⟩
    | some x =>
      obtain ⟨f1, f2, f3, f4, f5⟩ := Tm.pAfter_facts hb
      obtain ⟨K, hK⟩ : ∃ K, K = Tm.kA x := ⟨_, rfl⟩
      obtain ⟨S, hS⟩ : ∃ S, S = Tm.mlK l m := ⟨_, rfl⟩
      rw [← hK, ← hS] at f5
      have hnK := fun W => impl_norm W K (by rw [hK]; simp [Tm.kA]; omega)
      have hnS := fun W => impl_norm W S (by rw [hS]; simp [Tm.mlK]; omega)
      have hc := fun W => impl_closed W x (by omega)
      unfold NumRes at hnK hnS
      simp only [f1] at hc
      simp only [hb, Option.getD_some, Option.isSome_some] at hi hs
      have hA : (Tm.pNorm K).isSome = true → (Tm.pNorm S).isSome = true → ((Tm.pNorm S).map Prod.fst).getD [] = ((Tm.pNorm K).map Prod.fst).getD [] := fun h1 h2 => (f5 _ _ _ _ (some_pair (x := []) (y := 0) h1) (some_pair (x := []) (y := 0) h2)).symm
      clear hb f1 f5
      generalize (Tm.pNorm K).isSome = b0 at *
      generalize ((Tm.pNorm K).map Prod.fst).getD [] = x0 at *
      generalize ((Tm.pNorm K).map Prod.snd).getD 0 = n0 at *
      generalize (Tm.pNorm S).isSome = b1 at *
      generalize ((Tm.pNorm S).map Prod.fst).getD [] = x1 at *
      generalize ((Tm.pNorm S).map Prod.snd).getD 0 = n1 at *
      have zl := ssize l
      have zm := ssize m
      have zx := ssize x
      have hlena : K.length ≤ 10000000 := by rw [hK]; simp [Tm.kA]; omega
      have qa0 : (⟨#[40]⟩ : ByteArray).size = 1 := rfl
      have qa1 : (⟨#[32, 107, 41]⟩ : ByteArray).size = 3 := rfl
      obtain ⟨ca0, da0, za0, ea0⟩ := cat ⟨#[40]⟩ ⟨x.toArray⟩ (by omega)
      obtain ⟨ca1, da1, za1, ea1⟩ := cat ca0 ⟨#[32, 107, 41]⟩ (by omega)
      have hfina : str K = .string ca1 := by
        refine congrArg Value.string (ByteArray.ext (Array.ext' ?_))
        rw [da1, da0, hK]
        simp [Tm.kA]
      rw [hfina] at hnK
      clear hfina da0 za0 da1 za1 qa0 qa1 hK
      have hlenb : S.length ≤ 10000000 := by rw [hS]; simp [Tm.mlK]; omega
      have qb0 : (⟨#[40]⟩ : ByteArray).size = 1 := rfl
      have qb1 : (⟨#[32, 40]⟩ : ByteArray).size = 2 := rfl
      have qb2 : (⟨#[32, 107, 41, 41]⟩ : ByteArray).size = 4 := rfl
      obtain ⟨cb0, db0, zb0, eb0⟩ := cat ⟨#[40]⟩ ⟨m.toArray⟩ (by omega)
      obtain ⟨cb1, db1, zb1, eb1⟩ := cat cb0 ⟨#[32, 40]⟩ (by omega)
      obtain ⟨cb2, db2, zb2, eb2⟩ := cat cb1 ⟨l.toArray⟩ (by omega)
      obtain ⟨cb3, db3, zb3, eb3⟩ := cat cb2 ⟨#[32, 107, 41, 41]⟩ (by omega)
      have hfinb : str S = .string cb3 := by
        refine congrArg Value.string (ByteArray.ext (Array.ext' ?_))
        rw [db3, db2, db1, db0, hS]
        simp [Tm.mlK]
      rw [hfinb] at hnS
      clear hfinb db0 zb0 db1 zb1 db2 zb2 db3 zb3 qb0 qb1 qb2 hS
      clear hlena hlenb zl zx zm
      go_wp2_with fail
      refine (hi _).mono ?_
      rintro e w2 ⟨rfl, hb2⟩
      go_wp2_with fail
      refine (hs _).mono ?_
      rintro e w3 ⟨rfl, hb3⟩
      go_wp2_with fail
      refine (hnK _).mono ?_
      rintro e w4 ⟨rfl, hb4⟩
      go_wp2_with fail
      refine (hnS _).mono ?_
      rintro e w5 ⟨rfl, hb5⟩
      go_wp2_with fail
      refine (hc _).mono ?_
      rintro e w6 ⟨rfl, hb6⟩
      cases b0 <;> cases b1
      all_goals
        try (have hA' := hA rfl rfl; subst hA')
        clear hA
        go_wp2_with fail
        go_ret
        exact ⟨by simp, (((((HA.out.trans hb2).trans hb3).trans hb4).trans hb5).trans hb6)⟩
end Go.Proofs.Ytjfdindlfakmcaa
