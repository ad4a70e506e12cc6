/-
  The walk of a promise's law: what is put: whatever the code, the law returns true.
-/
import Derived.Test.YtipmgfbncfkmiaaDrawN
import Derived.Test.YtipmgfbncfkmiaaPromS
import Derived.Test.YtipmgfbncfkmiaaPkE
import Derived.Test.YtipmgfbncfkmiaaPkU
import Derived.Test.YtipmgfbncfkmiaaSFnC
import Derived.BigQuiet
import Derived.Deep.QuietTactic
namespace Go.Proofs.Ytipmgfbncfkmiaa
open Go.RowKit

set_option maxHeartbeats 2000000
set_option maxRecDepth 100000

theorem put_len {l n b x : List UInt8} (h : Tm.pPut l n b = some x) : x.length ≤ 21000 := by
  obtain ⟨_, _, _, _, _, _, _, _, _, _, _, h⟩ := Tm.put_facts h
  exact h

theorem law_pput (w : World) (v : Value) (nn : Nat) (h : CodeArg w v nn) :
    Calls Try.prog 5 #[v] w fun e w' => e = .returned (.bool true) ∧ After w w' := by
  obtain ⟨a0, cap, rfl⟩ := h.form
  have hdraw := draw_put w _ nn h
  clear h
  by_cases hbig : (1048576 : Int) < (nn : Int)
  · go_enter Try.func5, Try.ntmps5
    go_wp2_with fail
    go_ret
    exact ⟨rfl, After.refl _⟩
  · go_enter Try.func5, Try.ntmps5
    go_wp2_with fail
    refine hdraw.mono ?_
    rintro e w1 ⟨l, n, b, rfl, hl, hnl, hbl, ha⟩
    have HA := Lib.hid ha
    clear hdraw ha
    have hi := fun W => impl_put W l n b (by omega) (by omega) (by omega)
    have hs := fun W => spec_put W l n b (by omega) (by omega) (by omega)
    unfold TextRes at hi
    unfold SOne at hs
    cases hb : Tm.pPut l n b with
    | none =>
      simp only [hb, Option.getD_none, Option.isSome_none] at hi hs
      clear hb
      go_wp2_with fail
      refine (hi _).mono ?_
      rintro e w2 ⟨rfl, hb2⟩
      go_wp2_with fail
      refine (hs _).mono ?_
      rintro e w3 ⟨rfl, hb3⟩
      go_wp2_with fail
      go_ret
      exact ⟨by simp, ((HA.out.trans hb2).trans hb3)⟩
    | some x =>
      obtain ⟨As, Bs, Cs, eA, eB, eC, hAl, hBl, hCl, hmem⟩ := Tm.put_names hb
      have hxl := put_len hb
      simp only [hb, Option.getD_some, Option.isSome_some] at hi hs
      have hna := fun W => impl_names W l (by omega)
      have hnb := fun W => impl_names W b (by omega)
      have hnc := fun W => impl_names W x (by omega)
      rw [eA] at hna
      rw [eB] at hnb
      rw [eC] at hnc
      have hn1 := fun W => impl_norm W l (by omega)
      unfold NumRes at hn1
      obtain ⟨N, hN⟩ : ∃ N, N = ((Tm.pNorm l).map Prod.fst).getD [] := ⟨_, rfl⟩
      have hNl : N.length ≤ 21000 := by
        rw [hN]
        cases hq : Tm.pNorm l with
        | none => simp
        | some p => obtain ⟨y, m⟩ := p; exact (Tm.normof_facts hq).2.2.2
      have hp2 := fun W => impl_put W N n b (by omega) (by omega) (by omega)
      unfold TextRes at hp2
      obtain ⟨X, hX⟩ : ∃ X, X = (Tm.pPut N n b).getD [] := ⟨_, rfl⟩
      have hXl : X.length ≤ 21000 := by
        rw [hX]
        cases hq : Tm.pPut N n b with
        | none => simp
        | some y => exact put_len hq
      have hn2 := fun W => impl_norm W X (by omega)
      have hn3 := fun W => impl_norm W x (by omega)
      unfold NumRes at hn2 hn3
      have hfin : (Tm.pNorm l).isSome = true → (Tm.pPut N n b).isSome = true → (Tm.pNorm X).isSome = true → (Tm.pNorm x).isSome = true → ((Tm.pNorm x).map Prod.fst).getD [] = ((Tm.pNorm X).map Prod.fst).getD [] := by
        intro q1 q2 q3 q4
        obtain ⟨⟨N', i⟩, h1⟩ := Option.isSome_iff_exists.1 q1
        obtain ⟨X', h2⟩ := Option.isSome_iff_exists.1 q2
        obtain ⟨⟨a, j⟩, h3⟩ := Option.isSome_iff_exists.1 q3
        obtain ⟨⟨c, m⟩, h4⟩ := Option.isSome_iff_exists.1 q4
        rw [h1] at hN
        rw [h2] at hX
        simp only [Option.map_some, Option.getD_some] at hN hX
        subst hN
        subst hX
        rw [h3, h4]
        exact (Tm.put_ends hb h1 h2 h3 h4).symm
      rw [← hN] at hn1
      rw [← hX] at hp2
      clear hb hN hX eA eB eC
      obtain ⟨ba, hba⟩ : ∃ c, c = decide (n ∈ As) := ⟨_, rfl⟩
      obtain ⟨bb, hbb⟩ : ∃ c, c = decide (n ∈ Bs) := ⟨_, rfl⟩
      rw [← hba, ← hbb] at hmem
      generalize (Tm.pNorm l).isSome = c1 at *
      generalize ((Tm.pNorm l).map Prod.snd).getD 0 = m1 at *
      generalize (Tm.pPut N n b).isSome = c2 at *
      generalize (Tm.pNorm X).isSome = c3 at *
      generalize ((Tm.pNorm X).map Prod.fst).getD [] = x3 at *
      generalize ((Tm.pNorm X).map Prod.snd).getD 0 = m3 at *
      generalize (Tm.pNorm x).isSome = c4 at *
      generalize ((Tm.pNorm x).map Prod.fst).getD [] = x4 at *
      generalize ((Tm.pNorm x).map Prod.snd).getD 0 = m4 at *
      have HMEM := Lib.hid hmem
      have HBA := Lib.hid hba
      have HBB := Lib.hid hbb
      have HFIN := Lib.hid hfin
      have hCl : Hid (Cs.length ≤ 3000 ∧ Bs.length ≤ 3000 ∧ As.length ≤ 3000) := ⟨hCl, hBl, hAl⟩
      clear hmem hba hbb hfin hNl hXl hAl hBl hxl
      go_wp2_with fail
      refine (hi _).mono ?_
      rintro e w2 ⟨rfl, hb2⟩
      go_wp2_with fail
      refine (hs _).mono ?_
      rintro e w3 ⟨rfl, hb3⟩
      go_wp2_with fail
      refine (hna _).mono ?_
      rintro e w4 hn4
      obtain ⟨ao1, cap1, rfl, hb4, hu1⟩ := names_row_some hn4
      have HU1 := Lib.hid hu1
      clear hn4 hu1
      go_wp2_with fail
      refine (hnb _).mono ?_
      rintro e w5 hn5
      obtain ⟨ao2, cap2, rfl, hb5, hu2⟩ := names_row_some hn5
      have HU2 := Lib.hid hu2
      clear hn5 hu2
      go_wp2_with fail
      refine (hnc _).mono ?_
      rintro e w6 hn6
      obtain ⟨ao3, cap3, rfl, hb6, hu3⟩ := names_row_some hn6
      have HU3 := Lib.hid hu3
      clear hn6 hu3
      go_wp2_with fail
      refine (hn1 _).mono ?_
      rintro e w7 ⟨rfl, hb7⟩
      go_wp2_with fail
      refine (hp2 _).mono ?_
      rintro e w8 ⟨rfl, hb8⟩
      go_wp2_with fail
      refine (hn2 _).mono ?_
      rintro e w9 ⟨rfl, hb9⟩
      go_wp2_with fail
      refine (hn3 _).mono ?_
      rintro e w10 ⟨rfl, hb10⟩
      have hA10 := Lib.hid (((((((((HA.out.trans hb2).trans hb3).trans hb4).trans hb5).trans hb6).trans hb7).trans hb8).trans hb9).trans hb10)
      have h610 : After w6 w10 := (((After.refl _).trans hb7).trans hb8 |>.trans hb9).trans hb10
      have hh3 := l_has_same w10 _ Cs n (HU3.out.later h610) (by have := hCl.out.1; omega)
      have hh2 := l_has_same w10 _ Bs n ((HU2.out.later hb6).later h610) (by have := hCl.out.2.1; omega)
      have hh1 := l_has_same w10 _ As n (((HU1.out.later hb5).later hb6).later h610) (by have := hCl.out.2.2; omega)
      rw [HMEM.out] at hh3
      rw [← HBB.out] at hh2
      rw [← HBA.out] at hh1
      have hfin := HFIN.out
      clear HMEM HBA HBB HFIN HU1 HU2 HU3 h610 hi hs hna hnb hnc hn1 hp2 hn2 hn3
      go_wp2_with fail
      refine hh3.mono ?_
      rintro e w11 ⟨rfl, rfl⟩
      go_wp2_with fail
      refine hh1.mono ?_
      rintro e w11 ⟨rfl, rfl⟩
      cases ba
      · simp only [Bool.false_and]
        cases c1 <;> cases c2 <;> cases c3 <;> cases c4
        all_goals
          try (have hfin' := hfin rfl rfl rfl rfl; subst hfin')
          clear hfin
          go_wp2_with fail
          go_ret
          exact ⟨by simp, hA10.out⟩
      · simp only [Bool.true_and]
        go_wp2_with fail
        refine hh2.mono ?_
        rintro e w11 ⟨rfl, rfl⟩
        cases bb <;> cases c1 <;> cases c2 <;> cases c3 <;> cases c4
        all_goals
          try (have hfin' := hfin rfl rfl rfl rfl; subst hfin')
          clear hfin
          go_wp2_with fail
          go_ret
          exact ⟨by simp, hA10.out⟩
end Go.Proofs.Ytipmgfbncfkmiaa
