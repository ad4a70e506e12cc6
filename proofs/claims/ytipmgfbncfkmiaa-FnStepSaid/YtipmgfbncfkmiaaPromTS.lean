/-
  The walk of a promise's law: steps: whatever the code, the law returns true.
-/
import Derived.Test.YtipmgfbncfkmiaaDrawN
import Derived.Test.YtipmgfbncfkmiaaPromS
import Derived.Test.YtipmgfbncfkmiaaPkE
import Derived.Test.YtipmgfbncfkmiaaPkU
import Derived.Test.YtipmgfbncfkmiaaSFnC
import Derived.BigQuiet
import Derived.Deep.QuietTactic
namespace Go.Proofs.Ytipmgfbncfkmiaa
open Go.RowKit

set_option maxHeartbeats 2000000
set_option maxRecDepth 100000

theorem put_len {l n b x : List UInt8} (h : Tm.pPut l n b = some x) : x.length ≤ 21000 := by
  obtain ⟨_, _, _, _, _, _, _, _, _, _, _, h⟩ := Tm.put_facts h
  exact h

theorem law_pstep (w : World) (v : Value) (n : Nat) (h : CodeArg w v n) :
    Calls Try.prog 6 #[v] w fun e w' => e = .returned (.bool true) ∧ After w w' := by
  obtain ⟨a0, cap, rfl⟩ := h.form
  have hdraw := draw_step w _ n h
  clear h
  by_cases hbig : (1048576 : Int) < (n : Int)
  · go_enter Try.func6, Try.ntmps6
    go_wp2_with fail
    go_ret
    exact ⟨rfl, After.refl _⟩
  · go_enter Try.func6, Try.ntmps6
    go_wp2_with fail
    refine hdraw.mono ?_
    rintro e w1 hd
    obtain ⟨l, rfl, hl, ha⟩ := hd.text
    clear hd
    have HA := Lib.hid ha
    clear hdraw ha
    have hi := fun W => impl_step W l (by omega)
    have hs := fun W => spec_step W l (by omega)
    unfold TextRes at hi
    unfold SText at hs
    cases hb : Tm.pStep l with
    | none =>
      simp only [hb, Option.getD_none, Option.isSome_none] at hi hs
      clear hb
      go_wp2_with fail
      refine (hi _).mono ?_
      rintro e w2 ⟨rfl, hb2⟩
      go_wp2_with fail
      refine (hs _).mono ?_
      rintro e w3 ⟨rfl, hb3⟩
      go_wp2_with fail
      go_ret
      exact ⟨by simp, ((HA.out.trans hb2).trans hb3)⟩
    | some x =>
      obtain ⟨t, u, hpt, hpu, hno, hxl, hsub, hnx⟩ := Tm.step_facts hb
      simp only [hb, Option.getD_some, Option.isSome_some] at hi hs
      have hgt := (parse_text_iff hpt).2.1
      have hft := (parse_text_iff hpt).2.2
      have hgu := (parse_text_iff hpu).2.1
      have hfu := (parse_text_iff hpu).2.2
      obtain ⟨aas, has⟩ : ∃ aas, aas = Tm.names [] t := ⟨_, rfl⟩
      obtain ⟨bbs, hbs⟩ : ∃ bbs, bbs = Tm.names [] u := ⟨_, rfl⟩
      have ea : Tm.pNames l = some aas := by rw [has]; simp [Tm.pNames, hpt]
      have eb : Tm.pNames x = some bbs := by rw [hbs]; simp [Tm.pNames, hpu]
      obtain ⟨a1, a2, a3, _⟩ := Tm.names_facts has hgt
      obtain ⟨b1, b2, b3, _⟩ := Tm.names_facts hbs hgu
      have hza := (fits_size hft).1
      have hzb := (fits_size hfu).1
      have hal : aas.length ≤ 3000 := by omega
      have hbl : bbs.length ≤ 3000 := by omega
      have hna := fun W => impl_names W l (by omega)
      have hnb := fun W => impl_names W x (by omega)
      rw [ea] at hna
      rw [eb] at hnb
      have hin : ∀ j, j < bbs.length → decide (bbs.getD j [] ∈ aas) = true := fun j hj => decide_eq_true ((a1 _).2 (hsub _ ((b1 _).1 (Tm.getD_mem hj))))
      have hn1 := fun W => impl_norm W l (by omega)
      have hn2 := fun W => impl_norm W x (by omega)
      have hn3 := fun W => impl_normal W l (by omega)
      rw [hno] at hn3
      unfold NumRes at hn1 hn2
      have hfin : (Tm.pNorm l).isSome = false ∨ ∃ y m, (1 ≤ m ∧ m ≤ 6000) ∧ Tm.pNorm l = some (y, m) ∧ Tm.pNorm x = some (y, m - 1) := by
        cases hq : Tm.pNorm l with
        | none => exact Or.inl rfl
        | some p => obtain ⟨y, m⟩ := p; obtain ⟨c1, c2⟩ := hnx y m hq; exact Or.inr ⟨y, m, ⟨c1, (Tm.normof_facts hq).2.2.1⟩, rfl, c2⟩
      generalize Tm.pNorm l = o1 at *
      generalize Tm.pNorm x = o2 at *
      have HIN := Lib.hid hin
      have HFIN := Lib.hid hfin
      clear hin hfin hb hsub hnx has hbs ea eb a1 a2 a3 b1 b2 b3 hza hzb hpt hpu hno hgt hft hgu hfu
      go_wp2_with fail
      refine (hi _).mono ?_
      rintro e w2 ⟨rfl, hb2⟩
      go_wp2_with fail
      refine (hs _).mono ?_
      rintro e w3 ⟨rfl, hb3⟩
      go_wp2_with fail
      refine (hna _).mono ?_
      rintro e w4 hn4
      obtain ⟨ao1, cap1, rfl, hb4, hu1⟩ := names_row_some hn4
      have HU1 := Lib.hid hu1
      clear hn4 hu1
      go_wp2_with fail
      refine (hnb _).mono ?_
      rintro e w5 hn5
      obtain ⟨ao2, cap2, rfl, hb5, hu2⟩ := names_row_some hn5
      have HU2 := Lib.hid hu2
      clear hn5 hu2
      have hA5 := Lib.hid ((((HA.out.trans hb2).trans hb3).trans hb4).trans hb5)
      have HR := Lib.hid (HU1.out.later hb5)
      obtain ⟨ao', cap', e', hc⟩ := id HU2.out
      simp only [Value.slice.injEq] at e'
      obtain ⟨rfl, _, rfl⟩ := e'
      have HC := Lib.hid hc
      have HN1 := Lib.hid hn1
      have HN2 := Lib.hid hn2
      clear hc hi hs hna hnb HU1 HU2 hn1 hn2
      go_wp2_with fail
      go_loopw [12] (fun i wr => ∃ k : Nat, i = .int .i64 k ∧ k ≤ bbs.length ∧ After w5 wr) (fun i _ => bbs.length - (intOf i).toNat)
      case atStart => exact ⟨0, rfl, Nat.zero_le _, After.refl _⟩
      case round =>
        obtain ⟨k, rfl, hk, hAw⟩ := hrel
        by_cases hlt : k < bbs.length
        · obtain ⟨b, off, rfl, ⟨_, hle, hcm⟩, h1⟩ := HC.out k hlt
          replace h1 := hAw.cell h1
          have hN := HIN.out k hlt
          generalize bbs.getD k [] = y at h1 hN
          have hhas := l_has_same wr _ aas y (HR.out.later hAw) (by omega)
          rw [hN] at hhas
          have hlt' : (k : Int) < (bbs.length : Int) := by omega
          clear hN
          go_wp2_with fail
          refine hhas.mono ?_
          rintro e w6 ⟨rfl, rfl⟩
          go_wp2_with fail
          go_roundw
          case rel => exact ⟨k + 1, by go_num, by omega, hAw⟩
          case measure => simp [intOf]; omega
        · obtain rfl : k = bbs.length := by omega
          go_wp2_with fail
          refine (HN1.out _).mono ?_
          rintro e w6 ⟨rfl, hb6⟩
          go_wp2_with fail
          refine (HN2.out _).mono ?_
          rintro e w7 ⟨rfl, hb7⟩
          go_wp2_with fail
          refine (hn3 _).mono ?_
          rintro e w8 ⟨rfl, hb8⟩
          have hA8 := Lib.hid ((((hA5.out.trans hAw).trans hb6).trans hb7).trans hb8)
          rcases HFIN.out with h | ⟨y, m, hm, rfl, rfl⟩
          · rw [h]
            generalize (o1.map Prod.fst).getD [] = x1
            generalize (o1.map Prod.snd).getD 0 = m1
            generalize (o2.map Prod.fst).getD [] = x2
            generalize (o2.map Prod.snd).getD 0 = m2
            generalize o2.isSome = c2
            go_wp2_with fail
            go_ret
            exact ⟨by simp, hA8.out⟩
          · simp only [Option.map_some, Option.getD_some, Option.isSome_some]
            have e3 : wrap64 ((m : Int) - 1) = ((m - 1 : Nat) : Int) := by rw [wrap64_small _ (by omega) (by omega)]; omega
            have HE3 := Lib.hid e3
            clear e3
            go_wp2_with fail
            go_ret
            exact ⟨by first | (simp; rw [HE3.out]; done) | (simp; omega) | (have := HE3.out; simp; omega), hA8.out⟩

end Go.Proofs.Ytipmgfbncfkmiaa
