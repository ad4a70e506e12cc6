/-
  The walk of a promise's law: numbers are modest: whatever the code, the law returns true.
-/
import Derived.Test.YtidpkmkhcomcdaaGreatPkK
import Derived.Test.YtidpkmkhcomcdaaGreatPkL
namespace Go.Proofs.YtidpkmkhcomcdaaGreat
open Go.RowKit

set_option maxHeartbeats 2000000
set_option maxRecDepth 100000

theorem draw_anum (w : World) (v : Value) (n : Nat) (h : CodeArg w v n) : Calls Tryz.prog 8 #[v] w fun e w' => ∃ z : Nat, z < 8 ∧ e = .returned (.int .i64 z) ∧ After w w' := by
  have hopen := open_any w v n h
  clear h
  go_enter Tryz.func8, Tryz.ntmps8
  go_wp2_with fail
  refine hopen.mono ?_
  rintro e w1 ⟨rb, rfl, hr, ha, hd⟩
  have hs := pick_any w1 rb 0 8 hd (by omega) (by omega) (by omega)
  clear hopen hd
  go_wp2_with fail
  refine hs.mono ?_
  rintro e w2 ⟨k, hk, rfl, hg1, hd1⟩
  clear hs hd1
  go_wp2_with fail
  go_ret
  exact ⟨k, hk, rfl, after_open ha hg1 hr⟩

theorem law_pnums (w : World) (v : Value) (n : Nat) (h : CodeArg w v n) :
    Calls Tryz.prog 3 #[v] w fun e w' => e = .returned (.bool true) ∧ After w w' := by
  obtain ⟨a0, cap, rfl⟩ := code_form h
  have hdraw := draw_anum w _ n h
  clear h
  by_cases hbig : (1048576 : Int) < (n : Int)
  · go_enter Tryz.func3, Tryz.ntmps3
    go_wp2_with fail
    go_ret
    exact ⟨rfl, After.refl _⟩
  · go_enter Tryz.func3, Tryz.ntmps3
    go_wp2_with fail
    refine hdraw.mono ?_
    rintro e w1 ⟨z, hz8, rfl, ha⟩
    have HA := Lib.hid ha
    clear hdraw ha
    have hi := fun W => impl_nums W (z : Int)
    have hs := fun W => spec_nums W (z : Int)
    unfold AsmOwn at hi hs
    have hlens := nums_lens' (z : Int)
    have hfact := fun h => nums_facts (z := z) h
    generalize (pNums (z : Int)).isSome = b at *
    generalize (pNums (z : Int)).getD [] = a at *
    have hal := hlens.1
    have HL9 : Hid (Lens 1000000000 a) := ⟨by omega, fun ns hs => ⟨by have := (hlens.2 ns hs).1; omega, fun s h => by have := (hlens.2 ns hs).2 s h; omega⟩⟩
    obtain ⟨L, hL⟩ : ∃ L, L = a.length := ⟨_, rfl⟩
    have HLL := Lib.hid hL
    have HS := Lib.hid hs
    have HF := Lib.hid hfact
    clear hs hfact hlens hal hL
    go_wp2_with fail
    refine (hi w1).mono ?_
    rintro e w2 ⟨sv0, rfl, ho0, hb1⟩
    obtain ⟨ao0, c0, e0⟩ := ho0.form
    rw [← HLL.out] at e0
    subst e0
    have hn1 := After.new w2 (.cells #[.slice ao0 L c0] 26)
    have hx1 := heap_new' w2 (.cells #[.slice ao0 L c0] 26)
    have HS0 := Lib.hid ((ho0.ssu (Nat.zero_le 0 |> fun _ => Nat.zero_le _)).later hn1)
    have HA1 := Lib.hid (After.trans HA.out (After.trans hb1 hn1))
    have HX1 := Lib.hid hx1
    clear ho0 hx1 hi hb1 hn1
    go_wp2_with fail
    generalize w2.heap.size = b3 at *
    generalize w2.alloc (.cells #[.slice ao0 L c0] 26) = W1 at *
    refine (HS.out W1).mono ?_
    rintro e w3 ⟨sv5, rfl, ho5, hb2⟩
    obtain ⟨ao5, c5, e5⟩ := ho5.form
    rw [← HLL.out] at e5
    subst e5
    have hn2 := After.new w3 (.cells #[.slice ao5 L c5] 26)
    have hx2 := heap_new' w3 (.cells #[.slice ao5 L c5] 26)
    have HS5 := Lib.hid ((ho5.ssu (Nat.zero_le _)).later hn2)
    have hA2 := After.trans hb2 hn2
    have hsame := fun W (hW : After (w3.alloc (.cells #[.slice ao5 L c5] 26)) W) => l_sameA W _ _ a ((HS0.out.later hA2).later hW) (HS5.out.later hW) HL9.out
    obtain ⟨q0, q1, q2⟩ := one_facts hx2 (After.refl _)
    obtain ⟨p0, p1, p2⟩ := one_facts HX1.out hA2
    have HA2 := Lib.hid hA2
    have HA3 := Lib.hid (After.trans HA1.out hA2)
    have HX2 := Lib.hid hx2
    have HSAME := Lib.hid hsame
    clear ho5 hx2 hb2 hn2 hsame
    cases b with
    | false =>
      clear HF
      have HF1 : Hid True := trivial
      go_wp2_with (first
        | (go_at_call 11
           clear HF1
           refine (HSAME.out _ (After.refl _)).mono ?_
           rintro e w4 ⟨rfl, hb4⟩
           obtain ⟨r0, r1, r2⟩ := one_facts HX2.out hb4
           obtain ⟨s0, s1, s2⟩ := one_facts HX1.out (HA2.out.trans hb4))
        | (go_at_call 11
           refine (HSAME.out _ hb4).mono ?_
           rintro e w5 ⟨rfl, hb5⟩))
      go_ret
      exact ⟨rfl, HA3.out.trans (hb4.trans hb5)⟩
    | true =>
      obtain ⟨hz1, hz6, ea⟩ := HF.out rfl
      subst ea
      obtain ⟨f1, f2⟩ := Asm.nums_track z hz1 hz6
      have eL := HLL.out.symm
      rw [numsA_len] at eL
      subst eL
      clear HF
      obtain ⟨f, hf⟩ : ∃ f : Nat → Int, f = fun (x : Nat) => max 0 ((x : Int) - 1) := ⟨_, rfl⟩
      rw [← hf] at f1
      have HFE := Lib.hid hf
      have hd := fun W => impl_data W [112, 114, 101, 100]
      unfold NumOne at hd
      simp only [data_pred_is, Option.getD_some, Option.isSome_some] at hd
      have hpl : Tm.pred.text.length ≤ 1000 := by decide +kernel
      generalize Tm.pred.text = y at *
      have hmod := fun W (hW : After W1 W) => impl_asmModest W _ _ (HS0.out.later hW) HL9.out
      rw [f2] at hmod
      have htrk := fun W base lv (hW : After W1 W) (hr : RI W base lv z f) => impl_trackIs W _ _ lv _ _ (Asm.mp z f) y (HS0.out.later hW) (HS0.out.later hW) HL9.out HL9.out hr.row (by rw [Asm.mp_len]; omega) (by omega)
      rw [f1] at htrk
      have HD := Lib.hid hd
      have HMOD := Lib.hid hmod
      have HTRK := Lib.hid htrk
      clear hd hmod htrk f1 f2 hf hpl
      go_wp2_with (go_at_call 11
                   refine (HSAME.out _ (by first | exact After.refl _ | assumption)).mono ?_
                   rintro e w4 ⟨rfl, hb4⟩
                   have HE := Lib.hid (RI.empty (heap_new' w4 (.cells #[] 3)) (Nat.le_refl _) f)
                   have HA4 := Lib.hid (HA2.out.trans hb4)
                   clear hb4 q0 q1 q2 p0 p1 p2)
      have HI : Hid (∃ i, (Tryz.prog).info? 3 = some i ∧ i.zero = some (.int .i64 0) ∧ i.size = 1 ∧ i.bytes = 8) := ⟨_, rfl, rfl, rfl, rfl⟩
      have HUN : Hid (Tryz.prog.underlying 30 = some (.slice 3)) := by show _ = _; kernel_rfl
      go_loopw [8, 9] (fun lv i wr => ∃ k : Nat, i = .int .i64 k ∧ k ≤ z ∧ Hid (RI wr w4.heap.size lv k f) ∧ Hid (After w4 wr)) (fun _ i _ => z - (intOf i).toNat)
      case atStart => exact ⟨0, rfl, Nat.zero_le _, HE, by show After _ _; exact After.new _ _⟩
      case round =>
        obtain ⟨k, rfl, hk, hrow, hA⟩ := hrel
        have hrow' : Hid (wr.ownsRow w4.heap.size 3 1 _ k _) := hrow
        obtain ⟨al, cl, rfl⟩ := own_slice_len hrow'.out
        by_cases hlt : k < z
        · have hlt' : (k : Int) < (z : Int) := by omega
          have hm : (if (1 : Int) < (k : Int) then (k : Int) - 1 else 0) = f k := by rw [HFE.out]; show _ = max 0 ((k : Int) - 1); split <;> omega
          have hnw := After.new wr (.cells #[.int .i64 (if (1 : Int) < (k : Int) then (k : Int) - 1 else 0)] 3)
          have HO := Lib.hid (own_later hrow'.out hnw)
          have hlit := intz_row wr wr.heap.size (Nat.le_refl _) (if (1 : Int) < (k : Int) then (k : Int) - 1 else 0)
          have hnews := Lib.hid (hlit.cells (g := wr.heap.size) rfl)
          obtain ⟨i0, hi0, hz0, hz1, hz2⟩ := HI.out
          have hb5 := (hA.out.trans hnw).size
          have HA5 := Lib.hid (hA.out.trans hnw)
          have HM := Lib.hid hm
          clear hlit hnw hm
          go_wp2_with (at_builtin; refine wpList_append_lies _ (by rfl) _ _ 30 (by rfl) w4.heap.size 3 i0 (.int .i64 0) 1 8 HUN.out hi0 hz0 hz1 hz2 rfl (by decide) _ _ _ (by rfl) HO.out ⟨wr.heap.size, 0, none⟩ 1 1 [.int .i64 (if (1 : Int) < (k : Int) then (k : Int) - 1 else 0)] (by rfl) (by rfl) hnews.out (by simp [Value.oneCell']) (by omega) (by unfold maxLen; omega) (by omega) hb5 _ rfl ?_; intro g4 q4 w5 ho4 hg4 _ hlt4; have HO4 := Lib.hid ho4; have HG4 := Lib.hid hg4; clear ho4 hg4)
          go_roundw
          case rel =>
            refine ⟨k + 1, by go_num, by omega, ?_, ?_⟩
            · show RI _ _ _ _ _
              have h4 := HO4.out
              rw [HM.out] at h4
              exact RI.next h4
            · show After _ _
              exact HA5.out.grown HG4.out HA5.out.size (fun k hk => (HO.out.lt k hk).1)
          case measure => simp [intOf]; omega
        · obtain rfl : k = z := by omega
          have HT := fun W (hW : After wr W) => HTRK.out W _ _ (HA4.out.trans (hA.out.trans hW)) (hrow.out.later hW)
          have HWr := Lib.hid (HA4.out.trans hA.out)
          have HT' := Lib.hid HT
          clear HT hrow hrow'
          go_wp2_with (first
            | (go_at_call 12
               refine (HD.out _).mono ?_
               rintro e w6 ⟨rfl, hb6⟩
               obtain ⟨r0, r1, r2⟩ := one_facts HX1.out (HWr.out.trans hb6))
            | (go_at_call 13
               refine (HMOD.out _ (HWr.out.trans hb6)).mono ?_
               rintro e w7 ⟨rfl, hb7⟩
               obtain ⟨s0, s1, s2⟩ := one_facts HX1.out ((HWr.out.trans hb6).trans hb7))
            | (go_at_call 14
               refine (HT'.out _ (After.trans hb6 hb7)).mono ?_
               rintro e w8 ⟨rfl, hb8⟩))
          go_ret
          exact ⟨rfl, HA1.out.trans (((HWr.out.trans hb6).trans hb7).trans hb8)⟩
end Go.Proofs.YtidpkmkhcomcdaaGreat
