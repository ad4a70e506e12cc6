/-
  The walk of a promise's law: pairs have both parts as maps: whatever the code, the law returns true.
-/
import Derived.Test.YtidpkmkhcomcdaaGreatPkK
import Derived.Test.YtidpkmkhcomcdaaGreatPkL
import Derived.Test.YtidpkmkhcomcdaaGreatSPairA
namespace Go.Proofs.YtidpkmkhcomcdaaGreat
open Go.RowKit

set_option maxHeartbeats 1000000
set_option maxRecDepth 100000

theorem lens_to {m k : Nat} {a : List (List (List UInt8))} (h : Lens m a) (hm : m ≤ k) : Lens k a := ⟨Nat.le_trans h.1 hm, fun ns hs => ⟨Nat.le_trans (h.2 ns hs).1 hm, fun s hh => Nat.le_trans ((h.2 ns hs).2 s hh) hm⟩⟩

theorem pPairA_facts (a b : List (List (List UInt8))) (h : (Asm.pPairA a b).isSome = true) : Asm.ok a = true ∧ Asm.ok b = true ∧ Asm.ok (Asm.pairA a b) = true ∧ (Asm.pPairA a b).getD [] = Asm.pairA a b := by
  unfold Asm.pPairA at h ⊢
  split at h
  · rename_i h1
    split at h
    · rename_i h2
      rw [if_pos h1, if_pos h2]
      rw [Bool.and_eq_true] at h1
      exact ⟨h1.1, h1.2, h2, rfl⟩
    · cases h
  · cases h
theorem pPairA_lens (a b : List (List (List UInt8))) : Lens 1000000 ((Asm.pPairA a b).getD []) := by
  unfold Asm.pPairA
  split
  · rename_i h1
    rw [Bool.and_eq_true] at h1
    split
    · exact Asm.pairA_lens h1.1 h1.2
    · exact ⟨by simp, fun ns h => absurd h (by simp)⟩
  · exact ⟨by simp, fun ns h => absurd h (by simp)⟩
theorem data_first_is' : pData [102, 105, 114, 115, 116] = some Tm.first.text := rfl
theorem data_second_is' : pData [115, 101, 99, 111, 110, 100] = some Tm.second.text := rfl

theorem law_ppairs (w : World) (v : Value) (n : Nat) (h : CodeArg w v n) :
    Calls Tryz.prog 4 #[v] w fun e w' => e = .returned (.bool true) ∧ After w w' := by
  obtain ⟨a0, cap, rfl⟩ := code_form h
  have hdraw := draw_ap w _ n h
  clear h
  by_cases hbig : (1048576 : Int) < (n : Int)
  · go_enter Tryz.func4, Tryz.ntmps4
    go_wp2_with fail
    go_ret
    exact ⟨rfl, After.refl _⟩
  · go_enter Tryz.func4, Tryz.ntmps4
    go_wp2_with fail
    refine hdraw.mono ?_
    rintro e w1 ⟨s1, s2, a, b, rfl, hs1, hs2, hl1, hl2, ha⟩
    obtain ⟨o1, k1, e1⟩ := hs1.form
    obtain ⟨o2, k2, e2⟩ := hs2.form
    obtain ⟨L1, hL1⟩ : ∃ L, L = a.length := ⟨_, rfl⟩
    obtain ⟨L2, hL2⟩ : ∃ L, L = b.length := ⟨_, rfl⟩
    rw [← hL1] at e1
    rw [← hL2] at e2
    subst e1
    subst e2
    have hA1 := (After.new w1 (.cells #[.slice o1 L1 k1] 26)).alloc (.cells #[.slice o2 L2 k2] 26)
    have hx1 := heap_old2 w1 (.cells #[.slice o1 L1 k1] 26) (.cells #[.slice o2 L2 k2] 26)
    have hx2 := heap_new2 w1 w1.heap.size (.cells #[.slice o1 L1 k1] 26) (.cells #[.slice o2 L2 k2] 26) rfl
    have hS1 := (hs1.mono (Nat.zero_le _)).later hA1
    have hS2 := (hs2.mono (Nat.zero_le _)).later hA1
    obtain ⟨W1, hW1⟩ : ∃ W, W = (w1.alloc (.cells #[.slice o1 L1 k1] 26)).alloc (.cells #[.slice o2 L2 k2] 26) := ⟨_, rfl⟩
    obtain ⟨q1, hq1⟩ : ∃ q, q = w1.heap.size := ⟨_, rfl⟩
    rw [← hW1] at hA1 hx1 hx2 hS1 hS2
    rw [← hq1] at hx1 hx2
    have hi := fun W (hW : After W1 W) => impl_pairA W _ _ a b (hS1.later hW) (hS2.later hW) (lens_to hl1 (by omega)) (lens_to hl2 (by omega))
    have hs := fun W (hW : After W1 W) => spec_pairA W _ _ a b (hS1.later hW) (hS2.later hW) (lens_to hl1 (by omega)) (lens_to hl2 (by omega))
    unfold AsmOwn at hi hs
    have hfact := pPairA_facts a b
    have hln := pPairA_lens a b
    generalize hxr : (Asm.pPairA a b).getD [] = x at *
    generalize hbr : (Asm.pPairA a b).isSome = bb at *
    obtain ⟨LX, hLX⟩ : ∃ L, L = x.length := ⟨_, rfl⟩
    have HL1 := Lib.hid hL1
    have HL2 := Lib.hid hL2
    have HLX := Lib.hid hLX
    have HLL1 := Lib.hid hl1
    have HLL2 := Lib.hid hl2
    have HS1 := Lib.hid hS1
    have HS2 := Lib.hid hS2
    have HX1 := Lib.hid hx1
    have HX2 := Lib.hid hx2
    have HI := Lib.hid hi
    have HSP := Lib.hid hs
    have HFACT := Lib.hid hfact
    have HLN := Lib.hid hln
    have HA1 := Lib.hid (After.trans ha hA1)
    have HW1 := Lib.hid hW1
    have HQ1 := Lib.hid hq1
    clear hdraw hL1 hL2 hLX hl1 hl2 hS1 hS2 hs1 hs2 hx1 hx2 hi hs hfact hln ha hA1 hW1 hq1 hxr hbr
    go_wp2_with fail
    simp only [← HW1.out, ← HQ1.out]
    refine (HI.out _ (After.refl _)).mono ?_
    rintro e w2 ⟨sv0, rfl, ho0, hb1⟩
    obtain ⟨ao0, c0, e0⟩ := ho0.form
    rw [← HLX.out] at e0
    subst e0
    have hn1 := After.new w2 (.cells #[.slice ao0 LX c0] 26)
    have hx1 := heap_new' w2 (.cells #[.slice ao0 LX c0] 26)
    have HS0 := Lib.hid ((ho0.ssu (B := 0) (Nat.zero_le _)).later hn1)
    have hA12 := After.trans hb1 hn1
    obtain ⟨W2, hW2⟩ : ∃ W, W = w2.alloc (.cells #[.slice ao0 LX c0] 26) := ⟨_, rfl⟩
    obtain ⟨q3, hq3⟩ : ∃ q, q = w2.heap.size := ⟨_, rfl⟩
    rw [← hW2] at hx1 HS0 hA12
    rw [← hq3] at hx1
    obtain ⟨p0, p1, p2⟩ := one_facts HX1.out hb1
    obtain ⟨r0, r1, r2⟩ := one_facts HX2.out hb1
    obtain ⟨p0', p1', p2'⟩ := one_facts HX1.out hA12
    obtain ⟨r0', r1', r2'⟩ := one_facts HX2.out hA12
    rw [hW2] at p0' p1' p2' r0' r1' r2'
    have HX3 := Lib.hid hx1
    have HA12 := Lib.hid hA12
    have HW2 := Lib.hid hW2
    have HQ3 := Lib.hid hq3
    clear ho0 hx1 hb1 hn1 hA12 hW2 hq3 p2 r2 p2' r2'
    go_wp2_with fail
    simp only [← HW2.out, ← HQ3.out]
    clear p0 p1 r0 r1 p0' p1' r0' r1'
    refine (HSP.out _ HA12.out).mono ?_
    rintro e w3 ⟨sv5, rfl, ho5, hb2⟩
    obtain ⟨ao5, c5, e5⟩ := ho5.form
    rw [← HLX.out] at e5
    subst e5
    have hn2 := After.new w3 (.cells #[.slice ao5 LX c5] 26)
    have hx2 := heap_new' w3 (.cells #[.slice ao5 LX c5] 26)
    have hA23 := After.trans hb2 hn2
    have HS5 := Lib.hid ((ho5.ssu (B := 0) (Nat.zero_le _)).later hn2)
    obtain ⟨W3, hW3⟩ : ∃ W, W = w3.alloc (.cells #[.slice ao5 LX c5] 26) := ⟨_, rfl⟩
    obtain ⟨q4, hq4⟩ : ∃ q, q = w3.heap.size := ⟨_, rfl⟩
    rw [← hW3] at hx2 HS5 hA23
    rw [← hq4] at hx2
    have hsame := fun W (hW : After W3 W) => l_sameA W _ _ x ((HS0.out.later hA23).later hW) (HS5.out.later hW) (lens_to HLN.out (by omega))
    obtain ⟨p0, p1, p2⟩ := one_facts HX3.out hA23
    obtain ⟨r0, r1, r2⟩ := one_facts hx2 (After.refl _)
    rw [hW3] at p0 p1 r0 r1
    have HX4 := Lib.hid hx2
    have HA23 := Lib.hid hA23
    have HSAME := Lib.hid hsame
    have HW3 := Lib.hid hW3
    have HQ4 := Lib.hid hq4
    clear ho5 hx2 hb2 hn2 hsame hA23 hW3 hq4 p2 r2
    have HF1 : Hid True := trivial
    cases bb with
    | false =>
      clear HFACT
      go_wp2_with (first
        | (go_at_call 11
           clear HF1
           simp only [← HW3.out, ← HQ4.out]
           refine (HSAME.out _ (After.refl _)).mono ?_
           rintro e w4 ⟨rfl, hb4⟩
           obtain ⟨s0, s1, s2⟩ := one_facts HX4.out hb4
           obtain ⟨t0, t1, t2⟩ := one_facts HX3.out (HA23.out.trans hb4))
        | (go_at_call 11
           refine (HSAME.out _ hb4).mono ?_
           rintro e w5 ⟨rfl, hb5⟩))
      go_ret
      exact ⟨rfl, After.trans HA1.out (After.trans HA12.out (After.trans HA23.out (After.trans hb4 hb5)))⟩
    | true =>
      obtain ⟨oka, okb, okx, ex⟩ := HFACT.out rfl
      subst ex
      obtain ⟨f1, f2⟩ := Asm.pairs_track oka okb okx
      have hlb := Asm.ok_pos okb
      have hxl := HLN.out.1
      obtain ⟨f, hf⟩ : ∃ f : Nat → Int, f = fun (i : Nat) => ((i / b.length : Nat) : Int) := ⟨_, rfl⟩
      obtain ⟨g, hg⟩ : ∃ g : Nat → Int, g = fun (i : Nat) => ((i % b.length : Nat) : Int) := ⟨_, rfl⟩
      rw [← hf] at f1
      rw [← hg] at f2
      rw [← HL2.out] at hf hg hlb
      rw [← HLX.out] at f1 f2 hxl
      have hd := fun W => impl_data W [102, 105, 114, 115, 116]
      have hd2 := fun W => impl_data W [115, 101, 99, 111, 110, 100]
      unfold NumOne at hd hd2
      simp only [data_first_is', Option.getD_some, Option.isSome_some] at hd
      simp only [data_second_is', Option.getD_some, Option.isSome_some] at hd2
      have hpl : Tm.first.text.length ≤ 1000 := by decide +kernel
      have hpl2 : Tm.second.text.length ≤ 1000 := by decide +kernel
      generalize Tm.first.text = y1 at *
      generalize Tm.second.text = y2 at *
      have htr1 := fun W (hW : After W3 W) base lv (hr : RI W base lv LX f) => impl_trackIs W _ _ lv _ _ (Asm.mp LX f) y1 (HS0.out.later (HA23.out.trans hW)) (HS1.out.later (HA12.out.trans (HA23.out.trans hW))) (lens_to HLN.out (by omega)) (lens_to HLL1.out (by omega)) hr.row (by rw [Asm.mp_len]; omega) (by omega)
      have htr2 := fun W (hW : After W3 W) base lv (hr : RI W base lv LX g) => impl_trackIs W _ _ lv _ _ (Asm.mp LX g) y2 (HS0.out.later (HA23.out.trans hW)) (HS2.out.later (HA12.out.trans (HA23.out.trans hW))) (lens_to HLN.out (by omega)) (lens_to HLL2.out (by omega)) hr.row (by rw [Asm.mp_len]; omega) (by omega)
      rw [f1] at htr1
      rw [f2] at htr2
      have HD := Lib.hid hd
      have HD2 := Lib.hid hd2
      have HTR1 := Lib.hid htr1
      have HTR2 := Lib.hid htr2
      have HFE := Lib.hid hf
      have HGE := Lib.hid hg
      clear hd hd2 hpl hpl2 htr1 htr2 f1 f2 hf hg oka okb okx HFACT HI HSP
      generalize Asm.pairA a b = x at *
      go_wp2_with (go_at_call 11
                   simp only [← HW3.out, ← HQ4.out]
                   refine (HSAME.out _ (After.refl _)).mono ?_
                   rintro e w4 ⟨rfl, hb4⟩
                   have HB4 := Lib.hid hb4
                   have HT := Lib.hid (Two.start w4 f g)
                   obtain ⟨s0, s1, s2⟩ := one_facts HX2.out (HA12.out.trans (HA23.out.trans hb4))
                   clear hb4 p0 p1 r0 r1 s2)
      have HII : Hid (∃ i, (Tryz.prog).info? 3 = some i ∧ i.zero = some (.int .i64 0) ∧ i.size = 1 ∧ i.bytes = 8) := ⟨_, rfl, rfl, rfl, rfl⟩
      have HUN : Hid (Tryz.prog.underlying 30 = some (.slice 3)) := by show _ = _; kernel_rfl
      have HA4 : Hid (After W3 w4) := HB4.out
      go_loopw [10, 11, 12] (fun lv rv i wr => ∃ (k gl gr cl cr : Nat), i = .int .i64 k ∧ lv = .slice (some ⟨gl, 0, none⟩) k cl ∧ rv = .slice (some ⟨gr, 0, none⟩) k cr ∧ k ≤ LX ∧ Hid (Two w4 wr w4.heap.size gl gr k k cl cr f g)) (fun _ _ i _ => LX - (intOf i).toNat)
      case atStart => exact ⟨0, _, _, 0, 0, rfl, rfl, rfl, Nat.zero_le _, HT⟩
      case round =>
        obtain ⟨k, gl, gr, cl, cr, rfl, rfl, rfl, hk, HTW⟩ := hrel
        obtain ⟨t0, t1, t2⟩ := one_facts HX3.out (HA23.out.trans (HA4.out.trans HTW.out.1))
        clear s0 s1 t2
        by_cases hlt : k < LX
        · have hlt' : (k : Int) < (LX : Int) := by omega
          have hpos : ¬ (L2 : Int) = 0 := by omega
          have hz1 : (wrap64 ((k : Int) / (L2 : Int))) = f k := by
            rw [HFE.out]
            show wrap64 ((k : Int) / (L2 : Int)) = ((k / L2 : Nat) : Int)
            rw [Int.natCast_ediv]
            have d1 := Int.ediv_nonneg (a := (k : Int)) (b := (L2 : Int)) (by omega) (by omega)
            have d2 := Int.ediv_le_self (a := (k : Int)) (L2 : Int) (by omega)
            generalize (k : Int) / (L2 : Int) = t at *
            unfold wrap64
            omega
          have hz2 : ((k : Int) % (L2 : Int)) = g k := by rw [HGE.out]; rfl
          have HZ1 := Lib.hid hz1
          have HZ2 := Lib.hid hz2
          have HPL := Lib.hid (Two.pre HTW.out.2.2.2.2.1 HTW.out.2.2.1 (wrap64 ((k : Int) / (L2 : Int))))
          obtain ⟨i0, hi0, hz0, hzs, hz4⟩ := HII.out
          have HF2 : Hid True := trivial
          clear hz1 hz2
          go_wp2_with (first
            | (at_builtin
               clear HF2
               refine wpList_append_lies _ (by rfl) _ _ 30 (by rfl) w4.heap.size 3 i0 (.int .i64 0) 1 8 HUN.out hi0 hz0 hzs hz4 rfl (by decide) _ _ _ (by rfl) HPL.out.1 ⟨wr.heap.size, 0, none⟩ 1 1 [.int .i64 (wrap64 ((k : Int) / (L2 : Int)))] (by rfl) (by rfl) HPL.out.2.1 (by simp [Value.oneCell']) (by omega) (by unfold maxLen; omega) (by omega) HPL.out.2.2 _ rfl ?_
               intro g5 q5 w5 ho5 hg5 hw5 _
               have HT5 := Lib.hid (HTW.out.left HZ1.out ho5 hg5 hw5)
               have HPR := Lib.hid (Two.pre HT5.out.2.2.2.2.2 HT5.out.2.2.1 ((k : Int) % (L2 : Int)))
               clear ho5 hg5 hw5)
            | (at_builtin
               refine wpList_append_lies _ (by rfl) _ _ 30 (by rfl) w4.heap.size 3 i0 (.int .i64 0) 1 8 HUN.out hi0 hz0 hzs hz4 rfl (by decide) _ _ _ (by rfl) HPR.out.1 ⟨w5.heap.size, 0, none⟩ 1 1 [.int .i64 ((k : Int) % (L2 : Int))] (by rfl) (by rfl) HPR.out.2.1 (by simp [Value.oneCell']) (by omega) (by unfold maxLen; omega) (by omega) HPR.out.2.2 _ rfl ?_
               intro g6 q6 w6 ho6 hg6 hw6 _
               have HT6 := Lib.hid (HT5.out.right HZ2.out ho6 hg6 hw6)
               clear ho6 hg6 hw6))
          go_roundw
          case rel => exact ⟨k + 1, g5, g6, q5, q6, by go_num, rfl, rfl, by omega, HT6⟩
          case measure => simp [intOf]; omega
        · obtain rfl : k = LX := by omega
          have HT1 := Lib.hid (fun W (hW : After wr W) => HTR1.out W (HA4.out.trans (After.trans HTW.out.1 hW)) _ _ (HTW.out.2.2.2.2.1.later hW))
          have HT2 := Lib.hid (fun W (hW : After wr W) => HTR2.out W (HA4.out.trans (After.trans HTW.out.1 hW)) _ _ (HTW.out.2.2.2.2.2.later hW))
          have HWr := Lib.hid (HA12.out.trans (HA23.out.trans (HA4.out.trans HTW.out.1)))
          have HWr3 := Lib.hid (HA23.out.trans (HA4.out.trans HTW.out.1))
          have HF3 : Hid True := trivial
          have HF4 : Hid True := trivial
          clear HTR1 HTR2
          go_wp2_with (first
            | (go_at_call 12
               clear HF3
               refine (HD.out _).mono ?_
               rintro e w6 ⟨rfl, hb6⟩)
            | (go_at_call 12
               refine (HD2.out _).mono ?_
               rintro e w7 ⟨rfl, hb7⟩
               have HB7 := Lib.hid (After.trans hb6 hb7)
               obtain ⟨s0, s1, s2⟩ := one_facts HX3.out (HWr3.out.trans (HB7.out))
               obtain ⟨u0, u1, u2⟩ := one_facts HX1.out (HWr.out.trans HB7.out)
               clear hb6 hb7)
            | (go_at_call 14
               clear HF4
               refine (HT1.out _ HB7.out).mono ?_
               rintro e w8 ⟨rfl, hb8⟩
               have HB8 := Lib.hid (After.trans HB7.out hb8)
               obtain ⟨v0, v1, v2⟩ := one_facts HX3.out (HWr3.out.trans HB8.out)
               obtain ⟨x0, x1, x2⟩ := one_facts HX2.out (HWr.out.trans HB8.out))
            | (go_at_call 14
               refine (HT2.out _ HB8.out).mono ?_
               rintro e w9 ⟨rfl, hb9⟩))
          go_ret
          exact ⟨rfl, After.trans HA1.out (After.trans HWr.out (After.trans HB8.out hb9))⟩
end Go.Proofs.YtidpkmkhcomcdaaGreat
