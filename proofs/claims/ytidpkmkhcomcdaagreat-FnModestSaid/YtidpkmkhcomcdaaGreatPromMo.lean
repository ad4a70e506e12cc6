/-
  The walk of a promise's law: in modest assemblies a term tracks one map: whatever the code, the law returns true.
-/
import Derived.Test.YtidpkmkhcomcdaaGreatPkK
import Derived.Test.YtidpkmkhcomcdaaGreatPkL
import Derived.Test.YtidpkmkhcomcdaaGreatSMod
namespace Go.Proofs.YtidpkmkhcomcdaaGreat
open Go.RowKit

set_option maxHeartbeats 1000000
set_option maxRecDepth 100000

theorem lens_to1 {m k : Nat} {a : List (List (List UInt8))} (h : Lens m a) (hm : m ≤ k) : Lens k a := ⟨Nat.le_trans h.1 hm, fun ns hs => ⟨Nat.le_trans (h.2 ns hs).1 hm, fun s hh => Nat.le_trans ((h.2 ns hs).2 s hh) hm⟩⟩

theorem law_pmodest (w : World) (v : Value) (n : Nat) (h : CodeArg w v n) :
    Calls Tryz.prog 6 #[v] w fun e w' => e = .returned (.bool true) ∧ After w w' := by
  obtain ⟨a0, cap, rfl⟩ := code_form h
  have hdraw := draw_am w _ n h
  clear h
  by_cases hbig : (1048576 : Int) < (n : Int)
  · go_enter Tryz.func6, Tryz.ntmps6
    go_wp2_with fail
    go_ret
    exact ⟨rfl, After.refl _⟩
  · go_enter Tryz.func6, Tryz.ntmps6
    go_wp2_with fail
    refine hdraw.mono ?_
    rintro e w1 ⟨s1, a, rfl, hs1, hl1, ha⟩
    obtain ⟨o1, k1, e1⟩ := hs1.form
    obtain ⟨L1, hL1⟩ : ∃ L, L = a.length := ⟨_, rfl⟩
    rw [← hL1] at e1
    subst e1
    have hA1 := After.new w1 (.cells #[.slice o1 L1 k1] 26)
    have hx1 := heap_new' w1 (.cells #[.slice o1 L1 k1] 26)
    have hS1 := hs1.later hA1
    obtain ⟨W1, hW1⟩ : ∃ W, W = w1.alloc (.cells #[.slice o1 L1 k1] 26) := ⟨_, rfl⟩
    obtain ⟨q1, hq1⟩ : ∃ q, q = w1.heap.size := ⟨_, rfl⟩
    rw [← hW1] at hA1 hx1 hS1
    rw [← hq1] at hx1
    have hi := fun W (hW : After W1 W) => impl_asmModest W _ a (hS1.later hW) (lens_to1 hl1 (by omega))
    have hs := fun W (hW : After W1 W) => s_asmModest W _ a (hS1.later hW) (lens_to1 hl1 (by omega))
    have HL1 := Lib.hid hL1
    have HLL1 := Lib.hid hl1
    have HS1 := Lib.hid hS1
    have HX1 := Lib.hid hx1
    have HI := Lib.hid hi
    have HSP := Lib.hid hs
    have HA1 := Lib.hid (After.trans ha hA1)
    have HW1 := Lib.hid hW1
    have HQ1 := Lib.hid hq1
    obtain ⟨bb, hbb⟩ : ∃ b, b = Asm.modest a := ⟨_, rfl⟩
    rw [← hbb] at hi hs
    have HI := Lib.hid hi
    have HSP := Lib.hid hs
    have HBB := Lib.hid hbb
    clear hdraw hL1 hl1 hS1 hs1 hx1 hi hs ha hA1 hW1 hq1 hbb
    go_wp2_with fail
    simp only [← HW1.out, ← HQ1.out]
    refine (HI.out _ (After.refl _)).mono ?_
    rintro e w2 ⟨rfl, hb2⟩
    obtain ⟨p0, p1, p2⟩ := one_facts HX1.out hb2
    have HB2 := Lib.hid hb2
    clear hb2 p2
    go_wp2_with fail
    refine (HSP.out _ HB2.out).mono ?_
    rintro e w3 ⟨rfl, hb3⟩
    obtain ⟨r0, r1, r2⟩ := one_facts HX1.out (After.trans HB2.out hb3)
    have HB3 := Lib.hid (After.trans HB2.out hb3)
    clear hb3 p0 p1 r2
    cases bb with
    | false =>
      go_wp2_with fail
      go_ret
      exact ⟨rfl, After.trans HA1.out HB3.out⟩
    | true =>
      have hmo : Asm.modest a = true := HBB.out.symm
      have hok : Asm.ok a = true := by rw [Asm.modest, Bool.and_eq_true] at hmo; exact hmo.1
      have hlp := Asm.ok_pos hok
      obtain ⟨f, hf⟩ : ∃ f : Nat → Int, f = fun (i : Nat) => (((i + 1) % a.length : Nat) : Int) := ⟨_, rfl⟩
      have hoth : 2 ≤ a.length → Asm.pTrackIs a a (Asm.mp a.length f) Tm.I.text = false := fun h2 => Asm.other_track hmo h2 f (by rw [hf]; show ((1 % a.length : Nat) : Int) = 1; rw [Nat.mod_eq_of_lt (by omega)]; rfl)
      rw [← HL1.out] at hf hoth hlp
      have hd := fun W => impl_data W [105]
      unfold NumOne at hd
      simp only [data_i_is, Option.getD_some, Option.isSome_some] at hd
      have hpl : Tm.I.text.length ≤ 1000 := by decide +kernel
      generalize Tm.I.text = y1 at *
      have hlb := HLL1.out.1
      rw [← HL1.out] at hlb
      have hval := fun W (hW : After W1 W) => impl_asmValid W _ a (HS1.out.later hW) (lens_to1 HLL1.out (by omega))
      rw [hok] at hval
      have htr := fun (h2 : 2 ≤ L1) W (hW : After W1 W) base lv (hr : RI W base lv L1 f) => impl_trackIs W _ _ lv _ _ (Asm.mp L1 f) y1 (HS1.out.later hW) (HS1.out.later hW) (lens_to1 HLL1.out (by omega)) (lens_to1 HLL1.out (by omega)) hr.row (by rw [Asm.mp_len]; omega) (by omega)
      have HTR : Hid (2 ≤ L1 → ∀ W, After W1 W → ∀ base lv, RI W base lv L1 f → Calls Tryz.prog 14 #[.agg #[.slice o1 L1 k1], .agg #[.slice o1 L1 k1], lv, str y1] W fun e w' => e = .returned (.bool false) ∧ After W w') := fun h2 W hW base lv hr => by
        have := htr h2 W hW base lv hr
        rw [hoth h2] at this
        exact this
      have HD := Lib.hid hd
      have HVAL := Lib.hid hval
      have HFE := Lib.hid hf
      clear hd hpl htr hoth hf hmo hok hval HI HSP
      go_wp2_with (go_at_call 12
                   refine (HD.out _).mono ?_
                   rintro e w4 ⟨rfl, hb4⟩
                   have HB4 := Lib.hid (After.trans HB3.out hb4)
                   have HE := Lib.hid (RI.empty (heap_new' w4 (.cells #[] 3)) (Nat.le_refl _) f)
                   obtain ⟨s0, s1, s2⟩ := one_facts HX1.out HB4.out
                   clear hb4 s2 r0 r1)
      have HII : Hid (∃ i, (Tryz.prog).info? 3 = some i ∧ i.zero = some (.int .i64 0) ∧ i.size = 1 ∧ i.bytes = 8) := ⟨_, rfl, rfl, rfl, rfl⟩
      have HUN : Hid (Tryz.prog.underlying 30 = some (.slice 3)) := by show _ = _; kernel_rfl
      go_loopw [9, 10] (fun lv i wr => ∃ (k g c : Nat), i = .int .i64 k ∧ lv = .slice (some ⟨g, 0, none⟩) k c ∧ k ≤ L1 ∧ Hid (RI wr w4.heap.size lv k f) ∧ Hid (After w4 wr)) (fun _ i _ => L1 - (intOf i).toNat)
      case atStart => exact ⟨0, _, 0, rfl, rfl, Nat.zero_le _, HE, by show After _ _; exact After.new _ _⟩
      case round =>
        obtain ⟨k, g, c, rfl, rfl, hk, hrow, hA⟩ := hrel
        clear s0 s1
        by_cases hlt : k < L1
        · have hlt' : (k : Int) < (L1 : Int) := by omega
          have hpos : ¬ (L1 : Int) = 0 := by omega
          have hz1 : (((k : Int) + 1) % (L1 : Int)) = f k := by rw [HFE.out]; rfl
          have HZ1 := Lib.hid hz1
          have HP := Lib.hid (Two.pre hrow.out hA.out.size (((k : Int) + 1) % (L1 : Int)))
          have HA5 := Lib.hid (After.trans hA.out (After.new wr (.cells #[.int .i64 (((k : Int) + 1) % (L1 : Int))] 3)))
          obtain ⟨i0, hi0, hz0, hzs, hz4⟩ := HII.out
          clear hz1
          go_wp2_with (at_builtin
                       refine wpList_append_lies _ (by rfl) _ _ 30 (by rfl) w4.heap.size 3 i0 (.int .i64 0) 1 8 HUN.out hi0 hz0 hzs hz4 rfl (by decide) _ _ _ (by rfl) HP.out.1 ⟨wr.heap.size, 0, none⟩ 1 1 [.int .i64 (((k : Int) + 1) % (L1 : Int))] (by rfl) (by rfl) HP.out.2.1 (by simp [Value.oneCell']) (by omega) (by unfold maxLen; omega) (by omega) HP.out.2.2 _ rfl ?_
                       intro g5 q5 w5 ho5 hg5 hw5 _
                       have h5 := ho5
                       rw [HZ1.out] at h5
                       have HR5 := Lib.hid (RI.next h5)
                       have HAF : Hid (After w4 w5) := Below.grown HA5.out hg5 HA5.out.size (fun k hk => (HP.out.1.lt k hk).1)
                       clear ho5 hg5 hw5 h5)
          go_roundw
          case rel => exact ⟨k + 1, g5, q5, by go_num, rfl, by omega, HR5, HAF⟩
          case measure => simp [intOf]; omega
        · obtain rfl : k = L1 := by omega
          have HWr := Lib.hid (After.trans HB4.out hA.out)
          obtain ⟨t0, t1, t2⟩ := one_facts HX1.out HWr.out
          by_cases h1 : k = 1
          · have hk1 : ((k : Int) == 1) = true := by rw [beq_iff_eq]; omega
            clear HTR h1
            go_wp2_with (go_at_call 19
                         refine (HVAL.out _ HWr.out).mono ?_
                         rintro e w6 ⟨rfl, hb6⟩)
            go_ret
            exact ⟨rfl, After.trans HA1.out (After.trans HWr.out hb6)⟩
          · have hk1 : ((k : Int) == 1) = false := by rw [beq_eq_false_iff_ne]; omega
            have HT := Lib.hid (fun W (hW : After wr W) => HTR.out (by omega) W (After.trans HWr.out hW) _ _ (hrow.out.later hW))
            clear HTR
            go_wp2_with (first
              | (go_at_call 19
                 refine (HVAL.out _ HWr.out).mono ?_
                 rintro e w6 ⟨rfl, hb6⟩
                 obtain ⟨u0, u1, u2⟩ := one_facts HX1.out (After.trans HWr.out hb6))
              | (go_at_call 14
                 refine (HT.out _ hb6).mono ?_
                 rintro e w7 ⟨rfl, hb7⟩))
            go_ret
            exact ⟨rfl, After.trans HA1.out (After.trans HWr.out (After.trans hb6 hb7))⟩
end Go.Proofs.YtidpkmkhcomcdaaGreat
