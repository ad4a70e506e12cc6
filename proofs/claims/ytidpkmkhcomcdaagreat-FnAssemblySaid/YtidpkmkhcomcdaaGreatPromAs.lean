/-
  The walk of a promise's law: the map that changes nothing is tracked: whatever the code, the law returns true.
-/
import Derived.Test.YtidpkmkhcomcdaaGreatPkK
import Derived.Test.YtidpkmkhcomcdaaGreatPkL
import Derived.Test.YtidpkmkhcomcdaaGreatPkI
namespace Go.Proofs.YtidpkmkhcomcdaaGreat
open Go.RowKit

set_option maxHeartbeats 1000000
set_option maxRecDepth 100000

theorem lens_to2 {m k : Nat} {a : List (List (List UInt8))} (h : Lens m a) (hm : m ≤ k) : Lens k a := ⟨Nat.le_trans h.1 hm, fun ns hs => ⟨Nat.le_trans (h.2 ns hs).1 hm, fun s hh => Nat.le_trans ((h.2 ns hs).2 s hh) hm⟩⟩

theorem law_passembly (w : World) (v : Value) (n : Nat) (h : CodeArg w v n) :
    Calls Tryz.prog 5 #[v] w fun e w' => e = .returned (.bool true) ∧ After w w' := by
  obtain ⟨a0, cap, rfl⟩ := code_form h
  have hdraw := draw_av w _ n h
  clear h
  by_cases hbig : (1048576 : Int) < (n : Int)
  · go_enter Tryz.func5, Tryz.ntmps5
    go_wp2_with fail
    go_ret
    exact ⟨rfl, After.refl _⟩
  · go_enter Tryz.func5, Tryz.ntmps5
    go_wp2_with fail
    refine hdraw.mono ?_
    rintro e w1 ⟨s1, a, rfl, hs1, hl1, ha⟩
    obtain ⟨o1, k1, e1⟩ := hs1.form
    obtain ⟨L1, hL1⟩ : ∃ L, L = a.length := ⟨_, rfl⟩
    rw [← hL1] at e1
    subst e1
    have hA1 := After.new w1 (.cells #[.slice o1 L1 k1] 26)
    have hx1 := heap_new' w1 (.cells #[.slice o1 L1 k1] 26)
    have hS1 := hs1.later hA1
    obtain ⟨W1, hW1⟩ : ∃ W, W = w1.alloc (.cells #[.slice o1 L1 k1] 26) := ⟨_, rfl⟩
    obtain ⟨q1, hq1⟩ : ∃ q, q = w1.heap.size := ⟨_, rfl⟩
    rw [← hW1] at hA1 hx1 hS1
    rw [← hq1] at hx1
    have hi := fun W (hW : After W1 W) => impl_asmValid W _ a (hS1.later hW) (lens_to2 hl1 (by omega))
    have hs := fun W (hW : After W1 W) => s_asmValid W _ a (hS1.later hW) (lens_to2 hl1 (by omega))
    have HL1 := Lib.hid hL1
    have HLL1 := Lib.hid hl1
    have HS1 := Lib.hid hS1
    have HX1 := Lib.hid hx1
    have HI := Lib.hid hi
    have HSP := Lib.hid hs
    have HA1 := Lib.hid (After.trans ha hA1)
    have HW1 := Lib.hid hW1
    have HQ1 := Lib.hid hq1
    obtain ⟨bb, hbb⟩ : ∃ b, b = Asm.ok a := ⟨_, rfl⟩
    rw [← hbb] at hi hs
    have HI := Lib.hid hi
    have HSP := Lib.hid hs
    have HBB := Lib.hid hbb
    clear hdraw hL1 hl1 hS1 hs1 hx1 hi hs ha hA1 hW1 hq1 hbb
    go_wp2_with fail
    simp only [← HW1.out, ← HQ1.out]
    refine (HI.out _ (After.refl _)).mono ?_
    rintro e w2 ⟨rfl, hb2⟩
    obtain ⟨p0, p1, p2⟩ := one_facts HX1.out hb2
    have HB2 := Lib.hid hb2
    clear hb2 p2
    go_wp2_with fail
    refine (HSP.out _ HB2.out).mono ?_
    rintro e w3 ⟨rfl, hb3⟩
    obtain ⟨r0, r1, r2⟩ := one_facts HX1.out (After.trans HB2.out hb3)
    have HB3 := Lib.hid (After.trans HB2.out hb3)
    clear hb3 p0 p1 r2
    cases bb with
    | false =>
      go_wp2_with fail
      go_ret
      exact ⟨rfl, After.trans HA1.out HB3.out⟩
    | true =>
      have hok : Asm.ok a = true := HBB.out.symm
      have hlp := Asm.ok_pos hok
      have hne := Asm.ok_ne hok (i := 0) (by omega)
      have f1 := Asm.same_track hok
      have f2 := Asm.keep_track hok
      obtain ⟨f, hf⟩ : ∃ f : Nat → Int, f = fun (i : Nat) => (i : Int) := ⟨_, rfl⟩
      obtain ⟨g, hg⟩ : ∃ g : Nat → Int, g = fun (_ : Nat) => (0 : Int) := ⟨_, rfl⟩
      have hm0 : (a.getD 0 []).getD 0 [] ∈ a.getD 0 [] := gd_mem (by omega)
      have hr0 : ((a.getD 0 []).getD 0 []).length ≤ 21000 := (HLL1.out.2 _ (gd_mem (by omega))).2 _ hm0
      obtain ⟨ff, ⟨ao', ac', ee, hat⟩, hft⟩ := HS1.out
      rw [← HL1.out] at ee hat
      injection ee with ee1 _ ee2
      subst ee1
      subst ee2
      obtain ⟨b0, off0, rfl, _, hc0⟩ := hat 0 (by have := HL1.out; omega)
      obtain ⟨ao1, ac1, ee3, hat1⟩ := hft 0 (by omega)
      obtain ⟨b1, off1, e4, _, hc1⟩ := hat1 0 (by omega)
      subst e4
      rw [ee3] at hc0
      obtain ⟨m, hm⟩ : ∃ m, m = (a.getD 0 []).length := ⟨_, rfl⟩
      obtain ⟨tx, hr0e⟩ : ∃ r, r = (a.getD 0 []).getD 0 [] := ⟨_, rfl⟩
      have hc1' : W1.cell? ⟨b1, off1 + 0, none⟩ = some (str ((a.getD 0 []).getD 0 [])) := hc1
      rw [← hm] at hc0 hne
      rw [← hr0e] at hr0 f2 hc1'
      rw [Nat.add_zero] at hc0 hc1'
      rw [← hf] at f1
      rw [← hg] at f2
      rw [← HL1.out] at f1 f2 hlp
      have HC0 := Lib.hid hc0
      have HC1 := Lib.hid hc1'
      have hd := fun W => impl_data W [105]
      unfold NumOne at hd
      simp only [data_i_is, Option.getD_some, Option.isSome_some] at hd
      have hpl : Tm.I.text.length ≤ 1000 := by decide +kernel
      generalize Tm.I.text = y1 at *
      have hlb := HLL1.out.1
      rw [← HL1.out] at hlb
      obtain ⟨y2, hy2⟩ : ∃ y, y = Asm.keepT tx := ⟨_, rfl⟩
      have hy2l : y2.length ≤ 30000 := by rw [hy2]; simp [Asm.keepT]; omega
      rw [← hy2] at f2
      have htr1 := fun W (hW : After W1 W) base lv (hr : RI W base lv L1 f) => impl_trackIs W _ _ lv _ _ (Asm.mp L1 f) y1 (HS1.out.later hW) (HS1.out.later hW) (lens_to2 HLL1.out (by omega)) (lens_to2 HLL1.out (by omega)) hr.row (by rw [Asm.mp_len]; omega) (by omega)
      have htr2 := fun W (hW : After W1 W) base lv (hr : RI W base lv L1 g) => impl_trackIs W _ _ lv _ _ (Asm.mp L1 g) y2 (HS1.out.later hW) (HS1.out.later hW) (lens_to2 HLL1.out (by omega)) (lens_to2 HLL1.out (by omega)) hr.row (by rw [Asm.mp_len]; omega) (by omega)
      rw [f1] at htr1
      rw [f2] at htr2
      have zr := ssize tx
      have qa0 : (⟨#[40, 107, 32]⟩ : ByteArray).size = 3 := rfl
      have qa1 : (⟨#[41]⟩ : ByteArray).size = 1 := rfl
      obtain ⟨ca0, da0, za0, ea0⟩ := cat ⟨#[40, 107, 32]⟩ ⟨tx.toArray⟩ (by omega)
      obtain ⟨ca1, da1, za1, ea1⟩ := cat ca0 ⟨#[41]⟩ (by omega)
      have hfin : str y2 = .string ca1 := by
        refine congrArg Value.string (ByteArray.ext (Array.ext' ?_))
        rw [da1, da0, hy2]
        simp [Asm.keepT]
      rw [hfin] at htr2
      clear hfin da0 za0 da1 za1 qa0 qa1 zr hy2 hy2l
      have HD := Lib.hid hd
      have HTR1 := Lib.hid htr1
      have HTR2 := Lib.hid htr2
      have HFE := Lib.hid hf
      have HGE := Lib.hid hg
      have HE0 := Lib.hid ea0
      have HE1 := Lib.hid ea1
      clear hd hpl htr1 htr2 f1 f2 hf hg hok HI HSP hat hft hat1 hc0 hc1 hc1' ee3 hm hr0e hr0 hm0 ea0 ea1
      have hm1 : (0 : Int) < (m : Int) := by omega
      have hL0 : (0 : Int) < (L1 : Int) := by omega
      go_wp2_with (go_at_call 12
                   refine (HD.out _).mono ?_
                   rintro e w4 ⟨rfl, hb4⟩
                   have HB4 := Lib.hid (After.trans HB3.out hb4)
                   have HT := Lib.hid (Two.start w4 f g)
                   obtain ⟨s0, s1, s2⟩ := one_facts HX1.out HB4.out
                   clear hb4 s2 r0 r1)
      have HII : Hid (∃ i, (Tryz.prog).info? 3 = some i ∧ i.zero = some (.int .i64 0) ∧ i.size = 1 ∧ i.bytes = 8) := ⟨_, rfl, rfl, rfl, rfl⟩
      have HUN : Hid (Tryz.prog.underlying 30 = some (.slice 3)) := by show _ = _; kernel_rfl
      go_loopw [8, 9, 10] (fun lv rv i wr => ∃ (k gl gr cl cr : Nat), i = .int .i64 k ∧ lv = .slice (some ⟨gl, 0, none⟩) k cl ∧ rv = .slice (some ⟨gr, 0, none⟩) k cr ∧ k ≤ L1 ∧ Hid (Two w4 wr w4.heap.size gl gr k k cl cr f g)) (fun _ _ i _ => L1 - (intOf i).toNat)
      case atStart => exact ⟨0, _, _, 0, 0, rfl, rfl, rfl, Nat.zero_le _, HT⟩
      case round =>
        obtain ⟨k, gl, gr, cl, cr, rfl, rfl, rfl, hk, HTW⟩ := hrel
        obtain ⟨t0, t1, t2⟩ := one_facts HX1.out (HB4.out.trans HTW.out.1)
        clear s0 s1 t2
        by_cases hlt : k < L1
        · have hlt' : (k : Int) < (L1 : Int) := by omega
          have hz1 : (k : Int) = f k := by rw [HFE.out]
          have hz2 : (0 : Int) = g k := by rw [HGE.out]
          have HZ1 := Lib.hid hz1
          have HZ2 := Lib.hid hz2
          have HPL := Lib.hid (Two.pre HTW.out.2.2.2.2.1 HTW.out.2.2.1 (k : Int))
          obtain ⟨i0, hi0, hz0, hzs, hz4⟩ := HII.out
          have HF2 : Hid True := trivial
          clear hz1 hz2
          go_wp2_with (first
            | (at_builtin
               clear HF2
               refine wpList_append_lies _ (by rfl) _ _ 30 (by rfl) w4.heap.size 3 i0 (.int .i64 0) 1 8 HUN.out hi0 hz0 hzs hz4 rfl (by decide) _ _ _ (by rfl) HPL.out.1 ⟨wr.heap.size, 0, none⟩ 1 1 [.int .i64 (k : Int)] (by rfl) (by rfl) HPL.out.2.1 (by simp [Value.oneCell']) (by omega) (by unfold maxLen; omega) (by omega) HPL.out.2.2 _ rfl ?_
               intro g5 q5 w5 ho5 hg5 hw5 _
               have HT5 := Lib.hid (HTW.out.left HZ1.out ho5 hg5 hw5)
               have HPR := Lib.hid (Two.pre HT5.out.2.2.2.2.2 HT5.out.2.2.1 0)
               clear ho5 hg5 hw5)
            | (at_builtin
               refine wpList_append_lies _ (by rfl) _ _ 30 (by rfl) w4.heap.size 3 i0 (.int .i64 0) 1 8 HUN.out hi0 hz0 hzs hz4 rfl (by decide) _ _ _ (by rfl) HPR.out.1 ⟨w5.heap.size, 0, none⟩ 1 1 [.int .i64 0] (by rfl) (by rfl) HPR.out.2.1 (by simp [Value.oneCell']) (by omega) (by unfold maxLen; omega) (by omega) HPR.out.2.2 _ rfl ?_
               intro g6 q6 w6 ho6 hg6 hw6 _
               have HT6 := Lib.hid (HT5.out.right HZ2.out ho6 hg6 hw6)
               clear ho6 hg6 hw6))
          go_roundw
          case rel => exact ⟨k + 1, g5, g6, q5, q6, by go_num, rfl, rfl, by omega, HT6⟩
          case measure => simp [intOf]; omega
        · obtain rfl : k = L1 := by omega
          have HWr := Lib.hid (HB4.out.trans HTW.out.1)
          have HT1 := Lib.hid (fun W (hW : After wr W) => HTR1.out W (After.trans HWr.out hW) _ _ (HTW.out.2.2.2.2.1.later hW))
          have HT2 := Lib.hid (fun W (hW : After wr W) => HTR2.out W (After.trans HWr.out hW) _ _ (HTW.out.2.2.2.2.2.later hW))
          have h1' : ∀ W, After wr W → W.cell? ⟨q1, 0, none⟩ = some (.slice (some ⟨b0, off0, none⟩) k k1) := fun W hW => (one_facts HX1.out (After.trans HWr.out hW)).1
          have h2' : ∀ W, After wr W → W.cell? ⟨b0, off0, none⟩ = some (.slice (some ⟨b1, off1, none⟩) m ac1) := fun W hW => (After.trans HWr.out hW).cell HC0.out
          have h3' : ∀ W, After wr W → W.cell? ⟨b1, off1, none⟩ = some (str tx) := fun W hW => (After.trans HWr.out hW).cell HC1.out
          have hself := After.refl wr
          have HF5 : Hid True := trivial
          have hmn : 0 < m := by omega
          have hkn : 0 < k := by omega
          have e0' := HE0.out
          have e1' := HE1.out
          clear HTR1 HTR2
          go_wp2_with fail
          go_region_held3 (fun W' => After wr W') (first | assumption | exact hself.drew | go_keep)
            (first
              | (go_at_call 14
                 clear HF5
                 refine (HT1.out _ (by first | assumption | exact hself.drew)).mono ?_
                 rintro e w6 ⟨rfl, hb6⟩
                 have hb6' := After.trans (by first | assumption | exact hself.drew) hb6)
              | (go_at_call 14
                 refine (HT2.out _ (by first | assumption | exact hself.drew)).mono ?_
                 rintro e w7 ⟨rfl, hb7⟩
                 have hb7' := After.trans (by first | assumption | exact hself.drew) hb7))
          all_goals
            go_wp2_with fail
            go_ret
            exact ⟨rfl, After.trans HA1.out (After.trans HWr.out hb7')⟩
end Go.Proofs.YtidpkmkhcomcdaaGreat
