/-
  The walk of a promise's law: sums have both sides as maps: whatever the code, the law returns true.
-/
import Derived.Test.YtidpkmkhcomcdaaGreatPkK
import Derived.Test.YtidpkmkhcomcdaaGreatPkL
import Derived.Test.YtidpkmkhcomcdaaGreatSSumA
import Derived.Test.YtidpkmkhcomcdaaGreatTrt
import Derived.Test.YtidpkmkhcomcdaaGreatPkH
namespace Go.Proofs.YtidpkmkhcomcdaaGreat
open Go.RowKit

set_option maxHeartbeats 1000000
set_option maxRecDepth 100000

theorem lens_tos {m k : Nat} {a : List (List (List UInt8))} (h : Lens m a) (hm : m ≤ k) : Lens k a := ⟨Nat.le_trans h.1 hm, fun ns hs => ⟨Nat.le_trans (h.2 ns hs).1 hm, fun s hh => Nat.le_trans ((h.2 ns hs).2 s hh) hm⟩⟩

theorem pSumA_facts (a b : List (List (List UInt8))) (h : (Asm.pSumA a b).isSome = true) : Asm.ok a = true ∧ Asm.ok b = true ∧ Asm.ok (Asm.sumA a b) = true ∧ (Asm.pSumA a b).getD [] = Asm.sumA a b := by
  unfold Asm.pSumA at h ⊢
  split at h
  · rename_i h1
    split at h
    · rename_i h2
      rw [if_pos h1, if_pos h2]
      rw [Bool.and_eq_true] at h1
      exact ⟨h1.1, h1.2, h2, rfl⟩
    · cases h
  · cases h
theorem pSumA_lens (a b : List (List (List UInt8))) : Lens 1000000 ((Asm.pSumA a b).getD []) := by
  unfold Asm.pSumA
  split
  · rename_i h1
    rw [Bool.and_eq_true] at h1
    split
    · exact Asm.sumA_lens h1.1 h1.2
    · exact ⟨by simp, fun ns h => absurd h (by simp)⟩
  · exact ⟨by simp, fun ns h => absurd h (by simp)⟩
theorem lit_143_100_21 {x0 x1 x2 x3 x4 x5 x6 x7 x8 x9 x10 x11 x12 x13 x14 x15 x16 x17 x18 x19 x20 x21 x22 x23 x24 x25 x26 x27 x28 x29 x30 x31 x32 x33 x34 x35 x36 x37 x38 x39 x40 x41 x42 x43 x44 x45 x46 x47 x48 x49 x50 x51 x52 x53 x54 x55 x56 x57 x58 x59 x60 x61 x62 x63 x64 x65 x66 x67 x68 x69 x70 x71 x72 x73 x74 x75 x76 x77 x78 x79 x80 x81 x82 x83 x84 x85 x86 x87 x88 x89 x90 x91 x92 x93 x94 x95 x96 x97 x98 x99 x100 x101 x102 x103 x104 x105 x106 x107 x108 x109 x110 x111 x112 x113 x114 x115 x116 x117 x118 x119 x120 x121 x122 x123 x124 x125 x126 x127 x128 x129 x130 x131 x132 x133 x134 x135 x136 x137 x138 x139 x140 x141 x142 : Value} {d : List Deferred} {vs : Nat → Value} : putFrom ⟨List.toArray (x0 :: x1 :: x2 :: x3 :: x4 :: x5 :: x6 :: x7 :: x8 :: x9 :: x10 :: x11 :: x12 :: x13 :: x14 :: x15 :: x16 :: x17 :: x18 :: x19 :: x20 :: x21 :: x22 :: x23 :: x24 :: x25 :: x26 :: x27 :: x28 :: x29 :: x30 :: x31 :: x32 :: x33 :: x34 :: x35 :: x36 :: x37 :: x38 :: x39 :: x40 :: x41 :: x42 :: x43 :: x44 :: x45 :: x46 :: x47 :: x48 :: x49 :: x50 :: x51 :: x52 :: x53 :: x54 :: x55 :: x56 :: x57 :: x58 :: x59 :: x60 :: x61 :: x62 :: x63 :: x64 :: x65 :: x66 :: x67 :: x68 :: x69 :: x70 :: x71 :: x72 :: x73 :: x74 :: x75 :: x76 :: x77 :: x78 :: x79 :: x80 :: x81 :: x82 :: x83 :: x84 :: x85 :: x86 :: x87 :: x88 :: x89 :: x90 :: x91 :: x92 :: x93 :: x94 :: x95 :: x96 :: x97 :: x98 :: x99 :: x100 :: x101 :: x102 :: x103 :: x104 :: x105 :: x106 :: x107 :: x108 :: x109 :: x110 :: x111 :: x112 :: x113 :: x114 :: x115 :: x116 :: x117 :: x118 :: x119 :: x120 :: x121 :: x122 :: x123 :: x124 :: x125 :: x126 :: x127 :: x128 :: x129 :: x130 :: x131 :: x132 :: x133 :: x134 :: x135 :: x136 :: x137 :: x138 :: x139 :: x140 :: x141 :: x142 :: []), d⟩ 100 vs 21 = ⟨List.toArray (x0 :: x1 :: x2 :: x3 :: x4 :: x5 :: x6 :: x7 :: x8 :: x9 :: x10 :: x11 :: x12 :: x13 :: x14 :: x15 :: x16 :: x17 :: x18 :: x19 :: x20 :: x21 :: x22 :: x23 :: x24 :: x25 :: x26 :: x27 :: x28 :: x29 :: x30 :: x31 :: x32 :: x33 :: x34 :: x35 :: x36 :: x37 :: x38 :: x39 :: x40 :: x41 :: x42 :: x43 :: x44 :: x45 :: x46 :: x47 :: x48 :: x49 :: x50 :: x51 :: x52 :: x53 :: x54 :: x55 :: x56 :: x57 :: x58 :: x59 :: x60 :: x61 :: x62 :: x63 :: x64 :: x65 :: x66 :: x67 :: x68 :: x69 :: x70 :: x71 :: x72 :: x73 :: x74 :: x75 :: x76 :: x77 :: x78 :: x79 :: x80 :: x81 :: x82 :: x83 :: x84 :: x85 :: x86 :: x87 :: x88 :: x89 :: x90 :: x91 :: x92 :: x93 :: x94 :: x95 :: x96 :: x97 :: x98 :: x99 :: vs 0 :: vs 1 :: vs 2 :: vs 3 :: vs 4 :: vs 5 :: vs 6 :: vs 7 :: vs 8 :: vs 9 :: vs 10 :: vs 11 :: vs 12 :: vs 13 :: vs 14 :: vs 15 :: vs 16 :: vs 17 :: vs 18 :: vs 19 :: vs 20 :: x121 :: x122 :: x123 :: x124 :: x125 :: x126 :: x127 :: x128 :: x129 :: x130 :: x131 :: x132 :: x133 :: x134 :: x135 :: x136 :: x137 :: x138 :: x139 :: x140 :: x141 :: x142 :: []), d⟩ := by kernel_rfl
section
variable {ops : Array Oper} {Q : Exit → Act → World → Prop} {A : Act} {i : Nat} {w : World} {K : Act → World → Prop}
theorem run_neqb {x y : Operand} {u u' : Value} {b c : Bool} (hop : (opAt ops i).op = .binOp .neq 4 x y 4) (hx : A.eval x = u) (hu : u = .bool b) (hy : A.eval y = u') (hu' : u' = .bool c) : (execOp A.eval (opAt ops i)).run Tryz.prog w = .ok (.value (.bool (b != c))) w := by
  subst hu hu'
  unfold execOp
  simp only [hop, hx, hy]
  cases b <;> cases c <;> kernel_rfl
theorem do_pickg {c x y : Operand} {u : Value} {p : Bool} {r : Value} (hs : (ops[i]?).isSome = true) (hop : (opAt ops i).op = .pick c x y) (hw : Region.wanted (opAt ops i) (yielded ops A.tmps) = true) (hc : A.eval c = u) (hu : u = .bool p) (hr : (if p = true then A.eval x else A.eval y) = r)
    (hK : ∀ v w', After w w' → (Yd.lit r).holds v w' → K (A.put (dstOf ops i) v) w') : OpDo Tryz.prog ops Q A i w K := by
  subst hu
  refine op_val hs hw (v := r) ?_ (hK _ _ (After.refl _) rfl)
  unfold execOp
  simp only [hop, hc]
  subst hr
  cases p <;> kernel_rfl
theorem run_ldm {x : Operand} {u : Value} {p : Addr} {v : Value} (hop : (opAt ops i).op = .load 26 x) (hx : A.eval x = u) (hu : u = .pointer (some p)) (hc : w.cell? p = some v) :
    (execOp A.eval (opAt ops i)).run Tryz.prog w = .ok (.value (.agg #[v])) w := by
  subst hu
  unfold execOp
  simp only [hop, hx]
  obtain ⟨b, off, spot⟩ := p
  simp [go_sem, hc]
end
theorem pairT_is (c : List UInt8) : Asm.pairT c = 40 :: (Tm.pairC.text ++ 32 :: (c ++ [41])) := rfl

theorem law_psum (w : World) (v : Value) (n : Nat) (h : CodeArg w v n) :
    Calls Tryz.prog 7 #[v] w fun e w' => e = .returned (.bool true) ∧ After w w' := by
  obtain ⟨a0, cap, rfl⟩ := code_form h
  have hdraw := draw_as w _ n h
  clear h
  by_cases hbig : (1048576 : Int) < (n : Int)
  · go_enter Tryz.func7, Tryz.ntmps7
    go_wp2_with fail
    go_ret
    exact ⟨rfl, After.refl _⟩
  · go_enter Tryz.func7, Tryz.ntmps7
    go_wp2_with fail
    refine hdraw.mono ?_
    rintro e w1 ⟨s1, s2, a, b, rfl, hs1, hs2, hl1, hl2, ha⟩
    obtain ⟨o1, k1, e1⟩ := hs1.form
    obtain ⟨o2, k2, e2⟩ := hs2.form
    obtain ⟨L1, hL1⟩ : ∃ L, L = a.length := ⟨_, rfl⟩
    obtain ⟨L2, hL2⟩ : ∃ L, L = b.length := ⟨_, rfl⟩
    rw [← hL1] at e1
    rw [← hL2] at e2
    subst e1
    subst e2
    have hA1 := (After.new w1 (.cells #[.slice o1 L1 k1] 26)).alloc (.cells #[.slice o2 L2 k2] 26)
    have hx1 := heap_old2 w1 (.cells #[.slice o1 L1 k1] 26) (.cells #[.slice o2 L2 k2] 26)
    have hx2 := heap_new2 w1 w1.heap.size (.cells #[.slice o1 L1 k1] 26) (.cells #[.slice o2 L2 k2] 26) rfl
    have hS1 := (hs1.mono (Nat.zero_le _)).later hA1
    have hS2 := (hs2.mono (Nat.zero_le _)).later hA1
    obtain ⟨W1, hW1⟩ : ∃ W, W = (w1.alloc (.cells #[.slice o1 L1 k1] 26)).alloc (.cells #[.slice o2 L2 k2] 26) := ⟨_, rfl⟩
    obtain ⟨q1, hq1⟩ : ∃ q, q = w1.heap.size := ⟨_, rfl⟩
    rw [← hW1] at hA1 hx1 hx2 hS1 hS2
    rw [← hq1] at hx1 hx2
    have hi := fun W (hW : After W1 W) => impl_sumA W _ _ a b (hS1.later hW) (hS2.later hW) (lens_tos hl1 (by omega)) (lens_tos hl2 (by omega))
    have hs := fun W (hW : After W1 W) => spec_sumA W _ _ a b (hS1.later hW) (hS2.later hW) (lens_tos hl1 (by omega)) (lens_tos hl2 (by omega))
    unfold AsmOwn at hi hs
    have hfact := pSumA_facts a b
    have hln := pSumA_lens a b
    generalize hxr : (Asm.pSumA a b).getD [] = x at *
    generalize hbr : (Asm.pSumA a b).isSome = bb at *
    obtain ⟨LX, hLX⟩ : ∃ L, L = x.length := ⟨_, rfl⟩
    have HL1 := Lib.hid hL1
    have HL2 := Lib.hid hL2
    have HLX := Lib.hid hLX
    have HLL1 := Lib.hid hl1
    have HLL2 := Lib.hid hl2
    have HS1 := Lib.hid hS1
    have HS2 := Lib.hid hS2
    have HX1 := Lib.hid hx1
    have HX2 := Lib.hid hx2
    have HI := Lib.hid hi
    have HSP := Lib.hid hs
    have HFACT := Lib.hid hfact
    have HLN := Lib.hid hln
    have HA1 := Lib.hid (After.trans ha hA1)
    have HW1 := Lib.hid hW1
    have HQ1 := Lib.hid hq1
    clear hdraw hL1 hL2 hLX hl1 hl2 hS1 hS2 hs1 hs2 hx1 hx2 hi hs hfact hln ha hA1 hW1 hq1 hxr hbr
    go_wp2_with fail
    simp only [← HW1.out, ← HQ1.out]
    refine (HI.out _ (After.refl _)).mono ?_
    rintro e w2 ⟨sv0, rfl, ho0, hb1⟩
    obtain ⟨ao0, c0, e0⟩ := ho0.form
    rw [← HLX.out] at e0
    subst e0
    have hn1 := After.new w2 (.cells #[.slice ao0 LX c0] 26)
    have hx1 := heap_new' w2 (.cells #[.slice ao0 LX c0] 26)
    have HS0 := Lib.hid ((ho0.ssu (B := 0) (Nat.zero_le _)).later hn1)
    have hA12 := After.trans hb1 hn1
    obtain ⟨W2, hW2⟩ : ∃ W, W = w2.alloc (.cells #[.slice ao0 LX c0] 26) := ⟨_, rfl⟩
    obtain ⟨q3, hq3⟩ : ∃ q, q = w2.heap.size := ⟨_, rfl⟩
    rw [← hW2] at hx1 HS0 hA12
    rw [← hq3] at hx1
    obtain ⟨p0, p1, p2⟩ := one_facts HX1.out hb1
    obtain ⟨r0, r1, r2⟩ := one_facts HX2.out hb1
    obtain ⟨p0', p1', p2'⟩ := one_facts HX1.out hA12
    obtain ⟨r0', r1', r2'⟩ := one_facts HX2.out hA12
    rw [hW2] at p0' p1' p2' r0' r1' r2'
    have HX3 := Lib.hid hx1
    have HA12 := Lib.hid hA12
    have HW2 := Lib.hid hW2
    have HQ3 := Lib.hid hq3
    clear ho0 hx1 hb1 hn1 hA12 hW2 hq3 p2 r2 p2' r2'
    go_wp2_with fail
    simp only [← HW2.out, ← HQ3.out]
    clear p0 p1 r0 r1 p0' p1' r0' r1'
    refine (HSP.out _ HA12.out).mono ?_
    rintro e w3 ⟨sv5, rfl, ho5, hb2⟩
    obtain ⟨ao5, c5, e5⟩ := ho5.form
    rw [← HLX.out] at e5
    subst e5
    have hn2 := After.new w3 (.cells #[.slice ao5 LX c5] 26)
    have hx2 := heap_new' w3 (.cells #[.slice ao5 LX c5] 26)
    have hA23 := After.trans hb2 hn2
    have HS5 := Lib.hid ((ho5.ssu (B := 0) (Nat.zero_le _)).later hn2)
    obtain ⟨W3, hW3⟩ : ∃ W, W = w3.alloc (.cells #[.slice ao5 LX c5] 26) := ⟨_, rfl⟩
    obtain ⟨q4, hq4⟩ : ∃ q, q = w3.heap.size := ⟨_, rfl⟩
    rw [← hW3] at hx2 HS5 hA23
    rw [← hq4] at hx2
    have hsame := fun W (hW : After W3 W) => l_sameA W _ _ x ((HS0.out.later hA23).later hW) (HS5.out.later hW) (lens_tos HLN.out (by omega))
    obtain ⟨p0, p1, p2⟩ := one_facts HX3.out hA23
    obtain ⟨r0, r1, r2⟩ := one_facts hx2 (After.refl _)
    rw [hW3] at p0 p1 r0 r1
    have HX4 := Lib.hid hx2
    have HA23 := Lib.hid hA23
    have HSAME := Lib.hid hsame
    have HW3 := Lib.hid hW3
    have HQ4 := Lib.hid hq4
    clear ho5 hx2 hb2 hn2 hsame hA23 hW3 hq4 p2 r2
    have HF1 : Hid True := trivial
    cases bb with
    | false =>
      clear HFACT
      go_wp2_with (first
        | (go_at_call 11
           clear HF1
           simp only [← HW3.out, ← HQ4.out]
           refine (HSAME.out _ (After.refl _)).mono ?_
           rintro e w4 ⟨rfl, hb4⟩
           obtain ⟨s0, s1, s2⟩ := one_facts HX4.out hb4
           obtain ⟨t0, t1, t2⟩ := one_facts HX3.out (HA23.out.trans hb4))
        | (go_at_call 11
           refine (HSAME.out _ hb4).mono ?_
           rintro e w5 ⟨rfl, hb5⟩))
      go_ret
      exact ⟨rfl, After.trans HA1.out (After.trans HA12.out (After.trans HA23.out (After.trans hb4 hb5)))⟩
    | true =>
      obtain ⟨oka, okb, okx, ex⟩ := HFACT.out rfl
      subst ex
      obtain ⟨f1, f2⟩ := Asm.sum_track oka okb okx
      have hmd := Asm.sum_modest oka okb okx
      have hxl := HLN.out.1
      have hl1 := HLL1.out.1
      have hl2 := HLL2.out.1
      rw [← HL1.out] at hl1
      rw [← HL2.out] at hl2
      obtain ⟨f, hf⟩ : ∃ f : Nat → Int, f = fun (i : Nat) => (i : Int) := ⟨_, rfl⟩
      obtain ⟨g, hg⟩ : ∃ g : Nat → Int, g = fun (i : Nat) => ((a.length + i : Nat) : Int) := ⟨_, rfl⟩
      rw [← hf] at f1
      rw [← hg] at f2
      rw [← HL1.out] at hg f1
      rw [← HL2.out] at f2
      have hd := fun W => impl_data W [112, 97, 105, 114]
      have hd2 := fun W => impl_data W [116, 114, 117, 101]
      have hd3 := fun W => impl_data W [102, 97, 108, 115, 101]
      unfold NumOne at hd hd2 hd3
      simp only [data_pair_is, Option.getD_some, Option.isSome_some] at hd
      simp only [data_true_is, Option.getD_some, Option.isSome_some] at hd2
      simp only [data_false_is, Option.getD_some, Option.isSome_some] at hd3
      rw [pairT_is] at f1 f2
      have hpl : Tm.pairC.text.length ≤ 1000 := by decide +kernel
      have hpl2 : (Tm.text .k).length ≤ 1000 := by decide +kernel
      have hpl3 : (Tm.text Tm.no).length ≤ 1000 := by decide +kernel
      generalize Tm.pairC.text = yp at *
      generalize Tm.text .k = yk at *
      generalize Tm.text Tm.no = yn at *
      obtain ⟨zk, hzk⟩ : ∃ y, y = 40 :: (yp ++ 32 :: (yk ++ [41])) := ⟨_, rfl⟩
      obtain ⟨zn, hzn⟩ : ∃ y, y = 40 :: (yp ++ 32 :: (yn ++ [41])) := ⟨_, rfl⟩
      rw [← hzk] at f1
      rw [← hzn] at f2
      have hzkl : zk.length ≤ 3000 := by rw [hzk]; simp; omega
      have hznl : zn.length ≤ 3000 := by rw [hzn]; simp; omega
      have htr1 := fun W (hW : After W3 W) base lv (hr : RI W base lv L1 f) => impl_trackIs W _ _ lv _ _ (Asm.mp L1 f) zk (HS1.out.later (HA12.out.trans (HA23.out.trans hW))) (HS0.out.later (HA23.out.trans hW)) (lens_tos HLL1.out (by omega)) (lens_tos HLN.out (by omega)) hr.row (by rw [Asm.mp_len]; omega) (by omega)
      have htr2 := fun W (hW : After W3 W) base lv (hr : RI W base lv L2 g) => impl_trackIs W _ _ lv _ _ (Asm.mp L2 g) zn (HS2.out.later (HA12.out.trans (HA23.out.trans hW))) (HS0.out.later (HA23.out.trans hW)) (lens_tos HLL2.out (by omega)) (lens_tos HLN.out (by omega)) hr.row (by rw [Asm.mp_len]; omega) (by omega)
      rw [f1] at htr1
      rw [f2] at htr2
      have hmx := fun W (hW : After W3 W) => impl_asmModest W _ _ (HS0.out.later (HA23.out.trans hW)) (lens_tos HLN.out (by omega))
      have hma := fun W (hW : After W3 W) => impl_asmModest W _ _ (HS1.out.later (HA12.out.trans (HA23.out.trans hW))) (lens_tos HLL1.out (by omega))
      have hmb := fun W (hW : After W3 W) => impl_asmModest W _ _ (HS2.out.later (HA12.out.trans (HA23.out.trans hW))) (lens_tos HLL2.out (by omega))
      rw [hmd] at hmx
      generalize Asm.modest a = ba at *
      generalize Asm.modest b = bb at *
      have zp := ssize yp
      have zyk := ssize yk
      have zyn := ssize yn
      have qa0 : (⟨#[40]⟩ : ByteArray).size = 1 := rfl
      have qa1 : (⟨#[32]⟩ : ByteArray).size = 1 := rfl
      have qa2 : (⟨#[41]⟩ : ByteArray).size = 1 := rfl
      obtain ⟨ca0, da0, za0, ea0⟩ := cat ⟨#[40]⟩ ⟨yp.toArray⟩ (by omega)
      obtain ⟨ca1, da1, za1, ea1⟩ := cat ca0 ⟨#[32]⟩ (by omega)
      obtain ⟨ca2, da2, za2, ea2⟩ := cat ca1 ⟨yk.toArray⟩ (by omega)
      obtain ⟨ca3, da3, za3, ea3⟩ := cat ca2 ⟨#[41]⟩ (by omega)
      obtain ⟨cb2, db2, zb2, eb2⟩ := cat ca1 ⟨yn.toArray⟩ (by omega)
      obtain ⟨cb3, db3, zb3, eb3⟩ := cat cb2 ⟨#[41]⟩ (by omega)
      have hfin : str zk = .string ca3 := by
        refine congrArg Value.string (ByteArray.ext (Array.ext' ?_))
        rw [da3, da2, da1, da0, hzk]
        simp
      have hfin2 : str zn = .string cb3 := by
        refine congrArg Value.string (ByteArray.ext (Array.ext' ?_))
        rw [db3, db2, da1, da0, hzn]
        simp
      rw [hfin] at htr1
      rw [hfin2] at htr2
      clear hfin hfin2 da0 za0 da1 za1 da2 za2 da3 za3 db2 zb2 db3 zb3 qa0 qa1 qa2 zp zyk zyn hzk hzn hzkl hznl
      have HD := Lib.hid hd
      have HD2 := Lib.hid hd2
      have HD3 := Lib.hid hd3
      have HTR1 := Lib.hid htr1
      have HTR2 := Lib.hid htr2
      have HMX0 := Lib.hid hmx
      have HMA0 := Lib.hid hma
      have HMB0 := Lib.hid hmb
      have HFE := Lib.hid hf
      have HGE := Lib.hid hg
      have HEA := Lib.hid (And.intro ea0 (And.intro ea1 (And.intro ea2 (And.intro ea3 (And.intro eb2 eb3)))))
      clear hd hd2 hd3 hpl hpl2 hpl3 htr1 htr2 f1 f2 hf hg oka okb okx HFACT HI HSP hmd hmx hma hmb ea0 ea1 ea2 ea3 eb2 eb3
      generalize Asm.sumA a b = x at *
      go_wp2_with (go_at_call 11
                   simp only [← HW3.out, ← HQ4.out]
                   refine (HSAME.out _ (After.refl _)).mono ?_
                   rintro e w4 ⟨rfl, hb4⟩
                   have HB4 := Lib.hid hb4
                   have HT := Lib.hid (Two.start w4 f g)
                   clear hb4 p0 p1 r0 r1)
      have HII : Hid (∃ i, (Tryz.prog).info? 3 = some i ∧ i.zero = some (.int .i64 0) ∧ i.size = 1 ∧ i.bytes = 8) := ⟨_, rfl, rfl, rfl, rfl⟩
      have HUN : Hid (Tryz.prog.underlying 30 = some (.slice 3)) := by show _ = _; kernel_rfl
      have HA4 : Hid (After W3 w4) := HB4.out
      obtain ⟨gr0, hgr0⟩ : ∃ q, q = w4.heap.size + 1 := ⟨_, rfl⟩
      simp only [← hgr0] at HT ⊢
      have HGR := Lib.hid hgr0
      clear hgr0
      go_loopw [9, 11] (fun lv i wr => ∃ (k gl cl : Nat), i = .int .i64 k ∧ lv = .slice (some ⟨gl, 0, none⟩) k cl ∧ k ≤ L1 ∧ Hid (Two w4 wr w4.heap.size gl gr0 k 0 cl 0 f g)) (fun _ i _ => L1 - (intOf i).toNat)
      case atStart => exact ⟨0, _, 0, rfl, rfl, Nat.zero_le _, HT⟩
      case round =>
        obtain ⟨k, gl, cl, rfl, rfl, hk, HTW⟩ := hrel
        obtain ⟨t0, t1, t2⟩ := one_facts HX1.out (HA12.out.trans (HA23.out.trans (HA4.out.trans HTW.out.1)))
        clear t2
        by_cases hlt : k < L1
        · have hlt' : (k : Int) < (L1 : Int) := by omega
          have hz1 : (k : Int) = f k := by rw [HFE.out]
          have HZ1 := Lib.hid hz1
          have HP := Lib.hid (Two.pre HTW.out.2.2.2.2.1 HTW.out.2.2.1 (k : Int))
          obtain ⟨i0, hi0, hz0, hzs, hz4⟩ := HII.out
          clear hz1
          go_wp2_with (at_builtin
                       refine wpList_append_lies _ (by rfl) _ _ 30 (by rfl) w4.heap.size 3 i0 (.int .i64 0) 1 8 HUN.out hi0 hz0 hzs hz4 rfl (by decide) _ _ _ (by rfl) HP.out.1 ⟨wr.heap.size, 0, none⟩ 1 1 [.int .i64 (k : Int)] (by rfl) (by rfl) HP.out.2.1 (by simp [Value.oneCell']) (by omega) (by unfold maxLen; omega) (by omega) HP.out.2.2 _ rfl ?_
                       intro g5 q5 w5 ho5 hg5 hw5 _
                       have HT5 := Lib.hid (HTW.out.left HZ1.out ho5 hg5 hw5)
                       clear ho5 hg5 hw5)
          go_roundw
          case rel => exact ⟨k + 1, g5, q5, by go_num, rfl, by omega, HT5⟩
          case measure => simp [intOf]; omega
        · obtain rfl : k = L1 := by omega
          have HTW1 := HTW
          go_wp2_with fail
          clear t0 t1
          go_loopw [10, 12] (fun rv i wr => ∃ (m gr cr : Nat), i = .int .i64 m ∧ rv = .slice (some ⟨gr, 0, none⟩) m cr ∧ m ≤ L2 ∧ Hid (Two w4 wr w4.heap.size gl gr k m cl cr f g)) (fun _ i _ => L2 - (intOf i).toNat)
          case atStart => exact ⟨0, _, 0, rfl, rfl, Nat.zero_le _, HTW1⟩
          case round =>
            obtain ⟨m, gr, cr, rfl, rfl, hm, HTW⟩ := hrel
            obtain ⟨t0, t1, t2⟩ := one_facts HX2.out (HA12.out.trans (HA23.out.trans (HA4.out.trans HTW.out.1)))
            obtain ⟨s0, s1, s2⟩ := one_facts HX1.out (HA12.out.trans (HA23.out.trans (HA4.out.trans HTW.out.1)))
            clear t2 s2
            by_cases hltm : m < L2
            · have hlt' : (m : Int) < (L2 : Int) := by omega
              have hz1 : ((k : Int) + (m : Int)) = g m := by rw [HGE.out]; show _ = ((k + m : Nat) : Int); omega
              have HZ1 := Lib.hid hz1
              have HP := Lib.hid (Two.pre HTW.out.2.2.2.2.2 HTW.out.2.2.1 ((k : Int) + (m : Int)))
              obtain ⟨i0, hi0, hz0, hzs, hz4⟩ := HII.out
              clear hz1
              go_wp2_with (at_builtin
                           refine wpList_append_lies _ (by rfl) _ _ 30 (by rfl) w4.heap.size 3 i0 (.int .i64 0) 1 8 HUN.out hi0 hz0 hzs hz4 rfl (by decide) _ _ _ (by rfl) HP.out.1 ⟨wr.heap.size, 0, none⟩ 1 1 [.int .i64 ((k : Int) + (m : Int))] (by rfl) (by rfl) HP.out.2.1 (by simp [Value.oneCell']) (by omega) (by unfold maxLen; omega) (by omega) HP.out.2.2 _ rfl ?_
                           intro g5 q5 w5 ho5 hg5 hw5 _
                           have HT5 := Lib.hid (HTW.out.right HZ1.out ho5 hg5 hw5)
                           clear ho5 hg5 hw5)
              go_roundw
              case rel => exact ⟨m + 1, g5, q5, by go_num, rfl, by omega, HT5⟩
              case measure => simp [intOf]; omega
            · obtain rfl : m = L2 := by omega
              have HWr := Lib.hid (HA12.out.trans (HA23.out.trans (HA4.out.trans HTW.out.1)))
              have HWr3 := Lib.hid (HA23.out.trans (HA4.out.trans HTW.out.1))
              have HF3 : Hid True := trivial
              have HF4 : Hid True := trivial
              have HF6 : Hid True := trivial
              go_wp2_with (first
                | (go_at_call 12
                   clear HF3
                   refine (HD.out _).mono ?_
                   rintro e w6 ⟨rfl, hb6⟩)
                | (go_at_call 12
                   clear HF4
                   refine (HD2.out _).mono ?_
                   rintro e w7 ⟨rfl, hb7⟩)
                | (go_at_call 12
                   clear HF6
                   refine (HD3.out _).mono ?_
                   rintro e w8 ⟨rfl, hb8⟩
                   have HB8 := Lib.hid (After.trans hb6 (After.trans hb7 hb8))
                   clear hb6 hb7 hb8))
              have h1' : ∀ W, After w8 W → W.cell? ⟨q1, 0, none⟩ = some (.slice o1 k k1) := fun W hW => (one_facts HX1.out (HWr.out.trans (HB8.out.trans hW))).1
              have h2' : ∀ W, After w8 W → W.cell? ⟨q1 + 1, 0, none⟩ = some (.slice o2 m k2) := fun W hW => (one_facts HX2.out (HWr.out.trans (HB8.out.trans hW))).1
              have h3' : ∀ W, After w8 W → W.cell? ⟨q3, 0, none⟩ = some (.slice ao0 LX c0) := fun W hW => (one_facts HX3.out (HWr3.out.trans (HB8.out.trans hW))).1
              have HM : Hid (∀ W ao n c bv, After w8 W → ((ao = ao0 ∧ n = LX ∧ c = c0 ∧ bv = (ba && bb)) ∨ (ao = o1 ∧ n = k ∧ c = k1 ∧ bv = ba) ∨ (ao = o2 ∧ n = m ∧ c = k2 ∧ bv = bb)) → Calls Tryz.prog 13 #[.agg #[.slice ao n c]] W fun e w' => e = .returned (.bool bv) ∧ After W w') := by
                intro W ao n c bv hW h
                rcases h with ⟨rfl, rfl, rfl, rfl⟩ | ⟨rfl, rfl, rfl, rfl⟩ | ⟨rfl, rfl, rfl, rfl⟩
                · exact HMX0.out W (HA4.out.trans (After.trans HTW.out.1 (HB8.out.trans hW)))
                · exact HMA0.out W (HA4.out.trans (After.trans HTW.out.1 (HB8.out.trans hW)))
                · exact HMB0.out W (HA4.out.trans (After.trans HTW.out.1 (HB8.out.trans hW)))
              have HT1 := Lib.hid (fun W (hW : After w8 W) => HTR1.out W (HA4.out.trans (After.trans HTW.out.1 (HB8.out.trans hW))) _ _ (HTW.out.2.2.2.2.1.later (HB8.out.trans hW)))
              have HT2 := Lib.hid (fun W (hW : After w8 W) => HTR2.out W (HA4.out.trans (After.trans HTW.out.1 (HB8.out.trans hW))) _ _ (HTW.out.2.2.2.2.2.later (HB8.out.trans hW)))
              have hself := After.refl w8
              clear HTR1 HTR2 HMX0 HMA0 HMB0 t0 t1 s0 s1
              cases ba with
              | true =>
                cases bb
                all_goals
                  go_wp2_with fail
                  go_region_held3 (fun W' => After w8 W') (first | assumption | exact hself.drew | go_keep)
                    ((go_at_call 13; refine (HM.out _ _ _ _ _ (by first | assumption | exact hself.drew) (by first | exact Or.inl ⟨rfl, rfl, rfl, rfl⟩ | exact Or.inr (Or.inl ⟨rfl, rfl, rfl, rfl⟩) | exact Or.inr (Or.inr ⟨rfl, rfl, rfl, rfl⟩))).mono ?_; rintro e wa ⟨rfl, hba⟩; have hba' := After.trans (by first | assumption | exact hself.drew) hba))
                  all_goals
                    have HW9 := Lib.hid hba'
                    have HF7 : Hid True := trivial
                    have e0' := HEA.out.1
                    have e1' := HEA.out.2.1
                    have e2' := HEA.out.2.2.1
                    have e3' := HEA.out.2.2.2.1
                    have e4' := HEA.out.2.2.2.2.1
                    have e5' := HEA.out.2.2.2.2.2
                    obtain ⟨p0, p1, p2⟩ := one_facts HX1.out (HWr.out.trans (HB8.out.trans HW9.out))
                    obtain ⟨r0, r1, r2⟩ := one_facts HX3.out (HWr3.out.trans (HB8.out.trans HW9.out))
                    go_wp2_with (first
                      | (go_at_call 14
                         clear HF7
                         refine (HT1.out _ HW9.out).mono ?_
                         rintro e wt ⟨rfl, hbt⟩
                         have HBT := Lib.hid (After.trans HW9.out hbt)
                         obtain ⟨t0, t1, t2⟩ := one_facts HX2.out (HWr.out.trans (HB8.out.trans HBT.out))
                         obtain ⟨u0, u1, u2⟩ := one_facts HX3.out (HWr3.out.trans (HB8.out.trans HBT.out)))
                      | (go_at_call 14
                         refine (HT2.out _ HBT.out).mono ?_
                         rintro e wu ⟨rfl, hbu⟩))
                    go_ret
                    exact ⟨rfl, After.trans HA1.out (HWr.out.trans (HB8.out.trans (After.trans HBT.out hbu)))⟩
              | false =>
                have h6 : ∀ W, After w8 W → Calls Tryz.prog 13 #[.agg #[.slice ao0 LX c0]] W fun e w' => e = .returned (.bool false) ∧ After W w' := fun W hW => HM.out W _ _ _ _ hW (Or.inl ⟨rfl, rfl, rfl, by simp⟩)
                have h7 : ∀ W, After w8 W → Calls Tryz.prog 13 #[.agg #[.slice o1 k k1]] W fun e w' => e = .returned (.bool false) ∧ After W w' := fun W hW => HM.out W _ _ _ _ hW (Or.inr (Or.inl ⟨rfl, rfl, rfl, rfl⟩))
                have hself2 := hself.drew
                have H6 := Lib.hid h6
                have H7 := Lib.hid h7
                clear h6 h7
                go_wp2_with fail
                rename_i KK hKK
                refine wp_region_reg (by kernel_rfl) (by kernel_rfl) After After.refl (fun _ _ _ h g => h.trans g)
                  (yds [.lit (.bool true), .lit (.bool false), .lit (.bool false), .lit (.bool true), .lit (.bool false), .lit (.bool false), .lit (.bool false), .lit (.bool true), .lit (.bool false), .lit (.bool false), .lit (.bool false), .lit (.agg #[.slice ao0 LX c0]), .lit (.bool false), .lit (.agg #[.slice o1 k k1]), .lit (.bool false), .lit (.bool false), .free, .free, .lit (.bool false), .lit (.bool false), .lit (.bool false)]) yds_later (lt21 ?_ ?_ ?_ ?_ ?_ ?_ ?_ ?_ ?_ ?_ ?_ ?_ ?_ ?_ ?_ ?_ ?_ ?_ ?_ ?_ ?_) ?_
                · intro vs W hE hd K hK
                  have hE' : After w8 W := hself2.trans hE
                  exact do_r (v := .bool true) (.lit (.bool true)) (by kernel_rfl) (wanted_of (by kernel_rfl)) (by kernel_rfl) rfl hK
                · intro vs W hE hd K hK
                  have hE' : After w8 W := hself2.trans hE
                  exact do_r (v := .bool (!true)) (.lit (.bool false)) (by kernel_rfl) (wanted_of (by kernel_rfl)) (run_not (T := 4) (x := .tmp 100) (u := vs 0) (b := true) (by kernel_rfl) (by kernel_rfl) (hd 0 (by kernel_rfl))) rfl hK
                · intro vs W hE hd K hK
                  have hE' : After w8 W := hself2.trans hE
                  exact do_r (v := vs 1) (.lit (.bool false)) (by kernel_rfl) (wanted_of (by kernel_rfl)) (by kernel_rfl) (hd 1 (by kernel_rfl)) hK
                · intro vs W hE hd K hK
                  have hE' : After w8 W := hself2.trans hE
                  exact do_r (v := .bool true) (.lit (.bool true)) (by kernel_rfl) (wanted_on (j := 2) (b := false) (u := vs 2) (by kernel_rfl) (by kernel_rfl) (hd 2 (by kernel_rfl))) (by kernel_rfl) rfl hK
                · intro vs W hE hd K hK
                  have hE' : After w8 W := hself2.trans hE
                  exact do_r (v := .bool (!true)) (.lit (.bool false)) (by kernel_rfl) (wanted_on (j := 2) (b := false) (u := vs 2) (by kernel_rfl) (by kernel_rfl) (hd 2 (by kernel_rfl))) (run_not (T := 4) (x := .tmp 103) (u := vs 3) (b := true) (by kernel_rfl) (by kernel_rfl) (hd 3 (by kernel_rfl))) rfl hK
                · intro vs W hE hd K hK
                  have hE' : After w8 W := hself2.trans hE
                  exact do_pick (c := .tmp 102) (x := .const (.bool true)) (y := .tmp 104) (u := vs 2) (p := false) (r := .bool false) (by kernel_rfl) (by kernel_rfl) (by kernel_rfl) (by kernel_rfl) (hd 2 (by kernel_rfl)) (by rw [if_neg (by decide)]; exact Eq.trans (by kernel_rfl : _ = vs 4) (hd 4 (by kernel_rfl))) hK
                · intro vs W hE hd K hK
                  have hE' : After w8 W := hself2.trans hE
                  exact do_r (v := vs 5) (.lit (.bool false)) (by kernel_rfl) (wanted_of (by kernel_rfl)) (by kernel_rfl) (hd 5 (by kernel_rfl)) hK
                · intro vs W hE hd K hK
                  have hE' : After w8 W := hself2.trans hE
                  exact do_r (v := .bool true) (.lit (.bool true)) (by kernel_rfl) (wanted_on (j := 6) (b := false) (u := vs 6) (by kernel_rfl) (by kernel_rfl) (hd 6 (by kernel_rfl))) (by kernel_rfl) rfl hK
                · intro vs W hE hd K hK
                  have hE' : After w8 W := hself2.trans hE
                  exact do_r (v := .bool (!true)) (.lit (.bool false)) (by kernel_rfl) (wanted_on (j := 6) (b := false) (u := vs 6) (by kernel_rfl) (by kernel_rfl) (hd 6 (by kernel_rfl))) (run_not (T := 4) (x := .tmp 107) (u := vs 7) (b := true) (by kernel_rfl) (by kernel_rfl) (hd 7 (by kernel_rfl))) rfl hK
                · intro vs W hE hd K hK
                  have hE' : After w8 W := hself2.trans hE
                  exact do_pick (c := .tmp 106) (x := .const (.bool true)) (y := .tmp 108) (u := vs 6) (p := false) (r := .bool false) (by kernel_rfl) (by kernel_rfl) (by kernel_rfl) (by kernel_rfl) (hd 6 (by kernel_rfl)) (by rw [if_neg (by decide)]; exact Eq.trans (by kernel_rfl : _ = vs 8) (hd 8 (by kernel_rfl))) hK
                · intro vs W hE hd K hK
                  have hE' : After w8 W := hself2.trans hE
                  exact do_r (v := vs 9) (.lit (.bool false)) (by kernel_rfl) (wanted_of (by kernel_rfl)) (by kernel_rfl) (hd 9 (by kernel_rfl)) hK
                · intro vs W hE hd K hK
                  have hE' : After w8 W := hself2.trans hE
                  exact do_r (v := .agg #[.slice ao0 LX c0]) (.lit (.agg #[.slice ao0 LX c0])) (by kernel_rfl) (wanted_on (j := 10) (b := false) (u := vs 10) (by kernel_rfl) (by kernel_rfl) (hd 10 (by kernel_rfl))) (run_ldm (x := .tmp 5) (u := .pointer (some ⟨q3, 0, none⟩)) (by kernel_rfl) (by kernel_rfl) rfl (h3' W hE')) rfl hK
                · intro vs W hE hd K hK
                  have hE' : After w8 W := hself2.trans hE
                  exact do_c (v := .bool false) (f := 13) (args := #[vs 11]) (by kernel_rfl) (wanted_on (j := 10) (b := false) (u := vs 10) (by kernel_rfl) (by kernel_rfl) (hd 10 (by kernel_rfl))) (by kernel_rfl) (by rw [show vs 11 = .agg #[.slice ao0 LX c0] from hd 11 (by kernel_rfl)]; exact H6.out W hE') hK
                · intro vs W hE hd K hK
                  have hE' : After w8 W := hself2.trans hE
                  exact do_r (v := .agg #[.slice o1 k k1]) (.lit (.agg #[.slice o1 k k1])) (by kernel_rfl) (wanted_on (j := 10) (b := false) (u := vs 10) (by kernel_rfl) (by kernel_rfl) (hd 10 (by kernel_rfl))) (run_ldm (x := .tmp 3) (u := .pointer (some ⟨q1, 0, none⟩)) (by kernel_rfl) (by kernel_rfl) rfl (h1' W hE')) rfl hK
                · intro vs W hE hd K hK
                  have hE' : After w8 W := hself2.trans hE
                  exact do_c (v := .bool false) (f := 13) (args := #[vs 13]) (by kernel_rfl) (wanted_on (j := 10) (b := false) (u := vs 10) (by kernel_rfl) (by kernel_rfl) (hd 10 (by kernel_rfl))) (by kernel_rfl) (by rw [show vs 13 = .agg #[.slice o1 k k1] from hd 13 (by kernel_rfl)]; exact H7.out W hE') hK
                · intro vs W hE hd K hK
                  have hE' : After w8 W := hself2.trans hE
                  exact do_r (v := vs 14) (.lit (.bool false)) (by kernel_rfl) (wanted_on (j := 10) (b := false) (u := vs 10) (by kernel_rfl) (by kernel_rfl) (hd 10 (by kernel_rfl))) (by kernel_rfl) (hd 14 (by kernel_rfl)) hK
                · intro vs W hE hd K hK
                  have hE' : After w8 W := hself2.trans hE
                  exact do_offg (j := 15) (b := true) (c := false) (u := vs 15) (by kernel_rfl) (by kernel_rfl) (by kernel_rfl) (hd 15 (by kernel_rfl)) (by decide) hK
                · intro vs W hE hd K hK
                  have hE' : After w8 W := hself2.trans hE
                  exact do_offg (j := 15) (b := true) (c := false) (u := vs 15) (by kernel_rfl) (by kernel_rfl) (by kernel_rfl) (hd 15 (by kernel_rfl)) (by decide) hK
                · intro vs W hE hd K hK
                  have hE' : After w8 W := hself2.trans hE
                  exact do_pickg (c := .tmp 115) (x := .tmp 117) (y := .const (.bool false)) (u := vs 15) (p := false) (r := .bool false) (by kernel_rfl) (by kernel_rfl) (wanted_on (j := 10) (b := false) (u := vs 10) (by kernel_rfl) (by kernel_rfl) (hd 10 (by kernel_rfl))) (by kernel_rfl) (hd 15 (by kernel_rfl)) (by rw [if_neg (by decide)]; rfl) hK
                · intro vs W hE hd K hK
                  have hE' : After w8 W := hself2.trans hE
                  exact do_r (v := .bool (false != false)) (.lit (.bool false)) (by kernel_rfl) (wanted_on (j := 10) (b := false) (u := vs 10) (by kernel_rfl) (by kernel_rfl) (hd 10 (by kernel_rfl))) (run_neqb (x := .tmp 112) (y := .tmp 118) (u := vs 12) (u' := vs 18) (b := false) (c := false) (by kernel_rfl) (by kernel_rfl) (hd 12 (by kernel_rfl)) (by kernel_rfl) (hd 18 (by kernel_rfl))) rfl hK
                · intro vs W hE hd K hK
                  have hE' : After w8 W := hself2.trans hE
                  exact do_pick (c := .tmp 110) (x := .const (.bool true)) (y := .tmp 119) (u := vs 10) (p := false) (r := .bool false) (by kernel_rfl) (by kernel_rfl) (by kernel_rfl) (by kernel_rfl) (hd 10 (by kernel_rfl)) (by rw [if_neg (by decide)]; exact Eq.trans (by kernel_rfl : _ = vs 19) (hd 19 (by kernel_rfl))) hK
                intro vs W hE hd
                have hE' : After w8 W := hself2.trans hE
                have er : vs 20 = .bool false := hd 20 (by decide)
                refine hKK _ _ ?_
                rw [frame_all 100 21 (by kernel_rfl) (by kernel_rfl), lit_143_100_21, er]
                clear er hd
                generalize vs 0 = y0 at *
                generalize vs 1 = y1 at *
                generalize vs 2 = y2 at *
                generalize vs 3 = y3 at *
                generalize vs 4 = y4 at *
                generalize vs 5 = y5 at *
                generalize vs 6 = y6 at *
                generalize vs 7 = y7 at *
                generalize vs 8 = y8 at *
                generalize vs 9 = y9 at *
                generalize vs 10 = y10 at *
                generalize vs 11 = y11 at *
                generalize vs 12 = y12 at *
                generalize vs 13 = y13 at *
                generalize vs 14 = y14 at *
                generalize vs 15 = y15 at *
                generalize vs 16 = y16 at *
                generalize vs 17 = y17 at *
                generalize vs 18 = y18 at *
                generalize vs 19 = y19 at *
                have HW9 := Lib.hid hE'
                clear hKK
                have HF7 : Hid True := trivial
                have e0' := HEA.out.1
                have e1' := HEA.out.2.1
                have e2' := HEA.out.2.2.1
                have e3' := HEA.out.2.2.2.1
                have e4' := HEA.out.2.2.2.2.1
                have e5' := HEA.out.2.2.2.2.2
                obtain ⟨p0, p1, p2⟩ := one_facts HX1.out (HWr.out.trans (HB8.out.trans HW9.out))
                obtain ⟨r0, r1, r2⟩ := one_facts HX3.out (HWr3.out.trans (HB8.out.trans HW9.out))
                go_wp2_with (first
                  | (go_at_call 14
                     clear HF7
                     refine (HT1.out _ HW9.out).mono ?_
                     rintro e wt ⟨rfl, hbt⟩
                     have HBT := Lib.hid (After.trans HW9.out hbt)
                     obtain ⟨t0, t1, t2⟩ := one_facts HX2.out (HWr.out.trans (HB8.out.trans HBT.out))
                     obtain ⟨u0, u1, u2⟩ := one_facts HX3.out (HWr3.out.trans (HB8.out.trans HBT.out)))
                  | (go_at_call 14
                     refine (HT2.out _ HBT.out).mono ?_
                     rintro e wu ⟨rfl, hbu⟩))
                go_ret
                exact ⟨rfl, After.trans HA1.out (HWr.out.trans (HB8.out.trans (After.trans HBT.out hbu)))⟩
end Go.Proofs.YtidpkmkhcomcdaaGreat
