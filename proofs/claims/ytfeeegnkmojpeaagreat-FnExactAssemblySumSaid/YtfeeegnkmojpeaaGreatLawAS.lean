/-
  The walk of the law of AssemblySum.
-/
import Derived.Test.YtfeeegnkmojpeaaGreatPkX
import Derived.Test.YtfeeegnkmojpeaaGreatPkW
namespace Go.Proofs.YtfeeegnkmojpeaaGreat
open Go.RowKit

set_option maxHeartbeats 4000000
set_option maxRecDepth 100000

theorem dlit_119_8 {x0 x1 x2 x3 x4 x5 x6 x7 x8 x9 x10 x11 x12 x13 x14 x15 x16 x17 x18 x19 x20 x21 x22 x23 x24 x25 x26 x27 x28 x29 x30 x31 x32 x33 x34 x35 x36 x37 x38 x39 x40 x41 x42 x43 x44 x45 x46 x47 x48 x49 x50 x51 x52 x53 x54 x55 x56 x57 x58 x59 x60 x61 x62 x63 x64 x65 x66 x67 x68 x69 x70 x71 x72 x73 x74 x75 x76 x77 x78 x79 x80 x81 x82 x83 x84 x85 x86 x87 x88 x89 x90 x91 x92 x93 x94 x95 x96 x97 x98 x99 x100 x101 x102 x103 x104 x105 x106 x107 x108 x109 x110 x111 x112 x113 x114 x115 x116 x117 x118 u : Value} {d : List Deferred} {vs : Nat → Value} : ((putL ⟨(List.toArray (x0 :: x1 :: x2 :: x3 :: x4 :: x5 :: x6 :: x7 :: x8 :: x9 :: x10 :: x11 :: x12 :: x13 :: x14 :: x15 :: x16 :: x17 :: x18 :: x19 :: x20 :: x21 :: x22 :: x23 :: x24 :: x25 :: x26 :: x27 :: x28 :: x29 :: x30 :: x31 :: x32 :: x33 :: x34 :: x35 :: x36 :: x37 :: x38 :: x39 :: x40 :: x41 :: x42 :: x43 :: x44 :: x45 :: x46 :: x47 :: x48 :: x49 :: x50 :: x51 :: x52 :: x53 :: x54 :: x55 :: x56 :: x57 :: x58 :: x59 :: x60 :: x61 :: x62 :: x63 :: x64 :: x65 :: x66 :: x67 :: x68 :: x69 :: x70 :: x71 :: x72 :: x73 :: x74 :: x75 :: x76 :: x77 :: x78 :: x79 :: x80 :: x81 :: x82 :: x83 :: x84 :: x85 :: x86 :: x87 :: x88 :: x89 :: x90 :: x91 :: x92 :: x93 :: x94 :: x95 :: x96 :: x97 :: x98 :: x99 :: x100 :: x101 :: x102 :: x103 :: x104 :: x105 :: x106 :: x107 :: x108 :: x109 :: x110 :: x111 :: x112 :: x113 :: x114 :: x115 :: x116 :: x117 :: x118 :: [])), d⟩ [some 28, some 29, some 30, some 31, some 32, some 27, some 33, some 34, some 6, none, some 7] vs 0)).put (some 7) u = ⟨(List.toArray (x0 :: x1 :: x2 :: x3 :: x4 :: x5 :: vs 8 :: u :: x8 :: x9 :: x10 :: x11 :: x12 :: x13 :: x14 :: x15 :: x16 :: x17 :: x18 :: x19 :: x20 :: x21 :: x22 :: x23 :: x24 :: x25 :: x26 :: vs 5 :: vs 0 :: vs 1 :: vs 2 :: vs 3 :: vs 4 :: vs 6 :: vs 7 :: x35 :: x36 :: x37 :: x38 :: x39 :: x40 :: x41 :: x42 :: x43 :: x44 :: x45 :: x46 :: x47 :: x48 :: x49 :: x50 :: x51 :: x52 :: x53 :: x54 :: x55 :: x56 :: x57 :: x58 :: x59 :: x60 :: x61 :: x62 :: x63 :: x64 :: x65 :: x66 :: x67 :: x68 :: x69 :: x70 :: x71 :: x72 :: x73 :: x74 :: x75 :: x76 :: x77 :: x78 :: x79 :: x80 :: x81 :: x82 :: x83 :: x84 :: x85 :: x86 :: x87 :: x88 :: x89 :: x90 :: x91 :: x92 :: x93 :: x94 :: x95 :: x96 :: x97 :: x98 :: x99 :: x100 :: x101 :: x102 :: x103 :: x104 :: x105 :: x106 :: x107 :: x108 :: x109 :: x110 :: x111 :: x112 :: x113 :: x114 :: x115 :: x116 :: x117 :: x118 :: [])), d⟩ := by kernel_rfl

theorem dlit_119_31 {x0 x1 x2 x3 x4 x5 x6 x7 x8 x9 x10 x11 x12 x13 x14 x15 x16 x17 x18 x19 x20 x21 x22 x23 x24 x25 x26 x27 x28 x29 x30 x31 x32 x33 x34 x35 x36 x37 x38 x39 x40 x41 x42 x43 x44 x45 x46 x47 x48 x49 x50 x51 x52 x53 x54 x55 x56 x57 x58 x59 x60 x61 x62 x63 x64 x65 x66 x67 x68 x69 x70 x71 x72 x73 x74 x75 x76 x77 x78 x79 x80 x81 x82 x83 x84 x85 x86 x87 x88 x89 x90 x91 x92 x93 x94 x95 x96 x97 x98 x99 x100 x101 x102 x103 x104 x105 x106 x107 x108 x109 x110 x111 x112 x113 x114 x115 x116 x117 x118 u : Value} {d : List Deferred} {vs : Nat → Value} : ((putL ⟨(List.toArray (x0 :: x1 :: x2 :: x3 :: x4 :: x5 :: x6 :: x7 :: x8 :: x9 :: x10 :: x11 :: x12 :: x13 :: x14 :: x15 :: x16 :: x17 :: x18 :: x19 :: x20 :: x21 :: x22 :: x23 :: x24 :: x25 :: x26 :: x27 :: x28 :: x29 :: x30 :: x31 :: x32 :: x33 :: x34 :: x35 :: x36 :: x37 :: x38 :: x39 :: x40 :: x41 :: x42 :: x43 :: x44 :: x45 :: x46 :: x47 :: x48 :: x49 :: x50 :: x51 :: x52 :: x53 :: x54 :: x55 :: x56 :: x57 :: x58 :: x59 :: x60 :: x61 :: x62 :: x63 :: x64 :: x65 :: x66 :: x67 :: x68 :: x69 :: x70 :: x71 :: x72 :: x73 :: x74 :: x75 :: x76 :: x77 :: x78 :: x79 :: x80 :: x81 :: x82 :: x83 :: x84 :: x85 :: x86 :: x87 :: x88 :: x89 :: x90 :: x91 :: x92 :: x93 :: x94 :: x95 :: x96 :: x97 :: x98 :: x99 :: x100 :: x101 :: x102 :: x103 :: x104 :: x105 :: x106 :: x107 :: x108 :: x109 :: x110 :: x111 :: x112 :: x113 :: x114 :: x115 :: x116 :: x117 :: x118 :: [])), d⟩ [some 95, some 96, some 97, some 98, some 99, some 94, some 100, some 101, some 15, none, some 16] vs 0)).put (some 16) u = ⟨(List.toArray (x0 :: x1 :: x2 :: x3 :: x4 :: x5 :: x6 :: x7 :: x8 :: x9 :: x10 :: x11 :: x12 :: x13 :: x14 :: vs 8 :: u :: x17 :: x18 :: x19 :: x20 :: x21 :: x22 :: x23 :: x24 :: x25 :: x26 :: x27 :: x28 :: x29 :: x30 :: x31 :: x32 :: x33 :: x34 :: x35 :: x36 :: x37 :: x38 :: x39 :: x40 :: x41 :: x42 :: x43 :: x44 :: x45 :: x46 :: x47 :: x48 :: x49 :: x50 :: x51 :: x52 :: x53 :: x54 :: x55 :: x56 :: x57 :: x58 :: x59 :: x60 :: x61 :: x62 :: x63 :: x64 :: x65 :: x66 :: x67 :: x68 :: x69 :: x70 :: x71 :: x72 :: x73 :: x74 :: x75 :: x76 :: x77 :: x78 :: x79 :: x80 :: x81 :: x82 :: x83 :: x84 :: x85 :: x86 :: x87 :: x88 :: x89 :: x90 :: x91 :: x92 :: x93 :: vs 5 :: vs 0 :: vs 1 :: vs 2 :: vs 3 :: vs 4 :: vs 6 :: vs 7 :: x102 :: x103 :: x104 :: x105 :: x106 :: x107 :: x108 :: x109 :: x110 :: x111 :: x112 :: x113 :: x114 :: x115 :: x116 :: x117 :: x118 :: [])), d⟩ := by kernel_rfl

theorem res_sumA (a b : List (List (List UInt8))) : (Asm.pSumA a b).getD [] = [] ∨ (Asm.ok ((Asm.pSumA a b).getD []) = true ∧ Lens 1000000 ((Asm.pSumA a b).getD [])) := by
  unfold Asm.pSumA
  split
  · rename_i h
    split
    · rename_i h2
      right
      simp only [Bool.and_eq_true] at h
      exact ⟨h2, Asm.sumA_lens h.1 h.2⟩
    · left; rfl
  · left; rfl

theorem law_sumA (w : World) (sa sb : Value) (a b : List (List (List UInt8))) (ha : SSU 0 w sa a) (hb : SSU 0 w sb b) (hla : Lens 9223372036854775807 a) (hlb : Lens 9223372036854775807 b) :
    Calls Tryz.prog 8 #[.agg #[sa], .agg #[sb]] w fun e w' => e = .returned (.bool true) ∧ After w w' := by
  obtain ⟨x, hx⟩ : ∃ x, x = (Asm.pSumA a b).getD [] := ⟨_, rfl⟩
  have hlx : x.length ≤ 1000 ∧ (∀ ns ∈ x, ns.length ≤ 1000) ∧ Lens 1000000000 x := by
    rcases res_sumA a b with h | ⟨h1, h2⟩
    · rw [hx, h]
      exact ⟨by simp, fun ns h => absurd h (by simp), ⟨by simp, fun ns h => absurd h (by simp)⟩⟩
    · rw [← hx] at h1 h2
      obtain ⟨e1, e2, _⟩ := Asm.ok_facts h1
      refine ⟨by omega, fun ns hs => ?_, ⟨by omega, fun ns hs => ⟨by have := (h2.2 ns hs).1; omega, fun s hh => by have := (h2.2 ns hs).2 s hh; omega⟩⟩⟩
      obtain ⟨j, hj, rfl⟩ := List.getElem_of_mem hs
      have := e2 j hj
      rw [List.getD, List.getElem?_eq_getElem hj] at this
      simp at this
      omega
  have hoff := offA_le' 1000 x hlx.2.1 x.length (Nat.le_refl _)
  have HLENS : Hid (Lens 1000000000 x) := hlx.2.2
  have HOFF : Hid (1 + offA x x.length ≤ 1000000000) := by
    show _ ≤ _
    have : x.length * 1000 ≤ 1000 * 1000 := Nat.mul_le_mul hlx.1 (Nat.le_refl _)
    omega
  have HLX : Hid (x.length ≤ 1000000000) := by show _ ≤ _; have := hlx.1; omega
  have hsp : Lens 1048576 a → Lens 1048576 b → ∀ W t1 t2, SSU 0 W t1 a → SSU 0 W t2 b → Calls Tryz.prog 31 #[.agg #[t1], .agg #[t2]] W (AsmOwn W (Asm.pSumA a b)) := fun h1 h2 W t1 t2 g1 g2 => spec_sumA W t1 t2 a b g1 g2 h1 h2
  have hip : Lens 1048576 a → Lens 1048576 b → ∀ W t1 t2, SSU 0 W t1 a → SSU 0 W t2 b → Calls Tryz.prog 32 #[.agg #[t1], .agg #[t2]] W (AsmOwn W (Asm.pSumA a b)) := fun h1 h2 W t1 t2 g1 g2 => impl_sumA W t1 t2 a b g1 g2 (lens_big h1) (lens_big h2)
  unfold AsmOwn at hsp hip
  rw [← hx] at hsp hip
  have hsza := fun W (hW : After w W) => l_szAsm2 W sa a (ha.later hW) hla 1048576 (by omega) (by omega)
  have hszb := fun W (hW : After w W) => l_szAsm2 W sb b (hb.later hW) hlb
  have hta := fun (h : Lens 1048576 a) W (hW : After w W) => l_toAsm2 W sa a (ha.later hW) h
  have htb := fun (h : Lens 1048576 b) W (hW : After w W) => l_toAsm2 W sb b (hb.later hW) h
  obtain ⟨p1, k1, rfl⟩ := ha.form
  obtain ⟨p2, k2, rfl⟩ := hb.form
  obtain ⟨n, hn⟩ : ∃ n, n = a.length := ⟨_, rfl⟩
  obtain ⟨m, hm⟩ : ∃ m, m = b.length := ⟨_, rfl⟩
  obtain ⟨l, hl⟩ : ∃ l, l = x.length := ⟨_, rfl⟩
  rw [← hn] at hsza hta ⊢
  rw [← hm] at hszb htb ⊢
  obtain ⟨os, hos⟩ : ∃ os : List Obj, os = [.cells #[.slice p1 n k1] 43, .cells #[.slice p2 m k2] 43] := ⟨_, rfl⟩
  have hX : allocL w os = (w.alloc (.cells #[.slice p1 n k1] 43)).alloc (.cells #[.slice p2 m k2] 43) := by rw [hos]; rfl
  have hA0 : After w (allocL w os) := allocL_below w os
  have hba : (allocL w os).heap[w.heap.size]? = some (.cells #[.slice p1 n k1] 43 (0, 0)) := by have := allocL_heap w os 0 (by rw [hos]; simp); simpa [hos] using this
  have hbb : (allocL w os).heap[w.heap.size + 1]? = some (.cells #[.slice p2 m k2] 43 (0, 0)) := by have := allocL_heap w os 1 (by rw [hos]; simp); simpa [hos] using this
  rw [hX] at hA0 hba hbb
  have HN := Lib.hid hn
  have HM := Lib.hid hm
  have HL := Lib.hid hl
  have HSP0 := Lib.hid hsp
  have HIP0 := Lib.hid hip
  have HSZB := Lib.hid hszb
  have HTA0 := Lib.hid hta
  have HTB0 := Lib.hid htb
  have HBA := Lib.hid hba
  have HBB := Lib.hid hbb
  have HA0 := Lib.hid hA0
  have hc := hsza _ hA0
  obtain ⟨o0, o1, o2⟩ := one_facts hba (After.refl _)
  clear hX hos hn hm hl hsp hip hszb hta htb hba hbb hA0 hsza hoff hlx ha hb hla hlb
  generalize (Asm.pSumA a b).isSome = bb at *
  clear hx
  go_enter Tryz.func8, Tryz.ntmps8
  go_wp2_with fail
  refine hc.mono ?_
  rintro e w1 ⟨⟨r, rfl, hr1, hr2, hr⟩, hb1⟩
  have HRA := Lib.hid hr
  have HA1 := Lib.hid (After.trans HA0.out hb1)
  clear hc hr
  by_cases hneg : r < 0
  · clear o0 o1 o2
    go_wp2_with fail
    go_ret
    exact ⟨rfl, HA1.out⟩
  · have HLA := Lib.hid (HRA.out (by omega))
    obtain ⟨p0, p1', p2'⟩ := one_facts HBB.out hb1
    have hc2 := HSZB.out w1 HA1.out r (by omega) (by omega)
    clear o0 o1 o2
    go_wp2_with fail
    refine hc2.mono ?_
    rintro e w2 ⟨⟨r', rfl, hs1, hs2, hs⟩, hb2⟩
    have HRB := Lib.hid hs
    have HA2 := Lib.hid (After.trans HA1.out hb2)
    clear hc2 hs p0 p1' p2'
    by_cases hneg2 : r' < 0
    · go_wp2_with fail
      go_ret
      exact ⟨rfl, HA2.out⟩
    · have HLB := Lib.hid (HRB.out (by omega))
      have HOFF2 : Hid (1 + offA a n + offA b m ≤ 1000000000) := by show _ ≤ _; have h1 := HLA.out.2; have h2 := HLB.out.2; omega
      have HB2 := Lib.hid (After.trans hb1 hb2)
      have hxa : ∀ W, After w2 W → W.cell? ⟨w.heap.size, 0, none⟩ = some (.slice p1 n k1) := fun W hW => (one_facts HBA.out (HB2.out.trans hW)).1
      have hxb : ∀ W, After w2 W → W.cell? ⟨w.heap.size + 1, 0, none⟩ = some (.slice p2 m k2) := fun W hW => (one_facts HBB.out (HB2.out.trans hW)).1
      have HTO1 : Hid (∀ W, After w W → _) := HTA0.out HLA.out.1
      have HTO2 : Hid (∀ W, After w W → _) := HTB0.out HLB.out.1
      have HTA : Hid (∀ W, After w2 W → Calls Tryz.prog 25 #[.agg #[.slice p1 n k1]] W fun e w' => ∃ v, e = .returned v ∧ After W w' ∧ (Sp.asm a).p v w') := fun W hW => (HTO1.out W (HA2.out.trans hW)).mono fun e w' ⟨v, he, ho, hA⟩ => ⟨_, he, hA, v, rfl, ho.ssu (Nat.zero_le _)⟩
      have HTB : Hid (∀ W, After w2 W → Calls Tryz.prog 25 #[.agg #[.slice p2 m k2]] W fun e w' => ∃ v, e = .returned v ∧ After W w' ∧ (Sp.asm b).p v w') := fun W hW => (HTO2.out W (HA2.out.trans hW)).mono fun e w' ⟨v, he, ho, hA⟩ => ⟨_, he, hA, v, rfl, ho.ssu (Nat.zero_le _)⟩
      have HSP : Hid (∀ W t1 t2, SSU 0 W t1 a → SSU 0 W t2 b → _) := HSP0.out HLA.out.1 HLB.out.1
      have HIP : Hid (∀ W t1 t2, SSU 0 W t1 a → SSU 0 W t2 b → _) := HIP0.out HLA.out.1 HLB.out.1
      have hself := (After.refl w2).drew
      clear hb1 hb2
      go_wp2_with fail
      rename_i KK hKK
      clear hneg hneg2
      refine wp_region_mid (n := 10) (p := 9) (by kernel_rfl) (by kernel_rfl) (by decide) (by kernel_rfl) (by kernel_rfl) (by kernel_rfl) After After.refl (fun _ _ _ h g => h.trans g)
        (rl [Sp.lit (.agg #[.slice p1 n k1]), Sp.asm a, Sp.lit (.agg #[.slice p2 m k2]), Sp.asm b, Sp.res w2.heap.size x bb, Sp.res w2.heap.size x bb, Sp.asmO w2.heap.size x, Sp.lit (.bool bb), Sp.cellA w2.heap.size, Sp.free]) rl_later (fun i => i == 7) (by kernel_rfl)
        (fun i v => (i = 5 → ∃ s, v = .tuple #[.agg #[s], .bool bb]) ∧ (i = 7 → v = .bool bb)) ?_ (fun vs W => ∃ bk s, vs 8 = .pointer (some ⟨bk, 0, none⟩) ∧ w2.heap.size ≤ bk ∧ W.heap[bk]? = some (.cells #[s] 25 (0, 0)) ∧ OwnSS W w2.heap.size s x ∧ After w2 W) ?_ (lt10n9 ?_ ?_ ?_ ?_ ?_ ?_ ?_ ?_ ?_) ?_ ?_ ?_
      · intro i v W _ _ hr
        refine ⟨fun e => ?_, fun e => ?_⟩
        · subst e
          obtain ⟨s, e, _⟩ := hr
          exact ⟨s, e⟩
        · subst e
          exact hr
      · rintro vs W i v hf ⟨bk, s, e8, h1, h2, h3, h4⟩
        have : i = 7 := by simpa using hf
        subst this
        exact ⟨bk, s, e8, h1, h2, h3, h4⟩
      · intro vs W hE hd K hK
        have hE' : After w2 W := hself.trans hE
        exact do_rp (v := .agg #[.slice p1 n k1]) (Sp.lit (.agg #[.slice p1 n k1])).p (by kernel_rfl) (wanted_of (by kernel_rfl)) (run_lda (x := .tmp 2) (by kernel_rfl) (by kernel_rfl) (hxa W hE')) (After.refl W) rfl hK
      · intro vs W hE hd K hK
        have hE' : After w2 W := hself.trans hE
        exact do_cp (Sp.asm a).p (by kernel_rfl) (wanted_of (by kernel_rfl)) (f := 25) (args := #[vs 0]) (by kernel_rfl) (by rw [show vs 0 = .agg #[.slice p1 n k1] from hd 0 (by kernel_rfl)]; exact HTA.out W hE') hK
      · intro vs W hE hd K hK
        have hE' : After w2 W := hself.trans hE
        exact do_rp (v := .agg #[.slice p2 m k2]) (Sp.lit (.agg #[.slice p2 m k2])).p (by kernel_rfl) (wanted_of (by kernel_rfl)) (run_lda (x := .tmp 3) (by kernel_rfl) (by kernel_rfl) (hxb W hE')) (After.refl W) rfl hK
      · intro vs W hE hd K hK
        have hE' : After w2 W := hself.trans hE
        exact do_cp (Sp.asm b).p (by kernel_rfl) (wanted_of (by kernel_rfl)) (f := 25) (args := #[vs 2]) (by kernel_rfl) (by rw [show vs 2 = .agg #[.slice p2 m k2] from hd 2 (by kernel_rfl)]; exact HTB.out W hE') hK
      · intro vs W hE hd K hK
        have hE' : After w2 W := hself.trans hE
        obtain ⟨t1, e1, g1⟩ : (Sp.asm a).p (vs 1) W := hd 1 (by kernel_rfl)
        obtain ⟨t2, e2, g2⟩ : (Sp.asm b).p (vs 3) W := hd 3 (by kernel_rfl)
        exact do_cp (Sp.res w2.heap.size x bb).p (by kernel_rfl) (wanted_of (by kernel_rfl)) (f := 31) (args := #[vs 1, vs 3]) (by kernel_rfl) (by rw [e1, e2]; exact (HSP.out W t1 t2 g1 g2).mono fun e w' ⟨v, he, ho, ha⟩ => ⟨_, he, ha, v, rfl, own_less' ho hE'.size⟩) hK
      · intro vs W hE hd K hK
        have hE' : After w2 W := hself.trans hE
        exact do_rp (v := vs 4) (Sp.res w2.heap.size x bb).p (by kernel_rfl) (wanted_of (by kernel_rfl)) (by kernel_rfl) (After.refl W) (hd 4 (by kernel_rfl)) hK
      · intro vs W hE hd K hK
        have hE' : After w2 W := hself.trans hE
        obtain ⟨s5, e5, g5⟩ : (Sp.res w2.heap.size x bb).p (vs 5) W := hd 5 (by kernel_rfl)
        exact do_rp (v := .agg #[s5]) (Sp.asmO w2.heap.size x).p (by kernel_rfl) (wanted_of (by kernel_rfl)) (run_ex0 (x := .tmp 27) (u := vs 5) (by kernel_rfl) (by kernel_rfl) e5) (After.refl W) ⟨_, rfl, g5⟩ hK
      · intro vs W hE hd K hK
        have hE' : After w2 W := hself.trans hE
        obtain ⟨s5, e5, g5⟩ : (Sp.res w2.heap.size x bb).p (vs 5) W := hd 5 (by kernel_rfl)
        exact do_rp (v := .bool bb) (Sp.lit (.bool bb)).p (by kernel_rfl) (wanted_of (by kernel_rfl)) (run_ex1 (x := .tmp 27) (u := vs 5) (by kernel_rfl) (by kernel_rfl) e5) (After.refl W) rfl hK
      · intro vs W hE hd K hK
        have hE' : After w2 W := hself.trans hE
        exact do_rp (Sp.cellA w2.heap.size).p (by kernel_rfl) (wanted_of (by kernel_rfl)) (run_alA (by kernel_rfl)) (After.new W _) ⟨_, rfl, hE'.size, heap_new' W _⟩ hK
      · intro vs W hE hd K hK
        have hE' : After w2 W := hself.trans hE
        obtain ⟨s6, e6, g6⟩ : (Sp.asmO w2.heap.size x).p (vs 6) W := hd 6 (by kernel_rfl)
        obtain ⟨bk, e8, h1, h2⟩ : (Sp.cellA w2.heap.size).p (vs 8) W := hd 8 (by kernel_rfl)
        exact do_stA (x := .tmp 6) (y := .tmp 33) (by kernel_rfl) (by kernel_rfl) (by kernel_rfl) (by kernel_rfl) (by kernel_rfl) e8 (by kernel_rfl) e6 g6 h2 (fun W2 h3 h4 h5 => hK undef W2 ⟨bk, s6, e8, h1, h3, h4, Below.trans hE' (h5 (Y := w2) hE'.size h1)⟩)
      · intro i _ _ hf vs W hd K hK
        have : i = 7 := by simpa using hf
        subst this
        obtain ⟨s5, e5⟩ := (hd 5 (by decide) (by kernel_rfl)).1 rfl
        refine op_val (v := .bool bb) (by kernel_rfl) (wanted_of (by kernel_rfl)) (run_ex1 (x := .tmp 27) (u := vs 5) (by kernel_rfl) (by kernel_rfl) e5) (hK _ ⟨fun e => absurd e (by decide), fun _ => rfl⟩)
      · rintro vs W ⟨bk, s, e8, h1, h2, h3, h4⟩ hd K hK
        have e7 := (hd 7 (by decide) (by decide)).2 rfl
        refine op_val (v := vs 7) (w' := W) (by kernel_rfl) (wanted_of (by kernel_rfl)) (by kernel_rfl) (hK _ _ ?_)
        refine hKK _ _ ?_
        rw [frame_ds [some 28, some 29, some 30, some 31, some 32, some 27, some 33, some 34, some 6, none, some 7] (by kernel_rfl), put_dst (d := some 7) (by kernel_rfl), dlit_119_8, e7, e8]
        clear hd hK e7 e8
        generalize vs 0 = y0 at *
        generalize vs 1 = y1 at *
        generalize vs 2 = y2 at *
        generalize vs 3 = y3 at *
        generalize vs 4 = y4 at *
        generalize vs 5 = y5 at *
        generalize vs 6 = y6 at *
        obtain ⟨w4, hw4⟩ : ∃ w4, w4 = W := ⟨_, rfl⟩
        subst hw4
        obtain ⟨ar, cr, er⟩ := h3.form
        rw [← HL.out] at er
        subst er
        have HX := Lib.hid h2
        have HA4 := Lib.hid (After.trans HA2.out h4)
        have HB4 := Lib.hid (After.trans HB2.out h4)
        have HSR := Lib.hid (h3.ssu (Nat.zero_le _))
        obtain ⟨t0, t1, t2⟩ := one_facts HBA.out HB4.out
        have hc3 := HTO1.out w4 HA4.out
        clear h1 h2 h3 h4 hxa hxb hself hKK
        go_wp2_with fail
        refine hc3.mono ?_
        rintro e w5 ⟨s5, rfl, ho5, hb5⟩
        obtain ⟨a5, c5, e5⟩ := ho5.form
        rw [← HN.out] at e5
        subst e5
        have hn5 := After.new w5 (.cells #[.slice a5 n c5] 25)
        have hx5 := heap_new' w5 (.cells #[.slice a5 n c5] 25)
        have HO5 := Lib.hid (ho5.later hn5)
        have HLO5 := Lib.hid (ho5.lo.later ho5 hn5)
        have HX5 := Lib.hid hx5
        have HS5 : Hid (w5.heap.size ≤ (w5.alloc (.cells #[.slice a5 n c5] 25)).heap.size) := hn5.size
        have HB45 := Lib.hid (After.trans hb5 hn5)
        have HA6 := Lib.hid (After.trans HA4.out HB45.out)
        have hc4 := HTO2.out _ HA6.out
        obtain ⟨q0, q1, q2⟩ := one_facts HBB.out (After.trans HB4.out HB45.out)
        clear ho5 hn5 hx5 hc3 t0 t1 t2 hb5
        go_wp2_with fail
        generalize (w5.alloc (.cells #[.slice a5 n c5] 25)) = w6 at *
        generalize w5.heap.size = b8 at *
        refine hc4.mono ?_
        rintro e w7 ⟨s7, rfl, ho7, hb7⟩
        obtain ⟨a7, c7, e7⟩ := ho7.form
        rw [← HM.out] at e7
        subst e7
        have hn7 := After.new w7 (.cells #[.slice a7 m c7] 25)
        have hx7 := heap_new' w7 (.cells #[.slice a7 m c7] 25)
        have HO7 := Lib.hid (ho7.later hn7)
        have HLO7 := Lib.hid (ho7.lo.later ho7 hn7)
        have HX7 := Lib.hid hx7
        have HB67 := Lib.hid (After.trans hb7 hn7)
        have HS7 : Hid (w7.heap.size ≤ (w7.alloc (.cells #[.slice a7 m c7] 25)).heap.size) := hn7.size
        have HA8 := Lib.hid (After.trans HA6.out HB67.out)
        have hc5 := HIP.out _ _ _ (SSU.later (HO5.out.ssu (Nat.zero_le _)) HB67.out) (HO7.out.ssu (Nat.zero_le _))
        obtain ⟨r0, r1, r2⟩ := one_facts HX5.out HB67.out
        obtain ⟨s0, s1, s2⟩ := one_facts hx7 (After.refl _)
        clear ho7 hn7 hx7 hc4 q0 q1 q2 hb7
        go_wp2_with fail
        generalize (w7.alloc (.cells #[.slice a7 m c7] 25)) = w8 at *
        generalize w7.heap.size = b9 at *
        refine hc5.mono ?_
        rintro e w9 ⟨s9, rfl, ho9, hb9⟩
        obtain ⟨a9, c9, e9⟩ := ho9.form
        rw [← HL.out] at e9
        subst e9
        have hn9 := After.new w9 (.cells #[.slice a9 l c9] 25)
        have hx9 := heap_new' w9 (.cells #[.slice a9 l c9] 25)
        have HO9 := Lib.hid (ho9.later hn9)
        have HX9 := Lib.hid hx9
        have HB89 := Lib.hid (After.trans hb9 hn9)
        obtain ⟨t0, t1, t2⟩ := one_facts hx9 (After.refl _)
        obtain ⟨q0, q1, q2⟩ := one_facts HX.out (After.trans HB45.out (After.trans HB67.out HB89.out))
        clear ho9 hn9 hx9 hc5 r0 r1 r2 s0 s1 s2 hb9
        go_wp2_with (go_at_call 27
                     refine (l_eqAsm _ _ _ x (HO9.out.ssu (Nat.zero_le _)) (HSR.out.later (After.trans HB45.out (After.trans HB67.out HB89.out))) HLENS.out).mono ?_
                     rintro e w11 ⟨rfl, hb11⟩)
        generalize (w9.alloc (.cells #[.slice a9 l c9] 25)) = w10 at *
        generalize w9.heap.size = b10 at *
        have HB10 := Lib.hid hb11
        have HAK := Lib.hid (After.trans HA8.out (After.trans HB89.out hb11))
        have x1 : ∀ W, After w11 W → W.cell? ⟨b8, 0, none⟩ = some (.slice a5 n c5) := fun W hW => (one_facts HX5.out (After.trans HB67.out (After.trans HB89.out (After.trans HB10.out hW)))).1
        have x2 : ∀ W, After w11 W → W.cell? ⟨w.heap.size, 0, none⟩ = some (.slice p1 n k1) := fun W hW => (one_facts HBA.out (After.trans HB4.out (After.trans HB45.out (After.trans HB67.out (After.trans HB89.out (After.trans HB10.out hW)))))).1
        have x3 : ∀ W, After w11 W → W.cell? ⟨b9, 0, none⟩ = some (.slice a7 m c7) := fun W hW => (one_facts HX7.out (After.trans HB89.out (After.trans HB10.out hW))).1
        have x4 : ∀ W, After w11 W → W.cell? ⟨w.heap.size + 1, 0, none⟩ = some (.slice p2 m k2) := fun W hW => (one_facts HBB.out (After.trans HB4.out (After.trans HB45.out (After.trans HB67.out (After.trans HB89.out (After.trans HB10.out hW)))))).1
        have HSA := Lib.hid (SSU.later (HO5.out.ssu (Nat.zero_le _)) (After.trans HB67.out (After.trans HB89.out HB10.out)))
        have HSB := Lib.hid (SSU.later (HO7.out.ssu (Nat.zero_le _)) (After.trans HB89.out HB10.out))
        have hself := After.refl w11
        clear hb11 t0 t1 t2 q0 q1 q2
        go_wp2_with fail
        go_region_held3 (fun W' => After w11 W') (first | assumption | exact hself.drew | go_keep)
          (first
            | (go_at_call 25
               have hd := hself.drew
               refine (HTO1.out _ (After.trans HAK.out (by first | assumption | exact hself.drew))).mono ?_
               rintro e w12 ⟨s12, rfl, ho12, hb12⟩
               have hs12 := ho12.ssu (Nat.zero_le _)
               obtain ⟨a12, c12, e12⟩ := hs12.form
               subst e12
               have hb12' := After.trans (by first | assumption | exact hself.drew) hb12
               have HS12 := Lib.hid hs12
               clear hs12 ho12 hd)
            | (go_at_call 27
               refine (l_eqAsm _ _ _ a (HSA.out.later hb12') HS12.out (lens_big HLA.out.1)).mono ?_
               rintro e w13 ⟨rfl, hb13⟩
               have hb13' := After.trans hb12' hb13))
        all_goals
          trace "G1"
          go_wp2_with fail
          have hself := hb13'
          clear hb12 hb13 hb12' hb13' HS12 x1 x2
          go_region_held3 (fun W' => After w11 W') (first | assumption | exact hself.drew | go_keep)
            (first
              | (go_at_call 25
                 have hd := hself.drew
                 refine (HTO2.out _ (After.trans HAK.out (by first | assumption | exact hself.drew))).mono ?_
                 rintro e w12 ⟨s12, rfl, ho12, hb12⟩
                 have hs12 := ho12.ssu (Nat.zero_le _)
                 obtain ⟨a12, c12, e12⟩ := hs12.form
                 subst e12
                 have hb12' := After.trans (by first | assumption | exact hself.drew) hb12
                 have HS12 := Lib.hid hs12
                 clear hs12 ho12 hd)
              | (go_at_call 27
                 refine (l_eqAsm _ _ _ b (HSB.out.later hb12') HS12.out (lens_big HLB.out.1)).mono ?_
                 rintro e w13 ⟨rfl, hb13⟩
                 have hb13' := After.trans hb12' hb13))
          all_goals
            have HB13 := Lib.hid hb13'
            have HD := Lib.hid (After.trans HB89.out (After.trans HB10.out HB13.out))
            have HE := Lib.hid (After.trans HB67.out HD.out)
            have HF := Lib.hid (After.trans HB45.out HE.out)
            clear hb12 hb13 hb12' HS12 x3 x4 hb13' hself
            have hla := HLA.out.1.1
            have hlb := HLB.out.1.1
            have hoff2 := HOFF2.out
            obtain ⟨ka, hka⟩ : ∃ ka, ka = 1 + offA a n := ⟨_, rfl⟩
            obtain ⟨kb, hkb⟩ : ∃ kb, kb = ka + offA b m := ⟨_, rfl⟩
            obtain ⟨t0, t1, t2⟩ := one_facts HX5.out HE.out
            have hm1 := l_markAsmH w13 w4.heap.size _ a 1 b8 (HLO5.out.later HO5.out HE.out) (HO5.out.later HE.out) HF.out.size (by decide) (by rw [← HN.out]; omega) (by omega)
            rw [← HN.out, ← hka] at hm1
            have hm2 := fun W h1 h2 h3 => l_markAsmH W w6.heap.size (.slice a7 m c7) b ka b9 h1 h2 h3 (by omega) (by rw [← HM.out]; omega) (by omega)
            rw [← HM.out, ← hkb] at hm2
            have HM2 := Lib.hid hm2
            have hka0 : (0 : Int) ≤ (ka : Int) := by omega
            have hkb0 : (0 : Int) ≤ (kb : Int) := by omega
            clear hm2 hla hlb hoff2 hka hkb
            go_wp2_with fail
            refine hm1.mono ?_
            rintro e w14 ⟨rfl, _, hb14, hk14, hf14⟩
            have ho7 := HO7.out.later HD.out
            have hx7 := hk14 _ _ _ _ (by decide) (HD.out.heap HX7.out)
            have hx9 := hk14 _ _ _ _ (by decide) ((After.trans HB10.out HB13.out).heap HX9.out)
            have ho9 := (HO9.out.later (After.trans HB10.out HB13.out)).hi hf14 (Nat.le_trans HS5.out HB67.out.size)
            have HFa := Lib.hid (Below.trans HF.out hb14)
            have hlo7 := RowsLo.hi (HLO7.out.later HO7.out HD.out) ho7 hf14 HS5.out
            rw [← HM.out] at hlo7
            have hm2 := HM2.out w14 hlo7 (ho7.hi hf14 HS5.out) (Nat.le_trans HE.out.size hb14.size)
            obtain ⟨q0, q1, q2⟩ := one_facts hx7 (After.refl _)
            have HX9a := Lib.hid hx9
            have HO9a := Lib.hid ho9
            have HSZ := Lib.hid (Nat.le_trans HD.out.size hb14.size)
            clear hm1 hb14 hk14 hf14 ho7 hx7 hx9 ho9 hlo7 t0 t1 t2
            go_wp2_with fail
            refine hm2.mono ?_
            rintro e w15 ⟨rfl, _, hb15, hk15, hf15⟩
            have hx9 := hk15 _ _ _ _ (by decide) HX9a.out
            have HO9b := Lib.hid (HO9a.out.hi hf15 HS7.out)
            have HFb := Lib.hid (Below.trans HFa.out (hb15.mono HB45.out.size))
            have HSZb := Lib.hid (Nat.le_trans HSZ.out hb15.size)
            have HX9b := Lib.hid hx9
            obtain ⟨t0, t1, t2⟩ := one_facts hx9 (After.refl _)
            obtain ⟨r0, r1, r2⟩ := one_facts HX.out HFb.out
            clear hm2 hb15 hk15 hf15 hx9 q0 q1 q2 HM2
            obtain ⟨kx, hkx⟩ : ∃ kx, kx = 1 + offA x l := ⟨_, rfl⟩
            have hkx0 : (0 : Int) ≤ (kx : Int) := by omega
            have HKX := Lib.hid hkx
            clear hkx
            go_wp2_with (go_at_call 27
                         refine (l_eqAsm _ _ _ x (HO9b.out.ssu (Nat.zero_le _)) (HSR.out.later HFb.out) HLENS.out).mono ?_
                         rintro e w16 ⟨rfl, hb16⟩
                         obtain ⟨q0, q1, q2⟩ := one_facts HX9b.out hb16)
            have hmk := l_markAsm w16 w8.heap.size _ x 1 (HO9b.out.later hb16) (Nat.le_trans HSZb.out hb16.size) (by decide) HOFF.out HLX.out
            rw [← HL.out, ← HKX.out] at hmk
            have HB16 := Lib.hid hb16
            clear t0 t1 t2 r0 r1 r2 hb16
            go_wp2_with fail
            refine hmk.mono ?_
            rintro e w17 ⟨rfl, hm17, hb17, hk17⟩
            have hx17 := hk17 _ _ _ _ (by decide) (HB16.out.heap HX9b.out)
            have HX17 := Lib.hid hx17
            have HM17 := Lib.hid (hm17.ssu (Nat.zero_le _))
            have HF17 := Lib.hid (Below.trans (After.trans HFb.out HB16.out) (hb17.mono (After.trans HB45.out HB67.out).size))
            have hhd := fun W (hW : After w17 W) => l_heldAsm W (.slice a9 l c9) x 1 (by rw [← HL.out]; exact SSU.later HM17.out hW) (by decide) HOFF.out HLX.out
            rw [← HL.out, ← HKX.out] at hhd
            have HHD := Lib.hid hhd
            have hh17 := HHD.out _ (After.refl _)
            obtain ⟨t0, t1, t2⟩ := one_facts hx17 (After.refl _)
            clear hmk hx17 hm17 hb17 hk17 hhd q0 q1 q2
            go_wp2_with fail
            refine hh17.mono ?_
            rintro e w18 ⟨rfl, hb18⟩
            have HB18 := Lib.hid hb18
            have HF18 := Lib.hid (After.trans HF17.out hb18)
            have HA18 := Lib.hid (After.trans HA4.out HF18.out)
            have hxa : ∀ W, After w18 W → W.cell? ⟨w.heap.size, 0, none⟩ = some (.slice p1 n k1) := fun W hW => (one_facts HBA.out (After.trans HB4.out (After.trans HF18.out hW))).1
            have hxb : ∀ W, After w18 W → W.cell? ⟨w.heap.size + 1, 0, none⟩ = some (.slice p2 m k2) := fun W hW => (one_facts HBB.out (After.trans HB4.out (After.trans HF18.out hW))).1
            have HTA : Hid (∀ W, After w18 W → Calls Tryz.prog 25 #[.agg #[.slice p1 n k1]] W fun e w' => ∃ v, e = .returned v ∧ After W w' ∧ (Sp.asm a).p v w') := fun W hW => (HTO1.out W (HA18.out.trans hW)).mono fun e w' ⟨v, he, ho, hA⟩ => ⟨_, he, hA, v, rfl, ho.ssu (Nat.zero_le _)⟩
            have HTB : Hid (∀ W, After w18 W → Calls Tryz.prog 25 #[.agg #[.slice p2 m k2]] W fun e w' => ∃ v, e = .returned v ∧ After W w' ∧ (Sp.asm b).p v w') := fun W hW => (HTO2.out W (HA18.out.trans hW)).mono fun e w' ⟨v, he, ho, hA⟩ => ⟨_, he, hA, v, rfl, ho.ssu (Nat.zero_le _)⟩
            have hself := (After.refl w18).drew
            clear hh17 hb18 t0 t1 t2
            go_wp2_with fail
            rename_i KK hKK
            refine wp_region_mid (n := 10) (p := 9) (by kernel_rfl) (by kernel_rfl) (by decide) (by kernel_rfl) (by kernel_rfl) (by kernel_rfl) After After.refl (fun _ _ _ h g => h.trans g)
              (rl [Sp.lit (.agg #[.slice p1 n k1]), Sp.asm a, Sp.lit (.agg #[.slice p2 m k2]), Sp.asm b, Sp.res w18.heap.size x bb, Sp.res w18.heap.size x bb, Sp.asmO w18.heap.size x, Sp.lit (.bool bb), Sp.cellA w18.heap.size, Sp.free]) rl_later (fun i => i == 7) (by kernel_rfl)
              (fun i v => (i = 5 → ∃ s, v = .tuple #[.agg #[s], .bool bb]) ∧ (i = 7 → v = .bool bb)) ?_ (fun vs W => ∃ bk s, vs 8 = .pointer (some ⟨bk, 0, none⟩) ∧ w18.heap.size ≤ bk ∧ W.heap[bk]? = some (.cells #[s] 25 (0, 0)) ∧ OwnSS W w18.heap.size s x ∧ After w18 W) ?_ (lt10n9 ?_ ?_ ?_ ?_ ?_ ?_ ?_ ?_ ?_) ?_ ?_ ?_
            · intro i v W _ _ hr
              refine ⟨fun e => ?_, fun e => ?_⟩
              · subst e
                obtain ⟨s, e, _⟩ := hr
                exact ⟨s, e⟩
              · subst e
                exact hr
            · rintro vs W i v hf ⟨bk, s, e8, h1, h2, h3, h4⟩
              have : i = 7 := by simpa using hf
              subst this
              exact ⟨bk, s, e8, h1, h2, h3, h4⟩
            · intro vs W hE hd K hK
              have hE' : After w18 W := hself.trans hE
              exact do_rp (v := .agg #[.slice p1 n k1]) (Sp.lit (.agg #[.slice p1 n k1])).p (by kernel_rfl) (wanted_of (by kernel_rfl)) (run_lda (x := .tmp 2) (by kernel_rfl) (by kernel_rfl) (hxa W hE')) (After.refl W) rfl hK
            · intro vs W hE hd K hK
              have hE' : After w18 W := hself.trans hE
              exact do_cp (Sp.asm a).p (by kernel_rfl) (wanted_of (by kernel_rfl)) (f := 25) (args := #[vs 0]) (by kernel_rfl) (by rw [show vs 0 = .agg #[.slice p1 n k1] from hd 0 (by kernel_rfl)]; exact HTA.out W hE') hK
            · intro vs W hE hd K hK
              have hE' : After w18 W := hself.trans hE
              exact do_rp (v := .agg #[.slice p2 m k2]) (Sp.lit (.agg #[.slice p2 m k2])).p (by kernel_rfl) (wanted_of (by kernel_rfl)) (run_lda (x := .tmp 3) (by kernel_rfl) (by kernel_rfl) (hxb W hE')) (After.refl W) rfl hK
            · intro vs W hE hd K hK
              have hE' : After w18 W := hself.trans hE
              exact do_cp (Sp.asm b).p (by kernel_rfl) (wanted_of (by kernel_rfl)) (f := 25) (args := #[vs 2]) (by kernel_rfl) (by rw [show vs 2 = .agg #[.slice p2 m k2] from hd 2 (by kernel_rfl)]; exact HTB.out W hE') hK
            · intro vs W hE hd K hK
              have hE' : After w18 W := hself.trans hE
              obtain ⟨t1, e1, g1⟩ : (Sp.asm a).p (vs 1) W := hd 1 (by kernel_rfl)
              obtain ⟨t2, e2, g2⟩ : (Sp.asm b).p (vs 3) W := hd 3 (by kernel_rfl)
              exact do_cp (Sp.res w18.heap.size x bb).p (by kernel_rfl) (wanted_of (by kernel_rfl)) (f := 32) (args := #[vs 1, vs 3]) (by kernel_rfl) (by rw [e1, e2]; exact (HIP.out W t1 t2 g1 g2).mono fun e w' ⟨v, he, ho, ha⟩ => ⟨_, he, ha, v, rfl, own_less' ho hE'.size⟩) hK
            · intro vs W hE hd K hK
              have hE' : After w18 W := hself.trans hE
              exact do_rp (v := vs 4) (Sp.res w18.heap.size x bb).p (by kernel_rfl) (wanted_of (by kernel_rfl)) (by kernel_rfl) (After.refl W) (hd 4 (by kernel_rfl)) hK
            · intro vs W hE hd K hK
              have hE' : After w18 W := hself.trans hE
              obtain ⟨s5, e5, g5⟩ : (Sp.res w18.heap.size x bb).p (vs 5) W := hd 5 (by kernel_rfl)
              exact do_rp (v := .agg #[s5]) (Sp.asmO w18.heap.size x).p (by kernel_rfl) (wanted_of (by kernel_rfl)) (run_ex0 (x := .tmp 94) (u := vs 5) (by kernel_rfl) (by kernel_rfl) e5) (After.refl W) ⟨_, rfl, g5⟩ hK
            · intro vs W hE hd K hK
              have hE' : After w18 W := hself.trans hE
              obtain ⟨s5, e5, g5⟩ : (Sp.res w18.heap.size x bb).p (vs 5) W := hd 5 (by kernel_rfl)
              exact do_rp (v := .bool bb) (Sp.lit (.bool bb)).p (by kernel_rfl) (wanted_of (by kernel_rfl)) (run_ex1 (x := .tmp 94) (u := vs 5) (by kernel_rfl) (by kernel_rfl) e5) (After.refl W) rfl hK
            · intro vs W hE hd K hK
              have hE' : After w18 W := hself.trans hE
              exact do_rp (Sp.cellA w18.heap.size).p (by kernel_rfl) (wanted_of (by kernel_rfl)) (run_alA (by kernel_rfl)) (After.new W _) ⟨_, rfl, hE'.size, heap_new' W _⟩ hK
            · intro vs W hE hd K hK
              have hE' : After w18 W := hself.trans hE
              obtain ⟨s6, e6, g6⟩ : (Sp.asmO w18.heap.size x).p (vs 6) W := hd 6 (by kernel_rfl)
              obtain ⟨bk, e8, h1, h2⟩ : (Sp.cellA w18.heap.size).p (vs 8) W := hd 8 (by kernel_rfl)
              exact do_stA (x := .tmp 15) (y := .tmp 100) (by kernel_rfl) (by kernel_rfl) (by kernel_rfl) (by kernel_rfl) (by kernel_rfl) e8 (by kernel_rfl) e6 g6 h2 (fun W2 h3 h4 h5 => hK undef W2 ⟨bk, s6, e8, h1, h3, h4, Below.trans hE' (h5 (Y := w18) hE'.size h1)⟩)
            · intro i _ _ hf vs W hd K hK
              have : i = 7 := by simpa using hf
              subst this
              obtain ⟨s5, e5⟩ := (hd 5 (by decide) (by kernel_rfl)).1 rfl
              refine op_val (v := .bool bb) (by kernel_rfl) (wanted_of (by kernel_rfl)) (run_ex1 (x := .tmp 94) (u := vs 5) (by kernel_rfl) (by kernel_rfl) e5) (hK _ ⟨fun e => absurd e (by decide), fun _ => rfl⟩)
            · rintro vs W ⟨bk, s, e8, h1, h2, h3, h4⟩ hd K hK
              have e7 := (hd 7 (by decide) (by decide)).2 rfl
              refine op_val (v := vs 7) (w' := W) (by kernel_rfl) (wanted_of (by kernel_rfl)) (by kernel_rfl) (hK _ _ ?_)
              refine hKK _ _ ?_
              rw [frame_ds [some 95, some 96, some 97, some 98, some 99, some 94, some 100, some 101, some 15, none, some 16] (by kernel_rfl), put_dst (d := some 16) (by kernel_rfl), dlit_119_31, e7, e8]
              clear hd hK e7 e8
              generalize vs 0 = y0 at *
              generalize vs 1 = y1 at *
              generalize vs 2 = y2 at *
              generalize vs 3 = y3 at *
              generalize vs 4 = y4 at *
              generalize vs 5 = y5 at *
              generalize vs 6 = y6 at *
              obtain ⟨ar2, cr2, er2⟩ := h3.form
              rw [← HL.out] at er2
              subst er2
              have HA20 := Lib.hid (After.trans HA18.out h4)
              have HF20 := Lib.hid (After.trans HF18.out h4)
              have HB20 := Lib.hid (After.trans HB18.out h4)
              have HS20 := Lib.hid (h3.ssu (Nat.zero_le _))
              obtain ⟨t0, t1, t2⟩ := one_facts h2 (After.refl _)
              obtain ⟨q0, q1, q2⟩ := one_facts HX.out HF20.out
              clear h1 h2 h3 h4 hxa hxb hself hKK
              go_wp2_with (go_at_call 27
                           refine (l_eqAsm _ _ _ x HS20.out (HSR.out.later HF20.out) HLENS.out).mono ?_
                           rintro e w21 ⟨rfl, hb21⟩
                           obtain ⟨f0, f1, f2⟩ := one_facts HX17.out (After.trans HB20.out hb21)
                           have hh21 := HHD.out _ (After.trans HB20.out hb21))
              go_wp2_with (go_at_call 30; refine hh21.mono ?_; rintro e w22 ⟨rfl, hb22⟩)
              go_ret
              exact ⟨rfl, After.trans HA20.out (After.trans hb21 hb22)⟩
end Go.Proofs.YtfeeegnkmojpeaaGreat
