/-
  The model's AssemblyPair.
-/
import Derived.Test.YtidpkmkhcomcdaaGreatPkJ
import Derived.Test.YtidpkmkhcomcdaaGreatSPairT
import Derived.Test.YtidpkmkhcomcdaaGreatPkL
namespace Go.Proofs.YtidpkmkhcomcdaaGreat
open Go.RowKit

set_option maxHeartbeats 2000000
set_option maxRecDepth 100000

section
variable {ops : Array Oper} {A : Act} {i : Nat} {w : World}
theorem run_ixss {x y : Operand} {u u' : Value} {b off n cap k : Nat} (hop : (opAt ops i).op = .indexAddr 24 x y) (hx : A.eval x = u) (hu : u = .slice (some ⟨b, off, none⟩) n cap) (hy : A.eval y = u') (hu' : u' = .int .i64 k) (hk : k < n) :
    (execOp A.eval (opAt ops i)).run Tryz.prog w = .ok (.value (.pointer (some ⟨b, off + k, none⟩))) w := by
  subst hu hu'
  have hk' : (k : Int) < (n : Int) := by omega
  unfold execOp
  simp only [hop, hx, hy]
  simp [go_sem, hk']
theorem run_ldr {x : Operand} {u : Value} {p : Addr} {v : Value} (hop : (opAt ops i).op = .load 40 x) (hx : A.eval x = u) (hu : u = .pointer (some p)) (hc : w.cell? p = some v) :
    (execOp A.eval (opAt ops i)).run Tryz.prog w = .ok (.value v) w := by
  subst hu
  unfold execOp
  simp only [hop, hx]
  simp [go_sem, hc]
end

theorem lens_big {a : List (List (List UInt8))} (h : Lens 1048576 a) : Lens 1000000000 a := ⟨by have := h.1; omega, fun ns hs => ⟨by have := (h.2 ns hs).1; omega, fun s hh => by have := (h.2 ns hs).2 s hh; omega⟩⟩

theorem lit2_55_34_16 {x0 x1 x2 x3 x4 x5 x6 x7 x8 x9 x10 x11 x12 x13 x14 x15 x16 x17 x18 x19 x20 x21 x22 x23 x24 x25 x26 x27 x28 x29 x30 x31 x32 x33 x34 x35 x36 x37 x38 x39 x40 x41 x42 x43 x44 x45 x46 x47 x48 x49 x50 x51 x52 x53 x54 u u' : Value} {d : List Deferred} {vs : Nat → Value} : ((putFrom ⟨#[x0, x1, x2, x3, x4, x5, x6, x7, x8, x9, x10, x11, x12, x13, x14, x15, x16, x17, x18, x19, x20, x21, x22, x23, x24, x25, x26, x27, x28, x29, x30, x31, x32, x33, x34, x35, x36, x37, x38, x39, x40, x41, x42, x43, x44, x45, x46, x47, x48, x49, x50, x51, x52, x53, x54], d⟩ 34 vs 16).put (some 48) u).put (some 49) u' = ⟨#[x0, x1, x2, x3, x4, x5, x6, x7, x8, x9, x10, x11, x12, x13, x14, x15, x16, x17, x18, x19, x20, x21, x22, x23, x24, x25, x26, x27, x28, x29, x30, x31, x32, x33, vs 0, vs 1, vs 2, vs 3, vs 4, vs 5, vs 6, vs 7, vs 8, vs 9, vs 10, vs 11, vs 12, vs 13, u, u', x50, x51, x52, x53, x54], d⟩ := by kernel_rfl

theorem spec_pairA (w : World) (s1 s2 : Value) (a b : List (List (List UInt8))) (h1 : SSU 0 w s1 a) (h2 : SSU 0 w s2 b) (hl1 : Lens 1048576 a) (hl2 : Lens 1048576 b) :
    Calls Tryz.prog 17 #[.agg #[s1], .agg #[s2]] w (AsmOwn w (Asm.pPairA a b)) := by
  have hv1 := fun W (hW : After w W) => s_asmValid W s1 a (h1.later hW) hl1
  have hv2 := fun W (hW : After w W) => s_asmValid W s2 b (h2.later hW) hl2
  obtain ⟨fa, ⟨p1, k1, rfl, hca⟩, hfa⟩ := h1
  obtain ⟨fb, ⟨p2, k2, rfl, hcb⟩, hfb⟩ := h2
  obtain ⟨os, hos⟩ : ∃ os : List Obj, os = [.cells #[.slice p1 a.length k1] 26, .cells #[.slice p2 b.length k2] 26, .cells #[.slice none 0 0] 26] := ⟨_, rfl⟩
  have hX : allocL w os = ((w.alloc (.cells #[.slice p1 a.length k1] 26)).alloc (.cells #[.slice p2 b.length k2] 26)).alloc (.cells #[.slice none 0 0] 26) := by rw [hos]; rfl
  have hA0 : After w (allocL w os) := allocL_below w os
  have hx0 : (allocL w os).heap[w.heap.size]? = some (.cells #[.slice p1 a.length k1] 26 (0, 0)) := by have := allocL_heap w os 0 (by rw [hos]; simp); simpa [hos] using this
  have hx1 : (allocL w os).heap[w.heap.size + 1]? = some (.cells #[.slice p2 b.length k2] 26 (0, 0)) := by have := allocL_heap w os 1 (by rw [hos]; simp); simpa [hos] using this
  have hr0 : (allocL w os).heap[w.heap.size + 1 + 1]? = some (.cells #[.slice none 0 0] 26 (0, 0)) := by have := allocL_heap w os 2 (by rw [hos]; simp); simpa [hos] using this
  have hs3 : (allocL w os).heap.size = w.heap.size + 1 + 1 + 1 := by rw [hX]; simp
  rw [hX] at hA0 hx0 hx1 hr0 hs3
  obtain ⟨w3, hw3⟩ : ∃ w3, w3 = ((w.alloc (.cells #[.slice p1 a.length k1] 26)).alloc (.cells #[.slice p2 b.length k2] 26)).alloc (.cells #[.slice none 0 0] 26) := ⟨_, rfl⟩
  rw [← hw3] at hA0 hx0 hx1 hr0 hs3
  have hA4 : After w3 ((w3.alloc (.cells #[] 40)).alloc (.cells #[.slice (some ⟨w.heap.size + 1 + 1 + 1, 0, none⟩) 0 0] 26)) := (After.new _ _).alloc _
  have he0 := heap_old2 w3 (.cells #[] 40) (.cells #[.slice (some ⟨w.heap.size + 1 + 1 + 1, 0, none⟩) 0 0] 26)
  have hb0 := heap_new2 w3 w3.heap.size (.cells #[] 40) (.cells #[.slice (some ⟨w.heap.size + 1 + 1 + 1, 0, none⟩) 0 0] 26) rfl
  rw [hs3] at he0 hb0
  have ho0 := OwnSS.empty (base := w.heap.size + 1 + 1 + 1) he0 (Nat.le_refl _)
  have hc := hv1 _ (hA0.trans hA4)
  have HV2 := Lib.hid hv2
  have HA0 := Lib.hid hA0
  have HXA := Lib.hid hx0
  have HXB := Lib.hid hx1
  have HR0 := Lib.hid hr0
  have HS3 := Lib.hid hs3
  have HA4 := Lib.hid hA4
  have HB0 := Lib.hid hb0
  have HO0 := Lib.hid ho0
  obtain ⟨t0, t1, t2⟩ := one_facts hx0 hA4
  clear hv1 hv2 hA0 hx0 hx1 hr0 hs3 hA4 he0 hb0 ho0 hX hos
  cases hoa : Asm.ok a with
  | false =>
    rw [show Asm.pPairA a b = none by unfold Asm.pPairA; rw [hoa]; rfl]
    rw [hoa] at hc
    clear hoa hca hcb hfa hfb
    generalize a.length = n at *
    generalize b.length = m at *
    go_enter Tryz.func17, Tryz.ntmps17
    go_wp2_with fail
    rw [← hw3]
    clear hw3
    refine hc.mono ?_
    rintro e w1 ⟨rfl, hb1⟩
    obtain ⟨r0, r1, r2⟩ := one_facts HR0.out (HA4.out.trans hb1)
    clear hc t0 t1 t2
    go_wp2_with fail
    refine bodyPost_ret (v := .tuple #[.agg #[.slice none 0 0], .bool false]) (by simp [results, Tryz.results17, go_sem, r0]) rfl ⟨_, rfl, OwnSS.nil _ _, ?_⟩
    exact Below.setCell (HA0.out.trans (HA4.out.trans hb1)) (by show w.heap.size ≤ w.heap.size + 1 + 1; omega) _
  | true =>
    rw [hoa] at hc
    cases hob : Asm.ok b with
    | false =>
      rw [show Asm.pPairA a b = none by unfold Asm.pPairA; rw [hoa, hob]; rfl]
      rw [hob] at HV2
      clear hoa hob hca hcb hfa hfb
      generalize a.length = n at *
      generalize b.length = m at *
      go_enter Tryz.func17, Tryz.ntmps17
      go_wp2_with fail
      rw [← hw3]
      clear hw3
      refine hc.mono ?_
      rintro e w1 ⟨rfl, hb1⟩
      have hA5 := HA4.out.trans hb1
      obtain ⟨u0, u1, u2⟩ := one_facts HXB.out hA5
      have hd := HV2.out w1 (HA0.out.trans hA5)
      clear hc t0 t1 t2
      go_wp2_with fail
      refine hd.mono ?_
      rintro e w2 ⟨rfl, hb2⟩
      obtain ⟨r0, r1, r2⟩ := one_facts HR0.out (hA5.trans hb2)
      clear hd u0 u1 u2
      go_wp2_with fail
      refine bodyPost_ret (v := .tuple #[.agg #[.slice none 0 0], .bool false]) (by simp [results, Tryz.results17, go_sem, r0]) rfl ⟨_, rfl, OwnSS.nil _ _, ?_⟩
      exact Below.setCell (HA0.out.trans (hA5.trans hb2)) (by show w.heap.size ≤ w.heap.size + 1 + 1; omega) _
    | true =>
      obtain ⟨a1, a2, a3⟩ := Asm.ok_facts hoa
      obtain ⟨b1, b2, b3⟩ := Asm.ok_facts hob
      have hlens := Asm.pairA_lens hoa hob
      have hval := fun W sv (h : SSU 0 W sv (Asm.pairA a b)) => s_asmValid W sv (Asm.pairA a b) h ⟨by have := hlens.1; omega, fun ns hs => ⟨by have := (hlens.2 ns hs).1; omega, fun s h => by have := (hlens.2 ns hs).2 s h; omega⟩⟩
      rw [show Asm.pPairA a b = if Asm.ok (Asm.pairA a b) = true then some (Asm.pairA a b) else none by unfold Asm.pPairA; rw [hoa, hob]; rfl]
      have hfin : ∀ W sv, OwnSS W w.heap.size sv (Asm.pairA a b) → After w W → AsmOwn w (if Asm.ok (Asm.pairA a b) = true then some (Asm.pairA a b) else none) (.returned (.tuple #[.agg #[if Asm.ok (Asm.pairA a b) = true then sv else .slice none 0 0], .bool (Asm.ok (Asm.pairA a b))])) W := fun W sv ho hA => by
        cases Asm.ok (Asm.pairA a b) with
        | true => exact ⟨_, rfl, ho, hA⟩
        | false => exact ⟨_, rfl, OwnSS.nil _ _, hA⟩
      generalize (if Asm.ok (Asm.pairA a b) = true then some (Asm.pairA a b) else none) = R at hfin ⊢
      have hrow := fun i j hj => prd_row Asm.prs [] [] a b i j hj
      have hnext := prd_next Asm.prs [] a b
      have hlen : ∀ i j, i ≤ a.length → j ≤ b.length → (prd Asm.prs (a.take i) b ++ (b.take j).map (Asm.prs (a.getD i []))).length ≤ 1000 := fun i j hi hj => by
        rw [List.length_append, prd_len, List.length_map, List.length_take, List.length_take]
        have : min i a.length * b.length ≤ 6 * 6 := Nat.mul_le_mul (by omega) b1
        omega
      have hend : prd Asm.prs (a.take a.length) b = Asm.pairA a b := by rw [List.take_length]; rfl
      have hcA : ∀ i, i < a.length → ∃ ga oa, p1 = some ⟨ga, oa, none⟩ ∧ w.cell? ⟨ga, oa + i, none⟩ = some (fa i) ∧ (∃ ao' n' c', fa i = .slice ao' n' c') ∧ StrsU 0 w (fa i) (a.getD i []) ∧ ∀ k, k < (a.getD i []).length → ((a.getD i []).getD k []).length ≤ 1048576 := fun i hi => by
        obtain ⟨g, o, e, _, q⟩ := hca i hi
        obtain ⟨ao', c', e', _⟩ := hfa i hi
        refine ⟨g, o, e, q, ⟨_, _, _, e'⟩, hfa i hi, fun k hk => ?_⟩
        exact (hl1.2 _ (gd_mem hi)).2 _ (gd_mem hk)
      have hcB : ∀ i, i < b.length → ∃ ga oa, p2 = some ⟨ga, oa, none⟩ ∧ w.cell? ⟨ga, oa + i, none⟩ = some (fb i) ∧ (∃ ao' n' c', fb i = .slice ao' n' c') ∧ StrsU 0 w (fb i) (b.getD i []) ∧ ∀ k, k < (b.getD i []).length → ((b.getD i []).getD k []).length ≤ 1048576 := fun i hi => by
        obtain ⟨g, o, e, _, q⟩ := hcb i hi
        obtain ⟨ao', c', e', _⟩ := hfb i hi
        refine ⟨g, o, e, q, ⟨_, _, _, e'⟩, hfb i hi, fun k hk => ?_⟩
        exact (hl2.2 _ (gd_mem hi)).2 _ (gd_mem hk)
      rw [hob] at HV2
      clear hoa hob hlens hca hcb hfa hfb
      obtain ⟨n, hn⟩ : ∃ n, n = a.length := ⟨_, rfl⟩
      obtain ⟨m, hm⟩ : ∃ m, m = b.length := ⟨_, rfl⟩
      rw [← hn] at hw3 hc HXA hcA hnext hlen hend a1 a2 a3 t0 ⊢
      rw [← hm] at hw3 HV2 HXB hcB hrow hnext hlen b1 b2 b3 ⊢
      have HROW := Lib.hid hrow
      have HNEXT := Lib.hid hnext
      have HLEN := Lib.hid hlen
      have HEND := Lib.hid hend
      have HVAL := Lib.hid hval
      have HFIN := Lib.hid hfin
      have HA2 := Lib.hid a2
      have HB2 := Lib.hid b2
      have HA3 := Lib.hid a3
      have HB3 := Lib.hid b3
      have HCA := Lib.hid hcA
      have HCB := Lib.hid hcB
      have HMM := Lib.hid hm
      clear hrow hnext hlen hend hval hfin a2 a3 b2 b3 hl1 hl2 hn hm hcA hcB
      go_enter Tryz.func17, Tryz.ntmps17
      go_wp2_with fail
      rw [← hw3]
      clear hw3
      refine hc.mono ?_
      rintro e w1 ⟨rfl, hb1⟩
      have hA5 := HA4.out.trans hb1
      obtain ⟨u0, u1, u2⟩ := one_facts HXB.out hA5
      have hd := HV2.out w1 (HA0.out.trans hA5)
      clear hc t0 t1 t2
      go_wp2_with fail
      refine hd.mono ?_
      rintro e w2 ⟨rfl, hb2⟩
      have HA3W := Lib.hid (hA5.trans hb2)
      have HBOXS : Hid (w2.heap[w.heap.size + 1 + 1 + 1 + 1]? = some (.cells #[.slice (some ⟨w.heap.size + 1 + 1 + 1, 0, none⟩) 0 0] 26 (0, 0))) := (hb1.trans hb2).heap HB0.out
      have HSTART : Hid (OwnSS w2 (w.heap.size + 1 + 1 + 1) (.slice (some ⟨w.heap.size + 1 + 1 + 1, 0, none⟩) 0 0) (prd Asm.prs (a.take 0) b)) := by show OwnSS _ _ _ _; exact HO0.out.later (hb1.trans hb2)
      clear hd u0 u1 u2 hA5 HA4 HB0 HO0
      go_wp2_with fail
      obtain ⟨qa, hqa⟩ : ∃ q, q = w.heap.size := ⟨_, rfl⟩
      obtain ⟨qb, hqb⟩ : ∃ q, q = qa + 1 := ⟨_, rfl⟩
      obtain ⟨qr, hqr⟩ : ∃ q, q = qb + 1 := ⟨_, rfl⟩
      obtain ⟨base, hbs⟩ : ∃ q, q = qr + 1 := ⟨_, rfl⟩
      obtain ⟨q, hq⟩ : ∃ q, q = base + 1 := ⟨_, rfl⟩
      simp only [← hqa, ← hqb, ← hqr, ← hbs, ← hq] at HXA HXB HR0 HS3 HBOXS HSTART ⊢
      have HQA := Lib.hid hqa
      have HQB := Lib.hid hqb
      have HQR := Lib.hid hqr
      have HBS := Lib.hid hbs
      have HQ := Lib.hid hq
      clear hqa hqb hqr hbs hq
      go_loopw [7] (fun i wr => ∃ (k : Nat) (sv : Value), i = .int .i64 k ∧ k ≤ n ∧ Hid (wr.heap[q]? = some (.cells #[sv] 26 (0, 0))) ∧ Hid (OwnSS wr base sv (prd Asm.prs (a.take k) b)) ∧ Hid (After w3 wr)) (fun i _ => n - (intOf i).toNat)
      case atStart => exact ⟨0, _, rfl, Nat.zero_le _, HBOXS, HSTART, HA3W⟩
      case round =>
        obtain ⟨i, sv0, rfl, hi, HBOX0, HOWN0, HA30⟩ := hrel
        obtain ⟨t0, t1, t2⟩ := one_facts HXA.out HA30.out
        clear HSTART HBOXS
        by_cases hlt : i < n
        · obtain ⟨ga, oa, rfl, q1, ⟨ae, ne, ce, e1⟩, q2, hlx⟩ := HCA.out i hlt
          rw [e1] at q1 q2
          have Q1 : Hid (∀ W, After w3 W → W.cell? ⟨ga, oa + i, none⟩ = some (.slice ae ne ce)) := fun W hW => (HA0.out.trans hW).cell q1
          have hlt' : (i : Int) < (n : Int) := by omega
          have hle4 := HA2.out i hlt
          have hrz := fun k hk => HA3.out i k hlt hk
          have hrowi := fun j hj => HROW.out i j hj
          have hnxt := HNEXT.out i hlt
          have hlni := fun j hj => HLEN.out i j hi hj
          obtain ⟨xs, hxs⟩ : ∃ xs, xs = a.getD i [] := ⟨_, rfl⟩
          rw [← hxs] at q2 hle4 hrowi hnxt hlni hrz hlx
          have HE1 := Lib.hid q2
          have HRZ := Lib.hid hrz
          have HLX := Lib.hid hlx
          have HROWI := Lib.hid hrowi
          have HNXT := Lib.hid hnxt
          have HLNI := Lib.hid hlni
          obtain ⟨P, hP⟩ : ∃ P, P = prd Asm.prs (a.take i) b := ⟨_, rfl⟩
          rw [← hP] at HOWN0 HROWI HNXT HLNI
          have hst : Hid (OwnSS wr base sv0 (P ++ (b.take 0).map (Asm.prs xs))) := by show OwnSS _ _ _ _; simpa using HOWN0.out
          clear q1 q2 hrowi hnxt hlni hP hxs HOWN0 hrz hlx e1
          go_wp2_with fail
          go_loopw [8] (fun j wr => ∃ (k : Nat) (sv : Value), j = .int .i64 k ∧ k ≤ m ∧ Hid (wr.heap[q]? = some (.cells #[sv] 26 (0, 0))) ∧ Hid (OwnSS wr base sv (P ++ (b.take k).map (Asm.prs xs))) ∧ Hid (After w3 wr)) (fun i _ => m - (intOf i).toNat)
          case atStart => exact ⟨0, sv0, rfl, Nat.zero_le _, HBOX0, hst, HA30⟩
          case round =>
            obtain ⟨j, sv, rfl, hj, HBOX, HOWN, HA3R⟩ := hrel
            obtain ⟨u0, u1, u2⟩ := one_facts HXB.out HA3R.out
            clear hst HBOX0 HA30 t0 t1 t2
            by_cases hlj : j < m
            · obtain ⟨gb, ob, rfl, r1, ⟨ag, ng, cg, e2⟩, r2, hly⟩ := HCB.out j hlj
              rw [e2] at r1 r2
              have R1 : Hid (∀ W, After w3 W → W.cell? ⟨gb, ob + j, none⟩ = some (.slice ag ng cg)) := fun W hW => (HA0.out.trans hW).cell r1
              have hlj' : (j : Int) < (m : Int) := by omega
              have hle4b := HB2.out j hlj
              have hrzb := fun k hk => HB3.out j k hlj hk
              have hrw := HROWI.out j hlj
              have hlen := HLNI.out j hj
              obtain ⟨ys, hys⟩ : ∃ ys, ys = b.getD j [] := ⟨_, rfl⟩
              rw [← hys] at r2 hle4b hrw hrzb hly
              obtain ⟨z, hz⟩ : ∃ z, z = Asm.prs xs ys := ⟨_, rfl⟩
              have HPT : Hid (∀ W, After w3 W → Calls Tryz.prog 44 #[.slice ae ne ce, .slice ag ng cg] W fun e w' => ∃ v, e = .returned v ∧ After W w' ∧ RowS w' W.heap.size v z) := fun W hW => by
                rw [hz]
                exact s_pairs W _ _ xs ys (HE1.out.later (HA0.out.trans hW)) (StrsU.later r2 (HA0.out.trans hW)) hle4 hle4b HRZ.out hrzb HLX.out hly
              rw [← hz] at hrw
              obtain ⟨S, hS⟩ : ∃ S, S = P ++ (b.take j).map (Asm.prs xs) := ⟨_, rfl⟩
              rw [← hS] at HOWN hrw hlen
              have HRW := Lib.hid hrw
              have HLN : Hid (S.length ≤ 1000000) := by show _ ≤ _; omega
              have HBQ : Hid (base ≤ q) := by show _ ≤ _; rw [HQ.out]; omega
              have HQS : Hid (base ≤ wr.heap.size) := by show _ ≤ _; have := (Array.getElem?_eq_some_iff.1 HBOX.out).1; have := HBQ.out; omega
              have hself := (After.refl wr).drew
              clear r1 r2 hrw hlen hS hz hys e2 hrzb hly
              go_wp2_with fail
              rename_i KK hKK
              refine wp_region_tail (m := 14) (k := 3) (f := 12) (by kernel_rfl) (by kernel_rfl) (by kernel_rfl) (by kernel_rfl) After After.refl (fun _ _ _ h g => h.trans g)
                (rl [Sp.lit (.pointer (some ⟨q, 0, none⟩)), Sp.lit (sv), Sp.lit (.pointer (some ⟨qa, 0, none⟩)), Sp.lit (.slice (some ⟨ga, oa, none⟩) n k1), Sp.lit (.int .i64 i), Sp.lit (.pointer (some ⟨ga, oa + i, none⟩)), Sp.lit (.slice ae ne ce), Sp.lit (.pointer (some ⟨qb, 0, none⟩)), Sp.lit (.slice (some ⟨gb, ob, none⟩) m k2), Sp.lit (.int .i64 j), Sp.lit (.pointer (some ⟨gb, ob + j, none⟩)), Sp.lit (.slice ag ng cg), Sp.row wr.heap.size z, Sp.rows wr.heap.size z]) rl_later (lt14 ?_ ?_ ?_ ?_ ?_ ?_ ?_ ?_ ?_ ?_ ?_ ?_ ?_ ?_) ?_
              · intro vs W hE hd K hK
                have hE' : After wr W := hself.trans hE
                exact do_rp (v := .pointer (some ⟨q, 0, none⟩)) (Sp.lit (.pointer (some ⟨q, 0, none⟩))).p (by kernel_rfl) (wanted_of (by kernel_rfl)) (by kernel_rfl) (After.refl W) rfl hK
              · intro vs W hE hd K hK
                have hE' : After wr W := hself.trans hE
                exact do_rp (v := sv) (Sp.lit (sv)).p (by kernel_rfl) (wanted_of (by kernel_rfl)) (run_ld_ss (x := .tmp 34) (u := vs 0) (by kernel_rfl) (by kernel_rfl) (hd 0 (by kernel_rfl)) (cell_of_heap (i := 0) (hE'.heap HBOX.out))) (After.refl W) rfl hK
              · intro vs W hE hd K hK
                have hE' : After wr W := hself.trans hE
                exact do_rp (v := .pointer (some ⟨qa, 0, none⟩)) (Sp.lit (.pointer (some ⟨qa, 0, none⟩))).p (by kernel_rfl) (wanted_of (by kernel_rfl)) (by kernel_rfl) (After.refl W) rfl hK
              · intro vs W hE hd K hK
                have hE' : After wr W := hself.trans hE
                exact do_rp (v := .slice (some ⟨ga, oa, none⟩) n k1) (Sp.lit (.slice (some ⟨ga, oa, none⟩) n k1)).p (by kernel_rfl) (wanted_of (by kernel_rfl)) (run_ld_ss (x := .tmp 36) (u := vs 2) (by kernel_rfl) (by kernel_rfl) (hd 2 (by kernel_rfl)) (cell_of_heap (i := 0) ((HA3R.out.trans hE').heap HXA.out))) (After.refl W) rfl hK
              · intro vs W hE hd K hK
                have hE' : After wr W := hself.trans hE
                exact do_rp (v := .int .i64 i) (Sp.lit (.int .i64 i)).p (by kernel_rfl) (wanted_of (by kernel_rfl)) (by kernel_rfl) (After.refl W) rfl hK
              · intro vs W hE hd K hK
                have hE' : After wr W := hself.trans hE
                exact do_rp (v := .pointer (some ⟨ga, oa + i, none⟩)) (Sp.lit (.pointer (some ⟨ga, oa + i, none⟩))).p (by kernel_rfl) (wanted_of (by kernel_rfl)) (run_ixss (x := .tmp 37) (y := .tmp 38) (u := vs 3) (u' := vs 4) (by kernel_rfl) (by kernel_rfl) (hd 3 (by kernel_rfl)) (by kernel_rfl) (hd 4 (by kernel_rfl)) hlt) (After.refl W) rfl hK
              · intro vs W hE hd K hK
                have hE' : After wr W := hself.trans hE
                exact do_rp (v := .slice ae ne ce) (Sp.lit (.slice ae ne ce)).p (by kernel_rfl) (wanted_of (by kernel_rfl)) (run_ldr (x := .tmp 39) (u := vs 5) (by kernel_rfl) (by kernel_rfl) (hd 5 (by kernel_rfl)) (Q1.out W (HA3R.out.trans hE'))) (After.refl W) rfl hK
              · intro vs W hE hd K hK
                have hE' : After wr W := hself.trans hE
                exact do_rp (v := .pointer (some ⟨qb, 0, none⟩)) (Sp.lit (.pointer (some ⟨qb, 0, none⟩))).p (by kernel_rfl) (wanted_of (by kernel_rfl)) (by kernel_rfl) (After.refl W) rfl hK
              · intro vs W hE hd K hK
                have hE' : After wr W := hself.trans hE
                exact do_rp (v := .slice (some ⟨gb, ob, none⟩) m k2) (Sp.lit (.slice (some ⟨gb, ob, none⟩) m k2)).p (by kernel_rfl) (wanted_of (by kernel_rfl)) (run_ld_ss (x := .tmp 41) (u := vs 7) (by kernel_rfl) (by kernel_rfl) (hd 7 (by kernel_rfl)) (cell_of_heap (i := 0) ((HA3R.out.trans hE').heap HXB.out))) (After.refl W) rfl hK
              · intro vs W hE hd K hK
                have hE' : After wr W := hself.trans hE
                exact do_rp (v := .int .i64 j) (Sp.lit (.int .i64 j)).p (by kernel_rfl) (wanted_of (by kernel_rfl)) (by kernel_rfl) (After.refl W) rfl hK
              · intro vs W hE hd K hK
                have hE' : After wr W := hself.trans hE
                exact do_rp (v := .pointer (some ⟨gb, ob + j, none⟩)) (Sp.lit (.pointer (some ⟨gb, ob + j, none⟩))).p (by kernel_rfl) (wanted_of (by kernel_rfl)) (run_ixss (x := .tmp 42) (y := .tmp 43) (u := vs 8) (u' := vs 9) (by kernel_rfl) (by kernel_rfl) (hd 8 (by kernel_rfl)) (by kernel_rfl) (hd 9 (by kernel_rfl)) hlj) (After.refl W) rfl hK
              · intro vs W hE hd K hK
                have hE' : After wr W := hself.trans hE
                exact do_rp (v := .slice ag ng cg) (Sp.lit (.slice ag ng cg)).p (by kernel_rfl) (wanted_of (by kernel_rfl)) (run_ldr (x := .tmp 44) (u := vs 10) (by kernel_rfl) (by kernel_rfl) (hd 10 (by kernel_rfl)) (R1.out W (HA3R.out.trans hE'))) (After.refl W) rfl hK
              · intro vs W hE hd K hK
                have hE' : After wr W := hself.trans hE
                exact do_cp (Sp.row wr.heap.size z).p (by kernel_rfl) (wanted_of (by kernel_rfl)) (f := 44) (args := #[vs 6, vs 11]) (by kernel_rfl) (by rw [show vs 6 = .slice ae ne ce from hd 6 (by kernel_rfl), show vs 11 = .slice ag ng cg from hd 11 (by kernel_rfl)]; exact (HPT.out W (HA3R.out.trans hE')).mono fun e w' ⟨v, he, ha, hr⟩ => ⟨v, he, ha, own_mono hr hE'.size⟩) hK
              · intro vs W hE hd K hK
                have hE' : After wr W := hself.trans hE
                have h4 : W.ownsRow wr.heap.size 9 1 (vs 12) z.length (z.map str) := hd 12 (by kernel_rfl)
                obtain ⟨ao4, n4, c4, e4⟩ := own_form h4
                exact do_rp (Sp.rows wr.heap.size z).p (by kernel_rfl) (wanted_of (by kernel_rfl)) (run_rows1 (x := .tmp 46) (u := vs 12) (by kernel_rfl) (by kernel_rfl) e4) (After.new _ _) ⟨_, _, rfl, heap_new' _ _, rfl, by rw [← e4]; exact own_later h4 (After.new _ _)⟩ hK
              intro vs W hE hd
              have hE' : After wr W := hself.trans hE
              obtain ⟨b2, rv, eb2, hb2, _, hrow⟩ := hd 13 (by decide)
              refine tail_push2 (wr := wr) (m := 14) (q := q) (base := base) (b2 := b2) (sv := sv) (s := .tmp 35) (x := .tmp 47) (t := .tmp 6) (y := .tmp 49) (z := .tmp 48) (d7 := 48) (d8 := 49) (rv := rv)
                (by kernel_rfl) (by kernel_rfl) (by kernel_rfl) (by kernel_rfl) (by kernel_rfl) (by kernel_rfl) (by kernel_rfl) (by kernel_rfl) (by kernel_rfl) (by kernel_rfl) (by kernel_rfl) (by kernel_rfl)
                (Eq.trans (by kernel_rfl : _ = vs 1) (hd 1 (by decide))) (Eq.trans (by kernel_rfl : _ = vs 13) eb2) (fun v => by kernel_rfl) (fun v => by kernel_rfl) (fun v => by kernel_rfl) HOWN.out hE' HQS.out HLN.out HBQ.out HBOX.out hrow hb2 (fun g cap w9 hown9 hbox9 hb9 => ?_)
              refine hKK _ _ ?_
              rw [frame_from 34 16 (by kernel_rfl) (by kernel_rfl) (by kernel_rfl), lit2_55_34_16]
              clear hd eb2 hb2 hrow
              generalize vs 0 = y0 at *
              generalize vs 1 = y1 at *
              generalize vs 2 = y2 at *
              generalize vs 3 = y3 at *
              generalize vs 4 = y4 at *
              generalize vs 5 = y5 at *
              generalize vs 6 = y6 at *
              generalize vs 7 = y7 at *
              generalize vs 8 = y8 at *
              generalize vs 9 = y9 at *
              generalize vs 10 = y10 at *
              generalize vs 11 = y11 at *
              generalize vs 12 = y12 at *
              generalize vs 13 = y13 at *
              go_wp2_with fail
              go_roundw
              case rel =>
                refine ⟨j + 1, _, by go_num, by omega, hbox9, ?_, ?_⟩
                · show OwnSS _ _ _ _
                  rw [HRW.out]
                  exact hown9
                · show After _ _
                  exact Below.trans HA3R.out (hb9.mono (by rw [HS3.out]; exact Nat.le_refl _))
              case measure => simp [intOf]; omega
            · obtain rfl : j = m := by omega
              go_wp2_with fail
              go_roundw
              case rel => exact ⟨i + 1, sv, by go_num, by omega, HBOX, by show OwnSS _ _ _ _; rw [← HNXT.out]; rw [HMM.out] at HOWN ⊢; exact HOWN.out, HA3R⟩
              case measure => simp [intOf]; omega
        · obtain rfl : i = n := by omega
          have hD : ∀ zs v, zs = Asm.pairA a b → OwnSS wr base v zs → OwnSS wr base v (Asm.pairA a b) := fun zs v e h => e ▸ h
          have HO := Lib.hid (hD _ _ HEND.out HOWN0.out)
          have hv := HVAL.out wr sv0 (HO.out.ssu (Nat.zero_le _))
          obtain ⟨ao, cap, rfl⟩ := HO.out.form
          obtain ⟨p0, p1', p2'⟩ := one_facts HBOX0.out (After.refl _)
          have hfin := fun W h1 h2 => HFIN.out W (.slice ao (Asm.pairA a b).length cap) h1 h2
          clear hD HOWN0
          go_wp2_with fail
          refine hv.mono ?_
          rintro e w4 ⟨rfl, hb4⟩
          have hres3 := (HA30.out.trans hb4).heap HR0.out
          obtain ⟨r0, r1, r2⟩ := one_facts hres3 (After.refl _)
          obtain ⟨s0, s1, s2⟩ := one_facts HBOX0.out hb4
          have HRS := Lib.hid hres3
          have hAA := HA0.out.trans (HA30.out.trans hb4)
          have HOW : Hid (OwnSS w4 w.heap.size (.slice ao (Asm.pairA a b).length cap) (Asm.pairA a b)) := OwnSS.less (HO.out.later hb4) (by rw [HBS.out, HQR.out, HQB.out, HQA.out]; omega)
          generalize hRB : Asm.ok (Asm.pairA a b) = rb at *
          generalize (Asm.pairA a b).length = L at *
          have hset : ∀ v, OwnSS (w4.setCell ⟨qr, 0, none⟩ v) w.heap.size (.slice ao L cap) (Asm.pairA a b) ∧ After w (w4.setCell ⟨qr, 0, none⟩ v) := fun v => ⟨HOW.out.keptT fun b' cs T fr hT hb' => by
            rw [Below.heap_setCell _ _ _ _ (fun e => by have e' : b' = qr := e; subst e'; rw [HRS.out] at hb'; injection hb' with hb'; injection hb' with _ hb' _; exact hT hb'.symm)]
            exact hb', Below.setCell hAA (by show w.heap.size ≤ qr; rw [HQR.out, HQB.out, HQA.out]; omega) v⟩
          have HSET := Lib.hid hset
          clear p0 p1' p2' hres3 hset hRB hv t0 t1 t2
          cases rb
          all_goals
            go_wp2_with fail
            refine bodyPost_ret (v := .tuple #[.agg #[_], .bool _]) (by simp [results, Tryz.results17, go_sem, r0]) rfl (hfin _ (HSET.out _).1 (HSET.out _).2)
end Go.Proofs.YtidpkmkhcomcdaaGreat
