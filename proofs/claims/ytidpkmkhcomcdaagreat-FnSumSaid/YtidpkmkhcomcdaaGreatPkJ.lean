/-
  The program's readAssemblies, AssemblyPair.
-/
import Derived.Test.YtidpkmkhcomcdaaGreatPkH
import Derived.Test.YtidpkmkhcomcdaaGreatPkI
import Derived.Test.YtidpkmkhcomcdaaGreatPkB
import Derived.Test.YtidpkmkhcomcdaaGreatPkC
import Derived.Test.YtidpkmkhcomcdaaGreatPkD
import Derived.Test.YtidpkmkhcomcdaaGreatPkE
namespace Go.Proofs.YtidpkmkhcomcdaaGreat
open Go.RowKit

set_option maxHeartbeats 2000000
set_option maxRecDepth 100000

/-! ### rows of all pairs -/
def prd {α β γ : Type} (f : α → β → γ) (xs : List α) (ys : List β) : List γ := xs.flatMap fun x => ys.map (f x)
theorem prd_row {α β γ : Type} (f : α → β → γ) (d : α) (e : β) (xs : List α) (ys : List β) (i j : Nat) (hj : j < ys.length) : prd f (xs.take i) ys ++ (ys.take (j + 1)).map (f (xs.getD i d)) = (prd f (xs.take i) ys ++ (ys.take j).map (f (xs.getD i d))) ++ [f (xs.getD i d) (ys.getD j e)] := by
  rw [List.take_succ_eq_append_getElem hj, List.map_append, List.append_assoc]
  have : ys.getD j e = ys[j] := by simp [List.getD, hj]
  rw [this]
  rfl
theorem prd_next {α β γ : Type} (f : α → β → γ) (d : α) (xs : List α) (ys : List β) (i : Nat) (hi : i < xs.length) : prd f (xs.take i) ys ++ (ys.take ys.length).map (f (xs.getD i d)) = prd f (xs.take (i + 1)) ys := by
  have : xs.getD i d = xs[i] := by simp [List.getD, hi]
  rw [List.take_length, List.take_succ_eq_append_getElem hi, this, prd, prd, List.flatMap_append]
  simp only [List.flatMap_cons, List.flatMap_nil, List.append_nil]
theorem prd_len {α β γ : Type} (f : α → β → γ) (xs : List α) (ys : List β) : (prd f xs ys).length = xs.length * ys.length := by
  induction xs with
  | nil => simp [prd]
  | cons x xs ih =>
    have : prd f (x :: xs) ys = ys.map (f x) ++ prd f xs ys := rfl
    rw [this, List.length_append, ih, List.length_map, List.length_cons, Nat.succ_mul, Nat.add_comm]

theorem own_form {w : World} {base n size : Nat} {E : TypeId} {v : Value} {vs : List Value} (h : w.ownsRow base E size v n vs) : ∃ ao m c, v = .slice ao m c := by
  rcases h.2 with ⟨rfl, _⟩ | ⟨g, cap, cur, rfl, _⟩
  · exact ⟨_, _, _, rfl⟩
  · exact ⟨_, _, _, rfl⟩

namespace Asm
def pairA (a b : List (List Txt)) : List (List Txt) := prd prs a b
theorem ok_facts {a : List (List Txt)} (h : ok a = true) : a.length ≤ 6 ∧ (∀ i, i < a.length → (a.getD i []).length ≤ 4) ∧ ∀ i k, i < a.length → k < (a.getD i []).length → (rz ((a.getD i []).getD k [])).isSome = true := by
  rw [ok_eq, Bool.and_eq_true, sizes, Bool.and_eq_true, Bool.and_eq_true, decide_eq_true_eq, decide_eq_true_eq, szs, pfs, List.all_eq_true, List.all_eq_true] at h
  refine ⟨h.1.1.2, fun i hi => ?_, fun i k hi hk => ?_⟩
  · have := h.1.2 i (List.mem_range.2 hi)
    rw [Bool.and_eq_true, decide_eq_true_eq, decide_eq_true_eq] at this
    exact this.2
  · have := h.2 i (List.mem_range.2 hi)
    rw [pfx, List.all_eq_true] at this
    have := this k (List.mem_range.2 hk)
    rw [step, Bool.and_eq_true] at this
    exact this.1
theorem pr_len {x y : Txt} (hx : (rz x).isSome = true) (hy : (rz y).isSome = true) : (pr x y).length ≤ 100000 := by
  obtain ⟨t, ht⟩ := Option.isSome_iff_exists.1 hx
  obtain ⟨u, hu⟩ := Option.isSome_iff_exists.1 hy
  obtain ⟨f1, f2, f3, _⟩ := rz_facts ht
  obtain ⟨k1, k2, k3, _⟩ := rz_facts hu
  rw [pr, f1, k1]
  exact (pair_fits f3 k3 f2 k2).2.2
theorem prs_lens {xs ys : List Txt} (hx : xs.length ≤ 4) (hy : ys.length ≤ 4) (gx : ∀ k, k < xs.length → (rz (xs.getD k [])).isSome = true) (gy : ∀ k, k < ys.length → (rz (ys.getD k [])).isSome = true) : (prs xs ys).length ≤ 1000 ∧ ∀ s ∈ prs xs ys, s.length ≤ 100000 := by
  refine ⟨?_, fun s hs => ?_⟩
  · rw [prs_len]
    have : xs.length * ys.length ≤ 4 * 4 := Nat.mul_le_mul hx hy
    omega
  · rw [prs, List.mem_flatMap] at hs
    obtain ⟨x, hx', hs⟩ := hs
    obtain ⟨y, hy', rfl⟩ := List.mem_map.1 hs
    obtain ⟨i, hi, rfl⟩ := List.getElem_of_mem hx'
    obtain ⟨j, hj, rfl⟩ := List.getElem_of_mem hy'
    have h1 := gx i hi
    have h2 := gy j hj
    rw [show xs.getD i [] = xs[i] by simp [List.getD, hi]] at h1
    rw [show ys.getD j [] = ys[j] by simp [List.getD, hj]] at h2
    exact pr_len h1 h2
theorem pairA_lens {a b : List (List Txt)} (ha : ok a = true) (hb : ok b = true) : Lens 1000000 (pairA a b) := by
  obtain ⟨a1, a2, a3⟩ := ok_facts ha
  obtain ⟨b1, b2, b3⟩ := ok_facts hb
  refine ⟨?_, fun ns hs => ?_⟩
  · rw [pairA, prd_len]
    have : a.length * b.length ≤ 6 * 6 := Nat.mul_le_mul a1 b1
    omega
  · rw [pairA, prd, List.mem_flatMap] at hs
    obtain ⟨xs, hx, hs⟩ := hs
    obtain ⟨ys, hy, rfl⟩ := List.mem_map.1 hs
    obtain ⟨i, hi, rfl⟩ := List.getElem_of_mem hx
    obtain ⟨j, hj, rfl⟩ := List.getElem_of_mem hy
    have e1 : a.getD i [] = a[i] := by simp [List.getD, hi]
    have e2 : b.getD j [] = b[j] := by simp [List.getD, hj]
    have h1 := a2 i hi
    have h2 := b2 j hj
    have h3 := fun k hk => a3 i k hi hk
    have h4 := fun k hk => b3 j k hj hk
    rw [e1] at h1 h3
    rw [e2] at h2 h4
    have := prs_lens h1 h2 h3 h4
    exact ⟨by omega, fun s hs => by have := this.2 s hs; omega⟩
def pPairA (a b : List (List Txt)) : Option (List (List Txt)) := if (ok a && ok b) = true then (if ok (pairA a b) = true then some (pairA a b) else none) else none
end Asm

def ReadTwoPost (w : World) (a b : List (List (List UInt8))) (e : Ending) (w' : World) : Prop :=
  ∃ ao1 n1 c1 ao2 n2 c2, e = .returned (.tuple #[.slice ao1 n1 c1, .slice ao2 n2 c2, .bool (Asm.ok a && Asm.ok b)]) ∧ After w w' ∧ ((Asm.ok a && Asm.ok b) = true → RowA w' w.heap.size (.slice ao1 n1 c1) a ∧ RowA w' w.heap.size (.slice ao2 n2 c2) b)

theorem RowA.less {w : World} {base base' : Nat} {sv : Value} {a : List (List (List UInt8))} (h : RowA w base sv a) (hB : base' ≤ base) : RowA w base' sv a := by
  obtain ⟨cs, ho, hc⟩ := h
  exact ⟨cs, own_mono ho hB, fun j hj => by obtain ⟨ev, h1, h2⟩ := hc j hj; exact ⟨ev, h1, h2.less hB⟩⟩

theorem readTwo_any (w : World) (s1 s2 : Value) (a b : List (List (List UInt8))) (h1 : SSU 0 w s1 a) (h2 : SSU 0 w s2 b) (hl1 : Lens 1000000000 a) (hl2 : Lens 1000000000 b) :
    Calls Tryz.prog 42 #[.agg #[s1], .agg #[s2]] w (ReadTwoPost w a b) := by
  have hc1 := fun W (hW : After w W) => readAssembly_any W s1 a (h1.later hW) hl1
  have hc2 := fun W (hW : After w W) => readAssembly_any W s2 b (h2.later hW) hl2
  obtain ⟨p1, k1, rfl⟩ := h1.form
  obtain ⟨p2, k2, rfl⟩ := h2.form
  unfold ReadAsmPost at hc1 hc2
  have hfail : Hid ((Asm.ok a && Asm.ok b) = false → ∀ W, After w W → ReadTwoPost w a b (.returned (.tuple #[.slice none 0 0, .slice none 0 0, .bool false])) W) := fun h W hW => ⟨none, 0, 0, none, 0, 0, by rw [h], hW, fun e => by rw [h] at e; cases e⟩
  have hdone : Hid ((Asm.ok a && Asm.ok b) = true → ∀ W ao1 n1 c1 ao2 n2 c2, After w W → RowA W w.heap.size (.slice ao1 n1 c1) a → RowA W w.heap.size (.slice ao2 n2 c2) b → ReadTwoPost w a b (.returned (.tuple #[.slice ao1 n1 c1, .slice ao2 n2 c2, .bool true])) W) := fun h W ao1 n1 c1 ao2 n2 c2 hW r1 r2 => ⟨ao1, n1, c1, ao2, n2, c2, by rw [h], hW, fun _ => ⟨r1, r2⟩⟩
  have hA0 := (After.new w (.cells #[.slice p1 a.length k1] 26)).alloc (.cells #[.slice p2 b.length k2] 26)
  have hx1 := heap_old2 w (.cells #[.slice p1 a.length k1] 26) (.cells #[.slice p2 b.length k2] 26)
  have hx2 := heap_new2 w w.heap.size (.cells #[.slice p1 a.length k1] 26) (.cells #[.slice p2 b.length k2] 26) rfl
  have hc := hc1 _ hA0
  have HC2 := Lib.hid hc2
  have HX2 := Lib.hid hx2
  have HA0 := Lib.hid hA0
  obtain ⟨o0, o1, o2⟩ := one_facts hx1 (After.refl _)
  clear hc1 hc2 h1 h2 hl1 hl2 hx1 hx2 hA0
  generalize a.length = n at *
  generalize b.length = m at *
  cases hoa : Asm.ok a with
  | false =>
    have HF := Lib.hid (hfail.out (by rw [hoa]; rfl))
    rw [hoa] at hc
    clear hoa hfail hdone
    go_enter Tryz.func42, Tryz.ntmps42
    go_wp2_with fail
    refine hc.mono ?_
    rintro e w1 ⟨r1, l1, t1, rfl, hb1, hv1⟩
    clear hc hv1
    go_wp2_with fail
    go_ret3
    exact HF.out _ (HA0.out.trans hb1)
  | true =>
    rw [hoa] at hc
    cases hob : Asm.ok b with
    | false =>
      have HF := Lib.hid (hfail.out (by rw [hoa, hob]; rfl))
      rw [hob] at HC2
      clear hoa hob hfail hdone
      go_enter Tryz.func42, Tryz.ntmps42
      go_wp2_with fail
      refine hc.mono ?_
      rintro e w1 ⟨r1, l1, t1, rfl, hb1, hv1⟩
      have hA1 := HA0.out.trans hb1
      have hd := HC2.out _ hA1
      obtain ⟨q0, q1, q2⟩ := one_facts HX2.out hb1
      clear hc hv1 o0 o1 o2
      go_wp2_with fail
      refine hd.mono ?_
      rintro e w2 ⟨r2, l2, t2, rfl, hb2, hv2⟩
      clear hd hv2
      go_wp2_with fail
      go_ret3
      exact HF.out _ (hA1.trans hb2)
    | true =>
      have HD := Lib.hid (hdone.out (by rw [hoa, hob]; rfl))
      rw [hob] at HC2
      clear hoa hob hfail hdone
      go_enter Tryz.func42, Tryz.ntmps42
      go_wp2_with fail
      refine hc.mono ?_
      rintro e w1 ⟨r1, l1, t1, rfl, hb1, hv1⟩
      have hA1 := HA0.out.trans hb1
      have hd := HC2.out _ hA1
      obtain ⟨q0, q1, q2⟩ := one_facts HX2.out hb1
      have HV1 := Lib.hid ((hv1 (by trivial)).less HA0.out.size)
      clear hc hv1 o0 o1 o2
      go_wp2_with fail
      refine hd.mono ?_
      rintro e w2 ⟨r2, l2, t2, rfl, hb2, hv2⟩
      have HV2 := Lib.hid ((hv2 (by trivial)).less hA1.size)
      clear hd hv2
      go_wp2_with fail
      go_ret3
      exact HD.out _ _ _ _ _ _ _ (hA1.trans hb2) (HV1.out.later hb2) HV2.out

theorem lit2_50_36_8 {x0 x1 x2 x3 x4 x5 x6 x7 x8 x9 x10 x11 x12 x13 x14 x15 x16 x17 x18 x19 x20 x21 x22 x23 x24 x25 x26 x27 x28 x29 x30 x31 x32 x33 x34 x35 x36 x37 x38 x39 x40 x41 x42 x43 x44 x45 x46 x47 x48 x49 u u' : Value} {d : List Deferred} {vs : Nat → Value} : ((putFrom ⟨#[x0, x1, x2, x3, x4, x5, x6, x7, x8, x9, x10, x11, x12, x13, x14, x15, x16, x17, x18, x19, x20, x21, x22, x23, x24, x25, x26, x27, x28, x29, x30, x31, x32, x33, x34, x35, x36, x37, x38, x39, x40, x41, x42, x43, x44, x45, x46, x47, x48, x49], d⟩ 36 vs 8).put (some 42) u).put (some 43) u' = ⟨#[x0, x1, x2, x3, x4, x5, x6, x7, x8, x9, x10, x11, x12, x13, x14, x15, x16, x17, x18, x19, x20, x21, x22, x23, x24, x25, x26, x27, x28, x29, x30, x31, x32, x33, x34, x35, vs 0, vs 1, vs 2, vs 3, vs 4, vs 5, u, u', x44, x45, x46, x47, x48, x49], d⟩ := by kernel_rfl

theorem impl_pairA (w : World) (s1 s2 : Value) (a b : List (List (List UInt8))) (h1 : SSU 0 w s1 a) (h2 : SSU 0 w s2 b) (hl1 : Lens 1000000000 a) (hl2 : Lens 1000000000 b) :
    Calls Tryz.prog 16 #[.agg #[s1], .agg #[s2]] w (AsmOwn w (Asm.pPairA a b)) := by
  have hc1 := fun W (hW : After w W) => readTwo_any W s1 s2 a b (h1.later hW) (h2.later hW) hl1 hl2
  obtain ⟨p1, k1, rfl⟩ := h1.form
  obtain ⟨p2, k2, rfl⟩ := h2.form
  unfold ReadTwoPost at hc1
  obtain ⟨os, hos⟩ : ∃ os : List Obj, os = [.cells #[.slice p1 a.length k1] 26, .cells #[.slice p2 b.length k2] 26, .cells #[.slice none 0 0] 26] := ⟨_, rfl⟩
  have hX : allocL w os = ((w.alloc (.cells #[.slice p1 a.length k1] 26)).alloc (.cells #[.slice p2 b.length k2] 26)).alloc (.cells #[.slice none 0 0] 26) := by rw [hos]; rfl
  have hA0 : After w (allocL w os) := allocL_below w os
  have hr0 : (allocL w os).heap[w.heap.size + 1 + 1]? = some (.cells #[.slice none 0 0] 26 (0, 0)) := by have := allocL_heap w os 2 (by rw [hos]; simp); simpa [hos] using this
  rw [hX] at hA0 hr0
  have hc := hc1 _ hA0
  have HR0 := Lib.hid hr0
  have HA0 := Lib.hid hA0
  clear hc1 h1 h2 hX hos hr0 hA0
  cases hok : (Asm.ok a && Asm.ok b) with
  | false =>
    rw [show Asm.pPairA a b = none by unfold Asm.pPairA; rw [hok]; rfl]
    rw [hok] at hc
    clear hok
    generalize a.length = n at *
    generalize b.length = m at *
    go_enter Tryz.func16, Tryz.ntmps16
    go_wp2_with fail
    refine hc.mono ?_
    rintro e w1 ⟨ao1, n1, c1, ao2, n2, c2, rfl, hb1, hv1⟩
    obtain ⟨r0, r1, r2⟩ := one_facts HR0.out hb1
    clear hc hv1
    go_wp2_with fail
    refine bodyPost_ret (v := .tuple #[.agg #[.slice none 0 0], .bool false]) (by simp [results, Tryz.results16, go_sem, r0]) rfl ⟨_, rfl, OwnSS.nil _ _, ?_⟩
    exact Below.setCell (HA0.out.trans hb1) (by show w.heap.size ≤ w.heap.size + 1 + 1; omega) _
  | true =>
    obtain ⟨hoa, hob⟩ := Bool.and_eq_true_iff.1 hok
    obtain ⟨a1, a2, a3⟩ := Asm.ok_facts hoa
    obtain ⟨b1, b2, b3⟩ := Asm.ok_facts hob
    have hlens := Asm.pairA_lens hoa hob
    have hval := fun W sv (h : SSU 0 W sv (Asm.pairA a b)) => validOnly_any W sv (Asm.pairA a b) h ⟨by have := hlens.1; omega, fun ns hs => ⟨by have := (hlens.2 ns hs).1; omega, fun s h => by have := (hlens.2 ns hs).2 s h; omega⟩⟩
    rw [show Asm.pPairA a b = if Asm.ok (Asm.pairA a b) = true then some (Asm.pairA a b) else none by unfold Asm.pPairA; rw [hok]; rfl]
    have hfin : ∀ W sv, OwnSS W w.heap.size sv (Asm.pairA a b) → After w W → AsmOwn w (if Asm.ok (Asm.pairA a b) = true then some (Asm.pairA a b) else none) (.returned (.tuple #[.agg #[if Asm.ok (Asm.pairA a b) = true then sv else .slice none 0 0], .bool (Asm.ok (Asm.pairA a b))])) W := fun W sv ho hA => by
      cases Asm.ok (Asm.pairA a b) with
      | true => exact ⟨_, rfl, ho, hA⟩
      | false => exact ⟨_, rfl, OwnSS.nil _ _, hA⟩
    generalize (if Asm.ok (Asm.pairA a b) = true then some (Asm.pairA a b) else none) = R at hfin ⊢
    have hrow := fun i j hj => prd_row Asm.prs [] [] a b i j hj
    have hnext := prd_next Asm.prs [] a b
    have hlen : ∀ i j, i ≤ a.length → j ≤ b.length → (prd Asm.prs (a.take i) b ++ (b.take j).map (Asm.prs (a.getD i []))).length ≤ 1000 := fun i j hi hj => by
      rw [List.length_append, prd_len, List.length_map, List.length_take, List.length_take]
      have : min i a.length * b.length ≤ 6 * 6 := Nat.mul_le_mul (by omega) b1
      omega
    have hend : prd Asm.prs (a.take a.length) b = Asm.pairA a b := by rw [List.take_length]; rfl
    rw [hok] at hc
    clear hok hlens hoa hob
    obtain ⟨n, hn⟩ : ∃ n, n = a.length := ⟨_, rfl⟩
    obtain ⟨m, hm⟩ : ∃ m, m = b.length := ⟨_, rfl⟩
    rw [← hn] at hc HR0 HA0 hnext hlen hend a1 a2 ⊢
    rw [← hm] at hc HR0 HA0 hrow hnext hlen b1 b2 ⊢
    have HROW := Lib.hid hrow
    have HNEXT := Lib.hid hnext
    have HLEN := Lib.hid hlen
    have HEND := Lib.hid hend
    have HVAL := Lib.hid hval
    have HFIN := Lib.hid hfin
    have HA2 := Lib.hid a2
    have HB2 := Lib.hid b2
    have HNN := Lib.hid hn
    have HMM := Lib.hid hm
    clear hrow hnext hlen hend hval hfin a2 a3 b2 b3 hl1 hl2 hn hm
    go_enter Tryz.func16, Tryz.ntmps16
    go_wp2_with fail
    refine hc.mono ?_
    rintro e w1 ⟨ao1, n1, c1, ao2, n2, c2, rfl, hb1, hv1⟩
    obtain ⟨hra, hrb⟩ := hv1 (by trivial)
    have e1 : n1 = a.length := by obtain ⟨_, _, e⟩ := hra.form; injection e
    have e2 : n2 = b.length := by obtain ⟨_, _, e⟩ := hrb.form; injection e
    rw [← HNN.out] at e1
    rw [← HMM.out] at e2
    replace e1 := e1.symm
    replace e2 := e2.symm
    subst e1
    subst e2
    have hcA : ∀ i, i < n → ∃ g ev, ao1 = some ⟨g, 0, none⟩ ∧ w1.cell? ⟨g, i, none⟩ = some ev ∧ RowE w1 0 ev (a.getD i []) ∧ ∃ ao' n' c', ev = .slice ao' n' c' := fun i hi => by
      obtain ⟨g, cap, ev, e, q1, q2⟩ := hra.at i (by rw [← HNN.out]; exact hi)
      simp only [Value.slice.injEq] at e
      obtain ⟨_, c', e'⟩ := q2.form
      exact ⟨g, ev, e.1, q1, q2.less (Nat.zero_le _), _, _, _, e'⟩
    have hcB : ∀ i, i < m → ∃ g ev, ao2 = some ⟨g, 0, none⟩ ∧ w1.cell? ⟨g, i, none⟩ = some ev ∧ RowE w1 0 ev (b.getD i []) ∧ ∃ ao' n' c', ev = .slice ao' n' c' := fun i hi => by
      obtain ⟨g, cap, ev, e, q1, q2⟩ := hrb.at i (by rw [← HMM.out]; exact hi)
      simp only [Value.slice.injEq] at e
      obtain ⟨_, c', e'⟩ := q2.form
      exact ⟨g, ev, e.1, q1, q2.less (Nat.zero_le _), _, _, _, e'⟩
    have HCA := Lib.hid hcA
    have HCB := Lib.hid hcB
    have hAw1 := HA0.out.trans hb1
    have hnw := After.new w1 (.cells #[.slice none 0 0] 26)
    have hb0 := heap_new' w1 (.cells #[.slice none 0 0] 26)
    have hres1 := hb1.heap HR0.out
    have hsz1 : w.heap.size + 1 + 1 < w1.heap.size := (Array.getElem?_eq_some_iff.1 hres1).1
    have HAW1 := Lib.hid hAw1
    have HRES1 := Lib.hid hres1
    have HSTART : Hid (OwnSS (w1.alloc (.cells #[.slice none 0 0] 26)) w1.heap.size (.slice none 0 0) (prd Asm.prs (a.take 0) b)) := by show OwnSS _ _ _ _; exact OwnSS.nil _ _
    have HB0 := Lib.hid hb0
    have HNW := Lib.hid hnw
    clear hc hv1 hra hrb hcA hcB hAw1 hres1 hb0 hnw
    go_wp2_with fail
    obtain ⟨q, hq⟩ : ∃ q, q = w1.heap.size := ⟨_, rfl⟩
    simp only [← hq] at HB0 HSTART ⊢
    have HQ := Lib.hid hq
    clear hq
    generalize w1.alloc (.cells #[.slice none 0 0] 26) = w2 at *
    go_loopw [26] (fun i wr => ∃ (k : Nat) (sv : Value), i = .int .i64 k ∧ k ≤ n ∧ Hid (wr.heap[q]? = some (.cells #[sv] 26 (0, 0))) ∧ Hid (OwnSS wr q sv (prd Asm.prs (a.take k) b)) ∧ Hid (After w1 wr)) (fun i _ => n - (intOf i).toNat)
    case atStart => exact ⟨0, _, rfl, Nat.zero_le _, HB0, HSTART, HNW⟩
    case round =>
      obtain ⟨i, sv0, rfl, hi, HBOX0, HOWN0, HA10⟩ := hrel
      clear HSTART
      by_cases hlt : i < n
      · obtain ⟨ga, eva, rfl, q1, q2, ae, ne, ce, rfl⟩ := HCA.out i hlt
        replace q1 := HA10.out.cell q1
        have hlt' : (i : Int) < (n : Int) := by omega
        have hle4 := HA2.out i hlt
        have hrowi := fun j hj => HROW.out i j hj
        have hnxt := HNEXT.out i hlt
        have hlni := fun j hj => HLEN.out i j hi hj
        obtain ⟨xs, hxs⟩ : ∃ xs, xs = a.getD i [] := ⟨_, rfl⟩
        rw [← hxs] at q2 hle4 hrowi hnxt hlni
        have HE1 := Lib.hid q2
        have HROWI := Lib.hid hrowi
        have HNXT := Lib.hid hnxt
        have HLNI := Lib.hid hlni
        obtain ⟨P, hP⟩ : ∃ P, P = prd Asm.prs (a.take i) b := ⟨_, rfl⟩
        rw [← hP] at HOWN0 HROWI HNXT HLNI
        have hst : Hid (OwnSS wr q sv0 (P ++ (b.take 0).map (Asm.prs xs))) := by show OwnSS _ _ _ _; simpa using HOWN0.out
        clear q2 hrowi hnxt hlni hP hxs HOWN0
        go_wp2_with fail
        go_loopw [32] (fun j wr => ∃ (k : Nat) (sv : Value), j = .int .i64 k ∧ k ≤ m ∧ Hid (wr.heap[q]? = some (.cells #[sv] 26 (0, 0))) ∧ Hid (OwnSS wr q sv (P ++ (b.take k).map (Asm.prs xs))) ∧ Hid (After w1 wr)) (fun i _ => m - (intOf i).toNat)
        case atStart => exact ⟨0, sv0, rfl, Nat.zero_le _, HBOX0, hst, HA10⟩
        case round =>
          obtain ⟨j, sv, rfl, hj, HBOX, HOWN, HA1R⟩ := hrel
          clear hst HBOX0 HA10
          by_cases hlj : j < m
          · obtain ⟨gb, evb, rfl, r1, r2, ag, ng, cg, rfl⟩ := HCB.out j hlj
            replace r1 := HA1R.out.cell r1
            have hlj' : (j : Int) < (m : Int) := by omega
            have hle4b := HB2.out j hlj
            have hrw := HROWI.out j hlj
            have hlen := HLNI.out j hj
            obtain ⟨ys, hys⟩ : ∃ ys, ys = b.getD j [] := ⟨_, rfl⟩
            rw [← hys] at r2 hle4b hrw
            obtain ⟨z, hz⟩ : ∃ z, z = Asm.prs xs ys := ⟨_, rfl⟩
            have HPT : Hid (∀ W, After w1 W → Calls Tryz.prog 43 #[.slice ae ne ce, .slice ag ng cg] W fun e w' => ∃ v, e = .returned v ∧ After W w' ∧ RowS w' W.heap.size v z) := fun W hW => by
              rw [hz]
              exact pairTexts_any W 0 0 _ _ xs ys (HE1.out.later hW) (r2.later hW) hle4 hle4b
            rw [← hz] at hrw
            obtain ⟨S, hS⟩ : ∃ S, S = P ++ (b.take j).map (Asm.prs xs) := ⟨_, rfl⟩
            rw [← hS] at HOWN hrw hlen
            have HRW := Lib.hid hrw
            have HLN : Hid (S.length ≤ 1000000) := by show _ ≤ _; omega
            have HQS : Hid (q ≤ wr.heap.size) := by show _ ≤ _; have := (Array.getElem?_eq_some_iff.1 HBOX.out).1; omega
            have hself := (After.refl wr).drew
            clear r2 hrw hlen hS hz hys
            go_wp2_with fail
            rename_i KK hKK
            refine wp_region_tail (m := 6) (k := 3) (f := 12) (by kernel_rfl) (by kernel_rfl) (by kernel_rfl) (by kernel_rfl) After After.refl (fun _ _ _ h g => h.trans g)
              (rl [Sp.lit (.pointer (some ⟨q, 0, none⟩)), Sp.lit sv, Sp.lit (.slice ae ne ce), Sp.lit (.slice ag ng cg), Sp.row wr.heap.size z, Sp.rows wr.heap.size z]) rl_later (lt6 ?_ ?_ ?_ ?_ ?_ ?_) ?_
            · intro vs W hE hd K hK
              have hE' : After wr W := hself.trans hE
              exact do_rp (v := .pointer (some ⟨q, 0, none⟩)) (Sp.lit (.pointer (some ⟨q, 0, none⟩))).p (by kernel_rfl) (wanted_of (by kernel_rfl)) (by kernel_rfl) (After.refl W) rfl hK
            · intro vs W hE hd K hK
              have hE' : After wr W := hself.trans hE
              exact do_rp (v := sv) (Sp.lit sv).p (by kernel_rfl) (wanted_of (by kernel_rfl)) (run_ld_ss (x := .tmp 36) (u := vs 0) (by kernel_rfl) (by kernel_rfl) (hd 0 (by kernel_rfl)) (cell_of_heap (i := 0) (hE'.heap HBOX.out))) (After.refl W) rfl hK
            · intro vs W hE hd K hK
              have hE' : After wr W := hself.trans hE
              exact do_rp (v := .slice ae ne ce) (Sp.lit (.slice ae ne ce)).p (by kernel_rfl) (wanted_of (by kernel_rfl)) (by kernel_rfl) (After.refl W) rfl hK
            · intro vs W hE hd K hK
              have hE' : After wr W := hself.trans hE
              exact do_rp (v := .slice ag ng cg) (Sp.lit (.slice ag ng cg)).p (by kernel_rfl) (wanted_of (by kernel_rfl)) (by kernel_rfl) (After.refl W) rfl hK
            · intro vs W hE hd K hK
              have hE' : After wr W := hself.trans hE
              exact do_cp (Sp.row wr.heap.size z).p (by kernel_rfl) (wanted_of (by kernel_rfl)) (f := 43) (args := #[vs 2, vs 3]) (by kernel_rfl) (by rw [show vs 2 = .slice ae ne ce from hd 2 (by kernel_rfl), show vs 3 = .slice ag ng cg from hd 3 (by kernel_rfl)]; exact (HPT.out W (HA1R.out.trans hE')).mono fun e w' ⟨v, he, ha, hr⟩ => ⟨v, he, ha, own_mono hr hE'.size⟩) hK
            · intro vs W hE hd K hK
              have hE' : After wr W := hself.trans hE
              have h4 : W.ownsRow wr.heap.size 9 1 (vs 4) z.length (z.map str) := hd 4 (by kernel_rfl)
              obtain ⟨ao4, n4, c4, e4⟩ := own_form h4
              exact do_rp (Sp.rows wr.heap.size z).p (by kernel_rfl) (wanted_of (by kernel_rfl)) (run_rows1 (x := .tmp 40) (u := vs 4) (by kernel_rfl) (by kernel_rfl) e4) (After.new _ _) ⟨_, _, rfl, heap_new' _ _, rfl, by rw [← e4]; exact own_later h4 (After.new _ _)⟩ hK
            intro vs W hE hd
            have hE' : After wr W := hself.trans hE
            obtain ⟨b2, rv, eb2, hb2, _, hrow⟩ := hd 5 (by decide)
            refine tail_push2 (wr := wr) (m := 6) (q := q) (base := q) (b2 := b2) (sv := sv) (s := .tmp 37) (x := .tmp 41) (t := .tmp 9) (y := .tmp 43) (z := .tmp 42) (d7 := 42) (d8 := 43) (rv := rv)
              (by kernel_rfl) (by kernel_rfl) (by kernel_rfl) (by kernel_rfl) (by kernel_rfl) (by kernel_rfl) (by kernel_rfl) (by kernel_rfl) (by kernel_rfl) (by kernel_rfl) (by kernel_rfl) (by kernel_rfl)
              (Eq.trans (by kernel_rfl : _ = vs 1) (hd 1 (by decide))) (Eq.trans (by kernel_rfl : _ = vs 5) eb2) (fun v => by kernel_rfl) (fun v => by kernel_rfl) (fun v => by kernel_rfl) HOWN.out hE' HQS.out HLN.out (Nat.le_refl _) HBOX.out hrow hb2 (fun g cap w9 hown9 hbox9 hb9 => ?_)
            refine hKK _ _ ?_
            rw [frame_from 36 8 (by kernel_rfl) (by kernel_rfl) (by kernel_rfl), lit2_50_36_8]
            clear hd eb2 hb2 hrow
            generalize vs 0 = y0 at *
            generalize vs 1 = y1 at *
            generalize vs 2 = y2 at *
            generalize vs 3 = y3 at *
            generalize vs 4 = y4 at *
            generalize vs 5 = y5 at *
            go_wp2_with fail
            go_roundw
            case rel =>
              refine ⟨j + 1, _, by go_num, by omega, hbox9, ?_, ?_⟩
              · show OwnSS _ _ _ _
                rw [HRW.out]
                exact hown9
              · show After _ _
                exact Below.trans HA1R.out (hb9.mono (by rw [HQ.out]; exact Nat.le_refl _))
            case measure => simp [intOf]; omega
          · obtain rfl : j = m := by omega
            go_wp2_with fail
            go_roundw
            case rel => exact ⟨i + 1, sv, by go_num, by omega, HBOX, by show OwnSS _ _ _ _; rw [← HNXT.out]; rw [HMM.out] at HOWN ⊢; exact HOWN.out, HA1R⟩
            case measure => simp [intOf]; omega
      · obtain rfl : i = n := by omega
        have hD : ∀ zs v, zs = Asm.pairA a b → OwnSS wr q v zs → OwnSS wr q v (Asm.pairA a b) := fun zs v e h => e ▸ h
        have HO := Lib.hid (hD _ _ HEND.out HOWN0.out)
        have hv := HVAL.out wr sv0 (HO.out.ssu (Nat.zero_le _))
        obtain ⟨ao, cap, rfl⟩ := HO.out.form
        obtain ⟨p0, p1', p2'⟩ := one_facts HBOX0.out (After.refl _)
        have hfin := fun W h1 h2 => HFIN.out W (.slice ao (Asm.pairA a b).length cap) h1 h2
        clear hD HOWN0
        go_wp2_with fail
        refine hv.mono ?_
        rintro e w3 ⟨rfl, hb3⟩
        have hres3 := (HA10.out.trans hb3).heap HRES1.out
        obtain ⟨r0, r1, r2⟩ := one_facts hres3 (After.refl _)
        have HRS := Lib.hid hres3
        have hA3 := HAW1.out.trans (HA10.out.trans hb3)
        have HOW : Hid (OwnSS w3 w.heap.size (.slice ao (Asm.pairA a b).length cap) (Asm.pairA a b)) := OwnSS.less (HO.out.later hb3) (by have := hsz1; rw [HQ.out]; omega)
        generalize hRB : Asm.ok (Asm.pairA a b) = rb at *
        generalize (Asm.pairA a b).length = L at *
        have hset : ∀ v, OwnSS (w3.setCell ⟨w.heap.size + 1 + 1, 0, none⟩ v) w.heap.size (.slice ao L cap) (Asm.pairA a b) ∧ After w (w3.setCell ⟨w.heap.size + 1 + 1, 0, none⟩ v) := fun v => ⟨HOW.out.keptT fun b' cs T fr hT hb' => by
          rw [Below.heap_setCell _ _ _ _ (fun e => by have e' : b' = w.heap.size + 1 + 1 := e; subst e'; rw [HRS.out] at hb'; injection hb' with hb'; injection hb' with _ hb' _; exact hT hb'.symm)]
          exact hb', Below.setCell hA3 (by show w.heap.size ≤ w.heap.size + 1 + 1; omega) v⟩
        have HSET := Lib.hid hset
        clear p0 p1' p2' hres3 hset hRB hv
        cases rb
        all_goals
          go_wp2_with fail
          refine bodyPost_ret (v := .tuple #[.agg #[_], .bool _]) (by simp [results, Tryz.results16, go_sem, r0]) rfl (hfin _ (HSET.out _).1 (HSET.out _).2)
end Go.Proofs.YtidpkmkhcomcdaaGreat

namespace Go.Proofs.YtidpkmkhcomcdaaGreat
open Go.RowKit

set_option maxHeartbeats 2000000
set_option maxRecDepth 100000

namespace Asm
def rng (m : Nat) (ls : List Int) (k : Nat) : Bool := (List.range k).all fun j => decide (0 ≤ ls.getD j 0) && decide (ls.getD j 0 < (m : Int))
theorem rng_succ (m : Nat) (ls : List Int) (k : Nat) : rng m ls (k + 1) = (rng m ls k && (decide (0 ≤ ls.getD k 0) && decide (ls.getD k 0 < (m : Int)))) := by simp [rng, List.range_succ]
theorem rng_no {m : Nat} {ls : List Int} {k n : Nat} (h : (decide (0 ≤ ls.getD k 0) && decide (ls.getD k 0 < (m : Int))) = false) (hk : k < n) : rng m ls n = false := by
  rw [rng, List.all_eq_false]
  exact ⟨k, List.mem_range.2 hk, by rw [h]; decide⟩
def mapOk (a b : List (List Txt)) (ls : List Int) : Bool := (ok a && ok b) && (decide (ls.length = a.length) && rng b.length ls ls.length)
end Asm

def MapPost (w : World) (s3 : Value) (a b : List (List (List UInt8))) (ls : List Int) (e : Ending) (w' : World) : Prop :=
  ∃ o1 n1 c1 o2 n2 c2 o3 n3 c3, e = .returned (.tuple #[.agg #[.slice o1 n1 c1, .slice o2 n2 c2, .slice o3 n3 c3], .bool (Asm.mapOk a b ls)]) ∧ After w w' ∧ (Asm.mapOk a b ls = true → RowA w' 0 (.slice o1 n1 c1) a ∧ RowA w' 0 (.slice o2 n2 c2) b ∧ .slice o3 n3 c3 = s3)

theorem own_same {w W : World} {base size n : Nat} {E : TypeId} {v : Value} {vs : List Value} (hs : ∀ b, base ≤ b → b < w.heap.size → W.heap[b]? = w.heap[b]?) (h : w.ownsRow base E size v n vs) : W.ownsRow base E size v n vs := by
  refine ⟨h.1, ?_⟩
  rcases h.2 with h | ⟨g, cap, cur, h1, h2, h3, h4⟩
  · exact Or.inl h
  · exact Or.inr ⟨g, cap, cur, h1, h2, by rw [hs g h2 (Array.getElem?_eq_some_iff.1 h3).1]; exact h3, h4⟩
theorem RowA.same {w W : World} {base : Nat} {sv : Value} {a : List (List (List UInt8))} (h : RowA w base sv a) (hs : ∀ b, base ≤ b → b < w.heap.size → W.heap[b]? = w.heap[b]?) : RowA W base sv a := by
  obtain ⟨cs, ho, hc⟩ := h
  refine ⟨cs, own_same hs ho, fun j hj => ?_⟩
  obtain ⟨ev, h1, cs2, ho2, hc2⟩ := hc j hj
  refine ⟨ev, h1, cs2, own_same hs ho2, fun i hi => ?_⟩
  obtain ⟨T, v, t, g1, g2, g3, g4⟩ := hc2 i hi
  exact ⟨T, v, t, g1, g2, g3, g4.same hs⟩

theorem readMap_any (w : World) (s1 s2 s3 : Value) (a b : List (List (List UInt8))) (ls : List Int) (h1 : SSU 0 w s1 a) (h2 : SSU 0 w s2 b) (hl1 : Lens 1000000000 a) (hl2 : Lens 1000000000 b) (h3 : RowU 0 w s3 ls.length (fun j => .int .i64 (ls.getD j 0))) (hll : ls.length ≤ 1000000000) :
    Calls Tryz.prog 38 #[.agg #[s1], .agg #[s2], s3] w (MapPost w s3 a b ls) := by
  have hc1 := fun W (hW : After w W) => readTwo_any W s1 s2 a b (h1.later hW) (h2.later hW) hl1 hl2
  obtain ⟨p1, k1, rfl⟩ := h1.form
  obtain ⟨p2, k2, rfl⟩ := h2.form
  obtain ⟨p3, k3, rfl, h3at⟩ := h3
  unfold ReadTwoPost at hc1
  obtain ⟨os, hos⟩ : ∃ os : List Obj, os = [.cells #[.slice p1 a.length k1] 26, .cells #[.slice p2 b.length k2] 26, .cells #[.slice none 0 0, .slice none 0 0, .slice none 0 0] 64] := ⟨_, rfl⟩
  have hX : allocL w os = ((w.alloc (.cells #[.slice p1 a.length k1] 26)).alloc (.cells #[.slice p2 b.length k2] 26)).alloc (.cells #[.slice none 0 0, .slice none 0 0, .slice none 0 0] 64) := by rw [hos]; rfl
  have hA0 : After w (allocL w os) := allocL_below w os
  have hr0 : (allocL w os).heap[w.heap.size + 1 + 1]? = some (.cells #[.slice none 0 0, .slice none 0 0, .slice none 0 0] 64 (0, 0)) := by have := allocL_heap w os 2 (by rw [hos]; simp); simpa [hos] using this
  rw [hX] at hA0 hr0
  have hc := hc1 _ hA0
  have HR0 := Lib.hid hr0
  have HA0 := Lib.hid hA0
  have H3 := Lib.hid h3at
  obtain ⟨res, hres⟩ : ∃ res, res = Asm.mapOk a b ls := ⟨_, rfl⟩
  have hfail : res = false → ∀ W, After w W → MapPost w (.slice p3 ls.length k3) a b ls (.returned (.tuple #[.agg #[.slice none 0 0, .slice none 0 0, .slice none 0 0], .bool false])) W := fun h W hW => ⟨none, 0, 0, none, 0, 0, none, 0, 0, by rw [← hres, h], hW, fun e => by rw [← hres, h] at e; cases e⟩
  have hdone : res = true → ∀ W o1 n1 c1 o2 n2 c2, After w W → RowA W 0 (.slice o1 n1 c1) a → RowA W 0 (.slice o2 n2 c2) b → MapPost w (.slice p3 ls.length k3) a b ls (.returned (.tuple #[.agg #[.slice o1 n1 c1, .slice o2 n2 c2, .slice p3 ls.length k3], .bool true])) W := fun h W o1 n1 c1 o2 n2 c2 hW g1 g2 => ⟨o1, n1, c1, o2, n2, c2, p3, ls.length, k3, by rw [← hres, h], hW, fun _ => ⟨g1, g2, rfl⟩⟩
  have HFAIL := Lib.hid hfail
  have HDONE := Lib.hid hdone
  have HRES : Hid (res = ((Asm.ok a && Asm.ok b) && (decide (ls.length = a.length) && Asm.rng b.length ls ls.length))) := hres
  clear hc1 h1 h2 hX hos hr0 hA0 hfail hdone hres h3at
  have hset : ∀ W x y z, After w W → After w (((W.setCell ⟨w.heap.size + 1 + 1, 0, none⟩ x).setCell ⟨w.heap.size + 1 + 1, 1, none⟩ y).setCell ⟨w.heap.size + 1 + 1, 2, none⟩ z) := fun W x y z hW => Below.setCell (Below.setCell (Below.setCell hW (by show w.heap.size ≤ w.heap.size + 1 + 1; omega) _) (by show w.heap.size ≤ w.heap.size + 1 + 1; omega) _) (by show w.heap.size ≤ w.heap.size + 1 + 1; omega) _
  have HSET := Lib.hid hset
  have three : ∀ {W : World}, W.heap[w.heap.size + 1 + 1]? = some (.cells #[.slice none 0 0, .slice none 0 0, .slice none 0 0] 64 (0, 0)) → ∀ i, i < 3 → W.cell? ⟨w.heap.size + 1 + 1, i, none⟩ = some (.slice none 0 0) ∧ W.frozen? ⟨w.heap.size + 1 + 1, i, none⟩ = false := fun {W} h i hi => ⟨by rw [cell_of_heap h]; match i, hi with | 0, _ => rfl | 1, _ => rfl | 2, _ => rfl, by simp [World.frozen?, h]⟩
  have HTHREE : Hid (∀ {W : World}, W.heap[w.heap.size + 1 + 1]? = some (.cells #[.slice none 0 0, .slice none 0 0, .slice none 0 0] 64 (0, 0)) → ∀ i, i < 3 → W.cell? ⟨w.heap.size + 1 + 1, i, none⟩ = some (.slice none 0 0) ∧ W.frozen? ⟨w.heap.size + 1 + 1, i, none⟩ = false) := three
  clear hset three
  cases hok : (Asm.ok a && Asm.ok b) with
  | false =>
    have HF := Lib.hid (HFAIL.out (by rw [HRES.out, hok]; rfl))
    rw [hok] at hc
    clear hok HRES HDONE HFAIL H3
    generalize a.length = n at *
    generalize b.length = m at *
    generalize ls.length = l at *
    go_enter Tryz.func38, Tryz.ntmps38
    go_wp2_with fail
    refine hc.mono ?_
    rintro e w1 ⟨ao1, n1, c1, ao2, n2, c2, rfl, hb1, hv1⟩
    have hh := hb1.heap HR0.out
    obtain ⟨r0, f0⟩ := HTHREE.out hh 0 (by omega)
    obtain ⟨r1, f1⟩ := HTHREE.out hh 1 (by omega)
    obtain ⟨r2, f2⟩ := HTHREE.out hh 2 (by omega)
    have hz : w.heap.size + 1 + 1 < w1.heap.size := (Array.getElem?_eq_some_iff.1 hh).1
    clear hc hv1 hh
    go_wp2_with fail
    refine bodyPost_ret (v := .tuple #[.agg #[.slice none 0 0, .slice none 0 0, .slice none 0 0], .bool false]) (by simp [results, Tryz.results38, go_sem, r0, r1, r2]) rfl (HF.out _ (HSET.out _ _ _ _ (HA0.out.trans hb1)))
  | true =>
    have hsucc := fun k => Asm.rng_succ b.length ls k
    have hno := fun k (hk : k < ls.length) h => Asm.rng_no (m := b.length) (ls := ls) (k := k) h hk
    have h0 : Asm.rng b.length ls 0 = true := rfl
    have HR2 : Hid (res = (decide (ls.length = a.length) && Asm.rng b.length ls ls.length)) := by show _ = _; rw [HRES.out, hok]; rfl
    rw [hok] at hc
    clear hok HRES
    obtain ⟨n, hn⟩ : ∃ n, n = a.length := ⟨_, rfl⟩
    obtain ⟨m, hm⟩ : ∃ m, m = b.length := ⟨_, rfl⟩
    obtain ⟨l, hl⟩ : ∃ l, l = ls.length := ⟨_, rfl⟩
    rw [← hn] at hc HR0 HA0 HR2 ⊢
    rw [← hm] at hc HR0 HA0 HR2 hsucc hno h0 ⊢
    rw [← hl] at HR2 H3 hno hll HFAIL HDONE ⊢
    have HSUCC := Lib.hid hsucc
    have HNO := Lib.hid hno
    have HN := Lib.hid hn
    have HM := Lib.hid hm
    have HST := Lib.hid h0
    clear hsucc hno h0 hn hm hl hl1 hl2
    go_enter Tryz.func38, Tryz.ntmps38
    go_wp2_with fail
    refine hc.mono ?_
    rintro e w1 ⟨ao1, n1, c1, ao2, n2, c2, rfl, hb1, hv1⟩
    obtain ⟨hra, hrb⟩ := hv1 (by trivial)
    have e1 : n1 = a.length := by obtain ⟨_, _, e⟩ := hra.form; injection e
    have e2 : n2 = b.length := by obtain ⟨_, _, e⟩ := hrb.form; injection e
    rw [← HN.out] at e1
    rw [← HM.out] at e2
    replace e1 := e1.symm
    replace e2 := e2.symm
    subst e1
    subst e2
    have HRA := Lib.hid (hra.less (base' := w.heap.size + 1 + 1 + 1) (by simp))
    have HRB := Lib.hid (hrb.less (base' := w.heap.size + 1 + 1 + 1) (by simp))
    have HA1 := Lib.hid (HA0.out.trans hb1)
    have hh := hb1.heap HR0.out
    have HH := Lib.hid hh
    obtain ⟨r0, f0⟩ := HTHREE.out hh 0 (by omega)
    obtain ⟨r1, f1⟩ := HTHREE.out hh 1 (by omega)
    obtain ⟨r2, f2⟩ := HTHREE.out hh 2 (by omega)
    have hz : w.heap.size + 1 + 1 < w1.heap.size := (Array.getElem?_eq_some_iff.1 hh).1
    clear hc hv1 hra hrb hh hb1
    by_cases hln : l = n
    · subst hln
      have HR3 : Hid (res = Asm.rng m ls l) := by show _ = _; rw [HR2.out]; simp
      clear r0 r1 r2 f0 f1 f2 hz HR2
      go_wp2_with fail
      go_loopw [32] (fun i wr => ∃ k : Nat, i = .int .i64 k ∧ k ≤ l ∧ Hid (Asm.rng m ls k = true) ∧ Hid (After w1 wr)) (fun i _ => l - (intOf i).toNat)
      case atStart => exact ⟨0, rfl, Nat.zero_le _, HST, by show After _ _; exact After.refl _⟩
      case round =>
        obtain ⟨k, rfl, hk, hpf, hA⟩ := hrel
        have hh := hA.out.heap HH.out
        obtain ⟨r0, f0⟩ := HTHREE.out hh 0 (by omega)
        obtain ⟨r1, f1⟩ := HTHREE.out hh 1 (by omega)
        obtain ⟨r2, f2⟩ := HTHREE.out hh 2 (by omega)
        have hz : w.heap.size + 1 + 1 < wr.heap.size := (Array.getElem?_eq_some_iff.1 hh).1
        clear hh HST
        by_cases hlt : k < l
        · obtain ⟨b3, off3, rfl, _, c3⟩ := H3.out k hlt
          replace c3 := (HA1.out.trans hA.out).cell c3
          have hsu := HSUCC.out k
          have hno := HNO.out k hlt
          generalize ls.getD k 0 = v at c3 hsu hno
          have HSU := Lib.hid hsu
          have HNO2 := Lib.hid hno
          have hlt' : (k : Int) < (l : Int) := by omega
          clear hsu hno
          by_cases hneg : v < 0
          · have HF := Lib.hid (HFAIL.out (by rw [HR3.out]; exact HNO2.out (by rw [decide_eq_false (by omega : ¬ 0 ≤ v)]; rfl)))
            go_wp2_with fail
            refine bodyPost_ret (v := .tuple #[.agg #[.slice none 0 0, .slice none 0 0, .slice none 0 0], .bool false]) (by simp [results, Tryz.results38, go_sem, r0, r1, r2]) rfl (HF.out _ (HSET.out _ _ _ _ (HA1.out.trans hA.out)))
          · by_cases hge : v < (m : Int)
            · have HNX : Hid (Asm.rng m ls (k + 1) = true) := by show _ = _; rw [HSU.out, hpf.out, decide_eq_true (by omega : 0 ≤ v), decide_eq_true hge]; rfl
              clear hpf
              go_wp2_with fail
              go_roundw
              case rel => exact ⟨k + 1, by go_num, by omega, HNX, hA⟩
              case measure => simp [intOf]; omega
            · have HF := Lib.hid (HFAIL.out (by rw [HR3.out]; exact HNO2.out (by rw [decide_eq_false hge, Bool.and_false])))
              go_wp2_with fail
              refine bodyPost_ret (v := .tuple #[.agg #[.slice none 0 0, .slice none 0 0, .slice none 0 0], .bool false]) (by simp [results, Tryz.results38, go_sem, r0, r1, r2]) rfl (HF.out _ (HSET.out _ _ _ _ (HA1.out.trans hA.out)))
        · obtain rfl : k = l := by omega
          have HD := Lib.hid (HDONE.out (by rw [HR3.out]; exact hpf.out))
          have hset : ∀ x y z, RowA (((wr.setCell ⟨w.heap.size + 1 + 1, 0, none⟩ x).setCell ⟨w.heap.size + 1 + 1, 1, none⟩ y).setCell ⟨w.heap.size + 1 + 1, 2, none⟩ z) 0 (.slice ao1 k c1) a ∧ RowA (((wr.setCell ⟨w.heap.size + 1 + 1, 0, none⟩ x).setCell ⟨w.heap.size + 1 + 1, 1, none⟩ y).setCell ⟨w.heap.size + 1 + 1, 2, none⟩ z) 0 (.slice ao2 m c2) b := fun x y z => by
            have hs : ∀ q, w.heap.size + 1 + 1 + 1 ≤ q → q < wr.heap.size → (((wr.setCell ⟨w.heap.size + 1 + 1, 0, none⟩ x).setCell ⟨w.heap.size + 1 + 1, 1, none⟩ y).setCell ⟨w.heap.size + 1 + 1, 2, none⟩ z).heap[q]? = wr.heap[q]? := fun q h1 _ => by
              have hne : ∀ i, (⟨w.heap.size + 1 + 1, i, none⟩ : Addr).block ≠ q := fun i e => by have e' : w.heap.size + 1 + 1 = q := e; omega
              rw [Below.heap_setCell _ _ _ _ (fun e => hne 2 e.symm), Below.heap_setCell _ _ _ _ (fun e => hne 1 e.symm), Below.heap_setCell _ _ _ _ (fun e => hne 0 e.symm)]
            exact ⟨((HRA.out.later hA.out).same hs).less (Nat.zero_le _), ((HRB.out.later hA.out).same hs).less (Nat.zero_le _)⟩
          have HSS := Lib.hid hset
          clear hset hpf
          go_wp2_with fail
          refine bodyPost_ret (v := .tuple #[.agg #[.slice ao1 k c1, .slice ao2 m c2, .slice p3 k k3], .bool true]) (by simp [results, Tryz.results38, go_sem, r0, r1, r2]) rfl (HD.out _ _ _ _ _ _ _ (HSET.out _ _ _ _ (HA1.out.trans hA.out)) (HSS.out _ _ _).1 (HSS.out _ _ _).2)
    · have hne : ((l : Int) == (n : Int)) = false := beq_eq_false_iff_ne.2 (by omega)
      have HF := Lib.hid (HFAIL.out (by rw [HR2.out, decide_eq_false hln]; rfl))
      go_wp2_with fail
      refine bodyPost_ret (v := .tuple #[.agg #[.slice none 0 0, .slice none 0 0, .slice none 0 0], .bool false]) (by simp [results, Tryz.results38, go_sem, r0, r1, r2]) rfl (HF.out _ (HSET.out _ _ _ _ HA1.out))
end Go.Proofs.YtidpkmkhcomcdaaGreat

namespace Go.Proofs.YtidpkmkhcomcdaaGreat
open Go.RowKit

set_option maxHeartbeats 2000000
set_option maxRecDepth 100000

namespace Asm
def nats (ls : List Int) : List Nat := ls.map Int.toNat
def pTrackIs (a b : List (List Txt)) (ls : List Int) (l : Txt) : Bool := mapOk a b ls && (match Tm.closedOf l with
  | some t => trks t a b (nats ls) a.length
  | none => false)
theorem rng_at {m : Nat} {ls : List Int} {k : Nat} (h : rng m ls k = true) {j : Nat} (hj : j < k) : 0 ≤ ls.getD j 0 ∧ ls.getD j 0 < (m : Int) := by
  rw [rng, List.all_eq_true] at h
  have := h j (List.mem_range.2 hj)
  rw [Bool.and_eq_true, decide_eq_true_eq, decide_eq_true_eq] at this
  exact this
theorem nats_at {ls : List Int} {j : Nat} (hj : j < ls.length) (h : 0 ≤ ls.getD j 0) : (((nats ls).getD j 0 : Nat) : Int) = ls.getD j 0 := by
  have e : ls.getD j 0 = ls[j] := by simp [List.getD, hj]
  have e2 : (nats ls).getD j 0 = (ls[j]).toNat := by simp [nats, List.getD, hj]
  rw [e] at h ⊢
  rw [e2]
  omega
end Asm

theorem impl_trackIs (w : World) (s1 s2 s3 : Value) (a b : List (List (List UInt8))) (ls : List Int) (l : List UInt8) (h1 : SSU 0 w s1 a) (h2 : SSU 0 w s2 b) (hl1 : Lens 1000000000 a) (hl2 : Lens 1000000000 b) (h3 : RowU 0 w s3 ls.length (fun j => .int .i64 (ls.getD j 0))) (hll : ls.length ≤ 1000000000) (hl : l.length ≤ 1000000000) :
    Calls Tryz.prog 14 #[.agg #[s1], .agg #[s2], s3, str l] w fun e w' => e = .returned (.bool (Asm.pTrackIs a b ls l)) ∧ After w w' := by
  have hc1 := fun W (hW : After w W) => readMap_any W s1 s2 s3 a b ls (h1.later hW) (h2.later hW) hl1 hl2 (RowU.later h3 hW) hll
  have hrd := fun W (hW : After w W) => readClosed_any W 0 l (Nat.zero_le _) hl
  unfold MapPost at hc1
  obtain ⟨p1, k1, rfl⟩ := h1.form
  obtain ⟨p2, k2, rfl⟩ := h2.form
  obtain ⟨p3, k3, rfl, h3at⟩ := h3
  obtain ⟨os, hos⟩ : ∃ os : List Obj, os = [.cells #[.slice p1 a.length k1] 26, .cells #[.slice p2 b.length k2] 26] := ⟨_, rfl⟩
  have hX : allocL w os = (w.alloc (.cells #[.slice p1 a.length k1] 26)).alloc (.cells #[.slice p2 b.length k2] 26) := by rw [hos]; rfl
  have hA0 : After w (allocL w os) := allocL_below w os
  rw [hX] at hA0
  have hc := hc1 _ hA0
  have HA0 := Lib.hid hA0
  have HRD := Lib.hid hrd
  have H3 := Lib.hid h3at
  obtain ⟨res, hres⟩ : ∃ res, res = Asm.pTrackIs a b ls l := ⟨_, rfl⟩
  rw [← hres]
  have HRES : Hid (res = (Asm.mapOk a b ls && (match Tm.closedOf l with
    | some t => Asm.trks t a b (Asm.nats ls) a.length
    | none => false))) := hres
  clear hc1 hrd h1 h2 hX hos hA0 hres h3at
  cases hok : Asm.mapOk a b ls with
  | false =>
    have HF : Hid (res = false) := by show _ = _; rw [HRES.out, hok]; rfl
    rw [hok] at hc
    clear hok HRES
    generalize a.length = n at *
    generalize b.length = m at *
    generalize ls.length = q at *
    go_enter Tryz.func14, Tryz.ntmps14
    go_wp2_with fail
    refine hc.mono ?_
    rintro e w1 ⟨o1, n1, c1, o2, n2, c2, o3, n3, c3, rfl, hb1, hv1⟩
    have hn1 := After.new w1 (.cells #[.slice o1 n1 c1, .slice o2 n2 c2, .slice o3 n3 c3] 64)
    have HA1 := Lib.hid ((HA0.out.trans hb1).trans hn1)
    clear hc hv1 hn1
    go_wp2_with fail
    go_ret
    exact ⟨by rw [HF.out]; rfl, HA1.out⟩
  | true =>
    have hoks := hok
    simp only [Asm.mapOk, Bool.and_eq_true, decide_eq_true_eq] at hoks
    obtain ⟨⟨hoa, hob⟩, hlen, hrng⟩ := hoks
    obtain ⟨a1, a2, a3⟩ := Asm.ok_facts hoa
    obtain ⟨b1, b2, b3⟩ := Asm.ok_facts hob
    have hb1' : 1 ≤ b.length := by
      simp only [Asm.ok, Bool.and_eq_true, decide_eq_true_eq] at hob
      exact hob.1.1
    have hR2 : res = (match Tm.closedOf l with
      | some t => Asm.trks t a b (Asm.nats ls) a.length
      | none => false) := by rw [HRES.out, hok]; rfl
    have htr : ∀ W t tv v1 v2, After w W → RowA W 0 v1 a → RowA W 0 v2 b → TV W 0 t tv → t.good = true → t.size ≤ 1000000 → Calls Tryz.prog 40 #[.agg #[v1, v2, .slice p3 ls.length k3], tv] W fun e w' => e = .returned (.bool (Asm.trks t a b (Asm.nats ls) a.length)) ∧ After W w' := fun W t tv v1 v2 hW g1 g2 g3 g4 g5 =>
      trackedBy_any W v1 v2 _ tv a b (Asm.nats ls) t g1 g2 ⟨p3, k3, by simp [Asm.nats], fun j hj => by
        have hj' : j < ls.length := by simpa [Asm.nats] using hj
        obtain ⟨b', off, e, ⟨q1, q2, q3⟩, q4⟩ := H3.out j hj'
        exact ⟨b', off, e, ⟨Nat.zero_le _, by simpa [Asm.nats] using q2, q3⟩, by show W.cell? _ = some (.int .i64 (((Asm.nats ls).getD j 0 : Nat) : Int)); rw [Asm.nats_at hj' (Asm.rng_at hrng hj').1]; exact hW.cell q4⟩⟩ (by simpa [Asm.nats] using hlen) g3 g4 g5 a1 (fun j hj => by have := a2 j hj; omega) hb1' b1 (fun j hj => by have := b2 j hj; omega)
    rw [hok] at hc
    have HTR := Lib.hid htr
    have HR2 := Lib.hid hR2
    clear hok HRES htr hR2 hoa hob hlen hrng a1 a2 a3 b1 b2 b3 hb1' H3
    generalize a.length = n at *
    generalize b.length = m at *
    generalize ls.length = q at *
    go_enter Tryz.func14, Tryz.ntmps14
    go_wp2_with fail
    refine hc.mono ?_
    rintro e w1 ⟨o1, n1, c1, o2, n2, c2, o3, n3, c3, rfl, hb1, hv1⟩
    obtain ⟨hra, hrb, e3⟩ := hv1 (by trivial)
    injection e3 with e31 e32 e33
    subst e31 e32 e33
    have hn1 := After.new w1 (.cells #[.slice o1 n1 c1, .slice o2 n2 c2, .slice o3 n3 c3] 64)
    have hbox := heap_new' w1 (.cells #[.slice o1 n1 c1, .slice o2 n2 c2, .slice o3 n3 c3] 64)
    have HA1 := Lib.hid ((HA0.out.trans hb1).trans hn1)
    have HBOX := Lib.hid hbox
    have HRA := Lib.hid (hra.later hn1)
    have HRB := Lib.hid (hrb.later hn1)
    have hrd := HRD.out _ ((HA0.out.trans hb1).trans hn1)
    unfold DataPost at hrd
    clear hc hv1 hn1 hra hrb hbox hb1
    cases hcl : Tm.closedOf l with
    | none =>
      have HF : Hid (res = false) := by show _ = _; rw [HR2.out, hcl]
      rw [hcl] at hrd
      clear hcl HR2
      go_wp2_with fail
      refine hrd.mono ?_
      rintro e w2 ⟨v2, rfl, hb2, hv2⟩
      clear hrd hv2
      go_wp2_with fail
      go_ret
      exact ⟨by rw [HF.out]; rfl, HA1.out.trans hb2⟩
    | some t =>
      have HF : Hid (res = Asm.trks t a b (Asm.nats ls) n) := by show _ = _; rw [HR2.out, hcl]
      obtain ⟨hg, hf, hsz, _, _⟩ := Tm.parse_facts (Tm.closed_facts hcl).1
      have hfs := (fits_size hf).1
      rw [hcl] at hrd
      clear hcl HR2
      go_wp2_with fail
      refine hrd.mono ?_
      rintro e w2 ⟨v2, rfl, hb2, hv2⟩
      have htv := hv2 t rfl
      have htr := HTR.out w2 t v2 _ _ (HA1.out.trans hb2) (HRA.out.later hb2) (HRB.out.later hb2) htv hg (by omega)
      have hh := After.heap hb2 HBOX.out
      obtain ⟨x0, x1, x2⟩ : w2.cell? ⟨w1.heap.size, 0, none⟩ = some (.slice o1 n1 c1) ∧ w2.cell? ⟨w1.heap.size, 1, none⟩ = some (.slice o2 n2 c2) ∧ w2.cell? ⟨w1.heap.size, 2, none⟩ = some (.slice o3 n3 c3) := ⟨cell_of_heap (i := 0) hh, cell_of_heap (i := 1) hh, cell_of_heap (i := 2) hh⟩
      rw [← HF.out] at htr
      clear hrd hv2 htv hh hg hf hsz
      go_wp2_with (go_at_call 40; refine htr.mono ?_; rintro e w3 ⟨rfl, hb3⟩)
      go_ret
      exact ⟨rfl, (HA1.out.trans hb2).trans hb3⟩
end Go.Proofs.YtidpkmkhcomcdaaGreat

namespace Go.Proofs.YtidpkmkhcomcdaaGreat
open Go.RowKit

set_option maxHeartbeats 1000000
set_option maxRecDepth 100000

def SOne' (w : World) (r : Option (List UInt8)) (e : Ending) (w' : World) : Prop :=
  e = .returned (.tuple #[str (r.getD []), .bool r.isSome]) ∧ After w w'

end Go.Proofs.YtidpkmkhcomcdaaGreat

namespace Go.Proofs.YtidpkmkhcomcdaaGreat

theorem pApply_end' (l m : List UInt8) : Tm.pApply l m = match Tm.parse l, Tm.parse m with
  | some t, some u => (Tm.endOf (.app t u)).map Tm.text
  | _, _ => none := by
  unfold Tm.pApply Tm.endOf
  split
  · rename_i t u h1 h2
    simp only [h1, h2]
    split
    · cases ((t.app u).norm) <;> rfl
    · rfl
  · rename_i h
    split
    · rename_i t u h1 h2; exact absurd h2 (h t u h1)
    · rfl
namespace Asm
theorem hit_apply {l x : Txt} {t : Tm} {row : List Txt} (hl : Tm.closedOf l = some t) (hx : (rz x).isSome = true) : hit t x row = (match Tm.pApply l x with
    | some y => decide (y ∈ row)
    | none => false) := by
  obtain ⟨u, hu⟩ := Option.isSome_iff_exists.1 hx
  obtain ⟨h1, _, _, h4⟩ := rz_facts hu
  rw [pApply_end', (Tm.closed_facts hl).1, (Tm.closed_facts h4).1, hit, h1]
  simp only
  generalize Tm.endOf (t.app u) = r
  cases r <;> rfl
theorem trk_all {t : Tm} {a b : List (List Txt)} {ls : List Nat} {i : Nat} (h : ls.getD i 0 < b.length) : trk t a b ls i = (a.getD i []).all fun x => hit t x (b.getD (ls.getD i 0) []) := by
  rw [trk, lefts]
  simp only [List.mem_filter, List.mem_range, h, true_and]
  cases hall : (a.getD i []).all fun x => hit t x (b.getD (ls.getD i 0) []) <;> simp
end Asm
end Go.Proofs.YtidpkmkhcomcdaaGreat

namespace Go.Proofs.YtidpkmkhcomcdaaGreat
open Go.RowKit

set_option maxHeartbeats 2000000
set_option maxRecDepth 100000

namespace Asm
theorem rz_text {t : Tm} (hg : t.good = true) (hf : t.fits = true) (hn : Tm.names [] t = []) (hm : t.normal = true) (hs : t.size ≤ 60) : rz t.text = some t := by
  unfold rz Tm.closedOf
  rw [Tm.parse_text hg hf]
  simp only
  rw [if_pos (by rw [hn]; rfl)]
  simp only
  rw [if_pos ⟨hm, hs⟩]
theorem rz_k : rz (Tm.text .k) = some .k := rz_text (by decide) (by decide) (by decide) (by decide) (by decide)
theorem rz_no : rz (Tm.text Tm.no) = some Tm.no := rz_text (by decide) (by decide) (by decide) (by decide) (by decide)
end Asm

theorem TV.ifc {w : World} {B : Nat} {t : Tm} {v : Value} (h : TV w B t v) : ∃ T x, v = .iface T x := by
  obtain ⟨T, x, e, _⟩ := h.asks
  exact ⟨T, x, e⟩

theorem writtenOf_any (w : World) (B : Nat) (t : Tm) (T : TypeId) (x : Value) (h : TV w B t (.iface T x)) (hg : t.good = true) (hl : t.text.length ≤ 1000000) :
    Calls Tryz.prog 50 #[.iface T x] w fun e w' => e = .returned (.agg #[.iface T x, str t.text]) ∧ After w w' := by
  have hcall := fun W (hW : After w W) => textOf_any W B t _ (h.below hW) hg hl
  have hA0 := After.new w (.cells #[.nilIface, .string ⟨#[]⟩] 79)
  have hx0 := heap_new' w (.cells #[.nilIface, .string ⟨#[]⟩] 79)
  have hc := hcall _ hA0
  have HX := Lib.hid hx0
  have HA := Lib.hid hA0
  clear hcall h hA0 hx0
  generalize t.text = s at *
  go_enter Tryz.func50, Tryz.ntmps50
  go_wp2_with fail
  refine hc.mono ?_
  rintro e w1 ⟨rfl, hb1⟩
  have h1 := After.heap hb1 HX.out
  obtain ⟨r0, r1⟩ : w1.cell? ⟨w.heap.size, 0, none⟩ = some .nilIface ∧ w1.cell? ⟨w.heap.size, 1, none⟩ = some (.string ⟨#[]⟩) := ⟨cell_of_heap (i := 0) h1, cell_of_heap (i := 1) h1⟩
  have f0 : w1.frozen? ⟨w.heap.size, 0, none⟩ = false := by simp [World.frozen?, h1]
  have f1 : w1.frozen? ⟨w.heap.size, 1, none⟩ = false := by simp [World.frozen?, h1]
  have hz : w.heap.size < w1.heap.size := (Array.getElem?_eq_some_iff.1 h1).1
  clear hc h1
  go_wp2_with fail
  refine bodyPost_ret (v := .agg #[.iface T x, str s]) (by simp [results, Tryz.results50, go_sem, r0, r1, str]) rfl ⟨rfl, ?_⟩
  exact Below.setCell (Below.setCell (After.trans HA.out hb1) (Nat.le_refl _) _) (Nat.le_refl _) _

section
variable {ops : Array Oper} {A : Act} {i : Nat} {w : World}
theorem run_rowe {x : Operand} {u a b : Value} (hop : (opAt ops i).op = .buildSlice 72 1 #[(0, x)]) (hx : A.eval x = u) (hu : u = .agg #[a, b]) :
    (execOp A.eval (opAt ops i)).run Tryz.prog w = .ok (.value (.slice (some ⟨w.heap.size, 0, none⟩) 1 1)) (w.alloc (.cells #[a, b] 79)) := by
  subst hu
  unfold execOp
  generalize A.eval = E at *
  simp only [hop]
  simp [go_sem, hx]
end

theorem rowe_new {w : World} {B : Nat} {t : Tm} {T : TypeId} {v : Value} {x : List UInt8} (h : TV w B t (.iface T v)) (hx : Asm.rz x = some t) (hB : B ≤ w.heap.size) :
    RowE (w.alloc (.cells #[.iface T v, str x] 79)) B (.slice (some ⟨w.heap.size, 0, none⟩) 1 1) [x] := by
  refine ⟨[.iface T v, str x], ⟨rfl, Or.inr ⟨w.heap.size, 1, #[.iface T v, str x], rfl, hB, heap_new' _ _, ?_⟩⟩, fun j hj => ?_⟩
  · exact ⟨by simp, by unfold maxLen; omega, rfl, rfl⟩
  · obtain rfl : j = 0 := by simp at hj; omega
    exact ⟨T, v, t, rfl, rfl, hx, h.below (After.new _ _)⟩

def Sp.wt (C : Nat) (t : Tm) : Sp := ⟨fun v w => ∃ T x, v = .agg #[.iface T x, str t.text] ∧ TV w C t (.iface T x), fun _ _ _ ⟨T, x, e, h⟩ ha => ⟨T, x, e, h.below ha⟩⟩
def Sp.rowE (C : Nat) (xs : List (List UInt8)) : Sp := ⟨fun v w => RowE w C v xs, fun _ _ _ h ha => h.later ha⟩
end Go.Proofs.YtidpkmkhcomcdaaGreat

namespace Go.Proofs.YtidpkmkhcomcdaaGreat
open Go.RowKit

set_option maxHeartbeats 2000000
set_option maxRecDepth 100000

namespace Asm
def sumA (a b : List (List Txt)) : List (List Txt) := a.map (prs [Tm.text .k]) ++ b.map (prs [Tm.text Tm.no])
def pSumA (a b : List (List Txt)) : Option (List (List Txt)) := if (ok a && ok b) = true then (if ok (sumA a b) = true then some (sumA a b) else none) else none
theorem sumA_lens {a b : List (List Txt)} (ha : ok a = true) (hb : ok b = true) : Lens 1000000 (sumA a b) := by
  obtain ⟨a1, a2, a3⟩ := ok_facts ha
  obtain ⟨b1, b2, b3⟩ := ok_facts hb
  refine ⟨by simp [sumA]; omega, fun ns hs => ?_⟩
  rw [sumA, List.mem_append, List.mem_map, List.mem_map] at hs
  have key : ∀ (xs : List Txt) (c : List (List Txt)) (x : Txt), xs ∈ c → (rz x).isSome = true → (∀ i, i < c.length → (c.getD i []).length ≤ 4) → (∀ i k, i < c.length → k < (c.getD i []).length → (rz ((c.getD i []).getD k [])).isSome = true) → (prs [x] xs).length ≤ 1000000 ∧ ∀ s ∈ prs [x] xs, s.length ≤ 1000000 := fun xs c x hx hz h4 hr => by
    obtain ⟨j, hj, rfl⟩ := List.getElem_of_mem hx
    have e : c.getD j [] = c[j] := by simp [List.getD, hj]
    have hx1 : ∀ k, k < [x].length → (rz ([x].getD k [])).isSome = true := fun k hk => by
      have e0 : k = 0 := by simpa using hk
      subst e0
      exact hz
    have h := prs_lens (xs := [x]) (ys := c[j]) (by simp) (by rw [← e]; exact h4 j hj) hx1 (fun k hk => by rw [← e] at hk ⊢; exact hr j k hj hk)
    exact ⟨by omega, fun s hs => by have := h.2 s hs; omega⟩
  rcases hs with ⟨xs, hx, rfl⟩ | ⟨xs, hx, rfl⟩
  · exact key xs a _ hx (by rw [rz_k]; rfl) a2 a3
  · exact key xs b _ hx (by rw [rz_no]; rfl) b2 b3
end Asm

theorem map_row {α β : Type} (P : List β) (f : α → β) (d : α) (xs : List α) (i : Nat) (hi : i < xs.length) : P ++ (xs.take (i + 1)).map f = (P ++ (xs.take i).map f) ++ [f (xs.getD i d)] := by
  rw [List.take_succ_eq_append_getElem hi, List.map_append, List.append_assoc]
  have : xs.getD i d = xs[i] := by simp [List.getD, hi]
  rw [this]
  rfl

theorem lit2_62_30_10 {x0 x1 x2 x3 x4 x5 x6 x7 x8 x9 x10 x11 x12 x13 x14 x15 x16 x17 x18 x19 x20 x21 x22 x23 x24 x25 x26 x27 x28 x29 x30 x31 x32 x33 x34 x35 x36 x37 x38 x39 x40 x41 x42 x43 x44 x45 x46 x47 x48 x49 x50 x51 x52 x53 x54 x55 x56 x57 x58 x59 x60 x61 u u' : Value} {d : List Deferred} {vs : Nat → Value} : ((putFrom ⟨#[x0, x1, x2, x3, x4, x5, x6, x7, x8, x9, x10, x11, x12, x13, x14, x15, x16, x17, x18, x19, x20, x21, x22, x23, x24, x25, x26, x27, x28, x29, x30, x31, x32, x33, x34, x35, x36, x37, x38, x39, x40, x41, x42, x43, x44, x45, x46, x47, x48, x49, x50, x51, x52, x53, x54, x55, x56, x57, x58, x59, x60, x61], d⟩ 30 vs 10).put (some 38) u).put (some 39) u' = ⟨#[x0, x1, x2, x3, x4, x5, x6, x7, x8, x9, x10, x11, x12, x13, x14, x15, x16, x17, x18, x19, x20, x21, x22, x23, x24, x25, x26, x27, x28, x29, vs 0, vs 1, vs 2, vs 3, vs 4, vs 5, vs 6, vs 7, u, u', x40, x41, x42, x43, x44, x45, x46, x47, x48, x49, x50, x51, x52, x53, x54, x55, x56, x57, x58, x59, x60, x61], d⟩ := by kernel_rfl
theorem lit2_62_47_10 {x0 x1 x2 x3 x4 x5 x6 x7 x8 x9 x10 x11 x12 x13 x14 x15 x16 x17 x18 x19 x20 x21 x22 x23 x24 x25 x26 x27 x28 x29 x30 x31 x32 x33 x34 x35 x36 x37 x38 x39 x40 x41 x42 x43 x44 x45 x46 x47 x48 x49 x50 x51 x52 x53 x54 x55 x56 x57 x58 x59 x60 x61 u u' : Value} {d : List Deferred} {vs : Nat → Value} : ((putFrom ⟨#[x0, x1, x2, x3, x4, x5, x6, x7, x8, x9, x10, x11, x12, x13, x14, x15, x16, x17, x18, x19, x20, x21, x22, x23, x24, x25, x26, x27, x28, x29, x30, x31, x32, x33, x34, x35, x36, x37, x38, x39, x40, x41, x42, x43, x44, x45, x46, x47, x48, x49, x50, x51, x52, x53, x54, x55, x56, x57, x58, x59, x60, x61], d⟩ 47 vs 10).put (some 55) u).put (some 56) u' = ⟨#[x0, x1, x2, x3, x4, x5, x6, x7, x8, x9, x10, x11, x12, x13, x14, x15, x16, x17, x18, x19, x20, x21, x22, x23, x24, x25, x26, x27, x28, x29, x30, x31, x32, x33, x34, x35, x36, x37, x38, x39, x40, x41, x42, x43, x44, x45, x46, vs 0, vs 1, vs 2, vs 3, vs 4, vs 5, vs 6, vs 7, u, u', x57, x58, x59, x60, x61], d⟩ := by kernel_rfl
theorem impl_sumA (w : World) (s1 s2 : Value) (a b : List (List (List UInt8))) (h1 : SSU 0 w s1 a) (h2 : SSU 0 w s2 b) (hl1 : Lens 1000000000 a) (hl2 : Lens 1000000000 b) :
    Calls Tryz.prog 24 #[.agg #[s1], .agg #[s2]] w (AsmOwn w (Asm.pSumA a b)) := by
  have hc1 := fun W (hW : After w W) => readTwo_any W s1 s2 a b (h1.later hW) (h2.later hW) hl1 hl2
  obtain ⟨p1, k1, rfl⟩ := h1.form
  obtain ⟨p2, k2, rfl⟩ := h2.form
  unfold ReadTwoPost at hc1
  obtain ⟨os, hos⟩ : ∃ os : List Obj, os = [.cells #[.slice p1 a.length k1] 26, .cells #[.slice p2 b.length k2] 26, .cells #[.slice none 0 0] 26] := ⟨_, rfl⟩
  have hX : allocL w os = ((w.alloc (.cells #[.slice p1 a.length k1] 26)).alloc (.cells #[.slice p2 b.length k2] 26)).alloc (.cells #[.slice none 0 0] 26) := by rw [hos]; rfl
  have hA0 : After w (allocL w os) := allocL_below w os
  have hr0 : (allocL w os).heap[w.heap.size + 1 + 1]? = some (.cells #[.slice none 0 0] 26 (0, 0)) := by have := allocL_heap w os 2 (by rw [hos]; simp); simpa [hos] using this
  rw [hX] at hA0 hr0
  have hc := hc1 _ hA0
  have HR0 := Lib.hid hr0
  have HA0 := Lib.hid hA0
  clear hc1 h1 h2 hX hos hr0 hA0
  cases hok : (Asm.ok a && Asm.ok b) with
  | false =>
    rw [show Asm.pSumA a b = none by unfold Asm.pSumA; rw [hok]; rfl]
    rw [hok] at hc
    clear hok
    generalize a.length = n at *
    generalize b.length = m at *
    go_enter Tryz.func24, Tryz.ntmps24
    go_wp2_with fail
    refine hc.mono ?_
    rintro e w1 ⟨ao1, n1, c1, ao2, n2, c2, rfl, hb1, hv1⟩
    obtain ⟨r0, r1, r2⟩ := one_facts HR0.out hb1
    clear hc hv1
    go_wp2_with fail
    refine bodyPost_ret (v := .tuple #[.agg #[.slice none 0 0], .bool false]) (by simp [results, Tryz.results24, go_sem, r0]) rfl ⟨_, rfl, OwnSS.nil _ _, ?_⟩
    exact Below.setCell (HA0.out.trans hb1) (by show w.heap.size ≤ w.heap.size + 1 + 1; omega) _
  | true =>
    obtain ⟨hoa, hob⟩ := Bool.and_eq_true_iff.1 hok
    obtain ⟨a1, a2, a3⟩ := Asm.ok_facts hoa
    obtain ⟨b1, b2, b3⟩ := Asm.ok_facts hob
    have hlens := Asm.sumA_lens hoa hob
    have hval := fun W sv (h : SSU 0 W sv (Asm.sumA a b)) => validOnly_any W sv (Asm.sumA a b) h ⟨by have := hlens.1; omega, fun ns hs => ⟨by have := (hlens.2 ns hs).1; omega, fun s h => by have := (hlens.2 ns hs).2 s h; omega⟩⟩
    rw [show Asm.pSumA a b = if Asm.ok (Asm.sumA a b) = true then some (Asm.sumA a b) else none by unfold Asm.pSumA; rw [hok]; rfl]
    have hfin : ∀ W sv, OwnSS W w.heap.size sv (Asm.sumA a b) → After w W → AsmOwn w (if Asm.ok (Asm.sumA a b) = true then some (Asm.sumA a b) else none) (.returned (.tuple #[.agg #[if Asm.ok (Asm.sumA a b) = true then sv else .slice none 0 0], .bool (Asm.ok (Asm.sumA a b))])) W := fun W sv ho hA => by
      cases Asm.ok (Asm.sumA a b) with
      | true => exact ⟨_, rfl, ho, hA⟩
      | false => exact ⟨_, rfl, OwnSS.nil _ _, hA⟩
    generalize (if Asm.ok (Asm.sumA a b) = true then some (Asm.sumA a b) else none) = R at hfin ⊢
    obtain ⟨As, hAs⟩ : ∃ As, As = a.map (Asm.prs [Tm.text .k]) := ⟨_, rfl⟩
    have hra1 := fun i hi => map_row [] (Asm.prs [Tm.text .k]) [] a i hi
    have hrb1 := fun i hi => map_row As (Asm.prs [Tm.text Tm.no]) [] b i hi
    have hla1 : ∀ i, i ≤ a.length → ((a.take i).map (Asm.prs [Tm.text .k])).length ≤ 1000 := fun i hi => by simp; omega
    have hlb1 : ∀ i, i ≤ b.length → (As ++ (b.take i).map (Asm.prs [Tm.text Tm.no])).length ≤ 1000 := fun i hi => by rw [hAs]; simp; omega
    have hend : As ++ (b.take b.length).map (Asm.prs [Tm.text Tm.no]) = Asm.sumA a b := by rw [List.take_length, hAs]; rfl
    simp only [List.nil_append] at hra1
    rw [hok] at hc
    clear hok hlens hoa hob
    obtain ⟨n, hn⟩ : ∃ n, n = a.length := ⟨_, rfl⟩
    obtain ⟨m, hm⟩ : ∃ m, m = b.length := ⟨_, rfl⟩
    rw [← hn] at hc HR0 HA0 hra1 hla1 a1 a2 ⊢
    rw [← hm] at hc HR0 HA0 hrb1 hlb1 hend b1 b2 ⊢
    have HCAR := Lib.hid hra1
    have HCAL := Lib.hid hla1
    have HCBR := Lib.hid hrb1
    have HCBL := Lib.hid hlb1
    have HEND := Lib.hid hend
    have HAS0 := Lib.hid hAs
    have HVAL := Lib.hid hval
    have HFIN := Lib.hid hfin
    have HCA4 := Lib.hid a2
    have HCB4 := Lib.hid b2
    have HNN := Lib.hid hn
    have HMM := Lib.hid hm
    clear hra1 hla1 hrb1 hlb1 hend hAs hval hfin a2 a3 b2 b3 hl1 hl2 hn hm
    go_enter Tryz.func24, Tryz.ntmps24
    go_wp2_with fail
    refine hc.mono ?_
    rintro e w1 ⟨ao1, n1, c1, ao2, n2, c2, rfl, hb1, hv1⟩
    obtain ⟨hra, hrb⟩ := hv1 (by trivial)
    have e1 : n1 = a.length := by obtain ⟨_, _, e⟩ := hra.form; injection e
    have e2 : n2 = b.length := by obtain ⟨_, _, e⟩ := hrb.form; injection e
    rw [← HNN.out] at e1
    rw [← HMM.out] at e2
    replace e1 := e1.symm
    replace e2 := e2.symm
    subst e1
    subst e2
    have hcA : ∀ i, i < n → ∃ g ev, ao1 = some ⟨g, 0, none⟩ ∧ w1.cell? ⟨g, i, none⟩ = some ev ∧ RowE w1 0 ev (a.getD i []) ∧ ∃ ao' n' c', ev = .slice ao' n' c' := fun i hi => by
      obtain ⟨g, cap, ev, e, q1, q2⟩ := hra.at i (by rw [← HNN.out]; exact hi)
      simp only [Value.slice.injEq] at e
      obtain ⟨_, c', e'⟩ := q2.form
      exact ⟨g, ev, e.1, q1, q2.less (Nat.zero_le _), _, _, _, e'⟩
    have hcB : ∀ i, i < m → ∃ g ev, ao2 = some ⟨g, 0, none⟩ ∧ w1.cell? ⟨g, i, none⟩ = some ev ∧ RowE w1 0 ev (b.getD i []) ∧ ∃ ao' n' c', ev = .slice ao' n' c' := fun i hi => by
      obtain ⟨g, cap, ev, e, q1, q2⟩ := hrb.at i (by rw [← HMM.out]; exact hi)
      simp only [Value.slice.injEq] at e
      obtain ⟨_, c', e'⟩ := q2.form
      exact ⟨g, ev, e.1, q1, q2.less (Nat.zero_le _), _, _, _, e'⟩
    have HCA := Lib.hid hcA
    have HCB := Lib.hid hcB
    have hAw1 := HA0.out.trans hb1
    have hnw := After.new w1 (.cells #[.slice none 0 0] 26)
    have hb0 := heap_new' w1 (.cells #[.slice none 0 0] 26)
    have hres1 := hb1.heap HR0.out
    have hsz1 : w.heap.size + 1 + 1 < w1.heap.size := (Array.getElem?_eq_some_iff.1 hres1).1
    have HAW1 := Lib.hid hAw1
    have HRES1 := Lib.hid hres1
    have HSTART : Hid (OwnSS (w1.alloc (.cells #[.slice none 0 0] 26)) w1.heap.size (.slice none 0 0) ((a.take 0).map (Asm.prs [Tm.text .k]))) := by show OwnSS _ _ _ _; exact OwnSS.nil _ _
    have HB0 := Lib.hid hb0
    have HNW := Lib.hid hnw
    clear hc hv1 hra hrb hcA hcB hAw1 hres1 hb0 hnw
    go_wp2_with fail
    obtain ⟨q, hq⟩ : ∃ q, q = w1.heap.size := ⟨_, rfl⟩
    simp only [← hq] at HB0 HSTART ⊢
    have HQ := Lib.hid hq
    clear hq
    generalize w1.alloc (.cells #[.slice none 0 0] 26) = w2 at *
    go_loopw [26] (fun i wr => ∃ (k : Nat) (sv : Value), i = .int .i64 k ∧ k ≤ n ∧ Hid (wr.heap[q]? = some (.cells #[sv] 26 (0, 0))) ∧ Hid (OwnSS wr q sv ((a.take k).map (Asm.prs [Tm.text .k]))) ∧ Hid (After w1 wr)) (fun i _ => n - (intOf i).toNat)
    case atStart => exact ⟨0, _, rfl, Nat.zero_le _, HB0, HSTART, HNW⟩
    case round =>
      obtain ⟨i, sv, rfl, hi, HBOX, HOWN, HA1R⟩ := hrel
      clear HB0 HSTART HNW
      by_cases hlt : i < n
      · obtain ⟨ga, eva, rfl, q1, q2, ae, ne, ce, rfl⟩ := HCA.out i hlt
        replace q1 := HA1R.out.cell q1
        have hlt' : (i : Int) < (n : Int) := by omega
        have hle4 := HCA4.out i hlt
        have hrw := HCAR.out i hlt
        have hlen := HCAL.out i hi
        obtain ⟨xs, hxs⟩ : ∃ xs, xs = a.getD i [] := ⟨_, rfl⟩
        rw [← hxs] at q2 hle4 hrw
        obtain ⟨z, hz⟩ : ∃ z, z = Asm.prs [Tm.text .k] xs := ⟨_, rfl⟩
        have HPT : Hid (∀ W v, After w1 W → ∀ C, RowE W C v [Tm.text .k] → Calls Tryz.prog 43 #[v, .slice ae ne ce] W fun e w' => ∃ v, e = .returned v ∧ After W w' ∧ RowS w' W.heap.size v z) := fun W v hW C h => by
          rw [hz]
          exact pairTexts_any W C 0 _ _ [Tm.text .k] xs h (q2.later hW) (by simp) hle4
        rw [← hz] at hrw
        obtain ⟨S, hS⟩ : ∃ S, S = (a.take i).map (Asm.prs [Tm.text .k]) := ⟨_, rfl⟩
        rw [← hS] at HOWN hrw hlen
        have HRW := Lib.hid hrw
        have HLN : Hid (S.length ≤ 1000000) := by show _ ≤ _; omega
        have HQS : Hid (q ≤ wr.heap.size) := by show _ ≤ _; have := (Array.getElem?_eq_some_iff.1 HBOX.out).1; omega
        have hself := (After.refl wr).drew
        clear q2 hrw hlen hS hz hxs
        go_wp2_with fail
        rename_i KK hKK
        refine wp_region_tail (m := 8) (k := 3) (f := 12) (by kernel_rfl) (by kernel_rfl) (by kernel_rfl) (by kernel_rfl) After After.refl (fun _ _ _ h g => h.trans g)
          (rl [Sp.lit (.pointer (some ⟨q, 0, none⟩)), Sp.lit (sv), Sp.tv wr.heap.size .k, Sp.wt wr.heap.size .k, Sp.rowE wr.heap.size [Tm.text .k], Sp.lit (.slice ae ne ce), Sp.row wr.heap.size z, Sp.rows wr.heap.size z]) rl_later (lt8 ?_ ?_ ?_ ?_ ?_ ?_ ?_ ?_) ?_
        · intro vs W hE hd K hK
          have hE' : After wr W := hself.trans hE
          exact do_rp (v := .pointer (some ⟨q, 0, none⟩)) (Sp.lit (.pointer (some ⟨q, 0, none⟩))).p (by kernel_rfl) (wanted_of (by kernel_rfl)) (by kernel_rfl) (After.refl W) rfl hK
        · intro vs W hE hd K hK
          have hE' : After wr W := hself.trans hE
          exact do_rp (v := sv) (Sp.lit (sv)).p (by kernel_rfl) (wanted_of (by kernel_rfl)) (run_ld_ss (x := .tmp 30) (u := vs 0) (by kernel_rfl) (by kernel_rfl) (hd 0 (by kernel_rfl)) (cell_of_heap (i := 0) (hE'.heap HBOX.out))) (After.refl W) rfl hK
        · intro vs W hE hd K hK
          have hE' : After wr W := hself.trans hE
          exact do_cp (Sp.tv wr.heap.size .k).p (by kernel_rfl) (wanted_of (by kernel_rfl)) (f := 51) (args := #[.bool true]) (by kernel_rfl) ((bit_any W wr.heap.size true hE'.size).mono fun e w' ⟨v, he, hb, ht⟩ => ⟨v, he, hb, ht⟩) hK
        · intro vs W hE hd K hK
          have hE' : After wr W := hself.trans hE
          have h2 : TV W wr.heap.size .k (vs 2) := hd 2 (by kernel_rfl)
          obtain ⟨T, y, e2⟩ := h2.ifc
          rw [e2] at h2
          exact do_cp (Sp.wt wr.heap.size .k).p (by kernel_rfl) (wanted_of (by kernel_rfl)) (f := 50) (args := #[vs 2]) (by kernel_rfl) (by rw [e2]; exact (writtenOf_any W wr.heap.size .k T y h2 (by decide) (by decide)).mono fun e w' ⟨he, hb⟩ => ⟨_, he, hb, T, y, rfl, h2.below hb⟩) hK
        · intro vs W hE hd K hK
          have hE' : After wr W := hself.trans hE
          obtain ⟨T, y, e3, h3⟩ : (Sp.wt wr.heap.size .k).p (vs 3) W := hd 3 (by kernel_rfl)
          exact do_rp (Sp.rowE wr.heap.size [Tm.text .k]).p (by kernel_rfl) (wanted_of (by kernel_rfl)) (run_rowe (x := .tmp 33) (u := vs 3) (by kernel_rfl) (by kernel_rfl) e3) (After.new _ _) (rowe_new h3 Asm.rz_k hE'.size) hK
        · intro vs W hE hd K hK
          have hE' : After wr W := hself.trans hE
          exact do_rp (v := .slice ae ne ce) (Sp.lit (.slice ae ne ce)).p (by kernel_rfl) (wanted_of (by kernel_rfl)) (by kernel_rfl) (After.refl W) rfl hK
        · intro vs W hE hd K hK
          have hE' : After wr W := hself.trans hE
          have h4 : RowE W wr.heap.size (vs 4) [Tm.text .k] := hd 4 (by kernel_rfl)
          exact do_cp (Sp.row wr.heap.size z).p (by kernel_rfl) (wanted_of (by kernel_rfl)) (f := 43) (args := #[vs 4, vs 5]) (by kernel_rfl) (by rw [show vs 5 = .slice ae ne ce from hd 5 (by kernel_rfl)]; exact (HPT.out W (vs 4) (HA1R.out.trans hE') wr.heap.size h4).mono fun e w' ⟨v, he, ha, hr⟩ => ⟨v, he, ha, own_mono hr hE'.size⟩) hK
        · intro vs W hE hd K hK
          have hE' : After wr W := hself.trans hE
          have h4 : W.ownsRow wr.heap.size 9 1 (vs 6) z.length (z.map str) := hd 6 (by kernel_rfl)
          obtain ⟨ao4, n4, c4, e4⟩ := own_form h4
          exact do_rp (Sp.rows wr.heap.size z).p (by kernel_rfl) (wanted_of (by kernel_rfl)) (run_rows1 (x := .tmp 36) (u := vs 6) (by kernel_rfl) (by kernel_rfl) e4) (After.new _ _) ⟨_, _, rfl, heap_new' _ _, rfl, by rw [← e4]; exact own_later h4 (After.new _ _)⟩ hK
        intro vs W hE hd
        have hE' : After wr W := hself.trans hE
        obtain ⟨b2, rv, eb2, hb2, _, hrow⟩ := hd 7 (by decide)
        refine tail_push2 (wr := wr) (m := 8) (q := q) (base := q) (b2 := b2) (sv := sv) (s := .tmp 31) (x := .tmp 37) (t := .tmp 9) (y := .tmp 39) (z := .tmp 38) (d7 := 38) (d8 := 39) (rv := rv)
          (by kernel_rfl) (by kernel_rfl) (by kernel_rfl) (by kernel_rfl) (by kernel_rfl) (by kernel_rfl) (by kernel_rfl) (by kernel_rfl) (by kernel_rfl) (by kernel_rfl) (by kernel_rfl) (by kernel_rfl)
          (Eq.trans (by kernel_rfl : _ = vs 1) (hd 1 (by decide))) (Eq.trans (by kernel_rfl : _ = vs 7) eb2) (fun v => by kernel_rfl) (fun v => by kernel_rfl) (fun v => by kernel_rfl) HOWN.out hE' HQS.out HLN.out (Nat.le_refl _) HBOX.out hrow hb2 (fun g cap w9 hown9 hbox9 hb9 => ?_)
        refine hKK _ _ ?_
        rw [frame_from 30 10 (by kernel_rfl) (by kernel_rfl) (by kernel_rfl), lit2_62_30_10]
        clear hd eb2 hb2 hrow
        generalize vs 0 = y0 at *
        generalize vs 1 = y1 at *
        generalize vs 2 = y2 at *
        generalize vs 3 = y3 at *
        generalize vs 4 = y4 at *
        generalize vs 5 = y5 at *
        generalize vs 6 = y6 at *
        generalize vs 7 = y7 at *
        go_wp2_with fail
        go_roundw
        case rel =>
          refine ⟨i + 1, _, by go_num, by omega, hbox9, ?_, ?_⟩
          · show OwnSS _ _ _ _
            rw [HRW.out]
            exact hown9
          · show After _ _
            exact Below.trans HA1R.out (hb9.mono (by rw [HQ.out]; exact Nat.le_refl _))
        case measure => simp [intOf]; omega
      · obtain rfl : i = n := by omega
        have HAS : Hid (As = (a.take i).map (Asm.prs [Tm.text .k])) := by show _ = _; rw [HAS0.out, HNN.out, List.take_length]
        rw [← HAS.out] at HOWN
        clear HAS
        have HST2 : Hid (OwnSS wr q sv (As ++ (b.take 0).map (Asm.prs [Tm.text Tm.no]))) := by show OwnSS _ _ _ _; rw [List.take_zero, List.map_nil, List.append_nil]; exact HOWN.out
        clear HOWN
        go_wp2_with fail
        go_loopw [43] (fun i wr => ∃ (k : Nat) (sv : Value), i = .int .i64 k ∧ k ≤ m ∧ Hid (wr.heap[q]? = some (.cells #[sv] 26 (0, 0))) ∧ Hid (OwnSS wr q sv (As ++ (b.take k).map (Asm.prs [Tm.text Tm.no]))) ∧ Hid (After w1 wr)) (fun i _ => m - (intOf i).toNat)
        case atStart => exact ⟨0, sv, rfl, Nat.zero_le _, HBOX, HST2, HA1R⟩
        case round =>
          clear HBOX HST2 HA1R
          obtain ⟨i, sv, rfl, hi, HBOX, HOWN, HA1R⟩ := hrel
          by_cases hlt : i < m
          · obtain ⟨ga, eva, rfl, q1, q2, ae, ne, ce, rfl⟩ := HCB.out i hlt
            replace q1 := HA1R.out.cell q1
            have hlt' : (i : Int) < (m : Int) := by omega
            have hle4 := HCB4.out i hlt
            have hrw := HCBR.out i hlt
            have hlen := HCBL.out i hi
            obtain ⟨xs, hxs⟩ : ∃ xs, xs = b.getD i [] := ⟨_, rfl⟩
            rw [← hxs] at q2 hle4 hrw
            obtain ⟨z, hz⟩ : ∃ z, z = Asm.prs [Tm.text Tm.no] xs := ⟨_, rfl⟩
            have HPT : Hid (∀ W v, After w1 W → ∀ C, RowE W C v [Tm.text Tm.no] → Calls Tryz.prog 43 #[v, .slice ae ne ce] W fun e w' => ∃ v, e = .returned v ∧ After W w' ∧ RowS w' W.heap.size v z) := fun W v hW C h => by
              rw [hz]
              exact pairTexts_any W C 0 _ _ [Tm.text Tm.no] xs h (q2.later hW) (by simp) hle4
            rw [← hz] at hrw
            obtain ⟨S, hS⟩ : ∃ S, S = As ++ (b.take i).map (Asm.prs [Tm.text Tm.no]) := ⟨_, rfl⟩
            rw [← hS] at HOWN hrw hlen
            have HRW := Lib.hid hrw
            have HLN : Hid (S.length ≤ 1000000) := by show _ ≤ _; omega
            have HQS : Hid (q ≤ wr.heap.size) := by show _ ≤ _; have := (Array.getElem?_eq_some_iff.1 HBOX.out).1; omega
            have hself := (After.refl wr).drew
            clear q2 hrw hlen hS hz hxs
            go_wp2_with fail
            rename_i KK hKK
            refine wp_region_tail (m := 8) (k := 3) (f := 12) (by kernel_rfl) (by kernel_rfl) (by kernel_rfl) (by kernel_rfl) After After.refl (fun _ _ _ h g => h.trans g)
              (rl [Sp.lit (.pointer (some ⟨q, 0, none⟩)), Sp.lit (sv), Sp.tv wr.heap.size Tm.no, Sp.wt wr.heap.size Tm.no, Sp.rowE wr.heap.size [Tm.text Tm.no], Sp.lit (.slice ae ne ce), Sp.row wr.heap.size z, Sp.rows wr.heap.size z]) rl_later (lt8 ?_ ?_ ?_ ?_ ?_ ?_ ?_ ?_) ?_
            · intro vs W hE hd K hK
              have hE' : After wr W := hself.trans hE
              exact do_rp (v := .pointer (some ⟨q, 0, none⟩)) (Sp.lit (.pointer (some ⟨q, 0, none⟩))).p (by kernel_rfl) (wanted_of (by kernel_rfl)) (by kernel_rfl) (After.refl W) rfl hK
            · intro vs W hE hd K hK
              have hE' : After wr W := hself.trans hE
              exact do_rp (v := sv) (Sp.lit (sv)).p (by kernel_rfl) (wanted_of (by kernel_rfl)) (run_ld_ss (x := .tmp 47) (u := vs 0) (by kernel_rfl) (by kernel_rfl) (hd 0 (by kernel_rfl)) (cell_of_heap (i := 0) (hE'.heap HBOX.out))) (After.refl W) rfl hK
            · intro vs W hE hd K hK
              have hE' : After wr W := hself.trans hE
              exact do_cp (Sp.tv wr.heap.size Tm.no).p (by kernel_rfl) (wanted_of (by kernel_rfl)) (f := 51) (args := #[.bool false]) (by kernel_rfl) ((bit_any W wr.heap.size false hE'.size).mono fun e w' ⟨v, he, hb, ht⟩ => ⟨v, he, hb, ht⟩) hK
            · intro vs W hE hd K hK
              have hE' : After wr W := hself.trans hE
              have h2 : TV W wr.heap.size Tm.no (vs 2) := hd 2 (by kernel_rfl)
              obtain ⟨T, y, e2⟩ := h2.ifc
              rw [e2] at h2
              exact do_cp (Sp.wt wr.heap.size Tm.no).p (by kernel_rfl) (wanted_of (by kernel_rfl)) (f := 50) (args := #[vs 2]) (by kernel_rfl) (by rw [e2]; exact (writtenOf_any W wr.heap.size Tm.no T y h2 (by decide) (by decide)).mono fun e w' ⟨he, hb⟩ => ⟨_, he, hb, T, y, rfl, h2.below hb⟩) hK
            · intro vs W hE hd K hK
              have hE' : After wr W := hself.trans hE
              obtain ⟨T, y, e3, h3⟩ : (Sp.wt wr.heap.size Tm.no).p (vs 3) W := hd 3 (by kernel_rfl)
              exact do_rp (Sp.rowE wr.heap.size [Tm.text Tm.no]).p (by kernel_rfl) (wanted_of (by kernel_rfl)) (run_rowe (x := .tmp 50) (u := vs 3) (by kernel_rfl) (by kernel_rfl) e3) (After.new _ _) (rowe_new h3 Asm.rz_no hE'.size) hK
            · intro vs W hE hd K hK
              have hE' : After wr W := hself.trans hE
              exact do_rp (v := .slice ae ne ce) (Sp.lit (.slice ae ne ce)).p (by kernel_rfl) (wanted_of (by kernel_rfl)) (by kernel_rfl) (After.refl W) rfl hK
            · intro vs W hE hd K hK
              have hE' : After wr W := hself.trans hE
              have h4 : RowE W wr.heap.size (vs 4) [Tm.text Tm.no] := hd 4 (by kernel_rfl)
              exact do_cp (Sp.row wr.heap.size z).p (by kernel_rfl) (wanted_of (by kernel_rfl)) (f := 43) (args := #[vs 4, vs 5]) (by kernel_rfl) (by rw [show vs 5 = .slice ae ne ce from hd 5 (by kernel_rfl)]; exact (HPT.out W (vs 4) (HA1R.out.trans hE') wr.heap.size h4).mono fun e w' ⟨v, he, ha, hr⟩ => ⟨v, he, ha, own_mono hr hE'.size⟩) hK
            · intro vs W hE hd K hK
              have hE' : After wr W := hself.trans hE
              have h4 : W.ownsRow wr.heap.size 9 1 (vs 6) z.length (z.map str) := hd 6 (by kernel_rfl)
              obtain ⟨ao4, n4, c4, e4⟩ := own_form h4
              exact do_rp (Sp.rows wr.heap.size z).p (by kernel_rfl) (wanted_of (by kernel_rfl)) (run_rows1 (x := .tmp 53) (u := vs 6) (by kernel_rfl) (by kernel_rfl) e4) (After.new _ _) ⟨_, _, rfl, heap_new' _ _, rfl, by rw [← e4]; exact own_later h4 (After.new _ _)⟩ hK
            intro vs W hE hd
            have hE' : After wr W := hself.trans hE
            obtain ⟨b2, rv, eb2, hb2, _, hrow⟩ := hd 7 (by decide)
            refine tail_push2 (wr := wr) (m := 8) (q := q) (base := q) (b2 := b2) (sv := sv) (s := .tmp 48) (x := .tmp 54) (t := .tmp 9) (y := .tmp 56) (z := .tmp 55) (d7 := 55) (d8 := 56) (rv := rv)
              (by kernel_rfl) (by kernel_rfl) (by kernel_rfl) (by kernel_rfl) (by kernel_rfl) (by kernel_rfl) (by kernel_rfl) (by kernel_rfl) (by kernel_rfl) (by kernel_rfl) (by kernel_rfl) (by kernel_rfl)
              (Eq.trans (by kernel_rfl : _ = vs 1) (hd 1 (by decide))) (Eq.trans (by kernel_rfl : _ = vs 7) eb2) (fun v => by kernel_rfl) (fun v => by kernel_rfl) (fun v => by kernel_rfl) HOWN.out hE' HQS.out HLN.out (Nat.le_refl _) HBOX.out hrow hb2 (fun g cap w9 hown9 hbox9 hb9 => ?_)
            refine hKK _ _ ?_
            rw [frame_from 47 10 (by kernel_rfl) (by kernel_rfl) (by kernel_rfl), lit2_62_47_10]
            clear hd eb2 hb2 hrow
            generalize vs 0 = y0 at *
            generalize vs 1 = y1 at *
            generalize vs 2 = y2 at *
            generalize vs 3 = y3 at *
            generalize vs 4 = y4 at *
            generalize vs 5 = y5 at *
            generalize vs 6 = y6 at *
            generalize vs 7 = y7 at *
            go_wp2_with fail
            go_roundw
            case rel =>
              refine ⟨i + 1, _, by go_num, by omega, hbox9, ?_, ?_⟩
              · show OwnSS _ _ _ _
                rw [HRW.out]
                exact hown9
              · show After _ _
                exact Below.trans HA1R.out (hb9.mono (by rw [HQ.out]; exact Nat.le_refl _))
            case measure => simp [intOf]; omega
          · obtain rfl : i = m := by omega
            have hD : ∀ zs v, zs = Asm.sumA a b → OwnSS wr q v zs → OwnSS wr q v (Asm.sumA a b) := fun zs v e h => e ▸ h
            have HO := Lib.hid (hD _ _ HEND.out HOWN.out)
            clear HOWN
            have hv := HVAL.out wr sv (HO.out.ssu (Nat.zero_le _))
            obtain ⟨ao, cap, rfl⟩ := HO.out.form
            obtain ⟨p0, p1', p2'⟩ := one_facts HBOX.out (After.refl _)
            have hfin := fun W h1 h2 => HFIN.out W (.slice ao (Asm.sumA a b).length cap) h1 h2
            clear hD
            go_wp2_with fail
            refine hv.mono ?_
            rintro e w3 ⟨rfl, hb3⟩
            have hres3 := (HA1R.out.trans hb3).heap HRES1.out
            obtain ⟨r0, r1, r2⟩ := one_facts hres3 (After.refl _)
            have HRS := Lib.hid hres3
            have hA3 := HAW1.out.trans (HA1R.out.trans hb3)
            have HOW : Hid (OwnSS w3 w.heap.size (.slice ao (Asm.sumA a b).length cap) (Asm.sumA a b)) := OwnSS.less (HO.out.later hb3) (by have := hsz1; rw [HQ.out]; omega)
            generalize hRB : Asm.ok (Asm.sumA a b) = rb at *
            generalize (Asm.sumA a b).length = L at *
            have hset : ∀ v, OwnSS (w3.setCell ⟨w.heap.size + 1 + 1, 0, none⟩ v) w.heap.size (.slice ao L cap) (Asm.sumA a b) ∧ After w (w3.setCell ⟨w.heap.size + 1 + 1, 0, none⟩ v) := fun v => ⟨HOW.out.keptT fun b' cs T fr hT hb' => by
              rw [Below.heap_setCell _ _ _ _ (fun e => by have e' : b' = w.heap.size + 1 + 1 := e; subst e'; rw [HRS.out] at hb'; injection hb' with hb'; injection hb' with _ hb' _; exact hT hb'.symm)]
              exact hb', Below.setCell hA3 (by show w.heap.size ≤ w.heap.size + 1 + 1; omega) v⟩
            have HSET := Lib.hid hset
            clear p0 p1' p2' hres3 hset hRB hv
            cases rb
            all_goals
              go_wp2_with fail
              refine bodyPost_ret (v := .tuple #[.agg #[_], .bool _]) (by simp [results, Tryz.results24, go_sem, r0]) rfl (hfin _ (HSET.out _).1 (HSET.out _).2)
end Go.Proofs.YtidpkmkhcomcdaaGreat

namespace Go.Proofs.YtidpkmkhcomcdaaGreat
open Go.RowKit Go.WideMaps Go.Maps

set_option maxHeartbeats 2000000
set_option maxRecDepth 100000

theorem gd {α : Type} (l : List α) (k : Nat) (d : α) (h : k < l.length) : l.getD k d = l[k] := by rw [List.getD, List.getElem?_eq_getElem h]; rfl
theorem gd_mem {α : Type} {l : List α} {k : Nat} {d : α} (h : k < l.length) : l.getD k d ∈ l := by rw [gd l k d h]; exact List.getElem_mem h

namespace Asm
def mdk (a : List (List Txt)) (i j n : Nat) : Bool := (List.range n).all fun k => !decide ((a.getD i []).getD k [] ∈ a.getD j [])
def mdj (a : List (List Txt)) (i m : Nat) : Bool := (List.range m).all fun j => mdk a i j (a.getD i []).length
def mds (a : List (List Txt)) (n : Nat) : Bool := (List.range n).all fun i => mdj a i i
def modest (a : List (List Txt)) : Bool := ok a && mds a a.length

theorem mdk_succ (a : List (List Txt)) (i j n : Nat) : mdk a i j (n + 1) = (mdk a i j n && !decide ((a.getD i []).getD n [] ∈ a.getD j [])) := by simp [mdk, List.range_succ]
theorem mdj_succ (a : List (List Txt)) (i m : Nat) : mdj a i (m + 1) = (mdj a i m && mdk a i m (a.getD i []).length) := by simp [mdj, List.range_succ]
theorem mds_succ (a : List (List Txt)) (n : Nat) : mds a (n + 1) = (mds a n && mdj a n n) := by simp [mds, List.range_succ]
theorem mds_no {a : List (List Txt)} {i j k n : Nat} (h : (a.getD i []).getD k [] ∈ a.getD j []) (hk : k < (a.getD i []).length) (hj : j < i) (hi : i < n) : mds a n = false := by
  rw [mds, List.all_eq_false]
  refine ⟨i, List.mem_range.2 hi, ?_⟩
  have h1 : mdk a i j (a.getD i []).length = false := by
    rw [mdk, List.all_eq_false]
    exact ⟨k, List.mem_range.2 hk, by rw [decide_eq_true h]; decide⟩
  have h2 : mdj a i i = false := by
    rw [mdj, List.all_eq_false]
    exact ⟨j, List.mem_range.2 hj, by rw [h1]; decide⟩
  rw [h2]; decide

/-- What stands ahead of realizer k of element i. -/
def ahead (a : List (List Txt)) (i k : Nat) : List Txt := (a.take i).flatten ++ (a.getD i []).take k
theorem ahead_zero (a : List (List Txt)) (i : Nat) : ahead a i 0 = (a.take i).flatten := by simp [ahead]
theorem ahead_succ {a : List (List Txt)} {i k : Nat} (hk : k < (a.getD i []).length) : ahead a i (k + 1) = ahead a i k ++ [(a.getD i []).getD k []] := by
  rw [ahead, ahead, List.take_succ_eq_append_getElem hk, List.append_assoc, gd _ _ _ hk]
theorem ahead_next {a : List (List Txt)} {i : Nat} (hi : i < a.length) : ahead a i (a.getD i []).length = (a.take (i + 1)).flatten := by
  rw [ahead, List.take_length, List.take_succ_eq_append_getElem hi, List.flatten_append]
  congr 1
  rw [List.getD, List.getElem?_eq_getElem hi]
  simp

theorem mem_take_flatten {a : List (List Txt)} {i : Nat} (hi : i ≤ a.length) {x : Txt} : x ∈ (a.take i).flatten ↔ ∃ j, j < i ∧ x ∈ a.getD j [] := by
  rw [List.mem_flatten]
  constructor
  · rintro ⟨l, hl, hx⟩
    obtain ⟨j, hj, rfl⟩ := List.getElem_of_mem hl
    rw [List.length_take] at hj
    refine ⟨j, by omega, ?_⟩
    rw [List.getElem_take] at hx
    rw [List.getD, List.getElem?_eq_getElem (by omega)]
    exact hx
  · rintro ⟨j, hj, hx⟩
    rw [List.getD, List.getElem?_eq_getElem (show j < a.length by omega)] at hx
    exact ⟨_, List.mem_iff_getElem.2 ⟨j, by rw [List.length_take]; omega, List.getElem_take⟩, hx⟩

/-- In a valid assembly what stands ahead is in an element ahead. -/
theorem ahead_mem {a : List (List Txt)} {i k : Nat} (hok : ok a = true) (hi : i < a.length) (hk : k < (a.getD i []).length) (h : (a.getD i []).getD k [] ∈ ahead a i k) : ∃ j, j < i ∧ (a.getD i []).getD k [] ∈ a.getD j [] := by
  rw [ahead, List.mem_append] at h
  rcases h with h | h
  · exact (mem_take_flatten (by omega)).1 h
  · exfalso
    rw [ok_eq, Bool.and_eq_true, pfs, List.all_eq_true] at hok
    have := hok.2 i (List.mem_range.2 hi)
    rw [pfx, List.all_eq_true] at this
    have := this k (List.mem_range.2 hk)
    rw [step, Bool.and_eq_true] at this
    rw [decide_eq_true h] at this
    exact absurd this.2 (by decide)

theorem mdj_all {a : List (List Txt)} {i : Nat} (hi : i ≤ a.length) (h : ∀ k, k < (a.getD i []).length → (a.getD i []).getD k [] ∉ (a.take i).flatten) : mdj a i i = true := by
  rw [mdj, List.all_eq_true]
  intro j hj
  rw [mdk, List.all_eq_true]
  intro k hk
  have := h k (List.mem_range.1 hk)
  rw [mem_take_flatten hi] at this
  simp only [Bool.not_eq_true', decide_eq_false_iff_not]
  exact fun hm => this ⟨j, List.mem_range.1 hj, hm⟩
end Asm

/-- The map of the texts that are known. -/
def KM (w : World) (mb : Nat) (S : List (List UInt8)) : Prop :=
  ∃ D : DataW Unit, w.ownsMap Tryz.prog 9 (plainElem Tryz.prog 4) mb S.length D ∧ ∀ x, D.atKey (.string x) (.lit (.bool false)) = .lit (.bool (decide (x ∈ S)))

theorem KM.start (w : World) : KM (w.alloc (.map #[] 0)) w.heap.size [] := ⟨_, World.ownsMap_made w _ _ _, fun x => by simp [DataW.atKey]⟩

theorem KM.kept {w W : World} {mb : Nat} {S : List (List UInt8)} (h : KM w mb S) (hA : After w W) : KM W mb S := by
  obtain ⟨D, hm, hD⟩ := h
  exact ⟨D, hm.kept (row := none) ⟨hA.os, hA.tape, hA.output, hA.size, fun k hk _ => hA.block k hk⟩ (by simp), hD⟩

theorem modest_any (w : World) (base : Nat) (sv : Value) (a : List (List (List UInt8))) (h : RowA w base sv a) (hok : Asm.ok a = true) (hx : ∀ rs ∈ a, ∀ x ∈ rs, x.length ≤ 1000000000) :
    Calls Tryz.prog 37 #[sv] w fun e w' => e = .returned (.bool (Asm.mds a a.length)) ∧ After w w' := by
  have hsz : a.length ≤ 6 ∧ ∀ i, i < a.length → (a.getD i []).length ≤ 4 := by
    rw [Asm.ok, Bool.and_eq_true, Bool.and_eq_true, decide_eq_true_eq, decide_eq_true_eq, Asm.els, List.all_eq_true] at hok
    refine ⟨hok.1.2, fun i hi => ?_⟩
    have := hok.2 i (List.mem_range.2 hi)
    rw [Asm.el, Bool.and_eq_true, Bool.and_eq_true, decide_eq_true_eq, decide_eq_true_eq] at this
    exact this.1.2
  have hat := fun j hj => h.at j hj
  obtain ⟨ao, cap, rfl⟩ := h.form
  have hcell : ∀ j, j < a.length → ∃ g ev, ao = some ⟨g, 0, none⟩ ∧ w.cell? ⟨g, j, none⟩ = some ev ∧ PairsU w ev (a.getD j []) ∧ ∃ ao' c', ev = .slice ao' (a.getD j []).length c' := fun j hj => by
    obtain ⟨g, cap', ev, e, h1, h2⟩ := hat j hj
    simp only [Value.slice.injEq, true_and] at e
    obtain ⟨rfl, rfl⟩ := e
    exact ⟨g, ev, rfl, h1, h2.pairs, h2.form⟩
  have hlen : ∀ i k, i < a.length → k < (a.getD i []).length → ((a.getD i []).getD k []).length ≤ maxLen := fun i k hi hk => by
    have := hx _ (gd_mem hi) ((a.getD i []).getD k []) (gd_mem hk)
    unfold maxLen; omega
  have hal : ∀ i k, i < a.length → k ≤ (a.getD i []).length → (Asm.ahead a i k).length ≤ 1000 := fun i k hi hk => by
    have h1 : (a.take i).flatten.length ≤ 4 * 6 := by
      rw [List.length_flatten]
      have : ∀ l : List (List (List UInt8)), (∀ x ∈ l, x.length ≤ 4) → (l.map List.length).sum ≤ 4 * l.length := by
        intro l
        induction l with
        | nil => simp
        | cons y l ih =>
          intro h
          have h1 := h y (List.mem_cons_self ..)
          have h2 := ih (fun x hx => h x (List.mem_cons_of_mem _ hx))
          simp only [List.map_cons, List.sum_cons, List.length_cons]
          omega
      refine Nat.le_trans (this _ fun x hx => ?_) (by rw [List.length_take]; omega)
      obtain ⟨j, hj, rfl⟩ := List.getElem_of_mem (List.mem_of_mem_take hx)
      have := hsz.2 j hj
      rwa [List.getD, List.getElem?_eq_getElem hj] at this
    have h2 := hsz.2 i hi
    rw [Asm.ahead, List.length_append, List.length_take]
    omega
  obtain ⟨r, hr⟩ : ∃ r, r = Asm.mds a a.length := ⟨_, rfl⟩
  rw [← hr]
  have hno : ∀ i k, i < a.length → k < (a.getD i []).length → (a.getD i []).getD k [] ∈ Asm.ahead a i k → r = false := fun i k hi hk hm => by
    obtain ⟨j, hj, hm'⟩ := Asm.ahead_mem hok hi hk hm
    rw [hr]
    exact Asm.mds_no hm' hk hj hi
  have hnext : ∀ i, i < a.length → Asm.ahead a i (a.getD i []).length = Asm.ahead a (i + 1) 0 := fun i hi => by rw [Asm.ahead_next hi, Asm.ahead_zero]
  have hstep : ∀ i, i < a.length → Asm.mds a i = true → (∀ k, k < (a.getD i []).length → (a.getD i []).getD k [] ∉ (a.take i).flatten) → Asm.mds a (i + 1) = true := fun i hi h1 h2 => by rw [Asm.mds_succ, h1, Asm.mdj_all (by omega) h2]; rfl
  have hst := KM.start w
  have hA0 := After.new w (.map #[] 0)
  have hmm := @run_makeMap Tryz.prog
  obtain ⟨n, hn'⟩ : ∃ n, n = a.length := ⟨_, rfl⟩
  rw [← hn'] at hcell hlen hal hr hno hnext hstep hsz ⊢
  have HC := Lib.hid hcell
  have HLEN := Lib.hid hlen
  have HAL := Lib.hid hal
  have HR := Lib.hid hr
  have HNO := Lib.hid hno
  have HNEXT := Lib.hid hnext
  have HSTEP := Lib.hid hstep
  have HST : Hid (KM (w.alloc (.map #[] 0)) w.heap.size (Asm.ahead a 0 0)) := by
    show KM _ _ _
    have e : Asm.ahead a 0 0 = [] := by simp [Asm.ahead]
    rw [e]
    exact hst
  have HSZ := Lib.hid hsz
  have hn6 := hsz.1
  clear hcell hlen hal hr hno hnext hstep hst hx hat hok h hn' hsz
  go_enter Tryz.func37, Tryz.ntmps37
  go_wp2_with fail
  obtain ⟨mb, hmb⟩ : ∃ mb, mb = w.heap.size := ⟨_, rfl⟩
  rw [← hmb] at HST
  have HMB := Lib.hid hmb
  simp only [← hmb]
  clear hmb
  generalize w.alloc (.map #[] 0) = w0 at *
  go_loopw [11] (fun i wr => ∃ k : Nat, i = .int .i64 k ∧ k ≤ n ∧ Hid (KM wr mb (Asm.ahead a k 0)) ∧ Hid (Asm.mds a k = true) ∧ After w wr) (fun i _ => n - (intOf i).toNat)
  case atStart => exact ⟨0, rfl, Nat.zero_le _, HST, by show _ = _; rfl, hA0⟩
  case round =>
    obtain ⟨i, rfl, hi, hkm, hmd, hA⟩ := hrel
    clear HST
    by_cases hlt : i < n
    · obtain ⟨g, ev, rfl, h1, hpu, ao', c', rfl⟩ := HC.out i hlt
      replace h1 := hA.cell h1
      have hlt' : (i : Int) < (n : Int) := by omega
      have hrs4 := HSZ.out.2 i hlt
      obtain ⟨rs, hrs⟩ : ∃ rs, rs = a.getD i [] := ⟨_, rfl⟩
      have hlen := HLEN.out i
      have hal := HAL.out i
      have hno := HNO.out i
      have hnx := HNEXT.out i hlt
      have hsp := HSTEP.out i hlt hmd.out
      have hah : ∀ k, k < rs.length → Asm.ahead a i (k + 1) = Asm.ahead a i k ++ [rs.getD k []] := fun k hk => by rw [hrs] at hk ⊢; exact Asm.ahead_succ hk
      have hin : ∀ k x, x ∈ (a.take i).flatten → x ∈ Asm.ahead a i k := fun k x hx => by rw [Asm.ahead]; exact List.mem_append_left _ hx
      rw [← hrs] at h1 hpu hlen hal hno hnx hsp hrs4
      have HLE := Lib.hid (fun k => hlen k hlt)
      have HALI := Lib.hid (fun k => hal k hlt)
      have HNOI := Lib.hid (fun k => hno k hlt)
      have HNX := Lib.hid hnx
      have HSP := Lib.hid hsp
      have HAH := Lib.hid hah
      have HIN := Lib.hid hin
      obtain ⟨ao2, c2, e2, hpc⟩ := hpu
      simp only [Value.slice.injEq, true_and] at e2
      obtain ⟨rfl, rfl⟩ := e2
      obtain ⟨m, hm⟩ : ∃ m, m = rs.length := ⟨_, rfl⟩
      rw [← hm] at h1 hpc hrs4
      have HM := Lib.hid hm
      have HPC := Lib.hid hpc
      clear hlen hal hno hnx hsp hah hin hpc hm hrs
      obtain ⟨wa, hwa⟩ : ∃ x, x = wr := ⟨_, rfl⟩
      subst hwa
      go_wp2_with fail
      go_loopw [17] (fun j wr => ∃ k : Nat, j = .int .i64 k ∧ k ≤ m ∧ Hid (KM wr mb (Asm.ahead a i k)) ∧ Hid (∀ k', k' < k → rs.getD k' [] ∉ (a.take i).flatten) ∧ After w wr) (fun i _ => m - (intOf i).toNat)
      case atStart => exact ⟨0, rfl, Nat.zero_le _, hkm, by show ∀ k', _; exact fun k' h => absurd h (Nat.not_lt_zero k'), hA⟩
      case round =>
        obtain ⟨k, rfl, hk, hkm2, hall, hA2⟩ := hrel
        clear hkm
        by_cases hlk : k < m
        · obtain ⟨b, off, T, v, rfl, q1, q2⟩ := HPC.out k hlk
          replace q1 := hA2.cell q1
          replace q2 := hA2.cell q2
          have hlk2 : k < rs.length := by rw [← HM.out]; exact hlk
          have hle := HLE.out k hlk2
          have hac := HALI.out k (by omega)
          have hlk' : (k : Int) < (m : Int) := by omega
          have hah := HAH.out k hlk2
          have hno := HNOI.out k hlk2
          obtain ⟨x, hx⟩ : ∃ x, x = rs.getD k [] := ⟨_, rfl⟩
          rw [← hx] at q2 hle hah hno
          obtain ⟨S, hS⟩ : ∃ S, S = Asm.ahead a i k := ⟨_, rfl⟩
          rw [← hS] at hkm2 hah hno hac
          obtain ⟨D, hmp, hD⟩ := hkm2.out
          have hnw := hA2.alloc (.cells #[.iface T v, str x] 79)
          have hmp2 := hmp.alloc (.cells #[.iface T v, str x] 79)
          have hrun := look_run hmp2 hD x hle
          have HX := Lib.hid hx
          have HS := Lib.hid hS
          have HAH2 := Lib.hid hah
          clear hx hS hah
          by_cases hmem : x ∈ S
          · have HF := Lib.hid (hno hmem)
            rw [decide_eq_true hmem] at hrun
            clear hno hD hmem hmp hmp2
            go_wp2_with fail
            go_ret
            exact ⟨by rw [HF.out]; rfl, hnw⟩
          · rw [decide_eq_false hmem] at hrun
            have hmax : S.length < maxLen := by unfold maxLen; omega
            have hkey := key_str x hle
            have HD := Lib.hid hD
            have HMI := hmp.isMap
            have HNM := Lib.hid hmem
            clear hno hD hmem hmp
            go_wp2_with (at_mapUpdate; refine wpList_mapUpdate_own _ rfl _ _ _ 98 rfl 9 4 law_key Tryz.underlying98 _ mb _ _ rfl hmp2 hmax _ _ _ rfl rfl hkey _ [] (plainElem_bool Tryz.underlying4 true) ?_; intro w1 hm1 hg1; have HM1 := Lib.hid hm1; have HG1 := Lib.hid hg1; clear hm1 hg1)
            go_roundw
            case rel =>
              refine ⟨k + 1, by go_num, by omega, ?_, ?_, ?_⟩
              · show KM _ _ _
                rw [← HS.out] at *
                rw [HAH2.out]
                refine ⟨_, by rw [List.length_append]; exact HM1.out, fun y => ?_⟩
                by_cases hy : y = x
                · subst hy
                  rw [atKey_put_same HMI (by trivial)]
                  simp
                · rw [atKey_put_other (by intro e; injection e with e; exact hy e), HD.out]
                  simp [hy]
              · show ∀ k', _
                intro k' hk'
                by_cases hkk : k' = k
                · subst hkk
                  rw [← HX.out]
                  exact fun hm => HNM.out (by rw [HS.out]; exact HIN.out _ _ hm)
                · exact hall.out k' (by omega)
              · exact hnw.grown HG1.out hnw.size (fun q hq => by injection hq with hq; rw [← hq, HMB.out]; exact Nat.le_refl _)
            case measure => simp [intOf]; omega
        · obtain rfl : k = m := by omega
          go_wp2_with fail
          go_roundw
          case rel =>
            refine ⟨i + 1, by go_num, by omega, ?_, HSP.out (fun k' hk' => hall.out k' (by rw [HM.out]; exact hk')), hA2⟩
            show KM _ _ _
            rw [← HNX.out, ← HM.out]
            exact hkm2.out
          case measure => simp [intOf]; omega
    · obtain rfl : i = n := by omega
      go_wp2_with fail
      go_ret
      exact ⟨by rw [HR.out, hmd.out]; rfl, hA⟩

theorem impl_asmModest (w : World) (sv : Value) (a : List (List (List UInt8))) (h : SSU 0 w sv a) (hl : Lens 1000000000 a) :
    Calls Tryz.prog 13 #[.agg #[sv]] w fun e w' => e = .returned (.bool (Asm.modest a)) ∧ After w w' := by
  have hcall := fun W (hW : After w W) => readAssembly_any W sv a (h.later hW) hl
  have hmod := fun W base v (hv : RowA W base v a) (hok : Asm.ok a = true) => modest_any W base v a hv hok (fun rs hrs => (hl.2 rs hrs).2)
  obtain ⟨ao, cap, rfl⟩ := h.form
  have hA0 := After.new w (.cells #[.slice ao a.length cap] 26)
  have hc := hcall _ hA0
  unfold ReadAsmPost at hc
  obtain ⟨r, hr⟩ : ∃ r, r = Asm.modest a := ⟨_, rfl⟩
  rw [← hr]
  rw [Asm.modest] at hr
  have HR := Lib.hid hr
  have HMOD := Lib.hid hmod
  clear hcall h hl hr hmod
  cases hok : Asm.ok a with
  | false =>
    rw [hok] at hc HR
    generalize a.length = n at *
    go_enter Tryz.func13, Tryz.ntmps13
    go_wp2_with fail
    refine hc.mono ?_
    rintro e w1 ⟨ao2, n2, c2, rfl, hb1, hv1⟩
    clear hv1 hc
    go_wp2_with fail
    go_ret
    exact ⟨by rw [HR.out]; rfl, hA0.trans hb1⟩
  | true =>
    have hmod := fun W base v hv => HMOD.out W base v hv hok
    rw [hok] at hc HR
    generalize Asm.mds a a.length = md at *
    generalize a.length = n at *
    go_enter Tryz.func13, Tryz.ntmps13
    go_wp2_with fail
    refine hc.mono ?_
    rintro e w1 ⟨ao2, n2, c2, rfl, hb1, hv1⟩
    have hm := hmod w1 _ _ (hv1 (by trivial))
    clear hv1 hc hmod
    go_wp2_with (go_at_call 37; refine hm.mono ?_; rintro e w2 ⟨rfl, hb2⟩)
    go_ret
    exact ⟨by rw [HR.out]; rfl, (hA0.trans hb1).trans hb2⟩
end Go.Proofs.YtidpkmkhcomcdaaGreat

namespace Go.Proofs.YtidpkmkhcomcdaaGreat
open Go.RowKit

set_option maxHeartbeats 1000000
set_option maxRecDepth 100000

namespace Tm
/-- Steps, none of which is too large. -/
inductive Run : Tm → Tm → Nat → Prop
  | refl (t : Tm) : Run t t 0
  | next {t u v : Tm} {n : Nat} (h : step t = some u) (hf : fits u = true) (r : Run u v n) : Run t v (n + 1)

theorem Run.many {t v : Tm} {n : Nat} (r : Run t v n) (hv : step v = none) : ∀ m, n ≤ m → (many m t).1 = v := by
  induction r with
  | refl t => intro m _; rw [many_normal m t hv]
  | @next t u v n h hf r ih =>
    intro m hm
    obtain ⟨k, rfl⟩ : ∃ k, m = k + 1 := ⟨m - 1, by omega⟩
    rw [many_succ, stepFit, h]
    simp only [hf, if_true]
    exact ih hv k (by omega)

theorem Run.ends {t v : Tm} {n : Nat} (r : Run t v n) (hf : fits t = true) (hn : n ≤ 6000) (hv : step v = none) : endOf t = some v := by
  have h := r.many hv 6000 hn
  rw [endOf_eq, if_pos hf, h, normal_none v, hv]
  rfl

theorem fits_small {t : Tm} (h : t.size ≤ 1500) : fits t = true := by
  have := depth_lt t
  rw [fits, Bool.and_eq_true, decide_eq_true_eq, decide_eq_true_eq]
  omega

theorem Run.to {t u v : Tm} {n : Nat} (h : step t = some u) (hf : size u ≤ 1500) (r : Run u v n) : Run t v (n + 1) := .next h (fits_small hf) r

/-- i leaves a normal term as it is. -/
theorem end_i {u : Tm} (hz : u.size ≤ 60) (hn : step u = none) : endOf (app I u) = some u := by
  refine Run.ends (n := 2) ?_ (fits_small (by simp only [I, size]; omega)) (by omega) hn
  refine .to (u := app (app k u) (app k u)) rfl (by simp only [size]; omega) ?_
  exact .to (u := u) rfl (by omega) (.refl _)

/-- What is kept is kept. -/
theorem end_k {u v : Tm} (hz : u.size ≤ 60) (hv : v.size ≤ 60) (hn : step u = none) : endOf (app (app k u) v) = some u := by
  refine Run.ends (n := 1) ?_ (fits_small (by simp only [size]; omega)) (by omega) hn
  exact .to (u := u) rfl (by omega) (.refl _)

/-- A pair applied. -/
def sel (t u c : Tm) : Tm := app (pair t u) c
def X1 (t : Tm) (c : Tm) : Tm := app (app (app s I) (app k t)) c

theorem first_is : first = app (app s I) (app k k) := by rfl
theorem second_is : second = app (app s I) (app k no) := by rfl

theorem end_first {t u : Tm} (hz : t.size ≤ 60) (hzu : u.size ≤ 60) (_hn : step t = none) : ∃ n, n ≤ 100 ∧ Run (app first (pair t u)) t n := by
  rw [first_is]
  have hp : (pair t u).size = t.size + u.size + 7 := size_pair t u
  refine ⟨10, by omega, ?_⟩
  refine .to (u := app (app I (pair t u)) (app (app k k) (pair t u))) rfl (by simp only [I, size, hp]; omega) ?_
  refine .to (u := app (app (app k (pair t u)) (app k (pair t u))) (app (app k k) (pair t u))) rfl (by simp only [size, hp]; omega) ?_
  refine .to (u := app (pair t u) (app (app k k) (pair t u))) rfl (by simp only [size, hp]; omega) ?_
  refine .to (u := app (app (app (app s I) (app k t)) (app (app k k) (pair t u))) (app (app k u) (app (app k k) (pair t u)))) rfl (by simp only [I, size, hp]; omega) ?_
  refine .to (u := app (app (app I (app (app k k) (pair t u))) (app (app k t) (app (app k k) (pair t u)))) (app (app k u) (app (app k k) (pair t u)))) rfl (by simp only [I, size, hp]; omega) ?_
  refine .to (u := app (app (app (app k (app (app k k) (pair t u))) (app k (app (app k k) (pair t u)))) (app (app k t) (app (app k k) (pair t u)))) (app (app k u) (app (app k k) (pair t u)))) rfl (by simp only [size, hp]; omega) ?_
  refine .to (u := app (app (app (app k k) (pair t u)) (app (app k t) (app (app k k) (pair t u)))) (app (app k u) (app (app k k) (pair t u)))) rfl (by simp only [size, hp]; omega) ?_
  refine .to (u := app (app k (app (app k t) (app (app k k) (pair t u)))) (app (app k u) (app (app k k) (pair t u)))) rfl (by simp only [size, hp]; omega) ?_
  refine .to (u := app (app k t) (app (app k k) (pair t u))) rfl (by simp only [size, hp]; omega) ?_
  exact .to (u := t) rfl (by omega) (.refl _)

theorem end_second {t u : Tm} (hz : t.size ≤ 60) (hzu : u.size ≤ 60) (_hn : step u = none) : ∃ n, n ≤ 100 ∧ Run (app second (pair t u)) u n := by
  rw [second_is]
  have hp : (pair t u).size = t.size + u.size + 7 := size_pair t u
  have hno : no.size = 4 := rfl
  refine ⟨12, by omega, ?_⟩
  refine .to (u := app (app I (pair t u)) (app (app k no) (pair t u))) rfl (by simp only [I, size, hp, hno]; omega) ?_
  refine .to (u := app (app (app k (pair t u)) (app k (pair t u))) (app (app k no) (pair t u))) rfl (by simp only [size, hp, hno]; omega) ?_
  refine .to (u := app (pair t u) (app (app k no) (pair t u))) rfl (by simp only [size, hp, hno]; omega) ?_
  refine .to (u := app (app (app (app s I) (app k t)) (app (app k no) (pair t u))) (app (app k u) (app (app k no) (pair t u)))) rfl (by simp only [I, size, hp, hno]; omega) ?_
  refine .to (u := app (app (app I (app (app k no) (pair t u))) (app (app k t) (app (app k no) (pair t u)))) (app (app k u) (app (app k no) (pair t u)))) rfl (by simp only [I, size, hp, hno]; omega) ?_
  refine .to (u := app (app (app (app k (app (app k no) (pair t u))) (app k (app (app k no) (pair t u)))) (app (app k t) (app (app k no) (pair t u)))) (app (app k u) (app (app k no) (pair t u)))) rfl (by simp only [size, hp, hno]; omega) ?_
  refine .to (u := app (app (app (app k no) (pair t u)) (app (app k t) (app (app k no) (pair t u)))) (app (app k u) (app (app k no) (pair t u)))) rfl (by simp only [size, hp, hno]; omega) ?_
  refine .to (u := app (app no (app (app k t) (app (app k no) (pair t u)))) (app (app k u) (app (app k no) (pair t u)))) rfl (by simp only [size, hp, hno]; omega) ?_
  refine .to (u := app I (app (app k u) (app (app k no) (pair t u)))) rfl (by simp only [I, size, hp, hno]; omega) ?_
  refine .to (u := app (app k (app (app k u) (app (app k no) (pair t u)))) (app k (app (app k u) (app (app k no) (pair t u))))) rfl (by simp only [size, hp, hno]; omega) ?_
  refine .to (u := app (app k u) (app (app k no) (pair t u))) rfl (by simp only [size, hp, hno]; omega) ?_
  exact .to (u := u) rfl (by omega) (.refl _)

def pD : Tm := app (app s (app k (app s I))) k
def pC : Tm := app (app s (app k s)) pD
def pB : Tm := app (app s (app k k)) pC
def pA : Tm := app (app s (app k s)) pB
theorem pairC_is : pairC = app (app s pA) (app k k) := by rfl

theorem pair_step {t u : Tm} (ht : step t = none) (hu : step u = none) : step (pair t u) = none := by
  simp only [pair, I, step, redex, ht, hu]

/-- pair of a truth value, applied. -/
theorem end_pairC {c u : Tm} (hc : c.size ≤ 4) (hzu : u.size ≤ 60) (hnc : step c = none) : ∃ n, n ≤ 100 ∧ Run (app (app pairC c) u) (pair c u) n := by
  rw [pairC_is]
  refine ⟨12, by omega, ?_⟩
  refine .to (u := app (app (app pA c) (app (app k k) c)) u) rfl (by simp only [pA, pB, pC, pD, I, size]; omega) ?_
  refine .to (u := app (app (app (app (app k s) c) (app pB c)) (app (app k k) c)) u) rfl (by simp only [pB, pC, pD, I, size]; omega) ?_
  refine .to (u := app (app (app s (app pB c)) (app (app k k) c)) u) rfl (by simp only [pB, pC, pD, I, size]; omega) ?_
  refine .to (u := app (app (app pB c) u) (app (app (app k k) c) u)) rfl (by simp only [pB, pC, pD, I, size]; omega) ?_
  refine .to (u := app (app (app (app (app k k) c) (app pC c)) u) (app (app (app k k) c) u)) rfl (by simp only [pC, pD, I, size]; omega) ?_
  refine .to (u := app (app (app k (app pC c)) u) (app (app (app k k) c) u)) rfl (by simp only [pC, pD, I, size]; omega) ?_
  refine .to (u := app (app pC c) (app (app (app k k) c) u)) rfl (by simp only [pC, pD, I, size]; omega) ?_
  refine .to (u := app (app (app (app k s) c) (app pD c)) (app (app (app k k) c) u)) rfl (by simp only [pD, I, size]; omega) ?_
  refine .to (u := app (app s (app pD c)) (app (app (app k k) c) u)) rfl (by simp only [pD, I, size]; omega) ?_
  refine .to (u := app (app s (app (app (app k (app s I)) c) (app k c))) (app (app (app k k) c) u)) rfl (by simp only [I, size]; omega) ?_
  refine .to (u := app (app s (app (app s I) (app k c))) (app (app (app k k) c) u)) rfl (by simp only [I, size]; omega) ?_
  refine .to (u := app (app s (app (app s I) (app k c))) (app k u)) (by simp only [I, step, redex, hnc]) (by simp only [I, size]; omega) (.refl _)
end Tm

namespace Asm
theorem txt_of {l : List UInt8} {t : Tm} (h : Tm.parse l = some t) : l = t.text := by
  obtain ⟨h1, h2, h3⟩ := Tm.parse_iff.1 h
  first | exact h1 | exact h1.symm

theorem no_names {l : List UInt8} {t : Tm} (h : Tm.closedOf l = some t) (n : List UInt8) : Tm.has n t = false := by
  have h2 := (Tm.closed_facts h).2
  cases hc : Tm.has n t with
  | false => rfl
  | true =>
    have := (Tm.mem_names n t []).2 (Or.inr hc)
    rw [h2] at this
    cases this

theorem rz_more {x : Txt} {u : Tm} (h : rz x = some u) : Tm.step u = none ∧ x = u.text ∧ u.size ≤ 60 ∧ u.good = true := by
  have h0 := rz_facts h
  obtain ⟨_, h1, h2, h3⟩ := h0
  have hn : u.normal = true := by
    unfold rz at h
    rw [h3] at h
    simp only at h
    split at h
    · rename_i hh; exact hh.1
    · cases h
  refine ⟨?_, txt_of (Tm.closed_facts h3).1, h2, h1⟩
  have := normal_none u
  rw [hn] at this
  cases hs : Tm.step u with
  | none => rfl
  | some v => rw [hs] at this; cases this

/-- The numbers f of 0 to n - 1. -/
def mp (n : Nat) (f : Nat → Int) : List Int := (List.range n).map f
theorem mp_len (n : Nat) (f : Nat → Int) : (mp n f).length = n := by simp [mp]
theorem mp_at {n : Nat} {f : Nat → Int} {j : Nat} (hj : j < n) : (mp n f).getD j 0 = f j := by simp [mp, List.getD, hj]
theorem mp_succ (n : Nat) (f : Nat → Int) : mp (n + 1) f = mp n f ++ [f n] := by simp [mp, List.range_succ]

theorem ok_el {a : List (List Txt)} (h : ok a = true) {i : Nat} (hi : i < a.length) {x : Txt} (hx : x ∈ a.getD i []) : ∃ u, rz x = some u := by
  obtain ⟨_, _, h3⟩ := ok_facts h
  obtain ⟨k, hk, rfl⟩ := List.getElem_of_mem hx
  have := h3 i k hi hk
  rw [List.getD, List.getElem?_eq_getElem hk] at this
  exact Option.isSome_iff_exists.1 this
theorem ok_ne {a : List (List Txt)} (h : ok a = true) {i : Nat} (hi : i < a.length) : 1 ≤ (a.getD i []).length := by
  rw [ok, Bool.and_eq_true, els, List.all_eq_true] at h
  have := h.2 i (List.mem_range.2 hi)
  simp only [el, Bool.and_eq_true, decide_eq_true_eq] at this
  exact this.1.1
theorem ok_pos {a : List (List Txt)} (h : ok a = true) : 1 ≤ a.length := by
  simp only [ok, Bool.and_eq_true, decide_eq_true_eq] at h
  exact h.1.1

theorem hit_of {t u v : Tm} {x : Txt} {row : List Txt} (hx : rz x = some u) (h : Tm.endOf (.app t u) = some v) (hr : v.text ∈ row) : hit t x row = true := by
  rw [hit, (rz_facts hx).1, h]
  exact decide_eq_true hr

theorem track_of {a b : List (List Txt)} {n : Nat} {f : Nat → Int} {l : Txt} {t : Tm} (ha : ok a = true) (hb : ok b = true) (hn : n = a.length) (hf : ∀ j, j < n → 0 ≤ f j ∧ f j < (b.length : Int)) (hl : Tm.closedOf l = some t)
    (h : ∀ i, i < n → ∀ x ∈ a.getD i [], hit t x (b.getD (f i).toNat []) = true) : pTrackIs a b (mp n f) l = true := by
  subst hn
  have hm : mapOk a b (mp a.length f) = true := by
    rw [mapOk, ha, hb, mp_len, decide_eq_true rfl, Bool.and_self, Bool.true_and, Bool.true_and, rng, List.all_eq_true]
    intro j hj
    have hj' := List.mem_range.1 hj
    have := hf j hj'
    rw [mp_at hj', decide_eq_true this.1, decide_eq_true this.2]
    rfl
  rw [pTrackIs, hm, hl]
  simp only [Bool.true_and]
  rw [trks, List.all_eq_true]
  intro i hi
  have hi' := List.mem_range.1 hi
  have e : (nats (mp a.length f)).getD i 0 = (f i).toNat := by simp [nats, mp, List.getD, hi']
  have := hf i hi'
  rw [trk_all (by rw [e]; omega), e, List.all_eq_true]
  exact h i hi'

theorem closed_tm {t : Tm} (hg : t.good = true) (hf : t.fits = true) (hn : ∀ n, Tm.has n t = false) : Tm.closedOf t.text = some t := by
  unfold Tm.closedOf
  rw [Tm.parse_text hg hf]
  have : Tm.names [] t = [] := by
    rw [List.eq_nil_iff_forall_not_mem]
    intro n hm
    have := (Tm.mem_names n t []).1 hm
    rw [hn n] at this
    rcases this with h | h
    · cases h
    · cases h
  simp [this]

theorem closed_i : Tm.closedOf Tm.I.text = some Tm.I := by kernel_rfl
theorem closed_first : Tm.closedOf Tm.first.text = some Tm.first := by kernel_rfl
theorem closed_second : Tm.closedOf Tm.second.text = some Tm.second := by kernel_rfl

/-- FnNumbers. -/
theorem nums_track : ∀ n, 1 ≤ n → n ≤ 6 → pTrackIs (numsA n) (numsA n) (mp n fun x => max 0 ((x : Int) - 1)) Tm.pred.text = true ∧ modest (numsA n) = true
  | 0, h, _ => by omega
  | 1, _, _ | 2, _, _ | 3, _, _ | 4, _, _ | 5, _, _ | 6, _, _ => by decide +kernel
  | n + 7, _, h => by omega

/-- FnAssembly. -/
theorem same_track {a : List (List Txt)} (ha : ok a = true) : pTrackIs a a (mp a.length fun x => (x : Int)) Tm.I.text = true := by
  refine track_of ha ha rfl (fun j hj => ⟨by omega, by show (j : Int) < _; omega⟩) closed_i fun i hi x hx => ?_
  obtain ⟨u, hu⟩ := ok_el ha hi hx
  obtain ⟨h1, h2, h3, h4⟩ := rz_more hu
  exact hit_of hu (Tm.end_i h3 h1) (by rw [← h2, Int.toNat_natCast]; exact hx)

def keepT (x : Txt) : Txt := 40 :: 107 :: 32 :: (x ++ [41])
theorem keep_track {a : List (List Txt)} (ha : ok a = true) : pTrackIs a a (mp a.length fun _ => 0) (keepT ((a.getD 0 []).getD 0 [])) = true := by
  have hp := ok_pos ha
  have h0 := ok_ne ha (i := 0) (by omega)
  have hm : (a.getD 0 []).getD 0 [] ∈ a.getD 0 [] := gd_mem h0
  obtain ⟨u, hu⟩ := ok_el ha (by omega) hm
  obtain ⟨h1, h2, h3, h4⟩ := rz_more hu
  have hcl := (rz_facts hu).2.2.2
  have hn := no_names hcl
  have e : keepT ((a.getD 0 []).getD 0 []) = (Tm.app .k u).text := by rw [keepT, h2]; rfl
  rw [e]
  refine track_of ha ha rfl (fun j hj => ⟨by omega, by show (0 : Int) < _; omega⟩) (closed_tm (by simp [Tm.good, h4]) (Tm.fits_small (by simp only [Tm.size]; omega)) (fun n => by simp [Tm.has, hn n])) fun i hi x hx => ?_
  obtain ⟨v, hv⟩ := ok_el ha hi hx
  obtain ⟨g1, g2, g3, g4⟩ := rz_more hv
  exact hit_of hv (Tm.end_k h3 g3 h1) (by rw [← h2]; exact hm)

/-- FnModest. -/
theorem other_track {a : List (List Txt)} (ha : modest a = true) (hn : 2 ≤ a.length) (f : Nat → Int) (hf : f 0 = 1) : pTrackIs a a (mp a.length f) Tm.I.text = false := by
  rw [modest, Bool.and_eq_true] at ha
  obtain ⟨hok, hmd⟩ := ha
  cases hc : pTrackIs a a (mp a.length f) Tm.I.text with
  | false => rfl
  | true =>
    exfalso
    rw [pTrackIs, Bool.and_eq_true, closed_i] at hc
    have h2 := hc.2
    simp only [trks, List.all_eq_true] at h2
    have h3 := h2 0 (List.mem_range.2 (by omega))
    have e : (nats (mp a.length f)).getD 0 0 = 1 := by simp [nats, mp, List.getD, show 0 < a.length by omega, hf]
    rw [trk_all (by rw [e]; omega), e, List.all_eq_true] at h3
    have h0 := ok_ne hok (i := 0) (by omega)
    have hm : (a.getD 0 []).getD 0 [] ∈ a.getD 0 [] := gd_mem h0
    obtain ⟨u, hu⟩ := ok_el hok (by omega) hm
    obtain ⟨g1, g2, g3, g4⟩ := rz_more hu
    have h5 := h3 _ hm
    rw [hit, (rz_facts hu).1, Tm.end_i g3 g1] at h5
    simp only [decide_eq_true_eq] at h5
    rw [← g2] at h5
    obtain ⟨k, hk, ek⟩ := List.getElem_of_mem h5
    have := mds_no (a := a) (i := 1) (j := 0) (k := k) (n := a.length) (by rw [gd _ _ _ hk, ek]; exact hm) hk (by omega) (by omega)
    rw [this] at hmd
    cases hmd

/-- FnPairs. -/
theorem prd_at {α β γ : Type} (f : α → β → γ) (d : α) (e : β) (g : γ) (xs : List α) (ys : List β) (i : Nat) (hi : i < xs.length * ys.length) : (prd f xs ys).getD i g = f (xs.getD (i / ys.length) d) (ys.getD (i % ys.length) e) := by
  induction xs generalizing i with
  | nil => simp at hi
  | cons x xs ih =>
    have hy : 0 < ys.length := by
      rcases Nat.eq_zero_or_pos ys.length with h | h
      · rw [h, Nat.mul_zero] at hi; omega
      · exact h
    have e1 : prd f (x :: xs) ys = ys.map (f x) ++ prd f xs ys := rfl
    rw [e1]
    by_cases h : i < ys.length
    · rw [Nat.div_eq_of_lt h, Nat.mod_eq_of_lt h]
      simp [List.getD, List.getElem?_append_left, h]
    · have e2 : i = (i - ys.length) + ys.length := by omega
      have e3 : i / ys.length = (i - ys.length) / ys.length + 1 := by conv => lhs; rw [e2, Nat.add_div_right _ hy]
      have e4 : i % ys.length = (i - ys.length) % ys.length := by conv => lhs; rw [e2, Nat.add_mod_right]
      rw [e3, e4]
      have e5 : (ys.map (f x) ++ prd f xs ys).getD i g = (prd f xs ys).getD (i - ys.length) g := by
        simp only [List.getD]
        rw [List.getElem?_append_right (by simp; omega)]
        simp
      rw [e5, ih (i - ys.length) (by rw [List.length_cons, Nat.succ_mul] at hi; omega)]
      simp [List.getD]

theorem pairs_track {a b : List (List Txt)} (ha : ok a = true) (hb : ok b = true) (hp : ok (pairA a b) = true) :
    pTrackIs (pairA a b) a (mp (pairA a b).length fun x => ((x / b.length : Nat) : Int)) Tm.first.text = true ∧ pTrackIs (pairA a b) b (mp (pairA a b).length fun x => ((x % b.length : Nat) : Int)) Tm.second.text = true := by
  have hlen : (pairA a b).length = a.length * b.length := prd_len _ _ _
  have hbp := ok_pos hb
  have hdiv : ∀ i, i < (pairA a b).length → i / b.length < a.length := fun i hi => by rw [hlen] at hi; exact Nat.div_lt_of_lt_mul (by rw [Nat.mul_comm]; exact hi)
  have hmod : ∀ i, i % b.length < b.length := fun i => Nat.mod_lt _ (by omega)
  have key : ∀ i, i < (pairA a b).length → ∀ x ∈ (pairA a b).getD i [], ∃ y z t u, y ∈ a.getD (i / b.length) [] ∧ z ∈ b.getD (i % b.length) [] ∧ rz y = some t ∧ rz z = some u ∧ x = (Tm.pair t u).text ∧ rz x = some (Tm.pair t u) := fun i hi x hx => by
    obtain ⟨v, hv⟩ := ok_el hp hi hx
    rw [pairA, prd_at prs [] [] [] a b i (by rw [← hlen]; exact hi), prs, List.mem_flatMap] at hx
    obtain ⟨y, hy, hx⟩ := hx
    obtain ⟨z, hz, rfl⟩ := List.mem_map.1 hx
    obtain ⟨t, ht⟩ := ok_el ha (hdiv i hi) hy
    obtain ⟨u, hu⟩ := ok_el hb (hmod i) hz
    have e : pr y z = (Tm.pair t u).text := by rw [pr, (rz_facts ht).1, (rz_facts hu).1]
    refine ⟨y, z, t, u, hy, hz, ht, hu, e, ?_⟩
    obtain ⟨_, _, g3, g4⟩ := rz_more hv
    have hpf := pair_fits (rz_more ht).2.2.1 (rz_more hu).2.2.1 (rz_more ht).2.2.2 (rz_more hu).2.2.2
    have hpt := Tm.parse_text hpf.1 (Tm.fits_small (by have := hpf.2.1; omega))
    have h5 := (Tm.closed_facts (rz_facts hv).2.2.2).1
    rw [e, hpt] at h5
    rw [hv, Option.some.inj h5]
  constructor
  · refine track_of hp ha rfl (fun j hj => ⟨Int.natCast_nonneg _, Int.ofNat_lt.2 (hdiv j hj)⟩) closed_first fun i hi x hx => ?_
    obtain ⟨y, z, t, u, hy, hz, ht, hu, e, hr⟩ := key i hi x hx
    obtain ⟨g1, g2, g3, g4⟩ := rz_more ht
    obtain ⟨k1, k2, k3, k4⟩ := rz_more hu
    obtain ⟨n, hn, hrun⟩ := Tm.end_first g3 k3 g1
    refine hit_of hr (hrun.ends (Tm.fits_small ?_) (by omega) g1) (by rw [← g2, Int.toNat_natCast]; exact hy)
    have : Tm.first.size ≤ 20 := by decide +kernel
    rw [Tm.size, Tm.size_pair]; omega
  · refine track_of hp hb rfl (fun j _ => ⟨Int.natCast_nonneg _, Int.ofNat_lt.2 (hmod j)⟩) closed_second fun i hi x hx => ?_
    obtain ⟨y, z, t, u, hy, hz, ht, hu, e, hr⟩ := key i hi x hx
    obtain ⟨g1, g2, g3, g4⟩ := rz_more ht
    obtain ⟨k1, k2, k3, k4⟩ := rz_more hu
    obtain ⟨n, hn, hrun⟩ := Tm.end_second g3 k3 k1
    refine hit_of hr (hrun.ends (Tm.fits_small ?_) (by omega) k1) (by rw [← k2, Int.toNat_natCast]; exact hz)
    have : Tm.second.size ≤ 20 := by decide +kernel
    rw [Tm.size, Tm.size_pair]; omega
end Asm
end Go.Proofs.YtidpkmkhcomcdaaGreat
