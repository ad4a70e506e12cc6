/-
  The program's normalFitting and applyNormal.
-/
import Derived.Test.YtfpekihdoclncaaPkAT
import Derived.Test.YtfpekihdoclncaaPkAX
import Derived.Test.YtfpekihdoclncaaPkAV
namespace Go.Proofs.Ytfpekihdoclncaa
open Go.RowKit

set_option maxHeartbeats 1000000
set_option maxRecDepth 100000

theorem normalFitting_any (w : World) (B : Nat) (T : Tm) (v3 : Value) (hT : TV w B T v3) (hB : B ≤ w.heap.size) :
    Calls Try.prog 57 #[v3] w (DataPost w B (Tm.endOf T)) := by
  have hfit := fits_any w _ _ v3 hT
  rw [Tm.endOf_eq]
  cases hfa : T.fits with
  | false =>
    simp only [Bool.false_eq_true, if_false]
    rw [hfa] at hfit
    clear hT
    go_enter Try.func57, Try.ntmps57
    go_wp2_with (go_at_call 60; refine hfit.mono ?_; rintro e w4 ⟨rfl, hb4⟩)
    go_ret2
    exact ⟨_, rfl, hb4, fun t h => by cases h⟩
  | true =>
    have hnorm := fun W v h hB => normalTerm_any W B T v h hB hfa
    unfold NormPost at hnorm
    simp only [if_true]
    generalize hmm : T.many 6000 = mm at *
    clear hmm
    obtain ⟨x, c⟩ := mm
    simp only at hnorm ⊢
    generalize hb : x.normal = b at *
    rw [hfa] at hfit
    clear hb hfa
    have hpost : ∀ W v, Below w.heap.size w W → TV W B x v → DataPost w B (if b = true then some x else none) (.returned (.tuple #[v, .bool b])) W := fun W v hb' ht => by
      cases b with
      | true => exact ⟨_, rfl, hb', fun t' h => by obtain rfl := Option.some.inj h; exact ht⟩
      | false => exact ⟨_, rfl, hb', fun t' h => by cases h⟩
    generalize (if b = true then some x else none) = R at hpost ⊢
    have HPOST := Lib.hid hpost
    have HV3 := Lib.hid hT
    clear hpost hT
    go_enter Try.func57, Try.ntmps57
    go_wp2_with (go_at_call 60; refine hfit.mono ?_; rintro e w4 ⟨rfl, hb4⟩)
    have hcall2 := hnorm w4 v3 (HV3.out.below hb4) (Nat.le_trans hB hb4.size)
    clear hnorm hfit
    refine hcall2.mono ?_
    rintro e w6 ⟨v6, rfl, hb6, hv6⟩
    have HV6 := Lib.hid hv6
    clear hv6 hcall2
    go_wp2_with fail
    go_ret2
    exact HPOST.out _ _ (below_trans hb4 hb6) HV6.out

theorem applyNormal_any (w : World) (B : Nat) (f a : Tm) (vf va : Value) (hf : TV w B f vf) (ha : TV w B a va) (hB : B ≤ w.heap.size) (hz : f.size + a.size ≤ 1000000000) :
    Calls Try.prog 31 #[vf, va] w (DataPost w B (Tm.endOf (.app f a))) := by
  have happ := apply_any w B f a vf va hf ha hB (by omega)
  clear hf ha
  go_enter Try.func31, Try.ntmps31
  go_wp2_with fail
  refine happ.mono ?_
  rintro e w2 ⟨v3, rfl, hb2, hv3⟩
  have hcall := normalFitting_any w2 B _ v3 hv3 (Nat.le_trans hB hb2.size)
  unfold DataPost at hcall
  clear hv3 happ
  go_wp2_with fail
  refine hcall.mono ?_
  rintro e w4 ⟨v4, rfl, hb4, hv4⟩
  have HV := Lib.hid hv4
  clear hv4 hcall
  generalize Tm.endOf (.app f a) = R at *
  go_wp2_with fail
  go_ret2
  exact ⟨_, rfl, below_trans hb2 hb4, HV.out⟩
end Go.Proofs.Ytfpekihdoclncaa

namespace Go.Proofs.Ytfpekihdoclncaa
open Go.RowKit

set_option maxHeartbeats 1000000
set_option maxRecDepth 100000

theorem codeOfText_any (w : World) (B : Nat) (l : List UInt8) (hB : B ≤ w.heap.size) (hl : l.length ≤ 1000000000) :
    Calls Try.prog 35 #[str l] w (DataPost w B (Tm.codeT l)) := by
  have hread := readClosed_any w B l hB hl
  unfold DataPost at hread
  cases hp : Tm.closedOf l with
  | none =>
    have hfin : Tm.codeT l = none := by simp [Tm.codeT, hp]
    rw [hp] at hread
    rw [hfin]
    clear hp hfin
    go_enter Try.func35, Try.ntmps35
    go_wp2_with fail
    refine hread.mono ?_
    rintro e w1 ⟨v1, rfl, hb1, hv1⟩
    clear hv1 hread
    go_wp2_with fail
    go_ret2
    exact ⟨_, rfl, hb1, fun t h => by cases h⟩
  | some t =>
    obtain ⟨hg, hf, hs, _, _⟩ := Tm.parse_facts (Tm.closed_facts hp).1
    have hcode : Tm.codeT l = if (Tm.code t).fits = true then some (Tm.code t) else none := by
      unfold Tm.codeT
      rw [hp]
    rw [hp] at hread
    rw [hcode]
    clear hcode hp
    have hcz := Tm.code_size_le t
    obtain ⟨b, hb⟩ : ∃ b, b = (Tm.code t).fits := ⟨_, rfl⟩
    have hpost : ∀ W v, Below w.heap.size w W → TV W B (Tm.code t) v → DataPost w B (if (Tm.code t).fits = true then some (Tm.code t) else none) (.returned (.tuple #[v, .bool b])) W := fun W v hb' ht => by
      rw [← hb]
      cases b with
      | true => exact ⟨_, rfl, hb', fun t' h => by obtain rfl := Option.some.inj h; exact ht⟩
      | false => exact ⟨_, rfl, hb', fun t' h => by cases h⟩
    generalize (if (Tm.code t).fits = true then some (Tm.code t) else none) = R at hpost ⊢
    have HPOST := Lib.hid hpost
    have HB := Lib.hid hb
    clear hpost hb
    go_enter Try.func35, Try.ntmps35
    go_wp2_with fail
    refine hread.mono ?_
    rintro e w1 ⟨v1, rfl, hb1, hv1⟩
    have hcall := codeOf_any (hv1 t rfl) (Nat.le_trans hB hb1.size) (by omega)
    unfold TermPost at hcall
    clear hv1 hread
    go_wp2_with fail
    refine hcall.mono ?_
    rintro e w3 ⟨v3, rfl, hb3, ht3⟩
    have hfit := fits_any w3 B _ v3 ht3
    rw [← HB.out] at hfit
    have HT3 := Lib.hid ht3
    clear ht3 hcall
    go_wp2_with (go_at_call 60; refine hfit.mono ?_; rintro e w4 ⟨rfl, hb4⟩)
    go_ret2
    exact HPOST.out _ _ (below_trans (below_trans hb1 hb3) hb4) (HT3.out.below hb4)
end Go.Proofs.Ytfpekihdoclncaa

namespace Go.Proofs.Ytfpekihdoclncaa
open Go.RowKit

set_option maxHeartbeats 1000000
set_option maxRecDepth 100000

theorem itself_any (w : World) (B : Nat) (x : List UInt8) (hB : B ≤ w.heap.size) : Calls Try.prog 64 #[str x] w (TermPost w B (.app Tm.U (.nm x))) := by
  obtain ⟨os, hos⟩ : ∃ os : List Obj, os = [.cells #[str [117]] 87, .cells #[str x] 87] := ⟨_, rfl⟩
  have hX : allocL w os = (w.alloc (.cells #[str [117]] 87)).alloc (.cells #[str x] 87) := by rw [hos]; rfl
  have hA := allocL_below w os
  have g0 : (allocL w os).heap[w.heap.size]? = some (.cells #[str [117]] 87 (0, 0)) := by have := allocL_heap w os 0 (by rw [hos]; simp); simpa [hos] using this
  have g1 : (allocL w os).heap[w.heap.size + 1]? = some (.cells #[str x] 87 (0, 0)) := by have := allocL_heap w os 1 (by rw [hos]; simp); simpa [hos] using this
  have hc := apply_any (allocL w os) B Tm.U (.nm x) _ _ (nm_val g0 hB) (nm_val g1 (by omega)) (Nat.le_trans hB hA.size) (by simp [Tm.size, Tm.U])
  rw [hX] at hc hA
  clear g0 g1 hX hos
  go_enter Try.func64, Try.ntmps64
  go_wp2_with fail
  refine hc.mono ?_
  rintro e w1 ⟨v1, rfl, hb1, ht1⟩
  have HT := Lib.hid ht1
  clear ht1 hc
  go_wp2_with fail
  go_ret
  exact ⟨_, rfl, below_trans hA hb1, HT.out⟩

theorem rec_any (w : World) (B : Nat) (a b c : Tm) (v1 v2 v3 : Value) (h1 : TV w B a v1) (h2 : TV w B b v2) (h3 : TV w B c v3) (hB : B ≤ w.heap.size) (hc : c.size ≤ 3900) (hz : 1 + a.size + b.size + (FT.absAll [[120], [121]] c).size ≤ 3900) :
    Calls Try.prog 63 #[v1, v2, v3] w (TermPost w B (Tm.recC a b c)) := by
  obtain ⟨T1, x1, rfl, _⟩ := h1.asks
  obtain ⟨T2, x2, rfl, _⟩ := h2.asks
  obtain ⟨T3, x3, rfl, _⟩ := h3.asks
  have hA1 : Below w.heap.size w (w.alloc (.cells #[str [120], str [121]] 9)) := below_alloc (Below.refl _ _) _
  have k1 := absAll_any (w.alloc (.cells #[str [120], str [121]] 9)) B [[120], [121]] _ c _ (strsB_of (m := (w.alloc (.cells #[str [120], str [121]] 9)).heap.size) [[120], [121]] (by simp) (heap_top w (.cells #[str [120], str [121]] 9))) (h3.below hA1) (Nat.le_trans hB hA1.size) (by decide) hc
  obtain ⟨J, hJ⟩ : ∃ J, J = FT.absAll [[120], [121]] c := ⟨_, rfl⟩
  have hfin : Tm.recC a b c = .app Tm.fix (FT.absAll [[117], [118]] (.app (.app (.app Tm.VV a) b) J)) := by rw [hJ]; rfl
  have hcz : (Tm.app (.app (.app Tm.VV a) b) J).size ≤ 3900 := by rw [hJ]; simp only [Tm.size, Tm.VV]; omega
  have hJz : Tm.VV.size + a.size + b.size + J.size ≤ 1000000 := by rw [hJ]; simp only [Tm.size, Tm.VV]; omega
  rw [← hJ] at k1
  rw [hfin]
  unfold TermPost at k1
  have H1 := Lib.hid (h1.below hA1)
  have H2 := Lib.hid (h2.below hA1)
  have hfz : Tm.fix.size ≤ 1000 := by decide +kernel
  clear h1 h2 h3 hfin hJ
  go_enter Try.func63, Try.ntmps63
  go_wp2_with fail
  refine k1.mono ?_
  rintro e w1 ⟨r1, rfl, hb1, ht1⟩
  obtain ⟨T4, x4, rfl, _⟩ := ht1.asks
  have hb01 := below_trans hA1 hb1
  obtain ⟨os, hos⟩ : ∃ os : List Obj, os = [.cells #[str [118]] 87, .cells #[.iface T1 x1, .iface T2 x2, .iface T4 x4] 39] := ⟨_, rfl⟩
  have hX : allocL w1 os = (w1.alloc (.cells #[str [118]] 87)).alloc (.cells #[.iface T1 x1, .iface T2 x2, .iface T4 x4] 39) := by rw [hos]; rfl
  have hA2 := allocL_below w1 os
  have g0 : (allocL w1 os).heap[w1.heap.size]? = some (.cells #[str [118]] 87 (0, 0)) := by have := allocL_heap w1 os 0 (by rw [hos]; simp); simpa [hos] using this
  have g1 : (allocL w1 os).heap[w1.heap.size + 1]? = some (.cells #[.iface T1 x1, .iface T2 x2, .iface T4 x4] 39 (0, 0)) := by have := allocL_heap w1 os 1 (by rw [hos]; simp); simpa [hos] using this
  have hb02 := below_trans hb01 hA2
  have k2 := applyAll3 (allocL w1 os) B _ Tm.VV a b J _ _ _ _ (0, 0) g1 (nm_val g0 (Nat.le_trans hB hb01.size)) ((H1.out.below hb1).below hA2) ((H2.out.below hb1).below hA2) (ht1.below hA2) (Nat.le_trans hB hb02.size) hJz
  rw [hX] at k2 hb02
  unfold TermPost at k2
  clear g0 g1 hX hos hA2 ht1 k1
  go_wp2_with fail
  refine k2.mono ?_
  rintro e w2 ⟨r2, rfl, hb2, ht2⟩
  obtain ⟨T5, x5, rfl, _⟩ := ht2.asks
  have hb03 := below_trans hb02 hb2
  have k3 := fix_any w2 B (Nat.le_trans hB hb03.size)
  unfold TermPost at k3
  have HT2 := Lib.hid ht2
  clear ht2 k2
  go_wp2_with fail
  refine k3.mono ?_
  rintro e w3 ⟨r3, rfl, hb3, ht3⟩
  have hb04 := below_trans hb03 hb3
  have hA4 : Below w3.heap.size w3 (w3.alloc (.cells #[str [117], str [118]] 9)) := below_alloc (Below.refl _ _) _
  have k4 := absAll_any (w3.alloc (.cells #[str [117], str [118]] 9)) B [[117], [118]] _ _ _ (strsB_of (m := (w3.alloc (.cells #[str [117], str [118]] 9)).heap.size) [[117], [118]] (by simp) (heap_top w3 (.cells #[str [117], str [118]] 9))) ((HT2.out.below hb3).below hA4) (Nat.le_trans hB (below_trans hb04 hA4).size) (by decide) hcz
  have hz4 := absR_small [[118], [117]] _ (by decide) hcz
  have HT3 := Lib.hid (ht3.below hA4)
  have hb05 := below_trans hb04 hA4
  unfold TermPost at k4
  clear ht3 k3 HT2
  go_wp2_with fail
  refine k4.mono ?_
  rintro e w4 ⟨r4, rfl, hb4, ht4⟩
  have hb06 := below_trans hb05 hb4
  have k5 := apply_any w4 B _ _ r3 r4 (HT3.out.below hb4) ht4 (Nat.le_trans hB hb06.size) (by
    have : (FT.absAll [[117], [118]] (Tm.app (.app (.app Tm.VV a) b) J)).size ≤ 1000000 := hz4
    omega)
  clear ht4 k4
  go_wp2_with fail
  refine k5.mono ?_
  rintro e w5 ⟨r5, rfl, hb5, ht5⟩
  have HT := Lib.hid ht5
  clear ht5 k5
  go_wp2_with fail
  go_ret
  exact ⟨_, rfl, below_trans hb06 hb5, HT.out⟩

theorem run_any (w : World) (B : Nat) (hB : B ≤ w.heap.size) : Calls Try.prog 38 #[] w (TermPost w B Tm.runC) := by
  obtain ⟨os, hos⟩ : ∃ os : List Obj, os = [.cells #[] 76, .cells #[] 78] := ⟨_, rfl⟩
  have hX : allocL w os = (w.alloc (.cells #[] 76)).alloc (.cells #[] 78) := by rw [hos]; rfl
  have hA := allocL_below w os
  have g0 : (allocL w os).heap[w.heap.size]? = some (.cells #[] 76 (0, 0)) := by have := allocL_heap w os 0 (by rw [hos]; simp); simpa [hos] using this
  have g1 : (allocL w os).heap[w.heap.size + 1]? = some (.cells #[] 78 (0, 0)) := by have := allocL_heap w os 1 (by rw [hos]; simp); simpa [hos] using this
  have hk0 : TV (allocL w os) B .k (.iface 72 (.pointer (some ⟨w.heap.size, 0, none⟩))) := ⟨_, _, rfl, hB, g0⟩
  have hk1 : TV (allocL w os) B .s (.iface 77 (.pointer (some ⟨w.heap.size + 1, 0, none⟩))) := ⟨_, _, rfl, by omega, g1⟩
  have hi1 := itself_any (allocL w os) B [120] (Nat.le_trans hB hA.size)
  unfold TermPost at hi1
  rw [hX] at hi1 hk0 hk1 hA
  have HK0 := Lib.hid hk0
  have HK1 := Lib.hid hk1
  clear g0 g1 hk0 hk1 hX hos
  go_enter Try.func38, Try.ntmps38
  go_wp2_with fail
  refine hi1.mono ?_
  rintro e w1 ⟨r1, rfl, hb1, ht1⟩
  have hb01 := below_trans hA hb1
  have hi2 := itself_any w1 B [121] (Nat.le_trans hB hb01.size)
  unfold TermPost at hi2
  have HT1 := Lib.hid ht1
  clear ht1 hi1
  go_wp2_with fail
  refine hi2.mono ?_
  rintro e w2 ⟨r2, rfl, hb2, ht2⟩
  have hb02 := below_trans hb01 hb2
  have k3 := apply_any w2 B _ _ r1 r2 (HT1.out.below hb2) ht2 (Nat.le_trans hB hb02.size) (by decide)
  clear ht2 hi2 HT1
  go_wp2_with fail
  refine k3.mono ?_
  rintro e w3 ⟨r3, rfl, hb3, ht3⟩
  have hb03 := below_trans hb02 hb3
  have hb13 := below_trans (below_trans hb1 hb2) hb3
  have k4 := rec_any w3 B .k .s _ _ _ r3 (HK0.out.below hb13) (HK1.out.below hb13) ht3 (Nat.le_trans hB hb03.size) (by decide) (by decide +kernel)
  rw [show Tm.recC .k .s (.app (.app Tm.U (.nm [120])) (.app Tm.U (.nm [121]))) = Tm.runC from rfl] at k4
  unfold TermPost at k4
  clear ht3 k3
  go_wp2_with fail
  refine k4.mono ?_
  rintro e w4 ⟨r4, rfl, hb4, ht4⟩
  have HT := Lib.hid ht4
  clear ht4 k4
  go_wp2_with fail
  go_ret
  exact ⟨_, rfl, below_trans hb03 hb4, HT.out⟩

theorem join_any (w : World) (B : Nat) (hB : B ≤ w.heap.size) : Calls Try.prog 41 #[] w (TermPost w B Tm.joinC) := by
  obtain ⟨os, hos⟩ : ∃ os : List Obj, os = [.cells #[str [117]] 87, .cells #[str [118]] 87, .cells #[str [122]] 87, .cells #[str [117], str [118], str [120], str [121], str [122]] 9, .cells #[.iface 85 (.pointer (some ⟨w.heap.size, 0, none⟩)), .iface 85 (.pointer (some ⟨w.heap.size + 1, 0, none⟩))] 39] := ⟨_, rfl⟩
  have hX : allocL w os = ((((w.alloc (.cells #[str [117]] 87)).alloc (.cells #[str [118]] 87)).alloc (.cells #[str [122]] 87)).alloc (.cells #[str [117], str [118], str [120], str [121], str [122]] 9)).alloc (.cells #[.iface 85 (.pointer (some ⟨w.heap.size, 0, none⟩)), .iface 85 (.pointer (some ⟨w.heap.size + 1, 0, none⟩))] 39) := by rw [hos]; rfl
  have hA := allocL_below w os
  have g0 : (allocL w os).heap[w.heap.size]? = some (.cells #[str [117]] 87 (0, 0)) := by have := allocL_heap w os 0 (by rw [hos]; simp); simpa [hos] using this
  have g1 : (allocL w os).heap[w.heap.size + 1]? = some (.cells #[str [118]] 87 (0, 0)) := by have := allocL_heap w os 1 (by rw [hos]; simp); simpa [hos] using this
  have g2 : (allocL w os).heap[w.heap.size + 1 + 1]? = some (.cells #[str [122]] 87 (0, 0)) := by have := allocL_heap w os 2 (by rw [hos]; simp); simpa [hos] using this
  have g3 : (allocL w os).heap[w.heap.size + 1 + 1 + 1]? = some (.cells #[str [117], str [118], str [120], str [121], str [122]] 9 (0, 0)) := by have := allocL_heap w os 3 (by rw [hos]; simp); simpa [hos] using this
  have g4 : (allocL w os).heap[w.heap.size + 1 + 1 + 1 + 1]? = some (.cells #[.iface 85 (.pointer (some ⟨w.heap.size, 0, none⟩)), .iface 85 (.pointer (some ⟨w.heap.size + 1, 0, none⟩))] 39 (0, 0)) := by have := allocL_heap w os 4 (by rw [hos]; simp); simpa [hos] using this
  have k1 := applyAll2 (allocL w os) B _ Tm.Z Tm.U Tm.VV _ _ _ (0, 0) g4 (nm_val g2 (by omega)) (nm_val g0 hB) (nm_val g1 (by omega)) (Nat.le_trans hB hA.size) (by decide)
  unfold TermPost at k1
  have hcell : ∀ W, Below (allocL w os).heap.size (allocL w os) W → StrsB W.heap.size W (.slice (some ⟨w.heap.size + 1 + 1 + 1, 0, none⟩) 5 5) [[117], [118], [120], [121], [122]] := fun W hW =>
    strsB_of (m := W.heap.size) [[117], [118], [120], [121], [122]] (Nat.lt_of_lt_of_le (Array.getElem?_eq_some_iff.1 g3).1 hW.size) (heap_later g3 hW)
  rw [hX] at k1 hA hcell
  have HC := Lib.hid hcell
  clear g0 g1 g2 g3 g4 hX hos hcell
  go_enter Try.func41, Try.ntmps41
  go_wp2_with fail
  refine k1.mono ?_
  rintro e w1 ⟨r1, rfl, hb1, ht1⟩
  have hb01 := below_trans hA hb1
  have k2 := absAll_any w1 B [[117], [118], [120], [121], [122]] _ _ r1 (HC.out w1 hb1) ht1 (Nat.le_trans hB hb01.size) (by decide) (by decide)
  rw [show FT.absAll [[117], [118], [120], [121], [122]] (Tm.app (.app Tm.Z Tm.U) Tm.VV) = Tm.joinC from rfl] at k2
  unfold TermPost at k2
  clear ht1 k1 HC
  go_wp2_with fail
  refine k2.mono ?_
  rintro e w2 ⟨r2, rfl, hb2, ht2⟩
  have HT := Lib.hid ht2
  clear ht2 k2
  go_wp2_with fail
  go_ret
  exact ⟨_, rfl, below_trans hb01 hb2, HT.out⟩

end Go.Proofs.Ytfpekihdoclncaa
