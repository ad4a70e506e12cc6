/-
  The program's readClosed.
-/
import Derived.Test.YtfpekihdoclncaaGreatPkAN
import Derived.Test.YtfpekihdoclncaaGreatPkAP
import Derived.Test.YtfpekihdoclncaaGreatPkAQ
import Derived.Test.YtfpekihdoclncaaGreatPkAR
namespace Go.Proofs.YtfpekihdoclncaaGreat
open Go.RowKit

set_option maxHeartbeats 1000000
set_option maxRecDepth 100000

theorem closed_if {l : List UInt8} {t : Tm} (hp : Tm.parse l = some t) : Tm.closedOf l = if (t.names []).length = 0 then some t else none := by
  unfold Tm.closedOf
  rw [hp]
  by_cases h0 : t.names [] = []
  · simp [h0]
  · have : ¬ (t.names []).length = 0 := fun e => h0 (List.length_eq_zero_iff.1 e)
    have h0' : (t.names []).isEmpty = false := by simpa using h0
    simp [h0', this]

theorem readClosed_any (w : World) (B : Nat) (l : List UInt8) (hB : B ≤ w.heap.size) (hl : l.length ≤ 1000000000) :
    Calls Tryz.prog 27 #[str l] w (DataPost w B (Tm.closedOf l)) := by
  have hread := readTerm_any w B l hB hl
  unfold ParsePost at hread
  cases hp : Tm.parse l with
  | none =>
    have hfin : Tm.closedOf l = none := by simp [Tm.closedOf, hp]
    rw [hp] at hread
    rw [hfin]
    clear hp hfin
    go_enter Tryz.func27, Tryz.ntmps27
    go_wp2_with (go_at_call 21; refine hread.mono ?_; rintro e w1 ⟨v1, rfl, hb1, hv1⟩; clear hv1)
    go_ret2
    exact ⟨_, rfl, hb1, fun t h => by cases h⟩
  | some t =>
    obtain ⟨hg, hf, hs, _, _⟩ := Tm.parse_facts hp
    rw [closed_if hp]
    rw [hp] at hread
    obtain ⟨k, hk⟩ : ∃ k, k = (t.names []).length := ⟨_, rfl⟩
    rw [← hk]
    have HK := Lib.hid hk
    clear hp hk
    by_cases hk0 : k = 0
    · subst hk0
      simp only [if_true]
      go_enter Tryz.func27, Tryz.ntmps27
      go_wp2_with fail
      refine hread.mono ?_
      rintro e w1 ⟨v1, rfl, hb1, hv1⟩
      have ht1 := hv1 t rfl
      have hn := namesOf_any w1 _ t v1 ht1 hg (by omega)
      have HT1 := Lib.hid ht1
      clear hv1 hread ht1
      go_wp2_with (go_at_call 48; refine hn.mono ?_; rintro e w2 ⟨sv, rfl, hb2, ho2⟩; rw [← HK.out] at ho2; obtain ⟨ao, ac, rfl⟩ := own_slice_len ho2; clear ho2)
      go_ret2
      exact ⟨_, rfl, below_trans hb1 hb2, fun t' h => by obtain rfl := Option.some.inj h; exact HT1.out.below hb2⟩
    · have hk1 : 0 < (k : Int) := by omega
      rw [if_neg hk0]
      go_enter Tryz.func27, Tryz.ntmps27
      go_wp2_with fail
      refine hread.mono ?_
      rintro e w1 ⟨v1, rfl, hb1, hv1⟩
      have hn := namesOf_any w1 _ t v1 (hv1 t rfl) hg (by omega)
      clear hv1 hread
      go_wp2_with (go_at_call 48; refine hn.mono ?_; rintro e w2 ⟨sv, rfl, hb2, ho2⟩; rw [← HK.out] at ho2; obtain ⟨ao, ac, rfl⟩ := own_slice_len ho2; clear ho2)
      go_ret2
      exact ⟨_, rfl, below_trans hb1 hb2, fun t h => by cases h⟩
end Go.Proofs.YtfpekihdoclncaaGreat

namespace Go.Proofs.YtfpekihdoclncaaGreat
open Go.RowKit

set_option maxHeartbeats 1000000
set_option maxRecDepth 100000

theorem codeOfText_any (w : World) (B : Nat) (l : List UInt8) (hB : B ≤ w.heap.size) (hl : l.length ≤ 1000000000) :
    Calls Tryz.prog 11 #[str l] w (DataPost w B (Tm.codeT l)) := by
  have hread := readClosed_any w B l hB hl
  unfold DataPost at hread
  cases hp : Tm.closedOf l with
  | none =>
    have hfin : Tm.codeT l = none := by simp [Tm.codeT, hp]
    rw [hp] at hread
    rw [hfin]
    clear hp hfin
    go_enter Tryz.func11, Tryz.ntmps11
    go_wp2_with fail
    refine hread.mono ?_
    rintro e w1 ⟨v1, rfl, hb1, hv1⟩
    clear hv1 hread
    go_wp2_with fail
    go_ret2
    exact ⟨_, rfl, hb1, fun t h => by cases h⟩
  | some t =>
    obtain ⟨hg, hf, hs, _, _⟩ := Tm.parse_facts (Tm.closed_facts hp).1
    have hcode : Tm.codeT l = if (Tm.code t).fits = true then some (Tm.code t) else none := by
      unfold Tm.codeT
      rw [hp]
    rw [hp] at hread
    rw [hcode]
    clear hcode hp
    have hcz := Tm.code_size_le t
    obtain ⟨b, hb⟩ : ∃ b, b = (Tm.code t).fits := ⟨_, rfl⟩
    have hpost : ∀ W v, Below w.heap.size w W → TV W B (Tm.code t) v → DataPost w B (if (Tm.code t).fits = true then some (Tm.code t) else none) (.returned (.tuple #[v, .bool b])) W := fun W v hb' ht => by
      rw [← hb]
      cases b with
      | true => exact ⟨_, rfl, hb', fun t' h => by obtain rfl := Option.some.inj h; exact ht⟩
      | false => exact ⟨_, rfl, hb', fun t' h => by cases h⟩
    generalize (if (Tm.code t).fits = true then some (Tm.code t) else none) = R at hpost ⊢
    have HPOST := Lib.hid hpost
    have HB := Lib.hid hb
    clear hpost hb
    go_enter Tryz.func11, Tryz.ntmps11
    go_wp2_with fail
    refine hread.mono ?_
    rintro e w1 ⟨v1, rfl, hb1, hv1⟩
    have hcall := codeOf_any (hv1 t rfl) (Nat.le_trans hB hb1.size) (by omega)
    unfold TermPost at hcall
    clear hv1 hread
    go_wp2_with fail
    refine hcall.mono ?_
    rintro e w3 ⟨v3, rfl, hb3, ht3⟩
    have hfit := fits_any w3 B _ v3 ht3
    rw [← HB.out] at hfit
    have HT3 := Lib.hid ht3
    clear ht3 hcall
    go_wp2_with (go_at_call 29; refine hfit.mono ?_; rintro e w4 ⟨rfl, hb4⟩)
    go_ret2
    exact HPOST.out _ _ (below_trans (below_trans hb1 hb3) hb4) (HT3.out.below hb4)
end Go.Proofs.YtfpekihdoclncaaGreat

namespace Go.Proofs.YtfpekihdoclncaaGreat
open Go.RowKit

set_option maxHeartbeats 1000000
set_option maxRecDepth 100000

theorem join_any (w : World) (B : Nat) (hB : B ≤ w.heap.size) : Calls Tryz.prog 14 #[] w (TermPost w B Tm.joinC) := by
  obtain ⟨os, hos⟩ : ∃ os : List Obj, os = [.cells #[str [117]] 67, .cells #[str [118]] 67, .cells #[str [122]] 67, .cells #[str [117], str [118], str [120], str [121], str [122]] 9, .cells #[.iface 63 (.pointer (some ⟨w.heap.size, 0, none⟩)), .iface 63 (.pointer (some ⟨w.heap.size + 1, 0, none⟩))] 33] := ⟨_, rfl⟩
  have hX : allocL w os = ((((w.alloc (.cells #[str [117]] 67)).alloc (.cells #[str [118]] 67)).alloc (.cells #[str [122]] 67)).alloc (.cells #[str [117], str [118], str [120], str [121], str [122]] 9)).alloc (.cells #[.iface 63 (.pointer (some ⟨w.heap.size, 0, none⟩)), .iface 63 (.pointer (some ⟨w.heap.size + 1, 0, none⟩))] 33) := by rw [hos]; rfl
  have hA := allocL_below w os
  have g0 : (allocL w os).heap[w.heap.size]? = some (.cells #[str [117]] 67 (0, 0)) := by have := allocL_heap w os 0 (by rw [hos]; simp); simpa [hos] using this
  have g1 : (allocL w os).heap[w.heap.size + 1]? = some (.cells #[str [118]] 67 (0, 0)) := by have := allocL_heap w os 1 (by rw [hos]; simp); simpa [hos] using this
  have g2 : (allocL w os).heap[w.heap.size + 1 + 1]? = some (.cells #[str [122]] 67 (0, 0)) := by have := allocL_heap w os 2 (by rw [hos]; simp); simpa [hos] using this
  have g3 : (allocL w os).heap[w.heap.size + 1 + 1 + 1]? = some (.cells #[str [117], str [118], str [120], str [121], str [122]] 9 (0, 0)) := by have := allocL_heap w os 3 (by rw [hos]; simp); simpa [hos] using this
  have g4 : (allocL w os).heap[w.heap.size + 1 + 1 + 1 + 1]? = some (.cells #[.iface 63 (.pointer (some ⟨w.heap.size, 0, none⟩)), .iface 63 (.pointer (some ⟨w.heap.size + 1, 0, none⟩))] 33 (0, 0)) := by have := allocL_heap w os 4 (by rw [hos]; simp); simpa [hos] using this
  have k1 := applyAll2 (allocL w os) B _ Tm.Z Tm.U Tm.VV _ _ _ (0, 0) g4 (nm_val g2 (by omega)) (nm_val g0 hB) (nm_val g1 (by omega)) (Nat.le_trans hB hA.size) (by decide)
  unfold TermPost at k1
  have hcell : ∀ W, Below (allocL w os).heap.size (allocL w os) W → StrsB W.heap.size W (.slice (some ⟨w.heap.size + 1 + 1 + 1, 0, none⟩) 5 5) [[117], [118], [120], [121], [122]] := fun W hW =>
    strsB_of (m := W.heap.size) [[117], [118], [120], [121], [122]] (Nat.lt_of_lt_of_le (Array.getElem?_eq_some_iff.1 g3).1 hW.size) (heap_later g3 hW)
  rw [hX] at k1 hA hcell
  have HC := Lib.hid hcell
  clear g0 g1 g2 g3 g4 hX hos hcell
  go_enter Tryz.func14, Tryz.ntmps14
  go_wp2_with fail
  refine k1.mono ?_
  rintro e w1 ⟨r1, rfl, hb1, ht1⟩
  have hb01 := below_trans hA hb1
  have k2 := absAll_any w1 B [[117], [118], [120], [121], [122]] _ _ r1 (HC.out w1 hb1) ht1 (Nat.le_trans hB hb01.size) (by decide) (by decide)
  rw [show FT.absAll [[117], [118], [120], [121], [122]] (Tm.app (.app Tm.Z Tm.U) Tm.VV) = Tm.joinC from rfl] at k2
  unfold TermPost at k2
  clear ht1 k1 HC
  go_wp2_with fail
  refine k2.mono ?_
  rintro e w2 ⟨r2, rfl, hb2, ht2⟩
  have HT := Lib.hid ht2
  clear ht2 k2
  go_wp2_with fail
  go_ret
  exact ⟨_, rfl, below_trans hb01 hb2, HT.out⟩

end Go.Proofs.YtfpekihdoclncaaGreat
