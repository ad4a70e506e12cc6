/-
  The program's codes: codeNames, kCode, sCode, applicationCode, codeOf, codeOfText, applyNormal.
-/
import Derived.Test.YtfjohagdlaiapaaGreatPkU
import Derived.Test.YtfjohagdlaiapaaGreatPkC
import Derived.Test.YtfjohagdlaiapaaGreatPkB
namespace Go.Proofs.YtfjohagdlaiapaaGreat
open Go.RowKit

set_option maxHeartbeats 1000000
set_option maxRecDepth 100000

theorem code_names (w : World) : Calls Tryz.prog 89 #[] w fun e w' => e = .returned (.slice (some ⟨w.heap.size, 0, none⟩) 3 3) ∧ w' = w.alloc (.cells #[str [120], str [121], str [122]] 9 (0, 0)) := by
  go_enter Tryz.func89, Tryz.ntmps89
  go_wp2_with fail
  go_ret
  exact ⟨rfl, rfl⟩

/-- Names in a block. -/
theorem strsB_of {W : World} {g m : Nat} (xs : List (List UInt8)) {fr : Nat × Nat} (hg : g < m) (h : W.heap[g]? = some (.cells (xs.map str).toArray 9 fr)) : StrsB m W (.slice (some ⟨g, 0, none⟩) xs.length xs.length) xs :=
  Or.inr ⟨g, 0, xs.length, rfl, hg, fun j hj => by
    rw [Nat.zero_add, cell_of_heap h]
    simp [hj]⟩

theorem kcode_any (w : World) (B : Nat) (hB : B ≤ w.heap.size) : Calls Tryz.prog 65 #[] w (TermPost w B Tm.kC) := by
  obtain ⟨os, hos⟩ : ∃ os : List Obj, os = [.cells #[str [120], str [121], str [122]] 9, .cells #[str [120]] 124] := ⟨_, rfl⟩
  have hX : allocL w os = (w.alloc (.cells #[str [120], str [121], str [122]] 9)).alloc (.cells #[str [120]] 124) := by rw [hos]; rfl
  have hA := allocL_below w os
  have hsz := allocL_size w os
  have h0 : (allocL w os).heap[w.heap.size]? = some (.cells #[str [120], str [121], str [122]] 9 (0, 0)) := by have := allocL_heap w os 0 (by rw [hos]; simp); simpa [hos] using this
  have h1 : (allocL w os).heap[w.heap.size + 1]? = some (.cells #[str [120]] 124 (0, 0)) := by have := allocL_heap w os 1 (by rw [hos]; simp); simpa [hos] using this
  have hx := nm_val (B := B) h1 (by omega)
  have hc := absAll_any (allocL w os) B [[120], [121], [122]] _ Tm.X _ (strsB_of (m := (allocL w os).heap.size) [[120], [121], [122]] (by rw [hsz, hos]; simp) h0) hx (Nat.le_trans hB hA.size) (by decide) (by decide +kernel)
  rw [show FT.absAll [[120], [121], [122]] Tm.X = Tm.kC by kernel_rfl] at hc
  rw [hX] at hc hA
  unfold TermPost at hc
  have hn := code_names w
  clear hx h0 h1 hX hsz hos
  go_enter Tryz.func65, Tryz.ntmps65
  go_wp2_with fail
  refine hn.mono ?_
  rintro e w1 ⟨rfl, rfl⟩
  clear hn
  go_wp2_with fail
  refine hc.mono ?_
  rintro e w2 ⟨v2, rfl, hb2, ht2⟩
  have HT := Lib.hid ht2
  clear ht2 hc
  go_wp2_with fail
  go_ret
  exact ⟨_, rfl, below_trans hA hb2, HT.out⟩

theorem scode_any (w : World) (B : Nat) (hB : B ≤ w.heap.size) : Calls Tryz.prog 66 #[] w (TermPost w B Tm.sC) := by
  obtain ⟨os, hos⟩ : ∃ os : List Obj, os = [.cells #[str [120], str [121], str [122]] 9, .cells #[str [121]] 124] := ⟨_, rfl⟩
  have hX : allocL w os = (w.alloc (.cells #[str [120], str [121], str [122]] 9)).alloc (.cells #[str [121]] 124) := by rw [hos]; rfl
  have hA := allocL_below w os
  have hsz := allocL_size w os
  have h0 : (allocL w os).heap[w.heap.size]? = some (.cells #[str [120], str [121], str [122]] 9 (0, 0)) := by have := allocL_heap w os 0 (by rw [hos]; simp); simpa [hos] using this
  have h1 : (allocL w os).heap[w.heap.size + 1]? = some (.cells #[str [121]] 124 (0, 0)) := by have := allocL_heap w os 1 (by rw [hos]; simp); simpa [hos] using this
  have hx := nm_val (B := B) h1 (by omega)
  have hc := absAll_any (allocL w os) B [[120], [121], [122]] _ Tm.Y _ (strsB_of (m := (allocL w os).heap.size) [[120], [121], [122]] (by rw [hsz, hos]; simp) h0) hx (Nat.le_trans hB hA.size) (by decide) (by decide +kernel)
  rw [show FT.absAll [[120], [121], [122]] Tm.Y = Tm.sC by kernel_rfl] at hc
  rw [hX] at hc hA
  unfold TermPost at hc
  have hn := code_names w
  clear hx h0 h1 hX hsz hos
  go_enter Tryz.func66, Tryz.ntmps66
  go_wp2_with fail
  refine hn.mono ?_
  rintro e w1 ⟨rfl, rfl⟩
  clear hn
  go_wp2_with fail
  refine hc.mono ?_
  rintro e w2 ⟨v2, rfl, hb2, ht2⟩
  have HT := Lib.hid ht2
  clear ht2 hc
  go_wp2_with fail
  go_ret
  exact ⟨_, rfl, below_trans hA hb2, HT.out⟩

theorem appC_any (w : World) (B : Nat) (f a : Tm) (v1 v2 : Value) (h1 : TV w B f v1) (h2 : TV w B a v2) (hB : B ≤ w.heap.size) (hz : f.size + a.size ≤ 100000000) :
    Calls Tryz.prog 67 #[v1, v2] w (TermPost w B (Tm.appC f a)) := by
  obtain ⟨os, hos⟩ : ∃ os : List Obj, os = [.cells #[] 90, .cells #[] 90] := ⟨_, rfl⟩
  have hX : allocL w os = (w.alloc (.cells #[] 90)).alloc (.cells #[] 90) := by rw [hos]; rfl
  have hA := allocL_below w os
  have g0 : (allocL w os).heap[w.heap.size]? = some (.cells #[] 90 (0, 0)) := by have := allocL_heap w os 0 (by rw [hos]; simp); simpa [hos] using this
  have g1 : (allocL w os).heap[w.heap.size + 1]? = some (.cells #[] 90 (0, 0)) := by have := allocL_heap w os 1 (by rw [hos]; simp); simpa [hos] using this
  have hk0 : TV (allocL w os) B .k (.iface 86 (.pointer (some ⟨w.heap.size, 0, none⟩))) := ⟨_, _, rfl, hB, g0⟩
  have hk1 : TV (allocL w os) B .k (.iface 86 (.pointer (some ⟨w.heap.size + 1, 0, none⟩))) := ⟨_, _, rfl, by omega, g1⟩
  have hp := pair_any (allocL w os) B f a v1 v2 (h1.below hA) (h2.below hA) (Nat.le_trans hB hA.size) hz
  have hps := Tm.size_pair f a
  unfold TermPost at hp
  rw [hX] at hp hk0 hk1 hA
  have HK0 := Lib.hid hk0
  have HK1 := Lib.hid hk1
  obtain ⟨T1, x1, rfl, _⟩ := h1.asks
  obtain ⟨T2, x2, rfl, _⟩ := h2.asks
  have hk : Tm.k.size = 1 := rfl
  clear g0 g1 hk0 hk1 hX hos h1 h2
  go_enter Tryz.func67, Tryz.ntmps67
  go_wp2_with fail
  refine hp.mono ?_
  rintro e w1 ⟨v3, rfl, hb1, ht1⟩
  have hb01 := below_trans hA hb1
  have hc2 := apply_any w1 B .k _ _ v3 (HK1.out.below hb1) ht1 (Nat.le_trans hB hb01.size) (by omega)
  clear ht1 hp
  go_wp2_with fail
  refine hc2.mono ?_
  rintro e w2 ⟨v4, rfl, hb2, ht2⟩
  have hb02 := below_trans hb01 hb2
  have hc3 := apply_any w2 B .k _ _ v4 (HK0.out.below (below_trans hb1 hb2)) ht2 (Nat.le_trans hB hb02.size) (by simp only [Tm.size]; omega)
  clear ht2 hc2
  go_wp2_with fail
  refine hc3.mono ?_
  rintro e w3 ⟨v5, rfl, hb3, ht3⟩
  have HT := Lib.hid ht3
  clear ht3 hc3
  go_wp2_with fail
  go_ret
  exact ⟨_, rfl, below_trans hb02 hb3, HT.out⟩

theorem as_k_k (W : World) (x : Value) : (Instr.typeAssert (.iface 86 x) 38 86 true).run Tryz.prog W = .ok (.tuple #[x, .bool true]) W := by kernel_rfl
theorem as_k_s (W : World) (x : Value) : (Instr.typeAssert (.iface 91 x) 38 86 true).run Tryz.prog W = .ok (.tuple #[.pointer none, .bool false]) W := by kernel_rfl
theorem as_k_n (W : World) (x : Value) : (Instr.typeAssert (.iface 122 x) 38 86 true).run Tryz.prog W = .ok (.tuple #[.pointer none, .bool false]) W := by kernel_rfl
theorem as_k_a (W : World) (x : Value) : (Instr.typeAssert (.iface 108 x) 38 86 true).run Tryz.prog W = .ok (.tuple #[.pointer none, .bool false]) W := by kernel_rfl
theorem as_s_s (W : World) (x : Value) : (Instr.typeAssert (.iface 91 x) 38 91 true).run Tryz.prog W = .ok (.tuple #[x, .bool true]) W := by kernel_rfl
theorem as_s_n (W : World) (x : Value) : (Instr.typeAssert (.iface 122 x) 38 91 true).run Tryz.prog W = .ok (.tuple #[.pointer none, .bool false]) W := by kernel_rfl
theorem as_s_a (W : World) (x : Value) : (Instr.typeAssert (.iface 108 x) 38 91 true).run Tryz.prog W = .ok (.tuple #[.pointer none, .bool false]) W := by kernel_rfl

theorem codeOf_any : ∀ {t : Tm} {w : World} {B : Nat} {v : Value}, TV w B t v → B ≤ w.heap.size → t.size ≤ 1000000 → Calls Tryz.prog 37 #[v] w (TermPost w B t.code) := by
  intro t
  induction t with
  | k =>
    intro w B v h hB _
    obtain ⟨b, fr, rfl, _, _⟩ := h
    have ha1 := as_k_k w (.pointer (some ⟨b, 0, none⟩))
    have hc := kcode_any w B hB
    unfold TermPost at hc
    go_enter Tryz.func37, Tryz.ntmps37
    go_wp2_with fail
    refine hc.mono ?_
    rintro e w1 ⟨v1, rfl, hb1, ht1⟩
    have HT := Lib.hid ht1
    clear ht1 hc
    go_wp2_with fail
    go_ret
    exact ⟨_, rfl, hb1, HT.out⟩
  | s =>
    intro w B v h hB _
    obtain ⟨b, fr, rfl, _, _⟩ := h
    have ha1 := as_k_s w (.pointer (some ⟨b, 0, none⟩))
    have ha2 := as_s_s w (.pointer (some ⟨b, 0, none⟩))
    have hc := scode_any w B hB
    unfold TermPost at hc
    go_enter Tryz.func37, Tryz.ntmps37
    go_wp2_with fail
    refine hc.mono ?_
    rintro e w1 ⟨v1, rfl, hb1, ht1⟩
    have HT := Lib.hid ht1
    clear ht1 hc
    go_wp2_with fail
    go_ret
    exact ⟨_, rfl, hb1, HT.out⟩
  | nm n =>
    intro w B v h hB _
    have HT := Lib.hid h
    obtain ⟨b, fr, rfl, _, _⟩ := h
    have ha1 := as_k_n w (.pointer (some ⟨b, 0, none⟩))
    have ha2 := as_s_n w (.pointer (some ⟨b, 0, none⟩))
    have ha3 := assert_n w (.pointer (some ⟨b, 0, none⟩))
    go_enter Tryz.func37, Tryz.ntmps37
    go_wp2_with fail
    go_ret
    exact ⟨_, rfl, Below.refl _ _, HT.out⟩
  | app f a ihf iha =>
    intro w B v h hB hz
    obtain ⟨b, fr, vf, va, rfl, hb, hh, hf, ha⟩ := h
    obtain ⟨T1, x1, rfl, _⟩ := hf.asks
    obtain ⟨T2, x2, rfl, _⟩ := ha.asks
    simp only [Tm.size] at hz
    have hzf := Tm.code_size_le f
    have hza := Tm.code_size_le a
    have h0 := cell_later' (cell_of_heap (i := 0) hh)
    have h1 := cell_later' (cell_of_heap (i := 1) hh)
    simp at h0 h1
    have ihf' := fun W' (hW : Below w.heap.size w W') => ihf (hf.below hW) (Nat.le_trans hB hW.size) (by omega)
    have iha' := fun W' (hW : Below w.heap.size w W') => iha (ha.below hW) (Nat.le_trans hB hW.size) (by omega)
    have ha1 := as_k_a w (.pointer (some ⟨b, 0, none⟩))
    have ha2 := as_s_a w (.pointer (some ⟨b, 0, none⟩))
    have ha3 := assert_app w (.pointer (some ⟨b, 0, none⟩))
    have hself := Below.refl w.heap.size w
    unfold TermPost at ihf' iha'
    clear ihf iha hf ha hh
    rw [show Tm.code (.app f a) = Tm.appC f.code a.code from rfl]
    go_enter Tryz.func37, Tryz.ntmps37
    go_wp2_with fail
    go_region_held3 (fun W' => Below w.heap.size w W') (first | assumption | exact hself.drew | go_keep)
      (first
        | (go_at_call_of 37 x1; refine (ihf' _ (by first | assumption | exact hself.drew)).mono ?_; rintro e w1 ⟨r1, rfl, hb1, ht1⟩; have HT1 := Lib.hid ht1; clear ht1; have hb1' := below_trans (by first | assumption | exact hself.drew) hb1)
        | (go_at_call_of 37 x2; refine (iha' _ (by assumption)).mono ?_; rintro e w2 ⟨r2, rfl, hb2, ht2⟩; have HT2 := Lib.hid ht2; clear ht2; have hb2' := below_trans (by assumption) hb2)
        | (go_at_call 67; refine (appC_any _ B f.code a.code r1 r2 (HT1.out.below hb2) HT2.out (Nat.le_trans hB hb2'.size) (by omega)).mono ?_; rintro e w3 ⟨r3, rfl, hb3, ht3⟩; have HT3 := Lib.hid ht3; clear ht3; have hb3' := below_trans hb2' hb3))
    all_goals
      go_wp2_with fail
      go_ret
      exact ⟨_, rfl, hb3', HT3.out⟩

end Go.Proofs.YtfjohagdlaiapaaGreat

namespace Go.Proofs.YtfjohagdlaiapaaGreat
open Go.RowKit

set_option maxHeartbeats 1000000
set_option maxRecDepth 100000

theorem normalFitting_any (w : World) (B : Nat) (T : Tm) (v3 : Value) (hT : TV w B T v3) (hB : B ≤ w.heap.size) :
    Calls Tryz.prog 49 #[v3] w (DataPost w B (Tm.endOf T)) := by
  have hfit := fits_any w _ _ v3 hT
  rw [Tm.endOf_eq]
  cases hfa : T.fits with
  | false =>
    simp only [Bool.false_eq_true, if_false]
    rw [hfa] at hfit
    clear hT
    go_enter Tryz.func49, Tryz.ntmps49
    go_wp2_with (go_at_call 48; refine hfit.mono ?_; rintro e w4 ⟨rfl, hb4⟩)
    go_ret2
    exact ⟨_, rfl, hb4, fun t h => by cases h⟩
  | true =>
    have hnorm := fun W v h hB => normalTerm_any W B T v h hB hfa
    unfold NormPost at hnorm
    simp only [if_true]
    generalize hmm : T.many 6000 = mm at *
    clear hmm
    obtain ⟨x, c⟩ := mm
    simp only at hnorm ⊢
    generalize hb : x.normal = b at *
    rw [hfa] at hfit
    clear hb hfa
    have hpost : ∀ W v, Below w.heap.size w W → TV W B x v → DataPost w B (if b = true then some x else none) (.returned (.tuple #[v, .bool b])) W := fun W v hb' ht => by
      cases b with
      | true => exact ⟨_, rfl, hb', fun t' h => by obtain rfl := Option.some.inj h; exact ht⟩
      | false => exact ⟨_, rfl, hb', fun t' h => by cases h⟩
    generalize (if b = true then some x else none) = R at hpost ⊢
    have HPOST := Lib.hid hpost
    have HV3 := Lib.hid hT
    clear hpost hT
    go_enter Tryz.func49, Tryz.ntmps49
    go_wp2_with (go_at_call 48; refine hfit.mono ?_; rintro e w4 ⟨rfl, hb4⟩)
    have hcall2 := hnorm w4 v3 (HV3.out.below hb4) (Nat.le_trans hB hb4.size)
    clear hnorm hfit
    refine hcall2.mono ?_
    rintro e w6 ⟨v6, rfl, hb6, hv6⟩
    have HV6 := Lib.hid hv6
    clear hv6 hcall2
    go_wp2_with fail
    go_ret2
    exact HPOST.out _ _ (below_trans hb4 hb6) HV6.out

theorem applyNormal_any (w : World) (B : Nat) (f a : Tm) (vf va : Value) (hf : TV w B f vf) (ha : TV w B a va) (hB : B ≤ w.heap.size) (hz : f.size + a.size ≤ 1000000000) :
    Calls Tryz.prog 26 #[vf, va] w (DataPost w B (Tm.endOf (.app f a))) := by
  have happ := apply_any w B f a vf va hf ha hB (by omega)
  clear hf ha
  go_enter Tryz.func26, Tryz.ntmps26
  go_wp2_with fail
  refine happ.mono ?_
  rintro e w2 ⟨v3, rfl, hb2, hv3⟩
  have hcall := normalFitting_any w2 B _ v3 hv3 (Nat.le_trans hB hb2.size)
  unfold DataPost at hcall
  clear hv3 happ
  go_wp2_with fail
  refine hcall.mono ?_
  rintro e w4 ⟨v4, rfl, hb4, hv4⟩
  have HV := Lib.hid hv4
  clear hv4 hcall
  generalize Tm.endOf (.app f a) = R at *
  go_wp2_with fail
  go_ret2
  exact ⟨_, rfl, below_trans hb2 hb4, HV.out⟩
end Go.Proofs.YtfjohagdlaiapaaGreat

namespace Go.Proofs.YtfjohagdlaiapaaGreat
open Go.RowKit

set_option maxHeartbeats 1000000
set_option maxRecDepth 100000

theorem codeOfText_any (w : World) (B : Nat) (l : List UInt8) (hB : B ≤ w.heap.size) (hl : l.length ≤ 1000000000) :
    Calls Tryz.prog 25 #[str l] w (DataPost w B (Tm.codeT l)) := by
  have hread := readClosed_any w B l hB hl
  unfold DataPost at hread
  cases hp : Tm.closedOf l with
  | none =>
    have hfin : Tm.codeT l = none := by simp [Tm.codeT, hp]
    rw [hp] at hread
    rw [hfin]
    clear hp hfin
    go_enter Tryz.func25, Tryz.ntmps25
    go_wp2_with fail
    refine hread.mono ?_
    rintro e w1 ⟨v1, rfl, hb1, hv1⟩
    clear hv1 hread
    go_wp2_with fail
    go_ret2
    exact ⟨_, rfl, hb1, fun t h => by cases h⟩
  | some t =>
    obtain ⟨hg, hf, hs, _, _⟩ := Tm.parse_facts (Tm.closed_facts hp).1
    have hcode : Tm.codeT l = if (Tm.code t).fits = true then some (Tm.code t) else none := by
      unfold Tm.codeT
      rw [hp]
    rw [hp] at hread
    rw [hcode]
    clear hcode hp
    have hcz := Tm.code_size_le t
    obtain ⟨b, hb⟩ : ∃ b, b = (Tm.code t).fits := ⟨_, rfl⟩
    have hpost : ∀ W v, Below w.heap.size w W → TV W B (Tm.code t) v → DataPost w B (if (Tm.code t).fits = true then some (Tm.code t) else none) (.returned (.tuple #[v, .bool b])) W := fun W v hb' ht => by
      rw [← hb]
      cases b with
      | true => exact ⟨_, rfl, hb', fun t' h => by obtain rfl := Option.some.inj h; exact ht⟩
      | false => exact ⟨_, rfl, hb', fun t' h => by cases h⟩
    generalize (if (Tm.code t).fits = true then some (Tm.code t) else none) = R at hpost ⊢
    have HPOST := Lib.hid hpost
    have HB := Lib.hid hb
    clear hpost hb
    go_enter Tryz.func25, Tryz.ntmps25
    go_wp2_with fail
    refine hread.mono ?_
    rintro e w1 ⟨v1, rfl, hb1, hv1⟩
    have hcall := codeOf_any (hv1 t rfl) (Nat.le_trans hB hb1.size) (by omega)
    unfold TermPost at hcall
    clear hv1 hread
    go_wp2_with fail
    refine hcall.mono ?_
    rintro e w3 ⟨v3, rfl, hb3, ht3⟩
    have hfit := fits_any w3 B _ v3 ht3
    rw [← HB.out] at hfit
    have HT3 := Lib.hid ht3
    clear ht3 hcall
    go_wp2_with (go_at_call 48; refine hfit.mono ?_; rintro e w4 ⟨rfl, hb4⟩)
    go_ret2
    exact HPOST.out _ _ (below_trans (below_trans hb1 hb3) hb4) (HT3.out.below hb4)
end Go.Proofs.YtfjohagdlaiapaaGreat

namespace Go.Proofs.YtfjohagdlaiapaaGreat
open Go.RowKit

set_option maxHeartbeats 1000000
set_option maxRecDepth 100000

theorem itself_any (w : World) (B : Nat) (x : List UInt8) (hB : B ≤ w.heap.size) : Calls Tryz.prog 52 #[str x] w (TermPost w B (.app Tm.U (.nm x))) := by
  obtain ⟨os, hos⟩ : ∃ os : List Obj, os = [.cells #[str [117]] 124, .cells #[str x] 124] := ⟨_, rfl⟩
  have hX : allocL w os = (w.alloc (.cells #[str [117]] 124)).alloc (.cells #[str x] 124) := by rw [hos]; rfl
  have hA := allocL_below w os
  have g0 : (allocL w os).heap[w.heap.size]? = some (.cells #[str [117]] 124 (0, 0)) := by have := allocL_heap w os 0 (by rw [hos]; simp); simpa [hos] using this
  have g1 : (allocL w os).heap[w.heap.size + 1]? = some (.cells #[str x] 124 (0, 0)) := by have := allocL_heap w os 1 (by rw [hos]; simp); simpa [hos] using this
  have hc := apply_any (allocL w os) B Tm.U (.nm x) _ _ (nm_val g0 hB) (nm_val g1 (by omega)) (Nat.le_trans hB hA.size) (by simp [Tm.size, Tm.U])
  rw [hX] at hc hA
  clear g0 g1 hX hos
  go_enter Tryz.func52, Tryz.ntmps52
  go_wp2_with fail
  refine hc.mono ?_
  rintro e w1 ⟨v1, rfl, hb1, ht1⟩
  have HT := Lib.hid ht1
  clear ht1 hc
  go_wp2_with fail
  go_ret
  exact ⟨_, rfl, below_trans hA hb1, HT.out⟩

theorem rec_any (w : World) (B : Nat) (a b c : Tm) (v1 v2 v3 : Value) (h1 : TV w B a v1) (h2 : TV w B b v2) (h3 : TV w B c v3) (hB : B ≤ w.heap.size) (hc : c.size ≤ 3900) (hz : 1 + a.size + b.size + (FT.absAll [[120], [121]] c).size ≤ 3900) :
    Calls Tryz.prog 51 #[v1, v2, v3] w (TermPost w B (Tm.recC a b c)) := by
  obtain ⟨T1, x1, rfl, _⟩ := h1.asks
  obtain ⟨T2, x2, rfl, _⟩ := h2.asks
  obtain ⟨T3, x3, rfl, _⟩ := h3.asks
  have hA1 : Below w.heap.size w (w.alloc (.cells #[str [120], str [121]] 9)) := below_alloc (Below.refl _ _) _
  have k1 := absAll_any (w.alloc (.cells #[str [120], str [121]] 9)) B [[120], [121]] _ c _ (strsB_of (m := (w.alloc (.cells #[str [120], str [121]] 9)).heap.size) [[120], [121]] (by simp) (heap_top w (.cells #[str [120], str [121]] 9))) (h3.below hA1) (Nat.le_trans hB hA1.size) (by decide) hc
  obtain ⟨J, hJ⟩ : ∃ J, J = FT.absAll [[120], [121]] c := ⟨_, rfl⟩
  have hfin : Tm.recC a b c = .app Tm.fix (FT.absAll [[117], [118]] (.app (.app (.app Tm.VV a) b) J)) := by rw [hJ]; rfl
  have hcz : (Tm.app (.app (.app Tm.VV a) b) J).size ≤ 3900 := by rw [hJ]; simp only [Tm.size, Tm.VV]; omega
  have hJz : Tm.VV.size + a.size + b.size + J.size ≤ 1000000 := by rw [hJ]; simp only [Tm.size, Tm.VV]; omega
  rw [← hJ] at k1
  rw [hfin]
  unfold TermPost at k1
  have H1 := Lib.hid (h1.below hA1)
  have H2 := Lib.hid (h2.below hA1)
  have hfz : Tm.fix.size ≤ 1000 := by decide +kernel
  clear h1 h2 h3 hfin hJ
  go_enter Tryz.func51, Tryz.ntmps51
  go_wp2_with fail
  refine k1.mono ?_
  rintro e w1 ⟨r1, rfl, hb1, ht1⟩
  obtain ⟨T4, x4, rfl, _⟩ := ht1.asks
  have hb01 := below_trans hA1 hb1
  obtain ⟨os, hos⟩ : ∃ os : List Obj, os = [.cells #[str [118]] 124, .cells #[.iface T1 x1, .iface T2 x2, .iface T4 x4] 38] := ⟨_, rfl⟩
  have hX : allocL w1 os = (w1.alloc (.cells #[str [118]] 124)).alloc (.cells #[.iface T1 x1, .iface T2 x2, .iface T4 x4] 38) := by rw [hos]; rfl
  have hA2 := allocL_below w1 os
  have g0 : (allocL w1 os).heap[w1.heap.size]? = some (.cells #[str [118]] 124 (0, 0)) := by have := allocL_heap w1 os 0 (by rw [hos]; simp); simpa [hos] using this
  have g1 : (allocL w1 os).heap[w1.heap.size + 1]? = some (.cells #[.iface T1 x1, .iface T2 x2, .iface T4 x4] 38 (0, 0)) := by have := allocL_heap w1 os 1 (by rw [hos]; simp); simpa [hos] using this
  have hb02 := below_trans hb01 hA2
  have k2 := applyAll3 (allocL w1 os) B _ Tm.VV a b J _ _ _ _ (0, 0) g1 (nm_val g0 (Nat.le_trans hB hb01.size)) ((H1.out.below hb1).below hA2) ((H2.out.below hb1).below hA2) (ht1.below hA2) (Nat.le_trans hB hb02.size) hJz
  rw [hX] at k2 hb02
  unfold TermPost at k2
  clear g0 g1 hX hos hA2 ht1 k1
  go_wp2_with fail
  refine k2.mono ?_
  rintro e w2 ⟨r2, rfl, hb2, ht2⟩
  obtain ⟨T5, x5, rfl, _⟩ := ht2.asks
  have hb03 := below_trans hb02 hb2
  have k3 := fix_any w2 B (Nat.le_trans hB hb03.size)
  unfold TermPost at k3
  have HT2 := Lib.hid ht2
  clear ht2 k2
  go_wp2_with fail
  refine k3.mono ?_
  rintro e w3 ⟨r3, rfl, hb3, ht3⟩
  have hb04 := below_trans hb03 hb3
  have hA4 : Below w3.heap.size w3 (w3.alloc (.cells #[str [117], str [118]] 9)) := below_alloc (Below.refl _ _) _
  have k4 := absAll_any (w3.alloc (.cells #[str [117], str [118]] 9)) B [[117], [118]] _ _ _ (strsB_of (m := (w3.alloc (.cells #[str [117], str [118]] 9)).heap.size) [[117], [118]] (by simp) (heap_top w3 (.cells #[str [117], str [118]] 9))) ((HT2.out.below hb3).below hA4) (Nat.le_trans hB (below_trans hb04 hA4).size) (by decide) hcz
  have hz4 := absR_small [[118], [117]] _ (by decide) hcz
  have HT3 := Lib.hid (ht3.below hA4)
  have hb05 := below_trans hb04 hA4
  unfold TermPost at k4
  clear ht3 k3 HT2
  go_wp2_with fail
  refine k4.mono ?_
  rintro e w4 ⟨r4, rfl, hb4, ht4⟩
  have hb06 := below_trans hb05 hb4
  have k5 := apply_any w4 B _ _ r3 r4 (HT3.out.below hb4) ht4 (Nat.le_trans hB hb06.size) (by
    have : (FT.absAll [[117], [118]] (Tm.app (.app (.app Tm.VV a) b) J)).size ≤ 1000000 := hz4
    omega)
  clear ht4 k4
  go_wp2_with fail
  refine k5.mono ?_
  rintro e w5 ⟨r5, rfl, hb5, ht5⟩
  have HT := Lib.hid ht5
  clear ht5 k5
  go_wp2_with fail
  go_ret
  exact ⟨_, rfl, below_trans hb06 hb5, HT.out⟩

theorem run_any (w : World) (B : Nat) (hB : B ≤ w.heap.size) : Calls Tryz.prog 27 #[] w (TermPost w B Tm.runC) := by
  obtain ⟨os, hos⟩ : ∃ os : List Obj, os = [.cells #[] 90, .cells #[] 92] := ⟨_, rfl⟩
  have hX : allocL w os = (w.alloc (.cells #[] 90)).alloc (.cells #[] 92) := by rw [hos]; rfl
  have hA := allocL_below w os
  have g0 : (allocL w os).heap[w.heap.size]? = some (.cells #[] 90 (0, 0)) := by have := allocL_heap w os 0 (by rw [hos]; simp); simpa [hos] using this
  have g1 : (allocL w os).heap[w.heap.size + 1]? = some (.cells #[] 92 (0, 0)) := by have := allocL_heap w os 1 (by rw [hos]; simp); simpa [hos] using this
  have hk0 : TV (allocL w os) B .k (.iface 86 (.pointer (some ⟨w.heap.size, 0, none⟩))) := ⟨_, _, rfl, hB, g0⟩
  have hk1 : TV (allocL w os) B .s (.iface 91 (.pointer (some ⟨w.heap.size + 1, 0, none⟩))) := ⟨_, _, rfl, by omega, g1⟩
  have hi1 := itself_any (allocL w os) B [120] (Nat.le_trans hB hA.size)
  unfold TermPost at hi1
  rw [hX] at hi1 hk0 hk1 hA
  have HK0 := Lib.hid hk0
  have HK1 := Lib.hid hk1
  clear g0 g1 hk0 hk1 hX hos
  go_enter Tryz.func27, Tryz.ntmps27
  go_wp2_with fail
  refine hi1.mono ?_
  rintro e w1 ⟨r1, rfl, hb1, ht1⟩
  have hb01 := below_trans hA hb1
  have hi2 := itself_any w1 B [121] (Nat.le_trans hB hb01.size)
  unfold TermPost at hi2
  have HT1 := Lib.hid ht1
  clear ht1 hi1
  go_wp2_with fail
  refine hi2.mono ?_
  rintro e w2 ⟨r2, rfl, hb2, ht2⟩
  have hb02 := below_trans hb01 hb2
  have k3 := apply_any w2 B _ _ r1 r2 (HT1.out.below hb2) ht2 (Nat.le_trans hB hb02.size) (by decide)
  clear ht2 hi2 HT1
  go_wp2_with fail
  refine k3.mono ?_
  rintro e w3 ⟨r3, rfl, hb3, ht3⟩
  have hb03 := below_trans hb02 hb3
  have hb13 := below_trans (below_trans hb1 hb2) hb3
  have k4 := rec_any w3 B .k .s _ _ _ r3 (HK0.out.below hb13) (HK1.out.below hb13) ht3 (Nat.le_trans hB hb03.size) (by decide) (by decide +kernel)
  rw [show Tm.recC .k .s (.app (.app Tm.U (.nm [120])) (.app Tm.U (.nm [121]))) = Tm.runC from rfl] at k4
  unfold TermPost at k4
  clear ht3 k3
  go_wp2_with fail
  refine k4.mono ?_
  rintro e w4 ⟨r4, rfl, hb4, ht4⟩
  have HT := Lib.hid ht4
  clear ht4 k4
  go_wp2_with fail
  go_ret
  exact ⟨_, rfl, below_trans hb03 hb4, HT.out⟩

end Go.Proofs.YtfjohagdlaiapaaGreat

namespace Go.Proofs.YtfjohagdlaiapaaGreat
open Go.RowKit

set_option maxHeartbeats 1000000
set_option maxRecDepth 100000

/-- A text handed back, or nothing. -/
def TextRes' (w : World) (r : Option (List UInt8)) (e : Ending) (w' : World) : Prop :=
  e = .returned (.tuple #[str (r.getD []), .bool r.isSome]) ∧ Below w.heap.size w w'

theorem text_small {t : Tm} (hg : t.good = true) (hf : t.fits = true) : t.text.length ≤ 1000000 := by
  have htm := Tm.text_le _ hg
  have hsm := fits_size hf
  omega

/-- What an end is written as. -/
theorem end_small {t u : Tm} (h : Tm.endOf t = some u) (hg : t.good = true) : u.good = true ∧ u.text.length ≤ 1000000 :=
  ⟨(Tm.endOf_facts h hg).1, text_small (Tm.endOf_facts h hg).1 (Tm.endOf_facts h hg).2⟩

theorem pApply_end (l m : List UInt8) : Tm.pApply l m = match Tm.parse l, Tm.parse m with
  | some t, some u => (Tm.endOf (.app t u)).map Tm.text
  | _, _ => none := by
  unfold Tm.pApply Tm.endOf
  split
  · rename_i t u h1 h2
    simp only [h1, h2]
    split
    · cases ((t.app u).norm) <;> rfl
    · rfl
  · rename_i h
    split
    · rename_i t u h1 h2; exact absurd h2 (h t u h1)
    · rfl

end Go.Proofs.YtfjohagdlaiapaaGreat

namespace Go.Proofs.YtfjohagdlaiapaaGreat
open Go.RowKit

set_option maxHeartbeats 1000000
set_option maxRecDepth 100000

theorem impl_codeOf (w : World) (l : List UInt8) (hl : l.length ≤ 1000000000) :
    Calls Tryz.prog 18 #[str l] w (TextRes' w (Tm.pCodeOf l)) := by
  have hc := codeOfText_any w w.heap.size l (Nat.le_refl _) hl
  unfold DataPost at hc
  unfold Tm.pCodeOf
  cases hp : Tm.codeT l with
  | none =>
    rw [hp] at hc
    clear hp
    go_enter Tryz.func18, Tryz.ntmps18
    go_wp2_with fail
    refine hc.mono ?_
    rintro e w1 ⟨v1, rfl, hb1, hv1⟩
    clear hv1 hc
    go_wp2_with fail
    go_ret2
    exact ⟨rfl, hb1⟩
  | some c =>
    obtain ⟨hf, hg⟩ : c.fits = true ∧ c.good = true := by obtain ⟨_, _, _, hf, hg⟩ := Tm.codeT_facts hp; exact ⟨hf, hg⟩
    have htx := text_small hg hf
    rw [hp] at hc
    clear hp
    go_enter Tryz.func18, Tryz.ntmps18
    go_wp2_with fail
    refine hc.mono ?_
    rintro e w1 ⟨v1, rfl, hb1, hv1⟩
    have htext := textOf_any w1 _ c v1 (hv1 c rfl) hg htx
    clear hv1 hc
    go_wp2_with (go_at_call 28; refine htext.mono ?_; rintro e w2 ⟨rfl, hb2⟩)
    go_ret2
    exact ⟨rfl, below_trans hb1 hb2⟩

end Go.Proofs.YtfjohagdlaiapaaGreat

namespace Go.Proofs.YtfjohagdlaiapaaGreat
open Go.RowKit

set_option maxHeartbeats 1000000
set_option maxRecDepth 100000

end Go.Proofs.YtfjohagdlaiapaaGreat

namespace Go.Proofs.YtfjohagdlaiapaaGreat
open Go.RowKit

set_option maxHeartbeats 1000000
set_option maxRecDepth 100000

theorem run_good : Tm.runC.good = true ∧ Tm.runC.size ≤ 1000 := ⟨by decide +kernel, by decide +kernel⟩
theorem join_good : Tm.joinC.good = true ∧ Tm.joinC.size ≤ 1000 := ⟨by decide +kernel, by decide +kernel⟩

theorem impl_codeRun (w : World) (l : List UInt8) (hl : l.length ≤ 1000000000) :
    Calls Tryz.prog 11 #[str l] w (TextRes' w (Tm.pCodeRun l)) := by
  have hc := codeOfText_any w w.heap.size l (Nat.le_refl _) hl
  unfold DataPost at hc
  unfold Tm.pCodeRun
  cases hp : Tm.codeT l with
  | none =>
    rw [hp] at hc
    clear hp
    go_enter Tryz.func11, Tryz.ntmps11
    go_wp2_with fail
    refine hc.mono ?_
    rintro e w1 ⟨v1, rfl, hb1, hv1⟩
    clear hv1 hc
    go_wp2_with fail
    go_ret2
    exact ⟨rfl, hb1⟩
  | some c =>
    obtain ⟨hf, hg⟩ : c.fits = true ∧ c.good = true := by obtain ⟨_, _, _, hf, hg⟩ := Tm.codeT_facts hp; exact ⟨hf, hg⟩
    have hcs := fits_size hf
    obtain ⟨rg, rz⟩ := run_good
    have hga : (Tm.app Tm.runC c).good = true := by simp [Tm.good, rg, hg]
    rw [hp] at hc
    clear hp
    show Calls _ _ _ _ (TextRes' w ((Tm.endOf (.app Tm.runC c)).map Tm.text))
    have hrun := fun W hB => run_any W w.heap.size hB
    have hcall := fun W v1 v2 h1 h2 hB => applyNormal_any W w.heap.size Tm.runC c v1 v2 h1 h2 hB (by omega)
    unfold DataPost at hcall
    unfold TermPost at hrun
    cases hE : Tm.endOf (.app Tm.runC c) with
    | none =>
      simp only [hE] at hcall
      clear hE
      go_enter Tryz.func11, Tryz.ntmps11
      go_wp2_with fail
      refine hc.mono ?_
      rintro e w1 ⟨v1, rfl, hb1, hv1⟩
      have HV1 := Lib.hid (hv1 c rfl)
      clear hv1 hc
      go_wp2_with fail
      refine (hrun _ hb1.size).mono ?_
      rintro e w2 ⟨v2, rfl, hb2, ht2⟩
      have hb12 := below_trans hb1 hb2
      have hn := hcall w2 v2 v1 ht2 (HV1.out.below hb2) hb12.size
      clear ht2 hrun hcall
      go_wp2_with fail
      refine hn.mono ?_
      rintro e w3 ⟨v3, rfl, hb3, hv3⟩
      clear hv3 hn
      go_wp2_with fail
      go_ret2
      exact ⟨rfl, below_trans hb12 hb3⟩
    | some x =>
      obtain ⟨hgx, htx⟩ := end_small hE hga
      simp only [hE] at hcall
      clear hE
      go_enter Tryz.func11, Tryz.ntmps11
      go_wp2_with fail
      refine hc.mono ?_
      rintro e w1 ⟨v1, rfl, hb1, hv1⟩
      have HV1 := Lib.hid (hv1 c rfl)
      clear hv1 hc
      go_wp2_with fail
      refine (hrun _ hb1.size).mono ?_
      rintro e w2 ⟨v2, rfl, hb2, ht2⟩
      have hb12 := below_trans hb1 hb2
      have hn := hcall w2 v2 v1 ht2 (HV1.out.below hb2) hb12.size
      clear ht2 hrun hcall
      go_wp2_with fail
      refine hn.mono ?_
      rintro e w3 ⟨v3, rfl, hb3, hv3⟩
      have htext := textOf_any w3 _ x v3 (hv3 x rfl) hgx htx
      clear hv3 hn
      go_wp2_with (go_at_call 28; refine htext.mono ?_; rintro e w7 ⟨rfl, hb7⟩)
      go_ret2
      exact ⟨rfl, below_trans (below_trans hb12 hb3) hb7⟩

theorem impl_codeQuote (w : World) (l : List UInt8) (hl : l.length ≤ 1000000000) :
    Calls Tryz.prog 16 #[str l] w (TextRes' w (Tm.pCodeQuote l)) := by
  have hc := codeOfText_any w w.heap.size l (Nat.le_refl _) hl
  unfold DataPost at hc
  unfold Tm.pCodeQuote
  cases hp : Tm.codeT l with
  | none =>
    rw [hp] at hc
    clear hp
    go_enter Tryz.func16, Tryz.ntmps16
    go_wp2_with fail
    refine hc.mono ?_
    rintro e w1 ⟨v1, rfl, hb1, hv1⟩
    clear hv1 hc
    go_wp2_with fail
    go_ret2
    exact ⟨rfl, hb1⟩
  | some c =>
    obtain ⟨hf, hg⟩ : c.fits = true ∧ c.good = true := by obtain ⟨_, _, _, hf, hg⟩ := Tm.codeT_facts hp; exact ⟨hf, hg⟩
    have hcs := fits_size hf
    have hcc := Tm.code_size_le c
    obtain ⟨rg, rz⟩ := run_good
    have hga : (Tm.app Tm.runC c.code).good = true := by simp [Tm.good, rg, Tm.code_good c hg]
    rw [hp] at hc
    clear hp
    show Calls _ _ _ _ (TextRes' w ((Tm.endOf (.app Tm.runC c.code)).map Tm.text))
    have hrun := fun W hB => run_any W w.heap.size hB
    have hcall := fun W v1 v2 h1 h2 hB => applyNormal_any W w.heap.size Tm.runC c.code v1 v2 h1 h2 hB (by omega)
    have hcd := fun W v h hB => codeOf_any (t := c) (w := W) (B := w.heap.size) (v := v) h hB (by omega)
    unfold DataPost at hcall
    unfold TermPost at hrun hcd
    cases hE : Tm.endOf (.app Tm.runC c.code) with
    | none =>
      simp only [hE] at hcall
      clear hE
      go_enter Tryz.func16, Tryz.ntmps16
      go_wp2_with fail
      refine hc.mono ?_
      rintro e w1 ⟨v1, rfl, hb1, hv1⟩
      have HV1 := Lib.hid (hv1 c rfl)
      clear hv1 hc
      go_wp2_with fail
      refine (hrun _ hb1.size).mono ?_
      rintro e w2 ⟨v2, rfl, hb2, ht2⟩
      have hb12 := below_trans hb1 hb2
      have hk := hcd w2 v1 (HV1.out.below hb2) hb12.size
      have HT2 := Lib.hid ht2
      clear ht2 hrun hcd
      go_wp2_with fail
      refine hk.mono ?_
      rintro e w3 ⟨v3, rfl, hb3, ht3⟩
      have hb13 := below_trans hb12 hb3
      have hn := hcall w3 v2 v3 (HT2.out.below hb3) ht3 hb13.size
      clear ht3 hcall hk
      go_wp2_with fail
      refine hn.mono ?_
      rintro e w4 ⟨v4, rfl, hb4, hv4⟩
      clear hv4 hn
      go_wp2_with fail
      go_ret2
      exact ⟨rfl, below_trans hb13 hb4⟩
    | some x =>
      obtain ⟨hgx, htx⟩ := end_small hE hga
      simp only [hE] at hcall
      clear hE
      go_enter Tryz.func16, Tryz.ntmps16
      go_wp2_with fail
      refine hc.mono ?_
      rintro e w1 ⟨v1, rfl, hb1, hv1⟩
      have HV1 := Lib.hid (hv1 c rfl)
      clear hv1 hc
      go_wp2_with fail
      refine (hrun _ hb1.size).mono ?_
      rintro e w2 ⟨v2, rfl, hb2, ht2⟩
      have hb12 := below_trans hb1 hb2
      have hk := hcd w2 v1 (HV1.out.below hb2) hb12.size
      have HT2 := Lib.hid ht2
      clear ht2 hrun hcd
      go_wp2_with fail
      refine hk.mono ?_
      rintro e w3 ⟨v3, rfl, hb3, ht3⟩
      have hb13 := below_trans hb12 hb3
      have hn := hcall w3 v2 v3 (HT2.out.below hb3) ht3 hb13.size
      clear ht3 hcall hk
      go_wp2_with fail
      refine hn.mono ?_
      rintro e w4 ⟨v4, rfl, hb4, hv4⟩
      have htext := textOf_any w4 _ x v4 (hv4 x rfl) hgx htx
      clear hv4 hn
      go_wp2_with (go_at_call 28; refine htext.mono ?_; rintro e w7 ⟨rfl, hb7⟩)
      go_ret2
      exact ⟨rfl, below_trans (below_trans hb13 hb4) hb7⟩

end Go.Proofs.YtfjohagdlaiapaaGreat
