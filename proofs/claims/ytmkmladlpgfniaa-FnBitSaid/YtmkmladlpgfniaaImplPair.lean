/-
  PairOf of the program.
-/
import Derived.Test.YtmkmladlpgfniaaPkNum
import Derived.Test.YtmkmladlpgfniaaBoth
namespace Go.Proofs.Ytmkmladlpgfniaa
open Go.RowKit

set_option maxHeartbeats 400000
set_option maxRecDepth 100000

/-- What PairOf answers. -/
def pPair (l m : List UInt8) : Option (List UInt8) := match Tm.parse l, Tm.parse m with
  | some t, some u => if (Tm.pair t u).fits = true then some (Tm.pair t u).text else none
  | _, _ => none

theorem impl_pair (w : World) (l m : List UInt8) (hl : l.length ≤ 1000000000) (hm : m.length ≤ 1000000000) :
    Calls Try.prog 24 #[str l, str m] w (NumOne w (pPair l m)) := by
  have hread := readBoth_any w w.heap.size l m (Nat.le_refl _) hl hm
  unfold BothPost at hread
  by_cases hb : ((Tm.parse l).isSome && (Tm.parse m).isSome) = false
  · have hfin : pPair l m = none := by
      unfold pPair
      split
      · rename_i h1 h2; rw [h1, h2] at hb; simp at hb
      · rfl
    rw [hfin]
    rw [hb] at hread
    clear hfin hb
    go_enter Try.func24, Try.ntmps24
    go_wp2_with (go_at_call 39; refine hread.mono ?_; rintro e w1 ⟨v1, v2, rfl, hb1, hv1⟩; clear hv1)
    go_ret2
    exact ⟨rfl, hb1⟩
  · have hb' : ((Tm.parse l).isSome && (Tm.parse m).isSome) = true := by rw [Bool.not_eq_false] at hb; exact hb
    rw [Bool.and_eq_true, Option.isSome_iff_exists, Option.isSome_iff_exists] at hb'
    obtain ⟨⟨t, hp⟩, ⟨u, hq⟩⟩ := hb'
    rw [hp, hq] at hread
    simp only [Option.isSome_some, Bool.and_self] at hread
    clear hb
    obtain ⟨hg, hf, hs, _, _⟩ := Tm.parse_facts hp
    obtain ⟨hgu, hfu, hsu, _, _⟩ := Tm.parse_facts hq
    have hgp : (Tm.pair t u).good = true := by rw [Tm.good_pair, hg, hgu]; rfl
    have hsz := Tm.size_pair t u
    have htl := Tm.text_le _ hgp
    have hpair := fun W v1 v2 h1 h2 hB => pair_any W w.heap.size t u v1 v2 h1 h2 hB (by omega)
    unfold TermPost at hpair
    rw [show pPair l m = if (Tm.pair t u).fits = true then some (Tm.pair t u).text else none by simp [pPair, hp, hq]]
    generalize Tm.pair t u = p at *
    generalize hfp : p.fits = b at *
    clear hp hq
    cases b
    all_goals
      simp only [if_true, Bool.false_eq_true, if_false]
      go_enter Try.func24, Try.ntmps24
      go_wp2_with fail
      refine hread.mono ?_
      rintro e w1 ⟨v1, v2, rfl, hb1, hv1⟩
      obtain ⟨ht1, ht2⟩ := hv1 t u rfl rfl
      have hcall := hpair w1 v1 v2 ht1 ht2 hb1.size
      clear hv1 hread hpair
      go_wp2_with fail
      refine hcall.mono ?_
      rintro e w2 ⟨v3, rfl, hb2, hv3⟩
      have hfit := fits_any w2 _ _ v3 hv3
      rw [hfp] at hfit
      have HV3 := Lib.hid hv3
      clear hv3 hcall
      go_wp2_with fail
      refine hfit.mono ?_
      rintro e w3 ⟨rfl, hb3⟩
      go_wp2_with (go_at_call 42; refine (textOf_any _ _ p _ (HV3.out.below hb3) hgp (by omega)).mono ?_; rintro e w4 ⟨rfl, hb4⟩)
      go_ret2
      first
        | exact ⟨rfl, below_trans (below_trans hb1 hb2) (below_trans hb3 hb4)⟩
        | exact ⟨rfl, below_trans (below_trans hb1 hb2) hb3⟩
end Go.Proofs.Ytmkmladlpgfniaa
