/-
  The program's exported function TermPut against the plain mathematics.
-/
import Derived.Test.YtmkmladlpgfniaaPkImpl
import Derived.Test.YtmkmladlpgfniaaPut
import Derived.Test.YtmkmladlpgfniaaBoth
namespace Go.Proofs.Ytmkmladlpgfniaa
open Go.RowKit

set_option maxHeartbeats 400000
set_option maxRecDepth 100000

theorem impl_put (w : World) (l n m : List UInt8) (hl : l.length ≤ 1000000000) (hn : n.length ≤ 1000000000) (hm : m.length ≤ 1000000000) :
    Calls Try.prog 16 #[str l, str n, str m] w (TextRes w (Tm.pPut l n m)) := by
  have hread := readBoth_any w w.heap.size l m (Nat.le_refl _) hl hm
  have hname := fun W => nameValid_any W n hn
  unfold BothPost at hread
  by_cases hb : ((Tm.parse l).isSome && (Tm.parse m).isSome) = false
  · have hfin : Tm.pPut l n m = none := by
      unfold Tm.pPut
      split
      · rename_i h1 h2; rw [h1, h2] at hb; simp at hb
      · rfl
    rw [hfin]
    rw [hb] at hread
    clear hfin hname hb
    go_enter Try.func16, Try.ntmps16
    go_wp2_with (go_at_call 39; refine hread.mono ?_; rintro e w1 ⟨v1, v2, rfl, hb1, hv1⟩; clear hv1)
    go_ret2
    exact ⟨rfl, hb1⟩
  · have hb' : ((Tm.parse l).isSome && (Tm.parse m).isSome) = true := by rw [Bool.not_eq_false] at hb; exact hb
    rw [Bool.and_eq_true, Option.isSome_iff_exists, Option.isSome_iff_exists] at hb'
    obtain ⟨⟨t, hp⟩, ⟨u, hq⟩⟩ := hb'
    rw [hp, hq] at hread
    simp only [Option.isSome_some, Bool.and_self] at hread
    clear hb
    obtain ⟨hg, hf, hs, _, _⟩ := Tm.parse_facts hp
    obtain ⟨hgu, hfu, hsu, _, _⟩ := Tm.parse_facts hq
    cases hok : Tm.nameOk n with
    | false =>
      have hfin : Tm.pPut l n m = none := by simp [Tm.pPut, hp, hq, hok]
      rw [hok] at hname
      rw [hfin]
      clear hfin hp hq
      go_enter Try.func16, Try.ntmps16
      go_wp2_with (first
        | (go_at_call 39; refine hread.mono ?_; rintro e w1 ⟨v1, v2, rfl, hb1, hv1⟩; clear hv1)
        | (go_at_call 40; refine (hname _).mono ?_; rintro e w2 ⟨rfl, rfl⟩))
      go_ret2
      exact ⟨rfl, hb1⟩
    | true =>
      rw [hok] at hname
      have hgp := Tm.good_put n u t hgu hg
      have hzz : t.size * (u.size + 1) < 4611686018427387904 := Nat.lt_of_le_of_lt (Nat.mul_le_mul hs (Nat.succ_le_succ hsu)) (by omega)
      cases hfp : (t.put n u).fits with
      | false =>
        have hfin : Tm.pPut l n m = none := by simp [Tm.pPut, hp, hq, hfp]
        rw [hfin]
        clear hfin
        go_enter Try.func16, Try.ntmps16
        go_wp2_with fail
        refine hread.mono ?_
        rintro e w1 ⟨v1, v2, rfl, hb1, hv1⟩
        obtain ⟨ht1, ht2⟩ := hv1 t u rfl rfl
        clear hv1 hread hp hq
        obtain ⟨T1, x1, f1, y1, rfl, m1, n1, c1⟩ := TV.putOk n hb1.size ht2 ht1 hzz
        have hb0 := Below.refl w1.heap.size w1
        go_wp2_with (first
          | (go_at_call 40; refine (hname _).mono ?_; rintro e w2 ⟨rfl, rfl⟩)
          | (go_at_fn f1; refine (c1 _ hb0).mono ?_; rintro e w3 ⟨v3, rfl, hb3, hv3⟩))
        have hfit := fits_any w3 _ _ v3 hv3
        rw [hfp] at hfit
        go_wp2_with (go_at_call 41; refine hfit.mono ?_; rintro e w4 ⟨rfl, hb4⟩)
        go_ret2
        exact ⟨rfl, below_trans hb1 (below_trans hb3 hb4)⟩
      | true =>
        have hfz := fits_size hfp
        have htl := Tm.text_le _ hgp
        have hfin : Tm.pPut l n m = some (t.put n u).text := by simp [Tm.pPut, hp, hq, hfp, hok]
        rw [hfin]
        clear hfin
        go_enter Try.func16, Try.ntmps16
        go_wp2_with fail
        refine hread.mono ?_
        rintro e w1 ⟨v1, v2, rfl, hb1, hv1⟩
        obtain ⟨ht1, ht2⟩ := hv1 t u rfl rfl
        clear hv1 hread hp hq
        obtain ⟨T1, x1, f1, y1, rfl, m1, n1, c1⟩ := TV.putOk n hb1.size ht2 ht1 hzz
        have hb0 := Below.refl w1.heap.size w1
        go_wp2_with (first
          | (go_at_call 40; refine (hname _).mono ?_; rintro e w2 ⟨rfl, rfl⟩)
          | (go_at_fn f1; refine (c1 _ hb0).mono ?_; rintro e w3 ⟨v3, rfl, hb3, hv3⟩))
        have hfit := fits_any w3 _ _ v3 hv3
        rw [hfp] at hfit
        go_wp2_with (go_at_call 41; refine hfit.mono ?_; rintro e w4 ⟨rfl, hb4⟩)
        refine (textOf_any _ _ _ _ (hv3.below hb4) hgp (by omega)).mono ?_
        rintro e w5 ⟨rfl, hb5⟩
        go_wp2_with fail
        go_ret2
        exact ⟨rfl, below_trans (below_trans hb1 hb3) (below_trans hb4 hb5)⟩
end Go.Proofs.Ytmkmladlpgfniaa
