/-
  The program's exported functions ApplyOf, TermEqual, over applyNormal.
-/
import Derived.Test.YtfpekihdoclncaaPkAY
import Derived.Test.YtfpekihdoclncaaPkAH
import Derived.Test.YtfpekihdoclncaaPkAI
namespace Go.Proofs.Ytfpekihdoclncaa
open Go.RowKit

set_option maxHeartbeats 1000000
set_option maxRecDepth 100000

/-- A text handed back, or nothing. -/
def TextRes' (w : World) (r : Option (List UInt8)) (e : Ending) (w' : World) : Prop :=
  e = .returned (.tuple #[str (r.getD []), .bool r.isSome]) ∧ Below w.heap.size w w'

theorem text_small {t : Tm} (hg : t.good = true) (hf : t.fits = true) : t.text.length ≤ 1000000 := by
  have htm := Tm.text_le _ hg
  have hsm := fits_size hf
  omega

/-- What an end is written as. -/
theorem end_small {t u : Tm} (h : Tm.endOf t = some u) (hg : t.good = true) : u.good = true ∧ u.text.length ≤ 1000000 :=
  ⟨(Tm.endOf_facts h hg).1, text_small (Tm.endOf_facts h hg).1 (Tm.endOf_facts h hg).2⟩

theorem pApply_end (l m : List UInt8) : Tm.pApply l m = match Tm.parse l, Tm.parse m with
  | some t, some u => (Tm.endOf (.app t u)).map Tm.text
  | _, _ => none := by
  unfold Tm.pApply Tm.endOf
  split
  · rename_i t u h1 h2
    simp only [h1, h2]
    split
    · cases ((t.app u).norm) <;> rfl
    · rfl
  · rename_i h
    split
    · rename_i t u h1 h2; exact absurd h2 (h t u h1)
    · rfl

theorem impl_apply (w : World) (l m : List UInt8) (hl : l.length ≤ 1000000000) (hm : m.length ≤ 1000000000) :
    Calls Try.prog 11 #[str l, str m] w (TextRes' w (Tm.pApply l m)) := by
  have hread := readBoth_any w w.heap.size l m (Nat.le_refl _) hl hm
  unfold BothPost at hread
  rw [pApply_end]
  by_cases hb : ((Tm.parse l).isSome && (Tm.parse m).isSome) = false
  · have hfin : (match Tm.parse l, Tm.parse m with | some t, some u => (Tm.endOf (.app t u)).map Tm.text | _, _ => none) = none := by
      split
      · rename_i h1 h2; rw [h1, h2] at hb; simp at hb
      · rfl
    rw [hfin]
    rw [hb] at hread
    clear hfin hb
    go_enter Try.func11, Try.ntmps11
    go_wp2_with (go_at_call 30; refine hread.mono ?_; rintro e w1 ⟨v1, v2, rfl, hb1, hv1⟩; clear hv1)
    go_ret2
    exact ⟨rfl, hb1⟩
  · have hb' : ((Tm.parse l).isSome && (Tm.parse m).isSome) = true := by rw [Bool.not_eq_false] at hb; exact hb
    rw [Bool.and_eq_true, Option.isSome_iff_exists, Option.isSome_iff_exists] at hb'
    obtain ⟨⟨t, hp⟩, ⟨u, hq⟩⟩ := hb'
    obtain ⟨hg, hf, hs, _, _⟩ := Tm.parse_facts hp
    obtain ⟨hgu, hfu, hsu, _, _⟩ := Tm.parse_facts hq
    have hga : (t.app u).good = true := by simp [Tm.good, hg, hgu]
    rw [hp, hq] at hread ⊢
    simp only [Option.isSome_some, Bool.and_self] at hread
    clear hb
    show Calls _ _ _ _ (TextRes' w ((Tm.endOf (.app t u)).map Tm.text))
    have hcall := fun W v1 v2 h1 h2 hB => applyNormal_any W w.heap.size t u v1 v2 h1 h2 hB (by omega)
    unfold DataPost at hcall
    clear hp hq
    cases hE : Tm.endOf (.app t u) with
    | none =>
      simp only [hE] at hcall
      clear hE
      go_enter Try.func11, Try.ntmps11
      go_wp2_with fail
      refine hread.mono ?_
      rintro e w1 ⟨v1, v2, rfl, hb1, hv1⟩
      obtain ⟨ht1, ht2⟩ := hv1 t u rfl rfl
      have hc := hcall w1 v1 v2 ht1 ht2 hb1.size
      clear hv1 hread ht1 ht2 hcall
      go_wp2_with fail
      refine hc.mono ?_
      rintro e w2 ⟨v3, rfl, hb2, hv3⟩
      clear hc hv3
      go_wp2_with fail
      go_ret2
      exact ⟨rfl, below_trans hb1 hb2⟩
    | some x =>
      obtain ⟨hgx, htx⟩ := end_small hE hga
      simp only [hE] at hcall
      clear hE
      go_enter Try.func11, Try.ntmps11
      go_wp2_with fail
      refine hread.mono ?_
      rintro e w1 ⟨v1, v2, rfl, hb1, hv1⟩
      obtain ⟨ht1, ht2⟩ := hv1 t u rfl rfl
      have hc := hcall w1 v1 v2 ht1 ht2 hb1.size
      clear hv1 hread ht1 ht2 hcall
      go_wp2_with fail
      refine hc.mono ?_
      rintro e w2 ⟨v3, rfl, hb2, hv3⟩
      have htext := textOf_any w2 _ x v3 (hv3 x rfl) hgx htx
      clear hc hv3
      go_wp2_with (go_at_call 32; refine htext.mono ?_; rintro e w7 ⟨rfl, hb7⟩)
      go_ret2
      exact ⟨rfl, below_trans (below_trans hb1 hb2) hb7⟩

end Go.Proofs.Ytfpekihdoclncaa

namespace Go.Proofs.Ytfpekihdoclncaa
open Go.RowKit

set_option maxHeartbeats 1000000
set_option maxRecDepth 100000

theorem impl_codeOf (w : World) (l : List UInt8) (hl : l.length ≤ 1000000000) :
    Calls Try.prog 13 #[str l] w (TextRes' w (Tm.pCodeOf l)) := by
  have hc := codeOfText_any w w.heap.size l (Nat.le_refl _) hl
  unfold DataPost at hc
  unfold Tm.pCodeOf
  cases hp : Tm.codeT l with
  | none =>
    rw [hp] at hc
    clear hp
    go_enter Try.func13, Try.ntmps13
    go_wp2_with fail
    refine hc.mono ?_
    rintro e w1 ⟨v1, rfl, hb1, hv1⟩
    clear hv1 hc
    go_wp2_with fail
    go_ret2
    exact ⟨rfl, hb1⟩
  | some c =>
    obtain ⟨hf, hg⟩ : c.fits = true ∧ c.good = true := by obtain ⟨_, _, _, hf, hg⟩ := Tm.codeT_facts hp; exact ⟨hf, hg⟩
    have htx := text_small hg hf
    rw [hp] at hc
    clear hp
    go_enter Try.func13, Try.ntmps13
    go_wp2_with fail
    refine hc.mono ?_
    rintro e w1 ⟨v1, rfl, hb1, hv1⟩
    have htext := textOf_any w1 _ c v1 (hv1 c rfl) hg htx
    clear hv1 hc
    go_wp2_with (go_at_call 32; refine htext.mono ?_; rintro e w2 ⟨rfl, hb2⟩)
    go_ret2
    exact ⟨rfl, below_trans hb1 hb2⟩

end Go.Proofs.Ytfpekihdoclncaa

namespace Go.Proofs.Ytfpekihdoclncaa
open Go.RowKit

set_option maxHeartbeats 1000000
set_option maxRecDepth 100000

theorem impl_fixApply (w : World) (l m : List UInt8) (hl : l.length ≤ 1000000000) (hm : m.length ≤ 1000000000) :
    Calls Try.prog 21 #[str l, str m] w (TextRes' w (Tm.pFixApply l m)) := by
  have hread := readBoth_any w w.heap.size l m (Nat.le_refl _) hl hm
  unfold BothPost at hread
  by_cases hb : ((Tm.parse l).isSome && (Tm.parse m).isSome) = false
  · have hfin : Tm.pFixApply l m = none := by
      unfold Tm.pFixApply
      split
      · rename_i h1 h2; rw [h1, h2] at hb; simp at hb
      · rfl
    rw [hfin]
    rw [hb] at hread
    clear hfin hb
    go_enter Try.func21, Try.ntmps21
    go_wp2_with (go_at_call 30; refine hread.mono ?_; rintro e w1 ⟨v1, v2, rfl, hb1, hv1⟩; clear hv1)
    go_ret2
    exact ⟨rfl, hb1⟩
  · have hb' : ((Tm.parse l).isSome && (Tm.parse m).isSome) = true := by rw [Bool.not_eq_false] at hb; exact hb
    rw [Bool.and_eq_true, Option.isSome_iff_exists, Option.isSome_iff_exists] at hb'
    obtain ⟨⟨t, hp⟩, ⟨u, hq⟩⟩ := hb'
    obtain ⟨hg, hf, hs, _, _⟩ := Tm.parse_facts hp
    obtain ⟨hgu, hfu, hsu, _, _⟩ := Tm.parse_facts hq
    have hga : ((Tm.fix.app t).app u).good = true := by
      have : Tm.fix.good = true := by decide +kernel
      simp [Tm.good, this, hg, hgu]
    have hfz : Tm.fix.size ≤ 1000 := by decide +kernel
    rw [show Tm.pFixApply l m = (Tm.endOf (.app (.app .fix t) u)).map Tm.text by simp only [Tm.pFixApply, hp, hq]]
    rw [hp, hq] at hread
    simp only [Option.isSome_some, Bool.and_self] at hread
    clear hb
    have hx := fun W hB => fix_any W w.heap.size hB
    have hcall := fun W v1 v2 h1 h2 hB => applyNormal_any W w.heap.size (.app .fix t) u v1 v2 h1 h2 hB (by simp only [Tm.size]; omega)
    unfold DataPost at hcall
    unfold TermPost at hx
    clear hp hq
    cases hE : Tm.endOf (.app (.app .fix t) u) with
    | none =>
      simp only [hE] at hcall
      clear hE
      go_enter Try.func21, Try.ntmps21
      go_wp2_with fail
      refine hread.mono ?_
      rintro e w1 ⟨v1, v2, rfl, hb1, hv1⟩
      obtain ⟨ht1, ht2⟩ := hv1 t u rfl rfl
      have HV1 := Lib.hid ht1
      have HV2 := Lib.hid ht2
      clear hv1 hread ht1 ht2
      go_wp2_with fail
      refine (hx _ hb1.size).mono ?_
      rintro e w2 ⟨v3, rfl, hb2, ht3⟩
      have hb12 := below_trans hb1 hb2
      have happ := apply_any w2 _ _ _ v3 v1 ht3 (HV1.out.below hb2) hb12.size (by omega)
      clear ht3 hx
      go_wp2_with fail
      refine happ.mono ?_
      rintro e w3 ⟨v4, rfl, hb3, hv4⟩
      have hb13 := below_trans hb12 hb3
      have hc := hcall w3 v4 v2 hv4 (HV2.out.below (below_trans hb2 hb3)) hb13.size
      clear happ hv4 hcall
      go_wp2_with fail
      refine hc.mono ?_
      rintro e w4 ⟨v5, rfl, hb4, hv5⟩
      clear hc hv5
      go_wp2_with fail
      go_ret2
      exact ⟨rfl, below_trans hb13 hb4⟩
    | some x =>
      obtain ⟨hgx, htx⟩ := end_small hE hga
      simp only [hE] at hcall
      clear hE
      go_enter Try.func21, Try.ntmps21
      go_wp2_with fail
      refine hread.mono ?_
      rintro e w1 ⟨v1, v2, rfl, hb1, hv1⟩
      obtain ⟨ht1, ht2⟩ := hv1 t u rfl rfl
      have HV1 := Lib.hid ht1
      have HV2 := Lib.hid ht2
      clear hv1 hread ht1 ht2
      go_wp2_with fail
      refine (hx _ hb1.size).mono ?_
      rintro e w2 ⟨v3, rfl, hb2, ht3⟩
      have hb12 := below_trans hb1 hb2
      have happ := apply_any w2 _ _ _ v3 v1 ht3 (HV1.out.below hb2) hb12.size (by omega)
      clear ht3 hx
      go_wp2_with fail
      refine happ.mono ?_
      rintro e w3 ⟨v4, rfl, hb3, hv4⟩
      have hb13 := below_trans hb12 hb3
      have hc := hcall w3 v4 v2 hv4 (HV2.out.below (below_trans hb2 hb3)) hb13.size
      clear happ hv4 hcall
      go_wp2_with fail
      refine hc.mono ?_
      rintro e w4 ⟨v5, rfl, hb4, hv5⟩
      have htext := textOf_any w4 _ x v5 (hv5 x rfl) hgx htx
      clear hc hv5
      go_wp2_with (go_at_call 32; refine htext.mono ?_; rintro e w7 ⟨rfl, hb7⟩)
      go_ret2
      exact ⟨rfl, below_trans (below_trans hb13 hb4) hb7⟩
end Go.Proofs.Ytfpekihdoclncaa
