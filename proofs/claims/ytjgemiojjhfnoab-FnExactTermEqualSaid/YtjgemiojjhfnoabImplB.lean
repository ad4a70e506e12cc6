/-
  The program's exported functions StepMany, TermNormal, NormalOf against the plain mathematics.
-/
import Derived.Test.YtjgemiojjhfnoabMany
import Derived.Test.YtjgemiojjhfnoabWrite
import Derived.Test.YtjgemiojjhfnoabBoth
import Derived.Test.YtjgemiojjhfnoabPure
namespace Go.Proofs.Ytjgemiojjhfnoab
open Go.RowKit

set_option maxHeartbeats 400000
set_option maxRecDepth 100000

theorem normal_none (t : Tm) : t.normal = t.step.isNone := by
  rw [Bool.eq_iff_iff, normal_step, Option.isNone_iff_eq_none]

theorem norm_eq (t : Tm) : t.norm = if (t.many 6000).1.normal = true then some (t.many 6000) else none := by
  unfold Tm.norm
  simp only [normal_step]

/-- A text and a number handed back, or nothing. -/
def NumRes (w : World) (r : Option (List UInt8 × Nat)) (e : Ending) (w' : World) : Prop :=
  e = .returned (.tuple #[str ((r.map Prod.fst).getD []), .int .i64 (((r.map Prod.snd).getD 0 : Nat) : Int), .bool r.isSome]) ∧ Below w.heap.size w w'

theorem impl_many (w : World) (l : List UInt8) (n : Int) (hl : l.length ≤ 1000000000) :
    Calls Try.prog 10 #[str l, .int .i64 n] w (NumRes w (Tm.pMany l n)) := by
  have hread := readTerm_any w _ l (Nat.le_refl _) hl
  unfold Tm.pMany
  unfold ParsePost at hread
  cases hp : Tm.parse l with
  | none =>
    rw [hp] at hread
    go_enter Try.func10, Try.ntmps10
    go_wp2_with (go_at_call 25; refine hread.mono ?_; rintro e w1 ⟨v1, rfl, hb1, hv1⟩; clear hv1)
    go_ret3
    exact ⟨rfl, hb1⟩
  | some t =>
    obtain ⟨hg, hf, hs, _, _⟩ := Tm.parse_facts hp
    rw [hp] at hread
    clear hp
    by_cases h0 : n < 0
    · simp only [show ¬ (0 ≤ n ∧ n ≤ 6000) by omega, if_false]
      go_enter Try.func10, Try.ntmps10
      go_wp2_with (go_at_call 25; refine hread.mono ?_; rintro e w1 ⟨v1, rfl, hb1, hv1⟩; clear hv1)
      go_ret3
      exact ⟨rfl, hb1⟩
    · by_cases h1 : 6000 < n
      · simp only [show ¬ (0 ≤ n ∧ n ≤ 6000) by omega, if_false]
        go_enter Try.func10, Try.ntmps10
        go_wp2_with (go_at_call 25; refine hread.mono ?_; rintro e w1 ⟨v1, rfl, hb1, hv1⟩; clear hv1)
        go_ret3
        exact ⟨rfl, hb1⟩
      · obtain ⟨k, rfl⟩ : ∃ k : Nat, n = k := ⟨n.toNat, by omega⟩
        simp only [show (0 : Int) ≤ (k : Int) ∧ (k : Int) ≤ 6000 by omega, and_self, if_true, Int.toNat_natCast]
        obtain ⟨hgm, hfm⟩ := Tm.many_good k t hg hf
        have htm := Tm.text_le _ hgm
        have hsm := fits_size hfm
        have hmany := fun W v h hB => stepTerms_any W w.heap.size k t v h hB hf (by omega)
        unfold ManyPost at hmany
        generalize hc : (t.many k).2 = c at *
        generalize hu : (t.many k).1 = u at *
        clear hu hc
        go_enter Try.func10, Try.ntmps10
        go_wp2_with fail
        refine hread.mono ?_
        rintro e w1 ⟨v1, rfl, hb1, hv1⟩
        have hcall := hmany w1 v1 (hv1 t rfl) hb1.size
        clear hv1 hread hmany
        go_wp2_with (first
          | (go_at_call 26; refine hcall.mono ?_; rintro e w2 ⟨v2, rfl, hb2, hv2⟩; have HV := Lib.hid hv2; clear hv2)
          | (go_at_call 27; refine (textOf_any _ _ u _ HV.out hgm (by omega)).mono ?_; rintro e w3 ⟨rfl, hb3⟩))
        go_ret3
        exact ⟨rfl, below_trans (below_trans hb1 hb2) hb3⟩

theorem impl_normal (w : World) (l : List UInt8) (hl : l.length ≤ 1000000000) :
    Calls Try.prog 12 #[str l] w fun e w' => e = .returned (.bool (Tm.pNormal l)) ∧ Below w.heap.size w w' := by
  have hread := readTerm_any w _ l (Nat.le_refl _) hl
  unfold Tm.pNormal
  unfold ParsePost at hread
  cases hp : Tm.parse l with
  | none =>
    rw [hp] at hread
    go_enter Try.func12, Try.ntmps12
    go_wp2_with (go_at_call 25; refine hread.mono ?_; rintro e w1 ⟨v1, rfl, hb1, hv1⟩; clear hv1)
    go_ret
    exact ⟨rfl, hb1⟩
  | some t =>
    rw [hp] at hread
    clear hp
    simp only [← normal_none]
    go_enter Try.func12, Try.ntmps12
    go_wp2_with fail
    refine hread.mono ?_
    rintro e w1 ⟨v1, rfl, hb1, hv1⟩
    obtain ⟨T1, x1, rfl, _, _, _, ⟨f1, y1, m1, n1, c1⟩⟩ := (hv1 t rfl).asks
    have hb0 := Below.refl w1.heap.size w1
    clear hv1 hread
    go_wp2_with (go_at_fn f1; refine (c1 _ hb0).mono ?_; rintro e w2 ⟨rfl, hb2⟩)
    go_ret
    exact ⟨rfl, below_trans hb1 hb2⟩

theorem impl_norm (w : World) (l : List UInt8) (hl : l.length ≤ 1000000000) :
    Calls Try.prog 14 #[str l] w (NumRes w (Tm.pNorm l)) := by
  have hread := readTerm_any w _ l (Nat.le_refl _) hl
  unfold Tm.pNorm
  unfold ParsePost at hread
  cases hp : Tm.parse l with
  | none =>
    rw [hp] at hread
    go_enter Try.func14, Try.ntmps14
    go_wp2_with (go_at_call 25; refine hread.mono ?_; rintro e w1 ⟨v1, rfl, hb1, hv1⟩; clear hv1)
    go_ret3
    exact ⟨rfl, hb1⟩
  | some t =>
    obtain ⟨hg, hf, hs, _, _⟩ := Tm.parse_facts hp
    rw [hp] at hread
    clear hp
    obtain ⟨hgm, hfm⟩ := Tm.many_good 6000 t hg hf
    have htm := Tm.text_le _ hgm
    have hsm := fits_size hfm
    have hnorm := fun W v h hB => normalTerm_any W w.heap.size t v h hB hf
    unfold NormPost at hnorm
    have hne := norm_eq t
    generalize hm : t.many 6000 = m at *
    clear hm
    obtain ⟨u, c⟩ := m
    simp only at hne hnorm hgm hfm htm hsm
    generalize hb : u.normal = b at *
    simp only [hne]
    clear hne hb
    cases b
    all_goals
      go_enter Try.func14, Try.ntmps14
      go_wp2_with fail
      refine hread.mono ?_
      rintro e w1 ⟨v1, rfl, hb1, hv1⟩
      have hcall := hnorm w1 v1 (hv1 t rfl) hb1.size
      clear hv1 hread hnorm
      go_wp2_with (first
        | (go_at_call 29; refine hcall.mono ?_; rintro e w2 ⟨v2, rfl, hb2, hv2⟩; have HV := Lib.hid hv2; clear hv2)
        | (go_at_call 27; refine (textOf_any _ _ u _ HV.out hgm (by omega)).mono ?_; rintro e w3 ⟨rfl, hb3⟩))
      go_ret3
      first
        | exact ⟨rfl, below_trans (below_trans hb1 hb2) hb3⟩
        | exact ⟨rfl, below_trans hb1 hb2⟩
end Go.Proofs.Ytjgemiojjhfnoab
