/-
  The model's exported functions StepMany, TermNormal, NormalOf.
-/
import Derived.Test.YtjgemiojjhfnoabSMany
import Derived.Test.YtjgemiojjhfnoabSTerm
import Derived.Test.YtjgemiojjhfnoabImplB
namespace Go.Proofs.Ytjgemiojjhfnoab
open Go.RowKit

set_option maxHeartbeats 1000000
set_option maxRecDepth 100000

def SNum (w : World) (r : Option (List UInt8 × Nat)) (e : Ending) (w' : World) : Prop :=
  e = .returned (.tuple #[str ((r.map Prod.fst).getD []), .int .i64 (((r.map Prod.snd).getD 0 : Nat) : Int), .bool r.isSome]) ∧ After w w'

theorem spec_many (w : World) (l : List UInt8) (n : Int) (hl : l.length ≤ 1000000000) :
    Calls Try.prog 9 #[str l, .int .i64 n] w (SNum w (Tm.pMany l n)) := by
  have hterm := s_term w l hl
  have hin := fun W => in_any W n 0 6000
  unfold STermPost at hterm
  unfold Tm.pMany
  cases hp : Tm.parse l with
  | none =>
    rw [hp] at hterm
    go_enter Try.func9, Try.ntmps9
    go_wp2_with (go_at_call 21; refine hterm.mono ?_; rintro e w1 ⟨s1, ao1, n1, c1, rfl, hb1, ht1⟩; clear ht1)
    go_ret3
    exact ⟨rfl, After.alloc hb1 _⟩
  | some t =>
    obtain ⟨hg, hf, hs, _, _⟩ := Tm.parse_facts hp
    rw [hp] at hterm
    clear hp
    by_cases hr : 0 ≤ n ∧ n ≤ 6000
    · rw [show decide ((0 : Int) ≤ n ∧ n ≤ 6000) = true by simpa using hr] at hin
      obtain ⟨k, rfl⟩ : ∃ k : Nat, n = k := ⟨n.toNat, by omega⟩
      simp only [show (0 : Int) ≤ (k : Int) ∧ (k : Int) ≤ 6000 by omega, and_self, if_true, Int.toNat_natCast]
      obtain ⟨hgm, hfm⟩ := Tm.many_good k t hg hf
      have htm := Tm.text_le _ hgm
      have hsm := fits_size hfm
      have hmany := fun W s ao m c h => s_many W k t s ao m c h hg hf (by omega)
      unfold SManyPost at hmany
      generalize hu : t.many k = mm at *
      obtain ⟨u, i⟩ := mm
      simp only at hmany hgm hfm htm hsm ⊢
      generalize u.step.isNone = b at hmany
      clear hu hr
      go_enter Try.func9, Try.ntmps9
      go_wp2_with fail
      refine hterm.mono ?_
      rintro e w1 ⟨s1, ao1, n1, c1, rfl, hb1, ht1⟩
      have hcall := hmany _ _ _ _ _ ((ht1 t rfl).later (After.new w1 (.cells #[str s1, .slice ao1 n1 c1] 34)))
      have hw1 := After.alloc hb1 (.cells #[str s1, .slice ao1 n1 c1] 34)
      clear ht1 hmany hterm
      go_wp2_with (go_at_call 22; refine (hin _).mono ?_; rintro e w' ⟨rfl, rfl⟩)
      refine hcall.mono ?_
      rintro e w2 ⟨s2, ao2, n2, c2, rfl, hb2, ht2⟩
      have hw2 := After.alloc (hw1.trans hb2) (.cells #[str s2, .slice ao2 n2 c2] 34)
      have htext := (ht2.later (After.new w2 (.cells #[str s2, .slice ao2 n2 c2] 34))).text hgm (by omega)
      clear ht2 hcall
      go_wp2_with (go_at_call 24; refine htext.mono ?_; rintro e w3 ⟨rfl, hb3⟩)
      go_ret3
      exact ⟨rfl, hw2.trans hb3⟩
    · rw [show decide ((0 : Int) ≤ n ∧ n ≤ 6000) = false by simpa using hr] at hin
      simp only [if_neg hr]
      clear hr
      go_enter Try.func9, Try.ntmps9
      go_wp2_with fail
      refine hterm.mono ?_
      rintro e w1 ⟨s1, ao1, n1, c1, rfl, hb1, ht1⟩
      have hw1 := After.alloc hb1 (.cells #[str s1, .slice ao1 n1 c1] 34)
      clear ht1 hterm
      go_wp2_with (go_at_call 22; refine (hin _).mono ?_; rintro e w' ⟨rfl, rfl⟩)
      go_ret3
      exact ⟨rfl, hw1⟩

theorem spec_normal (w : World) (l : List UInt8) (hl : l.length ≤ 1000000000) :
    Calls Try.prog 11 #[str l] w fun e w' => e = .returned (.bool (Tm.pNormal l)) ∧ After w w' := by
  have hterm := s_term w l hl
  unfold STermPost at hterm
  unfold Tm.pNormal
  cases hp : Tm.parse l with
  | none =>
    rw [hp] at hterm
    go_enter Try.func11, Try.ntmps11
    go_wp2_with (go_at_call 21; refine hterm.mono ?_; rintro e w1 ⟨s1, ao1, n1, c1, rfl, hb1, ht1⟩; clear ht1)
    go_ret
    exact ⟨rfl, After.alloc hb1 _⟩
  | some t =>
    obtain ⟨hg, hf, hs, _, _⟩ := Tm.parse_facts hp
    rw [hp] at hterm
    clear hp
    have hstep := fun W v (h : ST W t v) => s_step h hg
    unfold SStepPost at hstep
    generalize t.step.getD t = u at hstep
    simp only [show t.step.isNone = !t.step.isSome by cases t.step <;> rfl]
    generalize t.step.isSome = b at hstep ⊢
    go_enter Try.func11, Try.ntmps11
    go_wp2_with fail
    refine hterm.mono ?_
    rintro e w1 ⟨s1, ao1, n1, c1, rfl, hb1, ht1⟩
    have hcall := hstep _ _ ((ht1 t rfl).later (After.new w1 (.cells #[str s1, .slice ao1 n1 c1] 34)))
    have hw1 := After.alloc hb1 (.cells #[str s1, .slice ao1 n1 c1] 34)
    clear ht1 hterm hstep
    go_wp2_with (go_at_call 28; refine hcall.mono ?_; rintro e w2 ⟨s2, ao2, n2, c2, rfl, hb2, ht2⟩; clear ht2)
    go_ret
    exact ⟨rfl, (hw1.trans hb2).alloc _⟩

theorem spec_norm (w : World) (l : List UInt8) (hl : l.length ≤ 1000000000) :
    Calls Try.prog 13 #[str l] w (SNum w (Tm.pNorm l)) := by
  have hterm := s_term w l hl
  unfold STermPost at hterm
  unfold Tm.pNorm
  cases hp : Tm.parse l with
  | none =>
    rw [hp] at hterm
    go_enter Try.func13, Try.ntmps13
    go_wp2_with (go_at_call 21; refine hterm.mono ?_; rintro e w1 ⟨s1, ao1, n1, c1, rfl, hb1, ht1⟩; clear ht1)
    go_ret3
    exact ⟨rfl, After.alloc hb1 _⟩
  | some t =>
    obtain ⟨hg, hf, hs, _, _⟩ := Tm.parse_facts hp
    rw [hp] at hterm
    clear hp
    obtain ⟨hgm, hfm⟩ := Tm.many_good 6000 t hg hf
    have htm := Tm.text_le _ hgm
    have hsm := fits_size hfm
    have hmany := fun W s ao m c h => s_many W 6000 t s ao m c h hg hf (by omega)
    unfold SManyPost at hmany
    have hne := norm_eq t
    generalize hu : t.many 6000 = mm at *
    obtain ⟨u, i⟩ := mm
    simp only [normal_none] at hmany hgm hfm htm hsm hne
    generalize u.step.isNone = b at hmany hne
    simp only [hne]
    clear hu hne
    cases b
    all_goals
      go_enter Try.func13, Try.ntmps13
      go_wp2_with fail
      refine hterm.mono ?_
      rintro e w1 ⟨s1, ao1, n1, c1, rfl, hb1, ht1⟩
      have hcall := hmany _ _ _ _ _ ((ht1 t rfl).later (After.new w1 (.cells #[str s1, .slice ao1 n1 c1] 34)))
      have hw1 := After.alloc hb1 (.cells #[str s1, .slice ao1 n1 c1] 34)
      clear ht1 hmany hterm
      go_wp2_with fail
      refine hcall.mono ?_
      rintro e w2 ⟨s2, ao2, n2, c2, rfl, hb2, ht2⟩
      have hw2 := After.alloc (hw1.trans hb2) (.cells #[str s2, .slice ao2 n2 c2] 34)
      have htext := (ht2.later (After.new w2 (.cells #[str s2, .slice ao2 n2 c2] 34))).text hgm (by omega)
      clear ht2 hcall
      go_wp2_with (go_at_call 24; refine htext.mono ?_; rintro e w3 ⟨rfl, hb3⟩)
      go_ret3
      first
        | exact ⟨rfl, hw2.trans hb3⟩
        | exact ⟨rfl, hw2⟩
end Go.Proofs.Ytjgemiojjhfnoab
