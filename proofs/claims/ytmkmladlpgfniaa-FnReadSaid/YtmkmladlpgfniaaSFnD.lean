/-
  The model's exported functions StepMany, TermNormal, NormalOf.
-/
import Derived.Test.YtmkmladlpgfniaaSMany
import Derived.Test.YtmkmladlpgfniaaPkSRead
import Derived.Test.YtmkmladlpgfniaaImplB
namespace Go.Proofs.Ytmkmladlpgfniaa
open Go.RowKit

set_option maxHeartbeats 1000000
set_option maxRecDepth 100000

def SNum (w : World) (r : Option (List UInt8 × Nat)) (e : Ending) (w' : World) : Prop :=
  e = .returned (.tuple #[str ((r.map Prod.fst).getD []), .int .i64 (((r.map Prod.snd).getD 0 : Nat) : Int), .bool r.isSome]) ∧ After w w'

theorem spec_norm (w : World) (l : List UInt8) (hl : l.length ≤ 1000000000) :
    Calls Try.prog 59 #[str l] w (SNum w (Tm.pNorm l)) := by
  have hterm := s_term w l hl
  unfold STermPost at hterm
  unfold Tm.pNorm
  cases hp : Tm.parse l with
  | none =>
    rw [hp] at hterm
    go_enter Try.func59, Try.ntmps59
    go_wp2_with (go_at_call 34; refine hterm.mono ?_; rintro e w1 ⟨s1, ao1, n1, c1, rfl, hb1, ht1⟩; clear ht1)
    go_ret3
    exact ⟨rfl, After.alloc hb1 _⟩
  | some t =>
    obtain ⟨hg, hf, hs, _, _⟩ := Tm.parse_facts hp
    rw [hp] at hterm
    clear hp
    obtain ⟨hgm, hfm⟩ := Tm.many_good 6000 t hg hf
    have htm := Tm.text_le _ hgm
    have hsm := fits_size hfm
    have hmany := fun W s ao m c h => s_many W 6000 t s ao m c h hg hf (by omega)
    unfold SManyPost at hmany
    have hne := norm_eq t
    generalize hu : t.many 6000 = mm at *
    obtain ⟨u, i⟩ := mm
    simp only [normal_none] at hmany hgm hfm htm hsm hne
    generalize u.step.isNone = b at hmany hne
    simp only [hne]
    clear hu hne
    cases b
    all_goals
      go_enter Try.func59, Try.ntmps59
      go_wp2_with fail
      refine hterm.mono ?_
      rintro e w1 ⟨s1, ao1, n1, c1, rfl, hb1, ht1⟩
      have hcall := hmany _ _ _ _ _ ((ht1 t rfl).later (After.new w1 (.cells #[str s1, .slice ao1 n1 c1] 46)))
      have hw1 := After.alloc hb1 (.cells #[str s1, .slice ao1 n1 c1] 46)
      clear ht1 hmany hterm
      go_wp2_with fail
      refine hcall.mono ?_
      rintro e w2 ⟨s2, ao2, n2, c2, rfl, hb2, ht2⟩
      have hw2 := After.alloc (hw1.trans hb2) (.cells #[str s2, .slice ao2 n2 c2] 46)
      have htext := (ht2.later (After.new w2 (.cells #[str s2, .slice ao2 n2 c2] 46))).text hgm (by omega)
      clear ht2 hcall
      go_wp2_with (go_at_call 47; refine htext.mono ?_; rintro e w3 ⟨rfl, hb3⟩)
      go_ret3
      first
        | exact ⟨rfl, hw2.trans hb3⟩
        | exact ⟨rfl, hw2⟩
end Go.Proofs.Ytmkmladlpgfniaa
