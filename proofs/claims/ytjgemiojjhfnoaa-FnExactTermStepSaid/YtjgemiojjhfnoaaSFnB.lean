/-
  The model's exported functions: TermStep.
-/
import Derived.Test.YtjgemiojjhfnoaaSStepC
import Derived.Test.YtjgemiojjhfnoaaImpl
import Derived.Test.YtjgemiojjhfnoaaSFnA
namespace Go.Proofs.Ytjgemiojjhfnoaa
open Go.RowKit

set_option maxHeartbeats 1000000
set_option maxRecDepth 100000

def SText (w : World) (r : Option (List UInt8)) (e : Ending) (w' : World) : Prop :=
  e = .returned (.tuple #[str (r.getD []), .bool r.isSome]) ∧ After w w'

theorem spec_step (w : World) (l : List UInt8) (hl : l.length ≤ 1000000000) :
    Calls Try.prog 22 #[str l] w (SText w (Tm.pStep l)) := by
  have hterm := s_term w l hl
  unfold STermPost at hterm
  unfold Tm.pStep
  cases hp : Tm.parse l with
  | none =>
    rw [hp] at hterm
    go_enter Try.func22, Try.ntmps22
    go_wp2_with (go_at_call 24; refine hterm.mono ?_; rintro e w1 ⟨s1, ao1, n1, c1, rfl, hb1, ht1⟩; clear ht1)
    go_ret2
    exact ⟨rfl, After.alloc hb1 _⟩
  | some t =>
    obtain ⟨hg, hf, hs, _, _⟩ := Tm.parse_facts hp
    rw [hp] at hterm
    clear hp
    cases hst : t.step with
    | none =>
      have hfit : t.stepFit = none := by simp [Tm.stepFit, hst]
      simp only [hfit]
      have HST := Lib.hid hst
      clear hst hfit
      go_enter Try.func22, Try.ntmps22
      go_wp2_with fail
      refine hterm.mono ?_
      rintro e w1 ⟨s1, ao1, n1, c1, rfl, hb1, ht1⟩
      have hT := ht1 t rfl
      have hstep := s_step (hT.later (After.new w1 (.cells #[str s1, .slice ao1 n1 c1] 35))) hg
      unfold SStepPost at hstep
      rw [HST.out] at hstep
      clear hT ht1
      go_wp2_with (go_at_call 39; refine hstep.mono ?_; rintro e w2 ⟨s2, ao2, n2, c2, rfl, hb2, ht2⟩; clear ht2)
      go_ret2
      exact ⟨rfl, After.alloc ((After.alloc hb1 _).trans hb2) _⟩
    | some u =>
      have hgu := Tm.step_good hst hg
      have hsu := step_size hst
      have htu := Tm.text_le u hgu
      have hfit : t.stepFit = if u.fits then some u else none := by simp [Tm.stepFit, hst]
      show Calls _ _ _ _ (SText w (Option.map Tm.text t.stepFit))
      obtain ⟨r, hr⟩ : ∃ r, r = Option.map Tm.text t.stepFit := ⟨_, rfl⟩
      rw [← hr]
      rw [hfit] at hr
      obtain ⟨b, hb⟩ : ∃ b, b = u.fits := ⟨_, rfl⟩
      rw [← hb] at hr
      have HST := Lib.hid hst
      have HB := Lib.hid hb
      have HR := Lib.hid hr
      clear hst hfit hb hr
      go_enter Try.func22, Try.ntmps22
      go_wp2_with fail
      refine hterm.mono ?_
      rintro e w1 ⟨s1, ao1, n1, c1, rfl, hb1, ht1⟩
      have hT := ht1 t rfl
      have hstep := s_step (hT.later (After.new w1 (.cells #[str s1, .slice ao1 n1 c1] 35))) hg
      unfold SStepPost at hstep
      rw [HST.out] at hstep
      simp only [Option.isSome_some, Option.getD_some] at hstep
      clear hT ht1
      go_wp2_with fail
      refine hstep.mono ?_
      rintro e w2 ⟨s2, ao2, n2, c2, rfl, hb2, ht2⟩
      have HT := Lib.hid (show ST w2 u _ from ht2)
      clear ht2
      have hw2 := (After.alloc hb1 (.cells #[str s1, .slice ao1 n1 c1] 35)).trans hb2
      have hfine := (HT.out.later (After.new w2 (.cells #[str s2, .slice ao2 n2 c2] 35))).fine hgu (by omega)
      rw [← HB.out] at hfine
      cases b
      · go_wp2_with (go_at_call 33; refine hfine.mono ?_; rintro e w3 ⟨rfl, hb3⟩)
        go_ret2
        exact ⟨by rw [HR.out]; rfl, (After.alloc hw2 _).trans hb3⟩
      · go_wp2_with fail
        refine hfine.mono ?_
        rintro e w3 ⟨rfl, hb3⟩
        have hw3 := (After.alloc hw2 (.cells #[str s2, .slice ao2 n2 c2] 35)).trans hb3
        have htext := (HT.out.later ((After.new w2 (.cells #[str s2, .slice ao2 n2 c2] 35)).trans hb3)).text hgu (by omega)
        have hbox : w3.heap[w2.heap.size]? = some (.cells #[str s2, .slice ao2 n2 c2] 35 (0, 0)) := hb3.heap (heap_new' w2 _)
        have k0 : w3.cell? ⟨w2.heap.size, 0, none⟩ = some (str s2) := cell_of_heap hbox
        have k1 : w3.cell? ⟨w2.heap.size, 1, none⟩ = some (.slice ao2 n2 c2) := cell_of_heap hbox
        go_wp2_with (go_at_call 34; refine htext.mono ?_; rintro e w4 ⟨rfl, hb4⟩)
        go_ret2
        exact ⟨by rw [HR.out]; rfl, hw3.trans hb4⟩
end Go.Proofs.Ytjgemiojjhfnoaa
