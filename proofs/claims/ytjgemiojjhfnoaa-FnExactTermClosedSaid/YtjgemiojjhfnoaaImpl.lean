/-
  The program's exported functions TermValid, TermSize, TermNames, TermClosed, TermStep against the plain mathematics.
-/
import Derived.Test.YtjgemiojjhfnoaaNames
import Derived.Test.YtjgemiojjhfnoaaWrite
import Derived.Test.YtjgemiojjhfnoaaPure
namespace Go.Proofs.Ytjgemiojjhfnoaa
open Go.RowKit

set_option maxHeartbeats 400000
set_option maxRecDepth 100000

theorem impl_valid (w : World) (l : List UInt8) (hl : l.length ≤ 1000000000) :
    Calls Try.prog 10 #[str l] w fun e w' => e = .returned (.bool (Tm.parse l).isSome) ∧ Below w.heap.size w w' := by
  go_enter Try.func10, Try.ntmps10
  go_wp2_with (go_at_call 25; refine (readTerm_any _ _ l (Nat.le_refl _) hl).mono ?_; rintro e w1 ⟨v1, rfl, hb1, hv1⟩; clear hv1)
  go_ret
  exact ⟨rfl, hb1⟩

theorem impl_size (w : World) (l : List UInt8) (hl : l.length ≤ 1000000000) :
    Calls Try.prog 12 #[str l] w fun e w' => e = .returned (.int .i64 (Tm.pSize l)) ∧ Below w.heap.size w w' := by
  have hread := readTerm_any w _ l (Nat.le_refl _) hl
  unfold Tm.pSize
  unfold ParsePost at hread
  cases hp : Tm.parse l with
  | none =>
    rw [hp] at hread
    go_enter Try.func12, Try.ntmps12
    go_wp2_with (go_at_call 25; refine hread.mono ?_; rintro e w1 ⟨v1, rfl, hb1, hv1⟩; clear hv1)
    go_ret
    exact ⟨rfl, hb1⟩
  | some t =>
    rw [hp] at hread
    clear hp
    go_enter Try.func12, Try.ntmps12
    go_wp2_with fail
    refine hread.mono ?_
    rintro e w1 ⟨v1, rfl, hb1, hv1⟩
    obtain ⟨T1, x1, rfl, ⟨f1, y1, m1, n1, c1⟩, _⟩ := (hv1 t rfl).asks
    have hb0 := Below.refl w1.heap.size w1
    clear hv1 hread
    go_wp2_with (go_at_fn f1; refine (c1 _ hb0).mono ?_; rintro e w2 ⟨rfl, hb2⟩)
    go_ret
    exact ⟨rfl, below_trans hb1 hb2⟩

/-- A list of names handed back, or nothing. -/
def NamesRes (w : World) (r : Option (List (List UInt8))) (e : Ending) (w' : World) : Prop :=
  ∃ sv, e = .returned (.tuple #[sv, .bool r.isSome]) ∧ Below w.heap.size w w' ∧ w'.ownsRow w.heap.size 9 1 sv (r.getD []).length ((r.getD []).map str)

theorem impl_names (w : World) (l : List UInt8) (hl : l.length ≤ 1000000000) :
    Calls Try.prog 14 #[str l] w (NamesRes w (Tm.pNames l)) := by
  have hread := readTerm_any w _ l (Nat.le_refl _) hl
  unfold Tm.pNames
  unfold ParsePost at hread
  cases hp : Tm.parse l with
  | none =>
    rw [hp] at hread
    go_enter Try.func14, Try.ntmps14
    go_wp2_with (go_at_call 25; refine hread.mono ?_; rintro e w1 ⟨v1, rfl, hb1, hv1⟩; clear hv1)
    go_ret2
    exact ⟨_, rfl, hb1, World.ownsRow_nil _ _ _ _⟩
  | some t =>
    obtain ⟨hg, hf, hs, _, _⟩ := Tm.parse_facts hp
    rw [hp] at hread
    clear hp
    go_enter Try.func14, Try.ntmps14
    go_wp2_with fail
    refine hread.mono ?_
    rintro e w1 ⟨v1, rfl, hb1, hv1⟩
    have hn := namesOf_any w1 _ t v1 (hv1 t rfl) hg (by omega)
    clear hv1 hread
    go_wp2_with (go_at_call 28; refine hn.mono ?_; rintro e w2 ⟨sv, rfl, hb2, ho2⟩; have HO := Lib.hid (ownsRow_base ho2 hb1.size); clear ho2)
    go_ret2
    exact ⟨_, rfl, below_trans hb1 hb2, HO.out⟩

theorem impl_closed (w : World) (l : List UInt8) (hl : l.length ≤ 1000000000) :
    Calls Try.prog 19 #[str l] w fun e w' => e = .returned (.bool (Tm.pClosed l)) ∧ Below w.heap.size w w' := by
  have hread := readTerm_any w _ l (Nat.le_refl _) hl
  unfold Tm.pClosed
  unfold ParsePost at hread
  cases hp : Tm.parse l with
  | none =>
    rw [hp] at hread
    go_enter Try.func19, Try.ntmps19
    go_wp2_with (go_at_call 25; refine hread.mono ?_; rintro e w1 ⟨v1, rfl, hb1, hv1⟩; clear hv1)
    go_ret
    exact ⟨rfl, hb1⟩
  | some t =>
    obtain ⟨hg, hf, hs, _, _⟩ := Tm.parse_facts hp
    rw [hp] at hread
    clear hp
    obtain ⟨k, hk⟩ : ∃ k, k = (t.names []).length := ⟨_, rfl⟩
    have hfin : (t.names []).isEmpty = ((k : Int) == 0) := by
      rw [Bool.eq_iff_iff, beq_iff_eq, List.isEmpty_iff, ← List.length_eq_zero_iff]; omega
    have HK := Lib.hid hk
    simp only [hfin]
    clear hfin hk
    go_enter Try.func19, Try.ntmps19
    go_wp2_with fail
    refine hread.mono ?_
    rintro e w1 ⟨v1, rfl, hb1, hv1⟩
    have hn := namesOf_any w1 _ t v1 (hv1 t rfl) hg (by omega)
    clear hv1 hread
    go_wp2_with (go_at_call 28; refine hn.mono ?_; rintro e w2 ⟨sv, rfl, hb2, ho2⟩; rw [← HK.out] at ho2; obtain ⟨ao, ac, rfl⟩ := own_slice_len ho2; clear ho2)
    go_ret
    exact ⟨rfl, below_trans hb1 hb2⟩

/-- A text handed back, or nothing. -/
def TextRes (w : World) (r : Option (List UInt8)) (e : Ending) (w' : World) : Prop :=
  e = .returned (.tuple #[str (r.getD []), .bool r.isSome]) ∧ Below w.heap.size w w'

theorem impl_step (w : World) (l : List UInt8) (hl : l.length ≤ 1000000000) :
    Calls Try.prog 23 #[str l] w (TextRes w (Tm.pStep l)) := by
  have hread := readTerm_any w _ l (Nat.le_refl _) hl
  unfold Tm.pStep
  unfold ParsePost at hread
  cases hp : Tm.parse l with
  | none =>
    rw [hp] at hread
    go_enter Try.func23, Try.ntmps23
    go_wp2_with (go_at_call 25; refine hread.mono ?_; rintro e w1 ⟨v1, rfl, hb1, hv1⟩; clear hv1)
    go_ret2
    exact ⟨rfl, hb1⟩
  | some t =>
    obtain ⟨hg, hf, hs, _, _⟩ := Tm.parse_facts hp
    rw [hp] at hread
    clear hp
    cases hst : t.stepFit with
    | none =>
      have hsome : t.stepFit.isSome = false := by rw [hst]; rfl
      simp only [hst]
      clear hst
      go_enter Try.func23, Try.ntmps23
      go_wp2_with fail
      refine hread.mono ?_
      rintro e w1 ⟨v1, rfl, hb1, hv1⟩
      have hn := stepTerm_any w1 _ t v1 (hv1 t rfl) hb1.size (by omega)
      clear hv1 hread
      go_wp2_with (go_at_call 40; refine hn.mono ?_; rintro e w2 ⟨v2, rfl, hb2, hv2⟩; clear hv2)
      go_ret2
      exact ⟨rfl, below_trans hb1 hb2⟩
    | some u =>
      have hsome : t.stepFit.isSome = true := by rw [hst]; rfl
      have hsu : t.step = some u := by
        unfold Tm.stepFit at hst
        split at hst
        · split at hst
          · obtain rfl := Option.some.inj hst; assumption
          · simp at hst
        · simp at hst
      have hgu := Tm.step_good hsu hg
      have hfu := fits_size (stepFit_fits hst)
      have htu := Tm.text_le u hgu
      have HST := Lib.hid hst
      simp only [hst]
      clear hst hsu
      go_enter Try.func23, Try.ntmps23
      go_wp2_with fail
      refine hread.mono ?_
      rintro e w1 ⟨v1, rfl, hb1, hv1⟩
      have hn := stepTerm_any w1 _ t v1 (hv1 t rfl) hb1.size (by omega)
      clear hv1 hread
      go_wp2_with (first
        | (go_at_call 40; refine hn.mono ?_; rintro e w2 ⟨v2, rfl, hb2, hv2⟩; have HV := Lib.hid (hv2 u HST.out); clear hv2)
        | (go_at_call 38; refine (textOf_any _ _ u _ HV.out hgu (by omega)).mono ?_; rintro e w3 ⟨rfl, hb3⟩))
      go_ret2
      exact ⟨rfl, below_trans (below_trans hb1 hb2) hb3⟩
end Go.Proofs.Ytjgemiojjhfnoaa
