/-
  Two texts read one after the other: readBoth.
-/
import Derived.Test.YtmkmladlpgfniaaPkRead
namespace Go.Proofs.Ytmkmladlpgfniaa
open Go.RowKit

set_option maxHeartbeats 400000
set_option maxRecDepth 100000

def BothPost (w : World) (B : Nat) (l m : List UInt8) (e : Ending) (w' : World) : Prop :=
  ∃ v1 v2, e = .returned (.tuple #[v1, v2, .bool ((Tm.parse l).isSome && (Tm.parse m).isSome)]) ∧ Below w.heap.size w w' ∧ ∀ t u, Tm.parse l = some t → Tm.parse m = some u → TV w' B t v1 ∧ TV w' B u v2

theorem readBoth_any (w : World) (B : Nat) (l m : List UInt8) (hB : B ≤ w.heap.size) (hl : l.length ≤ 1000000000) (hm : m.length ≤ 1000000000) :
    Calls Try.prog 39 #[str l, str m] w (BothPost w B l m) := by
  have hread := readTerm_any w B l hB hl
  have hread2 := fun W hB' => readTerm_any W B m hB' hm
  unfold BothPost
  unfold ParsePost at hread hread2
  cases hp : Tm.parse l with
  | none =>
    rw [hp] at hread
    clear hread2
    go_enter Try.func39, Try.ntmps39
    go_wp2_with (go_at_call 33; refine hread.mono ?_; rintro e w1 ⟨v1, rfl, hb1, hv1⟩; clear hv1)
    go_ret3
    exact ⟨_, _, rfl, hb1, fun t u h _ => by cases h⟩
  | some t =>
    rw [hp] at hread
    cases hq : Tm.parse m with
    | none =>
      rw [hq] at hread2
      clear hp hq
      go_enter Try.func39, Try.ntmps39
      go_wp2_with fail
      refine hread.mono ?_
      rintro e w1 ⟨v1, rfl, hb1, hv1⟩
      clear hv1 hread
      go_wp2_with (go_at_call 33; refine (hread2 _ (Nat.le_trans hB hb1.size)).mono ?_; rintro e w2 ⟨v2, rfl, hb2, hv2⟩; clear hv2)
      go_ret3
      exact ⟨_, _, rfl, below_trans hb1 hb2, fun t u _ h => by cases h⟩
    | some u =>
      rw [hq] at hread2
      clear hp hq
      go_enter Try.func39, Try.ntmps39
      go_wp2_with fail
      refine hread.mono ?_
      rintro e w1 ⟨v1, rfl, hb1, hv1⟩
      have HV1 := Lib.hid (hv1 t rfl)
      clear hv1 hread
      go_wp2_with (go_at_call 33; refine (hread2 _ (Nat.le_trans hB hb1.size)).mono ?_; rintro e w2 ⟨v2, rfl, hb2, hv2⟩; have HV2 := Lib.hid (hv2 u rfl); clear hv2)
      go_ret3
      refine ⟨_, _, rfl, below_trans hb1 hb2, fun t' u' h h' => ?_⟩
      obtain rfl := Option.some.inj h
      obtain rfl := Option.some.inj h'
      exact ⟨HV1.out.below hb2, HV2.out⟩
end Go.Proofs.Ytmkmladlpgfniaa
