/-
  Two texts read one after the other: readBoth.
-/
import Derived.Test.YtjomocjlnjgkeaaPkAG
import Derived.Test.YtjomocjlnjgkeaaPkAS
import Derived.Test.YtjomocjlnjgkeaaPkAL
import Derived.Test.YtjomocjlnjgkeaaPkAJ
namespace Go.Proofs.Ytjomocjlnjgkeaa
open Go.RowKit

set_option maxHeartbeats 400000
set_option maxRecDepth 100000

def BothPost (w : World) (B : Nat) (l m : List UInt8) (e : Ending) (w' : World) : Prop :=
  ∃ v1 v2, e = .returned (.tuple #[v1, v2, .bool ((Tm.parse l).isSome && (Tm.parse m).isSome)]) ∧ Below w.heap.size w w' ∧ ∀ t u, Tm.parse l = some t → Tm.parse m = some u → TV w' B t v1 ∧ TV w' B u v2

theorem readBoth_any (w : World) (B : Nat) (l m : List UInt8) (hB : B ≤ w.heap.size) (hl : l.length ≤ 1000000000) (hm : m.length ≤ 1000000000) :
    Calls Try.prog 40 #[str l, str m] w (BothPost w B l m) := by
  have hread := readTerm_any w B l hB hl
  have hread2 := fun W hB' => readTerm_any W B m hB' hm
  unfold BothPost
  unfold ParsePost at hread hread2
  cases hp : Tm.parse l with
  | none =>
    rw [hp] at hread
    clear hread2
    go_enter Try.func40, Try.ntmps40
    go_wp2_with (go_at_call 43; refine hread.mono ?_; rintro e w1 ⟨v1, rfl, hb1, hv1⟩; clear hv1)
    go_ret3
    exact ⟨_, _, rfl, hb1, fun t u h _ => by cases h⟩
  | some t =>
    rw [hp] at hread
    cases hq : Tm.parse m with
    | none =>
      rw [hq] at hread2
      clear hp hq
      go_enter Try.func40, Try.ntmps40
      go_wp2_with fail
      refine hread.mono ?_
      rintro e w1 ⟨v1, rfl, hb1, hv1⟩
      clear hv1 hread
      go_wp2_with (go_at_call 43; refine (hread2 _ (Nat.le_trans hB hb1.size)).mono ?_; rintro e w2 ⟨v2, rfl, hb2, hv2⟩; clear hv2)
      go_ret3
      exact ⟨_, _, rfl, below_trans hb1 hb2, fun t u _ h => by cases h⟩
    | some u =>
      rw [hq] at hread2
      clear hp hq
      go_enter Try.func40, Try.ntmps40
      go_wp2_with fail
      refine hread.mono ?_
      rintro e w1 ⟨v1, rfl, hb1, hv1⟩
      have HV1 := Lib.hid (hv1 t rfl)
      clear hv1 hread
      go_wp2_with (go_at_call 43; refine (hread2 _ (Nat.le_trans hB hb1.size)).mono ?_; rintro e w2 ⟨v2, rfl, hb2, hv2⟩; have HV2 := Lib.hid (hv2 u rfl); clear hv2)
      go_ret3
      refine ⟨_, _, rfl, below_trans hb1 hb2, fun t' u' h h' => ?_⟩
      obtain rfl := Option.some.inj h
      obtain rfl := Option.some.inj h'
      exact ⟨HV1.out.below hb2, HV2.out⟩
end Go.Proofs.Ytjomocjlnjgkeaa

namespace Go.Proofs.Ytjomocjlnjgkeaa
open Go.RowKit

set_option maxHeartbeats 400000
set_option maxRecDepth 100000

theorem normal_none (t : Tm) : t.normal = t.step.isNone := by
  rw [Bool.eq_iff_iff, normal_step, Option.isNone_iff_eq_none]

theorem norm_eq (t : Tm) : t.norm = if (t.many 6000).1.normal = true then some (t.many 6000) else none := by
  unfold Tm.norm
  simp only [normal_step]

/-- A text and a number handed back, or nothing. -/
def NumRes (w : World) (r : Option (List UInt8 × Nat)) (e : Ending) (w' : World) : Prop :=
  e = .returned (.tuple #[str ((r.map Prod.fst).getD []), .int .i64 (((r.map Prod.snd).getD 0 : Nat) : Int), .bool r.isSome]) ∧ Below w.heap.size w w'

theorem impl_norm (w : World) (l : List UInt8) (hl : l.length ≤ 1000000000) :
    Calls Try.prog 17 #[str l] w (NumRes w (Tm.pNorm l)) := by
  have hread := readTerm_any w _ l (Nat.le_refl _) hl
  unfold Tm.pNorm
  unfold ParsePost at hread
  cases hp : Tm.parse l with
  | none =>
    rw [hp] at hread
    go_enter Try.func17, Try.ntmps17
    go_wp2_with (go_at_call 43; refine hread.mono ?_; rintro e w1 ⟨v1, rfl, hb1, hv1⟩; clear hv1)
    go_ret3
    exact ⟨rfl, hb1⟩
  | some t =>
    obtain ⟨hg, hf, hs, _, _⟩ := Tm.parse_facts hp
    rw [hp] at hread
    clear hp
    obtain ⟨hgm, hfm⟩ := Tm.many_good 6000 t hg hf
    have htm := Tm.text_le _ hgm
    have hsm := fits_size hfm
    have hnorm := fun W v h hB => normalTerm_any W w.heap.size t v h hB hf
    unfold NormPost at hnorm
    have hne := norm_eq t
    generalize hm : t.many 6000 = m at *
    clear hm
    obtain ⟨u, c⟩ := m
    simp only at hne hnorm hgm hfm htm hsm
    generalize hb : u.normal = b at *
    simp only [hne]
    clear hne hb
    cases b
    all_goals
      go_enter Try.func17, Try.ntmps17
      go_wp2_with fail
      refine hread.mono ?_
      rintro e w1 ⟨v1, rfl, hb1, hv1⟩
      have hcall := hnorm w1 v1 (hv1 t rfl) hb1.size
      clear hv1 hread hnorm
      go_wp2_with (first
        | (go_at_call 44; refine hcall.mono ?_; rintro e w2 ⟨v2, rfl, hb2, hv2⟩; have HV := Lib.hid hv2; clear hv2)
        | (go_at_call 35; refine (textOf_any _ _ u _ HV.out hgm (by omega)).mono ?_; rintro e w3 ⟨rfl, hb3⟩))
      go_ret3
      first
        | exact ⟨rfl, below_trans (below_trans hb1 hb2) hb3⟩
        | exact ⟨rfl, below_trans hb1 hb2⟩
end Go.Proofs.Ytjomocjlnjgkeaa
