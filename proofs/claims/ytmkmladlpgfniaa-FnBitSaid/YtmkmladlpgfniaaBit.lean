/-
  The program's readNormal; what BitRead answers.
-/
import Derived.Test.YtmkmladlpgfniaaMany
import Derived.Test.YtmkmladlpgfniaaPkDat
import Derived.Test.YtmkmladlpgfniaaPkRead
import Derived.Test.YtmkmladlpgfniaaPkTm
namespace Go.Proofs.Ytmkmladlpgfniaa
open Go.RowKit

set_option maxHeartbeats 400000
set_option maxRecDepth 100000

namespace Tm
/-- The normal term of a text. -/
def normOf (l : List UInt8) : Option Tm := match parse l with | some t => (norm t).map Prod.fst | none => none

theorem norm_normal (t : Tm) : norm t = if (many 6000 t).1.normal = true then some (many 6000 t) else none := by
  unfold norm
  simp only [normal_step]

theorem normOf_good {l : List UInt8} {u : Tm} (h : normOf l = some u) : good u = true ∧ fits u = true := by
  unfold normOf at h
  cases hp : parse l with
  | none => rw [hp] at h; simp at h
  | some t =>
    rw [hp] at h
    obtain ⟨hg, hf, _⟩ := parse_facts hp
    obtain ⟨p, hp1, hp2⟩ := Option.map_eq_some_iff.1 h
    obtain ⟨x, n⟩ := p
    exact hp2 ▸ norm_good hp1 hg hf
end Tm

def ReadNPost (w : World) (B : Nat) (l : List UInt8) (e : Ending) (w' : World) : Prop :=
  ∃ v, e = .returned (.tuple #[v, .bool (Tm.normOf l).isSome]) ∧ Below w.heap.size w w' ∧ ∀ u, Tm.normOf l = some u → TV w' B u v

theorem readNormal_any (w : World) (B : Nat) (l : List UInt8) (hB : B ≤ w.heap.size) (hl : l.length ≤ 1000000000) :
    Calls Try.prog 54 #[str l] w (ReadNPost w B l) := by
  have hread := readTerm_any w B l hB hl
  unfold ParsePost at hread
  unfold ReadNPost
  cases hp : Tm.parse l with
  | none =>
    have hfin : Tm.normOf l = none := by simp [Tm.normOf, hp]
    rw [hfin]
    rw [hp] at hread
    clear hp hfin
    go_enter Try.func54, Try.ntmps54
    go_wp2_with (go_at_call 33; refine hread.mono ?_; rintro e w1 ⟨v1, rfl, hb1, hv1⟩; clear hv1)
    go_ret2
    exact ⟨_, rfl, hb1, fun u h => by cases h⟩
  | some t =>
    obtain ⟨hg, hf, hs, _, _⟩ := Tm.parse_facts hp
    have hfin : Tm.normOf l = if (t.many 6000).1.normal = true then some (t.many 6000).1 else none := by
      simp only [Tm.normOf, hp, Tm.norm_normal]
      split <;> rfl
    rw [hfin]
    rw [hp] at hread
    clear hp hfin
    have hnorm := fun W v h hB => normalTerm_any W B t v h hB hf
    unfold NormPost at hnorm
    generalize t.many 6000 = m at *
    obtain ⟨u, c⟩ := m
    simp only at hnorm ⊢
    generalize u.normal = b at *
    obtain ⟨r, hr⟩ : ∃ r, r = if b = true then some u else none := ⟨_, rfl⟩
    rw [← hr]
    have HR := Lib.hid hr
    clear hr
    go_enter Try.func54, Try.ntmps54
    go_wp2_with fail
    refine hread.mono ?_
    rintro e w1 ⟨v1, rfl, hb1, hv1⟩
    have hcall := hnorm w1 v1 (hv1 t rfl) (Nat.le_trans hB hb1.size)
    clear hv1 hread hnorm
    go_wp2_with (go_at_call 43; refine hcall.mono ?_; rintro e w2 ⟨v2, rfl, hb2, hv2⟩; have HV := Lib.hid hv2; clear hv2)
    go_ret2
    refine ⟨_, by rw [HR.out]; cases b <;> rfl, below_trans hb1 hb2, fun u' h => ?_⟩
    rw [HR.out] at h
    cases b
    · simp at h
    · simp at h; rw [← h]; exact HV.out
end Go.Proofs.Ytmkmladlpgfniaa
