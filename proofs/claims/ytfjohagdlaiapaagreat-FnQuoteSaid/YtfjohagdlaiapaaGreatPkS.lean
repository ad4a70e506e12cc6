/-
  The model's l2Parts where it fails.
-/
import Derived.Test.YtfjohagdlaiapaaGreatPkB
import Derived.Test.YtfjohagdlaiapaaGreatPkU
namespace Go.Proofs.YtfjohagdlaiapaaGreat
open Go.RowKit

set_option maxHeartbeats 2000000
set_option maxRecDepth 100000

def SPartsPost (w : World) (r : Option (Tm × Tm)) (e : Ending) (w' : World) : Prop :=
  ∃ s1 a1 n1 c1 s2 a2 n2 c2, e = .returned (.tuple #[.agg #[str s1, .slice a1 n1 c1], .agg #[str s2, .slice a2 n2 c2], .bool r.isSome]) ∧ After w w' ∧ ∀ m n, r = some (m, n) → ST w' m (.agg #[str s1, .slice a1 n1 c1]) ∧ ST w' n (.agg #[str s2, .slice a2 n2 c2])

end Go.Proofs.YtfjohagdlaiapaaGreat

namespace Go.Proofs.YtfjohagdlaiapaaGreat
open Go.RowKit

set_option maxHeartbeats 2000000
set_option maxRecDepth 100000

end Go.Proofs.YtfjohagdlaiapaaGreat

namespace Go.Proofs.YtfjohagdlaiapaaGreat
open Go.RowKit

set_option maxHeartbeats 2000000
set_option maxRecDepth 100000

/-- Is a tree no atom. -/
def Tm.isApp : Tm → Bool
  | .app _ _ => true
  | _ => false

theorem empty_app {w : World} {t : Tm} {s : List UInt8} {y : Value} (h : ST w t (.agg #[str s, y])) (hg : t.good = true) : s.isEmpty = t.isApp := by
  cases t with
  | app f a => obtain ⟨rfl, _⟩ := app_form h; rfl
  | k => obtain rfl := atom_form h rfl; rfl
  | s => obtain rfl := atom_form h rfl; rfl
  | nm n =>
    have e := atom_form h rfl
    rw [e]
    have := Tm.text_ne (.nm n) hg
    simp only [Tm.text] at this ⊢
    cases n with
    | nil => exact absurd rfl this
    | cons => rfl

theorem text_app_ne (f a : Tm) (c : UInt8) : (Tm.app f a).text ≠ [c] := by
  intro h
  have := congrArg List.length h
  simp [Tm.text] at this

/-- The letter of an atom, as the model and as the program ask for it. -/
theorem letter_eq {w : World} {t : Tm} {s : List UInt8} {y : Value} (c : UInt8) (h : ST w t (.agg #[str s, y])) : s = [c] ↔ t.text = [c] := by
  cases t with
  | app f a => obtain ⟨rfl, _⟩ := app_form h; simp [text_app_ne]
  | k => obtain rfl := atom_form h rfl; exact Iff.rfl
  | s => obtain rfl := atom_form h rfl; exact Iff.rfl
  | nm n => obtain rfl := atom_form h rfl; exact Iff.rfl

theorem text_si (f a : Tm) (hf : f.good = true) : (Tm.app f a).text = [40, 115, 32, 40, 40, 115, 32, 107, 41, 32, 107, 41, 41] ↔ f.text = [115] ∧ a.text = Tm.text Tm.I := by
  have hI : Tm.text Tm.I = [40, 40, 115, 32, 107, 41, 32, 107, 41] := by decide
  constructor
  · intro h
    simp only [Tm.text, List.cons.injEq, true_and] at h
    have hs : f.text = [115] := by
      cases f with
      | k => simp [Tm.text] at h
      | s => rfl
      | app x y => simp [Tm.text] at h
      | nm n =>
        cases n with
        | nil => simp [Tm.good, Tm.nameOk] at hf
        | cons c ds =>
          simp only [Tm.good, Tm.nameOk, Bool.and_eq_true] at hf
          simp only [Tm.text, List.cons_append, List.cons.injEq] at h
          obtain ⟨hc, _⟩ := h
          have := hf.1.1
          rw [hc] at this
          exact absurd this (by decide)
    rw [hs] at h
    simp only [List.cons_append, List.nil_append, List.cons.injEq, true_and] at h
    refine ⟨hs, ?_⟩
    rw [hI]
    have h2 : a.text ++ [41] = [40, 40, 115, 32, 107, 41, 32, 107, 41] ++ [41] := by simpa using h
    exact List.append_cancel_right h2
  · rintro ⟨h1, h2⟩
    simp only [Tm.text, h1, h2, hI]
    rfl

theorem atom_short {t : Tm} (hg : t.good = true) (h : t.isApp = false) : t.text ≠ [40, 115, 32, 40, 40, 115, 32, 107, 41, 32, 107, 41, 41] := by
  cases t with
  | app f a => simp [Tm.isApp] at h
  | k => decide
  | s => decide
  | nm n =>
    intro e
    simp only [Tm.text] at e
    rw [e] at hg
    exact absurd hg (by decide)

theorem parts_y {x y : Tm} (h : y.isApp = false) : (Tm.app x y).parts = none := by
  cases y with
  | app f a => simp [Tm.isApp] at h
  | _ => simp [Tm.parts, Tm.behind]
theorem parts_x {x y : Tm} (h : x.isApp = false) : (Tm.app x y).parts = none := by
  have : Tm.behind [115] x = none := by
    cases x with
    | app f a => simp [Tm.isApp] at h
    | _ => simp [Tm.behind]
  simp only [Tm.parts, this]
  split <;> rfl
theorem behind_no {F : List UInt8} {t : Tm} (h : t.isApp = false) : Tm.behind F t = none := by
  cases t with
  | app f a => simp [Tm.isApp] at h
  | _ => simp [Tm.behind]

theorem parts_app (x y : Tm) : (Tm.app x y).parts = (Tm.behind [107] y).bind fun n => (Tm.behind [115] x).bind fun l => (Tm.behind [40, 115, 32, 40, 40, 115, 32, 107, 41, 32, 107, 41, 41] l).bind fun fr => (Tm.behind [107] fr).map fun m => (m, n) := by
  simp only [Tm.parts]
  cases Tm.behind [107] y with
  | none => rfl
  | some n =>
    cases Tm.behind [115] x with
    | none => rfl
    | some l =>
      simp only [Option.bind_some]
      cases Tm.behind [40, 115, 32, 40, 40, 115, 32, 107, 41, 32, 107, 41, 41] l with
      | none => rfl
      | some fr =>
        simp only [Option.bind_some]
        cases Tm.behind [107] fr with
        | none => rfl
        | some m => rfl
theorem behind_app (F : List UInt8) (f a : Tm) : Tm.behind F (.app f a) = if f.text = F then some a else none := rfl

end Go.Proofs.YtfjohagdlaiapaaGreat
