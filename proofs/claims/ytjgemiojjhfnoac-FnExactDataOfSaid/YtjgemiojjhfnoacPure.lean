/-
  What the functions of chapter 1 answer, in plain mathematics.
-/
import Derived.Test.YtjgemiojjhfnoacRed
namespace Go.Proofs.Ytjgemiojjhfnoac
namespace Tm

theorem parse_facts {l : List UInt8} {t : Tm} (h : parse l = some t) : good t = true ∧ fits t = true ∧ size t ≤ 3000 ∧ depth t ≤ 1500 ∧ t.text.length ≤ 21000 := by
  obtain ⟨_, h2, h3⟩ := parse_iff.1 h
  have h4 := h3
  simp only [fits, Bool.and_eq_true, decide_eq_true_eq] at h4
  have := text_le t h2
  exact ⟨h2, h3, h4.1, h4.2, by omega⟩

def pSize (l : List UInt8) : Int := match parse l with | some t => (size t : Nat) | none => -1
def pNames (l : List UInt8) : Option (List (List UInt8)) := (parse l).map (names [])
def pClosed (l : List UInt8) : Bool := match parse l with | some t => (names [] t).isEmpty | none => false
def pPut (l n b : List UInt8) : Option (List UInt8) := match parse l, parse b with
  | some t, some u => if nameOk n && fits (put t n u) then some (text (put t n u)) else none
  | _, _ => none
def pStep (l : List UInt8) : Option (List UInt8) := match parse l with
  | some t => (stepFit t).map text
  | none => none
def pMany (l : List UInt8) (n : Int) : Option (List UInt8 × Nat) := match parse l with
  | some t => if 0 ≤ n ∧ n ≤ 6000 then some (text (many n.toNat t).1, (many n.toNat t).2) else none
  | none => none
def pNormal (l : List UInt8) : Bool := match parse l with | some t => (step t).isNone | none => false
def pNorm (l : List UInt8) : Option (List UInt8 × Nat) := match parse l with
  | some t => (norm t).map fun p => (text p.1, p.2)
  | none => none
def pApply (l m : List UInt8) : Option (List UInt8) := match parse l, parse m with
  | some t, some u => if fits (app t u) then (norm (app t u)).map fun p => text p.1 else none
  | _, _ => none
def pEqual (l m : List UInt8) : Bool := match pNorm l, pNorm m with
  | some p, some q => decide (p.1 = q.1)
  | _, _ => false

end Tm
end Go.Proofs.Ytjgemiojjhfnoac
