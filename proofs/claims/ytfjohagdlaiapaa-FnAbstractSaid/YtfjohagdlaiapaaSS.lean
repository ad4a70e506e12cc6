/-
  What the laws do with lists of lists of texts of an argument: szStringSS, toStringSS, eqStringSS, and the same of assemblies.
-/
import Derived.Test.YtfjohagdlaiapaaSz
import Derived.Deep.QuietTactic
import Derived.Deep.RegionHeld3
namespace Go.Proofs.Ytfjohagdlaiapaa
open Go.RowKit

set_option maxHeartbeats 1000000
set_option maxRecDepth 100000

/-- A slice of n cells, each with f j, in a block from B on. -/
def RowU (B : Nat) (w : World) (sv : Value) (n : Nat) (f : Nat → Value) : Prop :=
  ∃ ao cap, sv = .slice ao n cap ∧ ∀ j, j < n → ∃ b off, ao = some ⟨b, off, none⟩ ∧ (B ≤ b ∧ n ≤ cap ∧ cap ≤ 9223372036854775807) ∧ w.cell? ⟨b, off + j, none⟩ = some (f j)

def StrsU (B : Nat) (w : World) (sv : Value) (ns : List (List UInt8)) : Prop := RowU B w sv ns.length (fun j => str (ns.getD j []))

def SSU (B : Nat) (w : World) (sv : Value) (a : List (List (List UInt8))) : Prop :=
  ∃ f, RowU B w sv a.length f ∧ ∀ j, j < a.length → StrsU B w (f j) (a.getD j [])

theorem RowU.later {B : Nat} {w W : World} {sv : Value} {n : Nat} {f : Nat → Value} (h : RowU B w sv n f) (hA : After w W) : RowU B W sv n f := by
  obtain ⟨ao, cap, rfl, hc⟩ := h
  exact ⟨ao, cap, rfl, fun j hj => by obtain ⟨b, off, e, hb, h⟩ := hc j hj; exact ⟨b, off, e, hb, hA.cell h⟩⟩

theorem RowU.mono {B C : Nat} {w : World} {sv : Value} {n : Nat} {f : Nat → Value} (h : RowU B w sv n f) (hC : C ≤ B) : RowU C w sv n f := by
  obtain ⟨ao, cap, rfl, hc⟩ := h
  exact ⟨ao, cap, rfl, fun j hj => by obtain ⟨b, off, e, hb, h⟩ := hc j hj; exact ⟨b, off, e, ⟨by omega, hb.2⟩, h⟩⟩

theorem cell_same {w W : World} {b i : Nat} {v : Value} (h : w.cell? ⟨b, i, none⟩ = some v) (e : W.heap[b]? = w.heap[b]?) : W.cell? ⟨b, i, none⟩ = some v := by
  unfold World.cell? at h ⊢
  simp only at h ⊢
  rw [e]
  exact h

theorem RowU.same {B : Nat} {w W : World} {sv : Value} {n : Nat} {f : Nat → Value} (h : RowU B w sv n f) (hA : ∀ b, B ≤ b → b < w.heap.size → W.heap[b]? = w.heap[b]?) : RowU B W sv n f := by
  obtain ⟨ao, cap, rfl, hc⟩ := h
  exact ⟨ao, cap, rfl, fun j hj => by obtain ⟨b, off, e, hb, h⟩ := hc j hj; exact ⟨b, off, e, hb, cell_same h (hA b hb.1 (World.block_lt_of_cell? _ _ h))⟩⟩

theorem StrsU.later {B : Nat} {w W : World} {sv : Value} {ns : List (List UInt8)} (h : StrsU B w sv ns) (hA : After w W) : StrsU B W sv ns := RowU.later h hA
theorem SSU.later {B : Nat} {w W : World} {sv : Value} {a : List (List (List UInt8))} (h : SSU B w sv a) (hA : After w W) : SSU B W sv a := by
  obtain ⟨f, h1, h2⟩ := h
  exact ⟨f, h1.later hA, fun j hj => (h2 j hj).later hA⟩
theorem SSU.mono {B C : Nat} {w : World} {sv : Value} {a : List (List (List UInt8))} (h : SSU B w sv a) (hC : C ≤ B) : SSU C w sv a := by
  obtain ⟨f, h1, h2⟩ := h
  exact ⟨f, h1.mono hC, fun j hj => RowU.mono (h2 j hj) hC⟩

/-! ### sizes -/

/-- Every length is one of Go's. -/
def Lens (m : Nat) (a : List (List (List UInt8))) : Prop := a.length ≤ m ∧ ∀ ns ∈ a, ns.length ≤ m ∧ ∀ s ∈ ns, s.length ≤ m

end Go.Proofs.Ytfjohagdlaiapaa
