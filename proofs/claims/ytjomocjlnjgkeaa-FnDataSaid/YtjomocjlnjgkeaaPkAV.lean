/-
  The program's exported function TermClosed, over readClosed.
-/
import Derived.Test.YtjomocjlnjgkeaaPkAU
import Derived.Test.YtjomocjlnjgkeaaPkAJ
import Derived.Test.YtjomocjlnjgkeaaPkAL
namespace Go.Proofs.Ytjomocjlnjgkeaa
open Go.RowKit

set_option maxHeartbeats 1000000
set_option maxRecDepth 100000

theorem closedOf_isSome (l : List UInt8) : (Tm.closedOf l).isSome = Tm.pClosed l := by
  unfold Tm.pClosed
  cases hp : Tm.parse l with
  | none => simp [Tm.closedOf, hp]
  | some t =>
    rw [closed_if hp]
    by_cases h0 : (t.names []).length = 0
    · rw [if_pos h0]; simp [List.length_eq_zero_iff.1 h0]
    · rw [if_neg h0]
      have : t.names [] ≠ [] := fun e => h0 (by rw [e]; rfl)
      simp [this]

theorem impl_closed (w : World) (l : List UInt8) (hl : l.length ≤ 1000000000) :
    Calls Try.prog 12 #[str l] w fun e w' => e = .returned (.bool (Tm.pClosed l)) ∧ Below w.heap.size w w' := by
  have hread := readClosed_any w w.heap.size l (Nat.le_refl _) hl
  unfold DataPost at hread
  rw [closedOf_isSome] at hread
  generalize Tm.pClosed l = b at *
  go_enter Try.func12, Try.ntmps12
  go_wp2_with fail
  refine hread.mono ?_
  rintro e w1 ⟨v1, rfl, hb1, hv1⟩
  clear hv1 hread
  go_wp2_with fail
  go_ret
  exact ⟨rfl, hb1⟩
end Go.Proofs.Ytjomocjlnjgkeaa

namespace Go.Proofs.Ytjomocjlnjgkeaa
open Go.RowKit

set_option maxHeartbeats 400000
set_option maxRecDepth 100000

/-- A list of names handed back, or nothing. -/
def NamesRes (w : World) (r : Option (List (List UInt8))) (e : Ending) (w' : World) : Prop :=
  ∃ sv, e = .returned (.tuple #[sv, .bool r.isSome]) ∧ Below w.heap.size w w' ∧ w'.ownsRow w.heap.size 9 1 sv (r.getD []).length ((r.getD []).map str)

/-- A text handed back, or nothing. -/
def TextRes (w : World) (r : Option (List UInt8)) (e : Ending) (w' : World) : Prop :=
  e = .returned (.tuple #[str (r.getD []), .bool r.isSome]) ∧ Below w.heap.size w w'

end Go.Proofs.Ytjomocjlnjgkeaa
