/-
  The program's exported functions TermValid, TermSize, TermNames, TermStep against the plain mathematics.
-/
import Derived.Test.YtjomocjlnjgkeaaGreatPkAM
import Derived.Test.YtjomocjlnjgkeaaGreatPkAO
import Derived.Test.YtjomocjlnjgkeaaGreatPkAF
import Derived.Test.YtjomocjlnjgkeaaGreatPkAH
import Derived.Test.YtjomocjlnjgkeaaGreatPkAC
import Derived.Test.YtjomocjlnjgkeaaGreatPkAN
namespace Go.Proofs.YtjomocjlnjgkeaaGreat
open Go.RowKit

set_option maxHeartbeats 400000
set_option maxRecDepth 100000

/-- A list of names handed back, or nothing. -/
def NamesRes (w : World) (r : Option (List (List UInt8))) (e : Ending) (w' : World) : Prop :=
  ∃ sv, e = .returned (.tuple #[sv, .bool r.isSome]) ∧ Below w.heap.size w w' ∧ w'.ownsRow w.heap.size 9 1 sv (r.getD []).length ((r.getD []).map str)

/-- A text handed back, or nothing. -/
def TextRes (w : World) (r : Option (List UInt8)) (e : Ending) (w' : World) : Prop :=
  e = .returned (.tuple #[str (r.getD []), .bool r.isSome]) ∧ Below w.heap.size w w'

end Go.Proofs.YtjomocjlnjgkeaaGreat

namespace Go.Proofs.YtjomocjlnjgkeaaGreat
open Go.RowKit

set_option maxHeartbeats 400000
set_option maxRecDepth 100000

def PutPost (w : World) (B : Nat) (u : Tm) (e : Ending) (w' : World) : Prop :=
  ∃ v', e = .returned v' ∧ Below w.heap.size w w' ∧ TV w' B u v'

def PutOk (w : World) (B : Nat) (v : Value) (t : Tm) (name : List UInt8) (b : Tm) (vb : Value) : Prop :=
  ∃ T x f y, v = .iface T x ∧ (∀ W, Below w.heap.size w W → (method 317 T x "loop.example/realizers/impl.put").run Tryz.prog W = .ok (f, y) W) ∧ (∀ args w', (callFunc f args).run Tryz.prog w' = .ok (.enter f args) w') ∧
    ∀ W, Below w.heap.size w W → Calls Tryz.prog f #[y, str name, vb] W (PutPost W B (t.put name b))

theorem put_size (t b : Tm) (n : List UInt8) : (t.put n b).size ≤ t.size * (b.size + 1) := by
  have h1 := Tm.size_put n b t
  have h2 := Tm.uses_le n t
  have h3 := Nat.mul_le_mul_right b.size h2
  rw [Nat.mul_add, Nat.mul_one]
  omega

end Go.Proofs.YtjomocjlnjgkeaaGreat

namespace Go.Proofs.YtjomocjlnjgkeaaGreat
open Go.RowKit

set_option maxHeartbeats 400000
set_option maxRecDepth 100000

end Go.Proofs.YtjomocjlnjgkeaaGreat
