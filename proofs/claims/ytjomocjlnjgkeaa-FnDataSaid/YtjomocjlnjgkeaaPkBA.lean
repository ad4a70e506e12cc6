/-
  PairOf of the program.
-/
import Derived.Test.YtjomocjlnjgkeaaPkAN
import Derived.Test.YtjomocjlnjgkeaaPkAT
import Derived.Test.YtjomocjlnjgkeaaPkAZ
import Derived.Test.YtjomocjlnjgkeaaPkAK
namespace Go.Proofs.Ytjomocjlnjgkeaa
open Go.RowKit

set_option maxHeartbeats 400000
set_option maxRecDepth 100000

/-- What PairOf answers. -/
def pPair (l m : List UInt8) : Option (List UInt8) := match Tm.parse l, Tm.parse m with
  | some t, some u => if (Tm.pair t u).fits = true then some (Tm.pair t u).text else none
  | _, _ => none

end Go.Proofs.Ytjomocjlnjgkeaa

namespace Go.Proofs.Ytjomocjlnjgkeaa
open Go.RowKit

set_option maxHeartbeats 2000000
set_option maxRecDepth 100000

theorem heap_newD (w : World) (o : Obj) : ((w.alloc o).drew).heap[w.heap.size]? = some o := heap_new' w o
theorem heap_old2D (w : World) (o p : Obj) : (((w.alloc o).alloc p).drew).heap[w.heap.size]? = some o := heap_old2 w o p
theorem heap_new2D (w : World) (o p : Obj) : (((w.alloc o).alloc p).drew).heap[w.heap.size + 1]? = some p := heap_new2 w _ o p rfl

theorem after_sets2 {X W : World} {G : Nat} {o : Obj} (h : After X W) (_hG : W.heap[G]? = some o) (hle : X.heap.size ≤ G) (u u' : Value) : After X ((W.setCell ⟨G, 0, none⟩ u).setCell ⟨G, 1, none⟩ u') :=
  Below.setCell (p := ⟨G, 1, none⟩) (Below.setCell (p := ⟨G, 0, none⟩) h hle _) hle _

end Go.Proofs.Ytjomocjlnjgkeaa
