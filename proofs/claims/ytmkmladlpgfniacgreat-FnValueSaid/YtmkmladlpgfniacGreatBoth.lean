/-
  Two texts read one after the other: readBoth.
-/
import Derived.Test.YtmkmladlpgfniacGreatPkB
namespace Go.Proofs.YtmkmladlpgfniacGreat
open Go.RowKit

set_option maxHeartbeats 400000
set_option maxRecDepth 100000

def BothPost (w : World) (B : Nat) (l m : List UInt8) (e : Ending) (w' : World) : Prop :=
  ∃ v1 v2, e = .returned (.tuple #[v1, v2, .bool ((Tm.parse l).isSome && (Tm.parse m).isSome)]) ∧ Below w.heap.size w w' ∧ ∀ t u, Tm.parse l = some t → Tm.parse m = some u → TV w' B t v1 ∧ TV w' B u v2

end Go.Proofs.YtmkmladlpgfniacGreat
