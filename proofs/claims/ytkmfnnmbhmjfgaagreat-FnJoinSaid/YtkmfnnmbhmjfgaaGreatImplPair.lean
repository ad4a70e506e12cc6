/-
  PairOf of the program.
-/
import Derived.Test.YtkmfnnmbhmjfgaaGreatPkA
import Derived.Test.YtkmfnnmbhmjfgaaGreatPkU
namespace Go.Proofs.YtkmfnnmbhmjfgaaGreat
open Go.RowKit

set_option maxHeartbeats 400000
set_option maxRecDepth 100000

/-- What PairOf answers. -/
def pPair (l m : List UInt8) : Option (List UInt8) := match Tm.parse l, Tm.parse m with
  | some t, some u => if (Tm.pair t u).fits = true then some (Tm.pair t u).text else none
  | _, _ => none

end Go.Proofs.YtkmfnnmbhmjfgaaGreat
