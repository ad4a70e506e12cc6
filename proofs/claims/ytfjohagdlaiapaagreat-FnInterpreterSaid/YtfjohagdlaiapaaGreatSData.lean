/-
  The model's fixed point combinator and its closed terms of words: l2Fix, l2Data; DataOf.
-/
import Derived.Test.YtfjohagdlaiapaaGreatPkR
import Derived.Test.YtfjohagdlaiapaaGreatPkB
namespace Go.Proofs.YtfjohagdlaiapaaGreat
open Go.RowKit

set_option maxHeartbeats 4000000
set_option maxRecDepth 100000

def SDataPost (w : World) (r : Option Tm) (e : Ending) (w' : World) : Prop :=
  ∃ s ao n c, e = .returned (.tuple #[.agg #[str s, .slice ao n c], .bool r.isSome]) ∧ After w w' ∧ ∀ t, r = some t → ST w' t (.agg #[str s, .slice ao n c])

end Go.Proofs.YtfjohagdlaiapaaGreat
