/-
  FnTotal: Function texts without m have parts without m. For every code the law returns true. No condition.
-/
import Derived.Test.YtfjohagdlaiapaaGreatPkA
import Derived.Test.YtfjohagdlaiapaaGreatPromU
import Derived.ChangeSlices
namespace Go.Proofs.YtfjohagdlaiapaaGreat
open Go.ChangeShapes Go.WideShapes Go.ChangeAt Go.RowKit

end Go.Proofs.YtfjohagdlaiapaaGreat
