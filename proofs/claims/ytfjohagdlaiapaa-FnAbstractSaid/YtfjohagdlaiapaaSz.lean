/-
  What the laws do with a list of texts of an argument: szStringS, eqStringS.
-/
import Derived.Test.YtfjohagdlaiapaaToS
import Derived.Deep.QuietTactic
namespace Go.Proofs.Ytfjohagdlaiapaa
open Go.RowKit

set_option maxHeartbeats 1000000
set_option maxRecDepth 100000

theorem str_sizeZ (l : List UInt8) : (⟨l.toArray⟩ : ByteArray).size = l.length := rfl

end Go.Proofs.Ytfjohagdlaiapaa
