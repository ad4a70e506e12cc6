/-
  The model's exported functions: TermValid, TermSize, TermClosed.
-/
import Derived.Test.YtjomocjlnjgkeaaPkAK
import Derived.Test.YtjomocjlnjgkeaaPkAV
namespace Go.Proofs.Ytjomocjlnjgkeaa
open Go.RowKit

set_option maxHeartbeats 1000000
set_option maxRecDepth 100000

end Go.Proofs.Ytjomocjlnjgkeaa

namespace Go.Proofs.Ytjomocjlnjgkeaa
open Go.RowKit

set_option maxHeartbeats 1000000
set_option maxRecDepth 100000

theorem str_size (l : List UInt8) : (⟨l.toArray⟩ : ByteArray).size = l.length := by show l.toArray.size = _; simp

end Go.Proofs.Ytjomocjlnjgkeaa
