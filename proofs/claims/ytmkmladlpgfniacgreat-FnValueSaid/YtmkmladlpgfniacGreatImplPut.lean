/-
  The program's exported function TermPut against the plain mathematics.
-/
import Derived.Test.YtmkmladlpgfniacGreatPkG
import Derived.Test.YtmkmladlpgfniacGreatPut
import Derived.Test.YtmkmladlpgfniacGreatBoth
namespace Go.Proofs.YtmkmladlpgfniacGreat
open Go.RowKit

set_option maxHeartbeats 400000
set_option maxRecDepth 100000

end Go.Proofs.YtmkmladlpgfniacGreat
