/-
  From the walk of a law over one text to its row.
-/
import Derived.Test.YtmkmladlpgfniaaRows
import Derived.Test.YtmkmladlpgfniaaPkTree
import Derived.ProofKit
import Derived.WalkKit
namespace Go.Proofs.Ytmkmladlpgfniaa
open Go.ChangeShapes Go.WideShapes Go.ChangeAt Go.RowKit
open Go.ChangeMaps (open_string shut_string)

theorem own_knob : ownKnob Try.prog.godebug = none := by kernel_rfl

theorem ba_list (s : ByteArray) : Value.string s = str s.data.toList := by
  show Value.string s = Value.string ⟨s.data.toList.toArray⟩
  cases s
  simp
end Go.Proofs.Ytmkmladlpgfniaa
