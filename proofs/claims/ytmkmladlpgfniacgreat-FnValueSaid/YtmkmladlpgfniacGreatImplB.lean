/-
  The program's exported functions StepMany, TermNormal, NormalOf against the plain mathematics.
-/
import Derived.Test.YtmkmladlpgfniacGreatMany
import Derived.Test.YtmkmladlpgfniacGreatPkA
import Derived.Test.YtmkmladlpgfniacGreatBoth
namespace Go.Proofs.YtmkmladlpgfniacGreat
open Go.RowKit

set_option maxHeartbeats 400000
set_option maxRecDepth 100000

theorem normal_none (t : Tm) : t.normal = t.step.isNone := by
  rw [Bool.eq_iff_iff, normal_step, Option.isNone_iff_eq_none]

theorem norm_eq (t : Tm) : t.norm = if (t.many 6000).1.normal = true then some (t.many 6000) else none := by
  unfold Tm.norm
  simp only [normal_step]

/-- A text and a number handed back, or nothing. -/
def NumRes (w : World) (r : Option (List UInt8 × Nat)) (e : Ending) (w' : World) : Prop :=
  e = .returned (.tuple #[str ((r.map Prod.fst).getD []), .int .i64 (((r.map Prod.snd).getD 0 : Nat) : Int), .bool r.isSome]) ∧ Below w.heap.size w w'

end Go.Proofs.YtmkmladlpgfniacGreat
