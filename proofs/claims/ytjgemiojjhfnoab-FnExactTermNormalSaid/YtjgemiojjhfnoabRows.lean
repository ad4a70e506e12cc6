/-
  No cell of these rows narrows 'for every input' (looked for: loops, veiled, ifaces, maps, wideKeys, modest, calm, conditions, laid).
  DERIVED. THE GIVEN ROWS OF THIS SEAT. 6 by the template 'for every input the law returns true; each argument reads behind the call as it read before'; 0 by the template 'total and deterministic' (their statements: YtjgemiojjhfnoabTotals.lean).
  GIVEN WITH THE SEED: the statements are not yours to turn. If you find one false, say at which input.
  Laid BY PROGRAM, IN A SANDBOX (cutbox-rows.mjs): the forced cells as the released guide's own fill.sh prints them over the translation 3a4bf09c1a648b90… (all of the seat's roots in one cut). By AI agents, Wed Nov 11 2026. No macro, syntax, notation, axiom, sorry.
-/
import Derived.Test.YtjgemiojjhfnoabChecked
import GoSem.Claim
import GoSem.ClaimJoined
import GoSem.ClaimMapViews
import Derived.JoinedTies
import Derived.KernelRfl
namespace Go.Proofs.Ytjgemiojjhfnoab
/- THE CELL 'sum', in the pinned program and in every row, IS THE sha256 OF THE DUMP (.gsa) THAT YtjgemiojjhfnoabProg.lean LOADS. Nothing in Lean hashes anything: it is a label: what it is worth is what the hold of that sum in a sandbox is worth. -/
noncomputable def Try.pinned : Pinned := { name := "ytjgemiojjhfnoab", sum := "3a4bf09c1a648b9036714de02defbce8fc15b0f376750a78b9b7b2732e91529b", checked := Try.checked }
namespace Rows
def none {H : Type} : Left H := { results := [], args := [] }

/-- 'laws.FnExactStepMany': WHATEVER THE INPUT: true; the input reads as it did. -/
def fnExactStepManySpec : ChangeSpec := { name := "fnExactStepMany", fn := fun _ => fun
  | [d1, d2] => { results := [.lit (.bool true)], args := [d1, d2] }
  | _ => none }
def fnExactStepManyRow : OpenClaim := { program := "ytjgemiojjhfnoab", sum := "3a4bf09c1a648b9036714de02defbce8fc15b0f376750a78b9b7b2732e91529b", func := "loop.example/realizers/laws.FnExactStepMany", spec := "fnExactStepMany", unfollowed := true, recurses := true, apart := false }
def FnExactStepManySaid : Prop := fnExactStepManyRow.holds Try.pinned (OpenSpec.ofChange fnExactStepManySpec)

/-- ITS FALSE NEIGHBOUR: 'it returns false'. Refute it at one input. -/
def fnExactStepManyWrong : ChangeSpec := { name := "fnExactStepMany", fn := fun _ => fun
  | [d1, d2] => { results := [.lit (.bool false)], args := [d1, d2] }
  | _ => none }
def FnExactStepManyWrongFalsely : Prop := fnExactStepManyRow.holds Try.pinned (OpenSpec.ofChange fnExactStepManyWrong)

/-- 'laws.FnExactTermNormal': WHATEVER THE INPUT: true; the input reads as it did. -/
def fnExactTermNormalSpec : ChangeSpec := { name := "fnExactTermNormal", fn := fun _ => fun
  | [d] => { results := [.lit (.bool true)], args := [d] }
  | _ => none }
def fnExactTermNormalRow : OpenClaim := { program := "ytjgemiojjhfnoab", sum := "3a4bf09c1a648b9036714de02defbce8fc15b0f376750a78b9b7b2732e91529b", func := "loop.example/realizers/laws.FnExactTermNormal", spec := "fnExactTermNormal", unfollowed := true, recurses := true, apart := false }
def FnExactTermNormalSaid : Prop := fnExactTermNormalRow.holds Try.pinned (OpenSpec.ofChange fnExactTermNormalSpec)

/-- ITS FALSE NEIGHBOUR: 'it returns false'. Refute it at one input. -/
def fnExactTermNormalWrong : ChangeSpec := { name := "fnExactTermNormal", fn := fun _ => fun
  | [d] => { results := [.lit (.bool false)], args := [d] }
  | _ => none }
def FnExactTermNormalWrongFalsely : Prop := fnExactTermNormalRow.holds Try.pinned (OpenSpec.ofChange fnExactTermNormalWrong)

/-- 'laws.FnExactNormalOf': WHATEVER THE INPUT: true; the input reads as it did. -/
def fnExactNormalOfSpec : ChangeSpec := { name := "fnExactNormalOf", fn := fun _ => fun
  | [d] => { results := [.lit (.bool true)], args := [d] }
  | _ => none }
def fnExactNormalOfRow : OpenClaim := { program := "ytjgemiojjhfnoab", sum := "3a4bf09c1a648b9036714de02defbce8fc15b0f376750a78b9b7b2732e91529b", func := "loop.example/realizers/laws.FnExactNormalOf", spec := "fnExactNormalOf", unfollowed := true, recurses := true, apart := false }
def FnExactNormalOfSaid : Prop := fnExactNormalOfRow.holds Try.pinned (OpenSpec.ofChange fnExactNormalOfSpec)

/-- ITS FALSE NEIGHBOUR: 'it returns false'. Refute it at one input. -/
def fnExactNormalOfWrong : ChangeSpec := { name := "fnExactNormalOf", fn := fun _ => fun
  | [d] => { results := [.lit (.bool false)], args := [d] }
  | _ => none }
def FnExactNormalOfWrongFalsely : Prop := fnExactNormalOfRow.holds Try.pinned (OpenSpec.ofChange fnExactNormalOfWrong)

/-- 'laws.FnExactApplyOf': WHATEVER THE INPUT: true; the input reads as it did. -/
def fnExactApplyOfSpec : ChangeSpec := { name := "fnExactApplyOf", fn := fun _ => fun
  | [d1, d2] => { results := [.lit (.bool true)], args := [d1, d2] }
  | _ => none }
def fnExactApplyOfRow : OpenClaim := { program := "ytjgemiojjhfnoab", sum := "3a4bf09c1a648b9036714de02defbce8fc15b0f376750a78b9b7b2732e91529b", func := "loop.example/realizers/laws.FnExactApplyOf", spec := "fnExactApplyOf", unfollowed := true, recurses := true, apart := false }
def FnExactApplyOfSaid : Prop := fnExactApplyOfRow.holds Try.pinned (OpenSpec.ofChange fnExactApplyOfSpec)

/-- ITS FALSE NEIGHBOUR: 'it returns false'. Refute it at one input. -/
def fnExactApplyOfWrong : ChangeSpec := { name := "fnExactApplyOf", fn := fun _ => fun
  | [d1, d2] => { results := [.lit (.bool false)], args := [d1, d2] }
  | _ => none }
def FnExactApplyOfWrongFalsely : Prop := fnExactApplyOfRow.holds Try.pinned (OpenSpec.ofChange fnExactApplyOfWrong)

/-- 'laws.FnExactTermEqual': WHATEVER THE INPUT: true; the input reads as it did. -/
def fnExactTermEqualSpec : ChangeSpec := { name := "fnExactTermEqual", fn := fun _ => fun
  | [d1, d2] => { results := [.lit (.bool true)], args := [d1, d2] }
  | _ => none }
def fnExactTermEqualRow : OpenClaim := { program := "ytjgemiojjhfnoab", sum := "3a4bf09c1a648b9036714de02defbce8fc15b0f376750a78b9b7b2732e91529b", func := "loop.example/realizers/laws.FnExactTermEqual", spec := "fnExactTermEqual", unfollowed := true, recurses := true, apart := false }
def FnExactTermEqualSaid : Prop := fnExactTermEqualRow.holds Try.pinned (OpenSpec.ofChange fnExactTermEqualSpec)

/-- ITS FALSE NEIGHBOUR: 'it returns false'. Refute it at one input. -/
def fnExactTermEqualWrong : ChangeSpec := { name := "fnExactTermEqual", fn := fun _ => fun
  | [d1, d2] => { results := [.lit (.bool false)], args := [d1, d2] }
  | _ => none }
def FnExactTermEqualWrongFalsely : Prop := fnExactTermEqualRow.holds Try.pinned (OpenSpec.ofChange fnExactTermEqualWrong)

/-- 'laws.FnExactBitRead': WHATEVER THE INPUT: true; the input reads as it did. -/
def fnExactBitReadSpec : ChangeSpec := { name := "fnExactBitRead", fn := fun _ => fun
  | [d] => { results := [.lit (.bool true)], args := [d] }
  | _ => none }
def fnExactBitReadRow : OpenClaim := { program := "ytjgemiojjhfnoab", sum := "3a4bf09c1a648b9036714de02defbce8fc15b0f376750a78b9b7b2732e91529b", func := "loop.example/realizers/laws.FnExactBitRead", spec := "fnExactBitRead", unfollowed := true, recurses := true, apart := false }
def FnExactBitReadSaid : Prop := fnExactBitReadRow.holds Try.pinned (OpenSpec.ofChange fnExactBitReadSpec)

/-- ITS FALSE NEIGHBOUR: 'it returns false'. Refute it at one input. -/
def fnExactBitReadWrong : ChangeSpec := { name := "fnExactBitRead", fn := fun _ => fun
  | [d] => { results := [.lit (.bool false)], args := [d] }
  | _ => none }
def FnExactBitReadWrongFalsely : Prop := fnExactBitReadRow.holds Try.pinned (OpenSpec.ofChange fnExactBitReadWrong)

/- THE SECOND FORM. 'bulk': how many values and letters a reading holds, each counted each time it is reached (what is shared counts as often as it is met; a slice's spare places count too). A statement '..UptoSaid' is the law's where the arguments, and the package variables that the reading takes, are together of bulk at most 1048576: NARROWER than '..Said'. Prove '..Said' where nothing that the law and all that it calls make is longer than what came in: it says more and counts as full. Else prove '..UptoSaid'. A law counts once. -/
mutual
def uptoBulk {H : Type} : DataW H → Nat
  | .lit (.string bytes) => bytes.length + 1
  | .lit _ => 1
  | .nil => 1
  | .ptr d => uptoBulk d + 1
  | .slice elems spare => uptoBulkAll elems + uptoBulkAll spare + 1
  | .agg parts => uptoBulkAll parts + 1
  | .iface _ d => uptoBulk d + 1
  | .map entries => uptoBulkEntries entries + 1
  | .held _ => 1
def uptoBulkAll {H : Type} : List (DataW H) → Nat
  | [] => 0
  | d :: r => uptoBulk d + uptoBulkAll r
def uptoBulkEntries {H : Type} : List (Lit × DataW H) → Nat
  | [] => 0
  | x :: r => uptoBulkEntry x + uptoBulkEntries r
def uptoBulkEntry {H : Type} : Lit × DataW H → Nat
  | (.string bytes, d) => bytes.length + uptoBulk d + 1
  | (_, d) => uptoBulk d + 1
 end
def uptoSmall : (H : Type) → List (DataW H) → Bool := fun _ ds => decide (uptoBulkAll ds ≤ 1048576)
def OpenSpec.upto (s : _root_.Go.ChangeSpec) : _root_.Go.OpenSpec := { _root_.Go.OpenSpec.ofChange s with cond := some uptoSmall }

/-- 'laws.FnExactStepMany', WHERE WHAT IT READS IS OF BULK AT MOST 1048576: true; the input reads as it did. -/
def fnExactStepManyUptoRow : OpenClaim := { program := "ytjgemiojjhfnoab", sum := "3a4bf09c1a648b9036714de02defbce8fc15b0f376750a78b9b7b2732e91529b", func := "loop.example/realizers/laws.FnExactStepMany", spec := "fnExactStepMany", unfollowed := true, recurses := true, apart := false, narrowed := true }
def FnExactStepManyUptoSaid : Prop := fnExactStepManyUptoRow.holds Try.pinned (OpenSpec.upto fnExactStepManySpec)

/-- 'laws.FnExactTermNormal', WHERE WHAT IT READS IS OF BULK AT MOST 1048576: true; the input reads as it did. -/
def fnExactTermNormalUptoRow : OpenClaim := { program := "ytjgemiojjhfnoab", sum := "3a4bf09c1a648b9036714de02defbce8fc15b0f376750a78b9b7b2732e91529b", func := "loop.example/realizers/laws.FnExactTermNormal", spec := "fnExactTermNormal", unfollowed := true, recurses := true, apart := false, narrowed := true }
def FnExactTermNormalUptoSaid : Prop := fnExactTermNormalUptoRow.holds Try.pinned (OpenSpec.upto fnExactTermNormalSpec)

/-- 'laws.FnExactNormalOf', WHERE WHAT IT READS IS OF BULK AT MOST 1048576: true; the input reads as it did. -/
def fnExactNormalOfUptoRow : OpenClaim := { program := "ytjgemiojjhfnoab", sum := "3a4bf09c1a648b9036714de02defbce8fc15b0f376750a78b9b7b2732e91529b", func := "loop.example/realizers/laws.FnExactNormalOf", spec := "fnExactNormalOf", unfollowed := true, recurses := true, apart := false, narrowed := true }
def FnExactNormalOfUptoSaid : Prop := fnExactNormalOfUptoRow.holds Try.pinned (OpenSpec.upto fnExactNormalOfSpec)

/-- 'laws.FnExactApplyOf', WHERE WHAT IT READS IS OF BULK AT MOST 1048576: true; the input reads as it did. -/
def fnExactApplyOfUptoRow : OpenClaim := { program := "ytjgemiojjhfnoab", sum := "3a4bf09c1a648b9036714de02defbce8fc15b0f376750a78b9b7b2732e91529b", func := "loop.example/realizers/laws.FnExactApplyOf", spec := "fnExactApplyOf", unfollowed := true, recurses := true, apart := false, narrowed := true }
def FnExactApplyOfUptoSaid : Prop := fnExactApplyOfUptoRow.holds Try.pinned (OpenSpec.upto fnExactApplyOfSpec)

/-- 'laws.FnExactTermEqual', WHERE WHAT IT READS IS OF BULK AT MOST 1048576: true; the input reads as it did. -/
def fnExactTermEqualUptoRow : OpenClaim := { program := "ytjgemiojjhfnoab", sum := "3a4bf09c1a648b9036714de02defbce8fc15b0f376750a78b9b7b2732e91529b", func := "loop.example/realizers/laws.FnExactTermEqual", spec := "fnExactTermEqual", unfollowed := true, recurses := true, apart := false, narrowed := true }
def FnExactTermEqualUptoSaid : Prop := fnExactTermEqualUptoRow.holds Try.pinned (OpenSpec.upto fnExactTermEqualSpec)

/-- 'laws.FnExactBitRead', WHERE WHAT IT READS IS OF BULK AT MOST 1048576: true; the input reads as it did. -/
def fnExactBitReadUptoRow : OpenClaim := { program := "ytjgemiojjhfnoab", sum := "3a4bf09c1a648b9036714de02defbce8fc15b0f376750a78b9b7b2732e91529b", func := "loop.example/realizers/laws.FnExactBitRead", spec := "fnExactBitRead", unfollowed := true, recurses := true, apart := false, narrowed := true }
def FnExactBitReadUptoSaid : Prop := fnExactBitReadUptoRow.holds Try.pinned (OpenSpec.upto fnExactBitReadSpec)

end Rows
end Go.Proofs.Ytjgemiojjhfnoab
