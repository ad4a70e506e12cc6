/-
  No cell of these rows narrows 'for every input' (looked for: loops, veiled, ifaces, maps, wideKeys, modest, calm, conditions, laid).
  DERIVED. THE GIVEN ROWS OF THIS SEAT. 8 by the template 'for every input the law returns true; each argument reads behind the call as it read before'; 0 by the template 'total and deterministic' (their statements: YtjomocjlnjgkeaaTotals.lean).
  GIVEN WITH THE SEED: the statements are not yours to turn. If you find one false, say at which input.
  Laid BY PROGRAM, IN A SANDBOX (cutbox-rows.mjs): the forced cells as the released guide's own fill.sh prints them over the translation 600d4c80357d4c1d… (all of the seat's roots in one cut). By AI agents, Wed Nov 11 2026. No macro, syntax, notation, axiom, sorry.
-/
import Derived.Test.YtjomocjlnjgkeaaChecked
import GoSem.Claim
import GoSem.ClaimJoined
import GoSem.ClaimMapViews
import Derived.JoinedTies
import Derived.KernelRfl
namespace Go.Proofs.Ytjomocjlnjgkeaa
/- THE CELL 'sum', in the pinned program and in every row, IS THE sha256 OF THE DUMP (.gsa) THAT YtjomocjlnjgkeaaProg.lean LOADS. Nothing in Lean hashes anything: it is a label: what it is worth is what the hold of that sum in a sandbox is worth. -/
noncomputable def Try.pinned : Pinned := { name := "ytjomocjlnjgkeaa", sum := "600d4c80357d4c1d3ab0dc73571f84678e5454aa2fe37bf31fa3958961ed41b5", checked := Try.checked }
namespace Rows
def none {H : Type} : Left H := { results := [], args := [] }

/-- 'laws.FnExactTermClosed': WHATEVER THE INPUT: true; the input reads as it did. -/
def fnExactTermClosedSpec : ChangeSpec := { name := "fnExactTermClosed", fn := fun _ => fun
  | [d] => { results := [.lit (.bool true)], args := [d] }
  | _ => none }
def fnExactTermClosedRow : OpenClaim := { program := "ytjomocjlnjgkeaa", sum := "600d4c80357d4c1d3ab0dc73571f84678e5454aa2fe37bf31fa3958961ed41b5", func := "loop.example/realizers/laws.FnExactTermClosed", spec := "fnExactTermClosed", unfollowed := true, recurses := true, apart := false }
def FnExactTermClosedSaid : Prop := fnExactTermClosedRow.holds Try.pinned (OpenSpec.ofChange fnExactTermClosedSpec)

/-- ITS FALSE NEIGHBOUR: 'it returns false'. Refute it at one input. -/
def fnExactTermClosedWrong : ChangeSpec := { name := "fnExactTermClosed", fn := fun _ => fun
  | [d] => { results := [.lit (.bool false)], args := [d] }
  | _ => none }
def FnExactTermClosedWrongFalsely : Prop := fnExactTermClosedRow.holds Try.pinned (OpenSpec.ofChange fnExactTermClosedWrong)

/-- 'laws.FnExactDataOf': WHATEVER THE INPUT: true; the input reads as it did. -/
def fnExactDataOfSpec : ChangeSpec := { name := "fnExactDataOf", fn := fun _ => fun
  | [d] => { results := [.lit (.bool true)], args := [d] }
  | _ => none }
def fnExactDataOfRow : OpenClaim := { program := "ytjomocjlnjgkeaa", sum := "600d4c80357d4c1d3ab0dc73571f84678e5454aa2fe37bf31fa3958961ed41b5", func := "loop.example/realizers/laws.FnExactDataOf", spec := "fnExactDataOf", unfollowed := true, recurses := true, apart := false }
def FnExactDataOfSaid : Prop := fnExactDataOfRow.holds Try.pinned (OpenSpec.ofChange fnExactDataOfSpec)

/-- ITS FALSE NEIGHBOUR: 'it returns false'. Refute it at one input. -/
def fnExactDataOfWrong : ChangeSpec := { name := "fnExactDataOf", fn := fun _ => fun
  | [d] => { results := [.lit (.bool false)], args := [d] }
  | _ => none }
def FnExactDataOfWrongFalsely : Prop := fnExactDataOfRow.holds Try.pinned (OpenSpec.ofChange fnExactDataOfWrong)

/-- 'laws.FnClosed': WHATEVER THE INPUT: true; the input reads as it did. -/
def fnClosedSpec : ChangeSpec := { name := "fnClosed", fn := fun _ => fun
  | [d] => { results := [.lit (.bool true)], args := [d] }
  | _ => none }
def fnClosedRow : OpenClaim := { program := "ytjomocjlnjgkeaa", sum := "600d4c80357d4c1d3ab0dc73571f84678e5454aa2fe37bf31fa3958961ed41b5", func := "loop.example/realizers/laws.FnClosed", spec := "fnClosed", unfollowed := true, recurses := true, apart := false }
def FnClosedSaid : Prop := fnClosedRow.holds Try.pinned (OpenSpec.ofChange fnClosedSpec)

/-- ITS FALSE NEIGHBOUR: 'it returns false'. Refute it at one input. -/
def fnClosedWrong : ChangeSpec := { name := "fnClosed", fn := fun _ => fun
  | [d] => { results := [.lit (.bool false)], args := [d] }
  | _ => none }
def FnClosedWrongFalsely : Prop := fnClosedRow.holds Try.pinned (OpenSpec.ofChange fnClosedWrong)

/-- 'laws.FnData': WHATEVER THE INPUT: true; the input reads as it did. -/
def fnDataSpec : ChangeSpec := { name := "fnData", fn := fun _ => fun
  | [d] => { results := [.lit (.bool true)], args := [d] }
  | _ => none }
def fnDataRow : OpenClaim := { program := "ytjomocjlnjgkeaa", sum := "600d4c80357d4c1d3ab0dc73571f84678e5454aa2fe37bf31fa3958961ed41b5", func := "loop.example/realizers/laws.FnData", spec := "fnData", unfollowed := true, recurses := true, apart := false }
def FnDataSaid : Prop := fnDataRow.holds Try.pinned (OpenSpec.ofChange fnDataSpec)

/-- ITS FALSE NEIGHBOUR: 'it returns false'. Refute it at one input. -/
def fnDataWrong : ChangeSpec := { name := "fnData", fn := fun _ => fun
  | [d] => { results := [.lit (.bool false)], args := [d] }
  | _ => none }
def FnDataWrongFalsely : Prop := fnDataRow.holds Try.pinned (OpenSpec.ofChange fnDataWrong)

/-- 'laws.FnExactFunctionArity': WHATEVER THE INPUT: true; the input reads as it did. -/
def fnExactFunctionAritySpec : ChangeSpec := { name := "fnExactFunctionArity", fn := fun _ => fun
  | [d] => { results := [.lit (.bool true)], args := [d] }
  | _ => none }
def fnExactFunctionArityRow : OpenClaim := { program := "ytjomocjlnjgkeaa", sum := "600d4c80357d4c1d3ab0dc73571f84678e5454aa2fe37bf31fa3958961ed41b5", func := "loop.example/realizers/laws.FnExactFunctionArity", spec := "fnExactFunctionArity", inPlace := ["internal/bytealg.IndexByteString", "internal/bytealg.IndexString"], unfollowed := true, recurses := true, named := ["internal/bytealg.MaxLen"], apart := false }
def FnExactFunctionAritySaid : Prop := fnExactFunctionArityRow.holds Try.pinned (OpenSpec.ofChange fnExactFunctionAritySpec)

/-- ITS FALSE NEIGHBOUR: 'it returns false'. Refute it at one input. -/
def fnExactFunctionArityWrong : ChangeSpec := { name := "fnExactFunctionArity", fn := fun _ => fun
  | [d] => { results := [.lit (.bool false)], args := [d] }
  | _ => none }
def FnExactFunctionArityWrongFalsely : Prop := fnExactFunctionArityRow.holds Try.pinned (OpenSpec.ofChange fnExactFunctionArityWrong)

/-- 'laws.FnExactFunctionSize': WHATEVER THE INPUT: true; the input reads as it did. -/
def fnExactFunctionSizeSpec : ChangeSpec := { name := "fnExactFunctionSize", fn := fun _ => fun
  | [d] => { results := [.lit (.bool true)], args := [d] }
  | _ => none }
def fnExactFunctionSizeRow : OpenClaim := { program := "ytjomocjlnjgkeaa", sum := "600d4c80357d4c1d3ab0dc73571f84678e5454aa2fe37bf31fa3958961ed41b5", func := "loop.example/realizers/laws.FnExactFunctionSize", spec := "fnExactFunctionSize", inPlace := ["internal/bytealg.IndexByteString", "internal/bytealg.IndexString"], unfollowed := true, recurses := true, named := ["internal/bytealg.MaxLen"], apart := false }
def FnExactFunctionSizeSaid : Prop := fnExactFunctionSizeRow.holds Try.pinned (OpenSpec.ofChange fnExactFunctionSizeSpec)

/-- ITS FALSE NEIGHBOUR: 'it returns false'. Refute it at one input. -/
def fnExactFunctionSizeWrong : ChangeSpec := { name := "fnExactFunctionSize", fn := fun _ => fun
  | [d] => { results := [.lit (.bool false)], args := [d] }
  | _ => none }
def FnExactFunctionSizeWrongFalsely : Prop := fnExactFunctionSizeRow.holds Try.pinned (OpenSpec.ofChange fnExactFunctionSizeWrong)

/-- 'laws.FnExactFunctionTotal': WHATEVER THE INPUT: true; the input reads as it did. -/
def fnExactFunctionTotalSpec : ChangeSpec := { name := "fnExactFunctionTotal", fn := fun _ => fun
  | [d] => { results := [.lit (.bool true)], args := [d] }
  | _ => none }
def fnExactFunctionTotalRow : OpenClaim := { program := "ytjomocjlnjgkeaa", sum := "600d4c80357d4c1d3ab0dc73571f84678e5454aa2fe37bf31fa3958961ed41b5", func := "loop.example/realizers/laws.FnExactFunctionTotal", spec := "fnExactFunctionTotal", inPlace := ["internal/bytealg.IndexByteString", "internal/bytealg.IndexString"], unfollowed := true, recurses := true, named := ["internal/bytealg.MaxLen"], apart := false }
def FnExactFunctionTotalSaid : Prop := fnExactFunctionTotalRow.holds Try.pinned (OpenSpec.ofChange fnExactFunctionTotalSpec)

/-- ITS FALSE NEIGHBOUR: 'it returns false'. Refute it at one input. -/
def fnExactFunctionTotalWrong : ChangeSpec := { name := "fnExactFunctionTotal", fn := fun _ => fun
  | [d] => { results := [.lit (.bool false)], args := [d] }
  | _ => none }
def FnExactFunctionTotalWrongFalsely : Prop := fnExactFunctionTotalRow.holds Try.pinned (OpenSpec.ofChange fnExactFunctionTotalWrong)

/-- 'laws.FnExactFunctionValue': WHATEVER THE INPUT: true; the input reads as it did. -/
def fnExactFunctionValueSpec : ChangeSpec := { name := "fnExactFunctionValue", fn := fun _ => fun
  | [d1, d2] => { results := [.lit (.bool true)], args := [d1, d2] }
  | _ => none }
def fnExactFunctionValueRow : OpenClaim := { program := "ytjomocjlnjgkeaa", sum := "600d4c80357d4c1d3ab0dc73571f84678e5454aa2fe37bf31fa3958961ed41b5", func := "loop.example/realizers/laws.FnExactFunctionValue", spec := "fnExactFunctionValue", inPlace := ["internal/bytealg.IndexByteString", "internal/bytealg.IndexString"], unfollowed := true, recurses := true, named := ["internal/bytealg.MaxLen"], apart := false }
def FnExactFunctionValueSaid : Prop := fnExactFunctionValueRow.holds Try.pinned (OpenSpec.ofChange fnExactFunctionValueSpec)

/-- ITS FALSE NEIGHBOUR: 'it returns false'. Refute it at one input. -/
def fnExactFunctionValueWrong : ChangeSpec := { name := "fnExactFunctionValue", fn := fun _ => fun
  | [d1, d2] => { results := [.lit (.bool false)], args := [d1, d2] }
  | _ => none }
def FnExactFunctionValueWrongFalsely : Prop := fnExactFunctionValueRow.holds Try.pinned (OpenSpec.ofChange fnExactFunctionValueWrong)

/- THE SECOND FORM. 'bulk': how many values and letters a reading holds, each counted each time it is reached (what is shared counts as often as it is met; a slice's spare places count too). A statement '..UptoSaid' is the law's where the arguments, and the package variables that the reading takes, are together of bulk at most 1048576: NARROWER than '..Said'. Prove '..Said' where nothing that the law and all that it calls make is longer than what came in: it says more and counts as full. Else prove '..UptoSaid'. A law counts once. -/
mutual
def uptoBulk {H : Type} : DataW H → Nat
  | .lit (.string bytes) => bytes.length + 1
  | .lit _ => 1
  | .nil => 1
  | .ptr d => uptoBulk d + 1
  | .slice elems spare => uptoBulkAll elems + uptoBulkAll spare + 1
  | .agg parts => uptoBulkAll parts + 1
  | .iface _ d => uptoBulk d + 1
  | .map entries => uptoBulkEntries entries + 1
  | .held _ => 1
def uptoBulkAll {H : Type} : List (DataW H) → Nat
  | [] => 0
  | d :: r => uptoBulk d + uptoBulkAll r
def uptoBulkEntries {H : Type} : List (Lit × DataW H) → Nat
  | [] => 0
  | x :: r => uptoBulkEntry x + uptoBulkEntries r
def uptoBulkEntry {H : Type} : Lit × DataW H → Nat
  | (.string bytes, d) => bytes.length + uptoBulk d + 1
  | (_, d) => uptoBulk d + 1
 end
def uptoSmall : (H : Type) → List (DataW H) → Bool := fun _ ds => decide (uptoBulkAll ds ≤ 1048576)
def OpenSpec.upto (s : _root_.Go.ChangeSpec) : _root_.Go.OpenSpec := { _root_.Go.OpenSpec.ofChange s with cond := some uptoSmall }

/-- 'laws.FnExactTermClosed', WHERE WHAT IT READS IS OF BULK AT MOST 1048576: true; the input reads as it did. -/
def fnExactTermClosedUptoRow : OpenClaim := { program := "ytjomocjlnjgkeaa", sum := "600d4c80357d4c1d3ab0dc73571f84678e5454aa2fe37bf31fa3958961ed41b5", func := "loop.example/realizers/laws.FnExactTermClosed", spec := "fnExactTermClosed", unfollowed := true, recurses := true, apart := false, narrowed := true }
def FnExactTermClosedUptoSaid : Prop := fnExactTermClosedUptoRow.holds Try.pinned (OpenSpec.upto fnExactTermClosedSpec)

/-- 'laws.FnExactDataOf', WHERE WHAT IT READS IS OF BULK AT MOST 1048576: true; the input reads as it did. -/
def fnExactDataOfUptoRow : OpenClaim := { program := "ytjomocjlnjgkeaa", sum := "600d4c80357d4c1d3ab0dc73571f84678e5454aa2fe37bf31fa3958961ed41b5", func := "loop.example/realizers/laws.FnExactDataOf", spec := "fnExactDataOf", unfollowed := true, recurses := true, apart := false, narrowed := true }
def FnExactDataOfUptoSaid : Prop := fnExactDataOfUptoRow.holds Try.pinned (OpenSpec.upto fnExactDataOfSpec)

/-- 'laws.FnClosed', WHERE WHAT IT READS IS OF BULK AT MOST 1048576: true; the input reads as it did. -/
def fnClosedUptoRow : OpenClaim := { program := "ytjomocjlnjgkeaa", sum := "600d4c80357d4c1d3ab0dc73571f84678e5454aa2fe37bf31fa3958961ed41b5", func := "loop.example/realizers/laws.FnClosed", spec := "fnClosed", unfollowed := true, recurses := true, apart := false, narrowed := true }
def FnClosedUptoSaid : Prop := fnClosedUptoRow.holds Try.pinned (OpenSpec.upto fnClosedSpec)

/-- 'laws.FnData', WHERE WHAT IT READS IS OF BULK AT MOST 1048576: true; the input reads as it did. -/
def fnDataUptoRow : OpenClaim := { program := "ytjomocjlnjgkeaa", sum := "600d4c80357d4c1d3ab0dc73571f84678e5454aa2fe37bf31fa3958961ed41b5", func := "loop.example/realizers/laws.FnData", spec := "fnData", unfollowed := true, recurses := true, apart := false, narrowed := true }
def FnDataUptoSaid : Prop := fnDataUptoRow.holds Try.pinned (OpenSpec.upto fnDataSpec)

/-- 'laws.FnExactFunctionArity', WHERE WHAT IT READS IS OF BULK AT MOST 1048576: true; the input reads as it did. -/
def fnExactFunctionArityUptoRow : OpenClaim := { program := "ytjomocjlnjgkeaa", sum := "600d4c80357d4c1d3ab0dc73571f84678e5454aa2fe37bf31fa3958961ed41b5", func := "loop.example/realizers/laws.FnExactFunctionArity", spec := "fnExactFunctionArity", inPlace := ["internal/bytealg.IndexByteString", "internal/bytealg.IndexString"], unfollowed := true, recurses := true, named := ["internal/bytealg.MaxLen"], apart := false, narrowed := true }
def FnExactFunctionArityUptoSaid : Prop := fnExactFunctionArityUptoRow.holds Try.pinned (OpenSpec.upto fnExactFunctionAritySpec)

/-- 'laws.FnExactFunctionSize', WHERE WHAT IT READS IS OF BULK AT MOST 1048576: true; the input reads as it did. -/
def fnExactFunctionSizeUptoRow : OpenClaim := { program := "ytjomocjlnjgkeaa", sum := "600d4c80357d4c1d3ab0dc73571f84678e5454aa2fe37bf31fa3958961ed41b5", func := "loop.example/realizers/laws.FnExactFunctionSize", spec := "fnExactFunctionSize", inPlace := ["internal/bytealg.IndexByteString", "internal/bytealg.IndexString"], unfollowed := true, recurses := true, named := ["internal/bytealg.MaxLen"], apart := false, narrowed := true }
def FnExactFunctionSizeUptoSaid : Prop := fnExactFunctionSizeUptoRow.holds Try.pinned (OpenSpec.upto fnExactFunctionSizeSpec)

/-- 'laws.FnExactFunctionTotal', WHERE WHAT IT READS IS OF BULK AT MOST 1048576: true; the input reads as it did. -/
def fnExactFunctionTotalUptoRow : OpenClaim := { program := "ytjomocjlnjgkeaa", sum := "600d4c80357d4c1d3ab0dc73571f84678e5454aa2fe37bf31fa3958961ed41b5", func := "loop.example/realizers/laws.FnExactFunctionTotal", spec := "fnExactFunctionTotal", inPlace := ["internal/bytealg.IndexByteString", "internal/bytealg.IndexString"], unfollowed := true, recurses := true, named := ["internal/bytealg.MaxLen"], apart := false, narrowed := true }
def FnExactFunctionTotalUptoSaid : Prop := fnExactFunctionTotalUptoRow.holds Try.pinned (OpenSpec.upto fnExactFunctionTotalSpec)

/-- 'laws.FnExactFunctionValue', WHERE WHAT IT READS IS OF BULK AT MOST 1048576: true; the input reads as it did. -/
def fnExactFunctionValueUptoRow : OpenClaim := { program := "ytjomocjlnjgkeaa", sum := "600d4c80357d4c1d3ab0dc73571f84678e5454aa2fe37bf31fa3958961ed41b5", func := "loop.example/realizers/laws.FnExactFunctionValue", spec := "fnExactFunctionValue", inPlace := ["internal/bytealg.IndexByteString", "internal/bytealg.IndexString"], unfollowed := true, recurses := true, named := ["internal/bytealg.MaxLen"], apart := false, narrowed := true }
def FnExactFunctionValueUptoSaid : Prop := fnExactFunctionValueUptoRow.holds Try.pinned (OpenSpec.upto fnExactFunctionValueSpec)

end Rows
end Go.Proofs.Ytjomocjlnjgkeaa
