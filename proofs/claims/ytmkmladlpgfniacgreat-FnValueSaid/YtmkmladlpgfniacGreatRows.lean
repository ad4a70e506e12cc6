/-
  No cell of these rows narrows 'for every input' (looked for: loops, veiled, ifaces, maps, wideKeys, modest, calm, conditions, laid).
  DERIVED. THE GIVEN ROWS OF THIS SEAT. 6 by the template 'for every input the law returns true; each argument reads behind the call as it read before'; 0 by the template 'total and deterministic' (their statements: YtmkmladlpgfniacGreatTotals.lean).
  GIVEN WITH THE SEED: the statements are not yours to turn. If you find one false, say at which input.
  Laid BY PROGRAM, IN A SANDBOX (cutbox-rows.mjs): the forced cells as the released guide's own fill.sh prints them over the translation 28afba216d3d08fb… (all of the seat's roots in one cut). By AI agents, Wed Nov 11 2026. No macro, syntax, notation, axiom, sorry.
-/
import Derived.Test.YtmkmladlpgfniacGreatChecked
import GoSem.Claim
import GoSem.ClaimJoined
import GoSem.ClaimMapViews
import Derived.JoinedTies
import Derived.KernelRfl
namespace Go.Proofs.YtmkmladlpgfniacGreat
/- THE CELL 'sum', in the pinned program and in every row, IS THE sha256 OF THE DUMP (.gsa) THAT YtmkmladlpgfniacGreatProg.lean LOADS. Nothing in Lean hashes anything: it is a label: what it is worth is what the hold of that sum in a sandbox is worth. -/
noncomputable def Tryz.pinned : Pinned := { name := "ytmkmladlpgfniacgreat", sum := "28afba216d3d08fb5fe7d3285c1f1da06b31156b89a6febceffcb5a8cd01ea98", checked := Tryz.checked }
namespace Rows
def none {H : Type} : Left H := { results := [], args := [] }

/-- 'laws.FnExactFunctionRun': WHATEVER THE INPUT: true; the input reads as it did. -/
def fnExactFunctionRunSpec : ChangeSpec := { name := "fnExactFunctionRun", fn := fun _ => fun
  | [d1, d2] => { results := [.lit (.bool true)], args := [d1, d2] }
  | _ => none }
def fnExactFunctionRunRow : OpenClaim := { program := "ytmkmladlpgfniacgreat", sum := "28afba216d3d08fb5fe7d3285c1f1da06b31156b89a6febceffcb5a8cd01ea98", func := "loop.example/realizers/laws.FnExactFunctionRun", spec := "fnExactFunctionRun", inPlace := ["internal/bytealg.IndexByteString", "internal/bytealg.IndexString"], unfollowed := true, recurses := true, named := ["internal/bytealg.MaxLen"], apart := false }
def FnExactFunctionRunSaid : Prop := fnExactFunctionRunRow.holds Tryz.pinned (OpenSpec.ofChange fnExactFunctionRunSpec)

/-- ITS FALSE NEIGHBOUR: 'it returns false'. Refute it at one input. -/
def fnExactFunctionRunWrong : ChangeSpec := { name := "fnExactFunctionRun", fn := fun _ => fun
  | [d1, d2] => { results := [.lit (.bool false)], args := [d1, d2] }
  | _ => none }
def FnExactFunctionRunWrongFalsely : Prop := fnExactFunctionRunRow.holds Tryz.pinned (OpenSpec.ofChange fnExactFunctionRunWrong)

/-- 'laws.FnArity': WHATEVER THE INPUT: true; the input reads as it did. -/
def fnAritySpec : ChangeSpec := { name := "fnArity", fn := fun _ => fun
  | [d] => { results := [.lit (.bool true)], args := [d] }
  | _ => none }
def fnArityRow : OpenClaim := { program := "ytmkmladlpgfniacgreat", sum := "28afba216d3d08fb5fe7d3285c1f1da06b31156b89a6febceffcb5a8cd01ea98", func := "loop.example/realizers/laws.FnArity", spec := "fnArity", inPlace := ["internal/bytealg.IndexByteString", "internal/bytealg.IndexString"], unfollowed := true, recurses := true, named := ["internal/bytealg.MaxLen"], apart := false }
def FnAritySaid : Prop := fnArityRow.holds Tryz.pinned (OpenSpec.ofChange fnAritySpec)

/-- ITS FALSE NEIGHBOUR: 'it returns false'. Refute it at one input. -/
def fnArityWrong : ChangeSpec := { name := "fnArity", fn := fun _ => fun
  | [d] => { results := [.lit (.bool false)], args := [d] }
  | _ => none }
def FnArityWrongFalsely : Prop := fnArityRow.holds Tryz.pinned (OpenSpec.ofChange fnArityWrong)

/-- 'laws.FnValue': WHATEVER THE INPUT: true; the input reads as it did. -/
def fnValueSpec : ChangeSpec := { name := "fnValue", fn := fun _ => fun
  | [d] => { results := [.lit (.bool true)], args := [d] }
  | _ => none }
def fnValueRow : OpenClaim := { program := "ytmkmladlpgfniacgreat", sum := "28afba216d3d08fb5fe7d3285c1f1da06b31156b89a6febceffcb5a8cd01ea98", func := "loop.example/realizers/laws.FnValue", spec := "fnValue", inPlace := ["internal/bytealg.IndexByteString", "internal/bytealg.IndexString"], unfollowed := true, recurses := true, named := ["internal/bytealg.MaxLen"], apart := false }
def FnValueSaid : Prop := fnValueRow.holds Tryz.pinned (OpenSpec.ofChange fnValueSpec)

/-- ITS FALSE NEIGHBOUR: 'it returns false'. Refute it at one input. -/
def fnValueWrong : ChangeSpec := { name := "fnValue", fn := fun _ => fun
  | [d] => { results := [.lit (.bool false)], args := [d] }
  | _ => none }
def FnValueWrongFalsely : Prop := fnValueRow.holds Tryz.pinned (OpenSpec.ofChange fnValueWrong)

/-- 'laws.FnRealizer': WHATEVER THE INPUT: true; the input reads as it did. -/
def fnRealizerSpec : ChangeSpec := { name := "fnRealizer", fn := fun _ => fun
  | [d] => { results := [.lit (.bool true)], args := [d] }
  | _ => none }
def fnRealizerRow : OpenClaim := { program := "ytmkmladlpgfniacgreat", sum := "28afba216d3d08fb5fe7d3285c1f1da06b31156b89a6febceffcb5a8cd01ea98", func := "loop.example/realizers/laws.FnRealizer", spec := "fnRealizer", inPlace := ["internal/bytealg.IndexByteString", "internal/bytealg.IndexString"], unfollowed := true, recurses := true, named := ["internal/bytealg.MaxLen"], apart := false }
def FnRealizerSaid : Prop := fnRealizerRow.holds Tryz.pinned (OpenSpec.ofChange fnRealizerSpec)

/-- ITS FALSE NEIGHBOUR: 'it returns false'. Refute it at one input. -/
def fnRealizerWrong : ChangeSpec := { name := "fnRealizer", fn := fun _ => fun
  | [d] => { results := [.lit (.bool false)], args := [d] }
  | _ => none }
def FnRealizerWrongFalsely : Prop := fnRealizerRow.holds Tryz.pinned (OpenSpec.ofChange fnRealizerWrong)

/-- 'laws.FnRun': WHATEVER THE INPUT: true; the input reads as it did. -/
def fnRunSpec : ChangeSpec := { name := "fnRun", fn := fun _ => fun
  | [d] => { results := [.lit (.bool true)], args := [d] }
  | _ => none }
def fnRunRow : OpenClaim := { program := "ytmkmladlpgfniacgreat", sum := "28afba216d3d08fb5fe7d3285c1f1da06b31156b89a6febceffcb5a8cd01ea98", func := "loop.example/realizers/laws.FnRun", spec := "fnRun", inPlace := ["internal/bytealg.IndexByteString", "internal/bytealg.IndexString"], unfollowed := true, recurses := true, named := ["internal/bytealg.MaxLen"], apart := false }
def FnRunSaid : Prop := fnRunRow.holds Tryz.pinned (OpenSpec.ofChange fnRunSpec)

/-- ITS FALSE NEIGHBOUR: 'it returns false'. Refute it at one input. -/
def fnRunWrong : ChangeSpec := { name := "fnRun", fn := fun _ => fun
  | [d] => { results := [.lit (.bool false)], args := [d] }
  | _ => none }
def FnRunWrongFalsely : Prop := fnRunRow.holds Tryz.pinned (OpenSpec.ofChange fnRunWrong)

/-- 'laws.FnFunctionSize': WHATEVER THE INPUT: true; the input reads as it did. -/
def fnFunctionSizeSpec : ChangeSpec := { name := "fnFunctionSize", fn := fun _ => fun
  | [d] => { results := [.lit (.bool true)], args := [d] }
  | _ => none }
def fnFunctionSizeRow : OpenClaim := { program := "ytmkmladlpgfniacgreat", sum := "28afba216d3d08fb5fe7d3285c1f1da06b31156b89a6febceffcb5a8cd01ea98", func := "loop.example/realizers/laws.FnFunctionSize", spec := "fnFunctionSize", inPlace := ["internal/bytealg.IndexByteString", "internal/bytealg.IndexString"], unfollowed := true, recurses := true, named := ["internal/bytealg.MaxLen"], apart := false }
def FnFunctionSizeSaid : Prop := fnFunctionSizeRow.holds Tryz.pinned (OpenSpec.ofChange fnFunctionSizeSpec)

/-- ITS FALSE NEIGHBOUR: 'it returns false'. Refute it at one input. -/
def fnFunctionSizeWrong : ChangeSpec := { name := "fnFunctionSize", fn := fun _ => fun
  | [d] => { results := [.lit (.bool false)], args := [d] }
  | _ => none }
def FnFunctionSizeWrongFalsely : Prop := fnFunctionSizeRow.holds Tryz.pinned (OpenSpec.ofChange fnFunctionSizeWrong)

/- THE SECOND FORM. 'bulk': how many values and letters a reading holds, each counted each time it is reached (what is shared counts as often as it is met; a slice's spare places count too). A statement '..UptoSaid' is the law's where the arguments, and the package variables that the reading takes, are together of bulk at most 1048576: NARROWER than '..Said'. Prove '..Said' where nothing that the law and all that it calls make is longer than what came in: it says more and counts as full. Else prove '..UptoSaid'. A law counts once. -/
mutual
def uptoBulk {H : Type} : DataW H → Nat
  | .lit (.string bytes) => bytes.length + 1
  | .lit _ => 1
  | .nil => 1
  | .ptr d => uptoBulk d + 1
  | .slice elems spare => uptoBulkAll elems + uptoBulkAll spare + 1
  | .agg parts => uptoBulkAll parts + 1
  | .iface _ d => uptoBulk d + 1
  | .map entries => uptoBulkEntries entries + 1
  | .held _ => 1
def uptoBulkAll {H : Type} : List (DataW H) → Nat
  | [] => 0
  | d :: r => uptoBulk d + uptoBulkAll r
def uptoBulkEntries {H : Type} : List (Lit × DataW H) → Nat
  | [] => 0
  | x :: r => uptoBulkEntry x + uptoBulkEntries r
def uptoBulkEntry {H : Type} : Lit × DataW H → Nat
  | (.string bytes, d) => bytes.length + uptoBulk d + 1
  | (_, d) => uptoBulk d + 1
 end
def uptoSmall : (H : Type) → List (DataW H) → Bool := fun _ ds => decide (uptoBulkAll ds ≤ 1048576)
def OpenSpec.upto (s : _root_.Go.ChangeSpec) : _root_.Go.OpenSpec := { _root_.Go.OpenSpec.ofChange s with cond := some uptoSmall }

/-- 'laws.FnExactFunctionRun', WHERE WHAT IT READS IS OF BULK AT MOST 1048576: true; the input reads as it did. -/
def fnExactFunctionRunUptoRow : OpenClaim := { program := "ytmkmladlpgfniacgreat", sum := "28afba216d3d08fb5fe7d3285c1f1da06b31156b89a6febceffcb5a8cd01ea98", func := "loop.example/realizers/laws.FnExactFunctionRun", spec := "fnExactFunctionRun", inPlace := ["internal/bytealg.IndexByteString", "internal/bytealg.IndexString"], unfollowed := true, recurses := true, named := ["internal/bytealg.MaxLen"], apart := false, narrowed := true }
def FnExactFunctionRunUptoSaid : Prop := fnExactFunctionRunUptoRow.holds Tryz.pinned (OpenSpec.upto fnExactFunctionRunSpec)

/-- 'laws.FnArity', WHERE WHAT IT READS IS OF BULK AT MOST 1048576: true; the input reads as it did. -/
def fnArityUptoRow : OpenClaim := { program := "ytmkmladlpgfniacgreat", sum := "28afba216d3d08fb5fe7d3285c1f1da06b31156b89a6febceffcb5a8cd01ea98", func := "loop.example/realizers/laws.FnArity", spec := "fnArity", inPlace := ["internal/bytealg.IndexByteString", "internal/bytealg.IndexString"], unfollowed := true, recurses := true, named := ["internal/bytealg.MaxLen"], apart := false, narrowed := true }
def FnArityUptoSaid : Prop := fnArityUptoRow.holds Tryz.pinned (OpenSpec.upto fnAritySpec)

/-- 'laws.FnValue', WHERE WHAT IT READS IS OF BULK AT MOST 1048576: true; the input reads as it did. -/
def fnValueUptoRow : OpenClaim := { program := "ytmkmladlpgfniacgreat", sum := "28afba216d3d08fb5fe7d3285c1f1da06b31156b89a6febceffcb5a8cd01ea98", func := "loop.example/realizers/laws.FnValue", spec := "fnValue", inPlace := ["internal/bytealg.IndexByteString", "internal/bytealg.IndexString"], unfollowed := true, recurses := true, named := ["internal/bytealg.MaxLen"], apart := false, narrowed := true }
def FnValueUptoSaid : Prop := fnValueUptoRow.holds Tryz.pinned (OpenSpec.upto fnValueSpec)

/-- 'laws.FnRealizer', WHERE WHAT IT READS IS OF BULK AT MOST 1048576: true; the input reads as it did. -/
def fnRealizerUptoRow : OpenClaim := { program := "ytmkmladlpgfniacgreat", sum := "28afba216d3d08fb5fe7d3285c1f1da06b31156b89a6febceffcb5a8cd01ea98", func := "loop.example/realizers/laws.FnRealizer", spec := "fnRealizer", inPlace := ["internal/bytealg.IndexByteString", "internal/bytealg.IndexString"], unfollowed := true, recurses := true, named := ["internal/bytealg.MaxLen"], apart := false, narrowed := true }
def FnRealizerUptoSaid : Prop := fnRealizerUptoRow.holds Tryz.pinned (OpenSpec.upto fnRealizerSpec)

/-- 'laws.FnRun', WHERE WHAT IT READS IS OF BULK AT MOST 1048576: true; the input reads as it did. -/
def fnRunUptoRow : OpenClaim := { program := "ytmkmladlpgfniacgreat", sum := "28afba216d3d08fb5fe7d3285c1f1da06b31156b89a6febceffcb5a8cd01ea98", func := "loop.example/realizers/laws.FnRun", spec := "fnRun", inPlace := ["internal/bytealg.IndexByteString", "internal/bytealg.IndexString"], unfollowed := true, recurses := true, named := ["internal/bytealg.MaxLen"], apart := false, narrowed := true }
def FnRunUptoSaid : Prop := fnRunUptoRow.holds Tryz.pinned (OpenSpec.upto fnRunSpec)

/-- 'laws.FnFunctionSize', WHERE WHAT IT READS IS OF BULK AT MOST 1048576: true; the input reads as it did. -/
def fnFunctionSizeUptoRow : OpenClaim := { program := "ytmkmladlpgfniacgreat", sum := "28afba216d3d08fb5fe7d3285c1f1da06b31156b89a6febceffcb5a8cd01ea98", func := "loop.example/realizers/laws.FnFunctionSize", spec := "fnFunctionSize", inPlace := ["internal/bytealg.IndexByteString", "internal/bytealg.IndexString"], unfollowed := true, recurses := true, named := ["internal/bytealg.MaxLen"], apart := false, narrowed := true }
def FnFunctionSizeUptoSaid : Prop := fnFunctionSizeUptoRow.holds Tryz.pinned (OpenSpec.upto fnFunctionSizeSpec)

end Rows
end Go.Proofs.YtmkmladlpgfniacGreat
