/-
  No cell of these rows narrows 'for every input' (looked for: loops, veiled, ifaces, maps, wideKeys, modest, calm, conditions, laid).
  DERIVED. THE GIVEN ROWS OF THIS SEAT. 4 by the template 'for every input the law returns true; each argument reads behind the call as it read before'; 0 by the template 'total and deterministic' (their statements: YtjomocjlnjgkeaaGreatTotals.lean).
  GIVEN WITH THE SEED: the statements are not yours to turn. If you find one false, say at which input.
  Laid BY PROGRAM, IN A SANDBOX (cutbox-rows.mjs): the forced cells as the released guide's own fill.sh prints them over the translation 0c78d2a6a68ed9b8… (all of the seat's roots in one cut). By AI agents, Wed Nov 11 2026. No macro, syntax, notation, axiom, sorry.
-/
import Derived.Test.YtjomocjlnjgkeaaGreatChecked
import GoSem.Claim
import GoSem.ClaimJoined
import GoSem.ClaimMapViews
import Derived.JoinedTies
import Derived.KernelRfl
namespace Go.Proofs.YtjomocjlnjgkeaaGreat
/- THE CELL 'sum', in the pinned program and in every row, IS THE sha256 OF THE DUMP (.gsa) THAT YtjomocjlnjgkeaaGreatProg.lean LOADS. Nothing in Lean hashes anything: it is a label: what it is worth is what the hold of that sum in a sandbox is worth. -/
noncomputable def Tryz.pinned : Pinned := { name := "ytjomocjlnjgkeaagreat", sum := "0c78d2a6a68ed9b89d2e58f6457813a59effe52cfea6453baaf6564bd328ee49", checked := Tryz.checked }
namespace Rows
def none {H : Type} : Left H := { results := [], args := [] }

/-- 'laws.FnRead': WHATEVER THE INPUT: true; the input reads as it did. -/
def fnReadSpec : ChangeSpec := { name := "fnRead", fn := fun _ => fun
  | [d] => { results := [.lit (.bool true)], args := [d] }
  | _ => none }
def fnReadRow : OpenClaim := { program := "ytjomocjlnjgkeaagreat", sum := "0c78d2a6a68ed9b89d2e58f6457813a59effe52cfea6453baaf6564bd328ee49", func := "loop.example/realizers/laws.FnRead", spec := "fnRead", unfollowed := true, recurses := true, apart := false }
def FnReadSaid : Prop := fnReadRow.holds Tryz.pinned (OpenSpec.ofChange fnReadSpec)

/-- ITS FALSE NEIGHBOUR: 'it returns false'. Refute it at one input. -/
def fnReadWrong : ChangeSpec := { name := "fnRead", fn := fun _ => fun
  | [d] => { results := [.lit (.bool false)], args := [d] }
  | _ => none }
def FnReadWrongFalsely : Prop := fnReadRow.holds Tryz.pinned (OpenSpec.ofChange fnReadWrong)

/-- 'laws.FnArity': WHATEVER THE INPUT: true; the input reads as it did. -/
def fnAritySpec : ChangeSpec := { name := "fnArity", fn := fun _ => fun
  | [d] => { results := [.lit (.bool true)], args := [d] }
  | _ => none }
def fnArityRow : OpenClaim := { program := "ytjomocjlnjgkeaagreat", sum := "0c78d2a6a68ed9b89d2e58f6457813a59effe52cfea6453baaf6564bd328ee49", func := "loop.example/realizers/laws.FnArity", spec := "fnArity", inPlace := ["internal/bytealg.IndexByteString", "internal/bytealg.IndexString"], unfollowed := true, recurses := true, named := ["internal/bytealg.MaxLen"], apart := false }
def FnAritySaid : Prop := fnArityRow.holds Tryz.pinned (OpenSpec.ofChange fnAritySpec)

/-- ITS FALSE NEIGHBOUR: 'it returns false'. Refute it at one input. -/
def fnArityWrong : ChangeSpec := { name := "fnArity", fn := fun _ => fun
  | [d] => { results := [.lit (.bool false)], args := [d] }
  | _ => none }
def FnArityWrongFalsely : Prop := fnArityRow.holds Tryz.pinned (OpenSpec.ofChange fnArityWrong)

/-- 'laws.FnValue': WHATEVER THE INPUT: true; the input reads as it did. -/
def fnValueSpec : ChangeSpec := { name := "fnValue", fn := fun _ => fun
  | [d] => { results := [.lit (.bool true)], args := [d] }
  | _ => none }
def fnValueRow : OpenClaim := { program := "ytjomocjlnjgkeaagreat", sum := "0c78d2a6a68ed9b89d2e58f6457813a59effe52cfea6453baaf6564bd328ee49", func := "loop.example/realizers/laws.FnValue", spec := "fnValue", inPlace := ["internal/bytealg.IndexByteString", "internal/bytealg.IndexString"], unfollowed := true, recurses := true, named := ["internal/bytealg.MaxLen"], apart := false }
def FnValueSaid : Prop := fnValueRow.holds Tryz.pinned (OpenSpec.ofChange fnValueSpec)

/-- ITS FALSE NEIGHBOUR: 'it returns false'. Refute it at one input. -/
def fnValueWrong : ChangeSpec := { name := "fnValue", fn := fun _ => fun
  | [d] => { results := [.lit (.bool false)], args := [d] }
  | _ => none }
def FnValueWrongFalsely : Prop := fnValueRow.holds Tryz.pinned (OpenSpec.ofChange fnValueWrong)

/-- 'laws.FnFunctionSize': WHATEVER THE INPUT: true; the input reads as it did. -/
def fnFunctionSizeSpec : ChangeSpec := { name := "fnFunctionSize", fn := fun _ => fun
  | [d] => { results := [.lit (.bool true)], args := [d] }
  | _ => none }
def fnFunctionSizeRow : OpenClaim := { program := "ytjomocjlnjgkeaagreat", sum := "0c78d2a6a68ed9b89d2e58f6457813a59effe52cfea6453baaf6564bd328ee49", func := "loop.example/realizers/laws.FnFunctionSize", spec := "fnFunctionSize", inPlace := ["internal/bytealg.IndexByteString", "internal/bytealg.IndexString"], unfollowed := true, recurses := true, named := ["internal/bytealg.MaxLen"], apart := false }
def FnFunctionSizeSaid : Prop := fnFunctionSizeRow.holds Tryz.pinned (OpenSpec.ofChange fnFunctionSizeSpec)

/-- ITS FALSE NEIGHBOUR: 'it returns false'. Refute it at one input. -/
def fnFunctionSizeWrong : ChangeSpec := { name := "fnFunctionSize", fn := fun _ => fun
  | [d] => { results := [.lit (.bool false)], args := [d] }
  | _ => none }
def FnFunctionSizeWrongFalsely : Prop := fnFunctionSizeRow.holds Tryz.pinned (OpenSpec.ofChange fnFunctionSizeWrong)

/- THE SECOND FORM. 'bulk': how many values and letters a reading holds, each counted each time it is reached (what is shared counts as often as it is met; a slice's spare places count too). A statement '..UptoSaid' is the law's where the arguments, and the package variables that the reading takes, are together of bulk at most 1048576: NARROWER than '..Said'. Prove '..Said' where nothing that the law and all that it calls make is longer than what came in: it says more and counts as full. Else prove '..UptoSaid'. A law counts once. -/
mutual
def uptoBulk {H : Type} : DataW H → Nat
  | .lit (.string bytes) => bytes.length + 1
  | .lit _ => 1
  | .nil => 1
  | .ptr d => uptoBulk d + 1
  | .slice elems spare => uptoBulkAll elems + uptoBulkAll spare + 1
  | .agg parts => uptoBulkAll parts + 1
  | .iface _ d => uptoBulk d + 1
  | .map entries => uptoBulkEntries entries + 1
  | .held _ => 1
def uptoBulkAll {H : Type} : List (DataW H) → Nat
  | [] => 0
  | d :: r => uptoBulk d + uptoBulkAll r
def uptoBulkEntries {H : Type} : List (Lit × DataW H) → Nat
  | [] => 0
  | x :: r => uptoBulkEntry x + uptoBulkEntries r
def uptoBulkEntry {H : Type} : Lit × DataW H → Nat
  | (.string bytes, d) => bytes.length + uptoBulk d + 1
  | (_, d) => uptoBulk d + 1
 end
def uptoSmall : (H : Type) → List (DataW H) → Bool := fun _ ds => decide (uptoBulkAll ds ≤ 1048576)
def OpenSpec.upto (s : _root_.Go.ChangeSpec) : _root_.Go.OpenSpec := { _root_.Go.OpenSpec.ofChange s with cond := some uptoSmall }

/-- 'laws.FnRead', WHERE WHAT IT READS IS OF BULK AT MOST 1048576: true; the input reads as it did. -/
def fnReadUptoRow : OpenClaim := { program := "ytjomocjlnjgkeaagreat", sum := "0c78d2a6a68ed9b89d2e58f6457813a59effe52cfea6453baaf6564bd328ee49", func := "loop.example/realizers/laws.FnRead", spec := "fnRead", unfollowed := true, recurses := true, apart := false, narrowed := true }
def FnReadUptoSaid : Prop := fnReadUptoRow.holds Tryz.pinned (OpenSpec.upto fnReadSpec)

/-- 'laws.FnArity', WHERE WHAT IT READS IS OF BULK AT MOST 1048576: true; the input reads as it did. -/
def fnArityUptoRow : OpenClaim := { program := "ytjomocjlnjgkeaagreat", sum := "0c78d2a6a68ed9b89d2e58f6457813a59effe52cfea6453baaf6564bd328ee49", func := "loop.example/realizers/laws.FnArity", spec := "fnArity", inPlace := ["internal/bytealg.IndexByteString", "internal/bytealg.IndexString"], unfollowed := true, recurses := true, named := ["internal/bytealg.MaxLen"], apart := false, narrowed := true }
def FnArityUptoSaid : Prop := fnArityUptoRow.holds Tryz.pinned (OpenSpec.upto fnAritySpec)

/-- 'laws.FnValue', WHERE WHAT IT READS IS OF BULK AT MOST 1048576: true; the input reads as it did. -/
def fnValueUptoRow : OpenClaim := { program := "ytjomocjlnjgkeaagreat", sum := "0c78d2a6a68ed9b89d2e58f6457813a59effe52cfea6453baaf6564bd328ee49", func := "loop.example/realizers/laws.FnValue", spec := "fnValue", inPlace := ["internal/bytealg.IndexByteString", "internal/bytealg.IndexString"], unfollowed := true, recurses := true, named := ["internal/bytealg.MaxLen"], apart := false, narrowed := true }
def FnValueUptoSaid : Prop := fnValueUptoRow.holds Tryz.pinned (OpenSpec.upto fnValueSpec)

/-- 'laws.FnFunctionSize', WHERE WHAT IT READS IS OF BULK AT MOST 1048576: true; the input reads as it did. -/
def fnFunctionSizeUptoRow : OpenClaim := { program := "ytjomocjlnjgkeaagreat", sum := "0c78d2a6a68ed9b89d2e58f6457813a59effe52cfea6453baaf6564bd328ee49", func := "loop.example/realizers/laws.FnFunctionSize", spec := "fnFunctionSize", inPlace := ["internal/bytealg.IndexByteString", "internal/bytealg.IndexString"], unfollowed := true, recurses := true, named := ["internal/bytealg.MaxLen"], apart := false, narrowed := true }
def FnFunctionSizeUptoSaid : Prop := fnFunctionSizeUptoRow.holds Tryz.pinned (OpenSpec.upto fnFunctionSizeSpec)

end Rows
end Go.Proofs.YtjomocjlnjgkeaaGreat
