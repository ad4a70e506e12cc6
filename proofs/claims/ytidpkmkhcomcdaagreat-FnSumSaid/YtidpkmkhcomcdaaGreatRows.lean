/-
  No cell of these rows narrows 'for every input' (looked for: loops, veiled, ifaces, maps, wideKeys, modest, calm, conditions, laid).
  DERIVED. THE GIVEN ROWS OF THIS SEAT. 5 by the template 'for every input the law returns true; each argument reads behind the call as it read before'; 0 by the template 'total and deterministic' (their statements: YtidpkmkhcomcdaaGreatTotals.lean).
  GIVEN WITH THE SEED: the statements are not yours to turn. If you find one false, say at which input.
  Laid BY PROGRAM, IN A SANDBOX (cutbox-rows.mjs): the forced cells as the released guide's own fill.sh prints them over the translation 95dd89032f5d3077… (all of the seat's roots in one cut). By AI agents, Wed Nov 11 2026. No macro, syntax, notation, axiom, sorry.
-/
import Derived.Test.YtidpkmkhcomcdaaGreatChecked
import GoSem.Claim
import GoSem.ClaimJoined
import GoSem.ClaimMapViews
import Derived.JoinedTies
import Derived.KernelRfl
namespace Go.Proofs.YtidpkmkhcomcdaaGreat
/- THE CELL 'sum', in the pinned program and in every row, IS THE sha256 OF THE DUMP (.gsa) THAT YtidpkmkhcomcdaaGreatProg.lean LOADS. Nothing in Lean hashes anything: it is a label: what it is worth is what the hold of that sum in a sandbox is worth. -/
noncomputable def Tryz.pinned : Pinned := { name := "ytidpkmkhcomcdaagreat", sum := "95dd89032f5d3077b8c797c0ed4caff747c622e0acfe93a825807c1f998372ee", checked := Tryz.checked }
namespace Rows
def none {H : Type} : Left H := { results := [], args := [] }

/-- 'laws.FnNumbers': WHATEVER THE INPUT: true; the input reads as it did. -/
def fnNumbersSpec : ChangeSpec := { name := "fnNumbers", fn := fun _ => fun
  | [d] => { results := [.lit (.bool true)], args := [d] }
  | _ => none }
def fnNumbersRow : OpenClaim := { program := "ytidpkmkhcomcdaagreat", sum := "95dd89032f5d3077b8c797c0ed4caff747c622e0acfe93a825807c1f998372ee", func := "loop.example/realizers/laws.FnNumbers", spec := "fnNumbers", unfollowed := true, recurses := true, apart := false }
def FnNumbersSaid : Prop := fnNumbersRow.holds Tryz.pinned (OpenSpec.ofChange fnNumbersSpec)

/-- ITS FALSE NEIGHBOUR: 'it returns false'. Refute it at one input. -/
def fnNumbersWrong : ChangeSpec := { name := "fnNumbers", fn := fun _ => fun
  | [d] => { results := [.lit (.bool false)], args := [d] }
  | _ => none }
def FnNumbersWrongFalsely : Prop := fnNumbersRow.holds Tryz.pinned (OpenSpec.ofChange fnNumbersWrong)

/-- 'laws.FnPairs': WHATEVER THE INPUT: true; the input reads as it did. -/
def fnPairsSpec : ChangeSpec := { name := "fnPairs", fn := fun _ => fun
  | [d] => { results := [.lit (.bool true)], args := [d] }
  | _ => none }
def fnPairsRow : OpenClaim := { program := "ytidpkmkhcomcdaagreat", sum := "95dd89032f5d3077b8c797c0ed4caff747c622e0acfe93a825807c1f998372ee", func := "loop.example/realizers/laws.FnPairs", spec := "fnPairs", unfollowed := true, recurses := true, apart := false }
def FnPairsSaid : Prop := fnPairsRow.holds Tryz.pinned (OpenSpec.ofChange fnPairsSpec)

/-- ITS FALSE NEIGHBOUR: 'it returns false'. Refute it at one input. -/
def fnPairsWrong : ChangeSpec := { name := "fnPairs", fn := fun _ => fun
  | [d] => { results := [.lit (.bool false)], args := [d] }
  | _ => none }
def FnPairsWrongFalsely : Prop := fnPairsRow.holds Tryz.pinned (OpenSpec.ofChange fnPairsWrong)

/-- 'laws.FnAssembly': WHATEVER THE INPUT: true; the input reads as it did. -/
def fnAssemblySpec : ChangeSpec := { name := "fnAssembly", fn := fun _ => fun
  | [d] => { results := [.lit (.bool true)], args := [d] }
  | _ => none }
def fnAssemblyRow : OpenClaim := { program := "ytidpkmkhcomcdaagreat", sum := "95dd89032f5d3077b8c797c0ed4caff747c622e0acfe93a825807c1f998372ee", func := "loop.example/realizers/laws.FnAssembly", spec := "fnAssembly", unfollowed := true, recurses := true, apart := false }
def FnAssemblySaid : Prop := fnAssemblyRow.holds Tryz.pinned (OpenSpec.ofChange fnAssemblySpec)

/-- ITS FALSE NEIGHBOUR: 'it returns false'. Refute it at one input. -/
def fnAssemblyWrong : ChangeSpec := { name := "fnAssembly", fn := fun _ => fun
  | [d] => { results := [.lit (.bool false)], args := [d] }
  | _ => none }
def FnAssemblyWrongFalsely : Prop := fnAssemblyRow.holds Tryz.pinned (OpenSpec.ofChange fnAssemblyWrong)

/-- 'laws.FnModest': WHATEVER THE INPUT: true; the input reads as it did. -/
def fnModestSpec : ChangeSpec := { name := "fnModest", fn := fun _ => fun
  | [d] => { results := [.lit (.bool true)], args := [d] }
  | _ => none }
def fnModestRow : OpenClaim := { program := "ytidpkmkhcomcdaagreat", sum := "95dd89032f5d3077b8c797c0ed4caff747c622e0acfe93a825807c1f998372ee", func := "loop.example/realizers/laws.FnModest", spec := "fnModest", unfollowed := true, recurses := true, apart := false }
def FnModestSaid : Prop := fnModestRow.holds Tryz.pinned (OpenSpec.ofChange fnModestSpec)

/-- ITS FALSE NEIGHBOUR: 'it returns false'. Refute it at one input. -/
def fnModestWrong : ChangeSpec := { name := "fnModest", fn := fun _ => fun
  | [d] => { results := [.lit (.bool false)], args := [d] }
  | _ => none }
def FnModestWrongFalsely : Prop := fnModestRow.holds Tryz.pinned (OpenSpec.ofChange fnModestWrong)

/-- 'laws.FnSum': WHATEVER THE INPUT: true; the input reads as it did. -/
def fnSumSpec : ChangeSpec := { name := "fnSum", fn := fun _ => fun
  | [d] => { results := [.lit (.bool true)], args := [d] }
  | _ => none }
def fnSumRow : OpenClaim := { program := "ytidpkmkhcomcdaagreat", sum := "95dd89032f5d3077b8c797c0ed4caff747c622e0acfe93a825807c1f998372ee", func := "loop.example/realizers/laws.FnSum", spec := "fnSum", unfollowed := true, recurses := true, apart := false }
def FnSumSaid : Prop := fnSumRow.holds Tryz.pinned (OpenSpec.ofChange fnSumSpec)

/-- ITS FALSE NEIGHBOUR: 'it returns false'. Refute it at one input. -/
def fnSumWrong : ChangeSpec := { name := "fnSum", fn := fun _ => fun
  | [d] => { results := [.lit (.bool false)], args := [d] }
  | _ => none }
def FnSumWrongFalsely : Prop := fnSumRow.holds Tryz.pinned (OpenSpec.ofChange fnSumWrong)

/- THE SECOND FORM. 'bulk': how many values and letters a reading holds, each counted each time it is reached (what is shared counts as often as it is met; a slice's spare places count too). A statement '..UptoSaid' is the law's where the arguments, and the package variables that the reading takes, are together of bulk at most 1048576: NARROWER than '..Said'. Prove '..Said' where nothing that the law and all that it calls make is longer than what came in: it says more and counts as full. Else prove '..UptoSaid'. A law counts once. -/
mutual
def uptoBulk {H : Type} : DataW H → Nat
  | .lit (.string bytes) => bytes.length + 1
  | .lit _ => 1
  | .nil => 1
  | .ptr d => uptoBulk d + 1
  | .slice elems spare => uptoBulkAll elems + uptoBulkAll spare + 1
  | .agg parts => uptoBulkAll parts + 1
  | .iface _ d => uptoBulk d + 1
  | .map entries => uptoBulkEntries entries + 1
  | .held _ => 1
def uptoBulkAll {H : Type} : List (DataW H) → Nat
  | [] => 0
  | d :: r => uptoBulk d + uptoBulkAll r
def uptoBulkEntries {H : Type} : List (Lit × DataW H) → Nat
  | [] => 0
  | x :: r => uptoBulkEntry x + uptoBulkEntries r
def uptoBulkEntry {H : Type} : Lit × DataW H → Nat
  | (.string bytes, d) => bytes.length + uptoBulk d + 1
  | (_, d) => uptoBulk d + 1
 end
def uptoSmall : (H : Type) → List (DataW H) → Bool := fun _ ds => decide (uptoBulkAll ds ≤ 1048576)
def OpenSpec.upto (s : _root_.Go.ChangeSpec) : _root_.Go.OpenSpec := { _root_.Go.OpenSpec.ofChange s with cond := some uptoSmall }

/-- 'laws.FnNumbers', WHERE WHAT IT READS IS OF BULK AT MOST 1048576: true; the input reads as it did. -/
def fnNumbersUptoRow : OpenClaim := { program := "ytidpkmkhcomcdaagreat", sum := "95dd89032f5d3077b8c797c0ed4caff747c622e0acfe93a825807c1f998372ee", func := "loop.example/realizers/laws.FnNumbers", spec := "fnNumbers", unfollowed := true, recurses := true, apart := false, narrowed := true }
def FnNumbersUptoSaid : Prop := fnNumbersUptoRow.holds Tryz.pinned (OpenSpec.upto fnNumbersSpec)

/-- 'laws.FnPairs', WHERE WHAT IT READS IS OF BULK AT MOST 1048576: true; the input reads as it did. -/
def fnPairsUptoRow : OpenClaim := { program := "ytidpkmkhcomcdaagreat", sum := "95dd89032f5d3077b8c797c0ed4caff747c622e0acfe93a825807c1f998372ee", func := "loop.example/realizers/laws.FnPairs", spec := "fnPairs", unfollowed := true, recurses := true, apart := false, narrowed := true }
def FnPairsUptoSaid : Prop := fnPairsUptoRow.holds Tryz.pinned (OpenSpec.upto fnPairsSpec)

/-- 'laws.FnAssembly', WHERE WHAT IT READS IS OF BULK AT MOST 1048576: true; the input reads as it did. -/
def fnAssemblyUptoRow : OpenClaim := { program := "ytidpkmkhcomcdaagreat", sum := "95dd89032f5d3077b8c797c0ed4caff747c622e0acfe93a825807c1f998372ee", func := "loop.example/realizers/laws.FnAssembly", spec := "fnAssembly", unfollowed := true, recurses := true, apart := false, narrowed := true }
def FnAssemblyUptoSaid : Prop := fnAssemblyUptoRow.holds Tryz.pinned (OpenSpec.upto fnAssemblySpec)

/-- 'laws.FnModest', WHERE WHAT IT READS IS OF BULK AT MOST 1048576: true; the input reads as it did. -/
def fnModestUptoRow : OpenClaim := { program := "ytidpkmkhcomcdaagreat", sum := "95dd89032f5d3077b8c797c0ed4caff747c622e0acfe93a825807c1f998372ee", func := "loop.example/realizers/laws.FnModest", spec := "fnModest", unfollowed := true, recurses := true, apart := false, narrowed := true }
def FnModestUptoSaid : Prop := fnModestUptoRow.holds Tryz.pinned (OpenSpec.upto fnModestSpec)

/-- 'laws.FnSum', WHERE WHAT IT READS IS OF BULK AT MOST 1048576: true; the input reads as it did. -/
def fnSumUptoRow : OpenClaim := { program := "ytidpkmkhcomcdaagreat", sum := "95dd89032f5d3077b8c797c0ed4caff747c622e0acfe93a825807c1f998372ee", func := "loop.example/realizers/laws.FnSum", spec := "fnSum", unfollowed := true, recurses := true, apart := false, narrowed := true }
def FnSumUptoSaid : Prop := fnSumUptoRow.holds Tryz.pinned (OpenSpec.upto fnSumSpec)

end Rows
end Go.Proofs.YtidpkmkhcomcdaaGreat
