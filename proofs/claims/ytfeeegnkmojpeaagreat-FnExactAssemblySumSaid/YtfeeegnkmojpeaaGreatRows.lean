/-
  No cell of these rows narrows 'for every input' (looked for: loops, veiled, ifaces, maps, wideKeys, modest, calm, conditions, laid).
  DERIVED. THE GIVEN ROWS OF THIS SEAT. 7 by the template 'for every input the law returns true; each argument reads behind the call as it read before'; 0 by the template 'total and deterministic' (their statements: YtfeeegnkmojpeaaGreatTotals.lean).
  GIVEN WITH THE SEED: the statements are not yours to turn. If you find one false, say at which input.
  Laid BY PROGRAM, IN A SANDBOX (cutbox-rows.mjs): the forced cells as the released guide's own fill.sh prints them over the translation 0064cce774e58736… (all of the seat's roots in one cut). By AI agents, Wed Nov 11 2026. No macro, syntax, notation, axiom, sorry.
-/
import Derived.Test.YtfeeegnkmojpeaaGreatChecked
import GoSem.Claim
import GoSem.ClaimJoined
import GoSem.ClaimMapViews
import Derived.JoinedTies
import Derived.KernelRfl
namespace Go.Proofs.YtfeeegnkmojpeaaGreat
/- THE CELL 'sum', in the pinned program and in every row, IS THE sha256 OF THE DUMP (.gsa) THAT YtfeeegnkmojpeaaGreatProg.lean LOADS. Nothing in Lean hashes anything: it is a label: what it is worth is what the hold of that sum in a sandbox is worth. -/
noncomputable def Tryz.pinned : Pinned := { name := "ytfeeegnkmojpeaagreat", sum := "0064cce774e58736c781b5ce06ee6d2cf8b23dc1e8fb06991f1a2a16014c9648", checked := Tryz.checked }
namespace Rows
def none {H : Type} : Left H := { results := [], args := [] }

/-- 'laws.FnFind': WHATEVER THE INPUT: true; the input reads as it did. -/
def fnFindSpec : ChangeSpec := { name := "fnFind", fn := fun _ => fun
  | [d] => { results := [.lit (.bool true)], args := [d] }
  | _ => none }
def fnFindRow : OpenClaim := { program := "ytfeeegnkmojpeaagreat", sum := "0064cce774e58736c781b5ce06ee6d2cf8b23dc1e8fb06991f1a2a16014c9648", func := "loop.example/realizers/laws.FnFind", spec := "fnFind", inPlace := ["internal/bytealg.abigen_runtime_cmpstring"], unfollowed := true, recurses := true, apart := false }
def FnFindSaid : Prop := fnFindRow.holds Tryz.pinned (OpenSpec.ofChange fnFindSpec)

/-- ITS FALSE NEIGHBOUR: 'it returns false'. Refute it at one input. -/
def fnFindWrong : ChangeSpec := { name := "fnFind", fn := fun _ => fun
  | [d] => { results := [.lit (.bool false)], args := [d] }
  | _ => none }
def FnFindWrongFalsely : Prop := fnFindRow.holds Tryz.pinned (OpenSpec.ofChange fnFindWrong)

/-- 'laws.FnPairs': WHATEVER THE INPUT: true; the input reads as it did. -/
def fnPairsSpec : ChangeSpec := { name := "fnPairs", fn := fun _ => fun
  | [d] => { results := [.lit (.bool true)], args := [d] }
  | _ => none }
def fnPairsRow : OpenClaim := { program := "ytfeeegnkmojpeaagreat", sum := "0064cce774e58736c781b5ce06ee6d2cf8b23dc1e8fb06991f1a2a16014c9648", func := "loop.example/realizers/laws.FnPairs", spec := "fnPairs", unfollowed := true, recurses := true, apart := false }
def FnPairsSaid : Prop := fnPairsRow.holds Tryz.pinned (OpenSpec.ofChange fnPairsSpec)

/-- ITS FALSE NEIGHBOUR: 'it returns false'. Refute it at one input. -/
def fnPairsWrong : ChangeSpec := { name := "fnPairs", fn := fun _ => fun
  | [d] => { results := [.lit (.bool false)], args := [d] }
  | _ => none }
def FnPairsWrongFalsely : Prop := fnPairsRow.holds Tryz.pinned (OpenSpec.ofChange fnPairsWrong)

/-- 'laws.FnNumbers': WHATEVER THE INPUT: true; the input reads as it did. -/
def fnNumbersSpec : ChangeSpec := { name := "fnNumbers", fn := fun _ => fun
  | [d] => { results := [.lit (.bool true)], args := [d] }
  | _ => none }
def fnNumbersRow : OpenClaim := { program := "ytfeeegnkmojpeaagreat", sum := "0064cce774e58736c781b5ce06ee6d2cf8b23dc1e8fb06991f1a2a16014c9648", func := "loop.example/realizers/laws.FnNumbers", spec := "fnNumbers", unfollowed := true, recurses := true, apart := false }
def FnNumbersSaid : Prop := fnNumbersRow.holds Tryz.pinned (OpenSpec.ofChange fnNumbersSpec)

/-- ITS FALSE NEIGHBOUR: 'it returns false'. Refute it at one input. -/
def fnNumbersWrong : ChangeSpec := { name := "fnNumbers", fn := fun _ => fun
  | [d] => { results := [.lit (.bool false)], args := [d] }
  | _ => none }
def FnNumbersWrongFalsely : Prop := fnNumbersRow.holds Tryz.pinned (OpenSpec.ofChange fnNumbersWrong)

/-- 'laws.FnExactTrackFind': WHATEVER THE INPUT: true; the input reads as it did. -/
def fnExactTrackFindSpec : ChangeSpec := { name := "fnExactTrackFind", fn := fun _ => fun
  | [d1, d2, d3, d4] => { results := [.lit (.bool true)], args := [d1, d2, d3, d4] }
  | _ => none }
def fnExactTrackFindRow : OpenClaim := { program := "ytfeeegnkmojpeaagreat", sum := "0064cce774e58736c781b5ce06ee6d2cf8b23dc1e8fb06991f1a2a16014c9648", func := "loop.example/realizers/laws.FnExactTrackFind", spec := "fnExactTrackFind", inPlace := ["internal/bytealg.abigen_runtime_cmpstring"], unfollowed := true, recurses := true, apart := false }
def FnExactTrackFindSaid : Prop := fnExactTrackFindRow.holds Tryz.pinned (OpenSpec.ofChange fnExactTrackFindSpec)

/-- ITS FALSE NEIGHBOUR: 'it returns false'. Refute it at one input. -/
def fnExactTrackFindWrong : ChangeSpec := { name := "fnExactTrackFind", fn := fun _ => fun
  | [d1, d2, d3, d4] => { results := [.lit (.bool false)], args := [d1, d2, d3, d4] }
  | _ => none }
def FnExactTrackFindWrongFalsely : Prop := fnExactTrackFindRow.holds Tryz.pinned (OpenSpec.ofChange fnExactTrackFindWrong)

/-- 'laws.FnExactAssemblyPair': WHATEVER THE INPUT: true; the input reads as it did. -/
def fnExactAssemblyPairSpec : ChangeSpec := { name := "fnExactAssemblyPair", fn := fun _ => fun
  | [d1, d2] => { results := [.lit (.bool true)], args := [d1, d2] }
  | _ => none }
def fnExactAssemblyPairRow : OpenClaim := { program := "ytfeeegnkmojpeaagreat", sum := "0064cce774e58736c781b5ce06ee6d2cf8b23dc1e8fb06991f1a2a16014c9648", func := "loop.example/realizers/laws.FnExactAssemblyPair", spec := "fnExactAssemblyPair", unfollowed := true, recurses := true, apart := false }
def FnExactAssemblyPairSaid : Prop := fnExactAssemblyPairRow.holds Tryz.pinned (OpenSpec.ofChange fnExactAssemblyPairSpec)

/-- ITS FALSE NEIGHBOUR: 'it returns false'. Refute it at one input. -/
def fnExactAssemblyPairWrong : ChangeSpec := { name := "fnExactAssemblyPair", fn := fun _ => fun
  | [d1, d2] => { results := [.lit (.bool false)], args := [d1, d2] }
  | _ => none }
def FnExactAssemblyPairWrongFalsely : Prop := fnExactAssemblyPairRow.holds Tryz.pinned (OpenSpec.ofChange fnExactAssemblyPairWrong)

/-- 'laws.FnExactAssemblySum': WHATEVER THE INPUT: true; the input reads as it did. -/
def fnExactAssemblySumSpec : ChangeSpec := { name := "fnExactAssemblySum", fn := fun _ => fun
  | [d1, d2] => { results := [.lit (.bool true)], args := [d1, d2] }
  | _ => none }
def fnExactAssemblySumRow : OpenClaim := { program := "ytfeeegnkmojpeaagreat", sum := "0064cce774e58736c781b5ce06ee6d2cf8b23dc1e8fb06991f1a2a16014c9648", func := "loop.example/realizers/laws.FnExactAssemblySum", spec := "fnExactAssemblySum", unfollowed := true, recurses := true, apart := false }
def FnExactAssemblySumSaid : Prop := fnExactAssemblySumRow.holds Tryz.pinned (OpenSpec.ofChange fnExactAssemblySumSpec)

/-- ITS FALSE NEIGHBOUR: 'it returns false'. Refute it at one input. -/
def fnExactAssemblySumWrong : ChangeSpec := { name := "fnExactAssemblySum", fn := fun _ => fun
  | [d1, d2] => { results := [.lit (.bool false)], args := [d1, d2] }
  | _ => none }
def FnExactAssemblySumWrongFalsely : Prop := fnExactAssemblySumRow.holds Tryz.pinned (OpenSpec.ofChange fnExactAssemblySumWrong)

/-- 'laws.FnExactAssemblyMaps': WHATEVER THE INPUT: true; the input reads as it did. -/
def fnExactAssemblyMapsSpec : ChangeSpec := { name := "fnExactAssemblyMaps", fn := fun _ => fun
  | [d1, d2, d3] => { results := [.lit (.bool true)], args := [d1, d2, d3] }
  | _ => none }
def fnExactAssemblyMapsRow : OpenClaim := { program := "ytfeeegnkmojpeaagreat", sum := "0064cce774e58736c781b5ce06ee6d2cf8b23dc1e8fb06991f1a2a16014c9648", func := "loop.example/realizers/laws.FnExactAssemblyMaps", spec := "fnExactAssemblyMaps", inPlace := ["internal/bytealg.abigen_runtime_cmpstring"], unfollowed := true, recurses := true, apart := false }
def FnExactAssemblyMapsSaid : Prop := fnExactAssemblyMapsRow.holds Tryz.pinned (OpenSpec.ofChange fnExactAssemblyMapsSpec)

/-- ITS FALSE NEIGHBOUR: 'it returns false'. Refute it at one input. -/
def fnExactAssemblyMapsWrong : ChangeSpec := { name := "fnExactAssemblyMaps", fn := fun _ => fun
  | [d1, d2, d3] => { results := [.lit (.bool false)], args := [d1, d2, d3] }
  | _ => none }
def FnExactAssemblyMapsWrongFalsely : Prop := fnExactAssemblyMapsRow.holds Tryz.pinned (OpenSpec.ofChange fnExactAssemblyMapsWrong)

/- THE SECOND FORM. 'bulk': how many values and letters a reading holds, each counted each time it is reached (what is shared counts as often as it is met; a slice's spare places count too). A statement '..UptoSaid' is the law's where the arguments, and the package variables that the reading takes, are together of bulk at most 1048576: NARROWER than '..Said'. Prove '..Said' where nothing that the law and all that it calls make is longer than what came in: it says more and counts as full. Else prove '..UptoSaid'. A law counts once. -/
mutual
def uptoBulk {H : Type} : DataW H → Nat
  | .lit (.string bytes) => bytes.length + 1
  | .lit _ => 1
  | .nil => 1
  | .ptr d => uptoBulk d + 1
  | .slice elems spare => uptoBulkAll elems + uptoBulkAll spare + 1
  | .agg parts => uptoBulkAll parts + 1
  | .iface _ d => uptoBulk d + 1
  | .map entries => uptoBulkEntries entries + 1
  | .held _ => 1
def uptoBulkAll {H : Type} : List (DataW H) → Nat
  | [] => 0
  | d :: r => uptoBulk d + uptoBulkAll r
def uptoBulkEntries {H : Type} : List (Lit × DataW H) → Nat
  | [] => 0
  | x :: r => uptoBulkEntry x + uptoBulkEntries r
def uptoBulkEntry {H : Type} : Lit × DataW H → Nat
  | (.string bytes, d) => bytes.length + uptoBulk d + 1
  | (_, d) => uptoBulk d + 1
 end
def uptoSmall : (H : Type) → List (DataW H) → Bool := fun _ ds => decide (uptoBulkAll ds ≤ 1048576)
def OpenSpec.upto (s : _root_.Go.ChangeSpec) : _root_.Go.OpenSpec := { _root_.Go.OpenSpec.ofChange s with cond := some uptoSmall }

/-- 'laws.FnFind', WHERE WHAT IT READS IS OF BULK AT MOST 1048576: true; the input reads as it did. -/
def fnFindUptoRow : OpenClaim := { program := "ytfeeegnkmojpeaagreat", sum := "0064cce774e58736c781b5ce06ee6d2cf8b23dc1e8fb06991f1a2a16014c9648", func := "loop.example/realizers/laws.FnFind", spec := "fnFind", inPlace := ["internal/bytealg.abigen_runtime_cmpstring"], unfollowed := true, recurses := true, apart := false, narrowed := true }
def FnFindUptoSaid : Prop := fnFindUptoRow.holds Tryz.pinned (OpenSpec.upto fnFindSpec)

/-- 'laws.FnPairs', WHERE WHAT IT READS IS OF BULK AT MOST 1048576: true; the input reads as it did. -/
def fnPairsUptoRow : OpenClaim := { program := "ytfeeegnkmojpeaagreat", sum := "0064cce774e58736c781b5ce06ee6d2cf8b23dc1e8fb06991f1a2a16014c9648", func := "loop.example/realizers/laws.FnPairs", spec := "fnPairs", unfollowed := true, recurses := true, apart := false, narrowed := true }
def FnPairsUptoSaid : Prop := fnPairsUptoRow.holds Tryz.pinned (OpenSpec.upto fnPairsSpec)

/-- 'laws.FnNumbers', WHERE WHAT IT READS IS OF BULK AT MOST 1048576: true; the input reads as it did. -/
def fnNumbersUptoRow : OpenClaim := { program := "ytfeeegnkmojpeaagreat", sum := "0064cce774e58736c781b5ce06ee6d2cf8b23dc1e8fb06991f1a2a16014c9648", func := "loop.example/realizers/laws.FnNumbers", spec := "fnNumbers", unfollowed := true, recurses := true, apart := false, narrowed := true }
def FnNumbersUptoSaid : Prop := fnNumbersUptoRow.holds Tryz.pinned (OpenSpec.upto fnNumbersSpec)

/-- 'laws.FnExactTrackFind', WHERE WHAT IT READS IS OF BULK AT MOST 1048576: true; the input reads as it did. -/
def fnExactTrackFindUptoRow : OpenClaim := { program := "ytfeeegnkmojpeaagreat", sum := "0064cce774e58736c781b5ce06ee6d2cf8b23dc1e8fb06991f1a2a16014c9648", func := "loop.example/realizers/laws.FnExactTrackFind", spec := "fnExactTrackFind", inPlace := ["internal/bytealg.abigen_runtime_cmpstring"], unfollowed := true, recurses := true, apart := false, narrowed := true }
def FnExactTrackFindUptoSaid : Prop := fnExactTrackFindUptoRow.holds Tryz.pinned (OpenSpec.upto fnExactTrackFindSpec)

/-- 'laws.FnExactAssemblyPair', WHERE WHAT IT READS IS OF BULK AT MOST 1048576: true; the input reads as it did. -/
def fnExactAssemblyPairUptoRow : OpenClaim := { program := "ytfeeegnkmojpeaagreat", sum := "0064cce774e58736c781b5ce06ee6d2cf8b23dc1e8fb06991f1a2a16014c9648", func := "loop.example/realizers/laws.FnExactAssemblyPair", spec := "fnExactAssemblyPair", unfollowed := true, recurses := true, apart := false, narrowed := true }
def FnExactAssemblyPairUptoSaid : Prop := fnExactAssemblyPairUptoRow.holds Tryz.pinned (OpenSpec.upto fnExactAssemblyPairSpec)

/-- 'laws.FnExactAssemblySum', WHERE WHAT IT READS IS OF BULK AT MOST 1048576: true; the input reads as it did. -/
def fnExactAssemblySumUptoRow : OpenClaim := { program := "ytfeeegnkmojpeaagreat", sum := "0064cce774e58736c781b5ce06ee6d2cf8b23dc1e8fb06991f1a2a16014c9648", func := "loop.example/realizers/laws.FnExactAssemblySum", spec := "fnExactAssemblySum", unfollowed := true, recurses := true, apart := false, narrowed := true }
def FnExactAssemblySumUptoSaid : Prop := fnExactAssemblySumUptoRow.holds Tryz.pinned (OpenSpec.upto fnExactAssemblySumSpec)

/-- 'laws.FnExactAssemblyMaps', WHERE WHAT IT READS IS OF BULK AT MOST 1048576: true; the input reads as it did. -/
def fnExactAssemblyMapsUptoRow : OpenClaim := { program := "ytfeeegnkmojpeaagreat", sum := "0064cce774e58736c781b5ce06ee6d2cf8b23dc1e8fb06991f1a2a16014c9648", func := "loop.example/realizers/laws.FnExactAssemblyMaps", spec := "fnExactAssemblyMaps", inPlace := ["internal/bytealg.abigen_runtime_cmpstring"], unfollowed := true, recurses := true, apart := false, narrowed := true }
def FnExactAssemblyMapsUptoSaid : Prop := fnExactAssemblyMapsUptoRow.holds Tryz.pinned (OpenSpec.upto fnExactAssemblyMapsSpec)

end Rows
end Go.Proofs.YtfeeegnkmojpeaaGreat
