/-
  No cell of these rows narrows 'for every input' (looked for: loops, veiled, ifaces, maps, wideKeys, modest, calm, conditions, laid).
  DERIVED. THE GIVEN ROWS OF THIS SEAT. 12 by the template 'for every input the law returns true; each argument reads behind the call as it read before'; 0 by the template 'total and deterministic' (their statements: YtipmgfbncfkmiaaTotals.lean).
  GIVEN WITH THE SEED: the statements are not yours to turn. If you find one false, say at which input.
  Laid BY PROGRAM, IN A SANDBOX (cutbox-rows.mjs): the forced cells as the released guide's own fill.sh prints them over the translation 27e3a7087b5ae97a… (all of the seat's roots in one cut). By AI agents, Wed Nov 11 2026. No macro, syntax, notation, axiom, sorry.
-/
import Derived.Test.YtipmgfbncfkmiaaChecked
import GoSem.Claim
import GoSem.ClaimJoined
import GoSem.ClaimMapViews
import Derived.JoinedTies
import Derived.KernelRfl
namespace Go.Proofs.Ytipmgfbncfkmiaa
/- THE CELL 'sum', in the pinned program and in every row, IS THE sha256 OF THE DUMP (.gsa) THAT YtipmgfbncfkmiaaProg.lean LOADS. Nothing in Lean hashes anything: it is a label: what it is worth is what the hold of that sum in a sandbox is worth. -/
noncomputable def Try.pinned : Pinned := { name := "ytipmgfbncfkmiaa", sum := "27e3a7087b5ae97a9bf94db7e17a30d076ca5eb157ddbfb8bea3f4e1d9aa9c96", checked := Try.checked }
namespace Rows
def none {H : Type} : Left H := { results := [], args := [] }

/-- 'laws.FnSize': WHATEVER THE INPUT: true; the input reads as it did. -/
def fnSizeSpec : ChangeSpec := { name := "fnSize", fn := fun _ => fun
  | [d] => { results := [.lit (.bool true)], args := [d] }
  | _ => none }
def fnSizeRow : OpenClaim := { program := "ytipmgfbncfkmiaa", sum := "27e3a7087b5ae97a9bf94db7e17a30d076ca5eb157ddbfb8bea3f4e1d9aa9c96", func := "loop.example/realizers/laws.FnSize", spec := "fnSize", unfollowed := true, recurses := true, apart := false }
def FnSizeSaid : Prop := fnSizeRow.holds Try.pinned (OpenSpec.ofChange fnSizeSpec)

/-- ITS FALSE NEIGHBOUR: 'it returns false'. Refute it at one input. -/
def fnSizeWrong : ChangeSpec := { name := "fnSize", fn := fun _ => fun
  | [d] => { results := [.lit (.bool false)], args := [d] }
  | _ => none }
def FnSizeWrongFalsely : Prop := fnSizeRow.holds Try.pinned (OpenSpec.ofChange fnSizeWrong)

/-- 'laws.FnNames': WHATEVER THE INPUT: true; the input reads as it did. -/
def fnNamesSpec : ChangeSpec := { name := "fnNames", fn := fun _ => fun
  | [d] => { results := [.lit (.bool true)], args := [d] }
  | _ => none }
def fnNamesRow : OpenClaim := { program := "ytipmgfbncfkmiaa", sum := "27e3a7087b5ae97a9bf94db7e17a30d076ca5eb157ddbfb8bea3f4e1d9aa9c96", func := "loop.example/realizers/laws.FnNames", spec := "fnNames", unfollowed := true, recurses := true, apart := false }
def FnNamesSaid : Prop := fnNamesRow.holds Try.pinned (OpenSpec.ofChange fnNamesSpec)

/-- ITS FALSE NEIGHBOUR: 'it returns false'. Refute it at one input. -/
def fnNamesWrong : ChangeSpec := { name := "fnNames", fn := fun _ => fun
  | [d] => { results := [.lit (.bool false)], args := [d] }
  | _ => none }
def FnNamesWrongFalsely : Prop := fnNamesRow.holds Try.pinned (OpenSpec.ofChange fnNamesWrong)

/-- 'laws.FnPut': WHATEVER THE INPUT: true; the input reads as it did. -/
def fnPutSpec : ChangeSpec := { name := "fnPut", fn := fun _ => fun
  | [d] => { results := [.lit (.bool true)], args := [d] }
  | _ => none }
def fnPutRow : OpenClaim := { program := "ytipmgfbncfkmiaa", sum := "27e3a7087b5ae97a9bf94db7e17a30d076ca5eb157ddbfb8bea3f4e1d9aa9c96", func := "loop.example/realizers/laws.FnPut", spec := "fnPut", unfollowed := true, recurses := true, apart := false }
def FnPutSaid : Prop := fnPutRow.holds Try.pinned (OpenSpec.ofChange fnPutSpec)

/-- ITS FALSE NEIGHBOUR: 'it returns false'. Refute it at one input. -/
def fnPutWrong : ChangeSpec := { name := "fnPut", fn := fun _ => fun
  | [d] => { results := [.lit (.bool false)], args := [d] }
  | _ => none }
def FnPutWrongFalsely : Prop := fnPutRow.holds Try.pinned (OpenSpec.ofChange fnPutWrong)

/-- 'laws.FnStep': WHATEVER THE INPUT: true; the input reads as it did. -/
def fnStepSpec : ChangeSpec := { name := "fnStep", fn := fun _ => fun
  | [d] => { results := [.lit (.bool true)], args := [d] }
  | _ => none }
def fnStepRow : OpenClaim := { program := "ytipmgfbncfkmiaa", sum := "27e3a7087b5ae97a9bf94db7e17a30d076ca5eb157ddbfb8bea3f4e1d9aa9c96", func := "loop.example/realizers/laws.FnStep", spec := "fnStep", unfollowed := true, recurses := true, apart := false }
def FnStepSaid : Prop := fnStepRow.holds Try.pinned (OpenSpec.ofChange fnStepSpec)

/-- ITS FALSE NEIGHBOUR: 'it returns false'. Refute it at one input. -/
def fnStepWrong : ChangeSpec := { name := "fnStep", fn := fun _ => fun
  | [d] => { results := [.lit (.bool false)], args := [d] }
  | _ => none }
def FnStepWrongFalsely : Prop := fnStepRow.holds Try.pinned (OpenSpec.ofChange fnStepWrong)

/-- 'laws.FnStepMany': WHATEVER THE INPUT: true; the input reads as it did. -/
def fnStepManySpec : ChangeSpec := { name := "fnStepMany", fn := fun _ => fun
  | [d] => { results := [.lit (.bool true)], args := [d] }
  | _ => none }
def fnStepManyRow : OpenClaim := { program := "ytipmgfbncfkmiaa", sum := "27e3a7087b5ae97a9bf94db7e17a30d076ca5eb157ddbfb8bea3f4e1d9aa9c96", func := "loop.example/realizers/laws.FnStepMany", spec := "fnStepMany", unfollowed := true, recurses := true, apart := false }
def FnStepManySaid : Prop := fnStepManyRow.holds Try.pinned (OpenSpec.ofChange fnStepManySpec)

/-- ITS FALSE NEIGHBOUR: 'it returns false'. Refute it at one input. -/
def fnStepManyWrong : ChangeSpec := { name := "fnStepMany", fn := fun _ => fun
  | [d] => { results := [.lit (.bool false)], args := [d] }
  | _ => none }
def FnStepManyWrongFalsely : Prop := fnStepManyRow.holds Try.pinned (OpenSpec.ofChange fnStepManyWrong)

/-- 'laws.FnNormal': WHATEVER THE INPUT: true; the input reads as it did. -/
def fnNormalSpec : ChangeSpec := { name := "fnNormal", fn := fun _ => fun
  | [d] => { results := [.lit (.bool true)], args := [d] }
  | _ => none }
def fnNormalRow : OpenClaim := { program := "ytipmgfbncfkmiaa", sum := "27e3a7087b5ae97a9bf94db7e17a30d076ca5eb157ddbfb8bea3f4e1d9aa9c96", func := "loop.example/realizers/laws.FnNormal", spec := "fnNormal", unfollowed := true, recurses := true, apart := false }
def FnNormalSaid : Prop := fnNormalRow.holds Try.pinned (OpenSpec.ofChange fnNormalSpec)

/-- ITS FALSE NEIGHBOUR: 'it returns false'. Refute it at one input. -/
def fnNormalWrong : ChangeSpec := { name := "fnNormal", fn := fun _ => fun
  | [d] => { results := [.lit (.bool false)], args := [d] }
  | _ => none }
def FnNormalWrongFalsely : Prop := fnNormalRow.holds Try.pinned (OpenSpec.ofChange fnNormalWrong)

/-- 'laws.FnNormalOf': WHATEVER THE INPUT: true; the input reads as it did. -/
def fnNormalOfSpec : ChangeSpec := { name := "fnNormalOf", fn := fun _ => fun
  | [d] => { results := [.lit (.bool true)], args := [d] }
  | _ => none }
def fnNormalOfRow : OpenClaim := { program := "ytipmgfbncfkmiaa", sum := "27e3a7087b5ae97a9bf94db7e17a30d076ca5eb157ddbfb8bea3f4e1d9aa9c96", func := "loop.example/realizers/laws.FnNormalOf", spec := "fnNormalOf", unfollowed := true, recurses := true, apart := false }
def FnNormalOfSaid : Prop := fnNormalOfRow.holds Try.pinned (OpenSpec.ofChange fnNormalOfSpec)

/-- ITS FALSE NEIGHBOUR: 'it returns false'. Refute it at one input. -/
def fnNormalOfWrong : ChangeSpec := { name := "fnNormalOf", fn := fun _ => fun
  | [d] => { results := [.lit (.bool false)], args := [d] }
  | _ => none }
def FnNormalOfWrongFalsely : Prop := fnNormalOfRow.holds Try.pinned (OpenSpec.ofChange fnNormalOfWrong)

/-- 'laws.FnApply': WHATEVER THE INPUT: true; the input reads as it did. -/
def fnApplySpec : ChangeSpec := { name := "fnApply", fn := fun _ => fun
  | [d] => { results := [.lit (.bool true)], args := [d] }
  | _ => none }
def fnApplyRow : OpenClaim := { program := "ytipmgfbncfkmiaa", sum := "27e3a7087b5ae97a9bf94db7e17a30d076ca5eb157ddbfb8bea3f4e1d9aa9c96", func := "loop.example/realizers/laws.FnApply", spec := "fnApply", unfollowed := true, recurses := true, apart := false }
def FnApplySaid : Prop := fnApplyRow.holds Try.pinned (OpenSpec.ofChange fnApplySpec)

/-- ITS FALSE NEIGHBOUR: 'it returns false'. Refute it at one input. -/
def fnApplyWrong : ChangeSpec := { name := "fnApply", fn := fun _ => fun
  | [d] => { results := [.lit (.bool false)], args := [d] }
  | _ => none }
def FnApplyWrongFalsely : Prop := fnApplyRow.holds Try.pinned (OpenSpec.ofChange fnApplyWrong)

/-- 'laws.FnEqual': WHATEVER THE INPUT: true; the input reads as it did. -/
def fnEqualSpec : ChangeSpec := { name := "fnEqual", fn := fun _ => fun
  | [d] => { results := [.lit (.bool true)], args := [d] }
  | _ => none }
def fnEqualRow : OpenClaim := { program := "ytipmgfbncfkmiaa", sum := "27e3a7087b5ae97a9bf94db7e17a30d076ca5eb157ddbfb8bea3f4e1d9aa9c96", func := "loop.example/realizers/laws.FnEqual", spec := "fnEqual", unfollowed := true, recurses := true, apart := false }
def FnEqualSaid : Prop := fnEqualRow.holds Try.pinned (OpenSpec.ofChange fnEqualSpec)

/-- ITS FALSE NEIGHBOUR: 'it returns false'. Refute it at one input. -/
def fnEqualWrong : ChangeSpec := { name := "fnEqual", fn := fun _ => fun
  | [d] => { results := [.lit (.bool false)], args := [d] }
  | _ => none }
def FnEqualWrongFalsely : Prop := fnEqualRow.holds Try.pinned (OpenSpec.ofChange fnEqualWrong)

/-- 'laws.FnPair': WHATEVER THE INPUT: true; the input reads as it did. -/
def fnPairSpec : ChangeSpec := { name := "fnPair", fn := fun _ => fun
  | [d] => { results := [.lit (.bool true)], args := [d] }
  | _ => none }
def fnPairRow : OpenClaim := { program := "ytipmgfbncfkmiaa", sum := "27e3a7087b5ae97a9bf94db7e17a30d076ca5eb157ddbfb8bea3f4e1d9aa9c96", func := "loop.example/realizers/laws.FnPair", spec := "fnPair", unfollowed := true, recurses := true, apart := false }
def FnPairSaid : Prop := fnPairRow.holds Try.pinned (OpenSpec.ofChange fnPairSpec)

/-- ITS FALSE NEIGHBOUR: 'it returns false'. Refute it at one input. -/
def fnPairWrong : ChangeSpec := { name := "fnPair", fn := fun _ => fun
  | [d] => { results := [.lit (.bool false)], args := [d] }
  | _ => none }
def FnPairWrongFalsely : Prop := fnPairRow.holds Try.pinned (OpenSpec.ofChange fnPairWrong)

/-- 'laws.FnNumber': WHATEVER THE INPUT: true; the input reads as it did. -/
def fnNumberSpec : ChangeSpec := { name := "fnNumber", fn := fun _ => fun
  | [d] => { results := [.lit (.bool true)], args := [d] }
  | _ => none }
def fnNumberRow : OpenClaim := { program := "ytipmgfbncfkmiaa", sum := "27e3a7087b5ae97a9bf94db7e17a30d076ca5eb157ddbfb8bea3f4e1d9aa9c96", func := "loop.example/realizers/laws.FnNumber", spec := "fnNumber", unfollowed := true, recurses := true, apart := false }
def FnNumberSaid : Prop := fnNumberRow.holds Try.pinned (OpenSpec.ofChange fnNumberSpec)

/-- ITS FALSE NEIGHBOUR: 'it returns false'. Refute it at one input. -/
def fnNumberWrong : ChangeSpec := { name := "fnNumber", fn := fun _ => fun
  | [d] => { results := [.lit (.bool false)], args := [d] }
  | _ => none }
def FnNumberWrongFalsely : Prop := fnNumberRow.holds Try.pinned (OpenSpec.ofChange fnNumberWrong)

/-- 'laws.FnExactTrackIs': WHATEVER THE INPUT: true; the input reads as it did. -/
def fnExactTrackIsSpec : ChangeSpec := { name := "fnExactTrackIs", fn := fun _ => fun
  | [d1, d2, d3, d4] => { results := [.lit (.bool true)], args := [d1, d2, d3, d4] }
  | _ => none }
def fnExactTrackIsRow : OpenClaim := { program := "ytipmgfbncfkmiaa", sum := "27e3a7087b5ae97a9bf94db7e17a30d076ca5eb157ddbfb8bea3f4e1d9aa9c96", func := "loop.example/realizers/laws.FnExactTrackIs", spec := "fnExactTrackIs", unfollowed := true, recurses := true, apart := false }
def FnExactTrackIsSaid : Prop := fnExactTrackIsRow.holds Try.pinned (OpenSpec.ofChange fnExactTrackIsSpec)

/-- ITS FALSE NEIGHBOUR: 'it returns false'. Refute it at one input. -/
def fnExactTrackIsWrong : ChangeSpec := { name := "fnExactTrackIs", fn := fun _ => fun
  | [d1, d2, d3, d4] => { results := [.lit (.bool false)], args := [d1, d2, d3, d4] }
  | _ => none }
def FnExactTrackIsWrongFalsely : Prop := fnExactTrackIsRow.holds Try.pinned (OpenSpec.ofChange fnExactTrackIsWrong)

/- THE SECOND FORM. 'bulk': how many values and letters a reading holds, each counted each time it is reached (what is shared counts as often as it is met; a slice's spare places count too). A statement '..UptoSaid' is the law's where the arguments, and the package variables that the reading takes, are together of bulk at most 1048576: NARROWER than '..Said'. Prove '..Said' where nothing that the law and all that it calls make is longer than what came in: it says more and counts as full. Else prove '..UptoSaid'. A law counts once. -/
mutual
def uptoBulk {H : Type} : DataW H → Nat
  | .lit (.string bytes) => bytes.length + 1
  | .lit _ => 1
  | .nil => 1
  | .ptr d => uptoBulk d + 1
  | .slice elems spare => uptoBulkAll elems + uptoBulkAll spare + 1
  | .agg parts => uptoBulkAll parts + 1
  | .iface _ d => uptoBulk d + 1
  | .map entries => uptoBulkEntries entries + 1
  | .held _ => 1
def uptoBulkAll {H : Type} : List (DataW H) → Nat
  | [] => 0
  | d :: r => uptoBulk d + uptoBulkAll r
def uptoBulkEntries {H : Type} : List (Lit × DataW H) → Nat
  | [] => 0
  | x :: r => uptoBulkEntry x + uptoBulkEntries r
def uptoBulkEntry {H : Type} : Lit × DataW H → Nat
  | (.string bytes, d) => bytes.length + uptoBulk d + 1
  | (_, d) => uptoBulk d + 1
 end
def uptoSmall : (H : Type) → List (DataW H) → Bool := fun _ ds => decide (uptoBulkAll ds ≤ 1048576)
def OpenSpec.upto (s : _root_.Go.ChangeSpec) : _root_.Go.OpenSpec := { _root_.Go.OpenSpec.ofChange s with cond := some uptoSmall }

/-- 'laws.FnSize', WHERE WHAT IT READS IS OF BULK AT MOST 1048576: true; the input reads as it did. -/
def fnSizeUptoRow : OpenClaim := { program := "ytipmgfbncfkmiaa", sum := "27e3a7087b5ae97a9bf94db7e17a30d076ca5eb157ddbfb8bea3f4e1d9aa9c96", func := "loop.example/realizers/laws.FnSize", spec := "fnSize", unfollowed := true, recurses := true, apart := false, narrowed := true }
def FnSizeUptoSaid : Prop := fnSizeUptoRow.holds Try.pinned (OpenSpec.upto fnSizeSpec)

/-- 'laws.FnNames', WHERE WHAT IT READS IS OF BULK AT MOST 1048576: true; the input reads as it did. -/
def fnNamesUptoRow : OpenClaim := { program := "ytipmgfbncfkmiaa", sum := "27e3a7087b5ae97a9bf94db7e17a30d076ca5eb157ddbfb8bea3f4e1d9aa9c96", func := "loop.example/realizers/laws.FnNames", spec := "fnNames", unfollowed := true, recurses := true, apart := false, narrowed := true }
def FnNamesUptoSaid : Prop := fnNamesUptoRow.holds Try.pinned (OpenSpec.upto fnNamesSpec)

/-- 'laws.FnPut', WHERE WHAT IT READS IS OF BULK AT MOST 1048576: true; the input reads as it did. -/
def fnPutUptoRow : OpenClaim := { program := "ytipmgfbncfkmiaa", sum := "27e3a7087b5ae97a9bf94db7e17a30d076ca5eb157ddbfb8bea3f4e1d9aa9c96", func := "loop.example/realizers/laws.FnPut", spec := "fnPut", unfollowed := true, recurses := true, apart := false, narrowed := true }
def FnPutUptoSaid : Prop := fnPutUptoRow.holds Try.pinned (OpenSpec.upto fnPutSpec)

/-- 'laws.FnStep', WHERE WHAT IT READS IS OF BULK AT MOST 1048576: true; the input reads as it did. -/
def fnStepUptoRow : OpenClaim := { program := "ytipmgfbncfkmiaa", sum := "27e3a7087b5ae97a9bf94db7e17a30d076ca5eb157ddbfb8bea3f4e1d9aa9c96", func := "loop.example/realizers/laws.FnStep", spec := "fnStep", unfollowed := true, recurses := true, apart := false, narrowed := true }
def FnStepUptoSaid : Prop := fnStepUptoRow.holds Try.pinned (OpenSpec.upto fnStepSpec)

/-- 'laws.FnStepMany', WHERE WHAT IT READS IS OF BULK AT MOST 1048576: true; the input reads as it did. -/
def fnStepManyUptoRow : OpenClaim := { program := "ytipmgfbncfkmiaa", sum := "27e3a7087b5ae97a9bf94db7e17a30d076ca5eb157ddbfb8bea3f4e1d9aa9c96", func := "loop.example/realizers/laws.FnStepMany", spec := "fnStepMany", unfollowed := true, recurses := true, apart := false, narrowed := true }
def FnStepManyUptoSaid : Prop := fnStepManyUptoRow.holds Try.pinned (OpenSpec.upto fnStepManySpec)

/-- 'laws.FnNormal', WHERE WHAT IT READS IS OF BULK AT MOST 1048576: true; the input reads as it did. -/
def fnNormalUptoRow : OpenClaim := { program := "ytipmgfbncfkmiaa", sum := "27e3a7087b5ae97a9bf94db7e17a30d076ca5eb157ddbfb8bea3f4e1d9aa9c96", func := "loop.example/realizers/laws.FnNormal", spec := "fnNormal", unfollowed := true, recurses := true, apart := false, narrowed := true }
def FnNormalUptoSaid : Prop := fnNormalUptoRow.holds Try.pinned (OpenSpec.upto fnNormalSpec)

/-- 'laws.FnNormalOf', WHERE WHAT IT READS IS OF BULK AT MOST 1048576: true; the input reads as it did. -/
def fnNormalOfUptoRow : OpenClaim := { program := "ytipmgfbncfkmiaa", sum := "27e3a7087b5ae97a9bf94db7e17a30d076ca5eb157ddbfb8bea3f4e1d9aa9c96", func := "loop.example/realizers/laws.FnNormalOf", spec := "fnNormalOf", unfollowed := true, recurses := true, apart := false, narrowed := true }
def FnNormalOfUptoSaid : Prop := fnNormalOfUptoRow.holds Try.pinned (OpenSpec.upto fnNormalOfSpec)

/-- 'laws.FnApply', WHERE WHAT IT READS IS OF BULK AT MOST 1048576: true; the input reads as it did. -/
def fnApplyUptoRow : OpenClaim := { program := "ytipmgfbncfkmiaa", sum := "27e3a7087b5ae97a9bf94db7e17a30d076ca5eb157ddbfb8bea3f4e1d9aa9c96", func := "loop.example/realizers/laws.FnApply", spec := "fnApply", unfollowed := true, recurses := true, apart := false, narrowed := true }
def FnApplyUptoSaid : Prop := fnApplyUptoRow.holds Try.pinned (OpenSpec.upto fnApplySpec)

/-- 'laws.FnEqual', WHERE WHAT IT READS IS OF BULK AT MOST 1048576: true; the input reads as it did. -/
def fnEqualUptoRow : OpenClaim := { program := "ytipmgfbncfkmiaa", sum := "27e3a7087b5ae97a9bf94db7e17a30d076ca5eb157ddbfb8bea3f4e1d9aa9c96", func := "loop.example/realizers/laws.FnEqual", spec := "fnEqual", unfollowed := true, recurses := true, apart := false, narrowed := true }
def FnEqualUptoSaid : Prop := fnEqualUptoRow.holds Try.pinned (OpenSpec.upto fnEqualSpec)

/-- 'laws.FnPair', WHERE WHAT IT READS IS OF BULK AT MOST 1048576: true; the input reads as it did. -/
def fnPairUptoRow : OpenClaim := { program := "ytipmgfbncfkmiaa", sum := "27e3a7087b5ae97a9bf94db7e17a30d076ca5eb157ddbfb8bea3f4e1d9aa9c96", func := "loop.example/realizers/laws.FnPair", spec := "fnPair", unfollowed := true, recurses := true, apart := false, narrowed := true }
def FnPairUptoSaid : Prop := fnPairUptoRow.holds Try.pinned (OpenSpec.upto fnPairSpec)

/-- 'laws.FnNumber', WHERE WHAT IT READS IS OF BULK AT MOST 1048576: true; the input reads as it did. -/
def fnNumberUptoRow : OpenClaim := { program := "ytipmgfbncfkmiaa", sum := "27e3a7087b5ae97a9bf94db7e17a30d076ca5eb157ddbfb8bea3f4e1d9aa9c96", func := "loop.example/realizers/laws.FnNumber", spec := "fnNumber", unfollowed := true, recurses := true, apart := false, narrowed := true }
def FnNumberUptoSaid : Prop := fnNumberUptoRow.holds Try.pinned (OpenSpec.upto fnNumberSpec)

/-- 'laws.FnExactTrackIs', WHERE WHAT IT READS IS OF BULK AT MOST 1048576: true; the input reads as it did. -/
def fnExactTrackIsUptoRow : OpenClaim := { program := "ytipmgfbncfkmiaa", sum := "27e3a7087b5ae97a9bf94db7e17a30d076ca5eb157ddbfb8bea3f4e1d9aa9c96", func := "loop.example/realizers/laws.FnExactTrackIs", spec := "fnExactTrackIs", unfollowed := true, recurses := true, apart := false, narrowed := true }
def FnExactTrackIsUptoSaid : Prop := fnExactTrackIsUptoRow.holds Try.pinned (OpenSpec.upto fnExactTrackIsSpec)

end Rows
end Go.Proofs.Ytipmgfbncfkmiaa
