/-
  No cell of these rows narrows 'for every input' (looked for: loops, veiled, ifaces, maps, wideKeys, modest, calm, conditions, laid).
  DERIVED. THE GIVEN ROWS OF THIS SEAT. 6 by the template 'for every input the law returns true; each argument reads behind the call as it read before'; 0 by the template 'total and deterministic' (their statements: YtjgemiojjhfnoaaTotals.lean).
  GIVEN WITH THE SEED: the statements are not yours to turn. If you find one false, say at which input.
  Laid BY PROGRAM, IN A SANDBOX (cutbox-rows.mjs): the forced cells as the released guide's own fill.sh prints them over the translation 718d7b41c45f2bc0… (all of the seat's roots in one cut). By AI agents, Wed Nov 11 2026. No macro, syntax, notation, axiom, sorry.
-/
import Derived.Test.YtjgemiojjhfnoaaChecked
import GoSem.Claim
import GoSem.ClaimJoined
import GoSem.ClaimMapViews
import Derived.JoinedTies
import Derived.KernelRfl
namespace Go.Proofs.Ytjgemiojjhfnoaa
/- THE CELL 'sum', in the pinned program and in every row, IS THE sha256 OF THE DUMP (.gsa) THAT YtjgemiojjhfnoaaProg.lean LOADS. Nothing in Lean hashes anything: it is a label: what it is worth is what the hold of that sum in a sandbox is worth. -/
noncomputable def Try.pinned : Pinned := { name := "ytjgemiojjhfnoaa", sum := "718d7b41c45f2bc0ec5222a7048809053bd33da198b3f3601ed7077e80f5bf07", checked := Try.checked }
namespace Rows
def none {H : Type} : Left H := { results := [], args := [] }

/-- 'laws.FnExactTermValid': WHATEVER THE INPUT: true; the input reads as it did. -/
def fnExactTermValidSpec : ChangeSpec := { name := "fnExactTermValid", fn := fun _ => fun
  | [d] => { results := [.lit (.bool true)], args := [d] }
  | _ => none }
def fnExactTermValidRow : OpenClaim := { program := "ytjgemiojjhfnoaa", sum := "718d7b41c45f2bc0ec5222a7048809053bd33da198b3f3601ed7077e80f5bf07", func := "loop.example/realizers/laws.FnExactTermValid", spec := "fnExactTermValid", unfollowed := true, recurses := true, apart := false }
def FnExactTermValidSaid : Prop := fnExactTermValidRow.holds Try.pinned (OpenSpec.ofChange fnExactTermValidSpec)

/-- ITS FALSE NEIGHBOUR: 'it returns false'. Refute it at one input. -/
def fnExactTermValidWrong : ChangeSpec := { name := "fnExactTermValid", fn := fun _ => fun
  | [d] => { results := [.lit (.bool false)], args := [d] }
  | _ => none }
def FnExactTermValidWrongFalsely : Prop := fnExactTermValidRow.holds Try.pinned (OpenSpec.ofChange fnExactTermValidWrong)

/-- 'laws.FnExactTermSize': WHATEVER THE INPUT: true; the input reads as it did. -/
def fnExactTermSizeSpec : ChangeSpec := { name := "fnExactTermSize", fn := fun _ => fun
  | [d] => { results := [.lit (.bool true)], args := [d] }
  | _ => none }
def fnExactTermSizeRow : OpenClaim := { program := "ytjgemiojjhfnoaa", sum := "718d7b41c45f2bc0ec5222a7048809053bd33da198b3f3601ed7077e80f5bf07", func := "loop.example/realizers/laws.FnExactTermSize", spec := "fnExactTermSize", unfollowed := true, recurses := true, apart := false }
def FnExactTermSizeSaid : Prop := fnExactTermSizeRow.holds Try.pinned (OpenSpec.ofChange fnExactTermSizeSpec)

/-- ITS FALSE NEIGHBOUR: 'it returns false'. Refute it at one input. -/
def fnExactTermSizeWrong : ChangeSpec := { name := "fnExactTermSize", fn := fun _ => fun
  | [d] => { results := [.lit (.bool false)], args := [d] }
  | _ => none }
def FnExactTermSizeWrongFalsely : Prop := fnExactTermSizeRow.holds Try.pinned (OpenSpec.ofChange fnExactTermSizeWrong)

/-- 'laws.FnExactTermNames': WHATEVER THE INPUT: true; the input reads as it did. -/
def fnExactTermNamesSpec : ChangeSpec := { name := "fnExactTermNames", fn := fun _ => fun
  | [d] => { results := [.lit (.bool true)], args := [d] }
  | _ => none }
def fnExactTermNamesRow : OpenClaim := { program := "ytjgemiojjhfnoaa", sum := "718d7b41c45f2bc0ec5222a7048809053bd33da198b3f3601ed7077e80f5bf07", func := "loop.example/realizers/laws.FnExactTermNames", spec := "fnExactTermNames", unfollowed := true, recurses := true, apart := false }
def FnExactTermNamesSaid : Prop := fnExactTermNamesRow.holds Try.pinned (OpenSpec.ofChange fnExactTermNamesSpec)

/-- ITS FALSE NEIGHBOUR: 'it returns false'. Refute it at one input. -/
def fnExactTermNamesWrong : ChangeSpec := { name := "fnExactTermNames", fn := fun _ => fun
  | [d] => { results := [.lit (.bool false)], args := [d] }
  | _ => none }
def FnExactTermNamesWrongFalsely : Prop := fnExactTermNamesRow.holds Try.pinned (OpenSpec.ofChange fnExactTermNamesWrong)

/-- 'laws.FnExactTermClosed': WHATEVER THE INPUT: true; the input reads as it did. -/
def fnExactTermClosedSpec : ChangeSpec := { name := "fnExactTermClosed", fn := fun _ => fun
  | [d] => { results := [.lit (.bool true)], args := [d] }
  | _ => none }
def fnExactTermClosedRow : OpenClaim := { program := "ytjgemiojjhfnoaa", sum := "718d7b41c45f2bc0ec5222a7048809053bd33da198b3f3601ed7077e80f5bf07", func := "loop.example/realizers/laws.FnExactTermClosed", spec := "fnExactTermClosed", unfollowed := true, recurses := true, apart := false }
def FnExactTermClosedSaid : Prop := fnExactTermClosedRow.holds Try.pinned (OpenSpec.ofChange fnExactTermClosedSpec)

/-- ITS FALSE NEIGHBOUR: 'it returns false'. Refute it at one input. -/
def fnExactTermClosedWrong : ChangeSpec := { name := "fnExactTermClosed", fn := fun _ => fun
  | [d] => { results := [.lit (.bool false)], args := [d] }
  | _ => none }
def FnExactTermClosedWrongFalsely : Prop := fnExactTermClosedRow.holds Try.pinned (OpenSpec.ofChange fnExactTermClosedWrong)

/-- 'laws.FnExactTermPut': WHATEVER THE INPUT: true; the input reads as it did. -/
def fnExactTermPutSpec : ChangeSpec := { name := "fnExactTermPut", fn := fun _ => fun
  | [d1, d2, d3] => { results := [.lit (.bool true)], args := [d1, d2, d3] }
  | _ => none }
def fnExactTermPutRow : OpenClaim := { program := "ytjgemiojjhfnoaa", sum := "718d7b41c45f2bc0ec5222a7048809053bd33da198b3f3601ed7077e80f5bf07", func := "loop.example/realizers/laws.FnExactTermPut", spec := "fnExactTermPut", unfollowed := true, recurses := true, apart := false }
def FnExactTermPutSaid : Prop := fnExactTermPutRow.holds Try.pinned (OpenSpec.ofChange fnExactTermPutSpec)

/-- ITS FALSE NEIGHBOUR: 'it returns false'. Refute it at one input. -/
def fnExactTermPutWrong : ChangeSpec := { name := "fnExactTermPut", fn := fun _ => fun
  | [d1, d2, d3] => { results := [.lit (.bool false)], args := [d1, d2, d3] }
  | _ => none }
def FnExactTermPutWrongFalsely : Prop := fnExactTermPutRow.holds Try.pinned (OpenSpec.ofChange fnExactTermPutWrong)

/-- 'laws.FnExactTermStep': WHATEVER THE INPUT: true; the input reads as it did. -/
def fnExactTermStepSpec : ChangeSpec := { name := "fnExactTermStep", fn := fun _ => fun
  | [d] => { results := [.lit (.bool true)], args := [d] }
  | _ => none }
def fnExactTermStepRow : OpenClaim := { program := "ytjgemiojjhfnoaa", sum := "718d7b41c45f2bc0ec5222a7048809053bd33da198b3f3601ed7077e80f5bf07", func := "loop.example/realizers/laws.FnExactTermStep", spec := "fnExactTermStep", unfollowed := true, recurses := true, apart := false }
def FnExactTermStepSaid : Prop := fnExactTermStepRow.holds Try.pinned (OpenSpec.ofChange fnExactTermStepSpec)

/-- ITS FALSE NEIGHBOUR: 'it returns false'. Refute it at one input. -/
def fnExactTermStepWrong : ChangeSpec := { name := "fnExactTermStep", fn := fun _ => fun
  | [d] => { results := [.lit (.bool false)], args := [d] }
  | _ => none }
def FnExactTermStepWrongFalsely : Prop := fnExactTermStepRow.holds Try.pinned (OpenSpec.ofChange fnExactTermStepWrong)

/- THE SECOND FORM. 'bulk': how many values and letters a reading holds, each counted each time it is reached (what is shared counts as often as it is met; a slice's spare places count too). A statement '..UptoSaid' is the law's where the arguments, and the package variables that the reading takes, are together of bulk at most 1048576: NARROWER than '..Said'. Prove '..Said' where nothing that the law and all that it calls make is longer than what came in: it says more and counts as full. Else prove '..UptoSaid'. A law counts once. -/
mutual
def uptoBulk {H : Type} : DataW H → Nat
  | .lit (.string bytes) => bytes.length + 1
  | .lit _ => 1
  | .nil => 1
  | .ptr d => uptoBulk d + 1
  | .slice elems spare => uptoBulkAll elems + uptoBulkAll spare + 1
  | .agg parts => uptoBulkAll parts + 1
  | .iface _ d => uptoBulk d + 1
  | .map entries => uptoBulkEntries entries + 1
  | .held _ => 1
def uptoBulkAll {H : Type} : List (DataW H) → Nat
  | [] => 0
  | d :: r => uptoBulk d + uptoBulkAll r
def uptoBulkEntries {H : Type} : List (Lit × DataW H) → Nat
  | [] => 0
  | x :: r => uptoBulkEntry x + uptoBulkEntries r
def uptoBulkEntry {H : Type} : Lit × DataW H → Nat
  | (.string bytes, d) => bytes.length + uptoBulk d + 1
  | (_, d) => uptoBulk d + 1
 end
def uptoSmall : (H : Type) → List (DataW H) → Bool := fun _ ds => decide (uptoBulkAll ds ≤ 1048576)
def OpenSpec.upto (s : _root_.Go.ChangeSpec) : _root_.Go.OpenSpec := { _root_.Go.OpenSpec.ofChange s with cond := some uptoSmall }

/-- 'laws.FnExactTermValid', WHERE WHAT IT READS IS OF BULK AT MOST 1048576: true; the input reads as it did. -/
def fnExactTermValidUptoRow : OpenClaim := { program := "ytjgemiojjhfnoaa", sum := "718d7b41c45f2bc0ec5222a7048809053bd33da198b3f3601ed7077e80f5bf07", func := "loop.example/realizers/laws.FnExactTermValid", spec := "fnExactTermValid", unfollowed := true, recurses := true, apart := false, narrowed := true }
def FnExactTermValidUptoSaid : Prop := fnExactTermValidUptoRow.holds Try.pinned (OpenSpec.upto fnExactTermValidSpec)

/-- 'laws.FnExactTermSize', WHERE WHAT IT READS IS OF BULK AT MOST 1048576: true; the input reads as it did. -/
def fnExactTermSizeUptoRow : OpenClaim := { program := "ytjgemiojjhfnoaa", sum := "718d7b41c45f2bc0ec5222a7048809053bd33da198b3f3601ed7077e80f5bf07", func := "loop.example/realizers/laws.FnExactTermSize", spec := "fnExactTermSize", unfollowed := true, recurses := true, apart := false, narrowed := true }
def FnExactTermSizeUptoSaid : Prop := fnExactTermSizeUptoRow.holds Try.pinned (OpenSpec.upto fnExactTermSizeSpec)

/-- 'laws.FnExactTermNames', WHERE WHAT IT READS IS OF BULK AT MOST 1048576: true; the input reads as it did. -/
def fnExactTermNamesUptoRow : OpenClaim := { program := "ytjgemiojjhfnoaa", sum := "718d7b41c45f2bc0ec5222a7048809053bd33da198b3f3601ed7077e80f5bf07", func := "loop.example/realizers/laws.FnExactTermNames", spec := "fnExactTermNames", unfollowed := true, recurses := true, apart := false, narrowed := true }
def FnExactTermNamesUptoSaid : Prop := fnExactTermNamesUptoRow.holds Try.pinned (OpenSpec.upto fnExactTermNamesSpec)

/-- 'laws.FnExactTermClosed', WHERE WHAT IT READS IS OF BULK AT MOST 1048576: true; the input reads as it did. -/
def fnExactTermClosedUptoRow : OpenClaim := { program := "ytjgemiojjhfnoaa", sum := "718d7b41c45f2bc0ec5222a7048809053bd33da198b3f3601ed7077e80f5bf07", func := "loop.example/realizers/laws.FnExactTermClosed", spec := "fnExactTermClosed", unfollowed := true, recurses := true, apart := false, narrowed := true }
def FnExactTermClosedUptoSaid : Prop := fnExactTermClosedUptoRow.holds Try.pinned (OpenSpec.upto fnExactTermClosedSpec)

/-- 'laws.FnExactTermPut', WHERE WHAT IT READS IS OF BULK AT MOST 1048576: true; the input reads as it did. -/
def fnExactTermPutUptoRow : OpenClaim := { program := "ytjgemiojjhfnoaa", sum := "718d7b41c45f2bc0ec5222a7048809053bd33da198b3f3601ed7077e80f5bf07", func := "loop.example/realizers/laws.FnExactTermPut", spec := "fnExactTermPut", unfollowed := true, recurses := true, apart := false, narrowed := true }
def FnExactTermPutUptoSaid : Prop := fnExactTermPutUptoRow.holds Try.pinned (OpenSpec.upto fnExactTermPutSpec)

/-- 'laws.FnExactTermStep', WHERE WHAT IT READS IS OF BULK AT MOST 1048576: true; the input reads as it did. -/
def fnExactTermStepUptoRow : OpenClaim := { program := "ytjgemiojjhfnoaa", sum := "718d7b41c45f2bc0ec5222a7048809053bd33da198b3f3601ed7077e80f5bf07", func := "loop.example/realizers/laws.FnExactTermStep", spec := "fnExactTermStep", unfollowed := true, recurses := true, apart := false, narrowed := true }
def FnExactTermStepUptoSaid : Prop := fnExactTermStepUptoRow.holds Try.pinned (OpenSpec.upto fnExactTermStepSpec)

end Rows
end Go.Proofs.Ytjgemiojjhfnoaa
