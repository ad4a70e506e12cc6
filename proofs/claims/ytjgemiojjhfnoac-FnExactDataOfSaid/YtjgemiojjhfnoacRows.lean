/-
  No cell of these rows narrows 'for every input' (looked for: loops, veiled, ifaces, maps, wideKeys, modest, calm, conditions, laid).
  DERIVED. THE GIVEN ROWS OF THIS SEAT. 6 by the template 'for every input the law returns true; each argument reads behind the call as it read before'; 0 by the template 'total and deterministic' (their statements: YtjgemiojjhfnoacTotals.lean).
  GIVEN WITH THE SEED: the statements are not yours to turn. If you find one false, say at which input.
  Laid BY PROGRAM, IN A SANDBOX (cutbox-rows.mjs): the forced cells as the released guide's own fill.sh prints them over the translation e7b62fea4dfc8cf1… (all of the seat's roots in one cut). By AI agents, Wed Nov 11 2026. No macro, syntax, notation, axiom, sorry.
-/
import Derived.Test.YtjgemiojjhfnoacChecked
import GoSem.Claim
import GoSem.ClaimJoined
import GoSem.ClaimMapViews
import Derived.JoinedTies
import Derived.KernelRfl
namespace Go.Proofs.Ytjgemiojjhfnoac
/- THE CELL 'sum', in the pinned program and in every row, IS THE sha256 OF THE DUMP (.gsa) THAT YtjgemiojjhfnoacProg.lean LOADS. Nothing in Lean hashes anything: it is a label: what it is worth is what the hold of that sum in a sandbox is worth. -/
noncomputable def Try.pinned : Pinned := { name := "ytjgemiojjhfnoac", sum := "e7b62fea4dfc8cf1fa2b7cf30145778564ef3039f758eb23c70148e3b2b4c71a", checked := Try.checked }
namespace Rows
def none {H : Type} : Left H := { results := [], args := [] }

/-- 'laws.FnExactAbstract': WHATEVER THE INPUT: true; the input reads as it did. -/
def fnExactAbstractSpec : ChangeSpec := { name := "fnExactAbstract", fn := fun _ => fun
  | [d1, d2] => { results := [.lit (.bool true)], args := [d1, d2] }
  | _ => none }
def fnExactAbstractRow : OpenClaim := { program := "ytjgemiojjhfnoac", sum := "e7b62fea4dfc8cf1fa2b7cf30145778564ef3039f758eb23c70148e3b2b4c71a", func := "loop.example/realizers/laws.FnExactAbstract", spec := "fnExactAbstract", unfollowed := true, recurses := true, apart := false }
def FnExactAbstractSaid : Prop := fnExactAbstractRow.holds Try.pinned (OpenSpec.ofChange fnExactAbstractSpec)

/-- ITS FALSE NEIGHBOUR: 'it returns false'. Refute it at one input. -/
def fnExactAbstractWrong : ChangeSpec := { name := "fnExactAbstract", fn := fun _ => fun
  | [d1, d2] => { results := [.lit (.bool false)], args := [d1, d2] }
  | _ => none }
def FnExactAbstractWrongFalsely : Prop := fnExactAbstractRow.holds Try.pinned (OpenSpec.ofChange fnExactAbstractWrong)

/-- 'laws.FnExactDataOf': WHATEVER THE INPUT: true; the input reads as it did. -/
def fnExactDataOfSpec : ChangeSpec := { name := "fnExactDataOf", fn := fun _ => fun
  | [d] => { results := [.lit (.bool true)], args := [d] }
  | _ => none }
def fnExactDataOfRow : OpenClaim := { program := "ytjgemiojjhfnoac", sum := "e7b62fea4dfc8cf1fa2b7cf30145778564ef3039f758eb23c70148e3b2b4c71a", func := "loop.example/realizers/laws.FnExactDataOf", spec := "fnExactDataOf", unfollowed := true, recurses := true, apart := false }
def FnExactDataOfSaid : Prop := fnExactDataOfRow.holds Try.pinned (OpenSpec.ofChange fnExactDataOfSpec)

/-- ITS FALSE NEIGHBOUR: 'it returns false'. Refute it at one input. -/
def fnExactDataOfWrong : ChangeSpec := { name := "fnExactDataOf", fn := fun _ => fun
  | [d] => { results := [.lit (.bool false)], args := [d] }
  | _ => none }
def FnExactDataOfWrongFalsely : Prop := fnExactDataOfRow.holds Try.pinned (OpenSpec.ofChange fnExactDataOfWrong)

/-- 'laws.FnExactPairOf': WHATEVER THE INPUT: true; the input reads as it did. -/
def fnExactPairOfSpec : ChangeSpec := { name := "fnExactPairOf", fn := fun _ => fun
  | [d1, d2] => { results := [.lit (.bool true)], args := [d1, d2] }
  | _ => none }
def fnExactPairOfRow : OpenClaim := { program := "ytjgemiojjhfnoac", sum := "e7b62fea4dfc8cf1fa2b7cf30145778564ef3039f758eb23c70148e3b2b4c71a", func := "loop.example/realizers/laws.FnExactPairOf", spec := "fnExactPairOf", unfollowed := true, recurses := true, apart := false }
def FnExactPairOfSaid : Prop := fnExactPairOfRow.holds Try.pinned (OpenSpec.ofChange fnExactPairOfSpec)

/-- ITS FALSE NEIGHBOUR: 'it returns false'. Refute it at one input. -/
def fnExactPairOfWrong : ChangeSpec := { name := "fnExactPairOf", fn := fun _ => fun
  | [d1, d2] => { results := [.lit (.bool false)], args := [d1, d2] }
  | _ => none }
def FnExactPairOfWrongFalsely : Prop := fnExactPairOfRow.holds Try.pinned (OpenSpec.ofChange fnExactPairOfWrong)

/-- 'laws.FnExactPairParts': WHATEVER THE INPUT: true; the input reads as it did. -/
def fnExactPairPartsSpec : ChangeSpec := { name := "fnExactPairParts", fn := fun _ => fun
  | [d] => { results := [.lit (.bool true)], args := [d] }
  | _ => none }
def fnExactPairPartsRow : OpenClaim := { program := "ytjgemiojjhfnoac", sum := "e7b62fea4dfc8cf1fa2b7cf30145778564ef3039f758eb23c70148e3b2b4c71a", func := "loop.example/realizers/laws.FnExactPairParts", spec := "fnExactPairParts", unfollowed := true, recurses := true, apart := false }
def FnExactPairPartsSaid : Prop := fnExactPairPartsRow.holds Try.pinned (OpenSpec.ofChange fnExactPairPartsSpec)

/-- ITS FALSE NEIGHBOUR: 'it returns false'. Refute it at one input. -/
def fnExactPairPartsWrong : ChangeSpec := { name := "fnExactPairParts", fn := fun _ => fun
  | [d] => { results := [.lit (.bool false)], args := [d] }
  | _ => none }
def FnExactPairPartsWrongFalsely : Prop := fnExactPairPartsRow.holds Try.pinned (OpenSpec.ofChange fnExactPairPartsWrong)

/-- 'laws.FnExactNumberOf': WHATEVER THE INPUT: true; the input reads as it did. -/
def fnExactNumberOfSpec : ChangeSpec := { name := "fnExactNumberOf", fn := fun _ => fun
  | [d] => { results := [.lit (.bool true)], args := [d] }
  | _ => none }
def fnExactNumberOfRow : OpenClaim := { program := "ytjgemiojjhfnoac", sum := "e7b62fea4dfc8cf1fa2b7cf30145778564ef3039f758eb23c70148e3b2b4c71a", func := "loop.example/realizers/laws.FnExactNumberOf", spec := "fnExactNumberOf", unfollowed := true, recurses := true, apart := false }
def FnExactNumberOfSaid : Prop := fnExactNumberOfRow.holds Try.pinned (OpenSpec.ofChange fnExactNumberOfSpec)

/-- ITS FALSE NEIGHBOUR: 'it returns false'. Refute it at one input. -/
def fnExactNumberOfWrong : ChangeSpec := { name := "fnExactNumberOf", fn := fun _ => fun
  | [d] => { results := [.lit (.bool false)], args := [d] }
  | _ => none }
def FnExactNumberOfWrongFalsely : Prop := fnExactNumberOfRow.holds Try.pinned (OpenSpec.ofChange fnExactNumberOfWrong)

/-- 'laws.FnExactNumberRead': WHATEVER THE INPUT: true; the input reads as it did. -/
def fnExactNumberReadSpec : ChangeSpec := { name := "fnExactNumberRead", fn := fun _ => fun
  | [d] => { results := [.lit (.bool true)], args := [d] }
  | _ => none }
def fnExactNumberReadRow : OpenClaim := { program := "ytjgemiojjhfnoac", sum := "e7b62fea4dfc8cf1fa2b7cf30145778564ef3039f758eb23c70148e3b2b4c71a", func := "loop.example/realizers/laws.FnExactNumberRead", spec := "fnExactNumberRead", unfollowed := true, recurses := true, apart := false }
def FnExactNumberReadSaid : Prop := fnExactNumberReadRow.holds Try.pinned (OpenSpec.ofChange fnExactNumberReadSpec)

/-- ITS FALSE NEIGHBOUR: 'it returns false'. Refute it at one input. -/
def fnExactNumberReadWrong : ChangeSpec := { name := "fnExactNumberRead", fn := fun _ => fun
  | [d] => { results := [.lit (.bool false)], args := [d] }
  | _ => none }
def FnExactNumberReadWrongFalsely : Prop := fnExactNumberReadRow.holds Try.pinned (OpenSpec.ofChange fnExactNumberReadWrong)

/- THE SECOND FORM. 'bulk': how many values and letters a reading holds, each counted each time it is reached (what is shared counts as often as it is met; a slice's spare places count too). A statement '..UptoSaid' is the law's where the arguments, and the package variables that the reading takes, are together of bulk at most 1048576: NARROWER than '..Said'. Prove '..Said' where nothing that the law and all that it calls make is longer than what came in: it says more and counts as full. Else prove '..UptoSaid'. A law counts once. -/
mutual
def uptoBulk {H : Type} : DataW H → Nat
  | .lit (.string bytes) => bytes.length + 1
  | .lit _ => 1
  | .nil => 1
  | .ptr d => uptoBulk d + 1
  | .slice elems spare => uptoBulkAll elems + uptoBulkAll spare + 1
  | .agg parts => uptoBulkAll parts + 1
  | .iface _ d => uptoBulk d + 1
  | .map entries => uptoBulkEntries entries + 1
  | .held _ => 1
def uptoBulkAll {H : Type} : List (DataW H) → Nat
  | [] => 0
  | d :: r => uptoBulk d + uptoBulkAll r
def uptoBulkEntries {H : Type} : List (Lit × DataW H) → Nat
  | [] => 0
  | x :: r => uptoBulkEntry x + uptoBulkEntries r
def uptoBulkEntry {H : Type} : Lit × DataW H → Nat
  | (.string bytes, d) => bytes.length + uptoBulk d + 1
  | (_, d) => uptoBulk d + 1
 end
def uptoSmall : (H : Type) → List (DataW H) → Bool := fun _ ds => decide (uptoBulkAll ds ≤ 1048576)
def OpenSpec.upto (s : _root_.Go.ChangeSpec) : _root_.Go.OpenSpec := { _root_.Go.OpenSpec.ofChange s with cond := some uptoSmall }

/-- 'laws.FnExactAbstract', WHERE WHAT IT READS IS OF BULK AT MOST 1048576: true; the input reads as it did. -/
def fnExactAbstractUptoRow : OpenClaim := { program := "ytjgemiojjhfnoac", sum := "e7b62fea4dfc8cf1fa2b7cf30145778564ef3039f758eb23c70148e3b2b4c71a", func := "loop.example/realizers/laws.FnExactAbstract", spec := "fnExactAbstract", unfollowed := true, recurses := true, apart := false, narrowed := true }
def FnExactAbstractUptoSaid : Prop := fnExactAbstractUptoRow.holds Try.pinned (OpenSpec.upto fnExactAbstractSpec)

/-- 'laws.FnExactDataOf', WHERE WHAT IT READS IS OF BULK AT MOST 1048576: true; the input reads as it did. -/
def fnExactDataOfUptoRow : OpenClaim := { program := "ytjgemiojjhfnoac", sum := "e7b62fea4dfc8cf1fa2b7cf30145778564ef3039f758eb23c70148e3b2b4c71a", func := "loop.example/realizers/laws.FnExactDataOf", spec := "fnExactDataOf", unfollowed := true, recurses := true, apart := false, narrowed := true }
def FnExactDataOfUptoSaid : Prop := fnExactDataOfUptoRow.holds Try.pinned (OpenSpec.upto fnExactDataOfSpec)

/-- 'laws.FnExactPairOf', WHERE WHAT IT READS IS OF BULK AT MOST 1048576: true; the input reads as it did. -/
def fnExactPairOfUptoRow : OpenClaim := { program := "ytjgemiojjhfnoac", sum := "e7b62fea4dfc8cf1fa2b7cf30145778564ef3039f758eb23c70148e3b2b4c71a", func := "loop.example/realizers/laws.FnExactPairOf", spec := "fnExactPairOf", unfollowed := true, recurses := true, apart := false, narrowed := true }
def FnExactPairOfUptoSaid : Prop := fnExactPairOfUptoRow.holds Try.pinned (OpenSpec.upto fnExactPairOfSpec)

/-- 'laws.FnExactPairParts', WHERE WHAT IT READS IS OF BULK AT MOST 1048576: true; the input reads as it did. -/
def fnExactPairPartsUptoRow : OpenClaim := { program := "ytjgemiojjhfnoac", sum := "e7b62fea4dfc8cf1fa2b7cf30145778564ef3039f758eb23c70148e3b2b4c71a", func := "loop.example/realizers/laws.FnExactPairParts", spec := "fnExactPairParts", unfollowed := true, recurses := true, apart := false, narrowed := true }
def FnExactPairPartsUptoSaid : Prop := fnExactPairPartsUptoRow.holds Try.pinned (OpenSpec.upto fnExactPairPartsSpec)

/-- 'laws.FnExactNumberOf', WHERE WHAT IT READS IS OF BULK AT MOST 1048576: true; the input reads as it did. -/
def fnExactNumberOfUptoRow : OpenClaim := { program := "ytjgemiojjhfnoac", sum := "e7b62fea4dfc8cf1fa2b7cf30145778564ef3039f758eb23c70148e3b2b4c71a", func := "loop.example/realizers/laws.FnExactNumberOf", spec := "fnExactNumberOf", unfollowed := true, recurses := true, apart := false, narrowed := true }
def FnExactNumberOfUptoSaid : Prop := fnExactNumberOfUptoRow.holds Try.pinned (OpenSpec.upto fnExactNumberOfSpec)

/-- 'laws.FnExactNumberRead', WHERE WHAT IT READS IS OF BULK AT MOST 1048576: true; the input reads as it did. -/
def fnExactNumberReadUptoRow : OpenClaim := { program := "ytjgemiojjhfnoac", sum := "e7b62fea4dfc8cf1fa2b7cf30145778564ef3039f758eb23c70148e3b2b4c71a", func := "loop.example/realizers/laws.FnExactNumberRead", spec := "fnExactNumberRead", unfollowed := true, recurses := true, apart := false, narrowed := true }
def FnExactNumberReadUptoSaid : Prop := fnExactNumberReadUptoRow.holds Try.pinned (OpenSpec.upto fnExactNumberReadSpec)

end Rows
end Go.Proofs.Ytjgemiojjhfnoac
