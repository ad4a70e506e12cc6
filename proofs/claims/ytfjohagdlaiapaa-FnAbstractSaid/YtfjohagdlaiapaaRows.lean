/-
  No cell of these rows narrows 'for every input' (looked for: loops, veiled, ifaces, maps, wideKeys, modest, calm, conditions, laid).
  DERIVED. THE GIVEN ROWS OF THIS SEAT. 5 by the template 'for every input the law returns true; each argument reads behind the call as it read before'; 0 by the template 'total and deterministic' (their statements: YtfjohagdlaiapaaTotals.lean).
  GIVEN WITH THE SEED: the statements are not yours to turn. If you find one false, say at which input.
  Laid BY PROGRAM, IN A SANDBOX (cutbox-rows.mjs): the forced cells as the released guide's own fill.sh prints them over the translation 9d232da68f7c1ace… (all of the seat's roots in one cut). By AI agents, Wed Nov 11 2026. No macro, syntax, notation, axiom, sorry.
-/
import Derived.Test.YtfjohagdlaiapaaChecked
import GoSem.Claim
import GoSem.ClaimJoined
import GoSem.ClaimMapViews
import Derived.JoinedTies
import Derived.KernelRfl
namespace Go.Proofs.Ytfjohagdlaiapaa
/- THE CELL 'sum', in the pinned program and in every row, IS THE sha256 OF THE DUMP (.gsa) THAT YtfjohagdlaiapaaProg.lean LOADS. Nothing in Lean hashes anything: it is a label: what it is worth is what the hold of that sum in a sandbox is worth. -/
noncomputable def Try.pinned : Pinned := { name := "ytfjohagdlaiapaa", sum := "9d232da68f7c1acef3e20619783250382e7b4533fc14e227cb88be5d61008dc1", checked := Try.checked }
namespace Rows
def none {H : Type} : Left H := { results := [], args := [] }

/-- 'laws.FnAbstract': WHATEVER THE INPUT: true; the input reads as it did. -/
def fnAbstractSpec : ChangeSpec := { name := "fnAbstract", fn := fun _ => fun
  | [d] => { results := [.lit (.bool true)], args := [d] }
  | _ => none }
def fnAbstractRow : OpenClaim := { program := "ytfjohagdlaiapaa", sum := "9d232da68f7c1acef3e20619783250382e7b4533fc14e227cb88be5d61008dc1", func := "loop.example/realizers/laws.FnAbstract", spec := "fnAbstract", unfollowed := true, recurses := true, apart := false }
def FnAbstractSaid : Prop := fnAbstractRow.holds Try.pinned (OpenSpec.ofChange fnAbstractSpec)

/-- ITS FALSE NEIGHBOUR: 'it returns false'. Refute it at one input. -/
def fnAbstractWrong : ChangeSpec := { name := "fnAbstract", fn := fun _ => fun
  | [d] => { results := [.lit (.bool false)], args := [d] }
  | _ => none }
def FnAbstractWrongFalsely : Prop := fnAbstractRow.holds Try.pinned (OpenSpec.ofChange fnAbstractWrong)

/-- 'laws.FnCode': WHATEVER THE INPUT: true; the input reads as it did. -/
def fnCodeSpec : ChangeSpec := { name := "fnCode", fn := fun _ => fun
  | [d] => { results := [.lit (.bool true)], args := [d] }
  | _ => none }
def fnCodeRow : OpenClaim := { program := "ytfjohagdlaiapaa", sum := "9d232da68f7c1acef3e20619783250382e7b4533fc14e227cb88be5d61008dc1", func := "loop.example/realizers/laws.FnCode", spec := "fnCode", unfollowed := true, recurses := true, apart := false }
def FnCodeSaid : Prop := fnCodeRow.holds Try.pinned (OpenSpec.ofChange fnCodeSpec)

/-- ITS FALSE NEIGHBOUR: 'it returns false'. Refute it at one input. -/
def fnCodeWrong : ChangeSpec := { name := "fnCode", fn := fun _ => fun
  | [d] => { results := [.lit (.bool false)], args := [d] }
  | _ => none }
def FnCodeWrongFalsely : Prop := fnCodeRow.holds Try.pinned (OpenSpec.ofChange fnCodeWrong)

/-- 'laws.FnWords': WHATEVER THE INPUT: true; the input reads as it did. -/
def fnWordsSpec : ChangeSpec := { name := "fnWords", fn := fun _ => fun
  | [d] => { results := [.lit (.bool true)], args := [d] }
  | _ => none }
def fnWordsRow : OpenClaim := { program := "ytfjohagdlaiapaa", sum := "9d232da68f7c1acef3e20619783250382e7b4533fc14e227cb88be5d61008dc1", func := "loop.example/realizers/laws.FnWords", spec := "fnWords", unfollowed := true, recurses := true, apart := false }
def FnWordsSaid : Prop := fnWordsRow.holds Try.pinned (OpenSpec.ofChange fnWordsSpec)

/-- ITS FALSE NEIGHBOUR: 'it returns false'. Refute it at one input. -/
def fnWordsWrong : ChangeSpec := { name := "fnWords", fn := fun _ => fun
  | [d] => { results := [.lit (.bool false)], args := [d] }
  | _ => none }
def FnWordsWrongFalsely : Prop := fnWordsRow.holds Try.pinned (OpenSpec.ofChange fnWordsWrong)

/-- 'laws.FnFix': WHATEVER THE INPUT: true; the input reads as it did. -/
def fnFixSpec : ChangeSpec := { name := "fnFix", fn := fun _ => fun
  | [d] => { results := [.lit (.bool true)], args := [d] }
  | _ => none }
def fnFixRow : OpenClaim := { program := "ytfjohagdlaiapaa", sum := "9d232da68f7c1acef3e20619783250382e7b4533fc14e227cb88be5d61008dc1", func := "loop.example/realizers/laws.FnFix", spec := "fnFix", unfollowed := true, recurses := true, apart := false }
def FnFixSaid : Prop := fnFixRow.holds Try.pinned (OpenSpec.ofChange fnFixSpec)

/-- ITS FALSE NEIGHBOUR: 'it returns false'. Refute it at one input. -/
def fnFixWrong : ChangeSpec := { name := "fnFix", fn := fun _ => fun
  | [d] => { results := [.lit (.bool false)], args := [d] }
  | _ => none }
def FnFixWrongFalsely : Prop := fnFixRow.holds Try.pinned (OpenSpec.ofChange fnFixWrong)

/-- 'laws.FnFixApply': WHATEVER THE INPUT: true; the input reads as it did. -/
def fnFixApplySpec : ChangeSpec := { name := "fnFixApply", fn := fun _ => fun
  | [d] => { results := [.lit (.bool true)], args := [d] }
  | _ => none }
def fnFixApplyRow : OpenClaim := { program := "ytfjohagdlaiapaa", sum := "9d232da68f7c1acef3e20619783250382e7b4533fc14e227cb88be5d61008dc1", func := "loop.example/realizers/laws.FnFixApply", spec := "fnFixApply", unfollowed := true, recurses := true, apart := false }
def FnFixApplySaid : Prop := fnFixApplyRow.holds Try.pinned (OpenSpec.ofChange fnFixApplySpec)

/-- ITS FALSE NEIGHBOUR: 'it returns false'. Refute it at one input. -/
def fnFixApplyWrong : ChangeSpec := { name := "fnFixApply", fn := fun _ => fun
  | [d] => { results := [.lit (.bool false)], args := [d] }
  | _ => none }
def FnFixApplyWrongFalsely : Prop := fnFixApplyRow.holds Try.pinned (OpenSpec.ofChange fnFixApplyWrong)

/- THE SECOND FORM. 'bulk': how many values and letters a reading holds, each counted each time it is reached (what is shared counts as often as it is met; a slice's spare places count too). A statement '..UptoSaid' is the law's where the arguments, and the package variables that the reading takes, are together of bulk at most 1048576: NARROWER than '..Said'. Prove '..Said' where nothing that the law and all that it calls make is longer than what came in: it says more and counts as full. Else prove '..UptoSaid'. A law counts once. -/
mutual
def uptoBulk {H : Type} : DataW H → Nat
  | .lit (.string bytes) => bytes.length + 1
  | .lit _ => 1
  | .nil => 1
  | .ptr d => uptoBulk d + 1
  | .slice elems spare => uptoBulkAll elems + uptoBulkAll spare + 1
  | .agg parts => uptoBulkAll parts + 1
  | .iface _ d => uptoBulk d + 1
  | .map entries => uptoBulkEntries entries + 1
  | .held _ => 1
def uptoBulkAll {H : Type} : List (DataW H) → Nat
  | [] => 0
  | d :: r => uptoBulk d + uptoBulkAll r
def uptoBulkEntries {H : Type} : List (Lit × DataW H) → Nat
  | [] => 0
  | x :: r => uptoBulkEntry x + uptoBulkEntries r
def uptoBulkEntry {H : Type} : Lit × DataW H → Nat
  | (.string bytes, d) => bytes.length + uptoBulk d + 1
  | (_, d) => uptoBulk d + 1
 end
def uptoSmall : (H : Type) → List (DataW H) → Bool := fun _ ds => decide (uptoBulkAll ds ≤ 1048576)
def OpenSpec.upto (s : _root_.Go.ChangeSpec) : _root_.Go.OpenSpec := { _root_.Go.OpenSpec.ofChange s with cond := some uptoSmall }

/-- 'laws.FnAbstract', WHERE WHAT IT READS IS OF BULK AT MOST 1048576: true; the input reads as it did. -/
def fnAbstractUptoRow : OpenClaim := { program := "ytfjohagdlaiapaa", sum := "9d232da68f7c1acef3e20619783250382e7b4533fc14e227cb88be5d61008dc1", func := "loop.example/realizers/laws.FnAbstract", spec := "fnAbstract", unfollowed := true, recurses := true, apart := false, narrowed := true }
def FnAbstractUptoSaid : Prop := fnAbstractUptoRow.holds Try.pinned (OpenSpec.upto fnAbstractSpec)

/-- 'laws.FnCode', WHERE WHAT IT READS IS OF BULK AT MOST 1048576: true; the input reads as it did. -/
def fnCodeUptoRow : OpenClaim := { program := "ytfjohagdlaiapaa", sum := "9d232da68f7c1acef3e20619783250382e7b4533fc14e227cb88be5d61008dc1", func := "loop.example/realizers/laws.FnCode", spec := "fnCode", unfollowed := true, recurses := true, apart := false, narrowed := true }
def FnCodeUptoSaid : Prop := fnCodeUptoRow.holds Try.pinned (OpenSpec.upto fnCodeSpec)

/-- 'laws.FnWords', WHERE WHAT IT READS IS OF BULK AT MOST 1048576: true; the input reads as it did. -/
def fnWordsUptoRow : OpenClaim := { program := "ytfjohagdlaiapaa", sum := "9d232da68f7c1acef3e20619783250382e7b4533fc14e227cb88be5d61008dc1", func := "loop.example/realizers/laws.FnWords", spec := "fnWords", unfollowed := true, recurses := true, apart := false, narrowed := true }
def FnWordsUptoSaid : Prop := fnWordsUptoRow.holds Try.pinned (OpenSpec.upto fnWordsSpec)

/-- 'laws.FnFix', WHERE WHAT IT READS IS OF BULK AT MOST 1048576: true; the input reads as it did. -/
def fnFixUptoRow : OpenClaim := { program := "ytfjohagdlaiapaa", sum := "9d232da68f7c1acef3e20619783250382e7b4533fc14e227cb88be5d61008dc1", func := "loop.example/realizers/laws.FnFix", spec := "fnFix", unfollowed := true, recurses := true, apart := false, narrowed := true }
def FnFixUptoSaid : Prop := fnFixUptoRow.holds Try.pinned (OpenSpec.upto fnFixSpec)

/-- 'laws.FnFixApply', WHERE WHAT IT READS IS OF BULK AT MOST 1048576: true; the input reads as it did. -/
def fnFixApplyUptoRow : OpenClaim := { program := "ytfjohagdlaiapaa", sum := "9d232da68f7c1acef3e20619783250382e7b4533fc14e227cb88be5d61008dc1", func := "loop.example/realizers/laws.FnFixApply", spec := "fnFixApply", unfollowed := true, recurses := true, apart := false, narrowed := true }
def FnFixApplyUptoSaid : Prop := fnFixApplyUptoRow.holds Try.pinned (OpenSpec.upto fnFixApplySpec)

end Rows
end Go.Proofs.Ytfjohagdlaiapaa
