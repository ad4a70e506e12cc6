/-
  No cell of these rows narrows 'for every input' (looked for: loops, veiled, ifaces, maps, wideKeys, modest, calm, conditions, laid).
  DERIVED. THE GIVEN ROWS OF THIS SEAT. 7 by the template 'for every input the law returns true; each argument reads behind the call as it read before'; 0 by the template 'total and deterministic' (their statements: YtfpekihdoclncaaTotals.lean).
  GIVEN WITH THE SEED: the statements are not yours to turn. If you find one false, say at which input.
  Laid BY PROGRAM, IN A SANDBOX (cutbox-rows.mjs): the forced cells as the released guide's own fill.sh prints them over the translation 00c4386a3c5e4f38… (all of the seat's roots in one cut). By AI agents, Wed Nov 11 2026. No macro, syntax, notation, axiom, sorry.
-/
import Derived.Test.YtfpekihdoclncaaChecked
import GoSem.Claim
import GoSem.ClaimJoined
import GoSem.ClaimMapViews
import Derived.JoinedTies
import Derived.KernelRfl
namespace Go.Proofs.Ytfpekihdoclncaa
/- THE CELL 'sum', in the pinned program and in every row, IS THE sha256 OF THE DUMP (.gsa) THAT YtfpekihdoclncaaProg.lean LOADS. Nothing in Lean hashes anything: it is a label: what it is worth is what the hold of that sum in a sandbox is worth. -/
noncomputable def Try.pinned : Pinned := { name := "ytfpekihdoclncaa", sum := "00c4386a3c5e4f389ee9007d0b9c31684eb736b18e0cd3ecedfbf71f9d4f3442", checked := Try.checked }
namespace Rows
def none {H : Type} : Left H := { results := [], args := [] }

/-- 'laws.FnExactApplyOf': WHATEVER THE INPUT: true; the input reads as it did. -/
def fnExactApplyOfSpec : ChangeSpec := { name := "fnExactApplyOf", fn := fun _ => fun
  | [d1, d2] => { results := [.lit (.bool true)], args := [d1, d2] }
  | _ => none }
def fnExactApplyOfRow : OpenClaim := { program := "ytfpekihdoclncaa", sum := "00c4386a3c5e4f389ee9007d0b9c31684eb736b18e0cd3ecedfbf71f9d4f3442", func := "loop.example/realizers/laws.FnExactApplyOf", spec := "fnExactApplyOf", unfollowed := true, recurses := true, apart := false }
def FnExactApplyOfSaid : Prop := fnExactApplyOfRow.holds Try.pinned (OpenSpec.ofChange fnExactApplyOfSpec)

/-- ITS FALSE NEIGHBOUR: 'it returns false'. Refute it at one input. -/
def fnExactApplyOfWrong : ChangeSpec := { name := "fnExactApplyOf", fn := fun _ => fun
  | [d1, d2] => { results := [.lit (.bool false)], args := [d1, d2] }
  | _ => none }
def FnExactApplyOfWrongFalsely : Prop := fnExactApplyOfRow.holds Try.pinned (OpenSpec.ofChange fnExactApplyOfWrong)

/-- 'laws.FnExactCodeOf': WHATEVER THE INPUT: true; the input reads as it did. -/
def fnExactCodeOfSpec : ChangeSpec := { name := "fnExactCodeOf", fn := fun _ => fun
  | [d] => { results := [.lit (.bool true)], args := [d] }
  | _ => none }
def fnExactCodeOfRow : OpenClaim := { program := "ytfpekihdoclncaa", sum := "00c4386a3c5e4f389ee9007d0b9c31684eb736b18e0cd3ecedfbf71f9d4f3442", func := "loop.example/realizers/laws.FnExactCodeOf", spec := "fnExactCodeOf", unfollowed := true, recurses := true, apart := false }
def FnExactCodeOfSaid : Prop := fnExactCodeOfRow.holds Try.pinned (OpenSpec.ofChange fnExactCodeOfSpec)

/-- ITS FALSE NEIGHBOUR: 'it returns false'. Refute it at one input. -/
def fnExactCodeOfWrong : ChangeSpec := { name := "fnExactCodeOf", fn := fun _ => fun
  | [d] => { results := [.lit (.bool false)], args := [d] }
  | _ => none }
def FnExactCodeOfWrongFalsely : Prop := fnExactCodeOfRow.holds Try.pinned (OpenSpec.ofChange fnExactCodeOfWrong)

/-- 'laws.FnExactCodeRun': WHATEVER THE INPUT: true; the input reads as it did. -/
def fnExactCodeRunSpec : ChangeSpec := { name := "fnExactCodeRun", fn := fun _ => fun
  | [d] => { results := [.lit (.bool true)], args := [d] }
  | _ => none }
def fnExactCodeRunRow : OpenClaim := { program := "ytfpekihdoclncaa", sum := "00c4386a3c5e4f389ee9007d0b9c31684eb736b18e0cd3ecedfbf71f9d4f3442", func := "loop.example/realizers/laws.FnExactCodeRun", spec := "fnExactCodeRun", unfollowed := true, recurses := true, apart := false }
def FnExactCodeRunSaid : Prop := fnExactCodeRunRow.holds Try.pinned (OpenSpec.ofChange fnExactCodeRunSpec)

/-- ITS FALSE NEIGHBOUR: 'it returns false'. Refute it at one input. -/
def fnExactCodeRunWrong : ChangeSpec := { name := "fnExactCodeRun", fn := fun _ => fun
  | [d] => { results := [.lit (.bool false)], args := [d] }
  | _ => none }
def FnExactCodeRunWrongFalsely : Prop := fnExactCodeRunRow.holds Try.pinned (OpenSpec.ofChange fnExactCodeRunWrong)

/-- 'laws.FnExactCodeJoin': WHATEVER THE INPUT: true; the input reads as it did. -/
def fnExactCodeJoinSpec : ChangeSpec := { name := "fnExactCodeJoin", fn := fun _ => fun
  | [d1, d2] => { results := [.lit (.bool true)], args := [d1, d2] }
  | _ => none }
def fnExactCodeJoinRow : OpenClaim := { program := "ytfpekihdoclncaa", sum := "00c4386a3c5e4f389ee9007d0b9c31684eb736b18e0cd3ecedfbf71f9d4f3442", func := "loop.example/realizers/laws.FnExactCodeJoin", spec := "fnExactCodeJoin", unfollowed := true, recurses := true, apart := false }
def FnExactCodeJoinSaid : Prop := fnExactCodeJoinRow.holds Try.pinned (OpenSpec.ofChange fnExactCodeJoinSpec)

/-- ITS FALSE NEIGHBOUR: 'it returns false'. Refute it at one input. -/
def fnExactCodeJoinWrong : ChangeSpec := { name := "fnExactCodeJoin", fn := fun _ => fun
  | [d1, d2] => { results := [.lit (.bool false)], args := [d1, d2] }
  | _ => none }
def FnExactCodeJoinWrongFalsely : Prop := fnExactCodeJoinRow.holds Try.pinned (OpenSpec.ofChange fnExactCodeJoinWrong)

/-- 'laws.FnExactCodeQuote': WHATEVER THE INPUT: true; the input reads as it did. -/
def fnExactCodeQuoteSpec : ChangeSpec := { name := "fnExactCodeQuote", fn := fun _ => fun
  | [d] => { results := [.lit (.bool true)], args := [d] }
  | _ => none }
def fnExactCodeQuoteRow : OpenClaim := { program := "ytfpekihdoclncaa", sum := "00c4386a3c5e4f389ee9007d0b9c31684eb736b18e0cd3ecedfbf71f9d4f3442", func := "loop.example/realizers/laws.FnExactCodeQuote", spec := "fnExactCodeQuote", unfollowed := true, recurses := true, apart := false }
def FnExactCodeQuoteSaid : Prop := fnExactCodeQuoteRow.holds Try.pinned (OpenSpec.ofChange fnExactCodeQuoteSpec)

/-- ITS FALSE NEIGHBOUR: 'it returns false'. Refute it at one input. -/
def fnExactCodeQuoteWrong : ChangeSpec := { name := "fnExactCodeQuote", fn := fun _ => fun
  | [d] => { results := [.lit (.bool false)], args := [d] }
  | _ => none }
def FnExactCodeQuoteWrongFalsely : Prop := fnExactCodeQuoteRow.holds Try.pinned (OpenSpec.ofChange fnExactCodeQuoteWrong)

/-- 'laws.FnExactFixApply': WHATEVER THE INPUT: true; the input reads as it did. -/
def fnExactFixApplySpec : ChangeSpec := { name := "fnExactFixApply", fn := fun _ => fun
  | [d1, d2] => { results := [.lit (.bool true)], args := [d1, d2] }
  | _ => none }
def fnExactFixApplyRow : OpenClaim := { program := "ytfpekihdoclncaa", sum := "00c4386a3c5e4f389ee9007d0b9c31684eb736b18e0cd3ecedfbf71f9d4f3442", func := "loop.example/realizers/laws.FnExactFixApply", spec := "fnExactFixApply", unfollowed := true, recurses := true, apart := false }
def FnExactFixApplySaid : Prop := fnExactFixApplyRow.holds Try.pinned (OpenSpec.ofChange fnExactFixApplySpec)

/-- ITS FALSE NEIGHBOUR: 'it returns false'. Refute it at one input. -/
def fnExactFixApplyWrong : ChangeSpec := { name := "fnExactFixApply", fn := fun _ => fun
  | [d1, d2] => { results := [.lit (.bool false)], args := [d1, d2] }
  | _ => none }
def FnExactFixApplyWrongFalsely : Prop := fnExactFixApplyRow.holds Try.pinned (OpenSpec.ofChange fnExactFixApplyWrong)

/-- 'laws.FnCodeRead': WHATEVER THE INPUT: true; the input reads as it did. -/
def fnCodeReadSpec : ChangeSpec := { name := "fnCodeRead", fn := fun _ => fun
  | [d] => { results := [.lit (.bool true)], args := [d] }
  | _ => none }
def fnCodeReadRow : OpenClaim := { program := "ytfpekihdoclncaa", sum := "00c4386a3c5e4f389ee9007d0b9c31684eb736b18e0cd3ecedfbf71f9d4f3442", func := "loop.example/realizers/laws.FnCodeRead", spec := "fnCodeRead", unfollowed := true, recurses := true, apart := false }
def FnCodeReadSaid : Prop := fnCodeReadRow.holds Try.pinned (OpenSpec.ofChange fnCodeReadSpec)

/-- ITS FALSE NEIGHBOUR: 'it returns false'. Refute it at one input. -/
def fnCodeReadWrong : ChangeSpec := { name := "fnCodeRead", fn := fun _ => fun
  | [d] => { results := [.lit (.bool false)], args := [d] }
  | _ => none }
def FnCodeReadWrongFalsely : Prop := fnCodeReadRow.holds Try.pinned (OpenSpec.ofChange fnCodeReadWrong)

/- THE SECOND FORM. 'bulk': how many values and letters a reading holds, each counted each time it is reached (what is shared counts as often as it is met; a slice's spare places count too). A statement '..UptoSaid' is the law's where the arguments, and the package variables that the reading takes, are together of bulk at most 1048576: NARROWER than '..Said'. Prove '..Said' where nothing that the law and all that it calls make is longer than what came in: it says more and counts as full. Else prove '..UptoSaid'. A law counts once. -/
mutual
def uptoBulk {H : Type} : DataW H → Nat
  | .lit (.string bytes) => bytes.length + 1
  | .lit _ => 1
  | .nil => 1
  | .ptr d => uptoBulk d + 1
  | .slice elems spare => uptoBulkAll elems + uptoBulkAll spare + 1
  | .agg parts => uptoBulkAll parts + 1
  | .iface _ d => uptoBulk d + 1
  | .map entries => uptoBulkEntries entries + 1
  | .held _ => 1
def uptoBulkAll {H : Type} : List (DataW H) → Nat
  | [] => 0
  | d :: r => uptoBulk d + uptoBulkAll r
def uptoBulkEntries {H : Type} : List (Lit × DataW H) → Nat
  | [] => 0
  | x :: r => uptoBulkEntry x + uptoBulkEntries r
def uptoBulkEntry {H : Type} : Lit × DataW H → Nat
  | (.string bytes, d) => bytes.length + uptoBulk d + 1
  | (_, d) => uptoBulk d + 1
 end
def uptoSmall : (H : Type) → List (DataW H) → Bool := fun _ ds => decide (uptoBulkAll ds ≤ 1048576)
def OpenSpec.upto (s : _root_.Go.ChangeSpec) : _root_.Go.OpenSpec := { _root_.Go.OpenSpec.ofChange s with cond := some uptoSmall }

/-- 'laws.FnExactApplyOf', WHERE WHAT IT READS IS OF BULK AT MOST 1048576: true; the input reads as it did. -/
def fnExactApplyOfUptoRow : OpenClaim := { program := "ytfpekihdoclncaa", sum := "00c4386a3c5e4f389ee9007d0b9c31684eb736b18e0cd3ecedfbf71f9d4f3442", func := "loop.example/realizers/laws.FnExactApplyOf", spec := "fnExactApplyOf", unfollowed := true, recurses := true, apart := false, narrowed := true }
def FnExactApplyOfUptoSaid : Prop := fnExactApplyOfUptoRow.holds Try.pinned (OpenSpec.upto fnExactApplyOfSpec)

/-- 'laws.FnExactCodeOf', WHERE WHAT IT READS IS OF BULK AT MOST 1048576: true; the input reads as it did. -/
def fnExactCodeOfUptoRow : OpenClaim := { program := "ytfpekihdoclncaa", sum := "00c4386a3c5e4f389ee9007d0b9c31684eb736b18e0cd3ecedfbf71f9d4f3442", func := "loop.example/realizers/laws.FnExactCodeOf", spec := "fnExactCodeOf", unfollowed := true, recurses := true, apart := false, narrowed := true }
def FnExactCodeOfUptoSaid : Prop := fnExactCodeOfUptoRow.holds Try.pinned (OpenSpec.upto fnExactCodeOfSpec)

/-- 'laws.FnExactCodeRun', WHERE WHAT IT READS IS OF BULK AT MOST 1048576: true; the input reads as it did. -/
def fnExactCodeRunUptoRow : OpenClaim := { program := "ytfpekihdoclncaa", sum := "00c4386a3c5e4f389ee9007d0b9c31684eb736b18e0cd3ecedfbf71f9d4f3442", func := "loop.example/realizers/laws.FnExactCodeRun", spec := "fnExactCodeRun", unfollowed := true, recurses := true, apart := false, narrowed := true }
def FnExactCodeRunUptoSaid : Prop := fnExactCodeRunUptoRow.holds Try.pinned (OpenSpec.upto fnExactCodeRunSpec)

/-- 'laws.FnExactCodeJoin', WHERE WHAT IT READS IS OF BULK AT MOST 1048576: true; the input reads as it did. -/
def fnExactCodeJoinUptoRow : OpenClaim := { program := "ytfpekihdoclncaa", sum := "00c4386a3c5e4f389ee9007d0b9c31684eb736b18e0cd3ecedfbf71f9d4f3442", func := "loop.example/realizers/laws.FnExactCodeJoin", spec := "fnExactCodeJoin", unfollowed := true, recurses := true, apart := false, narrowed := true }
def FnExactCodeJoinUptoSaid : Prop := fnExactCodeJoinUptoRow.holds Try.pinned (OpenSpec.upto fnExactCodeJoinSpec)

/-- 'laws.FnExactCodeQuote', WHERE WHAT IT READS IS OF BULK AT MOST 1048576: true; the input reads as it did. -/
def fnExactCodeQuoteUptoRow : OpenClaim := { program := "ytfpekihdoclncaa", sum := "00c4386a3c5e4f389ee9007d0b9c31684eb736b18e0cd3ecedfbf71f9d4f3442", func := "loop.example/realizers/laws.FnExactCodeQuote", spec := "fnExactCodeQuote", unfollowed := true, recurses := true, apart := false, narrowed := true }
def FnExactCodeQuoteUptoSaid : Prop := fnExactCodeQuoteUptoRow.holds Try.pinned (OpenSpec.upto fnExactCodeQuoteSpec)

/-- 'laws.FnExactFixApply', WHERE WHAT IT READS IS OF BULK AT MOST 1048576: true; the input reads as it did. -/
def fnExactFixApplyUptoRow : OpenClaim := { program := "ytfpekihdoclncaa", sum := "00c4386a3c5e4f389ee9007d0b9c31684eb736b18e0cd3ecedfbf71f9d4f3442", func := "loop.example/realizers/laws.FnExactFixApply", spec := "fnExactFixApply", unfollowed := true, recurses := true, apart := false, narrowed := true }
def FnExactFixApplyUptoSaid : Prop := fnExactFixApplyUptoRow.holds Try.pinned (OpenSpec.upto fnExactFixApplySpec)

/-- 'laws.FnCodeRead', WHERE WHAT IT READS IS OF BULK AT MOST 1048576: true; the input reads as it did. -/
def fnCodeReadUptoRow : OpenClaim := { program := "ytfpekihdoclncaa", sum := "00c4386a3c5e4f389ee9007d0b9c31684eb736b18e0cd3ecedfbf71f9d4f3442", func := "loop.example/realizers/laws.FnCodeRead", spec := "fnCodeRead", unfollowed := true, recurses := true, apart := false, narrowed := true }
def FnCodeReadUptoSaid : Prop := fnCodeReadUptoRow.holds Try.pinned (OpenSpec.upto fnCodeReadSpec)

end Rows
end Go.Proofs.Ytfpekihdoclncaa
