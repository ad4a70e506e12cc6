/-
  No cell of these rows narrows 'for every input' (looked for: loops, veiled, ifaces, maps, wideKeys, modest, calm, conditions, laid).
  DERIVED. THE GIVEN ROWS OF THIS SEAT. 3 by the template 'for every input the law returns true; each argument reads behind the call as it read before'; 0 by the template 'total and deterministic' (their statements: YtfjohagdlaiapaaGreatTotals.lean).
  GIVEN WITH THE SEED: the statements are not yours to turn. If you find one false, say at which input.
  Laid BY PROGRAM, IN A SANDBOX (cutbox-rows.mjs): the forced cells as the released guide's own fill.sh prints them over the translation ab3bb4fe3948f95c… (all of the seat's roots in one cut). By AI agents, Wed Nov 11 2026. No macro, syntax, notation, axiom, sorry.
-/
import Derived.Test.YtfjohagdlaiapaaGreatChecked
import GoSem.Claim
import GoSem.ClaimJoined
import GoSem.ClaimMapViews
import Derived.JoinedTies
import Derived.KernelRfl
namespace Go.Proofs.YtfjohagdlaiapaaGreat
/- THE CELL 'sum', in the pinned program and in every row, IS THE sha256 OF THE DUMP (.gsa) THAT YtfjohagdlaiapaaGreatProg.lean LOADS. Nothing in Lean hashes anything: it is a label: what it is worth is what the hold of that sum in a sandbox is worth. -/
noncomputable def Tryz.pinned : Pinned := { name := "ytfjohagdlaiapaagreat", sum := "ab3bb4fe3948f95c8ce305c05983927d755b74d7544242d11c18e60fb3688266", checked := Tryz.checked }
namespace Rows
def none {H : Type} : Left H := { results := [], args := [] }

/-- 'laws.FnTotal': WHATEVER THE INPUT: true; the input reads as it did. -/
def fnTotalSpec : ChangeSpec := { name := "fnTotal", fn := fun _ => fun
  | [d] => { results := [.lit (.bool true)], args := [d] }
  | _ => none }
def fnTotalRow : OpenClaim := { program := "ytfjohagdlaiapaagreat", sum := "ab3bb4fe3948f95c8ce305c05983927d755b74d7544242d11c18e60fb3688266", func := "loop.example/realizers/laws.FnTotal", spec := "fnTotal", inPlace := ["internal/bytealg.IndexByteString", "internal/bytealg.IndexString"], unfollowed := true, recurses := true, named := ["internal/bytealg.MaxLen"], apart := false }
def FnTotalSaid : Prop := fnTotalRow.holds Tryz.pinned (OpenSpec.ofChange fnTotalSpec)

/-- ITS FALSE NEIGHBOUR: 'it returns false'. Refute it at one input. -/
def fnTotalWrong : ChangeSpec := { name := "fnTotal", fn := fun _ => fun
  | [d] => { results := [.lit (.bool false)], args := [d] }
  | _ => none }
def FnTotalWrongFalsely : Prop := fnTotalRow.holds Tryz.pinned (OpenSpec.ofChange fnTotalWrong)

/-- 'laws.FnInterpreter': WHATEVER THE INPUT: true; the input reads as it did. -/
def fnInterpreterSpec : ChangeSpec := { name := "fnInterpreter", fn := fun _ => fun
  | [d] => { results := [.lit (.bool true)], args := [d] }
  | _ => none }
def fnInterpreterRow : OpenClaim := { program := "ytfjohagdlaiapaagreat", sum := "ab3bb4fe3948f95c8ce305c05983927d755b74d7544242d11c18e60fb3688266", func := "loop.example/realizers/laws.FnInterpreter", spec := "fnInterpreter", unfollowed := true, recurses := true, apart := false }
def FnInterpreterSaid : Prop := fnInterpreterRow.holds Tryz.pinned (OpenSpec.ofChange fnInterpreterSpec)

/-- ITS FALSE NEIGHBOUR: 'it returns false'. Refute it at one input. -/
def fnInterpreterWrong : ChangeSpec := { name := "fnInterpreter", fn := fun _ => fun
  | [d] => { results := [.lit (.bool false)], args := [d] }
  | _ => none }
def FnInterpreterWrongFalsely : Prop := fnInterpreterRow.holds Tryz.pinned (OpenSpec.ofChange fnInterpreterWrong)

/-- 'laws.FnQuote': WHATEVER THE INPUT: true; the input reads as it did. -/
def fnQuoteSpec : ChangeSpec := { name := "fnQuote", fn := fun _ => fun
  | [d] => { results := [.lit (.bool true)], args := [d] }
  | _ => none }
def fnQuoteRow : OpenClaim := { program := "ytfjohagdlaiapaagreat", sum := "ab3bb4fe3948f95c8ce305c05983927d755b74d7544242d11c18e60fb3688266", func := "loop.example/realizers/laws.FnQuote", spec := "fnQuote", unfollowed := true, recurses := true, apart := false }
def FnQuoteSaid : Prop := fnQuoteRow.holds Tryz.pinned (OpenSpec.ofChange fnQuoteSpec)

/-- ITS FALSE NEIGHBOUR: 'it returns false'. Refute it at one input. -/
def fnQuoteWrong : ChangeSpec := { name := "fnQuote", fn := fun _ => fun
  | [d] => { results := [.lit (.bool false)], args := [d] }
  | _ => none }
def FnQuoteWrongFalsely : Prop := fnQuoteRow.holds Tryz.pinned (OpenSpec.ofChange fnQuoteWrong)

/- THE SECOND FORM. 'bulk': how many values and letters a reading holds, each counted each time it is reached (what is shared counts as often as it is met; a slice's spare places count too). A statement '..UptoSaid' is the law's where the arguments, and the package variables that the reading takes, are together of bulk at most 1048576: NARROWER than '..Said'. Prove '..Said' where nothing that the law and all that it calls make is longer than what came in: it says more and counts as full. Else prove '..UptoSaid'. A law counts once. -/
mutual
def uptoBulk {H : Type} : DataW H → Nat
  | .lit (.string bytes) => bytes.length + 1
  | .lit _ => 1
  | .nil => 1
  | .ptr d => uptoBulk d + 1
  | .slice elems spare => uptoBulkAll elems + uptoBulkAll spare + 1
  | .agg parts => uptoBulkAll parts + 1
  | .iface _ d => uptoBulk d + 1
  | .map entries => uptoBulkEntries entries + 1
  | .held _ => 1
def uptoBulkAll {H : Type} : List (DataW H) → Nat
  | [] => 0
  | d :: r => uptoBulk d + uptoBulkAll r
def uptoBulkEntries {H : Type} : List (Lit × DataW H) → Nat
  | [] => 0
  | x :: r => uptoBulkEntry x + uptoBulkEntries r
def uptoBulkEntry {H : Type} : Lit × DataW H → Nat
  | (.string bytes, d) => bytes.length + uptoBulk d + 1
  | (_, d) => uptoBulk d + 1
 end
def uptoSmall : (H : Type) → List (DataW H) → Bool := fun _ ds => decide (uptoBulkAll ds ≤ 1048576)
def OpenSpec.upto (s : _root_.Go.ChangeSpec) : _root_.Go.OpenSpec := { _root_.Go.OpenSpec.ofChange s with cond := some uptoSmall }

/-- 'laws.FnTotal', WHERE WHAT IT READS IS OF BULK AT MOST 1048576: true; the input reads as it did. -/
def fnTotalUptoRow : OpenClaim := { program := "ytfjohagdlaiapaagreat", sum := "ab3bb4fe3948f95c8ce305c05983927d755b74d7544242d11c18e60fb3688266", func := "loop.example/realizers/laws.FnTotal", spec := "fnTotal", inPlace := ["internal/bytealg.IndexByteString", "internal/bytealg.IndexString"], unfollowed := true, recurses := true, named := ["internal/bytealg.MaxLen"], apart := false, narrowed := true }
def FnTotalUptoSaid : Prop := fnTotalUptoRow.holds Tryz.pinned (OpenSpec.upto fnTotalSpec)

/-- 'laws.FnInterpreter', WHERE WHAT IT READS IS OF BULK AT MOST 1048576: true; the input reads as it did. -/
def fnInterpreterUptoRow : OpenClaim := { program := "ytfjohagdlaiapaagreat", sum := "ab3bb4fe3948f95c8ce305c05983927d755b74d7544242d11c18e60fb3688266", func := "loop.example/realizers/laws.FnInterpreter", spec := "fnInterpreter", unfollowed := true, recurses := true, apart := false, narrowed := true }
def FnInterpreterUptoSaid : Prop := fnInterpreterUptoRow.holds Tryz.pinned (OpenSpec.upto fnInterpreterSpec)

/-- 'laws.FnQuote', WHERE WHAT IT READS IS OF BULK AT MOST 1048576: true; the input reads as it did. -/
def fnQuoteUptoRow : OpenClaim := { program := "ytfjohagdlaiapaagreat", sum := "ab3bb4fe3948f95c8ce305c05983927d755b74d7544242d11c18e60fb3688266", func := "loop.example/realizers/laws.FnQuote", spec := "fnQuote", unfollowed := true, recurses := true, apart := false, narrowed := true }
def FnQuoteUptoSaid : Prop := fnQuoteUptoRow.holds Tryz.pinned (OpenSpec.upto fnQuoteSpec)

end Rows
end Go.Proofs.YtfjohagdlaiapaaGreat
