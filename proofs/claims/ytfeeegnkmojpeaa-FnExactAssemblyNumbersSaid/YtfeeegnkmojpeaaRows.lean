/-
  No cell of these rows narrows 'for every input' (looked for: loops, veiled, ifaces, maps, wideKeys, modest, calm, conditions, laid).
  DERIVED. THE GIVEN ROWS OF THIS SEAT. 5 by the template 'for every input the law returns true; each argument reads behind the call as it read before'; 0 by the template 'total and deterministic' (their statements: YtfeeegnkmojpeaaTotals.lean).
  GIVEN WITH THE SEED: the statements are not yours to turn. If you find one false, say at which input.
  Laid BY PROGRAM, IN A SANDBOX (cutbox-rows.mjs): the forced cells as the released guide's own fill.sh prints them over the translation 7f80a0e5ca0571e0… (all of the seat's roots in one cut). By AI agents, Wed Nov 11 2026. No macro, syntax, notation, axiom, sorry.
-/
import Derived.Test.YtfeeegnkmojpeaaChecked
import GoSem.Claim
import GoSem.ClaimJoined
import GoSem.ClaimMapViews
import Derived.JoinedTies
import Derived.KernelRfl
namespace Go.Proofs.Ytfeeegnkmojpeaa
/- THE CELL 'sum', in the pinned program and in every row, IS THE sha256 OF THE DUMP (.gsa) THAT YtfeeegnkmojpeaaProg.lean LOADS. Nothing in Lean hashes anything: it is a label: what it is worth is what the hold of that sum in a sandbox is worth. -/
noncomputable def Try.pinned : Pinned := { name := "ytfeeegnkmojpeaa", sum := "7f80a0e5ca0571e0fa31fabeb1bf32ef1404b494ee78c1324cfc14b7fa357182", checked := Try.checked }
namespace Rows
def none {H : Type} : Left H := { results := [], args := [] }

/-- 'laws.FnExactAssemblyValid': WHATEVER THE INPUT: true; the input reads as it did. -/
def fnExactAssemblyValidSpec : ChangeSpec := { name := "fnExactAssemblyValid", fn := fun _ => fun
  | [d] => { results := [.lit (.bool true)], args := [d] }
  | _ => none }
def fnExactAssemblyValidRow : OpenClaim := { program := "ytfeeegnkmojpeaa", sum := "7f80a0e5ca0571e0fa31fabeb1bf32ef1404b494ee78c1324cfc14b7fa357182", func := "loop.example/realizers/laws.FnExactAssemblyValid", spec := "fnExactAssemblyValid", unfollowed := true, recurses := true, apart := false }
def FnExactAssemblyValidSaid : Prop := fnExactAssemblyValidRow.holds Try.pinned (OpenSpec.ofChange fnExactAssemblyValidSpec)

/-- ITS FALSE NEIGHBOUR: 'it returns false'. Refute it at one input. -/
def fnExactAssemblyValidWrong : ChangeSpec := { name := "fnExactAssemblyValid", fn := fun _ => fun
  | [d] => { results := [.lit (.bool false)], args := [d] }
  | _ => none }
def FnExactAssemblyValidWrongFalsely : Prop := fnExactAssemblyValidRow.holds Try.pinned (OpenSpec.ofChange fnExactAssemblyValidWrong)

/-- 'laws.FnExactAssemblyModest': WHATEVER THE INPUT: true; the input reads as it did. -/
def fnExactAssemblyModestSpec : ChangeSpec := { name := "fnExactAssemblyModest", fn := fun _ => fun
  | [d] => { results := [.lit (.bool true)], args := [d] }
  | _ => none }
def fnExactAssemblyModestRow : OpenClaim := { program := "ytfeeegnkmojpeaa", sum := "7f80a0e5ca0571e0fa31fabeb1bf32ef1404b494ee78c1324cfc14b7fa357182", func := "loop.example/realizers/laws.FnExactAssemblyModest", spec := "fnExactAssemblyModest", unfollowed := true, recurses := true, apart := false }
def FnExactAssemblyModestSaid : Prop := fnExactAssemblyModestRow.holds Try.pinned (OpenSpec.ofChange fnExactAssemblyModestSpec)

/-- ITS FALSE NEIGHBOUR: 'it returns false'. Refute it at one input. -/
def fnExactAssemblyModestWrong : ChangeSpec := { name := "fnExactAssemblyModest", fn := fun _ => fun
  | [d] => { results := [.lit (.bool false)], args := [d] }
  | _ => none }
def FnExactAssemblyModestWrongFalsely : Prop := fnExactAssemblyModestRow.holds Try.pinned (OpenSpec.ofChange fnExactAssemblyModestWrong)

/-- 'laws.FnExactTrackIs': WHATEVER THE INPUT: true; the input reads as it did. -/
def fnExactTrackIsSpec : ChangeSpec := { name := "fnExactTrackIs", fn := fun _ => fun
  | [d1, d2, d3, d4] => { results := [.lit (.bool true)], args := [d1, d2, d3, d4] }
  | _ => none }
def fnExactTrackIsRow : OpenClaim := { program := "ytfeeegnkmojpeaa", sum := "7f80a0e5ca0571e0fa31fabeb1bf32ef1404b494ee78c1324cfc14b7fa357182", func := "loop.example/realizers/laws.FnExactTrackIs", spec := "fnExactTrackIs", unfollowed := true, recurses := true, apart := false }
def FnExactTrackIsSaid : Prop := fnExactTrackIsRow.holds Try.pinned (OpenSpec.ofChange fnExactTrackIsSpec)

/-- ITS FALSE NEIGHBOUR: 'it returns false'. Refute it at one input. -/
def fnExactTrackIsWrong : ChangeSpec := { name := "fnExactTrackIs", fn := fun _ => fun
  | [d1, d2, d3, d4] => { results := [.lit (.bool false)], args := [d1, d2, d3, d4] }
  | _ => none }
def FnExactTrackIsWrongFalsely : Prop := fnExactTrackIsRow.holds Try.pinned (OpenSpec.ofChange fnExactTrackIsWrong)

/-- 'laws.FnExactTrackAfter': WHATEVER THE INPUT: true; the input reads as it did. -/
def fnExactTrackAfterSpec : ChangeSpec := { name := "fnExactTrackAfter", fn := fun _ => fun
  | [d1, d2] => { results := [.lit (.bool true)], args := [d1, d2] }
  | _ => none }
def fnExactTrackAfterRow : OpenClaim := { program := "ytfeeegnkmojpeaa", sum := "7f80a0e5ca0571e0fa31fabeb1bf32ef1404b494ee78c1324cfc14b7fa357182", func := "loop.example/realizers/laws.FnExactTrackAfter", spec := "fnExactTrackAfter", unfollowed := true, recurses := true, apart := false }
def FnExactTrackAfterSaid : Prop := fnExactTrackAfterRow.holds Try.pinned (OpenSpec.ofChange fnExactTrackAfterSpec)

/-- ITS FALSE NEIGHBOUR: 'it returns false'. Refute it at one input. -/
def fnExactTrackAfterWrong : ChangeSpec := { name := "fnExactTrackAfter", fn := fun _ => fun
  | [d1, d2] => { results := [.lit (.bool false)], args := [d1, d2] }
  | _ => none }
def FnExactTrackAfterWrongFalsely : Prop := fnExactTrackAfterRow.holds Try.pinned (OpenSpec.ofChange fnExactTrackAfterWrong)

/-- 'laws.FnExactAssemblyNumbers': WHATEVER THE INPUT: true; the input reads as it did. -/
def fnExactAssemblyNumbersSpec : ChangeSpec := { name := "fnExactAssemblyNumbers", fn := fun _ => fun
  | [d] => { results := [.lit (.bool true)], args := [d] }
  | _ => none }
def fnExactAssemblyNumbersRow : OpenClaim := { program := "ytfeeegnkmojpeaa", sum := "7f80a0e5ca0571e0fa31fabeb1bf32ef1404b494ee78c1324cfc14b7fa357182", func := "loop.example/realizers/laws.FnExactAssemblyNumbers", spec := "fnExactAssemblyNumbers", unfollowed := true, recurses := true, apart := false }
def FnExactAssemblyNumbersSaid : Prop := fnExactAssemblyNumbersRow.holds Try.pinned (OpenSpec.ofChange fnExactAssemblyNumbersSpec)

/-- ITS FALSE NEIGHBOUR: 'it returns false'. Refute it at one input. -/
def fnExactAssemblyNumbersWrong : ChangeSpec := { name := "fnExactAssemblyNumbers", fn := fun _ => fun
  | [d] => { results := [.lit (.bool false)], args := [d] }
  | _ => none }
def FnExactAssemblyNumbersWrongFalsely : Prop := fnExactAssemblyNumbersRow.holds Try.pinned (OpenSpec.ofChange fnExactAssemblyNumbersWrong)

/- THE SECOND FORM. 'bulk': how many values and letters a reading holds, each counted each time it is reached (what is shared counts as often as it is met; a slice's spare places count too). A statement '..UptoSaid' is the law's where the arguments, and the package variables that the reading takes, are together of bulk at most 1048576: NARROWER than '..Said'. Prove '..Said' where nothing that the law and all that it calls make is longer than what came in: it says more and counts as full. Else prove '..UptoSaid'. A law counts once. -/
mutual
def uptoBulk {H : Type} : DataW H → Nat
  | .lit (.string bytes) => bytes.length + 1
  | .lit _ => 1
  | .nil => 1
  | .ptr d => uptoBulk d + 1
  | .slice elems spare => uptoBulkAll elems + uptoBulkAll spare + 1
  | .agg parts => uptoBulkAll parts + 1
  | .iface _ d => uptoBulk d + 1
  | .map entries => uptoBulkEntries entries + 1
  | .held _ => 1
def uptoBulkAll {H : Type} : List (DataW H) → Nat
  | [] => 0
  | d :: r => uptoBulk d + uptoBulkAll r
def uptoBulkEntries {H : Type} : List (Lit × DataW H) → Nat
  | [] => 0
  | x :: r => uptoBulkEntry x + uptoBulkEntries r
def uptoBulkEntry {H : Type} : Lit × DataW H → Nat
  | (.string bytes, d) => bytes.length + uptoBulk d + 1
  | (_, d) => uptoBulk d + 1
 end
def uptoSmall : (H : Type) → List (DataW H) → Bool := fun _ ds => decide (uptoBulkAll ds ≤ 1048576)
def OpenSpec.upto (s : _root_.Go.ChangeSpec) : _root_.Go.OpenSpec := { _root_.Go.OpenSpec.ofChange s with cond := some uptoSmall }

/-- 'laws.FnExactAssemblyValid', WHERE WHAT IT READS IS OF BULK AT MOST 1048576: true; the input reads as it did. -/
def fnExactAssemblyValidUptoRow : OpenClaim := { program := "ytfeeegnkmojpeaa", sum := "7f80a0e5ca0571e0fa31fabeb1bf32ef1404b494ee78c1324cfc14b7fa357182", func := "loop.example/realizers/laws.FnExactAssemblyValid", spec := "fnExactAssemblyValid", unfollowed := true, recurses := true, apart := false, narrowed := true }
def FnExactAssemblyValidUptoSaid : Prop := fnExactAssemblyValidUptoRow.holds Try.pinned (OpenSpec.upto fnExactAssemblyValidSpec)

/-- 'laws.FnExactAssemblyModest', WHERE WHAT IT READS IS OF BULK AT MOST 1048576: true; the input reads as it did. -/
def fnExactAssemblyModestUptoRow : OpenClaim := { program := "ytfeeegnkmojpeaa", sum := "7f80a0e5ca0571e0fa31fabeb1bf32ef1404b494ee78c1324cfc14b7fa357182", func := "loop.example/realizers/laws.FnExactAssemblyModest", spec := "fnExactAssemblyModest", unfollowed := true, recurses := true, apart := false, narrowed := true }
def FnExactAssemblyModestUptoSaid : Prop := fnExactAssemblyModestUptoRow.holds Try.pinned (OpenSpec.upto fnExactAssemblyModestSpec)

/-- 'laws.FnExactTrackIs', WHERE WHAT IT READS IS OF BULK AT MOST 1048576: true; the input reads as it did. -/
def fnExactTrackIsUptoRow : OpenClaim := { program := "ytfeeegnkmojpeaa", sum := "7f80a0e5ca0571e0fa31fabeb1bf32ef1404b494ee78c1324cfc14b7fa357182", func := "loop.example/realizers/laws.FnExactTrackIs", spec := "fnExactTrackIs", unfollowed := true, recurses := true, apart := false, narrowed := true }
def FnExactTrackIsUptoSaid : Prop := fnExactTrackIsUptoRow.holds Try.pinned (OpenSpec.upto fnExactTrackIsSpec)

/-- 'laws.FnExactTrackAfter', WHERE WHAT IT READS IS OF BULK AT MOST 1048576: true; the input reads as it did. -/
def fnExactTrackAfterUptoRow : OpenClaim := { program := "ytfeeegnkmojpeaa", sum := "7f80a0e5ca0571e0fa31fabeb1bf32ef1404b494ee78c1324cfc14b7fa357182", func := "loop.example/realizers/laws.FnExactTrackAfter", spec := "fnExactTrackAfter", unfollowed := true, recurses := true, apart := false, narrowed := true }
def FnExactTrackAfterUptoSaid : Prop := fnExactTrackAfterUptoRow.holds Try.pinned (OpenSpec.upto fnExactTrackAfterSpec)

/-- 'laws.FnExactAssemblyNumbers', WHERE WHAT IT READS IS OF BULK AT MOST 1048576: true; the input reads as it did. -/
def fnExactAssemblyNumbersUptoRow : OpenClaim := { program := "ytfeeegnkmojpeaa", sum := "7f80a0e5ca0571e0fa31fabeb1bf32ef1404b494ee78c1324cfc14b7fa357182", func := "loop.example/realizers/laws.FnExactAssemblyNumbers", spec := "fnExactAssemblyNumbers", unfollowed := true, recurses := true, apart := false, narrowed := true }
def FnExactAssemblyNumbersUptoSaid : Prop := fnExactAssemblyNumbersUptoRow.holds Try.pinned (OpenSpec.upto fnExactAssemblyNumbersSpec)

end Rows
end Go.Proofs.Ytfeeegnkmojpeaa
