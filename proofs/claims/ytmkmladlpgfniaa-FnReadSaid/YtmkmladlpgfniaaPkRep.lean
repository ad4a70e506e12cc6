/-
  How a term of the program lies in memory; which function a method of it is; what the four measures answer.
-/
import Derived.Test.YtmkmladlpgfniaaProg
import Derived.Test.YtmkmladlpgfniaaPkTm
import Derived.WalkKit
import Derived.WalkSpells
import Derived.WalkLawsBesides
import Derived.ChangeKeysEq
import Derived.Shelf.Abstract
import Derived.Deep.RegionHeld3
import Derived.Lib.Hide
import Derived.Deep.RegionLawGrows
import Derived.Deep.AppendLies
namespace Go.Proofs.Ytmkmladlpgfniaa
open Go.RowKit

/-- How many arguments are lacking to make a redex. -/
def Tm.lacks : Tm → Nat
  | .k => 2
  | .s => 3
  | .nm _ => 0
  | .app f _ => lacks f - 1

def Tm.normal : Tm → Bool
  | .app f a => (lacks f != 1) && (normal f && normal a)
  | _ => true

/-- A string of bytes. -/
abbrev str (l : List UInt8) : Value := .string ⟨l.toArray⟩

/-- The value v is the term t, in blocks from B on. -/
def TV (w : World) (B : Nat) : Tm → Value → Prop
  | .k, v => ∃ b fr, v = .iface 131 (.pointer (some ⟨b, 0, none⟩)) ∧ B ≤ b ∧ w.heap[b]? = some (.cells #[] 133 fr)
  | .s, v => ∃ b fr, v = .iface 134 (.pointer (some ⟨b, 0, none⟩)) ∧ B ≤ b ∧ w.heap[b]? = some (.cells #[] 135 fr)
  | .nm n, v => ∃ b fr, v = .iface 93 (.pointer (some ⟨b, 0, none⟩)) ∧ B ≤ b ∧ w.heap[b]? = some (.cells #[str n] 97 fr)
  | .app f a, v => ∃ b fr vf va, v = .iface 110 (.pointer (some ⟨b, 0, none⟩)) ∧ B ≤ b ∧
      w.heap[b]? = some (.cells #[vf, va, .int .i64 ((f.app a).size : Nat), .int .i64 ((f.app a).depth : Nat), .int .i64 ((f.app a).lacks : Nat), .bool (f.app a).normal] 114 fr) ∧ TV w B f vf ∧ TV w B a va

theorem TV.same {w w' : World} {B : Nat} (hs : ∀ b, B ≤ b → b < w.heap.size → w'.heap[b]? = w.heap[b]?) : ∀ {t : Tm} {v : Value}, TV w B t v → TV w' B t v
  | .k, _, ⟨b, fr, hv, hb, h⟩ => ⟨b, fr, hv, hb, by rw [hs b hb (Array.getElem?_eq_some_iff.1 h).1]; exact h⟩
  | .s, _, ⟨b, fr, hv, hb, h⟩ => ⟨b, fr, hv, hb, by rw [hs b hb (Array.getElem?_eq_some_iff.1 h).1]; exact h⟩
  | .nm _, _, ⟨b, fr, hv, hb, h⟩ => ⟨b, fr, hv, hb, by rw [hs b hb (Array.getElem?_eq_some_iff.1 h).1]; exact h⟩
  | .app _ _, _, ⟨b, fr, vf, va, hv, hb, h, hf, ha⟩ => ⟨b, fr, vf, va, hv, hb, by rw [hs b hb (Array.getElem?_eq_some_iff.1 h).1]; exact h, hf.same hs, ha.same hs⟩

theorem TV.below {w w' : World} {B : Nat} {t : Tm} {v : Value} (h : TV w B t v) (hb : Below w.heap.size w w') : TV w' B t v := h.same fun b _ hl => hb.block b hl

theorem TV.less {w : World} {B B' : Nat} (hB : B' ≤ B) : ∀ {t : Tm} {v : Value}, TV w B t v → TV w B' t v
  | .k, _, ⟨b, fr, hv, hb, h⟩ => ⟨b, fr, hv, Nat.le_trans hB hb, h⟩
  | .s, _, ⟨b, fr, hv, hb, h⟩ => ⟨b, fr, hv, Nat.le_trans hB hb, h⟩
  | .nm _, _, ⟨b, fr, hv, hb, h⟩ => ⟨b, fr, hv, Nat.le_trans hB hb, h⟩
  | .app _ _, _, ⟨b, fr, vf, va, hv, hb, h, hf, ha⟩ => ⟨b, fr, vf, va, hv, Nat.le_trans hB hb, h, hf.less hB, ha.less hB⟩

/-- A method of an interface value is this function with this receiver. -/
def Meth (w : World) (T : TypeId) (x : Value) (name : String) (f : FuncId) (y : Value) : Prop :=
  (method 266 T x name).run Try.prog w = .ok (f, y) w ∧ ∀ args w', (callFunc f args).run Try.prog w' = .ok (.enter f args) w'

theorem cell_of_heap {w : World} {b i : Nat} {cs : Array Value} {T : TypeId} {fr : Nat × Nat} (h : w.heap[b]? = some (.cells cs T fr)) : w.cell? ⟨b, i, none⟩ = cs[i]? := by
  simp [World.cell?, h]

/-! ### methods promoted through the embedded leaf -/

theorem meth_leaf {T S : TypeId} {fd : Field} {fs : Array Field} {cs : Array Value} {f : FuncId} {sig : TypeId} {name : String} {e n : Nat}
    (hm : (Try.prog.info? T).map (fun i => i.methods.find? (·.name == name)) = some (some { name := name, sig := sig, path := #[⟨S, 0, true⟩], func := some (f, false) }))
    (hS : Try.prog.underlying S = some (.struct fs)) (h0 : fs[0]? = some fd) (hfd : fd.type = 95) (hfo : fd.offset = 0) (hfb : fd.byteOffset = 0)
    (hc : Try.prog.cellsOf S = n) (hx : n = 0 ∨ byteOfCell Try.prog Try.prog.depth S 0 = some e)
    (b : Nat) (w : World) (fr : Nat × Nat) (h : w.heap[b]? = some (.cells cs S fr)) : (method 266 T (.pointer (some ⟨b, 0, none⟩)) name).run Try.prog w = .ok (f, .agg #[]) w := by
  obtain ⟨i, hi, hf⟩ := Option.map_eq_some_iff.1 hm
  have hz : (Try.prog.info? 95).map (·.size) = some 0 := by kernel_rfl
  obtain ⟨il, hil, hiz⟩ := Option.map_eq_some_iff.1 hz
  have hul : Try.prog.underlying 95 = some (.struct #[]) := by kernel_rfl
  have hb : ∀ w' : World, w'.heap = w.heap → (byteOf ⟨b, 0, none⟩).run Try.prog w' = .ok (if n = 0 then 0 else e) w' := by
    intro w' hw
    rcases hx with hx | hx
    · simp [go_sem, byteOf, noView, viewAt, World.shape?, hw, h, hc, hx]
    · by_cases hn : n = 0
      · simp [go_sem, byteOf, noView, viewAt, World.shape?, hw, h, hc, hn]
      · simp [go_sem, byteOf, noView, viewAt, World.shape?, hw, h, hc, hx, hn]
  rw [show (266 : Nat) = 265 + 1 from rfl]
  generalize 265 = fuel
  simp only [method]
  simp [go_sem, run_typeInfo, hi, hf, follow, run_underlying, hS, h0, asAddr, Place.get, loadVar, isAgg, hfd, fieldPlace, sizeOf, hil, hiz, hfo, hfb, partAt, hb, receiverAt, hul, loadCells, loadCellsFrom]

/-! ### which function a method is -/

theorem meth_kLetter_atoms (b : Nat) (w : World) (fr : Nat × Nat) (cs : Array Value) (h : w.heap[b]? = some (.cells cs 133 fr)) : Meth w 131 (.pointer (some ⟨b, 0, none⟩)) "loop.example/realizers/impl.atoms" 122 (.agg #[]) :=
  ⟨meth_leaf (e := 0) (n := 0) (sig := 49) (by kernel_rfl) Try.underlying133 rfl rfl rfl rfl (by kernel_rfl) (Or.inl rfl) b w fr h, fun _ _ => by kernel_rfl⟩
theorem meth_sLetter_atoms (b : Nat) (w : World) (fr : Nat × Nat) (cs : Array Value) (h : w.heap[b]? = some (.cells cs 135 fr)) : Meth w 134 (.pointer (some ⟨b, 0, none⟩)) "loop.example/realizers/impl.atoms" 122 (.agg #[]) :=
  ⟨meth_leaf (e := 0) (n := 0) (sig := 49) (by kernel_rfl) Try.underlying135 rfl rfl rfl rfl (by kernel_rfl) (Or.inl rfl) b w fr h, fun _ _ => by kernel_rfl⟩
theorem meth_nameAtom_atoms (b : Nat) (w : World) (fr : Nat × Nat) (cs : Array Value) (h : w.heap[b]? = some (.cells cs 97 fr)) : Meth w 93 (.pointer (some ⟨b, 0, none⟩)) "loop.example/realizers/impl.atoms" 122 (.agg #[]) :=
  ⟨meth_leaf (e := 0) (n := 1) (sig := 49) (by kernel_rfl) Try.underlying97 rfl rfl rfl rfl (by kernel_rfl) (Or.inr (by kernel_rfl)) b w fr h, fun _ _ => by kernel_rfl⟩
theorem meth_kLetter_nesting (b : Nat) (w : World) (fr : Nat × Nat) (cs : Array Value) (h : w.heap[b]? = some (.cells cs 133 fr)) : Meth w 131 (.pointer (some ⟨b, 0, none⟩)) "loop.example/realizers/impl.nesting" 126 (.agg #[]) :=
  ⟨meth_leaf (e := 0) (n := 0) (sig := 49) (by kernel_rfl) Try.underlying133 rfl rfl rfl rfl (by kernel_rfl) (Or.inl rfl) b w fr h, fun _ _ => by kernel_rfl⟩
theorem meth_sLetter_nesting (b : Nat) (w : World) (fr : Nat × Nat) (cs : Array Value) (h : w.heap[b]? = some (.cells cs 135 fr)) : Meth w 134 (.pointer (some ⟨b, 0, none⟩)) "loop.example/realizers/impl.nesting" 126 (.agg #[]) :=
  ⟨meth_leaf (e := 0) (n := 0) (sig := 49) (by kernel_rfl) Try.underlying135 rfl rfl rfl rfl (by kernel_rfl) (Or.inl rfl) b w fr h, fun _ _ => by kernel_rfl⟩
theorem meth_nameAtom_nesting (b : Nat) (w : World) (fr : Nat × Nat) (cs : Array Value) (h : w.heap[b]? = some (.cells cs 97 fr)) : Meth w 93 (.pointer (some ⟨b, 0, none⟩)) "loop.example/realizers/impl.nesting" 126 (.agg #[]) :=
  ⟨meth_leaf (e := 0) (n := 1) (sig := 49) (by kernel_rfl) Try.underlying97 rfl rfl rfl rfl (by kernel_rfl) (Or.inr (by kernel_rfl)) b w fr h, fun _ _ => by kernel_rfl⟩
theorem meth_kLetter_normal (b : Nat) (w : World) (fr : Nat × Nat) (cs : Array Value) (h : w.heap[b]? = some (.cells cs 133 fr)) : Meth w 131 (.pointer (some ⟨b, 0, none⟩)) "loop.example/realizers/impl.normal" 127 (.agg #[]) :=
  ⟨meth_leaf (e := 0) (n := 0) (sig := 81) (by kernel_rfl) Try.underlying133 rfl rfl rfl rfl (by kernel_rfl) (Or.inl rfl) b w fr h, fun _ _ => by kernel_rfl⟩
theorem meth_sLetter_normal (b : Nat) (w : World) (fr : Nat × Nat) (cs : Array Value) (h : w.heap[b]? = some (.cells cs 135 fr)) : Meth w 134 (.pointer (some ⟨b, 0, none⟩)) "loop.example/realizers/impl.normal" 127 (.agg #[]) :=
  ⟨meth_leaf (e := 0) (n := 0) (sig := 81) (by kernel_rfl) Try.underlying135 rfl rfl rfl rfl (by kernel_rfl) (Or.inl rfl) b w fr h, fun _ _ => by kernel_rfl⟩
theorem meth_nameAtom_normal (b : Nat) (w : World) (fr : Nat × Nat) (cs : Array Value) (h : w.heap[b]? = some (.cells cs 97 fr)) : Meth w 93 (.pointer (some ⟨b, 0, none⟩)) "loop.example/realizers/impl.normal" 127 (.agg #[]) :=
  ⟨meth_leaf (e := 0) (n := 1) (sig := 81) (by kernel_rfl) Try.underlying97 rfl rfl rfl rfl (by kernel_rfl) (Or.inr (by kernel_rfl)) b w fr h, fun _ _ => by kernel_rfl⟩
theorem meth_kLetter_step (b : Nat) (w : World) (fr : Nat × Nat) (cs : Array Value) (h : w.heap[b]? = some (.cells cs 133 fr)) : Meth w 131 (.pointer (some ⟨b, 0, none⟩)) "loop.example/realizers/impl.step" 129 (.agg #[]) :=
  ⟨meth_leaf (e := 0) (n := 0) (sig := 127) (by kernel_rfl) Try.underlying133 rfl rfl rfl rfl (by kernel_rfl) (Or.inl rfl) b w fr h, fun _ _ => by kernel_rfl⟩
theorem meth_sLetter_step (b : Nat) (w : World) (fr : Nat × Nat) (cs : Array Value) (h : w.heap[b]? = some (.cells cs 135 fr)) : Meth w 134 (.pointer (some ⟨b, 0, none⟩)) "loop.example/realizers/impl.step" 129 (.agg #[]) :=
  ⟨meth_leaf (e := 0) (n := 0) (sig := 127) (by kernel_rfl) Try.underlying135 rfl rfl rfl rfl (by kernel_rfl) (Or.inl rfl) b w fr h, fun _ _ => by kernel_rfl⟩
theorem meth_nameAtom_step (b : Nat) (w : World) (fr : Nat × Nat) (cs : Array Value) (h : w.heap[b]? = some (.cells cs 97 fr)) : Meth w 93 (.pointer (some ⟨b, 0, none⟩)) "loop.example/realizers/impl.step" 129 (.agg #[]) :=
  ⟨meth_leaf (e := 0) (n := 1) (sig := 127) (by kernel_rfl) Try.underlying97 rfl rfl rfl rfl (by kernel_rfl) (Or.inr (by kernel_rfl)) b w fr h, fun _ _ => by kernel_rfl⟩
theorem meth_kLetter_listNames (b : Nat) (w : World) (fr : Nat × Nat) (cs : Array Value) (h : w.heap[b]? = some (.cells cs 133 fr)) : Meth w 131 (.pointer (some ⟨b, 0, none⟩)) "loop.example/realizers/impl.listNames" 131 (.agg #[]) :=
  ⟨meth_leaf (e := 0) (n := 0) (sig := 88) (by kernel_rfl) Try.underlying133 rfl rfl rfl rfl (by kernel_rfl) (Or.inl rfl) b w fr h, fun _ _ => by kernel_rfl⟩
theorem meth_sLetter_listNames (b : Nat) (w : World) (fr : Nat × Nat) (cs : Array Value) (h : w.heap[b]? = some (.cells cs 135 fr)) : Meth w 134 (.pointer (some ⟨b, 0, none⟩)) "loop.example/realizers/impl.listNames" 131 (.agg #[]) :=
  ⟨meth_leaf (e := 0) (n := 0) (sig := 88) (by kernel_rfl) Try.underlying135 rfl rfl rfl rfl (by kernel_rfl) (Or.inl rfl) b w fr h, fun _ _ => by kernel_rfl⟩
theorem meth_kLetter_lacks (a : Addr) (w : World) : Meth w 131 (.pointer (some a)) "loop.example/realizers/impl.lacks" 144 (.pointer (some a)) :=
  ⟨by kernel_rfl, fun _ _ => by kernel_rfl⟩
theorem meth_kLetter_fire (a : Addr) (w : World) : Meth w 131 (.pointer (some a)) "loop.example/realizers/impl.fire" 143 (.pointer (some a)) :=
  ⟨by kernel_rfl, fun _ _ => by kernel_rfl⟩
theorem meth_kLetter_put (a : Addr) (w : World) : Meth w 131 (.pointer (some a)) "loop.example/realizers/impl.put" 145 (.pointer (some a)) :=
  ⟨by kernel_rfl, fun _ _ => by kernel_rfl⟩
theorem meth_kLetter_write (a : Addr) (w : World) : Meth w 131 (.pointer (some a)) "loop.example/realizers/impl.write" 146 (.pointer (some a)) :=
  ⟨by kernel_rfl, fun _ _ => by kernel_rfl⟩
theorem meth_sLetter_lacks (a : Addr) (w : World) : Meth w 134 (.pointer (some a)) "loop.example/realizers/impl.lacks" 148 (.pointer (some a)) :=
  ⟨by kernel_rfl, fun _ _ => by kernel_rfl⟩
theorem meth_sLetter_fire (a : Addr) (w : World) : Meth w 134 (.pointer (some a)) "loop.example/realizers/impl.fire" 147 (.pointer (some a)) :=
  ⟨by kernel_rfl, fun _ _ => by kernel_rfl⟩
theorem meth_sLetter_put (a : Addr) (w : World) : Meth w 134 (.pointer (some a)) "loop.example/realizers/impl.put" 149 (.pointer (some a)) :=
  ⟨by kernel_rfl, fun _ _ => by kernel_rfl⟩
theorem meth_sLetter_write (a : Addr) (w : World) : Meth w 134 (.pointer (some a)) "loop.example/realizers/impl.write" 150 (.pointer (some a)) :=
  ⟨by kernel_rfl, fun _ _ => by kernel_rfl⟩
theorem meth_nameAtom_lacks (a : Addr) (w : World) : Meth w 93 (.pointer (some a)) "loop.example/realizers/impl.lacks" 124 (.pointer (some a)) :=
  ⟨by kernel_rfl, fun _ _ => by kernel_rfl⟩
theorem meth_nameAtom_fire (a : Addr) (w : World) : Meth w 93 (.pointer (some a)) "loop.example/realizers/impl.fire" 123 (.pointer (some a)) :=
  ⟨by kernel_rfl, fun _ _ => by kernel_rfl⟩
theorem meth_nameAtom_put (a : Addr) (w : World) : Meth w 93 (.pointer (some a)) "loop.example/realizers/impl.put" 128 (.pointer (some a)) :=
  ⟨by kernel_rfl, fun _ _ => by kernel_rfl⟩
theorem meth_nameAtom_write (a : Addr) (w : World) : Meth w 93 (.pointer (some a)) "loop.example/realizers/impl.write" 130 (.pointer (some a)) :=
  ⟨by kernel_rfl, fun _ _ => by kernel_rfl⟩
theorem meth_nameAtom_listNames (a : Addr) (w : World) : Meth w 93 (.pointer (some a)) "loop.example/realizers/impl.listNames" 125 (.pointer (some a)) :=
  ⟨by kernel_rfl, fun _ _ => by kernel_rfl⟩
theorem meth_application_atoms (a : Addr) (w : World) : Meth w 110 (.pointer (some a)) "loop.example/realizers/impl.atoms" 132 (.pointer (some a)) :=
  ⟨by kernel_rfl, fun _ _ => by kernel_rfl⟩
theorem meth_application_nesting (a : Addr) (w : World) : Meth w 110 (.pointer (some a)) "loop.example/realizers/impl.nesting" 136 (.pointer (some a)) :=
  ⟨by kernel_rfl, fun _ _ => by kernel_rfl⟩
theorem meth_application_normal (a : Addr) (w : World) : Meth w 110 (.pointer (some a)) "loop.example/realizers/impl.normal" 137 (.pointer (some a)) :=
  ⟨by kernel_rfl, fun _ _ => by kernel_rfl⟩
theorem meth_application_step (a : Addr) (w : World) : Meth w 110 (.pointer (some a)) "loop.example/realizers/impl.step" 139 (.pointer (some a)) :=
  ⟨by kernel_rfl, fun _ _ => by kernel_rfl⟩
theorem meth_application_listNames (a : Addr) (w : World) : Meth w 110 (.pointer (some a)) "loop.example/realizers/impl.listNames" 135 (.pointer (some a)) :=
  ⟨by kernel_rfl, fun _ _ => by kernel_rfl⟩
theorem meth_application_lacks (a : Addr) (w : World) : Meth w 110 (.pointer (some a)) "loop.example/realizers/impl.lacks" 134 (.pointer (some a)) :=
  ⟨by kernel_rfl, fun _ _ => by kernel_rfl⟩
theorem meth_application_fire (a : Addr) (w : World) : Meth w 110 (.pointer (some a)) "loop.example/realizers/impl.fire" 133 (.pointer (some a)) :=
  ⟨by kernel_rfl, fun _ _ => by kernel_rfl⟩
theorem meth_application_put (a : Addr) (w : World) : Meth w 110 (.pointer (some a)) "loop.example/realizers/impl.put" 138 (.pointer (some a)) :=
  ⟨by kernel_rfl, fun _ _ => by kernel_rfl⟩
theorem meth_application_write (a : Addr) (w : World) : Meth w 110 (.pointer (some a)) "loop.example/realizers/impl.write" 140 (.pointer (some a)) :=
  ⟨by kernel_rfl, fun _ _ => by kernel_rfl⟩
end Go.Proofs.Ytmkmladlpgfniaa

namespace Go.Proofs.Ytmkmladlpgfniaa
open Go.RowKit

set_option maxHeartbeats 400000

theorem leaf_atoms (w : World) : Calls Try.prog 122 #[.agg #[]] w fun e w' => e = .returned (.int .i64 1) ∧ w' = w.alloc (.cells #[] 95) := by
  go_enter Try.func122, Try.ntmps122
  go_wp2_with fail
  go_ret
  exact ⟨rfl, rfl⟩
theorem leaf_nesting (w : World) : Calls Try.prog 126 #[.agg #[]] w fun e w' => e = .returned (.int .i64 0) ∧ w' = w.alloc (.cells #[] 95) := by
  go_enter Try.func126, Try.ntmps126
  go_wp2_with fail
  go_ret
  exact ⟨rfl, rfl⟩
theorem leaf_normal (w : World) : Calls Try.prog 127 #[.agg #[]] w fun e w' => e = .returned (.bool true) ∧ w' = w.alloc (.cells #[] 95) := by
  go_enter Try.func127, Try.ntmps127
  go_wp2_with fail
  go_ret
  exact ⟨rfl, rfl⟩
theorem k_lacks (y : Value) (w : World) : Calls Try.prog 144 #[y] w fun e w' => e = .returned (.int .i64 2) ∧ w = w' := by
  go_enter Try.func144, Try.ntmps144
  go_wp2_with fail
  go_ret
  exact ⟨rfl, rfl⟩
theorem s_lacks (y : Value) (w : World) : Calls Try.prog 148 #[y] w fun e w' => e = .returned (.int .i64 3) ∧ w = w' := by
  go_enter Try.func148, Try.ntmps148
  go_wp2_with fail
  go_ret
  exact ⟨rfl, rfl⟩
theorem n_lacks (y : Value) (w : World) : Calls Try.prog 124 #[y] w fun e w' => e = .returned (.int .i64 0) ∧ w = w' := by
  go_enter Try.func124, Try.ntmps124
  go_wp2_with fail
  go_ret
  exact ⟨rfl, rfl⟩

section
variable (b : Nat) (w : World) (v : Value)
theorem a_atoms (h : w.cell? ⟨b, 2, none⟩ = some v) : Calls Try.prog 132 #[.pointer (some ⟨b, 0, none⟩)] w fun e w' => e = .returned v ∧ w = w' := by
  go_enter Try.func132, Try.ntmps132
  go_wp2_with fail
  go_ret
  exact ⟨rfl, rfl⟩
theorem a_nesting (h : w.cell? ⟨b, 3, none⟩ = some v) : Calls Try.prog 136 #[.pointer (some ⟨b, 0, none⟩)] w fun e w' => e = .returned v ∧ w = w' := by
  go_enter Try.func136, Try.ntmps136
  go_wp2_with fail
  go_ret
  exact ⟨rfl, rfl⟩
theorem a_lacks (h : w.cell? ⟨b, 4, none⟩ = some v) : Calls Try.prog 134 #[.pointer (some ⟨b, 0, none⟩)] w fun e w' => e = .returned v ∧ w = w' := by
  go_enter Try.func134, Try.ntmps134
  go_wp2_with fail
  go_ret
  exact ⟨rfl, rfl⟩
theorem a_normal (h : w.cell? ⟨b, 5, none⟩ = some v) : Calls Try.prog 137 #[.pointer (some ⟨b, 0, none⟩)] w fun e w' => e = .returned v ∧ w = w' := by
  go_enter Try.func137, Try.ntmps137
  go_wp2_with fail
  go_ret
  exact ⟨rfl, rfl⟩
end

/-- What a method of an interface value without arguments answers: some function of the program does it, in every later world, and leaves alone what there was. -/
def Asks (w : World) (T : TypeId) (x : Value) (name : String) (r : Value) : Prop :=
  ∃ f y, (∀ W, Below w.heap.size w W → (method 266 T x name).run Try.prog W = .ok (f, y) W) ∧ (∀ args w', (callFunc f args).run Try.prog w' = .ok (.enter f args) w') ∧
    ∀ W, Below w.heap.size w W → Calls Try.prog f #[y] W fun e w' => e = .returned r ∧ Below w.heap.size w w'

theorem below_alloc {w W : World} (h : Below w.heap.size w W) (o : Obj) : Below w.heap.size w (W.alloc o) := h.alloc h.size o

theorem heap_later {w W : World} {b : Nat} {o : Obj} (h : w.heap[b]? = some o) (hb : Below w.heap.size w W) : W.heap[b]? = some o := by
  rw [hb.block b (Array.getElem?_eq_some_iff.1 h).1]; exact h

/-- The four measures. -/
theorem TV.asks {w : World} {B : Nat} {t : Tm} {v : Value} (h : TV w B t v) : ∃ T x, v = .iface T x ∧
    Asks w T x "loop.example/realizers/impl.atoms" (.int .i64 (t.size : Nat)) ∧ Asks w T x "loop.example/realizers/impl.nesting" (.int .i64 (t.depth : Nat)) ∧
    Asks w T x "loop.example/realizers/impl.lacks" (.int .i64 (t.lacks : Nat)) ∧ Asks w T x "loop.example/realizers/impl.normal" (.bool t.normal) := by
  cases t with
  | k =>
    obtain ⟨b, fr, rfl, _, h⟩ := h
    exact ⟨_, _, rfl,
      ⟨_, _, fun W hb => (meth_kLetter_atoms b W fr _ (heap_later h hb)).1, (meth_kLetter_atoms b w fr _ h).2, fun W hb => (leaf_atoms W).mono fun e w' ⟨he, hw⟩ => ⟨he, hw ▸ below_alloc hb _⟩⟩,
      ⟨_, _, fun W hb => (meth_kLetter_nesting b W fr _ (heap_later h hb)).1, (meth_kLetter_nesting b w fr _ h).2, fun W hb => (leaf_nesting W).mono fun e w' ⟨he, hw⟩ => ⟨he, hw ▸ below_alloc hb _⟩⟩,
      ⟨_, _, fun W hb => (meth_kLetter_lacks _ W).1, (meth_kLetter_lacks ⟨b, 0, none⟩ w).2, fun W hb => (k_lacks _ W).mono fun e w' ⟨he, hw⟩ => ⟨he, hw ▸ hb⟩⟩,
      ⟨_, _, fun W hb => (meth_kLetter_normal b W fr _ (heap_later h hb)).1, (meth_kLetter_normal b w fr _ h).2, fun W hb => (leaf_normal W).mono fun e w' ⟨he, hw⟩ => ⟨he, hw ▸ below_alloc hb _⟩⟩⟩
  | s =>
    obtain ⟨b, fr, rfl, _, h⟩ := h
    exact ⟨_, _, rfl,
      ⟨_, _, fun W hb => (meth_sLetter_atoms b W fr _ (heap_later h hb)).1, (meth_sLetter_atoms b w fr _ h).2, fun W hb => (leaf_atoms W).mono fun e w' ⟨he, hw⟩ => ⟨he, hw ▸ below_alloc hb _⟩⟩,
      ⟨_, _, fun W hb => (meth_sLetter_nesting b W fr _ (heap_later h hb)).1, (meth_sLetter_nesting b w fr _ h).2, fun W hb => (leaf_nesting W).mono fun e w' ⟨he, hw⟩ => ⟨he, hw ▸ below_alloc hb _⟩⟩,
      ⟨_, _, fun W hb => (meth_sLetter_lacks _ W).1, (meth_sLetter_lacks ⟨b, 0, none⟩ w).2, fun W hb => (s_lacks _ W).mono fun e w' ⟨he, hw⟩ => ⟨he, hw ▸ hb⟩⟩,
      ⟨_, _, fun W hb => (meth_sLetter_normal b W fr _ (heap_later h hb)).1, (meth_sLetter_normal b w fr _ h).2, fun W hb => (leaf_normal W).mono fun e w' ⟨he, hw⟩ => ⟨he, hw ▸ below_alloc hb _⟩⟩⟩
  | nm n =>
    obtain ⟨b, fr, rfl, _, h⟩ := h
    exact ⟨_, _, rfl,
      ⟨_, _, fun W hb => (meth_nameAtom_atoms b W fr _ (heap_later h hb)).1, (meth_nameAtom_atoms b w fr _ h).2, fun W hb => (leaf_atoms W).mono fun e w' ⟨he, hw⟩ => ⟨he, hw ▸ below_alloc hb _⟩⟩,
      ⟨_, _, fun W hb => (meth_nameAtom_nesting b W fr _ (heap_later h hb)).1, (meth_nameAtom_nesting b w fr _ h).2, fun W hb => (leaf_nesting W).mono fun e w' ⟨he, hw⟩ => ⟨he, hw ▸ below_alloc hb _⟩⟩,
      ⟨_, _, fun W hb => (meth_nameAtom_lacks _ W).1, (meth_nameAtom_lacks ⟨b, 0, none⟩ w).2, fun W hb => (n_lacks _ W).mono fun e w' ⟨he, hw⟩ => ⟨he, hw ▸ hb⟩⟩,
      ⟨_, _, fun W hb => (meth_nameAtom_normal b W fr _ (heap_later h hb)).1, (meth_nameAtom_normal b w fr _ h).2, fun W hb => (leaf_normal W).mono fun e w' ⟨he, hw⟩ => ⟨he, hw ▸ below_alloc hb _⟩⟩⟩
  | app f a =>
    obtain ⟨b, fr, vf, va, rfl, _, h, _, _⟩ := h
    exact ⟨_, _, rfl,
      ⟨_, _, fun W hb => (meth_application_atoms _ W).1, (meth_application_atoms ⟨b, 0, none⟩ w).2, fun W hb => (a_atoms b W _ (cell_of_heap (heap_later h hb))).mono fun e w' ⟨he, hw⟩ => ⟨he, hw ▸ hb⟩⟩,
      ⟨_, _, fun W hb => (meth_application_nesting _ W).1, (meth_application_nesting ⟨b, 0, none⟩ w).2, fun W hb => (a_nesting b W _ (cell_of_heap (heap_later h hb))).mono fun e w' ⟨he, hw⟩ => ⟨he, hw ▸ hb⟩⟩,
      ⟨_, _, fun W hb => (meth_application_lacks _ W).1, (meth_application_lacks ⟨b, 0, none⟩ w).2, fun W hb => (a_lacks b W _ (cell_of_heap (heap_later h hb))).mono fun e w' ⟨he, hw⟩ => ⟨he, hw ▸ hb⟩⟩,
      ⟨_, _, fun W hb => (meth_application_normal _ W).1, (meth_application_normal ⟨b, 0, none⟩ w).2, fun W hb => (a_normal b W _ (cell_of_heap (heap_later h hb))).mono fun e w' ⟨he, hw⟩ => ⟨he, hw ▸ hb⟩⟩⟩

/-! ### apply -/

theorem lacks_le (t : Tm) : t.lacks ≤ 3 := by
  induction t with
  | app f a ih _ => simp only [Tm.lacks]; omega
  | _ => simp [Tm.lacks]

theorem TV.mk_app {w W : World} {B : Nat} {f a : Tm} {vf va : Value} (hf : TV w B f vf) (ha : TV w B a va) (hb : Below w.heap.size w W) (hB : B ≤ w.heap.size) {n d l : Int} {nb : Bool}
    (hn : n = ((f.app a).size : Nat)) (hd : d = ((f.app a).depth : Nat)) (hl : l = ((f.app a).lacks : Nat)) (hnb : nb = (f.app a).normal) :
    TV (W.alloc (.cells #[vf, va, .int .i64 n, .int .i64 d, .int .i64 l, .bool nb] 114)) B (f.app a) (.iface 110 (.pointer (some ⟨W.heap.size, 0, none⟩))) := by
  subst hn; subst hd; subst hl; subst hnb
  refine ⟨W.heap.size, (0, 0), vf, va, rfl, Nat.le_trans hB hb.size, ?_, (hf.below hb).below ((Below.refl _ _).alloc (Nat.le_refl _) _), (ha.below hb).below ((Below.refl _ _).alloc (Nat.le_refl _) _)⟩
  show (W.heap.push _)[_]? = _
  simp

set_option maxRecDepth 100000 in
theorem apply_any (w : World) (B : Nat) (f a : Tm) (vf va : Value) (hf : TV w B f vf) (ha : TV w B a va) (hB : B ≤ w.heap.size) (h1 : f.size + a.size < 4611686018427387904) :
    Calls Try.prog 74 #[vf, va] w fun e w' => ∃ v, e = .returned v ∧ Below w.heap.size w w' ∧ TV w' B (f.app a) v := by
  obtain ⟨T1, x1, rfl, ⟨f1, y1, m1, n1, c1⟩, ⟨f2, y2, m2, n2, c2⟩, ⟨f3, y3, m3, n3, c3⟩, ⟨f4, y4, m4, n4, c4⟩⟩ := hf.asks
  obtain ⟨T2, x2, rfl, ⟨g1, z1, k1, l1, d1⟩, ⟨g2, z2, k2, l2, d2⟩, ⟨g3, z3, k3, l3, d3⟩, ⟨g4, z4, k4, l4, d4⟩⟩ := ha.asks
  have b1 := Tm.depth_lt f
  have b2 := Tm.depth_lt a
  have b3 := lacks_le f
  have hb0 := Below.refl w.heap.size w
  go_enter Try.func74, Try.ntmps74
  go_wp2_with (first | (go_at_fn f3; refine (c3 _ (by assumption)).mono ?_; rintro e w1 ⟨rfl, hb⟩) | (go_at_fn f1; refine (c1 _ (by assumption)).mono ?_; rintro e w1 ⟨rfl, hb⟩) | (go_at_fn g1; refine (d1 _ (by assumption)).mono ?_; rintro e w1 ⟨rfl, hb⟩) | (go_at_fn f2; refine (c2 _ (by assumption)).mono ?_; rintro e w1 ⟨rfl, hb⟩) | (go_at_fn g2; refine (d2 _ (by assumption)).mono ?_; rintro e w1 ⟨rfl, hb⟩) | (go_at_fn f4; refine (c4 _ (by assumption)).mono ?_; rintro e w1 ⟨rfl, hb⟩) | (go_at_fn g4; refine (d4 _ (by assumption)).mono ?_; rintro e w1 ⟨rfl, hb⟩))
  all_goals
    go_ret
    refine ⟨_, rfl, below_alloc (by assumption) _, TV.mk_app hf ha (by assumption) hB (by simp [Tm.size]) (by simp only [Tm.depth]; omega) (by simp only [Tm.lacks]; omega) ?_⟩
    clear m1 n1 c1 m2 n2 c2 m3 n3 c3 m4 n4 c4 k1 l1 d1 k2 l2 d2 k3 l3 d3 k4 l4 d4
    simp only [Tm.normal]
    by_cases hq : f.lacks = 1
    all_goals first | (exfalso; omega) | (simp [*]; done) | (rw [show ((f.lacks : Int) != 1) = (f.lacks != 1) by rw [Bool.eq_iff_iff]; simp; omega]; simp [*])
end Go.Proofs.Ytmkmladlpgfniaa

namespace Go.Proofs.Ytmkmladlpgfniaa
open Go.RowKit

set_option maxHeartbeats 400000
set_option maxRecDepth 100000

/-- The cells from the head of block g on are the terms l. -/
def Row (W : World) (B g : Nat) (l : List Tm) (vs : List Value) : Prop :=
  vs.length = l.length ∧ (∀ (i : Nat) (v : Value), vs[i]? = some v → W.cell? ⟨g, i, none⟩ = some v) ∧ ∀ (i : Nat) (t : Tm) (v : Value), l[i]? = some t → vs[i]? = some v → TV W B t v

theorem add_plain' (b off i : Nat) : (⟨b, off, none⟩ : Addr).add i = ⟨b, off + i, none⟩ := by unfold Addr.add; split <;> simp_all

theorem cell_later' {w : World} {b i : Nat} {v : Value} (h : w.cell? ⟨b, i, none⟩ = some v) : ∀ W, Below w.heap.size w W → W.cell? ⟨b, i, none⟩ = some v :=
  fun W hb => by rw [hb.cell (p := ⟨b, i, none⟩) (World.block_lt_of_cell? _ _ h)]; exact h

theorem below_trans {w W W' : World} (h : Below w.heap.size w W) (h' : Below W.heap.size W W') : Below w.heap.size w W' := h.trans (h'.mono h.size)

theorem k_fire (W : World) (B g cap : Nat) (m n : Tm) (vs : List Value) (y : Value) (hr : Row W B g [m, n] vs) :
    Calls Try.prog 143 #[y, .slice (some ⟨g, 0, none⟩) 2 cap] W fun e w' => ∃ v', e = .returned (.tuple #[v', .bool true]) ∧ W = w' ∧ TV w' B m v' := by
  obtain ⟨hl, hc, ht⟩ := hr
  match vs, hl with
  | [v0, v1], _ =>
    have c0 := hc 0 v0 rfl
    have t0 := ht 0 m v0 rfl rfl
    go_enter Try.func143, Try.ntmps143
    go_wp2_with (go_at_call 144; refine (k_lacks _ _).mono ?_; rintro e w' ⟨rfl, rfl⟩)
    go_ret2
    exact ⟨_, rfl, rfl, t0⟩

theorem s_fire (W : World) (B g cap : Nat) (m n p : Tm) (vs : List Value) (y : Value) (hB : B ≤ W.heap.size) (hr : Row W B g [m, n, p] vs) (hm : m.size ≤ 1000000) (hn : n.size ≤ 1000000) (hp : p.size ≤ 1000000) :
    Calls Try.prog 147 #[y, .slice (some ⟨g, 0, none⟩) 3 cap] W fun e w' => ∃ v', e = .returned (.tuple #[v', .bool true]) ∧ Below W.heap.size W w' ∧ TV w' B ((m.app p).app (n.app p)) v' := by
  obtain ⟨hl, hc, ht⟩ := hr
  match vs, hl with
  | [v0, v1, v2], _ =>
    have c0 := hc 0 v0 rfl
    have c1 := hc 1 v1 rfl
    have c2 := hc 2 v2 rfl
    have t0 := ht 0 m v0 rfl rfl
    have t1 := ht 1 n v1 rfl rfl
    have t2 := ht 2 p v2 rfl rfl
    have e0 := cell_later' c0
    have e1 := cell_later' c1
    have e2 := cell_later' c2
    have hself := Below.refl W.heap.size W
    have s0 : (m.app p).size ≤ 2000000 := by simp only [Tm.size]; omega
    have s1 : (n.app p).size ≤ 2000000 := by simp only [Tm.size]; omega
    clear hc ht c0 c1 c2
    go_enter Try.func147, Try.ntmps147
    go_wp2_with (go_at_call 148; refine (s_lacks _ _).mono ?_; rintro e w' ⟨rfl, rfl⟩)
    go_region_held3 (fun W' => Below W.heap.size W W') (first | assumption | exact (Below.refl _ _).drew | go_keep)
      (first
        | (go_at_call_of 74 v0; refine (apply_any _ B m p v0 v2 ?_ ?_ ?_ ?_).mono ?_; exact t0.below (by assumption); exact t2.below (by assumption); exact Nat.le_trans hB (Below.size (by assumption)); omega; rintro e w1 ⟨r1, rfl, hb1, hv1⟩; replace hb1' := below_trans (by assumption) hb1)
        | (go_at_call_of 74 v1; refine (apply_any _ B n p v1 v2 ?_ ?_ ?_ ?_).mono ?_; exact t1.below (by assumption); exact t2.below (by assumption); exact Nat.le_trans hB (Below.size (by assumption)); omega; rintro e w1 ⟨r2, rfl, hb2, hv2⟩; have hv1' := hv1.below hb2; have hb2' := below_trans (by assumption) hb2)
        | (go_at_call_of 74 r1; refine (apply_any _ B (m.app p) (n.app p) r1 r2 ?_ ?_ ?_ ?_).mono ?_; exact hv1'; exact hv2; exact Nat.le_trans hB (Below.size (by assumption)); omega; rintro e w1 ⟨r3, rfl, hb3, hv3⟩; have hb3' := below_trans (by assumption) hb3))
    go_wp2_with fail
    go_ret2
    exact ⟨_, rfl, hb3', hv3⟩

/-- The method fire of v, with arguments l, gives u. -/
def FireOk (w : World) (B : Nat) (v : Value) (l : List Tm) (u : Tm) : Prop :=
  ∃ T x f y, v = .iface T x ∧ (∀ W, Below w.heap.size w W → (method 266 T x "loop.example/realizers/impl.fire").run Try.prog W = .ok (f, y) W) ∧ (∀ args w', (callFunc f args).run Try.prog w' = .ok (.enter f args) w') ∧
    ∀ W, Below w.heap.size w W → ∀ g n cap vs, n = l.length → Row W B g l vs → Calls Try.prog f #[y, .slice (some ⟨g, 0, none⟩) n cap] W fun e w' => ∃ v', e = .returned (.tuple #[v', .bool true]) ∧ Below w.heap.size w w' ∧ TV w' B u v'

theorem FireOk.later {w W : World} {B : Nat} {v : Value} {l : List Tm} {u : Tm} (h : FireOk w B v l u) (hb : Below w.heap.size w W) : ∃ T x f y, v = .iface T x ∧ (∀ W', Below W.heap.size W W' → (method 266 T x "loop.example/realizers/impl.fire").run Try.prog W' = .ok (f, y) W') ∧ (∀ args w', (callFunc f args).run Try.prog w' = .ok (.enter f args) w') ∧
    ∀ W', Below W.heap.size W W' → ∀ g n cap vs, n = l.length → Row W' B g l vs → Calls Try.prog f #[y, .slice (some ⟨g, 0, none⟩) n cap] W' fun e w' => ∃ v', e = .returned (.tuple #[v', .bool true]) ∧ Below w.heap.size w w' ∧ TV w' B u v' := by
  obtain ⟨T, x, f, y, hv, hm, hc, hf⟩ := h
  exact ⟨T, x, f, y, hv, fun W' h => hm W' (below_trans hb h), hc, fun W' h => hf W' (below_trans hb h)⟩

theorem info_term : (Try.prog.info? 41).map (fun i => (i.zero, i.size, i.bytes)) = some (some .nilIface, 1, 16) := by kernel_rfl

theorem owns_built (W : World) (v : Value) (T : TypeId) : (W.alloc (.cells #[v] T)).ownsRow W.heap.size T 1 (.slice (some ⟨W.heap.size, 0, none⟩) 1 1) 1 [v] := by
  refine ⟨rfl, Or.inr ⟨W.heap.size, 1, #[v], rfl, Nat.le_refl _, ?_, Nat.le_refl _, by unfold maxLen; omega, rfl, rfl⟩⟩
  show (W.heap.push _)[_]? = _
  simp

theorem oneCell_TV {w : World} {B : Nat} {t : Tm} {v : Value} (h : TV w B t v) : v.oneCell' = true := by
  obtain ⟨T, x, rfl, _⟩ := h.asks; rfl

theorem Row.later {W W' : World} {B g : Nat} {l : List Tm} {vs : List Value} (hr : Row W B g l vs) (hb : Below W.heap.size W W') : Row W' B g l vs :=
  ⟨hr.1, fun i v h => cell_later' (hr.2.1 i v h) _ hb, fun i t v h1 h2 => (hr.2.2 i t v h1 h2).below hb⟩

/-- A row with one term ahead. -/
theorem Row.cons {W W' : World} {B g g' : Nat} {l : List Tm} {vs : List Value} {m : Tm} {vm : Value} {base cap n : Nat} (hr : Row W B g l vs) (hm : TV W B m vm) (hb : Below W.heap.size W W')
    (ho : W'.ownsRow base 41 1 (.slice (some ⟨g', 0, none⟩) n cap) n ([vm] ++ vs)) : Row W' B g' (m :: l) (vm :: vs) := by
  refine ⟨by simp [hr.1], fun i v h => ?_, fun i t v h1 h2 => ?_⟩
  · have := ho.cells (g := g') rfl i v (by simpa using h)
    rw [add_plain'] at this
    simpa using this
  · cases i with
    | zero =>
      obtain rfl := Option.some.inj h1
      obtain rfl := Option.some.inj h2
      exact hm.below hb
    | succ i => exact (hr.2.2 i t v (by simpa using h1) (by simpa using h2)).below hb

theorem fire_app (w : World) (B b n cap : Nat) (T : TypeId) (x y : Value) (f : FuncId) (m u : Tm) (vm : Value) (l : List Tm)
    (h0 : ∀ W, Below w.heap.size w W → W.cell? ⟨b, 0, none⟩ = some (.iface T x)) (h1 : ∀ W, Below w.heap.size w W → W.cell? ⟨b, 1, none⟩ = some vm)
    (hm : ∀ W, Below w.heap.size w W → (method 266 T x "loop.example/realizers/impl.fire").run Try.prog W = .ok (f, y) W) (hc : ∀ args w', (callFunc f args).run Try.prog w' = .ok (.enter f args) w')
    (hf : ∀ W, Below w.heap.size w W → ∀ g n cap vs, n = (m :: l).length → Row W B g (m :: l) vs → Calls Try.prog f #[y, .slice (some ⟨g, 0, none⟩) n cap] W fun e w' => ∃ v', e = .returned (.tuple #[v', .bool true]) ∧ Below w.heap.size w w' ∧ TV w' B u v')
    (ht : TV w B m vm) (W : World) (hW : Below w.heap.size w W) (g : Nat) (vs : List Value) (hl : n = l.length) (hl1 : 1 ≤ n) (hl2 : n ≤ 2) (hr : Row W B g l vs) :
    Calls Try.prog 133 #[.pointer (some ⟨b, 0, none⟩), .slice (some ⟨g, 0, none⟩) n cap] W fun e w' => ∃ v', e = .returned (.tuple #[v', .bool true]) ∧ Below w.heap.size w w' ∧ TV w' B u v' := by
  obtain ⟨i0, hi, hz0, hz1, hz2⟩ := info_parts info_term
  have hself := Below.refl W.heap.size W
  have hr1 := hr.1
  go_enter Try.func133, Try.ntmps133
  obtain ⟨T2, x2, rfl, _⟩ := ht.asks
  have hone : ∀ u ∈ vs, u.oneCell' = true := by
    intro u hu
    obtain ⟨i, hi⟩ := List.getElem?_of_mem hu
    have hlt := (List.getElem?_eq_some_iff.1 hi).1
    exact oneCell_TV (hr.2.2 i _ u (List.getElem?_eq_getElem (by omega)) hi)
  have hfits : 1 + n ≤ maxLen := by unfold maxLen; omega
  have htW := ht.below hW
  have hun := Try.underlying139
  have hbW : Below W.heap.size W ((W.alloc (.cells #[.iface T2 x2] 41)).drew) := ((Below.refl _ _).alloc (Nat.le_refl _) _).drew
  have hbw := below_trans hW hbW
  have hrl := hr.later hbW
  have q1 : vs.length = n * 1 := by omega
  have q2 : ∀ (j : Nat) (u : Value), vs[j]? = some u → ((W.alloc (.cells #[.iface T2 x2] 41)).drew).cell? ((⟨g, 0, none⟩ : Addr).add j) = some u := by
    intro j u hu
    rw [add_plain']
    simpa using hrl.2.1 j u hu
  have q4 : (1 + n) * 16 ≤ 140737488355328 := by omega
  have q5 : W.heap.size ≤ ((W.alloc (.cells #[.iface T2 x2] 41)).drew).heap.size := hbW.size
  have q6 : ((W.alloc (.cells #[.iface T2 x2] 41)).drew).heap.size = W.heap.size + 1 := by simp
  have Q1 := Lib.hid q1; have Q2 := Lib.hid q2; have Q4 := Lib.hid q4; have Q5 := Lib.hid q5; have Q6 := Lib.hid q6; have QR := Lib.hid hr; have QL := Lib.hid hl; have Q0 := Lib.hid hone
  clear q1 q2 q4 q5 q6 hr hr1 hrl hone hl
  go_wp2_with fail
  go_region_held3 (fun W' => Below w.heap.size w W') (first | assumption | exact hW.drew | go_keep)
    (first
      | (refine step_append_lies _ (by rfl) _ _ 139 (by rfl) W.heap.size 41 i0 .nilIface 1 16 hun hi hz0 hz1 hz2 rfl (by omega) _ 1 [.iface T2 x2] (by rfl) ((owns_built W (.iface T2 x2) _).drew) ⟨g, 0, none⟩ n cap vs (by rfl) Q1.out Q2.out Q0.out (by omega) hfits Q4.out Q5.out (W.heap.size + 1) Q6.out ?_; intro g' cap' w1 hown1 hgrow _ _; have hb1 : Below W.heap.size W w1 := hbW.grown hgrow Q5.out (fun k hk => by cases hk; exact Nat.le_refl _); have hbw1 := below_trans hW hb1)
      | (go_at_fn f; refine (hf _ hbw1 _ _ _ _ ?_ (QR.out.cons htW hb1 hown1)).mono ?_; (have := QL.out; simp; omega); rintro e w2 ⟨v', rfl, hb2, hv2⟩))
  go_wp2_with fail
  go_ret2
  exact ⟨_, rfl, hb2, hv2⟩

/-! ### a redex fires -/

theorem FireOk.app {w : World} {B b : Nat} {fr : Nat × Nat} {cs : Array Value} {m u : Tm} {vg vm : Value} {l : List Tm} (h : w.heap[b]? = some (.cells cs 114 fr)) (c0 : cs[0]? = some vg) (c1 : cs[1]? = some vm)
    (hm : TV w B m vm) (hf : FireOk w B vg (m :: l) u) (hl1 : 1 ≤ l.length) (hl2 : l.length ≤ 2) :
    FireOk w B (.iface 110 (.pointer (some ⟨b, 0, none⟩))) l u := by
  obtain ⟨T, x, f, y, rfl, e1, e2, e3⟩ := hf
  have h0 := cell_later' ((cell_of_heap (i := 0) h).trans c0)
  have h1 := cell_later' ((cell_of_heap (i := 1) h).trans c1)
  refine ⟨_, _, _, _, rfl, fun W _ => (meth_application_fire _ W).1, (meth_application_fire ⟨b, 0, none⟩ w).2, fun W hW g' n cap vs hn hr => ?_⟩
  exact fire_app w B b n cap T x y f m u vm l h0 h1 e1 e2 e3 hm W hW g' vs hn (by omega) (by omega) hr

theorem FireOk.k {w : World} {B b : Nat} (m n : Tm) :
    FireOk w B (.iface 131 (.pointer (some ⟨b, 0, none⟩))) [m, n] m := by
  refine ⟨_, _, _, _, rfl, fun W _ => (meth_kLetter_fire _ W).1, (meth_kLetter_fire ⟨b, 0, none⟩ w).2, fun W hW g' n' cap vs hn hr => ?_⟩
  subst hn
  exact (k_fire W B g' cap m n vs _ hr).mono fun e w' ⟨v', he, hw, ht⟩ => ⟨v', he, hw ▸ hW, ht⟩

theorem FireOk.s {w : World} {B b : Nat} (m n p : Tm) (hB : B ≤ w.heap.size) (hm : m.size ≤ 1000000) (hn : n.size ≤ 1000000) (hp : p.size ≤ 1000000) :
    FireOk w B (.iface 134 (.pointer (some ⟨b, 0, none⟩))) [m, n, p] ((m.app p).app (n.app p)) := by
  refine ⟨_, _, _, _, rfl, fun W _ => (meth_sLetter_fire _ W).1, (meth_sLetter_fire ⟨b, 0, none⟩ w).2, fun W hW g' n' cap vs hn' hr => ?_⟩
  subst hn'
  exact (s_fire W B g' cap m n p vs _ (Nat.le_trans hB hW.size) hr hm hn hp).mono fun e w' ⟨v', he, hw, ht⟩ => ⟨v', he, below_trans hW hw, ht⟩

theorem lacks_one {f : Tm} (h : f.lacks = 1) : (∃ m, f = .app .k m) ∨ ∃ m n, f = .app (.app .s m) n := by
  match f with
  | .app .k m => exact Or.inl ⟨m, rfl⟩
  | .app (.app .s m) n => exact Or.inr ⟨m, n, rfl⟩
  | .app .s m => simp [Tm.lacks] at h
  | .app (.nm _) m => simp [Tm.lacks] at h
  | .app (.app .k m) n => simp [Tm.lacks] at h
  | .app (.app (.nm _) m) n => simp [Tm.lacks] at h
  | .app (.app (.app g x) m) n => have := lacks_le g; simp only [Tm.lacks] at h; omega
  | .k => simp [Tm.lacks] at h
  | .s => simp [Tm.lacks] at h
  | .nm _ => simp [Tm.lacks] at h

theorem redex_some {f a : Tm} (h : f.lacks = 1) : ∃ u, Tm.redex (f.app a) = some u := by
  rcases lacks_one h with ⟨m, rfl⟩ | ⟨m, n, rfl⟩
  · exact ⟨_, rfl⟩
  · exact ⟨_, rfl⟩

theorem redex_none {f a : Tm} (h : f.lacks ≠ 1) : Tm.redex (f.app a) = none := by
  unfold Tm.redex
  split
  · rename_i e; injection e with e1 e2; subst e1; simp [Tm.lacks] at h
  · rename_i e; injection e with e1 e2; subst e1; simp [Tm.lacks] at h
  · rfl

theorem fire_redex {w : World} {B : Nat} {f a u : Tm} {vf : Value} (hf : TV w B f vf) (hB : B ≤ w.heap.size) (h : f.lacks = 1) (hs : f.size + a.size ≤ 1000000) (hu : Tm.redex (f.app a) = some u) : FireOk w B vf [a] u := by
  rcases lacks_one h with ⟨m, rfl⟩ | ⟨m, n, rfl⟩
  · obtain ⟨b, fr, vk, vm, rfl, hb, h0, hk, hm⟩ := hf
    obtain ⟨bk, frk, rfl, hbk, hk0⟩ := hk
    simp only [Tm.redex, Option.some.injEq] at hu
    subst hu
    exact FireOk.app h0 rfl rfl hm (FireOk.k _ _) (Nat.le_refl _) (by simp)
  · obtain ⟨b, fr, vg, vn, rfl, hb, h0, hg, hn⟩ := hf
    obtain ⟨b1, fr1, vs, vm, rfl, hb1, h1, hs1, hm⟩ := hg
    obtain ⟨bs, frs, rfl, hbs, hs0⟩ := hs1
    simp only [Tm.redex, Option.some.injEq] at hu
    subst hu
    simp only [Tm.size] at hs
    exact FireOk.app h0 rfl rfl hn (FireOk.app h1 rfl rfl hm (FireOk.s _ _ _ hB (by omega) (by omega) (by omega)) (by simp) (by simp)) (Nat.le_refl _) (by simp)
end Go.Proofs.Ytmkmladlpgfniaa

namespace Go.Proofs.Ytmkmladlpgfniaa
open Go.RowKit

set_option maxHeartbeats 400000
set_option maxRecDepth 100000

theorem normal_step (t : Tm) : t.normal = true ↔ t.step = none := by
  induction t with
  | app f a ihf iha =>
    constructor
    · intro h
      simp only [Tm.normal, Bool.and_eq_true, bne_iff_ne, ne_eq] at h
      simp [Tm.step, redex_none h.1, ihf.1 h.2.1, iha.1 h.2.2]
    · intro h
      obtain ⟨h1, h2, h3⟩ := Tm.step_none h
      simp only [Tm.normal, Bool.and_eq_true, bne_iff_ne, ne_eq]
      refine ⟨fun hl => ?_, ihf.2 h2, iha.2 h3⟩
      obtain ⟨u, hu⟩ := redex_some (f := f) (a := a) hl
      rw [h1] at hu
      simp at hu
  | _ => simp [Tm.normal, Tm.step]

def StepPost (w : World) (B : Nat) (t : Tm) (e : Ending) (w' : World) : Prop :=
  ∃ v', e = .returned (.tuple #[v', .bool t.step.isSome]) ∧ Below w.heap.size w w' ∧ ∀ u, t.step = some u → TV w' B u v'

def StepOk (w : World) (B : Nat) (v : Value) (t : Tm) : Prop :=
  ∃ T x f y, v = .iface T x ∧ (∀ W, Below w.heap.size w W → (method 266 T x "loop.example/realizers/impl.step").run Try.prog W = .ok (f, y) W) ∧ (∀ args w', (callFunc f args).run Try.prog w' = .ok (.enter f args) w') ∧
    ∀ W, Below w.heap.size w W → Calls Try.prog f #[y] W (StepPost w B t)

theorem leaf_step (w : World) : Calls Try.prog 129 #[.agg #[]] w fun e w' => e = .returned (.tuple #[.nilIface, .bool false]) ∧ w' = w.alloc (.cells #[] 95) := by
  go_enter Try.func129, Try.ntmps129
  go_wp2_with fail
  go_ret2
  exact ⟨rfl, rfl⟩

theorem row_one {W : World} {B : Nat} {t : Tm} {v : Value} (T : TypeId) (h : TV W B t v) : Row ((W.alloc (.cells #[v] T)).drew) B W.heap.size [t] [v] := by
  have hn : ((W.alloc (.cells #[v] T)).drew).heap[W.heap.size]? = some (.cells #[v] T (0, 0)) := by
    show (W.heap.push _)[_]? = _
    simp
  refine ⟨rfl, fun i u h => ?_, fun i t' u h1 h2 => ?_⟩
  · rw [cell_of_heap hn]
    simpa using h
  · cases i with
    | zero =>
      obtain rfl := Option.some.inj h1
      obtain rfl := Option.some.inj h2
      exact h.below (((Below.refl _ _).alloc (Nat.le_refl _) _).drew)
    | succ i => simp at h1

section
variable (w : World) (B b : Nat) (T1 T2 : TypeId) (x1 x2 : Value) (f a : Tm) (W : World) (hW : Below w.heap.size w W) (hB : B ≤ w.heap.size)
  (h0 : ∀ W, Below w.heap.size w W → W.cell? ⟨b, 0, none⟩ = some (.iface T1 x1)) (h1 : ∀ W, Below w.heap.size w W → W.cell? ⟨b, 1, none⟩ = some (.iface T2 x2)) (h5 : ∀ W, Below w.heap.size w W → W.cell? ⟨b, 5, none⟩ = some (.bool (f.app a).normal))
  (hf : TV w B f (.iface T1 x1)) (ha : TV w B a (.iface T2 x2))
include hW h5
theorem step_normal (hn : (f.app a).normal = true) :
    Calls Try.prog 139 #[.pointer (some ⟨b, 0, none⟩)] W fun e w' => e = .returned (.tuple #[.nilIface, .bool false]) ∧ Below w.heap.size w w' := by
  rw [hn] at h5
  go_enter Try.func139, Try.ntmps139
  go_wp2_with fail
  go_ret2
  exact ⟨rfl, hW⟩

include h0 h1 hf
theorem step_fire (u : Tm) (hn : (f.app a).normal = false) (hl : f.lacks = 1) (hF : FireOk w B (.iface T1 x1) [a] u) (ha : TV w B a (.iface T2 x2)) :
    Calls Try.prog 139 #[.pointer (some ⟨b, 0, none⟩)] W fun e w' => ∃ v', e = .returned (.tuple #[v', .bool true]) ∧ Below w.heap.size w w' ∧ TV w' B u v' := by
  rw [hn] at h5
  obtain ⟨_, _, e0, _, _, ⟨f3, y3, m3, n3, c3⟩, _⟩ := hf.asks
  injection e0 with e1 e2
  subst e1; subst e2
  obtain ⟨_, _, g4, z4, e0, k4, l4, d4⟩ := hF
  injection e0 with e1 e2
  subst e1; subst e2
  rw [hl] at c3
  have htW := ha.below hW
  go_enter Try.func139, Try.ntmps139
  go_wp2_with (go_at_fn f3; refine (c3 _ (by assumption)).mono ?_; rintro e w1 ⟨rfl, hb1⟩)
  have hF1 := row_one 41 (ha.below hb1)
  have hb2 := (below_alloc hb1 (.cells #[.iface T2 x2] 41)).drew
  go_region_held3 (fun W' => Below w.heap.size w W') (first | assumption | exact hb1.drew | go_keep)
    (first | (go_at_fn g4; refine (d4 _ hb2 _ 1 _ [.iface T2 x2] rfl hF1).mono ?_; rintro e w2 ⟨v', rfl, hb3, hv3⟩))
  go_wp2_with fail
  go_ret2
  exact ⟨_, rfl, hb3, hv3⟩

theorem step_function (u : Tm) (hn : (f.app a).normal = false) (hl : f.lacks ≠ 1) (hs : f.step = some u) (hF : StepOk w B (.iface T1 x1) f) (ha : TV w B a (.iface T2 x2)) (hB : B ≤ w.heap.size) (hz : u.size + a.size ≤ 4000000) :
    Calls Try.prog 139 #[.pointer (some ⟨b, 0, none⟩)] W fun e w' => ∃ v', e = .returned (.tuple #[v', .bool true]) ∧ Below w.heap.size w w' ∧ TV w' B (u.app a) v' := by
  rw [hn] at h5
  obtain ⟨_, _, e0, _, _, ⟨f3, y3, m3, n3, c3⟩, _⟩ := hf.asks
  injection e0 with e1 e2
  subst e1; subst e2
  obtain ⟨_, _, g4, z4, e0, k4, l4, d4⟩ := hF
  injection e0 with e1 e2
  subst e1; subst e2
  have hl1 : ((f.lacks : Int) == 1) = false := by rw [beq_eq_false_iff_ne]; omega
  have hsome : f.step.isSome = true := by rw [hs]; rfl
  have HS := Lib.hid hs
  clear hs
  go_enter Try.func139, Try.ntmps139
  go_wp2_with (first
    | (go_at_fn f3; refine (c3 _ (by assumption)).mono ?_; rintro e w1 ⟨rfl, hb1⟩)
    | (go_at_fn g4; refine (d4 _ (by assumption)).mono ?_; rintro e w2 ⟨v2, rfl, hb2, hv2⟩; have HV := Lib.hid (hv2 u HS.out); clear hv2)
    | (go_at_call 74; refine (apply_any _ B u a _ _ HV.out (ha.below hb2) (Nat.le_trans hB hb2.size) (by omega)).mono ?_; rintro e w3 ⟨v3, rfl, hb3, hv3⟩))
  go_ret2
  exact ⟨_, rfl, below_trans hb2 hb3, hv3⟩

theorem step_argument (u : Tm) (hn : (f.app a).normal = false) (hl : f.lacks ≠ 1) (hs : f.step = none) (hF : StepOk w B (.iface T1 x1) f) (hs2 : a.step = some u) (hA : StepOk w B (.iface T2 x2) a) (hB : B ≤ w.heap.size) (hz : f.size + u.size ≤ 4000000) :
    Calls Try.prog 139 #[.pointer (some ⟨b, 0, none⟩)] W fun e w' => ∃ v', e = .returned (.tuple #[v', .bool true]) ∧ Below w.heap.size w w' ∧ TV w' B (f.app u) v' := by
  rw [hn] at h5
  obtain ⟨_, _, e0, _, _, ⟨f3, y3, m3, n3, c3⟩, _⟩ := hf.asks
  injection e0 with e1 e2
  subst e1; subst e2
  obtain ⟨_, _, g4, z4, e0, k4, l4, d4⟩ := hF
  injection e0 with e1 e2
  subst e1; subst e2
  obtain ⟨_, _, g5, z5, e0, k5, l5, d5⟩ := hA
  injection e0 with e1 e2
  subst e1; subst e2
  have hl1 : ((f.lacks : Int) == 1) = false := by rw [beq_eq_false_iff_ne]; omega
  have hsome : f.step.isSome = false := by rw [hs]; rfl
  have hsome2 : a.step.isSome = true := by rw [hs2]; rfl
  have HS := Lib.hid hs2
  clear hs hs2
  go_enter Try.func139, Try.ntmps139
  go_wp2_with (first
    | (go_at_fn f3; refine (c3 _ (by assumption)).mono ?_; rintro e w1 ⟨rfl, hb1⟩)
    | (go_at_fn g4; refine (d4 _ (by assumption)).mono ?_; rintro e w2 ⟨v2, rfl, hb2, hv2⟩; clear hv2)
    | (go_at_fn g5; refine (d5 _ (by assumption)).mono ?_; rintro e w4 ⟨v4, rfl, hb4, hv4⟩; have HV := Lib.hid (hv4 u HS.out); clear hv4)
    | (go_at_call 74; refine (apply_any _ B f u _ _ (hf.below hb4) HV.out (Nat.le_trans hB hb4.size) (by omega)).mono ?_; rintro e w3 ⟨v3, rfl, hb3, hv3⟩))
  go_ret2
  exact ⟨_, rfl, below_trans hb4 hb3, hv3⟩
end

theorem redex_size {t u : Tm} (h : Tm.redex t = some u) : u.size ≤ 2 * t.size := by
  unfold Tm.redex at h
  split at h
  · obtain rfl := Option.some.inj h; simp only [Tm.size]; omega
  · obtain rfl := Option.some.inj h; simp only [Tm.size]; omega
  · simp at h

theorem step_size {t u : Tm} : t.step = some u → u.size ≤ 2 * t.size := by
  induction t generalizing u with
  | app f a ihf iha =>
    intro h
    simp only [Tm.step] at h
    split at h
    · rename_i r hr; obtain rfl := Option.some.inj h; exact redex_size hr
    · split at h
      · rename_i f' hf; obtain rfl := Option.some.inj h; have := ihf hf; simp only [Tm.size]; omega
      · split at h
        · rename_i a' ha; obtain rfl := Option.some.inj h; have := iha ha; simp only [Tm.size]; omega
        · simp at h
  | _ => intro h; simp [Tm.step] at h

theorem TV.stepOk {w : World} {B : Nat} (hB : B ≤ w.heap.size) : ∀ {t : Tm} {v : Value}, TV w B t v → t.size ≤ 1000000 → StepOk w B v t
  | .k, _, ⟨b, fr, hv, _, h⟩, _ => ⟨_, _, _, _, hv, fun W hb => (meth_kLetter_step b W fr _ (heap_later h hb)).1, (meth_kLetter_step b w fr _ h).2, fun W hb => (leaf_step W).mono fun e w' ⟨he, hw⟩ => ⟨_, he, hw ▸ below_alloc hb _, fun u hu => by simp [Tm.step] at hu⟩⟩
  | .s, _, ⟨b, fr, hv, _, h⟩, _ => ⟨_, _, _, _, hv, fun W hb => (meth_sLetter_step b W fr _ (heap_later h hb)).1, (meth_sLetter_step b w fr _ h).2, fun W hb => (leaf_step W).mono fun e w' ⟨he, hw⟩ => ⟨_, he, hw ▸ below_alloc hb _, fun u hu => by simp [Tm.step] at hu⟩⟩
  | .nm _, _, ⟨b, fr, hv, _, h⟩, _ => ⟨_, _, _, _, hv, fun W hb => (meth_nameAtom_step b W fr _ (heap_later h hb)).1, (meth_nameAtom_step b w fr _ h).2, fun W hb => (leaf_step W).mono fun e w' ⟨he, hw⟩ => ⟨_, he, hw ▸ below_alloc hb _, fun u hu => by simp [Tm.step] at hu⟩⟩
  | .app f a, _, ⟨b, fr, vf, va, hv, _, h, hf, ha⟩, hz => by
    simp only [Tm.size] at hz
    have sf := TV.stepOk hB hf (by omega)
    have sa := TV.stepOk hB ha (by omega)
    obtain ⟨T1, x1, rfl, _⟩ := hf.asks
    obtain ⟨T2, x2, rfl, _⟩ := ha.asks
    refine ⟨_, _, _, _, hv, fun W _ => (meth_application_step _ W).1, (meth_application_step ⟨b, 0, none⟩ w).2, fun W hW => ?_⟩
    have h0 := cell_later' (cell_of_heap (i := 0) h)
    have h1 := cell_later' (cell_of_heap (i := 1) h)
    have h5 := cell_later' (cell_of_heap (i := 5) h)
    cases hn : (f.app a).normal with
    | true =>
      have hs := (normal_step _).1 hn
      refine (step_normal w b f a W hW h5 hn).mono fun e w' ⟨he, hb⟩ => ⟨_, by rw [hs]; exact he, hb, fun u hu => by rw [hs] at hu; simp at hu⟩
    | false =>
      by_cases hl : f.lacks = 1
      · obtain ⟨u, hu⟩ := redex_some (a := a) hl
        have hs : (f.app a).step = some u := by simp [Tm.step, hu]
        refine (step_fire w B b T1 T2 x1 x2 f a W hW h0 h1 h5 hf u hn hl (fire_redex hf hB hl (by omega) hu) ha).mono fun e w' ⟨v', he, hb, ht⟩ => ⟨v', by rw [hs]; exact he, hb, fun u' hu' => by rw [hs] at hu'; obtain rfl := Option.some.inj hu'; exact ht⟩
      · have hr := redex_none (a := a) hl
        cases hfs : f.step with
        | some u =>
          have hs : (f.app a).step = some (u.app a) := by simp [Tm.step, hr, hfs]
          have := step_size hfs
          refine (step_function w B b T1 T2 x1 x2 f a W hW h0 h1 h5 hf u hn hl hfs sf ha hB (by omega)).mono fun e w' ⟨v', he, hb, ht⟩ => ⟨v', by rw [hs]; exact he, hb, fun u' hu' => by rw [hs] at hu'; obtain rfl := Option.some.inj hu'; exact ht⟩
        | none =>
          cases has : a.step with
          | some u =>
            have hs : (f.app a).step = some (f.app u) := by simp [Tm.step, hr, hfs, has]
            have := step_size has
            refine (step_argument w B b T1 T2 x1 x2 f a W hW h0 h1 h5 hf u hn hl hfs sf has sa hB (by omega)).mono fun e w' ⟨v', he, hb, ht⟩ => ⟨v', by rw [hs]; exact he, hb, fun u' hu' => by rw [hs] at hu'; obtain rfl := Option.some.inj hu'; exact ht⟩
          | none =>
            have hs : (f.app a).step = none := by simp [Tm.step, hr, hfs, has]
            rw [(normal_step _).2 hs] at hn
            simp at hn
end Go.Proofs.Ytmkmladlpgfniaa

namespace Go.Proofs.Ytmkmladlpgfniaa
open Go.RowKit

set_option maxHeartbeats 400000
set_option maxRecDepth 100000

theorem fits_any (w : World) (B : Nat) (t : Tm) (v : Value) (h : TV w B t v) :
    Calls Try.prog 41 #[v] w fun e w' => e = .returned (.bool t.fits) ∧ Below w.heap.size w w' := by
  obtain ⟨T1, x1, rfl, ⟨f1, y1, m1, n1, c1⟩, ⟨f2, y2, m2, n2, c2⟩, _⟩ := h.asks
  have hb0 := Below.refl w.heap.size w
  by_cases h1 : t.size ≤ 3000
  · by_cases h2 : t.depth ≤ 1500
    · have hf : t.fits = true := by simp [Tm.fits, h1, h2]
      rw [hf]
      clear hf
      go_enter Try.func41, Try.ntmps41
      go_wp2_with (first
        | (go_at_fn f1; refine (c1 _ (by assumption)).mono ?_; rintro e w1 ⟨rfl, hb⟩)
        | (go_at_fn f2; refine (c2 _ (by assumption)).mono ?_; rintro e w1 ⟨rfl, hb⟩))
      go_ret
      exact ⟨by simp; omega, hb⟩
    · have hf : t.fits = false := by simp [Tm.fits, h2]
      rw [hf]
      clear hf
      go_enter Try.func41, Try.ntmps41
      go_wp2_with (first
        | (go_at_fn f1; refine (c1 _ (by assumption)).mono ?_; rintro e w1 ⟨rfl, hb⟩)
        | (go_at_fn f2; refine (c2 _ (by assumption)).mono ?_; rintro e w1 ⟨rfl, hb⟩))
      go_ret
      exact ⟨by simp; omega, hb⟩
  · have hf : t.fits = false := by simp [Tm.fits, h1]
    rw [hf]
    clear hf
    go_enter Try.func41, Try.ntmps41
    go_wp2_with (first
      | (go_at_fn f1; refine (c1 _ (by assumption)).mono ?_; rintro e w1 ⟨rfl, hb⟩)
      | (go_at_fn f2; refine (c2 _ (by assumption)).mono ?_; rintro e w1 ⟨rfl, hb⟩))
    go_ret
    exact ⟨by simp, by assumption⟩

def FitPost (w : World) (B : Nat) (t : Tm) (e : Ending) (w' : World) : Prop :=
  ∃ v', e = .returned (.tuple #[v', .bool t.stepFit.isSome]) ∧ Below w.heap.size w w' ∧ ∀ u, t.stepFit = some u → TV w' B u v'

theorem stepTerm_any (w : World) (B : Nat) (t : Tm) (v : Value) (h : TV w B t v) (hB : B ≤ w.heap.size) (hz : t.size ≤ 1000000) :
    Calls Try.prog 96 #[v] w (FitPost w B t) := by
  obtain ⟨T1, x1, f1, y1, rfl, m1, n1, c1⟩ := h.stepOk hB hz
  have hb0 := Below.refl w.heap.size w
  cases hs : t.step with
  | none =>
    have hsome : t.step.isSome = false := by rw [hs]; rfl
    have hfin : t.stepFit = none := by simp [Tm.stepFit, hs]
    have H := Lib.hid hfin
    clear hs hfin
    go_enter Try.func96, Try.ntmps96
    go_wp2_with (go_at_fn f1; refine (c1 _ (by assumption)).mono ?_; rintro e w1 ⟨v1, rfl, hb1, hv1⟩; clear hv1)
    go_ret2
    exact ⟨_, by rw [H.out]; rfl, hb1, fun u hu => by rw [H.out] at hu; simp at hu⟩
  | some u =>
    have hsome : t.step.isSome = true := by rw [hs]; rfl
    have HS := Lib.hid hs
    cases hf : u.fits with
    | false =>
      have hfin : t.stepFit = none := by simp [Tm.stepFit, hs, hf]
      have H := Lib.hid hfin
      clear hs hfin
      go_enter Try.func96, Try.ntmps96
      go_wp2_with (first
        | (go_at_fn f1; refine (c1 _ (by assumption)).mono ?_; rintro e w1 ⟨v1, rfl, hb1, hv1⟩; have HV := Lib.hid (hv1 u HS.out); clear hv1)
        | (go_at_call 41; refine (fits_any _ B u _ HV.out).mono ?_; rintro e w2 ⟨rfl, hb2⟩))
      go_ret2
      exact ⟨_, by rw [H.out]; rfl, below_trans hb1 hb2, fun u hu => by rw [H.out] at hu; simp at hu⟩
    | true =>
      have hfin : t.stepFit = some u := by simp [Tm.stepFit, hs, hf]
      have H := Lib.hid hfin
      clear hs hfin
      go_enter Try.func96, Try.ntmps96
      go_wp2_with (first
        | (go_at_fn f1; refine (c1 _ (by assumption)).mono ?_; rintro e w1 ⟨v1, rfl, hb1, hv1⟩; have HV := Lib.hid (hv1 u HS.out); clear hv1)
        | (go_at_call 41; refine (fits_any _ B u _ HV.out).mono ?_; rintro e w2 ⟨rfl, hb2⟩))
      go_ret2
      refine ⟨_, by rw [H.out]; rfl, below_trans hb1 hb2, fun u' hu => ?_⟩
      rw [H.out] at hu
      obtain rfl := Option.some.inj hu
      exact HV.out.below hb2

theorem fits_size {t : Tm} (h : t.fits = true) : t.size ≤ 3000 ∧ t.depth ≤ 1500 := by
  simp only [Tm.fits, Bool.and_eq_true, decide_eq_true_eq] at h; exact h

theorem stepFit_fits {t u : Tm} (h : t.stepFit = some u) : u.fits = true := by
  unfold Tm.stepFit at h
  split at h
  · split at h
    · obtain rfl := Option.some.inj h; assumption
    · simp at h
  · simp at h
end Go.Proofs.Ytmkmladlpgfniaa
