/-
  How a term of the program lies in memory; which function a method of it is; what the four measures answer.
-/
import Derived.Test.YtjgemiojjhfnoacProg
import Derived.Test.YtjgemiojjhfnoacRed
import Derived.WalkKit
import Derived.WalkSpells
import Derived.WalkLawsBesides
import Derived.ChangeKeysEq
import Derived.Shelf.Abstract
namespace Go.Proofs.Ytjgemiojjhfnoac
open Go.RowKit

/-- How many arguments are lacking to make a redex. -/
def Tm.lacks : Tm → Nat
  | .k => 2
  | .s => 3
  | .nm _ => 0
  | .app f _ => lacks f - 1

def Tm.normal : Tm → Bool
  | .app f a => (lacks f != 1) && (normal f && normal a)
  | _ => true

/-- A string of bytes. -/
abbrev str (l : List UInt8) : Value := .string ⟨l.toArray⟩

/-- The value v is the term t, in blocks from B on. -/
def TV (w : World) (B : Nat) : Tm → Value → Prop
  | .k, v => ∃ b fr, v = .iface 122 (.pointer (some ⟨b, 0, none⟩)) ∧ B ≤ b ∧ w.heap[b]? = some (.cells #[] 124 fr)
  | .s, v => ∃ b fr, v = .iface 125 (.pointer (some ⟨b, 0, none⟩)) ∧ B ≤ b ∧ w.heap[b]? = some (.cells #[] 126 fr)
  | .nm n, v => ∃ b fr, v = .iface 89 (.pointer (some ⟨b, 0, none⟩)) ∧ B ≤ b ∧ w.heap[b]? = some (.cells #[str n] 93 fr)
  | .app f a, v => ∃ b fr vf va, v = .iface 107 (.pointer (some ⟨b, 0, none⟩)) ∧ B ≤ b ∧
      w.heap[b]? = some (.cells #[vf, va, .int .i64 ((f.app a).size : Nat), .int .i64 ((f.app a).depth : Nat), .int .i64 ((f.app a).lacks : Nat), .bool (f.app a).normal] 111 fr) ∧ TV w B f vf ∧ TV w B a va

theorem TV.same {w w' : World} {B : Nat} (hs : ∀ b, B ≤ b → b < w.heap.size → w'.heap[b]? = w.heap[b]?) : ∀ {t : Tm} {v : Value}, TV w B t v → TV w' B t v
  | .k, _, ⟨b, fr, hv, hb, h⟩ => ⟨b, fr, hv, hb, by rw [hs b hb (Array.getElem?_eq_some_iff.1 h).1]; exact h⟩
  | .s, _, ⟨b, fr, hv, hb, h⟩ => ⟨b, fr, hv, hb, by rw [hs b hb (Array.getElem?_eq_some_iff.1 h).1]; exact h⟩
  | .nm _, _, ⟨b, fr, hv, hb, h⟩ => ⟨b, fr, hv, hb, by rw [hs b hb (Array.getElem?_eq_some_iff.1 h).1]; exact h⟩
  | .app _ _, _, ⟨b, fr, vf, va, hv, hb, h, hf, ha⟩ => ⟨b, fr, vf, va, hv, hb, by rw [hs b hb (Array.getElem?_eq_some_iff.1 h).1]; exact h, hf.same hs, ha.same hs⟩

theorem TV.below {w w' : World} {B : Nat} {t : Tm} {v : Value} (h : TV w B t v) (hb : Below w.heap.size w w') : TV w' B t v := h.same fun b _ hl => hb.block b hl

theorem TV.less {w : World} {B B' : Nat} (hB : B' ≤ B) : ∀ {t : Tm} {v : Value}, TV w B t v → TV w B' t v
  | .k, _, ⟨b, fr, hv, hb, h⟩ => ⟨b, fr, hv, Nat.le_trans hB hb, h⟩
  | .s, _, ⟨b, fr, hv, hb, h⟩ => ⟨b, fr, hv, Nat.le_trans hB hb, h⟩
  | .nm _, _, ⟨b, fr, hv, hb, h⟩ => ⟨b, fr, hv, Nat.le_trans hB hb, h⟩
  | .app _ _, _, ⟨b, fr, vf, va, hv, hb, h, hf, ha⟩ => ⟨b, fr, vf, va, hv, Nat.le_trans hB hb, h, hf.less hB, ha.less hB⟩

/-- A method of an interface value is this function with this receiver. -/
def Meth (w : World) (T : TypeId) (x : Value) (name : String) (f : FuncId) (y : Value) : Prop :=
  (method 258 T x name).run Try.prog w = .ok (f, y) w ∧ ∀ args w', (callFunc f args).run Try.prog w' = .ok (.enter f args) w'

theorem cell_of_heap {w : World} {b i : Nat} {cs : Array Value} {T : TypeId} {fr : Nat × Nat} (h : w.heap[b]? = some (.cells cs T fr)) : w.cell? ⟨b, i, none⟩ = cs[i]? := by
  simp [World.cell?, h]

/-! ### methods promoted through the embedded leaf -/

theorem meth_leaf {T S : TypeId} {fd : Field} {fs : Array Field} {cs : Array Value} {f : FuncId} {sig : TypeId} {name : String} {e n : Nat}
    (hm : (Try.prog.info? T).map (fun i => i.methods.find? (·.name == name)) = some (some { name := name, sig := sig, path := #[⟨S, 0, true⟩], func := some (f, false) }))
    (hS : Try.prog.underlying S = some (.struct fs)) (h0 : fs[0]? = some fd) (hfd : fd.type = 91) (hfo : fd.offset = 0) (hfb : fd.byteOffset = 0)
    (hc : Try.prog.cellsOf S = n) (hx : n = 0 ∨ byteOfCell Try.prog Try.prog.depth S 0 = some e)
    (b : Nat) (w : World) (fr : Nat × Nat) (h : w.heap[b]? = some (.cells cs S fr)) : (method 258 T (.pointer (some ⟨b, 0, none⟩)) name).run Try.prog w = .ok (f, .agg #[]) w := by
  obtain ⟨i, hi, hf⟩ := Option.map_eq_some_iff.1 hm
  have hz : (Try.prog.info? 91).map (·.size) = some 0 := by kernel_rfl
  obtain ⟨il, hil, hiz⟩ := Option.map_eq_some_iff.1 hz
  have hul : Try.prog.underlying 91 = some (.struct #[]) := by kernel_rfl
  have hb : ∀ w' : World, w'.heap = w.heap → (byteOf ⟨b, 0, none⟩).run Try.prog w' = .ok (if n = 0 then 0 else e) w' := by
    intro w' hw
    rcases hx with hx | hx
    · simp [go_sem, byteOf, noView, viewAt, World.shape?, hw, h, hc, hx]
    · by_cases hn : n = 0
      · simp [go_sem, byteOf, noView, viewAt, World.shape?, hw, h, hc, hn]
      · simp [go_sem, byteOf, noView, viewAt, World.shape?, hw, h, hc, hx, hn]
  rw [show (258 : Nat) = 257 + 1 from rfl]
  generalize 257 = fuel
  simp only [method]
  simp [go_sem, run_typeInfo, hi, hf, follow, run_underlying, hS, h0, asAddr, Place.get, loadVar, isAgg, hfd, fieldPlace, sizeOf, hil, hiz, hfo, hfb, partAt, hb, receiverAt, hul, loadCells, loadCellsFrom]

/-! ### which function a method is -/

theorem meth_kLetter_atoms (b : Nat) (w : World) (fr : Nat × Nat) (cs : Array Value) (h : w.heap[b]? = some (.cells cs 124 fr)) : Meth w 122 (.pointer (some ⟨b, 0, none⟩)) "loop.example/realizers/impl.atoms" 104 (.agg #[]) :=
  ⟨meth_leaf (e := 0) (n := 0) (sig := 106) (by kernel_rfl) Try.underlying124 rfl rfl rfl rfl (by kernel_rfl) (Or.inl rfl) b w fr h, fun _ _ => by kernel_rfl⟩
theorem meth_sLetter_atoms (b : Nat) (w : World) (fr : Nat × Nat) (cs : Array Value) (h : w.heap[b]? = some (.cells cs 126 fr)) : Meth w 125 (.pointer (some ⟨b, 0, none⟩)) "loop.example/realizers/impl.atoms" 104 (.agg #[]) :=
  ⟨meth_leaf (e := 0) (n := 0) (sig := 106) (by kernel_rfl) Try.underlying126 rfl rfl rfl rfl (by kernel_rfl) (Or.inl rfl) b w fr h, fun _ _ => by kernel_rfl⟩
theorem meth_nameAtom_atoms (b : Nat) (w : World) (fr : Nat × Nat) (cs : Array Value) (h : w.heap[b]? = some (.cells cs 93 fr)) : Meth w 89 (.pointer (some ⟨b, 0, none⟩)) "loop.example/realizers/impl.atoms" 104 (.agg #[]) :=
  ⟨meth_leaf (e := 0) (n := 1) (sig := 106) (by kernel_rfl) Try.underlying93 rfl rfl rfl rfl (by kernel_rfl) (Or.inr (by kernel_rfl)) b w fr h, fun _ _ => by kernel_rfl⟩
theorem meth_kLetter_nesting (b : Nat) (w : World) (fr : Nat × Nat) (cs : Array Value) (h : w.heap[b]? = some (.cells cs 124 fr)) : Meth w 122 (.pointer (some ⟨b, 0, none⟩)) "loop.example/realizers/impl.nesting" 108 (.agg #[]) :=
  ⟨meth_leaf (e := 0) (n := 0) (sig := 106) (by kernel_rfl) Try.underlying124 rfl rfl rfl rfl (by kernel_rfl) (Or.inl rfl) b w fr h, fun _ _ => by kernel_rfl⟩
theorem meth_sLetter_nesting (b : Nat) (w : World) (fr : Nat × Nat) (cs : Array Value) (h : w.heap[b]? = some (.cells cs 126 fr)) : Meth w 125 (.pointer (some ⟨b, 0, none⟩)) "loop.example/realizers/impl.nesting" 108 (.agg #[]) :=
  ⟨meth_leaf (e := 0) (n := 0) (sig := 106) (by kernel_rfl) Try.underlying126 rfl rfl rfl rfl (by kernel_rfl) (Or.inl rfl) b w fr h, fun _ _ => by kernel_rfl⟩
theorem meth_nameAtom_nesting (b : Nat) (w : World) (fr : Nat × Nat) (cs : Array Value) (h : w.heap[b]? = some (.cells cs 93 fr)) : Meth w 89 (.pointer (some ⟨b, 0, none⟩)) "loop.example/realizers/impl.nesting" 108 (.agg #[]) :=
  ⟨meth_leaf (e := 0) (n := 1) (sig := 106) (by kernel_rfl) Try.underlying93 rfl rfl rfl rfl (by kernel_rfl) (Or.inr (by kernel_rfl)) b w fr h, fun _ _ => by kernel_rfl⟩
theorem meth_kLetter_normal (b : Nat) (w : World) (fr : Nat × Nat) (cs : Array Value) (h : w.heap[b]? = some (.cells cs 124 fr)) : Meth w 122 (.pointer (some ⟨b, 0, none⟩)) "loop.example/realizers/impl.normal" 109 (.agg #[]) :=
  ⟨meth_leaf (e := 0) (n := 0) (sig := 80) (by kernel_rfl) Try.underlying124 rfl rfl rfl rfl (by kernel_rfl) (Or.inl rfl) b w fr h, fun _ _ => by kernel_rfl⟩
theorem meth_sLetter_normal (b : Nat) (w : World) (fr : Nat × Nat) (cs : Array Value) (h : w.heap[b]? = some (.cells cs 126 fr)) : Meth w 125 (.pointer (some ⟨b, 0, none⟩)) "loop.example/realizers/impl.normal" 109 (.agg #[]) :=
  ⟨meth_leaf (e := 0) (n := 0) (sig := 80) (by kernel_rfl) Try.underlying126 rfl rfl rfl rfl (by kernel_rfl) (Or.inl rfl) b w fr h, fun _ _ => by kernel_rfl⟩
theorem meth_nameAtom_normal (b : Nat) (w : World) (fr : Nat × Nat) (cs : Array Value) (h : w.heap[b]? = some (.cells cs 93 fr)) : Meth w 89 (.pointer (some ⟨b, 0, none⟩)) "loop.example/realizers/impl.normal" 109 (.agg #[]) :=
  ⟨meth_leaf (e := 0) (n := 1) (sig := 80) (by kernel_rfl) Try.underlying93 rfl rfl rfl rfl (by kernel_rfl) (Or.inr (by kernel_rfl)) b w fr h, fun _ _ => by kernel_rfl⟩
theorem meth_kLetter_step (b : Nat) (w : World) (fr : Nat × Nat) (cs : Array Value) (h : w.heap[b]? = some (.cells cs 124 fr)) : Meth w 122 (.pointer (some ⟨b, 0, none⟩)) "loop.example/realizers/impl.step" 111 (.agg #[]) :=
  ⟨meth_leaf (e := 0) (n := 0) (sig := 118) (by kernel_rfl) Try.underlying124 rfl rfl rfl rfl (by kernel_rfl) (Or.inl rfl) b w fr h, fun _ _ => by kernel_rfl⟩
theorem meth_sLetter_step (b : Nat) (w : World) (fr : Nat × Nat) (cs : Array Value) (h : w.heap[b]? = some (.cells cs 126 fr)) : Meth w 125 (.pointer (some ⟨b, 0, none⟩)) "loop.example/realizers/impl.step" 111 (.agg #[]) :=
  ⟨meth_leaf (e := 0) (n := 0) (sig := 118) (by kernel_rfl) Try.underlying126 rfl rfl rfl rfl (by kernel_rfl) (Or.inl rfl) b w fr h, fun _ _ => by kernel_rfl⟩
theorem meth_nameAtom_step (b : Nat) (w : World) (fr : Nat × Nat) (cs : Array Value) (h : w.heap[b]? = some (.cells cs 93 fr)) : Meth w 89 (.pointer (some ⟨b, 0, none⟩)) "loop.example/realizers/impl.step" 111 (.agg #[]) :=
  ⟨meth_leaf (e := 0) (n := 1) (sig := 118) (by kernel_rfl) Try.underlying93 rfl rfl rfl rfl (by kernel_rfl) (Or.inr (by kernel_rfl)) b w fr h, fun _ _ => by kernel_rfl⟩
theorem meth_kLetter_lacks (a : Addr) (w : World) : Meth w 122 (.pointer (some a)) "loop.example/realizers/impl.lacks" 126 (.pointer (some a)) :=
  ⟨by kernel_rfl, fun _ _ => by kernel_rfl⟩
theorem meth_kLetter_fire (a : Addr) (w : World) : Meth w 122 (.pointer (some a)) "loop.example/realizers/impl.fire" 125 (.pointer (some a)) :=
  ⟨by kernel_rfl, fun _ _ => by kernel_rfl⟩
theorem meth_kLetter_write (a : Addr) (w : World) : Meth w 122 (.pointer (some a)) "loop.example/realizers/impl.write" 128 (.pointer (some a)) :=
  ⟨by kernel_rfl, fun _ _ => by kernel_rfl⟩
theorem meth_sLetter_lacks (a : Addr) (w : World) : Meth w 125 (.pointer (some a)) "loop.example/realizers/impl.lacks" 130 (.pointer (some a)) :=
  ⟨by kernel_rfl, fun _ _ => by kernel_rfl⟩
theorem meth_sLetter_fire (a : Addr) (w : World) : Meth w 125 (.pointer (some a)) "loop.example/realizers/impl.fire" 129 (.pointer (some a)) :=
  ⟨by kernel_rfl, fun _ _ => by kernel_rfl⟩
theorem meth_sLetter_write (a : Addr) (w : World) : Meth w 125 (.pointer (some a)) "loop.example/realizers/impl.write" 132 (.pointer (some a)) :=
  ⟨by kernel_rfl, fun _ _ => by kernel_rfl⟩
theorem meth_nameAtom_lacks (a : Addr) (w : World) : Meth w 89 (.pointer (some a)) "loop.example/realizers/impl.lacks" 106 (.pointer (some a)) :=
  ⟨by kernel_rfl, fun _ _ => by kernel_rfl⟩
theorem meth_nameAtom_fire (a : Addr) (w : World) : Meth w 89 (.pointer (some a)) "loop.example/realizers/impl.fire" 105 (.pointer (some a)) :=
  ⟨by kernel_rfl, fun _ _ => by kernel_rfl⟩
theorem meth_nameAtom_write (a : Addr) (w : World) : Meth w 89 (.pointer (some a)) "loop.example/realizers/impl.write" 112 (.pointer (some a)) :=
  ⟨by kernel_rfl, fun _ _ => by kernel_rfl⟩
theorem meth_application_atoms (a : Addr) (w : World) : Meth w 107 (.pointer (some a)) "loop.example/realizers/impl.atoms" 116 (.pointer (some a)) :=
  ⟨by kernel_rfl, fun _ _ => by kernel_rfl⟩
theorem meth_application_nesting (a : Addr) (w : World) : Meth w 107 (.pointer (some a)) "loop.example/realizers/impl.nesting" 120 (.pointer (some a)) :=
  ⟨by kernel_rfl, fun _ _ => by kernel_rfl⟩
theorem meth_application_normal (a : Addr) (w : World) : Meth w 107 (.pointer (some a)) "loop.example/realizers/impl.normal" 121 (.pointer (some a)) :=
  ⟨by kernel_rfl, fun _ _ => by kernel_rfl⟩
theorem meth_application_step (a : Addr) (w : World) : Meth w 107 (.pointer (some a)) "loop.example/realizers/impl.step" 123 (.pointer (some a)) :=
  ⟨by kernel_rfl, fun _ _ => by kernel_rfl⟩
theorem meth_application_lacks (a : Addr) (w : World) : Meth w 107 (.pointer (some a)) "loop.example/realizers/impl.lacks" 118 (.pointer (some a)) :=
  ⟨by kernel_rfl, fun _ _ => by kernel_rfl⟩
theorem meth_application_fire (a : Addr) (w : World) : Meth w 107 (.pointer (some a)) "loop.example/realizers/impl.fire" 117 (.pointer (some a)) :=
  ⟨by kernel_rfl, fun _ _ => by kernel_rfl⟩
theorem meth_application_write (a : Addr) (w : World) : Meth w 107 (.pointer (some a)) "loop.example/realizers/impl.write" 124 (.pointer (some a)) :=
  ⟨by kernel_rfl, fun _ _ => by kernel_rfl⟩
