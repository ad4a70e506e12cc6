/-
  How a term of the program lies in memory; which function a method of it is; what the four measures answer.
-/
import Derived.Test.YtjomocjlnjgkeaaProg
import Derived.Test.YtjomocjlnjgkeaaPkAA
import Derived.WalkKit
import Derived.WalkSpells
import Derived.WalkLawsBesides
import Derived.ChangeKeysEq
import Derived.Shelf.Abstract
namespace Go.Proofs.Ytjomocjlnjgkeaa
open Go.RowKit

/-- How many arguments are lacking to make a redex. -/
def Tm.lacks : Tm → Nat
  | .k => 2
  | .s => 3
  | .nm _ => 0
  | .app f _ => lacks f - 1

def Tm.normal : Tm → Bool
  | .app f a => (lacks f != 1) && (normal f && normal a)
  | _ => true

/-- A string of bytes. -/
abbrev str (l : List UInt8) : Value := .string ⟨l.toArray⟩

/-- The value v is the term t, in blocks from B on. -/
def TV (w : World) (B : Nat) : Tm → Value → Prop
  | .k, v => ∃ b fr, v = .iface 137 (.pointer (some ⟨b, 0, none⟩)) ∧ B ≤ b ∧ w.heap[b]? = some (.cells #[] 138 fr)
  | .s, v => ∃ b fr, v = .iface 134 (.pointer (some ⟨b, 0, none⟩)) ∧ B ≤ b ∧ w.heap[b]? = some (.cells #[] 136 fr)
  | .nm n, v => ∃ b fr, v = .iface 97 (.pointer (some ⟨b, 0, none⟩)) ∧ B ≤ b ∧ w.heap[b]? = some (.cells #[str n] 101 fr)
  | .app f a, v => ∃ b fr vf va, v = .iface 152 (.pointer (some ⟨b, 0, none⟩)) ∧ B ≤ b ∧
      w.heap[b]? = some (.cells #[vf, va, .int .i64 ((f.app a).size : Nat), .int .i64 ((f.app a).depth : Nat), .int .i64 ((f.app a).lacks : Nat), .bool (f.app a).normal] 154 fr) ∧ TV w B f vf ∧ TV w B a va

theorem TV.same {w w' : World} {B : Nat} (hs : ∀ b, B ≤ b → b < w.heap.size → w'.heap[b]? = w.heap[b]?) : ∀ {t : Tm} {v : Value}, TV w B t v → TV w' B t v
  | .k, _, ⟨b, fr, hv, hb, h⟩ => ⟨b, fr, hv, hb, by rw [hs b hb (Array.getElem?_eq_some_iff.1 h).1]; exact h⟩
  | .s, _, ⟨b, fr, hv, hb, h⟩ => ⟨b, fr, hv, hb, by rw [hs b hb (Array.getElem?_eq_some_iff.1 h).1]; exact h⟩
  | .nm _, _, ⟨b, fr, hv, hb, h⟩ => ⟨b, fr, hv, hb, by rw [hs b hb (Array.getElem?_eq_some_iff.1 h).1]; exact h⟩
  | .app _ _, _, ⟨b, fr, vf, va, hv, hb, h, hf, ha⟩ => ⟨b, fr, vf, va, hv, hb, by rw [hs b hb (Array.getElem?_eq_some_iff.1 h).1]; exact h, hf.same hs, ha.same hs⟩

theorem TV.below {w w' : World} {B : Nat} {t : Tm} {v : Value} (h : TV w B t v) (hb : Below w.heap.size w w') : TV w' B t v := h.same fun b _ hl => hb.block b hl

theorem TV.less {w : World} {B B' : Nat} (hB : B' ≤ B) : ∀ {t : Tm} {v : Value}, TV w B t v → TV w B' t v
  | .k, _, ⟨b, fr, hv, hb, h⟩ => ⟨b, fr, hv, Nat.le_trans hB hb, h⟩
  | .s, _, ⟨b, fr, hv, hb, h⟩ => ⟨b, fr, hv, Nat.le_trans hB hb, h⟩
  | .nm _, _, ⟨b, fr, hv, hb, h⟩ => ⟨b, fr, hv, Nat.le_trans hB hb, h⟩
  | .app _ _, _, ⟨b, fr, vf, va, hv, hb, h, hf, ha⟩ => ⟨b, fr, vf, va, hv, Nat.le_trans hB hb, h, hf.less hB, ha.less hB⟩

/-- A method of an interface value is this function with this receiver. -/
def Meth (w : World) (T : TypeId) (x : Value) (name : String) (f : FuncId) (y : Value) : Prop :=
  (method 311 T x name).run Try.prog w = .ok (f, y) w ∧ ∀ args w', (callFunc f args).run Try.prog w' = .ok (.enter f args) w'

theorem cell_of_heap {w : World} {b i : Nat} {cs : Array Value} {T : TypeId} {fr : Nat × Nat} (h : w.heap[b]? = some (.cells cs T fr)) : w.cell? ⟨b, i, none⟩ = cs[i]? := by
  simp [World.cell?, h]

/-! ### methods promoted through the embedded leaf -/

theorem meth_leaf {T S : TypeId} {fd : Field} {fs : Array Field} {cs : Array Value} {f : FuncId} {sig : TypeId} {name : String} {e n : Nat}
    (hm : (Try.prog.info? T).map (fun i => i.methods.find? (·.name == name)) = some (some { name := name, sig := sig, path := #[⟨S, 0, true⟩], func := some (f, false) }))
    (hS : Try.prog.underlying S = some (.struct fs)) (h0 : fs[0]? = some fd) (hfd : fd.type = 99) (hfo : fd.offset = 0) (hfb : fd.byteOffset = 0)
    (hc : Try.prog.cellsOf S = n) (hx : n = 0 ∨ byteOfCell Try.prog Try.prog.depth S 0 = some e)
    (b : Nat) (w : World) (fr : Nat × Nat) (h : w.heap[b]? = some (.cells cs S fr)) : (method 311 T (.pointer (some ⟨b, 0, none⟩)) name).run Try.prog w = .ok (f, .agg #[]) w := by
  obtain ⟨i, hi, hf⟩ := Option.map_eq_some_iff.1 hm
  have hz : (Try.prog.info? 99).map (·.size) = some 0 := by kernel_rfl
  obtain ⟨il, hil, hiz⟩ := Option.map_eq_some_iff.1 hz
  have hul : Try.prog.underlying 99 = some (.struct #[]) := by kernel_rfl
  have hb : ∀ w' : World, w'.heap = w.heap → (byteOf ⟨b, 0, none⟩).run Try.prog w' = .ok (if n = 0 then 0 else e) w' := by
    intro w' hw
    rcases hx with hx | hx
    · simp [go_sem, byteOf, noView, viewAt, World.shape?, hw, h, hc, hx]
    · by_cases hn : n = 0
      · simp [go_sem, byteOf, noView, viewAt, World.shape?, hw, h, hc, hn]
      · simp [go_sem, byteOf, noView, viewAt, World.shape?, hw, h, hc, hx, hn]
  rw [show (311 : Nat) = 310 + 1 from rfl]
  generalize 310 = fuel
  simp only [method]
  simp [go_sem, run_typeInfo, hi, hf, follow, run_underlying, hS, h0, asAddr, Place.get, loadVar, isAgg, hfd, fieldPlace, sizeOf, hil, hiz, hfo, hfb, partAt, hb, receiverAt, hul, loadCells, loadCellsFrom]

/-! ### which function a method is -/

theorem meth_kLetter_atoms (b : Nat) (w : World) (fr : Nat × Nat) (cs : Array Value) (h : w.heap[b]? = some (.cells cs 138 fr)) : Meth w 137 (.pointer (some ⟨b, 0, none⟩)) "loop.example/realizers/impl.atoms" 156 (.agg #[]) :=
  ⟨meth_leaf (e := 0) (n := 0) (sig := 109) (by kernel_rfl) Try.underlying138 rfl rfl rfl rfl (by kernel_rfl) (Or.inl rfl) b w fr h, fun _ _ => by kernel_rfl⟩
theorem meth_sLetter_atoms (b : Nat) (w : World) (fr : Nat × Nat) (cs : Array Value) (h : w.heap[b]? = some (.cells cs 136 fr)) : Meth w 134 (.pointer (some ⟨b, 0, none⟩)) "loop.example/realizers/impl.atoms" 156 (.agg #[]) :=
  ⟨meth_leaf (e := 0) (n := 0) (sig := 109) (by kernel_rfl) Try.underlying136 rfl rfl rfl rfl (by kernel_rfl) (Or.inl rfl) b w fr h, fun _ _ => by kernel_rfl⟩
theorem meth_nameAtom_atoms (b : Nat) (w : World) (fr : Nat × Nat) (cs : Array Value) (h : w.heap[b]? = some (.cells cs 101 fr)) : Meth w 97 (.pointer (some ⟨b, 0, none⟩)) "loop.example/realizers/impl.atoms" 156 (.agg #[]) :=
  ⟨meth_leaf (e := 0) (n := 1) (sig := 109) (by kernel_rfl) Try.underlying101 rfl rfl rfl rfl (by kernel_rfl) (Or.inr (by kernel_rfl)) b w fr h, fun _ _ => by kernel_rfl⟩
theorem meth_kLetter_nesting (b : Nat) (w : World) (fr : Nat × Nat) (cs : Array Value) (h : w.heap[b]? = some (.cells cs 138 fr)) : Meth w 137 (.pointer (some ⟨b, 0, none⟩)) "loop.example/realizers/impl.nesting" 160 (.agg #[]) :=
  ⟨meth_leaf (e := 0) (n := 0) (sig := 109) (by kernel_rfl) Try.underlying138 rfl rfl rfl rfl (by kernel_rfl) (Or.inl rfl) b w fr h, fun _ _ => by kernel_rfl⟩
theorem meth_sLetter_nesting (b : Nat) (w : World) (fr : Nat × Nat) (cs : Array Value) (h : w.heap[b]? = some (.cells cs 136 fr)) : Meth w 134 (.pointer (some ⟨b, 0, none⟩)) "loop.example/realizers/impl.nesting" 160 (.agg #[]) :=
  ⟨meth_leaf (e := 0) (n := 0) (sig := 109) (by kernel_rfl) Try.underlying136 rfl rfl rfl rfl (by kernel_rfl) (Or.inl rfl) b w fr h, fun _ _ => by kernel_rfl⟩
theorem meth_nameAtom_nesting (b : Nat) (w : World) (fr : Nat × Nat) (cs : Array Value) (h : w.heap[b]? = some (.cells cs 101 fr)) : Meth w 97 (.pointer (some ⟨b, 0, none⟩)) "loop.example/realizers/impl.nesting" 160 (.agg #[]) :=
  ⟨meth_leaf (e := 0) (n := 1) (sig := 109) (by kernel_rfl) Try.underlying101 rfl rfl rfl rfl (by kernel_rfl) (Or.inr (by kernel_rfl)) b w fr h, fun _ _ => by kernel_rfl⟩
theorem meth_kLetter_normal (b : Nat) (w : World) (fr : Nat × Nat) (cs : Array Value) (h : w.heap[b]? = some (.cells cs 138 fr)) : Meth w 137 (.pointer (some ⟨b, 0, none⟩)) "loop.example/realizers/impl.normal" 161 (.agg #[]) :=
  ⟨meth_leaf (e := 0) (n := 0) (sig := 116) (by kernel_rfl) Try.underlying138 rfl rfl rfl rfl (by kernel_rfl) (Or.inl rfl) b w fr h, fun _ _ => by kernel_rfl⟩
theorem meth_sLetter_normal (b : Nat) (w : World) (fr : Nat × Nat) (cs : Array Value) (h : w.heap[b]? = some (.cells cs 136 fr)) : Meth w 134 (.pointer (some ⟨b, 0, none⟩)) "loop.example/realizers/impl.normal" 161 (.agg #[]) :=
  ⟨meth_leaf (e := 0) (n := 0) (sig := 116) (by kernel_rfl) Try.underlying136 rfl rfl rfl rfl (by kernel_rfl) (Or.inl rfl) b w fr h, fun _ _ => by kernel_rfl⟩
theorem meth_nameAtom_normal (b : Nat) (w : World) (fr : Nat × Nat) (cs : Array Value) (h : w.heap[b]? = some (.cells cs 101 fr)) : Meth w 97 (.pointer (some ⟨b, 0, none⟩)) "loop.example/realizers/impl.normal" 161 (.agg #[]) :=
  ⟨meth_leaf (e := 0) (n := 1) (sig := 116) (by kernel_rfl) Try.underlying101 rfl rfl rfl rfl (by kernel_rfl) (Or.inr (by kernel_rfl)) b w fr h, fun _ _ => by kernel_rfl⟩
theorem meth_kLetter_step (b : Nat) (w : World) (fr : Nat × Nat) (cs : Array Value) (h : w.heap[b]? = some (.cells cs 138 fr)) : Meth w 137 (.pointer (some ⟨b, 0, none⟩)) "loop.example/realizers/impl.step" 163 (.agg #[]) :=
  ⟨meth_leaf (e := 0) (n := 0) (sig := 146) (by kernel_rfl) Try.underlying138 rfl rfl rfl rfl (by kernel_rfl) (Or.inl rfl) b w fr h, fun _ _ => by kernel_rfl⟩
theorem meth_sLetter_step (b : Nat) (w : World) (fr : Nat × Nat) (cs : Array Value) (h : w.heap[b]? = some (.cells cs 136 fr)) : Meth w 134 (.pointer (some ⟨b, 0, none⟩)) "loop.example/realizers/impl.step" 163 (.agg #[]) :=
  ⟨meth_leaf (e := 0) (n := 0) (sig := 146) (by kernel_rfl) Try.underlying136 rfl rfl rfl rfl (by kernel_rfl) (Or.inl rfl) b w fr h, fun _ _ => by kernel_rfl⟩
theorem meth_nameAtom_step (b : Nat) (w : World) (fr : Nat × Nat) (cs : Array Value) (h : w.heap[b]? = some (.cells cs 101 fr)) : Meth w 97 (.pointer (some ⟨b, 0, none⟩)) "loop.example/realizers/impl.step" 163 (.agg #[]) :=
  ⟨meth_leaf (e := 0) (n := 1) (sig := 146) (by kernel_rfl) Try.underlying101 rfl rfl rfl rfl (by kernel_rfl) (Or.inr (by kernel_rfl)) b w fr h, fun _ _ => by kernel_rfl⟩
theorem meth_kLetter_listNames (b : Nat) (w : World) (fr : Nat × Nat) (cs : Array Value) (h : w.heap[b]? = some (.cells cs 138 fr)) : Meth w 137 (.pointer (some ⟨b, 0, none⟩)) "loop.example/realizers/impl.listNames" 166 (.agg #[]) :=
  ⟨meth_leaf (e := 0) (n := 0) (sig := 131) (by kernel_rfl) Try.underlying138 rfl rfl rfl rfl (by kernel_rfl) (Or.inl rfl) b w fr h, fun _ _ => by kernel_rfl⟩
theorem meth_sLetter_listNames (b : Nat) (w : World) (fr : Nat × Nat) (cs : Array Value) (h : w.heap[b]? = some (.cells cs 136 fr)) : Meth w 134 (.pointer (some ⟨b, 0, none⟩)) "loop.example/realizers/impl.listNames" 166 (.agg #[]) :=
  ⟨meth_leaf (e := 0) (n := 0) (sig := 131) (by kernel_rfl) Try.underlying136 rfl rfl rfl rfl (by kernel_rfl) (Or.inl rfl) b w fr h, fun _ _ => by kernel_rfl⟩
theorem meth_kLetter_lacks (a : Addr) (w : World) : Meth w 137 (.pointer (some a)) "loop.example/realizers/impl.lacks" 172 (.pointer (some a)) :=
  ⟨by kernel_rfl, fun _ _ => by kernel_rfl⟩
theorem meth_kLetter_fire (a : Addr) (w : World) : Meth w 137 (.pointer (some a)) "loop.example/realizers/impl.fire" 171 (.pointer (some a)) :=
  ⟨by kernel_rfl, fun _ _ => by kernel_rfl⟩
theorem meth_kLetter_put (a : Addr) (w : World) : Meth w 137 (.pointer (some a)) "loop.example/realizers/impl.put" 173 (.pointer (some a)) :=
  ⟨by kernel_rfl, fun _ _ => by kernel_rfl⟩
theorem meth_kLetter_write (a : Addr) (w : World) : Meth w 137 (.pointer (some a)) "loop.example/realizers/impl.write" 174 (.pointer (some a)) :=
  ⟨by kernel_rfl, fun _ _ => by kernel_rfl⟩
theorem meth_sLetter_lacks (a : Addr) (w : World) : Meth w 134 (.pointer (some a)) "loop.example/realizers/impl.lacks" 168 (.pointer (some a)) :=
  ⟨by kernel_rfl, fun _ _ => by kernel_rfl⟩
theorem meth_sLetter_fire (a : Addr) (w : World) : Meth w 134 (.pointer (some a)) "loop.example/realizers/impl.fire" 167 (.pointer (some a)) :=
  ⟨by kernel_rfl, fun _ _ => by kernel_rfl⟩
theorem meth_sLetter_put (a : Addr) (w : World) : Meth w 134 (.pointer (some a)) "loop.example/realizers/impl.put" 169 (.pointer (some a)) :=
  ⟨by kernel_rfl, fun _ _ => by kernel_rfl⟩
theorem meth_sLetter_write (a : Addr) (w : World) : Meth w 134 (.pointer (some a)) "loop.example/realizers/impl.write" 170 (.pointer (some a)) :=
  ⟨by kernel_rfl, fun _ _ => by kernel_rfl⟩
theorem meth_nameAtom_lacks (a : Addr) (w : World) : Meth w 97 (.pointer (some a)) "loop.example/realizers/impl.lacks" 158 (.pointer (some a)) :=
  ⟨by kernel_rfl, fun _ _ => by kernel_rfl⟩
theorem meth_nameAtom_fire (a : Addr) (w : World) : Meth w 97 (.pointer (some a)) "loop.example/realizers/impl.fire" 157 (.pointer (some a)) :=
  ⟨by kernel_rfl, fun _ _ => by kernel_rfl⟩
theorem meth_nameAtom_put (a : Addr) (w : World) : Meth w 97 (.pointer (some a)) "loop.example/realizers/impl.put" 162 (.pointer (some a)) :=
  ⟨by kernel_rfl, fun _ _ => by kernel_rfl⟩
theorem meth_nameAtom_write (a : Addr) (w : World) : Meth w 97 (.pointer (some a)) "loop.example/realizers/impl.write" 164 (.pointer (some a)) :=
  ⟨by kernel_rfl, fun _ _ => by kernel_rfl⟩
theorem meth_nameAtom_listNames (a : Addr) (w : World) : Meth w 97 (.pointer (some a)) "loop.example/realizers/impl.listNames" 159 (.pointer (some a)) :=
  ⟨by kernel_rfl, fun _ _ => by kernel_rfl⟩
theorem meth_application_atoms (a : Addr) (w : World) : Meth w 152 (.pointer (some a)) "loop.example/realizers/impl.atoms" 175 (.pointer (some a)) :=
  ⟨by kernel_rfl, fun _ _ => by kernel_rfl⟩
theorem meth_application_nesting (a : Addr) (w : World) : Meth w 152 (.pointer (some a)) "loop.example/realizers/impl.nesting" 179 (.pointer (some a)) :=
  ⟨by kernel_rfl, fun _ _ => by kernel_rfl⟩
theorem meth_application_normal (a : Addr) (w : World) : Meth w 152 (.pointer (some a)) "loop.example/realizers/impl.normal" 180 (.pointer (some a)) :=
  ⟨by kernel_rfl, fun _ _ => by kernel_rfl⟩
theorem meth_application_step (a : Addr) (w : World) : Meth w 152 (.pointer (some a)) "loop.example/realizers/impl.step" 182 (.pointer (some a)) :=
  ⟨by kernel_rfl, fun _ _ => by kernel_rfl⟩
theorem meth_application_listNames (a : Addr) (w : World) : Meth w 152 (.pointer (some a)) "loop.example/realizers/impl.listNames" 178 (.pointer (some a)) :=
  ⟨by kernel_rfl, fun _ _ => by kernel_rfl⟩
theorem meth_application_lacks (a : Addr) (w : World) : Meth w 152 (.pointer (some a)) "loop.example/realizers/impl.lacks" 177 (.pointer (some a)) :=
  ⟨by kernel_rfl, fun _ _ => by kernel_rfl⟩
theorem meth_application_fire (a : Addr) (w : World) : Meth w 152 (.pointer (some a)) "loop.example/realizers/impl.fire" 176 (.pointer (some a)) :=
  ⟨by kernel_rfl, fun _ _ => by kernel_rfl⟩
theorem meth_application_put (a : Addr) (w : World) : Meth w 152 (.pointer (some a)) "loop.example/realizers/impl.put" 181 (.pointer (some a)) :=
  ⟨by kernel_rfl, fun _ _ => by kernel_rfl⟩
theorem meth_application_write (a : Addr) (w : World) : Meth w 152 (.pointer (some a)) "loop.example/realizers/impl.write" 183 (.pointer (some a)) :=
  ⟨by kernel_rfl, fun _ _ => by kernel_rfl⟩
end Go.Proofs.Ytjomocjlnjgkeaa

namespace Go.Proofs.Ytjomocjlnjgkeaa
open Go.RowKit

set_option maxHeartbeats 400000

theorem leaf_atoms (w : World) : Calls Try.prog 156 #[.agg #[]] w fun e w' => e = .returned (.int .i64 1) ∧ w' = w.alloc (.cells #[] 99) := by
  go_enter Try.func156, Try.ntmps156
  go_wp2_with fail
  go_ret
  exact ⟨rfl, rfl⟩
theorem leaf_nesting (w : World) : Calls Try.prog 160 #[.agg #[]] w fun e w' => e = .returned (.int .i64 0) ∧ w' = w.alloc (.cells #[] 99) := by
  go_enter Try.func160, Try.ntmps160
  go_wp2_with fail
  go_ret
  exact ⟨rfl, rfl⟩
theorem leaf_normal (w : World) : Calls Try.prog 161 #[.agg #[]] w fun e w' => e = .returned (.bool true) ∧ w' = w.alloc (.cells #[] 99) := by
  go_enter Try.func161, Try.ntmps161
  go_wp2_with fail
  go_ret
  exact ⟨rfl, rfl⟩
theorem k_lacks (y : Value) (w : World) : Calls Try.prog 172 #[y] w fun e w' => e = .returned (.int .i64 2) ∧ w = w' := by
  go_enter Try.func172, Try.ntmps172
  go_wp2_with fail
  go_ret
  exact ⟨rfl, rfl⟩
theorem s_lacks (y : Value) (w : World) : Calls Try.prog 168 #[y] w fun e w' => e = .returned (.int .i64 3) ∧ w = w' := by
  go_enter Try.func168, Try.ntmps168
  go_wp2_with fail
  go_ret
  exact ⟨rfl, rfl⟩
theorem n_lacks (y : Value) (w : World) : Calls Try.prog 158 #[y] w fun e w' => e = .returned (.int .i64 0) ∧ w = w' := by
  go_enter Try.func158, Try.ntmps158
  go_wp2_with fail
  go_ret
  exact ⟨rfl, rfl⟩

section
variable (b : Nat) (w : World) (v : Value)
theorem a_atoms (h : w.cell? ⟨b, 2, none⟩ = some v) : Calls Try.prog 175 #[.pointer (some ⟨b, 0, none⟩)] w fun e w' => e = .returned v ∧ w = w' := by
  go_enter Try.func175, Try.ntmps175
  go_wp2_with fail
  go_ret
  exact ⟨rfl, rfl⟩
theorem a_nesting (h : w.cell? ⟨b, 3, none⟩ = some v) : Calls Try.prog 179 #[.pointer (some ⟨b, 0, none⟩)] w fun e w' => e = .returned v ∧ w = w' := by
  go_enter Try.func179, Try.ntmps179
  go_wp2_with fail
  go_ret
  exact ⟨rfl, rfl⟩
theorem a_lacks (h : w.cell? ⟨b, 4, none⟩ = some v) : Calls Try.prog 177 #[.pointer (some ⟨b, 0, none⟩)] w fun e w' => e = .returned v ∧ w = w' := by
  go_enter Try.func177, Try.ntmps177
  go_wp2_with fail
  go_ret
  exact ⟨rfl, rfl⟩
theorem a_normal (h : w.cell? ⟨b, 5, none⟩ = some v) : Calls Try.prog 180 #[.pointer (some ⟨b, 0, none⟩)] w fun e w' => e = .returned v ∧ w = w' := by
  go_enter Try.func180, Try.ntmps180
  go_wp2_with fail
  go_ret
  exact ⟨rfl, rfl⟩
end

/-- What a method of an interface value without arguments answers: some function of the program does it, in every later world, and leaves alone what there was. -/
def Asks (w : World) (T : TypeId) (x : Value) (name : String) (r : Value) : Prop :=
  ∃ f y, (∀ W, Below w.heap.size w W → (method 311 T x name).run Try.prog W = .ok (f, y) W) ∧ (∀ args w', (callFunc f args).run Try.prog w' = .ok (.enter f args) w') ∧
    ∀ W, Below w.heap.size w W → Calls Try.prog f #[y] W fun e w' => e = .returned r ∧ Below w.heap.size w w'

theorem below_alloc {w W : World} (h : Below w.heap.size w W) (o : Obj) : Below w.heap.size w (W.alloc o) := h.alloc h.size o

theorem heap_later {w W : World} {b : Nat} {o : Obj} (h : w.heap[b]? = some o) (hb : Below w.heap.size w W) : W.heap[b]? = some o := by
  rw [hb.block b (Array.getElem?_eq_some_iff.1 h).1]; exact h

/-- The four measures. -/
theorem TV.asks {w : World} {B : Nat} {t : Tm} {v : Value} (h : TV w B t v) : ∃ T x, v = .iface T x ∧
    Asks w T x "loop.example/realizers/impl.atoms" (.int .i64 (t.size : Nat)) ∧ Asks w T x "loop.example/realizers/impl.nesting" (.int .i64 (t.depth : Nat)) ∧
    Asks w T x "loop.example/realizers/impl.lacks" (.int .i64 (t.lacks : Nat)) ∧ Asks w T x "loop.example/realizers/impl.normal" (.bool t.normal) := by
  cases t with
  | k =>
    obtain ⟨b, fr, rfl, _, h⟩ := h
    exact ⟨_, _, rfl,
      ⟨_, _, fun W hb => (meth_kLetter_atoms b W fr _ (heap_later h hb)).1, (meth_kLetter_atoms b w fr _ h).2, fun W hb => (leaf_atoms W).mono fun e w' ⟨he, hw⟩ => ⟨he, hw ▸ below_alloc hb _⟩⟩,
      ⟨_, _, fun W hb => (meth_kLetter_nesting b W fr _ (heap_later h hb)).1, (meth_kLetter_nesting b w fr _ h).2, fun W hb => (leaf_nesting W).mono fun e w' ⟨he, hw⟩ => ⟨he, hw ▸ below_alloc hb _⟩⟩,
      ⟨_, _, fun W hb => (meth_kLetter_lacks _ W).1, (meth_kLetter_lacks ⟨b, 0, none⟩ w).2, fun W hb => (k_lacks _ W).mono fun e w' ⟨he, hw⟩ => ⟨he, hw ▸ hb⟩⟩,
      ⟨_, _, fun W hb => (meth_kLetter_normal b W fr _ (heap_later h hb)).1, (meth_kLetter_normal b w fr _ h).2, fun W hb => (leaf_normal W).mono fun e w' ⟨he, hw⟩ => ⟨he, hw ▸ below_alloc hb _⟩⟩⟩
  | s =>
    obtain ⟨b, fr, rfl, _, h⟩ := h
    exact ⟨_, _, rfl,
      ⟨_, _, fun W hb => (meth_sLetter_atoms b W fr _ (heap_later h hb)).1, (meth_sLetter_atoms b w fr _ h).2, fun W hb => (leaf_atoms W).mono fun e w' ⟨he, hw⟩ => ⟨he, hw ▸ below_alloc hb _⟩⟩,
      ⟨_, _, fun W hb => (meth_sLetter_nesting b W fr _ (heap_later h hb)).1, (meth_sLetter_nesting b w fr _ h).2, fun W hb => (leaf_nesting W).mono fun e w' ⟨he, hw⟩ => ⟨he, hw ▸ below_alloc hb _⟩⟩,
      ⟨_, _, fun W hb => (meth_sLetter_lacks _ W).1, (meth_sLetter_lacks ⟨b, 0, none⟩ w).2, fun W hb => (s_lacks _ W).mono fun e w' ⟨he, hw⟩ => ⟨he, hw ▸ hb⟩⟩,
      ⟨_, _, fun W hb => (meth_sLetter_normal b W fr _ (heap_later h hb)).1, (meth_sLetter_normal b w fr _ h).2, fun W hb => (leaf_normal W).mono fun e w' ⟨he, hw⟩ => ⟨he, hw ▸ below_alloc hb _⟩⟩⟩
  | nm n =>
    obtain ⟨b, fr, rfl, _, h⟩ := h
    exact ⟨_, _, rfl,
      ⟨_, _, fun W hb => (meth_nameAtom_atoms b W fr _ (heap_later h hb)).1, (meth_nameAtom_atoms b w fr _ h).2, fun W hb => (leaf_atoms W).mono fun e w' ⟨he, hw⟩ => ⟨he, hw ▸ below_alloc hb _⟩⟩,
      ⟨_, _, fun W hb => (meth_nameAtom_nesting b W fr _ (heap_later h hb)).1, (meth_nameAtom_nesting b w fr _ h).2, fun W hb => (leaf_nesting W).mono fun e w' ⟨he, hw⟩ => ⟨he, hw ▸ below_alloc hb _⟩⟩,
      ⟨_, _, fun W hb => (meth_nameAtom_lacks _ W).1, (meth_nameAtom_lacks ⟨b, 0, none⟩ w).2, fun W hb => (n_lacks _ W).mono fun e w' ⟨he, hw⟩ => ⟨he, hw ▸ hb⟩⟩,
      ⟨_, _, fun W hb => (meth_nameAtom_normal b W fr _ (heap_later h hb)).1, (meth_nameAtom_normal b w fr _ h).2, fun W hb => (leaf_normal W).mono fun e w' ⟨he, hw⟩ => ⟨he, hw ▸ below_alloc hb _⟩⟩⟩
  | app f a =>
    obtain ⟨b, fr, vf, va, rfl, _, h, _, _⟩ := h
    exact ⟨_, _, rfl,
      ⟨_, _, fun W hb => (meth_application_atoms _ W).1, (meth_application_atoms ⟨b, 0, none⟩ w).2, fun W hb => (a_atoms b W _ (cell_of_heap (heap_later h hb))).mono fun e w' ⟨he, hw⟩ => ⟨he, hw ▸ hb⟩⟩,
      ⟨_, _, fun W hb => (meth_application_nesting _ W).1, (meth_application_nesting ⟨b, 0, none⟩ w).2, fun W hb => (a_nesting b W _ (cell_of_heap (heap_later h hb))).mono fun e w' ⟨he, hw⟩ => ⟨he, hw ▸ hb⟩⟩,
      ⟨_, _, fun W hb => (meth_application_lacks _ W).1, (meth_application_lacks ⟨b, 0, none⟩ w).2, fun W hb => (a_lacks b W _ (cell_of_heap (heap_later h hb))).mono fun e w' ⟨he, hw⟩ => ⟨he, hw ▸ hb⟩⟩,
      ⟨_, _, fun W hb => (meth_application_normal _ W).1, (meth_application_normal ⟨b, 0, none⟩ w).2, fun W hb => (a_normal b W _ (cell_of_heap (heap_later h hb))).mono fun e w' ⟨he, hw⟩ => ⟨he, hw ▸ hb⟩⟩⟩

/-! ### apply -/

theorem lacks_le (t : Tm) : t.lacks ≤ 3 := by
  induction t with
  | app f a ih _ => simp only [Tm.lacks]; omega
  | _ => simp [Tm.lacks]

theorem TV.mk_app {w W : World} {B : Nat} {f a : Tm} {vf va : Value} (hf : TV w B f vf) (ha : TV w B a va) (hb : Below w.heap.size w W) (hB : B ≤ w.heap.size) {n d l : Int} {nb : Bool}
    (hn : n = ((f.app a).size : Nat)) (hd : d = ((f.app a).depth : Nat)) (hl : l = ((f.app a).lacks : Nat)) (hnb : nb = (f.app a).normal) :
    TV (W.alloc (.cells #[vf, va, .int .i64 n, .int .i64 d, .int .i64 l, .bool nb] 154)) B (f.app a) (.iface 152 (.pointer (some ⟨W.heap.size, 0, none⟩))) := by
  subst hn; subst hd; subst hl; subst hnb
  refine ⟨W.heap.size, (0, 0), vf, va, rfl, Nat.le_trans hB hb.size, ?_, (hf.below hb).below ((Below.refl _ _).alloc (Nat.le_refl _) _), (ha.below hb).below ((Below.refl _ _).alloc (Nat.le_refl _) _)⟩
  show (W.heap.push _)[_]? = _
  simp

set_option maxRecDepth 100000 in
theorem apply_any (w : World) (B : Nat) (f a : Tm) (vf va : Value) (hf : TV w B f vf) (ha : TV w B a va) (hB : B ≤ w.heap.size) (h1 : f.size + a.size < 4611686018427387904) :
    Calls Try.prog 89 #[vf, va] w fun e w' => ∃ v, e = .returned v ∧ Below w.heap.size w w' ∧ TV w' B (f.app a) v := by
  obtain ⟨T1, x1, rfl, ⟨f1, y1, m1, n1, c1⟩, ⟨f2, y2, m2, n2, c2⟩, ⟨f3, y3, m3, n3, c3⟩, ⟨f4, y4, m4, n4, c4⟩⟩ := hf.asks
  obtain ⟨T2, x2, rfl, ⟨g1, z1, k1, l1, d1⟩, ⟨g2, z2, k2, l2, d2⟩, ⟨g3, z3, k3, l3, d3⟩, ⟨g4, z4, k4, l4, d4⟩⟩ := ha.asks
  have b1 := Tm.depth_lt f
  have b2 := Tm.depth_lt a
  have b3 := lacks_le f
  have hb0 := Below.refl w.heap.size w
  go_enter Try.func89, Try.ntmps89
  go_wp2_with (first | (go_at_fn f3; refine (c3 _ (by assumption)).mono ?_; rintro e w1 ⟨rfl, hb⟩) | (go_at_fn f1; refine (c1 _ (by assumption)).mono ?_; rintro e w1 ⟨rfl, hb⟩) | (go_at_fn g1; refine (d1 _ (by assumption)).mono ?_; rintro e w1 ⟨rfl, hb⟩) | (go_at_fn f2; refine (c2 _ (by assumption)).mono ?_; rintro e w1 ⟨rfl, hb⟩) | (go_at_fn g2; refine (d2 _ (by assumption)).mono ?_; rintro e w1 ⟨rfl, hb⟩) | (go_at_fn f4; refine (c4 _ (by assumption)).mono ?_; rintro e w1 ⟨rfl, hb⟩) | (go_at_fn g4; refine (d4 _ (by assumption)).mono ?_; rintro e w1 ⟨rfl, hb⟩))
  all_goals
    go_ret
    refine ⟨_, rfl, below_alloc (by assumption) _, TV.mk_app hf ha (by assumption) hB (by simp [Tm.size]) (by simp only [Tm.depth]; omega) (by simp only [Tm.lacks]; omega) ?_⟩
    clear m1 n1 c1 m2 n2 c2 m3 n3 c3 m4 n4 c4 k1 l1 d1 k2 l2 d2 k3 l3 d3 k4 l4 d4
    simp only [Tm.normal]
    by_cases hq : f.lacks = 1
    all_goals first | (exfalso; omega) | (simp [*]; done) | (rw [show ((f.lacks : Int) != 1) = (f.lacks != 1) by rw [Bool.eq_iff_iff]; simp; omega]; simp [*])
end Go.Proofs.Ytjomocjlnjgkeaa
