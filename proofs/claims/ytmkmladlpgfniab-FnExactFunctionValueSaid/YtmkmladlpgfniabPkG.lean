/-
  The names of a term in memory: nameList.add, the method listNames, namesOf; and nameValid.
-/
import Derived.Test.YtmkmladlpgfniabPkB
import Derived.Maps.OwnSet
import Derived.Test.YtmkmladlpgfniabPkA
namespace Go.Proofs.Ytmkmladlpgfniab
open Go.RowKit Go.WideMaps Go.Maps

set_option maxHeartbeats 400000
set_option maxRecDepth 100000

theorem law_key : Keyed Try.prog 9 := string_keyed Try.underlying9
theorem zero_bool (w : World) : (zeroValue 4).run Try.prog w = .ok (.bool false) w := by kernel_rfl
theorem info_string : (Try.prog.info? 9).map (fun i => (i.zero, i.size, i.bytes)) = some (some (.string ⟨#[]⟩), 1, 16) := by kernel_rfl

/-- The list lies in the blocks from mb on: the map, the list's own block, the row of names. -/
def NL (w : World) (mb : Nat) (ns : List (List UInt8)) : Prop :=
  ∃ sv, w.heap[mb + 1]? = some (.cells #[sv, .map (some mb)] 160 (0, 0)) ∧ w.ownsRow (mb + 2) 9 1 sv ns.length (ns.map str) ∧
    ∃ D : DataW Unit, w.ownsMap Try.prog 9 (plainElem Try.prog 4) mb ns.length D ∧ ∀ x, D.atKey (.string x) (.lit (.bool false)) = .lit (.bool (decide (x ∈ ns)))

theorem NL.lt {w : World} {mb : Nat} {ns : List (List UInt8)} (h : NL w mb ns) : mb + 2 ≤ w.heap.size := by
  obtain ⟨sv, h, _⟩ := h
  exact (Array.getElem?_eq_some_iff.1 h).1

theorem key_str (n : List UInt8) (h : n.length ≤ maxLen) : keyOf Try.prog 9 (str n) = some (.string n) := by
  have := keyOf_string_mk Try.underlying9 (s := ⟨n.toArray⟩) (by show n.toArray.size ≤ _; simpa using h)
  simpa using this

theorem look_run {w : World} {mb k : Nat} {D : DataW Unit} {ns : List (List UInt8)} (ho : w.ownsMap Try.prog 9 (plainElem Try.prog 4) mb k D) (hD : ∀ x, D.atKey (.string x) (.lit (.bool false)) = .lit (.bool (decide (x ∈ ns)))) (n : List UInt8) (h : n.length ≤ maxLen) :
    (Instr.lookup 158 (.map (some mb)) (str n) false).run Try.prog w = .ok (.bool (decide (n ∈ ns))) w := by
  obtain ⟨v, ps, hrun, hv⟩ := ho.lookup law_key Try.underlying158 (zero_bool w) (plainElem_bool Try.underlying4 false) (key_str n h)
  rw [hD] at hv
  unfold plainElem at hv
  rw [Try.underlying4] at hv
  cases v <;> simp at hv
  obtain ⟨rfl, _⟩ := hv
  exact hrun

theorem list_kept {w1 w2 : World} {mb : Nat} {sv : Value} {k : Nat} {xs : List Value} {o : Obj} (h : w1.heap[mb + 1]? = some (.cells #[sv, .map (some mb)] 160 (0, 0))) (hr : w1.ownsRow (mb + 2) 9 1 sv k xs) (hg : (w1.alloc o).grownBy w2 sv.ownBlock) :
    w2.heap[mb + 1]? = some (.cells #[sv, .map (some mb)] 160 (0, 0)) := by
  have hlt := (Array.getElem?_eq_some_iff.1 h).1
  rw [hg.block _ (by simp; omega) (fun e => by have := (hr.lt _ e.symm).1; omega), Below.heap_alloc _ _ _ hlt]
  exact h

theorem list_free {w : World} {mb : Nat} {cs : Array Value} {T : TypeId} (h : w.heap[mb + 1]? = some (.cells cs T (0, 0))) : w.frozen? ⟨mb + 1, 0, none⟩ = false := by
  simp [World.frozen?, h]

theorem own_slice {w : World} {base n size : Nat} {T : TypeId} {v : Value} {xs : List Value} (h : w.ownsRow base T size v n xs) : ∃ ao an ac, v = .slice ao an ac := by
  rcases h.2 with ⟨rfl, _⟩ | ⟨g, cap, cur, rfl, _⟩
  · exact ⟨_, _, _, rfl⟩
  · exact ⟨_, _, _, rfl⟩

theorem own_slice_len {w : World} {base n size : Nat} {T : TypeId} {v : Value} {xs : List Value} (h : w.ownsRow base T size v n xs) : ∃ ao ac, v = .slice ao n ac := by
  rcases h.2 with ⟨rfl, rfl⟩ | ⟨g, cap, cur, rfl, _⟩
  · exact ⟨_, _, rfl⟩
  · exact ⟨_, _, rfl⟩

/-! ### listNames -/

def ListPost (mb : Nat) (w : World) (ns : List (List UInt8)) (e : Ending) (w' : World) : Prop := e = .returned (.tuple #[]) ∧ NL w' mb ns ∧ Below mb w w'

/-- The method listNames of v, a term in blocks below mb. -/
def ListOk (w : World) (mb : Nat) (v : Value) (t : Tm) : Prop :=
  ∃ T x f y, v = .iface T x ∧ (∀ W, Below mb w W → (method 261 T x "loop.example/realizers/impl.listNames").run Try.prog W = .ok (f, y) W) ∧ (∀ args w', (callFunc f args).run Try.prog w' = .ok (.enter f args) w') ∧
    ∀ W, Below mb w W → ∀ ns, NL W mb ns → ns.length + t.size ≤ 1000000 → Calls Try.prog f #[y, .pointer (some ⟨mb + 1, 0, none⟩)] W (ListPost mb W (t.names ns))

theorem NL.alloc {w : World} {mb : Nat} {ns : List (List UInt8)} (h : NL w mb ns) (o : Obj) : NL (w.alloc o) mb ns := by
  obtain ⟨sv, h0, hr, D, hm, hD⟩ := h
  exact ⟨sv, by rw [Below.heap_alloc _ _ _ (Array.getElem?_eq_some_iff.1 h0).1]; exact h0, hr.alloc _, D, hm.alloc _, hD⟩

theorem cell_mb {w : World} {mb b i : Nat} {v : Value} (h : w.cell? ⟨b, i, none⟩ = some v) (hb : b < mb) : ∀ W, Below mb w W → W.cell? ⟨b, i, none⟩ = some v := fun W hW => by rw [hW.cell (p := ⟨b, i, none⟩) hb]; exact h

theorem heap_mb {w W : World} {mb b : Nat} {o : Obj} (h : w.heap[b]? = some o) (hb : b < mb) (hW : Below mb w W) : W.heap[b]? = some o := by rw [hW.block b hb]; exact h

/-! ### namesOf -/

def NamesPost (w : World) (t : Tm) (e : Ending) (w' : World) : Prop :=
  ∃ sv, e = .returned sv ∧ Below w.heap.size w w' ∧ w'.ownsRow w.heap.size 9 1 sv (t.names []).length ((t.names []).map str)

theorem ownsRow_base {w : World} {B B' n size : Nat} {T : TypeId} {v : Value} {xs : List Value} (h : w.ownsRow B T size v n xs) (hB : B' ≤ B) : w.ownsRow B' T size v n xs := by
  obtain ⟨h1, h2⟩ := h
  refine ⟨h1, ?_⟩
  rcases h2 with h2 | ⟨g, cap, cur, hv, hg, r⟩
  · exact Or.inl h2
  · exact Or.inr ⟨g, cap, cur, hv, Nat.le_trans hB hg, r⟩

theorem NL.start (w : World) : NL ((w.alloc (.map #[] 0)).alloc (.cells #[.slice none 0 0, .map (some w.heap.size)] 160)) w.heap.size [] := by
  refine ⟨.slice none 0 0, ?_, World.ownsRow_nil _ _ _ _, .map [], (World.ownsMap_made w _ _ _).alloc _, fun x => by simp [DataW.atKey]⟩
  have := heap_new (w.alloc (.map #[] 0)) (.cells #[.slice none 0 0, .map (some w.heap.size)] 160)
  simpa using this

/-! ### nameValid -/

theorem nameOk_len (l : List UInt8) : Tm.nameOk l = (!l.isEmpty && decide (Tm.nameLen l 0 = l.length)) := by
  cases hl : l with
  | nil => rfl
  | cons c ds =>
    rw [← hl]
    have hne : l.isEmpty = false := by rw [hl]; rfl
    rw [hne, Bool.eq_iff_iff]
    simp only [Bool.not_false, Bool.true_and, decide_eq_true_eq]
    constructor
    · exact fun h => Tm.nameLen_of l l [] 0 (by simp) h (by simp)
    · intro h
      have := Tm.nameLen_sound l 0 (by rw [h, hl]; simp)
      rw [h] at this
      simpa using this.1

end Go.Proofs.Ytmkmladlpgfniab

namespace Go.Proofs.Ytmkmladlpgfniab
open Go.RowKit

set_option maxHeartbeats 400000
set_option maxRecDepth 100000

/-- A list of names handed back, or nothing. -/
def NamesRes (w : World) (r : Option (List (List UInt8))) (e : Ending) (w' : World) : Prop :=
  ∃ sv, e = .returned (.tuple #[sv, .bool r.isSome]) ∧ Below w.heap.size w w' ∧ w'.ownsRow w.heap.size 9 1 sv (r.getD []).length ((r.getD []).map str)

/-- A text handed back, or nothing. -/
def TextRes (w : World) (r : Option (List UInt8)) (e : Ending) (w' : World) : Prop :=
  e = .returned (.tuple #[str (r.getD []), .bool r.isSome]) ∧ Below w.heap.size w w'

end Go.Proofs.Ytmkmladlpgfniab

namespace Go.Proofs.Ytmkmladlpgfniab
open Go.RowKit

set_option maxHeartbeats 4000000
set_option maxRecDepth 100000

theorem mread_parse {l : List UInt8} (h : l.length ≤ 24000) : Tm.parse l = match Tm.mread l 1501 0 with
    | some (t, j) => if j = l.length ∧ t.size ≤ 3000 then some t else none
    | none => none := by
  rw [← Tm.mparse_eq]
  unfold Tm.mparse
  rw [if_neg (by omega)]
  rfl

end Go.Proofs.Ytmkmladlpgfniab

namespace Go.Proofs.Ytmkmladlpgfniab
open Go.RowKit

set_option maxHeartbeats 1000000
set_option maxRecDepth 100000

end Go.Proofs.Ytmkmladlpgfniab

namespace Go.Proofs.Ytmkmladlpgfniab
open Go.RowKit

set_option maxHeartbeats 1000000
set_option maxRecDepth 100000

theorem str_size (l : List UInt8) : (⟨l.toArray⟩ : ByteArray).size = l.length := by show l.toArray.size = _; simp

end Go.Proofs.Ytmkmladlpgfniab
