/-
  The model's redexes, gathered; its steps.
-/
import Derived.Test.YtjomocjlnjgkeaaPkAH
namespace Go.Proofs.Ytjomocjlnjgkeaa
open Go.RowKit

set_option maxHeartbeats 4000000
set_option maxRecDepth 100000

theorem name_not {n : List UInt8} (h : Tm.nameOk n = true) : n ≠ [] ∧ n ≠ [107] ∧ n ≠ [115] := by
  refine ⟨?_, ?_, ?_⟩ <;> (rintro rfl; revert h; decide)

theorem parts_form {w : World} {t : Tm} {x y : Value} (h : ST w t (.agg #[x, y])) : ∃ s ao n c, x = str s ∧ y = .slice ao n c := by
  obtain ⟨s, ao, n, c, e⟩ := h.form
  simp only [Value.agg.injEq, Array.mk.injEq, List.cons.injEq, and_true] at e
  exact ⟨s, ao, n, c, e.1, e.2⟩

theorem atom_form {w : World} {t : Tm} {s : List UInt8} {y : Value} (h : ST w t (.agg #[str s, y])) (hd : t.depth = 0) : s = t.text := by
  cases t with
  | app f a => simp [Tm.depth] at hd
  | k => simp only [ST, Value.agg.injEq, Array.mk.injEq, List.cons.injEq, and_true, Value.string.injEq, ByteArray.mk.injEq] at h; simpa using h.1
  | s => simp only [ST, Value.agg.injEq, Array.mk.injEq, List.cons.injEq, and_true, Value.string.injEq, ByteArray.mk.injEq] at h; simpa using h.1
  | nm n => simp only [ST, Value.agg.injEq, Array.mk.injEq, List.cons.injEq, and_true, Value.string.injEq, ByteArray.mk.injEq] at h; simpa using h.1

theorem app_form {w : World} {f a : Tm} {s : List UInt8} {y : Value} (h : ST w (f.app a) (.agg #[str s, y])) : s = [] ∧ ∃ g q fr s0 p0 s1 p1, y = .slice (some ⟨g, 0, none⟩) 2 q ∧ w.heap[g]? = some (.cells #[s0, p0, s1, p1] 40 fr) ∧ ST w f (.agg #[s0, p0]) ∧ ST w a (.agg #[s1, p1]) := by
  obtain ⟨g, q, fr, s0, p0, s1, p1, e, hh, hf, ha⟩ := h
  simp only [Value.agg.injEq, Array.mk.injEq, List.cons.injEq, and_true, Value.string.injEq, ByteArray.mk.injEq] at e
  exact ⟨by simpa using e.1, g, q, fr, s0, p0, s1, p1, e.2, hh, hf, ha⟩

def SStepPost (w : World) (t : Tm) (e : Ending) (w' : World) : Prop :=
  ∃ s ao n c, e = .returned (.tuple #[.agg #[str s, .slice ao n c], .bool t.step.isSome]) ∧ After w w' ∧ ST w' (t.step.getD t) (.agg #[str s, .slice ao n c])

theorem box_facts (w : World) (x y : Value) (o : Obj) : ∀ W, After ((w.alloc (.cells #[x, y] 40)).alloc o) W → W.cell? ⟨w.heap.size, 0, none⟩ = some x ∧ W.cell? ⟨w.heap.size, 1, none⟩ = some y ∧ W.frozen? ⟨w.heap.size, 0, none⟩ = false ∧ W.frozen? ⟨w.heap.size, 1, none⟩ = false ∧ w.heap.size + 1 < W.heap.size := fun W hW => by
  have hh := hW.heap (heap_old2 w (.cells #[x, y] 40) o)
  have h2 := hW.heap (heap_new2 w w.heap.size (.cells #[x, y] 40) o rfl)
  exact ⟨cell_of_heap hh, cell_of_heap hh, by simp [World.frozen?, hh], by simp [World.frozen?, hh], (Array.getElem?_eq_some_iff.1 h2).1⟩

theorem box_facts2 (w : World) (x y : Value) (o : Obj) : ∀ W, After ((w.alloc o).alloc (.cells #[x, y] 40)) W → W.heap[w.heap.size + 1]? = some (.cells #[x, y] 40 (0, 0)) ∧ W.cell? ⟨w.heap.size + 1, 0, none⟩ = some x ∧ W.cell? ⟨w.heap.size + 1, 1, none⟩ = some y ∧ W.frozen? ⟨w.heap.size + 1, 0, none⟩ = false ∧ W.frozen? ⟨w.heap.size + 1, 1, none⟩ = false := fun W hW => by
  have hh := hW.heap (heap_new2 w w.heap.size o (.cells #[x, y] 40) rfl)
  exact ⟨hh, cell_of_heap hh, cell_of_heap hh, by simp [World.frozen?, hh], by simp [World.frozen?, hh]⟩

end Go.Proofs.Ytjomocjlnjgkeaa

namespace Go.Proofs.Ytjomocjlnjgkeaa
open Go.RowKit

set_option maxHeartbeats 4000000
set_option maxRecDepth 100000

end Go.Proofs.Ytjomocjlnjgkeaa
