/-
  The reader of the model, further: l1Read, l1Term.
-/
import Derived.Test.YtdjoafnohkmneaaGreatDoorPkB
import Derived.Test.YtdjoafnohkmneaaGreatDoorPkA
import Derived.RangeFuncNested
import Derived.RangeFuncBound
import Derived.RangeFuncCalls
import Derived.RangeFuncLeaves
import Derived.Shelf.Abstract
import Derived.WalkKit
import Derived.OwnWalkIn
import Derived.TacticsInMore
import Derived.LoopNIn
import Derived.LoopIn
import Derived.Lib.Hide
namespace Go.Proofs.YtdjoafnohkmneaaGreatDoor
open Go.RowKit

set_option maxHeartbeats 400000
set_option maxRecDepth 100000

def place : Option (Tm × Nat) → Int
  | some (_, j) => (j : Nat)
  | none => -1

theorem box2 {w W : World} {x y : Value} {T : TypeId} (h : After (w.alloc (.cells #[x, y] T)) W) :
    W.cell? ⟨w.heap.size, 0, none⟩ = some x ∧ W.cell? ⟨w.heap.size, 1, none⟩ = some y ∧ W.frozen? ⟨w.heap.size, 0, none⟩ = false ∧ W.frozen? ⟨w.heap.size, 1, none⟩ = false ∧ w.heap.size < W.heap.size := by
  have hh := h.heap (heap_new' w (.cells #[x, y] T))
  refine ⟨cell_of_heap hh, cell_of_heap hh, by simp [World.frozen?, hh], by simp [World.frozen?, hh], (Array.getElem?_eq_some_iff.1 hh).1⟩

theorem byte_ne_lit' (x : UInt8) (n : Int) (c : UInt8) (hn : n = (c.toNat : Nat)) (_h : c = c) : ((x.toNat : Int) != n) = (x != c) := by
  subst hn; exact byte_ne x c

theorem After.set {w W : World} {o : Obj} (h : After (w.alloc o) W) (i : Nat) (v : Value) : After w (W.setCell ⟨w.heap.size, i, none⟩ v) :=
  Below.setCell ((After.new w o).trans h) (Nat.le_refl _) v

theorem After.set2 {w W : World} {o : Obj} (h : After (w.alloc o) W) {i j : Nat} {v u : Value} : After w ((W.setCell ⟨w.heap.size, i, none⟩ v).setCell ⟨w.heap.size, j, none⟩ u) :=
  Below.setCell (h.set i v) (Nat.le_refl _) u

theorem heap_new2 (W : World) (n : Nat) (o p : Obj) (h : W.heap.size = n) : ((W.alloc o).alloc p).heap[n + 1]? = some p := by
  have := heap_new' (W.alloc o) p
  rw [show (W.alloc o).heap.size = n + 1 by simp [h]] at this
  exact this

end Go.Proofs.YtdjoafnohkmneaaGreatDoor

namespace Go.Proofs.YtdjoafnohkmneaaGreatDoor
open Go.RowKit

set_option maxHeartbeats 4000000
set_option maxRecDepth 100000

/-- W is X but for new blocks and block r. -/
def ButFor (X : World) (r : Nat) (W : World) : Prop := X.heap.size ≤ W.heap.size ∧ ∀ k, k < X.heap.size → k ≠ r → W.heap[k]? = X.heap[k]?

theorem ButFor.cell {X W : World} {r b i : Nat} {v : Value} (h : ButFor X r W) (hr : b ≠ r) (hc : X.cell? ⟨b, i, none⟩ = some v) : W.cell? ⟨b, i, none⟩ = some v := by
  rw [World.cell?_of_block (w := X) (a := ⟨b, i, none⟩) (h.2 b (World.block_lt_of_cell? _ _ hc) hr)]; exact hc
theorem ButFor.alloc {X W : World} {r : Nat} (h : ButFor X r W) (o : Obj) : ButFor X r (W.alloc o) := ⟨by simp; have := h.1; omega, fun k hk hr => by rw [Below.heap_alloc _ _ _ (Nat.lt_of_lt_of_le hk h.1)]; exact h.2 k hk hr⟩
theorem ButFor.after {X W W' : World} {r : Nat} (h : ButFor X r W) (g : After W W') : ButFor X r W' := ⟨Nat.le_trans h.1 g.size, fun k hk hr => by rw [g.block k (Nat.lt_of_lt_of_le hk h.1)]; exact h.2 k hk hr⟩
theorem ButFor.set {X W : World} {r : Nat} (h : ButFor X r W) (i : Nat) (v : Value) : ButFor X r (W.setCell ⟨r, i, none⟩ v) := ⟨by simp [World.setCell]; exact h.1, fun k hk hr => by rw [Below.heap_setCell _ _ _ _ (by simpa using hr)]; exact h.2 k hk hr⟩

theorem After.butFor {X W : World} {r : Nat} (h : After X W) : ButFor X r W := ⟨h.size, fun k hk _ => h.block k hk⟩
theorem heap_old2 (W : World) (o p : Obj) : ((W.alloc o).alloc p).heap[W.heap.size]? = some o := by
  rw [Below.heap_alloc _ _ _ (by simp)]; exact heap_new' W o

theorem heap_new3 (w : World) (a b c : Obj) : (((w.alloc a).alloc b).alloc c).heap[w.heap.size + 1 + 1]? = some c := heap_new2 (w.alloc a) (w.heap.size + 1) b c (by simp)
theorem heap_new4 (w : World) (a b c d : Obj) : ((((w.alloc a).alloc b).alloc c).alloc d).heap[w.heap.size + 1 + 1 + 1]? = some d := heap_new2 ((w.alloc a).alloc b) (w.heap.size + 1 + 1) c d (by simp)

section
variable (w : World) (g1 q1 g2 q2 : Nat) (y1 x2 y2 : List UInt8) (b1 a2 b2 : Option Addr) (m1 d1 n2 m2 c2 d2 : Nat)
  (k0 : w.cell? ⟨g1, 0, none⟩ = some (str [])) (k1 : w.cell? ⟨g1, 1, none⟩ = some (.slice (some ⟨g2, 0, none⟩) 2 q2)) (k2 : w.cell? ⟨g1, 2, none⟩ = some (str y1)) (k3 : w.cell? ⟨g1, 3, none⟩ = some (.slice b1 m1 d1)) (hlt : g1 < w.heap.size)
  (j0 : w.cell? ⟨g2, 0, none⟩ = some (str x2)) (j1 : w.cell? ⟨g2, 1, none⟩ = some (.slice a2 n2 c2)) (j2 : w.cell? ⟨g2, 2, none⟩ = some (str y2)) (j3 : w.cell? ⟨g2, 3, none⟩ = some (.slice b2 m2 d2)) (hlt2 : g2 < w.heap.size)
include k0 k1 k2 k3 hlt j0 j1 j2 j3 hlt2
end

section
variable (w : World) (g1 q1 g2 q2 g3 q3 : Nat) (y1 y2 x3 y3 : List UInt8) (b1 b2 a3 b3 : Option Addr) (m1 d1 m2 d2 n3 c3 m3 d3 : Nat)
  (k0 : w.cell? ⟨g1, 0, none⟩ = some (str [])) (k1 : w.cell? ⟨g1, 1, none⟩ = some (.slice (some ⟨g2, 0, none⟩) 2 q2)) (k2 : w.cell? ⟨g1, 2, none⟩ = some (str y1)) (k3 : w.cell? ⟨g1, 3, none⟩ = some (.slice b1 m1 d1)) (hlt : g1 < w.heap.size)
  (j0 : w.cell? ⟨g2, 0, none⟩ = some (str [])) (j1 : w.cell? ⟨g2, 1, none⟩ = some (.slice (some ⟨g3, 0, none⟩) 2 q3)) (j2 : w.cell? ⟨g2, 2, none⟩ = some (str y2)) (j3 : w.cell? ⟨g2, 3, none⟩ = some (.slice b2 m2 d2)) (hlt2 : g2 < w.heap.size)
  (i0 : w.cell? ⟨g3, 0, none⟩ = some (str x3)) (i1 : w.cell? ⟨g3, 1, none⟩ = some (.slice a3 n3 c3)) (i2 : w.cell? ⟨g3, 2, none⟩ = some (str y3)) (i3 : w.cell? ⟨g3, 3, none⟩ = some (.slice b3 m3 d3)) (hlt3 : g3 < w.heap.size)
include k0 k1 k2 k3 hlt j0 j1 j2 j3 hlt2 i0 i1 i2 i3 hlt3
end
end Go.Proofs.YtdjoafnohkmneaaGreatDoor

namespace Go.Proofs.YtdjoafnohkmneaaGreatDoor
open Go.RowKit

set_option maxHeartbeats 4000000
set_option maxRecDepth 100000

theorem name_not {n : List UInt8} (h : Tm.nameOk n = true) : n ≠ [] ∧ n ≠ [107] ∧ n ≠ [115] := by
  refine ⟨?_, ?_, ?_⟩ <;> (rintro rfl; revert h; decide)

end Go.Proofs.YtdjoafnohkmneaaGreatDoor

namespace Go.Proofs.YtdjoafnohkmneaaGreatDoor
open Go.RowKit

set_option maxHeartbeats 4000000
set_option maxRecDepth 100000

end Go.Proofs.YtdjoafnohkmneaaGreatDoor

namespace Go.Proofs.YtdjoafnohkmneaaGreatDoor
open Go.RowKit

set_option maxHeartbeats 1000000
set_option maxRecDepth 100000

theorem heap_sets2 {W : World} {b : Nat} {x y u u' : Value} {T : TypeId} {fr : Nat × Nat} (hh : W.heap[b]? = some (.cells #[x, y] T fr)) : ((W.setCell ⟨b, 0, none⟩ u).setCell ⟨b, 1, none⟩ u').heap[b]? = some (.cells #[u, u'] T fr) := by
  simp [World.setCell, Array.getElem?_modify, hh]

theorem heap_sets2_ne {W : World} {b c i j : Nat} {u u' : Value} (hne : c ≠ b) : ((W.setCell ⟨b, i, none⟩ u).setCell ⟨b, j, none⟩ u').heap[c]? = W.heap[c]? := by
  rw [Below.heap_setCell _ _ _ _ hne, Below.heap_setCell _ _ _ _ hne]

theorem pair_facts {W : World} {b : Nat} {x y : Value} {T : TypeId} (h : W.heap[b]? = some (.cells #[x, y] T (0, 0))) {W' : World} (hW : After W W') :
    W'.cell? ⟨b, 0, none⟩ = some x ∧ W'.cell? ⟨b, 1, none⟩ = some y ∧ W'.frozen? ⟨b, 0, none⟩ = false ∧ W'.frozen? ⟨b, 1, none⟩ = false ∧ b < W'.heap.size := by
  have hh := hW.heap h
  exact ⟨cell_of_heap hh, cell_of_heap hh, by simp [World.frozen?, hh], by simp [World.frozen?, hh], (Array.getElem?_eq_some_iff.1 hh).1⟩

end Go.Proofs.YtdjoafnohkmneaaGreatDoor

namespace Go.Proofs.YtdjoafnohkmneaaGreatDoor
open Go.RowKit

set_option maxHeartbeats 1000000
set_option maxRecDepth 100000

end Go.Proofs.YtdjoafnohkmneaaGreatDoor

namespace Go.Proofs.YtdjoafnohkmneaaGreatDoor
open Go.RowKit

set_option maxHeartbeats 2000000
set_option maxRecDepth 100000

namespace Tm
/-- No atom without letters. -/
def Plain : Tm → Prop
  | nm n => n ≠ []
  | app f a => Plain f ∧ Plain a
  | _ => True
def isNm (x : List UInt8) : Tm → Bool
  | nm n => n == x
  | _ => false
def abs (x : List UInt8) : Tm → Tm
  | nm n => if n = x then I else app k (nm n)
  | app f a => if uses x (app f a) = 0 then app k (app f a) else if isNm x a = true ∧ uses x f = 0 then f else app (app s (abs x f)) (abs x a)
  | t => app k t
theorem plain_good {t : Tm} : t.good = true → t.Plain := by
  induction t with
  | nm n => intro h; exact text_ne (.nm n) h
  | app f a ihf iha => intro h; simp only [good, Bool.and_eq_true] at h; exact ⟨ihf h.1, iha h.2⟩
  | k => intro _; trivial
  | s => intro _; trivial
end Tm

/-! ### l2Abs -/

end Go.Proofs.YtdjoafnohkmneaaGreatDoor

namespace Go.Proofs.YtdjoafnohkmneaaGreatDoor
open Go.RowKit

set_option maxHeartbeats 2000000
set_option maxRecDepth 100000

namespace Tm
theorem abs_none (x : List UInt8) (t : Tm) (h : uses x t = 0) : abs x t = app k t := by
  cases t with
  | nm n => simp only [uses] at h; split at h; · simp at h
            rename_i hn; simp [abs, hn]
  | app f a => simp only [abs, h, if_true]
  | k => rfl
  | s => rfl
theorem isNm_uses (x : List UInt8) (t : Tm) (h : uses x t = 0) : isNm x t = false := by
  cases t with
  | nm n => simp only [uses] at h; split at h; · simp at h
            rename_i hn; simp [isNm, hn]
  | _ => rfl
theorem pair_abs (x : List UInt8) (a b : Tm) (ha : uses x a = 0) (hb : uses x b = 0) : abs x (app (app (nm x) a) b) = pair a b := by
  have h1 : uses x (app (app (nm x) a) b) = 1 := by simp [uses, ha, hb]
  have h2 : uses x (app (nm x) a) = 1 := by simp [uses, ha]
  rw [abs, h1, if_neg (by decide), isNm_uses x b hb, if_neg (by simp), abs_none x b hb, abs, h2, if_neg (by decide), isNm_uses x a ha, if_neg (by simp), abs_none x a ha]
  simp [abs, pair]
theorem uses_bad (x : List UInt8) (hx : nameOk x = false) : ∀ {t : Tm}, good t = true → uses x t = 0
  | nm n, h => by
    simp only [uses]
    split
    · rename_i hn; subst hn; simp only [good] at h; rw [hx] at h; simp at h
    · rfl
  | app f a, h => by simp only [good, Bool.and_eq_true] at h; simp only [uses, uses_bad x hx h.1, uses_bad x hx h.2]
  | k, _ => rfl
  | s, _ => rfl
end Tm

def SNumOne (w : World) (r : Option (List UInt8)) (e : Ending) (w' : World) : Prop :=
  e = .returned (.tuple #[str (r.getD []), .bool r.isSome]) ∧ After w w'

end Go.Proofs.YtdjoafnohkmneaaGreatDoor

namespace Go.Proofs.YtdjoafnohkmneaaGreatDoor
open Go.RowKit

set_option maxHeartbeats 1000000
set_option maxRecDepth 100000

theorem comb_in {f a : Tm} {b1 b2 : Bd} (h : ∀ u, b1 ≠ .without u) : Bd.comb f a b1 b2 = .inside b1 b2 := by
  cases b1 with
  | without u => exact absurd rfl (h u)
  | itself => cases b2 <;> rfl
  | atEnd u => cases b2 <;> rfl
  | inside c d => cases b2 <;> rfl

theorem comb_in2 {f a : Tm} {b1 b2 : Bd} (h : ∀ u, b2 ≠ .without u) (h2 : b2 ≠ .itself) : Bd.comb f a b1 b2 = .inside b1 b2 := by
  cases b2 with
  | without u => exact absurd rfl (h u)
  | itself => exact absurd rfl h2
  | atEnd u => cases b1 <;> rfl
  | inside c d => cases b1 <;> rfl

theorem of_none (x : List UInt8) : ∀ {t : Tm}, Tm.uses x t = 0 → Bd.of x t = .without t
  | .k, _ => rfl
  | .s, _ => rfl
  | .nm n, h => by
    simp only [Tm.uses] at h
    split at h
    · simp at h
    · rename_i hn; simp [Bd.of, hn]
  | .app f a, h => by
    simp only [Tm.uses] at h
    rw [Bd.of, of_none x (t := f) (by omega), of_none x (t := a) (by omega)]
    rfl

theorem of_some (x : List UInt8) : ∀ {t : Tm}, Tm.uses x t ≠ 0 → (∀ u, Bd.of x t ≠ .without u) ∧ (Bd.of x t = .itself ↔ Tm.isNm x t = true)
  | .k, h => absurd rfl h
  | .s, h => absurd rfl h
  | .nm n, h => by
    simp only [Tm.uses] at h
    split at h
    · rename_i hn; simp [Bd.of, hn, Tm.isNm]
    · exact absurd rfl h
  | .app f a, h => by
    by_cases hf : Tm.uses x f = 0
    · have ha : Tm.uses x a ≠ 0 := by simp only [Tm.uses] at h; omega
      have ih := of_some x ha
      rw [Bd.of, of_none x hf]
      cases hb : Bd.of x a with
      | without u => exact absurd hb (ih.1 u)
      | itself => exact ⟨fun u => by simp [Bd.comb], by simp [Bd.comb, Tm.isNm]⟩
      | atEnd u => exact ⟨fun u => by simp [Bd.comb], by simp [Bd.comb, Tm.isNm]⟩
      | inside c d => exact ⟨fun u => by simp [Bd.comb], by simp [Bd.comb, Tm.isNm]⟩
    · have ih := of_some x hf
      rw [Bd.of, comb_in ih.1]
      exact ⟨fun u => by simp, by simp [Tm.isNm]⟩

theorem of_term (x : List UInt8) : ∀ t : Tm, (Bd.of x t).term = Tm.abs x t
  | .k => rfl
  | .s => rfl
  | .nm n => by by_cases hn : n = x <;> simp [Bd.of, Tm.abs, hn, Bd.term]
  | .app f a => by
    have ihf := of_term x f
    have iha := of_term x a
    by_cases h0 : Tm.uses x (.app f a) = 0
    · rw [of_none x h0, Tm.abs_none x _ h0]; rfl
    · rw [Tm.abs, if_neg h0]
      by_cases hf : Tm.uses x f = 0
      · have ha : Tm.uses x a ≠ 0 := by simp only [Tm.uses] at h0; omega
        have ha' := of_some x ha
        by_cases hn : Tm.isNm x a = true
        · rw [if_pos ⟨hn, hf⟩, Bd.of, of_none x hf, ha'.2.2 hn]; rfl
        · rw [if_neg (fun h => hn h.1), Bd.of, comb_in2 ha'.1 (fun h => hn (ha'.2.1 h)), Bd.term, ihf, iha]
      · rw [if_neg (fun h => hf h.2), Bd.of, comb_in (of_some x hf).1, Bd.term, ihf, iha]

theorem abs_size (x : List UInt8) : ∀ t : Tm, (Tm.abs x t).size + 1 ≤ 4 * t.size
  | .k => by simp [Tm.abs, Tm.size]
  | .s => by simp [Tm.abs, Tm.size]
  | .nm n => by by_cases hn : n = x <;> simp [Tm.abs, hn, Tm.size, Tm.I]
  | .app f a => by
    have ihf := abs_size x f
    have iha := abs_size x a
    have hf := Tm.size_pos f
    have ha := Tm.size_pos a
    rw [Tm.abs]
    split
    · simp only [Tm.size]; omega
    · split
      · simp only [Tm.size]; omega
      · simp only [Tm.size]; omega

end Go.Proofs.YtdjoafnohkmneaaGreatDoor

namespace Go.Proofs.YtdjoafnohkmneaaGreatDoor
open Go.RowKit Go.Shelf

attribute [local go_sem] Oper.semAt_some

/-- What has come when k rounds are over. -/
def upto {α : Type} (f : Nat → α) (k : Nat) : List α := (List.range k).map f
theorem upto_succ {α : Type} (f : Nat → α) (k : Nat) : upto f (k + 1) = upto f k ++ [f k] := by simp [upto, List.range_succ]
theorem upto_length {α : Type} (f : Nat → α) (k : Nat) : (upto f k).length = k := by simp [upto]

/-- The blocks below m and the block Bs are as they were. -/
def KeepB (m Bs : Nat) (W W' : World) : Prop := ∀ k, (k < m ∨ k = Bs) → W'.heap[k]? = W.heap[k]?
theorem KeepB.trans {m Bs : Nat} {A B C : World} (h : KeepB m Bs A B) (k : KeepB m Bs B C) : KeepB m Bs A C := fun i hi => (k i hi).trans (h i hi)
theorem KeepB.refl (m Bs : Nat) (W : World) : KeepB m Bs W W := fun _ _ => rfl
theorem KeepB.cell {m Bs b i : Nat} {W W' : World} {v : Value} (h : KeepB m Bs W W') (hb : b < m ∨ b = Bs) (hc : W.cell? ⟨b, i, none⟩ = some v) : W'.cell? ⟨b, i, none⟩ = some v := by
  rw [World.cell?_of_block (w := W) (a := ⟨b, i, none⟩) (h b hb)]; exact hc

/-- The slice value holds these texts, in a block below m. -/
def StrsB (m : Nat) (W : World) (sv : Value) (zs : List (List UInt8)) : Prop :=
  (∃ ao cap, sv = .slice ao 0 cap ∧ zs = []) ∨ ∃ b off cap, sv = .slice (some ⟨b, off, none⟩) zs.length cap ∧ b < m ∧ ∀ j, j < zs.length → W.cell? ⟨b, off + j, none⟩ = some (str (zs[j]?.getD []))

theorem keepB_b {m Bs : Nat} {w : World} (hm : m ≤ w.heap.size) (hBs : Bs < w.heap.size) (W : World) (l : Nat) (o o' : Obj) (hl : w.heap.size ≤ l) (h : W.heap[l]? = some o) (_ : o.isCells = false) (_ : o.isWalk = false) : KeepB m Bs W (W.putObj l o') := fun k hk => by
  have hg := grownBy_putObj' W l o'
  have hlt := (Array.getElem?_eq_some_iff.1 h).1
  exact hg.block k (by omega) (fun e => by injection e with e; omega)
end Go.Proofs.YtdjoafnohkmneaaGreatDoor

namespace Go.Proofs.YtdjoafnohkmneaaGreatDoor
open Go.RowKit Go.Shelf

attribute [local go_sem] Oper.semAt_some

/-- Names abstracted one after the other, each result looked at. -/
def absL : List (List UInt8) → Tm → Option Tm
  | [], t => some t
  | x :: xs, t => if (Tm.abs x t).fits = true then absL xs (Tm.abs x t) else none

theorem absL_snoc (xs : List (List UInt8)) (x : List UInt8) : ∀ t, absL (xs ++ [x]) t = (absL xs t).bind fun u => if (Tm.abs x u).fits = true then some (Tm.abs x u) else none := by
  induction xs with
  | nil => intro t; simp [absL]
  | cons y ys ih => intro t; simp only [List.cons_append, absL]; split
                    · exact ih _
                    · rfl

theorem absL_append (xs ys : List (List UInt8)) : ∀ t, absL (xs ++ ys) t = (absL xs t).bind (absL ys) := by
  induction xs with
  | nil => intro t; simp [absL]
  | cons x xs ih => intro t; simp only [List.cons_append, absL]; split
                    · exact ih _
                    · rfl

theorem back_take (zs : List (List UInt8)) (k : Nat) (hk : k ≤ zs.length) : (upto (fun j => (zs.length - 1 - j, zs[zs.length - 1 - j]?.getD [])) k).map Prod.snd = zs.reverse.take k := by
  apply List.ext_getElem
  · simp [upto, hk]
  · intro i h1 h2
    have hi : i < k := by simpa [upto] using h1
    have hz : zs.length - 1 - i < zs.length := by omega
    simp [upto, hz]

theorem box_kept {A C : World} {b : Nat} {T : TypeId} {x : Value} {row : Option Nat} (h : Boxed A b T x) (hg : A.grownBy C row) (hr : ∀ r, row = some r → ∃ o : Obj, A.heap[r]? = some o ∧ o.isCells = false) : Boxed C b T x :=
  Boxed.kept h hg fun e => by obtain ⟨o, ho, hc⟩ := hr b e.symm; rw [show A.heap[b]? = _ from h] at ho; injection ho with ho; subst ho; simp [Obj.isCells] at hc

theorem box_later {A C : World} {b : Nat} {T : TypeId} {x : Value} (h : Boxed A b T x) (hb : Below A.heap.size A C) : Boxed C b T x := heap_later h hb
theorem keepsOthers_below {A C : World} (h : Below A.heap.size A C) : KeepsOthers A C := ⟨h.size, fun _ _ hk _ => heap_later hk h⟩
theorem keepB_below {m Bs : Nat} {A C : World} (h : Below A.heap.size A C) (hm : m ≤ A.heap.size) (hBs : Bs < A.heap.size) : KeepB m Bs A C := fun k hk => h.block k (by omega)
theorem keepB_set {m Bs b : Nat} {A : World} (v : Value) (h1 : m ≤ b) (h2 : Bs ≠ b) : KeepB m Bs A (A.setCell ⟨b, 0, none⟩ v) := fun k hk => Below.heap_setCell _ _ _ _ (show k ≠ b by omega)

end Go.Proofs.YtdjoafnohkmneaaGreatDoor

namespace Go.Proofs.YtdjoafnohkmneaaGreatDoor
open Go.RowKit

set_option maxHeartbeats 1000000
set_option maxRecDepth 100000

namespace Tm
def X : Tm := .nm [120]
def Y : Tm := .nm [121]
def Z : Tm := .nm [122]
def half : Tm := abs [120] (abs [121] (app Y (app (app X X) Y)))
def fix : Tm := app half half
def succ : Tm := abs [120] (pair no X)
def pairC : Tm := abs [120] (abs [121] (abs [122] (app (app Z X) Y)))
def first : Tm := abs [120] (app X k)
def second : Tm := abs [120] (app X no)
def pred : Tm := abs [120] (app (app (app X k) I) (app X no))
/-- The closed term of a word. -/
def data (w : List UInt8) : Option Tm :=
  if w = [105] then some I else if w = [116, 114, 117, 101] then some k else if w = [102, 97, 108, 115, 101] then some no
  else if w = [112, 97, 105, 114] then some pairC else if w = [102, 105, 114, 115, 116] then some first else if w = [122, 101, 114, 111] then some first
  else if w = [115, 101, 99, 111, 110, 100] then some second else if w = [115, 117, 99, 99] then some succ else if w = [112, 114, 101, 100] then some pred
  else if w = [102, 105, 120] then some fix else none
theorem data_good {w : List UInt8} {t : Tm} (h : data w = some t) : t.good = true ∧ t.size ≤ 1000 := by
  unfold data at h
  repeat' split at h
  all_goals first | (obtain rfl := Option.some.inj h; exact ⟨by decide +kernel, by decide +kernel⟩) | cases h
end Tm

def pData (l : List UInt8) : Option (List UInt8) := (Tm.data l).map Tm.text

end Go.Proofs.YtdjoafnohkmneaaGreatDoor
