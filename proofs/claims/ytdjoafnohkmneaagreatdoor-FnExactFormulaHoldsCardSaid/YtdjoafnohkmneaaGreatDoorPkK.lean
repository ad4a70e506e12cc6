/-
  The row of the model's l6fPut that grows by a tree lying anywhere between.
-/
import Derived.Test.YtdjoafnohkmneaaGreatDoorPkI
import Derived.Test.YtdjoafnohkmneaaGreatDoorPkJ
import Derived.Test.YtdjoafnohkmneaaGreatDoorPkA
import Derived.Test.YtdjoafnohkmneaaGreatDoorPkB
import Derived.Deep.RegionHeld3
namespace Go.Proofs.YtdjoafnohkmneaaGreatDoor
open Go.RowKit

set_option maxHeartbeats 4000000
set_option maxRecDepth 100000

theorem RowP.pushed {w w' : World} {N base base1 S E : Nat} {sv v' x y : Value} {ps : List SX} {xs : List Value} {t : SX} (h : RowP w N base base1 sv ps xs) (hN : N ≤ base) (hNw : N ≤ w.heap.size) (hS : base1 ≤ S) (hE : E ≤ w.heap.size) (hgS : ∀ g, sv.ownBlock = some g → g < S ∨ E ≤ g) (ht : SVn w N S E t (.agg #[x, y]))
    (ho : w'.ownsRow base 35 2 v' (ps.length + 1) (xs ++ [x, y])) (hg : w.grownBy w' sv.ownBlock) (hw : v'.ownBlock = sv.ownBlock ∨ v'.ownBlock = some w.heap.size) :
    RowP w' N base base1 v' (ps ++ [t]) (xs ++ [x, y]) := by
  have hxl : xs.length = 2 * ps.length := by have := h.1.1; omega
  have hown : ∀ g, sv.ownBlock = some g → base ≤ g := fun g hg => (h.1.lt g hg).1
  have hkeep : ∀ k, k < w.heap.size → (∀ g, sv.ownBlock = some g → k ≠ g) → w'.heap[k]? = w.heap[k]? := fun k hk hne =>
    hg.block k (by omega) (fun e => hne k e.symm rfl)
  refine ⟨by rw [List.length_append]; exact ho, fun j hj => ?_⟩
  by_cases hjl : j < ps.length
  · obtain ⟨S', E', h2, h3, h4, x1, y1, e1, e2, h5⟩ := h.2 j hjl
    refine ⟨S', E', h2, by have := hg.size; omega, fun g hg' => ?_, x1, y1, ?_, ?_, ?_⟩
    · rcases hw with hw | hw
      · exact h4 g (hw ▸ hg')
      · rw [hw] at hg'; injection hg' with hg'; right; omega
    · show (xs ++ [x, y])[2 * j]? = _
      rw [List.getElem?_append_left (by omega)]; exact e1
    · show (xs ++ [x, y])[2 * j + 1]? = _
      rw [List.getElem?_append_left (by omega)]; exact e2
    · rw [List.getElem_append_left hjl]
      exact h5.keep (Nat.le_refl _) (Nat.le_refl _) fun k hk => hkeep k (by omega) (fun g hg' e => by have := h4 g hg'; have := hown g hg'; omega)
  · have hj' : j = ps.length := by rw [List.length_append, List.length_singleton] at hj; omega
    subst hj'
    refine ⟨S, E, hS, by have := hg.size; omega, fun g hg' => ?_, x, y, ?_, ?_, ?_⟩
    · rcases hw with hw | hw
      · exact hgS g (hw ▸ hg')
      · rw [hw] at hg'; injection hg' with hg'; right; omega
    · show (xs ++ [x, y])[2 * ps.length]? = _
      rw [List.getElem?_append_right (by omega), hxl, Nat.sub_self]; rfl
    · show (xs ++ [x, y])[2 * ps.length + 1]? = _
      rw [List.getElem?_append_right (by omega), hxl, Nat.add_sub_cancel_left]; rfl
    · simp only [List.getElem_concat_length]
      exact ht.keep (Nat.le_refl _) (Nat.le_refl _) fun k hk => hkeep k (by omega) (fun g hg' e => by have := hgS g hg'; have := hown g hg'; omega)

/-- One round: from the world ahead of the append to that behind the store. -/
theorem RowP.round {X wr W1 W4 : World} {N q g4 q4 k S E : Nat} {ps : List SX} {xs : List Value} {t : SX} {s : List UInt8} {sl : Value} {ao : Option Addr} {c : Nat} (hN : N ≤ X.heap.size) (hqX : X.heap.size ≤ q) (hA : After X wr) (hA1 : After wr W1)
    (hq : wr.heap[q]? = some (.cells #[.string ⟨#[]⟩, .slice ao k c] 35 (0, 0))) (hrow : RowP wr N X.heap.size (q + 1) (.slice ao k c) ps xs) (hpl : ps.length = k) (hne : ∀ g, (Value.slice ao k c).ownBlock = some g → g ≠ q)
    (hS : q + 1 ≤ S) (hE : E ≤ W1.heap.size) (hgS : ∀ g, (Value.slice ao k c).ownBlock = some g → g < S ∨ E ≤ g) (hev : SVn W1 N S E t (.agg #[str s, sl]))
    (ho4 : W4.ownsRow X.heap.size 35 2 (.slice (some ⟨g4, 0, none⟩) (k + 1) q4) (k + 1) (xs ++ [str s, sl])) (hg4 : W1.grownBy W4 (Value.slice ao k c).ownBlock) (hw4 : (Value.slice ao k c).ownBlock = some g4 ∨ g4 = W1.heap.size) :
    ((After X (W4.setCell ⟨q, 1, none⟩ (.slice (some ⟨g4, 0, none⟩) (k + 1) q4))) ∧ (W4.setCell ⟨q, 1, none⟩ (.slice (some ⟨g4, 0, none⟩) (k + 1) q4)).heap[q]? = some (.cells #[.string ⟨#[]⟩, .slice (some ⟨g4, 0, none⟩) (k + 1) q4] 35 (0, 0)) ∧
      RowP (W4.setCell ⟨q, 1, none⟩ (.slice (some ⟨g4, 0, none⟩) (k + 1) q4)) N X.heap.size (q + 1) (.slice (some ⟨g4, 0, none⟩) (k + 1) q4) (ps ++ [t]) (xs ++ [str s, sl]) ∧ ∀ g, (Value.slice (some ⟨g4, 0, none⟩) (k + 1) q4).ownBlock = some g → g ≠ q) ∧
    W4.cell? ⟨q, 1, none⟩ = some (.slice ao k c) ∧ W4.frozen? ⟨q, 1, none⟩ = false := by
  subst hpl
  have hown : ∀ g, (Value.slice ao ps.length c).ownBlock = some g → X.heap.size ≤ g ∧ g < wr.heap.size := fun g hg => hrow.1.lt g hg
  have hqw := (Array.getElem?_eq_some_iff.1 hq).1
  have h1 := hA.size
  have h2 := hA1.size
  have h4 := hg4.size
  have hq4 : W4.heap[q]? = some (.cells #[.string ⟨#[]⟩, .slice ao ps.length c] 35 (0, 0)) := by
    rw [hg4.block q (by omega) (fun e => hne q e.symm rfl), hA1.block q hqw]
    exact hq
  have hset := grown_setx W4 q 1 (.slice (some ⟨g4, 0, none⟩) (ps.length + 1) q4)
  have hneq : ∀ g, (Value.slice (some ⟨g4, 0, none⟩) (ps.length + 1) q4).ownBlock = some g → g ≠ q := fun g hg => by
    have e : g4 = g := by simpa [Value.ownBlock] using hg
    subst e
    rcases hw4 with h | h
    · exact hne _ h
    · omega
  have hpush := (hrow.later (by omega) hA1).pushed (hN := hN) (hNw := by omega) (S := S) (E := E) hS hE hgS hev ho4 hg4 (by
    rcases hw4 with h | h
    · left; rw [h]; rfl
    · right; rw [h]; rfl)
  have hX4 : After X W4 := by
    have hX3 := hA.trans hA1
    refine ⟨by rw [hg4.os]; exact hX3.os, by rw [hg4.tape]; exact hX3.tape, by rw [hg4.output]; exact hX3.output, by omega, fun j hj => ?_⟩
    rw [hg4.block j (by omega) (fun e => by have := hown _ e.symm; omega)]
    exact hX3.block j hj
  refine ⟨⟨after_but hX4 hset hqX, ?_, hpush.grown (by omega) (by omega) hset (by omega) hneq, hneq⟩, cell_of_heap (i := 1) hq4, by simp [World.frozen?, hq4]⟩
  simp [World.setCell, Array.getElem?_modify, hq4]
/-! ### Operations -/
section
variable {ops : Array Oper} {A : Act} {i : Nat} {w : World}
theorem rus_ix {x y : Operand} {u uy : Value} {b n cap k : Nat} (hop : (opAt ops i).op = .indexAddr 33 x y) (hx : A.eval x = u) (hu : u = .slice (some ⟨b, 0, none⟩) n cap) (hy : A.eval y = uy) (huy : uy = .int .i64 k) (hk : k < n) :
    (execOp A.eval (opAt ops i)).run Tryz.prog w = .ok (.value (.pointer (some ⟨b, k * 2, none⟩))) w := by
  subst hu huy
  have hk' : (k : Int) < (n : Int) := by omega
  unfold execOp
  generalize A.eval = E at *
  simp only [hop]
  simp [go_sem, hx, hy, hk']
theorem rus_row {x : Operand} {u : Value} {s : List UInt8} {ao : Option Addr} {n c : Nat} (hop : (opAt ops i).op = .buildSlice 33 1 #[(0, x)]) (hx : A.eval x = u) (hu : u = .agg #[str s, .slice ao n c]) :
    (execOp A.eval (opAt ops i)).run Tryz.prog w = .ok (.value (.slice (some ⟨w.heap.size, 0, none⟩) 1 1)) (w.alloc (.cells #[str s, .slice ao n c] 35)) := by
  subst hu
  unfold execOp
  generalize A.eval = E at *
  simp only [hop]
  simp [go_sem, hx]
theorem rus_store {x y : Operand} {u uy : Value} {p : Addr} {ao ao' : Option Addr} {n c n' c' : Nat} (hop : (opAt ops i).op = .store 33 x y) (hx : A.eval x = u) (hu : u = .pointer (some p)) (hy : A.eval y = uy) (huy : uy = .slice ao' n' c') (hc : w.cell? p = some (.slice ao n c)) (hf : w.frozen? p = false) :
    (execOp A.eval (opAt ops i)).run Tryz.prog w = .ok .skip (w.setCell p (.slice ao' n' c')) := by
  subst hu huy
  unfold execOp
  generalize A.eval = E at *
  simp only [hop, hx, hy]
  simp [go_sem, hc, hf]
end

/-! ### What the operations yield -/
def TreeIn (N : Nat) (wr : World) (t : SX) (v : Value) (w : World) : Prop :=
  ∃ (s : List UInt8) (ao : Option Addr) (n c S E : Nat), v = .agg #[str s, .slice ao n c] ∧ wr.heap.size ≤ S ∧ E ≤ w.heap.size ∧ SVn w N S E t v
def TreeAt (N : Nat) (wr : World) (t : SX) (v : Value) (w : World) : Prop :=
  ∃ (g : Nat) (s : List UInt8) (ao : Option Addr) (n c S E : Nat), v = .slice (some ⟨g, 0, none⟩) 1 1 ∧ w.heap[g]? = some (.cells #[str s, .slice ao n c] 35 (0, 0)) ∧ wr.heap.size ≤ S ∧ E ≤ w.heap.size ∧ SVn w N S E t (.agg #[str s, .slice ao n c])
def RowIn (N : Nat) (X : World) (q : Nat) (ps : List SX) (v : Value) (w : World) : Prop :=
  ∃ (g c : Nat) (xs : List Value), v = .slice (some ⟨g, 0, none⟩) ps.length c ∧ RowP w N X.heap.size (q + 1) v ps xs ∧ g ≠ q
theorem TreeIn.later {N : Nat} {wr w w' : World} {t : SX} {v : Value} (h : TreeIn N wr t v w) (hN : N ≤ w.heap.size) (ha : After w w') : TreeIn N wr t v w' := by
  obtain ⟨s, ao, n, c, S, E, rfl, h1, h2, h3⟩ := h
  exact ⟨s, ao, n, c, S, E, rfl, h1, Nat.le_trans h2 ha.size, h3.keep (Nat.le_refl _) (Nat.le_refl _) fun k hk => ha.block k (by omega)⟩
theorem TreeAt.later {N : Nat} {wr w w' : World} {t : SX} {v : Value} (h : TreeAt N wr t v w) (hN : N ≤ w.heap.size) (ha : After w w') : TreeAt N wr t v w' := by
  obtain ⟨g, s, ao, n, c, S, E, rfl, h0, h1, h2, h3⟩ := h
  exact ⟨g, s, ao, n, c, S, E, rfl, ha.heap h0, h1, Nat.le_trans h2 ha.size, h3.keep (Nat.le_refl _) (Nat.le_refl _) fun k hk => ha.block k (by omega)⟩
theorem RowIn.later {N q : Nat} {X w w' : World} {ps : List SX} {v : Value} (h : RowIn N X q ps v w) (hN : N ≤ w.heap.size) (ha : After w w') : RowIn N X q ps v w' := by
  obtain ⟨g, c, xs, rfl, h1, h2⟩ := h
  exact ⟨g, c, xs, rfl, h1.later hN ha, h2⟩
def AfterN (N : Nat) (w w' : World) : Prop := N ≤ w.heap.size ∧ After w w'

/-- Behind the append: the row is longer. -/
theorem RowP.pushIn {X wr W1 W4 : World} {N q g4 q4 k S E : Nat} {ps : List SX} {xs : List Value} {t : SX} {s : List UInt8} {sl : Value} {ao : Option Addr} {c : Nat} (hN : N ≤ X.heap.size) (hqX : X.heap.size ≤ q) (hXr : X.heap.size ≤ wr.heap.size) (hqw : q < wr.heap.size) (hA1 : After wr W1)
    (hrow : RowP wr N X.heap.size (q + 1) (.slice ao k c) ps xs) (hpl : ps.length = k) (hne : ∀ g, (Value.slice ao k c).ownBlock = some g → g ≠ q)
    (hS : wr.heap.size ≤ S) (hE : E ≤ W1.heap.size) (hev : SVn W1 N S E t (.agg #[str s, sl]))
    (ho4 : W4.ownsRow X.heap.size 35 2 (.slice (some ⟨g4, 0, none⟩) (k + 1) q4) (k + 1) (xs ++ [str s, sl])) (hg4 : W1.grownBy W4 (Value.slice ao k c).ownBlock) (hw4 : (Value.slice ao k c).ownBlock = some g4 ∨ g4 = W1.heap.size) :
    RowIn N X q (ps ++ [t]) (.slice (some ⟨g4, 0, none⟩) (k + 1) q4) W4 := by
  subst hpl
  have hown : ∀ g, (Value.slice ao ps.length c).ownBlock = some g → X.heap.size ≤ g ∧ g < wr.heap.size := fun g hg => hrow.1.lt g hg
  have h2 := hA1.size
  refine ⟨g4, q4, _, by rw [List.length_append]; rfl, (hrow.later (by omega) hA1).pushed (hN := hN) (hNw := by omega) (S := S) (E := E) (by omega) hE (fun g hg => Or.inl (by have := (hown g hg).2; omega)) hev ho4 hg4 ?_, ?_⟩
  · rcases hw4 with h | h
    · left; rw [h]; rfl
    · right; rw [h]; rfl
  · rcases hw4 with h | h
    · exact hne _ h
    · omega
/-- Behind the store. -/
theorem RowIn.set {X W : World} {N q : Nat} {ps : List SX} {v sl : Value} (h : RowIn N X q ps v W) (hN : N ≤ X.heap.size) (hqX : X.heap.size ≤ q) (hA : After X W) (hq : W.heap[q]? = some (.cells #[.string ⟨#[]⟩, sl] 35 (0, 0))) :
    After X (W.setCell ⟨q, 1, none⟩ v) ∧ (W.setCell ⟨q, 1, none⟩ v).heap[q]? = some (.cells #[.string ⟨#[]⟩, v] 35 (0, 0)) ∧ RowIn N X q ps v (W.setCell ⟨q, 1, none⟩ v) := by
  obtain ⟨g, c, xs, rfl, h1, h2⟩ := h
  have hs := hA.size
  have hset := grown_setx W q 1 (.slice (some ⟨g, 0, none⟩) ps.length c)
  refine ⟨after_but hA hset hqX, by simp [World.setCell, Array.getElem?_modify, hq], g, c, xs, rfl, h1.grown (by omega) (by omega) hset (by omega) fun g' hg' => ?_, h2⟩
  have e : g = g' := by simpa [Value.ownBlock] using hg'
  exact e ▸ h2

/-- What the rounds keep. -/
structure PutB (X wr : World) (q : Nat) (sl : Value) (w : World) : Prop where
  a : After X w
  s : wr.heap.size ≤ w.heap.size
  c : w.heap[q]? = some (.cells #[.string ⟨#[]⟩, sl] 35 (0, 0))
theorem PutB.later {X wr w w' : World} {q : Nat} {sl : Value} (h : PutB X wr q sl w) (ha : After w w') : PutB X wr q sl w' := ⟨h.a.trans ha, Nat.le_trans h.s ha.size, ha.heap h.c⟩
theorem PutB.grown {X wr w w' : World} {q : Nat} {sl : Value} {r : Option Nat} (h : PutB X wr q sl w) (hg : w.grownBy w' r) (hr : ∀ g, r = some g → X.heap.size ≤ g ∧ g ≠ q) : PutB X wr q sl w' := by
  have hs := h.a.size
  refine ⟨⟨by rw [hg.os]; exact h.a.os, by rw [hg.tape]; exact h.a.tape, by rw [hg.output]; exact h.a.output, Nat.le_trans hs hg.size, fun j hj => ?_⟩, Nat.le_trans h.s hg.size, ?_⟩
  · rw [hg.block j (by omega) (fun e => by have := (hr _ e.symm).1; omega)]
    exact h.a.block j hj
  · rw [hg.block q (Array.getElem?_eq_some_iff.1 h.c).1 (fun e => (hr _ e.symm).2 rfl)]
    exact h.c
theorem PutB.fz {X wr w : World} {q : Nat} {sl : Value} (h : PutB X wr q sl w) : w.frozen? ⟨q, 1, none⟩ = false := by
  have h2 := h.c
  simp [World.frozen?, h2]
end Go.Proofs.YtdjoafnohkmneaaGreatDoor

namespace Go.Proofs.YtdjoafnohkmneaaGreatDoor
open Go.RowKit

set_option maxHeartbeats 4000000
set_option maxRecDepth 100000

def SPutJ (x : List UInt8) (by' : SX) (d : Nat) : Prop := ∀ (t : SX) (w W : World) (v vb : Value), SV w 0 t v → SV w 0 by' vb → GoodX t → GoodX by' → Fm.wOk d t → After w W →
  Calls Tryz.prog 51 #[v, str x, vb] W (SPPost w.heap.size W (Fm.sput x by' d t))
def put13U : Nat → Option Nat
  | 9 => some 10
  | 10 => some 11
  | _ => none
def put12U : Nat → Option Nat
  | 7 => some 8
  | _ => none
def put13L (N q A b n cap k : Nat) (X wr : World) (a1 x sb : List UInt8) (ao ao1 aob : Option Addr) (c n1 c1 nb cb : Nat) (t : SX) (ps : List SX) : List Yu :=
  [.lit (.pointer (some ⟨q, 1, none⟩)), .lit (.slice ao k c), .lit (.pointer (some ⟨A, 1, none⟩)), .lit (.slice (some ⟨b, 0, none⟩) n cap), .lit (.int .i64 k), .lit (.pointer (some ⟨b, k * 2, none⟩)), .lit (.agg #[str a1, .slice ao1 n1 c1]), .lit (str x), .lit (.agg #[str sb, .slice aob nb cb]), .pred (TreeIn N wr t), .pred (TreeAt N wr t), .pred (RowIn N X q ps), .lit (.pointer (some ⟨q, 1, none⟩))]
def put12L (N q A b n cap k : Nat) (X wr : World) (a1 : List UInt8) (ao ao1 : Option Addr) (c n1 c1 : Nat) (t : SX) (ps : List SX) : List Yu :=
  [.lit (.pointer (some ⟨q, 1, none⟩)), .lit (.slice ao k c), .lit (.pointer (some ⟨A, 1, none⟩)), .lit (.slice (some ⟨b, 0, none⟩) n cap), .lit (.int .i64 k), .lit (.pointer (some ⟨b, k * 2, none⟩)), .lit (.agg #[str a1, .slice ao1 n1 c1]), .pred (TreeAt N wr t), .pred (RowIn N X q ps), .lit (.pointer (some ⟨q, 1, none⟩))]
theorem put13L_keep {N q A b n cap k : Nat} {X wr : World} {a1 x sb : List UInt8} {ao ao1 aob : Option Addr} {c n1 c1 nb cb : Nat} {t : SX} {ps : List SX} : ∀ y ∈ put13L N q A b n cap k X wr a1 x sb ao ao1 aob c n1 c1 nb cb t ps, keepsU (AfterN N) y := by
  intro y hy
  simp only [put13L, List.mem_cons, List.not_mem_nil, or_false] at hy
  rcases hy with rfl | rfl | rfl | rfl | rfl | rfl | rfl | rfl | rfl | rfl | rfl | rfl | rfl
  case inr.inr.inr.inr.inr.inr.inr.inr.inr.inl => exact fun v w w' h k => TreeIn.later k h.1 h.2
  case inr.inr.inr.inr.inr.inr.inr.inr.inr.inr.inl => exact fun v w w' h k => TreeAt.later k h.1 h.2
  case inr.inr.inr.inr.inr.inr.inr.inr.inr.inr.inr.inl => exact fun v w w' h k => RowIn.later k h.1 h.2
  all_goals exact trivial
theorem put12L_keep {N q A b n cap k : Nat} {X wr : World} {a1 : List UInt8} {ao ao1 : Option Addr} {c n1 c1 : Nat} {t : SX} {ps : List SX} : ∀ y ∈ put12L N q A b n cap k X wr a1 ao ao1 c n1 c1 t ps, keepsU (AfterN N) y := by
  intro y hy
  simp only [put12L, List.mem_cons, List.not_mem_nil, or_false] at hy
  rcases hy with rfl | rfl | rfl | rfl | rfl | rfl | rfl | rfl | rfl | rfl
  case inr.inr.inr.inr.inr.inr.inr.inl => exact fun v w w' h k => TreeAt.later k h.1 h.2
  case inr.inr.inr.inr.inr.inr.inr.inr.inl => exact fun v w w' h k => RowIn.later k h.1 h.2
  all_goals exact trivial
theorem put13_app {N q A b n cap k : Nat} {X wr w w' : World} {a1 x sb : List UInt8} {ao ao1 aob : Option Addr} {c n1 c1 nb cb : Nat} {t : SX} {ps : List SX} {j : Nat} {v : Value} (h9 : j ≠ 9) (h10 : j ≠ 10) (h11 : j ≠ 11)
    (h : yus (put13L N q A b n cap k X wr a1 x sb ao ao1 aob c n1 c1 nb cb t ps) j v w) : yus (put13L N q A b n cap k X wr a1 x sb ao ao1 aob c n1 c1 nb cb t ps) j v w' := by
  match j, h9, h10, h11 with
  | 0, _, _, _ => exact h
  | 1, _, _, _ => exact h
  | 2, _, _, _ => exact h
  | 3, _, _, _ => exact h
  | 4, _, _, _ => exact h
  | 5, _, _, _ => exact h
  | 6, _, _, _ => exact h
  | 7, _, _, _ => exact h
  | 8, _, _, _ => exact h
  | 12, _, _, _ => exact h
  | j + 13, _, _, _ => exact h
theorem put12_app {N q A b n cap k : Nat} {X wr w w' : World} {a1 : List UInt8} {ao ao1 : Option Addr} {c n1 c1 : Nat} {t : SX} {ps : List SX} {j : Nat} {v : Value} (h7 : j ≠ 7) (h8 : j ≠ 8)
    (h : yus (put12L N q A b n cap k X wr a1 ao ao1 c n1 c1 t ps) j v w) : yus (put12L N q A b n cap k X wr a1 ao ao1 c n1 c1 t ps) j v w' := by
  match j, h7, h8 with
  | 0, _, _ => exact h
  | 1, _, _ => exact h
  | 2, _, _ => exact h
  | 3, _, _ => exact h
  | 4, _, _ => exact h
  | 5, _, _ => exact h
  | 6, _, _ => exact h
  | 9, _, _ => exact h
  | j + 10, _, _ => exact h


theorem s_put_false (x : List UInt8) (by' : SX) (d : Nat) (ih : SPutJ x by' d) (ps : List SX) (w W : World) (v vb : Value) (h : SV w 0 (.node ps) v) (hb : SV w 0 by' vb) (hg : GoodX (.node ps)) (hgb : GoodX by') (hwk : ∀ p ∈ ps, Fm.wOk d p) (hq0 : 0 < ps.length) (hW : After w W)
    (hx : ¬ (headX (.node ps) = Fm.wAll ∨ headX (.node ps) = Fm.wEx)) :
    Calls Tryz.prog 51 #[v, str x, vb] W (SPPost w.heap.size W (.node (ps.mapIdx (Fm.sputAt (Fm.sput x by' d) false)))) := by
  obtain ⟨b, cap, rfl, hp⟩ := h.part
  obtain ⟨svb, rfl, hkb⟩ := hb.kids (fun ps e => by subst e; have := hgb.1; simp only [Fm.sxOk] at this; exact this.1)
  obtain ⟨aob, capb, rfl⟩ := hkb.form
  have hqn : ps.length ≤ 1000000000 := by
    have h1 := Fm.sxTexts_len ps
    have h2 := hg.2
    simp only [Fm.sxText, List.length_cons] at h2
    omega
  obtain ⟨qs, hqs⟩ : ∃ qs, qs = ps.mapIdx (Fm.sputAt (Fm.sput x by' d) false) := ⟨_, rfl⟩
  have hql : qs.length = ps.length := by rw [hqs]; simp
  have hq1 : qs.take 1 = [ps[0]] := by
    rw [hqs]
    obtain ⟨p, r, rfl⟩ := List.exists_cons_of_length_pos hq0
    simp [List.mapIdx_cons, Fm.sputAt]
  have hqk : ∀ k (hk : k < ps.length), 1 ≤ k → qs.take (k + 1) = qs.take k ++ [Fm.sput x by' d ps[k]] := fun k hk h1 => by
    rw [List.take_succ_eq_append_getElem (by omega)]
    subst hqs
    simp only [List.getElem_mapIdx, Fm.sputAt]
    rw [if_neg (by omega), if_neg (fun h => by cases h.2)]
  rw [← hqs]
  have HQL := Lib.hid hql
  have HQK := Lib.hid hqk
  have HQ1 := Lib.hid hq1
  clear hq1 hqk hqs hql
  obtain ⟨X, hX⟩ : ∃ X, X = ((W.alloc (.cells #[.string ⟨#[]⟩, .slice (some ⟨b, 0, none⟩) ps.length cap] 35)).alloc (.cells #[str (atomX by'), .slice aob (partsX by').length capb] 35)).alloc (.cells #[.string ⟨#[]⟩, .slice none 0 0] 35) := ⟨_, rfl⟩
  have hXA : After W X := by rw [hX]; exact ((After.new _ _).alloc _).alloc _
  have hXs : X.heap.size = W.heap.size + 3 := by rw [hX]; simp
  have hX0 : X.heap[W.heap.size]? = some (.cells #[.string ⟨#[]⟩, .slice (some ⟨b, 0, none⟩) ps.length cap] 35 (0, 0)) := by
    rw [hX, (below_new _ _).block W.heap.size (by simp; omega)]
    exact heap_below2 _ _ _
  have hX1 : X.heap[W.heap.size + 1]? = some (.cells #[str (atomX by'), .slice aob (partsX by').length capb] 35 (0, 0)) := by
    rw [hX, (below_new _ _).block (W.heap.size + 1) (by simp)]
    exact heap_top2 _ _ _
  have hhead := fun V (hV : After X V) => s_head V 0 (.node ps) _ (h.after ((hW.trans hXA).trans hV)) hg.1
  have hbd := fun V => s_binds V (headX (.node ps))
  rw [decide_eq_false hx] at hbd
  have hh0 := hhead X (After.refl _)
  have c0 : X.cell? ⟨W.heap.size, 0, none⟩ = some (.string ⟨#[]⟩) := cell_of_heap (i := 0) hX0
  have c1 : X.cell? ⟨W.heap.size, 1, none⟩ = some (.slice (some ⟨b, 0, none⟩) ps.length cap) := cell_of_heap (i := 1) hX0
  generalize headX (.node ps) = hw at *
  obtain ⟨a0, k0, hc0, hs0⟩ := hp 0 hq0
  generalize ps[0] = p0 at *

  have HHEAD := Lib.hid hhead
  have HXA := Lib.hid hXA
  have HXS := Lib.hid hXs
  have HX0 := Lib.hid hX0
  have HX1 := Lib.hid hX1
  have HX := Lib.hid hX
  have HW := Lib.hid hW
  have HC0 := Lib.hid hc0
  have HS0 := Lib.hid hs0
  have HPP := Lib.hid hp
  have HB := Lib.hid hb
  have HH := Lib.hid h
  have HG := Lib.hid hg
  have HGB := Lib.hid hgb
  have HWK := Lib.hid hwk
  have HIH := Lib.hid ih
  clear hhead hXA hXs hX0 hX1 hW hc0 hs0 hp hb h hg hgb hwk ih hkb hx
  go_enter Tryz.func51, Tryz.ntmps51
  clear hX
  go_wp2_with fail
  rw [← HX.out]
  refine hh0.mono ?_
  rintro e W2 ⟨rfl, ha2⟩
  have HA2 := Lib.hid ha2
  clear hh0 c0 c1 ha2
  go_wp2_with fail
  refine (hbd _).mono ?_
  rintro e w3 ⟨rfl, rfl⟩
  have d1 : W2.cell? ⟨W.heap.size, 1, none⟩ = some (.slice (some ⟨b, 0, none⟩) ps.length cap) := cell_of_heap (i := 1) (HA2.out.heap HX0.out)
  have e0 := (HC0.out W2 ((HW.out.trans HXA.out).trans HA2.out)).1
  have e1 := (HC0.out W2 ((HW.out.trans HXA.out).trans HA2.out)).2
  have hpi : (0 : Int) < (ps.length : Int) := by omega
  have hpn : 0 < ps.length := hq0
  go_wp2_with fail
  obtain ⟨Y, hY⟩ : ∃ Y, Y = (W2.alloc (.cells #[str (atomX p0), .slice a0 (partsX p0).length k0] 35)).alloc (.cells #[.string ⟨#[]⟩, .slice (some ⟨W2.heap.size, 0, none⟩) 1 1] 35) := ⟨_, rfl⟩
  have hYA : After X Y := by rw [hY]; exact (HA2.out.alloc _).alloc _
  have hYq : Y.heap[W2.heap.size + 1]? = some (.cells #[.string ⟨#[]⟩, .slice (some ⟨W2.heap.size, 0, none⟩) 1 1] 35 (0, 0)) := by rw [hY]; exact heap_top2 _ _ _
  have hWY : After w Y := (HW.out.trans HXA.out).trans hYA
  have hrow : RowP Y w.heap.size X.heap.size (W2.heap.size + 2) (.slice (some ⟨W2.heap.size, 0, none⟩) 1 1) [p0] [str (atomX p0), .slice a0 (partsX p0).length k0] := by
    refine ⟨?_, fun j hj => ?_⟩
    · have := World.ownsRow_lit (base := X.heap.size) (e := 35) (size := 2) W2 #[str (atomX p0), .slice a0 (partsX p0).length k0] 1 HA2.out.size (by decide) (by simp)
      rw [hY]
      exact World.ownsRow.alloc this _
    · obtain rfl : j = 0 := by simp at hj; omega
      exact ⟨W2.heap.size + 2, 0, Nat.le_refl _, Nat.zero_le _, fun g hg => Or.inl (by simp [Value.ownBlock] at hg; omega), _, _, rfl, rfl, HS0.out.old hWY _ _⟩
  rw [← hY]
  rw [← HQ1.out] at hrow
  have HYA := Lib.hid hYA
  have HYQ := Lib.hid hYq
  have HROW := Lib.hid hrow
  clear hYA hYq hrow hY hWY d1 e0 e1
  go_loopw [8] (fun i wr => ∃ (k : Nat) (ao : Option Addr) (c : Nat) (xs : List Value), i = .int .i64 k ∧ 1 ≤ k ∧ k ≤ ps.length ∧ After X wr ∧ Hid (wr.heap[W2.heap.size + 1]? = some (.cells #[.string ⟨#[]⟩, .slice ao k c] 35 (0, 0))) ∧ Hid (RowP wr w.heap.size X.heap.size (W2.heap.size + 2) (.slice ao k c) (qs.take k) xs) ∧ Hid (∀ g, (Value.slice ao k c).ownBlock = some g → g ≠ W2.heap.size + 1)) (fun i _ => ps.length - (intOf i).toNat)
  case atStart => exact ⟨1, _, _, _, rfl, Nat.le_refl _, hq0, HYA.out, HYQ, HROW, Lib.hid (fun g hg => by simp [Value.ownBlock] at hg; omega)⟩
  case round =>
    obtain ⟨k, ao, c, xs, rfl, hk1, hk, hA, HQ, HR, HNE⟩ := hrel
    have HA := Lib.hid hA
    have d1 : wr.cell? ⟨W.heap.size, 1, none⟩ = some (.slice (some ⟨b, 0, none⟩) ps.length cap) := cell_of_heap (i := 1) (hA.heap HX0.out)
    have d0 : wr.cell? ⟨W.heap.size, 0, none⟩ = some (.string ⟨#[]⟩) := cell_of_heap (i := 0) (hA.heap HX0.out)
    by_cases hlt : k < ps.length
    · have hlti : (k : Int) < (ps.length : Int) := by omega
      obtain ⟨ao1, c1, hc1, hs1⟩ := HPP.out k hlt
      have hmem := List.getElem_mem hlt
      have hwr : After w wr := (HW.out.trans HXA.out).trans hA
      have hcall := fun V (hV : After w V) => HIH.out ps[k] w V _ _ hs1 HB.out (HG.out.part hmem) HGB.out (HWK.out _ hmem) hV
      have htk := HQK.out k hlt hk1
      have hkl : (qs.take k).length = k := by rw [List.length_take, HQL.out]; omega
      have HCE := Lib.hid hc1
      have HS1 := Lib.hid hs1
      obtain ⟨i0, hi0, hz0, hz1, hz2⟩ : ∃ i, (Tryz.prog).info? 35 = some i ∧ i.zero = some (.agg #[.string ⟨#[]⟩, .slice none 0 0]) ∧ i.size = 2 ∧ i.bytes = 40 := ⟨_, rfl, rfl, rfl, rfl⟩
      have hun : Tryz.prog.underlying 33 = some (.slice 35) := by kernel_rfl
      have HCALL := Lib.hid hcall
      have HTK := Lib.hid htk
      have HKL := Lib.hid hkl
      have HLT := Lib.hid hlt
      have HNX : Hid (w.heap.size ≤ X.heap.size) := (by show _ ≤ _; have := HW.out.size; have := HXA.out.size; omega)
      have HQX : Hid (X.heap.size ≤ W2.heap.size + 1) := (by show _ ≤ _; have := HA2.out.size; omega)
      have HQW : Hid (W2.heap.size + 1 < wr.heap.size) := (by show _ < _; exact (Array.getElem?_eq_some_iff.1 HQ.out).1)
      have HXW : Hid (X.heap.size ≤ wr.heap.size) := HA.out.size
      have HMX : Hid (k + 1 ≤ maxLen ∧ (k + 1) * 40 ≤ 140737488355328) := (by show _ ∧ _; unfold maxLen; omega)
      have HHDW := Lib.hid (HHEAD.out wr hA)
      clear hc1 hs1 hmem hwr hcall htk hkl hA
      generalize ps[k] = pk at *
      by_cases h3 : k < 3
      · have h3i : (k : Int) < 3 := by omega
        have hh := HHDW.out
        go_wp2_with fail
        refine hh.mono ?_
        rintro e Wb ⟨rfl, hab⟩
        have HWB := Lib.hid hab
        clear hh hab d0 d1
        go_wp2_with fail
        refine (hbd _).mono ?_
        rintro e w5 ⟨rfl, rfl⟩
        go_wp2_with fail
        rename_i KK hKK
        have HL : Hid (∀ y ∈ (put13L w.heap.size (W2.heap.size + 1) W.heap.size b ps.length cap k X wr (atomX pk) x (atomX by') ao ao1 aob c (partsX pk).length c1 (partsX by').length capb (Fm.sput x by' d pk) (qs.take k ++ [Fm.sput x by' d pk])), keepsU (AfterN w.heap.size) y) := put13L_keep
        refine wp_region_use_tail (m := 11) (k := 3) (f := 14) (by kernel_rfl) (by kernel_rfl) (by kernel_rfl) (by kernel_rfl) (fun _ => none) (by kernel_rfl)
          99 (fun _ => True) (After wr) (yus (put13L w.heap.size (W2.heap.size + 1) W.heap.size b ps.length cap k X wr (atomX pk) x (atomX by') ao ao1 aob c (partsX pk).length c1 (partsX by').length capb (Fm.sput x by' d pk) (qs.take k ++ [Fm.sput x by' d pk]))) trivial HWB.out.drew (lt11 ?_ ?_ ?_ ?_ ?_ ?_ ?_ ?_ ?_ ?_ ?_) ?_
        · intro vs W1 hA1 _ hd K hK
          have hB : PutB X wr (W2.heap.size + 1) (.slice ao k c) W1 := (PutB.mk HA.out (Nat.le_refl _) HQ.out).later hA1
          have hN1 : w.heap.size ≤ W1.heap.size := Nat.le_trans HNX.out (hB.a.size)
          exact du_val (by kernel_rfl) (wantedq (by kernel_rfl)) (by kernel_rfl) hA1 rfl hK
        · intro vs W1 hA1 _ hd K hK
          have hB : PutB X wr (W2.heap.size + 1) (.slice ao k c) W1 := (PutB.mk HA.out (Nat.le_refl _) HQ.out).later hA1
          have hN1 : w.heap.size ≤ W1.heap.size := Nat.le_trans HNX.out (hB.a.size)
          exact du_val (by kernel_rfl) (wantedq (by kernel_rfl)) (ruf_lds (x := .tmp 61) (u := vs 0) (by kernel_rfl) (by kernel_rfl) (hd 0 (by kernel_rfl)) (cell_of_heap (i := 1) hB.c)) hA1 rfl hK
        · intro vs W1 hA1 _ hd K hK
          have hB : PutB X wr (W2.heap.size + 1) (.slice ao k c) W1 := (PutB.mk HA.out (Nat.le_refl _) HQ.out).later hA1
          have hN1 : w.heap.size ≤ W1.heap.size := Nat.le_trans HNX.out (hB.a.size)
          exact du_val (by kernel_rfl) (wantedq (by kernel_rfl)) (by kernel_rfl) hA1 rfl hK
        · intro vs W1 hA1 _ hd K hK
          have hB : PutB X wr (W2.heap.size + 1) (.slice ao k c) W1 := (PutB.mk HA.out (Nat.le_refl _) HQ.out).later hA1
          have hN1 : w.heap.size ≤ W1.heap.size := Nat.le_trans HNX.out (hB.a.size)
          exact du_val (by kernel_rfl) (wantedq (by kernel_rfl)) (ruf_lds (x := .tmp 63) (u := vs 2) (by kernel_rfl) (by kernel_rfl) (hd 2 (by kernel_rfl)) (cell_of_heap (i := 1) (hB.a.heap HX0.out))) hA1 rfl hK
        · intro vs W1 hA1 _ hd K hK
          have hB : PutB X wr (W2.heap.size + 1) (.slice ao k c) W1 := (PutB.mk HA.out (Nat.le_refl _) HQ.out).later hA1
          have hN1 : w.heap.size ≤ W1.heap.size := Nat.le_trans HNX.out (hB.a.size)
          exact du_val (by kernel_rfl) (wantedq (by kernel_rfl)) (by kernel_rfl) hA1 rfl hK
        · intro vs W1 hA1 _ hd K hK
          have hB : PutB X wr (W2.heap.size + 1) (.slice ao k c) W1 := (PutB.mk HA.out (Nat.le_refl _) HQ.out).later hA1
          have hN1 : w.heap.size ≤ W1.heap.size := Nat.le_trans HNX.out (hB.a.size)
          exact du_val (by kernel_rfl) (wantedq (by kernel_rfl)) (rus_ix (x := .tmp 64) (y := .tmp 65) (u := vs 3) (uy := vs 4) (by kernel_rfl) (by kernel_rfl) (hd 3 (by kernel_rfl)) (by kernel_rfl) (hd 4 (by kernel_rfl)) HLT.out) hA1 rfl hK
        · intro vs W1 hA1 _ hd K hK
          have hB : PutB X wr (W2.heap.size + 1) (.slice ao k c) W1 := (PutB.mk HA.out (Nat.le_refl _) HQ.out).later hA1
          have hN1 : w.heap.size ≤ W1.heap.size := Nat.le_trans HNX.out (hB.a.size)
          have hcc := HCE.out W1 ((HW.out.trans HXA.out).trans hB.a)
          exact du_val (by kernel_rfl) (wantedq (by kernel_rfl)) (rq_tree (x := .tmp 66) (u := vs 5) (b := b) (k := k * 2) (by kernel_rfl) (by kernel_rfl) (hd 5 (by kernel_rfl)) hcc.1 hcc.2) hA1 rfl hK
        · intro vs W1 hA1 _ hd K hK
          have hB : PutB X wr (W2.heap.size + 1) (.slice ao k c) W1 := (PutB.mk HA.out (Nat.le_refl _) HQ.out).later hA1
          have hN1 : w.heap.size ≤ W1.heap.size := Nat.le_trans HNX.out (hB.a.size)
          exact du_val (by kernel_rfl) (wantedq (by kernel_rfl)) (by kernel_rfl) hA1 rfl hK
        · intro vs W1 hA1 _ hd K hK
          have hB : PutB X wr (W2.heap.size + 1) (.slice ao k c) W1 := (PutB.mk HA.out (Nat.le_refl _) HQ.out).later hA1
          have hN1 : w.heap.size ≤ W1.heap.size := Nat.le_trans HNX.out (hB.a.size)
          exact du_val (by kernel_rfl) (wantedq (by kernel_rfl)) (rq_tree (x := .tmp 5) (u := .pointer (some ⟨W.heap.size + 1, 0, none⟩)) (b := W.heap.size + 1) (k := 0) (by kernel_rfl) (by kernel_rfl) rfl (cell_of_heap (i := 0) (hB.a.heap HX1.out)) (cell_of_heap (i := 1) (hB.a.heap HX1.out))) hA1 rfl hK
        · intro vs W1 hA1 _ hd K hK
          have hB : PutB X wr (W2.heap.size + 1) (.slice ao k c) W1 := (PutB.mk HA.out (Nat.le_refl _) HQ.out).later hA1
          have hN1 : w.heap.size ≤ W1.heap.size := Nat.le_trans HNX.out (hB.a.size)
          have e6 : vs 6 = .agg #[str (atomX pk), .slice ao1 (partsX pk).length c1] := hd 6 (by kernel_rfl)
          have e7 : vs 7 = str x := hd 7 (by kernel_rfl)
          have e8 : vs 8 = .agg #[str (atomX by'), .slice aob (partsX by').length capb] := hd 8 (by kernel_rfl)
          refine op_call (f := 51) (args := #[vs 6, vs 7, vs 8]) (by kernel_rfl) (wantedq (by kernel_rfl)) (by kernel_rfl) ?_
          rw [e6, e7, e8]
          refine (HCALL.out W1 ((HW.out.trans HXA.out).trans hB.a)).mono ?_
          rintro e W3 ⟨s3, ao3, n3, c3, rfl, ha3, hv3⟩
          exact ⟨_, rfl, hK _ _ ⟨hA1.trans ha3, fun _ h => h, fun j v _ _ _ h => yus_keep HL.out ⟨hN1, ha3⟩ j v h⟩ ⟨s3, ao3, n3, c3, W1.heap.size, W3.heap.size, rfl, hB.s, Nat.le_refl _, hv3⟩⟩
        · intro vs W1 hA1 _ hd K hK
          have hB : PutB X wr (W2.heap.size + 1) (.slice ao k c) W1 := (PutB.mk HA.out (Nat.le_refl _) HQ.out).later hA1
          have hN1 : w.heap.size ≤ W1.heap.size := Nat.le_trans HNX.out (hB.a.size)
          obtain ⟨s3, ao3, n3, c3, S, E, e9, hS, hE, hv3⟩ := hd 9 (by kernel_rfl)
          refine du_new (by kernel_rfl) (wantedq (by kernel_rfl)) (rus_row (x := .tmp 70) (u := vs 9) (by kernel_rfl) (by kernel_rfl) e9) ⟨hA1.alloc _, fun _ h => h, fun j v _ _ _ h => yus_keep HL.out ⟨hN1, After.new W1 _⟩ j v h⟩ ⟨W1.heap.size, s3, ao3, n3, c3, S, E, rfl, heap_new' _ _, hS, by simp; omega, ?_⟩ hK
          rw [e9] at hv3
          exact hv3.keep (Nat.le_refl _) (Nat.le_refl _) fun j hj => (After.new W1 _).block j (by omega)
        intro vs W1 hA1 hd
        have hB : PutB X wr (W2.heap.size + 1) (.slice ao k c) W1 := (PutB.mk HA.out (Nat.le_refl _) HQ.out).later hA1
        obtain ⟨g, s3, ao3, n3, c3, S, E, e10, hg10, hS, hE, hv3⟩ := hd 10 (by decide) (fun c hc => by cases hc)
        have e1 : vs 1 = .slice ao k c := hd 1 (by decide) (fun c hc => by cases hc)
        have hro := (HR.out.later (Nat.le_trans HNX.out HXW.out) hA1).1
        rw [HKL.out] at hro
        obtain ⟨g4, q4, W4, hrun, ho4, hg4, hw4, _⟩ := run_append_lies (P := Tryz.prog) W1 33 33 X.heap.size 35 i0 (.agg #[.string ⟨#[]⟩, .slice none 0 0]) 2 40 hun hi0 hz0 hz1 hz2 rfl (by decide) (.slice ao k c) k xs hro ⟨g, 0, none⟩ 1 1 [str s3, .slice ao3 n3 c3] rfl (World.news_of_block hg10) (by simp [Value.oneCell', str]) (by omega) HMX.out.1 HMX.out.2 hB.a.size _ rfl
        have hB4 : PutB X wr (W2.heap.size + 1) (.slice ao k c) W4 := hB.grown hg4 (fun g' hg' => ⟨(HR.out.1.lt g' hg').1, HNE.out g' hg'⟩)
        have hrw := RowP.pushIn HNX.out HQX.out HXW.out HQW.out hA1 HR.out HKL.out HNE.out hS hE hv3 ho4 hg4 hw4
        have hfin := RowIn.set hrw HNX.out HQX.out hB4.a hB4.c
        refine op_val (i := 11) (by kernel_rfl) (wantedq (by kernel_rfl)) (ru_app (s := .tmp 62) (x := .tmp 71) (v := .slice ao k c) (sv := .slice (some ⟨g, 0, none⟩) 1 1) (by kernel_rfl) (Eq.trans (by kernel_rfl) e1) (Eq.trans (by kernel_rfl) e10) hrun) ?_
        refine op_val (i := 12) (w := W4) (w' := W4) (v := .pointer (some ⟨W2.heap.size + 1, 1, none⟩)) (by kernel_rfl) (wantedq (by kernel_rfl)) (by kernel_rfl) ?_
        refine op_skip (i := 13) (by kernel_rfl) (wantedq (by kernel_rfl)) (rus_store (x := .tmp 73) (y := .tmp 72) (u := .pointer (some ⟨W2.heap.size + 1, 1, none⟩)) (uy := .slice (some ⟨g4, 0, none⟩) (k + 1) q4) (p := ⟨W2.heap.size + 1, 1, none⟩) (ao := ao) (n := k) (c := c) (by kernel_rfl) (by kernel_rfl) rfl (by kernel_rfl) rfl (cell_of_heap (i := 1) hB4.c) hB4.fz) ?_
        generalize W4.setCell ⟨W2.heap.size + 1, 1, none⟩ (.slice (some ⟨g4, 0, none⟩) (k + 1) q4) = Z at *
        have HFIN := Lib.hid hfin
        clear hfin hrw hrun hB4 hg4 ho4 hw4 hro hv3 hg10
        refine hKK _ _ ?_
        refine wp_frame (⟨List.toArray ((Value.agg #[Value.string { data := #[] }, Value.slice (some { block := b, off := 0 }) ps.length cap]) :: (str x) :: (Value.agg #[str (atomX by'), Value.slice aob (partsX by').length capb]) :: (Value.pointer (some { block := W.heap.size, off := 0 })) :: (undef) :: (Value.pointer (some { block := W.heap.size + 1, off := 0 })) :: (Value.pointer (some { block := W.heap.size + 1 + 1, off := 0 })) :: (Value.pointer (some { block := W2.heap.size + 1, off := 0 })) :: (Value.int IntKind.i64 ↑k) :: (Value.pointer (some { block := W.heap.size, off := 0 })) :: (Value.string { data := #[] }) :: (Value.bool false) :: (undef) :: (undef) :: (undef) :: (undef) :: (undef) :: (undef) :: (Value.agg #[Value.string { data := #[] }, Value.slice (some { block := b, off := 0 }) ps.length cap]) :: (str hw) :: (Value.bool false) :: (Value.bool false) :: (undef) :: (undef) :: (undef) :: (undef) :: (undef) :: (undef) :: (undef) :: (Value.bool false) :: (undef) :: (Value.pointer (some { block := W.heap.size, off := 1 })) :: (Value.slice (some { block := b, off := 0 }) ps.length cap) :: (Value.pointer (some { block := b, off := 0 })) :: (Value.agg #[str (atomX p0), Value.slice a0 (partsX p0).length k0]) :: (Value.slice (some { block := W2.heap.size, off := 0 }) 1 1) :: (Value.agg #[Value.string { data := #[] }, Value.slice (some { block := W2.heap.size, off := 0 }) 1 1]) :: (Value.int IntKind.i64 ↑k) :: (Value.pointer (some { block := W.heap.size, off := 1 })) :: (Value.slice (some { block := b, off := 0 }) ps.length cap) :: (Value.int IntKind.i64 ↑ps.length) :: (Value.bool true) :: (u42) :: (u43) :: (Value.int IntKind.i64 ↑k) :: (Value.bool true) :: (Value.bool true) :: (Value.agg #[Value.string { data := #[] }, Value.slice (some { block := b, off := 0 }) ps.length cap]) :: (str hw) :: (Value.bool false) :: (Value.bool false) :: (u51) :: (u52) :: (u53) :: (u54) :: (u55) :: (u56) :: (u57) :: (u58) :: (u59) :: (u60) :: (vs 0) :: (vs 1) :: (vs 2) :: (vs 3) :: (vs 4) :: (vs 5) :: (vs 6) :: (vs 7) :: (vs 8) :: (vs 9) :: (vs 10) :: (.slice (some ⟨g4, 0, none⟩) (k + 1) q4) :: (.pointer (some ⟨W2.heap.size + 1, 1, none⟩)) :: (undef) :: []), []⟩ : Act) (by kernel_rfl) ?_
        clear hd hB e10 e1
        generalize vs 0 = y0 at *
        generalize vs 1 = y1 at *
        generalize vs 2 = y2 at *
        generalize vs 3 = y3 at *
        generalize vs 4 = y4 at *
        generalize vs 5 = y5 at *
        generalize vs 6 = y6 at *
        generalize vs 7 = y7 at *
        generalize vs 8 = y8 at *
        generalize vs 9 = y9 at *
        generalize vs 10 = y10 at *
        go_wp2_with fail
        go_roundw
        case rel =>
          obtain ⟨hA9, hq9, g9, c9, xs9, e9, hr9, hn9⟩ := HFIN.out
          rw [← HTK.out] at hr9 e9
          have hl9 : (qs.take (k + 1)).length = k + 1 := by rw [List.length_take, HQL.out]; have := HLT.out; omega
          rw [hl9] at e9
          refine ⟨k + 1, some ⟨g4, 0, none⟩, q4, xs9, by go_num, by omega, by have := HLT.out; omega, hA9, hq9, hr9, ?_⟩
          show ∀ g, _
          intro g hg
          have e : g4 = g := by simpa [Value.ownBlock] using hg
          have e2 : g4 = g9 := by injection e9 with e9; injection e9 with e9; injection e9
          rw [← e, e2]
          exact hn9
        case measure => have := HLT.out; simp [intOf]; omega
      · have h3i : ¬ (k : Int) < 3 := by omega
        have HWB : Hid (After wr wr) := After.refl wr
        have HTK0 := HTK
        clear h3
        go_wp2_with fail
        rename_i KK hKK
        have HL : Hid (∀ y ∈ (put13L w.heap.size (W2.heap.size + 1) W.heap.size b ps.length cap k X wr (atomX pk) x (atomX by') ao ao1 aob c (partsX pk).length c1 (partsX by').length capb (Fm.sput x by' d pk) (qs.take k ++ [Fm.sput x by' d pk])), keepsU (AfterN w.heap.size) y) := put13L_keep
        refine wp_region_use_tail (m := 11) (k := 3) (f := 14) (by kernel_rfl) (by kernel_rfl) (by kernel_rfl) (by kernel_rfl) (fun _ => none) (by kernel_rfl)
          99 (fun _ => True) (After wr) (yus (put13L w.heap.size (W2.heap.size + 1) W.heap.size b ps.length cap k X wr (atomX pk) x (atomX by') ao ao1 aob c (partsX pk).length c1 (partsX by').length capb (Fm.sput x by' d pk) (qs.take k ++ [Fm.sput x by' d pk]))) trivial HWB.out.drew (lt11 ?_ ?_ ?_ ?_ ?_ ?_ ?_ ?_ ?_ ?_ ?_) ?_
        · intro vs W1 hA1 _ hd K hK
          have hB : PutB X wr (W2.heap.size + 1) (.slice ao k c) W1 := (PutB.mk HA.out (Nat.le_refl _) HQ.out).later hA1
          have hN1 : w.heap.size ≤ W1.heap.size := Nat.le_trans HNX.out (hB.a.size)
          exact du_val (by kernel_rfl) (wantedq (by kernel_rfl)) (by kernel_rfl) hA1 rfl hK
        · intro vs W1 hA1 _ hd K hK
          have hB : PutB X wr (W2.heap.size + 1) (.slice ao k c) W1 := (PutB.mk HA.out (Nat.le_refl _) HQ.out).later hA1
          have hN1 : w.heap.size ≤ W1.heap.size := Nat.le_trans HNX.out (hB.a.size)
          exact du_val (by kernel_rfl) (wantedq (by kernel_rfl)) (ruf_lds (x := .tmp 61) (u := vs 0) (by kernel_rfl) (by kernel_rfl) (hd 0 (by kernel_rfl)) (cell_of_heap (i := 1) hB.c)) hA1 rfl hK
        · intro vs W1 hA1 _ hd K hK
          have hB : PutB X wr (W2.heap.size + 1) (.slice ao k c) W1 := (PutB.mk HA.out (Nat.le_refl _) HQ.out).later hA1
          have hN1 : w.heap.size ≤ W1.heap.size := Nat.le_trans HNX.out (hB.a.size)
          exact du_val (by kernel_rfl) (wantedq (by kernel_rfl)) (by kernel_rfl) hA1 rfl hK
        · intro vs W1 hA1 _ hd K hK
          have hB : PutB X wr (W2.heap.size + 1) (.slice ao k c) W1 := (PutB.mk HA.out (Nat.le_refl _) HQ.out).later hA1
          have hN1 : w.heap.size ≤ W1.heap.size := Nat.le_trans HNX.out (hB.a.size)
          exact du_val (by kernel_rfl) (wantedq (by kernel_rfl)) (ruf_lds (x := .tmp 63) (u := vs 2) (by kernel_rfl) (by kernel_rfl) (hd 2 (by kernel_rfl)) (cell_of_heap (i := 1) (hB.a.heap HX0.out))) hA1 rfl hK
        · intro vs W1 hA1 _ hd K hK
          have hB : PutB X wr (W2.heap.size + 1) (.slice ao k c) W1 := (PutB.mk HA.out (Nat.le_refl _) HQ.out).later hA1
          have hN1 : w.heap.size ≤ W1.heap.size := Nat.le_trans HNX.out (hB.a.size)
          exact du_val (by kernel_rfl) (wantedq (by kernel_rfl)) (by kernel_rfl) hA1 rfl hK
        · intro vs W1 hA1 _ hd K hK
          have hB : PutB X wr (W2.heap.size + 1) (.slice ao k c) W1 := (PutB.mk HA.out (Nat.le_refl _) HQ.out).later hA1
          have hN1 : w.heap.size ≤ W1.heap.size := Nat.le_trans HNX.out (hB.a.size)
          exact du_val (by kernel_rfl) (wantedq (by kernel_rfl)) (rus_ix (x := .tmp 64) (y := .tmp 65) (u := vs 3) (uy := vs 4) (by kernel_rfl) (by kernel_rfl) (hd 3 (by kernel_rfl)) (by kernel_rfl) (hd 4 (by kernel_rfl)) HLT.out) hA1 rfl hK
        · intro vs W1 hA1 _ hd K hK
          have hB : PutB X wr (W2.heap.size + 1) (.slice ao k c) W1 := (PutB.mk HA.out (Nat.le_refl _) HQ.out).later hA1
          have hN1 : w.heap.size ≤ W1.heap.size := Nat.le_trans HNX.out (hB.a.size)
          have hcc := HCE.out W1 ((HW.out.trans HXA.out).trans hB.a)
          exact du_val (by kernel_rfl) (wantedq (by kernel_rfl)) (rq_tree (x := .tmp 66) (u := vs 5) (b := b) (k := k * 2) (by kernel_rfl) (by kernel_rfl) (hd 5 (by kernel_rfl)) hcc.1 hcc.2) hA1 rfl hK
        · intro vs W1 hA1 _ hd K hK
          have hB : PutB X wr (W2.heap.size + 1) (.slice ao k c) W1 := (PutB.mk HA.out (Nat.le_refl _) HQ.out).later hA1
          have hN1 : w.heap.size ≤ W1.heap.size := Nat.le_trans HNX.out (hB.a.size)
          exact du_val (by kernel_rfl) (wantedq (by kernel_rfl)) (by kernel_rfl) hA1 rfl hK
        · intro vs W1 hA1 _ hd K hK
          have hB : PutB X wr (W2.heap.size + 1) (.slice ao k c) W1 := (PutB.mk HA.out (Nat.le_refl _) HQ.out).later hA1
          have hN1 : w.heap.size ≤ W1.heap.size := Nat.le_trans HNX.out (hB.a.size)
          exact du_val (by kernel_rfl) (wantedq (by kernel_rfl)) (rq_tree (x := .tmp 5) (u := .pointer (some ⟨W.heap.size + 1, 0, none⟩)) (b := W.heap.size + 1) (k := 0) (by kernel_rfl) (by kernel_rfl) rfl (cell_of_heap (i := 0) (hB.a.heap HX1.out)) (cell_of_heap (i := 1) (hB.a.heap HX1.out))) hA1 rfl hK
        · intro vs W1 hA1 _ hd K hK
          have hB : PutB X wr (W2.heap.size + 1) (.slice ao k c) W1 := (PutB.mk HA.out (Nat.le_refl _) HQ.out).later hA1
          have hN1 : w.heap.size ≤ W1.heap.size := Nat.le_trans HNX.out (hB.a.size)
          have e6 : vs 6 = .agg #[str (atomX pk), .slice ao1 (partsX pk).length c1] := hd 6 (by kernel_rfl)
          have e7 : vs 7 = str x := hd 7 (by kernel_rfl)
          have e8 : vs 8 = .agg #[str (atomX by'), .slice aob (partsX by').length capb] := hd 8 (by kernel_rfl)
          refine op_call (f := 51) (args := #[vs 6, vs 7, vs 8]) (by kernel_rfl) (wantedq (by kernel_rfl)) (by kernel_rfl) ?_
          rw [e6, e7, e8]
          refine (HCALL.out W1 ((HW.out.trans HXA.out).trans hB.a)).mono ?_
          rintro e W3 ⟨s3, ao3, n3, c3, rfl, ha3, hv3⟩
          exact ⟨_, rfl, hK _ _ ⟨hA1.trans ha3, fun _ h => h, fun j v _ _ _ h => yus_keep HL.out ⟨hN1, ha3⟩ j v h⟩ ⟨s3, ao3, n3, c3, W1.heap.size, W3.heap.size, rfl, hB.s, Nat.le_refl _, hv3⟩⟩
        · intro vs W1 hA1 _ hd K hK
          have hB : PutB X wr (W2.heap.size + 1) (.slice ao k c) W1 := (PutB.mk HA.out (Nat.le_refl _) HQ.out).later hA1
          have hN1 : w.heap.size ≤ W1.heap.size := Nat.le_trans HNX.out (hB.a.size)
          obtain ⟨s3, ao3, n3, c3, S, E, e9, hS, hE, hv3⟩ := hd 9 (by kernel_rfl)
          refine du_new (by kernel_rfl) (wantedq (by kernel_rfl)) (rus_row (x := .tmp 70) (u := vs 9) (by kernel_rfl) (by kernel_rfl) e9) ⟨hA1.alloc _, fun _ h => h, fun j v _ _ _ h => yus_keep HL.out ⟨hN1, After.new W1 _⟩ j v h⟩ ⟨W1.heap.size, s3, ao3, n3, c3, S, E, rfl, heap_new' _ _, hS, by simp; omega, ?_⟩ hK
          rw [e9] at hv3
          exact hv3.keep (Nat.le_refl _) (Nat.le_refl _) fun j hj => (After.new W1 _).block j (by omega)
        intro vs W1 hA1 hd
        have hB : PutB X wr (W2.heap.size + 1) (.slice ao k c) W1 := (PutB.mk HA.out (Nat.le_refl _) HQ.out).later hA1
        obtain ⟨g, s3, ao3, n3, c3, S, E, e10, hg10, hS, hE, hv3⟩ := hd 10 (by decide) (fun c hc => by cases hc)
        have e1 : vs 1 = .slice ao k c := hd 1 (by decide) (fun c hc => by cases hc)
        have hro := (HR.out.later (Nat.le_trans HNX.out HXW.out) hA1).1
        rw [HKL.out] at hro
        obtain ⟨g4, q4, W4, hrun, ho4, hg4, hw4, _⟩ := run_append_lies (P := Tryz.prog) W1 33 33 X.heap.size 35 i0 (.agg #[.string ⟨#[]⟩, .slice none 0 0]) 2 40 hun hi0 hz0 hz1 hz2 rfl (by decide) (.slice ao k c) k xs hro ⟨g, 0, none⟩ 1 1 [str s3, .slice ao3 n3 c3] rfl (World.news_of_block hg10) (by simp [Value.oneCell', str]) (by omega) HMX.out.1 HMX.out.2 hB.a.size _ rfl
        have hB4 : PutB X wr (W2.heap.size + 1) (.slice ao k c) W4 := hB.grown hg4 (fun g' hg' => ⟨(HR.out.1.lt g' hg').1, HNE.out g' hg'⟩)
        have hrw := RowP.pushIn HNX.out HQX.out HXW.out HQW.out hA1 HR.out HKL.out HNE.out hS hE hv3 ho4 hg4 hw4
        have hfin := RowIn.set hrw HNX.out HQX.out hB4.a hB4.c
        refine op_val (i := 11) (by kernel_rfl) (wantedq (by kernel_rfl)) (ru_app (s := .tmp 62) (x := .tmp 71) (v := .slice ao k c) (sv := .slice (some ⟨g, 0, none⟩) 1 1) (by kernel_rfl) (Eq.trans (by kernel_rfl) e1) (Eq.trans (by kernel_rfl) e10) hrun) ?_
        refine op_val (i := 12) (w := W4) (w' := W4) (v := .pointer (some ⟨W2.heap.size + 1, 1, none⟩)) (by kernel_rfl) (wantedq (by kernel_rfl)) (by kernel_rfl) ?_
        refine op_skip (i := 13) (by kernel_rfl) (wantedq (by kernel_rfl)) (rus_store (x := .tmp 73) (y := .tmp 72) (u := .pointer (some ⟨W2.heap.size + 1, 1, none⟩)) (uy := .slice (some ⟨g4, 0, none⟩) (k + 1) q4) (p := ⟨W2.heap.size + 1, 1, none⟩) (ao := ao) (n := k) (c := c) (by kernel_rfl) (by kernel_rfl) rfl (by kernel_rfl) rfl (cell_of_heap (i := 1) hB4.c) hB4.fz) ?_
        generalize W4.setCell ⟨W2.heap.size + 1, 1, none⟩ (.slice (some ⟨g4, 0, none⟩) (k + 1) q4) = Z at *
        have HFIN := Lib.hid hfin
        clear hfin hrw hrun hB4 hg4 ho4 hw4 hro hv3 hg10
        refine hKK _ _ ?_
        refine wp_frame (⟨List.toArray ((Value.agg #[Value.string { data := #[] }, Value.slice (some { block := b, off := 0 }) ps.length cap]) :: (str x) :: (Value.agg #[str (atomX by'), Value.slice aob (partsX by').length capb]) :: (Value.pointer (some { block := W.heap.size, off := 0 })) :: (undef) :: (Value.pointer (some { block := W.heap.size + 1, off := 0 })) :: (Value.pointer (some { block := W.heap.size + 1 + 1, off := 0 })) :: (Value.pointer (some { block := W2.heap.size + 1, off := 0 })) :: (Value.int IntKind.i64 ↑k) :: (Value.pointer (some { block := W.heap.size, off := 0 })) :: (Value.string { data := #[] }) :: (Value.bool false) :: (undef) :: (undef) :: (undef) :: (undef) :: (undef) :: (undef) :: (Value.agg #[Value.string { data := #[] }, Value.slice (some { block := b, off := 0 }) ps.length cap]) :: (str hw) :: (Value.bool false) :: (Value.bool false) :: (undef) :: (undef) :: (undef) :: (undef) :: (undef) :: (undef) :: (undef) :: (Value.bool false) :: (undef) :: (Value.pointer (some { block := W.heap.size, off := 1 })) :: (Value.slice (some { block := b, off := 0 }) ps.length cap) :: (Value.pointer (some { block := b, off := 0 })) :: (Value.agg #[str (atomX p0), Value.slice a0 (partsX p0).length k0]) :: (Value.slice (some { block := W2.heap.size, off := 0 }) 1 1) :: (Value.agg #[Value.string { data := #[] }, Value.slice (some { block := W2.heap.size, off := 0 }) 1 1]) :: (Value.int IntKind.i64 ↑k) :: (Value.pointer (some { block := W.heap.size, off := 1 })) :: (Value.slice (some { block := b, off := 0 }) ps.length cap) :: (Value.int IntKind.i64 ↑ps.length) :: (Value.bool true) :: (u42) :: (u43) :: (Value.int IntKind.i64 ↑k) :: (Value.bool false) :: (Value.bool false) :: (undef) :: (undef) :: (undef) :: (Value.bool false) :: (u51) :: (u52) :: (u53) :: (u54) :: (u55) :: (u56) :: (u57) :: (u58) :: (u59) :: (u60) :: (vs 0) :: (vs 1) :: (vs 2) :: (vs 3) :: (vs 4) :: (vs 5) :: (vs 6) :: (vs 7) :: (vs 8) :: (vs 9) :: (vs 10) :: (.slice (some ⟨g4, 0, none⟩) (k + 1) q4) :: (.pointer (some ⟨W2.heap.size + 1, 1, none⟩)) :: (undef) :: []), []⟩ : Act) (by kernel_rfl) ?_
        clear hd hB e10 e1
        generalize vs 0 = y0 at *
        generalize vs 1 = y1 at *
        generalize vs 2 = y2 at *
        generalize vs 3 = y3 at *
        generalize vs 4 = y4 at *
        generalize vs 5 = y5 at *
        generalize vs 6 = y6 at *
        generalize vs 7 = y7 at *
        generalize vs 8 = y8 at *
        generalize vs 9 = y9 at *
        generalize vs 10 = y10 at *
        go_wp2_with fail
        go_roundw
        case rel =>
          obtain ⟨hA9, hq9, g9, c9, xs9, e9, hr9, hn9⟩ := HFIN.out
          rw [← HTK.out] at hr9 e9
          have hl9 : (qs.take (k + 1)).length = k + 1 := by rw [List.length_take, HQL.out]; have := HLT.out; omega
          rw [hl9] at e9
          refine ⟨k + 1, some ⟨g4, 0, none⟩, q4, xs9, by go_num, by omega, by have := HLT.out; omega, hA9, hq9, hr9, ?_⟩
          show ∀ g, _
          intro g hg
          have e : g4 = g := by simpa [Value.ownBlock] using hg
          have e2 : g4 = g9 := by injection e9 with e9; injection e9 with e9; injection e9
          rw [← e, e2]
          exact hn9
        case measure => have := HLT.out; simp [intOf]; omega
    · obtain rfl : k = ps.length := by omega
      have hR := HR.out
      rw [List.take_of_length_le (by rw [HQL.out]; exact Nat.le_refl _)] at hR
      have hq := HQ.out
      have f0 : wr.cell? ⟨W2.heap.size + 1, 0, none⟩ = some (.string ⟨#[]⟩) := cell_of_heap (i := 0) hq
      have f1 : wr.cell? ⟨W2.heap.size + 1, 1, none⟩ = some (.slice ao ps.length c) := cell_of_heap (i := 1) hq
      have hxr : X.heap[W.heap.size + 1 + 1]? = some (.cells #[.string ⟨#[]⟩, .slice none 0 0] 35 (0, 0)) := by
        have h := heap_new' ((W.alloc (.cells #[.string ⟨#[]⟩, .slice (some ⟨b, 0, none⟩) ps.length cap] 35)).alloc (.cells #[str (atomX by'), .slice aob (partsX by').length capb] 35)) (.cells #[.string ⟨#[]⟩, .slice none 0 0] 35)
        rw [show ((W.alloc (.cells #[.string ⟨#[]⟩, .slice (some ⟨b, 0, none⟩) ps.length cap] 35)).alloc (.cells #[str (atomX by'), .slice aob (partsX by').length capb] 35)).heap.size = W.heap.size + 1 + 1 by simp] at h
        rw [HX.out]
        exact h
      have hr := hA.heap hxr
      have r0 : wr.cell? ⟨W.heap.size + 1 + 1, 0, none⟩ = some (.string ⟨#[]⟩) := cell_of_heap (i := 0) hr
      have r1 : wr.cell? ⟨W.heap.size + 1 + 1, 1, none⟩ = some (.slice none 0 0) := cell_of_heap (i := 1) hr
      have hz : wr.frozen? ⟨W.heap.size + 1 + 1, 0, none⟩ = false := by simp [World.frozen?, hr]
      have hz1 : wr.frozen? ⟨W.heap.size + 1 + 1, 1, none⟩ = false := by simp [World.frozen?, hr]
      have hZ := two_set hr (.string ⟨#[]⟩) (.slice ao ps.length c)
      have HZ := Lib.hid hZ
      have HRR := Lib.hid hR
      clear hR hq hr hxr hA hZ
      go_wp2_with fail
      generalize (wr.setCell ⟨W.heap.size + 1 + 1, 0, none⟩ (.string ⟨#[]⟩)).setCell ⟨W.heap.size + 1 + 1, 1, none⟩ (.slice ao ps.length c) = Z at *
      obtain ⟨hg, hzh⟩ := HZ.out
      have z0 : Z.cell? ⟨W.heap.size + 1 + 1, 0, none⟩ = some (.string ⟨#[]⟩) := cell_of_heap (i := 0) hzh
      have z1 : Z.cell? ⟨W.heap.size + 1 + 1, 1, none⟩ = some (.slice ao ps.length c) := cell_of_heap (i := 1) hzh
      have hs := HXS.out
      have hws := HW.out.size
      have hA := HA.out
      have has := hA.size
      have hAZ : After W Z := after_but (HXA.out.trans hA) hg (by omega)
      have hn := HRR.out.node (by rw [HQL.out]; exact hq0) (by have := HA2.out.size; omega)
      have hn2 := hn.keep (w' := Z) (S' := W.heap.size) (E' := Z.heap.size) (by omega) hg.size fun j hj => hg.block j (by omega) (fun e => by injection e with e; omega)
      exact bodyPost_ret (v := .agg #[.string ⟨#[]⟩, .slice ao ps.length c]) (by simp [results, Tryz.results51, go_sem, z0, z1]) rfl ⟨[], ao, ps.length, c, rfl, hAZ, hn2⟩

theorem s_put_true (x : List UInt8) (by' : SX) (d : Nat) (ih : SPutJ x by' d) (ps : List SX) (w W : World) (v vb : Value) (h : SV w 0 (.node ps) v) (hb : SV w 0 by' vb) (hg : GoodX (.node ps)) (hgb : GoodX by') (hwk : ∀ p ∈ ps, Fm.wOk d p) (hq0 : 0 < ps.length) (hW : After w W)
    (hx : headX (.node ps) = Fm.wAll ∨ headX (.node ps) = Fm.wEx) (h1 : 1 < ps.length) (hnx : atomX ps[1] ≠ x) :
    Calls Tryz.prog 51 #[v, str x, vb] W (SPPost w.heap.size W (.node (ps.mapIdx (Fm.sputAt (Fm.sput x by' d) true)))) := by
  obtain ⟨b, cap, rfl, hp⟩ := h.part
  obtain ⟨svb, rfl, hkb⟩ := hb.kids (fun ps e => by subst e; have := hgb.1; simp only [Fm.sxOk] at this; exact this.1)
  obtain ⟨aob, capb, rfl⟩ := hkb.form
  have hqn : ps.length ≤ 1000000000 := by
    have h1 := Fm.sxTexts_len ps
    have h2 := hg.2
    simp only [Fm.sxText, List.length_cons] at h2
    omega
  obtain ⟨qs, hqs⟩ : ∃ qs, qs = ps.mapIdx (Fm.sputAt (Fm.sput x by' d) true) := ⟨_, rfl⟩
  have hql : qs.length = ps.length := by rw [hqs]; simp
  have hq1 : qs.take 1 = [ps[0]] := by
    rw [hqs]
    obtain ⟨p, r, rfl⟩ := List.exists_cons_of_length_pos hq0
    simp [List.mapIdx_cons, Fm.sputAt]
  have hqk : ∀ k (hk : k < ps.length), 1 ≤ k → 3 ≤ k → qs.take (k + 1) = qs.take k ++ [Fm.sput x by' d ps[k]] := fun k hk h1 h3 => by
    rw [List.take_succ_eq_append_getElem (by omega)]
    subst hqs
    simp only [List.getElem_mapIdx, Fm.sputAt]
    rw [if_neg (by omega), if_neg (by omega)]
  have hqc : ∀ k (hk : k < ps.length), 1 ≤ k → k < 3 → qs.take (k + 1) = qs.take k ++ [ps[k]] := fun k hk h1 h3 => by
    rw [List.take_succ_eq_append_getElem (by omega)]
    subst hqs
    simp only [List.getElem_mapIdx, Fm.sputAt]
    rw [if_neg (show ¬ k = 0 by omega)]
    simp [h3]
  have HQC := Lib.hid hqc
  obtain ⟨aon, cn, hcn, _⟩ := hp 1 h1
  have hnb : (atomX ps[1] == x) = false := beq_eq_false_iff_ne.2 hnx
  rw [← hqs]
  have HQL := Lib.hid hql
  have HQK := Lib.hid hqk
  have HQ1 := Lib.hid hq1
  clear hq1 hqk hqs hql hqc hnx
  obtain ⟨X, hX⟩ : ∃ X, X = ((W.alloc (.cells #[.string ⟨#[]⟩, .slice (some ⟨b, 0, none⟩) ps.length cap] 35)).alloc (.cells #[str (atomX by'), .slice aob (partsX by').length capb] 35)).alloc (.cells #[.string ⟨#[]⟩, .slice none 0 0] 35) := ⟨_, rfl⟩
  have hXA : After W X := by rw [hX]; exact ((After.new _ _).alloc _).alloc _
  have hXs : X.heap.size = W.heap.size + 3 := by rw [hX]; simp
  have hX0 : X.heap[W.heap.size]? = some (.cells #[.string ⟨#[]⟩, .slice (some ⟨b, 0, none⟩) ps.length cap] 35 (0, 0)) := by
    rw [hX, (below_new _ _).block W.heap.size (by simp; omega)]
    exact heap_below2 _ _ _
  have hX1 : X.heap[W.heap.size + 1]? = some (.cells #[str (atomX by'), .slice aob (partsX by').length capb] 35 (0, 0)) := by
    rw [hX, (below_new _ _).block (W.heap.size + 1) (by simp)]
    exact heap_top2 _ _ _
  have hhead := fun V (hV : After X V) => s_head V 0 (.node ps) _ (h.after ((hW.trans hXA).trans hV)) hg.1
  have hbd := fun V => s_binds V (headX (.node ps))
  rw [decide_eq_true hx] at hbd
  have hh0 := hhead X (After.refl _)
  have c0 : X.cell? ⟨W.heap.size, 0, none⟩ = some (.string ⟨#[]⟩) := cell_of_heap (i := 0) hX0
  have c1 : X.cell? ⟨W.heap.size, 1, none⟩ = some (.slice (some ⟨b, 0, none⟩) ps.length cap) := cell_of_heap (i := 1) hX0
  generalize headX (.node ps) = hw at *
  obtain ⟨a0, k0, hc0, hs0⟩ := hp 0 hq0
  generalize ps[0] = p0 at *
  generalize ps[1] = p1 at *
  have HHEAD := Lib.hid hhead
  have HXA := Lib.hid hXA
  have HXS := Lib.hid hXs
  have HX0 := Lib.hid hX0
  have HX1 := Lib.hid hX1
  have HX := Lib.hid hX
  have HW := Lib.hid hW
  have HC0 := Lib.hid hc0
  have HS0 := Lib.hid hs0
  have HPP := Lib.hid hp
  have HB := Lib.hid hb
  have HH := Lib.hid h
  have HG := Lib.hid hg
  have HGB := Lib.hid hgb
  have HWK := Lib.hid hwk
  have HIH := Lib.hid ih
  have HCN := Lib.hid hcn
  clear hhead hXA hXs hX0 hX1 hW hc0 hs0 hp hb h hg hgb hwk ih hkb hx hcn
  go_enter Tryz.func51, Tryz.ntmps51
  clear hX
  go_wp2_with fail
  rw [← HX.out]
  refine hh0.mono ?_
  rintro e W2 ⟨rfl, ha2⟩
  have HA2 := Lib.hid ha2
  clear hh0 c0 c1 ha2
  go_wp2_with fail
  refine (hbd _).mono ?_
  rintro e w3 ⟨rfl, rfl⟩
  have d1 : W2.cell? ⟨W.heap.size, 1, none⟩ = some (.slice (some ⟨b, 0, none⟩) ps.length cap) := cell_of_heap (i := 1) (HA2.out.heap HX0.out)
  have e0 := (HC0.out W2 ((HW.out.trans HXA.out).trans HA2.out)).1
  have e1 := (HC0.out W2 ((HW.out.trans HXA.out).trans HA2.out)).2
  have hpi : (0 : Int) < (ps.length : Int) := by omega
  have hpn : 0 < ps.length := hq0
  have f1 : W2.cell? ⟨b, 2, none⟩ = some (str (atomX p1)) := (HCN.out W2 ((HW.out.trans HXA.out).trans HA2.out)).1
  have hpi1 : (1 : Int) < (ps.length : Int) := by omega
  go_wp2_with fail
  obtain ⟨Y, hY⟩ : ∃ Y, Y = (W2.alloc (.cells #[str (atomX p0), .slice a0 (partsX p0).length k0] 35)).alloc (.cells #[.string ⟨#[]⟩, .slice (some ⟨W2.heap.size, 0, none⟩) 1 1] 35) := ⟨_, rfl⟩
  have hYA : After X Y := by rw [hY]; exact (HA2.out.alloc _).alloc _
  have hYq : Y.heap[W2.heap.size + 1]? = some (.cells #[.string ⟨#[]⟩, .slice (some ⟨W2.heap.size, 0, none⟩) 1 1] 35 (0, 0)) := by rw [hY]; exact heap_top2 _ _ _
  have hWY : After w Y := (HW.out.trans HXA.out).trans hYA
  have hrow : RowP Y w.heap.size X.heap.size (W2.heap.size + 2) (.slice (some ⟨W2.heap.size, 0, none⟩) 1 1) [p0] [str (atomX p0), .slice a0 (partsX p0).length k0] := by
    refine ⟨?_, fun j hj => ?_⟩
    · have := World.ownsRow_lit (base := X.heap.size) (e := 35) (size := 2) W2 #[str (atomX p0), .slice a0 (partsX p0).length k0] 1 HA2.out.size (by decide) (by simp)
      rw [hY]
      exact World.ownsRow.alloc this _
    · obtain rfl : j = 0 := by simp at hj; omega
      exact ⟨W2.heap.size + 2, 0, Nat.le_refl _, Nat.zero_le _, fun g hg => Or.inl (by simp [Value.ownBlock] at hg; omega), _, _, rfl, rfl, HS0.out.old hWY _ _⟩
  rw [← hY]
  rw [← HQ1.out] at hrow
  have HYA := Lib.hid hYA
  have HYQ := Lib.hid hYq
  have HROW := Lib.hid hrow
  clear hYA hYq hrow hY hWY d1 e0 e1 f1 hpi1
  go_loopw [8] (fun i wr => ∃ (k : Nat) (ao : Option Addr) (c : Nat) (xs : List Value), i = .int .i64 k ∧ 1 ≤ k ∧ k ≤ ps.length ∧ After X wr ∧ Hid (wr.heap[W2.heap.size + 1]? = some (.cells #[.string ⟨#[]⟩, .slice ao k c] 35 (0, 0))) ∧ Hid (RowP wr w.heap.size X.heap.size (W2.heap.size + 2) (.slice ao k c) (qs.take k) xs) ∧ Hid (∀ g, (Value.slice ao k c).ownBlock = some g → g ≠ W2.heap.size + 1)) (fun i _ => ps.length - (intOf i).toNat)
  case atStart => exact ⟨1, _, _, _, rfl, Nat.le_refl _, hq0, HYA.out, HYQ, HROW, Lib.hid (fun g hg => by simp [Value.ownBlock] at hg; omega)⟩
  case round =>
    obtain ⟨k, ao, c, xs, rfl, hk1, hk, hA, HQ, HR, HNE⟩ := hrel
    have HA := Lib.hid hA
    have d1 : wr.cell? ⟨W.heap.size, 1, none⟩ = some (.slice (some ⟨b, 0, none⟩) ps.length cap) := cell_of_heap (i := 1) (hA.heap HX0.out)
    have d0 : wr.cell? ⟨W.heap.size, 0, none⟩ = some (.string ⟨#[]⟩) := cell_of_heap (i := 0) (hA.heap HX0.out)
    by_cases hlt : k < ps.length
    · have hlti : (k : Int) < (ps.length : Int) := by omega
      obtain ⟨ao1, c1, hc1, hs1⟩ := HPP.out k hlt
      have hmem := List.getElem_mem hlt
      have hwr : After w wr := (HW.out.trans HXA.out).trans hA
      have hcall := fun V (hV : After w V) => HIH.out ps[k] w V _ _ hs1 HB.out (HG.out.part hmem) HGB.out (HWK.out _ hmem) hV
      have htk := HQK.out k hlt hk1
      have htc := HQC.out k hlt hk1
      have HTC := Lib.hid htc
      have hkl : (qs.take k).length = k := by rw [List.length_take, HQL.out]; omega
      have HCE := Lib.hid hc1
      have HS1 := Lib.hid hs1
      obtain ⟨i0, hi0, hz0, hz1, hz2⟩ : ∃ i, (Tryz.prog).info? 35 = some i ∧ i.zero = some (.agg #[.string ⟨#[]⟩, .slice none 0 0]) ∧ i.size = 2 ∧ i.bytes = 40 := ⟨_, rfl, rfl, rfl, rfl⟩
      have hun : Tryz.prog.underlying 33 = some (.slice 35) := by kernel_rfl
      have HCALL := Lib.hid hcall
      have HTK := Lib.hid htk
      have HKL := Lib.hid hkl
      have HLT := Lib.hid hlt
      have HNX : Hid (w.heap.size ≤ X.heap.size) := (by show _ ≤ _; have := HW.out.size; have := HXA.out.size; omega)
      have HQX : Hid (X.heap.size ≤ W2.heap.size + 1) := (by show _ ≤ _; have := HA2.out.size; omega)
      have HQW : Hid (W2.heap.size + 1 < wr.heap.size) := (by show _ < _; exact (Array.getElem?_eq_some_iff.1 HQ.out).1)
      have HXW : Hid (X.heap.size ≤ wr.heap.size) := HA.out.size
      have HMX : Hid (k + 1 ≤ maxLen ∧ (k + 1) * 40 ≤ 140737488355328) := (by show _ ∧ _; unfold maxLen; omega)
      have HHDW := Lib.hid (HHEAD.out wr hA)
      clear hc1 hs1 hmem hwr hcall htk hkl hA htc
      generalize ps[k] = pk at *
      by_cases h3 : k < 3
      · have h3i : (k : Int) < 3 := by omega
        have hh := HHDW.out
        go_wp2_with fail
        refine hh.mono ?_
        rintro e Wb ⟨rfl, hab⟩
        have HWB := Lib.hid hab
        clear hh hab d0 d1
        go_wp2_with fail
        refine (hbd _).mono ?_
        rintro e w5 ⟨rfl, rfl⟩
        go_wp2_with fail
        have HTK := Lib.hid (HTC.out h3)
        rename_i KK hKK
        have HL : Hid (∀ y ∈ (put12L w.heap.size (W2.heap.size + 1) W.heap.size b ps.length cap k X wr (atomX pk) ao ao1 c (partsX pk).length c1 pk (qs.take k ++ [pk])), keepsU (AfterN w.heap.size) y) := put12L_keep
        refine wp_region_use_tail (m := 8) (k := 3) (f := 14) (by kernel_rfl) (by kernel_rfl) (by kernel_rfl) (by kernel_rfl) (fun _ => none) (by kernel_rfl)
          99 (fun _ => True) (After wr) (yus (put12L w.heap.size (W2.heap.size + 1) W.heap.size b ps.length cap k X wr (atomX pk) ao ao1 c (partsX pk).length c1 pk (qs.take k ++ [pk]))) trivial HWB.out.drew (lt8 ?_ ?_ ?_ ?_ ?_ ?_ ?_ ?_) ?_
        · intro vs W1 hA1 _ hd K hK
          have hB : PutB X wr (W2.heap.size + 1) (.slice ao k c) W1 := (PutB.mk HA.out (Nat.le_refl _) HQ.out).later hA1
          have hN1 : w.heap.size ≤ W1.heap.size := Nat.le_trans HNX.out (hB.a.size)
          exact du_val (by kernel_rfl) (wantedq (by kernel_rfl)) (by kernel_rfl) hA1 rfl hK
        · intro vs W1 hA1 _ hd K hK
          have hB : PutB X wr (W2.heap.size + 1) (.slice ao k c) W1 := (PutB.mk HA.out (Nat.le_refl _) HQ.out).later hA1
          have hN1 : w.heap.size ≤ W1.heap.size := Nat.le_trans HNX.out (hB.a.size)
          exact du_val (by kernel_rfl) (wantedq (by kernel_rfl)) (ruf_lds (x := .tmp 51) (u := vs 0) (by kernel_rfl) (by kernel_rfl) (hd 0 (by kernel_rfl)) (cell_of_heap (i := 1) hB.c)) hA1 rfl hK
        · intro vs W1 hA1 _ hd K hK
          have hB : PutB X wr (W2.heap.size + 1) (.slice ao k c) W1 := (PutB.mk HA.out (Nat.le_refl _) HQ.out).later hA1
          have hN1 : w.heap.size ≤ W1.heap.size := Nat.le_trans HNX.out (hB.a.size)
          exact du_val (by kernel_rfl) (wantedq (by kernel_rfl)) (by kernel_rfl) hA1 rfl hK
        · intro vs W1 hA1 _ hd K hK
          have hB : PutB X wr (W2.heap.size + 1) (.slice ao k c) W1 := (PutB.mk HA.out (Nat.le_refl _) HQ.out).later hA1
          have hN1 : w.heap.size ≤ W1.heap.size := Nat.le_trans HNX.out (hB.a.size)
          exact du_val (by kernel_rfl) (wantedq (by kernel_rfl)) (ruf_lds (x := .tmp 53) (u := vs 2) (by kernel_rfl) (by kernel_rfl) (hd 2 (by kernel_rfl)) (cell_of_heap (i := 1) (hB.a.heap HX0.out))) hA1 rfl hK
        · intro vs W1 hA1 _ hd K hK
          have hB : PutB X wr (W2.heap.size + 1) (.slice ao k c) W1 := (PutB.mk HA.out (Nat.le_refl _) HQ.out).later hA1
          have hN1 : w.heap.size ≤ W1.heap.size := Nat.le_trans HNX.out (hB.a.size)
          exact du_val (by kernel_rfl) (wantedq (by kernel_rfl)) (by kernel_rfl) hA1 rfl hK
        · intro vs W1 hA1 _ hd K hK
          have hB : PutB X wr (W2.heap.size + 1) (.slice ao k c) W1 := (PutB.mk HA.out (Nat.le_refl _) HQ.out).later hA1
          have hN1 : w.heap.size ≤ W1.heap.size := Nat.le_trans HNX.out (hB.a.size)
          exact du_val (by kernel_rfl) (wantedq (by kernel_rfl)) (rus_ix (x := .tmp 54) (y := .tmp 55) (u := vs 3) (uy := vs 4) (by kernel_rfl) (by kernel_rfl) (hd 3 (by kernel_rfl)) (by kernel_rfl) (hd 4 (by kernel_rfl)) HLT.out) hA1 rfl hK
        · intro vs W1 hA1 _ hd K hK
          have hB : PutB X wr (W2.heap.size + 1) (.slice ao k c) W1 := (PutB.mk HA.out (Nat.le_refl _) HQ.out).later hA1
          have hN1 : w.heap.size ≤ W1.heap.size := Nat.le_trans HNX.out (hB.a.size)
          have hcc := HCE.out W1 ((HW.out.trans HXA.out).trans hB.a)
          exact du_val (by kernel_rfl) (wantedq (by kernel_rfl)) (rq_tree (x := .tmp 56) (u := vs 5) (b := b) (k := k * 2) (by kernel_rfl) (by kernel_rfl) (hd 5 (by kernel_rfl)) hcc.1 hcc.2) hA1 rfl hK
        · intro vs W1 hA1 _ hd K hK
          have hB : PutB X wr (W2.heap.size + 1) (.slice ao k c) W1 := (PutB.mk HA.out (Nat.le_refl _) HQ.out).later hA1
          have hN1 : w.heap.size ≤ W1.heap.size := Nat.le_trans HNX.out (hB.a.size)
          have e6 : vs 6 = .agg #[str (atomX pk), .slice ao1 (partsX pk).length c1] := hd 6 (by kernel_rfl)
          refine du_new (by kernel_rfl) (wantedq (by kernel_rfl)) (rus_row (x := .tmp 57) (u := vs 6) (by kernel_rfl) (by kernel_rfl) e6) ⟨hA1.alloc _, fun _ h => h, fun j v _ _ _ h => yus_keep HL.out ⟨hN1, After.new W1 _⟩ j v h⟩ ⟨W1.heap.size, atomX pk, ao1, _, c1, wr.heap.size, wr.heap.size, rfl, heap_new' _ _, Nat.le_refl _, by have := hB.s; simp; omega, ?_⟩ hK
          exact HS1.out.old (((HW.out.trans HXA.out).trans hB.a).alloc _) _ _
        intro vs W1 hA1 hd
        have hB : PutB X wr (W2.heap.size + 1) (.slice ao k c) W1 := (PutB.mk HA.out (Nat.le_refl _) HQ.out).later hA1
        obtain ⟨g, s3, ao3, n3, c3, S, E, e10, hg10, hS, hE, hv3⟩ := hd 7 (by decide) (fun c hc => by cases hc)
        have e1 : vs 1 = .slice ao k c := hd 1 (by decide) (fun c hc => by cases hc)
        have hro := (HR.out.later (Nat.le_trans HNX.out HXW.out) hA1).1
        rw [HKL.out] at hro
        obtain ⟨g4, q4, W4, hrun, ho4, hg4, hw4, _⟩ := run_append_lies (P := Tryz.prog) W1 33 33 X.heap.size 35 i0 (.agg #[.string ⟨#[]⟩, .slice none 0 0]) 2 40 hun hi0 hz0 hz1 hz2 rfl (by decide) (.slice ao k c) k xs hro ⟨g, 0, none⟩ 1 1 [str s3, .slice ao3 n3 c3] rfl (World.news_of_block hg10) (by simp [Value.oneCell', str]) (by omega) HMX.out.1 HMX.out.2 hB.a.size _ rfl
        have hB4 : PutB X wr (W2.heap.size + 1) (.slice ao k c) W4 := hB.grown hg4 (fun g' hg' => ⟨(HR.out.1.lt g' hg').1, HNE.out g' hg'⟩)
        have hrw := RowP.pushIn HNX.out HQX.out HXW.out HQW.out hA1 HR.out HKL.out HNE.out hS hE hv3 ho4 hg4 hw4
        have hfin := RowIn.set hrw HNX.out HQX.out hB4.a hB4.c
        refine op_val (i := 8) (by kernel_rfl) (wantedq (by kernel_rfl)) (ru_app (s := .tmp 52) (x := .tmp 58) (v := .slice ao k c) (sv := .slice (some ⟨g, 0, none⟩) 1 1) (by kernel_rfl) (Eq.trans (by kernel_rfl) e1) (Eq.trans (by kernel_rfl) e10) hrun) ?_
        refine op_val (i := 9) (w := W4) (w' := W4) (v := .pointer (some ⟨W2.heap.size + 1, 1, none⟩)) (by kernel_rfl) (wantedq (by kernel_rfl)) (by kernel_rfl) ?_
        refine op_skip (i := 10) (by kernel_rfl) (wantedq (by kernel_rfl)) (rus_store (x := .tmp 60) (y := .tmp 59) (u := .pointer (some ⟨W2.heap.size + 1, 1, none⟩)) (uy := .slice (some ⟨g4, 0, none⟩) (k + 1) q4) (p := ⟨W2.heap.size + 1, 1, none⟩) (ao := ao) (n := k) (c := c) (by kernel_rfl) (by kernel_rfl) rfl (by kernel_rfl) rfl (cell_of_heap (i := 1) hB4.c) hB4.fz) ?_
        generalize W4.setCell ⟨W2.heap.size + 1, 1, none⟩ (.slice (some ⟨g4, 0, none⟩) (k + 1) q4) = Z at *
        have HFIN := Lib.hid hfin
        clear hfin hrw hrun hB4 hg4 ho4 hw4 hro hv3 hg10
        refine hKK _ _ ?_
        refine wp_frame (⟨List.toArray ((Value.agg #[Value.string { data := #[] }, Value.slice (some { block := b, off := 0 }) ps.length cap]) :: (str x) :: (Value.agg #[str (atomX by'), Value.slice aob (partsX by').length capb]) :: (Value.pointer (some { block := W.heap.size, off := 0 })) :: (undef) :: (Value.pointer (some { block := W.heap.size + 1, off := 0 })) :: (Value.pointer (some { block := W.heap.size + 1 + 1, off := 0 })) :: (Value.pointer (some { block := W2.heap.size + 1, off := 0 })) :: (Value.int IntKind.i64 ↑k) :: (Value.pointer (some { block := W.heap.size, off := 0 })) :: (Value.string { data := #[] }) :: (Value.bool false) :: (undef) :: (undef) :: (undef) :: (undef) :: (undef) :: (undef) :: (Value.agg #[Value.string { data := #[] }, Value.slice (some { block := b, off := 0 }) ps.length cap]) :: (str hw) :: (Value.bool true) :: (Value.bool true) :: (Value.pointer (some { block := W.heap.size, off := 1 })) :: (Value.slice (some { block := b, off := 0 }) ps.length cap) :: (Value.pointer (some { block := b, off := 2 })) :: (Value.pointer (some { block := b, off := 2 })) :: (str (atomX p1)) :: (str x) :: (Value.bool false) :: (Value.bool false) :: (undef) :: (Value.pointer (some { block := W.heap.size, off := 1 })) :: (Value.slice (some { block := b, off := 0 }) ps.length cap) :: (Value.pointer (some { block := b, off := 0 })) :: (Value.agg #[str (atomX p0), Value.slice a0 (partsX p0).length k0]) :: (Value.slice (some { block := W2.heap.size, off := 0 }) 1 1) :: (Value.agg #[Value.string { data := #[] }, Value.slice (some { block := W2.heap.size, off := 0 }) 1 1]) :: (Value.int IntKind.i64 ↑k) :: (Value.pointer (some { block := W.heap.size, off := 1 })) :: (Value.slice (some { block := b, off := 0 }) ps.length cap) :: (Value.int IntKind.i64 ↑ps.length) :: (Value.bool true) :: (u42) :: (u43) :: (Value.int IntKind.i64 ↑k) :: (Value.bool true) :: (Value.bool true) :: (Value.agg #[Value.string { data := #[] }, Value.slice (some { block := b, off := 0 }) ps.length cap]) :: (str hw) :: (Value.bool true) :: (Value.bool true) :: (vs 0) :: (vs 1) :: (vs 2) :: (vs 3) :: (vs 4) :: (vs 5) :: (vs 6) :: (vs 7) :: (.slice (some ⟨g4, 0, none⟩) (k + 1) q4) :: (.pointer (some ⟨W2.heap.size + 1, 1, none⟩)) :: (u61) :: (u62) :: (u63) :: (u64) :: (u65) :: (u66) :: (u67) :: (u68) :: (u69) :: (u70) :: (u71) :: (u72) :: (u73) :: (undef) :: []), []⟩ : Act) (by kernel_rfl) ?_
        clear hd hB e10 e1
        generalize vs 0 = y0 at *
        generalize vs 1 = y1 at *
        generalize vs 2 = y2 at *
        generalize vs 3 = y3 at *
        generalize vs 4 = y4 at *
        generalize vs 5 = y5 at *
        generalize vs 6 = y6 at *
        generalize vs 7 = y7 at *
        go_wp2_with fail
        go_roundw
        case rel =>
          obtain ⟨hA9, hq9, g9, c9, xs9, e9, hr9, hn9⟩ := HFIN.out
          rw [← HTK.out] at hr9 e9
          have hl9 : (qs.take (k + 1)).length = k + 1 := by rw [List.length_take, HQL.out]; have := HLT.out; omega
          rw [hl9] at e9
          refine ⟨k + 1, some ⟨g4, 0, none⟩, q4, xs9, by go_num, by omega, by have := HLT.out; omega, hA9, hq9, hr9, ?_⟩
          show ∀ g, _
          intro g hg
          have e : g4 = g := by simpa [Value.ownBlock] using hg
          have e2 : g4 = g9 := by injection e9 with e9; injection e9 with e9; injection e9
          rw [← e, e2]
          exact hn9
        case measure => have := HLT.out; simp [intOf]; omega
      · have h3i : ¬ (k : Int) < 3 := by omega
        have HWB : Hid (After wr wr) := After.refl wr
        have HTK := Lib.hid (HTK.out (by omega))
        clear h3
        go_wp2_with fail
        rename_i KK hKK
        have HL : Hid (∀ y ∈ (put13L w.heap.size (W2.heap.size + 1) W.heap.size b ps.length cap k X wr (atomX pk) x (atomX by') ao ao1 aob c (partsX pk).length c1 (partsX by').length capb (Fm.sput x by' d pk) (qs.take k ++ [Fm.sput x by' d pk])), keepsU (AfterN w.heap.size) y) := put13L_keep
        refine wp_region_use_tail (m := 11) (k := 3) (f := 14) (by kernel_rfl) (by kernel_rfl) (by kernel_rfl) (by kernel_rfl) (fun _ => none) (by kernel_rfl)
          99 (fun _ => True) (After wr) (yus (put13L w.heap.size (W2.heap.size + 1) W.heap.size b ps.length cap k X wr (atomX pk) x (atomX by') ao ao1 aob c (partsX pk).length c1 (partsX by').length capb (Fm.sput x by' d pk) (qs.take k ++ [Fm.sput x by' d pk]))) trivial HWB.out.drew (lt11 ?_ ?_ ?_ ?_ ?_ ?_ ?_ ?_ ?_ ?_ ?_) ?_
        · intro vs W1 hA1 _ hd K hK
          have hB : PutB X wr (W2.heap.size + 1) (.slice ao k c) W1 := (PutB.mk HA.out (Nat.le_refl _) HQ.out).later hA1
          have hN1 : w.heap.size ≤ W1.heap.size := Nat.le_trans HNX.out (hB.a.size)
          exact du_val (by kernel_rfl) (wantedq (by kernel_rfl)) (by kernel_rfl) hA1 rfl hK
        · intro vs W1 hA1 _ hd K hK
          have hB : PutB X wr (W2.heap.size + 1) (.slice ao k c) W1 := (PutB.mk HA.out (Nat.le_refl _) HQ.out).later hA1
          have hN1 : w.heap.size ≤ W1.heap.size := Nat.le_trans HNX.out (hB.a.size)
          exact du_val (by kernel_rfl) (wantedq (by kernel_rfl)) (ruf_lds (x := .tmp 61) (u := vs 0) (by kernel_rfl) (by kernel_rfl) (hd 0 (by kernel_rfl)) (cell_of_heap (i := 1) hB.c)) hA1 rfl hK
        · intro vs W1 hA1 _ hd K hK
          have hB : PutB X wr (W2.heap.size + 1) (.slice ao k c) W1 := (PutB.mk HA.out (Nat.le_refl _) HQ.out).later hA1
          have hN1 : w.heap.size ≤ W1.heap.size := Nat.le_trans HNX.out (hB.a.size)
          exact du_val (by kernel_rfl) (wantedq (by kernel_rfl)) (by kernel_rfl) hA1 rfl hK
        · intro vs W1 hA1 _ hd K hK
          have hB : PutB X wr (W2.heap.size + 1) (.slice ao k c) W1 := (PutB.mk HA.out (Nat.le_refl _) HQ.out).later hA1
          have hN1 : w.heap.size ≤ W1.heap.size := Nat.le_trans HNX.out (hB.a.size)
          exact du_val (by kernel_rfl) (wantedq (by kernel_rfl)) (ruf_lds (x := .tmp 63) (u := vs 2) (by kernel_rfl) (by kernel_rfl) (hd 2 (by kernel_rfl)) (cell_of_heap (i := 1) (hB.a.heap HX0.out))) hA1 rfl hK
        · intro vs W1 hA1 _ hd K hK
          have hB : PutB X wr (W2.heap.size + 1) (.slice ao k c) W1 := (PutB.mk HA.out (Nat.le_refl _) HQ.out).later hA1
          have hN1 : w.heap.size ≤ W1.heap.size := Nat.le_trans HNX.out (hB.a.size)
          exact du_val (by kernel_rfl) (wantedq (by kernel_rfl)) (by kernel_rfl) hA1 rfl hK
        · intro vs W1 hA1 _ hd K hK
          have hB : PutB X wr (W2.heap.size + 1) (.slice ao k c) W1 := (PutB.mk HA.out (Nat.le_refl _) HQ.out).later hA1
          have hN1 : w.heap.size ≤ W1.heap.size := Nat.le_trans HNX.out (hB.a.size)
          exact du_val (by kernel_rfl) (wantedq (by kernel_rfl)) (rus_ix (x := .tmp 64) (y := .tmp 65) (u := vs 3) (uy := vs 4) (by kernel_rfl) (by kernel_rfl) (hd 3 (by kernel_rfl)) (by kernel_rfl) (hd 4 (by kernel_rfl)) HLT.out) hA1 rfl hK
        · intro vs W1 hA1 _ hd K hK
          have hB : PutB X wr (W2.heap.size + 1) (.slice ao k c) W1 := (PutB.mk HA.out (Nat.le_refl _) HQ.out).later hA1
          have hN1 : w.heap.size ≤ W1.heap.size := Nat.le_trans HNX.out (hB.a.size)
          have hcc := HCE.out W1 ((HW.out.trans HXA.out).trans hB.a)
          exact du_val (by kernel_rfl) (wantedq (by kernel_rfl)) (rq_tree (x := .tmp 66) (u := vs 5) (b := b) (k := k * 2) (by kernel_rfl) (by kernel_rfl) (hd 5 (by kernel_rfl)) hcc.1 hcc.2) hA1 rfl hK
        · intro vs W1 hA1 _ hd K hK
          have hB : PutB X wr (W2.heap.size + 1) (.slice ao k c) W1 := (PutB.mk HA.out (Nat.le_refl _) HQ.out).later hA1
          have hN1 : w.heap.size ≤ W1.heap.size := Nat.le_trans HNX.out (hB.a.size)
          exact du_val (by kernel_rfl) (wantedq (by kernel_rfl)) (by kernel_rfl) hA1 rfl hK
        · intro vs W1 hA1 _ hd K hK
          have hB : PutB X wr (W2.heap.size + 1) (.slice ao k c) W1 := (PutB.mk HA.out (Nat.le_refl _) HQ.out).later hA1
          have hN1 : w.heap.size ≤ W1.heap.size := Nat.le_trans HNX.out (hB.a.size)
          exact du_val (by kernel_rfl) (wantedq (by kernel_rfl)) (rq_tree (x := .tmp 5) (u := .pointer (some ⟨W.heap.size + 1, 0, none⟩)) (b := W.heap.size + 1) (k := 0) (by kernel_rfl) (by kernel_rfl) rfl (cell_of_heap (i := 0) (hB.a.heap HX1.out)) (cell_of_heap (i := 1) (hB.a.heap HX1.out))) hA1 rfl hK
        · intro vs W1 hA1 _ hd K hK
          have hB : PutB X wr (W2.heap.size + 1) (.slice ao k c) W1 := (PutB.mk HA.out (Nat.le_refl _) HQ.out).later hA1
          have hN1 : w.heap.size ≤ W1.heap.size := Nat.le_trans HNX.out (hB.a.size)
          have e6 : vs 6 = .agg #[str (atomX pk), .slice ao1 (partsX pk).length c1] := hd 6 (by kernel_rfl)
          have e7 : vs 7 = str x := hd 7 (by kernel_rfl)
          have e8 : vs 8 = .agg #[str (atomX by'), .slice aob (partsX by').length capb] := hd 8 (by kernel_rfl)
          refine op_call (f := 51) (args := #[vs 6, vs 7, vs 8]) (by kernel_rfl) (wantedq (by kernel_rfl)) (by kernel_rfl) ?_
          rw [e6, e7, e8]
          refine (HCALL.out W1 ((HW.out.trans HXA.out).trans hB.a)).mono ?_
          rintro e W3 ⟨s3, ao3, n3, c3, rfl, ha3, hv3⟩
          exact ⟨_, rfl, hK _ _ ⟨hA1.trans ha3, fun _ h => h, fun j v _ _ _ h => yus_keep HL.out ⟨hN1, ha3⟩ j v h⟩ ⟨s3, ao3, n3, c3, W1.heap.size, W3.heap.size, rfl, hB.s, Nat.le_refl _, hv3⟩⟩
        · intro vs W1 hA1 _ hd K hK
          have hB : PutB X wr (W2.heap.size + 1) (.slice ao k c) W1 := (PutB.mk HA.out (Nat.le_refl _) HQ.out).later hA1
          have hN1 : w.heap.size ≤ W1.heap.size := Nat.le_trans HNX.out (hB.a.size)
          obtain ⟨s3, ao3, n3, c3, S, E, e9, hS, hE, hv3⟩ := hd 9 (by kernel_rfl)
          refine du_new (by kernel_rfl) (wantedq (by kernel_rfl)) (rus_row (x := .tmp 70) (u := vs 9) (by kernel_rfl) (by kernel_rfl) e9) ⟨hA1.alloc _, fun _ h => h, fun j v _ _ _ h => yus_keep HL.out ⟨hN1, After.new W1 _⟩ j v h⟩ ⟨W1.heap.size, s3, ao3, n3, c3, S, E, rfl, heap_new' _ _, hS, by simp; omega, ?_⟩ hK
          rw [e9] at hv3
          exact hv3.keep (Nat.le_refl _) (Nat.le_refl _) fun j hj => (After.new W1 _).block j (by omega)
        intro vs W1 hA1 hd
        have hB : PutB X wr (W2.heap.size + 1) (.slice ao k c) W1 := (PutB.mk HA.out (Nat.le_refl _) HQ.out).later hA1
        obtain ⟨g, s3, ao3, n3, c3, S, E, e10, hg10, hS, hE, hv3⟩ := hd 10 (by decide) (fun c hc => by cases hc)
        have e1 : vs 1 = .slice ao k c := hd 1 (by decide) (fun c hc => by cases hc)
        have hro := (HR.out.later (Nat.le_trans HNX.out HXW.out) hA1).1
        rw [HKL.out] at hro
        obtain ⟨g4, q4, W4, hrun, ho4, hg4, hw4, _⟩ := run_append_lies (P := Tryz.prog) W1 33 33 X.heap.size 35 i0 (.agg #[.string ⟨#[]⟩, .slice none 0 0]) 2 40 hun hi0 hz0 hz1 hz2 rfl (by decide) (.slice ao k c) k xs hro ⟨g, 0, none⟩ 1 1 [str s3, .slice ao3 n3 c3] rfl (World.news_of_block hg10) (by simp [Value.oneCell', str]) (by omega) HMX.out.1 HMX.out.2 hB.a.size _ rfl
        have hB4 : PutB X wr (W2.heap.size + 1) (.slice ao k c) W4 := hB.grown hg4 (fun g' hg' => ⟨(HR.out.1.lt g' hg').1, HNE.out g' hg'⟩)
        have hrw := RowP.pushIn HNX.out HQX.out HXW.out HQW.out hA1 HR.out HKL.out HNE.out hS hE hv3 ho4 hg4 hw4
        have hfin := RowIn.set hrw HNX.out HQX.out hB4.a hB4.c
        refine op_val (i := 11) (by kernel_rfl) (wantedq (by kernel_rfl)) (ru_app (s := .tmp 62) (x := .tmp 71) (v := .slice ao k c) (sv := .slice (some ⟨g, 0, none⟩) 1 1) (by kernel_rfl) (Eq.trans (by kernel_rfl) e1) (Eq.trans (by kernel_rfl) e10) hrun) ?_
        refine op_val (i := 12) (w := W4) (w' := W4) (v := .pointer (some ⟨W2.heap.size + 1, 1, none⟩)) (by kernel_rfl) (wantedq (by kernel_rfl)) (by kernel_rfl) ?_
        refine op_skip (i := 13) (by kernel_rfl) (wantedq (by kernel_rfl)) (rus_store (x := .tmp 73) (y := .tmp 72) (u := .pointer (some ⟨W2.heap.size + 1, 1, none⟩)) (uy := .slice (some ⟨g4, 0, none⟩) (k + 1) q4) (p := ⟨W2.heap.size + 1, 1, none⟩) (ao := ao) (n := k) (c := c) (by kernel_rfl) (by kernel_rfl) rfl (by kernel_rfl) rfl (cell_of_heap (i := 1) hB4.c) hB4.fz) ?_
        generalize W4.setCell ⟨W2.heap.size + 1, 1, none⟩ (.slice (some ⟨g4, 0, none⟩) (k + 1) q4) = Z at *
        have HFIN := Lib.hid hfin
        clear hfin hrw hrun hB4 hg4 ho4 hw4 hro hv3 hg10
        refine hKK _ _ ?_
        refine wp_frame (⟨List.toArray ((Value.agg #[Value.string { data := #[] }, Value.slice (some { block := b, off := 0 }) ps.length cap]) :: (str x) :: (Value.agg #[str (atomX by'), Value.slice aob (partsX by').length capb]) :: (Value.pointer (some { block := W.heap.size, off := 0 })) :: (undef) :: (Value.pointer (some { block := W.heap.size + 1, off := 0 })) :: (Value.pointer (some { block := W.heap.size + 1 + 1, off := 0 })) :: (Value.pointer (some { block := W2.heap.size + 1, off := 0 })) :: (Value.int IntKind.i64 ↑k) :: (Value.pointer (some { block := W.heap.size, off := 0 })) :: (Value.string { data := #[] }) :: (Value.bool false) :: (undef) :: (undef) :: (undef) :: (undef) :: (undef) :: (undef) :: (Value.agg #[Value.string { data := #[] }, Value.slice (some { block := b, off := 0 }) ps.length cap]) :: (str hw) :: (Value.bool true) :: (Value.bool true) :: (Value.pointer (some { block := W.heap.size, off := 1 })) :: (Value.slice (some { block := b, off := 0 }) ps.length cap) :: (Value.pointer (some { block := b, off := 2 })) :: (Value.pointer (some { block := b, off := 2 })) :: (str (atomX p1)) :: (str x) :: (Value.bool false) :: (Value.bool false) :: (undef) :: (Value.pointer (some { block := W.heap.size, off := 1 })) :: (Value.slice (some { block := b, off := 0 }) ps.length cap) :: (Value.pointer (some { block := b, off := 0 })) :: (Value.agg #[str (atomX p0), Value.slice a0 (partsX p0).length k0]) :: (Value.slice (some { block := W2.heap.size, off := 0 }) 1 1) :: (Value.agg #[Value.string { data := #[] }, Value.slice (some { block := W2.heap.size, off := 0 }) 1 1]) :: (Value.int IntKind.i64 ↑k) :: (Value.pointer (some { block := W.heap.size, off := 1 })) :: (Value.slice (some { block := b, off := 0 }) ps.length cap) :: (Value.int IntKind.i64 ↑ps.length) :: (Value.bool true) :: (u42) :: (u43) :: (Value.int IntKind.i64 ↑k) :: (Value.bool false) :: (Value.bool false) :: (undef) :: (undef) :: (undef) :: (Value.bool false) :: (u51) :: (u52) :: (u53) :: (u54) :: (u55) :: (u56) :: (u57) :: (u58) :: (u59) :: (u60) :: (vs 0) :: (vs 1) :: (vs 2) :: (vs 3) :: (vs 4) :: (vs 5) :: (vs 6) :: (vs 7) :: (vs 8) :: (vs 9) :: (vs 10) :: (.slice (some ⟨g4, 0, none⟩) (k + 1) q4) :: (.pointer (some ⟨W2.heap.size + 1, 1, none⟩)) :: (undef) :: []), []⟩ : Act) (by kernel_rfl) ?_
        clear hd hB e10 e1
        generalize vs 0 = y0 at *
        generalize vs 1 = y1 at *
        generalize vs 2 = y2 at *
        generalize vs 3 = y3 at *
        generalize vs 4 = y4 at *
        generalize vs 5 = y5 at *
        generalize vs 6 = y6 at *
        generalize vs 7 = y7 at *
        generalize vs 8 = y8 at *
        generalize vs 9 = y9 at *
        generalize vs 10 = y10 at *
        go_wp2_with fail
        go_roundw
        case rel =>
          obtain ⟨hA9, hq9, g9, c9, xs9, e9, hr9, hn9⟩ := HFIN.out
          rw [← HTK.out] at hr9 e9
          have hl9 : (qs.take (k + 1)).length = k + 1 := by rw [List.length_take, HQL.out]; have := HLT.out; omega
          rw [hl9] at e9
          refine ⟨k + 1, some ⟨g4, 0, none⟩, q4, xs9, by go_num, by omega, by have := HLT.out; omega, hA9, hq9, hr9, ?_⟩
          show ∀ g, _
          intro g hg
          have e : g4 = g := by simpa [Value.ownBlock] using hg
          have e2 : g4 = g9 := by injection e9 with e9; injection e9 with e9; injection e9
          rw [← e, e2]
          exact hn9
        case measure => have := HLT.out; simp [intOf]; omega
    · obtain rfl : k = ps.length := by omega
      have hR := HR.out
      rw [List.take_of_length_le (by rw [HQL.out]; exact Nat.le_refl _)] at hR
      have hq := HQ.out
      have f0 : wr.cell? ⟨W2.heap.size + 1, 0, none⟩ = some (.string ⟨#[]⟩) := cell_of_heap (i := 0) hq
      have f1 : wr.cell? ⟨W2.heap.size + 1, 1, none⟩ = some (.slice ao ps.length c) := cell_of_heap (i := 1) hq
      have hxr : X.heap[W.heap.size + 1 + 1]? = some (.cells #[.string ⟨#[]⟩, .slice none 0 0] 35 (0, 0)) := by
        have h := heap_new' ((W.alloc (.cells #[.string ⟨#[]⟩, .slice (some ⟨b, 0, none⟩) ps.length cap] 35)).alloc (.cells #[str (atomX by'), .slice aob (partsX by').length capb] 35)) (.cells #[.string ⟨#[]⟩, .slice none 0 0] 35)
        rw [show ((W.alloc (.cells #[.string ⟨#[]⟩, .slice (some ⟨b, 0, none⟩) ps.length cap] 35)).alloc (.cells #[str (atomX by'), .slice aob (partsX by').length capb] 35)).heap.size = W.heap.size + 1 + 1 by simp] at h
        rw [HX.out]
        exact h
      have hr := hA.heap hxr
      have r0 : wr.cell? ⟨W.heap.size + 1 + 1, 0, none⟩ = some (.string ⟨#[]⟩) := cell_of_heap (i := 0) hr
      have r1 : wr.cell? ⟨W.heap.size + 1 + 1, 1, none⟩ = some (.slice none 0 0) := cell_of_heap (i := 1) hr
      have hz : wr.frozen? ⟨W.heap.size + 1 + 1, 0, none⟩ = false := by simp [World.frozen?, hr]
      have hz1 : wr.frozen? ⟨W.heap.size + 1 + 1, 1, none⟩ = false := by simp [World.frozen?, hr]
      have hZ := two_set hr (.string ⟨#[]⟩) (.slice ao ps.length c)
      have HZ := Lib.hid hZ
      have HRR := Lib.hid hR
      clear hR hq hr hxr hA hZ
      go_wp2_with fail
      generalize (wr.setCell ⟨W.heap.size + 1 + 1, 0, none⟩ (.string ⟨#[]⟩)).setCell ⟨W.heap.size + 1 + 1, 1, none⟩ (.slice ao ps.length c) = Z at *
      obtain ⟨hg, hzh⟩ := HZ.out
      have z0 : Z.cell? ⟨W.heap.size + 1 + 1, 0, none⟩ = some (.string ⟨#[]⟩) := cell_of_heap (i := 0) hzh
      have z1 : Z.cell? ⟨W.heap.size + 1 + 1, 1, none⟩ = some (.slice ao ps.length c) := cell_of_heap (i := 1) hzh
      have hs := HXS.out
      have hws := HW.out.size
      have hA := HA.out
      have has := hA.size
      have hAZ : After W Z := after_but (HXA.out.trans hA) hg (by omega)
      have hn := HRR.out.node (by rw [HQL.out]; exact hq0) (by have := HA2.out.size; omega)
      have hn2 := hn.keep (w' := Z) (S' := W.heap.size) (E' := Z.heap.size) (by omega) hg.size fun j hj => hg.block j (by omega) (fun e => by injection e with e; omega)
      exact bodyPost_ret (v := .agg #[.string ⟨#[]⟩, .slice ao ps.length c]) (by simp [results, Tryz.results51, go_sem, z0, z1]) rfl ⟨[], ao, ps.length, c, rfl, hAZ, hn2⟩
end Go.Proofs.YtdjoafnohkmneaaGreatDoor

namespace Go.Proofs.YtdjoafnohkmneaaGreatDoor
open Go.RowKit

set_option maxHeartbeats 4000000
set_option maxRecDepth 100000

/-- A node that binds the name: the tree itself. -/
theorem s_put_same (x : List UInt8) (by' : SX) (ps : List SX) (w W : World) (v vb : Value) (h : SV w 0 (.node ps) v) (hb : SV w 0 by' vb) (hg : GoodX (.node ps)) (hgb : GoodX by') (hW : After w W)
    (hx : headX (.node ps) = Fm.wAll ∨ headX (.node ps) = Fm.wEx) (h1 : 1 < ps.length) (hnx : atomX ps[1] = x) :
    Calls Tryz.prog 51 #[v, str x, vb] W (SPPost w.heap.size W (.node ps)) := by
  have hold := fun (Z : World) (hZ : After w Z) => SV.old h hZ W.heap.size Z.heap.size
  obtain ⟨b, cap, rfl, hp⟩ := h.part
  obtain ⟨svb, rfl, hkb⟩ := hb.kids (fun ps e => by subst e; have := hgb.1; simp only [Fm.sxOk] at this; exact this.1)
  obtain ⟨aob, capb, rfl⟩ := hkb.form
  obtain ⟨aon, cn, hcn, _⟩ := hp 1 h1
  rw [hnx] at hcn
  obtain ⟨X, hX⟩ : ∃ X, X = ((W.alloc (.cells #[.string ⟨#[]⟩, .slice (some ⟨b, 0, none⟩) ps.length cap] 35)).alloc (.cells #[str (atomX by'), .slice aob (partsX by').length capb] 35)).alloc (.cells #[.string ⟨#[]⟩, .slice none 0 0] 35) := ⟨_, rfl⟩
  have hXA : After W X := by rw [hX]; exact ((After.new _ _).alloc _).alloc _
  have hXs : X.heap.size = W.heap.size + 3 := by rw [hX]; simp
  have hX0 : X.heap[W.heap.size]? = some (.cells #[.string ⟨#[]⟩, .slice (some ⟨b, 0, none⟩) ps.length cap] 35 (0, 0)) := by
    rw [hX, (below_new _ _).block W.heap.size (by simp; omega)]
    exact heap_below2 _ _ _
  have hX2 : X.heap[W.heap.size + 1 + 1]? = some (.cells #[.string ⟨#[]⟩, .slice none 0 0] 35 (0, 0)) := by
    have h := heap_new' ((W.alloc (.cells #[.string ⟨#[]⟩, .slice (some ⟨b, 0, none⟩) ps.length cap] 35)).alloc (.cells #[str (atomX by'), .slice aob (partsX by').length capb] 35)) (.cells #[.string ⟨#[]⟩, .slice none 0 0] 35)
    rw [show ((W.alloc (.cells #[.string ⟨#[]⟩, .slice (some ⟨b, 0, none⟩) ps.length cap] 35)).alloc (.cells #[str (atomX by'), .slice aob (partsX by').length capb] 35)).heap.size = W.heap.size + 1 + 1 by simp] at h
    rw [hX]
    exact h
  have hh0 := s_head X 0 (.node ps) _ (h.after (hW.trans hXA)) hg.1
  have hbd := fun V => s_binds V (headX (.node ps))
  rw [decide_eq_true hx] at hbd
  have c0 : X.cell? ⟨W.heap.size, 0, none⟩ = some (.string ⟨#[]⟩) := cell_of_heap (i := 0) hX0
  have c1 : X.cell? ⟨W.heap.size, 1, none⟩ = some (.slice (some ⟨b, 0, none⟩) ps.length cap) := cell_of_heap (i := 1) hX0
  generalize headX (.node ps) = hw at *
  have hpi1 : (1 : Int) < (ps.length : Int) := by omega
  have HXA := Lib.hid hXA
  have HXS := Lib.hid hXs
  have HX0 := Lib.hid hX0
  have HX2 := Lib.hid hX2
  have HX := Lib.hid hX
  have HW := Lib.hid hW
  have HCN := Lib.hid hcn
  have HOLD := Lib.hid hold
  clear hXA hXs hX0 hX2 hW hcn hp hb h hg hgb hkb hx hnx hold
  go_enter Tryz.func51, Tryz.ntmps51
  clear hX
  go_wp2_with fail
  rw [← HX.out]
  refine hh0.mono ?_
  rintro e W2 ⟨rfl, ha2⟩
  have HA2 := Lib.hid ha2
  clear hh0 c0 c1 ha2
  go_wp2_with fail
  refine (hbd _).mono ?_
  rintro e w3 ⟨rfl, rfl⟩
  have d0 : W2.cell? ⟨W.heap.size, 0, none⟩ = some (.string ⟨#[]⟩) := cell_of_heap (i := 0) (HA2.out.heap HX0.out)
  have d1 : W2.cell? ⟨W.heap.size, 1, none⟩ = some (.slice (some ⟨b, 0, none⟩) ps.length cap) := cell_of_heap (i := 1) (HA2.out.heap HX0.out)
  have f1 : W2.cell? ⟨b, 2, none⟩ = some (str x) := (HCN.out W2 ((HW.out.trans HXA.out).trans HA2.out)).1
  have hr := HA2.out.heap HX2.out
  have r0 : W2.cell? ⟨W.heap.size + 1 + 1, 0, none⟩ = some (.string ⟨#[]⟩) := cell_of_heap (i := 0) hr
  have r1 : W2.cell? ⟨W.heap.size + 1 + 1, 1, none⟩ = some (.slice none 0 0) := cell_of_heap (i := 1) hr
  have hz : W2.frozen? ⟨W.heap.size + 1 + 1, 0, none⟩ = false := by simp [World.frozen?, hr]
  have hz1 : W2.frozen? ⟨W.heap.size + 1 + 1, 1, none⟩ = false := by simp [World.frozen?, hr]
  have HZ := Lib.hid (two_set hr (.string ⟨#[]⟩) (.slice (some ⟨b, 0, none⟩) ps.length cap))
  clear hr
  go_wp2_with fail
  generalize (W2.setCell ⟨W.heap.size + 1 + 1, 0, none⟩ (.string ⟨#[]⟩)).setCell ⟨W.heap.size + 1 + 1, 1, none⟩ (.slice (some ⟨b, 0, none⟩) ps.length cap) = Z at *
  obtain ⟨hg, hzh⟩ := HZ.out
  have z0 : Z.cell? ⟨W.heap.size + 1 + 1, 0, none⟩ = some (.string ⟨#[]⟩) := cell_of_heap (i := 0) hzh
  have z1 : Z.cell? ⟨W.heap.size + 1 + 1, 1, none⟩ = some (.slice (some ⟨b, 0, none⟩) ps.length cap) := cell_of_heap (i := 1) hzh
  have hs := HXS.out
  have hA := HA2.out
  have hAZ : After W Z := after_but (HXA.out.trans hA) hg (by omega)
  exact bodyPost_ret (v := .agg #[.string ⟨#[]⟩, .slice (some ⟨b, 0, none⟩) ps.length cap]) (by simp [results, Tryz.results51, go_sem, z0, z1]) rfl ⟨[], _, _, _, rfl, hAZ, HOLD.out Z (HW.out.trans hAZ)⟩

theorem atomX_word (p : SX) : atomX p = Fm.wordX p := by cases p <;> rfl

theorem s_put (x : List UInt8) (by' : SX) : ∀ d, SPutJ x by' d
  | 0 => fun t w W v vb _ _ _ _ h _ => by cases t <;> exact absurd h (by simp [Fm.wOk])
  | d + 1 => by
    have ih := s_put x by' d
    intro t w W v vb hv hb hg hgb hwk hW
    cases t with
    | atom a =>
      have ha : a ≠ [] := by have := hg.1; simp only [Fm.sxOk] at this; exact this.1
      simp only [SV] at hv
      subst hv
      exact s_put_atom w W x a by' d vb ha hb hgb hW
    | node ps =>
      obtain ⟨⟨q, r, rfl, hx⟩, hall⟩ := hwk
      have hhd : headX (.node (.atom q :: r)) = q := rfl
      by_cases hq : q = Fm.wAll ∨ q = Fm.wEx
      · obtain ⟨x1, a, r', rfl⟩ := hx hq
        have hbx : Fm.bindsX (.atom q :: x1 :: .atom a :: r') = true := decide_eq_true hq
        by_cases hn : Fm.wordX x1 = x
        · rw [show Fm.sput x by' (d + 1) (.node (.atom q :: x1 :: .atom a :: r')) = .node (.atom q :: x1 :: .atom a :: r') by
            show (if _ then _ else _) = _
            rw [if_pos ⟨hbx, hn⟩]]
          exact s_put_same x by' _ w W v vb hv hb hg hgb hW hq (by simp) ((atomX_word x1).trans hn)
        · rw [show Fm.sput x by' (d + 1) (.node (.atom q :: x1 :: .atom a :: r')) = .node ((.atom q :: x1 :: .atom a :: r').mapIdx (Fm.sputAt (Fm.sput x by' d) true)) by
            show (if _ then _ else _) = _
            rw [if_neg (fun h => hn h.2), hbx]]
          exact s_put_true x by' d ih _ w W v vb hv hb hg hgb hall (by simp) hW hq (by simp) (fun e => hn ((atomX_word x1).symm.trans e))
      · have hbx : Fm.bindsX (.atom q :: r) = false := decide_eq_false hq
        rw [show Fm.sput x by' (d + 1) (.node (.atom q :: r)) = .node ((.atom q :: r).mapIdx (Fm.sputAt (Fm.sput x by' d) false)) by
            show (if _ then _ else _) = _
            rw [if_neg (fun h => by rw [hbx] at h; cases h.1), hbx]]
        exact s_put_false x by' d ih _ w W v vb hv hb hg hgb hall (by simp) hW hq
end Go.Proofs.YtdjoafnohkmneaaGreatDoor

namespace Go.Proofs.YtdjoafnohkmneaaGreatDoor
open Go.RowKit

set_option maxHeartbeats 1000000
set_option maxRecDepth 100000

namespace Tm
/-- A number of at most f digits in decimals. -/
def decs : Nat → Nat → List UInt8
  | 0, _ => []
  | f + 1, n => if n < 10 then [UInt8.ofNat (48 + n)] else decs f (n / 10) ++ [UInt8.ofNat (48 + n % 10)]
theorem decs_len (f n : Nat) : (decs f n).length ≤ f := by
  induction f generalizing n with
  | zero => simp [decs]
  | succ f ih => simp only [decs]; split; · simp
                 have := ih (n / 10); simp; omega
theorem decs_dig (f n : Nat) : (decs f n).all dig = true := by
  induction f generalizing n with
  | zero => rfl
  | succ f ih =>
    have h10 : ∀ m, m < 10 → dig (UInt8.ofNat (48 + m)) = true := by decide +kernel
    simp only [decs]
    split
    · rename_i h; simp only [List.all_cons, List.all_nil, h10 n h, Bool.and_true]
    · simp only [List.all_append, ih (n / 10), List.all_cons, List.all_nil, h10 (n % 10) (by omega), Bool.and_true]
end Tm

/-- A byte as the walk spells it. -/
theorem conv_one (W : World) (c : UInt8) : (convert 28 9 (.slice (some ⟨W.heap.size, 0, none⟩) 1 1)).run Tryz.prog (W.alloc (.cells #[.int .u8 (c.toNat : Int)] 5)) = .ok (str [c]) (W.alloc (.cells #[.int .u8 (c.toNat : Int)] 5)) := by
  have hown : Own (W.alloc (.cells #[.int .u8 (c.toNat : Int)] 5)) W.heap.size (.slice (some ⟨W.heap.size, 0, none⟩) 1 1) [c] := by
    have := World.ownsRow_lit (base := W.heap.size) (e := 5) (size := 1) W #[.int .u8 (c.toNat : Int)] 1 (Nat.le_refl _) (by decide) (by simp)
    unfold Own
    simpa [bcells] using this
  exact run_text hown (by simp)

theorem conv_later (W : World) (g : Nat) (c : UInt8) (h : W.heap[g]? = some (.cells #[.int .u8 (c.toNat : Int)] 5 (0, 0))) : (convert 28 9 (.slice (some ⟨g, 0, none⟩) 1 1)).run Tryz.prog W = .ok (str [c]) W := by
  have hlt := (Array.getElem?_eq_some_iff.1 h).1
  have hown : Own W g (.slice (some ⟨g, 0, none⟩) 1 1) [c] := by
    unfold Own
    unfold World.ownsRow
    exact ⟨by simp [bcells], Or.inr ⟨g, 1, _, rfl, Nat.le_refl _, h, by simp, by decide, rfl, by simp [bcells]⟩⟩
  exact run_text hown (by simp)

theorem dec_any : ∀ (f n : Nat) (w : World), n < 10 ^ (f + 1) → f ≤ 16 →
    Calls Tryz.prog 52 #[.int .i64 n] w fun e w' => e = .returned (str (Tm.decs (f + 1) n)) ∧ After w w' := by
  intro f
  induction f with
  | zero =>
    intro n w hn _
    have hn10 : n < 10 := by simpa using hn
    obtain ⟨c, hc⟩ : ∃ c : UInt8, c = UInt8.ofNat (48 + n) := ⟨_, rfl⟩
    have hcn : (48 + (n : Int)) = (c.toNat : Int) := by
      have : c.toNat = 48 + n := by rw [hc, UInt8.toNat_ofNat']; omega
      omega
    have hr : Tm.decs (0 + 1) n = [c] := by simp [Tm.decs, hn10, hc]
    rw [hr]
    have hconv := conv_one w c
    rw [← hcn] at hconv
    clear hr hcn hc hn
    go_enter Tryz.func52, Tryz.ntmps52
    go_wp2_with fail
    go_ret
    exact ⟨rfl, After.new _ _⟩
  | succ f ih =>
    intro n w hn hf
    by_cases hn10 : n < 10
    · obtain ⟨c, hc⟩ : ∃ c : UInt8, c = UInt8.ofNat (48 + n) := ⟨_, rfl⟩
      have hcn : (48 + (n : Int)) = (c.toNat : Int) := by
        have : c.toNat = 48 + n := by rw [hc, UInt8.toNat_ofNat']; omega
        omega
      have hr : Tm.decs (f + 1 + 1) n = [c] := by simp [Tm.decs, hn10, hc]
      rw [hr]
      have hconv := conv_one w c
      rw [← hcn] at hconv
      clear hr hcn hc hn ih
      go_enter Tryz.func52, Tryz.ntmps52
      go_wp2_with fail
      go_ret
      exact ⟨rfl, After.new _ _⟩
    · have hq : n / 10 < 10 ^ (f + 1) := by rw [Nat.pow_succ] at hn; omega
      have hbig : n < 1000000000000000000 := Nat.lt_of_lt_of_le hn (Nat.le_trans (Nat.pow_le_pow_right (by omega) (show f + 1 + 1 ≤ 18 by omega)) (by decide +kernel))
      have hcall := fun W => ih (n / 10) W hq (by omega)
      obtain ⟨c, hc⟩ : ∃ c : UInt8, c = UInt8.ofNat (48 + n % 10) := ⟨_, rfl⟩
      have hct : c.toNat = 48 + n % 10 := by rw [hc, UInt8.toNat_ofNat']; omega
      have hr : Tm.decs (f + 1 + 1) n = Tm.decs (f + 1) (n / 10) ++ [c] := by
        rw [Tm.decs, if_neg hn10, hc]
      rw [hr]
      have hlen := Tm.decs_len (f + 1) (n / 10)
      generalize Tm.decs (f + 1) (n / 10) = ds at *
      have hadd : ∀ W, (Op.stringOp .add ⟨ds.toArray⟩ ⟨[c].toArray⟩).run Tryz.prog W = .ok (str (ds ++ [c])) W := by
        have h1 : (⟨[c].toArray⟩ : ByteArray).size = 1 := rfl
        have h2 : (⟨ds.toArray⟩ : ByteArray).size = ds.length := by show ds.toArray.size = _; simp
        obtain ⟨t, hl, _, he⟩ := cat ⟨ds.toArray⟩ ⟨[c].toArray⟩ (by omega)
        have : (.string t : Value) = str (ds ++ [c]) := congrArg Value.string (ByteArray.ext (Array.ext' (by rw [hl])))
        rw [← this]; exact he
      have hself := After.refl w
      have hbig' : n < 9000000000000000000 := by omega
      obtain ⟨q, hqq⟩ : ∃ q, q = n / 10 := ⟨_, rfl⟩
      obtain ⟨d, hdd⟩ : ∃ d, d = n % 10 := ⟨_, rfl⟩
      rw [← hqq] at hcall
      have hd10 : d < 10 := by omega
      have e1 : (n : Int).tdiv 10 = (q : Int) := by rw [Int.tdiv_eq_ediv_of_nonneg (by omega)]; omega
      have e2 : (n : Int).tmod 10 = (d : Int) := by rw [Int.tmod_eq_emod_of_nonneg (by omega)]; omega
      have e3 : (n : Int) / 10 = (q : Int) := by omega
      have e4 : (n : Int) % 10 = (d : Int) := by omega
      have e5 : IntKind.i64.wrap (q : Int) = (q : Int) := IntWalk.i64_in _ (by omega)
      have e6 : IntKind.i64.wrap (d : Int) = (d : Int) := IntWalk.i64_in _ (by omega)
      have e7 : IntKind.i64.wrap (c.toNat : Int) = (c.toNat : Int) := IntWalk.i64_in _ (by omega)
      have e8 : (48 + (d : Int)) = (c.toNat : Int) := by rw [hct]; omega
      have e9 : IntKind.u8.wrap (c.toNat : Int) = (c.toNat : Int) := by rw [IntKind.wrap_u8']; omega
      have hn0 : (10 : Int) ≤ (n : Int) := by omega
      have hconv0 := conv_later (w.alloc (.cells #[.int .u8 (c.toNat : Int)] 5)).drew w.heap.size c (heap_new' w _)
      have hl0 : ∀ w1, After (w.alloc (.cells #[.int .u8 (c.toNat : Int)] 5)).drew w1 → (convert 28 9 (.slice (some ⟨w.heap.size, 0, none⟩) 1 1)).run Tryz.prog w1 = .ok (str [c]) w1 := fun w1 h => conv_later w1 _ c (h.heap (w := (w.alloc (.cells #[.int .u8 (c.toNat : Int)] 5)).drew) (heap_new' w _))
      have hl1 := fun w1 : World => conv_one w1 c
      have HL0 := Lib.hid hl0
      clear hc hr hl0 hlen hn hbig hbig' ih hqq hdd hct hd10 hq hn10
      go_enter Tryz.func52, Tryz.ntmps52
      go_wp2_with fail
      go_region_with ((go_at_call 52; refine (hcall _).mono ?_; rintro e w1 ⟨rfl, hb1⟩; have hb1' := After.trans (by first | exact hself.drew | exact (hself.drew).alloc _ | exact (hself.alloc _).drew) hb1; try (have hcv := HL0.out _ hb1)))
      all_goals
        go_wp2_with fail
        go_ret
        first
          | exact ⟨rfl, hb1'⟩
          | exact ⟨rfl, hb1'.alloc _⟩
end Go.Proofs.YtdjoafnohkmneaaGreatDoor

namespace Go.Proofs.YtdjoafnohkmneaaGreatDoor
open Go.RowKit

set_option maxHeartbeats 4000000
set_option maxRecDepth 100000

theorem decs_dec (n : Nat) (h : n < 100) : Tm.decs (1 + 1) n = Fm.dec n := by
  have hall : ∀ n, n < 100 → Tm.decs (1 + 1) n = Fm.dec n := by decide +kernel
  exact hall n h

theorem rus_build {ops : Array Oper} {A : Act} {i : Nat} {w : World} {x : Operand} {u : Value} {l : List UInt8} (hop : (opAt ops i).op = .build 35 #[(0, x)]) (hx : A.eval x = u) (hu : u = str l) :
    (execOp A.eval (opAt ops i)).run Tryz.prog w = .ok (.value (.agg #[str l, .slice none 0 0])) w := by
  subst hu
  unfold execOp
  generalize A.eval = E at *
  simp only [hop]
  simp [go_sem, hx]

/-- A tree that was made behind S. -/
def PutOut (N S0 : Nat) (u : SX) (v : Value) (w : World) : Prop := ∃ (s : List UInt8) (ao : Option Addr) (n c S E : Nat), v = .agg #[str s, .slice ao n c] ∧ S0 ≤ S ∧ E ≤ w.heap.size ∧ SVn w N S E u v
theorem PutOut.later {N S0 : Nat} {u : SX} {v : Value} {w w' : World} (h : PutOut N S0 u v w) (hN : N ≤ w.heap.size) (ha : After w w') : PutOut N S0 u v w' := by
  obtain ⟨s, ao, n, c, S, E, rfl, h1, h2, h3⟩ := h
  exact ⟨s, ao, n, c, S, E, rfl, h1, Nat.le_trans h2 ha.size, h3.keep (Nat.le_refl _) (Nat.le_refl _) fun k hk => ha.block k (by omega)⟩
def withL (N S0 : Nat) (tv : Value) (x : List UInt8) (m : Nat) (u : SX) : List Yu :=
  [.lit tv, .lit (str x), .lit (.int .i64 m), .lit (str (Fm.dec m)), .lit (.agg #[str (Fm.dec m), .slice none 0 0]), .pred (PutOut N S0 u)]
theorem withL_keep {N S0 : Nat} {tv : Value} {x : List UInt8} {m : Nat} {u : SX} : ∀ y ∈ withL N S0 tv x m u, keepsU (AfterN N) y := by
  intro y hy
  simp only [withL, List.mem_cons, List.not_mem_nil, or_false] at hy
  rcases hy with rfl | rfl | rfl | rfl | rfl | rfl
  case inr.inr.inr.inr.inr => exact fun v w w' h k => PutOut.later k h.1 h.2
  all_goals exact trivial

theorem s_with (w W : World) (t : SX) (v : Value) (x : List UInt8) (m d : Nat) (hv : SV w 0 t v) (hg : GoodX t) (hwk : Fm.wOk d t) (hm : m < 100) (hW : After w W) :
    Calls Tryz.prog 28 #[v, str x, .int .i64 (m : Nat)] W (SPPost w.heap.size W (Fm.sput x (.atom (Fm.dec m)) d t)) := by
  have hgb : GoodX (.atom (Fm.dec m)) := by
    obtain ⟨h1, _, _, _, h2⟩ := Fm.dec_letters hm
    refine ⟨?_, ?_⟩
    · simp only [Fm.sxOk]; exact ⟨by rintro e; rw [e] at h2; simp at h2, h1⟩
    · simp only [Fm.sxText]; have := (Fm.dec_len m).2; omega
  have hput := fun V hV => s_put x (.atom (Fm.dec m)) d t w V v (.agg #[str (Fm.dec m), .slice none 0 0]) hv (by simp only [SV]) hg hgb hwk hV
  have hdec := fun V => dec_any 1 m V (by have : (10:Nat) ^ (1 + 1) = 100 := rfl; omega) (by decide)
  simp only [decs_dec m hm] at hdec
  obtain ⟨ao, cap, hvf⟩ := hv.form
  generalize atomX t = sa at *
  generalize (partsX t).length = na at *
  subst hvf
  generalize hu : Fm.sput x (.atom (Fm.dec m)) d t = u at *
  obtain ⟨X, hX⟩ : ∃ X, X = (W.alloc (.cells #[str sa, .slice ao na cap] 35)).alloc (.cells #[.string ⟨#[]⟩, .slice none 0 0] 35) := ⟨_, rfl⟩
  have hXA : After W X := by rw [hX]; exact (After.new _ _).alloc _
  have hXs : X.heap.size = W.heap.size + 2 := by rw [hX]; simp
  have hX0 : X.heap[W.heap.size]? = some (.cells #[str sa, .slice ao na cap] 35 (0, 0)) := by rw [hX]; exact heap_below2 _ _ _
  have hX1 : X.heap[W.heap.size + 1]? = some (.cells #[.string ⟨#[]⟩, .slice none 0 0] 35 (0, 0)) := by rw [hX]; exact heap_top2 _ _ _
  have HPUT := Lib.hid hput
  have HDEC := Lib.hid hdec
  have HXA := Lib.hid hXA
  have HXS := Lib.hid hXs
  have HX0 := Lib.hid hX0
  have HX1 := Lib.hid hX1
  have HX := Lib.hid hX
  have HW := Lib.hid hW
  clear hput hdec hXA hXs hX0 hX1 hW hv hg hwk hgb hu
  go_enter Tryz.func28, Tryz.ntmps28
  clear hX
  go_wp2_with fail
  rw [← HX.out]
  rename_i KK hKK
  have HNX : Hid (w.heap.size ≤ X.heap.size) := (by show _ ≤ _; have := HW.out.size; have := HXA.out.size; omega)
  have HL : Hid (∀ y ∈ withL w.heap.size X.heap.size (.agg #[str sa, .slice ao na cap]) x m u, keepsU (AfterN w.heap.size) y) := withL_keep
  refine wp_region_use_tail (m := 6) (k := 1) (f := 12) (by kernel_rfl) (by kernel_rfl) (by kernel_rfl) (by kernel_rfl) (fun _ => none) (by kernel_rfl)
    99 (fun _ => True) (After X) (yus (withL w.heap.size X.heap.size (.agg #[str sa, .slice ao na cap]) x m u)) trivial (After.refl X).drew (lt6 ?_ ?_ ?_ ?_ ?_ ?_) ?_
  · intro vs W1 hA1 _ hd K hK
    exact du_val (by kernel_rfl) (wantedq (by kernel_rfl)) (rq_tree (x := .tmp 3) (u := .pointer (some ⟨W.heap.size, 0, none⟩)) (b := W.heap.size) (k := 0) (by kernel_rfl) (by kernel_rfl) rfl (cell_of_heap (i := 0) (hA1.heap HX0.out)) (cell_of_heap (i := 1) (hA1.heap HX0.out))) hA1 rfl hK
  · intro vs W1 hA1 _ hd K hK
    exact du_val (by kernel_rfl) (wantedq (by kernel_rfl)) (by kernel_rfl) hA1 rfl hK
  · intro vs W1 hA1 _ hd K hK
    exact du_val (by kernel_rfl) (wantedq (by kernel_rfl)) (by kernel_rfl) hA1 rfl hK
  · intro vs W1 hA1 _ hd K hK
    have hN1 : w.heap.size ≤ W1.heap.size := Nat.le_trans HNX.out hA1.size
    have e2 : vs 2 = .int .i64 (m : Nat) := hd 2 (by kernel_rfl)
    refine op_call (f := 52) (args := #[vs 2]) (by kernel_rfl) (wantedq (by kernel_rfl)) (by kernel_rfl) ?_
    rw [e2]
    refine (HDEC.out W1).mono ?_
    rintro e W3 ⟨rfl, ha3⟩
    exact ⟨_, rfl, hK _ _ ⟨hA1.trans ha3, fun _ h => h, fun j v _ _ _ h => yus_keep HL.out ⟨hN1, ha3⟩ j v h⟩ rfl⟩
  · intro vs W1 hA1 _ hd K hK
    have e3 : vs 3 = str (Fm.dec m) := hd 3 (by kernel_rfl)
    exact du_val (by kernel_rfl) (wantedq (by kernel_rfl)) (rus_build (x := .tmp 10) (u := vs 3) (by kernel_rfl) (by kernel_rfl) e3) hA1 rfl hK
  · intro vs W1 hA1 _ hd K hK
    have hN1 : w.heap.size ≤ W1.heap.size := Nat.le_trans HNX.out hA1.size
    have e0 : vs 0 = .agg #[str sa, .slice ao na cap] := hd 0 (by kernel_rfl)
    have e1 : vs 1 = str x := hd 1 (by kernel_rfl)
    have e4 : vs 4 = .agg #[str (Fm.dec m), .slice none 0 0] := hd 4 (by kernel_rfl)
    refine op_call (f := 51) (args := #[vs 0, vs 1, vs 4]) (by kernel_rfl) (wantedq (by kernel_rfl)) (by kernel_rfl) ?_
    rw [e0, e1, e4]
    refine (HPUT.out W1 ((HW.out.trans HXA.out).trans hA1)).mono ?_
    rintro e W3 ⟨s3, ao3, n3, c3, rfl, ha3, hv3⟩
    exact ⟨_, rfl, hK _ _ ⟨hA1.trans ha3, fun _ h => h, fun j v _ _ _ h => yus_keep HL.out ⟨hN1, ha3⟩ j v h⟩ ⟨s3, ao3, n3, c3, W1.heap.size, W3.heap.size, rfl, hA1.size, Nat.le_refl _, hv3⟩⟩
  intro vs W1 hA1 hd
  obtain ⟨s3, ao3, n3, c3, S, E, e5, hS, hE, hv3⟩ := hd 5 (by decide) (fun c hc => by cases hc)
  have hrc := hA1.heap HX1.out
  obtain ⟨W2, hrun, hext, hfin⟩ := rq_store (ops := _) (A := frame _ _ vs) (i := 6) (x := .tmp 6) (y := .tmp 12) (u := .pointer (some ⟨W.heap.size + 1, 0, none⟩)) (v := vs 5) (b := W.heap.size + 1) (by kernel_rfl) (by kernel_rfl) rfl (by kernel_rfl) e5 hrc rfl rfl
  refine op_skip (i := 6) (by kernel_rfl) (wantedq (by kernel_rfl)) hrun ?_
  have z0 : W2.cell? ⟨W.heap.size + 1, 0, none⟩ = some (str s3) := cell_of_heap (i := 0) hfin
  have z1 : W2.cell? ⟨W.heap.size + 1, 1, none⟩ = some (.slice ao3 n3 c3) := cell_of_heap (i := 1) hfin
  have hs := HXS.out
  have hg := hext.1
  have hAZ : After W W2 := after_but (HXA.out.trans hA1) hg (by omega)
  have hws := HW.out.size
  have h1s := hA1.size
  rw [e5] at hv3
  have hn2 := hv3.keep (w' := W2) (S' := W.heap.size) (E' := W2.heap.size) (by omega) (by have := hg.size; omega) fun j hj => hg.block j (by omega) (fun e => by injection e with e; omega)
  refine hKK _ _ ?_
  refine wp_frame (⟨#[.agg #[str sa, .slice ao na cap], str x, .int .i64 (m : Nat), .pointer (some ⟨W.heap.size, 0, none⟩), undef, undef, .pointer (some ⟨W.heap.size + 1, 0, none⟩), vs 0, vs 1, vs 2, vs 3, vs 4, vs 5], []⟩ : Act) (by kernel_rfl) ?_
  have HAZ := Lib.hid hAZ
  have HN2 := Lib.hid hn2
  clear hd e5 hrun hext hfin hv3 hA1 hg hAZ hn2 hrc
  go_wp2_with fail
  exact bodyPost_ret (v := .agg #[str s3, .slice ao3 n3 c3]) (by simp [results, Tryz.results28, go_sem, z0, z1]) rfl ⟨s3, ao3, n3, c3, rfl, HAZ.out, HN2.out⟩
end Go.Proofs.YtdjoafnohkmneaaGreatDoor
