/-
  The reader of the model, further: l1Read, l1Term.
-/
import Derived.Test.YtlpgoelcadmcfaaGreatDoorPkB
import Derived.Test.YtlpgoelcadmcfaaGreatDoorPkA
import Derived.RangeFuncNested
import Derived.RangeFuncBound
import Derived.RangeFuncCalls
import Derived.RangeFuncLeaves
import Derived.Shelf.Abstract
import Derived.WalkKit
import Derived.OwnWalkIn
import Derived.TacticsInMore
import Derived.LoopNIn
import Derived.LoopIn
import Derived.Lib.Hide
namespace Go.Proofs.YtlpgoelcadmcfaaGreatDoor
open Go.RowKit

set_option maxHeartbeats 400000
set_option maxRecDepth 100000

def place : Option (Tm × Nat) → Int
  | some (_, j) => (j : Nat)
  | none => -1

theorem box2 {w W : World} {x y : Value} {T : TypeId} (h : After (w.alloc (.cells #[x, y] T)) W) :
    W.cell? ⟨w.heap.size, 0, none⟩ = some x ∧ W.cell? ⟨w.heap.size, 1, none⟩ = some y ∧ W.frozen? ⟨w.heap.size, 0, none⟩ = false ∧ W.frozen? ⟨w.heap.size, 1, none⟩ = false ∧ w.heap.size < W.heap.size := by
  have hh := h.heap (heap_new' w (.cells #[x, y] T))
  refine ⟨cell_of_heap hh, cell_of_heap hh, by simp [World.frozen?, hh], by simp [World.frozen?, hh], (Array.getElem?_eq_some_iff.1 hh).1⟩

theorem byte_ne_lit' (x : UInt8) (n : Int) (c : UInt8) (hn : n = (c.toNat : Nat)) (_h : c = c) : ((x.toNat : Int) != n) = (x != c) := by
  subst hn; exact byte_ne x c

theorem After.set {w W : World} {o : Obj} (h : After (w.alloc o) W) (i : Nat) (v : Value) : After w (W.setCell ⟨w.heap.size, i, none⟩ v) :=
  Below.setCell ((After.new w o).trans h) (Nat.le_refl _) v

theorem After.set2 {w W : World} {o : Obj} (h : After (w.alloc o) W) {i j : Nat} {v u : Value} : After w ((W.setCell ⟨w.heap.size, i, none⟩ v).setCell ⟨w.heap.size, j, none⟩ u) :=
  Below.setCell (h.set i v) (Nat.le_refl _) u

theorem heap_new2 (W : World) (n : Nat) (o p : Obj) (h : W.heap.size = n) : ((W.alloc o).alloc p).heap[n + 1]? = some p := by
  have := heap_new' (W.alloc o) p
  rw [show (W.alloc o).heap.size = n + 1 by simp [h]] at this
  exact this

end Go.Proofs.YtlpgoelcadmcfaaGreatDoor

namespace Go.Proofs.YtlpgoelcadmcfaaGreatDoor
open Go.RowKit

set_option maxHeartbeats 4000000
set_option maxRecDepth 100000

/-- W is X but for new blocks and block r. -/
def ButFor (X : World) (r : Nat) (W : World) : Prop := X.heap.size ≤ W.heap.size ∧ ∀ k, k < X.heap.size → k ≠ r → W.heap[k]? = X.heap[k]?

theorem ButFor.cell {X W : World} {r b i : Nat} {v : Value} (h : ButFor X r W) (hr : b ≠ r) (hc : X.cell? ⟨b, i, none⟩ = some v) : W.cell? ⟨b, i, none⟩ = some v := by
  rw [World.cell?_of_block (w := X) (a := ⟨b, i, none⟩) (h.2 b (World.block_lt_of_cell? _ _ hc) hr)]; exact hc
theorem ButFor.alloc {X W : World} {r : Nat} (h : ButFor X r W) (o : Obj) : ButFor X r (W.alloc o) := ⟨by simp; have := h.1; omega, fun k hk hr => by rw [Below.heap_alloc _ _ _ (Nat.lt_of_lt_of_le hk h.1)]; exact h.2 k hk hr⟩
theorem ButFor.after {X W W' : World} {r : Nat} (h : ButFor X r W) (g : After W W') : ButFor X r W' := ⟨Nat.le_trans h.1 g.size, fun k hk hr => by rw [g.block k (Nat.lt_of_lt_of_le hk h.1)]; exact h.2 k hk hr⟩
theorem ButFor.set {X W : World} {r : Nat} (h : ButFor X r W) (i : Nat) (v : Value) : ButFor X r (W.setCell ⟨r, i, none⟩ v) := ⟨by simp [World.setCell]; exact h.1, fun k hk hr => by rw [Below.heap_setCell _ _ _ _ (by simpa using hr)]; exact h.2 k hk hr⟩

theorem After.butFor {X W : World} {r : Nat} (h : After X W) : ButFor X r W := ⟨h.size, fun k hk _ => h.block k hk⟩
theorem heap_old2 (W : World) (o p : Obj) : ((W.alloc o).alloc p).heap[W.heap.size]? = some o := by
  rw [Below.heap_alloc _ _ _ (by simp)]; exact heap_new' W o

theorem heap_new3 (w : World) (a b c : Obj) : (((w.alloc a).alloc b).alloc c).heap[w.heap.size + 1 + 1]? = some c := heap_new2 (w.alloc a) (w.heap.size + 1) b c (by simp)
theorem heap_new4 (w : World) (a b c d : Obj) : ((((w.alloc a).alloc b).alloc c).alloc d).heap[w.heap.size + 1 + 1 + 1]? = some d := heap_new2 ((w.alloc a).alloc b) (w.heap.size + 1 + 1) c d (by simp)

section
variable (w : World) (g1 q1 g2 q2 : Nat) (y1 x2 y2 : List UInt8) (b1 a2 b2 : Option Addr) (m1 d1 n2 m2 c2 d2 : Nat)
  (k0 : w.cell? ⟨g1, 0, none⟩ = some (str [])) (k1 : w.cell? ⟨g1, 1, none⟩ = some (.slice (some ⟨g2, 0, none⟩) 2 q2)) (k2 : w.cell? ⟨g1, 2, none⟩ = some (str y1)) (k3 : w.cell? ⟨g1, 3, none⟩ = some (.slice b1 m1 d1)) (hlt : g1 < w.heap.size)
  (j0 : w.cell? ⟨g2, 0, none⟩ = some (str x2)) (j1 : w.cell? ⟨g2, 1, none⟩ = some (.slice a2 n2 c2)) (j2 : w.cell? ⟨g2, 2, none⟩ = some (str y2)) (j3 : w.cell? ⟨g2, 3, none⟩ = some (.slice b2 m2 d2)) (hlt2 : g2 < w.heap.size)
include k0 k1 k2 k3 hlt j0 j1 j2 j3 hlt2
end

section
variable (w : World) (g1 q1 g2 q2 g3 q3 : Nat) (y1 y2 x3 y3 : List UInt8) (b1 b2 a3 b3 : Option Addr) (m1 d1 m2 d2 n3 c3 m3 d3 : Nat)
  (k0 : w.cell? ⟨g1, 0, none⟩ = some (str [])) (k1 : w.cell? ⟨g1, 1, none⟩ = some (.slice (some ⟨g2, 0, none⟩) 2 q2)) (k2 : w.cell? ⟨g1, 2, none⟩ = some (str y1)) (k3 : w.cell? ⟨g1, 3, none⟩ = some (.slice b1 m1 d1)) (hlt : g1 < w.heap.size)
  (j0 : w.cell? ⟨g2, 0, none⟩ = some (str [])) (j1 : w.cell? ⟨g2, 1, none⟩ = some (.slice (some ⟨g3, 0, none⟩) 2 q3)) (j2 : w.cell? ⟨g2, 2, none⟩ = some (str y2)) (j3 : w.cell? ⟨g2, 3, none⟩ = some (.slice b2 m2 d2)) (hlt2 : g2 < w.heap.size)
  (i0 : w.cell? ⟨g3, 0, none⟩ = some (str x3)) (i1 : w.cell? ⟨g3, 1, none⟩ = some (.slice a3 n3 c3)) (i2 : w.cell? ⟨g3, 2, none⟩ = some (str y3)) (i3 : w.cell? ⟨g3, 3, none⟩ = some (.slice b3 m3 d3)) (hlt3 : g3 < w.heap.size)
include k0 k1 k2 k3 hlt j0 j1 j2 j3 hlt2 i0 i1 i2 i3 hlt3
end
end Go.Proofs.YtlpgoelcadmcfaaGreatDoor

namespace Go.Proofs.YtlpgoelcadmcfaaGreatDoor
open Go.RowKit

set_option maxHeartbeats 4000000
set_option maxRecDepth 100000

theorem name_not {n : List UInt8} (h : Tm.nameOk n = true) : n ≠ [] ∧ n ≠ [107] ∧ n ≠ [115] := by
  refine ⟨?_, ?_, ?_⟩ <;> (rintro rfl; revert h; decide)

end Go.Proofs.YtlpgoelcadmcfaaGreatDoor

namespace Go.Proofs.YtlpgoelcadmcfaaGreatDoor
open Go.RowKit

set_option maxHeartbeats 4000000
set_option maxRecDepth 100000

end Go.Proofs.YtlpgoelcadmcfaaGreatDoor

namespace Go.Proofs.YtlpgoelcadmcfaaGreatDoor
open Go.RowKit

set_option maxHeartbeats 1000000
set_option maxRecDepth 100000

theorem heap_sets2 {W : World} {b : Nat} {x y u u' : Value} {T : TypeId} {fr : Nat × Nat} (hh : W.heap[b]? = some (.cells #[x, y] T fr)) : ((W.setCell ⟨b, 0, none⟩ u).setCell ⟨b, 1, none⟩ u').heap[b]? = some (.cells #[u, u'] T fr) := by
  simp [World.setCell, Array.getElem?_modify, hh]

theorem heap_sets2_ne {W : World} {b c i j : Nat} {u u' : Value} (hne : c ≠ b) : ((W.setCell ⟨b, i, none⟩ u).setCell ⟨b, j, none⟩ u').heap[c]? = W.heap[c]? := by
  rw [Below.heap_setCell _ _ _ _ hne, Below.heap_setCell _ _ _ _ hne]

theorem pair_facts {W : World} {b : Nat} {x y : Value} {T : TypeId} (h : W.heap[b]? = some (.cells #[x, y] T (0, 0))) {W' : World} (hW : After W W') :
    W'.cell? ⟨b, 0, none⟩ = some x ∧ W'.cell? ⟨b, 1, none⟩ = some y ∧ W'.frozen? ⟨b, 0, none⟩ = false ∧ W'.frozen? ⟨b, 1, none⟩ = false ∧ b < W'.heap.size := by
  have hh := hW.heap h
  exact ⟨cell_of_heap hh, cell_of_heap hh, by simp [World.frozen?, hh], by simp [World.frozen?, hh], (Array.getElem?_eq_some_iff.1 hh).1⟩

end Go.Proofs.YtlpgoelcadmcfaaGreatDoor

namespace Go.Proofs.YtlpgoelcadmcfaaGreatDoor
open Go.RowKit

set_option maxHeartbeats 1000000
set_option maxRecDepth 100000

end Go.Proofs.YtlpgoelcadmcfaaGreatDoor

namespace Go.Proofs.YtlpgoelcadmcfaaGreatDoor
open Go.RowKit

set_option maxHeartbeats 2000000
set_option maxRecDepth 100000

namespace Tm
/-- No atom without letters. -/
def Plain : Tm → Prop
  | nm n => n ≠ []
  | app f a => Plain f ∧ Plain a
  | _ => True
def isNm (x : List UInt8) : Tm → Bool
  | nm n => n == x
  | _ => false
def abs (x : List UInt8) : Tm → Tm
  | nm n => if n = x then I else app k (nm n)
  | app f a => if uses x (app f a) = 0 then app k (app f a) else if isNm x a = true ∧ uses x f = 0 then f else app (app s (abs x f)) (abs x a)
  | t => app k t
theorem plain_good {t : Tm} : t.good = true → t.Plain := by
  induction t with
  | nm n => intro h; exact text_ne (.nm n) h
  | app f a ihf iha => intro h; simp only [good, Bool.and_eq_true] at h; exact ⟨ihf h.1, iha h.2⟩
  | k => intro _; trivial
  | s => intro _; trivial
end Tm

/-! ### l2Abs -/

end Go.Proofs.YtlpgoelcadmcfaaGreatDoor

namespace Go.Proofs.YtlpgoelcadmcfaaGreatDoor
open Go.RowKit

set_option maxHeartbeats 2000000
set_option maxRecDepth 100000

namespace Tm
theorem abs_none (x : List UInt8) (t : Tm) (h : uses x t = 0) : abs x t = app k t := by
  cases t with
  | nm n => simp only [uses] at h; split at h; · simp at h
            rename_i hn; simp [abs, hn]
  | app f a => simp only [abs, h, if_true]
  | k => rfl
  | s => rfl
theorem isNm_uses (x : List UInt8) (t : Tm) (h : uses x t = 0) : isNm x t = false := by
  cases t with
  | nm n => simp only [uses] at h; split at h; · simp at h
            rename_i hn; simp [isNm, hn]
  | _ => rfl
theorem pair_abs (x : List UInt8) (a b : Tm) (ha : uses x a = 0) (hb : uses x b = 0) : abs x (app (app (nm x) a) b) = pair a b := by
  have h1 : uses x (app (app (nm x) a) b) = 1 := by simp [uses, ha, hb]
  have h2 : uses x (app (nm x) a) = 1 := by simp [uses, ha]
  rw [abs, h1, if_neg (by decide), isNm_uses x b hb, if_neg (by simp), abs_none x b hb, abs, h2, if_neg (by decide), isNm_uses x a ha, if_neg (by simp), abs_none x a ha]
  simp [abs, pair]
theorem uses_bad (x : List UInt8) (hx : nameOk x = false) : ∀ {t : Tm}, good t = true → uses x t = 0
  | nm n, h => by
    simp only [uses]
    split
    · rename_i hn; subst hn; simp only [good] at h; rw [hx] at h; simp at h
    · rfl
  | app f a, h => by simp only [good, Bool.and_eq_true] at h; simp only [uses, uses_bad x hx h.1, uses_bad x hx h.2]
  | k, _ => rfl
  | s, _ => rfl
end Tm

def SNumOne (w : World) (r : Option (List UInt8)) (e : Ending) (w' : World) : Prop :=
  e = .returned (.tuple #[str (r.getD []), .bool r.isSome]) ∧ After w w'

end Go.Proofs.YtlpgoelcadmcfaaGreatDoor

namespace Go.Proofs.YtlpgoelcadmcfaaGreatDoor
open Go.RowKit

set_option maxHeartbeats 1000000
set_option maxRecDepth 100000

theorem bodyOf_any (x : List UInt8) : ∀ {t : Tm} {w : World} {B : Nat} {v : Value}, TV w B t v → Calls Tryz.prog 91 #[v, str x] w (BodyPost w B (Bd.of x t)) := by
  intro t
  induction t with
  | k => intro w B v h; obtain ⟨b, fr, rfl, _⟩ := id h; exact body_leaf w B x _ b .k (Or.inl rfl) h
  | s => intro w B v h; obtain ⟨b, fr, rfl, _⟩ := id h; exact body_leaf w B x _ b .s (Or.inr rfl) h
  | nm n => intro w B v h; obtain ⟨b, fr, rfl, _⟩ := id h; exact body_name w B x n b h
  | app f a ihf iha =>
    intro w B v h
    have h' := h
    obtain ⟨b, fr, vf, va, rfl, hb, hh, hf, ha⟩ := h
    obtain ⟨T1, x1, rfl, _⟩ := hf.asks
    obtain ⟨T2, x2, rfl, _⟩ := ha.asks
    have hcall := body_parts w B b x f a (Bd.of x f) (Bd.of x a) T1 T2 x1 x2 h' hf (cell_later' (cell_of_heap (i := 0) hh)) (cell_later' (cell_of_heap (i := 1) hh)) (fun W' hW' => ihf (hf.below hW')) (fun W' hW' => iha (ha.below hW'))
    rw [show Bd.of x (.app f a) = Bd.comb f a (Bd.of x f) (Bd.of x a) from rfl]
    generalize Bd.comb f a (Bd.of x f) (Bd.of x a) = c at hcall ⊢
    unfold BodyPost at hcall
    have ha1 := assert_nm_a w (.pointer (some ⟨b, 0, none⟩))
    have ha2 := assert_app w (.pointer (some ⟨b, 0, none⟩))
    clear h' hh hf ha ihf iha
    go_enter Tryz.func91, Tryz.ntmps91
    go_wp2_with fail
    refine hcall.mono ?_
    rintro e w1 ⟨v1, rfl, hb1, hv1⟩
    have HV := Lib.hid hv1
    clear hv1 hcall
    go_wp2_with fail
    go_ret
    exact ⟨_, rfl, hb1, HV.out⟩

theorem comb_in {f a : Tm} {b1 b2 : Bd} (h : ∀ u, b1 ≠ .without u) : Bd.comb f a b1 b2 = .inside b1 b2 := by
  cases b1 with
  | without u => exact absurd rfl (h u)
  | itself => cases b2 <;> rfl
  | atEnd u => cases b2 <;> rfl
  | inside c d => cases b2 <;> rfl

theorem comb_in2 {f a : Tm} {b1 b2 : Bd} (h : ∀ u, b2 ≠ .without u) (h2 : b2 ≠ .itself) : Bd.comb f a b1 b2 = .inside b1 b2 := by
  cases b2 with
  | without u => exact absurd rfl (h u)
  | itself => exact absurd rfl h2
  | atEnd u => cases b1 <;> rfl
  | inside c d => cases b1 <;> rfl

theorem of_none (x : List UInt8) : ∀ {t : Tm}, Tm.uses x t = 0 → Bd.of x t = .without t
  | .k, _ => rfl
  | .s, _ => rfl
  | .nm n, h => by
    simp only [Tm.uses] at h
    split at h
    · simp at h
    · rename_i hn; simp [Bd.of, hn]
  | .app f a, h => by
    simp only [Tm.uses] at h
    rw [Bd.of, of_none x (t := f) (by omega), of_none x (t := a) (by omega)]
    rfl

theorem of_some (x : List UInt8) : ∀ {t : Tm}, Tm.uses x t ≠ 0 → (∀ u, Bd.of x t ≠ .without u) ∧ (Bd.of x t = .itself ↔ Tm.isNm x t = true)
  | .k, h => absurd rfl h
  | .s, h => absurd rfl h
  | .nm n, h => by
    simp only [Tm.uses] at h
    split at h
    · rename_i hn; simp [Bd.of, hn, Tm.isNm]
    · exact absurd rfl h
  | .app f a, h => by
    by_cases hf : Tm.uses x f = 0
    · have ha : Tm.uses x a ≠ 0 := by simp only [Tm.uses] at h; omega
      have ih := of_some x ha
      rw [Bd.of, of_none x hf]
      cases hb : Bd.of x a with
      | without u => exact absurd hb (ih.1 u)
      | itself => exact ⟨fun u => by simp [Bd.comb], by simp [Bd.comb, Tm.isNm]⟩
      | atEnd u => exact ⟨fun u => by simp [Bd.comb], by simp [Bd.comb, Tm.isNm]⟩
      | inside c d => exact ⟨fun u => by simp [Bd.comb], by simp [Bd.comb, Tm.isNm]⟩
    · have ih := of_some x hf
      rw [Bd.of, comb_in ih.1]
      exact ⟨fun u => by simp, by simp [Tm.isNm]⟩

theorem of_term (x : List UInt8) : ∀ t : Tm, (Bd.of x t).term = Tm.abs x t
  | .k => rfl
  | .s => rfl
  | .nm n => by by_cases hn : n = x <;> simp [Bd.of, Tm.abs, hn, Bd.term]
  | .app f a => by
    have ihf := of_term x f
    have iha := of_term x a
    by_cases h0 : Tm.uses x (.app f a) = 0
    · rw [of_none x h0, Tm.abs_none x _ h0]; rfl
    · rw [Tm.abs, if_neg h0]
      by_cases hf : Tm.uses x f = 0
      · have ha : Tm.uses x a ≠ 0 := by simp only [Tm.uses] at h0; omega
        have ha' := of_some x ha
        by_cases hn : Tm.isNm x a = true
        · rw [if_pos ⟨hn, hf⟩, Bd.of, of_none x hf, ha'.2.2 hn]; rfl
        · rw [if_neg (fun h => hn h.1), Bd.of, comb_in2 ha'.1 (fun h => hn (ha'.2.1 h)), Bd.term, ihf, iha]
      · rw [if_neg (fun h => hf h.2), Bd.of, comb_in (of_some x hf).1, Bd.term, ihf, iha]

theorem abs_size (x : List UInt8) : ∀ t : Tm, (Tm.abs x t).size + 1 ≤ 4 * t.size
  | .k => by simp [Tm.abs, Tm.size]
  | .s => by simp [Tm.abs, Tm.size]
  | .nm n => by by_cases hn : n = x <;> simp [Tm.abs, hn, Tm.size, Tm.I]
  | .app f a => by
    have ihf := abs_size x f
    have iha := abs_size x a
    have hf := Tm.size_pos f
    have ha := Tm.size_pos a
    rw [Tm.abs]
    split
    · simp only [Tm.size]; omega
    · split
      · simp only [Tm.size]; omega
      · simp only [Tm.size]; omega

theorem abstraction_any (w : World) (B : Nat) (x : List UInt8) (t : Tm) (v : Value) (h : TV w B t v) (hB : B ≤ w.heap.size) (hz : t.size ≤ 1000000) :
    Calls Tryz.prog 78 #[str x, v] w (TermPost w B (Tm.abs x t)) := by
  have hbody := bodyOf_any x h
  have hsz := abs_size x t
  unfold BodyPost at hbody
  rw [← of_term] at hsz ⊢
  generalize Bd.of x t = b at *
  go_enter Tryz.func78, Tryz.ntmps78
  go_wp2_with fail
  refine hbody.mono ?_
  rintro e w1 ⟨v1, rfl, hb1, hv1⟩
  obtain ⟨T1, x1, f1, y1, rfl, m1, n1, d1⟩ := BV.absOk (Nat.le_trans hB hb1.size) hv1 (by omega)
  have hcall := d1 w1 (Below.refl _ _)
  unfold TermPost at hcall
  clear hv1 hbody d1
  go_wp2_with (go_at_fn f1; refine hcall.mono ?_; rintro e w2 ⟨v2, rfl, hb2, ht2⟩; have HT := Lib.hid ht2; clear ht2)
  go_ret
  exact ⟨_, rfl, below_trans hb1 hb2, HT.out⟩
end Go.Proofs.YtlpgoelcadmcfaaGreatDoor

namespace Go.Proofs.YtlpgoelcadmcfaaGreatDoor
open Go.RowKit Go.Shelf

attribute [local go_sem] Oper.semAt_some

/-- What has come when k rounds are over. -/
def upto {α : Type} (f : Nat → α) (k : Nat) : List α := (List.range k).map f
theorem upto_succ {α : Type} (f : Nat → α) (k : Nat) : upto f (k + 1) = upto f k ++ [f k] := by simp [upto, List.range_succ]
theorem upto_length {α : Type} (f : Nat → α) (k : Nat) : (upto f k).length = k := by simp [upto]

/-- The blocks below m and the block Bs are as they were. -/
def KeepB (m Bs : Nat) (W W' : World) : Prop := ∀ k, (k < m ∨ k = Bs) → W'.heap[k]? = W.heap[k]?
theorem KeepB.trans {m Bs : Nat} {A B C : World} (h : KeepB m Bs A B) (k : KeepB m Bs B C) : KeepB m Bs A C := fun i hi => (k i hi).trans (h i hi)
theorem KeepB.refl (m Bs : Nat) (W : World) : KeepB m Bs W W := fun _ _ => rfl
theorem KeepB.cell {m Bs b i : Nat} {W W' : World} {v : Value} (h : KeepB m Bs W W') (hb : b < m ∨ b = Bs) (hc : W.cell? ⟨b, i, none⟩ = some v) : W'.cell? ⟨b, i, none⟩ = some v := by
  rw [World.cell?_of_block (w := W) (a := ⟨b, i, none⟩) (h b hb)]; exact hc

/-- The slice value holds these texts, in a block below m. -/
def StrsB (m : Nat) (W : World) (sv : Value) (zs : List (List UInt8)) : Prop :=
  (∃ ao cap, sv = .slice ao 0 cap ∧ zs = []) ∨ ∃ b off cap, sv = .slice (some ⟨b, off, none⟩) zs.length cap ∧ b < m ∧ ∀ j, j < zs.length → W.cell? ⟨b, off + j, none⟩ = some (str (zs[j]?.getD []))

theorem keepB_b {m Bs : Nat} {w : World} (hm : m ≤ w.heap.size) (hBs : Bs < w.heap.size) (W : World) (l : Nat) (o o' : Obj) (hl : w.heap.size ≤ l) (h : W.heap[l]? = some o) (_ : o.isCells = false) (_ : o.isWalk = false) : KeepB m Bs W (W.putObj l o') := fun k hk => by
  have hg := grownBy_putObj' W l o'
  have hlt := (Array.getElem?_eq_some_iff.1 h).1
  exact hg.block k (by omega) (fun e => by injection e with e; omega)
end Go.Proofs.YtlpgoelcadmcfaaGreatDoor

namespace Go.Proofs.YtlpgoelcadmcfaaGreatDoor
open Go.RowKit Go.Shelf

attribute [local go_sem] Oper.semAt_some

/-- Names abstracted one after the other, each result looked at. -/
def absL : List (List UInt8) → Tm → Option Tm
  | [], t => some t
  | x :: xs, t => if (Tm.abs x t).fits = true then absL xs (Tm.abs x t) else none

theorem absL_snoc (xs : List (List UInt8)) (x : List UInt8) : ∀ t, absL (xs ++ [x]) t = (absL xs t).bind fun u => if (Tm.abs x u).fits = true then some (Tm.abs x u) else none := by
  induction xs with
  | nil => intro t; simp [absL]
  | cons y ys ih => intro t; simp only [List.cons_append, absL]; split
                    · exact ih _
                    · rfl

theorem TV.keptCells {A C : World} {B : Nat} (hk : ∀ (b : Nat) (cs : Array Value) (T : TypeId) (fr : Nat × Nat), T ≠ 76 → T ≠ 4 → A.heap[b]? = some (.cells cs T fr) → C.heap[b]? = some (.cells cs T fr)) : ∀ {t : Tm} {v : Value}, TV A B t v → TV C B t v
  | .k, _, ⟨b, fr, hv, hb, h⟩ => ⟨b, fr, hv, hb, hk _ _ _ _ (by decide) (by decide) h⟩
  | .s, _, ⟨b, fr, hv, hb, h⟩ => ⟨b, fr, hv, hb, hk _ _ _ _ (by decide) (by decide) h⟩
  | .nm _, _, ⟨b, fr, hv, hb, h⟩ => ⟨b, fr, hv, hb, hk _ _ _ _ (by decide) (by decide) h⟩
  | .app _ _, _, ⟨b, fr, vf, va, hv, hb, h, hf, ha⟩ => ⟨b, fr, vf, va, hv, hb, hk _ _ _ _ (by decide) (by decide) h, hf.keptCells hk, ha.keptCells hk⟩

theorem TV.grownCells {A C : World} {B : Nat} {row : Option Nat} {t : Tm} {v : Value} (h : TV A B t v) (hg : A.grownBy C row) (hr : ∀ r, row = some r → ∃ o : Obj, A.heap[r]? = some o ∧ o.isCells = false) : TV C B t v :=
  h.keptCells fun b cs T fr _ _ hb => by
    rw [hg.block b (Array.getElem?_eq_some_iff.1 hb).1 (fun e => by obtain ⟨o, ho, hc⟩ := hr b e.symm; rw [hb] at ho; injection ho with ho; subst ho; simp [Obj.isCells] at hc)]
    exact hb

theorem TV.boxSet {A : World} {B b : Nat} {x u : Value} {t : Tm} {v : Value} (h : TV A B t v) (hb : Boxed A b 76 x) : TV (A.setCell ⟨b, 0, none⟩ u) B t v :=
  h.keptCells fun b' cs T fr hT _ hb' => by
    have hne : b' ≠ b := by
      rintro rfl
      rw [show A.heap[b']? = _ from hb] at hb'
      injection hb' with hb'
      injection hb' with _ hb' _
      exact hT hb'.symm
    rw [Below.heap_setCell _ _ _ _ hne]
    exact hb'

theorem TV.boolSet {A : World} {B b : Nat} {x u : Value} {t : Tm} {v : Value} (h : TV A B t v) (hb : Boxed A b 4 x) : TV (A.setCell ⟨b, 0, none⟩ u) B t v :=
  h.keptCells fun b' cs T fr _ hT hb' => by
    have hne : b' ≠ b := by
      rintro rfl
      rw [show A.heap[b']? = _ from hb] at hb'
      injection hb' with hb'
      injection hb' with _ hb' _
      exact hT hb'.symm
    rw [Below.heap_setCell _ _ _ _ hne]
    exact hb'

theorem absL_append (xs ys : List (List UInt8)) : ∀ t, absL (xs ++ ys) t = (absL xs t).bind (absL ys) := by
  induction xs with
  | nil => intro t; simp [absL]
  | cons x xs ih => intro t; simp only [List.cons_append, absL]; split
                    · exact ih _
                    · rfl

theorem back_take (zs : List (List UInt8)) (k : Nat) (hk : k ≤ zs.length) : (upto (fun j => (zs.length - 1 - j, zs[zs.length - 1 - j]?.getD [])) k).map Prod.snd = zs.reverse.take k := by
  apply List.ext_getElem
  · simp [upto, hk]
  · intro i h1 h2
    have hi : i < k := by simpa [upto] using h1
    have hz : zs.length - 1 - i < zs.length := by omega
    simp [upto, hz]

theorem box_kept {A C : World} {b : Nat} {T : TypeId} {x : Value} {row : Option Nat} (h : Boxed A b T x) (hg : A.grownBy C row) (hr : ∀ r, row = some r → ∃ o : Obj, A.heap[r]? = some o ∧ o.isCells = false) : Boxed C b T x :=
  Boxed.kept h hg fun e => by obtain ⟨o, ho, hc⟩ := hr b e.symm; rw [show A.heap[b]? = _ from h] at ho; injection ho with ho; subst ho; simp [Obj.isCells] at hc

theorem box_later {A C : World} {b : Nat} {T : TypeId} {x : Value} (h : Boxed A b T x) (hb : Below A.heap.size A C) : Boxed C b T x := heap_later h hb
theorem keepsOthers_below {A C : World} (h : Below A.heap.size A C) : KeepsOthers A C := ⟨h.size, fun _ _ hk _ => heap_later hk h⟩
theorem keepB_below {m Bs : Nat} {A C : World} (h : Below A.heap.size A C) (hm : m ≤ A.heap.size) (hBs : Bs < A.heap.size) : KeepB m Bs A C := fun k hk => h.block k (by omega)
theorem keepB_set {m Bs b : Nat} {A : World} (v : Value) (h1 : m ≤ b) (h2 : Bs ≠ b) : KeepB m Bs A (A.setCell ⟨b, 0, none⟩ v) := fun k hk => Below.heap_setCell _ _ _ _ (show k ≠ b by omega)

end Go.Proofs.YtlpgoelcadmcfaaGreatDoor

namespace Go.Proofs.YtlpgoelcadmcfaaGreatDoor
open Go.RowKit

set_option maxHeartbeats 1000000
set_option maxRecDepth 100000

namespace Tm
def X : Tm := .nm [120]
def Y : Tm := .nm [121]
def Z : Tm := .nm [122]
def half : Tm := abs [120] (abs [121] (app Y (app (app X X) Y)))
def fix : Tm := app half half
def succ : Tm := abs [120] (pair no X)
def pairC : Tm := abs [120] (abs [121] (abs [122] (app (app Z X) Y)))
def first : Tm := abs [120] (app X k)
def second : Tm := abs [120] (app X no)
def pred : Tm := abs [120] (app (app (app X k) I) (app X no))
/-- The closed term of a word. -/
def data (w : List UInt8) : Option Tm :=
  if w = [105] then some I else if w = [116, 114, 117, 101] then some k else if w = [102, 97, 108, 115, 101] then some no
  else if w = [112, 97, 105, 114] then some pairC else if w = [102, 105, 114, 115, 116] then some first else if w = [122, 101, 114, 111] then some first
  else if w = [115, 101, 99, 111, 110, 100] then some second else if w = [115, 117, 99, 99] then some succ else if w = [112, 114, 101, 100] then some pred
  else if w = [102, 105, 120] then some fix else none
theorem data_good {w : List UInt8} {t : Tm} (h : data w = some t) : t.good = true ∧ t.size ≤ 1000 := by
  unfold data at h
  repeat' split at h
  all_goals first | (obtain rfl := Option.some.inj h; exact ⟨by decide +kernel, by decide +kernel⟩) | cases h
end Tm

theorem nm_val {W : World} {B b : Nat} {n : List UInt8} {fr : Nat × Nat} (h : W.heap[b]? = some (.cells #[str n] 126 fr)) (hB : B ≤ b) : TV W B (.nm n) (.iface 123 (.pointer (some ⟨b, 0, none⟩))) := ⟨b, fr, rfl, hB, h⟩

theorem applyAll2 (w : World) (B g : Nat) (f a b : Tm) (vf va vb : Value) (fr : Nat × Nat) (hg : w.heap[g]? = some (.cells #[va, vb] 76 fr)) (hf : TV w B f vf) (ha : TV w B a va) (hb : TV w B b vb) (hB : B ≤ w.heap.size) (hz : f.size + a.size + b.size ≤ 1000000) :
    Calls Tryz.prog 79 #[vf, .slice (some ⟨g, 0, none⟩) 2 2] w (TermPost w B (.app (.app f a) b)) :=
  applyAll_any w B g f vf [a, b] [va, vb] fr rfl hg hf (fun j hj => by
    match j, hj with
    | 0, _ => exact ha
    | 1, _ => exact hb) hB (by simp; omega) (by simp)

theorem applyAll3 (w : World) (B g : Nat) (f a b c : Tm) (vf va vb vc : Value) (fr : Nat × Nat) (hg : w.heap[g]? = some (.cells #[va, vb, vc] 76 fr)) (hf : TV w B f vf) (ha : TV w B a va) (hb : TV w B b vb) (hc : TV w B c vc) (hB : B ≤ w.heap.size) (hz : f.size + a.size + b.size + c.size ≤ 1000000) :
    Calls Tryz.prog 79 #[vf, .slice (some ⟨g, 0, none⟩) 3 3] w (TermPost w B (.app (.app (.app f a) b) c)) :=
  applyAll_any w B g f vf [a, b, c] [va, vb, vc] fr rfl hg hf (fun j hj => by
    match j, hj with
    | 0, _ => exact ha
    | 1, _ => exact hb
    | 2, _ => exact hc) hB (by simp; omega) (by simp)

def DataPost (w : World) (B : Nat) (r : Option Tm) (e : Ending) (w' : World) : Prop :=
  ∃ v, e = .returned (.tuple #[v, .bool r.isSome]) ∧ Below w.heap.size w w' ∧ ∀ t, r = some t → TV w' B t v

/-- What is there behind the first lines of dataTerm. -/
structure DataPre (w : World) (B : Nat) (W : World) : Prop where
  below : Below w.heap.size w W
  x : TV W B Tm.X (.iface 123 (.pointer (some ⟨w.heap.size, 0, none⟩)))
  y : TV W B Tm.Y (.iface 123 (.pointer (some ⟨w.heap.size + 1, 0, none⟩)))
  z : TV W B Tm.Z (.iface 123 (.pointer (some ⟨w.heap.size + 1 + 1, 0, none⟩)))

theorem choice_any (w : World) (B : Nat) (b : Bool) (hB : B ≤ w.heap.size) : Calls Tryz.prog 158 #[.bool b] w (TermPost w B (if b = true then Tm.first else Tm.second)) := by
  have hnm := nm_val (heap_top w (.cells #[str [120]] 126)) hB
  have hn := below_new w (.cells #[str [120]] 126)
  have hbit := bit_any (w.alloc (.cells #[str [120]] 126)) B b (Nat.le_trans hB hn.size)
  unfold TermPost at hbit
  obtain ⟨T, hT⟩ : ∃ T : Tm, T = (if b = true then Tm.k else Tm.no) := ⟨_, rfl⟩
  have hz : T.size ≤ 1000 := by rw [hT]; cases b <;> decide +kernel
  have hfin : Tm.abs [120] (.app Tm.X T) = if b = true then Tm.first else Tm.second := by rw [hT]; cases b <;> rfl
  have hzx : Tm.X.size = 1 := rfl
  have hab : ∀ W v, TV W B (.app Tm.X T) v → B ≤ W.heap.size → Calls Tryz.prog 78 #[str [120], v] W (TermPost W B (Tm.abs [120] (.app Tm.X T))) := fun W v h1 h2 => abstraction_any W B [120] _ v h1 h2 (by simp only [Tm.size]; omega)
  rw [hfin] at hab
  unfold TermPost at hab
  rw [← hT] at hbit
  generalize (if b = true then Tm.first else Tm.second) = R at *
  clear hT hfin
  have HNM := Lib.hid hnm
  clear hnm
  go_enter Tryz.func158, Tryz.ntmps158
  go_wp2_with fail
  refine hbit.mono ?_
  rintro e w1 ⟨v1, rfl, hb1, ht1⟩
  have hb2 := below_trans hn hb1
  have happ := apply_any w1 B Tm.X T _ v1 (HNM.out.below hb1) ht1 (Nat.le_trans hB hb2.size) (by omega)
  clear ht1 hbit
  go_wp2_with fail
  refine happ.mono ?_
  rintro e w2 ⟨v2, rfl, hb3, ht2⟩
  have hb4 := below_trans hb2 hb3
  have hc := hab w2 v2 ht2 (Nat.le_trans hB hb4.size)
  clear ht2 happ hab
  go_wp2_with fail
  refine hc.mono ?_
  rintro e w3 ⟨v3, rfl, hb5, ht3⟩
  have HT := Lib.hid ht3
  clear ht3 hc
  go_wp2_with fail
  go_ret
  exact ⟨_, rfl, below_trans hb4 hb5, HT.out⟩

theorem first_any (w : World) (B : Nat) (hB : B ≤ w.heap.size) : Calls Tryz.prog 142 #[] w (TermPost w B Tm.first) := by
  have hc := choice_any w B true hB
  unfold TermPost at hc
  simp only [if_true] at hc
  go_enter Tryz.func142, Tryz.ntmps142
  go_wp2_with fail
  refine hc.mono ?_
  rintro e w1 ⟨v1, rfl, hb1, ht1⟩
  have HT := Lib.hid ht1
  clear ht1 hc
  go_wp2_with fail
  go_ret
  exact ⟨_, rfl, hb1, HT.out⟩

theorem second_any (w : World) (B : Nat) (hB : B ≤ w.heap.size) : Calls Tryz.prog 144 #[] w (TermPost w B Tm.second) := by
  have hc := choice_any w B false hB
  unfold TermPost at hc
  simp only [Bool.false_eq_true, if_false] at hc
  go_enter Tryz.func144, Tryz.ntmps144
  go_wp2_with fail
  refine hc.mono ?_
  rintro e w1 ⟨v1, rfl, hb1, ht1⟩
  have HT := Lib.hid ht1
  clear ht1 hc
  go_wp2_with fail
  go_ret
  exact ⟨_, rfl, hb1, HT.out⟩

theorem zero_any (w : World) (B : Nat) (hB : B ≤ w.heap.size) : Calls Tryz.prog 113 #[] w (TermPost w B Tm.first) := by
  have hc := first_any w B hB
  unfold TermPost at hc
  skip
  go_enter Tryz.func113, Tryz.ntmps113
  go_wp2_with fail
  refine hc.mono ?_
  rintro e w1 ⟨v1, rfl, hb1, ht1⟩
  have HT := Lib.hid ht1
  clear ht1 hc
  go_wp2_with fail
  go_ret
  exact ⟨_, rfl, hb1, HT.out⟩

theorem pred_any (w : World) (B : Nat) (hB : B ≤ w.heap.size) : Calls Tryz.prog 143 #[] w (TermPost w B Tm.pred) := by
  have hnm := nm_val (heap_top w (.cells #[str [120]] 126)) hB
  have hn := below_new w (.cells #[str [120]] 126)
  have k1 := bit_any (w.alloc (.cells #[str [120]] 126)) B true (Nat.le_trans hB hn.size)
  unfold TermPost at k1
  simp only [if_true] at k1
  have HX := Lib.hid hnm
  clear hnm
  go_enter Tryz.func143, Tryz.ntmps143
  go_wp2_with fail
  refine k1.mono ?_
  rintro e w2 ⟨v2, rfl, hb2, ht2⟩
  clear k1
  have hB2 := below_trans hn hb2
  obtain ⟨T1, x1, rfl, _⟩ := id ht2.asks
  have HY := Lib.hid ht2
  clear ht2
  have k3 := numeral_any w2 B 0 (Nat.le_trans hB hB2.size) (by omega)
  unfold TermPost at k3
  go_wp2_with fail
  refine k3.mono ?_
  rintro e w3 ⟨v3, rfl, hb3, ht3⟩
  clear k3
  have hB3 := below_trans hB2 hb3
  obtain ⟨T3, x3, rfl, _⟩ := id ht3.asks
  have HZ := Lib.hid ht3
  clear ht3
  have k4 := bit_any w3 B false (Nat.le_trans hB hB3.size)
  unfold TermPost at k4
  simp only [Bool.false_eq_true, if_false] at k4
  go_wp2_with fail
  refine k4.mono ?_
  rintro e w4 ⟨v4, rfl, hb4, ht4⟩
  clear k4
  have hB4 := below_trans hB3 hb4
  have k5 := apply_any w4 B Tm.X _ _ _ (((HX.out.below hb2).below hb3).below hb4) ht4 (Nat.le_trans hB hB4.size) (by decide +kernel)
  clear ht4
  go_wp2_with fail
  refine k5.mono ?_
  rintro e w5 ⟨v5, rfl, hb5, ht5⟩
  clear k5
  have hB5 := below_trans hB4 hb5
  obtain ⟨T5, x5, rfl, _⟩ := id ht5.asks
  have hn6 := below_new w5 (.cells #[.iface T1 x1, .iface T3 x3, .iface T5 x5] 76)
  have k6 := applyAll3 (w5.alloc (.cells #[.iface T1 x1, .iface T3 x3, .iface T5 x5] 76)) B _ Tm.X .k (Tm.num 0) (.app Tm.X Tm.no) _ _ _ _ (0, 0) (heap_top w5 _) (((((HX.out.below hb2).below hb3).below hb4).below hb5).below hn6) ((((HY.out.below hb3).below hb4).below hb5).below hn6) (((HZ.out.below hb4).below hb5).below hn6) (ht5.below hn6) (Nat.le_trans hB (below_trans hB5 hn6).size) (by decide +kernel)
  unfold TermPost at k6
  clear ht5
  go_wp2_with fail
  refine k6.mono ?_
  rintro e w6 ⟨v6, rfl, hb6, ht6⟩
  clear k6
  have hB6 := below_trans (below_trans hB5 hn6) hb6
  have k7 := abstraction_any w6 B [120] _ v6 ht6 (Nat.le_trans hB hB6.size) (by decide +kernel)
  rw [show Tm.abs [120] (.app (.app (.app Tm.X .k) (Tm.num 0)) (.app Tm.X Tm.no)) = Tm.pred from rfl] at k7
  unfold TermPost at k7
  clear ht6
  go_wp2_with fail
  refine k7.mono ?_
  rintro e w7 ⟨v7, rfl, hb7, ht7⟩
  have HT := Lib.hid ht7
  clear ht7 k7
  go_wp2_with fail
  go_ret
  exact ⟨_, rfl, below_trans hB6 hb7, HT.out⟩

def pData (l : List UInt8) : Option (List UInt8) := (Tm.data l).map Tm.text

end Go.Proofs.YtlpgoelcadmcfaaGreatDoor
