/-
  How a term of the model lies in memory; its size, depth and text.
-/
import Derived.Test.YtjgemiojjhfnoacFire
namespace Go.Proofs.Ytjgemiojjhfnoac
open Go.RowKit

set_option maxHeartbeats 400000
set_option maxRecDepth 100000

/-- W is w but for new blocks. -/
def After (w W : World) : Prop := Below w.heap.size w W

theorem After.refl (w : World) : After w w := Below.refl _ _
theorem After.trans {a b c : World} (h : After a b) (g : After b c) : After a c := below_trans h g
theorem After.drew {a b : World} (h : After a b) : After a b.drew := Below.drew h
theorem After.alloc {a b : World} (h : After a b) (o : Obj) : After a (b.alloc o) := below_alloc h o
theorem After.new (w : World) (o : Obj) : After w (w.alloc o) := (After.refl w).alloc o
theorem After.heap {w W : World} {b : Nat} {o : Obj} (hb : After w W) (h : w.heap[b]? = some o) : W.heap[b]? = some o := heap_later h hb
theorem After.cell {w W : World} {b i : Nat} {v : Value} (hb : After w W) (h : w.cell? ⟨b, i, none⟩ = some v) : W.cell? ⟨b, i, none⟩ = some v := cell_later' h W hb

theorem heap_new' (w : World) (o : Obj) : (w.alloc o).heap[w.heap.size]? = some o := by
  show (w.heap.push _)[_]? = _
  simp

/-- The value v is the term t as the model has it. -/
def ST (w : World) : Tm → Value → Prop
  | .app f a, v => ∃ g cap fr s0 p0 s1 p1, v = .agg #[str [], .slice (some ⟨g, 0, none⟩) 2 cap] ∧ w.heap[g]? = some (.cells #[s0, p0, s1, p1] 41 fr) ∧ ST w f (.agg #[s0, p0]) ∧ ST w a (.agg #[s1, p1])
  | t, v => v = .agg #[str t.text, .slice none 0 0]

theorem ST.later {w W : World} (hb : After w W) : ∀ {t : Tm} {v : Value}, ST w t v → ST W t v
  | .k, _, h => h
  | .s, _, h => h
  | .nm _, _, h => h
  | .app _ _, _, ⟨g, cap, fr, s0, p0, s1, p1, hv, hh, hf, ha⟩ => ⟨g, cap, fr, s0, p0, s1, p1, hv, hb.heap hh, hf.later hb, ha.later hb⟩

theorem ST.form {w : World} {t : Tm} {v : Value} (h : ST w t v) : ∃ s ao n c, v = .agg #[str s, .slice ao n c] := by
  cases t with
  | app f a => obtain ⟨g, cap, fr, s0, p0, s1, p1, rfl, _⟩ := h; exact ⟨_, _, _, _, rfl⟩
  | k => exact ⟨_, _, _, _, h⟩
  | s => exact ⟨_, _, _, _, h⟩
  | nm n => exact ⟨_, _, _, _, h⟩

theorem size_atom (w : World) (s : List UInt8) (v : Value) (hs : s ≠ []) :
    Calls Try.prog 54 #[.agg #[str s, v]] w fun e w' => e = .returned (.int .i64 1) ∧ After w w' := by
  have he : s.isEmpty = false := by cases s with | nil => exact absurd rfl hs | cons => rfl
  clear hs
  go_enter Try.func54, Try.ntmps54
  go_wp2_with fail
  go_ret
  exact ⟨rfl, After.new _ _⟩

/-- What is known behind the box of a tree with two parts. -/
theorem kid_facts (w : World) (g cap : Nat) (fr : Nat × Nat) (s0 s1 : List UInt8) (a0 a1 : Option Addr) (n0 c0 n1 c1 : Nat) (hh : w.heap[g]? = some (.cells #[str s0, .slice a0 n0 c0, str s1, .slice a1 n1 c1] 41 fr)) :
    After w (w.alloc (.cells #[str [], .slice (some ⟨g, 0, none⟩) 2 cap] 41)) ∧ After (w.alloc (.cells #[str [], .slice (some ⟨g, 0, none⟩) 2 cap] 41)) (w.alloc (.cells #[str [], .slice (some ⟨g, 0, none⟩) 2 cap] 41)) ∧
    (∀ W, After (w.alloc (.cells #[str [], .slice (some ⟨g, 0, none⟩) 2 cap] 41)) W → W.cell? ⟨w.heap.size, 0, none⟩ = some (str [])) ∧
    (∀ W, After (w.alloc (.cells #[str [], .slice (some ⟨g, 0, none⟩) 2 cap] 41)) W → W.cell? ⟨w.heap.size, 1, none⟩ = some (.slice (some ⟨g, 0, none⟩) 2 cap)) ∧
    (∀ W, After (w.alloc (.cells #[str [], .slice (some ⟨g, 0, none⟩) 2 cap] 41)) W → W.cell? ⟨g, 0, none⟩ = some (str s0)) ∧
    (∀ W, After (w.alloc (.cells #[str [], .slice (some ⟨g, 0, none⟩) 2 cap] 41)) W → W.cell? ⟨g, 1, none⟩ = some (.slice a0 n0 c0)) ∧
    (∀ W, After (w.alloc (.cells #[str [], .slice (some ⟨g, 0, none⟩) 2 cap] 41)) W → W.cell? ⟨g, 2, none⟩ = some (str s1)) ∧
    (∀ W, After (w.alloc (.cells #[str [], .slice (some ⟨g, 0, none⟩) 2 cap] 41)) W → W.cell? ⟨g, 3, none⟩ = some (.slice a1 n1 c1)) := by
  have hnew := After.new w (.cells #[str [], .slice (some ⟨g, 0, none⟩) 2 cap] 41)
  have hbox := heap_new' w (.cells #[str [], .slice (some ⟨g, 0, none⟩) 2 cap] 41)
  exact ⟨hnew, After.refl _, fun W hW => hW.cell (cell_of_heap hbox), fun W hW => hW.cell (cell_of_heap hbox), fun W hW => (hnew.trans hW).cell (cell_of_heap hh), fun W hW => (hnew.trans hW).cell (cell_of_heap hh), fun W hW => (hnew.trans hW).cell (cell_of_heap hh), fun W hW => (hnew.trans hW).cell (cell_of_heap hh)⟩

theorem size_app (w : World) (g cap : Nat) (fr : Nat × Nat) (s0 s1 : List UInt8) (a0 a1 : Option Addr) (n0 c0 n1 c1 : Nat) (f a : Tm) (hh : w.heap[g]? = some (.cells #[str s0, .slice a0 n0 c0, str s1, .slice a1 n1 c1] 41 fr))
    (hf : ∀ W, After w W → Calls Try.prog 54 #[.agg #[str s0, .slice a0 n0 c0]] W fun e w' => e = .returned (.int .i64 (f.size : Nat)) ∧ After W w')
    (ha : ∀ W, After w W → Calls Try.prog 54 #[.agg #[str s1, .slice a1 n1 c1]] W fun e w' => e = .returned (.int .i64 (a.size : Nat)) ∧ After W w') (hz : f.size + a.size ≤ 1000000000000) :
    Calls Try.prog 54 #[.agg #[str [], .slice (some ⟨g, 0, none⟩) 2 cap]] w fun e w' => e = .returned (.int .i64 ((f.app a).size : Nat)) ∧ After w w' := by
  obtain ⟨hnew, hself, b0, b1, g0, g1, g2, g3⟩ := kid_facts w g cap fr s0 s1 a0 a1 n0 c0 n1 c1 hh
  have hw : IntKind.i64.wrap ((f.size : Int) + (a.size : Int)) = (((f.app a).size : Nat) : Int) := by rw [IntWalk.i64_in _ (by omega)]; simp [Tm.size]
  have HW := Lib.hid hw
  clear hw
  go_enter Try.func54, Try.ntmps54
  go_wp2_with fail
  go_region_held3 (fun W' => After (w.alloc (.cells #[str [], .slice (some ⟨g, 0, none⟩) 2 cap] 41)) W') (first | assumption | exact hself.drew | go_keep)
    (first
      | (go_at_call_of 54 a0; refine (hf _ (hnew.trans (by assumption))).mono ?_; rintro e w1 ⟨rfl, hb1⟩; have hb1' := After.trans (by assumption) hb1)
      | (go_at_call_of 54 a1; refine (ha _ (hnew.trans (by assumption))).mono ?_; rintro e w2 ⟨rfl, hb2⟩; have hb2' := After.trans (by assumption) hb2))
  go_wp2_with fail
  go_ret
  exact ⟨by rw [← HW.out]; rfl, hnew.trans hb2'⟩

theorem ST.size {t : Tm} : ∀ {w : World} {v : Value}, ST w t v → t.good = true → t.size ≤ 1000000000 → Calls Try.prog 54 #[v] w fun e w' => e = .returned (.int .i64 (t.size : Nat)) ∧ After w w' := by
  induction t with
  | k => intro w v h _ _; simp only [ST] at h; subst h; exact size_atom w _ _ (by simp [Tm.text])
  | s => intro w v h _ _; simp only [ST] at h; subst h; exact size_atom w _ _ (by simp [Tm.text])
  | nm n => intro w v h hg _; simp only [ST] at h; subst h; exact size_atom w _ _ (Tm.text_ne _ hg)
  | app f a ihf iha =>
    intro w v h hg hz
    obtain ⟨g, cap, fr, s0, p0, s1, p1, rfl, hh, hf, ha⟩ := h
    simp only [Tm.good, Bool.and_eq_true] at hg
    simp only [Tm.size] at hz
    obtain ⟨x0, a0, n0, c0, e0⟩ := hf.form
    obtain ⟨x1, a1, n1, c1, e1⟩ := ha.form
    simp only [Value.agg.injEq, Array.mk.injEq, List.cons.injEq, and_true] at e0 e1
    obtain ⟨rfl, rfl⟩ := e0
    obtain ⟨rfl, rfl⟩ := e1
    exact size_app w g cap fr x0 x1 a0 a1 n0 c0 n1 c1 f a hh (fun W hW => ihf (hf.later hW) hg.1 (by omega)) (fun W hW => iha (ha.later hW) hg.2 (by omega)) (by omega)
