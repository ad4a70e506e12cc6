/-
  How a term of the model lies in memory; its size, depth and text.
-/
import Derived.Test.YtmkmladlpgfniaaPkRep
namespace Go.Proofs.Ytmkmladlpgfniaa
open Go.RowKit

set_option maxHeartbeats 400000
set_option maxRecDepth 100000

/-- W is w but for new blocks. -/
def After (w W : World) : Prop := Below w.heap.size w W

theorem After.refl (w : World) : After w w := Below.refl _ _
theorem After.trans {a b c : World} (h : After a b) (g : After b c) : After a c := below_trans h g
theorem After.drew {a b : World} (h : After a b) : After a b.drew := Below.drew h
theorem After.alloc {a b : World} (h : After a b) (o : Obj) : After a (b.alloc o) := below_alloc h o
theorem After.new (w : World) (o : Obj) : After w (w.alloc o) := (After.refl w).alloc o
theorem After.heap {w W : World} {b : Nat} {o : Obj} (hb : After w W) (h : w.heap[b]? = some o) : W.heap[b]? = some o := heap_later h hb
theorem After.cell {w W : World} {b i : Nat} {v : Value} (hb : After w W) (h : w.cell? ⟨b, i, none⟩ = some v) : W.cell? ⟨b, i, none⟩ = some v := cell_later' h W hb

theorem heap_new' (w : World) (o : Obj) : (w.alloc o).heap[w.heap.size]? = some o := by
  show (w.heap.push _)[_]? = _
  simp

/-- The value v is the term t as the model has it. -/
def ST (w : World) : Tm → Value → Prop
  | .app f a, v => ∃ g cap fr s0 p0 s1 p1, v = .agg #[str [], .slice (some ⟨g, 0, none⟩) 2 cap] ∧ w.heap[g]? = some (.cells #[s0, p0, s1, p1] 46 fr) ∧ ST w f (.agg #[s0, p0]) ∧ ST w a (.agg #[s1, p1])
  | t, v => v = .agg #[str t.text, .slice none 0 0]

theorem ST.later {w W : World} (hb : After w W) : ∀ {t : Tm} {v : Value}, ST w t v → ST W t v
  | .k, _, h => h
  | .s, _, h => h
  | .nm _, _, h => h
  | .app _ _, _, ⟨g, cap, fr, s0, p0, s1, p1, hv, hh, hf, ha⟩ => ⟨g, cap, fr, s0, p0, s1, p1, hv, hb.heap hh, hf.later hb, ha.later hb⟩

theorem ST.form {w : World} {t : Tm} {v : Value} (h : ST w t v) : ∃ s ao n c, v = .agg #[str s, .slice ao n c] := by
  cases t with
  | app f a => obtain ⟨g, cap, fr, s0, p0, s1, p1, rfl, _⟩ := h; exact ⟨_, _, _, _, rfl⟩
  | k => exact ⟨_, _, _, _, h⟩
  | s => exact ⟨_, _, _, _, h⟩
  | nm n => exact ⟨_, _, _, _, h⟩

theorem size_atom (w : World) (s : List UInt8) (v : Value) (hs : s ≠ []) :
    Calls Try.prog 65 #[.agg #[str s, v]] w fun e w' => e = .returned (.int .i64 1) ∧ After w w' := by
  have he : s.isEmpty = false := by cases s with | nil => exact absurd rfl hs | cons => rfl
  clear hs
  go_enter Try.func65, Try.ntmps65
  go_wp2_with fail
  go_ret
  exact ⟨rfl, After.new _ _⟩

/-- What is known behind the box of a tree with two parts. -/
theorem kid_facts (w : World) (g cap : Nat) (fr : Nat × Nat) (s0 s1 : List UInt8) (a0 a1 : Option Addr) (n0 c0 n1 c1 : Nat) (hh : w.heap[g]? = some (.cells #[str s0, .slice a0 n0 c0, str s1, .slice a1 n1 c1] 46 fr)) :
    After w (w.alloc (.cells #[str [], .slice (some ⟨g, 0, none⟩) 2 cap] 46)) ∧ After (w.alloc (.cells #[str [], .slice (some ⟨g, 0, none⟩) 2 cap] 46)) (w.alloc (.cells #[str [], .slice (some ⟨g, 0, none⟩) 2 cap] 46)) ∧
    (∀ W, After (w.alloc (.cells #[str [], .slice (some ⟨g, 0, none⟩) 2 cap] 46)) W → W.cell? ⟨w.heap.size, 0, none⟩ = some (str [])) ∧
    (∀ W, After (w.alloc (.cells #[str [], .slice (some ⟨g, 0, none⟩) 2 cap] 46)) W → W.cell? ⟨w.heap.size, 1, none⟩ = some (.slice (some ⟨g, 0, none⟩) 2 cap)) ∧
    (∀ W, After (w.alloc (.cells #[str [], .slice (some ⟨g, 0, none⟩) 2 cap] 46)) W → W.cell? ⟨g, 0, none⟩ = some (str s0)) ∧
    (∀ W, After (w.alloc (.cells #[str [], .slice (some ⟨g, 0, none⟩) 2 cap] 46)) W → W.cell? ⟨g, 1, none⟩ = some (.slice a0 n0 c0)) ∧
    (∀ W, After (w.alloc (.cells #[str [], .slice (some ⟨g, 0, none⟩) 2 cap] 46)) W → W.cell? ⟨g, 2, none⟩ = some (str s1)) ∧
    (∀ W, After (w.alloc (.cells #[str [], .slice (some ⟨g, 0, none⟩) 2 cap] 46)) W → W.cell? ⟨g, 3, none⟩ = some (.slice a1 n1 c1)) := by
  have hnew := After.new w (.cells #[str [], .slice (some ⟨g, 0, none⟩) 2 cap] 46)
  have hbox := heap_new' w (.cells #[str [], .slice (some ⟨g, 0, none⟩) 2 cap] 46)
  exact ⟨hnew, After.refl _, fun W hW => hW.cell (cell_of_heap hbox), fun W hW => hW.cell (cell_of_heap hbox), fun W hW => (hnew.trans hW).cell (cell_of_heap hh), fun W hW => (hnew.trans hW).cell (cell_of_heap hh), fun W hW => (hnew.trans hW).cell (cell_of_heap hh), fun W hW => (hnew.trans hW).cell (cell_of_heap hh)⟩

theorem size_app (w : World) (g cap : Nat) (fr : Nat × Nat) (s0 s1 : List UInt8) (a0 a1 : Option Addr) (n0 c0 n1 c1 : Nat) (f a : Tm) (hh : w.heap[g]? = some (.cells #[str s0, .slice a0 n0 c0, str s1, .slice a1 n1 c1] 46 fr))
    (hf : ∀ W, After w W → Calls Try.prog 65 #[.agg #[str s0, .slice a0 n0 c0]] W fun e w' => e = .returned (.int .i64 (f.size : Nat)) ∧ After W w')
    (ha : ∀ W, After w W → Calls Try.prog 65 #[.agg #[str s1, .slice a1 n1 c1]] W fun e w' => e = .returned (.int .i64 (a.size : Nat)) ∧ After W w') (hz : f.size + a.size ≤ 1000000000000) :
    Calls Try.prog 65 #[.agg #[str [], .slice (some ⟨g, 0, none⟩) 2 cap]] w fun e w' => e = .returned (.int .i64 ((f.app a).size : Nat)) ∧ After w w' := by
  obtain ⟨hnew, hself, b0, b1, g0, g1, g2, g3⟩ := kid_facts w g cap fr s0 s1 a0 a1 n0 c0 n1 c1 hh
  have hw : IntKind.i64.wrap ((f.size : Int) + (a.size : Int)) = (((f.app a).size : Nat) : Int) := by rw [IntWalk.i64_in _ (by omega)]; simp [Tm.size]
  have HW := Lib.hid hw
  clear hw
  go_enter Try.func65, Try.ntmps65
  go_wp2_with fail
  go_region_held3 (fun W' => After (w.alloc (.cells #[str [], .slice (some ⟨g, 0, none⟩) 2 cap] 46)) W') (first | assumption | exact hself.drew | go_keep)
    (first
      | (go_at_call_of 65 a0; refine (hf _ (hnew.trans (by assumption))).mono ?_; rintro e w1 ⟨rfl, hb1⟩; have hb1' := After.trans (by assumption) hb1)
      | (go_at_call_of 65 a1; refine (ha _ (hnew.trans (by assumption))).mono ?_; rintro e w2 ⟨rfl, hb2⟩; have hb2' := After.trans (by assumption) hb2))
  go_wp2_with fail
  go_ret
  exact ⟨by rw [← HW.out]; rfl, hnew.trans hb2'⟩

theorem ST.size {t : Tm} : ∀ {w : World} {v : Value}, ST w t v → t.good = true → t.size ≤ 1000000000 → Calls Try.prog 65 #[v] w fun e w' => e = .returned (.int .i64 (t.size : Nat)) ∧ After w w' := by
  induction t with
  | k => intro w v h _ _; simp only [ST] at h; subst h; exact size_atom w _ _ (by simp [Tm.text])
  | s => intro w v h _ _; simp only [ST] at h; subst h; exact size_atom w _ _ (by simp [Tm.text])
  | nm n => intro w v h hg _; simp only [ST] at h; subst h; exact size_atom w _ _ (Tm.text_ne _ hg)
  | app f a ihf iha =>
    intro w v h hg hz
    obtain ⟨g, cap, fr, s0, p0, s1, p1, rfl, hh, hf, ha⟩ := h
    simp only [Tm.good, Bool.and_eq_true] at hg
    simp only [Tm.size] at hz
    obtain ⟨x0, a0, n0, c0, e0⟩ := hf.form
    obtain ⟨x1, a1, n1, c1, e1⟩ := ha.form
    simp only [Value.agg.injEq, Array.mk.injEq, List.cons.injEq, and_true] at e0 e1
    obtain ⟨rfl, rfl⟩ := e0
    obtain ⟨rfl, rfl⟩ := e1
    exact size_app w g cap fr x0 x1 a0 a1 n0 c0 n1 c1 f a hh (fun W hW => ihf (hf.later hW) hg.1 (by omega)) (fun W hW => iha (ha.later hW) hg.2 (by omega)) (by omega)
end Go.Proofs.Ytmkmladlpgfniaa

namespace Go.Proofs.Ytmkmladlpgfniaa
open Go.RowKit

set_option maxHeartbeats 400000
set_option maxRecDepth 100000

theorem deep_atom (w : World) (s : List UInt8) (v : Value) (hs : s ≠ []) :
    Calls Try.prog 101 #[.agg #[str s, v]] w fun e w' => e = .returned (.int .i64 0) ∧ After w w' := by
  have he : s.isEmpty = false := by cases s with | nil => exact absurd rfl hs | cons => rfl
  clear hs
  go_enter Try.func101, Try.ntmps101
  go_wp2_with fail
  go_ret
  exact ⟨rfl, After.new _ _⟩

theorem deep_app (w : World) (g cap : Nat) (fr : Nat × Nat) (s0 s1 : List UInt8) (a0 a1 : Option Addr) (n0 c0 n1 c1 : Nat) (f a : Tm) (hh : w.heap[g]? = some (.cells #[str s0, .slice a0 n0 c0, str s1, .slice a1 n1 c1] 46 fr))
    (hf : ∀ W, After w W → Calls Try.prog 101 #[.agg #[str s0, .slice a0 n0 c0]] W fun e w' => e = .returned (.int .i64 (f.depth : Nat)) ∧ After W w')
    (ha : ∀ W, After w W → Calls Try.prog 101 #[.agg #[str s1, .slice a1 n1 c1]] W fun e w' => e = .returned (.int .i64 (a.depth : Nat)) ∧ After W w') (hz : f.depth + a.depth ≤ 1000000000000) :
    Calls Try.prog 101 #[.agg #[str [], .slice (some ⟨g, 0, none⟩) 2 cap]] w fun e w' => e = .returned (.int .i64 ((f.app a).depth : Nat)) ∧ After w w' := by
  obtain ⟨hnew, hself, b0, b1, g0, g1, g2, g3⟩ := kid_facts w g cap fr s0 s1 a0 a1 n0 c0 n1 c1 hh
  have hdd : (((f.app a).depth : Nat) : Int) = 1 + max (f.depth : Int) (a.depth : Int) := by simp only [Tm.depth]; omega
  rw [hdd]
  clear hdd
  have hw1 : IntKind.i64.wrap (1 + (f.depth : Int)) = 1 + (f.depth : Int) := IntWalk.i64_in _ (by omega)
  have hw2 : IntKind.i64.wrap (1 + (a.depth : Int)) = 1 + (a.depth : Int) := IntWalk.i64_in _ (by omega)
  have HD := Lib.hid hz
  go_enter Try.func101, Try.ntmps101
  go_wp2_with fail
  go_region_held3 (fun W' => After (w.alloc (.cells #[str [], .slice (some ⟨g, 0, none⟩) 2 cap] 46)) W') (first | assumption | exact hself.drew | go_keep)
    (first
      | (go_at_call_of 101 a0; refine (hf _ (hnew.trans (by assumption))).mono ?_; rintro e w1 ⟨rfl, hb1⟩; have hb1' := After.trans (by assumption) hb1)
      | (go_at_call_of 101 a1; refine (ha _ (hnew.trans (by assumption))).mono ?_; rintro e w2 ⟨rfl, hb2⟩; have hb2' := After.trans (by assumption) hb2))
  go_wp2_with fail
  all_goals
    go_ret
    exact ⟨congrArg Ending.returned (congrArg (Value.int .i64) (by omega)), hnew.trans hb2'⟩

theorem text_atom (w : World) (s : List UInt8) (v : Value) (hs : s ≠ []) :
    Calls Try.prog 47 #[.agg #[str s, v]] w fun e w' => e = .returned (str s) ∧ After w w' := by
  have he : s.isEmpty = false := by cases s with | nil => exact absurd rfl hs | cons => rfl
  clear hs
  go_enter Try.func47, Try.ntmps47
  go_wp2_with fail
  go_ret
  exact ⟨rfl, After.new _ _⟩

theorem cat (a b : ByteArray) (h : a.size + b.size ≤ 1000000000000) : ∃ c : ByteArray, c.data.toList = a.data.toList ++ b.data.toList ∧ c.size = a.size + b.size ∧ ∀ W, (Op.stringOp .add a b).run Try.prog W = .ok (.string c) W :=
  ⟨a ++ b, by simp, by simp, fun W => run_string_add_sum W a b (by omega)⟩

theorem text_app (w : World) (g cap : Nat) (fr : Nat × Nat) (s0 s1 : List UInt8) (a0 a1 : Option Addr) (n0 c0 n1 c1 : Nat) (f a : Tm) (hh : w.heap[g]? = some (.cells #[str s0, .slice a0 n0 c0, str s1, .slice a1 n1 c1] 46 fr))
    (hf : ∀ W, After w W → Calls Try.prog 47 #[.agg #[str s0, .slice a0 n0 c0]] W fun e w' => e = .returned (str f.text) ∧ After W w')
    (ha : ∀ W, After w W → Calls Try.prog 47 #[.agg #[str s1, .slice a1 n1 c1]] W fun e w' => e = .returned (str a.text) ∧ After W w') (hz : f.text.length + a.text.length ≤ 1000000000) :
    Calls Try.prog 47 #[.agg #[str [], .slice (some ⟨g, 0, none⟩) 2 cap]] w fun e w' => e = .returned (str (f.app a).text) ∧ After w w' := by
  obtain ⟨hnew, hself, b0, b1, g0, g1, g2, g3⟩ := kid_facts w g cap fr s0 s1 a0 a1 n0 c0 n1 c1 hh
  have zf : (⟨f.text.toArray⟩ : ByteArray).size = f.text.length := by show f.text.toArray.size = _; simp
  have za : (⟨a.text.toArray⟩ : ByteArray).size = a.text.length := by show a.text.toArray.size = _; simp
  have q1 : (⟨#[40]⟩ : ByteArray).size = 1 := rfl
  have q2 : (⟨#[32]⟩ : ByteArray).size = 1 := rfl
  have q3 : (⟨#[41]⟩ : ByteArray).size = 1 := rfl
  obtain ⟨t1, l1, z1, e1⟩ := cat ⟨#[40]⟩ ⟨f.text.toArray⟩ (by omega)
  obtain ⟨t2, l2, z2, e2⟩ := cat t1 ⟨#[32]⟩ (by omega)
  obtain ⟨t3, l3, z3, e3⟩ := cat t2 ⟨a.text.toArray⟩ (by omega)
  obtain ⟨t4, l4, z4, e4⟩ := cat t3 ⟨#[41]⟩ (by omega)
  have hfin : str (f.app a).text = .string t4 := by
    refine congrArg Value.string (ByteArray.ext (Array.ext' ?_))
    rw [l4, l3, l2, l1]
    simp [Tm.text]
  rw [hfin]
  clear hfin zf za q1 q2 q3 l1 l2 l3 l4 z1 z2 z3 z4

  go_enter Try.func47, Try.ntmps47
  go_wp2_with fail
  go_region_held3 (fun W' => After (w.alloc (.cells #[str [], .slice (some ⟨g, 0, none⟩) 2 cap] 46)) W') (first | assumption | exact hself.drew | go_keep)
    (first
      | (go_at_call_of 47 a0; refine (hf _ (hnew.trans (by assumption))).mono ?_; rintro e w1 ⟨rfl, hb1⟩; have hb1' := After.trans (by assumption) hb1)
      | (go_at_call_of 47 a1; refine (ha _ (hnew.trans (by assumption))).mono ?_; rintro e w2 ⟨rfl, hb2⟩; have hb2' := After.trans (by assumption) hb2))
  go_wp2_with fail
  go_ret
  exact ⟨rfl, hnew.trans hb2'⟩

theorem ST.deep {t : Tm} : ∀ {w : World} {v : Value}, ST w t v → t.good = true → t.size ≤ 1000000000 → Calls Try.prog 101 #[v] w fun e w' => e = .returned (.int .i64 (t.depth : Nat)) ∧ After w w' := by
  induction t with
  | k => intro w v h _ _; simp only [ST] at h; subst h; exact deep_atom w _ _ (by simp [Tm.text])
  | s => intro w v h _ _; simp only [ST] at h; subst h; exact deep_atom w _ _ (by simp [Tm.text])
  | nm n => intro w v h hg _; simp only [ST] at h; subst h; exact deep_atom w _ _ (Tm.text_ne _ hg)
  | app f a ihf iha =>
    intro w v h hg hz
    obtain ⟨g, cap, fr, s0, p0, s1, p1, rfl, hh, hf, ha⟩ := h
    simp only [Tm.good, Bool.and_eq_true] at hg
    have d1 := Tm.depth_lt f; have d2 := Tm.depth_lt a; simp only [Tm.size] at hz
    obtain ⟨x0, a0, n0, c0, e0⟩ := hf.form
    obtain ⟨x1, a1, n1, c1, e1⟩ := ha.form
    simp only [Value.agg.injEq, Array.mk.injEq, List.cons.injEq, and_true] at e0 e1
    obtain ⟨rfl, rfl⟩ := e0
    obtain ⟨rfl, rfl⟩ := e1
    exact deep_app w g cap fr x0 x1 a0 a1 n0 c0 n1 c1 f a hh (fun W hW => ihf (hf.later hW) hg.1 (by omega)) (fun W hW => iha (ha.later hW) hg.2 (by omega)) (by omega)

theorem ST.text {t : Tm} : ∀ {w : World} {v : Value}, ST w t v → t.good = true → t.text.length ≤ 100000000 → Calls Try.prog 47 #[v] w fun e w' => e = .returned (str t.text) ∧ After w w' := by
  induction t with
  | k => intro w v h _ _; simp only [ST] at h; subst h; exact text_atom w _ _ (by simp [Tm.text])
  | s => intro w v h _ _; simp only [ST] at h; subst h; exact text_atom w _ _ (by simp [Tm.text])
  | nm n => intro w v h hg _; simp only [ST] at h; subst h; exact text_atom w _ _ (Tm.text_ne _ hg)
  | app f a ihf iha =>
    intro w v h hg hz
    obtain ⟨g, cap, fr, s0, p0, s1, p1, rfl, hh, hf, ha⟩ := h
    simp only [Tm.good, Bool.and_eq_true] at hg
    simp only [Tm.text, List.length_cons, List.length_append, List.length_nil] at hz
    obtain ⟨x0, a0, n0, c0, e0⟩ := hf.form
    obtain ⟨x1, a1, n1, c1, e1⟩ := ha.form
    simp only [Value.agg.injEq, Array.mk.injEq, List.cons.injEq, and_true] at e0 e1
    obtain ⟨rfl, rfl⟩ := e0
    obtain ⟨rfl, rfl⟩ := e1
    exact text_app w g cap fr x0 x1 a0 a1 n0 c0 n1 c1 f a hh (fun W hW => ihf (hf.later hW) hg.1 (by omega)) (fun W hW => iha (ha.later hW) hg.2 (by omega)) (by omega)

theorem ST.fine {t : Tm} {w : World} {v : Value} (h : ST w t v) (hg : t.good = true) (hz : t.size ≤ 1000000000) :
    Calls Try.prog 86 #[v] w fun e w' => e = .returned (.bool t.fits) ∧ After w w' := by
  obtain ⟨x, ao, n, c, rfl⟩ := h.form
  have hnew := After.new w (.cells #[str x, .slice ao n c] 46)
  have hbox := heap_new' w (.cells #[str x, .slice ao n c] 46)
  have b0 : ∀ W, After (w.alloc (.cells #[str x, .slice ao n c] 46)) W → W.cell? ⟨w.heap.size, 0, none⟩ = some (str x) := fun W hW => hW.cell (cell_of_heap hbox)
  have b1 : ∀ W, After (w.alloc (.cells #[str x, .slice ao n c] 46)) W → W.cell? ⟨w.heap.size, 1, none⟩ = some (.slice ao n c) := fun W hW => hW.cell (cell_of_heap hbox)
  have hself := After.refl (w.alloc (.cells #[str x, .slice ao n c] 46))
  have hsize : ∀ W, After (w.alloc (.cells #[str x, .slice ao n c] 46)) W → Calls Try.prog 65 #[.agg #[str x, .slice ao n c]] W fun e w' => e = .returned (.int .i64 (t.size : Nat)) ∧ After (w.alloc (.cells #[str x, .slice ao n c] 46)) w' :=
    fun W hW => ((h.later (hnew.trans hW)).size hg hz).mono fun e w' ⟨he, hb⟩ => ⟨he, hW.trans hb⟩
  have hdeep : ∀ W, After (w.alloc (.cells #[str x, .slice ao n c] 46)) W → Calls Try.prog 101 #[.agg #[str x, .slice ao n c]] W fun e w' => e = .returned (.int .i64 (t.depth : Nat)) ∧ After (w.alloc (.cells #[str x, .slice ao n c] 46)) w' :=
    fun W hW => ((h.later (hnew.trans hW)).deep hg hz).mono fun e w' ⟨he, hb⟩ => ⟨he, hW.trans hb⟩
  clear hbox
  by_cases h1 : t.size ≤ 3000
  · by_cases h2 : t.depth ≤ 1500
    · have hf : t.fits = true := by simp [Tm.fits, h1, h2]
      rw [hf]
      clear hf
      go_enter Try.func86, Try.ntmps86
      go_wp2_with (first
        | (go_at_call 65; refine (hsize _ (by assumption)).mono ?_; rintro e w1 ⟨rfl, hb⟩)
        | (go_at_call 101; refine (hdeep _ (by assumption)).mono ?_; rintro e w1 ⟨rfl, hb⟩))
      go_ret
      exact ⟨by simp; omega, hnew.trans hb⟩
    · have hf : t.fits = false := by simp [Tm.fits, h2]
      rw [hf]
      clear hf
      go_enter Try.func86, Try.ntmps86
      go_wp2_with (first
        | (go_at_call 65; refine (hsize _ (by assumption)).mono ?_; rintro e w1 ⟨rfl, hb⟩)
        | (go_at_call 101; refine (hdeep _ (by assumption)).mono ?_; rintro e w1 ⟨rfl, hb⟩))
      go_ret
      exact ⟨by simp; omega, hnew.trans hb⟩
  · have hf : t.fits = false := by simp [Tm.fits, h1]
    rw [hf]
    clear hf
    go_enter Try.func86, Try.ntmps86
    go_wp2_with (first
      | (go_at_call 65; refine (hsize _ (by assumption)).mono ?_; rintro e w1 ⟨rfl, hb⟩)
      | (go_at_call 101; refine (hdeep _ (by assumption)).mono ?_; rintro e w1 ⟨rfl, hb⟩))
    go_ret
    exact ⟨by simp, hnew.trans hb⟩
end Go.Proofs.Ytmkmladlpgfniaa
