/-
  From the walk of a law over one text to its row.
-/
import Derived.Test.YtjomocjlnjgkeaaRows
import Derived.Test.YtjomocjlnjgkeaaPkAC
import Derived.ProofKit
import Derived.WalkKit
namespace Go.Proofs.Ytjomocjlnjgkeaa
open Go.ChangeShapes Go.WideShapes Go.ChangeAt Go.RowKit
open Go.ChangeMaps (open_string shut_string)

theorem own_knob : ownKnob Try.prog.godebug = none := by kernel_rfl

theorem ba_list (s : ByteArray) : Value.string s = str s.data.toList := by
  show Value.string s = Value.string ⟨s.data.toList.toArray⟩
  cases s
  simp
end Go.Proofs.Ytjomocjlnjgkeaa

namespace Go.Proofs.Ytjomocjlnjgkeaa
open Go.RowKit

set_option maxHeartbeats 400000
set_option maxRecDepth 100000

theorem deep_atom (w : World) (s : List UInt8) (v : Value) (hs : s ≠ []) :
    Calls Try.prog 103 #[.agg #[str s, v]] w fun e w' => e = .returned (.int .i64 0) ∧ After w w' := by
  have he : s.isEmpty = false := by cases s with | nil => exact absurd rfl hs | cons => rfl
  clear hs
  go_enter Try.func103, Try.ntmps103
  go_wp2_with fail
  go_ret
  exact ⟨rfl, After.new _ _⟩

theorem deep_app (w : World) (g cap : Nat) (fr : Nat × Nat) (s0 s1 : List UInt8) (a0 a1 : Option Addr) (n0 c0 n1 c1 : Nat) (f a : Tm) (hh : w.heap[g]? = some (.cells #[str s0, .slice a0 n0 c0, str s1, .slice a1 n1 c1] 40 fr))
    (hf : ∀ W, After w W → Calls Try.prog 103 #[.agg #[str s0, .slice a0 n0 c0]] W fun e w' => e = .returned (.int .i64 (f.depth : Nat)) ∧ After W w')
    (ha : ∀ W, After w W → Calls Try.prog 103 #[.agg #[str s1, .slice a1 n1 c1]] W fun e w' => e = .returned (.int .i64 (a.depth : Nat)) ∧ After W w') (hz : f.depth + a.depth ≤ 1000000000000) :
    Calls Try.prog 103 #[.agg #[str [], .slice (some ⟨g, 0, none⟩) 2 cap]] w fun e w' => e = .returned (.int .i64 ((f.app a).depth : Nat)) ∧ After w w' := by
  obtain ⟨hnew, hself, b0, b1, g0, g1, g2, g3⟩ := kid_facts w g cap fr s0 s1 a0 a1 n0 c0 n1 c1 hh
  have hdd : (((f.app a).depth : Nat) : Int) = 1 + max (f.depth : Int) (a.depth : Int) := by simp only [Tm.depth]; omega
  rw [hdd]
  clear hdd
  have hw1 : IntKind.i64.wrap (1 + (f.depth : Int)) = 1 + (f.depth : Int) := IntWalk.i64_in _ (by omega)
  have hw2 : IntKind.i64.wrap (1 + (a.depth : Int)) = 1 + (a.depth : Int) := IntWalk.i64_in _ (by omega)
  have HD := Lib.hid hz
  go_enter Try.func103, Try.ntmps103
  go_wp2_with fail
  go_region_held3 (fun W' => After (w.alloc (.cells #[str [], .slice (some ⟨g, 0, none⟩) 2 cap] 40)) W') (first | assumption | exact hself.drew | go_keep)
    (first
      | (go_at_call_of 103 a0; refine (hf _ (hnew.trans (by assumption))).mono ?_; rintro e w1 ⟨rfl, hb1⟩; have hb1' := After.trans (by assumption) hb1)
      | (go_at_call_of 103 a1; refine (ha _ (hnew.trans (by assumption))).mono ?_; rintro e w2 ⟨rfl, hb2⟩; have hb2' := After.trans (by assumption) hb2))
  go_wp2_with fail
  all_goals
    go_ret
    exact ⟨congrArg Ending.returned (congrArg (Value.int .i64) (by omega)), hnew.trans hb2'⟩

theorem text_atom (w : World) (s : List UInt8) (v : Value) (hs : s ≠ []) :
    Calls Try.prog 33 #[.agg #[str s, v]] w fun e w' => e = .returned (str s) ∧ After w w' := by
  have he : s.isEmpty = false := by cases s with | nil => exact absurd rfl hs | cons => rfl
  clear hs
  go_enter Try.func33, Try.ntmps33
  go_wp2_with fail
  go_ret
  exact ⟨rfl, After.new _ _⟩

theorem cat (a b : ByteArray) (h : a.size + b.size ≤ 1000000000000) : ∃ c : ByteArray, c.data.toList = a.data.toList ++ b.data.toList ∧ c.size = a.size + b.size ∧ ∀ W, (Op.stringOp .add a b).run Try.prog W = .ok (.string c) W :=
  ⟨a ++ b, by simp, by simp, fun W => run_string_add_sum W a b (by omega)⟩

theorem text_app (w : World) (g cap : Nat) (fr : Nat × Nat) (s0 s1 : List UInt8) (a0 a1 : Option Addr) (n0 c0 n1 c1 : Nat) (f a : Tm) (hh : w.heap[g]? = some (.cells #[str s0, .slice a0 n0 c0, str s1, .slice a1 n1 c1] 40 fr))
    (hf : ∀ W, After w W → Calls Try.prog 33 #[.agg #[str s0, .slice a0 n0 c0]] W fun e w' => e = .returned (str f.text) ∧ After W w')
    (ha : ∀ W, After w W → Calls Try.prog 33 #[.agg #[str s1, .slice a1 n1 c1]] W fun e w' => e = .returned (str a.text) ∧ After W w') (hz : f.text.length + a.text.length ≤ 1000000000) :
    Calls Try.prog 33 #[.agg #[str [], .slice (some ⟨g, 0, none⟩) 2 cap]] w fun e w' => e = .returned (str (f.app a).text) ∧ After w w' := by
  obtain ⟨hnew, hself, b0, b1, g0, g1, g2, g3⟩ := kid_facts w g cap fr s0 s1 a0 a1 n0 c0 n1 c1 hh
  have zf : (⟨f.text.toArray⟩ : ByteArray).size = f.text.length := by show f.text.toArray.size = _; simp
  have za : (⟨a.text.toArray⟩ : ByteArray).size = a.text.length := by show a.text.toArray.size = _; simp
  have q1 : (⟨#[40]⟩ : ByteArray).size = 1 := rfl
  have q2 : (⟨#[32]⟩ : ByteArray).size = 1 := rfl
  have q3 : (⟨#[41]⟩ : ByteArray).size = 1 := rfl
  obtain ⟨t1, l1, z1, e1⟩ := cat ⟨#[40]⟩ ⟨f.text.toArray⟩ (by omega)
  obtain ⟨t2, l2, z2, e2⟩ := cat t1 ⟨#[32]⟩ (by omega)
  obtain ⟨t3, l3, z3, e3⟩ := cat t2 ⟨a.text.toArray⟩ (by omega)
  obtain ⟨t4, l4, z4, e4⟩ := cat t3 ⟨#[41]⟩ (by omega)
  have hfin : str (f.app a).text = .string t4 := by
    refine congrArg Value.string (ByteArray.ext (Array.ext' ?_))
    rw [l4, l3, l2, l1]
    simp [Tm.text]
  rw [hfin]
  clear hfin zf za q1 q2 q3 l1 l2 l3 l4 z1 z2 z3 z4

  go_enter Try.func33, Try.ntmps33
  go_wp2_with fail
  go_region_held3 (fun W' => After (w.alloc (.cells #[str [], .slice (some ⟨g, 0, none⟩) 2 cap] 40)) W') (first | assumption | exact hself.drew | go_keep)
    (first
      | (go_at_call_of 33 a0; refine (hf _ (hnew.trans (by assumption))).mono ?_; rintro e w1 ⟨rfl, hb1⟩; have hb1' := After.trans (by assumption) hb1)
      | (go_at_call_of 33 a1; refine (ha _ (hnew.trans (by assumption))).mono ?_; rintro e w2 ⟨rfl, hb2⟩; have hb2' := After.trans (by assumption) hb2))
  go_wp2_with fail
  go_ret
  exact ⟨rfl, hnew.trans hb2'⟩

theorem ST.deep {t : Tm} : ∀ {w : World} {v : Value}, ST w t v → t.good = true → t.size ≤ 1000000000 → Calls Try.prog 103 #[v] w fun e w' => e = .returned (.int .i64 (t.depth : Nat)) ∧ After w w' := by
  induction t with
  | k => intro w v h _ _; simp only [ST] at h; subst h; exact deep_atom w _ _ (by simp [Tm.text])
  | s => intro w v h _ _; simp only [ST] at h; subst h; exact deep_atom w _ _ (by simp [Tm.text])
  | nm n => intro w v h hg _; simp only [ST] at h; subst h; exact deep_atom w _ _ (Tm.text_ne _ hg)
  | app f a ihf iha =>
    intro w v h hg hz
    obtain ⟨g, cap, fr, s0, p0, s1, p1, rfl, hh, hf, ha⟩ := h
    simp only [Tm.good, Bool.and_eq_true] at hg
    have d1 := Tm.depth_lt f; have d2 := Tm.depth_lt a; simp only [Tm.size] at hz
    obtain ⟨x0, a0, n0, c0, e0⟩ := hf.form
    obtain ⟨x1, a1, n1, c1, e1⟩ := ha.form
    simp only [Value.agg.injEq, Array.mk.injEq, List.cons.injEq, and_true] at e0 e1
    obtain ⟨rfl, rfl⟩ := e0
    obtain ⟨rfl, rfl⟩ := e1
    exact deep_app w g cap fr x0 x1 a0 a1 n0 c0 n1 c1 f a hh (fun W hW => ihf (hf.later hW) hg.1 (by omega)) (fun W hW => iha (ha.later hW) hg.2 (by omega)) (by omega)

theorem ST.text {t : Tm} : ∀ {w : World} {v : Value}, ST w t v → t.good = true → t.text.length ≤ 100000000 → Calls Try.prog 33 #[v] w fun e w' => e = .returned (str t.text) ∧ After w w' := by
  induction t with
  | k => intro w v h _ _; simp only [ST] at h; subst h; exact text_atom w _ _ (by simp [Tm.text])
  | s => intro w v h _ _; simp only [ST] at h; subst h; exact text_atom w _ _ (by simp [Tm.text])
  | nm n => intro w v h hg _; simp only [ST] at h; subst h; exact text_atom w _ _ (Tm.text_ne _ hg)
  | app f a ihf iha =>
    intro w v h hg hz
    obtain ⟨g, cap, fr, s0, p0, s1, p1, rfl, hh, hf, ha⟩ := h
    simp only [Tm.good, Bool.and_eq_true] at hg
    simp only [Tm.text, List.length_cons, List.length_append, List.length_nil] at hz
    obtain ⟨x0, a0, n0, c0, e0⟩ := hf.form
    obtain ⟨x1, a1, n1, c1, e1⟩ := ha.form
    simp only [Value.agg.injEq, Array.mk.injEq, List.cons.injEq, and_true] at e0 e1
    obtain ⟨rfl, rfl⟩ := e0
    obtain ⟨rfl, rfl⟩ := e1
    exact text_app w g cap fr x0 x1 a0 a1 n0 c0 n1 c1 f a hh (fun W hW => ihf (hf.later hW) hg.1 (by omega)) (fun W hW => iha (ha.later hW) hg.2 (by omega)) (by omega)

theorem ST.fine {t : Tm} {w : World} {v : Value} (h : ST w t v) (hg : t.good = true) (hz : t.size ≤ 1000000000) :
    Calls Try.prog 87 #[v] w fun e w' => e = .returned (.bool t.fits) ∧ After w w' := by
  obtain ⟨x, ao, n, c, rfl⟩ := h.form
  have hnew := After.new w (.cells #[str x, .slice ao n c] 40)
  have hbox := heap_new' w (.cells #[str x, .slice ao n c] 40)
  have b0 : ∀ W, After (w.alloc (.cells #[str x, .slice ao n c] 40)) W → W.cell? ⟨w.heap.size, 0, none⟩ = some (str x) := fun W hW => hW.cell (cell_of_heap hbox)
  have b1 : ∀ W, After (w.alloc (.cells #[str x, .slice ao n c] 40)) W → W.cell? ⟨w.heap.size, 1, none⟩ = some (.slice ao n c) := fun W hW => hW.cell (cell_of_heap hbox)
  have hself := After.refl (w.alloc (.cells #[str x, .slice ao n c] 40))
  have hsize : ∀ W, After (w.alloc (.cells #[str x, .slice ao n c] 40)) W → Calls Try.prog 55 #[.agg #[str x, .slice ao n c]] W fun e w' => e = .returned (.int .i64 (t.size : Nat)) ∧ After (w.alloc (.cells #[str x, .slice ao n c] 40)) w' :=
    fun W hW => ((h.later (hnew.trans hW)).size hg hz).mono fun e w' ⟨he, hb⟩ => ⟨he, hW.trans hb⟩
  have hdeep : ∀ W, After (w.alloc (.cells #[str x, .slice ao n c] 40)) W → Calls Try.prog 103 #[.agg #[str x, .slice ao n c]] W fun e w' => e = .returned (.int .i64 (t.depth : Nat)) ∧ After (w.alloc (.cells #[str x, .slice ao n c] 40)) w' :=
    fun W hW => ((h.later (hnew.trans hW)).deep hg hz).mono fun e w' ⟨he, hb⟩ => ⟨he, hW.trans hb⟩
  clear hbox
  by_cases h1 : t.size ≤ 3000
  · by_cases h2 : t.depth ≤ 1500
    · have hf : t.fits = true := by simp [Tm.fits, h1, h2]
      rw [hf]
      clear hf
      go_enter Try.func87, Try.ntmps87
      go_wp2_with (first
        | (go_at_call 55; refine (hsize _ (by assumption)).mono ?_; rintro e w1 ⟨rfl, hb⟩)
        | (go_at_call 103; refine (hdeep _ (by assumption)).mono ?_; rintro e w1 ⟨rfl, hb⟩))
      go_ret
      exact ⟨by simp; omega, hnew.trans hb⟩
    · have hf : t.fits = false := by simp [Tm.fits, h2]
      rw [hf]
      clear hf
      go_enter Try.func87, Try.ntmps87
      go_wp2_with (first
        | (go_at_call 55; refine (hsize _ (by assumption)).mono ?_; rintro e w1 ⟨rfl, hb⟩)
        | (go_at_call 103; refine (hdeep _ (by assumption)).mono ?_; rintro e w1 ⟨rfl, hb⟩))
      go_ret
      exact ⟨by simp; omega, hnew.trans hb⟩
  · have hf : t.fits = false := by simp [Tm.fits, h1]
    rw [hf]
    clear hf
    go_enter Try.func87, Try.ntmps87
    go_wp2_with (first
      | (go_at_call 55; refine (hsize _ (by assumption)).mono ?_; rintro e w1 ⟨rfl, hb⟩)
      | (go_at_call 103; refine (hdeep _ (by assumption)).mono ?_; rintro e w1 ⟨rfl, hb⟩))
    go_ret
    exact ⟨by simp, hnew.trans hb⟩
end Go.Proofs.Ytjomocjlnjgkeaa
