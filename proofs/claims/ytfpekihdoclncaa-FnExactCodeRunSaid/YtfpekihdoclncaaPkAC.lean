/-
  From the walk of a law over one text to its row.
-/
import Derived.Test.YtfpekihdoclncaaRows
import Derived.Test.YtfpekihdoclncaaPkAB
import Derived.ProofKit
import Derived.WalkKit
namespace Go.Proofs.Ytfpekihdoclncaa
open Go.ChangeShapes Go.WideShapes Go.ChangeAt Go.RowKit
open Go.ChangeMaps (open_string shut_string)

theorem own_knob : ownKnob Try.prog.godebug = none := by kernel_rfl

theorem ba_list (s : ByteArray) : Value.string s = str s.data.toList := by
  show Value.string s = Value.string ⟨s.data.toList.toArray⟩
  cases s
  simp
end Go.Proofs.Ytfpekihdoclncaa

namespace Go.Proofs.Ytfpekihdoclncaa
open Go.RowKit

set_option maxHeartbeats 400000
set_option maxRecDepth 100000

theorem deep_atom (w : World) (s : List UInt8) (v : Value) (hs : s ≠ []) :
    Calls Try.prog 81 #[.agg #[str s, v]] w fun e w' => e = .returned (.int .i64 0) ∧ After w w' := by
  have he : s.isEmpty = false := by cases s with | nil => exact absurd rfl hs | cons => rfl
  clear hs
  go_enter Try.func81, Try.ntmps81
  go_wp2_with fail
  go_ret
  exact ⟨rfl, After.new _ _⟩

theorem deep_app (w : World) (g cap : Nat) (fr : Nat × Nat) (s0 s1 : List UInt8) (a0 a1 : Option Addr) (n0 c0 n1 c1 : Nat) (f a : Tm) (hh : w.heap[g]? = some (.cells #[str s0, .slice a0 n0 c0, str s1, .slice a1 n1 c1] 32 fr))
    (hf : ∀ W, After w W → Calls Try.prog 81 #[.agg #[str s0, .slice a0 n0 c0]] W fun e w' => e = .returned (.int .i64 (f.depth : Nat)) ∧ After W w')
    (ha : ∀ W, After w W → Calls Try.prog 81 #[.agg #[str s1, .slice a1 n1 c1]] W fun e w' => e = .returned (.int .i64 (a.depth : Nat)) ∧ After W w') (hz : f.depth + a.depth ≤ 1000000000000) :
    Calls Try.prog 81 #[.agg #[str [], .slice (some ⟨g, 0, none⟩) 2 cap]] w fun e w' => e = .returned (.int .i64 ((f.app a).depth : Nat)) ∧ After w w' := by
  obtain ⟨hnew, hself, b0, b1, g0, g1, g2, g3⟩ := kid_facts w g cap fr s0 s1 a0 a1 n0 c0 n1 c1 hh
  have hdd : (((f.app a).depth : Nat) : Int) = 1 + max (f.depth : Int) (a.depth : Int) := by simp only [Tm.depth]; omega
  rw [hdd]
  clear hdd
  have hw1 : IntKind.i64.wrap (1 + (f.depth : Int)) = 1 + (f.depth : Int) := IntWalk.i64_in _ (by omega)
  have hw2 : IntKind.i64.wrap (1 + (a.depth : Int)) = 1 + (a.depth : Int) := IntWalk.i64_in _ (by omega)
  have HD := Lib.hid hz
  go_enter Try.func81, Try.ntmps81
  go_wp2_with fail
  go_region_held3 (fun W' => After (w.alloc (.cells #[str [], .slice (some ⟨g, 0, none⟩) 2 cap] 32)) W') (first | assumption | exact hself.drew | go_keep)
    (first
      | (go_at_call_of 81 a0; refine (hf _ (hnew.trans (by assumption))).mono ?_; rintro e w1 ⟨rfl, hb1⟩; have hb1' := After.trans (by assumption) hb1)
      | (go_at_call_of 81 a1; refine (ha _ (hnew.trans (by assumption))).mono ?_; rintro e w2 ⟨rfl, hb2⟩; have hb2' := After.trans (by assumption) hb2))
  go_wp2_with fail
  all_goals
    go_ret
    exact ⟨congrArg Ending.returned (congrArg (Value.int .i64) (by omega)), hnew.trans hb2'⟩

theorem text_atom (w : World) (s : List UInt8) (v : Value) (hs : s ≠ []) :
    Calls Try.prog 29 #[.agg #[str s, v]] w fun e w' => e = .returned (str s) ∧ After w w' := by
  have he : s.isEmpty = false := by cases s with | nil => exact absurd rfl hs | cons => rfl
  clear hs
  go_enter Try.func29, Try.ntmps29
  go_wp2_with fail
  go_ret
  exact ⟨rfl, After.new _ _⟩

theorem cat (a b : ByteArray) (h : a.size + b.size ≤ 1000000000000) : ∃ c : ByteArray, c.data.toList = a.data.toList ++ b.data.toList ∧ c.size = a.size + b.size ∧ ∀ W, (Op.stringOp .add a b).run Try.prog W = .ok (.string c) W :=
  ⟨a ++ b, by simp, by simp, fun W => run_string_add_sum W a b (by omega)⟩

theorem text_app (w : World) (g cap : Nat) (fr : Nat × Nat) (s0 s1 : List UInt8) (a0 a1 : Option Addr) (n0 c0 n1 c1 : Nat) (f a : Tm) (hh : w.heap[g]? = some (.cells #[str s0, .slice a0 n0 c0, str s1, .slice a1 n1 c1] 32 fr))
    (hf : ∀ W, After w W → Calls Try.prog 29 #[.agg #[str s0, .slice a0 n0 c0]] W fun e w' => e = .returned (str f.text) ∧ After W w')
    (ha : ∀ W, After w W → Calls Try.prog 29 #[.agg #[str s1, .slice a1 n1 c1]] W fun e w' => e = .returned (str a.text) ∧ After W w') (hz : f.text.length + a.text.length ≤ 1000000000) :
    Calls Try.prog 29 #[.agg #[str [], .slice (some ⟨g, 0, none⟩) 2 cap]] w fun e w' => e = .returned (str (f.app a).text) ∧ After w w' := by
  obtain ⟨hnew, hself, b0, b1, g0, g1, g2, g3⟩ := kid_facts w g cap fr s0 s1 a0 a1 n0 c0 n1 c1 hh
  have zf : (⟨f.text.toArray⟩ : ByteArray).size = f.text.length := by show f.text.toArray.size = _; simp
  have za : (⟨a.text.toArray⟩ : ByteArray).size = a.text.length := by show a.text.toArray.size = _; simp
  have q1 : (⟨#[40]⟩ : ByteArray).size = 1 := rfl
  have q2 : (⟨#[32]⟩ : ByteArray).size = 1 := rfl
  have q3 : (⟨#[41]⟩ : ByteArray).size = 1 := rfl
  obtain ⟨t1, l1, z1, e1⟩ := cat ⟨#[40]⟩ ⟨f.text.toArray⟩ (by omega)
  obtain ⟨t2, l2, z2, e2⟩ := cat t1 ⟨#[32]⟩ (by omega)
  obtain ⟨t3, l3, z3, e3⟩ := cat t2 ⟨a.text.toArray⟩ (by omega)
  obtain ⟨t4, l4, z4, e4⟩ := cat t3 ⟨#[41]⟩ (by omega)
  have hfin : str (f.app a).text = .string t4 := by
    refine congrArg Value.string (ByteArray.ext (Array.ext' ?_))
    rw [l4, l3, l2, l1]
    simp [Tm.text]
  rw [hfin]
  clear hfin zf za q1 q2 q3 l1 l2 l3 l4 z1 z2 z3 z4

  go_enter Try.func29, Try.ntmps29
  go_wp2_with fail
  go_region_held3 (fun W' => After (w.alloc (.cells #[str [], .slice (some ⟨g, 0, none⟩) 2 cap] 32)) W') (first | assumption | exact hself.drew | go_keep)
    (first
      | (go_at_call_of 29 a0; refine (hf _ (hnew.trans (by assumption))).mono ?_; rintro e w1 ⟨rfl, hb1⟩; have hb1' := After.trans (by assumption) hb1)
      | (go_at_call_of 29 a1; refine (ha _ (hnew.trans (by assumption))).mono ?_; rintro e w2 ⟨rfl, hb2⟩; have hb2' := After.trans (by assumption) hb2))
  go_wp2_with fail
  go_ret
  exact ⟨rfl, hnew.trans hb2'⟩

theorem ST.deep {t : Tm} : ∀ {w : World} {v : Value}, ST w t v → t.good = true → t.size ≤ 1000000000 → Calls Try.prog 81 #[v] w fun e w' => e = .returned (.int .i64 (t.depth : Nat)) ∧ After w w' := by
  induction t with
  | k => intro w v h _ _; simp only [ST] at h; subst h; exact deep_atom w _ _ (by simp [Tm.text])
  | s => intro w v h _ _; simp only [ST] at h; subst h; exact deep_atom w _ _ (by simp [Tm.text])
  | nm n => intro w v h hg _; simp only [ST] at h; subst h; exact deep_atom w _ _ (Tm.text_ne _ hg)
  | app f a ihf iha =>
    intro w v h hg hz
    obtain ⟨g, cap, fr, s0, p0, s1, p1, rfl, hh, hf, ha⟩ := h
    simp only [Tm.good, Bool.and_eq_true] at hg
    have d1 := Tm.depth_lt f; have d2 := Tm.depth_lt a; simp only [Tm.size] at hz
    obtain ⟨x0, a0, n0, c0, e0⟩ := hf.form
    obtain ⟨x1, a1, n1, c1, e1⟩ := ha.form
    simp only [Value.agg.injEq, Array.mk.injEq, List.cons.injEq, and_true] at e0 e1
    obtain ⟨rfl, rfl⟩ := e0
    obtain ⟨rfl, rfl⟩ := e1
    exact deep_app w g cap fr x0 x1 a0 a1 n0 c0 n1 c1 f a hh (fun W hW => ihf (hf.later hW) hg.1 (by omega)) (fun W hW => iha (ha.later hW) hg.2 (by omega)) (by omega)

theorem ST.text {t : Tm} : ∀ {w : World} {v : Value}, ST w t v → t.good = true → t.text.length ≤ 100000000 → Calls Try.prog 29 #[v] w fun e w' => e = .returned (str t.text) ∧ After w w' := by
  induction t with
  | k => intro w v h _ _; simp only [ST] at h; subst h; exact text_atom w _ _ (by simp [Tm.text])
  | s => intro w v h _ _; simp only [ST] at h; subst h; exact text_atom w _ _ (by simp [Tm.text])
  | nm n => intro w v h hg _; simp only [ST] at h; subst h; exact text_atom w _ _ (Tm.text_ne _ hg)
  | app f a ihf iha =>
    intro w v h hg hz
    obtain ⟨g, cap, fr, s0, p0, s1, p1, rfl, hh, hf, ha⟩ := h
    simp only [Tm.good, Bool.and_eq_true] at hg
    simp only [Tm.text, List.length_cons, List.length_append, List.length_nil] at hz
    obtain ⟨x0, a0, n0, c0, e0⟩ := hf.form
    obtain ⟨x1, a1, n1, c1, e1⟩ := ha.form
    simp only [Value.agg.injEq, Array.mk.injEq, List.cons.injEq, and_true] at e0 e1
    obtain ⟨rfl, rfl⟩ := e0
    obtain ⟨rfl, rfl⟩ := e1
    exact text_app w g cap fr x0 x1 a0 a1 n0 c0 n1 c1 f a hh (fun W hW => ihf (hf.later hW) hg.1 (by omega)) (fun W hW => iha (ha.later hW) hg.2 (by omega)) (by omega)

theorem ST.fine {t : Tm} {w : World} {v : Value} (h : ST w t v) (hg : t.good = true) (hz : t.size ≤ 1000000000) :
    Calls Try.prog 55 #[v] w fun e w' => e = .returned (.bool t.fits) ∧ After w w' := by
  obtain ⟨x, ao, n, c, rfl⟩ := h.form
  have hnew := After.new w (.cells #[str x, .slice ao n c] 32)
  have hbox := heap_new' w (.cells #[str x, .slice ao n c] 32)
  have b0 : ∀ W, After (w.alloc (.cells #[str x, .slice ao n c] 32)) W → W.cell? ⟨w.heap.size, 0, none⟩ = some (str x) := fun W hW => hW.cell (cell_of_heap hbox)
  have b1 : ∀ W, After (w.alloc (.cells #[str x, .slice ao n c] 32)) W → W.cell? ⟨w.heap.size, 1, none⟩ = some (.slice ao n c) := fun W hW => hW.cell (cell_of_heap hbox)
  have hself := After.refl (w.alloc (.cells #[str x, .slice ao n c] 32))
  have hsize : ∀ W, After (w.alloc (.cells #[str x, .slice ao n c] 32)) W → Calls Try.prog 54 #[.agg #[str x, .slice ao n c]] W fun e w' => e = .returned (.int .i64 (t.size : Nat)) ∧ After (w.alloc (.cells #[str x, .slice ao n c] 32)) w' :=
    fun W hW => ((h.later (hnew.trans hW)).size hg hz).mono fun e w' ⟨he, hb⟩ => ⟨he, hW.trans hb⟩
  have hdeep : ∀ W, After (w.alloc (.cells #[str x, .slice ao n c] 32)) W → Calls Try.prog 81 #[.agg #[str x, .slice ao n c]] W fun e w' => e = .returned (.int .i64 (t.depth : Nat)) ∧ After (w.alloc (.cells #[str x, .slice ao n c] 32)) w' :=
    fun W hW => ((h.later (hnew.trans hW)).deep hg hz).mono fun e w' ⟨he, hb⟩ => ⟨he, hW.trans hb⟩
  clear hbox
  by_cases h1 : t.size ≤ 3000
  · by_cases h2 : t.depth ≤ 1500
    · have hf : t.fits = true := by simp [Tm.fits, h1, h2]
      rw [hf]
      clear hf
      go_enter Try.func55, Try.ntmps55
      go_wp2_with (first
        | (go_at_call 54; refine (hsize _ (by assumption)).mono ?_; rintro e w1 ⟨rfl, hb⟩)
        | (go_at_call 81; refine (hdeep _ (by assumption)).mono ?_; rintro e w1 ⟨rfl, hb⟩))
      go_ret
      exact ⟨by simp; omega, hnew.trans hb⟩
    · have hf : t.fits = false := by simp [Tm.fits, h2]
      rw [hf]
      clear hf
      go_enter Try.func55, Try.ntmps55
      go_wp2_with (first
        | (go_at_call 54; refine (hsize _ (by assumption)).mono ?_; rintro e w1 ⟨rfl, hb⟩)
        | (go_at_call 81; refine (hdeep _ (by assumption)).mono ?_; rintro e w1 ⟨rfl, hb⟩))
      go_ret
      exact ⟨by simp; omega, hnew.trans hb⟩
  · have hf : t.fits = false := by simp [Tm.fits, h1]
    rw [hf]
    clear hf
    go_enter Try.func55, Try.ntmps55
    go_wp2_with (first
      | (go_at_call 54; refine (hsize _ (by assumption)).mono ?_; rintro e w1 ⟨rfl, hb⟩)
      | (go_at_call 81; refine (hdeep _ (by assumption)).mono ?_; rintro e w1 ⟨rfl, hb⟩))
    go_ret
    exact ⟨by simp, hnew.trans hb⟩
end Go.Proofs.Ytfpekihdoclncaa

namespace Go.Proofs.Ytfpekihdoclncaa
open Go.RowKit

set_option maxHeartbeats 400000
set_option maxRecDepth 100000

theorem normal_step (t : Tm) : t.normal = true ↔ t.step = none := by
  induction t with
  | app f a ihf iha =>
    constructor
    · intro h
      simp only [Tm.normal, Bool.and_eq_true, bne_iff_ne, ne_eq] at h
      simp [Tm.step, redex_none h.1, ihf.1 h.2.1, iha.1 h.2.2]
    · intro h
      obtain ⟨h1, h2, h3⟩ := Tm.step_none h
      simp only [Tm.normal, Bool.and_eq_true, bne_iff_ne, ne_eq]
      refine ⟨fun hl => ?_, ihf.2 h2, iha.2 h3⟩
      obtain ⟨u, hu⟩ := redex_some (f := f) (a := a) hl
      rw [h1] at hu
      simp at hu
  | _ => simp [Tm.normal, Tm.step]

def StepPost (w : World) (B : Nat) (t : Tm) (e : Ending) (w' : World) : Prop :=
  ∃ v', e = .returned (.tuple #[v', .bool t.step.isSome]) ∧ Below w.heap.size w w' ∧ ∀ u, t.step = some u → TV w' B u v'

def StepOk (w : World) (B : Nat) (v : Value) (t : Tm) : Prop :=
  ∃ T x f y, v = .iface T x ∧ (∀ W, Below w.heap.size w W → (method 271 T x "loop.example/realizers/impl.step").run Try.prog W = .ok (f, y) W) ∧ (∀ args w', (callFunc f args).run Try.prog w' = .ok (.enter f args) w') ∧
    ∀ W, Below w.heap.size w W → Calls Try.prog f #[y] W (StepPost w B t)

theorem leaf_step (w : World) : Calls Try.prog 128 #[.agg #[]] w fun e w' => e = .returned (.tuple #[.nilIface, .bool false]) ∧ w' = w.alloc (.cells #[] 74) := by
  go_enter Try.func128, Try.ntmps128
  go_wp2_with fail
  go_ret2
  exact ⟨rfl, rfl⟩

theorem row_one {W : World} {B : Nat} {t : Tm} {v : Value} (T : TypeId) (h : TV W B t v) : Row ((W.alloc (.cells #[v] T)).drew) B W.heap.size [t] [v] := by
  have hn : ((W.alloc (.cells #[v] T)).drew).heap[W.heap.size]? = some (.cells #[v] T (0, 0)) := by
    show (W.heap.push _)[_]? = _
    simp
  refine ⟨rfl, fun i u h => ?_, fun i t' u h1 h2 => ?_⟩
  · rw [cell_of_heap hn]
    simpa using h
  · cases i with
    | zero =>
      obtain rfl := Option.some.inj h1
      obtain rfl := Option.some.inj h2
      exact h.below (((Below.refl _ _).alloc (Nat.le_refl _) _).drew)
    | succ i => simp at h1

section
variable (w : World) (B b : Nat) (T1 T2 : TypeId) (x1 x2 : Value) (f a : Tm) (W : World) (hW : Below w.heap.size w W) (hB : B ≤ w.heap.size)
  (h0 : ∀ W, Below w.heap.size w W → W.cell? ⟨b, 0, none⟩ = some (.iface T1 x1)) (h1 : ∀ W, Below w.heap.size w W → W.cell? ⟨b, 1, none⟩ = some (.iface T2 x2)) (h5 : ∀ W, Below w.heap.size w W → W.cell? ⟨b, 5, none⟩ = some (.bool (f.app a).normal))
  (hf : TV w B f (.iface T1 x1)) (ha : TV w B a (.iface T2 x2))
include hW h5
theorem step_normal (hn : (f.app a).normal = true) :
    Calls Try.prog 141 #[.pointer (some ⟨b, 0, none⟩)] W fun e w' => e = .returned (.tuple #[.nilIface, .bool false]) ∧ Below w.heap.size w w' := by
  rw [hn] at h5
  go_enter Try.func141, Try.ntmps141
  go_wp2_with fail
  go_ret2
  exact ⟨rfl, hW⟩

include h0 h1 hf
theorem step_fire (u : Tm) (hn : (f.app a).normal = false) (hl : f.lacks = 1) (hF : FireOk w B (.iface T1 x1) [a] u) (ha : TV w B a (.iface T2 x2)) :
    Calls Try.prog 141 #[.pointer (some ⟨b, 0, none⟩)] W fun e w' => ∃ v', e = .returned (.tuple #[v', .bool true]) ∧ Below w.heap.size w w' ∧ TV w' B u v' := by
  rw [hn] at h5
  obtain ⟨_, _, e0, _, _, ⟨f3, y3, m3, n3, c3⟩, _⟩ := hf.asks
  injection e0 with e1 e2
  subst e1; subst e2
  obtain ⟨_, _, g4, z4, e0, k4, l4, d4⟩ := hF
  injection e0 with e1 e2
  subst e1; subst e2
  rw [hl] at c3
  have htW := ha.below hW
  go_enter Try.func141, Try.ntmps141
  go_wp2_with (go_at_fn f3; refine (c3 _ (by assumption)).mono ?_; rintro e w1 ⟨rfl, hb1⟩)
  have hF1 := row_one 39 (ha.below hb1)
  have hb2 := (below_alloc hb1 (.cells #[.iface T2 x2] 39)).drew
  go_region_held3 (fun W' => Below w.heap.size w W') (first | assumption | exact hb1.drew | go_keep)
    (first | (go_at_fn g4; refine (d4 _ hb2 _ 1 _ [.iface T2 x2] rfl hF1).mono ?_; rintro e w2 ⟨v', rfl, hb3, hv3⟩))
  go_wp2_with fail
  go_ret2
  exact ⟨_, rfl, hb3, hv3⟩

theorem step_function (u : Tm) (hn : (f.app a).normal = false) (hl : f.lacks ≠ 1) (hs : f.step = some u) (hF : StepOk w B (.iface T1 x1) f) (ha : TV w B a (.iface T2 x2)) (hB : B ≤ w.heap.size) (hz : u.size + a.size ≤ 4000000) :
    Calls Try.prog 141 #[.pointer (some ⟨b, 0, none⟩)] W fun e w' => ∃ v', e = .returned (.tuple #[v', .bool true]) ∧ Below w.heap.size w w' ∧ TV w' B (u.app a) v' := by
  rw [hn] at h5
  obtain ⟨_, _, e0, _, _, ⟨f3, y3, m3, n3, c3⟩, _⟩ := hf.asks
  injection e0 with e1 e2
  subst e1; subst e2
  obtain ⟨_, _, g4, z4, e0, k4, l4, d4⟩ := hF
  injection e0 with e1 e2
  subst e1; subst e2
  have hl1 : ((f.lacks : Int) == 1) = false := by rw [beq_eq_false_iff_ne]; omega
  have hsome : f.step.isSome = true := by rw [hs]; rfl
  have HS := Lib.hid hs
  clear hs
  go_enter Try.func141, Try.ntmps141
  go_wp2_with (first
    | (go_at_fn f3; refine (c3 _ (by assumption)).mono ?_; rintro e w1 ⟨rfl, hb1⟩)
    | (go_at_fn g4; refine (d4 _ (by assumption)).mono ?_; rintro e w2 ⟨v2, rfl, hb2, hv2⟩; have HV := Lib.hid (hv2 u HS.out); clear hv2)
    | (go_at_call 40; refine (apply_any _ B u a _ _ HV.out (ha.below hb2) (Nat.le_trans hB hb2.size) (by omega)).mono ?_; rintro e w3 ⟨v3, rfl, hb3, hv3⟩))
  go_ret2
  exact ⟨_, rfl, below_trans hb2 hb3, hv3⟩

theorem step_argument (u : Tm) (hn : (f.app a).normal = false) (hl : f.lacks ≠ 1) (hs : f.step = none) (hF : StepOk w B (.iface T1 x1) f) (hs2 : a.step = some u) (hA : StepOk w B (.iface T2 x2) a) (hB : B ≤ w.heap.size) (hz : f.size + u.size ≤ 4000000) :
    Calls Try.prog 141 #[.pointer (some ⟨b, 0, none⟩)] W fun e w' => ∃ v', e = .returned (.tuple #[v', .bool true]) ∧ Below w.heap.size w w' ∧ TV w' B (f.app u) v' := by
  rw [hn] at h5
  obtain ⟨_, _, e0, _, _, ⟨f3, y3, m3, n3, c3⟩, _⟩ := hf.asks
  injection e0 with e1 e2
  subst e1; subst e2
  obtain ⟨_, _, g4, z4, e0, k4, l4, d4⟩ := hF
  injection e0 with e1 e2
  subst e1; subst e2
  obtain ⟨_, _, g5, z5, e0, k5, l5, d5⟩ := hA
  injection e0 with e1 e2
  subst e1; subst e2
  have hl1 : ((f.lacks : Int) == 1) = false := by rw [beq_eq_false_iff_ne]; omega
  have hsome : f.step.isSome = false := by rw [hs]; rfl
  have hsome2 : a.step.isSome = true := by rw [hs2]; rfl
  have HS := Lib.hid hs2
  clear hs hs2
  go_enter Try.func141, Try.ntmps141
  go_wp2_with (first
    | (go_at_fn f3; refine (c3 _ (by assumption)).mono ?_; rintro e w1 ⟨rfl, hb1⟩)
    | (go_at_fn g4; refine (d4 _ (by assumption)).mono ?_; rintro e w2 ⟨v2, rfl, hb2, hv2⟩; clear hv2)
    | (go_at_fn g5; refine (d5 _ (by assumption)).mono ?_; rintro e w4 ⟨v4, rfl, hb4, hv4⟩; have HV := Lib.hid (hv4 u HS.out); clear hv4)
    | (go_at_call 40; refine (apply_any _ B f u _ _ (hf.below hb4) HV.out (Nat.le_trans hB hb4.size) (by omega)).mono ?_; rintro e w3 ⟨v3, rfl, hb3, hv3⟩))
  go_ret2
  exact ⟨_, rfl, below_trans hb4 hb3, hv3⟩
end

theorem redex_size {t u : Tm} (h : Tm.redex t = some u) : u.size ≤ 2 * t.size := by
  unfold Tm.redex at h
  split at h
  · obtain rfl := Option.some.inj h; simp only [Tm.size]; omega
  · obtain rfl := Option.some.inj h; simp only [Tm.size]; omega
  · simp at h

theorem step_size {t u : Tm} : t.step = some u → u.size ≤ 2 * t.size := by
  induction t generalizing u with
  | app f a ihf iha =>
    intro h
    simp only [Tm.step] at h
    split at h
    · rename_i r hr; obtain rfl := Option.some.inj h; exact redex_size hr
    · split at h
      · rename_i f' hf; obtain rfl := Option.some.inj h; have := ihf hf; simp only [Tm.size]; omega
      · split at h
        · rename_i a' ha; obtain rfl := Option.some.inj h; have := iha ha; simp only [Tm.size]; omega
        · simp at h
  | _ => intro h; simp [Tm.step] at h

theorem TV.stepOk {w : World} {B : Nat} (hB : B ≤ w.heap.size) : ∀ {t : Tm} {v : Value}, TV w B t v → t.size ≤ 1000000 → StepOk w B v t
  | .k, _, ⟨b, fr, hv, _, h⟩, _ => ⟨_, _, _, _, hv, fun W hb => (meth_kLetter_step b W fr _ (heap_later h hb)).1, (meth_kLetter_step b w fr _ h).2, fun W hb => (leaf_step W).mono fun e w' ⟨he, hw⟩ => ⟨_, he, hw ▸ below_alloc hb _, fun u hu => by simp [Tm.step] at hu⟩⟩
  | .s, _, ⟨b, fr, hv, _, h⟩, _ => ⟨_, _, _, _, hv, fun W hb => (meth_sLetter_step b W fr _ (heap_later h hb)).1, (meth_sLetter_step b w fr _ h).2, fun W hb => (leaf_step W).mono fun e w' ⟨he, hw⟩ => ⟨_, he, hw ▸ below_alloc hb _, fun u hu => by simp [Tm.step] at hu⟩⟩
  | .nm _, _, ⟨b, fr, hv, _, h⟩, _ => ⟨_, _, _, _, hv, fun W hb => (meth_nameAtom_step b W fr _ (heap_later h hb)).1, (meth_nameAtom_step b w fr _ h).2, fun W hb => (leaf_step W).mono fun e w' ⟨he, hw⟩ => ⟨_, he, hw ▸ below_alloc hb _, fun u hu => by simp [Tm.step] at hu⟩⟩
  | .app f a, _, ⟨b, fr, vf, va, hv, _, h, hf, ha⟩, hz => by
    simp only [Tm.size] at hz
    have sf := TV.stepOk hB hf (by omega)
    have sa := TV.stepOk hB ha (by omega)
    obtain ⟨T1, x1, rfl, _⟩ := hf.asks
    obtain ⟨T2, x2, rfl, _⟩ := ha.asks
    refine ⟨_, _, _, _, hv, fun W _ => (meth_application_step _ W).1, (meth_application_step ⟨b, 0, none⟩ w).2, fun W hW => ?_⟩
    have h0 := cell_later' (cell_of_heap (i := 0) h)
    have h1 := cell_later' (cell_of_heap (i := 1) h)
    have h5 := cell_later' (cell_of_heap (i := 5) h)
    cases hn : (f.app a).normal with
    | true =>
      have hs := (normal_step _).1 hn
      refine (step_normal w b f a W hW h5 hn).mono fun e w' ⟨he, hb⟩ => ⟨_, by rw [hs]; exact he, hb, fun u hu => by rw [hs] at hu; simp at hu⟩
    | false =>
      by_cases hl : f.lacks = 1
      · obtain ⟨u, hu⟩ := redex_some (a := a) hl
        have hs : (f.app a).step = some u := by simp [Tm.step, hu]
        refine (step_fire w B b T1 T2 x1 x2 f a W hW h0 h1 h5 hf u hn hl (fire_redex hf hB hl (by omega) hu) ha).mono fun e w' ⟨v', he, hb, ht⟩ => ⟨v', by rw [hs]; exact he, hb, fun u' hu' => by rw [hs] at hu'; obtain rfl := Option.some.inj hu'; exact ht⟩
      · have hr := redex_none (a := a) hl
        cases hfs : f.step with
        | some u =>
          have hs : (f.app a).step = some (u.app a) := by simp [Tm.step, hr, hfs]
          have := step_size hfs
          refine (step_function w B b T1 T2 x1 x2 f a W hW h0 h1 h5 hf u hn hl hfs sf ha hB (by omega)).mono fun e w' ⟨v', he, hb, ht⟩ => ⟨v', by rw [hs]; exact he, hb, fun u' hu' => by rw [hs] at hu'; obtain rfl := Option.some.inj hu'; exact ht⟩
        | none =>
          cases has : a.step with
          | some u =>
            have hs : (f.app a).step = some (f.app u) := by simp [Tm.step, hr, hfs, has]
            have := step_size has
            refine (step_argument w B b T1 T2 x1 x2 f a W hW h0 h1 h5 hf u hn hl hfs sf has sa hB (by omega)).mono fun e w' ⟨v', he, hb, ht⟩ => ⟨v', by rw [hs]; exact he, hb, fun u' hu' => by rw [hs] at hu'; obtain rfl := Option.some.inj hu'; exact ht⟩
          | none =>
            have hs : (f.app a).step = none := by simp [Tm.step, hr, hfs, has]
            rw [(normal_step _).2 hs] at hn
            simp at hn
end Go.Proofs.Ytfpekihdoclncaa
