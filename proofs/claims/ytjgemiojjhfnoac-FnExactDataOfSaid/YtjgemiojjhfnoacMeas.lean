/-
  The four measures of a term in memory: atoms, nesting, normal, lacks.
-/
import Derived.Test.YtjgemiojjhfnoacRep
namespace Go.Proofs.Ytjgemiojjhfnoac
open Go.RowKit

set_option maxHeartbeats 400000

theorem leaf_atoms (w : World) : Calls Try.prog 104 #[.agg #[]] w fun e w' => e = .returned (.int .i64 1) ∧ w' = w.alloc (.cells #[] 91) := by
  go_enter Try.func104, Try.ntmps104
  go_wp2_with fail
  go_ret
  exact ⟨rfl, rfl⟩
theorem leaf_nesting (w : World) : Calls Try.prog 108 #[.agg #[]] w fun e w' => e = .returned (.int .i64 0) ∧ w' = w.alloc (.cells #[] 91) := by
  go_enter Try.func108, Try.ntmps108
  go_wp2_with fail
  go_ret
  exact ⟨rfl, rfl⟩
theorem leaf_normal (w : World) : Calls Try.prog 109 #[.agg #[]] w fun e w' => e = .returned (.bool true) ∧ w' = w.alloc (.cells #[] 91) := by
  go_enter Try.func109, Try.ntmps109
  go_wp2_with fail
  go_ret
  exact ⟨rfl, rfl⟩
theorem k_lacks (y : Value) (w : World) : Calls Try.prog 126 #[y] w fun e w' => e = .returned (.int .i64 2) ∧ w = w' := by
  go_enter Try.func126, Try.ntmps126
  go_wp2_with fail
  go_ret
  exact ⟨rfl, rfl⟩
theorem s_lacks (y : Value) (w : World) : Calls Try.prog 130 #[y] w fun e w' => e = .returned (.int .i64 3) ∧ w = w' := by
  go_enter Try.func130, Try.ntmps130
  go_wp2_with fail
  go_ret
  exact ⟨rfl, rfl⟩
theorem n_lacks (y : Value) (w : World) : Calls Try.prog 106 #[y] w fun e w' => e = .returned (.int .i64 0) ∧ w = w' := by
  go_enter Try.func106, Try.ntmps106
  go_wp2_with fail
  go_ret
  exact ⟨rfl, rfl⟩

section
variable (b : Nat) (w : World) (v : Value)
theorem a_atoms (h : w.cell? ⟨b, 2, none⟩ = some v) : Calls Try.prog 116 #[.pointer (some ⟨b, 0, none⟩)] w fun e w' => e = .returned v ∧ w = w' := by
  go_enter Try.func116, Try.ntmps116
  go_wp2_with fail
  go_ret
  exact ⟨rfl, rfl⟩
theorem a_nesting (h : w.cell? ⟨b, 3, none⟩ = some v) : Calls Try.prog 120 #[.pointer (some ⟨b, 0, none⟩)] w fun e w' => e = .returned v ∧ w = w' := by
  go_enter Try.func120, Try.ntmps120
  go_wp2_with fail
  go_ret
  exact ⟨rfl, rfl⟩
theorem a_lacks (h : w.cell? ⟨b, 4, none⟩ = some v) : Calls Try.prog 118 #[.pointer (some ⟨b, 0, none⟩)] w fun e w' => e = .returned v ∧ w = w' := by
  go_enter Try.func118, Try.ntmps118
  go_wp2_with fail
  go_ret
  exact ⟨rfl, rfl⟩
theorem a_normal (h : w.cell? ⟨b, 5, none⟩ = some v) : Calls Try.prog 121 #[.pointer (some ⟨b, 0, none⟩)] w fun e w' => e = .returned v ∧ w = w' := by
  go_enter Try.func121, Try.ntmps121
  go_wp2_with fail
  go_ret
  exact ⟨rfl, rfl⟩
end

/-- What a method of an interface value without arguments answers: some function of the program does it, in every later world, and leaves alone what there was. -/
def Asks (w : World) (T : TypeId) (x : Value) (name : String) (r : Value) : Prop :=
  ∃ f y, (∀ W, Below w.heap.size w W → (method 258 T x name).run Try.prog W = .ok (f, y) W) ∧ (∀ args w', (callFunc f args).run Try.prog w' = .ok (.enter f args) w') ∧
    ∀ W, Below w.heap.size w W → Calls Try.prog f #[y] W fun e w' => e = .returned r ∧ Below w.heap.size w w'

theorem below_alloc {w W : World} (h : Below w.heap.size w W) (o : Obj) : Below w.heap.size w (W.alloc o) := h.alloc h.size o

theorem heap_later {w W : World} {b : Nat} {o : Obj} (h : w.heap[b]? = some o) (hb : Below w.heap.size w W) : W.heap[b]? = some o := by
  rw [hb.block b (Array.getElem?_eq_some_iff.1 h).1]; exact h

/-- The four measures. -/
theorem TV.asks {w : World} {B : Nat} {t : Tm} {v : Value} (h : TV w B t v) : ∃ T x, v = .iface T x ∧
    Asks w T x "loop.example/realizers/impl.atoms" (.int .i64 (t.size : Nat)) ∧ Asks w T x "loop.example/realizers/impl.nesting" (.int .i64 (t.depth : Nat)) ∧
    Asks w T x "loop.example/realizers/impl.lacks" (.int .i64 (t.lacks : Nat)) ∧ Asks w T x "loop.example/realizers/impl.normal" (.bool t.normal) := by
  cases t with
  | k =>
    obtain ⟨b, fr, rfl, _, h⟩ := h
    exact ⟨_, _, rfl,
      ⟨_, _, fun W hb => (meth_kLetter_atoms b W fr _ (heap_later h hb)).1, (meth_kLetter_atoms b w fr _ h).2, fun W hb => (leaf_atoms W).mono fun e w' ⟨he, hw⟩ => ⟨he, hw ▸ below_alloc hb _⟩⟩,
      ⟨_, _, fun W hb => (meth_kLetter_nesting b W fr _ (heap_later h hb)).1, (meth_kLetter_nesting b w fr _ h).2, fun W hb => (leaf_nesting W).mono fun e w' ⟨he, hw⟩ => ⟨he, hw ▸ below_alloc hb _⟩⟩,
      ⟨_, _, fun W hb => (meth_kLetter_lacks _ W).1, (meth_kLetter_lacks ⟨b, 0, none⟩ w).2, fun W hb => (k_lacks _ W).mono fun e w' ⟨he, hw⟩ => ⟨he, hw ▸ hb⟩⟩,
      ⟨_, _, fun W hb => (meth_kLetter_normal b W fr _ (heap_later h hb)).1, (meth_kLetter_normal b w fr _ h).2, fun W hb => (leaf_normal W).mono fun e w' ⟨he, hw⟩ => ⟨he, hw ▸ below_alloc hb _⟩⟩⟩
  | s =>
    obtain ⟨b, fr, rfl, _, h⟩ := h
    exact ⟨_, _, rfl,
      ⟨_, _, fun W hb => (meth_sLetter_atoms b W fr _ (heap_later h hb)).1, (meth_sLetter_atoms b w fr _ h).2, fun W hb => (leaf_atoms W).mono fun e w' ⟨he, hw⟩ => ⟨he, hw ▸ below_alloc hb _⟩⟩,
      ⟨_, _, fun W hb => (meth_sLetter_nesting b W fr _ (heap_later h hb)).1, (meth_sLetter_nesting b w fr _ h).2, fun W hb => (leaf_nesting W).mono fun e w' ⟨he, hw⟩ => ⟨he, hw ▸ below_alloc hb _⟩⟩,
      ⟨_, _, fun W hb => (meth_sLetter_lacks _ W).1, (meth_sLetter_lacks ⟨b, 0, none⟩ w).2, fun W hb => (s_lacks _ W).mono fun e w' ⟨he, hw⟩ => ⟨he, hw ▸ hb⟩⟩,
      ⟨_, _, fun W hb => (meth_sLetter_normal b W fr _ (heap_later h hb)).1, (meth_sLetter_normal b w fr _ h).2, fun W hb => (leaf_normal W).mono fun e w' ⟨he, hw⟩ => ⟨he, hw ▸ below_alloc hb _⟩⟩⟩
  | nm n =>
    obtain ⟨b, fr, rfl, _, h⟩ := h
    exact ⟨_, _, rfl,
      ⟨_, _, fun W hb => (meth_nameAtom_atoms b W fr _ (heap_later h hb)).1, (meth_nameAtom_atoms b w fr _ h).2, fun W hb => (leaf_atoms W).mono fun e w' ⟨he, hw⟩ => ⟨he, hw ▸ below_alloc hb _⟩⟩,
      ⟨_, _, fun W hb => (meth_nameAtom_nesting b W fr _ (heap_later h hb)).1, (meth_nameAtom_nesting b w fr _ h).2, fun W hb => (leaf_nesting W).mono fun e w' ⟨he, hw⟩ => ⟨he, hw ▸ below_alloc hb _⟩⟩,
      ⟨_, _, fun W hb => (meth_nameAtom_lacks _ W).1, (meth_nameAtom_lacks ⟨b, 0, none⟩ w).2, fun W hb => (n_lacks _ W).mono fun e w' ⟨he, hw⟩ => ⟨he, hw ▸ hb⟩⟩,
      ⟨_, _, fun W hb => (meth_nameAtom_normal b W fr _ (heap_later h hb)).1, (meth_nameAtom_normal b w fr _ h).2, fun W hb => (leaf_normal W).mono fun e w' ⟨he, hw⟩ => ⟨he, hw ▸ below_alloc hb _⟩⟩⟩
  | app f a =>
    obtain ⟨b, fr, vf, va, rfl, _, h, _, _⟩ := h
    exact ⟨_, _, rfl,
      ⟨_, _, fun W hb => (meth_application_atoms _ W).1, (meth_application_atoms ⟨b, 0, none⟩ w).2, fun W hb => (a_atoms b W _ (cell_of_heap (heap_later h hb))).mono fun e w' ⟨he, hw⟩ => ⟨he, hw ▸ hb⟩⟩,
      ⟨_, _, fun W hb => (meth_application_nesting _ W).1, (meth_application_nesting ⟨b, 0, none⟩ w).2, fun W hb => (a_nesting b W _ (cell_of_heap (heap_later h hb))).mono fun e w' ⟨he, hw⟩ => ⟨he, hw ▸ hb⟩⟩,
      ⟨_, _, fun W hb => (meth_application_lacks _ W).1, (meth_application_lacks ⟨b, 0, none⟩ w).2, fun W hb => (a_lacks b W _ (cell_of_heap (heap_later h hb))).mono fun e w' ⟨he, hw⟩ => ⟨he, hw ▸ hb⟩⟩,
      ⟨_, _, fun W hb => (meth_application_normal _ W).1, (meth_application_normal ⟨b, 0, none⟩ w).2, fun W hb => (a_normal b W _ (cell_of_heap (heap_later h hb))).mono fun e w' ⟨he, hw⟩ => ⟨he, hw ▸ hb⟩⟩⟩

/-! ### apply -/

theorem lacks_le (t : Tm) : t.lacks ≤ 3 := by
  induction t with
  | app f a ih _ => simp only [Tm.lacks]; omega
  | _ => simp [Tm.lacks]

theorem TV.mk_app {w W : World} {B : Nat} {f a : Tm} {vf va : Value} (hf : TV w B f vf) (ha : TV w B a va) (hb : Below w.heap.size w W) (hB : B ≤ w.heap.size) {n d l : Int} {nb : Bool}
    (hn : n = ((f.app a).size : Nat)) (hd : d = ((f.app a).depth : Nat)) (hl : l = ((f.app a).lacks : Nat)) (hnb : nb = (f.app a).normal) :
    TV (W.alloc (.cells #[vf, va, .int .i64 n, .int .i64 d, .int .i64 l, .bool nb] 111)) B (f.app a) (.iface 107 (.pointer (some ⟨W.heap.size, 0, none⟩))) := by
  subst hn; subst hd; subst hl; subst hnb
  refine ⟨W.heap.size, (0, 0), vf, va, rfl, Nat.le_trans hB hb.size, ?_, (hf.below hb).below ((Below.refl _ _).alloc (Nat.le_refl _) _), (ha.below hb).below ((Below.refl _ _).alloc (Nat.le_refl _) _)⟩
  show (W.heap.push _)[_]? = _
  simp

set_option maxRecDepth 100000 in
theorem apply_any (w : World) (B : Nat) (f a : Tm) (vf va : Value) (hf : TV w B f vf) (ha : TV w B a va) (hB : B ≤ w.heap.size) (h1 : f.size + a.size < 4611686018427387904) :
    Calls Try.prog 70 #[vf, va] w fun e w' => ∃ v, e = .returned v ∧ Below w.heap.size w w' ∧ TV w' B (f.app a) v := by
  obtain ⟨T1, x1, rfl, ⟨f1, y1, m1, n1, c1⟩, ⟨f2, y2, m2, n2, c2⟩, ⟨f3, y3, m3, n3, c3⟩, ⟨f4, y4, m4, n4, c4⟩⟩ := hf.asks
  obtain ⟨T2, x2, rfl, ⟨g1, z1, k1, l1, d1⟩, ⟨g2, z2, k2, l2, d2⟩, ⟨g3, z3, k3, l3, d3⟩, ⟨g4, z4, k4, l4, d4⟩⟩ := ha.asks
  have b1 := Tm.depth_lt f
  have b2 := Tm.depth_lt a
  have b3 := lacks_le f
  have hb0 := Below.refl w.heap.size w
  go_enter Try.func70, Try.ntmps70
  go_wp2_with (first | (go_at_fn f3; refine (c3 _ (by assumption)).mono ?_; rintro e w1 ⟨rfl, hb⟩) | (go_at_fn f1; refine (c1 _ (by assumption)).mono ?_; rintro e w1 ⟨rfl, hb⟩) | (go_at_fn g1; refine (d1 _ (by assumption)).mono ?_; rintro e w1 ⟨rfl, hb⟩) | (go_at_fn f2; refine (c2 _ (by assumption)).mono ?_; rintro e w1 ⟨rfl, hb⟩) | (go_at_fn g2; refine (d2 _ (by assumption)).mono ?_; rintro e w1 ⟨rfl, hb⟩) | (go_at_fn f4; refine (c4 _ (by assumption)).mono ?_; rintro e w1 ⟨rfl, hb⟩) | (go_at_fn g4; refine (d4 _ (by assumption)).mono ?_; rintro e w1 ⟨rfl, hb⟩))
  all_goals
    go_ret
    refine ⟨_, rfl, below_alloc (by assumption) _, TV.mk_app hf ha (by assumption) hB (by simp [Tm.size]) (by simp only [Tm.depth]; omega) (by simp only [Tm.lacks]; omega) ?_⟩
    clear m1 n1 c1 m2 n2 c2 m3 n3 c3 m4 n4 c4 k1 l1 d1 k2 l2 d2 k3 l3 d3 k4 l4 d4
    simp only [Tm.normal]
    by_cases hq : f.lacks = 1
    all_goals first | (exfalso; omega) | (simp [*]; done) | (rw [show ((f.lacks : Int) != 1) = (f.lacks != 1) by rw [Bool.eq_iff_iff]; simp; omega]; simp [*])
