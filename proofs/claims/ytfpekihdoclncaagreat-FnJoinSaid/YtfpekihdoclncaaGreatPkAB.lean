/-
  The four measures of a term in memory: atoms, nesting, normal, lacks.
-/
import Derived.Test.YtfpekihdoclncaaGreatPkAA
import Derived.Deep.RegionHeld3
import Derived.Lib.Hide
import Derived.Deep.RegionLawGrows
import Derived.Deep.AppendLies
namespace Go.Proofs.YtfpekihdoclncaaGreat
open Go.RowKit

set_option maxHeartbeats 400000

theorem leaf_atoms (w : World) : Calls Tryz.prog 104 #[.agg #[]] w fun e w' => e = .returned (.int .i64 1) ∧ w' = w.alloc (.cells #[] 65) := by
  go_enter Tryz.func104, Tryz.ntmps104
  go_wp2_with fail
  go_ret
  exact ⟨rfl, rfl⟩
theorem leaf_nesting (w : World) : Calls Tryz.prog 108 #[.agg #[]] w fun e w' => e = .returned (.int .i64 0) ∧ w' = w.alloc (.cells #[] 65) := by
  go_enter Tryz.func108, Tryz.ntmps108
  go_wp2_with fail
  go_ret
  exact ⟨rfl, rfl⟩
theorem leaf_normal (w : World) : Calls Tryz.prog 109 #[.agg #[]] w fun e w' => e = .returned (.bool true) ∧ w' = w.alloc (.cells #[] 65) := by
  go_enter Tryz.func109, Tryz.ntmps109
  go_wp2_with fail
  go_ret
  exact ⟨rfl, rfl⟩
theorem k_lacks (y : Value) (w : World) : Calls Tryz.prog 116 #[y] w fun e w' => e = .returned (.int .i64 2) ∧ w = w' := by
  go_enter Tryz.func116, Tryz.ntmps116
  go_wp2_with fail
  go_ret
  exact ⟨rfl, rfl⟩
theorem s_lacks (y : Value) (w : World) : Calls Tryz.prog 120 #[y] w fun e w' => e = .returned (.int .i64 3) ∧ w = w' := by
  go_enter Tryz.func120, Tryz.ntmps120
  go_wp2_with fail
  go_ret
  exact ⟨rfl, rfl⟩
theorem n_lacks (y : Value) (w : World) : Calls Tryz.prog 106 #[y] w fun e w' => e = .returned (.int .i64 0) ∧ w = w' := by
  go_enter Tryz.func106, Tryz.ntmps106
  go_wp2_with fail
  go_ret
  exact ⟨rfl, rfl⟩

section
variable (b : Nat) (w : World) (v : Value)
theorem a_atoms (h : w.cell? ⟨b, 2, none⟩ = some v) : Calls Tryz.prog 95 #[.pointer (some ⟨b, 0, none⟩)] w fun e w' => e = .returned v ∧ w = w' := by
  go_enter Tryz.func95, Tryz.ntmps95
  go_wp2_with fail
  go_ret
  exact ⟨rfl, rfl⟩
theorem a_nesting (h : w.cell? ⟨b, 3, none⟩ = some v) : Calls Tryz.prog 99 #[.pointer (some ⟨b, 0, none⟩)] w fun e w' => e = .returned v ∧ w = w' := by
  go_enter Tryz.func99, Tryz.ntmps99
  go_wp2_with fail
  go_ret
  exact ⟨rfl, rfl⟩
theorem a_lacks (h : w.cell? ⟨b, 4, none⟩ = some v) : Calls Tryz.prog 97 #[.pointer (some ⟨b, 0, none⟩)] w fun e w' => e = .returned v ∧ w = w' := by
  go_enter Tryz.func97, Tryz.ntmps97
  go_wp2_with fail
  go_ret
  exact ⟨rfl, rfl⟩
theorem a_normal (h : w.cell? ⟨b, 5, none⟩ = some v) : Calls Tryz.prog 100 #[.pointer (some ⟨b, 0, none⟩)] w fun e w' => e = .returned v ∧ w = w' := by
  go_enter Tryz.func100, Tryz.ntmps100
  go_wp2_with fail
  go_ret
  exact ⟨rfl, rfl⟩
end

/-- What a method of an interface value without arguments answers: some function of the program does it, in every later world, and leaves alone what there was. -/
def Asks (w : World) (T : TypeId) (x : Value) (name : String) (r : Value) : Prop :=
  ∃ f y, (∀ W, Below w.heap.size w W → (method 265 T x name).run Tryz.prog W = .ok (f, y) W) ∧ (∀ args w', (callFunc f args).run Tryz.prog w' = .ok (.enter f args) w') ∧
    ∀ W, Below w.heap.size w W → Calls Tryz.prog f #[y] W fun e w' => e = .returned r ∧ Below w.heap.size w w'

theorem below_alloc {w W : World} (h : Below w.heap.size w W) (o : Obj) : Below w.heap.size w (W.alloc o) := h.alloc h.size o

theorem heap_later {w W : World} {b : Nat} {o : Obj} (h : w.heap[b]? = some o) (hb : Below w.heap.size w W) : W.heap[b]? = some o := by
  rw [hb.block b (Array.getElem?_eq_some_iff.1 h).1]; exact h

/-- The four measures. -/
theorem TV.asks {w : World} {B : Nat} {t : Tm} {v : Value} (h : TV w B t v) : ∃ T x, v = .iface T x ∧
    Asks w T x "loop.example/realizers/impl.atoms" (.int .i64 (t.size : Nat)) ∧ Asks w T x "loop.example/realizers/impl.nesting" (.int .i64 (t.depth : Nat)) ∧
    Asks w T x "loop.example/realizers/impl.lacks" (.int .i64 (t.lacks : Nat)) ∧ Asks w T x "loop.example/realizers/impl.normal" (.bool t.normal) := by
  cases t with
  | k =>
    obtain ⟨b, fr, rfl, _, h⟩ := h
    exact ⟨_, _, rfl,
      ⟨_, _, fun W hb => (meth_kLetter_atoms b W fr _ (heap_later h hb)).1, (meth_kLetter_atoms b w fr _ h).2, fun W hb => (leaf_atoms W).mono fun e w' ⟨he, hw⟩ => ⟨he, hw ▸ below_alloc hb _⟩⟩,
      ⟨_, _, fun W hb => (meth_kLetter_nesting b W fr _ (heap_later h hb)).1, (meth_kLetter_nesting b w fr _ h).2, fun W hb => (leaf_nesting W).mono fun e w' ⟨he, hw⟩ => ⟨he, hw ▸ below_alloc hb _⟩⟩,
      ⟨_, _, fun W hb => (meth_kLetter_lacks _ W).1, (meth_kLetter_lacks ⟨b, 0, none⟩ w).2, fun W hb => (k_lacks _ W).mono fun e w' ⟨he, hw⟩ => ⟨he, hw ▸ hb⟩⟩,
      ⟨_, _, fun W hb => (meth_kLetter_normal b W fr _ (heap_later h hb)).1, (meth_kLetter_normal b w fr _ h).2, fun W hb => (leaf_normal W).mono fun e w' ⟨he, hw⟩ => ⟨he, hw ▸ below_alloc hb _⟩⟩⟩
  | s =>
    obtain ⟨b, fr, rfl, _, h⟩ := h
    exact ⟨_, _, rfl,
      ⟨_, _, fun W hb => (meth_sLetter_atoms b W fr _ (heap_later h hb)).1, (meth_sLetter_atoms b w fr _ h).2, fun W hb => (leaf_atoms W).mono fun e w' ⟨he, hw⟩ => ⟨he, hw ▸ below_alloc hb _⟩⟩,
      ⟨_, _, fun W hb => (meth_sLetter_nesting b W fr _ (heap_later h hb)).1, (meth_sLetter_nesting b w fr _ h).2, fun W hb => (leaf_nesting W).mono fun e w' ⟨he, hw⟩ => ⟨he, hw ▸ below_alloc hb _⟩⟩,
      ⟨_, _, fun W hb => (meth_sLetter_lacks _ W).1, (meth_sLetter_lacks ⟨b, 0, none⟩ w).2, fun W hb => (s_lacks _ W).mono fun e w' ⟨he, hw⟩ => ⟨he, hw ▸ hb⟩⟩,
      ⟨_, _, fun W hb => (meth_sLetter_normal b W fr _ (heap_later h hb)).1, (meth_sLetter_normal b w fr _ h).2, fun W hb => (leaf_normal W).mono fun e w' ⟨he, hw⟩ => ⟨he, hw ▸ below_alloc hb _⟩⟩⟩
  | nm n =>
    obtain ⟨b, fr, rfl, _, h⟩ := h
    exact ⟨_, _, rfl,
      ⟨_, _, fun W hb => (meth_nameAtom_atoms b W fr _ (heap_later h hb)).1, (meth_nameAtom_atoms b w fr _ h).2, fun W hb => (leaf_atoms W).mono fun e w' ⟨he, hw⟩ => ⟨he, hw ▸ below_alloc hb _⟩⟩,
      ⟨_, _, fun W hb => (meth_nameAtom_nesting b W fr _ (heap_later h hb)).1, (meth_nameAtom_nesting b w fr _ h).2, fun W hb => (leaf_nesting W).mono fun e w' ⟨he, hw⟩ => ⟨he, hw ▸ below_alloc hb _⟩⟩,
      ⟨_, _, fun W hb => (meth_nameAtom_lacks _ W).1, (meth_nameAtom_lacks ⟨b, 0, none⟩ w).2, fun W hb => (n_lacks _ W).mono fun e w' ⟨he, hw⟩ => ⟨he, hw ▸ hb⟩⟩,
      ⟨_, _, fun W hb => (meth_nameAtom_normal b W fr _ (heap_later h hb)).1, (meth_nameAtom_normal b w fr _ h).2, fun W hb => (leaf_normal W).mono fun e w' ⟨he, hw⟩ => ⟨he, hw ▸ below_alloc hb _⟩⟩⟩
  | app f a =>
    obtain ⟨b, fr, vf, va, rfl, _, h, _, _⟩ := h
    exact ⟨_, _, rfl,
      ⟨_, _, fun W hb => (meth_application_atoms _ W).1, (meth_application_atoms ⟨b, 0, none⟩ w).2, fun W hb => (a_atoms b W _ (cell_of_heap (heap_later h hb))).mono fun e w' ⟨he, hw⟩ => ⟨he, hw ▸ hb⟩⟩,
      ⟨_, _, fun W hb => (meth_application_nesting _ W).1, (meth_application_nesting ⟨b, 0, none⟩ w).2, fun W hb => (a_nesting b W _ (cell_of_heap (heap_later h hb))).mono fun e w' ⟨he, hw⟩ => ⟨he, hw ▸ hb⟩⟩,
      ⟨_, _, fun W hb => (meth_application_lacks _ W).1, (meth_application_lacks ⟨b, 0, none⟩ w).2, fun W hb => (a_lacks b W _ (cell_of_heap (heap_later h hb))).mono fun e w' ⟨he, hw⟩ => ⟨he, hw ▸ hb⟩⟩,
      ⟨_, _, fun W hb => (meth_application_normal _ W).1, (meth_application_normal ⟨b, 0, none⟩ w).2, fun W hb => (a_normal b W _ (cell_of_heap (heap_later h hb))).mono fun e w' ⟨he, hw⟩ => ⟨he, hw ▸ hb⟩⟩⟩

/-! ### apply -/

theorem lacks_le (t : Tm) : t.lacks ≤ 3 := by
  induction t with
  | app f a ih _ => simp only [Tm.lacks]; omega
  | _ => simp [Tm.lacks]

theorem TV.mk_app {w W : World} {B : Nat} {f a : Tm} {vf va : Value} (hf : TV w B f vf) (ha : TV w B a va) (hb : Below w.heap.size w W) (hB : B ≤ w.heap.size) {n d l : Int} {nb : Bool}
    (hn : n = ((f.app a).size : Nat)) (hd : d = ((f.app a).depth : Nat)) (hl : l = ((f.app a).lacks : Nat)) (hnb : nb = (f.app a).normal) :
    TV (W.alloc (.cells #[vf, va, .int .i64 n, .int .i64 d, .int .i64 l, .bool nb] 62)) B (f.app a) (.iface 59 (.pointer (some ⟨W.heap.size, 0, none⟩))) := by
  subst hn; subst hd; subst hl; subst hnb
  refine ⟨W.heap.size, (0, 0), vf, va, rfl, Nat.le_trans hB hb.size, ?_, (hf.below hb).below ((Below.refl _ _).alloc (Nat.le_refl _) _), (ha.below hb).below ((Below.refl _ _).alloc (Nat.le_refl _) _)⟩
  show (W.heap.push _)[_]? = _
  simp

set_option maxRecDepth 100000 in
theorem apply_any (w : World) (B : Nat) (f a : Tm) (vf va : Value) (hf : TV w B f vf) (ha : TV w B a va) (hB : B ≤ w.heap.size) (h1 : f.size + a.size < 4611686018427387904) :
    Calls Tryz.prog 13 #[vf, va] w fun e w' => ∃ v, e = .returned v ∧ Below w.heap.size w w' ∧ TV w' B (f.app a) v := by
  obtain ⟨T1, x1, rfl, ⟨f1, y1, m1, n1, c1⟩, ⟨f2, y2, m2, n2, c2⟩, ⟨f3, y3, m3, n3, c3⟩, ⟨f4, y4, m4, n4, c4⟩⟩ := hf.asks
  obtain ⟨T2, x2, rfl, ⟨g1, z1, k1, l1, d1⟩, ⟨g2, z2, k2, l2, d2⟩, ⟨g3, z3, k3, l3, d3⟩, ⟨g4, z4, k4, l4, d4⟩⟩ := ha.asks
  have b1 := Tm.depth_lt f
  have b2 := Tm.depth_lt a
  have b3 := lacks_le f
  have hb0 := Below.refl w.heap.size w
  go_enter Tryz.func13, Tryz.ntmps13
  go_wp2_with (first | (go_at_fn f3; refine (c3 _ (by assumption)).mono ?_; rintro e w1 ⟨rfl, hb⟩) | (go_at_fn f1; refine (c1 _ (by assumption)).mono ?_; rintro e w1 ⟨rfl, hb⟩) | (go_at_fn g1; refine (d1 _ (by assumption)).mono ?_; rintro e w1 ⟨rfl, hb⟩) | (go_at_fn f2; refine (c2 _ (by assumption)).mono ?_; rintro e w1 ⟨rfl, hb⟩) | (go_at_fn g2; refine (d2 _ (by assumption)).mono ?_; rintro e w1 ⟨rfl, hb⟩) | (go_at_fn f4; refine (c4 _ (by assumption)).mono ?_; rintro e w1 ⟨rfl, hb⟩) | (go_at_fn g4; refine (d4 _ (by assumption)).mono ?_; rintro e w1 ⟨rfl, hb⟩))
  all_goals
    go_ret
    refine ⟨_, rfl, below_alloc (by assumption) _, TV.mk_app hf ha (by assumption) hB (by simp [Tm.size]) (by simp only [Tm.depth]; omega) (by simp only [Tm.lacks]; omega) ?_⟩
    clear m1 n1 c1 m2 n2 c2 m3 n3 c3 m4 n4 c4 k1 l1 d1 k2 l2 d2 k3 l3 d3 k4 l4 d4
    simp only [Tm.normal]
    by_cases hq : f.lacks = 1
    all_goals first | (exfalso; omega) | (simp [*]; done) | (rw [show ((f.lacks : Int) != 1) = (f.lacks != 1) by rw [Bool.eq_iff_iff]; simp; omega]; simp [*])
end Go.Proofs.YtfpekihdoclncaaGreat

namespace Go.Proofs.YtfpekihdoclncaaGreat
open Go.RowKit

set_option maxHeartbeats 400000
set_option maxRecDepth 100000

/-- The cells from the head of block g on are the terms l. -/
def Row (W : World) (B g : Nat) (l : List Tm) (vs : List Value) : Prop :=
  vs.length = l.length ∧ (∀ (i : Nat) (v : Value), vs[i]? = some v → W.cell? ⟨g, i, none⟩ = some v) ∧ ∀ (i : Nat) (t : Tm) (v : Value), l[i]? = some t → vs[i]? = some v → TV W B t v

theorem add_plain' (b off i : Nat) : (⟨b, off, none⟩ : Addr).add i = ⟨b, off + i, none⟩ := by unfold Addr.add; split <;> simp_all

theorem cell_later' {w : World} {b i : Nat} {v : Value} (h : w.cell? ⟨b, i, none⟩ = some v) : ∀ W, Below w.heap.size w W → W.cell? ⟨b, i, none⟩ = some v :=
  fun W hb => by rw [hb.cell (p := ⟨b, i, none⟩) (World.block_lt_of_cell? _ _ h)]; exact h

theorem below_trans {w W W' : World} (h : Below w.heap.size w W) (h' : Below W.heap.size W W') : Below w.heap.size w W' := h.trans (h'.mono h.size)

theorem k_fire (W : World) (B g cap : Nat) (m n : Tm) (vs : List Value) (y : Value) (hr : Row W B g [m, n] vs) :
    Calls Tryz.prog 115 #[y, .slice (some ⟨g, 0, none⟩) 2 cap] W fun e w' => ∃ v', e = .returned (.tuple #[v', .bool true]) ∧ W = w' ∧ TV w' B m v' := by
  obtain ⟨hl, hc, ht⟩ := hr
  match vs, hl with
  | [v0, v1], _ =>
    have c0 := hc 0 v0 rfl
    have t0 := ht 0 m v0 rfl rfl
    go_enter Tryz.func115, Tryz.ntmps115
    go_wp2_with (go_at_call 116; refine (k_lacks _ _).mono ?_; rintro e w' ⟨rfl, rfl⟩)
    go_ret2
    exact ⟨_, rfl, rfl, t0⟩

theorem s_fire (W : World) (B g cap : Nat) (m n p : Tm) (vs : List Value) (y : Value) (hB : B ≤ W.heap.size) (hr : Row W B g [m, n, p] vs) (hm : m.size ≤ 1000000) (hn : n.size ≤ 1000000) (hp : p.size ≤ 1000000) :
    Calls Tryz.prog 119 #[y, .slice (some ⟨g, 0, none⟩) 3 cap] W fun e w' => ∃ v', e = .returned (.tuple #[v', .bool true]) ∧ Below W.heap.size W w' ∧ TV w' B ((m.app p).app (n.app p)) v' := by
  obtain ⟨hl, hc, ht⟩ := hr
  match vs, hl with
  | [v0, v1, v2], _ =>
    have c0 := hc 0 v0 rfl
    have c1 := hc 1 v1 rfl
    have c2 := hc 2 v2 rfl
    have t0 := ht 0 m v0 rfl rfl
    have t1 := ht 1 n v1 rfl rfl
    have t2 := ht 2 p v2 rfl rfl
    have e0 := cell_later' c0
    have e1 := cell_later' c1
    have e2 := cell_later' c2
    have hself := Below.refl W.heap.size W
    have s0 : (m.app p).size ≤ 2000000 := by simp only [Tm.size]; omega
    have s1 : (n.app p).size ≤ 2000000 := by simp only [Tm.size]; omega
    clear hc ht c0 c1 c2
    go_enter Tryz.func119, Tryz.ntmps119
    go_wp2_with (go_at_call 120; refine (s_lacks _ _).mono ?_; rintro e w' ⟨rfl, rfl⟩)
    go_region_held3 (fun W' => Below W.heap.size W W') (first | assumption | exact (Below.refl _ _).drew | go_keep)
      (first
        | (go_at_call_of 13 v0; refine (apply_any _ B m p v0 v2 ?_ ?_ ?_ ?_).mono ?_; exact t0.below (by assumption); exact t2.below (by assumption); exact Nat.le_trans hB (Below.size (by assumption)); omega; rintro e w1 ⟨r1, rfl, hb1, hv1⟩; replace hb1' := below_trans (by assumption) hb1)
        | (go_at_call_of 13 v1; refine (apply_any _ B n p v1 v2 ?_ ?_ ?_ ?_).mono ?_; exact t1.below (by assumption); exact t2.below (by assumption); exact Nat.le_trans hB (Below.size (by assumption)); omega; rintro e w1 ⟨r2, rfl, hb2, hv2⟩; have hv1' := hv1.below hb2; have hb2' := below_trans (by assumption) hb2)
        | (go_at_call_of 13 r1; refine (apply_any _ B (m.app p) (n.app p) r1 r2 ?_ ?_ ?_ ?_).mono ?_; exact hv1'; exact hv2; exact Nat.le_trans hB (Below.size (by assumption)); omega; rintro e w1 ⟨r3, rfl, hb3, hv3⟩; have hb3' := below_trans (by assumption) hb3))
    go_wp2_with fail
    go_ret2
    exact ⟨_, rfl, hb3', hv3⟩

/-- The method fire of v, with arguments l, gives u. -/
def FireOk (w : World) (B : Nat) (v : Value) (l : List Tm) (u : Tm) : Prop :=
  ∃ T x f y, v = .iface T x ∧ (∀ W, Below w.heap.size w W → (method 265 T x "loop.example/realizers/impl.fire").run Tryz.prog W = .ok (f, y) W) ∧ (∀ args w', (callFunc f args).run Tryz.prog w' = .ok (.enter f args) w') ∧
    ∀ W, Below w.heap.size w W → ∀ g n cap vs, n = l.length → Row W B g l vs → Calls Tryz.prog f #[y, .slice (some ⟨g, 0, none⟩) n cap] W fun e w' => ∃ v', e = .returned (.tuple #[v', .bool true]) ∧ Below w.heap.size w w' ∧ TV w' B u v'

theorem FireOk.later {w W : World} {B : Nat} {v : Value} {l : List Tm} {u : Tm} (h : FireOk w B v l u) (hb : Below w.heap.size w W) : ∃ T x f y, v = .iface T x ∧ (∀ W', Below W.heap.size W W' → (method 265 T x "loop.example/realizers/impl.fire").run Tryz.prog W' = .ok (f, y) W') ∧ (∀ args w', (callFunc f args).run Tryz.prog w' = .ok (.enter f args) w') ∧
    ∀ W', Below W.heap.size W W' → ∀ g n cap vs, n = l.length → Row W' B g l vs → Calls Tryz.prog f #[y, .slice (some ⟨g, 0, none⟩) n cap] W' fun e w' => ∃ v', e = .returned (.tuple #[v', .bool true]) ∧ Below w.heap.size w w' ∧ TV w' B u v' := by
  obtain ⟨T, x, f, y, hv, hm, hc, hf⟩ := h
  exact ⟨T, x, f, y, hv, fun W' h => hm W' (below_trans hb h), hc, fun W' h => hf W' (below_trans hb h)⟩

theorem info_term : (Tryz.prog.info? 33).map (fun i => (i.zero, i.size, i.bytes)) = some (some .nilIface, 1, 16) := by kernel_rfl

theorem owns_built (W : World) (v : Value) (T : TypeId) : (W.alloc (.cells #[v] T)).ownsRow W.heap.size T 1 (.slice (some ⟨W.heap.size, 0, none⟩) 1 1) 1 [v] := by
  refine ⟨rfl, Or.inr ⟨W.heap.size, 1, #[v], rfl, Nat.le_refl _, ?_, Nat.le_refl _, by unfold maxLen; omega, rfl, rfl⟩⟩
  show (W.heap.push _)[_]? = _
  simp

theorem oneCell_TV {w : World} {B : Nat} {t : Tm} {v : Value} (h : TV w B t v) : v.oneCell' = true := by
  obtain ⟨T, x, rfl, _⟩ := h.asks; rfl

theorem Row.later {W W' : World} {B g : Nat} {l : List Tm} {vs : List Value} (hr : Row W B g l vs) (hb : Below W.heap.size W W') : Row W' B g l vs :=
  ⟨hr.1, fun i v h => cell_later' (hr.2.1 i v h) _ hb, fun i t v h1 h2 => (hr.2.2 i t v h1 h2).below hb⟩

/-- A row with one term ahead. -/
theorem Row.cons {W W' : World} {B g g' : Nat} {l : List Tm} {vs : List Value} {m : Tm} {vm : Value} {base cap n : Nat} (hr : Row W B g l vs) (hm : TV W B m vm) (hb : Below W.heap.size W W')
    (ho : W'.ownsRow base 33 1 (.slice (some ⟨g', 0, none⟩) n cap) n ([vm] ++ vs)) : Row W' B g' (m :: l) (vm :: vs) := by
  refine ⟨by simp [hr.1], fun i v h => ?_, fun i t v h1 h2 => ?_⟩
  · have := ho.cells (g := g') rfl i v (by simpa using h)
    rw [add_plain'] at this
    simpa using this
  · cases i with
    | zero =>
      obtain rfl := Option.some.inj h1
      obtain rfl := Option.some.inj h2
      exact hm.below hb
    | succ i => exact (hr.2.2 i t v (by simpa using h1) (by simpa using h2)).below hb

theorem fire_app (w : World) (B b n cap : Nat) (T : TypeId) (x y : Value) (f : FuncId) (m u : Tm) (vm : Value) (l : List Tm)
    (h0 : ∀ W, Below w.heap.size w W → W.cell? ⟨b, 0, none⟩ = some (.iface T x)) (h1 : ∀ W, Below w.heap.size w W → W.cell? ⟨b, 1, none⟩ = some vm)
    (hm : ∀ W, Below w.heap.size w W → (method 265 T x "loop.example/realizers/impl.fire").run Tryz.prog W = .ok (f, y) W) (hc : ∀ args w', (callFunc f args).run Tryz.prog w' = .ok (.enter f args) w')
    (hf : ∀ W, Below w.heap.size w W → ∀ g n cap vs, n = (m :: l).length → Row W B g (m :: l) vs → Calls Tryz.prog f #[y, .slice (some ⟨g, 0, none⟩) n cap] W fun e w' => ∃ v', e = .returned (.tuple #[v', .bool true]) ∧ Below w.heap.size w w' ∧ TV w' B u v')
    (ht : TV w B m vm) (W : World) (hW : Below w.heap.size w W) (g : Nat) (vs : List Value) (hl : n = l.length) (hl1 : 1 ≤ n) (hl2 : n ≤ 2) (hr : Row W B g l vs) :
    Calls Tryz.prog 96 #[.pointer (some ⟨b, 0, none⟩), .slice (some ⟨g, 0, none⟩) n cap] W fun e w' => ∃ v', e = .returned (.tuple #[v', .bool true]) ∧ Below w.heap.size w w' ∧ TV w' B u v' := by
  obtain ⟨i0, hi, hz0, hz1, hz2⟩ := info_parts info_term
  have hself := Below.refl W.heap.size W
  have hr1 := hr.1
  go_enter Tryz.func96, Tryz.ntmps96
  obtain ⟨T2, x2, rfl, _⟩ := ht.asks
  have hone : ∀ u ∈ vs, u.oneCell' = true := by
    intro u hu
    obtain ⟨i, hi⟩ := List.getElem?_of_mem hu
    have hlt := (List.getElem?_eq_some_iff.1 hi).1
    exact oneCell_TV (hr.2.2 i _ u (List.getElem?_eq_getElem (by omega)) hi)
  have hfits : 1 + n ≤ maxLen := by unfold maxLen; omega
  have htW := ht.below hW
  have hun := Tryz.underlying94
  have hbW : Below W.heap.size W ((W.alloc (.cells #[.iface T2 x2] 33)).drew) := ((Below.refl _ _).alloc (Nat.le_refl _) _).drew
  have hbw := below_trans hW hbW
  have hrl := hr.later hbW
  have q1 : vs.length = n * 1 := by omega
  have q2 : ∀ (j : Nat) (u : Value), vs[j]? = some u → ((W.alloc (.cells #[.iface T2 x2] 33)).drew).cell? ((⟨g, 0, none⟩ : Addr).add j) = some u := by
    intro j u hu
    rw [add_plain']
    simpa using hrl.2.1 j u hu
  have q4 : (1 + n) * 16 ≤ 140737488355328 := by omega
  have q5 : W.heap.size ≤ ((W.alloc (.cells #[.iface T2 x2] 33)).drew).heap.size := hbW.size
  have q6 : ((W.alloc (.cells #[.iface T2 x2] 33)).drew).heap.size = W.heap.size + 1 := by simp
  have Q1 := Lib.hid q1; have Q2 := Lib.hid q2; have Q4 := Lib.hid q4; have Q5 := Lib.hid q5; have Q6 := Lib.hid q6; have QR := Lib.hid hr; have QL := Lib.hid hl; have Q0 := Lib.hid hone
  clear q1 q2 q4 q5 q6 hr hr1 hrl hone hl
  go_wp2_with fail
  go_region_held3 (fun W' => Below w.heap.size w W') (first | assumption | exact hW.drew | go_keep)
    (first
      | (refine step_append_lies _ (by rfl) _ _ 94 (by rfl) W.heap.size 33 i0 .nilIface 1 16 hun hi hz0 hz1 hz2 rfl (by omega) _ 1 [.iface T2 x2] (by rfl) ((owns_built W (.iface T2 x2) _).drew) ⟨g, 0, none⟩ n cap vs (by rfl) Q1.out Q2.out Q0.out (by omega) hfits Q4.out Q5.out (W.heap.size + 1) Q6.out ?_; intro g' cap' w1 hown1 hgrow _ _; have hb1 : Below W.heap.size W w1 := hbW.grown hgrow Q5.out (fun k hk => by cases hk; exact Nat.le_refl _); have hbw1 := below_trans hW hb1)
      | (go_at_fn f; refine (hf _ hbw1 _ _ _ _ ?_ (QR.out.cons htW hb1 hown1)).mono ?_; (have := QL.out; simp; omega); rintro e w2 ⟨v', rfl, hb2, hv2⟩))
  go_wp2_with fail
  go_ret2
  exact ⟨_, rfl, hb2, hv2⟩

/-! ### a redex fires -/

theorem FireOk.app {w : World} {B b : Nat} {fr : Nat × Nat} {cs : Array Value} {m u : Tm} {vg vm : Value} {l : List Tm} (h : w.heap[b]? = some (.cells cs 62 fr)) (c0 : cs[0]? = some vg) (c1 : cs[1]? = some vm)
    (hm : TV w B m vm) (hf : FireOk w B vg (m :: l) u) (hl1 : 1 ≤ l.length) (hl2 : l.length ≤ 2) :
    FireOk w B (.iface 59 (.pointer (some ⟨b, 0, none⟩))) l u := by
  obtain ⟨T, x, f, y, rfl, e1, e2, e3⟩ := hf
  have h0 := cell_later' ((cell_of_heap (i := 0) h).trans c0)
  have h1 := cell_later' ((cell_of_heap (i := 1) h).trans c1)
  refine ⟨_, _, _, _, rfl, fun W _ => (meth_application_fire _ W).1, (meth_application_fire ⟨b, 0, none⟩ w).2, fun W hW g' n cap vs hn hr => ?_⟩
  exact fire_app w B b n cap T x y f m u vm l h0 h1 e1 e2 e3 hm W hW g' vs hn (by omega) (by omega) hr

theorem FireOk.k {w : World} {B b : Nat} (m n : Tm) :
    FireOk w B (.iface 87 (.pointer (some ⟨b, 0, none⟩))) [m, n] m := by
  refine ⟨_, _, _, _, rfl, fun W _ => (meth_kLetter_fire _ W).1, (meth_kLetter_fire ⟨b, 0, none⟩ w).2, fun W hW g' n' cap vs hn hr => ?_⟩
  subst hn
  exact (k_fire W B g' cap m n vs _ hr).mono fun e w' ⟨v', he, hw, ht⟩ => ⟨v', he, hw ▸ hW, ht⟩

theorem FireOk.s {w : World} {B b : Nat} (m n p : Tm) (hB : B ≤ w.heap.size) (hm : m.size ≤ 1000000) (hn : n.size ≤ 1000000) (hp : p.size ≤ 1000000) :
    FireOk w B (.iface 90 (.pointer (some ⟨b, 0, none⟩))) [m, n, p] ((m.app p).app (n.app p)) := by
  refine ⟨_, _, _, _, rfl, fun W _ => (meth_sLetter_fire _ W).1, (meth_sLetter_fire ⟨b, 0, none⟩ w).2, fun W hW g' n' cap vs hn' hr => ?_⟩
  subst hn'
  exact (s_fire W B g' cap m n p vs _ (Nat.le_trans hB hW.size) hr hm hn hp).mono fun e w' ⟨v', he, hw, ht⟩ => ⟨v', he, below_trans hW hw, ht⟩

theorem lacks_one {f : Tm} (h : f.lacks = 1) : (∃ m, f = .app .k m) ∨ ∃ m n, f = .app (.app .s m) n := by
  match f with
  | .app .k m => exact Or.inl ⟨m, rfl⟩
  | .app (.app .s m) n => exact Or.inr ⟨m, n, rfl⟩
  | .app .s m => simp [Tm.lacks] at h
  | .app (.nm _) m => simp [Tm.lacks] at h
  | .app (.app .k m) n => simp [Tm.lacks] at h
  | .app (.app (.nm _) m) n => simp [Tm.lacks] at h
  | .app (.app (.app g x) m) n => have := lacks_le g; simp only [Tm.lacks] at h; omega
  | .k => simp [Tm.lacks] at h
  | .s => simp [Tm.lacks] at h
  | .nm _ => simp [Tm.lacks] at h

theorem redex_some {f a : Tm} (h : f.lacks = 1) : ∃ u, Tm.redex (f.app a) = some u := by
  rcases lacks_one h with ⟨m, rfl⟩ | ⟨m, n, rfl⟩
  · exact ⟨_, rfl⟩
  · exact ⟨_, rfl⟩

theorem redex_none {f a : Tm} (h : f.lacks ≠ 1) : Tm.redex (f.app a) = none := by
  unfold Tm.redex
  split
  · rename_i e; injection e with e1 e2; subst e1; simp [Tm.lacks] at h
  · rename_i e; injection e with e1 e2; subst e1; simp [Tm.lacks] at h
  · rfl

theorem fire_redex {w : World} {B : Nat} {f a u : Tm} {vf : Value} (hf : TV w B f vf) (hB : B ≤ w.heap.size) (h : f.lacks = 1) (hs : f.size + a.size ≤ 1000000) (hu : Tm.redex (f.app a) = some u) : FireOk w B vf [a] u := by
  rcases lacks_one h with ⟨m, rfl⟩ | ⟨m, n, rfl⟩
  · obtain ⟨b, fr, vk, vm, rfl, hb, h0, hk, hm⟩ := hf
    obtain ⟨bk, frk, rfl, hbk, hk0⟩ := hk
    simp only [Tm.redex, Option.some.injEq] at hu
    subst hu
    exact FireOk.app h0 rfl rfl hm (FireOk.k _ _) (Nat.le_refl _) (by simp)
  · obtain ⟨b, fr, vg, vn, rfl, hb, h0, hg, hn⟩ := hf
    obtain ⟨b1, fr1, vs, vm, rfl, hb1, h1, hs1, hm⟩ := hg
    obtain ⟨bs, frs, rfl, hbs, hs0⟩ := hs1
    simp only [Tm.redex, Option.some.injEq] at hu
    subst hu
    simp only [Tm.size] at hs
    exact FireOk.app h0 rfl rfl hn (FireOk.app h1 rfl rfl hm (FireOk.s _ _ _ hB (by omega) (by omega) (by omega)) (by simp) (by simp)) (Nat.le_refl _) (by simp)
end Go.Proofs.YtfpekihdoclncaaGreat

namespace Go.Proofs.YtfpekihdoclncaaGreat
open Go.RowKit

set_option maxHeartbeats 400000
set_option maxRecDepth 100000

/-- W is w but for new blocks. -/
def After (w W : World) : Prop := Below w.heap.size w W

theorem After.refl (w : World) : After w w := Below.refl _ _
theorem After.trans {a b c : World} (h : After a b) (g : After b c) : After a c := below_trans h g
theorem After.drew {a b : World} (h : After a b) : After a b.drew := Below.drew h
theorem After.alloc {a b : World} (h : After a b) (o : Obj) : After a (b.alloc o) := below_alloc h o
theorem After.new (w : World) (o : Obj) : After w (w.alloc o) := (After.refl w).alloc o
theorem After.heap {w W : World} {b : Nat} {o : Obj} (hb : After w W) (h : w.heap[b]? = some o) : W.heap[b]? = some o := heap_later h hb
theorem After.cell {w W : World} {b i : Nat} {v : Value} (hb : After w W) (h : w.cell? ⟨b, i, none⟩ = some v) : W.cell? ⟨b, i, none⟩ = some v := cell_later' h W hb

theorem heap_new' (w : World) (o : Obj) : (w.alloc o).heap[w.heap.size]? = some o := by
  show (w.heap.push _)[_]? = _
  simp

/-- The value v is the term t as the model has it. -/
def ST (w : World) : Tm → Value → Prop
  | .app f a, v => ∃ g cap fr s0 p0 s1 p1, v = .agg #[str [], .slice (some ⟨g, 0, none⟩) 2 cap] ∧ w.heap[g]? = some (.cells #[s0, p0, s1, p1] 42 fr) ∧ ST w f (.agg #[s0, p0]) ∧ ST w a (.agg #[s1, p1])
  | t, v => v = .agg #[str t.text, .slice none 0 0]

theorem ST.later {w W : World} (hb : After w W) : ∀ {t : Tm} {v : Value}, ST w t v → ST W t v
  | .k, _, h => h
  | .s, _, h => h
  | .nm _, _, h => h
  | .app _ _, _, ⟨g, cap, fr, s0, p0, s1, p1, hv, hh, hf, ha⟩ => ⟨g, cap, fr, s0, p0, s1, p1, hv, hb.heap hh, hf.later hb, ha.later hb⟩

theorem ST.form {w : World} {t : Tm} {v : Value} (h : ST w t v) : ∃ s ao n c, v = .agg #[str s, .slice ao n c] := by
  cases t with
  | app f a => obtain ⟨g, cap, fr, s0, p0, s1, p1, rfl, _⟩ := h; exact ⟨_, _, _, _, rfl⟩
  | k => exact ⟨_, _, _, _, h⟩
  | s => exact ⟨_, _, _, _, h⟩
  | nm n => exact ⟨_, _, _, _, h⟩

theorem size_atom (w : World) (s : List UInt8) (v : Value) (hs : s ≠ []) :
    Calls Tryz.prog 35 #[.agg #[str s, v]] w fun e w' => e = .returned (.int .i64 1) ∧ After w w' := by
  have he : s.isEmpty = false := by cases s with | nil => exact absurd rfl hs | cons => rfl
  clear hs
  go_enter Tryz.func35, Tryz.ntmps35
  go_wp2_with fail
  go_ret
  exact ⟨rfl, After.new _ _⟩

/-- What is known behind the box of a tree with two parts. -/
theorem kid_facts (w : World) (g cap : Nat) (fr : Nat × Nat) (s0 s1 : List UInt8) (a0 a1 : Option Addr) (n0 c0 n1 c1 : Nat) (hh : w.heap[g]? = some (.cells #[str s0, .slice a0 n0 c0, str s1, .slice a1 n1 c1] 42 fr)) :
    After w (w.alloc (.cells #[str [], .slice (some ⟨g, 0, none⟩) 2 cap] 42)) ∧ After (w.alloc (.cells #[str [], .slice (some ⟨g, 0, none⟩) 2 cap] 42)) (w.alloc (.cells #[str [], .slice (some ⟨g, 0, none⟩) 2 cap] 42)) ∧
    (∀ W, After (w.alloc (.cells #[str [], .slice (some ⟨g, 0, none⟩) 2 cap] 42)) W → W.cell? ⟨w.heap.size, 0, none⟩ = some (str [])) ∧
    (∀ W, After (w.alloc (.cells #[str [], .slice (some ⟨g, 0, none⟩) 2 cap] 42)) W → W.cell? ⟨w.heap.size, 1, none⟩ = some (.slice (some ⟨g, 0, none⟩) 2 cap)) ∧
    (∀ W, After (w.alloc (.cells #[str [], .slice (some ⟨g, 0, none⟩) 2 cap] 42)) W → W.cell? ⟨g, 0, none⟩ = some (str s0)) ∧
    (∀ W, After (w.alloc (.cells #[str [], .slice (some ⟨g, 0, none⟩) 2 cap] 42)) W → W.cell? ⟨g, 1, none⟩ = some (.slice a0 n0 c0)) ∧
    (∀ W, After (w.alloc (.cells #[str [], .slice (some ⟨g, 0, none⟩) 2 cap] 42)) W → W.cell? ⟨g, 2, none⟩ = some (str s1)) ∧
    (∀ W, After (w.alloc (.cells #[str [], .slice (some ⟨g, 0, none⟩) 2 cap] 42)) W → W.cell? ⟨g, 3, none⟩ = some (.slice a1 n1 c1)) := by
  have hnew := After.new w (.cells #[str [], .slice (some ⟨g, 0, none⟩) 2 cap] 42)
  have hbox := heap_new' w (.cells #[str [], .slice (some ⟨g, 0, none⟩) 2 cap] 42)
  exact ⟨hnew, After.refl _, fun W hW => hW.cell (cell_of_heap hbox), fun W hW => hW.cell (cell_of_heap hbox), fun W hW => (hnew.trans hW).cell (cell_of_heap hh), fun W hW => (hnew.trans hW).cell (cell_of_heap hh), fun W hW => (hnew.trans hW).cell (cell_of_heap hh), fun W hW => (hnew.trans hW).cell (cell_of_heap hh)⟩

theorem size_app (w : World) (g cap : Nat) (fr : Nat × Nat) (s0 s1 : List UInt8) (a0 a1 : Option Addr) (n0 c0 n1 c1 : Nat) (f a : Tm) (hh : w.heap[g]? = some (.cells #[str s0, .slice a0 n0 c0, str s1, .slice a1 n1 c1] 42 fr))
    (hf : ∀ W, After w W → Calls Tryz.prog 35 #[.agg #[str s0, .slice a0 n0 c0]] W fun e w' => e = .returned (.int .i64 (f.size : Nat)) ∧ After W w')
    (ha : ∀ W, After w W → Calls Tryz.prog 35 #[.agg #[str s1, .slice a1 n1 c1]] W fun e w' => e = .returned (.int .i64 (a.size : Nat)) ∧ After W w') (hz : f.size + a.size ≤ 1000000000000) :
    Calls Tryz.prog 35 #[.agg #[str [], .slice (some ⟨g, 0, none⟩) 2 cap]] w fun e w' => e = .returned (.int .i64 ((f.app a).size : Nat)) ∧ After w w' := by
  obtain ⟨hnew, hself, b0, b1, g0, g1, g2, g3⟩ := kid_facts w g cap fr s0 s1 a0 a1 n0 c0 n1 c1 hh
  have hw : IntKind.i64.wrap ((f.size : Int) + (a.size : Int)) = (((f.app a).size : Nat) : Int) := by rw [IntWalk.i64_in _ (by omega)]; simp [Tm.size]
  have HW := Lib.hid hw
  clear hw
  go_enter Tryz.func35, Tryz.ntmps35
  go_wp2_with fail
  go_region_held3 (fun W' => After (w.alloc (.cells #[str [], .slice (some ⟨g, 0, none⟩) 2 cap] 42)) W') (first | assumption | exact hself.drew | go_keep)
    (first
      | (go_at_call_of 35 a0; refine (hf _ (hnew.trans (by assumption))).mono ?_; rintro e w1 ⟨rfl, hb1⟩; have hb1' := After.trans (by assumption) hb1)
      | (go_at_call_of 35 a1; refine (ha _ (hnew.trans (by assumption))).mono ?_; rintro e w2 ⟨rfl, hb2⟩; have hb2' := After.trans (by assumption) hb2))
  go_wp2_with fail
  go_ret
  exact ⟨by rw [← HW.out]; rfl, hnew.trans hb2'⟩

theorem ST.size {t : Tm} : ∀ {w : World} {v : Value}, ST w t v → t.good = true → t.size ≤ 1000000000 → Calls Tryz.prog 35 #[v] w fun e w' => e = .returned (.int .i64 (t.size : Nat)) ∧ After w w' := by
  induction t with
  | k => intro w v h _ _; simp only [ST] at h; subst h; exact size_atom w _ _ (by simp [Tm.text])
  | s => intro w v h _ _; simp only [ST] at h; subst h; exact size_atom w _ _ (by simp [Tm.text])
  | nm n => intro w v h hg _; simp only [ST] at h; subst h; exact size_atom w _ _ (Tm.text_ne _ hg)
  | app f a ihf iha =>
    intro w v h hg hz
    obtain ⟨g, cap, fr, s0, p0, s1, p1, rfl, hh, hf, ha⟩ := h
    simp only [Tm.good, Bool.and_eq_true] at hg
    simp only [Tm.size] at hz
    obtain ⟨x0, a0, n0, c0, e0⟩ := hf.form
    obtain ⟨x1, a1, n1, c1, e1⟩ := ha.form
    simp only [Value.agg.injEq, Array.mk.injEq, List.cons.injEq, and_true] at e0 e1
    obtain ⟨rfl, rfl⟩ := e0
    obtain ⟨rfl, rfl⟩ := e1
    exact size_app w g cap fr x0 x1 a0 a1 n0 c0 n1 c1 f a hh (fun W hW => ihf (hf.later hW) hg.1 (by omega)) (fun W hW => iha (ha.later hW) hg.2 (by omega)) (by omega)
end Go.Proofs.YtfpekihdoclncaaGreat
