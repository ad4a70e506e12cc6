/-
  A term put for a name in a term in memory: the method put.
-/
import Derived.Test.YtmkmladlpgfniaaPkRep
namespace Go.Proofs.Ytmkmladlpgfniaa
open Go.RowKit

set_option maxHeartbeats 400000
set_option maxRecDepth 100000

def PutPost (w : World) (B : Nat) (u : Tm) (e : Ending) (w' : World) : Prop :=
  ∃ v', e = .returned v' ∧ Below w.heap.size w w' ∧ TV w' B u v'

def PutOk (w : World) (B : Nat) (v : Value) (t : Tm) (name : List UInt8) (b : Tm) (vb : Value) : Prop :=
  ∃ T x f y, v = .iface T x ∧ (∀ W, Below w.heap.size w W → (method 266 T x "loop.example/realizers/impl.put").run Try.prog W = .ok (f, y) W) ∧ (∀ args w', (callFunc f args).run Try.prog w' = .ok (.enter f args) w') ∧
    ∀ W, Below w.heap.size w W → Calls Try.prog f #[y, str name, vb] W (PutPost W B (t.put name b))

theorem k_put (W : World) (a : Addr) (n vb : Value) : Calls Try.prog 145 #[.pointer (some a), n, vb] W fun e w' => e = .returned (.iface 131 (.pointer (some a))) ∧ W = w' := by
  go_enter Try.func145, Try.ntmps145
  go_wp2_with fail
  go_ret
  exact ⟨rfl, rfl⟩

theorem s_put (W : World) (a : Addr) (n vb : Value) : Calls Try.prog 149 #[.pointer (some a), n, vb] W fun e w' => e = .returned (.iface 134 (.pointer (some a))) ∧ W = w' := by
  go_enter Try.func149, Try.ntmps149
  go_wp2_with fail
  go_ret
  exact ⟨rfl, rfl⟩

theorem n_put_eq (W : World) (b : Nat) (n : List UInt8) (vb : Value) (hc : W.cell? ⟨b, 0, none⟩ = some (str n)) :
    Calls Try.prog 128 #[.pointer (some ⟨b, 0, none⟩), str n, vb] W fun e w' => e = .returned vb ∧ W = w' := by
  go_enter Try.func128, Try.ntmps128
  go_wp2_with fail
  go_ret
  exact ⟨rfl, rfl⟩

theorem n_put_ne (W : World) (b : Nat) (n m : List UInt8) (vb : Value) (hc : W.cell? ⟨b, 0, none⟩ = some (str n)) (hne : n ≠ m) :
    Calls Try.prog 128 #[.pointer (some ⟨b, 0, none⟩), str m, vb] W fun e w' => e = .returned (.iface 93 (.pointer (some ⟨b, 0, none⟩))) ∧ W = w' := by
  have hb : (n == m) = false := beq_eq_false_iff_ne.2 hne
  go_enter Try.func128, Try.ntmps128
  go_wp2_with fail
  go_ret
  exact ⟨rfl, rfl⟩

theorem a_put (w W : World) (B b : Nat) (T1 T2 : TypeId) (x1 x2 vb : Value) (f a u : Tm) (name : List UInt8) (hW : Below w.heap.size w W) (hB : B ≤ w.heap.size)
    (h0 : ∀ W, Below w.heap.size w W → W.cell? ⟨b, 0, none⟩ = some (.iface T1 x1)) (h1 : ∀ W, Below w.heap.size w W → W.cell? ⟨b, 1, none⟩ = some (.iface T2 x2))
    (hf : PutOk w B (.iface T1 x1) f name u vb) (ha : PutOk w B (.iface T2 x2) a name u vb) (hz : (f.put name u).size + (a.put name u).size < 4611686018427387904) :
    Calls Try.prog 138 #[.pointer (some ⟨b, 0, none⟩), str name, vb] W (PutPost W B ((f.app a).put name u)) := by
  obtain ⟨_, _, g4, z4, e0, k4, l4, d4⟩ := hf
  injection e0 with e1 e2
  subst e1; subst e2
  obtain ⟨_, _, g5, z5, e0, k5, l5, d5⟩ := ha
  injection e0 with e1 e2
  subst e1; subst e2
  go_enter Try.func138, Try.ntmps138
  go_wp2_with fail
  have hself := Below.refl W.heap.size W
  go_region_held3 (fun W' => Below w.heap.size w W') (first | assumption | exact hW.drew | go_keep)
    (first
      | (go_at_fn g4; refine (d4 _ (by assumption)).mono ?_; rintro e w1 ⟨r1, rfl, hb1, hv1⟩; have hw1 := hb1.size; have hbw1 := below_trans hW.drew hb1)
      | (go_at_fn g5; refine (d5 _ (by assumption)).mono ?_; rintro e w2 ⟨r2, rfl, hb2, hv2⟩; have hv1' := hv1.below hb2; have hbw2 := below_trans hbw1 hb2)
      | (go_at_call 74; refine (apply_any _ B (f.put name u) (a.put name u) r1 r2 hv1' hv2 (Nat.le_trans hB hbw2.size) hz).mono ?_; rintro e w3 ⟨r3, rfl, hb3, hv3⟩; have hbw3 := below_trans hbw2 hb3))
  go_wp2_with fail
  go_ret
  exact ⟨_, rfl, below_trans hself.drew (below_trans (below_trans hb1 hb2) hb3), hv3⟩

theorem put_size (t b : Tm) (n : List UInt8) : (t.put n b).size ≤ t.size * (b.size + 1) := by
  have h1 := Tm.size_put n b t
  have h2 := Tm.uses_le n t
  have h3 := Nat.mul_le_mul_right b.size h2
  rw [Nat.mul_add, Nat.mul_one]
  omega

theorem TV.putOk {w : World} {B : Nat} {u : Tm} {vb : Value} (name : List UInt8) (hB : B ≤ w.heap.size) (hb : TV w B u vb) : ∀ {t : Tm} {v : Value}, TV w B t v → t.size * (u.size + 1) < 4611686018427387904 → PutOk w B v t name u vb
  | .k, _, ⟨b, fr, hv, hbB, h⟩, _ => ⟨_, _, _, _, hv, fun W _ => (meth_kLetter_put _ W).1, (meth_kLetter_put ⟨b, 0, none⟩ w).2, fun W hW => (k_put W _ _ _).mono fun e w' ⟨he, hw⟩ => ⟨_, he, hw ▸ Below.refl _ _, hw ▸ (TV.below (w := w) ⟨b, fr, rfl, hbB, h⟩ hW)⟩⟩
  | .s, _, ⟨b, fr, hv, hbB, h⟩, _ => ⟨_, _, _, _, hv, fun W _ => (meth_sLetter_put _ W).1, (meth_sLetter_put ⟨b, 0, none⟩ w).2, fun W hW => (s_put W _ _ _).mono fun e w' ⟨he, hw⟩ => ⟨_, he, hw ▸ Below.refl _ _, hw ▸ (TV.below (w := w) ⟨b, fr, rfl, hbB, h⟩ hW)⟩⟩
  | .nm n, _, ⟨b, fr, hv, hbB, h⟩, _ => by
    refine ⟨_, _, _, _, hv, fun W _ => (meth_nameAtom_put _ W).1, (meth_nameAtom_put ⟨b, 0, none⟩ w).2, fun W hW => ?_⟩
    have hc := cell_of_heap (i := 0) (heap_later h hW)
    by_cases hn : n = name
    · subst hn
      exact (n_put_eq W b n vb hc).mono fun e w' ⟨he, hw⟩ => ⟨_, he, hw ▸ Below.refl _ _, by rw [← hw]; simpa [Tm.put] using hb.below hW⟩
    · exact (n_put_ne W b n name vb hc hn).mono fun e w' ⟨he, hw⟩ => ⟨_, he, hw ▸ Below.refl _ _, by rw [← hw]; simpa [Tm.put, hn] using (TV.below (w := w) (t := .nm n) ⟨b, fr, rfl, hbB, h⟩ hW)⟩
  | .app f a, _, ⟨b, fr, vf, va, hv, _, h, hf, ha⟩, hz => by
    simp only [Tm.size, Nat.add_mul] at hz
    have sf := TV.putOk name hB hb hf (by omega)
    have sa := TV.putOk name hB hb ha (by omega)
    have z1 := put_size f u name
    have z2 := put_size a u name
    obtain ⟨T1, x1, rfl, _⟩ := hf.asks
    obtain ⟨T2, x2, rfl, _⟩ := ha.asks
    exact ⟨_, _, _, _, hv, fun W _ => (meth_application_put _ W).1, (meth_application_put ⟨b, 0, none⟩ w).2, fun W hW =>
      a_put w W B b T1 T2 x1 x2 vb f a u name hW hB (cell_later' (cell_of_heap (i := 0) h)) (cell_later' (cell_of_heap (i := 1) h)) sf sa (by omega)⟩
end Go.Proofs.Ytmkmladlpgfniaa
