/-
  A term put for a name in a term in memory: the method put.
-/
import Derived.Test.YtjomocjlnjgkeaaPkAE
import Derived.Test.YtjomocjlnjgkeaaPkAV
import Derived.Test.YtjomocjlnjgkeaaPkAT
namespace Go.Proofs.Ytjomocjlnjgkeaa
open Go.RowKit

set_option maxHeartbeats 400000
set_option maxRecDepth 100000

def PutPost (w : World) (B : Nat) (u : Tm) (e : Ending) (w' : World) : Prop :=
  ∃ v', e = .returned v' ∧ Below w.heap.size w w' ∧ TV w' B u v'

def PutOk (w : World) (B : Nat) (v : Value) (t : Tm) (name : List UInt8) (b : Tm) (vb : Value) : Prop :=
  ∃ T x f y, v = .iface T x ∧ (∀ W, Below w.heap.size w W → (method 311 T x "loop.example/realizers/impl.put").run Try.prog W = .ok (f, y) W) ∧ (∀ args w', (callFunc f args).run Try.prog w' = .ok (.enter f args) w') ∧
    ∀ W, Below w.heap.size w W → Calls Try.prog f #[y, str name, vb] W (PutPost W B (t.put name b))

theorem k_put (W : World) (a : Addr) (n vb : Value) : Calls Try.prog 173 #[.pointer (some a), n, vb] W fun e w' => e = .returned (.iface 137 (.pointer (some a))) ∧ W = w' := by
  go_enter Try.func173, Try.ntmps173
  go_wp2_with fail
  go_ret
  exact ⟨rfl, rfl⟩

theorem s_put (W : World) (a : Addr) (n vb : Value) : Calls Try.prog 169 #[.pointer (some a), n, vb] W fun e w' => e = .returned (.iface 134 (.pointer (some a))) ∧ W = w' := by
  go_enter Try.func169, Try.ntmps169
  go_wp2_with fail
  go_ret
  exact ⟨rfl, rfl⟩

theorem n_put_eq (W : World) (b : Nat) (n : List UInt8) (vb : Value) (hc : W.cell? ⟨b, 0, none⟩ = some (str n)) :
    Calls Try.prog 162 #[.pointer (some ⟨b, 0, none⟩), str n, vb] W fun e w' => e = .returned vb ∧ W = w' := by
  go_enter Try.func162, Try.ntmps162
  go_wp2_with fail
  go_ret
  exact ⟨rfl, rfl⟩

theorem n_put_ne (W : World) (b : Nat) (n m : List UInt8) (vb : Value) (hc : W.cell? ⟨b, 0, none⟩ = some (str n)) (hne : n ≠ m) :
    Calls Try.prog 162 #[.pointer (some ⟨b, 0, none⟩), str m, vb] W fun e w' => e = .returned (.iface 97 (.pointer (some ⟨b, 0, none⟩))) ∧ W = w' := by
  have hb : (n == m) = false := beq_eq_false_iff_ne.2 hne
  go_enter Try.func162, Try.ntmps162
  go_wp2_with fail
  go_ret
  exact ⟨rfl, rfl⟩

theorem a_put (w W : World) (B b : Nat) (T1 T2 : TypeId) (x1 x2 vb : Value) (f a u : Tm) (name : List UInt8) (hW : Below w.heap.size w W) (hB : B ≤ w.heap.size)
    (h0 : ∀ W, Below w.heap.size w W → W.cell? ⟨b, 0, none⟩ = some (.iface T1 x1)) (h1 : ∀ W, Below w.heap.size w W → W.cell? ⟨b, 1, none⟩ = some (.iface T2 x2))
    (hf : PutOk w B (.iface T1 x1) f name u vb) (ha : PutOk w B (.iface T2 x2) a name u vb) (hz : (f.put name u).size + (a.put name u).size < 4611686018427387904) :
    Calls Try.prog 181 #[.pointer (some ⟨b, 0, none⟩), str name, vb] W (PutPost W B ((f.app a).put name u)) := by
  obtain ⟨_, _, g4, z4, e0, k4, l4, d4⟩ := hf
  injection e0 with e1 e2
  subst e1; subst e2
  obtain ⟨_, _, g5, z5, e0, k5, l5, d5⟩ := ha
  injection e0 with e1 e2
  subst e1; subst e2
  go_enter Try.func181, Try.ntmps181
  go_wp2_with fail
  have hself := Below.refl W.heap.size W
  go_region_held3 (fun W' => Below w.heap.size w W') (first | assumption | exact hW.drew | go_keep)
    (first
      | (go_at_fn g4; refine (d4 _ (by assumption)).mono ?_; rintro e w1 ⟨r1, rfl, hb1, hv1⟩; have hw1 := hb1.size; have hbw1 := below_trans hW.drew hb1)
      | (go_at_fn g5; refine (d5 _ (by assumption)).mono ?_; rintro e w2 ⟨r2, rfl, hb2, hv2⟩; have hv1' := hv1.below hb2; have hbw2 := below_trans hbw1 hb2)
      | (go_at_call 89; refine (apply_any _ B (f.put name u) (a.put name u) r1 r2 hv1' hv2 (Nat.le_trans hB hbw2.size) hz).mono ?_; rintro e w3 ⟨r3, rfl, hb3, hv3⟩; have hbw3 := below_trans hbw2 hb3))
  go_wp2_with fail
  go_ret
  exact ⟨_, rfl, below_trans hself.drew (below_trans (below_trans hb1 hb2) hb3), hv3⟩

theorem put_size (t b : Tm) (n : List UInt8) : (t.put n b).size ≤ t.size * (b.size + 1) := by
  have h1 := Tm.size_put n b t
  have h2 := Tm.uses_le n t
  have h3 := Nat.mul_le_mul_right b.size h2
  rw [Nat.mul_add, Nat.mul_one]
  omega

theorem TV.putOk {w : World} {B : Nat} {u : Tm} {vb : Value} (name : List UInt8) (hB : B ≤ w.heap.size) (hb : TV w B u vb) : ∀ {t : Tm} {v : Value}, TV w B t v → t.size * (u.size + 1) < 4611686018427387904 → PutOk w B v t name u vb
  | .k, _, ⟨b, fr, hv, hbB, h⟩, _ => ⟨_, _, _, _, hv, fun W _ => (meth_kLetter_put _ W).1, (meth_kLetter_put ⟨b, 0, none⟩ w).2, fun W hW => (k_put W _ _ _).mono fun e w' ⟨he, hw⟩ => ⟨_, he, hw ▸ Below.refl _ _, hw ▸ (TV.below (w := w) ⟨b, fr, rfl, hbB, h⟩ hW)⟩⟩
  | .s, _, ⟨b, fr, hv, hbB, h⟩, _ => ⟨_, _, _, _, hv, fun W _ => (meth_sLetter_put _ W).1, (meth_sLetter_put ⟨b, 0, none⟩ w).2, fun W hW => (s_put W _ _ _).mono fun e w' ⟨he, hw⟩ => ⟨_, he, hw ▸ Below.refl _ _, hw ▸ (TV.below (w := w) ⟨b, fr, rfl, hbB, h⟩ hW)⟩⟩
  | .nm n, _, ⟨b, fr, hv, hbB, h⟩, _ => by
    refine ⟨_, _, _, _, hv, fun W _ => (meth_nameAtom_put _ W).1, (meth_nameAtom_put ⟨b, 0, none⟩ w).2, fun W hW => ?_⟩
    have hc := cell_of_heap (i := 0) (heap_later h hW)
    by_cases hn : n = name
    · subst hn
      exact (n_put_eq W b n vb hc).mono fun e w' ⟨he, hw⟩ => ⟨_, he, hw ▸ Below.refl _ _, by rw [← hw]; simpa [Tm.put] using hb.below hW⟩
    · exact (n_put_ne W b n name vb hc hn).mono fun e w' ⟨he, hw⟩ => ⟨_, he, hw ▸ Below.refl _ _, by rw [← hw]; simpa [Tm.put, hn] using (TV.below (w := w) (t := .nm n) ⟨b, fr, rfl, hbB, h⟩ hW)⟩
  | .app f a, _, ⟨b, fr, vf, va, hv, _, h, hf, ha⟩, hz => by
    simp only [Tm.size, Nat.add_mul] at hz
    have sf := TV.putOk name hB hb hf (by omega)
    have sa := TV.putOk name hB hb ha (by omega)
    have z1 := put_size f u name
    have z2 := put_size a u name
    obtain ⟨T1, x1, rfl, _⟩ := hf.asks
    obtain ⟨T2, x2, rfl, _⟩ := ha.asks
    exact ⟨_, _, _, _, hv, fun W _ => (meth_application_put _ W).1, (meth_application_put ⟨b, 0, none⟩ w).2, fun W hW =>
      a_put w W B b T1 T2 x1 x2 vb f a u name hW hB (cell_later' (cell_of_heap (i := 0) h)) (cell_later' (cell_of_heap (i := 1) h)) sf sa (by omega)⟩
end Go.Proofs.Ytjomocjlnjgkeaa

namespace Go.Proofs.Ytjomocjlnjgkeaa
open Go.RowKit

set_option maxHeartbeats 400000
set_option maxRecDepth 100000

theorem impl_put (w : World) (l n m : List UInt8) (hl : l.length ≤ 1000000000) (hn : n.length ≤ 1000000000) (hm : m.length ≤ 1000000000) :
    Calls Try.prog 16 #[str l, str n, str m] w (TextRes w (Tm.pPut l n m)) := by
  have hread := readBoth_any w w.heap.size l m (Nat.le_refl _) hl hm
  have hname := fun W => nameValid_any W n hn
  unfold BothPost at hread
  by_cases hb : ((Tm.parse l).isSome && (Tm.parse m).isSome) = false
  · have hfin : Tm.pPut l n m = none := by
      unfold Tm.pPut
      split
      · rename_i h1 h2; rw [h1, h2] at hb; simp at hb
      · rfl
    rw [hfin]
    rw [hb] at hread
    clear hfin hname hb
    go_enter Try.func16, Try.ntmps16
    go_wp2_with (go_at_call 40; refine hread.mono ?_; rintro e w1 ⟨v1, v2, rfl, hb1, hv1⟩; clear hv1)
    go_ret2
    exact ⟨rfl, hb1⟩
  · have hb' : ((Tm.parse l).isSome && (Tm.parse m).isSome) = true := by rw [Bool.not_eq_false] at hb; exact hb
    rw [Bool.and_eq_true, Option.isSome_iff_exists, Option.isSome_iff_exists] at hb'
    obtain ⟨⟨t, hp⟩, ⟨u, hq⟩⟩ := hb'
    rw [hp, hq] at hread
    simp only [Option.isSome_some, Bool.and_self] at hread
    clear hb
    obtain ⟨hg, hf, hs, _, _⟩ := Tm.parse_facts hp
    obtain ⟨hgu, hfu, hsu, _, _⟩ := Tm.parse_facts hq
    cases hok : Tm.nameOk n with
    | false =>
      have hfin : Tm.pPut l n m = none := by simp [Tm.pPut, hp, hq, hok]
      rw [hok] at hname
      rw [hfin]
      clear hfin hp hq
      go_enter Try.func16, Try.ntmps16
      go_wp2_with (first
        | (go_at_call 40; refine hread.mono ?_; rintro e w1 ⟨v1, v2, rfl, hb1, hv1⟩; clear hv1)
        | (go_at_call 41; refine (hname _).mono ?_; rintro e w2 ⟨rfl, rfl⟩))
      go_ret2
      exact ⟨rfl, hb1⟩
    | true =>
      rw [hok] at hname
      have hgp := Tm.good_put n u t hgu hg
      have hzz : t.size * (u.size + 1) < 4611686018427387904 := Nat.lt_of_le_of_lt (Nat.mul_le_mul hs (Nat.succ_le_succ hsu)) (by omega)
      cases hfp : (t.put n u).fits with
      | false =>
        have hfin : Tm.pPut l n m = none := by simp [Tm.pPut, hp, hq, hfp]
        rw [hfin]
        clear hfin
        go_enter Try.func16, Try.ntmps16
        go_wp2_with fail
        refine hread.mono ?_
        rintro e w1 ⟨v1, v2, rfl, hb1, hv1⟩
        obtain ⟨ht1, ht2⟩ := hv1 t u rfl rfl
        clear hv1 hread hp hq
        obtain ⟨T1, x1, f1, y1, rfl, m1, n1, c1⟩ := TV.putOk n hb1.size ht2 ht1 hzz
        have hb0 := Below.refl w1.heap.size w1
        go_wp2_with (first
          | (go_at_call 41; refine (hname _).mono ?_; rintro e w2 ⟨rfl, rfl⟩)
          | (go_at_fn f1; refine (c1 _ hb0).mono ?_; rintro e w3 ⟨v3, rfl, hb3, hv3⟩))
        have hfit := fits_any w3 _ _ v3 hv3
        rw [hfp] at hfit
        go_wp2_with (go_at_call 42; refine hfit.mono ?_; rintro e w4 ⟨rfl, hb4⟩)
        go_ret2
        exact ⟨rfl, below_trans hb1 (below_trans hb3 hb4)⟩
      | true =>
        have hfz := fits_size hfp
        have htl := Tm.text_le _ hgp
        have hfin : Tm.pPut l n m = some (t.put n u).text := by simp [Tm.pPut, hp, hq, hfp, hok]
        rw [hfin]
        clear hfin
        go_enter Try.func16, Try.ntmps16
        go_wp2_with fail
        refine hread.mono ?_
        rintro e w1 ⟨v1, v2, rfl, hb1, hv1⟩
        obtain ⟨ht1, ht2⟩ := hv1 t u rfl rfl
        clear hv1 hread hp hq
        obtain ⟨T1, x1, f1, y1, rfl, m1, n1, c1⟩ := TV.putOk n hb1.size ht2 ht1 hzz
        have hb0 := Below.refl w1.heap.size w1
        go_wp2_with (first
          | (go_at_call 41; refine (hname _).mono ?_; rintro e w2 ⟨rfl, rfl⟩)
          | (go_at_fn f1; refine (c1 _ hb0).mono ?_; rintro e w3 ⟨v3, rfl, hb3, hv3⟩))
        have hfit := fits_any w3 _ _ v3 hv3
        rw [hfp] at hfit
        go_wp2_with (go_at_call 42; refine hfit.mono ?_; rintro e w4 ⟨rfl, hb4⟩)
        refine (textOf_any _ _ _ _ (hv3.below hb4) hgp (by omega)).mono ?_
        rintro e w5 ⟨rfl, hb5⟩
        go_wp2_with fail
        go_ret2
        exact ⟨rfl, below_trans (below_trans hb1 hb3) (below_trans hb4 hb5)⟩
end Go.Proofs.Ytjomocjlnjgkeaa
