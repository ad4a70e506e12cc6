/-
  The program's pairTerm, numeralTerm, NumberOf.
-/
import Derived.Test.YtjgemiojjhfnoacBody
import Derived.Test.YtjgemiojjhfnoacPure
import Derived.Test.YtjgemiojjhfnoacFit
namespace Go.Proofs.Ytjgemiojjhfnoac
open Go.RowKit

set_option maxHeartbeats 1000000
set_option maxRecDepth 100000

theorem AbsOk.later {w W : World} {B : Nat} {v : Value} {t : Tm} (h : AbsOk w B v t) (hb : Below w.heap.size w W) : AbsOk W B v t := by
  obtain ⟨T, x, f, y, hv, hm, hc, hd⟩ := h
  exact ⟨T, x, f, y, hv, hm, hc, fun W' hW' => hd W' (below_trans hb hW')⟩

theorem BV.absOk {w : World} {B : Nat} (hB : B ≤ w.heap.size) : ∀ {b : Bd} {v : Value}, BV w B b v → b.term.size ≤ 999999999 → AbsOk w B v b.term
  | .itself, _, h, _ => ⟨_, _, _, _, h, meth_itself, fun _ _ => by kernel_rfl, fun W hW => itself_abs W B (Nat.le_trans hB hW.size)⟩
  | .without t, _, ⟨x, hv, h⟩, hz => ⟨_, _, _, _, hv, fun W => meth_without W x, fun _ _ => by kernel_rfl, fun W hW => without_abs W B t x (h.below hW) (Nat.le_trans hB hW.size) (by simp only [Bd.term, Tm.size] at hz; omega)⟩
  | .atEnd t, _, ⟨x, hv, h⟩, hz => ⟨_, _, _, _, hv, fun W => meth_atEnd W x, fun _ _ => by kernel_rfl, fun W hW => atEnd_abs W B t x (h.below hW)⟩
  | .inside f a, _, ⟨x, y, hv, hf, ha⟩, hz => by
    simp only [Bd.term, Tm.size] at hz
    have sf := BV.absOk hB hf (by omega)
    have sa := BV.absOk hB ha (by omega)
    exact ⟨_, _, _, _, hv, fun W => meth_inside W x y, fun _ _ => by kernel_rfl, fun W hW => inside_abs W B _ _ x y (sf.later hW) (sa.later hW) (Nat.le_trans hB hW.size) (by omega)⟩

theorem pair_any (w : World) (B : Nat) (m n : Tm) (v1 v2 : Value) (h1 : TV w B m v1) (h2 : TV w B n v2) (hB : B ≤ w.heap.size) (hz : m.size + n.size ≤ 100000000) :
    Calls Try.prog 42 #[v1, v2] w (TermPost w B (Tm.pair m n)) := by
  have hx := BV.absOk (b := .inside .itself (.without m)) (v := .iface 105 (.agg #[.iface 99 (.agg #[]), .iface 101 (.agg #[v1])])) hB ⟨_, _, rfl, rfl, _, rfl, h1⟩ (by simp [Bd.term, Tm.I, Tm.size]; omega)
  have hy := BV.absOk (b := .without n) (v := .iface 101 (.agg #[v2])) hB ⟨_, rfl, h2⟩ (by simp [Bd.term, Tm.size]; omega)
  have hcall := inside_abs w B _ _ _ _ hx hy hB (by simp [Bd.term, Tm.I, Tm.size]; omega)
  obtain ⟨T1, x1, rfl, _⟩ := h1.asks
  obtain ⟨T2, x2, rfl, _⟩ := h2.asks
  have hfin : (Tm.app (.app .s (Bd.term (.inside .itself (.without m)))) (Bd.term (.without n))) = Tm.pair m n := rfl
  rw [hfin] at hcall
  unfold TermPost at hcall
  clear hx hy h1 h2 hfin
  go_enter Try.func42, Try.ntmps42
  go_wp2_with fail
  refine hcall.mono ?_
  rintro e w1 ⟨v3, rfl, hb1, ht1⟩
  have HT := Lib.hid ht1
  clear ht1 hcall
  go_wp2_with fail
  go_ret
  exact ⟨_, rfl, hb1, HT.out⟩

theorem numeral_any (w : World) (B n : Nat) (hB : B ≤ w.heap.size) (hn : n ≤ 1000000) :
    Calls Try.prog 48 #[.int .i64 n] w (TermPost w B (Tm.num n)) := by
  have hI := identity_any w B hB
  unfold TermPost at hI
  go_enter Try.func48, Try.ntmps48
  go_wp2_with fail
  refine hI.mono ?_
  rintro e w1 ⟨v1, rfl, hb1, ht1⟩
  have hstart : Hid (TV w1 B (Tm.num 0) v1) := ht1
  clear ht1 hI
  go_wp2_with fail
  go_loopw [3, 6] (fun v i wr => ∃ k : Nat, i = .int .i64 k ∧ k ≤ n ∧ Hid (TV wr B (Tm.num k) v) ∧ Below w.heap.size w wr) (fun _ i _ => n - (intOf i).toNat)
  case atStart => exact ⟨0, rfl, Nat.zero_le _, hstart, hb1⟩
  case round =>
    clear hstart
    obtain ⟨k, rfl, hk, ht, hb⟩ := hrel
    by_cases hlt : k < n
    · have hbit := bit_any wr B false (Nat.le_trans hB hb.size)
      unfold TermPost at hbit
      simp only [Bool.false_eq_true, if_false] at hbit
      go_wp2_with fail
      refine hbit.mono ?_
      rintro e w2 ⟨v2, rfl, hb2, ht2⟩
      have hz := Tm.size_num k
      have hcall := pair_any w2 B Tm.no (Tm.num k) v2 _ ht2 (ht.out.below hb2) (Nat.le_trans hB (below_trans hb hb2).size) (by rw [hz]; simp [Tm.no, Tm.I, Tm.size]; omega)
      rw [show Tm.pair Tm.no (Tm.num k) = Tm.num (k + 1) from rfl] at hcall
      unfold TermPost at hcall
      clear ht2 hbit hz
      go_wp2_with fail
      refine hcall.mono ?_
      rintro e w3 ⟨v3, rfl, hb3, ht3⟩
      have HT3 := Lib.hid ht3
      clear ht3 hcall
      go_wp2_with fail
      go_roundw
      case rel => exact ⟨k + 1, by go_num, by omega, HT3, below_trans (below_trans hb hb2) hb3⟩
      case measure => simp [intOf]; omega
    · obtain rfl : k = n := by omega
      go_wp2_with fail
      go_ret
      exact ⟨_, rfl, hb, ht.out⟩

/-- What NumberOf answers. -/
def pNumber (n : Int) : Option (List UInt8) := if 0 ≤ n ∧ n ≤ 60 then some (Tm.num n.toNat).text else none

def NumOne (w : World) (r : Option (List UInt8)) (e : Ending) (w' : World) : Prop :=
  e = .returned (.tuple #[str (r.getD []), .bool r.isSome]) ∧ Below w.heap.size w w'

theorem impl_number (w : World) (n : Int) : Calls Try.prog 21 #[.int .i64 n] w (NumOne w (pNumber n)) := by
  unfold pNumber
  by_cases h0 : n < 0
  · simp only [show ¬ (0 ≤ n ∧ n ≤ 60) by omega, if_false]
    go_enter Try.func21, Try.ntmps21
    go_wp2_with fail
    go_ret2
    exact ⟨rfl, Below.refl _ _⟩
  · by_cases h1 : 60 < n
    · simp only [show ¬ (0 ≤ n ∧ n ≤ 60) by omega, if_false]
      go_enter Try.func21, Try.ntmps21
      go_wp2_with fail
      go_ret2
      exact ⟨rfl, Below.refl _ _⟩
    · obtain ⟨k, rfl⟩ : ∃ k : Nat, n = k := ⟨n.toNat, by omega⟩
      simp only [show (0 : Int) ≤ (k : Int) ∧ (k : Int) ≤ 60 by omega, and_self, if_true, Int.toNat_natCast]
      have hcall := numeral_any w 0 k (Nat.zero_le _) (by omega)
      have hg := Tm.good_num k
      have hz := Tm.size_num k
      have htl := Tm.text_le _ hg
      have hd := Tm.depth_lt (Tm.num k)
      unfold TermPost at hcall
      generalize Tm.num k = t at *
      go_enter Try.func21, Try.ntmps21
      go_wp2_with (first
        | (go_at_call 48; refine hcall.mono ?_; rintro e w1 ⟨v1, rfl, hb1, ht1⟩; have HT := Lib.hid ht1; clear ht1)
        | (go_at_call 34; refine (textOf_any _ 0 t _ HT.out hg (by omega)).mono ?_; rintro e w2 ⟨rfl, hb2⟩))
      go_ret2
      exact ⟨rfl, below_trans hb1 hb2⟩
end Go.Proofs.Ytjgemiojjhfnoac
