/-
  The program's abstraction of a name: bodyOf for every term, abstraction.
-/
import Derived.Test.YtfpekihdoclncaaGreatPkAI
import Derived.Test.YtfpekihdoclncaaGreatPkAK
import Derived.RangeFuncNested
import Derived.RangeFuncBound
import Derived.RangeFuncCalls
import Derived.RangeFuncLeaves
import Derived.Shelf.Abstract
import Derived.WalkKit
import Derived.OwnWalkIn
import Derived.TacticsInMore
import Derived.LoopNIn
import Derived.LoopIn
import Derived.Lib.Hide
import Derived.Test.YtfpekihdoclncaaGreatPkAA
namespace Go.Proofs.YtfpekihdoclncaaGreat
open Go.RowKit

set_option maxHeartbeats 1000000
set_option maxRecDepth 100000

theorem bodyOf_any (x : List UInt8) : ∀ {t : Tm} {w : World} {B : Nat} {v : Value}, TV w B t v → Calls Tryz.prog 68 #[v, str x] w (BodyPost w B (Bd.of x t)) := by
  intro t
  induction t with
  | k => intro w B v h; obtain ⟨b, fr, rfl, _⟩ := id h; exact body_leaf w B x _ b .k (Or.inl rfl) h
  | s => intro w B v h; obtain ⟨b, fr, rfl, _⟩ := id h; exact body_leaf w B x _ b .s (Or.inr rfl) h
  | nm n => intro w B v h; obtain ⟨b, fr, rfl, _⟩ := id h; exact body_name w B x n b h
  | app f a ihf iha =>
    intro w B v h
    have h' := h
    obtain ⟨b, fr, vf, va, rfl, hb, hh, hf, ha⟩ := h
    obtain ⟨T1, x1, rfl, _⟩ := hf.asks
    obtain ⟨T2, x2, rfl, _⟩ := ha.asks
    have hcall := body_parts w B b x f a (Bd.of x f) (Bd.of x a) T1 T2 x1 x2 h' hf (cell_later' (cell_of_heap (i := 0) hh)) (cell_later' (cell_of_heap (i := 1) hh)) (fun W' hW' => ihf (hf.below hW')) (fun W' hW' => iha (ha.below hW'))
    rw [show Bd.of x (.app f a) = Bd.comb f a (Bd.of x f) (Bd.of x a) from rfl]
    generalize Bd.comb f a (Bd.of x f) (Bd.of x a) = c at hcall ⊢
    unfold BodyPost at hcall
    have ha1 := assert_nm_a w (.pointer (some ⟨b, 0, none⟩))
    have ha2 := assert_app w (.pointer (some ⟨b, 0, none⟩))
    clear h' hh hf ha ihf iha
    go_enter Tryz.func68, Tryz.ntmps68
    go_wp2_with fail
    refine hcall.mono ?_
    rintro e w1 ⟨v1, rfl, hb1, hv1⟩
    have HV := Lib.hid hv1
    clear hv1 hcall
    go_wp2_with fail
    go_ret
    exact ⟨_, rfl, hb1, HV.out⟩

theorem comb_in {f a : Tm} {b1 b2 : Bd} (h : ∀ u, b1 ≠ .without u) : Bd.comb f a b1 b2 = .inside b1 b2 := by
  cases b1 with
  | without u => exact absurd rfl (h u)
  | itself => cases b2 <;> rfl
  | atEnd u => cases b2 <;> rfl
  | inside c d => cases b2 <;> rfl

theorem comb_in2 {f a : Tm} {b1 b2 : Bd} (h : ∀ u, b2 ≠ .without u) (h2 : b2 ≠ .itself) : Bd.comb f a b1 b2 = .inside b1 b2 := by
  cases b2 with
  | without u => exact absurd rfl (h u)
  | itself => exact absurd rfl h2
  | atEnd u => cases b1 <;> rfl
  | inside c d => cases b1 <;> rfl

theorem of_none (x : List UInt8) : ∀ {t : Tm}, Tm.uses x t = 0 → Bd.of x t = .without t
  | .k, _ => rfl
  | .s, _ => rfl
  | .nm n, h => by
    simp only [Tm.uses] at h
    split at h
    · simp at h
    · rename_i hn; simp [Bd.of, hn]
  | .app f a, h => by
    simp only [Tm.uses] at h
    rw [Bd.of, of_none x (t := f) (by omega), of_none x (t := a) (by omega)]
    rfl

theorem of_some (x : List UInt8) : ∀ {t : Tm}, Tm.uses x t ≠ 0 → (∀ u, Bd.of x t ≠ .without u) ∧ (Bd.of x t = .itself ↔ Tm.isNm x t = true)
  | .k, h => absurd rfl h
  | .s, h => absurd rfl h
  | .nm n, h => by
    simp only [Tm.uses] at h
    split at h
    · rename_i hn; simp [Bd.of, hn, Tm.isNm]
    · exact absurd rfl h
  | .app f a, h => by
    by_cases hf : Tm.uses x f = 0
    · have ha : Tm.uses x a ≠ 0 := by simp only [Tm.uses] at h; omega
      have ih := of_some x ha
      rw [Bd.of, of_none x hf]
      cases hb : Bd.of x a with
      | without u => exact absurd hb (ih.1 u)
      | itself => exact ⟨fun u => by simp [Bd.comb], by simp [Bd.comb, Tm.isNm]⟩
      | atEnd u => exact ⟨fun u => by simp [Bd.comb], by simp [Bd.comb, Tm.isNm]⟩
      | inside c d => exact ⟨fun u => by simp [Bd.comb], by simp [Bd.comb, Tm.isNm]⟩
    · have ih := of_some x hf
      rw [Bd.of, comb_in ih.1]
      exact ⟨fun u => by simp, by simp [Tm.isNm]⟩

theorem of_term (x : List UInt8) : ∀ t : Tm, (Bd.of x t).term = Tm.abs x t
  | .k => rfl
  | .s => rfl
  | .nm n => by by_cases hn : n = x <;> simp [Bd.of, Tm.abs, hn, Bd.term]
  | .app f a => by
    have ihf := of_term x f
    have iha := of_term x a
    by_cases h0 : Tm.uses x (.app f a) = 0
    · rw [of_none x h0, Tm.abs_none x _ h0]; rfl
    · rw [Tm.abs, if_neg h0]
      by_cases hf : Tm.uses x f = 0
      · have ha : Tm.uses x a ≠ 0 := by simp only [Tm.uses] at h0; omega
        have ha' := of_some x ha
        by_cases hn : Tm.isNm x a = true
        · rw [if_pos ⟨hn, hf⟩, Bd.of, of_none x hf, ha'.2.2 hn]; rfl
        · rw [if_neg (fun h => hn h.1), Bd.of, comb_in2 ha'.1 (fun h => hn (ha'.2.1 h)), Bd.term, ihf, iha]
      · rw [if_neg (fun h => hf h.2), Bd.of, comb_in (of_some x hf).1, Bd.term, ihf, iha]

theorem abs_size (x : List UInt8) : ∀ t : Tm, (Tm.abs x t).size + 1 ≤ 4 * t.size
  | .k => by simp [Tm.abs, Tm.size]
  | .s => by simp [Tm.abs, Tm.size]
  | .nm n => by by_cases hn : n = x <;> simp [Tm.abs, hn, Tm.size, Tm.I]
  | .app f a => by
    have ihf := abs_size x f
    have iha := abs_size x a
    have hf := Tm.size_pos f
    have ha := Tm.size_pos a
    rw [Tm.abs]
    split
    · simp only [Tm.size]; omega
    · split
      · simp only [Tm.size]; omega
      · simp only [Tm.size]; omega

theorem abstraction_any (w : World) (B : Nat) (x : List UInt8) (t : Tm) (v : Value) (h : TV w B t v) (hB : B ≤ w.heap.size) (hz : t.size ≤ 1000000) :
    Calls Tryz.prog 54 #[str x, v] w (TermPost w B (Tm.abs x t)) := by
  have hbody := bodyOf_any x h
  have hsz := abs_size x t
  unfold BodyPost at hbody
  rw [← of_term] at hsz ⊢
  generalize Bd.of x t = b at *
  go_enter Tryz.func54, Tryz.ntmps54
  go_wp2_with fail
  refine hbody.mono ?_
  rintro e w1 ⟨v1, rfl, hb1, hv1⟩
  obtain ⟨T1, x1, f1, y1, rfl, m1, n1, d1⟩ := BV.absOk (Nat.le_trans hB hb1.size) hv1 (by omega)
  have hcall := d1 w1 (Below.refl _ _)
  unfold TermPost at hcall
  clear hv1 hbody d1
  go_wp2_with (go_at_fn f1; refine hcall.mono ?_; rintro e w2 ⟨v2, rfl, hb2, ht2⟩; have HT := Lib.hid ht2; clear ht2)
  go_ret
  exact ⟨_, rfl, below_trans hb1 hb2, HT.out⟩
end Go.Proofs.YtfpekihdoclncaaGreat

namespace Go.Proofs.YtfpekihdoclncaaGreat
open Go.RowKit Go.Shelf

attribute [local go_sem] Oper.semAt_some

/-- What has come when k rounds are over. -/
def upto {α : Type} (f : Nat → α) (k : Nat) : List α := (List.range k).map f
theorem upto_succ {α : Type} (f : Nat → α) (k : Nat) : upto f (k + 1) = upto f k ++ [f k] := by simp [upto, List.range_succ]
theorem upto_length {α : Type} (f : Nat → α) (k : Nat) : (upto f k).length = k := by simp [upto]

/-- The blocks below m and the block Bs are as they were. -/
def KeepB (m Bs : Nat) (W W' : World) : Prop := ∀ k, (k < m ∨ k = Bs) → W'.heap[k]? = W.heap[k]?
theorem KeepB.trans {m Bs : Nat} {A B C : World} (h : KeepB m Bs A B) (k : KeepB m Bs B C) : KeepB m Bs A C := fun i hi => (k i hi).trans (h i hi)
theorem KeepB.refl (m Bs : Nat) (W : World) : KeepB m Bs W W := fun _ _ => rfl
theorem KeepB.cell {m Bs b i : Nat} {W W' : World} {v : Value} (h : KeepB m Bs W W') (hb : b < m ∨ b = Bs) (hc : W.cell? ⟨b, i, none⟩ = some v) : W'.cell? ⟨b, i, none⟩ = some v := by
  rw [World.cell?_of_block (w := W) (a := ⟨b, i, none⟩) (h b hb)]; exact hc

set_option maxRecDepth 100000 in
set_option maxHeartbeats 2000000 in
theorem back1_in (F : Fence) (n : Nat) (h8 : F.fn 67) (hro : F.round = none) (hn : 1 ≤ n) (l Bs m b off len cap : Nat) (zs : List (List UInt8)) (hreach : len ≤ 1000000000) (hb : b < m) (J Jx : List (Nat × List UInt8) → World → Prop)
    (hY : ∀ pre x W, J pre W → pre.length < len → YieldAt F (n - 1) Tryz.prog l #[.int .i64 (x.1 : Int), str x.2] W fun e W' =>
      (e = .returned (.bool true) ∧ J (pre ++ [x]) W' ∧ KeepB m Bs W W') ∨ (e = .returned (.bool false) ∧ Jx (pre ++ [x]) W'))
    (W : World) (hBs : W.cell? ⟨Bs, 0, none⟩ = some (.slice (some ⟨b, off, none⟩) len cap)) (hc : ∀ j, j < len → W.cell? ⟨b, off + j, none⟩ = some (str (zs[j]?.getD []))) (h0 : J [] W) :
    CallsIn F n Tryz.prog 67 #[.func (.yield l) #[] #[], .pointer (some ⟨Bs, 0, none⟩)] W fun e W' => (∃ v, e = .returned v) ∧
      ((∃ ys, ys = upto (fun j => (len - 1 - j, zs[len - 1 - j]?.getD [])) len ∧ J ys W') ∨ (∃ pre, (∃ k, k ≤ len ∧ pre = upto (fun j => (len - 1 - j, zs[len - 1 - j]?.getD [])) k) ∧ Jx pre W')) := by
  refine callsIn_of_wp Tryz.func67 rfl h8 ?_ hro
  simp only [Tryz.ntmps67, List.size_toArray, List.length_cons, List.length_nil, Nat.reduceAdd, Nat.reduceSub, Array.replicate_succ, Array.replicate_zero, List.push_toArray, List.append_toArray, List.nil_append, List.cons_append]
  gi_wp2
  gi_loopw [3] (fun i wr => ∃ k : Nat, k ≤ len ∧ i = .int .i64 ((len : Int) - 1 - k) ∧ J (upto (fun j => (len - 1 - j, zs[len - 1 - j]?.getD [])) k) wr ∧ KeepB m Bs W wr)
    (fun i _ => (intOf i + 1).toNat)
  case atStart => exact ⟨0, Nat.zero_le _, by simp, h0, KeepB.refl _ _ _⟩
  case round =>
    obtain ⟨k, hk, rfl, hJs, hnx⟩ := hrel
    have hBs' := hnx.cell (Or.inr rfl) hBs
    by_cases hlt : k < len
    · obtain ⟨q, hq⟩ : ∃ q : Nat, q = len - 1 - k := ⟨_, rfl⟩
      have hqi : (len : Int) - 1 - k = (q : Int) := by omega
      have hql : q < len := by omega
      have hcx := hnx.cell (Or.inl hb) (hc q hql)
      obtain ⟨fn, tmps, assign, body, hy, hR⟩ := hY _ (q, zs[q]?.getD []) wr hJs (by rw [upto_length]; exact hlt)
      dsimp only at hy
      simp only [hqi]
      have HQ := Lib.hid hq
      have HQI := Lib.hid hqi
      clear hq hqi
      gi_wp2
      refine hR.mono ?_
      rintro e W3 (⟨rfl, hJ3, hk3⟩ | ⟨rfl, hJx3⟩)
      · gi_wp2
        go_roundw
        case rel => exact ⟨k + 1, by omega, by have := HQI.out; simp; omega, by rw [upto_succ, ← HQ.out]; exact hJ3, hnx.trans hk3⟩
        case measure => simp [intOf]
      · gi_wp2
        refine bodyPost_ret (results_none rfl _ _ _) rfl ?_
        exact ⟨⟨_, rfl⟩, .inr ⟨_, ⟨k + 1, by omega, by rw [upto_succ, ← HQ.out]⟩, hJx3⟩⟩
    · obtain rfl : k = len := by omega
      gi_wp2
      go_end0
      exact ⟨⟨_, rfl⟩, .inl ⟨_, rfl, hJs⟩⟩

set_option maxRecDepth 100000 in
set_option maxHeartbeats 1000000 in
theorem back1_nil_in (F : Fence) (n : Nat) (h8 : F.fn 67) (hro : F.round = none) (l Bs : Nat) (J : List (Nat × List UInt8) → World → Prop) (W : World) (ao : Option Addr) (cap : Nat) (hBs : W.cell? ⟨Bs, 0, none⟩ = some (.slice ao 0 cap)) (h0 : J [] W) :
    CallsIn F n Tryz.prog 67 #[.func (.yield l) #[] #[], .pointer (some ⟨Bs, 0, none⟩)] W fun e W' => (∃ v, e = .returned v) ∧ J [] W' := by
  refine callsIn_of_wp Tryz.func67 rfl h8 ?_ hro
  simp only [Tryz.ntmps67, List.size_toArray, List.length_cons, List.length_nil, Nat.reduceAdd, Nat.reduceSub, Array.replicate_succ, Array.replicate_zero, List.push_toArray, List.append_toArray, List.nil_append, List.cons_append]
  gi_wp2
  gi_loopw [3] (fun i wr => i = .int .i64 (-1) ∧ J [] wr) (fun _ _ => 0)
  case atStart => exact ⟨rfl, h0⟩
  case round =>
    obtain ⟨rfl, hJs⟩ := hrel
    gi_wp2
    go_end0
    exact ⟨⟨_, rfl⟩, hJs⟩

set_option maxHeartbeats 1000000 in
/-- slices.Backward(s): the slice value is boxed; the function value captures the box. -/
theorem back_in (F : Fence) (n : Nat) (h6 : F.fn 53) (hro : F.round = none) (a : Option Addr) (len cap : Nat) (w : World) :
    CallsIn F n Tryz.prog 53 #[.slice a len cap] w fun e w' => e = .returned (.func (.func 67) #[] #[.pointer (some ⟨w.heap.size, 0, none⟩)]) ∧ w' = w.alloc (.cells #[.slice a len cap] 69) := by
  refine callsIn_of_wp Tryz.func53 rfl h6 ?_ hro
  simp only [Tryz.ntmps53, List.size_toArray, List.length_cons, List.length_nil, Nat.reduceAdd, Nat.reduceSub, Array.replicate_succ, Array.replicate_zero, List.push_toArray, List.append_toArray, List.nil_append, List.cons_append]
  gi_wp2
  go_ret
  exact ⟨rfl, rfl⟩

/-- The slice value holds these texts, in a block below m. -/
def StrsB (m : Nat) (W : World) (sv : Value) (zs : List (List UInt8)) : Prop :=
  (∃ ao cap, sv = .slice ao 0 cap ∧ zs = []) ∨ ∃ b off cap, sv = .slice (some ⟨b, off, none⟩) zs.length cap ∧ b < m ∧ ∀ j, j < zs.length → W.cell? ⟨b, off + j, none⟩ = some (str (zs[j]?.getD []))

theorem back_stops (F : Fence) (n : Nat) (h8 : F.fn 67) (hro : F.round = none) (hn : 1 ≤ n) (Bs m : Nat) (sv : Value) (zs : List (List UInt8)) (hreach : zs.length ≤ 1000000000) (w : World) (hBs : Bs < w.heap.size) (hm : m ≤ w.heap.size)
    (hc : w.cell? ⟨Bs, 0, none⟩ = some sv) (hI : StrsB m w sv zs) :
    SeqStopsK F n Tryz.prog 67 #[.pointer (some ⟨Bs, 0, none⟩)] (fun x : Nat × List UInt8 => #[Value.int .i64 (x.1 : Int), str x.2]) (KeepB m Bs) (fun ys => ys = upto (fun j => (zs.length - 1 - j, zs[zs.length - 1 - j]?.getD [])) zs.length)
      (fun pre => ∃ k, k ≤ zs.length ∧ pre = upto (fun j => (zs.length - 1 - j, zs[zs.length - 1 - j]?.getD [])) k) zs.length w := fun l J Jx W hW _ _ hY h0 => by
  have hc' := (hW.cell (p := ⟨Bs, 0, none⟩) hBs).trans hc
  rcases hI with ⟨ao, cap, rfl, rfl⟩ | ⟨b, off, cap, rfl, hb, hcs⟩
  · exact (back1_nil_in F n h8 hro l Bs J W ao cap hc' h0).mono fun e W' ⟨he, hj⟩ => ⟨he, .inl ⟨_, rfl, hj⟩⟩
  · exact back1_in F n h8 hro hn l Bs m b off zs.length cap zs hreach hb J Jx hY W hc' (fun j hj => (hW.cell (p := ⟨b, off + j, none⟩) (show b < w.heap.size by omega)).trans (hcs j hj)) h0

theorem keepB_b {m Bs : Nat} {w : World} (hm : m ≤ w.heap.size) (hBs : Bs < w.heap.size) (W : World) (l : Nat) (o o' : Obj) (hl : w.heap.size ≤ l) (h : W.heap[l]? = some o) (_ : o.isCells = false) (_ : o.isWalk = false) : KeepB m Bs W (W.putObj l o') := fun k hk => by
  have hg := grownBy_putObj' W l o'
  have hlt := (Array.getElem?_eq_some_iff.1 h).1
  exact hg.block k (by omega) (fun e => by injection e with e; omega)
end Go.Proofs.YtfpekihdoclncaaGreat

namespace Go.Proofs.YtfpekihdoclncaaGreat
open Go.RowKit Go.Shelf

attribute [local go_sem] Oper.semAt_some

/-- Names abstracted one after the other, each result looked at. -/
def absL : List (List UInt8) → Tm → Option Tm
  | [], t => some t
  | x :: xs, t => if (Tm.abs x t).fits = true then absL xs (Tm.abs x t) else none

theorem absL_snoc (xs : List (List UInt8)) (x : List UInt8) : ∀ t, absL (xs ++ [x]) t = (absL xs t).bind fun u => if (Tm.abs x u).fits = true then some (Tm.abs x u) else none := by
  induction xs with
  | nil => intro t; simp [absL]
  | cons y ys ih => intro t; simp only [List.cons_append, absL]; split
                    · exact ih _
                    · rfl

theorem TV.keptCells {A C : World} {B : Nat} (hk : ∀ (b : Nat) (cs : Array Value) (T : TypeId) (fr : Nat × Nat), T ≠ 33 → T ≠ 4 → A.heap[b]? = some (.cells cs T fr) → C.heap[b]? = some (.cells cs T fr)) : ∀ {t : Tm} {v : Value}, TV A B t v → TV C B t v
  | .k, _, ⟨b, fr, hv, hb, h⟩ => ⟨b, fr, hv, hb, hk _ _ _ _ (by decide) (by decide) h⟩
  | .s, _, ⟨b, fr, hv, hb, h⟩ => ⟨b, fr, hv, hb, hk _ _ _ _ (by decide) (by decide) h⟩
  | .nm _, _, ⟨b, fr, hv, hb, h⟩ => ⟨b, fr, hv, hb, hk _ _ _ _ (by decide) (by decide) h⟩
  | .app _ _, _, ⟨b, fr, vf, va, hv, hb, h, hf, ha⟩ => ⟨b, fr, vf, va, hv, hb, hk _ _ _ _ (by decide) (by decide) h, hf.keptCells hk, ha.keptCells hk⟩

theorem TV.grownCells {A C : World} {B : Nat} {row : Option Nat} {t : Tm} {v : Value} (h : TV A B t v) (hg : A.grownBy C row) (hr : ∀ r, row = some r → ∃ o : Obj, A.heap[r]? = some o ∧ o.isCells = false) : TV C B t v :=
  h.keptCells fun b cs T fr _ _ hb => by
    rw [hg.block b (Array.getElem?_eq_some_iff.1 hb).1 (fun e => by obtain ⟨o, ho, hc⟩ := hr b e.symm; rw [hb] at ho; injection ho with ho; subst ho; simp [Obj.isCells] at hc)]
    exact hb

theorem TV.boxSet {A : World} {B b : Nat} {x u : Value} {t : Tm} {v : Value} (h : TV A B t v) (hb : Boxed A b 33 x) : TV (A.setCell ⟨b, 0, none⟩ u) B t v :=
  h.keptCells fun b' cs T fr hT _ hb' => by
    have hne : b' ≠ b := by
      rintro rfl
      rw [show A.heap[b']? = _ from hb] at hb'
      injection hb' with hb'
      injection hb' with _ hb' _
      exact hT hb'.symm
    rw [Below.heap_setCell _ _ _ _ hne]
    exact hb'

theorem TV.boolSet {A : World} {B b : Nat} {x u : Value} {t : Tm} {v : Value} (h : TV A B t v) (hb : Boxed A b 4 x) : TV (A.setCell ⟨b, 0, none⟩ u) B t v :=
  h.keptCells fun b' cs T fr _ hT hb' => by
    have hne : b' ≠ b := by
      rintro rfl
      rw [show A.heap[b']? = _ from hb] at hb'
      injection hb' with hb'
      injection hb' with _ hb' _
      exact hT hb'.symm
    rw [Below.heap_setCell _ _ _ _ hne]
    exact hb'

theorem absL_append (xs ys : List (List UInt8)) : ∀ t, absL (xs ++ ys) t = (absL xs t).bind (absL ys) := by
  induction xs with
  | nil => intro t; simp [absL]
  | cons x xs ih => intro t; simp only [List.cons_append, absL]; split
                    · exact ih _
                    · rfl

theorem back_take (zs : List (List UInt8)) (k : Nat) (hk : k ≤ zs.length) : (upto (fun j => (zs.length - 1 - j, zs[zs.length - 1 - j]?.getD [])) k).map Prod.snd = zs.reverse.take k := by
  apply List.ext_getElem
  · simp [upto, hk]
  · intro i h1 h2
    have hi : i < k := by simpa [upto] using h1
    have hz : zs.length - 1 - i < zs.length := by omega
    simp [upto, hz]

theorem box_kept {A C : World} {b : Nat} {T : TypeId} {x : Value} {row : Option Nat} (h : Boxed A b T x) (hg : A.grownBy C row) (hr : ∀ r, row = some r → ∃ o : Obj, A.heap[r]? = some o ∧ o.isCells = false) : Boxed C b T x :=
  Boxed.kept h hg fun e => by obtain ⟨o, ho, hc⟩ := hr b e.symm; rw [show A.heap[b]? = _ from h] at ho; injection ho with ho; subst ho; simp [Obj.isCells] at hc

theorem box_later {A C : World} {b : Nat} {T : TypeId} {x : Value} (h : Boxed A b T x) (hb : Below A.heap.size A C) : Boxed C b T x := heap_later h hb
theorem keepsOthers_below {A C : World} (h : Below A.heap.size A C) : KeepsOthers A C := ⟨h.size, fun _ _ hk _ => heap_later hk h⟩
theorem keepB_below {m Bs : Nat} {A C : World} (h : Below A.heap.size A C) (hm : m ≤ A.heap.size) (hBs : Bs < A.heap.size) : KeepB m Bs A C := fun k hk => h.block k (by omega)
theorem keepB_set {m Bs b : Nat} {A : World} (v : Value) (h1 : m ≤ b) (h2 : Bs ≠ b) : KeepB m Bs A (A.setCell ⟨b, 0, none⟩ v) := fun k hk => Below.heap_setCell _ _ _ _ (show k ≠ b by omega)

end Go.Proofs.YtfpekihdoclncaaGreat
