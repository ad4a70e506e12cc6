/-
  The library's iterator slices.Backward over a slice of strings.
-/
import Derived.RangeFuncNested
import Derived.RangeFuncBound
import Derived.RangeFuncCalls
import Derived.RangeFuncLeaves
import Derived.Shelf.Abstract
import Derived.WalkKit
import Derived.OwnWalkIn
import Derived.TacticsInMore
import Derived.LoopNIn
import Derived.LoopIn
import Derived.Lib.Hide
import Derived.Test.YtfpekihdoclncaaPkAA
import Derived.Test.YtfpekihdoclncaaPkAM
namespace Go.Proofs.Ytfpekihdoclncaa
open Go.RowKit Go.Shelf

attribute [local go_sem] Oper.semAt_some

/-- What has come when k rounds are over. -/
def upto {α : Type} (f : Nat → α) (k : Nat) : List α := (List.range k).map f
theorem upto_succ {α : Type} (f : Nat → α) (k : Nat) : upto f (k + 1) = upto f k ++ [f k] := by simp [upto, List.range_succ]
theorem upto_length {α : Type} (f : Nat → α) (k : Nat) : (upto f k).length = k := by simp [upto]

/-- The blocks below m and the block Bs are as they were. -/
def KeepB (m Bs : Nat) (W W' : World) : Prop := ∀ k, (k < m ∨ k = Bs) → W'.heap[k]? = W.heap[k]?
theorem KeepB.trans {m Bs : Nat} {A B C : World} (h : KeepB m Bs A B) (k : KeepB m Bs B C) : KeepB m Bs A C := fun i hi => (k i hi).trans (h i hi)
theorem KeepB.refl (m Bs : Nat) (W : World) : KeepB m Bs W W := fun _ _ => rfl
theorem KeepB.cell {m Bs b i : Nat} {W W' : World} {v : Value} (h : KeepB m Bs W W') (hb : b < m ∨ b = Bs) (hc : W.cell? ⟨b, i, none⟩ = some v) : W'.cell? ⟨b, i, none⟩ = some v := by
  rw [World.cell?_of_block (w := W) (a := ⟨b, i, none⟩) (h b hb)]; exact hc

set_option maxRecDepth 100000 in
set_option maxHeartbeats 2000000 in
theorem back1_in (F : Fence) (n : Nat) (h8 : F.fn 101) (hro : F.round = none) (hn : 1 ≤ n) (l Bs m b off len cap : Nat) (zs : List (List UInt8)) (hreach : len ≤ 1000000000) (hb : b < m) (J Jx : List (Nat × List UInt8) → World → Prop)
    (hY : ∀ pre x W, J pre W → pre.length < len → YieldAt F (n - 1) Try.prog l #[.int .i64 (x.1 : Int), str x.2] W fun e W' =>
      (e = .returned (.bool true) ∧ J (pre ++ [x]) W' ∧ KeepB m Bs W W') ∨ (e = .returned (.bool false) ∧ Jx (pre ++ [x]) W'))
    (W : World) (hBs : W.cell? ⟨Bs, 0, none⟩ = some (.slice (some ⟨b, off, none⟩) len cap)) (hc : ∀ j, j < len → W.cell? ⟨b, off + j, none⟩ = some (str (zs[j]?.getD []))) (h0 : J [] W) :
    CallsIn F n Try.prog 101 #[.func (.yield l) #[] #[], .pointer (some ⟨Bs, 0, none⟩)] W fun e W' => (∃ v, e = .returned v) ∧
      ((∃ ys, ys = upto (fun j => (len - 1 - j, zs[len - 1 - j]?.getD [])) len ∧ J ys W') ∨ (∃ pre, (∃ k, k ≤ len ∧ pre = upto (fun j => (len - 1 - j, zs[len - 1 - j]?.getD [])) k) ∧ Jx pre W')) := by
  refine callsIn_of_wp Try.func101 rfl h8 ?_ hro
  simp only [Try.ntmps101, List.size_toArray, List.length_cons, List.length_nil, Nat.reduceAdd, Nat.reduceSub, Array.replicate_succ, Array.replicate_zero, List.push_toArray, List.append_toArray, List.nil_append, List.cons_append]
  gi_wp2
  gi_loopw [3] (fun i wr => ∃ k : Nat, k ≤ len ∧ i = .int .i64 ((len : Int) - 1 - k) ∧ J (upto (fun j => (len - 1 - j, zs[len - 1 - j]?.getD [])) k) wr ∧ KeepB m Bs W wr)
    (fun i _ => (intOf i + 1).toNat)
  case atStart => exact ⟨0, Nat.zero_le _, by simp, h0, KeepB.refl _ _ _⟩
  case round =>
    obtain ⟨k, hk, rfl, hJs, hnx⟩ := hrel
    have hBs' := hnx.cell (Or.inr rfl) hBs
    by_cases hlt : k < len
    · obtain ⟨q, hq⟩ : ∃ q : Nat, q = len - 1 - k := ⟨_, rfl⟩
      have hqi : (len : Int) - 1 - k = (q : Int) := by omega
      have hql : q < len := by omega
      have hcx := hnx.cell (Or.inl hb) (hc q hql)
      obtain ⟨fn, tmps, assign, body, hy, hR⟩ := hY _ (q, zs[q]?.getD []) wr hJs (by rw [upto_length]; exact hlt)
      dsimp only at hy
      simp only [hqi]
      have HQ := Lib.hid hq
      have HQI := Lib.hid hqi
      clear hq hqi
      gi_wp2
      refine hR.mono ?_
      rintro e W3 (⟨rfl, hJ3, hk3⟩ | ⟨rfl, hJx3⟩)
      · gi_wp2
        go_roundw
        case rel => exact ⟨k + 1, by omega, by have := HQI.out; simp; omega, by rw [upto_succ, ← HQ.out]; exact hJ3, hnx.trans hk3⟩
        case measure => simp [intOf]
      · gi_wp2
        refine bodyPost_ret (results_none rfl _ _ _) rfl ?_
        exact ⟨⟨_, rfl⟩, .inr ⟨_, ⟨k + 1, by omega, by rw [upto_succ, ← HQ.out]⟩, hJx3⟩⟩
    · obtain rfl : k = len := by omega
      gi_wp2
      go_end0
      exact ⟨⟨_, rfl⟩, .inl ⟨_, rfl, hJs⟩⟩

set_option maxRecDepth 100000 in
set_option maxHeartbeats 1000000 in
theorem back1_nil_in (F : Fence) (n : Nat) (h8 : F.fn 101) (hro : F.round = none) (l Bs : Nat) (J : List (Nat × List UInt8) → World → Prop) (W : World) (ao : Option Addr) (cap : Nat) (hBs : W.cell? ⟨Bs, 0, none⟩ = some (.slice ao 0 cap)) (h0 : J [] W) :
    CallsIn F n Try.prog 101 #[.func (.yield l) #[] #[], .pointer (some ⟨Bs, 0, none⟩)] W fun e W' => (∃ v, e = .returned v) ∧ J [] W' := by
  refine callsIn_of_wp Try.func101 rfl h8 ?_ hro
  simp only [Try.ntmps101, List.size_toArray, List.length_cons, List.length_nil, Nat.reduceAdd, Nat.reduceSub, Array.replicate_succ, Array.replicate_zero, List.push_toArray, List.append_toArray, List.nil_append, List.cons_append]
  gi_wp2
  gi_loopw [3] (fun i wr => i = .int .i64 (-1) ∧ J [] wr) (fun _ _ => 0)
  case atStart => exact ⟨rfl, h0⟩
  case round =>
    obtain ⟨rfl, hJs⟩ := hrel
    gi_wp2
    go_end0
    exact ⟨⟨_, rfl⟩, hJs⟩

set_option maxHeartbeats 1000000 in
/-- slices.Backward(s): the slice value is boxed; the function value captures the box. -/
theorem back_in (F : Fence) (n : Nat) (h6 : F.fn 87) (hro : F.round = none) (a : Option Addr) (len cap : Nat) (w : World) :
    CallsIn F n Try.prog 87 #[.slice a len cap] w fun e w' => e = .returned (.func (.func 101) #[] #[.pointer (some ⟨w.heap.size, 0, none⟩)]) ∧ w' = w.alloc (.cells #[.slice a len cap] 65) := by
  refine callsIn_of_wp Try.func87 rfl h6 ?_ hro
  simp only [Try.ntmps87, List.size_toArray, List.length_cons, List.length_nil, Nat.reduceAdd, Nat.reduceSub, Array.replicate_succ, Array.replicate_zero, List.push_toArray, List.append_toArray, List.nil_append, List.cons_append]
  gi_wp2
  go_ret
  exact ⟨rfl, rfl⟩

/-- The slice value holds these texts, in a block below m. -/
def StrsB (m : Nat) (W : World) (sv : Value) (zs : List (List UInt8)) : Prop :=
  (∃ ao cap, sv = .slice ao 0 cap ∧ zs = []) ∨ ∃ b off cap, sv = .slice (some ⟨b, off, none⟩) zs.length cap ∧ b < m ∧ ∀ j, j < zs.length → W.cell? ⟨b, off + j, none⟩ = some (str (zs[j]?.getD []))

theorem back_stops (F : Fence) (n : Nat) (h8 : F.fn 101) (hro : F.round = none) (hn : 1 ≤ n) (Bs m : Nat) (sv : Value) (zs : List (List UInt8)) (hreach : zs.length ≤ 1000000000) (w : World) (hBs : Bs < w.heap.size) (hm : m ≤ w.heap.size)
    (hc : w.cell? ⟨Bs, 0, none⟩ = some sv) (hI : StrsB m w sv zs) :
    SeqStopsK F n Try.prog 101 #[.pointer (some ⟨Bs, 0, none⟩)] (fun x : Nat × List UInt8 => #[Value.int .i64 (x.1 : Int), str x.2]) (KeepB m Bs) (fun ys => ys = upto (fun j => (zs.length - 1 - j, zs[zs.length - 1 - j]?.getD [])) zs.length)
      (fun pre => ∃ k, k ≤ zs.length ∧ pre = upto (fun j => (zs.length - 1 - j, zs[zs.length - 1 - j]?.getD [])) k) zs.length w := fun l J Jx W hW _ _ hY h0 => by
  have hc' := (hW.cell (p := ⟨Bs, 0, none⟩) hBs).trans hc
  rcases hI with ⟨ao, cap, rfl, rfl⟩ | ⟨b, off, cap, rfl, hb, hcs⟩
  · exact (back1_nil_in F n h8 hro l Bs J W ao cap hc' h0).mono fun e W' ⟨he, hj⟩ => ⟨he, .inl ⟨_, rfl, hj⟩⟩
  · exact back1_in F n h8 hro hn l Bs m b off zs.length cap zs hreach hb J Jx hY W hc' (fun j hj => (hW.cell (p := ⟨b, off + j, none⟩) (show b < w.heap.size by omega)).trans (hcs j hj)) h0

theorem keepB_b {m Bs : Nat} {w : World} (hm : m ≤ w.heap.size) (hBs : Bs < w.heap.size) (W : World) (l : Nat) (o o' : Obj) (hl : w.heap.size ≤ l) (h : W.heap[l]? = some o) (_ : o.isCells = false) (_ : o.isWalk = false) : KeepB m Bs W (W.putObj l o') := fun k hk => by
  have hg := grownBy_putObj' W l o'
  have hlt := (Array.getElem?_eq_some_iff.1 h).1
  exact hg.block k (by omega) (fun e => by injection e with e; omega)
end Go.Proofs.Ytfpekihdoclncaa

namespace Go.Proofs.Ytfpekihdoclncaa
open Go.RowKit Go.Shelf

attribute [local go_sem] Oper.semAt_some

/-- Names abstracted one after the other, each result looked at. -/
def absL : List (List UInt8) → Tm → Option Tm
  | [], t => some t
  | x :: xs, t => if (Tm.abs x t).fits = true then absL xs (Tm.abs x t) else none

theorem absL_snoc (xs : List (List UInt8)) (x : List UInt8) : ∀ t, absL (xs ++ [x]) t = (absL xs t).bind fun u => if (Tm.abs x u).fits = true then some (Tm.abs x u) else none := by
  induction xs with
  | nil => intro t; simp [absL]
  | cons y ys ih => intro t; simp only [List.cons_append, absL]; split
                    · exact ih _
                    · rfl

theorem TV.keptCells {A C : World} {B : Nat} (hk : ∀ (b : Nat) (cs : Array Value) (T : TypeId) (fr : Nat × Nat), T ≠ 39 → T ≠ 4 → A.heap[b]? = some (.cells cs T fr) → C.heap[b]? = some (.cells cs T fr)) : ∀ {t : Tm} {v : Value}, TV A B t v → TV C B t v
  | .k, _, ⟨b, fr, hv, hb, h⟩ => ⟨b, fr, hv, hb, hk _ _ _ _ (by decide) (by decide) h⟩
  | .s, _, ⟨b, fr, hv, hb, h⟩ => ⟨b, fr, hv, hb, hk _ _ _ _ (by decide) (by decide) h⟩
  | .nm _, _, ⟨b, fr, hv, hb, h⟩ => ⟨b, fr, hv, hb, hk _ _ _ _ (by decide) (by decide) h⟩
  | .app _ _, _, ⟨b, fr, vf, va, hv, hb, h, hf, ha⟩ => ⟨b, fr, vf, va, hv, hb, hk _ _ _ _ (by decide) (by decide) h, hf.keptCells hk, ha.keptCells hk⟩

theorem TV.grownCells {A C : World} {B : Nat} {row : Option Nat} {t : Tm} {v : Value} (h : TV A B t v) (hg : A.grownBy C row) (hr : ∀ r, row = some r → ∃ o : Obj, A.heap[r]? = some o ∧ o.isCells = false) : TV C B t v :=
  h.keptCells fun b cs T fr _ _ hb => by
    rw [hg.block b (Array.getElem?_eq_some_iff.1 hb).1 (fun e => by obtain ⟨o, ho, hc⟩ := hr b e.symm; rw [hb] at ho; injection ho with ho; subst ho; simp [Obj.isCells] at hc)]
    exact hb

theorem TV.boxSet {A : World} {B b : Nat} {x u : Value} {t : Tm} {v : Value} (h : TV A B t v) (hb : Boxed A b 39 x) : TV (A.setCell ⟨b, 0, none⟩ u) B t v :=
  h.keptCells fun b' cs T fr hT _ hb' => by
    have hne : b' ≠ b := by
      rintro rfl
      rw [show A.heap[b']? = _ from hb] at hb'
      injection hb' with hb'
      injection hb' with _ hb' _
      exact hT hb'.symm
    rw [Below.heap_setCell _ _ _ _ hne]
    exact hb'

theorem TV.boolSet {A : World} {B b : Nat} {x u : Value} {t : Tm} {v : Value} (h : TV A B t v) (hb : Boxed A b 4 x) : TV (A.setCell ⟨b, 0, none⟩ u) B t v :=
  h.keptCells fun b' cs T fr _ hT hb' => by
    have hne : b' ≠ b := by
      rintro rfl
      rw [show A.heap[b']? = _ from hb] at hb'
      injection hb' with hb'
      injection hb' with _ hb' _
      exact hT hb'.symm
    rw [Below.heap_setCell _ _ _ _ hne]
    exact hb'

theorem absL_append (xs ys : List (List UInt8)) : ∀ t, absL (xs ++ ys) t = (absL xs t).bind (absL ys) := by
  induction xs with
  | nil => intro t; simp [absL]
  | cons x xs ih => intro t; simp only [List.cons_append, absL]; split
                    · exact ih _
                    · rfl

theorem back_take (zs : List (List UInt8)) (k : Nat) (hk : k ≤ zs.length) : (upto (fun j => (zs.length - 1 - j, zs[zs.length - 1 - j]?.getD [])) k).map Prod.snd = zs.reverse.take k := by
  apply List.ext_getElem
  · simp [upto, hk]
  · intro i h1 h2
    have hi : i < k := by simpa [upto] using h1
    have hz : zs.length - 1 - i < zs.length := by omega
    simp [upto, hz]

theorem box_kept {A C : World} {b : Nat} {T : TypeId} {x : Value} {row : Option Nat} (h : Boxed A b T x) (hg : A.grownBy C row) (hr : ∀ r, row = some r → ∃ o : Obj, A.heap[r]? = some o ∧ o.isCells = false) : Boxed C b T x :=
  Boxed.kept h hg fun e => by obtain ⟨o, ho, hc⟩ := hr b e.symm; rw [show A.heap[b]? = _ from h] at ho; injection ho with ho; subst ho; simp [Obj.isCells] at hc

theorem box_later {A C : World} {b : Nat} {T : TypeId} {x : Value} (h : Boxed A b T x) (hb : Below A.heap.size A C) : Boxed C b T x := heap_later h hb
theorem keepsOthers_below {A C : World} (h : Below A.heap.size A C) : KeepsOthers A C := ⟨h.size, fun _ _ hk _ => heap_later hk h⟩
theorem keepB_below {m Bs : Nat} {A C : World} (h : Below A.heap.size A C) (hm : m ≤ A.heap.size) (hBs : Bs < A.heap.size) : KeepB m Bs A C := fun k hk => h.block k (by omega)
theorem keepB_set {m Bs b : Nat} {A : World} (v : Value) (h1 : m ≤ b) (h2 : Bs ≠ b) : KeepB m Bs A (A.setCell ⟨b, 0, none⟩ v) := fun k hk => Below.heap_setCell _ _ _ _ (show k ≠ b by omega)

end Go.Proofs.Ytfpekihdoclncaa

namespace Go.Proofs.Ytfpekihdoclncaa
open Go.RowKit

set_option maxHeartbeats 2000000
set_option maxRecDepth 100000

def lastL : List (List UInt8) → Tm → Tm
  | [], t => t
  | x :: xs, t => if (Tm.abs x t).fits = true then lastL xs (Tm.abs x t) else Tm.abs x t

theorem absL_last : ∀ (xs : List (List UInt8)) {t : Tm}, t.fits = true → absL xs t = if (lastL xs t).fits = true then some (lastL xs t) else none
  | [], t, h => by simp [absL, lastL, h]
  | x :: xs, t, _ => by
    by_cases hf : (Tm.abs x t).fits = true
    · have hl : lastL (x :: xs) t = lastL xs (Tm.abs x t) := by simp [lastL, hf]
      rw [hl]
      simp only [absL, if_pos hf]
      exact absL_last xs hf
    · have hl : lastL (x :: xs) t = Tm.abs x t := by simp [lastL, hf]
      rw [hl, if_neg hf]
      simp [absL, hf]

theorem abs_good (x : List UInt8) : ∀ {t : Tm}, t.good = true → (Tm.abs x t).good = true
  | .k, _ => rfl
  | .s, _ => rfl
  | .nm n, hn => by by_cases he : n = x <;> simp [Tm.abs, he, Tm.I, Tm.good] <;> simpa [Tm.good] using hn
  | .app f a, h => by
    have h' := h
    simp only [Tm.good, Bool.and_eq_true] at h'
    simp only [Tm.abs]
    split
    · simpa [Tm.good] using h'
    · split
      · exact h'.1
      · simp [Tm.good, abs_good x h'.1, abs_good x h'.2]

theorem last_good : ∀ (xs : List (List UInt8)) {t : Tm}, t.good = true → t.fits = true → (lastL xs t).good = true ∧ (lastL xs t).size ≤ 12000
  | [], t, hg, hf => ⟨hg, by have := fits_size hf; simp only [lastL]; omega⟩
  | x :: xs, t, hg, hf => by
    simp only [lastL]
    have hga := abs_good x hg
    have hsz := abs_size x t
    have hfs := fits_size hf
    split
    · rename_i h; exact last_good xs hga h
    · exact ⟨hga, by omega⟩

theorem name_not3 {n : List UInt8} (h : Tm.nameOk n = true) : ([] == n) = false ∧ ([107] == n) = false ∧ ([115] == n) = false := by
  refine ⟨?_, ?_, ?_⟩ <;> (rw [beq_eq_false_iff_ne]; rintro rfl; revert h; decide)

theorem s_all (w : World) (b off cap : Nat) (names : List (List UInt8)) (t : Tm) (s : List UInt8) (ao : Option Addr) (m c : Nat) (h : ST w t (.agg #[str s, .slice ao m c])) (hg : t.good = true) (hf : t.fits = true) (hn : names.length ≤ 8) (h1 : ∀ x ∈ names, Tm.nameOk x = true)
    (hc : ∀ j, j < names.length → w.cell? ⟨b, off + j, none⟩ = some (str (names[j]?.getD []))) :
    Calls Try.prog 62 #[.slice (some ⟨b, off, none⟩) names.length cap, .agg #[str s, .slice ao m c]] w (TreePost w (lastL names.reverse t)) := by
  obtain ⟨N, hN⟩ : ∃ N, N = names.length := ⟨_, rfl⟩
  obtain ⟨L, hL⟩ : ∃ L, L = lastL names.reverse t := ⟨_, rfl⟩
  rw [← hN, ← hL]
  rw [← hN] at hn
  have HN := Lib.hid hN
  have HC := Lib.hid hc
  have H1 := Lib.hid h1
  have hstart : Hid (L = lastL (names.reverse.drop 0) t) := by show _ = _; rw [hL]; simp
  have hbox0 := heap_old2 w (.cells #[str s, .slice ao m c] 32) (.cells #[.string ⟨#[]⟩, .slice none 0 0] 32)
  have hres0 := heap_new2 w _ (.cells #[str s, .slice ao m c] 32) (.cells #[.string ⟨#[]⟩, .slice none 0 0] 32) rfl
  have hA0 := (After.new w (.cells #[str s, .slice ao m c] 32)).alloc (.cells #[.string ⟨#[]⟩, .slice none 0 0] 32)
  have HT0 := Lib.hid (h.later hA0)
  have HB0 := Lib.hid hbox0
  have HR0 := Lib.hid hres0
  have HA0 := Lib.hid hA0
  have HG := Lib.hid hg
  have HF := Lib.hid hf
  clear hN hL hc h1 h hg hf hbox0 hres0 hA0
  go_enter Try.func62, Try.ntmps62
  go_wp2_with fail
  go_loopw [5] (fun i wr => ∃ (k : Nat) (u : Tm) (s : List UInt8) (ao : Option Addr) (m c : Nat), Hid (i = .int .i64 ((N : Int) - 1 - k)) ∧ k ≤ N ∧ Hid (wr.heap[w.heap.size]? = some (.cells #[str s, .slice ao m c] 32 (0, 0))) ∧ Hid (wr.heap[w.heap.size + 1]? = some (.cells #[.string ⟨#[]⟩, .slice none 0 0] 32 (0, 0))) ∧
    Hid (ST wr u (.agg #[str s, .slice ao m c])) ∧ u.good = true ∧ u.fits = true ∧ Hid (After w wr) ∧ Hid (L = lastL (names.reverse.drop k) u)) (fun i _ => (intOf i + 1).toNat)
  case atStart => exact ⟨0, t, s, ao, m, c, by show _ = _; simp, Nat.zero_le _, HB0, HR0, HT0, HG.out, HF.out, HA0, hstart⟩
  case round =>
    clear hstart HB0 HR0 HT0 HA0
    obtain ⟨k, u, s, ao, m, c, hi, hk, hbox, hres, hu, hg, hf, hA, hr⟩ := hrel
    obtain ⟨k0, k1, z2, z3, l1⟩ := pair_facts hbox.out (After.refl _)
    have hfz := fits_size hf
    by_cases hlt : k < N
    · obtain ⟨q, hq⟩ : ∃ q : Nat, q = N - 1 - k := ⟨_, rfl⟩
      have hqi : (N : Int) - 1 - k = (q : Int) := by omega
      have hql : q < N := by omega
      have hqn : q < names.length := by rw [← HN.out]; exact hql
      have hi' := hi.out
      rw [hqi] at hi'
      subst hi'
      have hcx := hA.out.cell (HC.out q hqn)
      have hgd : names[q]?.getD [] = names[q] := by simp [hqn]
      have hdrop : names.reverse.drop k = names[q] :: names.reverse.drop (k + 1) := by
        have hkr : k < names.reverse.length := by simp; rw [← HN.out]; exact hlt
        rw [List.drop_eq_getElem_cons hkr]
        congr 1
        rw [List.getElem_reverse]
        congr 1
        rw [hq, HN.out]
      rw [hdrop, lastL] at hr
      rw [hgd] at hcx
      obtain ⟨n1, n2, n3⟩ := name_not3 (H1.out names[q] (List.getElem_mem hqn))
      have HQ := Lib.hid hq
      have HQI := Lib.hid hqi
      generalize names[q] = x at hcx hr n1 n2 n3
      clear hgd hdrop hq hqi hi
      have hsz := abs_size x u
      have hga := abs_good x hg
      have habs := fun W (hW : After wr W) => (hu.out.later hW).abs x n1 n2 n3 (Tm.plain_good hg) (by omega)
      unfold TreePost at habs
      have hself := After.refl wr
      obtain ⟨fb, hfb⟩ : ∃ fb, fb = (Tm.abs x u).fits := ⟨_, rfl⟩
      rw [← hfb] at hr
      have HFB := Lib.hid hfb
      have HGA := Lib.hid hga
      have HSZ := Lib.hid hsz
      have hq0 : (0 : Int) ≤ (q : Int) := by omega
      clear hfb hga hsz
      cases fb
      all_goals
        go_wp2_with fail
        go_region_with (go_at_call 86; refine (habs _ (by first | exact hself.drew | exact hself)).mono ?_; rintro e w1 ⟨s1, ao1, n1, c1, rfl, hb1, ht1⟩; have HT1 := Lib.hid ht1; clear ht1; have hb1' := After.trans (by first | exact hself.drew | exact hself) hb1; obtain ⟨k0', k1', z2', z3', l1'⟩ := pair_facts hbox.out hb1')
      all_goals
        have hbx1 := hb1'.heap hbox.out
        have hrs1 := hb1'.heap hres.out
        have hbox2 := heap_sets2 (u := str s1) (u' := .slice ao1 n1 c1) hbx1
        have hres2 := (heap_sets2_ne (W := w1) (b := w.heap.size) (c := w.heap.size + 1) (i := 0) (j := 1) (u := str s1) (u' := .slice ao1 n1 c1) (by omega)).trans hrs1
        have hst2 := HT1.out.sets2 hbx1 (u := str s1) (u' := .slice ao1 n1 c1) (i := 0) (j := 1)
        have hfine := hst2.fine HGA.out (by have := HSZ.out; omega)
        rw [← HFB.out] at hfine
        have hA2 : After w ((w1.setCell ⟨w.heap.size, 0, none⟩ (str s1)).setCell ⟨w.heap.size, 1, none⟩ (.slice ao1 n1 c1)) := Below.setCell (Below.setCell (hA.out.trans hb1') (by simp) _) (by simp) _
        obtain ⟨j0, j1, _, _, _⟩ := pair_facts hbox2 (After.refl _)
        have HBX2 := Lib.hid hbox2
        have HRS2 := Lib.hid hres2
        have HST2 := Lib.hid hst2
        have HA2 := Lib.hid hA2
        clear hbx1 hrs1 hbox2 hres2 hst2 hA2
        go_wp2_with fail
        refine hfine.mono ?_
        rintro e w2 ⟨rfl, hb2⟩
        obtain ⟨i0, i1, i2, i3, i4⟩ := pair_facts HBX2.out hb2
        obtain ⟨y0, y1, y2, y3, y4⟩ := pair_facts HRS2.out hb2
        clear hfine j0 j1
        go_wp2_with fail
        first
          | (refine bodyPost_ret (v := .agg #[str s1, .slice ao1 n1 c1]) (by simp [results, Try.results62, go_sem, y0, y1]) rfl
               ⟨s1, ao1, n1, c1, rfl, Below.setCell (Below.setCell (HA2.out.trans hb2) (by simp) _) (by simp) _, by rw [hr.out]; exact (HST2.out.later hb2).sets2 (hb2.heap HRS2.out)⟩)
          | (go_roundw
             case rel => exact ⟨k + 1, Tm.abs x u, s1, ao1, n1, c1, by show Value.int .i64 _ = Value.int .i64 _; congr 1; have := HQI.out; push_cast; omega, by omega, hb2.heap HBX2.out, hb2.heap HRS2.out, HST2.out.later hb2, HGA.out, HFB.out.symm, HA2.out.trans hb2, by show _ = _; rw [hr.out]; rfl⟩
             case measure => simp [intOf])
    · obtain rfl : k = N := by omega
      have hi' := hi.out
      rw [show (k : Int) - 1 - k = -1 by omega] at hi'
      subst hi'
      have HL : Hid (L = u) := by show _ = _; rw [hr.out, List.drop_eq_nil_of_le (by simp; rw [← HN.out]; exact Nat.le_refl _)]; rfl
      clear hr hi
      obtain ⟨y0, y1, y2, y3, l2⟩ := pair_facts hres.out (After.refl _)
      go_wp2_with fail
      refine bodyPost_ret (v := .agg #[str s, .slice ao m c]) (by simp [results, Try.results62, go_sem, y0, y1]) rfl
        ⟨s, ao, m, c, rfl, Below.setCell (Below.setCell hA.out (by simp) _) (by simp) _, by rw [HL.out]; exact hu.out.sets2 hres.out⟩
end Go.Proofs.Ytfpekihdoclncaa
