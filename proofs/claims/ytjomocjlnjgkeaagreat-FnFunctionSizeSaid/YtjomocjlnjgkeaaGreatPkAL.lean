/-
  The library's iterator slices.Backward over a slice of strings.
-/
import Derived.RangeFuncNested
import Derived.RangeFuncBound
import Derived.RangeFuncCalls
import Derived.RangeFuncLeaves
import Derived.Shelf.Abstract
import Derived.WalkKit
import Derived.OwnWalkIn
import Derived.TacticsInMore
import Derived.LoopNIn
import Derived.LoopIn
import Derived.Lib.Hide
import Derived.Test.YtjomocjlnjgkeaaGreatPkAA
import Derived.Test.YtjomocjlnjgkeaaGreatPkAK
import Derived.Test.YtjomocjlnjgkeaaGreatPkAH
namespace Go.Proofs.YtjomocjlnjgkeaaGreat
open Go.RowKit Go.Shelf

attribute [local go_sem] Oper.semAt_some

/-- What has come when k rounds are over. -/
def upto {α : Type} (f : Nat → α) (k : Nat) : List α := (List.range k).map f
theorem upto_succ {α : Type} (f : Nat → α) (k : Nat) : upto f (k + 1) = upto f k ++ [f k] := by simp [upto, List.range_succ]
theorem upto_length {α : Type} (f : Nat → α) (k : Nat) : (upto f k).length = k := by simp [upto]

/-- The blocks below m and the block Bs are as they were. -/
def KeepB (m Bs : Nat) (W W' : World) : Prop := ∀ k, (k < m ∨ k = Bs) → W'.heap[k]? = W.heap[k]?
theorem KeepB.trans {m Bs : Nat} {A B C : World} (h : KeepB m Bs A B) (k : KeepB m Bs B C) : KeepB m Bs A C := fun i hi => (k i hi).trans (h i hi)
theorem KeepB.refl (m Bs : Nat) (W : World) : KeepB m Bs W W := fun _ _ => rfl
theorem KeepB.cell {m Bs b i : Nat} {W W' : World} {v : Value} (h : KeepB m Bs W W') (hb : b < m ∨ b = Bs) (hc : W.cell? ⟨b, i, none⟩ = some v) : W'.cell? ⟨b, i, none⟩ = some v := by
  rw [World.cell?_of_block (w := W) (a := ⟨b, i, none⟩) (h b hb)]; exact hc

set_option maxRecDepth 100000 in
set_option maxHeartbeats 2000000 in
theorem back1_in (F : Fence) (n : Nat) (h8 : F.fn 105) (hro : F.round = none) (hn : 1 ≤ n) (l Bs m b off len cap : Nat) (zs : List (List UInt8)) (hreach : len ≤ 1000000000) (hb : b < m) (J Jx : List (Nat × List UInt8) → World → Prop)
    (hY : ∀ pre x W, J pre W → pre.length < len → YieldAt F (n - 1) Tryz.prog l #[.int .i64 (x.1 : Int), str x.2] W fun e W' =>
      (e = .returned (.bool true) ∧ J (pre ++ [x]) W' ∧ KeepB m Bs W W') ∨ (e = .returned (.bool false) ∧ Jx (pre ++ [x]) W'))
    (W : World) (hBs : W.cell? ⟨Bs, 0, none⟩ = some (.slice (some ⟨b, off, none⟩) len cap)) (hc : ∀ j, j < len → W.cell? ⟨b, off + j, none⟩ = some (str (zs[j]?.getD []))) (h0 : J [] W) :
    CallsIn F n Tryz.prog 105 #[.func (.yield l) #[] #[], .pointer (some ⟨Bs, 0, none⟩)] W fun e W' => (∃ v, e = .returned v) ∧
      ((∃ ys, ys = upto (fun j => (len - 1 - j, zs[len - 1 - j]?.getD [])) len ∧ J ys W') ∨ (∃ pre, (∃ k, k ≤ len ∧ pre = upto (fun j => (len - 1 - j, zs[len - 1 - j]?.getD [])) k) ∧ Jx pre W')) := by
  refine callsIn_of_wp Tryz.func105 rfl h8 ?_ hro
  simp only [Tryz.ntmps105, List.size_toArray, List.length_cons, List.length_nil, Nat.reduceAdd, Nat.reduceSub, Array.replicate_succ, Array.replicate_zero, List.push_toArray, List.append_toArray, List.nil_append, List.cons_append]
  gi_wp2
  gi_loopw [3] (fun i wr => ∃ k : Nat, k ≤ len ∧ i = .int .i64 ((len : Int) - 1 - k) ∧ J (upto (fun j => (len - 1 - j, zs[len - 1 - j]?.getD [])) k) wr ∧ KeepB m Bs W wr)
    (fun i _ => (intOf i + 1).toNat)
  case atStart => exact ⟨0, Nat.zero_le _, by simp, h0, KeepB.refl _ _ _⟩
  case round =>
    obtain ⟨k, hk, rfl, hJs, hnx⟩ := hrel
    have hBs' := hnx.cell (Or.inr rfl) hBs
    by_cases hlt : k < len
    · obtain ⟨q, hq⟩ : ∃ q : Nat, q = len - 1 - k := ⟨_, rfl⟩
      have hqi : (len : Int) - 1 - k = (q : Int) := by omega
      have hql : q < len := by omega
      have hcx := hnx.cell (Or.inl hb) (hc q hql)
      obtain ⟨fn, tmps, assign, body, hy, hR⟩ := hY _ (q, zs[q]?.getD []) wr hJs (by rw [upto_length]; exact hlt)
      dsimp only at hy
      simp only [hqi]
      have HQ := Lib.hid hq
      have HQI := Lib.hid hqi
      clear hq hqi
      gi_wp2
      refine hR.mono ?_
      rintro e W3 (⟨rfl, hJ3, hk3⟩ | ⟨rfl, hJx3⟩)
      · gi_wp2
        go_roundw
        case rel => exact ⟨k + 1, by omega, by have := HQI.out; simp; omega, by rw [upto_succ, ← HQ.out]; exact hJ3, hnx.trans hk3⟩
        case measure => simp [intOf]
      · gi_wp2
        refine bodyPost_ret (results_none rfl _ _ _) rfl ?_
        exact ⟨⟨_, rfl⟩, .inr ⟨_, ⟨k + 1, by omega, by rw [upto_succ, ← HQ.out]⟩, hJx3⟩⟩
    · obtain rfl : k = len := by omega
      gi_wp2
      go_end0
      exact ⟨⟨_, rfl⟩, .inl ⟨_, rfl, hJs⟩⟩

set_option maxRecDepth 100000 in
set_option maxHeartbeats 1000000 in
theorem back1_nil_in (F : Fence) (n : Nat) (h8 : F.fn 105) (hro : F.round = none) (l Bs : Nat) (J : List (Nat × List UInt8) → World → Prop) (W : World) (ao : Option Addr) (cap : Nat) (hBs : W.cell? ⟨Bs, 0, none⟩ = some (.slice ao 0 cap)) (h0 : J [] W) :
    CallsIn F n Tryz.prog 105 #[.func (.yield l) #[] #[], .pointer (some ⟨Bs, 0, none⟩)] W fun e W' => (∃ v, e = .returned v) ∧ J [] W' := by
  refine callsIn_of_wp Tryz.func105 rfl h8 ?_ hro
  simp only [Tryz.ntmps105, List.size_toArray, List.length_cons, List.length_nil, Nat.reduceAdd, Nat.reduceSub, Array.replicate_succ, Array.replicate_zero, List.push_toArray, List.append_toArray, List.nil_append, List.cons_append]
  gi_wp2
  gi_loopw [3] (fun i wr => i = .int .i64 (-1) ∧ J [] wr) (fun _ _ => 0)
  case atStart => exact ⟨rfl, h0⟩
  case round =>
    obtain ⟨rfl, hJs⟩ := hrel
    gi_wp2
    go_end0
    exact ⟨⟨_, rfl⟩, hJs⟩

set_option maxHeartbeats 1000000 in
/-- slices.Backward(s): the slice value is boxed; the function value captures the box. -/
theorem back_in (F : Fence) (n : Nat) (h6 : F.fn 90) (hro : F.round = none) (a : Option Addr) (len cap : Nat) (w : World) :
    CallsIn F n Tryz.prog 90 #[.slice a len cap] w fun e w' => e = .returned (.func (.func 105) #[] #[.pointer (some ⟨w.heap.size, 0, none⟩)]) ∧ w' = w.alloc (.cells #[.slice a len cap] 40) := by
  refine callsIn_of_wp Tryz.func90 rfl h6 ?_ hro
  simp only [Tryz.ntmps90, List.size_toArray, List.length_cons, List.length_nil, Nat.reduceAdd, Nat.reduceSub, Array.replicate_succ, Array.replicate_zero, List.push_toArray, List.append_toArray, List.nil_append, List.cons_append]
  gi_wp2
  go_ret
  exact ⟨rfl, rfl⟩

/-- The slice value holds these texts, in a block below m. -/
def StrsB (m : Nat) (W : World) (sv : Value) (zs : List (List UInt8)) : Prop :=
  (∃ ao cap, sv = .slice ao 0 cap ∧ zs = []) ∨ ∃ b off cap, sv = .slice (some ⟨b, off, none⟩) zs.length cap ∧ b < m ∧ ∀ j, j < zs.length → W.cell? ⟨b, off + j, none⟩ = some (str (zs[j]?.getD []))

theorem back_stops (F : Fence) (n : Nat) (h8 : F.fn 105) (hro : F.round = none) (hn : 1 ≤ n) (Bs m : Nat) (sv : Value) (zs : List (List UInt8)) (hreach : zs.length ≤ 1000000000) (w : World) (hBs : Bs < w.heap.size) (hm : m ≤ w.heap.size)
    (hc : w.cell? ⟨Bs, 0, none⟩ = some sv) (hI : StrsB m w sv zs) :
    SeqStopsK F n Tryz.prog 105 #[.pointer (some ⟨Bs, 0, none⟩)] (fun x : Nat × List UInt8 => #[Value.int .i64 (x.1 : Int), str x.2]) (KeepB m Bs) (fun ys => ys = upto (fun j => (zs.length - 1 - j, zs[zs.length - 1 - j]?.getD [])) zs.length)
      (fun pre => ∃ k, k ≤ zs.length ∧ pre = upto (fun j => (zs.length - 1 - j, zs[zs.length - 1 - j]?.getD [])) k) zs.length w := fun l J Jx W hW _ _ hY h0 => by
  have hc' := (hW.cell (p := ⟨Bs, 0, none⟩) hBs).trans hc
  rcases hI with ⟨ao, cap, rfl, rfl⟩ | ⟨b, off, cap, rfl, hb, hcs⟩
  · exact (back1_nil_in F n h8 hro l Bs J W ao cap hc' h0).mono fun e W' ⟨he, hj⟩ => ⟨he, .inl ⟨_, rfl, hj⟩⟩
  · exact back1_in F n h8 hro hn l Bs m b off zs.length cap zs hreach hb J Jx hY W hc' (fun j hj => (hW.cell (p := ⟨b, off + j, none⟩) (show b < w.heap.size by omega)).trans (hcs j hj)) h0

theorem keepB_b {m Bs : Nat} {w : World} (hm : m ≤ w.heap.size) (hBs : Bs < w.heap.size) (W : World) (l : Nat) (o o' : Obj) (hl : w.heap.size ≤ l) (h : W.heap[l]? = some o) (_ : o.isCells = false) (_ : o.isWalk = false) : KeepB m Bs W (W.putObj l o') := fun k hk => by
  have hg := grownBy_putObj' W l o'
  have hlt := (Array.getElem?_eq_some_iff.1 h).1
  exact hg.block k (by omega) (fun e => by injection e with e; omega)
end Go.Proofs.YtjomocjlnjgkeaaGreat

namespace Go.Proofs.YtjomocjlnjgkeaaGreat
open Go.RowKit Go.Shelf

attribute [local go_sem] Oper.semAt_some

/-- Names abstracted one after the other, each result looked at. -/
def absL : List (List UInt8) → Tm → Option Tm
  | [], t => some t
  | x :: xs, t => if (Tm.abs x t).fits = true then absL xs (Tm.abs x t) else none

theorem absL_snoc (xs : List (List UInt8)) (x : List UInt8) : ∀ t, absL (xs ++ [x]) t = (absL xs t).bind fun u => if (Tm.abs x u).fits = true then some (Tm.abs x u) else none := by
  induction xs with
  | nil => intro t; simp [absL]
  | cons y ys ih => intro t; simp only [List.cons_append, absL]; split
                    · exact ih _
                    · rfl

theorem TV.keptCells {A C : World} {B : Nat} (hk : ∀ (b : Nat) (cs : Array Value) (T : TypeId) (fr : Nat × Nat), T ≠ 43 → T ≠ 4 → A.heap[b]? = some (.cells cs T fr) → C.heap[b]? = some (.cells cs T fr)) : ∀ {t : Tm} {v : Value}, TV A B t v → TV C B t v
  | .k, _, ⟨b, fr, hv, hb, h⟩ => ⟨b, fr, hv, hb, hk _ _ _ _ (by decide) (by decide) h⟩
  | .s, _, ⟨b, fr, hv, hb, h⟩ => ⟨b, fr, hv, hb, hk _ _ _ _ (by decide) (by decide) h⟩
  | .nm _, _, ⟨b, fr, hv, hb, h⟩ => ⟨b, fr, hv, hb, hk _ _ _ _ (by decide) (by decide) h⟩
  | .app _ _, _, ⟨b, fr, vf, va, hv, hb, h, hf, ha⟩ => ⟨b, fr, vf, va, hv, hb, hk _ _ _ _ (by decide) (by decide) h, hf.keptCells hk, ha.keptCells hk⟩

theorem TV.grownCells {A C : World} {B : Nat} {row : Option Nat} {t : Tm} {v : Value} (h : TV A B t v) (hg : A.grownBy C row) (hr : ∀ r, row = some r → ∃ o : Obj, A.heap[r]? = some o ∧ o.isCells = false) : TV C B t v :=
  h.keptCells fun b cs T fr _ _ hb => by
    rw [hg.block b (Array.getElem?_eq_some_iff.1 hb).1 (fun e => by obtain ⟨o, ho, hc⟩ := hr b e.symm; rw [hb] at ho; injection ho with ho; subst ho; simp [Obj.isCells] at hc)]
    exact hb

theorem TV.boxSet {A : World} {B b : Nat} {x u : Value} {t : Tm} {v : Value} (h : TV A B t v) (hb : Boxed A b 43 x) : TV (A.setCell ⟨b, 0, none⟩ u) B t v :=
  h.keptCells fun b' cs T fr hT _ hb' => by
    have hne : b' ≠ b := by
      rintro rfl
      rw [show A.heap[b']? = _ from hb] at hb'
      injection hb' with hb'
      injection hb' with _ hb' _
      exact hT hb'.symm
    rw [Below.heap_setCell _ _ _ _ hne]
    exact hb'

theorem TV.boolSet {A : World} {B b : Nat} {x u : Value} {t : Tm} {v : Value} (h : TV A B t v) (hb : Boxed A b 4 x) : TV (A.setCell ⟨b, 0, none⟩ u) B t v :=
  h.keptCells fun b' cs T fr _ hT hb' => by
    have hne : b' ≠ b := by
      rintro rfl
      rw [show A.heap[b']? = _ from hb] at hb'
      injection hb' with hb'
      injection hb' with _ hb' _
      exact hT hb'.symm
    rw [Below.heap_setCell _ _ _ _ hne]
    exact hb'

theorem absL_append (xs ys : List (List UInt8)) : ∀ t, absL (xs ++ ys) t = (absL xs t).bind (absL ys) := by
  induction xs with
  | nil => intro t; simp [absL]
  | cons x xs ih => intro t; simp only [List.cons_append, absL]; split
                    · exact ih _
                    · rfl

theorem back_take (zs : List (List UInt8)) (k : Nat) (hk : k ≤ zs.length) : (upto (fun j => (zs.length - 1 - j, zs[zs.length - 1 - j]?.getD [])) k).map Prod.snd = zs.reverse.take k := by
  apply List.ext_getElem
  · simp [upto, hk]
  · intro i h1 h2
    have hi : i < k := by simpa [upto] using h1
    have hz : zs.length - 1 - i < zs.length := by omega
    simp [upto, hz]

theorem box_kept {A C : World} {b : Nat} {T : TypeId} {x : Value} {row : Option Nat} (h : Boxed A b T x) (hg : A.grownBy C row) (hr : ∀ r, row = some r → ∃ o : Obj, A.heap[r]? = some o ∧ o.isCells = false) : Boxed C b T x :=
  Boxed.kept h hg fun e => by obtain ⟨o, ho, hc⟩ := hr b e.symm; rw [show A.heap[b]? = _ from h] at ho; injection ho with ho; subst ho; simp [Obj.isCells] at hc

theorem box_later {A C : World} {b : Nat} {T : TypeId} {x : Value} (h : Boxed A b T x) (hb : Below A.heap.size A C) : Boxed C b T x := heap_later h hb
theorem keepsOthers_below {A C : World} (h : Below A.heap.size A C) : KeepsOthers A C := ⟨h.size, fun _ _ hk _ => heap_later hk h⟩
theorem keepB_below {m Bs : Nat} {A C : World} (h : Below A.heap.size A C) (hm : m ≤ A.heap.size) (hBs : Bs < A.heap.size) : KeepB m Bs A C := fun k hk => h.block k (by omega)
theorem keepB_set {m Bs b : Nat} {A : World} (v : Value) (h1 : m ≤ b) (h2 : Bs ≠ b) : KeepB m Bs A (A.setCell ⟨b, 0, none⟩ v) := fun k hk => Below.heap_setCell _ _ _ _ (show k ≠ b by omega)

set_option maxRecDepth 100000 in
set_option maxHeartbeats 2000000 in
theorem absN_any (w : World) (B : Nat) (names : List (List UInt8)) (sv : Value) (t : Tm) (v : Value) (hI : StrsB w.heap.size w sv names) (hT : TV w B t v) (hB : B ≤ w.heap.size) (hf : t.fits = true) (hlen : names.length ≤ 1000000000) :
    Calls Tryz.prog 59 #[sv, v] w fun e w' => ∃ v', e = .returned (.tuple #[v', .bool (absL names.reverse t).isSome]) ∧ Below w.heap.size w w' ∧ ∀ u, absL names.reverse t = some u → TV w' B u v' := by
  obtain ⟨T, x, rfl, _⟩ := hT.asks
  obtain ⟨ao, cap, rfl⟩ : ∃ ao cap, sv = .slice ao names.length cap := by
    rcases hI with ⟨ao, cap, rfl, rfl⟩ | ⟨b, off, cap, rfl, _⟩
    · exact ⟨_, _, rfl⟩
    · exact ⟨_, _, rfl⟩
  refine (callsIn_wide (n := 3)).1 ?_
  refine callsIn_of_wp_marks Tryz.func59 rfl trivial ?_ rfl
  simp only [Tryz.ntmps59, List.size_toArray, List.length_cons, List.length_nil, Nat.reduceAdd, Nat.reduceSub, Array.replicate_succ, Array.replicate_zero, List.push_toArray, List.append_toArray, List.nil_append, List.cons_append]
  gi_wp2_with (refine ⟨trivial, ?_⟩; gi_at_call 90; refine (back_in Fence.wide 2 trivial rfl _ _ _ _).mono ?_; rintro e w' ⟨rfl, rfl⟩)
  have b0 := Boxed.new w 43 (.iface T x)
  have b1 := Boxed.new (w.alloc (.cells #[.iface T x] 43)) 43 .nilIface
  have b2 := Boxed.new ((w.alloc (.cells #[.iface T x] 43)).alloc (.cells #[.nilIface] 43)) 4 (.bool false)
  have b3 := Boxed.new (((w.alloc (.cells #[.iface T x] 43)).alloc (.cells #[.nilIface] 43)).alloc (.cells #[.bool false] 4)) 40 (.slice ao names.length cap)
  simp only [World.size_alloc] at b1 b2 b3
  have hB0 : Below w.heap.size w ((((w.alloc (.cells #[.iface T x] 43)).alloc (.cells #[.nilIface] 43)).alloc (.cells #[.bool false] 4)).alloc (.cells #[.slice ao names.length cap] 40)) := below_alloc (below_alloc (below_alloc (below_alloc (Below.refl _ _) _) _) _) _
  have hI' : StrsB w.heap.size ((((w.alloc (.cells #[.iface T x] 43)).alloc (.cells #[.nilIface] 43)).alloc (.cells #[.bool false] 4)).alloc (.cells #[.slice ao names.length cap] 40)) (.slice ao names.length cap) names := by
    rcases hI with h | ⟨b, off, cap', e, hb, hc⟩
    · exact Or.inl h
    · exact Or.inr ⟨b, off, cap', e, hb, fun j hj => cell_later' (hc j hj) _ hB0⟩
  refine wpIn_rangeFunc_ownG rfl (by omega) (gf := 105) (lb := #[.pointer (some ⟨w.heap.size + 1 + 1 + 1, 0, none⟩)]) rfl trivial (enters_of Tryz.func105 (by kernel_rfl) rfl)
    (back_stops Fence.wide 2 trivial rfl (by omega) (w.heap.size + 1 + 1 + 1) w.heap.size _ names hlen _ (by simp) (by simp; omega) b3.cell hI') KeepB.trans (keepB_b (by simp; omega) (by simp)) (Below.refl _ _) (fun _ => rfl)
    (fun pre W => (∃ u vu, absL (pre.map Prod.snd) t = some u ∧ u.fits = true ∧ TV W B u vu ∧ Boxed W w.heap.size 43 vu ∧ Boxed W (w.heap.size + 1) 43 .nilIface ∧ Boxed W (w.heap.size + 1 + 1) 4 (.bool false) ∧ w.heap.size + 1 + 1 + 1 < W.heap.size) ∧ Below w.heap.size w W)
    (fun c pre W => (c = .ret ∧ absL (pre.map Prod.snd) t = none ∧ Boxed W (w.heap.size + 1) 43 .nilIface ∧ Boxed W (w.heap.size + 1 + 1) 4 (.bool false)) ∧ Below w.heap.size w W)
    (OwnFrom.and (Own.from (fun s A C row hs hg hr => by
      obtain ⟨u, vu, h1, h2, h3, h4, h5, h6, h7⟩ := hs
      exact ⟨u, vu, h1, h2, h3.grownCells hg hr, box_kept h4 hg hr, box_kept h5 hg hr, box_kept h6 hg hr, Nat.lt_of_lt_of_le h7 hg.size⟩) _) (ownFrom_below (Nat.le_refl _) (by simp; omega)))
    (fun c => OwnFrom.and (Own.from (fun s A C row hs hg hr => ⟨hs.1, hs.2.1, box_kept hs.2.2.1 hg hr, box_kept hs.2.2.2 hg hr⟩) _) (ownFrom_below (Nat.le_refl _) (by simp; omega)))
    ⟨⟨t, .iface T x, rfl, hf, hT.below hB0, ((b0.alloc _).alloc _).alloc _, (b1.alloc _).alloc _, b2.alloc _, by simp⟩, hB0⟩
    (fun p => { tmps := #[.slice ao names.length cap, .iface T x, undef, .pointer (some ⟨w.heap.size, 0, none⟩), .pointer (some ⟨w.heap.size + 1, 0, none⟩), .pointer (some ⟨w.heap.size + 1 + 1, 0, none⟩), undef, str p.2, .slice ao names.length cap, .func (.func 105) #[] #[.pointer (some ⟨w.heap.size + 1 + 1 + 1, 0, none⟩)], .int .i64 (p.1 : Int), str p.2, undef, undef, undef, undef, undef, undef, undef], defers := [] }) ?assign ?body ?done ?stop
  case assign =>
    intro l p W K hK
    gi_wp2
    exact hK
  case body =>
    rintro l pre p W ⟨⟨u, vu, h1, h2, h3, h4, h5, h6, h7⟩, hBw⟩ _
    obtain ⟨T', x', rfl, _⟩ := h3.asks
    have c0 := h4.cell
    have hsz := fits_size h2
    have hBW := Nat.le_trans hB hBw.size
    have hcall := abstraction_any W B p.2 u _ h3 hBW (by omega)
    unfold TermPost at hcall
    gi_wp2_with (refine ⟨trivial, ?_⟩; gi_at_call 91; refine (CallsIn.inRound l (callsIn_wide.2 hcall)).mono ?_; rintro e w1 ⟨v1, rfl, hb1, ht1⟩; obtain ⟨T1, x1, rfl, _⟩ := ht1.asks; have g4 := box_later h4 hb1; have gc := g4.cell; have gf := g4.frozen; clear c0)
    have ht2 := TV.boxSet (u := .iface T1 x1) ht1 g4
    have e0 := Boxed.set (.iface T1 x1) g4
    have e1 := Boxed.other (box_later h5 hb1) (show w.heap.size + 1 ≠ w.heap.size by omega) (.iface T1 x1)
    have e2 := Boxed.other (box_later h6 hb1) (show w.heap.size + 1 + 1 ≠ w.heap.size by omega) (.iface T1 x1)
    have hfit := fits_any _ B _ _ ht2
    have hs1 := hb1.size
    obtain ⟨fb, hfb⟩ : ∃ fb, fb = (Tm.abs p.2 u).fits := ⟨_, rfl⟩
    rw [← hfb] at hfit
    have hnext : absL ((pre ++ [p]).map Prod.snd) t = if fb = true then some (Tm.abs p.2 u) else none := by
      rw [List.map_append, List.map_singleton, absL_snoc, h1, hfb]; rfl
    have HN := Lib.hid hnext
    have HFB := Lib.hid hfb
    clear hnext hfb
    cases fb
    · gi_wp2_with (refine ⟨trivial, ?_⟩; gi_at_call 81; refine (CallsIn.inRound l (callsIn_wide.2 hfit)).mono ?_; rintro e w3 ⟨rfl, hb3⟩; have f1 := box_later e1 hb3; have f2 := box_later e2 hb3; have f1c := f1.cell; have f1f := f1.frozen; have f2c := f2.cell; have f2f := f2.frozen)
      have hs3 : w1.heap.size ≤ w3.heap.size := by have := hb3.size; simpa [World.setCell] using this
      refine ⟨((keepsOthers_below hb1).trans ((KeepsOthers.setCell _ _ _).trans ((keepsOthers_below hb3).trans ((KeepsOthers.setCell _ _ _).trans (KeepsOthers.setCell _ _ _))))).from _, ⟨rfl, by simpa using HN.out, Boxed.other (Boxed.set .nilIface f1) (by omega) _, Boxed.set (.bool false) (Boxed.other f2 (by omega) _)⟩, ?_⟩
      exact (((hBw.trans (hb1.mono hBw.size)).trans (((Below.refl w.heap.size w1).setCell (p := ⟨w.heap.size, 0, none⟩) (Nat.le_refl _) _).trans (hb3.mono (by simp [World.setCell]; omega)))).setCell (p := ⟨w.heap.size + 1, 0, none⟩) (by simp) _).setCell (p := ⟨w.heap.size + 1 + 1, 0, none⟩) (by simp; omega) _
    · gi_wp2_with (refine ⟨trivial, ?_⟩; gi_at_call 81; refine (CallsIn.inRound l (callsIn_wide.2 hfit)).mono ?_; rintro e w3 ⟨rfl, hb3⟩)
      have hs3 : w1.heap.size ≤ w3.heap.size := by have := hb3.size; simpa [World.setCell] using this
      refine ⟨((keepsOthers_below hb1).trans ((KeepsOthers.setCell _ _ _).trans (keepsOthers_below hb3))).from _, (keepB_below hb1 (by omega) (by omega)).trans ((keepB_set _ (Nat.le_refl _) (by omega)).trans (keepB_below hb3 (by simp [World.setCell]; omega) (by simp [World.setCell]; omega))), ⟨Tm.abs p.2 u, .iface T1 x1, HN.out, HFB.out.symm, ht2.below hb3, box_later e0 hb3, box_later e1 hb3, box_later e2 hb3, by omega⟩, ?_⟩
      exact (hBw.trans (hb1.mono hBw.size)).trans (((Below.refl w.heap.size w1).setCell (p := ⟨w.heap.size, 0, none⟩) (Nat.le_refl _) _).trans (hb3.mono (by simp [World.setCell]; omega)))
  case done =>
    rintro D ys W hD rfl ⟨⟨u, vu, h1, h2, h3, h4, h5, h6, h7⟩, hBw⟩ hK
    rw [back_take _ _ (Nat.le_refl _), List.take_of_length_le (by simp)] at h1
    obtain ⟨T', x', rfl, _⟩ := h3.asks
    have c4 := h4.cell
    have c5 := h5.cell
    have f5 := h5.frozen
    have c6 := h6.cell
    have f6 := h6.frozen
    have HN := Lib.hid h1
    clear h1
    gi_wp2
    have g5 := Boxed.other (Boxed.set (.iface T' x') h5) (show w.heap.size + 1 ≠ w.heap.size + 1 + 1 by omega) (.bool true)
    have g6 := Boxed.set (.bool true) (Boxed.other h6 (show w.heap.size + 1 + 1 ≠ w.heap.size + 1 by omega) (.iface T' x'))
    have hK' := (KeepsOthers.setCell (W.setCell ⟨w.heap.size + 1, 0, none⟩ (.iface T' x')) ⟨w.heap.size + 1 + 1, 0, none⟩ (.bool true)).same D _ ((KeepsOthers.setCell W ⟨w.heap.size + 1, 0, none⟩ (.iface T' x')).same D _ hK rfl) rfl
    refine ⟨by simp, .inl ⟨_, _, rfl, run_takeDeferred hK', ?_⟩⟩
    have r5 := cell_kept g5.cell (grownBy_putObj' _ D (.deferred none)) (fun r e => by cases e; exact ⟨_, hK', rfl⟩)
    have r6 := cell_kept g6.cell (grownBy_putObj' _ D (.deferred none)) (fun r e => by cases e; exact ⟨_, hK', rfl⟩)
    have ht := TV.grownCells (TV.boolSet (u := .bool true) (TV.boxSet (u := .iface T' x') h3 h5) (Boxed.other h6 (show w.heap.size + 1 + 1 ≠ w.heap.size + 1 by omega) (.iface T' x'))) (grownBy_putObj' _ D (.deferred none)) (fun r e => by cases e; exact ⟨_, hK', rfl⟩)
    refine ⟨.tuple #[.iface T' x', .bool true], ?_, .iface T' x', by rw [HN.out]; rfl, ?_, fun u' h => by rw [HN.out] at h; obtain rfl := Option.some.inj h; exact ht⟩
    · simp [results, Tryz.results59, go_sem, r5, r6]
    · exact ((hBw.setCell (p := ⟨w.heap.size + 1, 0, none⟩) (by simp) _).setCell (p := ⟨w.heap.size + 1 + 1, 0, none⟩) (by simp; omega) _).trans (belowK_b (w := w) (Nat.le_refl _) _ D _ _ (by simp at hD; omega) hK' rfl rfl)
  case stop =>
    rintro D c pre W hD ⟨k, hk, rfl⟩ ⟨⟨rfl, h1, h5, h6⟩, hBw⟩ hK
    rw [back_take _ _ hk] at h1
    have h2 : absL names.reverse t = none := by
      rw [← List.take_append_drop k names.reverse, absL_append, h1]; rfl
    have HN := Lib.hid h2
    clear h1 h2
    gi_wp2
    refine ⟨by simp, .inl ⟨_, _, rfl, run_takeDeferred hK, ?_⟩⟩
    have r5 := cell_kept h5.cell (grownBy_putObj' _ D (.deferred none)) (fun r e => by cases e; exact ⟨_, hK, rfl⟩)
    have r6 := cell_kept h6.cell (grownBy_putObj' _ D (.deferred none)) (fun r e => by cases e; exact ⟨_, hK, rfl⟩)
    refine ⟨.tuple #[.nilIface, .bool false], ?_, .nilIface, by rw [HN.out]; rfl, ?_, fun u' h => by rw [HN.out] at h; cases h⟩
    · simp [results, Tryz.results59, go_sem, r5, r6]
    · exact hBw.trans (belowK_b (w := w) (Nat.le_refl _) _ D _ _ (by simp at hD; omega) hK rfl rfl)
end Go.Proofs.YtjomocjlnjgkeaaGreat

namespace Go.Proofs.YtjomocjlnjgkeaaGreat
open Go.RowKit

set_option maxHeartbeats 1000000
set_option maxRecDepth 100000

namespace Tm
def X : Tm := .nm [120]
def Y : Tm := .nm [121]
def Z : Tm := .nm [122]
def half : Tm := abs [120] (abs [121] (app Y (app (app X X) Y)))
def fix : Tm := app half half
def succ : Tm := abs [120] (pair no X)
def pairC : Tm := abs [120] (abs [121] (abs [122] (app (app Z X) Y)))
def first : Tm := abs [120] (app X k)
def second : Tm := abs [120] (app X no)
def pred : Tm := abs [120] (app (app (app X k) I) (app X no))
/-- The closed term of a word. -/
def data (w : List UInt8) : Option Tm :=
  if w = [105] then some I else if w = [116, 114, 117, 101] then some k else if w = [102, 97, 108, 115, 101] then some no
  else if w = [112, 97, 105, 114] then some pairC else if w = [102, 105, 114, 115, 116] then some first else if w = [122, 101, 114, 111] then some first
  else if w = [115, 101, 99, 111, 110, 100] then some second else if w = [115, 117, 99, 99] then some succ else if w = [112, 114, 101, 100] then some pred
  else if w = [102, 105, 120] then some fix else none
theorem data_good {w : List UInt8} {t : Tm} (h : data w = some t) : t.good = true ∧ t.size ≤ 1000 := by
  unfold data at h
  repeat' split at h
  all_goals first | (obtain rfl := Option.some.inj h; exact ⟨by decide +kernel, by decide +kernel⟩) | cases h
end Tm

theorem nm_val {W : World} {B b : Nat} {n : List UInt8} {fr : Nat × Nat} (h : W.heap[b]? = some (.cells #[str n] 100 fr)) (hB : B ≤ b) : TV W B (.nm n) (.iface 96 (.pointer (some ⟨b, 0, none⟩))) := ⟨b, fr, rfl, hB, h⟩

theorem succ_any (w : World) (B : Nat) (hB : B ≤ w.heap.size) : Calls Tryz.prog 64 #[] w (TermPost w B Tm.succ) := by
  have hbit := bit_any w B false hB
  unfold TermPost at hbit
  simp only [Bool.false_eq_true, if_false] at hbit
  go_enter Tryz.func64, Tryz.ntmps64
  go_wp2_with fail
  refine hbit.mono ?_
  rintro e w1 ⟨v1, rfl, hb1, ht1⟩
  have hs1 := hb1.size
  have hnm := nm_val (heap_top w1 (.cells #[str [120]] 100)) (Nat.le_trans hB hs1)
  have hcall := pair_any (w1.alloc (.cells #[str [120]] 100)) B Tm.no Tm.X v1 _ (ht1.below (below_new _ _)) hnm (by simp; omega) (by decide +kernel)
  unfold TermPost at hcall
  have hb2 := below_trans hb1 (below_new w1 (.cells #[str [120]] 100))
  clear ht1 hnm hbit
  go_wp2_with fail
  refine hcall.mono ?_
  rintro e w2 ⟨v2, rfl, hb3, ht2⟩
  have hb4 := below_trans hb2 hb3
  have hcall2 := abstraction_any w2 B [120] _ v2 ht2 (Nat.le_trans hB hb4.size) (by decide +kernel)
  rw [show Tm.abs [120] (Tm.pair Tm.no Tm.X) = Tm.succ from rfl] at hcall2
  unfold TermPost at hcall2
  clear ht2 hcall
  go_wp2_with fail
  refine hcall2.mono ?_
  rintro e w3 ⟨v3, rfl, hb5, ht3⟩
  have HT := Lib.hid ht3
  clear ht3 hcall2
  go_wp2_with fail
  go_ret
  exact ⟨_, rfl, below_trans hb4 hb5, HT.out⟩

theorem applyAll2 (w : World) (B g : Nat) (f a b : Tm) (vf va vb : Value) (fr : Nat × Nat) (hg : w.heap[g]? = some (.cells #[va, vb] 43 fr)) (hf : TV w B f vf) (ha : TV w B a va) (hb : TV w B b vb) (hB : B ≤ w.heap.size) (hz : f.size + a.size + b.size ≤ 1000000) :
    Calls Tryz.prog 60 #[vf, .slice (some ⟨g, 0, none⟩) 2 2] w (TermPost w B (.app (.app f a) b)) :=
  applyAll_any w B g f vf [a, b] [va, vb] fr rfl hg hf (fun j hj => by
    match j, hj with
    | 0, _ => exact ha
    | 1, _ => exact hb) hB (by simp; omega) (by simp)

theorem applyAll3 (w : World) (B g : Nat) (f a b c : Tm) (vf va vb vc : Value) (fr : Nat × Nat) (hg : w.heap[g]? = some (.cells #[va, vb, vc] 43 fr)) (hf : TV w B f vf) (ha : TV w B a va) (hb : TV w B b vb) (hc : TV w B c vc) (hB : B ≤ w.heap.size) (hz : f.size + a.size + b.size + c.size ≤ 1000000) :
    Calls Tryz.prog 60 #[vf, .slice (some ⟨g, 0, none⟩) 3 3] w (TermPost w B (.app (.app (.app f a) b) c)) :=
  applyAll_any w B g f vf [a, b, c] [va, vb, vc] fr rfl hg hf (fun j hj => by
    match j, hj with
    | 0, _ => exact ha
    | 1, _ => exact hb
    | 2, _ => exact hc) hB (by simp; omega) (by simp)

theorem fix_any (w : World) (B : Nat) (hB : B ≤ w.heap.size) : Calls Tryz.prog 66 #[] w (TermPost w B Tm.fix) := by
  obtain ⟨os, hos⟩ : ∃ os : List Obj, os = [.cells #[str [120]] 100, .cells #[str [121]] 100, .cells #[.iface 96 (.pointer (some ⟨w.heap.size, 0, none⟩)), .iface 96 (.pointer (some ⟨w.heap.size + 1, 0, none⟩))] 43] := ⟨_, rfl⟩
  have hX : allocL w os = ((w.alloc (.cells #[str [120]] 100)).alloc (.cells #[str [121]] 100)).alloc (.cells #[.iface 96 (.pointer (some ⟨w.heap.size, 0, none⟩)), .iface 96 (.pointer (some ⟨w.heap.size + 1, 0, none⟩))] 43) := by rw [hos]; rfl
  have hA := allocL_below w os
  have h0 : (allocL w os).heap[w.heap.size]? = some (.cells #[str [120]] 100 (0, 0)) := by have := allocL_heap w os 0 (by rw [hos]; simp); simpa [hos] using this
  have h1 : (allocL w os).heap[w.heap.size + 1]? = some (.cells #[str [121]] 100 (0, 0)) := by have := allocL_heap w os 1 (by rw [hos]; simp); simpa [hos] using this
  have h2 : (allocL w os).heap[w.heap.size + 1 + 1]? = some (.cells #[.iface 96 (.pointer (some ⟨w.heap.size, 0, none⟩)), .iface 96 (.pointer (some ⟨w.heap.size + 1, 0, none⟩))] 43 (0, 0)) := by have := allocL_heap w os 2 (by rw [hos]; simp); simpa [hos] using this
  rw [hX] at hA h0 h1 h2
  have hx := nm_val h0 hB
  have hy := nm_val h1 (Nat.le_trans hB (Nat.le_succ _))
  have hc1 := applyAll2 _ B _ Tm.X Tm.X Tm.Y _ _ _ (0, 0) h2 hx hx hy (Nat.le_trans hB hA.size) (by decide +kernel)
  unfold TermPost at hc1
  have HX := Lib.hid hx
  have HY := Lib.hid hy
  clear hx hy h0 h1 h2 hX hos
  go_enter Tryz.func66, Tryz.ntmps66
  go_wp2_with fail
  refine hc1.mono ?_
  rintro e w1 ⟨v1, rfl, hb1, ht1⟩
  have hc2 := apply_any w1 B Tm.Y _ _ v1 (HY.out.below hb1) ht1 (Nat.le_trans hB (below_trans hA hb1).size) (by decide +kernel)
  clear ht1 hc1
  go_wp2_with fail
  refine hc2.mono ?_
  rintro e w2 ⟨v2, rfl, hb2, ht2⟩
  have hB2 := below_trans (below_trans hA hb1) hb2
  have hc3 := abstraction_any w2 B [121] _ v2 ht2 (Nat.le_trans hB hB2.size) (by decide +kernel)
  unfold TermPost at hc3
  clear ht2 hc2
  go_wp2_with fail
  refine hc3.mono ?_
  rintro e w3 ⟨v3, rfl, hb3, ht3⟩
  have hB3 := below_trans hB2 hb3
  have hc4 := abstraction_any w3 B [120] _ v3 ht3 (Nat.le_trans hB hB3.size) (by decide +kernel)
  unfold TermPost at hc4
  clear ht3 hc3
  go_wp2_with fail
  refine hc4.mono ?_
  rintro e w4 ⟨v4, rfl, hb4, ht4⟩
  have hB4 := below_trans hB3 hb4
  have hc5 := apply_any w4 B _ _ v4 v4 ht4 ht4 (Nat.le_trans hB hB4.size) (by decide +kernel)
  clear ht4 hc4
  go_wp2_with fail
  refine hc5.mono ?_
  rintro e w5 ⟨v5, rfl, hb5, ht5⟩
  have HT := Lib.hid ht5
  clear ht5 hc5
  go_wp2_with fail
  go_ret
  exact ⟨_, rfl, below_trans hB4 hb5, HT.out⟩

def DataPost (w : World) (B : Nat) (r : Option Tm) (e : Ending) (w' : World) : Prop :=
  ∃ v, e = .returned (.tuple #[v, .bool r.isSome]) ∧ Below w.heap.size w w' ∧ ∀ t, r = some t → TV w' B t v

/-- What is there behind the first lines of dataTerm. -/
structure DataPre (w : World) (B : Nat) (W : World) : Prop where
  below : Below w.heap.size w W
  x : TV W B Tm.X (.iface 96 (.pointer (some ⟨w.heap.size, 0, none⟩)))
  y : TV W B Tm.Y (.iface 96 (.pointer (some ⟨w.heap.size + 1, 0, none⟩)))
  z : TV W B Tm.Z (.iface 96 (.pointer (some ⟨w.heap.size + 1 + 1, 0, none⟩)))

theorem choice_any (w : World) (B : Nat) (b : Bool) (hB : B ≤ w.heap.size) : Calls Tryz.prog 92 #[.bool b] w (TermPost w B (if b = true then Tm.first else Tm.second)) := by
  have hnm := nm_val (heap_top w (.cells #[str [120]] 100)) hB
  have hn := below_new w (.cells #[str [120]] 100)
  have hbit := bit_any (w.alloc (.cells #[str [120]] 100)) B b (Nat.le_trans hB hn.size)
  unfold TermPost at hbit
  obtain ⟨T, hT⟩ : ∃ T : Tm, T = (if b = true then Tm.k else Tm.no) := ⟨_, rfl⟩
  have hz : T.size ≤ 1000 := by rw [hT]; cases b <;> decide +kernel
  have hfin : Tm.abs [120] (.app Tm.X T) = if b = true then Tm.first else Tm.second := by rw [hT]; cases b <;> rfl
  have hzx : Tm.X.size = 1 := rfl
  have hab : ∀ W v, TV W B (.app Tm.X T) v → B ≤ W.heap.size → Calls Tryz.prog 91 #[str [120], v] W (TermPost W B (Tm.abs [120] (.app Tm.X T))) := fun W v h1 h2 => abstraction_any W B [120] _ v h1 h2 (by simp only [Tm.size]; omega)
  rw [hfin] at hab
  unfold TermPost at hab
  rw [← hT] at hbit
  generalize (if b = true then Tm.first else Tm.second) = R at *
  clear hT hfin
  have HNM := Lib.hid hnm
  clear hnm
  go_enter Tryz.func92, Tryz.ntmps92
  go_wp2_with fail
  refine hbit.mono ?_
  rintro e w1 ⟨v1, rfl, hb1, ht1⟩
  have hb2 := below_trans hn hb1
  have happ := apply_any w1 B Tm.X T _ v1 (HNM.out.below hb1) ht1 (Nat.le_trans hB hb2.size) (by omega)
  clear ht1 hbit
  go_wp2_with fail
  refine happ.mono ?_
  rintro e w2 ⟨v2, rfl, hb3, ht2⟩
  have hb4 := below_trans hb2 hb3
  have hc := hab w2 v2 ht2 (Nat.le_trans hB hb4.size)
  clear ht2 happ hab
  go_wp2_with fail
  refine hc.mono ?_
  rintro e w3 ⟨v3, rfl, hb5, ht3⟩
  have HT := Lib.hid ht3
  clear ht3 hc
  go_wp2_with fail
  go_ret
  exact ⟨_, rfl, below_trans hb4 hb5, HT.out⟩

theorem first_any (w : World) (B : Nat) (hB : B ≤ w.heap.size) : Calls Tryz.prog 61 #[] w (TermPost w B Tm.first) := by
  have hc := choice_any w B true hB
  unfold TermPost at hc
  simp only [if_true] at hc
  go_enter Tryz.func61, Tryz.ntmps61
  go_wp2_with fail
  refine hc.mono ?_
  rintro e w1 ⟨v1, rfl, hb1, ht1⟩
  have HT := Lib.hid ht1
  clear ht1 hc
  go_wp2_with fail
  go_ret
  exact ⟨_, rfl, hb1, HT.out⟩

theorem second_any (w : World) (B : Nat) (hB : B ≤ w.heap.size) : Calls Tryz.prog 62 #[] w (TermPost w B Tm.second) := by
  have hc := choice_any w B false hB
  unfold TermPost at hc
  simp only [Bool.false_eq_true, if_false] at hc
  go_enter Tryz.func62, Tryz.ntmps62
  go_wp2_with fail
  refine hc.mono ?_
  rintro e w1 ⟨v1, rfl, hb1, ht1⟩
  have HT := Lib.hid ht1
  clear ht1 hc
  go_wp2_with fail
  go_ret
  exact ⟨_, rfl, hb1, HT.out⟩

theorem zero_any (w : World) (B : Nat) (hB : B ≤ w.heap.size) : Calls Tryz.prog 63 #[] w (TermPost w B Tm.first) := by
  have hc := first_any w B hB
  unfold TermPost at hc
  skip
  go_enter Tryz.func63, Tryz.ntmps63
  go_wp2_with fail
  refine hc.mono ?_
  rintro e w1 ⟨v1, rfl, hb1, ht1⟩
  have HT := Lib.hid ht1
  clear ht1 hc
  go_wp2_with fail
  go_ret
  exact ⟨_, rfl, hb1, HT.out⟩

theorem pred_any (w : World) (B : Nat) (hB : B ≤ w.heap.size) : Calls Tryz.prog 65 #[] w (TermPost w B Tm.pred) := by
  have hnm := nm_val (heap_top w (.cells #[str [120]] 100)) hB
  have hn := below_new w (.cells #[str [120]] 100)
  have k1 := bit_any (w.alloc (.cells #[str [120]] 100)) B true (Nat.le_trans hB hn.size)
  unfold TermPost at k1
  simp only [if_true] at k1
  have HX := Lib.hid hnm
  clear hnm
  go_enter Tryz.func65, Tryz.ntmps65
  go_wp2_with fail
  refine k1.mono ?_
  rintro e w2 ⟨v2, rfl, hb2, ht2⟩
  clear k1
  have hB2 := below_trans hn hb2
  obtain ⟨T1, x1, rfl, _⟩ := id ht2.asks
  have HY := Lib.hid ht2
  clear ht2
  have k3 := numeral_any w2 B 0 (Nat.le_trans hB hB2.size) (by omega)
  unfold TermPost at k3
  go_wp2_with fail
  refine k3.mono ?_
  rintro e w3 ⟨v3, rfl, hb3, ht3⟩
  clear k3
  have hB3 := below_trans hB2 hb3
  obtain ⟨T3, x3, rfl, _⟩ := id ht3.asks
  have HZ := Lib.hid ht3
  clear ht3
  have k4 := bit_any w3 B false (Nat.le_trans hB hB3.size)
  unfold TermPost at k4
  simp only [Bool.false_eq_true, if_false] at k4
  go_wp2_with fail
  refine k4.mono ?_
  rintro e w4 ⟨v4, rfl, hb4, ht4⟩
  clear k4
  have hB4 := below_trans hB3 hb4
  have k5 := apply_any w4 B Tm.X _ _ _ (((HX.out.below hb2).below hb3).below hb4) ht4 (Nat.le_trans hB hB4.size) (by decide +kernel)
  clear ht4
  go_wp2_with fail
  refine k5.mono ?_
  rintro e w5 ⟨v5, rfl, hb5, ht5⟩
  clear k5
  have hB5 := below_trans hB4 hb5
  obtain ⟨T5, x5, rfl, _⟩ := id ht5.asks
  have hn6 := below_new w5 (.cells #[.iface T1 x1, .iface T3 x3, .iface T5 x5] 43)
  have k6 := applyAll3 (w5.alloc (.cells #[.iface T1 x1, .iface T3 x3, .iface T5 x5] 43)) B _ Tm.X .k (Tm.num 0) (.app Tm.X Tm.no) _ _ _ _ (0, 0) (heap_top w5 _) (((((HX.out.below hb2).below hb3).below hb4).below hb5).below hn6) ((((HY.out.below hb3).below hb4).below hb5).below hn6) (((HZ.out.below hb4).below hb5).below hn6) (ht5.below hn6) (Nat.le_trans hB (below_trans hB5 hn6).size) (by decide +kernel)
  unfold TermPost at k6
  clear ht5
  go_wp2_with fail
  refine k6.mono ?_
  rintro e w6 ⟨v6, rfl, hb6, ht6⟩
  clear k6
  have hB6 := below_trans (below_trans hB5 hn6) hb6
  have k7 := abstraction_any w6 B [120] _ v6 ht6 (Nat.le_trans hB hB6.size) (by decide +kernel)
  rw [show Tm.abs [120] (.app (.app (.app Tm.X .k) (Tm.num 0)) (.app Tm.X Tm.no)) = Tm.pred from rfl] at k7
  unfold TermPost at k7
  clear ht6
  go_wp2_with fail
  refine k7.mono ?_
  rintro e w7 ⟨v7, rfl, hb7, ht7⟩
  have HT := Lib.hid ht7
  clear ht7 k7
  go_wp2_with fail
  go_ret
  exact ⟨_, rfl, below_trans hB6 hb7, HT.out⟩

theorem data_i (w : World) (B : Nat) (hB : B ≤ w.heap.size) : Calls Tryz.prog 31 #[str [105]] w (DataPost w B (some Tm.I)) := by
  obtain ⟨os, hos⟩ : ∃ os : List Obj, os = [.cells #[str [120]] 100, .cells #[str [121]] 100, .cells #[str [122]] 100] := ⟨_, rfl⟩
  have hX : allocL w os = ((w.alloc (.cells #[str [120]] 100)).alloc (.cells #[str [121]] 100)).alloc (.cells #[str [122]] 100) := by rw [hos]; rfl
  have hA := allocL_below w os
  rw [hX] at hA
  clear hX hos
  have hc := identity_any (((w.alloc (.cells #[str [120]] 100)).alloc (.cells #[str [121]] 100)).alloc (.cells #[str [122]] 100)) B (Nat.le_trans hB hA.size)
  unfold TermPost at hc
  skip
  go_enter Tryz.func31, Tryz.ntmps31
  go_wp2_with fail
  refine hc.mono ?_
  rintro e w1 ⟨v1, rfl, hb1, ht1⟩
  have HT := Lib.hid ht1
  clear ht1 hc
  go_wp2_with fail
  go_ret2
  exact ⟨_, rfl, below_trans hA hb1, fun t he => by obtain rfl := Option.some.inj he; exact HT.out⟩

theorem data_true (w : World) (B : Nat) (hB : B ≤ w.heap.size) : Calls Tryz.prog 31 #[str [116, 114, 117, 101]] w (DataPost w B (some .k)) := by
  obtain ⟨os, hos⟩ : ∃ os : List Obj, os = [.cells #[str [120]] 100, .cells #[str [121]] 100, .cells #[str [122]] 100] := ⟨_, rfl⟩
  have hX : allocL w os = ((w.alloc (.cells #[str [120]] 100)).alloc (.cells #[str [121]] 100)).alloc (.cells #[str [122]] 100) := by rw [hos]; rfl
  have hA := allocL_below w os
  rw [hX] at hA
  clear hX hos
  have hc := bit_any (((w.alloc (.cells #[str [120]] 100)).alloc (.cells #[str [121]] 100)).alloc (.cells #[str [122]] 100)) B true (Nat.le_trans hB hA.size)
  unfold TermPost at hc
  simp only [if_true] at hc
  go_enter Tryz.func31, Tryz.ntmps31
  go_wp2_with fail
  refine hc.mono ?_
  rintro e w1 ⟨v1, rfl, hb1, ht1⟩
  have HT := Lib.hid ht1
  clear ht1 hc
  go_wp2_with fail
  go_ret2
  exact ⟨_, rfl, below_trans hA hb1, fun t he => by obtain rfl := Option.some.inj he; exact HT.out⟩

theorem data_false (w : World) (B : Nat) (hB : B ≤ w.heap.size) : Calls Tryz.prog 31 #[str [102, 97, 108, 115, 101]] w (DataPost w B (some Tm.no)) := by
  obtain ⟨os, hos⟩ : ∃ os : List Obj, os = [.cells #[str [120]] 100, .cells #[str [121]] 100, .cells #[str [122]] 100] := ⟨_, rfl⟩
  have hX : allocL w os = ((w.alloc (.cells #[str [120]] 100)).alloc (.cells #[str [121]] 100)).alloc (.cells #[str [122]] 100) := by rw [hos]; rfl
  have hA := allocL_below w os
  rw [hX] at hA
  clear hX hos
  have hc := bit_any (((w.alloc (.cells #[str [120]] 100)).alloc (.cells #[str [121]] 100)).alloc (.cells #[str [122]] 100)) B false (Nat.le_trans hB hA.size)
  unfold TermPost at hc
  simp only [Bool.false_eq_true, if_false] at hc
  go_enter Tryz.func31, Tryz.ntmps31
  go_wp2_with fail
  refine hc.mono ?_
  rintro e w1 ⟨v1, rfl, hb1, ht1⟩
  have HT := Lib.hid ht1
  clear ht1 hc
  go_wp2_with fail
  go_ret2
  exact ⟨_, rfl, below_trans hA hb1, fun t he => by obtain rfl := Option.some.inj he; exact HT.out⟩

theorem data_first (w : World) (B : Nat) (hB : B ≤ w.heap.size) : Calls Tryz.prog 31 #[str [102, 105, 114, 115, 116]] w (DataPost w B (some Tm.first)) := by
  obtain ⟨os, hos⟩ : ∃ os : List Obj, os = [.cells #[str [120]] 100, .cells #[str [121]] 100, .cells #[str [122]] 100] := ⟨_, rfl⟩
  have hX : allocL w os = ((w.alloc (.cells #[str [120]] 100)).alloc (.cells #[str [121]] 100)).alloc (.cells #[str [122]] 100) := by rw [hos]; rfl
  have hA := allocL_below w os
  rw [hX] at hA
  clear hX hos
  have hc := first_any (((w.alloc (.cells #[str [120]] 100)).alloc (.cells #[str [121]] 100)).alloc (.cells #[str [122]] 100)) B (Nat.le_trans hB hA.size)
  unfold TermPost at hc
  skip
  go_enter Tryz.func31, Tryz.ntmps31
  go_wp2_with fail
  refine hc.mono ?_
  rintro e w1 ⟨v1, rfl, hb1, ht1⟩
  have HT := Lib.hid ht1
  clear ht1 hc
  go_wp2_with fail
  go_ret2
  exact ⟨_, rfl, below_trans hA hb1, fun t he => by obtain rfl := Option.some.inj he; exact HT.out⟩

theorem data_second (w : World) (B : Nat) (hB : B ≤ w.heap.size) : Calls Tryz.prog 31 #[str [115, 101, 99, 111, 110, 100]] w (DataPost w B (some Tm.second)) := by
  obtain ⟨os, hos⟩ : ∃ os : List Obj, os = [.cells #[str [120]] 100, .cells #[str [121]] 100, .cells #[str [122]] 100] := ⟨_, rfl⟩
  have hX : allocL w os = ((w.alloc (.cells #[str [120]] 100)).alloc (.cells #[str [121]] 100)).alloc (.cells #[str [122]] 100) := by rw [hos]; rfl
  have hA := allocL_below w os
  rw [hX] at hA
  clear hX hos
  have hc := second_any (((w.alloc (.cells #[str [120]] 100)).alloc (.cells #[str [121]] 100)).alloc (.cells #[str [122]] 100)) B (Nat.le_trans hB hA.size)
  unfold TermPost at hc
  skip
  go_enter Tryz.func31, Tryz.ntmps31
  go_wp2_with fail
  refine hc.mono ?_
  rintro e w1 ⟨v1, rfl, hb1, ht1⟩
  have HT := Lib.hid ht1
  clear ht1 hc
  go_wp2_with fail
  go_ret2
  exact ⟨_, rfl, below_trans hA hb1, fun t he => by obtain rfl := Option.some.inj he; exact HT.out⟩

theorem data_zero (w : World) (B : Nat) (hB : B ≤ w.heap.size) : Calls Tryz.prog 31 #[str [122, 101, 114, 111]] w (DataPost w B (some Tm.first)) := by
  obtain ⟨os, hos⟩ : ∃ os : List Obj, os = [.cells #[str [120]] 100, .cells #[str [121]] 100, .cells #[str [122]] 100] := ⟨_, rfl⟩
  have hX : allocL w os = ((w.alloc (.cells #[str [120]] 100)).alloc (.cells #[str [121]] 100)).alloc (.cells #[str [122]] 100) := by rw [hos]; rfl
  have hA := allocL_below w os
  rw [hX] at hA
  clear hX hos
  have hc := zero_any (((w.alloc (.cells #[str [120]] 100)).alloc (.cells #[str [121]] 100)).alloc (.cells #[str [122]] 100)) B (Nat.le_trans hB hA.size)
  unfold TermPost at hc
  skip
  go_enter Tryz.func31, Tryz.ntmps31
  go_wp2_with fail
  refine hc.mono ?_
  rintro e w1 ⟨v1, rfl, hb1, ht1⟩
  have HT := Lib.hid ht1
  clear ht1 hc
  go_wp2_with fail
  go_ret2
  exact ⟨_, rfl, below_trans hA hb1, fun t he => by obtain rfl := Option.some.inj he; exact HT.out⟩

theorem data_succ (w : World) (B : Nat) (hB : B ≤ w.heap.size) : Calls Tryz.prog 31 #[str [115, 117, 99, 99]] w (DataPost w B (some Tm.succ)) := by
  obtain ⟨os, hos⟩ : ∃ os : List Obj, os = [.cells #[str [120]] 100, .cells #[str [121]] 100, .cells #[str [122]] 100] := ⟨_, rfl⟩
  have hX : allocL w os = ((w.alloc (.cells #[str [120]] 100)).alloc (.cells #[str [121]] 100)).alloc (.cells #[str [122]] 100) := by rw [hos]; rfl
  have hA := allocL_below w os
  rw [hX] at hA
  clear hX hos
  have hc := succ_any (((w.alloc (.cells #[str [120]] 100)).alloc (.cells #[str [121]] 100)).alloc (.cells #[str [122]] 100)) B (Nat.le_trans hB hA.size)
  unfold TermPost at hc
  skip
  go_enter Tryz.func31, Tryz.ntmps31
  go_wp2_with fail
  refine hc.mono ?_
  rintro e w1 ⟨v1, rfl, hb1, ht1⟩
  have HT := Lib.hid ht1
  clear ht1 hc
  go_wp2_with fail
  go_ret2
  exact ⟨_, rfl, below_trans hA hb1, fun t he => by obtain rfl := Option.some.inj he; exact HT.out⟩

theorem data_pred (w : World) (B : Nat) (hB : B ≤ w.heap.size) : Calls Tryz.prog 31 #[str [112, 114, 101, 100]] w (DataPost w B (some Tm.pred)) := by
  obtain ⟨os, hos⟩ : ∃ os : List Obj, os = [.cells #[str [120]] 100, .cells #[str [121]] 100, .cells #[str [122]] 100] := ⟨_, rfl⟩
  have hX : allocL w os = ((w.alloc (.cells #[str [120]] 100)).alloc (.cells #[str [121]] 100)).alloc (.cells #[str [122]] 100) := by rw [hos]; rfl
  have hA := allocL_below w os
  rw [hX] at hA
  clear hX hos
  have hc := pred_any (((w.alloc (.cells #[str [120]] 100)).alloc (.cells #[str [121]] 100)).alloc (.cells #[str [122]] 100)) B (Nat.le_trans hB hA.size)
  unfold TermPost at hc
  skip
  go_enter Tryz.func31, Tryz.ntmps31
  go_wp2_with fail
  refine hc.mono ?_
  rintro e w1 ⟨v1, rfl, hb1, ht1⟩
  have HT := Lib.hid ht1
  clear ht1 hc
  go_wp2_with fail
  go_ret2
  exact ⟨_, rfl, below_trans hA hb1, fun t he => by obtain rfl := Option.some.inj he; exact HT.out⟩

theorem data_fix (w : World) (B : Nat) (hB : B ≤ w.heap.size) : Calls Tryz.prog 31 #[str [102, 105, 120]] w (DataPost w B (some Tm.fix)) := by
  obtain ⟨os, hos⟩ : ∃ os : List Obj, os = [.cells #[str [120]] 100, .cells #[str [121]] 100, .cells #[str [122]] 100] := ⟨_, rfl⟩
  have hX : allocL w os = ((w.alloc (.cells #[str [120]] 100)).alloc (.cells #[str [121]] 100)).alloc (.cells #[str [122]] 100) := by rw [hos]; rfl
  have hA := allocL_below w os
  rw [hX] at hA
  clear hX hos
  have hc := fix_any (((w.alloc (.cells #[str [120]] 100)).alloc (.cells #[str [121]] 100)).alloc (.cells #[str [122]] 100)) B (Nat.le_trans hB hA.size)
  unfold TermPost at hc
  skip
  go_enter Tryz.func31, Tryz.ntmps31
  go_wp2_with fail
  refine hc.mono ?_
  rintro e w1 ⟨v1, rfl, hb1, ht1⟩
  have HT := Lib.hid ht1
  clear ht1 hc
  go_wp2_with fail
  go_ret2
  exact ⟨_, rfl, below_trans hA hb1, fun t he => by obtain rfl := Option.some.inj he; exact HT.out⟩

theorem data_pair (w : World) (B : Nat) (hB : B ≤ w.heap.size) : Calls Tryz.prog 31 #[str [112, 97, 105, 114]] w (DataPost w B (some Tm.pairC)) := by
  obtain ⟨os, hos⟩ : ∃ os : List Obj, os = [.cells #[str [120]] 100, .cells #[str [121]] 100, .cells #[str [122]] 100] := ⟨_, rfl⟩
  have hX : allocL w os = ((w.alloc (.cells #[str [120]] 100)).alloc (.cells #[str [121]] 100)).alloc (.cells #[str [122]] 100) := by rw [hos]; rfl
  have hA := allocL_below w os
  have h0 : (allocL w os).heap[w.heap.size]? = some (.cells #[str [120]] 100 (0, 0)) := by have := allocL_heap w os 0 (by rw [hos]; simp); simpa [hos] using this
  have h1 : (allocL w os).heap[w.heap.size + 1]? = some (.cells #[str [121]] 100 (0, 0)) := by have := allocL_heap w os 1 (by rw [hos]; simp); simpa [hos] using this
  have h2 : (allocL w os).heap[w.heap.size + 1 + 1]? = some (.cells #[str [122]] 100 (0, 0)) := by have := allocL_heap w os 2 (by rw [hos]; simp); simpa [hos] using this
  have hsz : (allocL w os).heap.size = w.heap.size + 1 + 1 + 1 := by rw [hX]; simp
  have D : DataPre w B (allocL w os) := ⟨hA, nm_val h0 hB, nm_val h1 (Nat.le_trans hB (Nat.le_succ _)), nm_val h2 (Nat.le_trans hB (by omega))⟩
  clear h0 h1 h2 hos
  obtain ⟨w2, hw2⟩ : ∃ w2, w2 = allocL w os := ⟨_, rfl⟩
  rw [← hw2] at D hsz hX hA
  obtain ⟨W3, hW3⟩ : ∃ W3, W3 = w2.alloc (.cells #[str [120], str [121], str [122]] 9) := ⟨_, rfl⟩
  have hn3 := below_new w2 (.cells #[str [120], str [121], str [122]] 9)
  have hn4 := below_new W3 (.cells #[.iface 96 (.pointer (some ⟨w.heap.size, 0, none⟩)), .iface 96 (.pointer (some ⟨w.heap.size + 1, 0, none⟩))] 43)
  rw [← hW3] at hn3
  have hcl : W3.heap[w2.heap.size]? = some (.cells #[str [120], str [121], str [122]] 9 (0, 0)) := by rw [hW3]; exact heap_top w2 _
  have hk := applyAll2 (W3.alloc (.cells #[.iface 96 (.pointer (some ⟨w.heap.size, 0, none⟩)), .iface 96 (.pointer (some ⟨w.heap.size + 1, 0, none⟩))] 43)) B _ Tm.Z Tm.X Tm.Y _ _ _ (0, 0) (heap_top W3 _) ((D.z.below hn3).below hn4) ((D.x.below hn3).below hn4) ((D.y.below hn3).below hn4) (Nat.le_trans hB (below_trans (below_trans D.below hn3) hn4).size) (by decide +kernel)
  unfold TermPost at hk
  have hsz3 : W3.heap.size = w.heap.size + 1 + 1 + 1 + 1 := by rw [hW3]; simp; omega
  rw [hsz3] at hk
  rw [hsz] at hcl
  have hW4 : W3 = (((w.alloc (.cells #[str [120]] 100)).alloc (.cells #[str [121]] 100)).alloc (.cells #[str [122]] 100)).alloc (.cells #[str [120], str [121], str [122]] 9) := by rw [hW3, hX]
  have HW3 := Lib.hid hW4
  have HCL := Lib.hid hcl
  have HN3 := Lib.hid hn3
  have HD := Lib.hid D.below
  rw [hW4] at hk
  have hn4' := hn4
  clear hW3 hW4 hcl hn3 hsz3 hsz hX hw2 D hn4
  have HN4 := Lib.hid hn4'
  clear hn4'
  go_enter Tryz.func31, Tryz.ntmps31
  go_wp2_with fail
  refine hk.mono ?_
  rintro e w5 ⟨v5, rfl, hb5, ht5⟩
  clear hk
  have hn34 : Below W3.heap.size W3 w5 := by
    refine below_trans HN4.out ?_
    rw [HW3.out]
    exact hb5
  have hB5 := below_trans (below_trans HD.out HN3.out) hn34
  have hbk := heap_later HCL.out hn34
  have hlt5 := (Array.getElem?_eq_some_iff.1 hbk).1
  have hk6 := absN_any w5 B [[120], [121], [122]] (.slice (some ⟨w.heap.size + 1 + 1 + 1, 0, none⟩) 3 3) _ v5 (Or.inr ⟨w.heap.size + 1 + 1 + 1, 0, 3, rfl, hlt5, fun j hj => by
    have hc := cell_of_heap (i := j) hbk
    match j, hj with
    | 0, _ => simpa using hc
    | 1, _ => simpa using hc
    | 2, _ => simpa using hc⟩) ht5 (Nat.le_trans hB hB5.size) (by decide +kernel) (by simp)
  rw [show absL [[120], [121], [122]].reverse (.app (.app Tm.Z Tm.X) Tm.Y) = some Tm.pairC by kernel_rfl] at hk6
  clear ht5 hbk
  go_wp2_with fail
  refine hk6.mono ?_
  rintro e w6 ⟨v6, rfl, hb6, ht6⟩
  have HT := Lib.hid (ht6 _ rfl)
  clear ht6 hk6
  go_wp2_with fail
  go_ret2
  exact ⟨_, rfl, below_trans hB5 hb6, fun t he => by obtain rfl := Option.some.inj he; exact HT.out⟩

theorem data_none (w : World) (B : Nat) (l : List UInt8) (_hB : B ≤ w.heap.size) (n0 : (l == [105]) = false) (n1 : (l == [116, 114, 117, 101]) = false) (n2 : (l == [102, 97, 108, 115, 101]) = false) (n3 : (l == [112, 97, 105, 114]) = false) (n4 : (l == [102, 105, 114, 115, 116]) = false) (n5 : (l == [122, 101, 114, 111]) = false) (n6 : (l == [115, 101, 99, 111, 110, 100]) = false) (n7 : (l == [115, 117, 99, 99]) = false) (n8 : (l == [112, 114, 101, 100]) = false) (n9 : (l == [102, 105, 120]) = false) : Calls Tryz.prog 31 #[str l] w (DataPost w B none) := by
  obtain ⟨os, hos⟩ : ∃ os : List Obj, os = [.cells #[str [120]] 100, .cells #[str [121]] 100, .cells #[str [122]] 100] := ⟨_, rfl⟩
  have hX : allocL w os = ((w.alloc (.cells #[str [120]] 100)).alloc (.cells #[str [121]] 100)).alloc (.cells #[str [122]] 100) := by rw [hos]; rfl
  have hA := allocL_below w os
  rw [hX] at hA
  clear hX hos
  go_enter Tryz.func31, Tryz.ntmps31
  go_wp2_with fail
  go_ret2
  exact ⟨_, rfl, hA, fun t he => by cases he⟩

theorem data_any (w : World) (B : Nat) (l : List UInt8) (hB : B ≤ w.heap.size) : Calls Tryz.prog 31 #[str l] w (DataPost w B (Tm.data l)) := by
  by_cases h0 : l = [105]
  · subst h0; exact data_i w B hB
  by_cases h1 : l = [116, 114, 117, 101]
  · subst h1; exact data_true w B hB
  by_cases h2 : l = [102, 97, 108, 115, 101]
  · subst h2; exact data_false w B hB
  by_cases h3 : l = [112, 97, 105, 114]
  · subst h3; exact data_pair w B hB
  by_cases h4 : l = [102, 105, 114, 115, 116]
  · subst h4; exact data_first w B hB
  by_cases h5 : l = [122, 101, 114, 111]
  · subst h5; exact data_zero w B hB
  by_cases h6 : l = [115, 101, 99, 111, 110, 100]
  · subst h6; exact data_second w B hB
  by_cases h7 : l = [115, 117, 99, 99]
  · subst h7; exact data_succ w B hB
  by_cases h8 : l = [112, 114, 101, 100]
  · subst h8; exact data_pred w B hB
  by_cases h9 : l = [102, 105, 120]
  · subst h9; exact data_fix w B hB
  rw [show Tm.data l = none by simp only [Tm.data, if_neg h0, if_neg h1, if_neg h2, if_neg h3, if_neg h4, if_neg h5, if_neg h6, if_neg h7, if_neg h8, if_neg h9]]
  exact data_none w B l hB (beq_eq_false_iff_ne.2 h0) (beq_eq_false_iff_ne.2 h1) (beq_eq_false_iff_ne.2 h2) (beq_eq_false_iff_ne.2 h3) (beq_eq_false_iff_ne.2 h4) (beq_eq_false_iff_ne.2 h5) (beq_eq_false_iff_ne.2 h6) (beq_eq_false_iff_ne.2 h7) (beq_eq_false_iff_ne.2 h8) (beq_eq_false_iff_ne.2 h9)

def pData (l : List UInt8) : Option (List UInt8) := (Tm.data l).map Tm.text

theorem impl_data (w : World) (l : List UInt8) : Calls Tryz.prog 10 #[str l] w (NumOne w (pData l)) := by
  have hcall := data_any w w.heap.size l (Nat.le_refl _)
  unfold DataPost at hcall
  cases hd : Tm.data l with
  | none =>
    rw [show pData l = none by simp [pData, hd]]
    rw [hd] at hcall
    clear hd
    go_enter Tryz.func10, Tryz.ntmps10
    go_wp2_with (go_at_call 31; refine hcall.mono ?_; rintro e w1 ⟨v1, rfl, hb1, hv1⟩; clear hv1)
    go_ret2
    exact ⟨rfl, hb1⟩
  | some t =>
    rw [show pData l = some t.text by simp [pData, hd]]
    rw [hd] at hcall
    obtain ⟨hg, hs⟩ := Tm.data_good hd
    have htl := Tm.text_le t hg
    clear hd
    go_enter Tryz.func10, Tryz.ntmps10
    go_wp2_with fail
    refine hcall.mono ?_
    rintro e w1 ⟨v1, rfl, hb1, hv1⟩
    have htx := textOf_any w1 _ t v1 (hv1 t rfl) hg (by omega)
    clear hv1 hcall
    go_wp2_with (go_at_call 32; refine htx.mono ?_; rintro e w4 ⟨rfl, hb4⟩)
    go_ret2
    exact ⟨rfl, below_trans hb1 hb4⟩
end Go.Proofs.YtjomocjlnjgkeaaGreat
