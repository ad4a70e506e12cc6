/-
  The closed terms of chapter 2: identity, truth values, pairs, numerals; the program's applyAll, identityTerm, bitTerm.
-/
import Derived.Test.YtjgemiojjhfnoacWrite
namespace Go.Proofs.Ytjgemiojjhfnoac
open Go.RowKit

set_option maxHeartbeats 1000000
set_option maxRecDepth 100000

namespace Tm
def I : Tm := app (app s k) k
def no : Tm := app k I
def pair (m n : Tm) : Tm := app (app s (app (app s I) (app k m))) (app k n)
def num : Nat → Tm
  | 0 => I
  | n + 1 => pair no (num n)
theorem size_pair (m n : Tm) : (pair m n).size = m.size + n.size + 7 := by simp [pair, I, size]; omega
theorem size_num (n : Nat) : (num n).size = 11 * n + 3 := by
  induction n with
  | zero => rfl
  | succ n ih => simp only [num, size_pair, ih]; simp [no, I, size]; omega
theorem good_pair (m n : Tm) : (pair m n).good = (m.good && n.good) := by simp [pair, I, good]
theorem good_num (n : Nat) : (num n).good = true := by
  induction n with
  | zero => rfl
  | succ n ih => simp only [num, good_pair, ih]; rfl
end Tm

def TermPost (w : World) (B : Nat) (t : Tm) (e : Ending) (w' : World) : Prop := ∃ v, e = .returned v ∧ Below w.heap.size w w' ∧ TV w' B t v

theorem foldl_size (f : Tm) (us : List Tm) : (us.foldl Tm.app f).size = f.size + (us.map Tm.size).sum := by
  induction us generalizing f with
  | nil => simp
  | cons u us ih => rw [List.foldl_cons, ih]; simp [Tm.size]; omega

theorem sum_take (ns : List Nat) (k : Nat) : (ns.take k).sum ≤ ns.sum := by
  induction ns generalizing k with
  | nil => simp
  | cons n ns ih => cases k with
    | zero => simp
    | succ k => simp only [List.take_succ_cons, List.sum_cons]; have := ih k; omega

theorem applyAll_any (w : World) (B g : Nat) (f : Tm) (vf : Value) (us : List Tm) (vs : List Value) (fr : Nat × Nat) (hlen : vs.length = us.length) (hh : w.heap[g]? = some (.cells vs.toArray 48 fr))
    (hf : TV w B f vf) (hus : ∀ j (h : j < us.length), TV w B us[j] (vs[j]'(by omega))) (hB : B ≤ w.heap.size) (hz : f.size + (us.map Tm.size).sum ≤ 1000000000) (hn : us.length ≤ 1000000) :
    Calls Try.prog 69 #[vf, .slice (some ⟨g, 0, none⟩) us.length us.length] w (TermPost w B (us.foldl Tm.app f)) := by
  have hstart : ∃ k : Nat, Value.int .i64 0 = .int .i64 k ∧ k ≤ us.length ∧ Hid (TV w B ((us.take k).foldl Tm.app f) vf) ∧ Below w.heap.size w w := ⟨0, rfl, Nat.zero_le _, by show TV _ _ _ _; simpa using hf, Below.refl _ _⟩
  have HH := Lib.hid hh
  have HU := Lib.hid hus
  clear hf hus hh
  go_enter Try.func69, Try.ntmps69
  go_wp2_with fail
  go_loopw [0, 9] (fun v i wr => ∃ k : Nat, i = .int .i64 k ∧ k ≤ us.length ∧ Hid (TV wr B ((us.take k).foldl Tm.app f) v) ∧ Below w.heap.size w wr) (fun _ i _ => us.length - (intOf i).toNat)
  case atStart => exact hstart
  case round =>
    clear hstart
    obtain ⟨k, rfl, hk, ht, hb⟩ := hrel
    by_cases hlt : k < us.length
    · have hcell : ∀ W, Below wr.heap.size wr W → W.cell? ⟨g, k, none⟩ = some (vs[k]'(by omega)) := fun W hW => by
        have h1 : w.cell? ⟨g, k, none⟩ = some (vs[k]'(by omega)) := by
          rw [cell_of_heap HH.out]; simp [show k < vs.length by omega]
        exact cell_later' h1 _ (below_trans hb hW)
      have hu := (HU.out k hlt).below hb
      have hs1 := foldl_size f (us.take k)
      have hs2 : (us[k]).size + ((us.take k).map Tm.size).sum ≤ (us.map Tm.size).sum := by
        have h1 := sum_take (us.map Tm.size) (k + 1)
        rw [List.take_succ_eq_append_getElem (by simpa using hlt)] at h1
        simp only [List.sum_append, List.getElem_map, List.sum_cons, List.sum_nil, ← List.map_take] at h1
        omega
      have hcall := apply_any wr B _ _ _ _ ht.out hu (Nat.le_trans hB hb.size) (by omega)
      have hnext : (us.take (k + 1)).foldl Tm.app f = ((us.take k).foldl Tm.app f).app us[k] := by
        rw [List.take_succ_eq_append_getElem hlt, List.foldl_append]; rfl
      rw [← hnext] at hcall
      have c1 := hcell wr (Below.refl _ _)
      clear hcell hu hs1 hs2 hnext
      generalize vs[k]'(by omega) = vk at c1 hcall
      go_wp2_with fail
      refine hcall.mono ?_
      rintro e w1 ⟨v1, rfl, hb1, ht1⟩
      have HT1 := Lib.hid ht1
      clear ht1
      go_wp2_with fail
      go_roundw
      case rel => exact ⟨k + 1, by go_num, by omega, HT1, below_trans hb hb1⟩
      case measure => simp [intOf]; omega
    · obtain rfl : k = us.length := by omega
      have HT := Lib.hid ht.out
      rw [List.take_length] at HT
      clear ht
      go_wp2_with fail
      go_ret
      exact ⟨_, rfl, hb, HT.out⟩

/-- Several new blocks. -/
def allocL (w : World) : List Obj → World
  | [] => w
  | o :: os => allocL (w.alloc o) os

theorem allocL_below (w : World) (os : List Obj) : Below w.heap.size w (allocL w os) := by
  induction os generalizing w with
  | nil => exact Below.refl _ _
  | cons o os ih => exact below_trans (below_alloc (Below.refl _ _) o) (ih (w.alloc o))

theorem allocL_size (w : World) (os : List Obj) : (allocL w os).heap.size = w.heap.size + os.length := by
  induction os generalizing w with
  | nil => rfl
  | cons o os ih => simp only [allocL, ih, List.length_cons]; simp; omega

theorem allocL_heap (w : World) (os : List Obj) (i : Nat) (h : i < os.length) : (allocL w os).heap[w.heap.size + i]? = some os[i] := by
  induction os generalizing w i with
  | nil => simp at h
  | cons o os ih =>
    cases i with
    | zero =>
      have h1 : (w.alloc o).heap[w.heap.size]? = some o := by show (w.heap.push _)[_]? = _; simp
      exact heap_later h1 (allocL_below (w.alloc o) os)
    | succ i =>
      have := ih (w.alloc o) i (by simpa using h)
      rw [show (w.alloc o).heap.size + i = w.heap.size + (i + 1) by simp; omega] at this
      simpa only [allocL, List.getElem_cons_succ] using this

theorem identity_any (w : World) (B : Nat) (hB : B ≤ w.heap.size) : Calls Try.prog 68 #[] w (TermPost w B Tm.I) := by
  obtain ⟨os, hos⟩ : ∃ os : List Obj, os = [.cells #[] 126, .cells #[] 124, .cells #[] 124, .cells #[.iface 122 (.pointer (some ⟨w.heap.size + 1, 0, none⟩)), .iface 122 (.pointer (some ⟨w.heap.size + 1 + 1, 0, none⟩))] 48] := ⟨_, rfl⟩
  have hX : allocL w os = (((w.alloc (.cells #[] 126)).alloc (.cells #[] 124)).alloc (.cells #[] 124)).alloc (.cells #[.iface 122 (.pointer (some ⟨w.heap.size + 1, 0, none⟩)), .iface 122 (.pointer (some ⟨w.heap.size + 1 + 1, 0, none⟩))] 48) := by rw [hos]; rfl
  have hb := allocL_below w os
  have h0 : (allocL w os).heap[w.heap.size]? = some (.cells #[] 126 (0, 0)) := by have := allocL_heap w os 0 (by rw [hos]; simp); simpa [hos] using this
  have h1 : (allocL w os).heap[w.heap.size + 1]? = some (.cells #[] 124 (0, 0)) := by have := allocL_heap w os 1 (by rw [hos]; simp); simpa [hos] using this
  have h2 : (allocL w os).heap[w.heap.size + 1 + 1]? = some (.cells #[] 124 (0, 0)) := by have := allocL_heap w os 2 (by rw [hos]; simp); simpa [hos] using this
  have h3 : (allocL w os).heap[w.heap.size + 1 + 1 + 1]? = some (.cells ([.iface 122 (.pointer (some ⟨w.heap.size + 1, 0, none⟩)), .iface 122 (.pointer (some ⟨w.heap.size + 1 + 1, 0, none⟩))] : List Value).toArray 48 (0, 0)) := by have := allocL_heap w os 3 (by rw [hos]; simp); simpa [hos] using this
  have hcall := applyAll_any (allocL w os) B (w.heap.size + 1 + 1 + 1) .s (.iface 125 (.pointer (some ⟨w.heap.size, 0, none⟩))) [.k, .k] [.iface 122 (.pointer (some ⟨w.heap.size + 1, 0, none⟩)), .iface 122 (.pointer (some ⟨w.heap.size + 1 + 1, 0, none⟩))] (0, 0) rfl h3
    ⟨_, _, rfl, hB, h0⟩ (fun j hj => by
      match j, hj with
      | 0, _ => exact ⟨_, _, rfl, by omega, h1⟩
      | 1, _ => exact ⟨_, _, rfl, by omega, h2⟩) (Nat.le_trans hB hb.size) (by decide) (by decide)
  unfold TermPost at hcall
  rw [hX] at hcall hb
  clear h0 h1 h2 h3 hX hos
  go_enter Try.func68, Try.ntmps68
  go_wp2_with fail
  refine hcall.mono ?_
  rintro e w1 ⟨v1, rfl, hb1, ht1⟩
  have HT := Lib.hid ht1
  clear ht1 hcall
  go_wp2_with fail
  go_ret
  exact ⟨_, rfl, below_trans hb hb1, HT.out⟩

theorem bit_any (w : World) (B : Nat) (b : Bool) (hB : B ≤ w.heap.size) : Calls Try.prog 67 #[.bool b] w (TermPost w B (if b then .k else Tm.no)) := by
  have hk : (w.alloc (.cells #[] 124)).heap[w.heap.size]? = some (.cells #[] 124 (0, 0)) := by show (w.heap.push _)[_]? = _; simp
  have hA : Below w.heap.size w (w.alloc (.cells #[] 124)) := below_alloc (Below.refl _ _) _
  have hI := identity_any (w.alloc (.cells #[] 124)) B (Nat.le_trans hB hA.size)
  unfold TermPost at hI
  have HK := Lib.hid hk
  clear hk
  cases b
  · simp only [Bool.false_eq_true, if_false]
    go_enter Try.func67, Try.ntmps67
    go_wp2_with fail
    refine hI.mono ?_
    rintro e w1 ⟨v1, rfl, hb1, ht1⟩
    have hcall := apply_any w1 B .k Tm.I (.iface 122 (.pointer (some ⟨w.heap.size, 0, none⟩))) v1 (TV.below (w := w.alloc (.cells #[] 124)) ⟨_, _, rfl, hB, HK.out⟩ hb1) ht1 (Nat.le_trans hB (Nat.le_trans hA.size hb1.size)) (by decide)
    clear ht1 hI
    go_wp2_with fail
    refine hcall.mono ?_
    rintro e w2 ⟨v2, rfl, hb2, ht2⟩
    have HT := Lib.hid ht2
    clear ht2 hcall
    go_wp2_with fail
    go_ret
    exact ⟨_, rfl, below_trans (below_trans hA hb1) hb2, HT.out⟩
  · simp only [if_true]
    go_enter Try.func67, Try.ntmps67
    go_wp2_with fail
    go_ret
    exact ⟨_, rfl, hA, _, _, rfl, hB, HK.out⟩
end Go.Proofs.Ytjgemiojjhfnoac
