/-
  What the laws do with a list of texts of an argument: toStringS.
-/
import Derived.Test.YtjgemiojjhfnoacSFnAbs
import Derived.BigQuiet
import Derived.OwnWalk
import Derived.Laws.OwnMore
namespace Go.Proofs.Ytjgemiojjhfnoac
open Go.RowKit

set_option maxHeartbeats 1000000
set_option maxRecDepth 100000

def fillS (n : Nat) (k : Nat) (ns : List (List UInt8)) : List Value := (ns.take k).map str ++ List.replicate (n - k) (str [])

theorem fillS_len (n k : Nat) (ns : List (List UInt8)) (h : ns.length = n) (hk : k ≤ n) : (fillS n k ns).length = n := by
  simp [fillS, h]; omega

theorem fillS_at (n k : Nat) (ns : List (List UInt8)) (h : ns.length = n) (hk : k < n) : (fillS n k ns)[k]? = some (str []) := by
  have e : ((ns.take k).map str).length = k := by simp; omega
  rw [fillS, List.getElem?_append_right (by omega), e, Nat.sub_self, List.getElem?_replicate]
  simp; omega

theorem fillS_set (n k : Nat) (ns : List (List UInt8)) (h : ns.length = n) (hk : k < n) : (fillS n k ns).set k (str (ns[k]?.getD [])) = fillS n (k + 1) ns := by
  have e : ((ns.take k).map str).length = k := by simp; omega
  rw [fillS, List.set_append_right _ _ (by omega), e, Nat.sub_self, show n - k = (n - (k + 1)) + 1 by omega, List.replicate_succ, List.set_cons_zero, fillS]
  have hk' : k < ns.length := by omega
  rw [List.take_add_one, List.getElem?_eq_getElem hk', List.map_append, List.append_assoc]
  rfl

theorem made_fill (n : Nat) (ns : List (List UInt8)) : (madeCells (str []).cells (n * 1)).toList = fillS n 0 ns := by
  apply List.ext_getElem?
  intro i
  have e : ∀ x : Nat, (#[str []] : Array Value)[x % 1]! = str [] := fun x => by rw [Nat.mod_one]; rfl
  have e2 : (str []).cells = #[str []] := rfl
  have e3 : (#[str []] : Array Value).size = 1 := rfl
  simp only [madeCells, fillS, e2, e3, e, Array.toList_map, Array.toList_range, List.take_zero, List.map_nil, List.nil_append, Nat.sub_zero, Nat.mul_one]
  rw [List.getElem?_map, List.getElem?_replicate]
  by_cases h : i < n
  · rw [if_pos h, List.getElem?_eq_getElem (by simpa using h)]; rfl
  · rw [if_neg h, List.getElem?_eq_none (by simpa using h)]; rfl

theorem l_to_some (w : World) (b off cap : Nat) (ns : List (List UInt8)) (hn : ns.length ≤ 1048576) (hb : b < w.heap.size)
    (hc : ∀ j, j < ns.length → w.cell? ⟨b, off + j, none⟩ = some (str (ns[j]?.getD []))) :
    Calls Try.prog 11 #[.slice (some ⟨b, off, none⟩) ns.length cap] w fun e w' =>
      e = .returned (.slice (some ⟨w.heap.size, 0, none⟩) ns.length ns.length) ∧ w'.ownsRow w.heap.size 9 1 (.slice (some ⟨w.heap.size, 0, none⟩) ns.length ns.length) ns.length (ns.map str) ∧ w.grownBy w' none := by
  obtain ⟨n, hnn⟩ : ∃ n, n = ns.length := ⟨_, rfl⟩
  rw [← hnn] at hn hc ⊢
  have HN := Lib.hid hnn
  have HC := Lib.hid hc
  clear hnn hc
  have hi : ∃ i, (Try.prog).info? 9 = some i ∧ i.zero = some (str []) ∧ i.size = 1 ∧ i.bytes = 16 := ⟨_, rfl, rfl, rfl, rfl⟩
  obtain ⟨i0, hi, hz0, hz1, hz2⟩ := hi
  go_enter Try.func11, Try.ntmps11
  go_wp2_with (at_make; refine wpList_make_full _ rfl _ _ _ rfl w.heap.size 9 i0 (str []) 1 rfl hi hz0 hz1 .i64 .i64 _ _ n rfl rfl rfl rfl (by rw [hz2]; omega) (by unfold maxLen; omega) (Nat.le_refl _) ?_; intro w1 ho hg)
  rw [made_fill n ns] at ho
  have hstart : Hid (w1.ownsRow w.heap.size 9 1 (.slice (some ⟨w.heap.size, 0, none⟩) n n) n (fillS n 0 ns)) := ho
  obtain ⟨g, hgg⟩ : ∃ g, g = w.heap.size := ⟨_, rfl⟩
  rw [← hgg] at hstart hb
  have HG := Lib.hid hgg
  simp only [← hgg]
  clear ho hgg
  go_loopw [4] (fun i wr => ∃ k : Nat, i = .int .i64 k ∧ k ≤ n ∧ Hid (wr.ownsRow g 9 1 (.slice (some ⟨g, 0, none⟩) n n) n (fillS n k ns)) ∧ w.grownBy wr none) (fun i _ => n - (intOf i).toNat)
  case atStart => exact ⟨0, rfl, Nat.zero_le _, hstart, hg⟩
  case round =>
    obtain ⟨k, rfl, hk, hrow, hgr⟩ := hrel
    clear hstart hg
    by_cases hlt : k < n
    · have h1 : _ = some (str (ns[k]?.getD [])) := After.cell (⟨hgr.os, hgr.tape, hgr.output, hgr.size, fun q hq => hgr.block q hq (by simp)⟩ : After w wr) (HC.out k hlt)
      have h2 := (hrow.out.cellAt k (by omega)).trans (fillS_at n k ns HN.out.symm hlt)
      have h3 := hrow.out.frozenAt k
      have hlt' : (k : Int) < (n : Int) := by omega
      obtain ⟨z, hz⟩ : ∃ z, z = ns[k]?.getD [] := ⟨_, rfl⟩
      rw [← hz] at h1
      have HZ := Lib.hid hz
      clear hz
      have hbg : b ≠ g := by omega
      go_wp2_with fail
      go_roundw
      case rel =>
        refine ⟨k + 1, by go_num, by omega, ?_, ?_⟩
        · have h := (hrow.out.stored k (str z)).1
          rw [HZ.out, fillS_set n k ns HN.out.symm hlt, ← HZ.out] at h
          exact h
        · refine ⟨hgr.os, hgr.tape, hgr.output, by have h1 := hgr.size; simp [World.setCell]; omega, fun b' hb' hne => ?_⟩
          rw [Below.heap_setCell _ _ _ _ (fun e => absurd ((show b' = g from e).trans HG.out) (Nat.ne_of_lt hb'))]
          exact hgr.block b' hb' hne
      case measure => simp [intOf]; omega
    · obtain rfl : k = n := by omega
      have HR := Lib.hid hrow.out
      clear hrow
      go_wp2_with fail
      go_ret
      have h := HR.out
      rw [← HG.out]
      refine ⟨rfl, ?_, hgr⟩
      rw [fillS, Nat.sub_self, List.replicate_zero, List.append_nil, List.take_of_length_le (by rw [← HN.out]; exact Nat.le_refl _)] at h
      exact h

theorem l_to_none (w : World) (ao : Option Addr) (cap : Nat) :
    Calls Try.prog 11 #[.slice ao 0 cap] w fun e w' =>
      e = .returned (.slice (some ⟨w.heap.size, 0, none⟩) 0 0) ∧ w.grownBy w' none ∧ w.heap.size < w'.heap.size := by
  have hi : ∃ i, (Try.prog).info? 9 = some i ∧ i.zero = some (str []) ∧ i.size = 1 ∧ i.bytes = 16 := ⟨_, rfl, rfl, rfl, rfl⟩
  obtain ⟨i0, hi, hz0, hz1, hz2⟩ := hi
  go_enter Try.func11, Try.ntmps11
  go_wp2_with (at_make; refine wpList_make_full _ rfl _ _ _ rfl w.heap.size 9 i0 (str []) 1 rfl hi hz0 hz1 .i64 .i64 _ _ 0 rfl rfl rfl rfl (by rw [hz2]; omega) (by unfold maxLen; omega) (Nat.le_refl _) ?_; intro w1 ho hg)
  have hsz : w.heap.size < w1.heap.size := by
    rcases ho.2 with ⟨h, _⟩ | ⟨g, cp, cur, h, _, hh, _⟩
    · cases h
    · cases h
      exact (Array.getElem?_eq_some_iff.1 hh).1
  clear ho
  go_loop [4] (fun i => i = .int .i64 0) (fun _ => 0)
  case atStart => rfl
  case round =>
    obtain rfl := hrel
    go_wp2_with fail
    go_ret
    exact ⟨rfl, hg, hsz⟩
end Go.Proofs.Ytjgemiojjhfnoac
