/-
  What the laws do with a list of texts of an argument: toStringS.
-/
import Derived.Test.YtfjohagdlaiapaaPkB
import Derived.BigQuiet
import Derived.OwnWalk
import Derived.Laws.OwnMore
namespace Go.Proofs.Ytfjohagdlaiapaa
open Go.RowKit

set_option maxHeartbeats 1000000
set_option maxRecDepth 100000

def fillS (n : Nat) (k : Nat) (ns : List (List UInt8)) : List Value := (ns.take k).map str ++ List.replicate (n - k) (str [])

theorem fillS_len (n k : Nat) (ns : List (List UInt8)) (h : ns.length = n) (hk : k ≤ n) : (fillS n k ns).length = n := by
  simp [fillS, h]; omega

theorem fillS_at (n k : Nat) (ns : List (List UInt8)) (h : ns.length = n) (hk : k < n) : (fillS n k ns)[k]? = some (str []) := by
  have e : ((ns.take k).map str).length = k := by simp; omega
  rw [fillS, List.getElem?_append_right (by omega), e, Nat.sub_self, List.getElem?_replicate]
  simp; omega

theorem fillS_set (n k : Nat) (ns : List (List UInt8)) (h : ns.length = n) (hk : k < n) : (fillS n k ns).set k (str (ns[k]?.getD [])) = fillS n (k + 1) ns := by
  have e : ((ns.take k).map str).length = k := by simp; omega
  rw [fillS, List.set_append_right _ _ (by omega), e, Nat.sub_self, show n - k = (n - (k + 1)) + 1 by omega, List.replicate_succ, List.set_cons_zero, fillS]
  have hk' : k < ns.length := by omega
  rw [List.take_add_one, List.getElem?_eq_getElem hk', List.map_append, List.append_assoc]
  rfl

theorem made_fill (n : Nat) (ns : List (List UInt8)) : (madeCells (str []).cells (n * 1)).toList = fillS n 0 ns := by
  apply List.ext_getElem?
  intro i
  have e : ∀ x : Nat, (#[str []] : Array Value)[x % 1]! = str [] := fun x => by rw [Nat.mod_one]; rfl
  have e2 : (str []).cells = #[str []] := rfl
  have e3 : (#[str []] : Array Value).size = 1 := rfl
  simp only [madeCells, fillS, e2, e3, e, Array.toList_map, Array.toList_range, List.take_zero, List.map_nil, List.nil_append, Nat.sub_zero, Nat.mul_one]
  rw [List.getElem?_map, List.getElem?_replicate]
  by_cases h : i < n
  · rw [if_pos h, List.getElem?_eq_getElem (by simpa using h)]; rfl
  · rw [if_neg h, List.getElem?_eq_none (by simpa using h)]; rfl

end Go.Proofs.Ytfjohagdlaiapaa
