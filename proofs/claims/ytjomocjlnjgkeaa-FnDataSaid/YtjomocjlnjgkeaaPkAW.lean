/-
  The model's exported functions TermNames, TermClosed.
-/
import Derived.Test.YtjomocjlnjgkeaaPkAJ
import Derived.Test.YtjomocjlnjgkeaaPkAK
import Derived.Test.YtjomocjlnjgkeaaPkAV
import Derived.Laws.OwnMore
import Derived.Test.YtjomocjlnjgkeaaPkAL
import Derived.BigQuiet
import Derived.Deep.QuietTactic
namespace Go.Proofs.Ytjomocjlnjgkeaa
open Go.RowKit

set_option maxHeartbeats 1000000
set_option maxRecDepth 100000

def SNamesRes (w : World) (r : Option (List (List UInt8))) (e : Ending) (w' : World) : Prop :=
  ∃ sv, e = .returned (.tuple #[sv, .bool r.isSome]) ∧ After w w' ∧ w'.ownsRow w.heap.size 9 1 sv (r.getD []).length ((r.getD []).map str)

theorem own_empty (w : World) : (w.alloc (.cells #[] 9)).ownsRow w.heap.size 9 1 (.slice (some ⟨w.heap.size, 0, none⟩) 0 0) ([] : List (List UInt8)).length (([] : List (List UInt8)).map str) := by
  have := World.ownsRow_lit (base := w.heap.size) (e := 9) (size := 1) w #[] 0 (Nat.le_refl _) (by simp) (by simp)
  simpa using this

/-- The call of l1Names behind the reader. -/
theorem names_call (w1 : World) (t : Tm) (s1 : List UInt8) (ao1 : Option Addr) (n1 c1 : Nat) (h : ST w1 t (.agg #[str s1, .slice ao1 n1 c1])) (hg : t.good = true) (hs : t.size ≤ 3000) :
    Calls Try.prog 30 #[.agg #[str s1, .slice ao1 n1 c1], .slice (some ⟨w1.heap.size + 1, 0, none⟩) 0 0] ((w1.alloc (.cells #[str s1, .slice ao1 n1 c1] 40)).alloc (.cells #[] 9)) fun e w' =>
      ∃ sv, e = .returned sv ∧ After w1 w' ∧ w'.ownsRow w1.heap.size 9 1 sv (t.names []).length ((t.names []).map str) := by
  have hX := After.new w1 (.cells #[str s1, .slice ao1 n1 c1] 40)
  have hsz : (w1.alloc (.cells #[str s1, .slice ao1 n1 c1] 40)).heap.size = w1.heap.size + 1 := by simp
  have hown := own_empty (w1.alloc (.cells #[str s1, .slice ao1 n1 c1] 40))
  have hnames := ST.names (h.later hX) hg _ (After.new _ (.cells #[] 9)) _ [] hown (by simp; omega)
  rw [hsz] at hnames
  refine hnames.mono ?_
  rintro e w2 ⟨sv, he, ho, hgr, hor⟩
  refine ⟨sv, he, ?_, ownsRow_base ho (by omega)⟩
  exact (hX.alloc (.cells #[] 9)).grown hgr (by simp; omega) (fun k hk => by simp [Value.ownBlock] at hk; omega)

theorem spec_closed (w : World) (l : List UInt8) (hl : l.length ≤ 1000000000) :
    Calls Try.prog 11 #[str l] w fun e w' => e = .returned (.bool (Tm.pClosed l)) ∧ After w w' := by
  have hterm := s_term w l hl
  unfold STermPost at hterm
  unfold Tm.pClosed
  cases hp : Tm.parse l with
  | none =>
    rw [hp] at hterm
    go_enter Try.func11, Try.ntmps11
    go_wp2_with (go_at_call 29; refine hterm.mono ?_; rintro e w1 ⟨s1, ao1, n1, c1, rfl, hb1, ht1⟩; clear ht1)
    go_ret
    exact ⟨rfl, hb1.alloc _⟩
  | some t =>
    obtain ⟨hg, hf, hs, _, _⟩ := Tm.parse_facts hp
    rw [hp] at hterm
    clear hp
    obtain ⟨k, hk⟩ : ∃ k, k = (t.names []).length := ⟨_, rfl⟩
    have hfin : (t.names []).isEmpty = ((k : Int) == 0) := by
      rw [Bool.eq_iff_iff, beq_iff_eq, List.isEmpty_iff, ← List.length_eq_zero_iff]; omega
    have HK := Lib.hid hk
    simp only [hfin]
    clear hfin hk
    go_enter Try.func11, Try.ntmps11
    go_wp2_with fail
    refine hterm.mono ?_
    rintro e w1 ⟨s1, ao1, n1, c1, rfl, hb1, ht1⟩
    have hcall := names_call w1 t s1 ao1 n1 c1 (ht1 t rfl) hg hs
    clear ht1 hterm
    go_wp2_with (go_at_call 30; refine hcall.mono ?_; rintro e w2 ⟨sv, rfl, hb2, ho2⟩; rw [← HK.out] at ho2; obtain ⟨ao, ac, rfl⟩ := own_slice_len ho2; clear ho2)
    go_ret
    exact ⟨rfl, hb1.trans hb2⟩
end Go.Proofs.Ytjomocjlnjgkeaa

namespace Go.Proofs.Ytjomocjlnjgkeaa
open Go.RowKit

set_option maxHeartbeats 1000000
set_option maxRecDepth 100000

/-- The digits of a number before what is there. -/
def dig10 : Nat → Nat → List UInt8 → List UInt8
  | 0, _, acc => acc
  | f + 1, k, acc => if k = 0 then acc else dig10 f (k / 10) (UInt8.ofNat (48 + k % 10) :: acc)

def markT (k : Nat) : List UInt8 := 109 :: dig10 k k []

theorem dig10_step (f k : Nat) (acc : List UInt8) (hk : 0 < k) (hf : k ≤ f) : dig10 f k acc = dig10 (f - 1) (k / 10) (UInt8.ofNat (48 + k % 10) :: acc) := by
  obtain ⟨g, rfl⟩ : ∃ g, f = g + 1 := ⟨f - 1, by omega⟩
  simp only [dig10, if_neg (show ¬ k = 0 by omega), Nat.add_sub_cancel]

/-! ### lists that are alike -/

/-! ### marks -/

def marks (k0 n : Nat) : List (List UInt8) := (List.range n).map fun i => markT (k0 + i)

theorem marks_len (k0 n : Nat) : (marks k0 n).length = n := by simp [marks]
theorem marks_at (k0 n j : Nat) (h : j < (marks k0 n).length) : (marks k0 n)[j] = markT (k0 + j) := by simp [marks]
theorem marks_succ (k0 n : Nat) : marks k0 (n + 1) = marks k0 n ++ [markT (k0 + n)] := by simp [marks, List.range_succ]

theorem marks_set (k0 j : Nat) (ns : List (List UInt8)) (hj : j < ns.length) : ((marks k0 j ++ ns.drop j).map str).set j (str (markT (k0 + j))) = (marks k0 (j + 1) ++ ns.drop (j + 1)).map str := by
  rw [List.drop_eq_getElem_cons hj, marks_succ, List.map_append, List.set_append_right _ _ (by simp [marks_len]), List.map_cons, List.length_map, marks_len, Nat.sub_self, List.set_cons_zero]
  simp

theorem grew_after {a b : World} (h : After a b) : a.grownBy b none := ⟨h.os, h.tape, h.output, h.size, fun k hk _ => h.block k hk⟩

end Go.Proofs.Ytjomocjlnjgkeaa
