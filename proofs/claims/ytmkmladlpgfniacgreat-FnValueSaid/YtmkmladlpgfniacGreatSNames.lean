/-
  The model's list of names: l1Has, l1Names.
-/
import Derived.Test.YtmkmladlpgfniacGreatPkB
import Derived.Maps.AppendAt
namespace Go.Proofs.YtmkmladlpgfniacGreat
open Go.RowKit

set_option maxHeartbeats 1000000
set_option maxRecDepth 100000

/-- The slice value holds these texts. -/
def Strs (w : World) (sv : Value) (ns : List (List UInt8)) : Prop :=
  (sv = .slice none 0 0 ∧ ns = []) ∨ ∃ b off cap, sv = .slice (some ⟨b, off, none⟩) ns.length cap ∧ ∀ j (h : j < ns.length), w.cell? ⟨b, off + j, none⟩ = some (str ns[j])

theorem ownsRow_strs {w : World} {base : Nat} {T : TypeId} {sv : Value} {ns : List (List UInt8)} (h : w.ownsRow base T 1 sv ns.length (ns.map str)) : Strs w sv ns := by
  rcases h.2 with ⟨rfl, h0⟩ | ⟨g, cap, cur, rfl, hb, hh, hn, hc, hs, ht⟩
  · exact Or.inl ⟨rfl, List.length_eq_zero_iff.1 h0⟩
  · refine Or.inr ⟨g, 0, cap, rfl, fun j hj => ?_⟩
    have := h.cells (g := g) rfl j (str ns[j]) (by simp [hj])
    have hadd : (⟨g, 0, none⟩ : Addr).add j = ⟨g, 0 + j, none⟩ := by unfold Addr.add; split <;> simp_all
    rw [hadd] at this
    exact this

/-! ### growing -/

theorem grew_drew {a b : World} {r : Option Nat} (h : a.grownBy b r) : a.grownBy b.drew r := ⟨h.os, h.tape, h.output, h.size, h.block⟩
theorem grew_refl (a : World) (r : Option Nat) : a.grownBy a r := ⟨rfl, rfl, rfl, Nat.le_refl _, fun _ _ _ => rfl⟩
theorem grew_alloc {a b : World} {r : Option Nat} (h : a.grownBy b r) (o : Obj) : a.grownBy (b.alloc o) r :=
  ⟨h.os, h.tape, h.output, by simp; have := h.size; omega, fun k hk hr => by rw [Below.heap_alloc _ _ _ (Nat.lt_of_lt_of_le hk h.size)]; exact h.block k hk hr⟩
theorem grew_trans {a b c : World} {r r2 : Option Nat} (h1 : a.grownBy b r) (h2 : b.grownBy c r2) (hr : r2 = r ∨ ∃ k, r2 = some k ∧ a.heap.size ≤ k) : a.grownBy c r := by
  refine ⟨h2.os.trans h1.os, h2.tape.trans h1.tape, h2.output.trans h1.output, Nat.le_trans h1.size h2.size, fun k hk hne => ?_⟩
  rw [h2.block k (Nat.lt_of_lt_of_le hk h1.size) ?_]
  · exact h1.block k hk hne
  · rcases hr with rfl | ⟨k', rfl, hk'⟩
    · exact hne
    · intro e; injection e with e; omega

theorem grew_heap {a b : World} {r : Option Nat} (h : a.grownBy b r) {k : Nat} {o : Obj} (hk : a.heap[k]? = some o) (hr : some k ≠ r) : b.heap[k]? = some o := by
  rw [h.block k (Array.getElem?_eq_some_iff.1 hk).1 hr]; exact hk

def NamesP (mb : Nat) (w : World) (sv : Value) (ns : List (List UInt8)) (e : Ending) (w' : World) : Prop :=
  ∃ sv', e = .returned sv' ∧ w'.ownsRow mb 9 1 sv' ns.length (ns.map str) ∧ w.grownBy w' sv.ownBlock ∧ (sv'.ownBlock = sv.ownBlock ∨ ∃ k, sv'.ownBlock = some k ∧ w.heap.size ≤ k)

theorem name_ne {n : List UInt8} (h : Tm.nameOk n = true) : n.isEmpty = false ∧ (n == [107]) = false ∧ (n == [115]) = false := by
  refine ⟨?_, ?_, ?_⟩
  · cases n with
    | nil => simp [Tm.nameOk] at h
    | cons => rfl
  · rw [beq_eq_false_iff_ne]; rintro rfl; revert h; decide
  · rw [beq_eq_false_iff_ne]; rintro rfl; revert h; decide

theorem sinfo_string : (Tryz.prog.info? 9).map (fun i => (i.zero, i.size, i.bytes)) = some (some (.string ⟨#[]⟩), 1, 16) := by kernel_rfl

end Go.Proofs.YtmkmladlpgfniacGreat
