/-
  The model's exported functions TermNames, TermClosed.
-/
import Derived.Test.YtmkmladlpgfniaaSNames
import Derived.Test.YtmkmladlpgfniaaPkSRead
import Derived.Test.YtmkmladlpgfniaaPkImpl
import Derived.Laws.OwnMore
namespace Go.Proofs.Ytmkmladlpgfniaa
open Go.RowKit

set_option maxHeartbeats 1000000
set_option maxRecDepth 100000

def SNamesRes (w : World) (r : Option (List (List UInt8))) (e : Ending) (w' : World) : Prop :=
  ∃ sv, e = .returned (.tuple #[sv, .bool r.isSome]) ∧ After w w' ∧ w'.ownsRow w.heap.size 9 1 sv (r.getD []).length ((r.getD []).map str)

theorem own_empty (w : World) : (w.alloc (.cells #[] 9)).ownsRow w.heap.size 9 1 (.slice (some ⟨w.heap.size, 0, none⟩) 0 0) ([] : List (List UInt8)).length (([] : List (List UInt8)).map str) := by
  have := World.ownsRow_lit (base := w.heap.size) (e := 9) (size := 1) w #[] 0 (Nat.le_refl _) (by simp) (by simp)
  simpa using this

/-- The call of l1Names behind the reader. -/
theorem names_call (w1 : World) (t : Tm) (s1 : List UInt8) (ao1 : Option Addr) (n1 c1 : Nat) (h : ST w1 t (.agg #[str s1, .slice ao1 n1 c1])) (hg : t.good = true) (hs : t.size ≤ 3000) :
    Calls Try.prog 38 #[.agg #[str s1, .slice ao1 n1 c1], .slice (some ⟨w1.heap.size + 1, 0, none⟩) 0 0] ((w1.alloc (.cells #[str s1, .slice ao1 n1 c1] 46)).alloc (.cells #[] 9)) fun e w' =>
      ∃ sv, e = .returned sv ∧ After w1 w' ∧ w'.ownsRow w1.heap.size 9 1 sv (t.names []).length ((t.names []).map str) := by
  have hX := After.new w1 (.cells #[str s1, .slice ao1 n1 c1] 46)
  have hsz : (w1.alloc (.cells #[str s1, .slice ao1 n1 c1] 46)).heap.size = w1.heap.size + 1 := by simp
  have hown := own_empty (w1.alloc (.cells #[str s1, .slice ao1 n1 c1] 46))
  have hnames := ST.names (h.later hX) hg _ (After.new _ (.cells #[] 9)) _ [] hown (by simp; omega)
  rw [hsz] at hnames
  refine hnames.mono ?_
  rintro e w2 ⟨sv, he, ho, hgr, hor⟩
  refine ⟨sv, he, ?_, ownsRow_base ho (by omega)⟩
  exact (hX.alloc (.cells #[] 9)).grown hgr (by simp; omega) (fun k hk => by simp [Value.ownBlock] at hk; omega)

theorem spec_closed (w : World) (l : List UInt8) (hl : l.length ≤ 1000000000) :
    Calls Try.prog 15 #[str l] w fun e w' => e = .returned (.bool (Tm.pClosed l)) ∧ After w w' := by
  have hterm := s_term w l hl
  unfold STermPost at hterm
  unfold Tm.pClosed
  cases hp : Tm.parse l with
  | none =>
    rw [hp] at hterm
    go_enter Try.func15, Try.ntmps15
    go_wp2_with (go_at_call 34; refine hterm.mono ?_; rintro e w1 ⟨s1, ao1, n1, c1, rfl, hb1, ht1⟩; clear ht1)
    go_ret
    exact ⟨rfl, hb1.alloc _⟩
  | some t =>
    obtain ⟨hg, hf, hs, _, _⟩ := Tm.parse_facts hp
    rw [hp] at hterm
    clear hp
    obtain ⟨k, hk⟩ : ∃ k, k = (t.names []).length := ⟨_, rfl⟩
    have hfin : (t.names []).isEmpty = ((k : Int) == 0) := by
      rw [Bool.eq_iff_iff, beq_iff_eq, List.isEmpty_iff, ← List.length_eq_zero_iff]; omega
    have HK := Lib.hid hk
    simp only [hfin]
    clear hfin hk
    go_enter Try.func15, Try.ntmps15
    go_wp2_with fail
    refine hterm.mono ?_
    rintro e w1 ⟨s1, ao1, n1, c1, rfl, hb1, ht1⟩
    have hcall := names_call w1 t s1 ao1 n1 c1 (ht1 t rfl) hg hs
    clear ht1 hterm
    go_wp2_with (go_at_call 38; refine hcall.mono ?_; rintro e w2 ⟨sv, rfl, hb2, ho2⟩; rw [← HK.out] at ho2; obtain ⟨ao, ac, rfl⟩ := own_slice_len ho2; clear ho2)
    go_ret
    exact ⟨rfl, hb1.trans hb2⟩
end Go.Proofs.Ytmkmladlpgfniaa
