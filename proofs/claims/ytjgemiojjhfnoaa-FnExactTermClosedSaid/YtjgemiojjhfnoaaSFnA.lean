/-
  The model's exported functions: TermValid, TermSize, TermClosed.
-/
import Derived.Test.YtjgemiojjhfnoaaSTerm
namespace Go.Proofs.Ytjgemiojjhfnoaa
open Go.RowKit

set_option maxHeartbeats 1000000
set_option maxRecDepth 100000

theorem spec_valid (w : World) (l : List UInt8) (hl : l.length ≤ 1000000000) :
    Calls Try.prog 9 #[str l] w fun e w' => e = .returned (.bool (Tm.parse l).isSome) ∧ After w w' := by
  have hterm := s_term w l hl
  unfold STermPost at hterm
  generalize (Tm.parse l).isSome = b at *
  go_enter Try.func9, Try.ntmps9
  go_wp2_with (go_at_call 24; refine hterm.mono ?_; rintro e w1 ⟨s1, ao1, n1, c1, rfl, hb1, ht1⟩; clear ht1)
  go_ret
  exact ⟨rfl, After.alloc hb1 _⟩

theorem spec_size (w : World) (l : List UInt8) (hl : l.length ≤ 1000000000) :
    Calls Try.prog 11 #[str l] w fun e w' => e = .returned (.int .i64 (Tm.pSize l)) ∧ After w w' := by
  have hterm := s_term w l hl
  unfold STermPost at hterm
  unfold Tm.pSize
  cases hp : Tm.parse l with
  | none =>
    rw [hp] at hterm
    go_enter Try.func11, Try.ntmps11
    go_wp2_with (go_at_call 24; refine hterm.mono ?_; rintro e w1 ⟨s1, ao1, n1, c1, rfl, hb1, ht1⟩; clear ht1)
    go_ret
    exact ⟨rfl, After.alloc hb1 _⟩
  | some t =>
    obtain ⟨hg, hf, hs, _, _⟩ := Tm.parse_facts hp
    rw [hp] at hterm
    clear hp
    go_enter Try.func11, Try.ntmps11
    go_wp2_with (go_at_call 24; refine hterm.mono ?_; rintro e w1 ⟨s1, ao1, n1, c1, rfl, hb1, ht1⟩; have HT := Lib.hid ((ht1 t rfl).later (After.new w1 (.cells #[str s1, .slice ao1 n1 c1] 35))); clear ht1)
    refine (ST.size HT.out hg (by omega)).mono ?_
    rintro e w2 ⟨rfl, hb2⟩
    go_wp2_with fail
    go_ret
    exact ⟨rfl, (After.alloc hb1 _).trans hb2⟩
end Go.Proofs.Ytjgemiojjhfnoaa
