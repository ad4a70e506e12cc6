/-
  PairParts of the model, and the law.
-/
import Derived.Test.YtjgemiojjhfnoacSPartsC
namespace Go.Proofs.Ytjgemiojjhfnoac
open Go.RowKit

set_option maxHeartbeats 1000000
set_option maxRecDepth 100000

def STwo (w : World) (r : Option (List UInt8 × List UInt8)) (e : Ending) (w' : World) : Prop :=
  e = .returned (.tuple #[str ((r.map Prod.fst).getD []), str ((r.map Prod.snd).getD []), .bool r.isSome]) ∧ After w w'

theorem spec_parts (w : World) (l : List UInt8) (hl : l.length ≤ 1000000000) : Calls Try.prog 18 #[str l] w (STwo w (pParts l)) := by
  have hterm := s_term w l hl
  unfold STermPost at hterm
  unfold pParts
  cases hp : Tm.parse l with
  | none =>
    rw [hp] at hterm
    go_enter Try.func18, Try.ntmps18
    go_wp2_with (go_at_call 24; refine hterm.mono ?_; rintro e w1 ⟨s1, ao1, n1, c1, rfl, hb1, ht1⟩; clear ht1)
    go_ret3
    exact ⟨rfl, After.alloc hb1 _⟩
  | some t =>
    obtain ⟨hg, hf, hs, _, _⟩ := Tm.parse_facts hp
    rw [hp] at hterm
    clear hp
    simp only
    have hparts := fun W v (h : ST W t v) => s_parts W t v h hg hs
    unfold SPartsPost at hparts
    cases hpt : t.parts with
    | none =>
      rw [hpt] at hparts
      clear hpt
      go_enter Try.func18, Try.ntmps18
      go_wp2_with fail
      refine hterm.mono ?_
      rintro e w1 ⟨s1, ao1, n1, c1, rfl, hb1, ht1⟩
      have hcall := hparts _ _ ((ht1 t rfl).later (After.new w1 (.cells #[str s1, .slice ao1 n1 c1] 41)))
      have hw1 := After.alloc hb1 (.cells #[str s1, .slice ao1 n1 c1] 41)
      clear ht1 hterm hparts
      go_wp2_with (go_at_call 44; refine hcall.mono ?_; rintro e w2 ⟨s2, ao2, n2, c2, s3, ao3, n3, c3, rfl, hb2, ht2⟩; clear ht2)
      go_ret3
      exact ⟨rfl, ((hw1.trans hb2).alloc _).alloc _⟩
    | some p =>
      obtain ⟨m, n⟩ := p
      obtain ⟨hgm, hgn, hzm, hzn⟩ := parts_good hpt hg
      have htm := Tm.text_le m hgm
      have htn := Tm.text_le n hgn
      rw [hpt] at hparts
      clear hpt
      go_enter Try.func18, Try.ntmps18
      go_wp2_with fail
      refine hterm.mono ?_
      rintro e w1 ⟨s1, ao1, n1, c1, rfl, hb1, ht1⟩
      have hcall := hparts _ _ ((ht1 t rfl).later (After.new w1 (.cells #[str s1, .slice ao1 n1 c1] 41)))
      have hw1 := After.alloc hb1 (.cells #[str s1, .slice ao1 n1 c1] 41)
      clear ht1 hterm hparts
      go_wp2_with fail
      refine hcall.mono ?_
      rintro e w2 ⟨s2, ao2, n2, c2, s3, ao3, n3, c3, rfl, hb2, ht2⟩
      obtain ⟨hm2, hn2⟩ := ht2 m n rfl
      obtain ⟨X, hX⟩ : ∃ X, X = (w2.alloc (.cells #[str s2, .slice ao2 n2 c2] 41)).alloc (.cells #[str s3, .slice ao3 n3 c3] 41) := ⟨_, rfl⟩
      have hA : After w2 X := by rw [hX]; exact (After.new w2 _).alloc _
      have hbox1 : X.heap[w2.heap.size]? = some (.cells #[str s2, .slice ao2 n2 c2] 41 (0, 0)) := by rw [hX]; exact heap_old2 _ _ _
      have hbox2 : X.heap[w2.heap.size + 1]? = some (.cells #[str s3, .slice ao3 n3 c3] 41 (0, 0)) := by rw [hX]; exact heap_new2 w2 _ _ _ rfl
      have k0 : ∀ W, After X W → W.cell? ⟨w2.heap.size, 0, none⟩ = some (str s2) := fun W hW => hW.cell (cell_of_heap hbox1)
      have k1 : ∀ W, After X W → W.cell? ⟨w2.heap.size, 1, none⟩ = some (.slice ao2 n2 c2) := fun W hW => hW.cell (cell_of_heap hbox1)
      have k2 : ∀ W, After X W → W.cell? ⟨w2.heap.size + 1, 0, none⟩ = some (str s3) := fun W hW => hW.cell (cell_of_heap hbox2)
      have k3 : ∀ W, After X W → W.cell? ⟨w2.heap.size + 1, 1, none⟩ = some (.slice ao3 n3 c3) := fun W hW => hW.cell (cell_of_heap hbox2)
      have t1 := fun W hW => ((hm2.later hA).later (W := W) hW).text hgm (by omega)
      have t2 := fun W hW => ((hn2.later hA).later (W := W) hW).text hgn (by omega)
      have hw2 := hw1.trans (hb2.trans hA)
      have hself := After.refl X
      have HW2 := Lib.hid hw2
      go_wp2_with fail
      rw [← hX]
      clear ht2 hcall hm2 hn2 hbox1 hbox2 hX hA hw2 hw1 hb2
      go_region_held3 (fun W' => After X W') (first | assumption | exact hself.drew | go_keep)
        (first
          | (go_at_call_of 29 ao2; refine (t1 _ (by first | assumption | exact hself.drew)).mono ?_; rintro e w3 ⟨rfl, hb3⟩; have hb3' := After.trans (by first | assumption | exact hself.drew) hb3)
          | (go_at_call_of 29 ao3; refine (t2 _ (by assumption)).mono ?_; rintro e w4 ⟨rfl, hb4⟩; have hb4' := After.trans (by assumption) hb4))
      all_goals
        go_wp2_with fail
        go_ret3
        exact ⟨rfl, HW2.out.trans hb4'⟩

theorem strsize (l : List UInt8) : (⟨l.toArray⟩ : ByteArray).size = l.length := by show l.toArray.size = _; simp

theorem law_parts (w : World) (l : List UInt8) :
    Calls Try.prog 6 #[str l] w fun e w' => e = .returned (.bool true) ∧ After w w' := by
  have hsz := strsize l
  by_cases hbig : (1048576 : Int) < (l.length : Int)
  · go_enter Try.func6, Try.ntmps6
    go_wp2_with fail
    go_ret
    exact ⟨rfl, After.refl _⟩
  · have hs := fun W => spec_parts W l (by omega)
    have hi := fun W => impl_parts W l (by omega)
    unfold STwo at hs
    unfold TwoRes at hi
    generalize ((pParts l).map Prod.fst).getD [] = x at *
    generalize ((pParts l).map Prod.snd).getD [] = y at *
    generalize (pParts l).isSome = b at *
    go_enter Try.func6, Try.ntmps6
    cases b
    all_goals
      go_wp2_with (first
        | (go_at_call 18; refine (hs _).mono ?_; rintro e w1 ⟨rfl, hb1⟩)
        | (go_at_call 19; refine (hi _).mono ?_; rintro e w2 ⟨rfl, hb2⟩))
      go_ret
      exact ⟨rfl, After.trans hb1 hb2⟩
end Go.Proofs.Ytjgemiojjhfnoac
