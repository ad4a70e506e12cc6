/-
  The walk of the law of Abstract: whatever the names and the text, the program and the model answer alike.
-/
import Derived.Test.YtjgemiojjhfnoacSz
namespace Go.Proofs.Ytjgemiojjhfnoac
open Go.RowKit

set_option maxHeartbeats 1000000
set_option maxRecDepth 100000

theorem spec_abs_many (w : World) (l : List UInt8) (hl : l.length ≤ 1000000000) (ao : Option Addr) (n cap : Nat) (hn : 8 < n) :
    Calls Try.prog 10 #[.slice ao n cap, str l] w (SAbsRes w none) := by
  have hterm := s_term w l hl
  unfold STermPost at hterm
  cases hp : Tm.parse l with
  | none =>
    rw [hp] at hterm
    clear hp
    go_enter Try.func10, Try.ntmps10
    go_wp2_with (go_at_call 24; refine hterm.mono ?_; rintro e w1 ⟨s1, ao1, n1, c1, rfl, hb1, ht1⟩; clear ht1)
    go_ret2
    exact ⟨rfl, After.alloc hb1 _⟩
  | some t =>
    rw [hp] at hterm
    clear hp
    go_enter Try.func10, Try.ntmps10
    go_wp2_with (go_at_call 24; refine hterm.mono ?_; rintro e w1 ⟨s1, ao1, n1, c1, rfl, hb1, ht1⟩; clear ht1)
    go_ret2
    exact ⟨rfl, After.alloc hb1 _⟩

/-- The slice value of an argument holds these texts. -/
def HoldS (W : World) (g n : Nat) (ns : List (List UInt8)) : Prop := g < W.heap.size ∧ ∀ j, j < n → W.cell? ⟨g, 0 + j, none⟩ = some (str (ns[j]?.getD []))

theorem HoldS.later {w W : World} {g n : Nat} {ns : List (List UInt8)} (h : HoldS w g n ns) (hA : After w W) : HoldS W g n ns :=
  ⟨Nat.lt_of_lt_of_le h.1 hA.size, fun j hj => hA.cell (h.2 j hj)⟩

theorem After.grew {w a b : World} {r : Option Nat} (h : After w a) (hg : a.grownBy b r) (hr : ∀ k, r = some k → w.heap.size ≤ k) : After w b := Below.grown h hg h.size hr

theorem l_to (w : World) (sv : Value) (ns : List (List UInt8)) (h : StrsV w sv ns) (hn : ns.length ≤ 1048576) :
    Calls Try.prog 11 #[sv] w fun e w' => ∃ g, e = .returned (.slice (some ⟨g, 0, none⟩) ns.length ns.length) ∧ HoldS w' g ns.length ns ∧ After w w' := by
  have none_case : ∀ ao cap, ns = [] → sv = .slice ao 0 cap → Calls Try.prog 11 #[sv] w fun e w' => ∃ g, e = .returned (.slice (some ⟨g, 0, none⟩) ns.length ns.length) ∧ HoldS w' g ns.length ns ∧ After w w' := by
    rintro ao cap rfl rfl
    refine (l_to_none w ao cap).mono ?_
    rintro e w' ⟨rfl, hg, hs⟩
    exact ⟨_, rfl, ⟨hs, fun j hj => absurd hj (Nat.not_lt_zero j)⟩, (After.refl w).grew hg (fun k hk => by cases hk)⟩
  rcases h with ⟨ao, cap, rfl, rfl⟩ | ⟨b, off, cap, rfl, hc⟩
  · exact none_case ao cap rfl rfl
  · by_cases h0 : ns = []
    · exact none_case _ cap h0 (by rw [h0]; rfl)
    · have hpos : 0 < ns.length := List.length_pos_iff.2 h0
      refine (l_to_some w b off cap ns hn (World.block_lt_of_cell? _ _ (hc 0 hpos)) hc).mono ?_
      rintro e w' ⟨rfl, ho, hg⟩
      refine ⟨_, rfl, ⟨?_, fun j hj => ?_⟩, (After.refl w).grew hg (fun k hk => by cases hk)⟩
      · exact World.block_lt_of_cell? _ _ ((ho.cellAt 0 (by omega)).trans (by rw [List.getElem?_map, List.getElem?_eq_getElem hpos]; rfl))
      · rw [Nat.zero_add]
        exact (ho.cellAt j (by omega)).trans (by rw [List.getElem?_map, List.getElem?_eq_getElem hj]; rfl)

theorem spec_abs (w : World) (g : Nat) (names : List (List UInt8)) (l : List UInt8) (hl : l.length ≤ 1000000000) (h1 : ∀ x ∈ names, x.length ≤ 1000000000) (h : HoldS w g names.length names) :
    Calls Try.prog 10 #[.slice (some ⟨g, 0, none⟩) names.length names.length, str l] w fun e w' => e = .returned (.tuple #[str ((pAbs names l).getD []), .bool (pAbs names l).isSome]) ∧ After w w' := by
  by_cases hn : names.length ≤ 8
  · exact spec_abs_some w g 0 _ names l hl hn h1 (Nat.le_refl _) h.2
  · rw [show pAbs names l = none by rw [pAbs, if_neg (fun h => hn h.1)]]
    exact spec_abs_many w l hl _ _ _ (by omega)

theorem impl_abs (w : World) (g : Nat) (names : List (List UInt8)) (l : List UInt8) (hl : l.length ≤ 1000000000) (h1 : ∀ x ∈ names, x.length ≤ 1000000000) (h : HoldS w g names.length names) :
    Calls Try.prog 12 #[.slice (some ⟨g, 0, none⟩) names.length names.length, str l] w fun e w' => e = .returned (.tuple #[str ((pAbs names l).getD []), .bool (pAbs names l).isSome]) ∧ After w w' := by
  by_cases hn : names.length ≤ 8
  · exact impl_abs_some w g 0 _ names l hl hn h1 (Nat.le_refl _) h.1 h.2
  · rw [show pAbs names l = none by rw [pAbs, if_neg (fun h => hn h.1)]]
    exact abs_many w l _ _ _ (by omega)

/-- The argument, read at every later world. -/
def ArgS (w : World) (sv : Value) (n : Nat) (Z : Nat → List UInt8) : Prop := (∃ ao cap, sv = .slice ao 0 cap ∧ n = 0) ∨ ∃ b off cap, sv = .slice (some ⟨b, off, none⟩) n cap ∧ ∀ j, j < n → w.cell? ⟨b, off + j, none⟩ = some (str (Z j))

theorem l_sz (w : World) (sv : Value) (n : Nat) (Z : Nat → List UInt8) (h : ArgS w sv n Z) (hn : n ≤ 9223372036854775807) (hz : ∀ j, j < n → (Z j).length ≤ 9223372036854775807) :
    Calls Try.prog 9 #[sv, .int .i64 1048576] w fun e w' =>
      (∃ r : Int, e = .returned (.int .i64 r) ∧ r ≤ 1048576 ∧ -9223372036854775808 ≤ r ∧ (0 ≤ r → n ≤ 1048576 ∧ ∀ j, j < n → (Z j).length ≤ 1048576)) ∧ w = w' := by
  rcases h with ⟨ao, cap, rfl, rfl⟩ | ⟨b, off, cap, rfl, hc⟩
  · refine (l_sz_none w ao cap).mono ?_
    rintro e w' ⟨rfl, rfl⟩
    exact ⟨⟨_, rfl, by omega, by omega, fun _ => ⟨by omega, fun j hj => absurd hj (Nat.not_lt_zero j)⟩⟩, rfl⟩
  · exact l_sz_some w b off cap n Z hn hz hc

theorem law_abs (w : World) (sv : Value) (n : Nat) (Z : Nat → List UInt8) (l : List UInt8) (h : ArgS w sv n Z) (hn : n ≤ 9223372036854775807) (hz : ∀ j, j < n → (Z j).length ≤ 9223372036854775807) :
    Calls Try.prog 3 #[sv, str l] w fun e w' => e = .returned (.bool true) ∧ After w w' := by
  have hsz := str_sizeZ l
  obtain ⟨ao, cap, hsv⟩ : ∃ ao cap, sv = .slice ao n cap := by
    rcases h with ⟨ao, cap, rfl, rfl⟩ | ⟨b, off, cap, rfl, _⟩
    · exact ⟨_, _, rfl⟩
    · exact ⟨_, _, rfl⟩
  have hZ := Lib.hid (l_sz w sv n Z h hn hz)
  have H := Lib.hid h
  have HSV := Lib.hid hsv
  clear h hz hsv
  by_cases hbig : (1048576 : Int) < (l.length : Int)
  · go_enter Try.func3, Try.ntmps3
    go_wp2_with fail
    go_ret
    exact ⟨rfl, After.refl _⟩
  · go_enter Try.func3, Try.ntmps3
    go_wp2_with fail
    refine (hZ.out).mono ?_
    rintro e w1 ⟨⟨r, rfl, hr1, hr2, hr⟩, rfl⟩
    have HR := Lib.hid hr
    clear hr
    by_cases hneg : r < 0
    · go_wp2_with fail
      go_ret
      exact ⟨rfl, After.refl _⟩
    · obtain ⟨hn2, hz2⟩ := HR.out (by omega)
      obtain ⟨ns, hns⟩ : ∃ ns, ns = (List.range n).map Z := ⟨_, rfl⟩
      have hlen : ns.length = n := by rw [hns]; simp
      have hget : ∀ j, j < n → ns[j]?.getD [] = Z j := fun j hj => by rw [hns]; simp [hj]
      have hto : ∀ W, After w W → Calls Try.prog 11 #[sv] W fun e w' => ∃ g, e = .returned (.slice (some ⟨g, 0, none⟩) n n) ∧ HoldS w' g n ns ∧ After W w' := fun W hW => by
        have := l_to W sv ns (by
          rcases H.out with ⟨ao, cap, rfl, h0⟩ | ⟨b, off, cap, rfl, hc⟩
          · exact Or.inl ⟨ao, cap, rfl, List.length_eq_zero_iff.1 (by omega)⟩
          · exact Or.inr ⟨b, off, cap, by rw [hlen], fun j hj => by rw [hget j (by omega)]; exact hW.cell (hc j (by omega))⟩) (by omega)
        rwa [hlen] at this
      have hx : ∀ x ∈ ns, x.length ≤ 1000000000 := fun x hx => by
        rw [hns] at hx
        obtain ⟨j, hj, rfl⟩ := List.mem_map.1 hx
        have := hz2 j (List.mem_range.1 hj)
        omega
      have hs : ∀ W g, HoldS W g n ns → Calls Try.prog 10 #[.slice (some ⟨g, 0, none⟩) n n, str l] W fun e w' => e = .returned (.tuple #[str ((pAbs ns l).getD []), .bool (pAbs ns l).isSome]) ∧ After W w' := fun W g hg => by
        have := spec_abs W g ns l (by omega) hx (by rw [hlen]; exact hg)
        rwa [hlen] at this
      have hi : ∀ W g, HoldS W g n ns → Calls Try.prog 12 #[.slice (some ⟨g, 0, none⟩) n n, str l] W fun e w' => e = .returned (.tuple #[str ((pAbs ns l).getD []), .bool (pAbs ns l).isSome]) ∧ After W w' := fun W g hg => by
        have := impl_abs W g ns l (by omega) hx (by rw [hlen]; exact hg)
        rwa [hlen] at this
      have he : ∀ W g g', HoldS W g n ns → HoldS W g' n ns → Calls Try.prog 13 #[.slice (some ⟨g, 0, none⟩) n n, .slice (some ⟨g', 0, none⟩) n n] W fun e w' => e = .returned (.bool true) ∧ After W w' := fun W g g' hg hg' =>
        l_eqv W g g' 0 0 n n n (fun j => ns[j]?.getD []) (by omega) hg.2 hg'.2
      have HTO := Lib.hid hto
      have HS := Lib.hid hs
      have HI := Lib.hid hi
      have HE := Lib.hid he
      clear hto hs hi he hx hget hlen hns hz2 HR hZ
      generalize (pAbs ns l).getD [] = x at HS HI
      generalize (pAbs ns l).isSome = b at HS HI
      go_wp2_with fail
      refine (HTO.out _ (After.refl _)).mono ?_
      rintro e w1 ⟨g1, rfl, hg1, hA1⟩
      have HG1 := Lib.hid hg1
      clear hg1
      go_wp2_with fail
      refine (HS.out _ _ HG1.out).mono ?_
      rintro e w2 ⟨rfl, hb2⟩
      have hA2 := hA1.trans hb2
      cases b
      all_goals
        go_wp2_with fail
        refine (HTO.out _ hA2).mono ?_
        rintro e w3 ⟨g3, rfl, hg3, hb3⟩
        have HG3 := Lib.hid hg3
        have hA3 := hA2.trans hb3
        clear hg3
        go_wp2_with fail
        refine (HI.out _ _ HG3.out).mono ?_
        rintro e w4 ⟨rfl, hb4⟩
        have HG4 := Lib.hid (HG3.out.later hb4)
        have hA4 := hA3.trans hb4
        go_wp2_with fail
        refine (HTO.out _ hA4).mono ?_
        rintro e w5 ⟨g5, rfl, hg5, hb5⟩
        have HG5 := Lib.hid hg5
        have HG6 := Lib.hid (HG4.out.later hb5)
        have hA5 := hA4.trans hb5
        clear hg5
        go_wp2_with fail
        refine (HE.out _ _ _ HG6.out HG5.out).mono ?_
        rintro e w6 ⟨rfl, hb6⟩
        go_wp2_with fail
        go_ret
        exact ⟨rfl, hA5.trans hb6⟩
end Go.Proofs.Ytjgemiojjhfnoac
