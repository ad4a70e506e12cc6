/-
  The model's l1App of any list of trees.
-/
import Derived.Test.YtjfdindlfakmcaaPkR
import Derived.Test.YtjfdindlfakmcaaApp
import Derived.Test.YtjfdindlfakmcaaFR
import Derived.Test.YtjfdindlfakmcaaGrow
namespace Go.Proofs.Ytjfdindlfakmcaa
open Go.RowKit

set_option maxHeartbeats 2000000
set_option maxRecDepth 100000

/-- A row of trees. -/
def ArgsST (w : World) (sv : Value) (us : List Tm) : Prop :=
  (us = [] ∧ ∃ ao cap, sv = .slice ao 0 cap) ∨ ∃ g o cap, sv = .slice (some ⟨g, o, none⟩) us.length cap ∧ g < w.heap.size ∧ ∀ j (h : j < us.length), ∃ s ao n c, w.cell? ⟨g, o + j * 2, none⟩ = some (str s) ∧ w.cell? ⟨g, o + j * 2 + 1, none⟩ = some (.slice ao n c) ∧ ST w us[j] (.agg #[str s, .slice ao n c])

theorem ArgsST.after {w W : World} {sv : Value} {us : List Tm} (h : ArgsST w sv us) (ha : After w W) : ArgsST W sv us := by
  rcases h with h | ⟨g, o, cap, hv, hg, hc⟩
  · exact Or.inl h
  · refine Or.inr ⟨g, o, cap, hv, Nat.lt_of_lt_of_le hg ha.size, fun j hj => ?_⟩
    obtain ⟨s, ao, n, c, h1, h2, h3⟩ := hc j hj
    exact ⟨s, ao, n, c, ha.cell h1, ha.cell h2, h3.later ha⟩
theorem ArgsST.form {w : World} {sv : Value} {us : List Tm} (h : ArgsST w sv us) : ∃ ao cap, sv = .slice ao us.length cap := by
  rcases h with ⟨rfl, ao, cap, rfl⟩ | ⟨g, o, cap, rfl, _⟩
  · exact ⟨_, _, rfl⟩
  · exact ⟨_, _, rfl⟩
theorem ArgsST.at {w : World} {sv : Value} {us : List Tm} (h : ArgsST w sv us) (j : Nat) (hj : j < us.length) : ∃ g o cap s ao n c, sv = .slice (some ⟨g, o, none⟩) us.length cap ∧ g < w.heap.size ∧ w.cell? ⟨g, o + j * 2, none⟩ = some (str s) ∧ w.cell? ⟨g, o + j * 2 + 1, none⟩ = some (.slice ao n c) ∧ ST w us[j] (.agg #[str s, .slice ao n c]) := by
  rcases h with ⟨h, _⟩ | ⟨g, o, cap, hv, hg, hc⟩
  · rw [h] at hj; simp at hj
  · obtain ⟨s, ao, n, c, h1, h2, h3⟩ := hc j hj
    exact ⟨g, o, cap, s, ao, n, c, hv, hg, h1, h2, h3⟩

theorem appL_snoc (f : Tm) (us : List Tm) (u : Tm) : FT.appL f (us ++ [u]) = .app (FT.appL f us) u := by simp [FT.appL, List.foldl_append]

/-- The application of a term to a list of terms. -/
theorem s_appL (w : World) (f : Tm) (us : List Tm) (s0 : List UInt8) (a0 : Option Addr) (n0 c0 : Nat) (sv : Value) (hf : ST w f (.agg #[str s0, .slice a0 n0 c0])) (hu : ArgsST w sv us) (hn : us.length ≤ 1000) :
    Calls Try.prog 18 #[.agg #[str s0, .slice a0 n0 c0], sv] w (TreePost w (FT.appL f us)) := by
  obtain ⟨ao, cap, rfl⟩ := hu.form
  obtain ⟨N, hN⟩ : ∃ N, N = us.length := ⟨_, rfl⟩
  rw [← hN] at hn ⊢
  obtain ⟨W1, hW1⟩ : ∃ W1, W1 = (w.alloc (.cells #[str s0, .slice a0 n0 c0] 49)).alloc (.cells #[.string ⟨#[]⟩, .slice none 0 0] 49) := ⟨_, rfl⟩
  have a1 : After w W1 := by rw [hW1]; exact (After.new _ _).alloc _
  have hq : W1.heap[w.heap.size]? = some (.cells #[str s0, .slice a0 n0 c0] 49 (0, 0)) := by rw [hW1]; exact heap_old2 _ _ _
  have hr : W1.heap[w.heap.size + 1]? = some (.cells #[.string ⟨#[]⟩, .slice none 0 0] 49 (0, 0)) := by rw [hW1]; exact heap_new2 w _ _ _ rfl
  have HN := Lib.hid hN
  have HW1 := Lib.hid hW1
  have HU := Lib.hid hu
  have HA1 := Lib.hid a1
  have HQ := Lib.hid hq
  have HR := Lib.hid hr
  have HF := Lib.hid (hf.later a1)
  obtain ⟨R, hR⟩ : ∃ R, R = FT.appL f us := ⟨_, rfl⟩
  rw [← hR]
  have HRR := Lib.hid hR
  clear hN hW1 hu hq hr hf hR a1
  go_enter Try.func18, Try.ntmps18
  go_wp2_with fail
  rw [← HW1.out]
  go_loopw [5] (fun i wr => ∃ (k : Nat) (s : List UInt8) (b : Option Addr) (n c : Nat), i = .int .i64 (k : Nat) ∧ k ≤ N ∧ Hid (wr.heap[w.heap.size]? = some (.cells #[str s, .slice b n c] 49 (0, 0))) ∧ Hid (ST wr (FT.appL f (us.take k)) (.agg #[str s, .slice b n c])) ∧ Hid (W1.grownBy wr (some w.heap.size))) (fun i _ => N - (intOf i).toNat)
  case atStart => exact ⟨0, s0, a0, n0, c0, rfl, Nat.zero_le _, HQ.out, HF.out, World.grownBy.refl _ _⟩
  case round =>
    obtain ⟨k, s, b, n, c, rfl, hk, HB, HT, HG⟩ := hrel
    have b0 : wr.cell? ⟨w.heap.size, 0, none⟩ = some (str s) := cell_of_heap (i := 0) HB.out
    have b1 : wr.cell? ⟨w.heap.size, 1, none⟩ = some (.slice b n c) := cell_of_heap (i := 1) HB.out
    have f0 : ∀ i, wr.frozen? ⟨w.heap.size, i, none⟩ = false := fun i => by have := HB.out; simp [World.frozen?, this]
    have hres : wr.heap[w.heap.size + 1]? = some (.cells #[.string ⟨#[]⟩, .slice none 0 0] 49 (0, 0)) := by
      rw [HG.out.block (w.heap.size + 1) (Array.getElem?_eq_some_iff.1 HR.out).1 (fun e => by injection e with e; omega)]
      exact HR.out
    have r0 : wr.cell? ⟨w.heap.size + 1, 0, none⟩ = some (.string ⟨#[]⟩) := cell_of_heap (i := 0) hres
    have r1 : wr.cell? ⟨w.heap.size + 1, 1, none⟩ = some (.slice none 0 0) := cell_of_heap (i := 1) hres
    have f1 : ∀ i, wr.frozen? ⟨w.heap.size + 1, i, none⟩ = false := fun i => by simp [World.frozen?, hres]
    have HRES := Lib.hid hres
    clear hres
    by_cases hlt : k < N
    · have hkl : k < us.length := by rw [← HN.out]; exact hlt
      obtain ⟨g, o, cap', s1, ao1, n1, c1, hsv, hg, h1, h2, h3⟩ := HU.out.at k hkl
      injection hsv with e1 e2 e3
      subst e1
      clear e2 e3
      have hAw : After w wr := after_own HA1.out (Nat.le_refl _) HG.out
      have x1 := hAw.cell h1
      have x2 := hAw.cell h2
      have HX := Lib.hid (h3.later hAw)
      have hgq : g ≠ w.heap.size := by omega
      have hltI : (k : Int) < (N : Int) := by omega
      have hqw : w.heap.size < wr.heap.size := (Array.getElem?_eq_some_iff.1 HB.out).1
      have hnext : FT.appL f (us.take (k + 1)) = .app (FT.appL f (us.take k)) us[k] := by rw [List.take_succ_eq_append_getElem hkl, appL_snoc]
      have HNX := Lib.hid hnext
      clear h1 h2 h3 hnext
      go_wp2_with fail
      go_region
      all_goals
        go_wp2_with fail
        go_roundw
        case measure => simp [intOf]; omega
        case rel =>
          have hX : ((wr.setCell ⟨w.heap.size, 0, none⟩ (.string ⟨#[]⟩)).setCell ⟨w.heap.size, 1, none⟩ (.slice (some ⟨wr.heap.size, 0, none⟩) 2 2)).heap[w.heap.size]? = some (.cells #[str [], .slice (some ⟨wr.heap.size, 0, none⟩) 2 2] 49 (0, 0)) := by
            have := HB.out
            simp [World.setCell, Array.getElem?_modify, this]
          have hXs : ((wr.setCell ⟨w.heap.size, 0, none⟩ (.string ⟨#[]⟩)).setCell ⟨w.heap.size, 1, none⟩ (.slice (some ⟨wr.heap.size, 0, none⟩) 2 2)).heap.size = wr.heap.size := by simp [World.setCell]
          have hT2 := HT.out.sets2 HB.out (i := 0) (j := 1) (u := .string ⟨#[]⟩) (u' := .slice (some ⟨wr.heap.size, 0, none⟩) 2 2)
          have hX2 := HX.out.sets2 HB.out (i := 0) (j := 1) (u := .string ⟨#[]⟩) (u' := .slice (some ⟨wr.heap.size, 0, none⟩) 2 2)
          have hGX : W1.grownBy ((wr.setCell ⟨w.heap.size, 0, none⟩ (.string ⟨#[]⟩)).setCell ⟨w.heap.size, 1, none⟩ (.slice (some ⟨wr.heap.size, 0, none⟩) 2 2)) (some w.heap.size) := grown_trans (grown_trans HG.out (grown_setx _ _ _ _)) (grown_setx _ _ _ _)
          generalize (wr.setCell ⟨w.heap.size, 0, none⟩ (.string ⟨#[]⟩)).setCell ⟨w.heap.size, 1, none⟩ (.slice (some ⟨wr.heap.size, 0, none⟩) 2 2) = X at *
          have hn4 := heap_new' X (.cells #[str s, .slice b n c, str s1, .slice ao1 n1 c1] 49)
          rw [hXs] at hn4
          have ha4 := After.new X (.cells #[str s, .slice b n c, str s1, .slice ao1 n1 c1] 49)
          refine ⟨k + 1, [], some ⟨wr.heap.size, 0, none⟩, 2, 2, by go_num, by omega, ha4.heap hX, ?_, grown_trans hGX (after_grown _ (After.drew ha4))⟩
          rw [HNX.out]
          exact ⟨wr.heap.size, 2, (0, 0), _, _, _, _, rfl, hn4, hT2.later (After.drew ha4), hX2.later (After.drew ha4)⟩
    · obtain rfl : k = N := by omega
      have HF' := Lib.hid (show FT.appL f (us.take k) = R by rw [HRR.out, HN.out, List.take_length])
      have z0 := after_own HA1.out (Nat.le_refl _) HG.out
      go_wp2_with fail
      refine bodyPost_ret (v := .agg #[str s, .slice b n c]) (by have := HRES.out; simp [results, Try.results18, go_sem, World.setCell, World.cell?, Array.getElem?_modify, this]) rfl
        ⟨s, b, n, c, rfl, Below.setCell (p := ⟨w.heap.size + 1, 1, none⟩) (Below.setCell (p := ⟨w.heap.size + 1, 0, none⟩) z0 (Nat.le_succ _) _) (Nat.le_succ _) _, ?_⟩
      have h := HT.out
      rw [HF'.out] at h
      exact h.sets2 HRES.out

/-- A row of values that look like trees. -/
def RawRow (w : World) (sv : Value) (n : Nat) : Prop := ∃ g o cap, sv = .slice (some ⟨g, o, none⟩) n cap ∧ g < w.heap.size ∧ ∀ j, j < n → ∃ s ao m c, w.cell? ⟨g, o + j * 2, none⟩ = some (str s) ∧ w.cell? ⟨g, o + j * 2 + 1, none⟩ = some (.slice ao m c)
theorem RawRow.after {w W : World} {sv : Value} {n : Nat} (h : RawRow w sv n) (ha : After w W) : RawRow W sv n := by
  obtain ⟨g, o, cap, hv, hg, hc⟩ := h
  refine ⟨g, o, cap, hv, Nat.lt_of_lt_of_le hg ha.size, fun j hj => ?_⟩
  obtain ⟨s, ao, n, c, h1, h2⟩ := hc j hj
  exact ⟨s, ao, n, c, ha.cell h1, ha.cell h2⟩

/-- An application of what only looks like trees. -/
theorem s_appR (w : World) (s0 : List UInt8) (a0 : Option Addr) (n0 c0 N : Nat) (sv : Value) (hu : RawRow w sv N) (hn : N ≤ 1000) :
    Calls Try.prog 18 #[.agg #[str s0, .slice a0 n0 c0], sv] w fun e w' => ∃ s ao n c, e = .returned (.agg #[str s, .slice ao n c]) ∧ After w w' := by
  obtain ⟨g, o, cap, rfl, hg, hc⟩ := hu
  obtain ⟨W1, hW1⟩ : ∃ W1, W1 = (w.alloc (.cells #[str s0, .slice a0 n0 c0] 49)).alloc (.cells #[.string ⟨#[]⟩, .slice none 0 0] 49) := ⟨_, rfl⟩
  have a1 : After w W1 := by rw [hW1]; exact (After.new _ _).alloc _
  have hq : W1.heap[w.heap.size]? = some (.cells #[str s0, .slice a0 n0 c0] 49 (0, 0)) := by rw [hW1]; exact heap_old2 _ _ _
  have hr : W1.heap[w.heap.size + 1]? = some (.cells #[.string ⟨#[]⟩, .slice none 0 0] 49 (0, 0)) := by rw [hW1]; exact heap_new2 w _ _ _ rfl
  have HW1 := Lib.hid hW1
  have HU := Lib.hid hc
  have HA1 := Lib.hid a1
  have HQ := Lib.hid hq
  have HR := Lib.hid hr
  clear hW1 hc hq hr a1
  go_enter Try.func18, Try.ntmps18
  go_wp2_with fail
  rw [← HW1.out]
  go_loopw [5] (fun i wr => ∃ (k : Nat) (s : List UInt8) (b : Option Addr) (n c : Nat), i = .int .i64 (k : Nat) ∧ k ≤ N ∧ Hid (wr.heap[w.heap.size]? = some (.cells #[str s, .slice b n c] 49 (0, 0))) ∧ Hid (W1.grownBy wr (some w.heap.size))) (fun i _ => N - (intOf i).toNat)
  case atStart => exact ⟨0, s0, a0, n0, c0, rfl, Nat.zero_le _, HQ.out, World.grownBy.refl _ _⟩
  case round =>
    obtain ⟨k, s, b, n, c, rfl, hk, HB, HG⟩ := hrel
    have b0 : wr.cell? ⟨w.heap.size, 0, none⟩ = some (str s) := cell_of_heap (i := 0) HB.out
    have b1 : wr.cell? ⟨w.heap.size, 1, none⟩ = some (.slice b n c) := cell_of_heap (i := 1) HB.out
    have f0 : ∀ i, wr.frozen? ⟨w.heap.size, i, none⟩ = false := fun i => by have := HB.out; simp [World.frozen?, this]
    have hres : wr.heap[w.heap.size + 1]? = some (.cells #[.string ⟨#[]⟩, .slice none 0 0] 49 (0, 0)) := by
      rw [HG.out.block (w.heap.size + 1) (Array.getElem?_eq_some_iff.1 HR.out).1 (fun e => by injection e with e; omega)]
      exact HR.out
    have r0 : wr.cell? ⟨w.heap.size + 1, 0, none⟩ = some (.string ⟨#[]⟩) := cell_of_heap (i := 0) hres
    have r1 : wr.cell? ⟨w.heap.size + 1, 1, none⟩ = some (.slice none 0 0) := cell_of_heap (i := 1) hres
    have f1 : ∀ i, wr.frozen? ⟨w.heap.size + 1, i, none⟩ = false := fun i => by simp [World.frozen?, hres]
    have HRES := Lib.hid hres
    clear hres
    by_cases hlt : k < N
    · obtain ⟨s1, ao1, n1, c1, h1, h2⟩ := HU.out k hlt
      have hAw : After w wr := after_own HA1.out (Nat.le_refl _) HG.out
      have x1 := hAw.cell h1
      have x2 := hAw.cell h2
      have hgq : g ≠ w.heap.size := by omega
      have hltI : (k : Int) < (N : Int) := by omega
      have hqw : w.heap.size < wr.heap.size := (Array.getElem?_eq_some_iff.1 HB.out).1
      clear h1 h2
      go_wp2_with fail
      go_region
      all_goals
        go_wp2_with fail
        go_roundw
        case measure => simp [intOf]; omega
        case rel =>
          have hX : ((wr.setCell ⟨w.heap.size, 0, none⟩ (.string ⟨#[]⟩)).setCell ⟨w.heap.size, 1, none⟩ (.slice (some ⟨wr.heap.size, 0, none⟩) 2 2)).heap[w.heap.size]? = some (.cells #[str [], .slice (some ⟨wr.heap.size, 0, none⟩) 2 2] 49 (0, 0)) := by
            have := HB.out
            simp [World.setCell, Array.getElem?_modify, this]
          have hXs : ((wr.setCell ⟨w.heap.size, 0, none⟩ (.string ⟨#[]⟩)).setCell ⟨w.heap.size, 1, none⟩ (.slice (some ⟨wr.heap.size, 0, none⟩) 2 2)).heap.size = wr.heap.size := by simp [World.setCell]
          have hGX : W1.grownBy ((wr.setCell ⟨w.heap.size, 0, none⟩ (.string ⟨#[]⟩)).setCell ⟨w.heap.size, 1, none⟩ (.slice (some ⟨wr.heap.size, 0, none⟩) 2 2)) (some w.heap.size) := grown_trans (grown_trans HG.out (grown_setx _ _ _ _)) (grown_setx _ _ _ _)
          generalize (wr.setCell ⟨w.heap.size, 0, none⟩ (.string ⟨#[]⟩)).setCell ⟨w.heap.size, 1, none⟩ (.slice (some ⟨wr.heap.size, 0, none⟩) 2 2) = X at *
          have hn4 := heap_new' X (.cells #[str s, .slice b n c, str s1, .slice ao1 n1 c1] 49)
          rw [hXs] at hn4
          have ha4 := After.new X (.cells #[str s, .slice b n c, str s1, .slice ao1 n1 c1] 49)
          refine ⟨k + 1, [], some ⟨wr.heap.size, 0, none⟩, 2, 2, by go_num, by omega, ha4.heap hX, grown_trans hGX (after_grown _ (After.drew ha4))⟩
    · obtain rfl : k = N := by omega
      have z0 := after_own HA1.out (Nat.le_refl _) HG.out
      go_wp2_with fail
      refine bodyPost_ret (v := .agg #[str s, .slice b n c]) (by have := HRES.out; simp [results, Try.results18, go_sem, World.setCell, World.cell?, Array.getElem?_modify, this]) rfl
        ⟨s, b, n, c, rfl, Below.setCell (p := ⟨w.heap.size + 1, 1, none⟩) (Below.setCell (p := ⟨w.heap.size + 1, 0, none⟩) z0 (Nat.le_succ _) _) (Nat.le_succ _) _⟩

end Go.Proofs.Ytjfdindlfakmcaa
