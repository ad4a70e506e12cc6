/-
  Worlds that grow but for one block.
-/
import Derived.Test.YtfpekihdoclncaaGreatPkAB
import Derived.Test.YtfpekihdoclncaaGreatPkAD
import Derived.Test.YtfpekihdoclncaaGreatPkAX
import Derived.Test.YtfpekihdoclncaaGreatPkAO
namespace Go.Proofs.YtfpekihdoclncaaGreat
open Go.RowKit

theorem after_grown {w W : World} (b : Nat) (h : After w W) : w.grownBy W (some b) := ⟨h.os, h.tape, h.output, h.size, fun k hk _ => h.block k hk⟩
theorem grown_setx (w : World) (b i : Nat) (v : Value) : w.grownBy (w.setCell ⟨b, i, none⟩ v) (some b) := by
  refine ⟨rfl, rfl, rfl, by simp [World.setCell], fun k hk hne => ?_⟩
  have : b ≠ k := fun e => hne (e ▸ rfl)
  simp [World.setCell, Array.getElem?_modify, this]

theorem after_own {w w3 wr : World} {b : Nat} (ha : After w w3) (hb : w.heap.size ≤ b) (hg : w3.grownBy wr (some b)) : After w wr :=
  ⟨hg.os.trans ha.os, hg.tape.trans ha.tape, hg.output.trans ha.output, Nat.le_trans ha.size hg.size, fun q hq => by
    rw [hg.block q (Nat.lt_of_lt_of_le hq ha.size) (fun e => by injection e with e; omega)]
    exact ha.block q hq⟩

end Go.Proofs.YtfpekihdoclncaaGreat

namespace Go.Proofs.YtfpekihdoclncaaGreat
open Go.RowKit

set_option maxHeartbeats 2000000
set_option maxRecDepth 100000

/-- A row of trees. -/
def ArgsST (w : World) (sv : Value) (us : List Tm) : Prop :=
  (us = [] ∧ ∃ ao cap, sv = .slice ao 0 cap) ∨ ∃ g o cap, sv = .slice (some ⟨g, o, none⟩) us.length cap ∧ g < w.heap.size ∧ ∀ j (h : j < us.length), ∃ s ao n c, w.cell? ⟨g, o + j * 2, none⟩ = some (str s) ∧ w.cell? ⟨g, o + j * 2 + 1, none⟩ = some (.slice ao n c) ∧ ST w us[j] (.agg #[str s, .slice ao n c])

theorem ArgsST.after {w W : World} {sv : Value} {us : List Tm} (h : ArgsST w sv us) (ha : After w W) : ArgsST W sv us := by
  rcases h with h | ⟨g, o, cap, hv, hg, hc⟩
  · exact Or.inl h
  · refine Or.inr ⟨g, o, cap, hv, Nat.lt_of_lt_of_le hg ha.size, fun j hj => ?_⟩
    obtain ⟨s, ao, n, c, h1, h2, h3⟩ := hc j hj
    exact ⟨s, ao, n, c, ha.cell h1, ha.cell h2, h3.later ha⟩
theorem ArgsST.form {w : World} {sv : Value} {us : List Tm} (h : ArgsST w sv us) : ∃ ao cap, sv = .slice ao us.length cap := by
  rcases h with ⟨rfl, ao, cap, rfl⟩ | ⟨g, o, cap, rfl, _⟩
  · exact ⟨_, _, rfl⟩
  · exact ⟨_, _, rfl⟩
theorem ArgsST.at {w : World} {sv : Value} {us : List Tm} (h : ArgsST w sv us) (j : Nat) (hj : j < us.length) : ∃ g o cap s ao n c, sv = .slice (some ⟨g, o, none⟩) us.length cap ∧ g < w.heap.size ∧ w.cell? ⟨g, o + j * 2, none⟩ = some (str s) ∧ w.cell? ⟨g, o + j * 2 + 1, none⟩ = some (.slice ao n c) ∧ ST w us[j] (.agg #[str s, .slice ao n c]) := by
  rcases h with ⟨h, _⟩ | ⟨g, o, cap, hv, hg, hc⟩
  · rw [h] at hj; simp at hj
  · obtain ⟨s, ao, n, c, h1, h2, h3⟩ := hc j hj
    exact ⟨g, o, cap, s, ao, n, c, hv, hg, h1, h2, h3⟩

theorem appL_snoc (f : Tm) (us : List Tm) (u : Tm) : FT.appL f (us ++ [u]) = .app (FT.appL f us) u := by simp [FT.appL, List.foldl_append]

/-- The application of a term to a list of terms. -/
theorem s_appL (w : World) (f : Tm) (us : List Tm) (s0 : List UInt8) (a0 : Option Addr) (n0 c0 : Nat) (sv : Value) (hf : ST w f (.agg #[str s0, .slice a0 n0 c0])) (hu : ArgsST w sv us) (hn : us.length ≤ 1000) :
    Calls Tryz.prog 19 #[.agg #[str s0, .slice a0 n0 c0], sv] w (TreePost w (FT.appL f us)) := by
  obtain ⟨ao, cap, rfl⟩ := hu.form
  obtain ⟨N, hN⟩ : ∃ N, N = us.length := ⟨_, rfl⟩
  rw [← hN] at hn ⊢
  obtain ⟨W1, hW1⟩ : ∃ W1, W1 = (w.alloc (.cells #[str s0, .slice a0 n0 c0] 42)).alloc (.cells #[.string ⟨#[]⟩, .slice none 0 0] 42) := ⟨_, rfl⟩
  have a1 : After w W1 := by rw [hW1]; exact (After.new _ _).alloc _
  have hq : W1.heap[w.heap.size]? = some (.cells #[str s0, .slice a0 n0 c0] 42 (0, 0)) := by rw [hW1]; exact heap_old2 _ _ _
  have hr : W1.heap[w.heap.size + 1]? = some (.cells #[.string ⟨#[]⟩, .slice none 0 0] 42 (0, 0)) := by rw [hW1]; exact heap_new2 w _ _ _ rfl
  have HN := Lib.hid hN
  have HW1 := Lib.hid hW1
  have HU := Lib.hid hu
  have HA1 := Lib.hid a1
  have HQ := Lib.hid hq
  have HR := Lib.hid hr
  have HF := Lib.hid (hf.later a1)
  obtain ⟨R, hR⟩ : ∃ R, R = FT.appL f us := ⟨_, rfl⟩
  rw [← hR]
  have HRR := Lib.hid hR
  clear hN hW1 hu hq hr hf hR a1
  go_enter Tryz.func19, Tryz.ntmps19
  go_wp2_with fail
  rw [← HW1.out]
  go_loopw [5] (fun i wr => ∃ (k : Nat) (s : List UInt8) (b : Option Addr) (n c : Nat), i = .int .i64 (k : Nat) ∧ k ≤ N ∧ Hid (wr.heap[w.heap.size]? = some (.cells #[str s, .slice b n c] 42 (0, 0))) ∧ Hid (ST wr (FT.appL f (us.take k)) (.agg #[str s, .slice b n c])) ∧ Hid (W1.grownBy wr (some w.heap.size))) (fun i _ => N - (intOf i).toNat)
  case atStart => exact ⟨0, s0, a0, n0, c0, rfl, Nat.zero_le _, HQ.out, HF.out, World.grownBy.refl _ _⟩
  case round =>
    obtain ⟨k, s, b, n, c, rfl, hk, HB, HT, HG⟩ := hrel
    have b0 : wr.cell? ⟨w.heap.size, 0, none⟩ = some (str s) := cell_of_heap (i := 0) HB.out
    have b1 : wr.cell? ⟨w.heap.size, 1, none⟩ = some (.slice b n c) := cell_of_heap (i := 1) HB.out
    have f0 : ∀ i, wr.frozen? ⟨w.heap.size, i, none⟩ = false := fun i => by have := HB.out; simp [World.frozen?, this]
    have hres : wr.heap[w.heap.size + 1]? = some (.cells #[.string ⟨#[]⟩, .slice none 0 0] 42 (0, 0)) := by
      rw [HG.out.block (w.heap.size + 1) (Array.getElem?_eq_some_iff.1 HR.out).1 (fun e => by injection e with e; omega)]
      exact HR.out
    have r0 : wr.cell? ⟨w.heap.size + 1, 0, none⟩ = some (.string ⟨#[]⟩) := cell_of_heap (i := 0) hres
    have r1 : wr.cell? ⟨w.heap.size + 1, 1, none⟩ = some (.slice none 0 0) := cell_of_heap (i := 1) hres
    have f1 : ∀ i, wr.frozen? ⟨w.heap.size + 1, i, none⟩ = false := fun i => by simp [World.frozen?, hres]
    have HRES := Lib.hid hres
    clear hres
    by_cases hlt : k < N
    · have hkl : k < us.length := by rw [← HN.out]; exact hlt
      obtain ⟨g, o, cap', s1, ao1, n1, c1, hsv, hg, h1, h2, h3⟩ := HU.out.at k hkl
      injection hsv with e1 e2 e3
      subst e1
      clear e2 e3
      have hAw : After w wr := after_own HA1.out (Nat.le_refl _) HG.out
      have x1 := hAw.cell h1
      have x2 := hAw.cell h2
      have HX := Lib.hid (h3.later hAw)
      have hgq : g ≠ w.heap.size := by omega
      have hltI : (k : Int) < (N : Int) := by omega
      have hqw : w.heap.size < wr.heap.size := (Array.getElem?_eq_some_iff.1 HB.out).1
      have hnext : FT.appL f (us.take (k + 1)) = .app (FT.appL f (us.take k)) us[k] := by rw [List.take_succ_eq_append_getElem hkl, appL_snoc]
      have HNX := Lib.hid hnext
      clear h1 h2 h3 hnext
      go_wp2_with fail
      go_region
      all_goals
        go_wp2_with fail
        go_roundw
        case measure => simp [intOf]; omega
        case rel =>
          have hX : ((wr.setCell ⟨w.heap.size, 0, none⟩ (.string ⟨#[]⟩)).setCell ⟨w.heap.size, 1, none⟩ (.slice (some ⟨wr.heap.size, 0, none⟩) 2 2)).heap[w.heap.size]? = some (.cells #[str [], .slice (some ⟨wr.heap.size, 0, none⟩) 2 2] 42 (0, 0)) := by
            have := HB.out
            simp [World.setCell, Array.getElem?_modify, this]
          have hXs : ((wr.setCell ⟨w.heap.size, 0, none⟩ (.string ⟨#[]⟩)).setCell ⟨w.heap.size, 1, none⟩ (.slice (some ⟨wr.heap.size, 0, none⟩) 2 2)).heap.size = wr.heap.size := by simp [World.setCell]
          have hT2 := HT.out.sets2 HB.out (i := 0) (j := 1) (u := .string ⟨#[]⟩) (u' := .slice (some ⟨wr.heap.size, 0, none⟩) 2 2)
          have hX2 := HX.out.sets2 HB.out (i := 0) (j := 1) (u := .string ⟨#[]⟩) (u' := .slice (some ⟨wr.heap.size, 0, none⟩) 2 2)
          have hGX : W1.grownBy ((wr.setCell ⟨w.heap.size, 0, none⟩ (.string ⟨#[]⟩)).setCell ⟨w.heap.size, 1, none⟩ (.slice (some ⟨wr.heap.size, 0, none⟩) 2 2)) (some w.heap.size) := grown_trans (grown_trans HG.out (grown_setx _ _ _ _)) (grown_setx _ _ _ _)
          generalize (wr.setCell ⟨w.heap.size, 0, none⟩ (.string ⟨#[]⟩)).setCell ⟨w.heap.size, 1, none⟩ (.slice (some ⟨wr.heap.size, 0, none⟩) 2 2) = X at *
          have hn4 := heap_new' X (.cells #[str s, .slice b n c, str s1, .slice ao1 n1 c1] 42)
          rw [hXs] at hn4
          have ha4 := After.new X (.cells #[str s, .slice b n c, str s1, .slice ao1 n1 c1] 42)
          refine ⟨k + 1, [], some ⟨wr.heap.size, 0, none⟩, 2, 2, by go_num, by omega, ha4.heap hX, ?_, grown_trans hGX (after_grown _ (After.drew ha4))⟩
          rw [HNX.out]
          exact ⟨wr.heap.size, 2, (0, 0), _, _, _, _, rfl, hn4, hT2.later (After.drew ha4), hX2.later (After.drew ha4)⟩
    · obtain rfl : k = N := by omega
      have HF' := Lib.hid (show FT.appL f (us.take k) = R by rw [HRR.out, HN.out, List.take_length])
      have z0 := after_own HA1.out (Nat.le_refl _) HG.out
      go_wp2_with fail
      refine bodyPost_ret (v := .agg #[str s, .slice b n c]) (by have := HRES.out; simp [results, Tryz.results19, go_sem, World.setCell, World.cell?, Array.getElem?_modify, this]) rfl
        ⟨s, b, n, c, rfl, Below.setCell (p := ⟨w.heap.size + 1, 1, none⟩) (Below.setCell (p := ⟨w.heap.size + 1, 0, none⟩) z0 (Nat.le_succ _) _) (Nat.le_succ _) _, ?_⟩
      have h := HT.out
      rw [HF'.out] at h
      exact h.sets2 HRES.out

/-- A row of values that look like trees. -/
def RawRow (w : World) (sv : Value) (n : Nat) : Prop := ∃ g o cap, sv = .slice (some ⟨g, o, none⟩) n cap ∧ g < w.heap.size ∧ ∀ j, j < n → ∃ s ao m c, w.cell? ⟨g, o + j * 2, none⟩ = some (str s) ∧ w.cell? ⟨g, o + j * 2 + 1, none⟩ = some (.slice ao m c)
theorem RawRow.after {w W : World} {sv : Value} {n : Nat} (h : RawRow w sv n) (ha : After w W) : RawRow W sv n := by
  obtain ⟨g, o, cap, hv, hg, hc⟩ := h
  refine ⟨g, o, cap, hv, Nat.lt_of_lt_of_le hg ha.size, fun j hj => ?_⟩
  obtain ⟨s, ao, n, c, h1, h2⟩ := hc j hj
  exact ⟨s, ao, n, c, ha.cell h1, ha.cell h2⟩

/-- An application of what only looks like trees. -/
theorem s_appR (w : World) (s0 : List UInt8) (a0 : Option Addr) (n0 c0 N : Nat) (sv : Value) (hu : RawRow w sv N) (hn : N ≤ 1000) :
    Calls Tryz.prog 19 #[.agg #[str s0, .slice a0 n0 c0], sv] w fun e w' => ∃ s ao n c, e = .returned (.agg #[str s, .slice ao n c]) ∧ After w w' := by
  obtain ⟨g, o, cap, rfl, hg, hc⟩ := hu
  obtain ⟨W1, hW1⟩ : ∃ W1, W1 = (w.alloc (.cells #[str s0, .slice a0 n0 c0] 42)).alloc (.cells #[.string ⟨#[]⟩, .slice none 0 0] 42) := ⟨_, rfl⟩
  have a1 : After w W1 := by rw [hW1]; exact (After.new _ _).alloc _
  have hq : W1.heap[w.heap.size]? = some (.cells #[str s0, .slice a0 n0 c0] 42 (0, 0)) := by rw [hW1]; exact heap_old2 _ _ _
  have hr : W1.heap[w.heap.size + 1]? = some (.cells #[.string ⟨#[]⟩, .slice none 0 0] 42 (0, 0)) := by rw [hW1]; exact heap_new2 w _ _ _ rfl
  have HW1 := Lib.hid hW1
  have HU := Lib.hid hc
  have HA1 := Lib.hid a1
  have HQ := Lib.hid hq
  have HR := Lib.hid hr
  clear hW1 hc hq hr a1
  go_enter Tryz.func19, Tryz.ntmps19
  go_wp2_with fail
  rw [← HW1.out]
  go_loopw [5] (fun i wr => ∃ (k : Nat) (s : List UInt8) (b : Option Addr) (n c : Nat), i = .int .i64 (k : Nat) ∧ k ≤ N ∧ Hid (wr.heap[w.heap.size]? = some (.cells #[str s, .slice b n c] 42 (0, 0))) ∧ Hid (W1.grownBy wr (some w.heap.size))) (fun i _ => N - (intOf i).toNat)
  case atStart => exact ⟨0, s0, a0, n0, c0, rfl, Nat.zero_le _, HQ.out, World.grownBy.refl _ _⟩
  case round =>
    obtain ⟨k, s, b, n, c, rfl, hk, HB, HG⟩ := hrel
    have b0 : wr.cell? ⟨w.heap.size, 0, none⟩ = some (str s) := cell_of_heap (i := 0) HB.out
    have b1 : wr.cell? ⟨w.heap.size, 1, none⟩ = some (.slice b n c) := cell_of_heap (i := 1) HB.out
    have f0 : ∀ i, wr.frozen? ⟨w.heap.size, i, none⟩ = false := fun i => by have := HB.out; simp [World.frozen?, this]
    have hres : wr.heap[w.heap.size + 1]? = some (.cells #[.string ⟨#[]⟩, .slice none 0 0] 42 (0, 0)) := by
      rw [HG.out.block (w.heap.size + 1) (Array.getElem?_eq_some_iff.1 HR.out).1 (fun e => by injection e with e; omega)]
      exact HR.out
    have r0 : wr.cell? ⟨w.heap.size + 1, 0, none⟩ = some (.string ⟨#[]⟩) := cell_of_heap (i := 0) hres
    have r1 : wr.cell? ⟨w.heap.size + 1, 1, none⟩ = some (.slice none 0 0) := cell_of_heap (i := 1) hres
    have f1 : ∀ i, wr.frozen? ⟨w.heap.size + 1, i, none⟩ = false := fun i => by simp [World.frozen?, hres]
    have HRES := Lib.hid hres
    clear hres
    by_cases hlt : k < N
    · obtain ⟨s1, ao1, n1, c1, h1, h2⟩ := HU.out k hlt
      have hAw : After w wr := after_own HA1.out (Nat.le_refl _) HG.out
      have x1 := hAw.cell h1
      have x2 := hAw.cell h2
      have hgq : g ≠ w.heap.size := by omega
      have hltI : (k : Int) < (N : Int) := by omega
      have hqw : w.heap.size < wr.heap.size := (Array.getElem?_eq_some_iff.1 HB.out).1
      clear h1 h2
      go_wp2_with fail
      go_region
      all_goals
        go_wp2_with fail
        go_roundw
        case measure => simp [intOf]; omega
        case rel =>
          have hX : ((wr.setCell ⟨w.heap.size, 0, none⟩ (.string ⟨#[]⟩)).setCell ⟨w.heap.size, 1, none⟩ (.slice (some ⟨wr.heap.size, 0, none⟩) 2 2)).heap[w.heap.size]? = some (.cells #[str [], .slice (some ⟨wr.heap.size, 0, none⟩) 2 2] 42 (0, 0)) := by
            have := HB.out
            simp [World.setCell, Array.getElem?_modify, this]
          have hXs : ((wr.setCell ⟨w.heap.size, 0, none⟩ (.string ⟨#[]⟩)).setCell ⟨w.heap.size, 1, none⟩ (.slice (some ⟨wr.heap.size, 0, none⟩) 2 2)).heap.size = wr.heap.size := by simp [World.setCell]
          have hGX : W1.grownBy ((wr.setCell ⟨w.heap.size, 0, none⟩ (.string ⟨#[]⟩)).setCell ⟨w.heap.size, 1, none⟩ (.slice (some ⟨wr.heap.size, 0, none⟩) 2 2)) (some w.heap.size) := grown_trans (grown_trans HG.out (grown_setx _ _ _ _)) (grown_setx _ _ _ _)
          generalize (wr.setCell ⟨w.heap.size, 0, none⟩ (.string ⟨#[]⟩)).setCell ⟨w.heap.size, 1, none⟩ (.slice (some ⟨wr.heap.size, 0, none⟩) 2 2) = X at *
          have hn4 := heap_new' X (.cells #[str s, .slice b n c, str s1, .slice ao1 n1 c1] 42)
          rw [hXs] at hn4
          have ha4 := After.new X (.cells #[str s, .slice b n c, str s1, .slice ao1 n1 c1] 42)
          refine ⟨k + 1, [], some ⟨wr.heap.size, 0, none⟩, 2, 2, by go_num, by omega, ha4.heap hX, grown_trans hGX (after_grown _ (After.drew ha4))⟩
    · obtain rfl : k = N := by omega
      have z0 := after_own HA1.out (Nat.le_refl _) HG.out
      go_wp2_with fail
      refine bodyPost_ret (v := .agg #[str s, .slice b n c]) (by have := HRES.out; simp [results, Tryz.results19, go_sem, World.setCell, World.cell?, Array.getElem?_modify, this]) rfl
        ⟨s, b, n, c, rfl, Below.setCell (p := ⟨w.heap.size + 1, 1, none⟩) (Below.setCell (p := ⟨w.heap.size + 1, 0, none⟩) z0 (Nat.le_succ _) _) (Nat.le_succ _) _⟩

end Go.Proofs.YtfpekihdoclncaaGreat

namespace Go.Proofs.YtfpekihdoclncaaGreat
open Go Go.RowKit

set_option maxRecDepth 100000

/-- What an operation yields. -/
inductive Yd where
  | lit (v : Value)
  | tree (t : Tm)
  | raw
  | row (ts : List Tm)
  | names (xs : List (List UInt8))
  | cell (base : Nat)
  | rraw (n : Nat)
  | free

def Yd.holds : Yd → Value → World → Prop
  | .lit u, v, _ => v = u
  | .tree t, v, W => ∃ s ao n c, v = .agg #[str s, .slice ao n c] ∧ ST W t v
  | .raw, v, _ => ∃ s ao n c, v = .agg #[str s, .slice ao n c]
  | .row ts, v, W => ArgsST W v ts
  | .names xs, v, W => ∃ g, v = .slice (some ⟨g, 0, none⟩) xs.length xs.length ∧ W.heap[g]? = some (.cells (xs.map str).toArray 9 (0, 0))
  | .cell base, v, W => ∃ g x y, v = .pointer (some ⟨g, 0, none⟩) ∧ base ≤ g ∧ W.heap[g]? = some (.cells #[x, y] 42 (0, 0))
  | .rraw n, v, W => RawRow W v n
  | .free, _, _ => True

theorem Yd.later {W W' : World} (hW : After W W') : ∀ {y : Yd} {v : Value}, y.holds v W → y.holds v W'
  | .lit _, _, h => h
  | .tree _, _, ⟨s, ao, n, c, e, h⟩ => ⟨s, ao, n, c, e, h.later hW⟩
  | .raw, _, h => h
  | .row _, _, h => ArgsST.after h hW
  | .names _, _, ⟨g, e, h⟩ => ⟨g, e, hW.heap h⟩
  | .cell _, _, ⟨g, x, y, e, hb, h⟩ => ⟨g, x, y, e, hb, hW.heap h⟩
  | .rraw _, _, h => RawRow.after h hW
  | .free, _, _ => trivial

/-- The yields of a region, one after the other. -/
def yds (L : List Yd) (i : Nat) (v : Value) (W : World) : Prop := (L.getD i .free).holds v W
theorem yds_later {L : List Yd} {w0 : World} : ∀ i v w w', After w0 w → yds L i v w → After w w' → yds L i v w' := fun _ _ _ _ _ h hW => Yd.later hW h

section
variable {ops : Array Oper} {Q : Exit → Act → World → Prop} {A : Act} {i : Nat} {w : World} {K : Act → World → Prop}

/-- The operation hands back a value that is known; the world is not touched. -/
theorem do_val {v : Value} (hs : (ops[i]?).isSome = true) (hg : (opAt ops i).guard = none) (hr : (execOp A.eval (opAt ops i)).run Tryz.prog w = .ok (.value v) w) (hK : ∀ w', After w w' → K (A.put (dstOf ops i) v) w') : OpDo Tryz.prog ops Q A i w K :=
  op_val hs (by unfold Region.wanted; rw [hg]) hr (hK w (After.refl w))

theorem wanted_of {o : Oper} {y : Nat → Option Bool} (hg : o.guard = none) : Region.wanted o y = true := by unfold Region.wanted; rw [hg]

theorem do_load {x : Operand} {b k : Nat} {c0 c1 : Value} (y : Yd) (hs : (ops[i]?).isSome = true) (hop : (opAt ops i).op = .load 42 x) (hg : (opAt ops i).guard = none) (hx : A.eval x = .pointer (some ⟨b, k, none⟩))
    (h0 : w.cell? ⟨b, k, none⟩ = some c0) (h1 : w.cell? ⟨b, k + 1, none⟩ = some c1) (hy : y.holds (.agg #[c0, c1]) w) (hK : ∀ v w', After w w' → y.holds v w' → K (A.put (dstOf ops i) v) w') : OpDo Tryz.prog ops Q A i w K :=
  op_load hs hop hg hx h0 h1 (hK _ _ (After.refl _) hy)

theorem do_call {f : FuncId} {args : Array Value} (t : Tm) (hs : (ops[i]?).isSome = true) (hg : (opAt ops i).guard = none) (hr : (execOp A.eval (opAt ops i)).run Tryz.prog w = .ok (.enter f args) w) (hc : Calls Tryz.prog f args w (TreePost w t))
    (hK : ∀ v w', After w w' → (Yd.tree t).holds v w' → K (A.put (dstOf ops i) v) w') : OpDo Tryz.prog ops Q A i w K := by
  refine op_call hs (wanted_of hg) hr (hc.mono ?_)
  rintro e w' ⟨s, ao, n, c, rfl, ha, ht⟩
  exact ⟨_, rfl, hK _ _ ha ⟨s, ao, n, c, rfl, ht⟩⟩

theorem do_name {x : List UInt8} (hs : (ops[i]?).isSome = true) (hg : (opAt ops i).guard = none) (hr : (execOp A.eval (opAt ops i)).run Tryz.prog w = .ok (.enter 41 #[str x]) w)
    (hK : ∀ v w', After w w' → (Yd.tree (.nm x)).holds v w' → K (A.put (dstOf ops i) v) w') : OpDo Tryz.prog ops Q A i w K := by
  refine op_call hs (wanted_of hg) hr ((s_nm w x).mono ?_)
  rintro e w' ⟨rfl, ha⟩
  exact ⟨_, rfl, hK _ _ ha ⟨x, none, 0, 0, rfl, rfl⟩⟩

theorem do_app {u1 u2 : Value} {f : Tm} {us : List Tm} (hs : (ops[i]?).isSome = true) (hg : (opAt ops i).guard = none) (hr : (execOp A.eval (opAt ops i)).run Tryz.prog w = .ok (.enter 19 #[u1, u2]) w) (h1 : (Yd.tree f).holds u1 w) (h2 : (Yd.row us).holds u2 w) (hn : us.length ≤ 1000)
    (hK : ∀ v w', After w w' → (Yd.tree (FT.appL f us)).holds v w' → K (A.put (dstOf ops i) v) w') : OpDo Tryz.prog ops Q A i w K := by
  obtain ⟨s, ao, n, c, rfl, h⟩ := h1
  exact do_call _ hs hg hr (s_appL w f us s ao n c u2 h h2 hn) hK

theorem do_all {u1 u2 : Value} {xs : List (List UInt8)} {t : Tm} (hs : (ops[i]?).isSome = true) (hg : (opAt ops i).guard = none) (hr : (execOp A.eval (opAt ops i)).run Tryz.prog w = .ok (.enter 40 #[u1, u2]) w) (h1 : (Yd.names xs).holds u1 w) (h2 : (Yd.tree t).holds u2 w) (hn : xs.length ≤ 8) (hxs : ∀ x ∈ xs, Tm.nameOk x = true) (hgd : t.good = true) (hf : t.fits = true)
    (hK : ∀ v w', After w w' → (Yd.tree (lastL xs.reverse t)).holds v w' → K (A.put (dstOf ops i) v) w') : OpDo Tryz.prog ops Q A i w K := by
  obtain ⟨s, ao, n, c, rfl, h⟩ := h2
  obtain ⟨g, rfl, hh⟩ := h1
  refine do_call _ hs hg hr (s_all w g 0 xs.length xs t s ao n c h hgd hf hn hxs (fun j hj => ?_)) hK
  rw [Nat.zero_add, cell_of_heap hh]
  simp [hj]

theorem do_names {xs : List (List UInt8)} (hs : (ops[i]?).isSome = true) (hg : (opAt ops i).guard = none) (hr : (execOp A.eval (opAt ops i)).run Tryz.prog w = .ok (.value (.slice (some ⟨w.heap.size, 0, none⟩) xs.length xs.length)) (w.alloc (.cells (xs.map str).toArray 9)))
    (hK : ∀ v w', After w w' → (Yd.names xs).holds v w' → K (A.put (dstOf ops i) v) w') : OpDo Tryz.prog ops Q A i w K :=
  op_val hs (wanted_of hg) hr (hK _ _ (After.new w _) ⟨_, rfl, heap_new' w _⟩)

theorem do_cell {base : Nat} (hs : (ops[i]?).isSome = true) (hg : (opAt ops i).guard = none) (hb : base ≤ w.heap.size) (hr : (execOp A.eval (opAt ops i)).run Tryz.prog w = .ok (.value (.pointer (some ⟨w.heap.size, 0, none⟩))) (w.alloc (.cells #[.string ⟨#[]⟩, .slice none 0 0] 42)))
    (hK : ∀ v w', After w w' → (Yd.cell base).holds v w' → K (A.put (dstOf ops i) v) w') : OpDo Tryz.prog ops Q A i w K :=
  op_val hs (wanted_of hg) hr (hK _ _ (After.new w _) ⟨_, _, _, rfl, hb, heap_new' w _⟩)

theorem row1 (w : World) (s : List UInt8) (ao : Option Addr) (n c : Nat) : (Instr.buildSlice 40 1 #[(0, .agg #[str s, .slice ao n c])]).run Tryz.prog w = .ok (.slice (some ⟨w.heap.size, 0, none⟩) 1 1) (w.alloc (.cells #[str s, .slice ao n c] 42)) := by kernel_rfl
theorem row2 (w : World) (s : List UInt8) (ao : Option Addr) (n c : Nat) (s' : List UInt8) (ao' : Option Addr) (n' c' : Nat) : (Instr.buildSlice 40 2 #[(0, .agg #[str s, .slice ao n c]), (1, .agg #[str s', .slice ao' n' c'])]).run Tryz.prog w = .ok (.slice (some ⟨w.heap.size, 0, none⟩) 2 2) (w.alloc (.cells #[str s, .slice ao n c, str s', .slice ao' n' c'] 42)) := by kernel_rfl
theorem row3 (w : World) (s : List UInt8) (ao : Option Addr) (n c : Nat) (s' : List UInt8) (ao' : Option Addr) (n' c' : Nat) (s'' : List UInt8) (ao'' : Option Addr) (n'' c'' : Nat) : (Instr.buildSlice 40 3 #[(0, .agg #[str s, .slice ao n c]), (1, .agg #[str s', .slice ao' n' c']), (2, .agg #[str s'', .slice ao'' n'' c''])]).run Tryz.prog w = .ok (.slice (some ⟨w.heap.size, 0, none⟩) 3 3) (w.alloc (.cells #[str s, .slice ao n c, str s', .slice ao' n' c', str s'', .slice ao'' n'' c''] 42)) := by kernel_rfl

theorem do_row1 {x : Operand} {a : Tm} {u : Value} (hs : (ops[i]?).isSome = true) (hop : (opAt ops i).op = .buildSlice 40 1 #[(0, x)]) (hg : (opAt ops i).guard = none) (hx : A.eval x = u) (hu : (Yd.tree a).holds u w)
    (hK : ∀ v w', After w w' → (Yd.row [a]).holds v w' → K (A.put (dstOf ops i) v) w') : OpDo Tryz.prog ops Q A i w K := by
  obtain ⟨s, ao, n, c, rfl, h⟩ := hu
  have hA := After.new w (.cells #[str s, .slice ao n c] 42)
  have hh := heap_new' w (.cells #[str s, .slice ao n c] 42)
  refine op_val hs (wanted_of hg) (v := .slice (some ⟨w.heap.size, 0, none⟩) 1 1) (w' := w.alloc (.cells #[str s, .slice ao n c] 42)) ?_ (hK _ _ hA (Or.inr ⟨_, _, _, rfl, by simp, fun j hj => ?_⟩))
  · unfold execOp
    simp only [hop, List.map_toArray, List.map_cons, List.map_nil, hx, Sem.run_bind, row1, Result.andThen_ok, Sem.run_pure]
  · match j, hj with
    | 0, _ => exact ⟨s, ao, n, c, cell_of_heap (i := 0) hh, cell_of_heap (i := 1) hh, h.later hA⟩

theorem do_row2 {x y : Operand} {a b : Tm} {u v : Value} (hs : (ops[i]?).isSome = true) (hop : (opAt ops i).op = .buildSlice 40 2 #[(0, x), (1, y)]) (hg : (opAt ops i).guard = none) (hx : A.eval x = u) (hy : A.eval y = v) (hu : (Yd.tree a).holds u w) (hv : (Yd.tree b).holds v w)
    (hK : ∀ v w', After w w' → (Yd.row [a, b]).holds v w' → K (A.put (dstOf ops i) v) w') : OpDo Tryz.prog ops Q A i w K := by
  obtain ⟨s, ao, n, c, rfl, h⟩ := hu
  obtain ⟨s', ao', n', c', rfl, h'⟩ := hv
  have hA := After.new w (.cells #[str s, .slice ao n c, str s', .slice ao' n' c'] 42)
  have hh := heap_new' w (.cells #[str s, .slice ao n c, str s', .slice ao' n' c'] 42)
  refine op_val hs (wanted_of hg) (v := .slice (some ⟨w.heap.size, 0, none⟩) 2 2) (w' := w.alloc (.cells #[str s, .slice ao n c, str s', .slice ao' n' c'] 42)) ?_ (hK _ _ hA (Or.inr ⟨_, _, _, rfl, by simp, fun j hj => ?_⟩))
  · unfold execOp
    simp only [hop, List.map_toArray, List.map_cons, List.map_nil, hx, hy, Sem.run_bind, row2, Result.andThen_ok, Sem.run_pure]
  · match j, hj with
    | 0, _ => exact ⟨s, ao, n, c, cell_of_heap (i := 0) hh, cell_of_heap (i := 1) hh, h.later hA⟩
    | 1, _ => exact ⟨s', ao', n', c', cell_of_heap (i := 2) hh, cell_of_heap (i := 3) hh, h'.later hA⟩

theorem do_row3 {x y z : Operand} {a b d : Tm} {u v q : Value} (hs : (ops[i]?).isSome = true) (hop : (opAt ops i).op = .buildSlice 40 3 #[(0, x), (1, y), (2, z)]) (hg : (opAt ops i).guard = none) (hx : A.eval x = u) (hy : A.eval y = v) (hz : A.eval z = q) (hu : (Yd.tree a).holds u w) (hv : (Yd.tree b).holds v w) (hq : (Yd.tree d).holds q w)
    (hK : ∀ v w', After w w' → (Yd.row [a, b, d]).holds v w' → K (A.put (dstOf ops i) v) w') : OpDo Tryz.prog ops Q A i w K := by
  obtain ⟨s, ao, n, c, rfl, h⟩ := hu
  obtain ⟨s', ao', n', c', rfl, h'⟩ := hv
  obtain ⟨s2, ao2, n2, c2, rfl, h2⟩ := hq
  have hA := After.new w (.cells #[str s, .slice ao n c, str s', .slice ao' n' c', str s2, .slice ao2 n2 c2] 42)
  have hh := heap_new' w (.cells #[str s, .slice ao n c, str s', .slice ao' n' c', str s2, .slice ao2 n2 c2] 42)
  refine op_val hs (wanted_of hg) (v := .slice (some ⟨w.heap.size, 0, none⟩) 3 3) (w' := w.alloc (.cells #[str s, .slice ao n c, str s', .slice ao' n' c', str s2, .slice ao2 n2 c2] 42)) ?_ (hK _ _ hA (Or.inr ⟨_, _, _, rfl, by simp, fun j hj => ?_⟩))
  · unfold execOp
    simp only [hop, List.map_toArray, List.map_cons, List.map_nil, hx, hy, hz, Sem.run_bind, row3, Result.andThen_ok, Sem.run_pure]
  · match j, hj with
    | 0, _ => exact ⟨s, ao, n, c, cell_of_heap (i := 0) hh, cell_of_heap (i := 1) hh, h.later hA⟩
    | 1, _ => exact ⟨s', ao', n', c', cell_of_heap (i := 2) hh, cell_of_heap (i := 3) hh, h'.later hA⟩
    | 2, _ => exact ⟨s2, ao2, n2, c2, cell_of_heap (i := 4) hh, cell_of_heap (i := 5) hh, h2.later hA⟩

/-- A value that is there at once. -/
theorem do_pure {v : Value} (y : Yd) (hs : (ops[i]?).isSome = true) (hg : (opAt ops i).guard = none) (hr : (execOp A.eval (opAt ops i)).run Tryz.prog w = .ok (.value v) w) (hy : y.holds v w) (hK : ∀ v w', After w w' → y.holds v w' → K (A.put (dstOf ops i) v) w') : OpDo Tryz.prog ops Q A i w K :=
  op_val hs (wanted_of hg) hr (hK _ _ (After.refl w) hy)

/-- The last: a tree is stored into a cell. -/
theorem do_store {x y : Operand} {b : Nat} {p q v : Value} (t : Tm) (hs : (ops[i]?).isSome = true) (hop : (opAt ops i).op = .store 42 x y) (hg : (opAt ops i).guard = none) (hd : dstOf ops i = none) (hx : A.eval x = .pointer (some ⟨b, 0, none⟩)) (hv : A.eval y = v) (hy : (Yd.tree t).holds v w) (hb : w.heap[b]? = some (.cells #[p, q] 42 (0, 0)))
    (hK : ∀ s ao n c, ST ((w.setCell ⟨b, 0, none⟩ (str s)).setCell ⟨b, 1, none⟩ (.slice ao n c)) t (.agg #[str s, .slice ao n c]) → K A ((w.setCell ⟨b, 0, none⟩ (str s)).setCell ⟨b, 1, none⟩ (.slice ao n c))) : OpDo Tryz.prog ops Q A i w K := by
  obtain ⟨s, ao, n, c, rfl, h⟩ := hy
  have hth : w.there b 0 2 := fun j hj => by
    rw [Nat.zero_add]
    refine ⟨?_, by simp [World.frozen?, hb]⟩
    match j, hj with
    | 0, _ => rw [cell_of_heap (i := 0) hb]; rfl
    | 1, _ => rw [cell_of_heap (i := 1) hb]; rfl
  have hst : (Instr.storeAt 42 (.pointer (some ⟨b, 0, none⟩)) (.agg #[str s, .slice ao n c])).run Tryz.prog w = .ok () (w.setCells b 0 [str s, .slice ao n c]) := run_storeAt_mid w b 0 42 #[str s, .slice ao n c] hth (by kernel_rfl) (by kernel_rfl)
  constructor
  rw [opAt_of hs]
  simp only [wanted_of hg, if_true]
  unfold Oper.wp execOp
  simp only [hop, hx, hv, Sem.run_bind, hst, Result.andThen_ok, Sem.run_pure, Oper.upon_skip]
  rw [opAt_dst hs, hd]
  exact hK s ao n c (h.sets2 hb)

theorem do_store_at {x y : Operand} {b : Nat} {p q u v : Value} (t : Tm) (hs : (ops[i]?).isSome = true) (hop : (opAt ops i).op = .store 42 x y) (hg : (opAt ops i).guard = none) (hd : (dstOf ops i) = none) (hx : A.eval x = u) (hu : u = .pointer (some ⟨b, 0, none⟩)) (hv : A.eval y = v) (hy : (Yd.tree t).holds v w) (hb : w.heap[b]? = some (.cells #[p, q] 42 (0, 0)))
    (hK : ∀ s ao n c, ST ((w.setCell ⟨b, 0, none⟩ (str s)).setCell ⟨b, 1, none⟩ (.slice ao n c)) t (.agg #[str s, .slice ao n c]) → K A ((w.setCell ⟨b, 0, none⟩ (str s)).setCell ⟨b, 1, none⟩ (.slice ao n c))) : OpDo Tryz.prog ops Q A i w K :=
  do_store t hs hop hg hd (hx.trans hu) hv hy hb hK

theorem do_loadu {x : Operand} {b k : Nat} {u c0 c1 : Value} (y : Yd) (hs : (ops[i]?).isSome = true) (hop : (opAt ops i).op = .load 42 x) (hg : (opAt ops i).guard = none) (hx : A.eval x = u) (hu : u = .pointer (some ⟨b, k, none⟩))
    (h0 : w.cell? ⟨b, k, none⟩ = some c0) (h1 : w.cell? ⟨b, k + 1, none⟩ = some c1) (hy : y.holds (.agg #[c0, c1]) w) (hK : ∀ v w', After w w' → y.holds v w' → K (A.put (dstOf ops i) v) w') : OpDo Tryz.prog ops Q A i w K :=
  do_load y hs hop hg (hx.trans hu) h0 h1 hy hK

theorem run_load_slice {w : World} {p : Addr} {v : Value} (h : w.cell? p = some v) : (Instr.loadAt 40 (.pointer (some p))).run Tryz.prog w = .ok v w := by
  obtain ⟨d, hd, hr⟩ : ∃ d, Tryz.prog.underlying 40 = some d ∧ d.isRow = false := ⟨_, rfl, rfl⟩
  have hagg : (isAgg 40).run Tryz.prog w = .ok false w := by
    unfold isAgg
    rw [Sem.run_bind, run_underlying hd w]
    cases d <;> simp_all
  simp [Instr.loadAt, Instr.sureAddr, loadVar, Sem.run_bind, hagg, go_sem, h]

theorem do_load1 {x : Operand} {p : Addr} {u c : Value} (y : Yd) (hs : (ops[i]?).isSome = true) (hop : (opAt ops i).op = .load 40 x) (hg : (opAt ops i).guard = none) (hx : A.eval x = u) (hu : u = .pointer (some p))
    (h0 : w.cell? p = some c) (hy : y.holds c w) (hK : ∀ v w', After w w' → y.holds v w' → K (A.put (dstOf ops i) v) w') : OpDo Tryz.prog ops Q A i w K := by
  subst hu
  refine op_val hs (wanted_of hg) ?_ (hK _ _ (After.refl _) hy)
  unfold execOp
  simp only [hop, hx, Sem.run_bind, run_load_slice h0, Result.andThen_ok, Sem.run_pure]

theorem run_index0 (w : World) (g cap : Nat) : (Instr.indexAt 40 (.slice (some ⟨g, 0, none⟩) 2 cap) (.int .i64 0)).run Tryz.prog w = .ok (.pointer (some ⟨g, 0, none⟩)) w := by kernel_rfl
theorem run_index1 (w : World) (g cap : Nat) : (Instr.indexAt 40 (.slice (some ⟨g, 0, none⟩) 2 cap) (.int .i64 1)).run Tryz.prog w = .ok (.pointer (some ⟨g, 2, none⟩)) w := by kernel_rfl

theorem do_index0 {x : Operand} {g cap : Nat} {u : Value} (hs : (ops[i]?).isSome = true) (hop : (opAt ops i).op = .indexAddr 40 x (.const (.int .i64 0))) (hg : (opAt ops i).guard = none) (hx : A.eval x = u) (hu : u = .slice (some ⟨g, 0, none⟩) 2 cap)
    (hK : ∀ v w', After w w' → (Yd.lit (.pointer (some ⟨g, 0, none⟩))).holds v w' → K (A.put (dstOf ops i) v) w') : OpDo Tryz.prog ops Q A i w K := by
  subst hu
  refine op_val hs (wanted_of hg) ?_ (hK _ _ (After.refl _) rfl)
  unfold execOp
  simp only [hop, hx, show A.eval (.const (.int .i64 0)) = .int .i64 0 from rfl, Sem.run_bind, run_index0, Result.andThen_ok, Sem.run_pure]
theorem do_index1 {x : Operand} {g cap : Nat} {u : Value} (hs : (ops[i]?).isSome = true) (hop : (opAt ops i).op = .indexAddr 40 x (.const (.int .i64 1))) (hg : (opAt ops i).guard = none) (hx : A.eval x = u) (hu : u = .slice (some ⟨g, 0, none⟩) 2 cap)
    (hK : ∀ v w', After w w' → (Yd.lit (.pointer (some ⟨g, 2, none⟩))).holds v w' → K (A.put (dstOf ops i) v) w') : OpDo Tryz.prog ops Q A i w K := by
  subst hu
  refine op_val hs (wanted_of hg) ?_ (hK _ _ (After.refl _) rfl)
  unfold execOp
  simp only [hop, hx, show A.eval (.const (.int .i64 1)) = .int .i64 1 from rfl, Sem.run_bind, run_index1, Result.andThen_ok, Sem.run_pure]

theorem treeOf {t : Tm} {v : Value} (h : ST w t v) : (Yd.tree t).holds v w := by
  cases t with
  | k => exact ⟨_, _, _, _, h, h⟩
  | s => exact ⟨_, _, _, _, h, h⟩
  | nm n => exact ⟨_, _, _, _, h, h⟩
  | app f a =>
    obtain ⟨g, cap, fr, s0, p0, s1, p1, rfl, hh⟩ := id h
    exact ⟨_, _, _, _, rfl, h⟩
theorem stOf {t : Tm} {v : Value} (h : (Yd.tree t).holds v w) : ST w t v := let ⟨_, _, _, _, _, h⟩ := h; h

theorem rawOf {t : Tm} {v : Value} (h : (Yd.tree t).holds v w) : Yd.raw.holds v w := let ⟨s, ao, n, c, e, _⟩ := h; ⟨s, ao, n, c, e⟩

theorem do_calllit {f : FuncId} {args : Array Value} {v : Value} (hs : (ops[i]?).isSome = true) (hg : (opAt ops i).guard = none) (hr : (execOp A.eval (opAt ops i)).run Tryz.prog w = .ok (.enter f args) w) (hc : Calls Tryz.prog f args w fun e w' => e = .returned v ∧ After w w')
    (hK : ∀ v' w', After w w' → (Yd.lit v).holds v' w' → K (A.put (dstOf ops i) v') w') : OpDo Tryz.prog ops Q A i w K := by
  refine op_call hs (wanted_of hg) hr (hc.mono ?_)
  rintro e w' ⟨rfl, ha⟩
  exact ⟨_, rfl, hK _ _ ha rfl⟩

theorem do_extract0 {x : Operand} {u a b : Value} (hs : (ops[i]?).isSome = true) (hop : (opAt ops i).op = .extract x 0) (hg : (opAt ops i).guard = none) (hx : A.eval x = u) (hu : u = .tuple #[a, b])
    (hK : ∀ v w', After w w' → (Yd.lit a).holds v w' → K (A.put (dstOf ops i) v) w') : OpDo Tryz.prog ops Q A i w K := by
  subst hu
  refine op_val hs (wanted_of hg) (v := a) ?_ (hK _ _ (After.refl _) rfl)
  unfold execOp
  simp only [hop, hx]
  kernel_rfl
theorem do_extract1 {x : Operand} {u a b : Value} (hs : (ops[i]?).isSome = true) (hop : (opAt ops i).op = .extract x 1) (hg : (opAt ops i).guard = none) (hx : A.eval x = u) (hu : u = .tuple #[a, b])
    (hK : ∀ v w', After w w' → (Yd.lit b).holds v w' → K (A.put (dstOf ops i) v) w') : OpDo Tryz.prog ops Q A i w K := by
  subst hu
  refine op_val hs (wanted_of hg) (v := b) ?_ (hK _ _ (After.refl _) rfl)
  unfold execOp
  simp only [hop, hx]
  kernel_rfl

theorem do_pick {c x y : Operand} {u : Value} {p : Bool} {r : Value} (hs : (ops[i]?).isSome = true) (hop : (opAt ops i).op = .pick c x y) (hg : (opAt ops i).guard = none) (hc : A.eval c = u) (hu : u = .bool p) (hr : (if p = true then A.eval x else A.eval y) = r)
    (hK : ∀ v w', After w w' → (Yd.lit r).holds v w' → K (A.put (dstOf ops i) v) w') : OpDo Tryz.prog ops Q A i w K := by
  subst hu
  refine op_val hs (wanted_of hg) (v := r) ?_ (hK _ _ (After.refl _) rfl)
  unfold execOp
  simp only [hop, hc]
  subst hr
  cases p <;> kernel_rfl

/-- What an operation has yielded, as guards see it. -/
theorem yielded_at {j : Nat} {v : Value} {b : Bool} (hj : ((ops[j]?).bind (·.dst)).bind (A.tmps[·]?) = some v) (hv : v = .bool b) : yielded ops A.tmps j = some b := by
  subst hv
  unfold yielded
  rw [hj]

theorem do_on {j : Nat} {u v : Value} {b : Bool} (y : Yd) (hs : (ops[i]?).isSome = true) (hg : (opAt ops i).guard = some (j, b)) (hj : ((ops[j]?).bind (·.dst)).bind (A.tmps[·]?) = some u) (hu : u = .bool b) (hr : (execOp A.eval (opAt ops i)).run Tryz.prog w = .ok (.value v) w) (hy : y.holds v w)
    (hK : ∀ v w', After w w' → y.holds v w' → K (A.put (dstOf ops i) v) w') : OpDo Tryz.prog ops Q A i w K :=
  op_val hs (by unfold Region.wanted; rw [hg]; simp [yielded_at hj hu]) hr (hK _ _ (After.refl w) hy)

theorem do_offg {j : Nat} {u : Value} {b c : Bool} (hs : (ops[i]?).isSome = true) (hg : (opAt ops i).guard = some (j, b)) (hj : ((ops[j]?).bind (·.dst)).bind (A.tmps[·]?) = some u) (hu : u = .bool c) (hne : c ≠ b)
    (hK : ∀ v w', After w w' → Yd.free.holds v w' → K (A.put (dstOf ops i) v) w') : OpDo Tryz.prog ops Q A i w K :=
  op_off hs (by unfold Region.wanted; rw [hg]; simp [yielded_at hj hu, hne]) (hK _ _ (After.refl w) trivial)

theorem do_rraw1 {x : Operand} {u : Value} (hs : (ops[i]?).isSome = true) (hop : (opAt ops i).op = .buildSlice 40 1 #[(0, x)]) (hg : (opAt ops i).guard = none) (hx : A.eval x = u) (hu : Yd.raw.holds u w)
    (hK : ∀ v w', After w w' → (Yd.rraw 1).holds v w' → K (A.put (dstOf ops i) v) w') : OpDo Tryz.prog ops Q A i w K := by
  obtain ⟨s, ao, n, c, rfl⟩ := hu
  have hA := After.new w (.cells #[str s, .slice ao n c] 42)
  have hh := heap_new' w (.cells #[str s, .slice ao n c] 42)
  refine op_val hs (wanted_of hg) (v := .slice (some ⟨w.heap.size, 0, none⟩) 1 1) (w' := w.alloc (.cells #[str s, .slice ao n c] 42)) ?_ (hK _ _ hA ⟨_, _, _, rfl, by simp, fun j hj => ?_⟩)
  · unfold execOp
    simp only [hop, List.map_toArray, List.map_cons, List.map_nil, hx, Sem.run_bind, row1, Result.andThen_ok, Sem.run_pure]
  · match j, hj with
    | 0, _ => exact ⟨s, ao, n, c, cell_of_heap (i := 0) hh, cell_of_heap (i := 1) hh⟩

theorem do_rraw2 {x y : Operand} {u v : Value} (hs : (ops[i]?).isSome = true) (hop : (opAt ops i).op = .buildSlice 40 2 #[(0, x), (1, y)]) (hg : (opAt ops i).guard = none) (hx : A.eval x = u) (hy : A.eval y = v) (hu : Yd.raw.holds u w) (hv : Yd.raw.holds v w)
    (hK : ∀ v w', After w w' → (Yd.rraw 2).holds v w' → K (A.put (dstOf ops i) v) w') : OpDo Tryz.prog ops Q A i w K := by
  obtain ⟨s, ao, n, c, rfl⟩ := hu
  obtain ⟨s', ao', n', c', rfl⟩ := hv
  have hA := After.new w (.cells #[str s, .slice ao n c, str s', .slice ao' n' c'] 42)
  have hh := heap_new' w (.cells #[str s, .slice ao n c, str s', .slice ao' n' c'] 42)
  refine op_val hs (wanted_of hg) (v := .slice (some ⟨w.heap.size, 0, none⟩) 2 2) (w' := w.alloc (.cells #[str s, .slice ao n c, str s', .slice ao' n' c'] 42)) ?_ (hK _ _ hA ⟨_, _, _, rfl, by simp, fun j hj => ?_⟩)
  · unfold execOp
    simp only [hop, List.map_toArray, List.map_cons, List.map_nil, hx, hy, Sem.run_bind, row2, Result.andThen_ok, Sem.run_pure]
  · match j, hj with
    | 0, _ => exact ⟨s, ao, n, c, cell_of_heap (i := 0) hh, cell_of_heap (i := 1) hh⟩
    | 1, _ => exact ⟨s', ao', n', c', cell_of_heap (i := 2) hh, cell_of_heap (i := 3) hh⟩

theorem do_appraw {u1 u2 : Value} {n : Nat} (hs : (ops[i]?).isSome = true) (hg : (opAt ops i).guard = none) (hr : (execOp A.eval (opAt ops i)).run Tryz.prog w = .ok (.enter 19 #[u1, u2]) w) (h1 : Yd.raw.holds u1 w) (h2 : (Yd.rraw n).holds u2 w) (hn : n ≤ 1000)
    (hK : ∀ v w', After w w' → Yd.raw.holds v w' → K (A.put (dstOf ops i) v) w') : OpDo Tryz.prog ops Q A i w K := by
  obtain ⟨s, ao, m, c, rfl⟩ := h1
  refine op_call hs (wanted_of hg) hr ((s_appR w s ao m c n u2 h2 hn).mono ?_)
  rintro e w' ⟨s1, a1, n1, c1, rfl, ha⟩
  exact ⟨_, rfl, hK _ _ ha ⟨_, _, _, _, rfl⟩⟩

/-- The last: what looks like a tree is stored into a cell. -/
theorem do_store_raw {x y : Operand} {b : Nat} {p q u v : Value} (hs : (ops[i]?).isSome = true) (hop : (opAt ops i).op = .store 42 x y) (hg : (opAt ops i).guard = none) (hd : (dstOf ops i) = none) (hx : A.eval x = u) (hu : u = .pointer (some ⟨b, 0, none⟩)) (hv : A.eval y = v) (hy : Yd.raw.holds v w) (hb : w.heap[b]? = some (.cells #[p, q] 42 (0, 0)))
    (hK : ∀ s ao n c, v = .agg #[str s, .slice ao n c] → K A ((w.setCell ⟨b, 0, none⟩ (str s)).setCell ⟨b, 1, none⟩ (.slice ao n c))) : OpDo Tryz.prog ops Q A i w K := by
  obtain ⟨s, ao, n, c, rfl⟩ := hy
  have hth : w.there b 0 2 := fun j hj => by
    rw [Nat.zero_add]
    refine ⟨?_, by simp [World.frozen?, hb]⟩
    match j, hj with
    | 0, _ => rw [cell_of_heap (i := 0) hb]; rfl
    | 1, _ => rw [cell_of_heap (i := 1) hb]; rfl
  have hst : (Instr.storeAt 42 (.pointer (some ⟨b, 0, none⟩)) (.agg #[str s, .slice ao n c])).run Tryz.prog w = .ok () (w.setCells b 0 [str s, .slice ao n c]) := run_storeAt_mid w b 0 42 #[str s, .slice ao n c] hth (by kernel_rfl) (by kernel_rfl)
  constructor
  rw [opAt_of hs]
  simp only [wanted_of hg, if_true]
  unfold Oper.wp execOp
  simp only [hop, hx.trans hu, hv, Sem.run_bind, hst, Result.andThen_ok, Sem.run_pure, Oper.upon_skip]
  rw [opAt_dst hs, hd]
  exact hK s ao n c rfl
end
end Go.Proofs.YtfpekihdoclncaaGreat
