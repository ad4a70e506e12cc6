/-
  The model's l4Pair.
-/
import Derived.Test.YtfjohagdlaiapaaGreatPkV
import Derived.Test.YtfjohagdlaiapaaGreatPkU
import Derived.Test.YtfjohagdlaiapaaGreatPkB
namespace Go.Proofs.YtfjohagdlaiapaaGreat
open Go.RowKit

set_option maxHeartbeats 1000000
set_option maxRecDepth 100000

theorem s_pair4 (w : World) (a b : Tm) (s1 s2 : List UInt8) (a1 a2 : Option Addr) (n1 c1 n2 c2 : Nat) (h1 : ST w a (.agg #[str s1, .slice a1 n1 c1])) (h2 : ST w b (.agg #[str s2, .slice a2 n2 c2])) :
    Calls Tryz.prog 83 #[.agg #[str s1, .slice a1 n1 c1], .agg #[str s2, .slice a2 n2 c2]] w (TreePost w (Tm.pair a b)) := by
  obtain ⟨Y, hY⟩ : ∃ Y, Y = ((((w.alloc (.cells #[str s1, .slice a1 n1 c1] 55)).alloc (.cells #[str s2, .slice a2 n2 c2] 55)).alloc (.cells #[.string ⟨#[]⟩, .slice none 0 0] 55)).alloc (.cells #[str [115], .slice none 0 0] 55)).alloc (.cells #[str [107], .slice none 0 0] 55) := ⟨_, rfl⟩
  obtain ⟨os, hos⟩ : ∃ os : List Obj, os = [.cells #[str s1, .slice a1 n1 c1] 55, .cells #[str s2, .slice a2 n2 c2] 55, .cells #[.string ⟨#[]⟩, .slice none 0 0] 55, .cells #[str [115], .slice none 0 0] 55, .cells #[str [107], .slice none 0 0] 55] := ⟨_, rfl⟩
  have hX : Y = allocL w os := by rw [hY, hos]; rfl
  have hA : After w Y := by rw [hY]; exact ((((After.new _ _).alloc _).alloc _).alloc _).alloc _
  have g0 : Y.heap[w.heap.size]? = some (.cells #[str s1, .slice a1 n1 c1] 55 (0, 0)) := by rw [hX]; have := allocL_heap w os 0 (by rw [hos]; simp); simpa [hos] using this
  have g1 : Y.heap[w.heap.size + 1]? = some (.cells #[str s2, .slice a2 n2 c2] 55 (0, 0)) := by rw [hX]; have := allocL_heap w os 1 (by rw [hos]; simp); simpa [hos] using this
  have g2 : Y.heap[w.heap.size + 1 + 1]? = some (.cells #[.string ⟨#[]⟩, .slice none 0 0] 55 (0, 0)) := by rw [hX]; have := allocL_heap w os 2 (by rw [hos]; simp); simpa [hos] using this
  have g3 : Y.heap[w.heap.size + 1 + 1 + 1]? = some (.cells #[str [115], .slice none 0 0] 55 (0, 0)) := by rw [hX]; have := allocL_heap w os 3 (by rw [hos]; simp); simpa [hos] using this
  have g4 : Y.heap[w.heap.size + 1 + 1 + 1 + 1]? = some (.cells #[str [107], .slice none 0 0] 55 (0, 0)) := by rw [hX]; have := allocL_heap w os 4 (by rw [hos]; simp); simpa [hos] using this
  have H1 := Lib.hid (h1.later hA)
  have H2 := Lib.hid (h2.later hA)
  have G0 := Lib.hid g0
  have G1 := Lib.hid g1
  have G2 := Lib.hid g2
  have G3 := Lib.hid g3
  have G4 := Lib.hid g4
  have HA := Lib.hid hA
  have hself := (After.refl Y).drew
  clear h1 h2 g0 g1 g2 g3 g4 hX hos hA
  go_enter Tryz.func83, Tryz.ntmps83
  go_wp2_with fail
  rw [← hY]
  clear hY
  rename_i KK hKK
  refine wp_region_reg1 (n := 15) (by kernel_rfl) (by kernel_rfl) (by kernel_rfl) (by kernel_rfl) After After.refl (fun _ _ _ h g => h.trans g)
    (yds [.tree (.s), .tree (.s), .tree (Tm.I), .tree (.k), .tree (a), .row [a], .tree (.app .k a), .row [(Tm.I), (.app .k a)], .tree (.app (.app .s (Tm.I)) (.app .k a)), .tree (.k), .tree (b), .row [b], .tree (.app .k b), .row [(.app (.app .s (Tm.I)) (.app .k a)), (.app .k b)], .tree (.app (.app .s (.app (.app .s (Tm.I)) (.app .k a))) (.app .k b))]) yds_later (lt15 ?_ ?_ ?_ ?_ ?_ ?_ ?_ ?_ ?_ ?_ ?_ ?_ ?_ ?_ ?_) ?_
  · intro vs W hE hd K hK
    have hE' : After Y W := hself.trans hE
    have G := hE'.heap G3.out
    exact do_load (.tree (.s)) (x := .tmp 5) (by kernel_rfl) (by kernel_rfl) (by kernel_rfl) (by kernel_rfl) (cell_of_heap (i := 0) G) (cell_of_heap (i := 1) G) ⟨_, _, _, _, rfl, rfl⟩ hK
  · intro vs W hE hd K hK
    have hE' : After Y W := hself.trans hE
    have G := hE'.heap G3.out
    exact do_load (.tree (.s)) (x := .tmp 5) (by kernel_rfl) (by kernel_rfl) (by kernel_rfl) (by kernel_rfl) (cell_of_heap (i := 0) G) (cell_of_heap (i := 1) G) ⟨_, _, _, _, rfl, rfl⟩ hK
  · intro vs W hE hd K hK
    have hE' : After Y W := hself.trans hE
    exact do_call (Tm.I) (f := 105) (args := #[]) (by kernel_rfl) (by kernel_rfl) (by kernel_rfl) (s_i W) hK
  · intro vs W hE hd K hK
    have hE' : After Y W := hself.trans hE
    have G := hE'.heap G4.out
    exact do_load (.tree (.k)) (x := .tmp 6) (by kernel_rfl) (by kernel_rfl) (by kernel_rfl) (by kernel_rfl) (cell_of_heap (i := 0) G) (cell_of_heap (i := 1) G) ⟨_, _, _, _, rfl, rfl⟩ hK
  · intro vs W hE hd K hK
    have hE' : After Y W := hself.trans hE
    have G := hE'.heap G0.out
    exact do_load (.tree (a)) (x := .tmp 2) (by kernel_rfl) (by kernel_rfl) (by kernel_rfl) (by kernel_rfl) (cell_of_heap (i := 0) G) (cell_of_heap (i := 1) G) ⟨_, _, _, _, rfl, H1.out.later hE'⟩ hK
  · intro vs W hE hd K hK
    have hE' : After Y W := hself.trans hE
    exact do_row1 (x := .tmp 13) (u := vs 4) (by kernel_rfl) (by kernel_rfl) (by kernel_rfl) (by kernel_rfl) (hd 4 (by kernel_rfl)) hK
  · intro vs W hE hd K hK
    have hE' : After Y W := hself.trans hE
    exact do_app (u1 := vs 3) (u2 := vs 5) (us := [a]) (by kernel_rfl) (by kernel_rfl) (by kernel_rfl) (hd 3 (by kernel_rfl)) (hd 5 (by kernel_rfl)) (by simp) hK
  · intro vs W hE hd K hK
    have hE' : After Y W := hself.trans hE
    exact do_row2 (x := .tmp 11) (y := .tmp 15) (u := vs 2) (v := vs 6) (by kernel_rfl) (by kernel_rfl) (by kernel_rfl) (by kernel_rfl) (by kernel_rfl) (hd 2 (by kernel_rfl)) (hd 6 (by kernel_rfl)) hK
  · intro vs W hE hd K hK
    have hE' : After Y W := hself.trans hE
    exact do_app (u1 := vs 1) (u2 := vs 7) (us := [(Tm.I), (.app .k a)]) (by kernel_rfl) (by kernel_rfl) (by kernel_rfl) (hd 1 (by kernel_rfl)) (hd 7 (by kernel_rfl)) (by simp) hK
  · intro vs W hE hd K hK
    have hE' : After Y W := hself.trans hE
    have G := hE'.heap G4.out
    exact do_load (.tree (.k)) (x := .tmp 6) (by kernel_rfl) (by kernel_rfl) (by kernel_rfl) (by kernel_rfl) (cell_of_heap (i := 0) G) (cell_of_heap (i := 1) G) ⟨_, _, _, _, rfl, rfl⟩ hK
  · intro vs W hE hd K hK
    have hE' : After Y W := hself.trans hE
    have G := hE'.heap G1.out
    exact do_load (.tree (b)) (x := .tmp 3) (by kernel_rfl) (by kernel_rfl) (by kernel_rfl) (by kernel_rfl) (cell_of_heap (i := 0) G) (cell_of_heap (i := 1) G) ⟨_, _, _, _, rfl, H2.out.later hE'⟩ hK
  · intro vs W hE hd K hK
    have hE' : After Y W := hself.trans hE
    exact do_row1 (x := .tmp 19) (u := vs 10) (by kernel_rfl) (by kernel_rfl) (by kernel_rfl) (by kernel_rfl) (hd 10 (by kernel_rfl)) hK
  · intro vs W hE hd K hK
    have hE' : After Y W := hself.trans hE
    exact do_app (u1 := vs 9) (u2 := vs 11) (us := [b]) (by kernel_rfl) (by kernel_rfl) (by kernel_rfl) (hd 9 (by kernel_rfl)) (hd 11 (by kernel_rfl)) (by simp) hK
  · intro vs W hE hd K hK
    have hE' : After Y W := hself.trans hE
    exact do_row2 (x := .tmp 17) (y := .tmp 21) (u := vs 8) (v := vs 12) (by kernel_rfl) (by kernel_rfl) (by kernel_rfl) (by kernel_rfl) (by kernel_rfl) (hd 8 (by kernel_rfl)) (hd 12 (by kernel_rfl)) hK
  · intro vs W hE hd K hK
    have hE' : After Y W := hself.trans hE
    exact do_app (u1 := vs 0) (u2 := vs 13) (us := [(.app (.app .s (Tm.I)) (.app .k a)), (.app .k b)]) (by kernel_rfl) (by kernel_rfl) (by kernel_rfl) (hd 0 (by kernel_rfl)) (hd 13 (by kernel_rfl)) (by simp) hK
  · intro vs W hE hd K hK
    have hE' : After Y W := hself.trans hE
    have G := hE'.heap G2.out
    refine do_store ((.app (.app .s (.app (.app .s (Tm.I)) (.app .k a))) (.app .k b))) (x := .tmp 4) (y := .tmp 23) (v := vs 14) (by kernel_rfl) (by kernel_rfl) (by kernel_rfl) (by kernel_rfl) (by kernel_rfl) (by kernel_rfl) (hd 14 (by decide)) G (fun s ao n c hst => hK _ _ ?_)
    refine hKK _ _ ?_
    generalize hAA : frame _ _ vs = AA
    obtain rfl : AA = ⟨#[.agg #[str s1, .slice a1 n1 c1], .agg #[str s2, .slice a2 n2 c2], .pointer (some ⟨w.heap.size, 0, none⟩), .pointer (some ⟨w.heap.size + 1, 0, none⟩), .pointer (some ⟨w.heap.size + 1 + 1, 0, none⟩), .pointer (some ⟨w.heap.size + 1 + 1 + 1, 0, none⟩), .pointer (some ⟨w.heap.size + 1 + 1 + 1 + 1, 0, none⟩), .agg #[str [115], .slice none 0 0], .agg #[str [107], .slice none 0 0], vs 0, vs 1, vs 2, vs 3, vs 4, vs 5, vs 6, vs 7, vs 8, vs 9, vs 10, vs 11, vs 12, vs 13, vs 14], []⟩ := by rw [← hAA]; kernel_rfl
    clear hAA hK
    obtain ⟨z0, z1, _, _, _⟩ := pair_facts G (After.refl _)
    have hAW := HA.out.trans hE'
    clear hd
    go_wp2_with fail
    refine bodyPost_ret (v := .agg #[str s, .slice ao n c]) (by simp [results, Tryz.results83, go_sem, z0, z1]) rfl
      ⟨s, ao, n, c, rfl, after_sets2 hAW G (by omega) _ _, hst⟩

theorem s_pair4' (w : World) (a b : Tm) (v1 v2 : Value) (h1 : (Yd.tree a).holds v1 w) (h2 : (Yd.tree b).holds v2 w) : Calls Tryz.prog 83 #[v1, v2] w (TreePost w (Tm.pair a b)) := by
  obtain ⟨s1, a1, n1, c1, rfl, h1⟩ := h1
  obtain ⟨s2, a2, n2, c2, rfl, h2⟩ := h2
  exact s_pair4 w a b s1 s2 a1 a2 n1 c1 n2 c2 h1 h2
end Go.Proofs.YtfjohagdlaiapaaGreat

namespace Go.Proofs.YtfjohagdlaiapaaGreat
open Go.RowKit

set_option maxHeartbeats 1000000
set_option maxRecDepth 100000

theorem ST.code4 : ∀ {t : Tm} {w : World} {v : Value}, ST w t v → (∀ n, Tm.has n t = false) → Calls Tryz.prog 56 #[v] w (TreePost w t.code) := by
  intro t
  induction t with
  | k =>
    intro w v h _
    obtain rfl : v = .agg #[str [107], .slice none 0 0] := h
    obtain ⟨Y, hY⟩ : ∃ Y, Y = ((w.alloc (.cells #[str [107], .slice none 0 0] 55)).alloc (.cells #[.string ⟨#[]⟩, .slice none 0 0] 55)).alloc (.cells #[str [120], str [121], str [122]] 9) := ⟨_, rfl⟩
    obtain ⟨os, hos⟩ : ∃ os : List Obj, os = [.cells #[str [107], .slice none 0 0] 55, .cells #[.string ⟨#[]⟩, .slice none 0 0] 55, .cells #[str [120], str [121], str [122]] 9] := ⟨_, rfl⟩
    have hX : Y = allocL w os := by rw [hY, hos]; rfl
    have hA : After w Y := by rw [hY]; exact (((After.new _ _).alloc _).alloc _)
    have g0 : Y.heap[w.heap.size]? = some (.cells #[str [107], .slice none 0 0] 55 (0, 0)) := by rw [hX]; have := allocL_heap w os 0 (by rw [hos]; simp); simpa [hos] using this
    have G0 := Lib.hid g0
    have g1 : Y.heap[w.heap.size + 1]? = some (.cells #[.string ⟨#[]⟩, .slice none 0 0] 55 (0, 0)) := by rw [hX]; have := allocL_heap w os 1 (by rw [hos]; simp); simpa [hos] using this
    have G1 := Lib.hid g1
    have g2 : Y.heap[w.heap.size + 1 + 1]? = some (.cells #[str [120], str [121], str [122]] 9 (0, 0)) := by rw [hX]; have := allocL_heap w os 2 (by rw [hos]; simp); simpa [hos] using this
    have G2 := Lib.hid g2
    have HA := Lib.hid hA
    have hself := (After.refl Y).drew
    clear hX hos hA g0 g1 g2
    have hn := s_nm Y [120]
    go_enter Tryz.func56, Tryz.ntmps56
    go_wp2_with fail
    rw [← hY]
    clear hY
    refine hn.mono ?_
    rintro e w1 ⟨rfl, hb1⟩
    have k1 := s_all3 w1 (w.heap.size + 1 + 1) Tm.X [120] none 0 0 rfl (by decide +kernel) (by kernel_rfl) (hb1.heap G2.out)
    rw [show lastL [[122], [121], [120]] Tm.X = Tm.kC by kernel_rfl] at k1
    unfold TreePost at k1
    clear hn
    go_wp2_with fail
    refine k1.mono ?_
    rintro e w2 ⟨s2, ao2, n2, c2, rfl, hb2, ht2⟩
    have G := (hb1.trans hb2).heap G1.out
    obtain ⟨z0, z1, z2, z3, _⟩ := pair_facts G (After.refl _)
    have HT := Lib.hid (ht2.sets2 (i := 0) (j := 1) (u := str s2) (u' := .slice ao2 n2 c2) G)
    have hAW := HA.out.trans (hb1.trans hb2)
    clear ht2 k1
    go_wp2_with fail
    refine bodyPost_ret (v := .agg #[str s2, .slice ao2 n2 c2]) (by simp [results, Tryz.results56, go_sem, z0, z1]) rfl
      ⟨s2, ao2, n2, c2, rfl, after_sets2 hAW G (by omega) _ _, HT.out⟩
  | s =>
    intro w v h _
    obtain rfl : v = .agg #[str [115], .slice none 0 0] := h
    obtain ⟨Y, hY⟩ : ∃ Y, Y = ((w.alloc (.cells #[str [115], .slice none 0 0] 55)).alloc (.cells #[.string ⟨#[]⟩, .slice none 0 0] 55)).alloc (.cells #[str [120], str [121], str [122]] 9) := ⟨_, rfl⟩
    obtain ⟨os, hos⟩ : ∃ os : List Obj, os = [.cells #[str [115], .slice none 0 0] 55, .cells #[.string ⟨#[]⟩, .slice none 0 0] 55, .cells #[str [120], str [121], str [122]] 9] := ⟨_, rfl⟩
    have hX : Y = allocL w os := by rw [hY, hos]; rfl
    have hA : After w Y := by rw [hY]; exact (((After.new _ _).alloc _).alloc _)
    have g0 : Y.heap[w.heap.size]? = some (.cells #[str [115], .slice none 0 0] 55 (0, 0)) := by rw [hX]; have := allocL_heap w os 0 (by rw [hos]; simp); simpa [hos] using this
    have G0 := Lib.hid g0
    have g1 : Y.heap[w.heap.size + 1]? = some (.cells #[.string ⟨#[]⟩, .slice none 0 0] 55 (0, 0)) := by rw [hX]; have := allocL_heap w os 1 (by rw [hos]; simp); simpa [hos] using this
    have G1 := Lib.hid g1
    have g2 : Y.heap[w.heap.size + 1 + 1]? = some (.cells #[str [120], str [121], str [122]] 9 (0, 0)) := by rw [hX]; have := allocL_heap w os 2 (by rw [hos]; simp); simpa [hos] using this
    have G2 := Lib.hid g2
    have HA := Lib.hid hA
    have hself := (After.refl Y).drew
    clear hX hos hA g0 g1 g2
    have hn := s_nm Y [121]
    go_enter Tryz.func56, Tryz.ntmps56
    go_wp2_with fail
    rw [← hY]
    clear hY
    refine hn.mono ?_
    rintro e w1 ⟨rfl, hb1⟩
    have k1 := s_all3 w1 (w.heap.size + 1 + 1) Tm.Y [121] none 0 0 rfl (by decide +kernel) (by kernel_rfl) (hb1.heap G2.out)
    rw [show lastL [[122], [121], [120]] Tm.Y = Tm.sC by kernel_rfl] at k1
    unfold TreePost at k1
    clear hn
    go_wp2_with fail
    refine k1.mono ?_
    rintro e w2 ⟨s2, ao2, n2, c2, rfl, hb2, ht2⟩
    have G := (hb1.trans hb2).heap G1.out
    obtain ⟨z0, z1, z2, z3, _⟩ := pair_facts G (After.refl _)
    have HT := Lib.hid (ht2.sets2 (i := 0) (j := 1) (u := str s2) (u' := .slice ao2 n2 c2) G)
    have hAW := HA.out.trans (hb1.trans hb2)
    clear ht2 k1
    go_wp2_with fail
    refine bodyPost_ret (v := .agg #[str s2, .slice ao2 n2 c2]) (by simp [results, Tryz.results56, go_sem, z0, z1]) rfl
      ⟨s2, ao2, n2, c2, rfl, after_sets2 hAW G (by omega) _ _, HT.out⟩
  | nm n =>
    intro w v _ h
    have := h n
    simp [Tm.has] at this
  | app f a ihf iha =>
    intro w v h hn
    have hnf : ∀ n, Tm.has n f = false := fun n => by have := hn n; simp [Tm.has] at this; exact this.1
    have hna : ∀ n, Tm.has n a = false := fun n => by have := hn n; simp [Tm.has] at this; exact this.2
    obtain ⟨g, cap, fr, s0, p0, s1, p1, rfl, hh, hf, ha⟩ := h
    have ihf : ∀ {W : World} {v : Value}, ST W f v → Calls Tryz.prog 56 #[v] W (TreePost W f.code) := fun h => ihf h hnf
    have iha : ∀ {W : World} {v : Value}, ST W a v → Calls Tryz.prog 56 #[v] W (TreePost W a.code) := fun h => iha h hna
    obtain ⟨Y, hY⟩ : ∃ Y, Y = (((w.alloc (.cells #[str [], .slice (some ⟨g, 0, none⟩) 2 cap] 55)).alloc (.cells #[.string ⟨#[]⟩, .slice none 0 0] 55)).alloc (.cells #[str [120], str [121], str [122]] 9)).alloc (.cells #[str [107], .slice none 0 0] 55) := ⟨_, rfl⟩
    obtain ⟨os, hos⟩ : ∃ os : List Obj, os = [.cells #[str [], .slice (some ⟨g, 0, none⟩) 2 cap] 55, .cells #[.string ⟨#[]⟩, .slice none 0 0] 55, .cells #[str [120], str [121], str [122]] 9, .cells #[str [107], .slice none 0 0] 55] := ⟨_, rfl⟩
    have hX : Y = allocL w os := by rw [hY, hos]; rfl
    have hA : After w Y := by rw [hY]; exact ((((After.new _ _).alloc _).alloc _).alloc _)
    have g0 : Y.heap[w.heap.size]? = some (.cells #[str [], .slice (some ⟨g, 0, none⟩) 2 cap] 55 (0, 0)) := by rw [hX]; have := allocL_heap w os 0 (by rw [hos]; simp); simpa [hos] using this
    have G0 := Lib.hid g0
    have g1 : Y.heap[w.heap.size + 1]? = some (.cells #[.string ⟨#[]⟩, .slice none 0 0] 55 (0, 0)) := by rw [hX]; have := allocL_heap w os 1 (by rw [hos]; simp); simpa [hos] using this
    have G1 := Lib.hid g1
    have g2 : Y.heap[w.heap.size + 1 + 1]? = some (.cells #[str [120], str [121], str [122]] 9 (0, 0)) := by rw [hX]; have := allocL_heap w os 2 (by rw [hos]; simp); simpa [hos] using this
    have G2 := Lib.hid g2
    have g3 : Y.heap[w.heap.size + 1 + 1 + 1]? = some (.cells #[str [107], .slice none 0 0] 55 (0, 0)) := by rw [hX]; have := allocL_heap w os 3 (by rw [hos]; simp); simpa [hos] using this
    have G3 := Lib.hid g3
    have HA := Lib.hid hA
    have hself := (After.refl Y).drew
    clear hX hos hA g0 g1 g2 g3
    have HF := Lib.hid (hf.later HA.out)
    have HT := Lib.hid (ha.later HA.out)
    have HH := Lib.hid (HA.out.heap hh)
    clear hf ha hh hn
    have hcode : Tm.code (.app f a) = .app .k (.app .k (Tm.pair (Tm.code f) (Tm.code a))) := rfl
    rw [hcode]
    clear hcode
    go_enter Tryz.func56, Tryz.ntmps56
    go_wp2_with fail
    rw [← hY]
    clear hY
    rename_i KK hKK
    refine wp_region_reg1 (n := 17) (by kernel_rfl) (by kernel_rfl) (by kernel_rfl) (by kernel_rfl) After After.refl (fun _ _ _ h g => h.trans g)
      (yds [.tree (.k), .tree (.k), .lit (.pointer (some ⟨w.heap.size, 1, none⟩)), .lit (.slice (some ⟨g, 0, none⟩) 2 cap), .lit (.pointer (some ⟨g, 0, none⟩)), .tree (f), .tree (Tm.code f), .lit (.pointer (some ⟨w.heap.size, 1, none⟩)), .lit (.slice (some ⟨g, 0, none⟩) 2 cap), .lit (.pointer (some ⟨g, 2, none⟩)), .tree (a), .tree (Tm.code a), .tree (Tm.pair (Tm.code f) (Tm.code a)), .row [Tm.pair (Tm.code f) (Tm.code a)], .tree (.app (.k) (Tm.pair (Tm.code f) (Tm.code a))), .row [.app (.k) (Tm.pair (Tm.code f) (Tm.code a))], .tree (.app (.k) (.app (.k) (Tm.pair (Tm.code f) (Tm.code a))))]) yds_later (lt17 ?_ ?_ ?_ ?_ ?_ ?_ ?_ ?_ ?_ ?_ ?_ ?_ ?_ ?_ ?_ ?_ ?_) ?_
    · intro vs W hE hd K hK
      have hE' : After Y W := hself.trans hE
      have G := hE'.heap G3.out
      exact do_load (.tree (.k)) (x := .tmp 4) (by kernel_rfl) (by kernel_rfl) (by kernel_rfl) (by kernel_rfl) (cell_of_heap (i := 0) G) (cell_of_heap (i := 1) G) ⟨_, _, _, _, rfl, rfl⟩ hK
    · intro vs W hE hd K hK
      have hE' : After Y W := hself.trans hE
      have G := hE'.heap G3.out
      exact do_load (.tree (.k)) (x := .tmp 4) (by kernel_rfl) (by kernel_rfl) (by kernel_rfl) (by kernel_rfl) (cell_of_heap (i := 0) G) (cell_of_heap (i := 1) G) ⟨_, _, _, _, rfl, rfl⟩ hK
    · intro vs W hE hd K hK
      have hE' : After Y W := hself.trans hE
      exact do_pure (v := .pointer (some ⟨w.heap.size, 1, none⟩)) (.lit (.pointer (some ⟨w.heap.size, 1, none⟩))) (by kernel_rfl) (by kernel_rfl) (by kernel_rfl) rfl hK
    · intro vs W hE hd K hK
      have hE' : After Y W := hself.trans hE
      have G := hE'.heap G0.out
      exact do_load1 (.lit (.slice (some ⟨g, 0, none⟩) 2 cap)) (x := .tmp 21) (u := vs 2) (by kernel_rfl) (by kernel_rfl) (by kernel_rfl) (by kernel_rfl) (hd 2 (by kernel_rfl)) (cell_of_heap (i := 1) G) rfl hK
    · intro vs W hE hd K hK
      have hE' : After Y W := hself.trans hE
      exact do_index0 (x := .tmp 22) (u := vs 3) (by kernel_rfl) (by kernel_rfl) (by kernel_rfl) (by kernel_rfl) (hd 3 (by kernel_rfl)) hK
    · intro vs W hE hd K hK
      have hE' : After Y W := hself.trans hE
      have G := hE'.heap HH.out
      exact do_loadu (.tree (f)) (x := .tmp 23) (u := vs 4) (by kernel_rfl) (by kernel_rfl) (by kernel_rfl) (by kernel_rfl) (hd 4 (by kernel_rfl)) (cell_of_heap (i := 0) G) (cell_of_heap (i := 1) G) (treeOf (HF.out.later hE')) hK
    · intro vs W hE hd K hK
      have hE' : After Y W := hself.trans hE
      exact do_call (Tm.code f) (f := 56) (args := #[vs 5]) (by kernel_rfl) (by kernel_rfl) (by kernel_rfl) (ihf (stOf (hd 5 (by kernel_rfl)))) hK
    · intro vs W hE hd K hK
      have hE' : After Y W := hself.trans hE
      exact do_pure (v := .pointer (some ⟨w.heap.size, 1, none⟩)) (.lit (.pointer (some ⟨w.heap.size, 1, none⟩))) (by kernel_rfl) (by kernel_rfl) (by kernel_rfl) rfl hK
    · intro vs W hE hd K hK
      have hE' : After Y W := hself.trans hE
      have G := hE'.heap G0.out
      exact do_load1 (.lit (.slice (some ⟨g, 0, none⟩) 2 cap)) (x := .tmp 26) (u := vs 7) (by kernel_rfl) (by kernel_rfl) (by kernel_rfl) (by kernel_rfl) (hd 7 (by kernel_rfl)) (cell_of_heap (i := 1) G) rfl hK
    · intro vs W hE hd K hK
      have hE' : After Y W := hself.trans hE
      exact do_index1 (x := .tmp 27) (u := vs 8) (by kernel_rfl) (by kernel_rfl) (by kernel_rfl) (by kernel_rfl) (hd 8 (by kernel_rfl)) hK
    · intro vs W hE hd K hK
      have hE' : After Y W := hself.trans hE
      have G := hE'.heap HH.out
      exact do_loadu (.tree (a)) (x := .tmp 28) (u := vs 9) (by kernel_rfl) (by kernel_rfl) (by kernel_rfl) (by kernel_rfl) (hd 9 (by kernel_rfl)) (cell_of_heap (i := 2) G) (cell_of_heap (i := 3) G) (treeOf (HT.out.later hE')) hK
    · intro vs W hE hd K hK
      have hE' : After Y W := hself.trans hE
      exact do_call (Tm.code a) (f := 56) (args := #[vs 10]) (by kernel_rfl) (by kernel_rfl) (by kernel_rfl) (iha (stOf (hd 10 (by kernel_rfl)))) hK
    · intro vs W hE hd K hK
      have hE' : After Y W := hself.trans hE
      exact do_call (Tm.pair (Tm.code f) (Tm.code a)) (f := 83) (args := #[vs 6, vs 11]) (by kernel_rfl) (by kernel_rfl) (by kernel_rfl) (s_pair4' W _ _ _ _ (hd 6 (by kernel_rfl)) (hd 11 (by kernel_rfl))) hK
    · intro vs W hE hd K hK
      have hE' : After Y W := hself.trans hE
      exact do_row1 (x := .tmp 31) (u := vs 12) (by kernel_rfl) (by kernel_rfl) (by kernel_rfl) (by kernel_rfl) (hd 12 (by kernel_rfl)) hK
    · intro vs W hE hd K hK
      have hE' : After Y W := hself.trans hE
      exact do_app (u1 := vs 1) (u2 := vs 13) (us := [Tm.pair (Tm.code f) (Tm.code a)]) (by kernel_rfl) (by kernel_rfl) (by kernel_rfl) (hd 1 (by kernel_rfl)) (hd 13 (by kernel_rfl)) (by simp) hK
    · intro vs W hE hd K hK
      have hE' : After Y W := hself.trans hE
      exact do_row1 (x := .tmp 33) (u := vs 14) (by kernel_rfl) (by kernel_rfl) (by kernel_rfl) (by kernel_rfl) (hd 14 (by kernel_rfl)) hK
    · intro vs W hE hd K hK
      have hE' : After Y W := hself.trans hE
      exact do_app (u1 := vs 0) (u2 := vs 15) (us := [.app (.k) (Tm.pair (Tm.code f) (Tm.code a))]) (by kernel_rfl) (by kernel_rfl) (by kernel_rfl) (hd 0 (by kernel_rfl)) (hd 15 (by kernel_rfl)) (by simp) hK
    intro vs W hE hd K hK
    have hE' : After Y W := hself.trans hE
    have G := hE'.heap G1.out
    refine do_store (.app (.k) (.app (.k) (Tm.pair (Tm.code f) (Tm.code a)))) (x := .tmp 2) (y := .tmp 35) (v := vs 16) (by kernel_rfl) (by kernel_rfl) (by kernel_rfl) (by kernel_rfl) (by kernel_rfl) (by kernel_rfl) (hd 16 (by decide)) G (fun rs ra rn rc hst => hK _ _ ?_)
    refine hKK _ _ ?_
    generalize hAA : frame _ _ vs = AA
    obtain rfl : AA = ⟨#[.agg #[str [], .slice (some ⟨g, 0, none⟩) 2 cap], .pointer (some ⟨w.heap.size, 0, none⟩), .pointer (some ⟨w.heap.size + 1, 0, none⟩), .slice (some ⟨w.heap.size + 1 + 1, 0, none⟩) 3 3, .pointer (some ⟨w.heap.size + 1 + 1 + 1, 0, none⟩), .slice (some ⟨w.heap.size + 1 + 1, 0, none⟩) 3 3, .pointer (some ⟨w.heap.size, 0, none⟩), str [], .bool false, .bool false, undef, undef, undef, .bool false, .bool false, undef, undef, undef, .agg #[str [107], .slice none 0 0], vs 0, vs 1, vs 2, vs 3, vs 4, vs 5, vs 6, vs 7, vs 8, vs 9, vs 10, vs 11, vs 12, vs 13, vs 14, vs 15, vs 16], []⟩ := by rw [← hAA]; kernel_rfl
    clear hAA hK
    obtain ⟨z0, z1, _, _, _⟩ := pair_facts G (After.refl _)
    have hAW := HA.out.trans hE'
    clear hd
    go_wp2_with fail
    refine bodyPost_ret (v := .agg #[str rs, .slice ra rn rc]) (by simp [results, Tryz.results56, go_sem, z0, z1]) rfl
      ⟨rs, ra, rn, rc, rfl, after_sets2 hAW G (by omega) _ _, hst⟩
end Go.Proofs.YtfjohagdlaiapaaGreat

namespace Go.Proofs.YtfjohagdlaiapaaGreat
open Go.RowKit

set_option maxHeartbeats 2000000
set_option maxRecDepth 100000

theorem s_run4 (w : World) : Calls Tryz.prog 33 #[] w (TreePost w Tm.runC) := by
  obtain ⟨Z, hZ⟩ : ∃ Z, Z = w.alloc (.cells #[.string ⟨#[]⟩, .slice none 0 0] 55) := ⟨_, rfl⟩
  have hAZ : After w Z := by rw [hZ]; exact After.new _ _
  have hGZ : Z.heap[w.heap.size]? = some (.cells #[.string ⟨#[]⟩, .slice none 0 0] 55 (0, 0)) := by rw [hZ]; exact heap_new' _ _
  have hn := s_nm Z [117]
  have HAZ := Lib.hid hAZ
  have HGZ := Lib.hid hGZ
  clear hAZ hGZ
  go_enter Tryz.func33, Tryz.ntmps33
  go_wp2_with fail
  rw [← hZ]
  clear hZ
  refine hn.mono ?_
  rintro e w1 ⟨rfl, hb1⟩
  clear hn
  go_wp2_with fail
  obtain ⟨Y, hY⟩ : ∃ Y, Y = w1.alloc (.cells #[str [117], .slice none 0 0] 55) := ⟨_, rfl⟩
  have hAY : After Z Y := by rw [hY]; exact hb1.alloc _
  have hGU : Y.heap[w1.heap.size]? = some (.cells #[str [117], .slice none 0 0] 55 (0, 0)) := by rw [hY]; exact heap_new' _ _
  have GU := Lib.hid hGU
  have GR0 := Lib.hid (hAY.heap HGZ.out)
  have AY := Lib.hid (HAZ.out.trans hAY)
  have hself := (After.refl Y).drew
  rw [← hY]
  clear hY hGU hAY hb1
  generalize w1.heap.size = u at GU ⊢
  rename_i KK2 hKK2
  refine wp_region_reg1 (n := 13) (by kernel_rfl) (by kernel_rfl) (by kernel_rfl) (by kernel_rfl) After After.refl (fun _ _ _ h g => h.trans g)
    (yds [.names [[120], [121]], .tree (Tm.U), .tree (.nm [120]), .row [.nm [120]], .tree (.app (Tm.U) (.nm [120])), .tree (Tm.U), .tree (.nm [121]), .row [.nm [121]], .tree (.app (Tm.U) (.nm [121])), .row [.app (Tm.U) (.nm [121])], .tree (.app (.app (Tm.U) (.nm [120])) (.app (Tm.U) (.nm [121]))), .tree (lastL [[121], [120]] (.app (.app (Tm.U) (.nm [120])) (.app (Tm.U) (.nm [121])))), .cell (Y.heap.size)]) yds_later (lt13 ?_ ?_ ?_ ?_ ?_ ?_ ?_ ?_ ?_ ?_ ?_ ?_ ?_) ?_
  · intro vs2 W2 hE2 hd2 K hK
    have hE2' : After Y W2 := hself.trans hE2
    exact do_names (xs := [[120], [121]]) (by kernel_rfl) (by kernel_rfl) (by kernel_rfl) hK
  · intro vs2 W2 hE2 hd2 K hK
    have hE2' : After Y W2 := hself.trans hE2
    have G2 := hE2'.heap GU.out
    exact do_load (.tree (Tm.U)) (x := .tmp 1) (by kernel_rfl) (by kernel_rfl) (by kernel_rfl) (by kernel_rfl) (cell_of_heap (i := 0) G2) (cell_of_heap (i := 1) G2) ⟨_, _, _, _, rfl, rfl⟩ hK
  · intro vs2 W2 hE2 hd2 K hK
    have hE2' : After Y W2 := hself.trans hE2
    exact do_name (x := [120]) (by kernel_rfl) (by kernel_rfl) (by kernel_rfl) hK
  · intro vs2 W2 hE2 hd2 K hK
    have hE2' : After Y W2 := hself.trans hE2
    exact do_row1 (x := .tmp 7) (u := vs2 2) (by kernel_rfl) (by kernel_rfl) (by kernel_rfl) (by kernel_rfl) (hd2 2 (by kernel_rfl)) hK
  · intro vs2 W2 hE2 hd2 K hK
    have hE2' : After Y W2 := hself.trans hE2
    exact do_app (u1 := vs2 1) (u2 := vs2 3) (us := [.nm [120]]) (by kernel_rfl) (by kernel_rfl) (by kernel_rfl) (hd2 1 (by kernel_rfl)) (hd2 3 (by kernel_rfl)) (by simp) hK
  · intro vs2 W2 hE2 hd2 K hK
    have hE2' : After Y W2 := hself.trans hE2
    have G2 := hE2'.heap GU.out
    exact do_load (.tree (Tm.U)) (x := .tmp 1) (by kernel_rfl) (by kernel_rfl) (by kernel_rfl) (by kernel_rfl) (cell_of_heap (i := 0) G2) (cell_of_heap (i := 1) G2) ⟨_, _, _, _, rfl, rfl⟩ hK
  · intro vs2 W2 hE2 hd2 K hK
    have hE2' : After Y W2 := hself.trans hE2
    exact do_name (x := [121]) (by kernel_rfl) (by kernel_rfl) (by kernel_rfl) hK
  · intro vs2 W2 hE2 hd2 K hK
    have hE2' : After Y W2 := hself.trans hE2
    exact do_row1 (x := .tmp 11) (u := vs2 6) (by kernel_rfl) (by kernel_rfl) (by kernel_rfl) (by kernel_rfl) (hd2 6 (by kernel_rfl)) hK
  · intro vs2 W2 hE2 hd2 K hK
    have hE2' : After Y W2 := hself.trans hE2
    exact do_app (u1 := vs2 5) (u2 := vs2 7) (us := [.nm [121]]) (by kernel_rfl) (by kernel_rfl) (by kernel_rfl) (hd2 5 (by kernel_rfl)) (hd2 7 (by kernel_rfl)) (by simp) hK
  · intro vs2 W2 hE2 hd2 K hK
    have hE2' : After Y W2 := hself.trans hE2
    exact do_row1 (x := .tmp 13) (u := vs2 8) (by kernel_rfl) (by kernel_rfl) (by kernel_rfl) (by kernel_rfl) (hd2 8 (by kernel_rfl)) hK
  · intro vs2 W2 hE2 hd2 K hK
    have hE2' : After Y W2 := hself.trans hE2
    exact do_app (u1 := vs2 4) (u2 := vs2 9) (us := [.app (Tm.U) (.nm [121])]) (by kernel_rfl) (by kernel_rfl) (by kernel_rfl) (hd2 4 (by kernel_rfl)) (hd2 9 (by kernel_rfl)) (by simp) hK
  · intro vs2 W2 hE2 hd2 K hK
    have hE2' : After Y W2 := hself.trans hE2
    exact do_all (u1 := vs2 0) (u2 := vs2 10) (xs := [[120], [121]]) (t := .app (.app (Tm.U) (.nm [120])) (.app (Tm.U) (.nm [121]))) (by kernel_rfl) (by kernel_rfl) (by kernel_rfl) (hd2 0 (by kernel_rfl)) (hd2 10 (by kernel_rfl)) (by decide) (by decide) (by decide +kernel) (by kernel_rfl) hK
  · intro vs2 W2 hE2 hd2 K hK
    have hE2' : After Y W2 := hself.trans hE2
    exact do_cell (by kernel_rfl) (by kernel_rfl) hE2'.size (by kernel_rfl) hK
  intro vs2 W2 hE2 hd2 K hK
  have hE2' : After Y W2 := hself.trans hE2
  obtain ⟨gg2, c02, c12, ec2, hg2, G2⟩ := hd2 12 (by decide)
  refine do_store_at (lastL [[121], [120]] (.app (.app (Tm.U) (.nm [120])) (.app (Tm.U) (.nm [121])))) (x := .tmp 2) (y := .tmp 16) (v := vs2 11) (p := c02) (q := c12) (u := vs2 12) (by kernel_rfl) (by kernel_rfl) (by kernel_rfl) (by kernel_rfl) (by kernel_rfl) ec2 (by kernel_rfl) (hd2 11 (by decide)) G2 (fun rs2 ra2 rn2 rc2 hst2 => hK _ _ ?_)
  refine hKK2 _ _ ?_
  generalize hAA : frame _ _ vs2 = AA
  obtain rfl : AA = ⟨#[.pointer (some ⟨w.heap.size, 0, none⟩), .pointer (some ⟨u, 0, none⟩), .pointer (some ⟨gg2, 0, none⟩), undef, .agg #[str [117], .slice none 0 0], vs2 0, vs2 1, vs2 2, vs2 3, vs2 4, vs2 5, vs2 6, vs2 7, vs2 8, vs2 9, vs2 10, vs2 11, undef, undef, undef, undef, undef, undef, undef, undef, undef, undef, undef, undef], []⟩ := by rw [← hAA, ← ec2]; kernel_rfl
  clear hAA hK
  obtain ⟨Y3, hY3⟩ : ∃ X, X = (W2.setCell ⟨gg2, 0, none⟩ (str rs2)).setCell ⟨gg2, 1, none⟩ (.slice ra2 rn2 rc2) := ⟨_, rfl⟩
  have hAY3 : After Y Y3 := by rw [hY3]; exact after_sets2 hE2' G2 hg2 _ _
  have hGY3 : Y3.heap[gg2]? = some (.cells #[str rs2, .slice ra2 rn2 rc2] 55 (0, 0)) := by rw [hY3]; exact heap_sets2 G2
  rw [← hY3] at hst2 ⊢
  have GY3 := Lib.hid hGY3
  have SY3 := Lib.hid hst2
  have AY3 := Lib.hid hAY3
  have hselfY3 := (After.refl Y3).drew
  clear hY3 hGY3 hst2 hAY3 G2 hd2 hE2 hE2' hg2 ec2
  go_wp2_with fail
  rename_i KK3 hKK3
  refine wp_region_reg1 (n := 9) (by kernel_rfl) (by kernel_rfl) (by kernel_rfl) (by kernel_rfl) After After.refl (fun _ _ _ h g => h.trans g)
    (yds [.names [[117], [118]], .tree (.nm [118]), .tree .k, .tree .s, .tree (lastL [[121], [120]] (.app (.app (Tm.U) (.nm [120])) (.app (Tm.U) (.nm [121])))), .row [.k, .s, lastL [[121], [120]] (.app (.app (Tm.U) (.nm [120])) (.app (Tm.U) (.nm [121])))], .tree (.app (.app (.app (.nm [118]) (.k)) (.s)) (lastL [[121], [120]] (.app (.app (Tm.U) (.nm [120])) (.app (Tm.U) (.nm [121]))))), .tree (lastL [[118], [117]] (.app (.app (.app (.nm [118]) (.k)) (.s)) (lastL [[121], [120]] (.app (.app (Tm.U) (.nm [120])) (.app (Tm.U) (.nm [121])))))), .cell (Y3.heap.size)]) yds_later (lt9 ?_ ?_ ?_ ?_ ?_ ?_ ?_ ?_ ?_) ?_
  · intro vs3 W3 hE3 hd3 K hK
    have hE3' : After Y3 W3 := hselfY3.trans hE3
    exact do_names (xs := [[117], [118]]) (by kernel_rfl) (by kernel_rfl) (by kernel_rfl) hK
  · intro vs3 W3 hE3 hd3 K hK
    have hE3' : After Y3 W3 := hselfY3.trans hE3
    exact do_name (x := [118]) (by kernel_rfl) (by kernel_rfl) (by kernel_rfl) hK
  · intro vs3 W3 hE3 hd3 K hK
    have hE3' : After Y3 W3 := hselfY3.trans hE3
    exact do_pure (v := .agg #[str [107], .slice none 0 0]) (.tree .k) (by kernel_rfl) (by kernel_rfl) (by kernel_rfl) ⟨_, _, _, _, rfl, rfl⟩ hK
  · intro vs3 W3 hE3 hd3 K hK
    have hE3' : After Y3 W3 := hselfY3.trans hE3
    exact do_pure (v := .agg #[str [115], .slice none 0 0]) (.tree .s) (by kernel_rfl) (by kernel_rfl) (by kernel_rfl) ⟨_, _, _, _, rfl, rfl⟩ hK
  · intro vs3 W3 hE3 hd3 K hK
    have hE3' : After Y3 W3 := hselfY3.trans hE3
    have G3 := hE3'.heap GY3.out
    exact do_load (.tree (lastL [[121], [120]] (.app (.app (Tm.U) (.nm [120])) (.app (Tm.U) (.nm [121]))))) (x := .tmp 2) (by kernel_rfl) (by kernel_rfl) (by kernel_rfl) (by kernel_rfl) (cell_of_heap (i := 0) G3) (cell_of_heap (i := 1) G3) ⟨_, _, _, _, rfl, SY3.out.later hE3'⟩ hK
  · intro vs3 W3 hE3 hd3 K hK
    have hE3' : After Y3 W3 := hselfY3.trans hE3
    exact do_row3 (x := .tmp 19) (y := .tmp 20) (z := .tmp 21) (u := vs3 2) (v := vs3 3) (q := vs3 4) (by kernel_rfl) (by kernel_rfl) (by kernel_rfl) (by kernel_rfl) (by kernel_rfl) (by kernel_rfl) (hd3 2 (by kernel_rfl)) (hd3 3 (by kernel_rfl)) (hd3 4 (by kernel_rfl)) hK
  · intro vs3 W3 hE3 hd3 K hK
    have hE3' : After Y3 W3 := hselfY3.trans hE3
    exact do_app (u1 := vs3 1) (u2 := vs3 5) (us := [.k, .s, lastL [[121], [120]] (.app (.app (Tm.U) (.nm [120])) (.app (Tm.U) (.nm [121])))]) (by kernel_rfl) (by kernel_rfl) (by kernel_rfl) (hd3 1 (by kernel_rfl)) (hd3 5 (by kernel_rfl)) (by simp) hK
  · intro vs3 W3 hE3 hd3 K hK
    have hE3' : After Y3 W3 := hselfY3.trans hE3
    exact do_all (u1 := vs3 0) (u2 := vs3 6) (xs := [[117], [118]]) (t := .app (.app (.app (.nm [118]) (.k)) (.s)) (lastL [[121], [120]] (.app (.app (Tm.U) (.nm [120])) (.app (Tm.U) (.nm [121]))))) (by kernel_rfl) (by kernel_rfl) (by kernel_rfl) (hd3 0 (by kernel_rfl)) (hd3 6 (by kernel_rfl)) (by decide) (by decide) (by decide +kernel) (by kernel_rfl) hK
  · intro vs3 W3 hE3 hd3 K hK
    have hE3' : After Y3 W3 := hselfY3.trans hE3
    exact do_cell (by kernel_rfl) (by kernel_rfl) hE3'.size (by kernel_rfl) hK
  intro vs3 W3 hE3 hd3 K hK
  have hE3' : After Y3 W3 := hselfY3.trans hE3
  obtain ⟨gg3, c03, c13, ec3, hg3, G3⟩ := hd3 8 (by decide)
  refine do_store_at (lastL [[118], [117]] (.app (.app (.app (.nm [118]) (.k)) (.s)) (lastL [[121], [120]] (.app (.app (Tm.U) (.nm [120])) (.app (Tm.U) (.nm [121])))))) (x := .tmp 3) (y := .tmp 24) (v := vs3 7) (p := c03) (q := c13) (u := vs3 8) (by kernel_rfl) (by kernel_rfl) (by kernel_rfl) (by kernel_rfl) (by kernel_rfl) ec3 (by kernel_rfl) (hd3 7 (by decide)) G3 (fun rs3 ra3 rn3 rc3 hst3 => hK _ _ ?_)
  refine hKK3 _ _ ?_
  generalize hAA : frame _ _ vs3 = AA
  obtain rfl : AA = ⟨#[.pointer (some ⟨w.heap.size, 0, none⟩), .pointer (some ⟨u, 0, none⟩), .pointer (some ⟨gg2, 0, none⟩), .pointer (some ⟨gg3, 0, none⟩), .agg #[str [117], .slice none 0 0], vs2 0, vs2 1, vs2 2, vs2 3, vs2 4, vs2 5, vs2 6, vs2 7, vs2 8, vs2 9, vs2 10, vs2 11, vs3 0, vs3 1, vs3 2, vs3 3, vs3 4, vs3 5, vs3 6, vs3 7, undef, undef, undef, undef], []⟩ := by rw [← hAA, ← ec3]; kernel_rfl
  clear hAA hK
  obtain ⟨Y4, hY4⟩ : ∃ X, X = (W3.setCell ⟨gg3, 0, none⟩ (str rs3)).setCell ⟨gg3, 1, none⟩ (.slice ra3 rn3 rc3) := ⟨_, rfl⟩
  have hAY4 : After Y3 Y4 := by rw [hY4]; exact after_sets2 hE3' G3 hg3 _ _
  have hGY4 : Y4.heap[gg3]? = some (.cells #[str rs3, .slice ra3 rn3 rc3] 55 (0, 0)) := by rw [hY4]; exact heap_sets2 G3
  rw [← hY4] at hst3 ⊢
  have GY4 := Lib.hid hGY4
  have SY4 := Lib.hid hst3
  have AY4 := Lib.hid hAY4
  have hselfY4 := (After.refl Y4).drew
  clear hY4 hGY4 hst3 hAY4 G3 hd3 hE3 hE3' hg3 ec3
  have GR := Lib.hid (AY4.out.heap (AY3.out.heap GR0.out))
  go_wp2_with fail
  rename_i KK4 hKK4
  refine wp_region_reg1 (n := 4) (by kernel_rfl) (by kernel_rfl) (by kernel_rfl) (by kernel_rfl) After After.refl (fun _ _ _ h g => h.trans g)
    (yds [.tree (Tm.fix), .tree (lastL [[118], [117]] (.app (.app (.app (.nm [118]) (.k)) (.s)) (lastL [[121], [120]] (.app (.app (Tm.U) (.nm [120])) (.app (Tm.U) (.nm [121])))))), .row [lastL [[118], [117]] (.app (.app (.app (.nm [118]) (.k)) (.s)) (lastL [[121], [120]] (.app (.app (Tm.U) (.nm [120])) (.app (Tm.U) (.nm [121])))))], .tree (.app (Tm.fix) (lastL [[118], [117]] (.app (.app (.app (.nm [118]) (.k)) (.s)) (lastL [[121], [120]] (.app (.app (Tm.U) (.nm [120])) (.app (Tm.U) (.nm [121])))))))]) yds_later (lt4 ?_ ?_ ?_ ?_) ?_
  · intro vs4 W4 hE4 hd4 K hK
    have hE4' : After Y4 W4 := hselfY4.trans hE4
    exact do_call (Tm.fix) (f := 62) (args := #[]) (by kernel_rfl) (by kernel_rfl) (by kernel_rfl) (s_fix W4) hK
  · intro vs4 W4 hE4 hd4 K hK
    have hE4' : After Y4 W4 := hselfY4.trans hE4
    have G4 := hE4'.heap GY4.out
    exact do_load (.tree (lastL [[118], [117]] (.app (.app (.app (.nm [118]) (.k)) (.s)) (lastL [[121], [120]] (.app (.app (Tm.U) (.nm [120])) (.app (Tm.U) (.nm [121]))))))) (x := .tmp 3) (by kernel_rfl) (by kernel_rfl) (by kernel_rfl) (by kernel_rfl) (cell_of_heap (i := 0) G4) (cell_of_heap (i := 1) G4) ⟨_, _, _, _, rfl, SY4.out.later hE4'⟩ hK
  · intro vs4 W4 hE4 hd4 K hK
    have hE4' : After Y4 W4 := hselfY4.trans hE4
    exact do_row1 (x := .tmp 26) (u := vs4 1) (by kernel_rfl) (by kernel_rfl) (by kernel_rfl) (by kernel_rfl) (hd4 1 (by kernel_rfl)) hK
  · intro vs4 W4 hE4 hd4 K hK
    have hE4' : After Y4 W4 := hselfY4.trans hE4
    exact do_app (u1 := vs4 0) (u2 := vs4 2) (us := [lastL [[118], [117]] (.app (.app (.app (.nm [118]) (.k)) (.s)) (lastL [[121], [120]] (.app (.app (Tm.U) (.nm [120])) (.app (Tm.U) (.nm [121])))))]) (by kernel_rfl) (by kernel_rfl) (by kernel_rfl) (hd4 0 (by kernel_rfl)) (hd4 2 (by kernel_rfl)) (by simp) hK
  intro vs4 W4 hE4 hd4 K hK
  have hE4' : After Y4 W4 := hselfY4.trans hE4
  have G4 := hE4'.heap GR.out
  refine do_store (.app (Tm.fix) (lastL [[118], [117]] (.app (.app (.app (.nm [118]) (.k)) (.s)) (lastL [[121], [120]] (.app (.app (Tm.U) (.nm [120])) (.app (Tm.U) (.nm [121]))))))) (x := .tmp 0) (y := .tmp 28) (v := vs4 3) (by kernel_rfl) (by kernel_rfl) (by kernel_rfl) (by kernel_rfl) (by kernel_rfl) (by kernel_rfl) (hd4 3 (by decide)) G4 (fun rs4 ra4 rn4 rc4 hst4 => hK _ _ ?_)
  refine hKK4 _ _ ?_
  generalize hAA : frame _ _ vs4 = AA
  obtain rfl : AA = ⟨#[.pointer (some ⟨w.heap.size, 0, none⟩), .pointer (some ⟨u, 0, none⟩), .pointer (some ⟨gg2, 0, none⟩), .pointer (some ⟨gg3, 0, none⟩), .agg #[str [117], .slice none 0 0], vs2 0, vs2 1, vs2 2, vs2 3, vs2 4, vs2 5, vs2 6, vs2 7, vs2 8, vs2 9, vs2 10, vs2 11, vs3 0, vs3 1, vs3 2, vs3 3, vs3 4, vs3 5, vs3 6, vs3 7, vs4 0, vs4 1, vs4 2, vs4 3], []⟩ := by rw [← hAA]; kernel_rfl
  clear hAA hK
  obtain ⟨z0, z1, _, _, _⟩ := pair_facts G4 (After.refl _)
  have hAW := ((AY.out.trans AY3.out).trans AY4.out).trans hE4'
  rw [show (.app (Tm.fix) (lastL [[118], [117]] (.app (.app (.app (.nm [118]) (.k)) (.s)) (lastL [[121], [120]] (.app (.app (Tm.U) (.nm [120])) (.app (Tm.U) (.nm [121])))))) : Tm) = Tm.runC by kernel_rfl] at hst4
  clear hd4
  go_wp2_with fail
  refine bodyPost_ret (v := .agg #[str rs4, .slice ra4 rn4 rc4]) (by simp [results, Tryz.results33, go_sem, z0, z1]) rfl
    ⟨rs4, ra4, rn4, rc4, rfl, after_sets2 hAW G4 (Nat.le_refl _) _ _, hst4⟩
end Go.Proofs.YtfjohagdlaiapaaGreat

namespace Go.Proofs.YtfjohagdlaiapaaGreat
open Go.RowKit

set_option maxHeartbeats 2000000
set_option maxRecDepth 100000

theorem closed_of {t : Tm} (h : Tm.names [] t = []) (n : List UInt8) : Tm.has n t = false := by
  cases hh : Tm.has n t with
  | false => rfl
  | true =>
    have := (Tm.mem_names n t []).2 (Or.inr hh)
    rw [h] at this
    cases this
theorem join_closed : ∀ n : List UInt8, Tm.has n Tm.joinC = false := closed_of (by kernel_rfl)

end Go.Proofs.YtfjohagdlaiapaaGreat

namespace Go.Proofs.YtfjohagdlaiapaaGreat
open Go.RowKit

set_option maxHeartbeats 2000000
set_option maxRecDepth 100000

/-- A tree and whether it is a closed term. -/
def SClosedPost (w : World) (l : List UInt8) (e : Ending) (w' : World) : Prop :=
  ∃ s ao n c, e = .returned (.tuple #[.agg #[str s, .slice ao n c], .bool (Tm.closedOf l).isSome]) ∧ After w w' ∧ ∀ t, Tm.closedOf l = some t → ST w' t (.agg #[str s, .slice ao n c])

theorem names_call' (X : World) (t : Tm) (v : Value) (g : Nat) (hg' : g = X.heap.size) (h : ST X t v) (hg : t.good = true) (hs : t.size ≤ 3000) :
    Calls Tryz.prog 54 #[v, .slice (some ⟨g, 0, none⟩) 0 0] (X.alloc (.cells #[] 9)) fun e w' =>
      ∃ sv, e = .returned sv ∧ After X w' ∧ w'.ownsRow X.heap.size 9 1 sv (t.names []).length ((t.names []).map str) := by
  subst hg'
  have hown := own_empty X
  have hnames := ST.names h hg _ (After.new _ (.cells #[] 9)) _ [] hown (by simp; omega)
  refine hnames.mono ?_
  rintro e w2 ⟨sv, he, ho, hgr, hor⟩
  refine ⟨sv, he, ?_, ho⟩
  exact (After.new X (.cells #[] 9)).grown hgr (by simp) (fun k hk => by simp [Value.ownBlock] at hk; omega)

theorem s_closed4 (w : World) (l : List UInt8) (hl : l.length ≤ 1000000000) :
    Calls Tryz.prog 29 #[str l] w (SClosedPost w l) := by
  have hterm := fun W => s_term W l hl
  unfold STermPost at hterm
  cases hp : Tm.parse l with
  | none =>
    have H := Lib.hid (show Tm.closedOf l = none by simp [Tm.closedOf, hp])
    simp only [hp] at hterm
    clear hp
    go_enter Tryz.func29, Tryz.ntmps29
    go_wp2_with fail
    refine (hterm _).mono ?_
    rintro e w1 ⟨s1, ao1, n1, c1, rfl, hb1, ht1⟩
    clear ht1 hterm
    obtain ⟨r0, r1, f0, f1, hz⟩ := box2 hb1
    go_wp2_with fail
    go_region
    go_wp2_with fail
    exact bodyPost_ret (v := .tuple #[.agg #[str s1, .slice ao1 n1 c1], .bool false]) (by simp [results, Tryz.results29, go_sem, r0, r1, hz]) rfl
      ⟨s1, ao1, n1, c1, by rw [H.out]; rfl, After.drew (After.alloc (After.set2 hb1) _), fun t he => by rw [H.out] at he; simp at he⟩
  | some t =>
    obtain ⟨hg, hf, hs, _, _⟩ := Tm.parse_facts hp
    obtain ⟨k, hk⟩ : ∃ k, k = (t.names []).length := ⟨_, rfl⟩
    have hfin : Tm.closedOf l = if k = 0 then some t else none := by
      unfold Tm.closedOf
      rw [hp, hk]
      by_cases h0 : t.names [] = []
      · simp [h0]
      · have : ¬ (t.names []).length = 0 := fun e => h0 (List.length_eq_zero_iff.1 e)
        have h0' : (t.names []).isEmpty = false := by simpa using h0
        simp [h0', this]
    have HK := Lib.hid hk
    have H := Lib.hid hfin
    simp only [hp] at hterm
    clear hp hfin hk
    obtain ⟨b, hb⟩ : ∃ b, b = decide (k = 0) := ⟨_, rfl⟩
    have hkb : ((k : Int) == 0) = b := by rw [hb, Bool.eq_iff_iff, beq_iff_eq, decide_eq_true_eq]; omega
    have hsome : b = (Tm.closedOf l).isSome := by
      rw [H.out, hb]
      by_cases h0 : k = 0 <;> simp [h0]
    have hok : ∀ t', Tm.closedOf l = some t' → t' = t := fun t' h => by
      rw [H.out] at h
      split at h
      · exact (Option.some.inj h).symm
      · cases h
    have HS := Lib.hid hsome
    have HOK := Lib.hid hok
    clear hb hsome hok H
    cases b with
    | true =>
      obtain rfl : k = 0 := by simpa using hkb
      go_enter Tryz.func29, Tryz.ntmps29
      go_wp2_with fail
      refine (hterm _).mono ?_
      rintro e w1 ⟨s1, ao1, n1, c1, rfl, hb1, ht1⟩
      have hst := Lib.hid (ht1 t rfl)
      clear ht1 hterm
      obtain ⟨r0, r1, f0, f1, hz⟩ := box2 hb1
      have hal := After.new w1 (.cells #[str s1, .slice ao1 n1 c1] 55)
      have hsz1 : w.heap.size < w1.heap.size := hz
      obtain ⟨Y, hY⟩ : ∃ Y, Y = w1.alloc (.cells #[str s1, .slice ao1 n1 c1] 55) := ⟨_, rfl⟩
      have hGt : Y.heap[w1.heap.size]? = some (.cells #[str s1, .slice ao1 n1 c1] 55 (0, 0)) := by rw [hY]; exact heap_new' _ _
      have hYs : Y.heap.size = w1.heap.size + 1 := by rw [hY]; simp
      rw [← hY] at hal
      have HST := Lib.hid (hst.out.later hal)
      have HYS := Lib.hid hYs
      have hself := After.refl Y
      have hbf : ButFor Y w.heap.size Y.drew := ⟨Nat.le_refl _, fun _ _ _ => rfl⟩
      have o0 : ∀ W, ButFor Y w.heap.size W → W.cell? ⟨w1.heap.size, 0, none⟩ = some (str s1) := fun W hW => hW.cell (by omega) (cell_of_heap (i := 0) hGt)
      have o1 : ∀ W, ButFor Y w.heap.size W → W.cell? ⟨w1.heap.size, 1, none⟩ = some (.slice ao1 n1 c1) := fun W hW => hW.cell (by omega) (cell_of_heap (i := 1) hGt)
      clear hst hGt hYs
      go_wp2_with fail
      rw [← hY]
      clear hY
      go_region_held3 (fun W' => ButFor Y w.heap.size W') (first | assumption | exact hbf | exact ButFor.alloc (by assumption) _ | exact hbf.alloc _ | exact ButFor.set (by assumption) _ _ | exact ButFor.set (ButFor.set (by assumption) _ _) _ _)
        (first
          | (go_at_call 54
             refine (names_call' Y.drew t _ _ ?_ (HST.out.later hself.drew) hg hs).mono ?_
             · (first | rfl | (simp; done) | (have := HYS.out; simp; omega))
             rintro e w2 ⟨sv, rfl, hb2, ho2⟩
             rw [← HK.out] at ho2
             obtain ⟨ao, ac, rfl⟩ := own_slice_len ho2
             clear ho2
             have hS2 : ButFor Y w.heap.size w2 := After.butFor (hself.drew.trans hb2)
             have hb3 := (hb1.trans hal).trans (hself.drew.trans hb2)
             obtain ⟨p0, p1, p2, p3, p4⟩ := box2 hb3))
      all_goals
        go_wp2_with fail
        exact bodyPost_ret (v := .tuple #[.agg #[str s1, .slice ao1 n1 c1], .bool true]) (by simp [results, Tryz.results29, go_sem, p0, p1]) rfl ⟨s1, ao1, n1, c1, by rw [← HS.out], After.set2 hb3, fun t' he => by obtain rfl := HOK.out t' he; exact (HST.out.later (hself.drew.trans hb2)).sets (i := 0) (j := 1) hb3⟩
    | false =>
      go_enter Tryz.func29, Tryz.ntmps29
      go_wp2_with fail
      refine (hterm _).mono ?_
      rintro e w1 ⟨s1, ao1, n1, c1, rfl, hb1, ht1⟩
      have hst := Lib.hid (ht1 t rfl)
      clear ht1 hterm
      obtain ⟨r0, r1, f0, f1, hz⟩ := box2 hb1
      have hal := After.new w1 (.cells #[str s1, .slice ao1 n1 c1] 55)
      have hsz1 : w.heap.size < w1.heap.size := hz
      obtain ⟨Y, hY⟩ : ∃ Y, Y = w1.alloc (.cells #[str s1, .slice ao1 n1 c1] 55) := ⟨_, rfl⟩
      have hGt : Y.heap[w1.heap.size]? = some (.cells #[str s1, .slice ao1 n1 c1] 55 (0, 0)) := by rw [hY]; exact heap_new' _ _
      have hYs : Y.heap.size = w1.heap.size + 1 := by rw [hY]; simp
      rw [← hY] at hal
      have HST := Lib.hid (hst.out.later hal)
      have HYS := Lib.hid hYs
      have hself := After.refl Y
      have hbf : ButFor Y w.heap.size Y.drew := ⟨Nat.le_refl _, fun _ _ _ => rfl⟩
      have o0 : ∀ W, ButFor Y w.heap.size W → W.cell? ⟨w1.heap.size, 0, none⟩ = some (str s1) := fun W hW => hW.cell (by omega) (cell_of_heap (i := 0) hGt)
      have o1 : ∀ W, ButFor Y w.heap.size W → W.cell? ⟨w1.heap.size, 1, none⟩ = some (.slice ao1 n1 c1) := fun W hW => hW.cell (by omega) (cell_of_heap (i := 1) hGt)
      clear hst hGt hYs
      go_wp2_with fail
      rw [← hY]
      clear hY
      go_region_held3 (fun W' => ButFor Y w.heap.size W') (first | assumption | exact hbf | exact ButFor.alloc (by assumption) _ | exact hbf.alloc _ | exact ButFor.set (by assumption) _ _ | exact ButFor.set (ButFor.set (by assumption) _ _) _ _)
        (first
          | (go_at_call 54
             refine (names_call' Y.drew t _ _ ?_ (HST.out.later hself.drew) hg hs).mono ?_
             · (first | rfl | (simp; done) | (have := HYS.out; simp; omega))
             rintro e w2 ⟨sv, rfl, hb2, ho2⟩
             rw [← HK.out] at ho2
             obtain ⟨ao, ac, rfl⟩ := own_slice_len ho2
             clear ho2
             have hS2 : ButFor Y w.heap.size w2 := After.butFor (hself.drew.trans hb2)
             have hb3 := (hb1.trans hal).trans (hself.drew.trans hb2)
             obtain ⟨p0, p1, p2, p3, p4⟩ := box2 hb3))
      all_goals
        go_wp2_with fail
        exact bodyPost_ret (v := .tuple #[.agg #[str s1, .slice ao1 n1 c1], .bool false]) (by simp [results, Tryz.results29, go_sem, p0, p1]) rfl ⟨s1, ao1, n1, c1, by rw [← HS.out], After.set2 hb3, fun t' he => by obtain rfl := HOK.out t' he; exact (HST.out.later (hself.drew.trans hb2)).sets (i := 0) (j := 1) hb3⟩

end Go.Proofs.YtfjohagdlaiapaaGreat

namespace Go.Proofs.YtfjohagdlaiapaaGreat
open Go.RowKit

set_option maxHeartbeats 2000000
set_option maxRecDepth 100000

/-- What l4Small makes of a closed term. -/
def smallT (t : Tm) : Tm := if t.size ≤ 300 then t.code else t
def smallB (t : Tm) : Bool := if t.size ≤ 300 then t.code.fits else false
theorem small_eq {t : Tm} (hn : t.names [] = []) : smallB t = t.code.fits := by
  unfold smallB
  split
  · rfl
  · rename_i h
    have hge := Tm.code_size_ge t (fun n e => by subst e; simp [Tm.names] at hn) (fun x hx => by rw [hn] at hx; cases hx)
    have : ¬ t.code.size ≤ 3000 := by omega
    simp [Tm.fits, this]
theorem small_some {t : Tm} (h : smallB t = true) : smallT t = t.code := by
  unfold smallB at h
  unfold smallT
  split at h
  · rename_i h1; rw [if_pos h1]
  · cases h

theorem s_small4 (w : World) (t : Tm) (s : List UInt8) (ao : Option Addr) (m c : Nat) (h : ST w t (.agg #[str s, .slice ao m c])) (hg : t.good = true) (hz : t.size ≤ 1000000) (hn : t.names [] = []) :
    Calls Tryz.prog 30 #[.agg #[str s, .slice ao m c]] w (SNormPost w (smallT t) (smallB t)) := by
  obtain ⟨Y, hY⟩ : ∃ Y, Y = (w.alloc (.cells #[str s, .slice ao m c] 55)).alloc (.cells #[.string ⟨#[]⟩, .slice none 0 0] 55) := ⟨_, rfl⟩
  have hA : After w Y := by rw [hY]; exact (After.new _ _).alloc _
  have hq : Y.heap[w.heap.size]? = some (.cells #[str s, .slice ao m c] 55 (0, 0)) := by rw [hY]; exact heap_old2 _ _ _
  have hr : Y.heap[w.heap.size + 1]? = some (.cells #[.string ⟨#[]⟩, .slice none 0 0] 55 (0, 0)) := by rw [hY]; exact heap_new2 w _ _ _ rfl
  have HQ := Lib.hid hq
  have HR := Lib.hid hr
  have HA := Lib.hid hA
  have HT := Lib.hid (h.later hA)
  have hsize := (h.later hA).size hg (by omega)
  obtain ⟨q0, q1, _, _, _⟩ := pair_facts hq (After.refl Y)
  clear hq hr hA h
  by_cases h3 : t.size ≤ 300
  · have h3' : ¬ (300 : Int) < (t.size : Int) := by omega
    have e1 : smallT t = t.code := by unfold smallT; rw [if_pos h3]
    have e2 : smallB t = t.code.fits := by unfold smallB; rw [if_pos h3]
    rw [e1, e2]
    have hcz := Tm.code_size_le t
    have hgc := Tm.code_good t hg
    have hcl := closed_of hn
    have HN := Lib.hid hcl
    clear e1 e2 hcl
    go_enter Tryz.func30, Tryz.ntmps30
    go_wp2_with fail
    rw [← hY]
    clear hY
    refine hsize.mono ?_
    rintro e w1 ⟨rfl, hb1⟩
    obtain ⟨p0, p1, _, _, _⟩ := pair_facts HQ.out hb1
    have hcode := ST.code4 (HT.out.later hb1) HN.out
    unfold TreePost at hcode
    clear hsize q0 q1
    go_wp2_with fail
    refine hcode.mono ?_
    rintro e w2 ⟨s2, ao2, n2, c2, rfl, hb2, ht2⟩
    obtain ⟨X, hX⟩ : ∃ X, X = w2.alloc (.cells #[str s2, .slice ao2 n2 c2] 55) := ⟨_, rfl⟩
    have hal : After w2 X := by rw [hX]; exact After.new _ _
    have hGt : X.heap[w2.heap.size]? = some (.cells #[str s2, .slice ao2 n2 c2] 55 (0, 0)) := by rw [hX]; exact heap_new' _ _
    have hlt : w.heap.size + 1 < w2.heap.size := by have := (Array.getElem?_eq_some_iff.1 ((hb1.trans hb2).heap HR.out)).1; omega
    have HST := Lib.hid (ht2.later hal)
    have hAX := (hb1.trans hb2).trans hal
    have hself := After.refl X
    have hbf : ButFor X (w.heap.size + 1) X.drew := ⟨Nat.le_refl _, fun _ _ _ => rfl⟩
    have o0 : ∀ W, ButFor X (w.heap.size + 1) W → W.cell? ⟨w2.heap.size, 0, none⟩ = some (str s2) := fun W hW => hW.cell (by omega) (cell_of_heap (i := 0) hGt)
    have o1 : ∀ W, ButFor X (w.heap.size + 1) W → W.cell? ⟨w2.heap.size, 1, none⟩ = some (.slice ao2 n2 c2) := fun W hW => hW.cell (by omega) (cell_of_heap (i := 1) hGt)
    obtain ⟨b, hb⟩ : ∃ b, b = t.code.fits := ⟨_, rfl⟩
    have hfine := fun W (hW : After X W) => (HST.out.later hW).fine hgc (by omega)
    rw [← hb] at hfine
    have HB := Lib.hid hb
    clear ht2 hcode hGt hb p0 p1
    go_wp2_with fail
    rw [← hX]
    clear hX
    go_region_held3 (fun W' => ButFor X (w.heap.size + 1) W') (first | assumption | exact hbf | exact ButFor.alloc (by assumption) _ | exact hbf.alloc _ | exact ButFor.set (by assumption) _ _ | exact ButFor.set (ButFor.set (by assumption) _ _) _ _)
      (first
        | (go_at_call 57
           refine (hfine _ hself.drew).mono ?_
           rintro e w3 ⟨rfl, hb3⟩
           have hS3 : ButFor X (w.heap.size + 1) w3 := After.butFor (hself.drew.trans hb3)
           have hA3 := hAX.trans (hself.drew.trans hb3)
           have G := hA3.heap HR.out
           obtain ⟨z0, z1, z2, z3, z4⟩ := pair_facts G (After.refl _)))
    all_goals
      go_wp2_with fail
      exact bodyPost_ret (v := .tuple #[.agg #[str s2, .slice ao2 n2 c2], .bool b]) (by simp [results, Tryz.results30, go_sem, z0, z1]) rfl
        ⟨s2, ao2, n2, c2, by rw [HB.out], after_sets2 (HA.out.trans hA3) G (Nat.le_succ _) _ _, (HST.out.later (hself.drew.trans hb3)).sets2 (i := 0) (j := 1) G⟩
  · have h3' : (300 : Int) < (t.size : Int) := by omega
    have e1 : smallT t = t := by unfold smallT; rw [if_neg h3]
    have e2 : smallB t = false := by unfold smallB; rw [if_neg h3]
    rw [e1, e2]
    clear e1 e2
    go_enter Tryz.func30, Tryz.ntmps30
    go_wp2_with fail
    rw [← hY]
    clear hY
    refine hsize.mono ?_
    rintro e w1 ⟨rfl, hb1⟩
    obtain ⟨p0, p1, _, _, _⟩ := pair_facts HQ.out hb1
    have G := hb1.heap HR.out
    obtain ⟨z0, z1, z2, z3, z4⟩ := pair_facts G (After.refl _)
    have HT2 := Lib.hid ((HT.out.later hb1).sets2 (i := 0) (j := 1) (u := str s) (u' := .slice ao m c) G)
    clear hsize q0 q1
    go_wp2_with fail
    exact bodyPost_ret (v := .tuple #[.agg #[str s, .slice ao m c], .bool false]) (by simp [results, Tryz.results30, go_sem, z0, z1]) rfl
      ⟨s, ao, m, c, rfl, after_sets2 (HA.out.trans hb1) G (Nat.le_succ _) _ _, HT2.out⟩

/-- What is told of an end. -/
def endR (x : Tm) (ok : Bool) : Option (List UInt8) := if ok = true then (Tm.endOf x).map Tm.text else none

theorem s_end4 (w : World) (x : Tm) (ok : Bool) (s : List UInt8) (ao : Option Addr) (m c : Nat) (h : ok = true → ST w x (.agg #[str s, .slice ao m c]) ∧ x.good = true ∧ x.size ≤ 1000000) :
    Calls Tryz.prog 31 #[.agg #[str s, .slice ao m c], .bool ok] w fun e w' => e = .returned (.tuple #[str ((endR x ok).getD []), .bool (endR x ok).isSome]) ∧ After w w' := by
  cases ok with
  | false =>
    have hn := After.new w (.cells #[str s, .slice ao m c] 55)
    rw [show endR x false = none from rfl]
    clear h
    go_enter Tryz.func31, Tryz.ntmps31
    go_wp2_with fail
    go_ret2
    exact ⟨rfl, hn⟩
  | true =>
    obtain ⟨hst, hg, hz⟩ := h rfl
    rw [show endR x true = (Tm.endOf x).map Tm.text from rfl]
    obtain ⟨y, hy⟩ : ∃ y, y = (if x.fits = true then (x.many 6000).1 else x) := ⟨_, rfl⟩
    obtain ⟨b, hb⟩ : ∃ b, b = (x.fits && y.step.isNone) := ⟨_, rfl⟩
    have hnorm : ∀ W s ao m c, ST W x (.agg #[str s, .slice ao m c]) → Calls Tryz.prog 58 #[.agg #[str s, .slice ao m c]] W (SNormPost W y b) := by
      intro W s ao m c h
      cases hfa : x.fits with
      | false =>
        rw [hfa] at hy hb
        simp only [Bool.false_eq_true, if_false, Bool.false_and] at hy hb
        rw [hy, hb]
        exact s_normal_no W _ s ao m c h hg hz hfa
      | true =>
        rw [hfa] at hy hb
        simp only [if_true, Bool.true_and] at hy hb
        rw [hb, hy]
        exact s_normal W _ s ao m c h hg hfa
    have hfin : (Tm.endOf x).map Tm.text = if b = true then some y.text else none := by
      rw [Tm.endOf_eq]
      simp only [normal_none]
      cases hfa : x.fits with
      | false => rw [hfa] at hb; simp only [Bool.false_and] at hb; simp [hb]
      | true =>
        rw [hfa] at hy hb
        simp only [if_true, Bool.true_and] at hy hb
        rw [hb, hy]
        cases (x.many 6000).1.step.isNone <;> rfl
    have hgx : b = true → y.good = true ∧ y.text.length ≤ 100000000 := by
      intro hbt
      rw [hbt] at hb
      obtain ⟨hfa, _⟩ := Bool.and_eq_true_iff.1 hb.symm
      rw [hfa] at hy
      simp only [if_true] at hy
      obtain ⟨hgm, hfm⟩ := Tm.many_good 6000 _ hg hfa
      rw [← hy] at hgm hfm
      have htm := Tm.text_le _ hgm
      have hsm := fits_size hfm
      exact ⟨hgm, by omega⟩
    rw [hfin]
    have HGX := Lib.hid hgx
    have hn := After.new w (.cells #[str s, .slice ao m c] 55)
    have hbox := heap_new' w (.cells #[str s, .slice ao m c] 55)
    obtain ⟨k0, k1, _, _, _⟩ := pair_facts hbox (After.refl _)
    have hcall := hnorm _ _ _ _ _ (hst.later hn)
    unfold SNormPost at hcall
    clear hfin hy hb hgx hnorm hst hbox h
    cases b
    all_goals
      simp only [if_true, Bool.false_eq_true, if_false]
      go_enter Tryz.func31, Tryz.ntmps31
      go_wp2_with fail
      refine hcall.mono ?_
      rintro e w4 ⟨s4, ao4, n4, c4, rfl, hb4, ht4⟩
      have hw4 := After.alloc (hn.trans hb4) (.cells #[str s4, .slice ao4 n4 c4] 55)
      first
        | (have htext := (ht4.later (After.new w4 (.cells #[str s4, .slice ao4 n4 c4] 55))).text (HGX.out (by trivial)).1 (HGX.out (by trivial)).2
           clear ht4 hcall HGX
           go_wp2_with (go_at_call 59; refine htext.mono ?_; rintro e w5 ⟨rfl, hb5⟩)
           go_ret2
           exact ⟨rfl, hw4.trans hb5⟩)
        | (clear ht4 hcall HGX
           go_wp2_with fail
           go_ret2
           exact ⟨rfl, hw4⟩)
end Go.Proofs.YtfjohagdlaiapaaGreat

namespace Go.Proofs.YtfjohagdlaiapaaGreat
open Go.RowKit

set_option maxHeartbeats 1000000
set_option maxRecDepth 100000

def SOne' (w : World) (r : Option (List UInt8)) (e : Ending) (w' : World) : Prop :=
  e = .returned (.tuple #[str (r.getD []), .bool r.isSome]) ∧ After w w'

end Go.Proofs.YtfjohagdlaiapaaGreat
