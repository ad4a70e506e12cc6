/-
  The model's l4Pair.
-/
import Derived.Test.YtfpekihdoclncaaGreatPkAY
import Derived.Test.YtfpekihdoclncaaGreatPkAN
namespace Go.Proofs.YtfpekihdoclncaaGreat
open Go.RowKit

set_option maxHeartbeats 1000000
set_option maxRecDepth 100000

theorem s_pair4 (w : World) (a b : Tm) (s1 s2 : List UInt8) (a1 a2 : Option Addr) (n1 c1 n2 c2 : Nat) (h1 : ST w a (.agg #[str s1, .slice a1 n1 c1])) (h2 : ST w b (.agg #[str s2, .slice a2 n2 c2])) :
    Calls Tryz.prog 57 #[.agg #[str s1, .slice a1 n1 c1], .agg #[str s2, .slice a2 n2 c2]] w (TreePost w (Tm.pair a b)) := by
  obtain ⟨Y, hY⟩ : ∃ Y, Y = ((((w.alloc (.cells #[str s1, .slice a1 n1 c1] 42)).alloc (.cells #[str s2, .slice a2 n2 c2] 42)).alloc (.cells #[.string ⟨#[]⟩, .slice none 0 0] 42)).alloc (.cells #[str [115], .slice none 0 0] 42)).alloc (.cells #[str [107], .slice none 0 0] 42) := ⟨_, rfl⟩
  obtain ⟨os, hos⟩ : ∃ os : List Obj, os = [.cells #[str s1, .slice a1 n1 c1] 42, .cells #[str s2, .slice a2 n2 c2] 42, .cells #[.string ⟨#[]⟩, .slice none 0 0] 42, .cells #[str [115], .slice none 0 0] 42, .cells #[str [107], .slice none 0 0] 42] := ⟨_, rfl⟩
  have hX : Y = allocL w os := by rw [hY, hos]; rfl
  have hA : After w Y := by rw [hY]; exact ((((After.new _ _).alloc _).alloc _).alloc _).alloc _
  have g0 : Y.heap[w.heap.size]? = some (.cells #[str s1, .slice a1 n1 c1] 42 (0, 0)) := by rw [hX]; have := allocL_heap w os 0 (by rw [hos]; simp); simpa [hos] using this
  have g1 : Y.heap[w.heap.size + 1]? = some (.cells #[str s2, .slice a2 n2 c2] 42 (0, 0)) := by rw [hX]; have := allocL_heap w os 1 (by rw [hos]; simp); simpa [hos] using this
  have g2 : Y.heap[w.heap.size + 1 + 1]? = some (.cells #[.string ⟨#[]⟩, .slice none 0 0] 42 (0, 0)) := by rw [hX]; have := allocL_heap w os 2 (by rw [hos]; simp); simpa [hos] using this
  have g3 : Y.heap[w.heap.size + 1 + 1 + 1]? = some (.cells #[str [115], .slice none 0 0] 42 (0, 0)) := by rw [hX]; have := allocL_heap w os 3 (by rw [hos]; simp); simpa [hos] using this
  have g4 : Y.heap[w.heap.size + 1 + 1 + 1 + 1]? = some (.cells #[str [107], .slice none 0 0] 42 (0, 0)) := by rw [hX]; have := allocL_heap w os 4 (by rw [hos]; simp); simpa [hos] using this
  have H1 := Lib.hid (h1.later hA)
  have H2 := Lib.hid (h2.later hA)
  have G0 := Lib.hid g0
  have G1 := Lib.hid g1
  have G2 := Lib.hid g2
  have G3 := Lib.hid g3
  have G4 := Lib.hid g4
  have HA := Lib.hid hA
  have hself := (After.refl Y).drew
  clear h1 h2 g0 g1 g2 g3 g4 hX hos hA
  go_enter Tryz.func57, Tryz.ntmps57
  go_wp2_with fail
  rw [← hY]
  clear hY
  rename_i KK hKK
  refine wp_region_reg1 (n := 15) (by kernel_rfl) (by kernel_rfl) (by kernel_rfl) (by kernel_rfl) After After.refl (fun _ _ _ h g => h.trans g)
    (yds [.tree (.s), .tree (.s), .tree (Tm.I), .tree (.k), .tree (a), .row [a], .tree (.app .k a), .row [(Tm.I), (.app .k a)], .tree (.app (.app .s (Tm.I)) (.app .k a)), .tree (.k), .tree (b), .row [b], .tree (.app .k b), .row [(.app (.app .s (Tm.I)) (.app .k a)), (.app .k b)], .tree (.app (.app .s (.app (.app .s (Tm.I)) (.app .k a))) (.app .k b))]) yds_later (lt15 ?_ ?_ ?_ ?_ ?_ ?_ ?_ ?_ ?_ ?_ ?_ ?_ ?_ ?_ ?_) ?_
  · intro vs W hE hd K hK
    have hE' : After Y W := hself.trans hE
    have G := hE'.heap G3.out
    exact do_load (.tree (.s)) (x := .tmp 5) (by kernel_rfl) (by kernel_rfl) (by kernel_rfl) (by kernel_rfl) (cell_of_heap (i := 0) G) (cell_of_heap (i := 1) G) ⟨_, _, _, _, rfl, rfl⟩ hK
  · intro vs W hE hd K hK
    have hE' : After Y W := hself.trans hE
    have G := hE'.heap G3.out
    exact do_load (.tree (.s)) (x := .tmp 5) (by kernel_rfl) (by kernel_rfl) (by kernel_rfl) (by kernel_rfl) (cell_of_heap (i := 0) G) (cell_of_heap (i := 1) G) ⟨_, _, _, _, rfl, rfl⟩ hK
  · intro vs W hE hd K hK
    have hE' : After Y W := hself.trans hE
    exact do_call (Tm.I) (f := 71) (args := #[]) (by kernel_rfl) (by kernel_rfl) (by kernel_rfl) (s_i W) hK
  · intro vs W hE hd K hK
    have hE' : After Y W := hself.trans hE
    have G := hE'.heap G4.out
    exact do_load (.tree (.k)) (x := .tmp 6) (by kernel_rfl) (by kernel_rfl) (by kernel_rfl) (by kernel_rfl) (cell_of_heap (i := 0) G) (cell_of_heap (i := 1) G) ⟨_, _, _, _, rfl, rfl⟩ hK
  · intro vs W hE hd K hK
    have hE' : After Y W := hself.trans hE
    have G := hE'.heap G0.out
    exact do_load (.tree (a)) (x := .tmp 2) (by kernel_rfl) (by kernel_rfl) (by kernel_rfl) (by kernel_rfl) (cell_of_heap (i := 0) G) (cell_of_heap (i := 1) G) ⟨_, _, _, _, rfl, H1.out.later hE'⟩ hK
  · intro vs W hE hd K hK
    have hE' : After Y W := hself.trans hE
    exact do_row1 (x := .tmp 13) (u := vs 4) (by kernel_rfl) (by kernel_rfl) (by kernel_rfl) (by kernel_rfl) (hd 4 (by kernel_rfl)) hK
  · intro vs W hE hd K hK
    have hE' : After Y W := hself.trans hE
    exact do_app (u1 := vs 3) (u2 := vs 5) (us := [a]) (by kernel_rfl) (by kernel_rfl) (by kernel_rfl) (hd 3 (by kernel_rfl)) (hd 5 (by kernel_rfl)) (by simp) hK
  · intro vs W hE hd K hK
    have hE' : After Y W := hself.trans hE
    exact do_row2 (x := .tmp 11) (y := .tmp 15) (u := vs 2) (v := vs 6) (by kernel_rfl) (by kernel_rfl) (by kernel_rfl) (by kernel_rfl) (by kernel_rfl) (hd 2 (by kernel_rfl)) (hd 6 (by kernel_rfl)) hK
  · intro vs W hE hd K hK
    have hE' : After Y W := hself.trans hE
    exact do_app (u1 := vs 1) (u2 := vs 7) (us := [(Tm.I), (.app .k a)]) (by kernel_rfl) (by kernel_rfl) (by kernel_rfl) (hd 1 (by kernel_rfl)) (hd 7 (by kernel_rfl)) (by simp) hK
  · intro vs W hE hd K hK
    have hE' : After Y W := hself.trans hE
    have G := hE'.heap G4.out
    exact do_load (.tree (.k)) (x := .tmp 6) (by kernel_rfl) (by kernel_rfl) (by kernel_rfl) (by kernel_rfl) (cell_of_heap (i := 0) G) (cell_of_heap (i := 1) G) ⟨_, _, _, _, rfl, rfl⟩ hK
  · intro vs W hE hd K hK
    have hE' : After Y W := hself.trans hE
    have G := hE'.heap G1.out
    exact do_load (.tree (b)) (x := .tmp 3) (by kernel_rfl) (by kernel_rfl) (by kernel_rfl) (by kernel_rfl) (cell_of_heap (i := 0) G) (cell_of_heap (i := 1) G) ⟨_, _, _, _, rfl, H2.out.later hE'⟩ hK
  · intro vs W hE hd K hK
    have hE' : After Y W := hself.trans hE
    exact do_row1 (x := .tmp 19) (u := vs 10) (by kernel_rfl) (by kernel_rfl) (by kernel_rfl) (by kernel_rfl) (hd 10 (by kernel_rfl)) hK
  · intro vs W hE hd K hK
    have hE' : After Y W := hself.trans hE
    exact do_app (u1 := vs 9) (u2 := vs 11) (us := [b]) (by kernel_rfl) (by kernel_rfl) (by kernel_rfl) (hd 9 (by kernel_rfl)) (hd 11 (by kernel_rfl)) (by simp) hK
  · intro vs W hE hd K hK
    have hE' : After Y W := hself.trans hE
    exact do_row2 (x := .tmp 17) (y := .tmp 21) (u := vs 8) (v := vs 12) (by kernel_rfl) (by kernel_rfl) (by kernel_rfl) (by kernel_rfl) (by kernel_rfl) (hd 8 (by kernel_rfl)) (hd 12 (by kernel_rfl)) hK
  · intro vs W hE hd K hK
    have hE' : After Y W := hself.trans hE
    exact do_app (u1 := vs 0) (u2 := vs 13) (us := [(.app (.app .s (Tm.I)) (.app .k a)), (.app .k b)]) (by kernel_rfl) (by kernel_rfl) (by kernel_rfl) (hd 0 (by kernel_rfl)) (hd 13 (by kernel_rfl)) (by simp) hK
  · intro vs W hE hd K hK
    have hE' : After Y W := hself.trans hE
    have G := hE'.heap G2.out
    refine do_store ((.app (.app .s (.app (.app .s (Tm.I)) (.app .k a))) (.app .k b))) (x := .tmp 4) (y := .tmp 23) (v := vs 14) (by kernel_rfl) (by kernel_rfl) (by kernel_rfl) (by kernel_rfl) (by kernel_rfl) (by kernel_rfl) (hd 14 (by decide)) G (fun s ao n c hst => hK _ _ ?_)
    refine hKK _ _ ?_
    generalize hAA : frame _ _ vs = AA
    obtain rfl : AA = ⟨#[.agg #[str s1, .slice a1 n1 c1], .agg #[str s2, .slice a2 n2 c2], .pointer (some ⟨w.heap.size, 0, none⟩), .pointer (some ⟨w.heap.size + 1, 0, none⟩), .pointer (some ⟨w.heap.size + 1 + 1, 0, none⟩), .pointer (some ⟨w.heap.size + 1 + 1 + 1, 0, none⟩), .pointer (some ⟨w.heap.size + 1 + 1 + 1 + 1, 0, none⟩), .agg #[str [115], .slice none 0 0], .agg #[str [107], .slice none 0 0], vs 0, vs 1, vs 2, vs 3, vs 4, vs 5, vs 6, vs 7, vs 8, vs 9, vs 10, vs 11, vs 12, vs 13, vs 14], []⟩ := by rw [← hAA]; kernel_rfl
    clear hAA hK
    obtain ⟨z0, z1, _, _, _⟩ := pair_facts G (After.refl _)
    have hAW := HA.out.trans hE'
    clear hd
    go_wp2_with fail
    refine bodyPost_ret (v := .agg #[str s, .slice ao n c]) (by simp [results, Tryz.results57, go_sem, z0, z1]) rfl
      ⟨s, ao, n, c, rfl, after_sets2 hAW G (by omega) _ _, hst⟩

theorem s_pair4' (w : World) (a b : Tm) (v1 v2 : Value) (h1 : (Yd.tree a).holds v1 w) (h2 : (Yd.tree b).holds v2 w) : Calls Tryz.prog 57 #[v1, v2] w (TreePost w (Tm.pair a b)) := by
  obtain ⟨s1, a1, n1, c1, rfl, h1⟩ := h1
  obtain ⟨s2, a2, n2, c2, rfl, h2⟩ := h2
  exact s_pair4 w a b s1 s2 a1 a2 n1 c1 n2 c2 h1 h2
end Go.Proofs.YtfpekihdoclncaaGreat

namespace Go.Proofs.YtfpekihdoclncaaGreat
open Go.RowKit

set_option maxHeartbeats 1000000
set_option maxRecDepth 100000

theorem ST.code4 : ∀ {t : Tm} {w : World} {v : Value}, ST w t v → (∀ n, Tm.has n t = false) → Calls Tryz.prog 36 #[v] w (TreePost w t.code) := by
  intro t
  induction t with
  | k =>
    intro w v h _
    obtain rfl : v = .agg #[str [107], .slice none 0 0] := h
    obtain ⟨Y, hY⟩ : ∃ Y, Y = ((w.alloc (.cells #[str [107], .slice none 0 0] 42)).alloc (.cells #[.string ⟨#[]⟩, .slice none 0 0] 42)).alloc (.cells #[str [120], str [121], str [122]] 9) := ⟨_, rfl⟩
    obtain ⟨os, hos⟩ : ∃ os : List Obj, os = [.cells #[str [107], .slice none 0 0] 42, .cells #[.string ⟨#[]⟩, .slice none 0 0] 42, .cells #[str [120], str [121], str [122]] 9] := ⟨_, rfl⟩
    have hX : Y = allocL w os := by rw [hY, hos]; rfl
    have hA : After w Y := by rw [hY]; exact (((After.new _ _).alloc _).alloc _)
    have g0 : Y.heap[w.heap.size]? = some (.cells #[str [107], .slice none 0 0] 42 (0, 0)) := by rw [hX]; have := allocL_heap w os 0 (by rw [hos]; simp); simpa [hos] using this
    have G0 := Lib.hid g0
    have g1 : Y.heap[w.heap.size + 1]? = some (.cells #[.string ⟨#[]⟩, .slice none 0 0] 42 (0, 0)) := by rw [hX]; have := allocL_heap w os 1 (by rw [hos]; simp); simpa [hos] using this
    have G1 := Lib.hid g1
    have g2 : Y.heap[w.heap.size + 1 + 1]? = some (.cells #[str [120], str [121], str [122]] 9 (0, 0)) := by rw [hX]; have := allocL_heap w os 2 (by rw [hos]; simp); simpa [hos] using this
    have G2 := Lib.hid g2
    have HA := Lib.hid hA
    have hself := (After.refl Y).drew
    clear hX hos hA g0 g1 g2
    have hn := s_nm Y [120]
    go_enter Tryz.func36, Tryz.ntmps36
    go_wp2_with fail
    rw [← hY]
    clear hY
    refine hn.mono ?_
    rintro e w1 ⟨rfl, hb1⟩
    have k1 := s_all3 w1 (w.heap.size + 1 + 1) Tm.X [120] none 0 0 rfl (by decide +kernel) (by kernel_rfl) (hb1.heap G2.out)
    rw [show lastL [[122], [121], [120]] Tm.X = Tm.kC by kernel_rfl] at k1
    unfold TreePost at k1
    clear hn
    go_wp2_with fail
    refine k1.mono ?_
    rintro e w2 ⟨s2, ao2, n2, c2, rfl, hb2, ht2⟩
    have G := (hb1.trans hb2).heap G1.out
    obtain ⟨z0, z1, z2, z3, _⟩ := pair_facts G (After.refl _)
    have HT := Lib.hid (ht2.sets2 (i := 0) (j := 1) (u := str s2) (u' := .slice ao2 n2 c2) G)
    have hAW := HA.out.trans (hb1.trans hb2)
    clear ht2 k1
    go_wp2_with fail
    refine bodyPost_ret (v := .agg #[str s2, .slice ao2 n2 c2]) (by simp [results, Tryz.results36, go_sem, z0, z1]) rfl
      ⟨s2, ao2, n2, c2, rfl, after_sets2 hAW G (by omega) _ _, HT.out⟩
  | s =>
    intro w v h _
    obtain rfl : v = .agg #[str [115], .slice none 0 0] := h
    obtain ⟨Y, hY⟩ : ∃ Y, Y = ((w.alloc (.cells #[str [115], .slice none 0 0] 42)).alloc (.cells #[.string ⟨#[]⟩, .slice none 0 0] 42)).alloc (.cells #[str [120], str [121], str [122]] 9) := ⟨_, rfl⟩
    obtain ⟨os, hos⟩ : ∃ os : List Obj, os = [.cells #[str [115], .slice none 0 0] 42, .cells #[.string ⟨#[]⟩, .slice none 0 0] 42, .cells #[str [120], str [121], str [122]] 9] := ⟨_, rfl⟩
    have hX : Y = allocL w os := by rw [hY, hos]; rfl
    have hA : After w Y := by rw [hY]; exact (((After.new _ _).alloc _).alloc _)
    have g0 : Y.heap[w.heap.size]? = some (.cells #[str [115], .slice none 0 0] 42 (0, 0)) := by rw [hX]; have := allocL_heap w os 0 (by rw [hos]; simp); simpa [hos] using this
    have G0 := Lib.hid g0
    have g1 : Y.heap[w.heap.size + 1]? = some (.cells #[.string ⟨#[]⟩, .slice none 0 0] 42 (0, 0)) := by rw [hX]; have := allocL_heap w os 1 (by rw [hos]; simp); simpa [hos] using this
    have G1 := Lib.hid g1
    have g2 : Y.heap[w.heap.size + 1 + 1]? = some (.cells #[str [120], str [121], str [122]] 9 (0, 0)) := by rw [hX]; have := allocL_heap w os 2 (by rw [hos]; simp); simpa [hos] using this
    have G2 := Lib.hid g2
    have HA := Lib.hid hA
    have hself := (After.refl Y).drew
    clear hX hos hA g0 g1 g2
    have hn := s_nm Y [121]
    go_enter Tryz.func36, Tryz.ntmps36
    go_wp2_with fail
    rw [← hY]
    clear hY
    refine hn.mono ?_
    rintro e w1 ⟨rfl, hb1⟩
    have k1 := s_all3 w1 (w.heap.size + 1 + 1) Tm.Y [121] none 0 0 rfl (by decide +kernel) (by kernel_rfl) (hb1.heap G2.out)
    rw [show lastL [[122], [121], [120]] Tm.Y = Tm.sC by kernel_rfl] at k1
    unfold TreePost at k1
    clear hn
    go_wp2_with fail
    refine k1.mono ?_
    rintro e w2 ⟨s2, ao2, n2, c2, rfl, hb2, ht2⟩
    have G := (hb1.trans hb2).heap G1.out
    obtain ⟨z0, z1, z2, z3, _⟩ := pair_facts G (After.refl _)
    have HT := Lib.hid (ht2.sets2 (i := 0) (j := 1) (u := str s2) (u' := .slice ao2 n2 c2) G)
    have hAW := HA.out.trans (hb1.trans hb2)
    clear ht2 k1
    go_wp2_with fail
    refine bodyPost_ret (v := .agg #[str s2, .slice ao2 n2 c2]) (by simp [results, Tryz.results36, go_sem, z0, z1]) rfl
      ⟨s2, ao2, n2, c2, rfl, after_sets2 hAW G (by omega) _ _, HT.out⟩
  | nm n =>
    intro w v _ h
    have := h n
    simp [Tm.has] at this
  | app f a ihf iha =>
    intro w v h hn
    have hnf : ∀ n, Tm.has n f = false := fun n => by have := hn n; simp [Tm.has] at this; exact this.1
    have hna : ∀ n, Tm.has n a = false := fun n => by have := hn n; simp [Tm.has] at this; exact this.2
    obtain ⟨g, cap, fr, s0, p0, s1, p1, rfl, hh, hf, ha⟩ := h
    have ihf : ∀ {W : World} {v : Value}, ST W f v → Calls Tryz.prog 36 #[v] W (TreePost W f.code) := fun h => ihf h hnf
    have iha : ∀ {W : World} {v : Value}, ST W a v → Calls Tryz.prog 36 #[v] W (TreePost W a.code) := fun h => iha h hna
    obtain ⟨Y, hY⟩ : ∃ Y, Y = (((w.alloc (.cells #[str [], .slice (some ⟨g, 0, none⟩) 2 cap] 42)).alloc (.cells #[.string ⟨#[]⟩, .slice none 0 0] 42)).alloc (.cells #[str [120], str [121], str [122]] 9)).alloc (.cells #[str [107], .slice none 0 0] 42) := ⟨_, rfl⟩
    obtain ⟨os, hos⟩ : ∃ os : List Obj, os = [.cells #[str [], .slice (some ⟨g, 0, none⟩) 2 cap] 42, .cells #[.string ⟨#[]⟩, .slice none 0 0] 42, .cells #[str [120], str [121], str [122]] 9, .cells #[str [107], .slice none 0 0] 42] := ⟨_, rfl⟩
    have hX : Y = allocL w os := by rw [hY, hos]; rfl
    have hA : After w Y := by rw [hY]; exact ((((After.new _ _).alloc _).alloc _).alloc _)
    have g0 : Y.heap[w.heap.size]? = some (.cells #[str [], .slice (some ⟨g, 0, none⟩) 2 cap] 42 (0, 0)) := by rw [hX]; have := allocL_heap w os 0 (by rw [hos]; simp); simpa [hos] using this
    have G0 := Lib.hid g0
    have g1 : Y.heap[w.heap.size + 1]? = some (.cells #[.string ⟨#[]⟩, .slice none 0 0] 42 (0, 0)) := by rw [hX]; have := allocL_heap w os 1 (by rw [hos]; simp); simpa [hos] using this
    have G1 := Lib.hid g1
    have g2 : Y.heap[w.heap.size + 1 + 1]? = some (.cells #[str [120], str [121], str [122]] 9 (0, 0)) := by rw [hX]; have := allocL_heap w os 2 (by rw [hos]; simp); simpa [hos] using this
    have G2 := Lib.hid g2
    have g3 : Y.heap[w.heap.size + 1 + 1 + 1]? = some (.cells #[str [107], .slice none 0 0] 42 (0, 0)) := by rw [hX]; have := allocL_heap w os 3 (by rw [hos]; simp); simpa [hos] using this
    have G3 := Lib.hid g3
    have HA := Lib.hid hA
    have hself := (After.refl Y).drew
    clear hX hos hA g0 g1 g2 g3
    have HF := Lib.hid (hf.later HA.out)
    have HT := Lib.hid (ha.later HA.out)
    have HH := Lib.hid (HA.out.heap hh)
    clear hf ha hh hn
    have hcode : Tm.code (.app f a) = .app .k (.app .k (Tm.pair (Tm.code f) (Tm.code a))) := rfl
    rw [hcode]
    clear hcode
    go_enter Tryz.func36, Tryz.ntmps36
    go_wp2_with fail
    rw [← hY]
    clear hY
    rename_i KK hKK
    refine wp_region_reg1 (n := 17) (by kernel_rfl) (by kernel_rfl) (by kernel_rfl) (by kernel_rfl) After After.refl (fun _ _ _ h g => h.trans g)
      (yds [.tree (.k), .tree (.k), .lit (.pointer (some ⟨w.heap.size, 1, none⟩)), .lit (.slice (some ⟨g, 0, none⟩) 2 cap), .lit (.pointer (some ⟨g, 0, none⟩)), .tree (f), .tree (Tm.code f), .lit (.pointer (some ⟨w.heap.size, 1, none⟩)), .lit (.slice (some ⟨g, 0, none⟩) 2 cap), .lit (.pointer (some ⟨g, 2, none⟩)), .tree (a), .tree (Tm.code a), .tree (Tm.pair (Tm.code f) (Tm.code a)), .row [Tm.pair (Tm.code f) (Tm.code a)], .tree (.app (.k) (Tm.pair (Tm.code f) (Tm.code a))), .row [.app (.k) (Tm.pair (Tm.code f) (Tm.code a))], .tree (.app (.k) (.app (.k) (Tm.pair (Tm.code f) (Tm.code a))))]) yds_later (lt17 ?_ ?_ ?_ ?_ ?_ ?_ ?_ ?_ ?_ ?_ ?_ ?_ ?_ ?_ ?_ ?_ ?_) ?_
    · intro vs W hE hd K hK
      have hE' : After Y W := hself.trans hE
      have G := hE'.heap G3.out
      exact do_load (.tree (.k)) (x := .tmp 4) (by kernel_rfl) (by kernel_rfl) (by kernel_rfl) (by kernel_rfl) (cell_of_heap (i := 0) G) (cell_of_heap (i := 1) G) ⟨_, _, _, _, rfl, rfl⟩ hK
    · intro vs W hE hd K hK
      have hE' : After Y W := hself.trans hE
      have G := hE'.heap G3.out
      exact do_load (.tree (.k)) (x := .tmp 4) (by kernel_rfl) (by kernel_rfl) (by kernel_rfl) (by kernel_rfl) (cell_of_heap (i := 0) G) (cell_of_heap (i := 1) G) ⟨_, _, _, _, rfl, rfl⟩ hK
    · intro vs W hE hd K hK
      have hE' : After Y W := hself.trans hE
      exact do_pure (v := .pointer (some ⟨w.heap.size, 1, none⟩)) (.lit (.pointer (some ⟨w.heap.size, 1, none⟩))) (by kernel_rfl) (by kernel_rfl) (by kernel_rfl) rfl hK
    · intro vs W hE hd K hK
      have hE' : After Y W := hself.trans hE
      have G := hE'.heap G0.out
      exact do_load1 (.lit (.slice (some ⟨g, 0, none⟩) 2 cap)) (x := .tmp 21) (u := vs 2) (by kernel_rfl) (by kernel_rfl) (by kernel_rfl) (by kernel_rfl) (hd 2 (by kernel_rfl)) (cell_of_heap (i := 1) G) rfl hK
    · intro vs W hE hd K hK
      have hE' : After Y W := hself.trans hE
      exact do_index0 (x := .tmp 22) (u := vs 3) (by kernel_rfl) (by kernel_rfl) (by kernel_rfl) (by kernel_rfl) (hd 3 (by kernel_rfl)) hK
    · intro vs W hE hd K hK
      have hE' : After Y W := hself.trans hE
      have G := hE'.heap HH.out
      exact do_loadu (.tree (f)) (x := .tmp 23) (u := vs 4) (by kernel_rfl) (by kernel_rfl) (by kernel_rfl) (by kernel_rfl) (hd 4 (by kernel_rfl)) (cell_of_heap (i := 0) G) (cell_of_heap (i := 1) G) (treeOf (HF.out.later hE')) hK
    · intro vs W hE hd K hK
      have hE' : After Y W := hself.trans hE
      exact do_call (Tm.code f) (f := 36) (args := #[vs 5]) (by kernel_rfl) (by kernel_rfl) (by kernel_rfl) (ihf (stOf (hd 5 (by kernel_rfl)))) hK
    · intro vs W hE hd K hK
      have hE' : After Y W := hself.trans hE
      exact do_pure (v := .pointer (some ⟨w.heap.size, 1, none⟩)) (.lit (.pointer (some ⟨w.heap.size, 1, none⟩))) (by kernel_rfl) (by kernel_rfl) (by kernel_rfl) rfl hK
    · intro vs W hE hd K hK
      have hE' : After Y W := hself.trans hE
      have G := hE'.heap G0.out
      exact do_load1 (.lit (.slice (some ⟨g, 0, none⟩) 2 cap)) (x := .tmp 26) (u := vs 7) (by kernel_rfl) (by kernel_rfl) (by kernel_rfl) (by kernel_rfl) (hd 7 (by kernel_rfl)) (cell_of_heap (i := 1) G) rfl hK
    · intro vs W hE hd K hK
      have hE' : After Y W := hself.trans hE
      exact do_index1 (x := .tmp 27) (u := vs 8) (by kernel_rfl) (by kernel_rfl) (by kernel_rfl) (by kernel_rfl) (hd 8 (by kernel_rfl)) hK
    · intro vs W hE hd K hK
      have hE' : After Y W := hself.trans hE
      have G := hE'.heap HH.out
      exact do_loadu (.tree (a)) (x := .tmp 28) (u := vs 9) (by kernel_rfl) (by kernel_rfl) (by kernel_rfl) (by kernel_rfl) (hd 9 (by kernel_rfl)) (cell_of_heap (i := 2) G) (cell_of_heap (i := 3) G) (treeOf (HT.out.later hE')) hK
    · intro vs W hE hd K hK
      have hE' : After Y W := hself.trans hE
      exact do_call (Tm.code a) (f := 36) (args := #[vs 10]) (by kernel_rfl) (by kernel_rfl) (by kernel_rfl) (iha (stOf (hd 10 (by kernel_rfl)))) hK
    · intro vs W hE hd K hK
      have hE' : After Y W := hself.trans hE
      exact do_call (Tm.pair (Tm.code f) (Tm.code a)) (f := 57) (args := #[vs 6, vs 11]) (by kernel_rfl) (by kernel_rfl) (by kernel_rfl) (s_pair4' W _ _ _ _ (hd 6 (by kernel_rfl)) (hd 11 (by kernel_rfl))) hK
    · intro vs W hE hd K hK
      have hE' : After Y W := hself.trans hE
      exact do_row1 (x := .tmp 31) (u := vs 12) (by kernel_rfl) (by kernel_rfl) (by kernel_rfl) (by kernel_rfl) (hd 12 (by kernel_rfl)) hK
    · intro vs W hE hd K hK
      have hE' : After Y W := hself.trans hE
      exact do_app (u1 := vs 1) (u2 := vs 13) (us := [Tm.pair (Tm.code f) (Tm.code a)]) (by kernel_rfl) (by kernel_rfl) (by kernel_rfl) (hd 1 (by kernel_rfl)) (hd 13 (by kernel_rfl)) (by simp) hK
    · intro vs W hE hd K hK
      have hE' : After Y W := hself.trans hE
      exact do_row1 (x := .tmp 33) (u := vs 14) (by kernel_rfl) (by kernel_rfl) (by kernel_rfl) (by kernel_rfl) (hd 14 (by kernel_rfl)) hK
    · intro vs W hE hd K hK
      have hE' : After Y W := hself.trans hE
      exact do_app (u1 := vs 0) (u2 := vs 15) (us := [.app (.k) (Tm.pair (Tm.code f) (Tm.code a))]) (by kernel_rfl) (by kernel_rfl) (by kernel_rfl) (hd 0 (by kernel_rfl)) (hd 15 (by kernel_rfl)) (by simp) hK
    intro vs W hE hd K hK
    have hE' : After Y W := hself.trans hE
    have G := hE'.heap G1.out
    refine do_store (.app (.k) (.app (.k) (Tm.pair (Tm.code f) (Tm.code a)))) (x := .tmp 2) (y := .tmp 35) (v := vs 16) (by kernel_rfl) (by kernel_rfl) (by kernel_rfl) (by kernel_rfl) (by kernel_rfl) (by kernel_rfl) (hd 16 (by decide)) G (fun rs ra rn rc hst => hK _ _ ?_)
    refine hKK _ _ ?_
    generalize hAA : frame _ _ vs = AA
    obtain rfl : AA = ⟨#[.agg #[str [], .slice (some ⟨g, 0, none⟩) 2 cap], .pointer (some ⟨w.heap.size, 0, none⟩), .pointer (some ⟨w.heap.size + 1, 0, none⟩), .slice (some ⟨w.heap.size + 1 + 1, 0, none⟩) 3 3, .pointer (some ⟨w.heap.size + 1 + 1 + 1, 0, none⟩), .slice (some ⟨w.heap.size + 1 + 1, 0, none⟩) 3 3, .pointer (some ⟨w.heap.size, 0, none⟩), str [], .bool false, .bool false, undef, undef, undef, .bool false, .bool false, undef, undef, undef, .agg #[str [107], .slice none 0 0], vs 0, vs 1, vs 2, vs 3, vs 4, vs 5, vs 6, vs 7, vs 8, vs 9, vs 10, vs 11, vs 12, vs 13, vs 14, vs 15, vs 16], []⟩ := by rw [← hAA]; kernel_rfl
    clear hAA hK
    obtain ⟨z0, z1, _, _, _⟩ := pair_facts G (After.refl _)
    have hAW := HA.out.trans hE'
    clear hd
    go_wp2_with fail
    refine bodyPost_ret (v := .agg #[str rs, .slice ra rn rc]) (by simp [results, Tryz.results36, go_sem, z0, z1]) rfl
      ⟨rs, ra, rn, rc, rfl, after_sets2 hAW G (by omega) _ _, hst⟩
end Go.Proofs.YtfpekihdoclncaaGreat

namespace Go.Proofs.YtfpekihdoclncaaGreat
open Go.RowKit

set_option maxHeartbeats 2000000
set_option maxRecDepth 100000

end Go.Proofs.YtfpekihdoclncaaGreat
