/-
  The model's l4Pair.
-/
import Derived.Test.YtkmfnnmbhmjfgaaGreatPkV
import Derived.Test.YtkmfnnmbhmjfgaaGreatPkW
import Derived.Test.YtkmfnnmbhmjfgaaGreatPkU
import Derived.Test.YtkmfnnmbhmjfgaaGreatPkB
namespace Go.Proofs.YtkmfnnmbhmjfgaaGreat
open Go.RowKit

set_option maxHeartbeats 1000000
set_option maxRecDepth 100000

theorem s_pair4 (w : World) (a b : Tm) (s1 s2 : List UInt8) (a1 a2 : Option Addr) (n1 c1 n2 c2 : Nat) (h1 : ST w a (.agg #[str s1, .slice a1 n1 c1])) (h2 : ST w b (.agg #[str s2, .slice a2 n2 c2])) :
    Calls Tryz.prog 56 #[.agg #[str s1, .slice a1 n1 c1], .agg #[str s2, .slice a2 n2 c2]] w (TreePost w (Tm.pair a b)) := by
  obtain ⟨Y, hY⟩ : ∃ Y, Y = ((((w.alloc (.cells #[str s1, .slice a1 n1 c1] 42)).alloc (.cells #[str s2, .slice a2 n2 c2] 42)).alloc (.cells #[.string ⟨#[]⟩, .slice none 0 0] 42)).alloc (.cells #[str [115], .slice none 0 0] 42)).alloc (.cells #[str [107], .slice none 0 0] 42) := ⟨_, rfl⟩
  obtain ⟨os, hos⟩ : ∃ os : List Obj, os = [.cells #[str s1, .slice a1 n1 c1] 42, .cells #[str s2, .slice a2 n2 c2] 42, .cells #[.string ⟨#[]⟩, .slice none 0 0] 42, .cells #[str [115], .slice none 0 0] 42, .cells #[str [107], .slice none 0 0] 42] := ⟨_, rfl⟩
  have hX : Y = allocL w os := by rw [hY, hos]; rfl
  have hA : After w Y := by rw [hY]; exact ((((After.new _ _).alloc _).alloc _).alloc _).alloc _
  have g0 : Y.heap[w.heap.size]? = some (.cells #[str s1, .slice a1 n1 c1] 42 (0, 0)) := by rw [hX]; have := allocL_heap w os 0 (by rw [hos]; simp); simpa [hos] using this
  have g1 : Y.heap[w.heap.size + 1]? = some (.cells #[str s2, .slice a2 n2 c2] 42 (0, 0)) := by rw [hX]; have := allocL_heap w os 1 (by rw [hos]; simp); simpa [hos] using this
  have g2 : Y.heap[w.heap.size + 1 + 1]? = some (.cells #[.string ⟨#[]⟩, .slice none 0 0] 42 (0, 0)) := by rw [hX]; have := allocL_heap w os 2 (by rw [hos]; simp); simpa [hos] using this
  have g3 : Y.heap[w.heap.size + 1 + 1 + 1]? = some (.cells #[str [115], .slice none 0 0] 42 (0, 0)) := by rw [hX]; have := allocL_heap w os 3 (by rw [hos]; simp); simpa [hos] using this
  have g4 : Y.heap[w.heap.size + 1 + 1 + 1 + 1]? = some (.cells #[str [107], .slice none 0 0] 42 (0, 0)) := by rw [hX]; have := allocL_heap w os 4 (by rw [hos]; simp); simpa [hos] using this
  have H1 := Lib.hid (h1.later hA)
  have H2 := Lib.hid (h2.later hA)
  have G0 := Lib.hid g0
  have G1 := Lib.hid g1
  have G2 := Lib.hid g2
  have G3 := Lib.hid g3
  have G4 := Lib.hid g4
  have HA := Lib.hid hA
  have hself := (After.refl Y).drew
  clear h1 h2 g0 g1 g2 g3 g4 hX hos hA
  go_enter Tryz.func56, Tryz.ntmps56
  go_wp2_with fail
  rw [← hY]
  clear hY
  rename_i KK hKK
  refine wp_region_reg1 (n := 15) (by kernel_rfl) (by kernel_rfl) (by kernel_rfl) (by kernel_rfl) After After.refl (fun _ _ _ h g => h.trans g)
    (yds [.tree (.s), .tree (.s), .tree (Tm.I), .tree (.k), .tree (a), .row [a], .tree (.app .k a), .row [(Tm.I), (.app .k a)], .tree (.app (.app .s (Tm.I)) (.app .k a)), .tree (.k), .tree (b), .row [b], .tree (.app .k b), .row [(.app (.app .s (Tm.I)) (.app .k a)), (.app .k b)], .tree (.app (.app .s (.app (.app .s (Tm.I)) (.app .k a))) (.app .k b))]) yds_later (lt15 ?_ ?_ ?_ ?_ ?_ ?_ ?_ ?_ ?_ ?_ ?_ ?_ ?_ ?_ ?_) ?_
  · intro vs W hE hd K hK
    have hE' : After Y W := hself.trans hE
    have G := hE'.heap G3.out
    exact do_load (.tree (.s)) (x := .tmp 5) (by kernel_rfl) (by kernel_rfl) (by kernel_rfl) (by kernel_rfl) (cell_of_heap (i := 0) G) (cell_of_heap (i := 1) G) ⟨_, _, _, _, rfl, rfl⟩ hK
  · intro vs W hE hd K hK
    have hE' : After Y W := hself.trans hE
    have G := hE'.heap G3.out
    exact do_load (.tree (.s)) (x := .tmp 5) (by kernel_rfl) (by kernel_rfl) (by kernel_rfl) (by kernel_rfl) (cell_of_heap (i := 0) G) (cell_of_heap (i := 1) G) ⟨_, _, _, _, rfl, rfl⟩ hK
  · intro vs W hE hd K hK
    have hE' : After Y W := hself.trans hE
    exact do_call (Tm.I) (f := 70) (args := #[]) (by kernel_rfl) (by kernel_rfl) (by kernel_rfl) (s_i W) hK
  · intro vs W hE hd K hK
    have hE' : After Y W := hself.trans hE
    have G := hE'.heap G4.out
    exact do_load (.tree (.k)) (x := .tmp 6) (by kernel_rfl) (by kernel_rfl) (by kernel_rfl) (by kernel_rfl) (cell_of_heap (i := 0) G) (cell_of_heap (i := 1) G) ⟨_, _, _, _, rfl, rfl⟩ hK
  · intro vs W hE hd K hK
    have hE' : After Y W := hself.trans hE
    have G := hE'.heap G0.out
    exact do_load (.tree (a)) (x := .tmp 2) (by kernel_rfl) (by kernel_rfl) (by kernel_rfl) (by kernel_rfl) (cell_of_heap (i := 0) G) (cell_of_heap (i := 1) G) ⟨_, _, _, _, rfl, H1.out.later hE'⟩ hK
  · intro vs W hE hd K hK
    have hE' : After Y W := hself.trans hE
    exact do_row1 (x := .tmp 13) (u := vs 4) (by kernel_rfl) (by kernel_rfl) (by kernel_rfl) (by kernel_rfl) (hd 4 (by kernel_rfl)) hK
  · intro vs W hE hd K hK
    have hE' : After Y W := hself.trans hE
    exact do_app (u1 := vs 3) (u2 := vs 5) (us := [a]) (by kernel_rfl) (by kernel_rfl) (by kernel_rfl) (hd 3 (by kernel_rfl)) (hd 5 (by kernel_rfl)) (by simp) hK
  · intro vs W hE hd K hK
    have hE' : After Y W := hself.trans hE
    exact do_row2 (x := .tmp 11) (y := .tmp 15) (u := vs 2) (v := vs 6) (by kernel_rfl) (by kernel_rfl) (by kernel_rfl) (by kernel_rfl) (by kernel_rfl) (hd 2 (by kernel_rfl)) (hd 6 (by kernel_rfl)) hK
  · intro vs W hE hd K hK
    have hE' : After Y W := hself.trans hE
    exact do_app (u1 := vs 1) (u2 := vs 7) (us := [(Tm.I), (.app .k a)]) (by kernel_rfl) (by kernel_rfl) (by kernel_rfl) (hd 1 (by kernel_rfl)) (hd 7 (by kernel_rfl)) (by simp) hK
  · intro vs W hE hd K hK
    have hE' : After Y W := hself.trans hE
    have G := hE'.heap G4.out
    exact do_load (.tree (.k)) (x := .tmp 6) (by kernel_rfl) (by kernel_rfl) (by kernel_rfl) (by kernel_rfl) (cell_of_heap (i := 0) G) (cell_of_heap (i := 1) G) ⟨_, _, _, _, rfl, rfl⟩ hK
  · intro vs W hE hd K hK
    have hE' : After Y W := hself.trans hE
    have G := hE'.heap G1.out
    exact do_load (.tree (b)) (x := .tmp 3) (by kernel_rfl) (by kernel_rfl) (by kernel_rfl) (by kernel_rfl) (cell_of_heap (i := 0) G) (cell_of_heap (i := 1) G) ⟨_, _, _, _, rfl, H2.out.later hE'⟩ hK
  · intro vs W hE hd K hK
    have hE' : After Y W := hself.trans hE
    exact do_row1 (x := .tmp 19) (u := vs 10) (by kernel_rfl) (by kernel_rfl) (by kernel_rfl) (by kernel_rfl) (hd 10 (by kernel_rfl)) hK
  · intro vs W hE hd K hK
    have hE' : After Y W := hself.trans hE
    exact do_app (u1 := vs 9) (u2 := vs 11) (us := [b]) (by kernel_rfl) (by kernel_rfl) (by kernel_rfl) (hd 9 (by kernel_rfl)) (hd 11 (by kernel_rfl)) (by simp) hK
  · intro vs W hE hd K hK
    have hE' : After Y W := hself.trans hE
    exact do_row2 (x := .tmp 17) (y := .tmp 21) (u := vs 8) (v := vs 12) (by kernel_rfl) (by kernel_rfl) (by kernel_rfl) (by kernel_rfl) (by kernel_rfl) (hd 8 (by kernel_rfl)) (hd 12 (by kernel_rfl)) hK
  · intro vs W hE hd K hK
    have hE' : After Y W := hself.trans hE
    exact do_app (u1 := vs 0) (u2 := vs 13) (us := [(.app (.app .s (Tm.I)) (.app .k a)), (.app .k b)]) (by kernel_rfl) (by kernel_rfl) (by kernel_rfl) (hd 0 (by kernel_rfl)) (hd 13 (by kernel_rfl)) (by simp) hK
  · intro vs W hE hd K hK
    have hE' : After Y W := hself.trans hE
    have G := hE'.heap G2.out
    refine do_store ((.app (.app .s (.app (.app .s (Tm.I)) (.app .k a))) (.app .k b))) (x := .tmp 4) (y := .tmp 23) (v := vs 14) (by kernel_rfl) (by kernel_rfl) (by kernel_rfl) (by kernel_rfl) (by kernel_rfl) (by kernel_rfl) (hd 14 (by decide)) G (fun s ao n c hst => hK _ _ ?_)
    refine hKK _ _ ?_
    generalize hAA : frame _ _ vs = AA
    obtain rfl : AA = ⟨#[.agg #[str s1, .slice a1 n1 c1], .agg #[str s2, .slice a2 n2 c2], .pointer (some ⟨w.heap.size, 0, none⟩), .pointer (some ⟨w.heap.size + 1, 0, none⟩), .pointer (some ⟨w.heap.size + 1 + 1, 0, none⟩), .pointer (some ⟨w.heap.size + 1 + 1 + 1, 0, none⟩), .pointer (some ⟨w.heap.size + 1 + 1 + 1 + 1, 0, none⟩), .agg #[str [115], .slice none 0 0], .agg #[str [107], .slice none 0 0], vs 0, vs 1, vs 2, vs 3, vs 4, vs 5, vs 6, vs 7, vs 8, vs 9, vs 10, vs 11, vs 12, vs 13, vs 14], []⟩ := by rw [← hAA]; kernel_rfl
    clear hAA hK
    obtain ⟨z0, z1, _, _, _⟩ := pair_facts G (After.refl _)
    have hAW := HA.out.trans hE'
    clear hd
    go_wp2_with fail
    refine bodyPost_ret (v := .agg #[str s, .slice ao n c]) (by simp [results, Tryz.results56, go_sem, z0, z1]) rfl
      ⟨s, ao, n, c, rfl, after_sets2 hAW G (by omega) _ _, hst⟩

theorem s_pair4' (w : World) (a b : Tm) (v1 v2 : Value) (h1 : (Yd.tree a).holds v1 w) (h2 : (Yd.tree b).holds v2 w) : Calls Tryz.prog 56 #[v1, v2] w (TreePost w (Tm.pair a b)) := by
  obtain ⟨s1, a1, n1, c1, rfl, h1⟩ := h1
  obtain ⟨s2, a2, n2, c2, rfl, h2⟩ := h2
  exact s_pair4 w a b s1 s2 a1 a2 n1 c1 n2 c2 h1 h2
end Go.Proofs.YtkmfnnmbhmjfgaaGreat

namespace Go.Proofs.YtkmfnnmbhmjfgaaGreat
open Go.RowKit

set_option maxHeartbeats 1000000
set_option maxRecDepth 100000

theorem ST.code4 : ∀ {t : Tm} {w : World} {v : Value}, ST w t v → (∀ n, Tm.has n t = false) → Calls Tryz.prog 36 #[v] w (TreePost w t.code) := by
  intro t
  induction t with
  | k =>
    intro w v h _
    obtain rfl : v = .agg #[str [107], .slice none 0 0] := h
    obtain ⟨Y, hY⟩ : ∃ Y, Y = ((w.alloc (.cells #[str [107], .slice none 0 0] 42)).alloc (.cells #[.string ⟨#[]⟩, .slice none 0 0] 42)).alloc (.cells #[str [120], str [121], str [122]] 9) := ⟨_, rfl⟩
    obtain ⟨os, hos⟩ : ∃ os : List Obj, os = [.cells #[str [107], .slice none 0 0] 42, .cells #[.string ⟨#[]⟩, .slice none 0 0] 42, .cells #[str [120], str [121], str [122]] 9] := ⟨_, rfl⟩
    have hX : Y = allocL w os := by rw [hY, hos]; rfl
    have hA : After w Y := by rw [hY]; exact (((After.new _ _).alloc _).alloc _)
    have g0 : Y.heap[w.heap.size]? = some (.cells #[str [107], .slice none 0 0] 42 (0, 0)) := by rw [hX]; have := allocL_heap w os 0 (by rw [hos]; simp); simpa [hos] using this
    have G0 := Lib.hid g0
    have g1 : Y.heap[w.heap.size + 1]? = some (.cells #[.string ⟨#[]⟩, .slice none 0 0] 42 (0, 0)) := by rw [hX]; have := allocL_heap w os 1 (by rw [hos]; simp); simpa [hos] using this
    have G1 := Lib.hid g1
    have g2 : Y.heap[w.heap.size + 1 + 1]? = some (.cells #[str [120], str [121], str [122]] 9 (0, 0)) := by rw [hX]; have := allocL_heap w os 2 (by rw [hos]; simp); simpa [hos] using this
    have G2 := Lib.hid g2
    have HA := Lib.hid hA
    have hself := (After.refl Y).drew
    clear hX hos hA g0 g1 g2
    have hn := s_nm Y [120]
    go_enter Tryz.func36, Tryz.ntmps36
    go_wp2_with fail
    rw [← hY]
    clear hY
    refine hn.mono ?_
    rintro e w1 ⟨rfl, hb1⟩
    have k1 := s_all3 w1 (w.heap.size + 1 + 1) Tm.X [120] none 0 0 rfl (by decide +kernel) (by kernel_rfl) (hb1.heap G2.out)
    rw [show lastL [[122], [121], [120]] Tm.X = Tm.kC by kernel_rfl] at k1
    unfold TreePost at k1
    clear hn
    go_wp2_with fail
    refine k1.mono ?_
    rintro e w2 ⟨s2, ao2, n2, c2, rfl, hb2, ht2⟩
    have G := (hb1.trans hb2).heap G1.out
    obtain ⟨z0, z1, z2, z3, _⟩ := pair_facts G (After.refl _)
    have HT := Lib.hid (ht2.sets2 (i := 0) (j := 1) (u := str s2) (u' := .slice ao2 n2 c2) G)
    have hAW := HA.out.trans (hb1.trans hb2)
    clear ht2 k1
    go_wp2_with fail
    refine bodyPost_ret (v := .agg #[str s2, .slice ao2 n2 c2]) (by simp [results, Tryz.results36, go_sem, z0, z1]) rfl
      ⟨s2, ao2, n2, c2, rfl, after_sets2 hAW G (by omega) _ _, HT.out⟩
  | s =>
    intro w v h _
    obtain rfl : v = .agg #[str [115], .slice none 0 0] := h
    obtain ⟨Y, hY⟩ : ∃ Y, Y = ((w.alloc (.cells #[str [115], .slice none 0 0] 42)).alloc (.cells #[.string ⟨#[]⟩, .slice none 0 0] 42)).alloc (.cells #[str [120], str [121], str [122]] 9) := ⟨_, rfl⟩
    obtain ⟨os, hos⟩ : ∃ os : List Obj, os = [.cells #[str [115], .slice none 0 0] 42, .cells #[.string ⟨#[]⟩, .slice none 0 0] 42, .cells #[str [120], str [121], str [122]] 9] := ⟨_, rfl⟩
    have hX : Y = allocL w os := by rw [hY, hos]; rfl
    have hA : After w Y := by rw [hY]; exact (((After.new _ _).alloc _).alloc _)
    have g0 : Y.heap[w.heap.size]? = some (.cells #[str [115], .slice none 0 0] 42 (0, 0)) := by rw [hX]; have := allocL_heap w os 0 (by rw [hos]; simp); simpa [hos] using this
    have G0 := Lib.hid g0
    have g1 : Y.heap[w.heap.size + 1]? = some (.cells #[.string ⟨#[]⟩, .slice none 0 0] 42 (0, 0)) := by rw [hX]; have := allocL_heap w os 1 (by rw [hos]; simp); simpa [hos] using this
    have G1 := Lib.hid g1
    have g2 : Y.heap[w.heap.size + 1 + 1]? = some (.cells #[str [120], str [121], str [122]] 9 (0, 0)) := by rw [hX]; have := allocL_heap w os 2 (by rw [hos]; simp); simpa [hos] using this
    have G2 := Lib.hid g2
    have HA := Lib.hid hA
    have hself := (After.refl Y).drew
    clear hX hos hA g0 g1 g2
    have hn := s_nm Y [121]
    go_enter Tryz.func36, Tryz.ntmps36
    go_wp2_with fail
    rw [← hY]
    clear hY
    refine hn.mono ?_
    rintro e w1 ⟨rfl, hb1⟩
    have k1 := s_all3 w1 (w.heap.size + 1 + 1) Tm.Y [121] none 0 0 rfl (by decide +kernel) (by kernel_rfl) (hb1.heap G2.out)
    rw [show lastL [[122], [121], [120]] Tm.Y = Tm.sC by kernel_rfl] at k1
    unfold TreePost at k1
    clear hn
    go_wp2_with fail
    refine k1.mono ?_
    rintro e w2 ⟨s2, ao2, n2, c2, rfl, hb2, ht2⟩
    have G := (hb1.trans hb2).heap G1.out
    obtain ⟨z0, z1, z2, z3, _⟩ := pair_facts G (After.refl _)
    have HT := Lib.hid (ht2.sets2 (i := 0) (j := 1) (u := str s2) (u' := .slice ao2 n2 c2) G)
    have hAW := HA.out.trans (hb1.trans hb2)
    clear ht2 k1
    go_wp2_with fail
    refine bodyPost_ret (v := .agg #[str s2, .slice ao2 n2 c2]) (by simp [results, Tryz.results36, go_sem, z0, z1]) rfl
      ⟨s2, ao2, n2, c2, rfl, after_sets2 hAW G (by omega) _ _, HT.out⟩
  | nm n =>
    intro w v _ h
    have := h n
    simp [Tm.has] at this
  | app f a ihf iha =>
    intro w v h hn
    have hnf : ∀ n, Tm.has n f = false := fun n => by have := hn n; simp [Tm.has] at this; exact this.1
    have hna : ∀ n, Tm.has n a = false := fun n => by have := hn n; simp [Tm.has] at this; exact this.2
    obtain ⟨g, cap, fr, s0, p0, s1, p1, rfl, hh, hf, ha⟩ := h
    have ihf : ∀ {W : World} {v : Value}, ST W f v → Calls Tryz.prog 36 #[v] W (TreePost W f.code) := fun h => ihf h hnf
    have iha : ∀ {W : World} {v : Value}, ST W a v → Calls Tryz.prog 36 #[v] W (TreePost W a.code) := fun h => iha h hna
    obtain ⟨Y, hY⟩ : ∃ Y, Y = (((w.alloc (.cells #[str [], .slice (some ⟨g, 0, none⟩) 2 cap] 42)).alloc (.cells #[.string ⟨#[]⟩, .slice none 0 0] 42)).alloc (.cells #[str [120], str [121], str [122]] 9)).alloc (.cells #[str [107], .slice none 0 0] 42) := ⟨_, rfl⟩
    obtain ⟨os, hos⟩ : ∃ os : List Obj, os = [.cells #[str [], .slice (some ⟨g, 0, none⟩) 2 cap] 42, .cells #[.string ⟨#[]⟩, .slice none 0 0] 42, .cells #[str [120], str [121], str [122]] 9, .cells #[str [107], .slice none 0 0] 42] := ⟨_, rfl⟩
    have hX : Y = allocL w os := by rw [hY, hos]; rfl
    have hA : After w Y := by rw [hY]; exact ((((After.new _ _).alloc _).alloc _).alloc _)
    have g0 : Y.heap[w.heap.size]? = some (.cells #[str [], .slice (some ⟨g, 0, none⟩) 2 cap] 42 (0, 0)) := by rw [hX]; have := allocL_heap w os 0 (by rw [hos]; simp); simpa [hos] using this
    have G0 := Lib.hid g0
    have g1 : Y.heap[w.heap.size + 1]? = some (.cells #[.string ⟨#[]⟩, .slice none 0 0] 42 (0, 0)) := by rw [hX]; have := allocL_heap w os 1 (by rw [hos]; simp); simpa [hos] using this
    have G1 := Lib.hid g1
    have g2 : Y.heap[w.heap.size + 1 + 1]? = some (.cells #[str [120], str [121], str [122]] 9 (0, 0)) := by rw [hX]; have := allocL_heap w os 2 (by rw [hos]; simp); simpa [hos] using this
    have G2 := Lib.hid g2
    have g3 : Y.heap[w.heap.size + 1 + 1 + 1]? = some (.cells #[str [107], .slice none 0 0] 42 (0, 0)) := by rw [hX]; have := allocL_heap w os 3 (by rw [hos]; simp); simpa [hos] using this
    have G3 := Lib.hid g3
    have HA := Lib.hid hA
    have hself := (After.refl Y).drew
    clear hX hos hA g0 g1 g2 g3
    have HF := Lib.hid (hf.later HA.out)
    have HT := Lib.hid (ha.later HA.out)
    have HH := Lib.hid (HA.out.heap hh)
    clear hf ha hh hn
    have hcode : Tm.code (.app f a) = .app .k (.app .k (Tm.pair (Tm.code f) (Tm.code a))) := rfl
    rw [hcode]
    clear hcode
    go_enter Tryz.func36, Tryz.ntmps36
    go_wp2_with fail
    rw [← hY]
    clear hY
    rename_i KK hKK
    refine wp_region_reg1 (n := 17) (by kernel_rfl) (by kernel_rfl) (by kernel_rfl) (by kernel_rfl) After After.refl (fun _ _ _ h g => h.trans g)
      (yds [.tree (.k), .tree (.k), .lit (.pointer (some ⟨w.heap.size, 1, none⟩)), .lit (.slice (some ⟨g, 0, none⟩) 2 cap), .lit (.pointer (some ⟨g, 0, none⟩)), .tree (f), .tree (Tm.code f), .lit (.pointer (some ⟨w.heap.size, 1, none⟩)), .lit (.slice (some ⟨g, 0, none⟩) 2 cap), .lit (.pointer (some ⟨g, 2, none⟩)), .tree (a), .tree (Tm.code a), .tree (Tm.pair (Tm.code f) (Tm.code a)), .row [Tm.pair (Tm.code f) (Tm.code a)], .tree (.app (.k) (Tm.pair (Tm.code f) (Tm.code a))), .row [.app (.k) (Tm.pair (Tm.code f) (Tm.code a))], .tree (.app (.k) (.app (.k) (Tm.pair (Tm.code f) (Tm.code a))))]) yds_later (lt17 ?_ ?_ ?_ ?_ ?_ ?_ ?_ ?_ ?_ ?_ ?_ ?_ ?_ ?_ ?_ ?_ ?_) ?_
    · intro vs W hE hd K hK
      have hE' : After Y W := hself.trans hE
      have G := hE'.heap G3.out
      exact do_load (.tree (.k)) (x := .tmp 4) (by kernel_rfl) (by kernel_rfl) (by kernel_rfl) (by kernel_rfl) (cell_of_heap (i := 0) G) (cell_of_heap (i := 1) G) ⟨_, _, _, _, rfl, rfl⟩ hK
    · intro vs W hE hd K hK
      have hE' : After Y W := hself.trans hE
      have G := hE'.heap G3.out
      exact do_load (.tree (.k)) (x := .tmp 4) (by kernel_rfl) (by kernel_rfl) (by kernel_rfl) (by kernel_rfl) (cell_of_heap (i := 0) G) (cell_of_heap (i := 1) G) ⟨_, _, _, _, rfl, rfl⟩ hK
    · intro vs W hE hd K hK
      have hE' : After Y W := hself.trans hE
      exact do_pure (v := .pointer (some ⟨w.heap.size, 1, none⟩)) (.lit (.pointer (some ⟨w.heap.size, 1, none⟩))) (by kernel_rfl) (by kernel_rfl) (by kernel_rfl) rfl hK
    · intro vs W hE hd K hK
      have hE' : After Y W := hself.trans hE
      have G := hE'.heap G0.out
      exact do_load1 (.lit (.slice (some ⟨g, 0, none⟩) 2 cap)) (x := .tmp 21) (u := vs 2) (by kernel_rfl) (by kernel_rfl) (by kernel_rfl) (by kernel_rfl) (hd 2 (by kernel_rfl)) (cell_of_heap (i := 1) G) rfl hK
    · intro vs W hE hd K hK
      have hE' : After Y W := hself.trans hE
      exact do_index0 (x := .tmp 22) (u := vs 3) (by kernel_rfl) (by kernel_rfl) (by kernel_rfl) (by kernel_rfl) (hd 3 (by kernel_rfl)) hK
    · intro vs W hE hd K hK
      have hE' : After Y W := hself.trans hE
      have G := hE'.heap HH.out
      exact do_loadu (.tree (f)) (x := .tmp 23) (u := vs 4) (by kernel_rfl) (by kernel_rfl) (by kernel_rfl) (by kernel_rfl) (hd 4 (by kernel_rfl)) (cell_of_heap (i := 0) G) (cell_of_heap (i := 1) G) (treeOf (HF.out.later hE')) hK
    · intro vs W hE hd K hK
      have hE' : After Y W := hself.trans hE
      exact do_call (Tm.code f) (f := 36) (args := #[vs 5]) (by kernel_rfl) (by kernel_rfl) (by kernel_rfl) (ihf (stOf (hd 5 (by kernel_rfl)))) hK
    · intro vs W hE hd K hK
      have hE' : After Y W := hself.trans hE
      exact do_pure (v := .pointer (some ⟨w.heap.size, 1, none⟩)) (.lit (.pointer (some ⟨w.heap.size, 1, none⟩))) (by kernel_rfl) (by kernel_rfl) (by kernel_rfl) rfl hK
    · intro vs W hE hd K hK
      have hE' : After Y W := hself.trans hE
      have G := hE'.heap G0.out
      exact do_load1 (.lit (.slice (some ⟨g, 0, none⟩) 2 cap)) (x := .tmp 26) (u := vs 7) (by kernel_rfl) (by kernel_rfl) (by kernel_rfl) (by kernel_rfl) (hd 7 (by kernel_rfl)) (cell_of_heap (i := 1) G) rfl hK
    · intro vs W hE hd K hK
      have hE' : After Y W := hself.trans hE
      exact do_index1 (x := .tmp 27) (u := vs 8) (by kernel_rfl) (by kernel_rfl) (by kernel_rfl) (by kernel_rfl) (hd 8 (by kernel_rfl)) hK
    · intro vs W hE hd K hK
      have hE' : After Y W := hself.trans hE
      have G := hE'.heap HH.out
      exact do_loadu (.tree (a)) (x := .tmp 28) (u := vs 9) (by kernel_rfl) (by kernel_rfl) (by kernel_rfl) (by kernel_rfl) (hd 9 (by kernel_rfl)) (cell_of_heap (i := 2) G) (cell_of_heap (i := 3) G) (treeOf (HT.out.later hE')) hK
    · intro vs W hE hd K hK
      have hE' : After Y W := hself.trans hE
      exact do_call (Tm.code a) (f := 36) (args := #[vs 10]) (by kernel_rfl) (by kernel_rfl) (by kernel_rfl) (iha (stOf (hd 10 (by kernel_rfl)))) hK
    · intro vs W hE hd K hK
      have hE' : After Y W := hself.trans hE
      exact do_call (Tm.pair (Tm.code f) (Tm.code a)) (f := 56) (args := #[vs 6, vs 11]) (by kernel_rfl) (by kernel_rfl) (by kernel_rfl) (s_pair4' W _ _ _ _ (hd 6 (by kernel_rfl)) (hd 11 (by kernel_rfl))) hK
    · intro vs W hE hd K hK
      have hE' : After Y W := hself.trans hE
      exact do_row1 (x := .tmp 31) (u := vs 12) (by kernel_rfl) (by kernel_rfl) (by kernel_rfl) (by kernel_rfl) (hd 12 (by kernel_rfl)) hK
    · intro vs W hE hd K hK
      have hE' : After Y W := hself.trans hE
      exact do_app (u1 := vs 1) (u2 := vs 13) (us := [Tm.pair (Tm.code f) (Tm.code a)]) (by kernel_rfl) (by kernel_rfl) (by kernel_rfl) (hd 1 (by kernel_rfl)) (hd 13 (by kernel_rfl)) (by simp) hK
    · intro vs W hE hd K hK
      have hE' : After Y W := hself.trans hE
      exact do_row1 (x := .tmp 33) (u := vs 14) (by kernel_rfl) (by kernel_rfl) (by kernel_rfl) (by kernel_rfl) (hd 14 (by kernel_rfl)) hK
    · intro vs W hE hd K hK
      have hE' : After Y W := hself.trans hE
      exact do_app (u1 := vs 0) (u2 := vs 15) (us := [.app (.k) (Tm.pair (Tm.code f) (Tm.code a))]) (by kernel_rfl) (by kernel_rfl) (by kernel_rfl) (hd 0 (by kernel_rfl)) (hd 15 (by kernel_rfl)) (by simp) hK
    intro vs W hE hd K hK
    have hE' : After Y W := hself.trans hE
    have G := hE'.heap G1.out
    refine do_store (.app (.k) (.app (.k) (Tm.pair (Tm.code f) (Tm.code a)))) (x := .tmp 2) (y := .tmp 35) (v := vs 16) (by kernel_rfl) (by kernel_rfl) (by kernel_rfl) (by kernel_rfl) (by kernel_rfl) (by kernel_rfl) (hd 16 (by decide)) G (fun rs ra rn rc hst => hK _ _ ?_)
    refine hKK _ _ ?_
    generalize hAA : frame _ _ vs = AA
    obtain rfl : AA = ⟨#[.agg #[str [], .slice (some ⟨g, 0, none⟩) 2 cap], .pointer (some ⟨w.heap.size, 0, none⟩), .pointer (some ⟨w.heap.size + 1, 0, none⟩), .slice (some ⟨w.heap.size + 1 + 1, 0, none⟩) 3 3, .pointer (some ⟨w.heap.size + 1 + 1 + 1, 0, none⟩), .slice (some ⟨w.heap.size + 1 + 1, 0, none⟩) 3 3, .pointer (some ⟨w.heap.size, 0, none⟩), str [], .bool false, .bool false, undef, undef, undef, .bool false, .bool false, undef, undef, undef, .agg #[str [107], .slice none 0 0], vs 0, vs 1, vs 2, vs 3, vs 4, vs 5, vs 6, vs 7, vs 8, vs 9, vs 10, vs 11, vs 12, vs 13, vs 14, vs 15, vs 16], []⟩ := by rw [← hAA]; kernel_rfl
    clear hAA hK
    obtain ⟨z0, z1, _, _, _⟩ := pair_facts G (After.refl _)
    have hAW := HA.out.trans hE'
    clear hd
    go_wp2_with fail
    refine bodyPost_ret (v := .agg #[str rs, .slice ra rn rc]) (by simp [results, Tryz.results36, go_sem, z0, z1]) rfl
      ⟨rs, ra, rn, rc, rfl, after_sets2 hAW G (by omega) _ _, hst⟩
end Go.Proofs.YtkmfnnmbhmjfgaaGreat

namespace Go.Proofs.YtkmfnnmbhmjfgaaGreat
open Go.RowKit

set_option maxHeartbeats 2000000
set_option maxRecDepth 100000

end Go.Proofs.YtkmfnnmbhmjfgaaGreat

namespace Go.Proofs.YtkmfnnmbhmjfgaaGreat
open Go.RowKit

set_option maxHeartbeats 2000000
set_option maxRecDepth 100000

theorem s_join4 (w : World) : Calls Tryz.prog 20 #[] w (TreePost w Tm.joinC) := by
  obtain ⟨Z, hZ⟩ : ∃ Z, Z = w.alloc (.cells #[.string ⟨#[]⟩, .slice none 0 0] 42) := ⟨_, rfl⟩
  have hAZ : After w Z := by rw [hZ]; exact After.new _ _
  have hGZ : Z.heap[w.heap.size]? = some (.cells #[.string ⟨#[]⟩, .slice none 0 0] 42 (0, 0)) := by rw [hZ]; exact heap_new' _ _
  have hselfZ := After.refl Z
  obtain ⟨Y, hY⟩ : ∃ Y, Y = Z.alloc (.cells #[str [117], str [118], str [120], str [121], str [122]] 9) := ⟨_, rfl⟩
  have hAY : After Z Y := by rw [hY]; exact After.new _ _
  have hGN : Y.heap[Z.heap.size]? = some (.cells #[str [117], str [118], str [120], str [121], str [122]] 9 (0, 0)) := by rw [hY]; exact heap_new' _ _
  have GN := Lib.hid hGN
  have GR := Lib.hid (hAY.heap hGZ)
  have AY := Lib.hid (hAZ.trans hAY)
  have szZ : Z.heap.size = w.heap.size + 1 := by rw [hZ]; simp
  have h1 := s_nm Y [122]
  have hn := fun W x => s_nm W x
  clear hAZ hGZ hAY hGN hselfZ
  go_enter Tryz.func20, Tryz.ntmps20
  go_wp2_with fail
  rw [← hZ, ← hY]
  clear hZ hY
  refine h1.mono ?_
  rintro e w1 ⟨rfl, hb1⟩
  clear h1
  go_wp2_with fail
  refine (hn w1 [117]).mono ?_
  rintro e w2 ⟨rfl, hb2⟩
  go_wp2_with fail
  refine (hn w2 [118]).mono ?_
  rintro e w3 ⟨rfl, hb3⟩
  have hA3 := (hb1.trans hb2).trans hb3
  have k4 := s_app2 (w3.alloc (.cells #[str [117], .slice none 0 0, str [118], .slice none 0 0] 42)) Tm.Z Tm.U Tm.VV [122] [117] [118] none none none 0 0 0 0 0 0 _ (0, 0) rfl rfl rfl (heap_new' w3 _)
  unfold TreePost at k4
  clear hn hb1 hb2 hb3
  go_wp2_with fail
  refine k4.mono ?_
  rintro e w4 ⟨t4, ao4, n4, c4, rfl, hb4, ht4⟩
  have hA4 := (hA3.alloc (.cells #[str [117], .slice none 0 0, str [118], .slice none 0 0] 42)).trans hb4
  have hc := hA4.heap GN.out
  have k5 := s_all w4 Z.heap.size 0 5 [[117], [118], [120], [121], [122]] (.app (.app Tm.Z Tm.U) Tm.VV) t4 ao4 n4 c4 ht4 (by decide +kernel) (by kernel_rfl) (by decide) (by decide) (fun j hj => by
    have hk := cell_of_heap (i := j) hc
    rw [Nat.zero_add]
    match j, hj with
    | 0, _ => simpa using hk
    | 1, _ => simpa using hk
    | 2, _ => simpa using hk
    | 3, _ => simpa using hk
    | 4, _ => simpa using hk)
  rw [show lastL (List.reverse [[117], [118], [120], [121], [122]]) (.app (.app Tm.Z Tm.U) Tm.VV) = Tm.joinC by kernel_rfl] at k5
  unfold TreePost at k5
  rw [szZ] at k5
  clear ht4 k4 hb4 hA3 hc
  go_wp2_with fail
  refine k5.mono ?_
  rintro e w5 ⟨t5, ao5, n5, c5, rfl, hb5, ht5⟩
  have hA5 := hA4.trans hb5
  have G := hA5.heap GR.out
  obtain ⟨z0, z1, _, _, _⟩ := pair_facts G (After.refl _)
  have HT := Lib.hid (ht5.sets2 (i := 0) (j := 1) (u := str t5) (u' := .slice ao5 n5 c5) G)
  have hAW := AY.out.trans hA5
  clear ht5 k5
  go_wp2_with fail
  refine bodyPost_ret (v := .agg #[str t5, .slice ao5 n5 c5]) (by simp [results, Tryz.results20, go_sem, z0, z1]) rfl
    ⟨t5, ao5, n5, c5, rfl, after_sets2 hAW G (Nat.le_refl _) _ _, HT.out⟩

theorem closed_of {t : Tm} (h : Tm.names [] t = []) (n : List UInt8) : Tm.has n t = false := by
  cases hh : Tm.has n t with
  | false => rfl
  | true =>
    have := (Tm.mem_names n t []).2 (Or.inr hh)
    rw [h] at this
    cases this
theorem join_closed : ∀ n : List UInt8, Tm.has n Tm.joinC = false := closed_of (by kernel_rfl)

end Go.Proofs.YtkmfnnmbhmjfgaaGreat

namespace Go.Proofs.YtkmfnnmbhmjfgaaGreat
open Go.RowKit

set_option maxHeartbeats 2000000
set_option maxRecDepth 100000

/-- A tree and whether it is a closed term. -/
def SClosedPost (w : World) (l : List UInt8) (e : Ending) (w' : World) : Prop :=
  ∃ s ao n c, e = .returned (.tuple #[.agg #[str s, .slice ao n c], .bool (Tm.closedOf l).isSome]) ∧ After w w' ∧ ∀ t, Tm.closedOf l = some t → ST w' t (.agg #[str s, .slice ao n c])

theorem names_call' (X : World) (t : Tm) (v : Value) (g : Nat) (hg' : g = X.heap.size) (h : ST X t v) (hg : t.good = true) (hs : t.size ≤ 3000) :
    Calls Tryz.prog 34 #[v, .slice (some ⟨g, 0, none⟩) 0 0] (X.alloc (.cells #[] 9)) fun e w' =>
      ∃ sv, e = .returned sv ∧ After X w' ∧ w'.ownsRow X.heap.size 9 1 sv (t.names []).length ((t.names []).map str) := by
  subst hg'
  have hown := own_empty X
  have hnames := ST.names h hg _ (After.new _ (.cells #[] 9)) _ [] hown (by simp; omega)
  refine hnames.mono ?_
  rintro e w2 ⟨sv, he, ho, hgr, hor⟩
  refine ⟨sv, he, ?_, ho⟩
  exact (After.new X (.cells #[] 9)).grown hgr (by simp) (fun k hk => by simp [Value.ownBlock] at hk; omega)

theorem s_closed4 (w : World) (l : List UInt8) (hl : l.length ≤ 1000000000) :
    Calls Tryz.prog 16 #[str l] w (SClosedPost w l) := by
  have hterm := fun W => s_term W l hl
  unfold STermPost at hterm
  cases hp : Tm.parse l with
  | none =>
    have H := Lib.hid (show Tm.closedOf l = none by simp [Tm.closedOf, hp])
    simp only [hp] at hterm
    clear hp
    go_enter Tryz.func16, Tryz.ntmps16
    go_wp2_with fail
    refine (hterm _).mono ?_
    rintro e w1 ⟨s1, ao1, n1, c1, rfl, hb1, ht1⟩
    clear ht1 hterm
    obtain ⟨r0, r1, f0, f1, hz⟩ := box2 hb1
    go_wp2_with fail
    go_region
    go_wp2_with fail
    exact bodyPost_ret (v := .tuple #[.agg #[str s1, .slice ao1 n1 c1], .bool false]) (by simp [results, Tryz.results16, go_sem, r0, r1, hz]) rfl
      ⟨s1, ao1, n1, c1, by rw [H.out]; rfl, After.drew (After.alloc (After.set2 hb1) _), fun t he => by rw [H.out] at he; simp at he⟩
  | some t =>
    obtain ⟨hg, hf, hs, _, _⟩ := Tm.parse_facts hp
    obtain ⟨k, hk⟩ : ∃ k, k = (t.names []).length := ⟨_, rfl⟩
    have hfin : Tm.closedOf l = if k = 0 then some t else none := by
      unfold Tm.closedOf
      rw [hp, hk]
      by_cases h0 : t.names [] = []
      · simp [h0]
      · have : ¬ (t.names []).length = 0 := fun e => h0 (List.length_eq_zero_iff.1 e)
        have h0' : (t.names []).isEmpty = false := by simpa using h0
        simp [h0', this]
    have HK := Lib.hid hk
    have H := Lib.hid hfin
    simp only [hp] at hterm
    clear hp hfin hk
    obtain ⟨b, hb⟩ : ∃ b, b = decide (k = 0) := ⟨_, rfl⟩
    have hkb : ((k : Int) == 0) = b := by rw [hb, Bool.eq_iff_iff, beq_iff_eq, decide_eq_true_eq]; omega
    have hsome : b = (Tm.closedOf l).isSome := by
      rw [H.out, hb]
      by_cases h0 : k = 0 <;> simp [h0]
    have hok : ∀ t', Tm.closedOf l = some t' → t' = t := fun t' h => by
      rw [H.out] at h
      split at h
      · exact (Option.some.inj h).symm
      · cases h
    have HS := Lib.hid hsome
    have HOK := Lib.hid hok
    clear hb hsome hok H
    cases b with
    | true =>
      obtain rfl : k = 0 := by simpa using hkb
      go_enter Tryz.func16, Tryz.ntmps16
      go_wp2_with fail
      refine (hterm _).mono ?_
      rintro e w1 ⟨s1, ao1, n1, c1, rfl, hb1, ht1⟩
      have hst := Lib.hid (ht1 t rfl)
      clear ht1 hterm
      obtain ⟨r0, r1, f0, f1, hz⟩ := box2 hb1
      have hal := After.new w1 (.cells #[str s1, .slice ao1 n1 c1] 42)
      have hsz1 : w.heap.size < w1.heap.size := hz
      obtain ⟨Y, hY⟩ : ∃ Y, Y = w1.alloc (.cells #[str s1, .slice ao1 n1 c1] 42) := ⟨_, rfl⟩
      have hGt : Y.heap[w1.heap.size]? = some (.cells #[str s1, .slice ao1 n1 c1] 42 (0, 0)) := by rw [hY]; exact heap_new' _ _
      have hYs : Y.heap.size = w1.heap.size + 1 := by rw [hY]; simp
      rw [← hY] at hal
      have HST := Lib.hid (hst.out.later hal)
      have HYS := Lib.hid hYs
      have hself := After.refl Y
      have hbf : ButFor Y w.heap.size Y.drew := ⟨Nat.le_refl _, fun _ _ _ => rfl⟩
      have o0 : ∀ W, ButFor Y w.heap.size W → W.cell? ⟨w1.heap.size, 0, none⟩ = some (str s1) := fun W hW => hW.cell (by omega) (cell_of_heap (i := 0) hGt)
      have o1 : ∀ W, ButFor Y w.heap.size W → W.cell? ⟨w1.heap.size, 1, none⟩ = some (.slice ao1 n1 c1) := fun W hW => hW.cell (by omega) (cell_of_heap (i := 1) hGt)
      clear hst hGt hYs
      go_wp2_with fail
      rw [← hY]
      clear hY
      go_region_held3 (fun W' => ButFor Y w.heap.size W') (first | assumption | exact hbf | exact ButFor.alloc (by assumption) _ | exact hbf.alloc _ | exact ButFor.set (by assumption) _ _ | exact ButFor.set (ButFor.set (by assumption) _ _) _ _)
        (first
          | (go_at_call 34
             refine (names_call' Y.drew t _ _ ?_ (HST.out.later hself.drew) hg hs).mono ?_
             · (first | rfl | (simp; done) | (have := HYS.out; simp; omega))
             rintro e w2 ⟨sv, rfl, hb2, ho2⟩
             rw [← HK.out] at ho2
             obtain ⟨ao, ac, rfl⟩ := own_slice_len ho2
             clear ho2
             have hS2 : ButFor Y w.heap.size w2 := After.butFor (hself.drew.trans hb2)
             have hb3 := (hb1.trans hal).trans (hself.drew.trans hb2)
             obtain ⟨p0, p1, p2, p3, p4⟩ := box2 hb3))
      all_goals
        go_wp2_with fail
        exact bodyPost_ret (v := .tuple #[.agg #[str s1, .slice ao1 n1 c1], .bool true]) (by simp [results, Tryz.results16, go_sem, p0, p1]) rfl ⟨s1, ao1, n1, c1, by rw [← HS.out], After.set2 hb3, fun t' he => by obtain rfl := HOK.out t' he; exact (HST.out.later (hself.drew.trans hb2)).sets (i := 0) (j := 1) hb3⟩
    | false =>
      go_enter Tryz.func16, Tryz.ntmps16
      go_wp2_with fail
      refine (hterm _).mono ?_
      rintro e w1 ⟨s1, ao1, n1, c1, rfl, hb1, ht1⟩
      have hst := Lib.hid (ht1 t rfl)
      clear ht1 hterm
      obtain ⟨r0, r1, f0, f1, hz⟩ := box2 hb1
      have hal := After.new w1 (.cells #[str s1, .slice ao1 n1 c1] 42)
      have hsz1 : w.heap.size < w1.heap.size := hz
      obtain ⟨Y, hY⟩ : ∃ Y, Y = w1.alloc (.cells #[str s1, .slice ao1 n1 c1] 42) := ⟨_, rfl⟩
      have hGt : Y.heap[w1.heap.size]? = some (.cells #[str s1, .slice ao1 n1 c1] 42 (0, 0)) := by rw [hY]; exact heap_new' _ _
      have hYs : Y.heap.size = w1.heap.size + 1 := by rw [hY]; simp
      rw [← hY] at hal
      have HST := Lib.hid (hst.out.later hal)
      have HYS := Lib.hid hYs
      have hself := After.refl Y
      have hbf : ButFor Y w.heap.size Y.drew := ⟨Nat.le_refl _, fun _ _ _ => rfl⟩
      have o0 : ∀ W, ButFor Y w.heap.size W → W.cell? ⟨w1.heap.size, 0, none⟩ = some (str s1) := fun W hW => hW.cell (by omega) (cell_of_heap (i := 0) hGt)
      have o1 : ∀ W, ButFor Y w.heap.size W → W.cell? ⟨w1.heap.size, 1, none⟩ = some (.slice ao1 n1 c1) := fun W hW => hW.cell (by omega) (cell_of_heap (i := 1) hGt)
      clear hst hGt hYs
      go_wp2_with fail
      rw [← hY]
      clear hY
      go_region_held3 (fun W' => ButFor Y w.heap.size W') (first | assumption | exact hbf | exact ButFor.alloc (by assumption) _ | exact hbf.alloc _ | exact ButFor.set (by assumption) _ _ | exact ButFor.set (ButFor.set (by assumption) _ _) _ _)
        (first
          | (go_at_call 34
             refine (names_call' Y.drew t _ _ ?_ (HST.out.later hself.drew) hg hs).mono ?_
             · (first | rfl | (simp; done) | (have := HYS.out; simp; omega))
             rintro e w2 ⟨sv, rfl, hb2, ho2⟩
             rw [← HK.out] at ho2
             obtain ⟨ao, ac, rfl⟩ := own_slice_len ho2
             clear ho2
             have hS2 : ButFor Y w.heap.size w2 := After.butFor (hself.drew.trans hb2)
             have hb3 := (hb1.trans hal).trans (hself.drew.trans hb2)
             obtain ⟨p0, p1, p2, p3, p4⟩ := box2 hb3))
      all_goals
        go_wp2_with fail
        exact bodyPost_ret (v := .tuple #[.agg #[str s1, .slice ao1 n1 c1], .bool false]) (by simp [results, Tryz.results16, go_sem, p0, p1]) rfl ⟨s1, ao1, n1, c1, by rw [← HS.out], After.set2 hb3, fun t' he => by obtain rfl := HOK.out t' he; exact (HST.out.later (hself.drew.trans hb2)).sets (i := 0) (j := 1) hb3⟩

/-- What l4Small makes of a closed term. -/
def smallT (t : Tm) : Tm := if t.size ≤ 300 then t.code else t
def smallB (t : Tm) : Bool := if t.size ≤ 300 then t.code.fits else false
theorem small_eq {t : Tm} (hn : t.names [] = []) : smallB t = t.code.fits := by
  unfold smallB
  split
  · rfl
  · rename_i h
    have hge := Tm.code_size_ge t (fun n e => by subst e; simp [Tm.names] at hn) (fun x hx => by rw [hn] at hx; cases hx)
    have : ¬ t.code.size ≤ 3000 := by omega
    simp [Tm.fits, this]
theorem small_some {t : Tm} (h : smallB t = true) : smallT t = t.code := by
  unfold smallB at h
  unfold smallT
  split at h
  · rename_i h1; rw [if_pos h1]
  · cases h

theorem s_small4 (w : World) (t : Tm) (s : List UInt8) (ao : Option Addr) (m c : Nat) (h : ST w t (.agg #[str s, .slice ao m c])) (hg : t.good = true) (hz : t.size ≤ 1000000) (hn : t.names [] = []) :
    Calls Tryz.prog 17 #[.agg #[str s, .slice ao m c]] w (SNormPost w (smallT t) (smallB t)) := by
  obtain ⟨Y, hY⟩ : ∃ Y, Y = (w.alloc (.cells #[str s, .slice ao m c] 42)).alloc (.cells #[.string ⟨#[]⟩, .slice none 0 0] 42) := ⟨_, rfl⟩
  have hA : After w Y := by rw [hY]; exact (After.new _ _).alloc _
  have hq : Y.heap[w.heap.size]? = some (.cells #[str s, .slice ao m c] 42 (0, 0)) := by rw [hY]; exact heap_old2 _ _ _
  have hr : Y.heap[w.heap.size + 1]? = some (.cells #[.string ⟨#[]⟩, .slice none 0 0] 42 (0, 0)) := by rw [hY]; exact heap_new2 w _ _ _ rfl
  have HQ := Lib.hid hq
  have HR := Lib.hid hr
  have HA := Lib.hid hA
  have HT := Lib.hid (h.later hA)
  have hsize := (h.later hA).size hg (by omega)
  obtain ⟨q0, q1, _, _, _⟩ := pair_facts hq (After.refl Y)
  clear hq hr hA h
  by_cases h3 : t.size ≤ 300
  · have h3' : ¬ (300 : Int) < (t.size : Int) := by omega
    have e1 : smallT t = t.code := by unfold smallT; rw [if_pos h3]
    have e2 : smallB t = t.code.fits := by unfold smallB; rw [if_pos h3]
    rw [e1, e2]
    have hcz := Tm.code_size_le t
    have hgc := Tm.code_good t hg
    have hcl := closed_of hn
    have HN := Lib.hid hcl
    clear e1 e2 hcl
    go_enter Tryz.func17, Tryz.ntmps17
    go_wp2_with fail
    rw [← hY]
    clear hY
    refine hsize.mono ?_
    rintro e w1 ⟨rfl, hb1⟩
    obtain ⟨p0, p1, _, _, _⟩ := pair_facts HQ.out hb1
    have hcode := ST.code4 (HT.out.later hb1) HN.out
    unfold TreePost at hcode
    clear hsize q0 q1
    go_wp2_with fail
    refine hcode.mono ?_
    rintro e w2 ⟨s2, ao2, n2, c2, rfl, hb2, ht2⟩
    obtain ⟨X, hX⟩ : ∃ X, X = w2.alloc (.cells #[str s2, .slice ao2 n2 c2] 42) := ⟨_, rfl⟩
    have hal : After w2 X := by rw [hX]; exact After.new _ _
    have hGt : X.heap[w2.heap.size]? = some (.cells #[str s2, .slice ao2 n2 c2] 42 (0, 0)) := by rw [hX]; exact heap_new' _ _
    have hlt : w.heap.size + 1 < w2.heap.size := by have := (Array.getElem?_eq_some_iff.1 ((hb1.trans hb2).heap HR.out)).1; omega
    have HST := Lib.hid (ht2.later hal)
    have hAX := (hb1.trans hb2).trans hal
    have hself := After.refl X
    have hbf : ButFor X (w.heap.size + 1) X.drew := ⟨Nat.le_refl _, fun _ _ _ => rfl⟩
    have o0 : ∀ W, ButFor X (w.heap.size + 1) W → W.cell? ⟨w2.heap.size, 0, none⟩ = some (str s2) := fun W hW => hW.cell (by omega) (cell_of_heap (i := 0) hGt)
    have o1 : ∀ W, ButFor X (w.heap.size + 1) W → W.cell? ⟨w2.heap.size, 1, none⟩ = some (.slice ao2 n2 c2) := fun W hW => hW.cell (by omega) (cell_of_heap (i := 1) hGt)
    obtain ⟨b, hb⟩ : ∃ b, b = t.code.fits := ⟨_, rfl⟩
    have hfine := fun W (hW : After X W) => (HST.out.later hW).fine hgc (by omega)
    rw [← hb] at hfine
    have HB := Lib.hid hb
    clear ht2 hcode hGt hb p0 p1
    go_wp2_with fail
    rw [← hX]
    clear hX
    go_region_held3 (fun W' => ButFor X (w.heap.size + 1) W') (first | assumption | exact hbf | exact ButFor.alloc (by assumption) _ | exact hbf.alloc _ | exact ButFor.set (by assumption) _ _ | exact ButFor.set (ButFor.set (by assumption) _ _) _ _)
      (first
        | (go_at_call 37
           refine (hfine _ hself.drew).mono ?_
           rintro e w3 ⟨rfl, hb3⟩
           have hS3 : ButFor X (w.heap.size + 1) w3 := After.butFor (hself.drew.trans hb3)
           have hA3 := hAX.trans (hself.drew.trans hb3)
           have G := hA3.heap HR.out
           obtain ⟨z0, z1, z2, z3, z4⟩ := pair_facts G (After.refl _)))
    all_goals
      go_wp2_with fail
      exact bodyPost_ret (v := .tuple #[.agg #[str s2, .slice ao2 n2 c2], .bool b]) (by simp [results, Tryz.results17, go_sem, z0, z1]) rfl
        ⟨s2, ao2, n2, c2, by rw [HB.out], after_sets2 (HA.out.trans hA3) G (Nat.le_succ _) _ _, (HST.out.later (hself.drew.trans hb3)).sets2 (i := 0) (j := 1) G⟩
  · have h3' : (300 : Int) < (t.size : Int) := by omega
    have e1 : smallT t = t := by unfold smallT; rw [if_neg h3]
    have e2 : smallB t = false := by unfold smallB; rw [if_neg h3]
    rw [e1, e2]
    clear e1 e2
    go_enter Tryz.func17, Tryz.ntmps17
    go_wp2_with fail
    rw [← hY]
    clear hY
    refine hsize.mono ?_
    rintro e w1 ⟨rfl, hb1⟩
    obtain ⟨p0, p1, _, _, _⟩ := pair_facts HQ.out hb1
    have G := hb1.heap HR.out
    obtain ⟨z0, z1, z2, z3, z4⟩ := pair_facts G (After.refl _)
    have HT2 := Lib.hid ((HT.out.later hb1).sets2 (i := 0) (j := 1) (u := str s) (u' := .slice ao m c) G)
    clear hsize q0 q1
    go_wp2_with fail
    exact bodyPost_ret (v := .tuple #[.agg #[str s, .slice ao m c], .bool false]) (by simp [results, Tryz.results17, go_sem, z0, z1]) rfl
      ⟨s, ao, m, c, rfl, after_sets2 (HA.out.trans hb1) G (Nat.le_succ _) _ _, HT2.out⟩

/-- What is told of an end. -/
def endR (x : Tm) (ok : Bool) : Option (List UInt8) := if ok = true then (Tm.endOf x).map Tm.text else none

theorem s_end4 (w : World) (x : Tm) (ok : Bool) (s : List UInt8) (ao : Option Addr) (m c : Nat) (h : ok = true → ST w x (.agg #[str s, .slice ao m c]) ∧ x.good = true ∧ x.size ≤ 1000000) :
    Calls Tryz.prog 18 #[.agg #[str s, .slice ao m c], .bool ok] w fun e w' => e = .returned (.tuple #[str ((endR x ok).getD []), .bool (endR x ok).isSome]) ∧ After w w' := by
  cases ok with
  | false =>
    have hn := After.new w (.cells #[str s, .slice ao m c] 42)
    rw [show endR x false = none from rfl]
    clear h
    go_enter Tryz.func18, Tryz.ntmps18
    go_wp2_with fail
    go_ret2
    exact ⟨rfl, hn⟩
  | true =>
    obtain ⟨hst, hg, hz⟩ := h rfl
    rw [show endR x true = (Tm.endOf x).map Tm.text from rfl]
    obtain ⟨y, hy⟩ : ∃ y, y = (if x.fits = true then (x.many 6000).1 else x) := ⟨_, rfl⟩
    obtain ⟨b, hb⟩ : ∃ b, b = (x.fits && y.step.isNone) := ⟨_, rfl⟩
    have hnorm : ∀ W s ao m c, ST W x (.agg #[str s, .slice ao m c]) → Calls Tryz.prog 38 #[.agg #[str s, .slice ao m c]] W (SNormPost W y b) := by
      intro W s ao m c h
      cases hfa : x.fits with
      | false =>
        rw [hfa] at hy hb
        simp only [Bool.false_eq_true, if_false, Bool.false_and] at hy hb
        rw [hy, hb]
        exact s_normal_no W _ s ao m c h hg hz hfa
      | true =>
        rw [hfa] at hy hb
        simp only [if_true, Bool.true_and] at hy hb
        rw [hb, hy]
        exact s_normal W _ s ao m c h hg hfa
    have hfin : (Tm.endOf x).map Tm.text = if b = true then some y.text else none := by
      rw [Tm.endOf_eq]
      simp only [normal_none]
      cases hfa : x.fits with
      | false => rw [hfa] at hb; simp only [Bool.false_and] at hb; simp [hb]
      | true =>
        rw [hfa] at hy hb
        simp only [if_true, Bool.true_and] at hy hb
        rw [hb, hy]
        cases (x.many 6000).1.step.isNone <;> rfl
    have hgx : b = true → y.good = true ∧ y.text.length ≤ 100000000 := by
      intro hbt
      rw [hbt] at hb
      obtain ⟨hfa, _⟩ := Bool.and_eq_true_iff.1 hb.symm
      rw [hfa] at hy
      simp only [if_true] at hy
      obtain ⟨hgm, hfm⟩ := Tm.many_good 6000 _ hg hfa
      rw [← hy] at hgm hfm
      have htm := Tm.text_le _ hgm
      have hsm := fits_size hfm
      exact ⟨hgm, by omega⟩
    rw [hfin]
    have HGX := Lib.hid hgx
    have hn := After.new w (.cells #[str s, .slice ao m c] 42)
    have hbox := heap_new' w (.cells #[str s, .slice ao m c] 42)
    obtain ⟨k0, k1, _, _, _⟩ := pair_facts hbox (After.refl _)
    have hcall := hnorm _ _ _ _ _ (hst.later hn)
    unfold SNormPost at hcall
    clear hfin hy hb hgx hnorm hst hbox h
    cases b
    all_goals
      simp only [if_true, Bool.false_eq_true, if_false]
      go_enter Tryz.func18, Tryz.ntmps18
      go_wp2_with fail
      refine hcall.mono ?_
      rintro e w4 ⟨s4, ao4, n4, c4, rfl, hb4, ht4⟩
      have hw4 := After.alloc (hn.trans hb4) (.cells #[str s4, .slice ao4 n4 c4] 42)
      first
        | (have htext := (ht4.later (After.new w4 (.cells #[str s4, .slice ao4 n4 c4] 42))).text (HGX.out (by trivial)).1 (HGX.out (by trivial)).2
           clear ht4 hcall HGX
           go_wp2_with (go_at_call 39; refine htext.mono ?_; rintro e w5 ⟨rfl, hb5⟩)
           go_ret2
           exact ⟨rfl, hw4.trans hb5⟩)
        | (clear ht4 hcall HGX
           go_wp2_with fail
           go_ret2
           exact ⟨rfl, hw4⟩)
end Go.Proofs.YtkmfnnmbhmjfgaaGreat
