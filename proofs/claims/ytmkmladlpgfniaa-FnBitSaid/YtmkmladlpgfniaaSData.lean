/-
  The model's fixed point combinator and its closed terms of words: l2Fix, l2Data; DataOf.
-/
import Derived.Test.YtmkmladlpgfniaaSFix
import Derived.Test.YtmkmladlpgfniaaSPair
import Derived.Test.YtmkmladlpgfniaaImplData
namespace Go.Proofs.Ytmkmladlpgfniaa
open Go.RowKit

set_option maxHeartbeats 4000000
set_option maxRecDepth 100000

def SDataPost (w : World) (r : Option Tm) (e : Ending) (w' : World) : Prop :=
  ∃ s ao n c, e = .returned (.tuple #[.agg #[str s, .slice ao n c], .bool r.isSome]) ∧ After w w' ∧ ∀ t, r = some t → ST w' t (.agg #[str s, .slice ao n c])

theorem sdata_i (w : World) : Calls Try.prog 46 #[str [105]] w (SDataPost w (some Tm.I)) := by
  have hnx := s_nm (w.alloc (.cells #[.string ⟨#[]⟩, .slice none 0 0] 46)) [120]
  have hres := heap_new' w (.cells #[.string ⟨#[]⟩, .slice none 0 0] 46)
  have hA := After.new w (.cells #[.string ⟨#[]⟩, .slice none 0 0] 46)
  have HRES := Lib.hid hres
  clear hres
  go_enter Try.func46, Try.ntmps46
  go_wp2_with fail
  refine hnx.mono ?_
  rintro e w1 ⟨rfl, hb1⟩
  have hAY : After w (w1.alloc (.cells #[str [120], .slice none 0 0] 46)) := (hA.trans hb1).alloc _
  have hRY : (w1.alloc (.cells #[str [120], .slice none 0 0] 46)).heap[w.heap.size]? = some (.cells #[.string ⟨#[]⟩, .slice none 0 0] 46 (0, 0)) := (hb1.alloc _).heap HRES.out
  have HR1 := Lib.hid (hb1.heap HRES.out)
  have HA1 := Lib.hid (hA.trans hb1)
  have hXY := heap_new' w1 (.cells #[str [120], .slice none 0 0] 46)
  have hs1 := hb1.size
  have hne : w.heap.size < w1.heap.size := by simp at hs1; omega
  have HAY := Lib.hid hAY
  have HRY := Lib.hid hRY
  have HXY := Lib.hid hXY
  clear hnx hAY hRY hXY hb1 hs1 hA HRES
  have hk := s_i (w1.alloc (.cells #[str [120], .slice none 0 0] 46))
  unfold TreePost at hk
  go_wp2_with fail
  refine hk.mono ?_
  rintro e w3 ⟨t3, ao3, n3, c3, rfl, hb3, ht3⟩
  have HT3 := Lib.hid ht3
  obtain ⟨z0, z1, z2, z3, l2⟩ := pair_facts HRY.out hb3
  clear ht3 hk
  go_wp2_with fail
  refine bodyPost_ret (v := .tuple #[.agg #[str t3, .slice ao3 n3 c3], .bool true]) (by simp [results, Try.results46, go_sem, z0, z1]) rfl
    ⟨t3, ao3, n3, c3, rfl, after_sets2 (HAY.out.trans hb3) (After.heap hb3 HRY.out) (Nat.le_refl _) _ _, fun t he => by obtain rfl := Option.some.inj he; exact HT3.out.sets2 (After.heap hb3 HRY.out)⟩

theorem sdata_true (w : World) : Calls Try.prog 46 #[str [116, 114, 117, 101]] w (SDataPost w (some .k)) := by
  have hnx := s_nm (w.alloc (.cells #[.string ⟨#[]⟩, .slice none 0 0] 46)) [120]
  have hres := heap_new' w (.cells #[.string ⟨#[]⟩, .slice none 0 0] 46)
  have hA := After.new w (.cells #[.string ⟨#[]⟩, .slice none 0 0] 46)
  have HRES := Lib.hid hres
  clear hres
  go_enter Try.func46, Try.ntmps46
  go_wp2_with fail
  refine hnx.mono ?_
  rintro e w1 ⟨rfl, hb1⟩
  have hAY : After w (w1.alloc (.cells #[str [120], .slice none 0 0] 46)) := (hA.trans hb1).alloc _
  have hRY : (w1.alloc (.cells #[str [120], .slice none 0 0] 46)).heap[w.heap.size]? = some (.cells #[.string ⟨#[]⟩, .slice none 0 0] 46 (0, 0)) := (hb1.alloc _).heap HRES.out
  have HR1 := Lib.hid (hb1.heap HRES.out)
  have HA1 := Lib.hid (hA.trans hb1)
  have hXY := heap_new' w1 (.cells #[str [120], .slice none 0 0] 46)
  have hs1 := hb1.size
  have hne : w.heap.size < w1.heap.size := by simp at hs1; omega
  have HAY := Lib.hid hAY
  have HRY := Lib.hid hRY
  have HXY := Lib.hid hXY
  clear hnx hAY hRY hXY hb1 hs1 hA HRES
  have hk := s_true (w1.alloc (.cells #[str [120], .slice none 0 0] 46))
  unfold TreePost at hk
  go_wp2_with fail
  refine hk.mono ?_
  rintro e w3 ⟨t3, ao3, n3, c3, rfl, hb3, ht3⟩
  have HT3 := Lib.hid ht3
  obtain ⟨z0, z1, z2, z3, l2⟩ := pair_facts HRY.out hb3
  clear ht3 hk
  go_wp2_with fail
  refine bodyPost_ret (v := .tuple #[.agg #[str t3, .slice ao3 n3 c3], .bool true]) (by simp [results, Try.results46, go_sem, z0, z1]) rfl
    ⟨t3, ao3, n3, c3, rfl, after_sets2 (HAY.out.trans hb3) (After.heap hb3 HRY.out) (Nat.le_refl _) _ _, fun t he => by obtain rfl := Option.some.inj he; exact HT3.out.sets2 (After.heap hb3 HRY.out)⟩

theorem sdata_false (w : World) : Calls Try.prog 46 #[str [102, 97, 108, 115, 101]] w (SDataPost w (some Tm.no)) := by
  have hnx := s_nm (w.alloc (.cells #[.string ⟨#[]⟩, .slice none 0 0] 46)) [120]
  have hres := heap_new' w (.cells #[.string ⟨#[]⟩, .slice none 0 0] 46)
  have hA := After.new w (.cells #[.string ⟨#[]⟩, .slice none 0 0] 46)
  have HRES := Lib.hid hres
  clear hres
  go_enter Try.func46, Try.ntmps46
  go_wp2_with fail
  refine hnx.mono ?_
  rintro e w1 ⟨rfl, hb1⟩
  have hAY : After w (w1.alloc (.cells #[str [120], .slice none 0 0] 46)) := (hA.trans hb1).alloc _
  have hRY : (w1.alloc (.cells #[str [120], .slice none 0 0] 46)).heap[w.heap.size]? = some (.cells #[.string ⟨#[]⟩, .slice none 0 0] 46 (0, 0)) := (hb1.alloc _).heap HRES.out
  have HR1 := Lib.hid (hb1.heap HRES.out)
  have HA1 := Lib.hid (hA.trans hb1)
  have hXY := heap_new' w1 (.cells #[str [120], .slice none 0 0] 46)
  have hs1 := hb1.size
  have hne : w.heap.size < w1.heap.size := by simp at hs1; omega
  have HAY := Lib.hid hAY
  have HRY := Lib.hid hRY
  have HXY := Lib.hid hXY
  clear hnx hAY hRY hXY hb1 hs1 hA HRES
  have hk := s_false (w1.alloc (.cells #[str [120], .slice none 0 0] 46))
  unfold TreePost at hk
  go_wp2_with fail
  refine hk.mono ?_
  rintro e w3 ⟨t3, ao3, n3, c3, rfl, hb3, ht3⟩
  have HT3 := Lib.hid ht3
  obtain ⟨z0, z1, z2, z3, l2⟩ := pair_facts HRY.out hb3
  clear ht3 hk
  go_wp2_with fail
  refine bodyPost_ret (v := .tuple #[.agg #[str t3, .slice ao3 n3 c3], .bool true]) (by simp [results, Try.results46, go_sem, z0, z1]) rfl
    ⟨t3, ao3, n3, c3, rfl, after_sets2 (HAY.out.trans hb3) (After.heap hb3 HRY.out) (Nat.le_refl _) _ _, fun t he => by obtain rfl := Option.some.inj he; exact HT3.out.sets2 (After.heap hb3 HRY.out)⟩

theorem sdata_first (w : World) : Calls Try.prog 46 #[str [102, 105, 114, 115, 116]] w (SDataPost w (some Tm.first)) := by
  have hnx := s_nm (w.alloc (.cells #[.string ⟨#[]⟩, .slice none 0 0] 46)) [120]
  have hres := heap_new' w (.cells #[.string ⟨#[]⟩, .slice none 0 0] 46)
  have hA := After.new w (.cells #[.string ⟨#[]⟩, .slice none 0 0] 46)
  have HRES := Lib.hid hres
  clear hres
  go_enter Try.func46, Try.ntmps46
  go_wp2_with fail
  refine hnx.mono ?_
  rintro e w1 ⟨rfl, hb1⟩
  have hAY : After w (w1.alloc (.cells #[str [120], .slice none 0 0] 46)) := (hA.trans hb1).alloc _
  have hRY : (w1.alloc (.cells #[str [120], .slice none 0 0] 46)).heap[w.heap.size]? = some (.cells #[.string ⟨#[]⟩, .slice none 0 0] 46 (0, 0)) := (hb1.alloc _).heap HRES.out
  have HR1 := Lib.hid (hb1.heap HRES.out)
  have HA1 := Lib.hid (hA.trans hb1)
  have hXY := heap_new' w1 (.cells #[str [120], .slice none 0 0] 46)
  have hs1 := hb1.size
  have hne : w.heap.size < w1.heap.size := by simp at hs1; omega
  have HAY := Lib.hid hAY
  have HRY := Lib.hid hRY
  have HXY := Lib.hid hXY
  clear hnx hAY hRY hXY hb1 hs1 hA HRES
  have habs := fun W v (h : ST W (Tm.app Tm.X .k) v) => h.abs [120] (by decide) (by decide) (by decide) (Tm.plain_good (by decide +kernel)) (by decide +kernel)
  unfold TreePost at habs
  obtain ⟨Y, hY⟩ : ∃ Y, Y = (w1.alloc (.cells #[str [120], .slice none 0 0] 46)) := ⟨_, rfl⟩
  rw [← hY] at HAY HRY HXY
  have hbf : ButFor Y w.heap.size Y.drew := ⟨Nat.le_refl _, fun _ _ _ => rfl⟩
  have o0 : ∀ W, ButFor Y w.heap.size W → W.cell? ⟨w1.heap.size, 0, none⟩ = some (str [120]) := fun W hW => hW.cell (by omega) (cell_of_heap HXY.out)
  have o1 : ∀ W, ButFor Y w.heap.size W → W.cell? ⟨w1.heap.size, 1, none⟩ = some (.slice none 0 0) := fun W hW => hW.cell (by omega) (cell_of_heap HXY.out)
  go_wp2_with fail
  rw [← hY]
  have HY := Lib.hid hY
  clear hY
  go_region_held3 (fun W' => ButFor Y w.heap.size W') (first | assumption | exact hbf | exact ButFor.alloc (by assumption) _ | exact hbf.alloc _ | exact ButFor.set (by assumption) _ _ | exact ButFor.set (ButFor.set (by assumption) _ _) _ _ | exact hbf)
    (first
      | (go_at_call 60
         refine (s_true _).mono ?_
         rintro e w3 ⟨t3, ao3, n3, c3, rfl, hb3, ht3⟩
         have HT3 := Lib.hid ht3
         clear ht3
         have hS3 : ButFor Y w.heap.size w3 := After.butFor (After.trans (a := Y) (by repeat (first | assumption | exact After.refl _ | apply After.alloc | apply After.drew | (refine After.trans ?_ (by assumption)))) hb3))
      | (go_at_call 81
         refine (s_app _ Tm.X .k [120] t3 none ao3 0 0 n3 c3 _ (0, 0) ?_ ?_ ?_).mono ?_
         · (rfl)
         · (exact HT3.out.later (by repeat (first | assumption | exact After.refl _ | apply After.alloc | apply After.drew | (refine After.trans ?_ (by assumption)))))
         · (repeat (first | (first | exact heap_new' _ _ | exact heap_newD _ _ | exact heap_old2 _ _ _ | exact heap_old2D _ _ _ | exact heap_new2 _ _ _ _ rfl | exact heap_new2D _ _ _) | (refine After.heap (by assumption) ?_) | (refine After.heap (After.alloc (by assumption) _) ?_) | (refine After.heap (After.alloc (After.alloc (by assumption) _) _) ?_)))
         rintro e w4 ⟨t4, ao4, n4, c4, rfl, hb4, ht4⟩
         have HT4 := Lib.hid ht4
         clear ht4
         have hS4 : ButFor Y w.heap.size w4 := After.butFor (After.trans (a := Y) (by repeat (first | assumption | exact After.refl _ | apply After.alloc | apply After.drew | (refine After.trans ?_ (by assumption)))) hb4))
      | (go_at_call 82
         refine (habs _ _ (HT4.out.later (by repeat (first | assumption | exact After.refl _ | apply After.alloc | apply After.drew | (refine After.trans ?_ (by assumption)))))).mono ?_
         rintro e w5 ⟨t5, ao5, n5, c5, rfl, hb5, ht5⟩
         have HT5 := Lib.hid ht5
         clear ht5
         have hS5 : ButFor Y w.heap.size w5 := After.butFor (After.trans (a := Y) (by repeat (first | assumption | exact After.refl _ | apply After.alloc | apply After.drew | (refine After.trans ?_ (by assumption)))) hb5)
         have hAL : After Y w5 := After.trans (a := Y) (by repeat (first | assumption | exact After.refl _ | apply After.alloc | apply After.drew | (refine After.trans ?_ (by assumption)))) hb5
         obtain ⟨z0, z1, z2, z3, z4⟩ := pair_facts HRY.out hAL)
    )
  all_goals
    go_wp2_with fail
    refine bodyPost_ret (v := .tuple #[.agg #[str t5, .slice ao5 n5 c5], .bool true]) (by simp [results, Try.results46, go_sem, z0, z1]) rfl
      ⟨t5, ao5, n5, c5, rfl, after_sets2 (HAY.out.trans hAL) (After.heap hAL HRY.out) (Nat.le_refl _) _ _, fun t he => by obtain rfl := Option.some.inj he; exact HT5.out.sets2 (After.heap hAL HRY.out)⟩

theorem sdata_zero (w : World) : Calls Try.prog 46 #[str [122, 101, 114, 111]] w (SDataPost w (some Tm.first)) := by
  have hnx := s_nm (w.alloc (.cells #[.string ⟨#[]⟩, .slice none 0 0] 46)) [120]
  have hres := heap_new' w (.cells #[.string ⟨#[]⟩, .slice none 0 0] 46)
  have hA := After.new w (.cells #[.string ⟨#[]⟩, .slice none 0 0] 46)
  have HRES := Lib.hid hres
  clear hres
  go_enter Try.func46, Try.ntmps46
  go_wp2_with fail
  refine hnx.mono ?_
  rintro e w1 ⟨rfl, hb1⟩
  have hAY : After w (w1.alloc (.cells #[str [120], .slice none 0 0] 46)) := (hA.trans hb1).alloc _
  have hRY : (w1.alloc (.cells #[str [120], .slice none 0 0] 46)).heap[w.heap.size]? = some (.cells #[.string ⟨#[]⟩, .slice none 0 0] 46 (0, 0)) := (hb1.alloc _).heap HRES.out
  have HR1 := Lib.hid (hb1.heap HRES.out)
  have HA1 := Lib.hid (hA.trans hb1)
  have hXY := heap_new' w1 (.cells #[str [120], .slice none 0 0] 46)
  have hs1 := hb1.size
  have hne : w.heap.size < w1.heap.size := by simp at hs1; omega
  have HAY := Lib.hid hAY
  have HRY := Lib.hid hRY
  have HXY := Lib.hid hXY
  clear hnx hAY hRY hXY hb1 hs1 hA HRES
  have habs := fun W v (h : ST W (Tm.app Tm.X .k) v) => h.abs [120] (by decide) (by decide) (by decide) (Tm.plain_good (by decide +kernel)) (by decide +kernel)
  unfold TreePost at habs
  obtain ⟨Y, hY⟩ : ∃ Y, Y = (w1.alloc (.cells #[str [120], .slice none 0 0] 46)) := ⟨_, rfl⟩
  rw [← hY] at HAY HRY HXY
  have hbf : ButFor Y w.heap.size Y.drew := ⟨Nat.le_refl _, fun _ _ _ => rfl⟩
  have o0 : ∀ W, ButFor Y w.heap.size W → W.cell? ⟨w1.heap.size, 0, none⟩ = some (str [120]) := fun W hW => hW.cell (by omega) (cell_of_heap HXY.out)
  have o1 : ∀ W, ButFor Y w.heap.size W → W.cell? ⟨w1.heap.size, 1, none⟩ = some (.slice none 0 0) := fun W hW => hW.cell (by omega) (cell_of_heap HXY.out)
  go_wp2_with fail
  rw [← hY]
  have HY := Lib.hid hY
  clear hY
  go_region_held3 (fun W' => ButFor Y w.heap.size W') (first | assumption | exact hbf | exact ButFor.alloc (by assumption) _ | exact hbf.alloc _ | exact ButFor.set (by assumption) _ _ | exact ButFor.set (ButFor.set (by assumption) _ _) _ _ | exact hbf)
    (first
      | (go_at_call 60
         refine (s_true _).mono ?_
         rintro e w3 ⟨t3, ao3, n3, c3, rfl, hb3, ht3⟩
         have HT3 := Lib.hid ht3
         clear ht3
         have hS3 : ButFor Y w.heap.size w3 := After.butFor (After.trans (a := Y) (by repeat (first | assumption | exact After.refl _ | apply After.alloc | apply After.drew | (refine After.trans ?_ (by assumption)))) hb3))
      | (go_at_call 81
         refine (s_app _ Tm.X .k [120] t3 none ao3 0 0 n3 c3 _ (0, 0) ?_ ?_ ?_).mono ?_
         · (rfl)
         · (exact HT3.out.later (by repeat (first | assumption | exact After.refl _ | apply After.alloc | apply After.drew | (refine After.trans ?_ (by assumption)))))
         · (repeat (first | (first | exact heap_new' _ _ | exact heap_newD _ _ | exact heap_old2 _ _ _ | exact heap_old2D _ _ _ | exact heap_new2 _ _ _ _ rfl | exact heap_new2D _ _ _) | (refine After.heap (by assumption) ?_) | (refine After.heap (After.alloc (by assumption) _) ?_) | (refine After.heap (After.alloc (After.alloc (by assumption) _) _) ?_)))
         rintro e w4 ⟨t4, ao4, n4, c4, rfl, hb4, ht4⟩
         have HT4 := Lib.hid ht4
         clear ht4
         have hS4 : ButFor Y w.heap.size w4 := After.butFor (After.trans (a := Y) (by repeat (first | assumption | exact After.refl _ | apply After.alloc | apply After.drew | (refine After.trans ?_ (by assumption)))) hb4))
      | (go_at_call 82
         refine (habs _ _ (HT4.out.later (by repeat (first | assumption | exact After.refl _ | apply After.alloc | apply After.drew | (refine After.trans ?_ (by assumption)))))).mono ?_
         rintro e w5 ⟨t5, ao5, n5, c5, rfl, hb5, ht5⟩
         have HT5 := Lib.hid ht5
         clear ht5
         have hS5 : ButFor Y w.heap.size w5 := After.butFor (After.trans (a := Y) (by repeat (first | assumption | exact After.refl _ | apply After.alloc | apply After.drew | (refine After.trans ?_ (by assumption)))) hb5)
         have hAL : After Y w5 := After.trans (a := Y) (by repeat (first | assumption | exact After.refl _ | apply After.alloc | apply After.drew | (refine After.trans ?_ (by assumption)))) hb5
         obtain ⟨z0, z1, z2, z3, z4⟩ := pair_facts HRY.out hAL)
    )
  all_goals
    go_wp2_with fail
    refine bodyPost_ret (v := .tuple #[.agg #[str t5, .slice ao5 n5 c5], .bool true]) (by simp [results, Try.results46, go_sem, z0, z1]) rfl
      ⟨t5, ao5, n5, c5, rfl, after_sets2 (HAY.out.trans hAL) (After.heap hAL HRY.out) (Nat.le_refl _) _ _, fun t he => by obtain rfl := Option.some.inj he; exact HT5.out.sets2 (After.heap hAL HRY.out)⟩

theorem sdata_second (w : World) : Calls Try.prog 46 #[str [115, 101, 99, 111, 110, 100]] w (SDataPost w (some Tm.second)) := by
  have hnx := s_nm (w.alloc (.cells #[.string ⟨#[]⟩, .slice none 0 0] 46)) [120]
  have hres := heap_new' w (.cells #[.string ⟨#[]⟩, .slice none 0 0] 46)
  have hA := After.new w (.cells #[.string ⟨#[]⟩, .slice none 0 0] 46)
  have HRES := Lib.hid hres
  clear hres
  go_enter Try.func46, Try.ntmps46
  go_wp2_with fail
  refine hnx.mono ?_
  rintro e w1 ⟨rfl, hb1⟩
  have hAY : After w (w1.alloc (.cells #[str [120], .slice none 0 0] 46)) := (hA.trans hb1).alloc _
  have hRY : (w1.alloc (.cells #[str [120], .slice none 0 0] 46)).heap[w.heap.size]? = some (.cells #[.string ⟨#[]⟩, .slice none 0 0] 46 (0, 0)) := (hb1.alloc _).heap HRES.out
  have HR1 := Lib.hid (hb1.heap HRES.out)
  have HA1 := Lib.hid (hA.trans hb1)
  have hXY := heap_new' w1 (.cells #[str [120], .slice none 0 0] 46)
  have hs1 := hb1.size
  have hne : w.heap.size < w1.heap.size := by simp at hs1; omega
  have HAY := Lib.hid hAY
  have HRY := Lib.hid hRY
  have HXY := Lib.hid hXY
  clear hnx hAY hRY hXY hb1 hs1 hA HRES
  have habs := fun W v (h : ST W (Tm.app Tm.X Tm.no) v) => h.abs [120] (by decide) (by decide) (by decide) (Tm.plain_good (by decide +kernel)) (by decide +kernel)
  unfold TreePost at habs
  obtain ⟨Y, hY⟩ : ∃ Y, Y = (w1.alloc (.cells #[str [120], .slice none 0 0] 46)) := ⟨_, rfl⟩
  rw [← hY] at HAY HRY HXY
  have hbf : ButFor Y w.heap.size Y.drew := ⟨Nat.le_refl _, fun _ _ _ => rfl⟩
  have o0 : ∀ W, ButFor Y w.heap.size W → W.cell? ⟨w1.heap.size, 0, none⟩ = some (str [120]) := fun W hW => hW.cell (by omega) (cell_of_heap HXY.out)
  have o1 : ∀ W, ButFor Y w.heap.size W → W.cell? ⟨w1.heap.size, 1, none⟩ = some (.slice none 0 0) := fun W hW => hW.cell (by omega) (cell_of_heap HXY.out)
  go_wp2_with fail
  rw [← hY]
  have HY := Lib.hid hY
  clear hY
  go_region_held3 (fun W' => ButFor Y w.heap.size W') (first | assumption | exact hbf | exact ButFor.alloc (by assumption) _ | exact hbf.alloc _ | exact ButFor.set (by assumption) _ _ | exact ButFor.set (ButFor.set (by assumption) _ _) _ _ | exact hbf)
    (first
      | (go_at_call 61
         refine (s_false _).mono ?_
         rintro e w3 ⟨t3, ao3, n3, c3, rfl, hb3, ht3⟩
         have HT3 := Lib.hid ht3
         clear ht3
         have hS3 : ButFor Y w.heap.size w3 := After.butFor (After.trans (a := Y) (by repeat (first | assumption | exact After.refl _ | apply After.alloc | apply After.drew | (refine After.trans ?_ (by assumption)))) hb3))
      | (go_at_call 81
         refine (s_app _ Tm.X Tm.no [120] t3 none ao3 0 0 n3 c3 _ (0, 0) ?_ ?_ ?_).mono ?_
         · (rfl)
         · (exact HT3.out.later (by repeat (first | assumption | exact After.refl _ | apply After.alloc | apply After.drew | (refine After.trans ?_ (by assumption)))))
         · (repeat (first | (first | exact heap_new' _ _ | exact heap_newD _ _ | exact heap_old2 _ _ _ | exact heap_old2D _ _ _ | exact heap_new2 _ _ _ _ rfl | exact heap_new2D _ _ _) | (refine After.heap (by assumption) ?_) | (refine After.heap (After.alloc (by assumption) _) ?_) | (refine After.heap (After.alloc (After.alloc (by assumption) _) _) ?_)))
         rintro e w4 ⟨t4, ao4, n4, c4, rfl, hb4, ht4⟩
         have HT4 := Lib.hid ht4
         clear ht4
         have hS4 : ButFor Y w.heap.size w4 := After.butFor (After.trans (a := Y) (by repeat (first | assumption | exact After.refl _ | apply After.alloc | apply After.drew | (refine After.trans ?_ (by assumption)))) hb4))
      | (go_at_call 82
         refine (habs _ _ (HT4.out.later (by repeat (first | assumption | exact After.refl _ | apply After.alloc | apply After.drew | (refine After.trans ?_ (by assumption)))))).mono ?_
         rintro e w5 ⟨t5, ao5, n5, c5, rfl, hb5, ht5⟩
         have HT5 := Lib.hid ht5
         clear ht5
         have hS5 : ButFor Y w.heap.size w5 := After.butFor (After.trans (a := Y) (by repeat (first | assumption | exact After.refl _ | apply After.alloc | apply After.drew | (refine After.trans ?_ (by assumption)))) hb5)
         have hAL : After Y w5 := After.trans (a := Y) (by repeat (first | assumption | exact After.refl _ | apply After.alloc | apply After.drew | (refine After.trans ?_ (by assumption)))) hb5
         obtain ⟨z0, z1, z2, z3, z4⟩ := pair_facts HRY.out hAL)
    )
  all_goals
    go_wp2_with fail
    refine bodyPost_ret (v := .tuple #[.agg #[str t5, .slice ao5 n5 c5], .bool true]) (by simp [results, Try.results46, go_sem, z0, z1]) rfl
      ⟨t5, ao5, n5, c5, rfl, after_sets2 (HAY.out.trans hAL) (After.heap hAL HRY.out) (Nat.le_refl _) _ _, fun t he => by obtain rfl := Option.some.inj he; exact HT5.out.sets2 (After.heap hAL HRY.out)⟩

theorem sdata_succ (w : World) : Calls Try.prog 46 #[str [115, 117, 99, 99]] w (SDataPost w (some Tm.succ)) := by
  have hnx := s_nm (w.alloc (.cells #[.string ⟨#[]⟩, .slice none 0 0] 46)) [120]
  have hres := heap_new' w (.cells #[.string ⟨#[]⟩, .slice none 0 0] 46)
  have hA := After.new w (.cells #[.string ⟨#[]⟩, .slice none 0 0] 46)
  have HRES := Lib.hid hres
  clear hres
  go_enter Try.func46, Try.ntmps46
  go_wp2_with fail
  refine hnx.mono ?_
  rintro e w1 ⟨rfl, hb1⟩
  have hAY : After w (w1.alloc (.cells #[str [120], .slice none 0 0] 46)) := (hA.trans hb1).alloc _
  have hRY : (w1.alloc (.cells #[str [120], .slice none 0 0] 46)).heap[w.heap.size]? = some (.cells #[.string ⟨#[]⟩, .slice none 0 0] 46 (0, 0)) := (hb1.alloc _).heap HRES.out
  have HR1 := Lib.hid (hb1.heap HRES.out)
  have HA1 := Lib.hid (hA.trans hb1)
  have hXY := heap_new' w1 (.cells #[str [120], .slice none 0 0] 46)
  have hs1 := hb1.size
  have hne : w.heap.size < w1.heap.size := by simp at hs1; omega
  have HAY := Lib.hid hAY
  have HRY := Lib.hid hRY
  have HXY := Lib.hid hXY
  clear hnx hAY hRY hXY hb1 hs1 hA HRES
  have habs := fun W v (h : ST W (Tm.pair Tm.no Tm.X) v) => h.abs [120] (by decide) (by decide) (by decide) (Tm.plain_good (by decide +kernel)) (by decide +kernel)
  unfold TreePost at habs
  obtain ⟨Y, hY⟩ : ∃ Y, Y = (w1.alloc (.cells #[str [120], .slice none 0 0] 46)) := ⟨_, rfl⟩
  rw [← hY] at HAY HRY HXY
  have hbf : ButFor Y w.heap.size Y.drew := ⟨Nat.le_refl _, fun _ _ _ => rfl⟩
  have o0 : ∀ W, ButFor Y w.heap.size W → W.cell? ⟨w1.heap.size, 0, none⟩ = some (str [120]) := fun W hW => hW.cell (by omega) (cell_of_heap HXY.out)
  have o1 : ∀ W, ButFor Y w.heap.size W → W.cell? ⟨w1.heap.size, 1, none⟩ = some (.slice none 0 0) := fun W hW => hW.cell (by omega) (cell_of_heap HXY.out)
  go_wp2_with fail
  rw [← hY]
  have HY := Lib.hid hY
  clear hY
  go_region_held3 (fun W' => ButFor Y w.heap.size W') (first | assumption | exact hbf | exact ButFor.alloc (by assumption) _ | exact hbf.alloc _ | exact ButFor.set (by assumption) _ _ | exact ButFor.set (ButFor.set (by assumption) _ _) _ _ | exact hbf)
    (first
      | (go_at_call 61
         refine (s_false _).mono ?_
         rintro e w3 ⟨t3, ao3, n3, c3, rfl, hb3, ht3⟩
         have HT3 := Lib.hid ht3
         clear ht3
         have hS3 : ButFor Y w.heap.size w3 := After.butFor (After.trans (a := Y) (by repeat (first | assumption | exact After.refl _ | apply After.alloc | apply After.drew | (refine After.trans ?_ (by assumption)))) hb3))
      | (go_at_call 83
         refine (s_pair _ Tm.no Tm.X t3 [120] ao3 none n3 c3 0 0 (HT3.out.later (by repeat (first | assumption | exact After.refl _ | apply After.alloc | apply After.drew | (refine After.trans ?_ (by assumption))))) rfl (by decide +kernel) (by decide +kernel) (by decide +kernel)).mono ?_
         rintro e w4 ⟨t4, ao4, n4, c4, rfl, hb4, ht4⟩
         have HT4 := Lib.hid ht4
         clear ht4
         have hS4 : ButFor Y w.heap.size w4 := After.butFor (After.trans (a := Y) (by repeat (first | assumption | exact After.refl _ | apply After.alloc | apply After.drew | (refine After.trans ?_ (by assumption)))) hb4))
      | (go_at_call 82
         refine (habs _ _ (HT4.out.later (by repeat (first | assumption | exact After.refl _ | apply After.alloc | apply After.drew | (refine After.trans ?_ (by assumption)))))).mono ?_
         rintro e w5 ⟨t5, ao5, n5, c5, rfl, hb5, ht5⟩
         have HT5 := Lib.hid ht5
         clear ht5
         have hS5 : ButFor Y w.heap.size w5 := After.butFor (After.trans (a := Y) (by repeat (first | assumption | exact After.refl _ | apply After.alloc | apply After.drew | (refine After.trans ?_ (by assumption)))) hb5)
         have hAL : After Y w5 := After.trans (a := Y) (by repeat (first | assumption | exact After.refl _ | apply After.alloc | apply After.drew | (refine After.trans ?_ (by assumption)))) hb5
         obtain ⟨z0, z1, z2, z3, z4⟩ := pair_facts HRY.out hAL)
    )
  all_goals
    go_wp2_with fail
    refine bodyPost_ret (v := .tuple #[.agg #[str t5, .slice ao5 n5 c5], .bool true]) (by simp [results, Try.results46, go_sem, z0, z1]) rfl
      ⟨t5, ao5, n5, c5, rfl, after_sets2 (HAY.out.trans hAL) (After.heap hAL HRY.out) (Nat.le_refl _) _ _, fun t he => by obtain rfl := Option.some.inj he; exact HT5.out.sets2 (After.heap hAL HRY.out)⟩

theorem sdata_pred (w : World) : Calls Try.prog 46 #[str [112, 114, 101, 100]] w (SDataPost w (some Tm.pred)) := by
  have hnx := s_nm (w.alloc (.cells #[.string ⟨#[]⟩, .slice none 0 0] 46)) [120]
  have hres := heap_new' w (.cells #[.string ⟨#[]⟩, .slice none 0 0] 46)
  have hA := After.new w (.cells #[.string ⟨#[]⟩, .slice none 0 0] 46)
  have HRES := Lib.hid hres
  clear hres
  go_enter Try.func46, Try.ntmps46
  go_wp2_with fail
  refine hnx.mono ?_
  rintro e w1 ⟨rfl, hb1⟩
  have hAY : After w (w1.alloc (.cells #[str [120], .slice none 0 0] 46)) := (hA.trans hb1).alloc _
  have hRY : (w1.alloc (.cells #[str [120], .slice none 0 0] 46)).heap[w.heap.size]? = some (.cells #[.string ⟨#[]⟩, .slice none 0 0] 46 (0, 0)) := (hb1.alloc _).heap HRES.out
  have HR1 := Lib.hid (hb1.heap HRES.out)
  have HA1 := Lib.hid (hA.trans hb1)
  have hXY := heap_new' w1 (.cells #[str [120], .slice none 0 0] 46)
  have hs1 := hb1.size
  have hne : w.heap.size < w1.heap.size := by simp at hs1; omega
  have HAY := Lib.hid hAY
  have HRY := Lib.hid hRY
  have HXY := Lib.hid hXY
  clear hnx hAY hRY hXY hb1 hs1 hA HRES
  have habs := fun W v (h : ST W (Tm.app (Tm.app (Tm.app Tm.X .k) Tm.I) (Tm.app Tm.X Tm.no)) v) => h.abs [120] (by decide) (by decide) (by decide) (Tm.plain_good (by decide +kernel)) (by decide +kernel)
  unfold TreePost at habs
  obtain ⟨Y, hY⟩ : ∃ Y, Y = (w1.alloc (.cells #[str [120], .slice none 0 0] 46)) := ⟨_, rfl⟩
  rw [← hY] at HAY HRY HXY
  have hbf : ButFor Y w.heap.size Y.drew := ⟨Nat.le_refl _, fun _ _ _ => rfl⟩
  have o0 : ∀ W, ButFor Y w.heap.size W → W.cell? ⟨w1.heap.size, 0, none⟩ = some (str [120]) := fun W hW => hW.cell (by omega) (cell_of_heap HXY.out)
  have o1 : ∀ W, ButFor Y w.heap.size W → W.cell? ⟨w1.heap.size, 1, none⟩ = some (.slice none 0 0) := fun W hW => hW.cell (by omega) (cell_of_heap HXY.out)
  go_wp2_with fail
  rw [← hY]
  have HY := Lib.hid hY
  clear hY
  go_region_held3 (fun W' => ButFor Y w.heap.size W') (first | assumption | exact hbf | exact ButFor.alloc (by assumption) _ | exact hbf.alloc _ | exact ButFor.set (by assumption) _ _ | exact ButFor.set (ButFor.set (by assumption) _ _) _ _ | exact hbf)
    (first
      | (go_at_call 60
         refine (s_true _).mono ?_
         rintro e w3 ⟨t3, ao3, n3, c3, rfl, hb3, ht3⟩
         have HT3 := Lib.hid ht3
         clear ht3
         have hS3 : ButFor Y w.heap.size w3 := After.butFor (After.trans (a := Y) (by repeat (first | assumption | exact After.refl _ | apply After.alloc | apply After.drew | (refine After.trans ?_ (by assumption)))) hb3))
      | (go_at_call 79
         refine (s_i _).mono ?_
         rintro e w5 ⟨t5, ao5, n5, c5, rfl, hb5, ht5⟩
         have HT5 := Lib.hid ht5
         clear ht5
         have hS5 : ButFor Y w.heap.size w5 := After.butFor (After.trans (a := Y) (by repeat (first | assumption | exact After.refl _ | apply After.alloc | apply After.drew | (refine After.trans ?_ (by assumption)))) hb5))
      | (go_at_call 61
         refine (s_false _).mono ?_
         rintro e w6 ⟨t6, ao6, n6, c6, rfl, hb6, ht6⟩
         have HT6 := Lib.hid ht6
         clear ht6
         have hS6 : ButFor Y w.heap.size w6 := After.butFor (After.trans (a := Y) (by repeat (first | assumption | exact After.refl _ | apply After.alloc | apply After.drew | (refine After.trans ?_ (by assumption)))) hb6))
      | (go_at_call 81
         refine (s_app2 _ (Tm.app Tm.X .k) Tm.I (Tm.app Tm.X Tm.no) t4 t5 t7 ao4 ao5 ao7 n4 c4 n5 c5 n7 c7 _ (0, 0) ?_ ?_ ?_ ?_).mono ?_
         · (exact HT4.out.later (by repeat (first | assumption | exact After.refl _ | apply After.alloc | apply After.drew | (refine After.trans ?_ (by assumption)))))
         · (exact HT5.out.later (by repeat (first | assumption | exact After.refl _ | apply After.alloc | apply After.drew | (refine After.trans ?_ (by assumption)))))
         · (exact HT7.out.later (by repeat (first | assumption | exact After.refl _ | apply After.alloc | apply After.drew | (refine After.trans ?_ (by assumption)))))
         · (repeat (first | (first | exact heap_new' _ _ | exact heap_newD _ _ | exact heap_old2 _ _ _ | exact heap_old2D _ _ _ | exact heap_new2 _ _ _ _ rfl | exact heap_new2D _ _ _) | (refine After.heap (by assumption) ?_) | (refine After.heap (After.alloc (by assumption) _) ?_) | (refine After.heap (After.alloc (After.alloc (by assumption) _) _) ?_)))
         rintro e w8 ⟨t8, ao8, n8, c8, rfl, hb8, ht8⟩
         have HT8 := Lib.hid ht8
         clear ht8
         have hS8 : ButFor Y w.heap.size w8 := After.butFor (After.trans (a := Y) (by repeat (first | assumption | exact After.refl _ | apply After.alloc | apply After.drew | (refine After.trans ?_ (by assumption)))) hb8))
      | (go_at_call 81
         refine (s_app _ Tm.X Tm.no [120] t6 none ao6 0 0 n6 c6 _ (0, 0) ?_ ?_ ?_).mono ?_
         · (rfl)
         · (exact HT6.out.later (by repeat (first | assumption | exact After.refl _ | apply After.alloc | apply After.drew | (refine After.trans ?_ (by assumption)))))
         · (repeat (first | (first | exact heap_new' _ _ | exact heap_newD _ _ | exact heap_old2 _ _ _ | exact heap_old2D _ _ _ | exact heap_new2 _ _ _ _ rfl | exact heap_new2D _ _ _) | (refine After.heap (by assumption) ?_) | (refine After.heap (After.alloc (by assumption) _) ?_) | (refine After.heap (After.alloc (After.alloc (by assumption) _) _) ?_)))
         rintro e w7 ⟨t7, ao7, n7, c7, rfl, hb7, ht7⟩
         have HT7 := Lib.hid ht7
         clear ht7
         have hS7 : ButFor Y w.heap.size w7 := After.butFor (After.trans (a := Y) (by repeat (first | assumption | exact After.refl _ | apply After.alloc | apply After.drew | (refine After.trans ?_ (by assumption)))) hb7))
      | (go_at_call 81
         refine (s_app _ Tm.X .k [120] t3 none ao3 0 0 n3 c3 _ (0, 0) ?_ ?_ ?_).mono ?_
         · (rfl)
         · (exact HT3.out.later (by repeat (first | assumption | exact After.refl _ | apply After.alloc | apply After.drew | (refine After.trans ?_ (by assumption)))))
         · (repeat (first | (first | exact heap_new' _ _ | exact heap_newD _ _ | exact heap_old2 _ _ _ | exact heap_old2D _ _ _ | exact heap_new2 _ _ _ _ rfl | exact heap_new2D _ _ _) | (refine After.heap (by assumption) ?_) | (refine After.heap (After.alloc (by assumption) _) ?_) | (refine After.heap (After.alloc (After.alloc (by assumption) _) _) ?_)))
         rintro e w4 ⟨t4, ao4, n4, c4, rfl, hb4, ht4⟩
         have HT4 := Lib.hid ht4
         clear ht4
         have hS4 : ButFor Y w.heap.size w4 := After.butFor (After.trans (a := Y) (by repeat (first | assumption | exact After.refl _ | apply After.alloc | apply After.drew | (refine After.trans ?_ (by assumption)))) hb4))
      | (go_at_call 82
         refine (habs _ _ (HT8.out.later (by repeat (first | assumption | exact After.refl _ | apply After.alloc | apply After.drew | (refine After.trans ?_ (by assumption)))))).mono ?_
         rintro e w9 ⟨t9, ao9, n9, c9, rfl, hb9, ht9⟩
         have HT9 := Lib.hid ht9
         clear ht9
         have hS9 : ButFor Y w.heap.size w9 := After.butFor (After.trans (a := Y) (by repeat (first | assumption | exact After.refl _ | apply After.alloc | apply After.drew | (refine After.trans ?_ (by assumption)))) hb9)
         have hAL : After Y w9 := After.trans (a := Y) (by repeat (first | assumption | exact After.refl _ | apply After.alloc | apply After.drew | (refine After.trans ?_ (by assumption)))) hb9
         obtain ⟨z0, z1, z2, z3, z4⟩ := pair_facts HRY.out hAL)
    )
  all_goals
    go_wp2_with fail
    refine bodyPost_ret (v := .tuple #[.agg #[str t9, .slice ao9 n9 c9], .bool true]) (by simp [results, Try.results46, go_sem, z0, z1]) rfl
      ⟨t9, ao9, n9, c9, rfl, after_sets2 (HAY.out.trans hAL) (After.heap hAL HRY.out) (Nat.le_refl _) _ _, fun t he => by obtain rfl := Option.some.inj he; exact HT9.out.sets2 (After.heap hAL HRY.out)⟩

theorem sdata_pair (w : World) : Calls Try.prog 46 #[str [112, 97, 105, 114]] w (SDataPost w (some Tm.pairC)) := by
  have hnx := s_nm (w.alloc (.cells #[.string ⟨#[]⟩, .slice none 0 0] 46)) [120]
  have hres := heap_new' w (.cells #[.string ⟨#[]⟩, .slice none 0 0] 46)
  have hA := After.new w (.cells #[.string ⟨#[]⟩, .slice none 0 0] 46)
  have HRES := Lib.hid hres
  clear hres
  go_enter Try.func46, Try.ntmps46
  go_wp2_with fail
  refine hnx.mono ?_
  rintro e w1 ⟨rfl, hb1⟩
  have hAY : After w (w1.alloc (.cells #[str [120], .slice none 0 0] 46)) := (hA.trans hb1).alloc _
  have hRY : (w1.alloc (.cells #[str [120], .slice none 0 0] 46)).heap[w.heap.size]? = some (.cells #[.string ⟨#[]⟩, .slice none 0 0] 46 (0, 0)) := (hb1.alloc _).heap HRES.out
  have HR1 := Lib.hid (hb1.heap HRES.out)
  have HA1 := Lib.hid (hA.trans hb1)
  have hXY := heap_new' w1 (.cells #[str [120], .slice none 0 0] 46)
  have hs1 := hb1.size
  have hne : w.heap.size < w1.heap.size := by simp at hs1; omega
  have HAY := Lib.hid hAY
  have HRY := Lib.hid hRY
  have HXY := Lib.hid hXY
  clear hnx hAY hRY hXY hb1 hs1 hA HRES
  obtain ⟨Y, hY⟩ : ∃ Y, Y = (w1.alloc (.cells #[str [120], .slice none 0 0] 46)) := ⟨_, rfl⟩
  rw [← hY] at HAY HRY HXY
  have hbf : ButFor Y w.heap.size Y.drew := ⟨Nat.le_refl _, fun _ _ _ => rfl⟩
  have o0 : ∀ W, ButFor Y w.heap.size W → W.cell? ⟨w1.heap.size, 0, none⟩ = some (str [120]) := fun W hW => hW.cell (by omega) (cell_of_heap HXY.out)
  have o1 : ∀ W, ButFor Y w.heap.size W → W.cell? ⟨w1.heap.size, 1, none⟩ = some (.slice none 0 0) := fun W hW => hW.cell (by omega) (cell_of_heap HXY.out)
  go_wp2_with fail
  rw [← hY]
  have HY := Lib.hid hY
  clear hY
  go_region_held3 (fun W' => ButFor Y w.heap.size W') (first | assumption | exact hbf | exact ButFor.alloc (by assumption) _ | exact hbf.alloc _ | exact ButFor.set (by assumption) _ _ | exact ButFor.set (ButFor.set (by assumption) _ _) _ _ | exact hbf)
    (first
      | (go_at_call 78
         have := hb3
         refine (s_nm _ [121]).mono ?_
         rintro e w4 ⟨rfl, hb4⟩
         have hS4 : ButFor Y w.heap.size w4 := After.butFor (After.trans (a := Y) (by repeat (first | assumption | exact After.refl _ | apply After.alloc | apply After.drew | (refine After.trans ?_ (by assumption)))) hb4))
      | (go_at_call 78
         refine (s_nm _ [122]).mono ?_
         rintro e w3 ⟨rfl, hb3⟩
         have hS3 : ButFor Y w.heap.size w3 := After.butFor (After.trans (a := Y) (by repeat (first | assumption | exact After.refl _ | apply After.alloc | apply After.drew | (refine After.trans ?_ (by assumption)))) hb3))
      | (go_at_call 81
         refine (s_app2 _ Tm.Z Tm.X Tm.Y [122] [120] [121] none none none 0 0 0 0 0 0 _ (0, 0) rfl rfl rfl ?_).mono ?_
         · (repeat (first | (first | exact heap_new' _ _ | exact heap_newD _ _ | exact heap_old2 _ _ _ | exact heap_old2D _ _ _ | exact heap_new2 _ _ _ _ rfl | exact heap_new2D _ _ _) | (refine After.heap (by assumption) ?_) | (refine After.heap (After.alloc (by assumption) _) ?_) | (refine After.heap (After.alloc (After.alloc (by assumption) _) _) ?_)))
         rintro e w5 ⟨t5, ao5, n5, c5, rfl, hb5, ht5⟩
         have HT5 := Lib.hid ht5
         clear ht5
         have hS5 : ButFor Y w.heap.size w5 := After.butFor (After.trans (a := Y) (by repeat (first | assumption | exact After.refl _ | apply After.alloc | apply After.drew | (refine After.trans ?_ (by assumption)))) hb5))
      | (go_at_call 80
         refine (s_all_pair _ _ t5 ao5 n5 c5 (HT5.out.later (by repeat (first | assumption | exact After.refl _ | apply After.alloc | apply After.drew | (refine After.trans ?_ (by assumption))))) ?_).mono ?_
         · (repeat (first | (first | exact heap_new' _ _ | exact heap_newD _ _ | exact heap_old2 _ _ _ | exact heap_old2D _ _ _ | exact heap_new2 _ _ _ _ rfl | exact heap_new2D _ _ _) | (refine After.heap (by assumption) ?_) | (refine After.heap (After.alloc (by assumption) _) ?_) | (refine After.heap (After.alloc (After.alloc (by assumption) _) _) ?_)))
         rintro e w6 ⟨t6, ao6, n6, c6, rfl, hb6, ht6⟩
         have HT6 := Lib.hid ht6
         clear ht6
         have hS6 : ButFor Y w.heap.size w6 := After.butFor (After.trans (a := Y) (by repeat (first | assumption | exact After.refl _ | apply After.alloc | apply After.drew | (refine After.trans ?_ (by assumption)))) hb6)
         have hAL : After Y w6 := After.trans (a := Y) (by repeat (first | assumption | exact After.refl _ | apply After.alloc | apply After.drew | (refine After.trans ?_ (by assumption)))) hb6
         obtain ⟨z0, z1, z2, z3, z4⟩ := pair_facts HRY.out hAL)
    )
  all_goals
    go_wp2_with fail
    refine bodyPost_ret (v := .tuple #[.agg #[str t6, .slice ao6 n6 c6], .bool true]) (by simp [results, Try.results46, go_sem, z0, z1]) rfl
      ⟨t6, ao6, n6, c6, rfl, after_sets2 (HAY.out.trans hAL) (After.heap hAL HRY.out) (Nat.le_refl _) _ _, fun t he => by obtain rfl := Option.some.inj he; exact HT6.out.sets2 (After.heap hAL HRY.out)⟩

theorem sdata_fix (w : World) : Calls Try.prog 46 #[str [102, 105, 120]] w (SDataPost w (some Tm.fix)) := by
  have hnx := s_nm (w.alloc (.cells #[.string ⟨#[]⟩, .slice none 0 0] 46)) [120]
  have hres := heap_new' w (.cells #[.string ⟨#[]⟩, .slice none 0 0] 46)
  have hA := After.new w (.cells #[.string ⟨#[]⟩, .slice none 0 0] 46)
  have HRES := Lib.hid hres
  clear hres
  go_enter Try.func46, Try.ntmps46
  go_wp2_with fail
  refine hnx.mono ?_
  rintro e w1 ⟨rfl, hb1⟩
  have hAY : After w (w1.alloc (.cells #[str [120], .slice none 0 0] 46)) := (hA.trans hb1).alloc _
  have hRY : (w1.alloc (.cells #[str [120], .slice none 0 0] 46)).heap[w.heap.size]? = some (.cells #[.string ⟨#[]⟩, .slice none 0 0] 46 (0, 0)) := (hb1.alloc _).heap HRES.out
  have HR1 := Lib.hid (hb1.heap HRES.out)
  have HA1 := Lib.hid (hA.trans hb1)
  have hXY := heap_new' w1 (.cells #[str [120], .slice none 0 0] 46)
  have hs1 := hb1.size
  have hne : w.heap.size < w1.heap.size := by simp at hs1; omega
  have HAY := Lib.hid hAY
  have HRY := Lib.hid hRY
  have HXY := Lib.hid hXY
  clear hnx hAY hRY hXY hb1 hs1 hA HRES
  have hk := s_fix (w1.alloc (.cells #[str [120], .slice none 0 0] 46))
  unfold TreePost at hk
  go_wp2_with fail
  refine hk.mono ?_
  rintro e w3 ⟨t3, ao3, n3, c3, rfl, hb3, ht3⟩
  have HT3 := Lib.hid ht3
  obtain ⟨z0, z1, z2, z3, l2⟩ := pair_facts HRY.out hb3
  clear ht3 hk
  go_wp2_with fail
  refine bodyPost_ret (v := .tuple #[.agg #[str t3, .slice ao3 n3 c3], .bool true]) (by simp [results, Try.results46, go_sem, z0, z1]) rfl
    ⟨t3, ao3, n3, c3, rfl, after_sets2 (HAY.out.trans hb3) (After.heap hb3 HRY.out) (Nat.le_refl _) _ _, fun t he => by obtain rfl := Option.some.inj he; exact HT3.out.sets2 (After.heap hb3 HRY.out)⟩

theorem sdata_none (w : World) (l : List UInt8) (n0 : (l == [105]) = false) (n1 : (l == [116, 114, 117, 101]) = false) (n2 : (l == [102, 97, 108, 115, 101]) = false) (n3 : (l == [112, 97, 105, 114]) = false) (n4 : (l == [102, 105, 114, 115, 116]) = false) (n5 : (l == [122, 101, 114, 111]) = false) (n6 : (l == [115, 101, 99, 111, 110, 100]) = false) (n7 : (l == [115, 117, 99, 99]) = false) (n8 : (l == [112, 114, 101, 100]) = false) (n9 : (l == [102, 105, 120]) = false) : Calls Try.prog 46 #[str l] w (SDataPost w none) := by
  have hnx := s_nm (w.alloc (.cells #[.string ⟨#[]⟩, .slice none 0 0] 46)) [120]
  have hres := heap_new' w (.cells #[.string ⟨#[]⟩, .slice none 0 0] 46)
  have hA := After.new w (.cells #[.string ⟨#[]⟩, .slice none 0 0] 46)
  have HRES := Lib.hid hres
  clear hres
  go_enter Try.func46, Try.ntmps46
  go_wp2_with fail
  refine hnx.mono ?_
  rintro e w1 ⟨rfl, hb1⟩
  have hAY : After w (w1.alloc (.cells #[str [120], .slice none 0 0] 46)) := (hA.trans hb1).alloc _
  have hRY : (w1.alloc (.cells #[str [120], .slice none 0 0] 46)).heap[w.heap.size]? = some (.cells #[.string ⟨#[]⟩, .slice none 0 0] 46 (0, 0)) := (hb1.alloc _).heap HRES.out
  have HR1 := Lib.hid (hb1.heap HRES.out)
  have HA1 := Lib.hid (hA.trans hb1)
  have hXY := heap_new' w1 (.cells #[str [120], .slice none 0 0] 46)
  have hs1 := hb1.size
  have hne : w.heap.size < w1.heap.size := by simp at hs1; omega
  have HAY := Lib.hid hAY
  have HRY := Lib.hid hRY
  have HXY := Lib.hid hXY
  clear hnx hAY hRY hXY hb1 hs1 hA HRES
  obtain ⟨z0, z1, z2, z3, l2⟩ := pair_facts HR1.out (After.refl _)
  obtain ⟨y0, y1, y2, y3, m2⟩ := pair_facts HXY.out (After.refl _)
  go_wp2_with fail
  have hAc := (after_sets2 HA1.out HR1.out (Nat.le_refl _) (str [120]) (.slice none 0 0)).alloc (.cells #[str [120], .slice none 0 0] 46)
  obtain ⟨q0, q1, _, _, _⟩ := pair_facts (heap_sets2 (u := str [120]) (u' := .slice none 0 0) HR1.out) (After.new _ (.cells #[str [120], .slice none 0 0] 46))
  refine bodyPost_ret (v := .tuple #[.agg #[str [120], .slice none 0 0], .bool false]) (by simp [results, Try.results46, go_sem, q0, q1]) rfl
    ⟨[120], none, 0, 0, rfl, hAc, fun t he => by cases he⟩

theorem sdata_any (w : World) (l : List UInt8) : Calls Try.prog 46 #[str l] w (SDataPost w (Tm.data l)) := by
  by_cases h0 : l = [105]
  · subst h0; exact sdata_i w
  by_cases h1 : l = [116, 114, 117, 101]
  · subst h1; exact sdata_true w
  by_cases h2 : l = [102, 97, 108, 115, 101]
  · subst h2; exact sdata_false w
  by_cases h3 : l = [112, 97, 105, 114]
  · subst h3; exact sdata_pair w
  by_cases h4 : l = [102, 105, 114, 115, 116]
  · subst h4; exact sdata_first w
  by_cases h5 : l = [122, 101, 114, 111]
  · subst h5; exact sdata_zero w
  by_cases h6 : l = [115, 101, 99, 111, 110, 100]
  · subst h6; exact sdata_second w
  by_cases h7 : l = [115, 117, 99, 99]
  · subst h7; exact sdata_succ w
  by_cases h8 : l = [112, 114, 101, 100]
  · subst h8; exact sdata_pred w
  by_cases h9 : l = [102, 105, 120]
  · subst h9; exact sdata_fix w
  rw [show Tm.data l = none by simp only [Tm.data, if_neg h0, if_neg h1, if_neg h2, if_neg h3, if_neg h4, if_neg h5, if_neg h6, if_neg h7, if_neg h8, if_neg h9]]
  exact sdata_none w l (beq_eq_false_iff_ne.2 h0) (beq_eq_false_iff_ne.2 h1) (beq_eq_false_iff_ne.2 h2) (beq_eq_false_iff_ne.2 h3) (beq_eq_false_iff_ne.2 h4) (beq_eq_false_iff_ne.2 h5) (beq_eq_false_iff_ne.2 h6) (beq_eq_false_iff_ne.2 h7) (beq_eq_false_iff_ne.2 h8) (beq_eq_false_iff_ne.2 h9)

theorem spec_data (w : World) (l : List UInt8) : Calls Try.prog 20 #[str l] w (SNumOne w (pData l)) := by
  have hcall := sdata_any w l
  unfold SDataPost at hcall
  cases hd : Tm.data l with
  | none =>
    rw [show pData l = none by simp [pData, hd]]
    rw [hd] at hcall
    clear hd
    go_enter Try.func20, Try.ntmps20
    go_wp2_with fail
    refine hcall.mono ?_
    rintro e w1 ⟨s1, ao1, n1, c1, rfl, hb1, ht1⟩
    clear ht1
    go_wp2_with fail
    go_ret2
    exact ⟨rfl, After.alloc hb1 _⟩
  | some t =>
    rw [show pData l = some t.text by simp [pData, hd]]
    rw [hd] at hcall
    obtain ⟨hg, hs⟩ := Tm.data_good hd
    have htl := Tm.text_le t hg
    clear hd
    go_enter Try.func20, Try.ntmps20
    go_wp2_with fail
    refine hcall.mono ?_
    rintro e w1 ⟨s1, ao1, n1, c1, rfl, hb1, ht1⟩
    have htx := ((ht1 t rfl).later (After.new w1 (.cells #[str s1, .slice ao1 n1 c1] 46))).text hg (by omega)
    have hX := heap_new' w1 (.cells #[str s1, .slice ao1 n1 c1] 46)
    obtain ⟨z0, z1, z2, z3, l2⟩ := pair_facts hX (After.refl _)
    clear ht1 hcall hX
    go_wp2_with (go_at_call 47; refine htx.mono ?_; rintro e w2 ⟨rfl, hb2⟩)
    go_ret2
    exact ⟨rfl, (After.alloc hb1 _).trans hb2⟩

end Go.Proofs.Ytmkmladlpgfniaa
