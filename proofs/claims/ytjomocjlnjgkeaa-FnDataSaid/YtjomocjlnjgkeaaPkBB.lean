/-
  The model's abstractions of the names x, y, z; its fixed point combinator: l2Fix.
-/
import Derived.Test.YtjomocjlnjgkeaaPkAY
import Derived.Test.YtjomocjlnjgkeaaPkBA
import Derived.Test.YtjomocjlnjgkeaaPkAS
namespace Go.Proofs.Ytjomocjlnjgkeaa
open Go.RowKit

set_option maxHeartbeats 4000000
set_option maxRecDepth 100000

theorem s_all3 (w : World) (g : Nat) (t : Tm) (s : List UInt8) (ao : Option Addr) (m c : Nat) (h : ST w t (.agg #[str s, .slice ao m c])) (hg : t.good = true) (hf : t.fits = true)
    (hc : w.heap[g]? = some (.cells #[str [120], str [121], str [122]] 9 (0, 0))) :
    Calls Try.prog 62 #[.slice (some ⟨g, 0, none⟩) 3 3, .agg #[str s, .slice ao m c]] w (TreePost w (lastL [[122], [121], [120]] t)) :=
  s_all w g 0 3 [[120], [121], [122]] t s ao m c h hg hf (by simp) (by decide +kernel) (fun j hj => by
    have hk := cell_of_heap (i := j) hc
    match j, hj with
    | 0, _ => simpa using hk
    | 1, _ => simpa using hk
    | 2, _ => simpa using hk)

theorem s_all2 (w : World) (g : Nat) (a b : List UInt8) (t : Tm) (s : List UInt8) (ao : Option Addr) (m c : Nat) (h : ST w t (.agg #[str s, .slice ao m c])) (hg : t.good = true) (hf : t.fits = true) (ha : Tm.nameOk a = true) (hb : Tm.nameOk b = true)
    (hc : w.heap[g]? = some (.cells #[str a, str b] 9 (0, 0))) :
    Calls Try.prog 62 #[.slice (some ⟨g, 0, none⟩) 2 2, .agg #[str s, .slice ao m c]] w (TreePost w (lastL [b, a] t)) :=
  s_all w g 0 2 [a, b] t s ao m c h hg hf (by simp) (by simp [ha, hb]) (fun j hj => by
    have hk := cell_of_heap (i := j) hc
    match j, hj with
    | 0, _ => simpa using hk
    | 1, _ => simpa using hk)

theorem s_all_pair (w : World) (g : Nat) (s : List UInt8) (ao : Option Addr) (m c : Nat) (h : ST w (.app (.app Tm.Z Tm.X) Tm.Y) (.agg #[str s, .slice ao m c]))
    (hc : w.heap[g]? = some (.cells #[str [120], str [121], str [122]] 9 (0, 0))) :
    Calls Try.prog 62 #[.slice (some ⟨g, 0, none⟩) 3 3, .agg #[str s, .slice ao m c]] w (TreePost w Tm.pairC) := by
  have hk := s_all3 w g _ s ao m c h (by decide +kernel) (by kernel_rfl) hc
  rwa [show lastL [[122], [121], [120]] (.app (.app Tm.Z Tm.X) Tm.Y) = Tm.pairC by kernel_rfl] at hk

theorem s_all_half (w : World) (g : Nat) (s : List UInt8) (ao : Option Addr) (m c : Nat) (h : ST w (.app Tm.Y (.app (.app Tm.X Tm.X) Tm.Y)) (.agg #[str s, .slice ao m c]))
    (hc : w.heap[g]? = some (.cells #[str [120], str [121]] 9 (0, 0))) :
    Calls Try.prog 62 #[.slice (some ⟨g, 0, none⟩) 2 2, .agg #[str s, .slice ao m c]] w (TreePost w Tm.half) := by
  have hk := s_all2 w g [120] [121] _ s ao m c h (by decide +kernel) (by kernel_rfl) (by decide +kernel) (by decide +kernel) hc
  rwa [show lastL [[121], [120]] (.app Tm.Y (.app (.app Tm.X Tm.X) Tm.Y)) = Tm.half by kernel_rfl] at hk

theorem s_fix (w : World) : Calls Try.prog 66 #[] w (TreePost w Tm.fix) := by
  obtain ⟨Y, hY⟩ : ∃ Y, Y = w.alloc (.cells #[.string ⟨#[]⟩, .slice none 0 0] 40) := ⟨_, rfl⟩
  have hAY : After w Y := by rw [hY]; exact After.new _ _
  have hRY : Y.heap[w.heap.size]? = some (.cells #[.string ⟨#[]⟩, .slice none 0 0] 40 (0, 0)) := by rw [hY]; exact heap_new' _ _
  have szY : Y.heap.size = w.heap.size + 1 := by rw [hY]; simp
  have HSZ := Lib.hid szY
  have HAY := Lib.hid hAY
  have HRY := Lib.hid hRY
  have hself := After.refl Y
  have hselfd := hself.drew
  clear szY hAY hRY
  go_enter Try.func66, Try.ntmps66
  go_wp2_with fail
  rw [← hY]
  clear hY
  have hnew := After.new Y (.cells #[str [120], str [121]] 9)
  have hnam := heap_new' Y (.cells #[str [120], str [121]] 9)
  have HNAM := Lib.hid hnam
  have hn1 := fun W => s_nm W [121]
  have hn2 := fun W => s_nm W [120]
  clear hnam
  refine (hn1 _).mono ?_
  rintro e w1 ⟨rfl, hb1⟩
  go_wp2_with fail
  refine (hn2 _).mono ?_
  rintro e w2 ⟨rfl, hb2⟩
  go_wp2_with fail
  refine (hn2 _).mono ?_
  rintro e w3 ⟨rfl, hb3⟩
  go_wp2_with fail
  refine (hn1 _).mono ?_
  rintro e w4 ⟨rfl, hb4⟩
  have hA4 := ((hb1.trans hb2).trans hb3).trans hb4
  have k5 := s_app2 (w4.alloc (.cells #[str [120], .slice none 0 0, str [121], .slice none 0 0] 40)) Tm.X Tm.X Tm.Y [120] [120] [121] none none none 0 0 0 0 0 0 _ (0, 0) rfl rfl rfl (heap_new' w4 _)
  unfold TreePost at k5
  clear hb1 hb2 hb3 hb4
  go_wp2_with fail
  refine k5.mono ?_
  rintro e w5 ⟨t5, ao5, n5, c5, rfl, hb5, ht5⟩
  have k6 := s_app (w5.alloc (.cells #[str t5, .slice ao5 n5 c5] 40)) Tm.Y (.app (.app Tm.X Tm.X) Tm.Y) [121] t5 none ao5 0 0 n5 c5 _ (0, 0) rfl (ht5.later (After.new _ _)) (heap_new' w5 _)
  unfold TreePost at k6
  have hA5 := (hA4.alloc _).trans hb5
  clear ht5 k5 hb5 hA4
  go_wp2_with fail
  refine k6.mono ?_
  rintro e w6 ⟨t6, ao6, n6, c6, rfl, hb6, ht6⟩
  have hA6 := (hA5.alloc _).trans hb6
  have k7 := s_all_half w6 Y.heap.size t6 ao6 n6 c6 ht6 (hA6.heap HNAM.out)
  unfold TreePost at k7
  rw [HSZ.out] at k7
  clear ht6 k6 hb6 hA5
  go_wp2_with fail
  refine k7.mono ?_
  rintro e w7 ⟨t7, ao7, n7, c7, rfl, hb7, ht7⟩
  have hA7 := hA6.trans hb7
  have hbx := heap_old2 w7 (.cells #[str t7, .slice ao7 n7 c7] 40) (.cells #[str t7, .slice ao7 n7 c7] 40)
  have hb1' := pair_facts (heap_new' w7 (.cells #[str t7, .slice ao7 n7 c7] 40)) (After.refl _)
  obtain ⟨j0, j1, _, _, _⟩ := hb1'
  have hnn := (After.new w7 (.cells #[str t7, .slice ao7 n7 c7] 40)).alloc (.cells #[str t7, .slice ao7 n7 c7] 40)
  have k8 := s_app ((w7.alloc (.cells #[str t7, .slice ao7 n7 c7] 40)).alloc (.cells #[str t7, .slice ao7 n7 c7] 40)) Tm.half Tm.half t7 t7 ao7 ao7 n7 c7 n7 c7 (w7.heap.size + 1) (0, 0) (ht7.later hnn) (ht7.later hnn) (heap_new2 w7 _ _ _ rfl)
  unfold TreePost at k8
  have hAY7 : After Y ((w7.alloc (.cells #[str t7, .slice ao7 n7 c7] 40)).alloc (.cells #[str t7, .slice ao7 n7 c7] 40)) := ((After.new Y _).trans hA7).trans hnn
  clear ht7 k7 hb7 hA6 hA7 hbx hnn
  go_wp2_with fail
  refine k8.mono ?_
  rintro e w8 ⟨t8, ao8, n8, c8, rfl, hb8, ht8⟩
  have HT8 := Lib.hid ht8
  have hS8 := hAY7.trans hb8
  obtain ⟨z0, z1, z2, z3, z4⟩ := pair_facts HRY.out hS8
  clear ht8 k8
  go_wp2_with fail
  refine bodyPost_ret (v := .agg #[str t8, .slice ao8 n8 c8]) (by simp [results, Try.results66, go_sem, z0, z1]) rfl
    ⟨t8, ao8, n8, c8, rfl, after_sets2 (HAY.out.trans hS8) (After.heap hS8 HRY.out) (Nat.le_refl _) _ _, HT8.out.sets2 (After.heap hS8 HRY.out)⟩

end Go.Proofs.Ytjomocjlnjgkeaa

namespace Go.Proofs.Ytjomocjlnjgkeaa
open Go.RowKit

set_option maxHeartbeats 4000000
set_option maxRecDepth 100000

def SDataPost (w : World) (r : Option Tm) (e : Ending) (w' : World) : Prop :=
  ∃ s ao n c, e = .returned (.tuple #[.agg #[str s, .slice ao n c], .bool r.isSome]) ∧ After w w' ∧ ∀ t, r = some t → ST w' t (.agg #[str s, .slice ao n c])

theorem sdata_i (w : World) : Calls Try.prog 32 #[str [105]] w (SDataPost w (some Tm.I)) := by
  have hnx := s_nm (w.alloc (.cells #[.string ⟨#[]⟩, .slice none 0 0] 40)) [120]
  have hres := heap_new' w (.cells #[.string ⟨#[]⟩, .slice none 0 0] 40)
  have hA := After.new w (.cells #[.string ⟨#[]⟩, .slice none 0 0] 40)
  have HRES := Lib.hid hres
  clear hres
  go_enter Try.func32, Try.ntmps32
  go_wp2_with fail
  refine hnx.mono ?_
  rintro e w1 ⟨rfl, hb1⟩
  have hAY : After w (w1.alloc (.cells #[str [120], .slice none 0 0] 40)) := (hA.trans hb1).alloc _
  have hRY : (w1.alloc (.cells #[str [120], .slice none 0 0] 40)).heap[w.heap.size]? = some (.cells #[.string ⟨#[]⟩, .slice none 0 0] 40 (0, 0)) := (hb1.alloc _).heap HRES.out
  have HR1 := Lib.hid (hb1.heap HRES.out)
  have HA1 := Lib.hid (hA.trans hb1)
  have hXY := heap_new' w1 (.cells #[str [120], .slice none 0 0] 40)
  have hs1 := hb1.size
  have hne : w.heap.size < w1.heap.size := by simp at hs1; omega
  have HAY := Lib.hid hAY
  have HRY := Lib.hid hRY
  have HXY := Lib.hid hXY
  clear hnx hAY hRY hXY hb1 hs1 hA HRES
  have hk := s_i (w1.alloc (.cells #[str [120], .slice none 0 0] 40))
  unfold TreePost at hk
  go_wp2_with fail
  refine hk.mono ?_
  rintro e w3 ⟨t3, ao3, n3, c3, rfl, hb3, ht3⟩
  have HT3 := Lib.hid ht3
  obtain ⟨z0, z1, z2, z3, l2⟩ := pair_facts HRY.out hb3
  clear ht3 hk
  go_wp2_with fail
  refine bodyPost_ret (v := .tuple #[.agg #[str t3, .slice ao3 n3 c3], .bool true]) (by simp [results, Try.results32, go_sem, z0, z1]) rfl
    ⟨t3, ao3, n3, c3, rfl, after_sets2 (HAY.out.trans hb3) (After.heap hb3 HRY.out) (Nat.le_refl _) _ _, fun t he => by obtain rfl := Option.some.inj he; exact HT3.out.sets2 (After.heap hb3 HRY.out)⟩

theorem sdata_true (w : World) : Calls Try.prog 32 #[str [116, 114, 117, 101]] w (SDataPost w (some .k)) := by
  have hnx := s_nm (w.alloc (.cells #[.string ⟨#[]⟩, .slice none 0 0] 40)) [120]
  have hres := heap_new' w (.cells #[.string ⟨#[]⟩, .slice none 0 0] 40)
  have hA := After.new w (.cells #[.string ⟨#[]⟩, .slice none 0 0] 40)
  have HRES := Lib.hid hres
  clear hres
  go_enter Try.func32, Try.ntmps32
  go_wp2_with fail
  refine hnx.mono ?_
  rintro e w1 ⟨rfl, hb1⟩
  have hAY : After w (w1.alloc (.cells #[str [120], .slice none 0 0] 40)) := (hA.trans hb1).alloc _
  have hRY : (w1.alloc (.cells #[str [120], .slice none 0 0] 40)).heap[w.heap.size]? = some (.cells #[.string ⟨#[]⟩, .slice none 0 0] 40 (0, 0)) := (hb1.alloc _).heap HRES.out
  have HR1 := Lib.hid (hb1.heap HRES.out)
  have HA1 := Lib.hid (hA.trans hb1)
  have hXY := heap_new' w1 (.cells #[str [120], .slice none 0 0] 40)
  have hs1 := hb1.size
  have hne : w.heap.size < w1.heap.size := by simp at hs1; omega
  have HAY := Lib.hid hAY
  have HRY := Lib.hid hRY
  have HXY := Lib.hid hXY
  clear hnx hAY hRY hXY hb1 hs1 hA HRES
  have hk := s_true (w1.alloc (.cells #[str [120], .slice none 0 0] 40))
  unfold TreePost at hk
  go_wp2_with fail
  refine hk.mono ?_
  rintro e w3 ⟨t3, ao3, n3, c3, rfl, hb3, ht3⟩
  have HT3 := Lib.hid ht3
  obtain ⟨z0, z1, z2, z3, l2⟩ := pair_facts HRY.out hb3
  clear ht3 hk
  go_wp2_with fail
  refine bodyPost_ret (v := .tuple #[.agg #[str t3, .slice ao3 n3 c3], .bool true]) (by simp [results, Try.results32, go_sem, z0, z1]) rfl
    ⟨t3, ao3, n3, c3, rfl, after_sets2 (HAY.out.trans hb3) (After.heap hb3 HRY.out) (Nat.le_refl _) _ _, fun t he => by obtain rfl := Option.some.inj he; exact HT3.out.sets2 (After.heap hb3 HRY.out)⟩

theorem sdata_false (w : World) : Calls Try.prog 32 #[str [102, 97, 108, 115, 101]] w (SDataPost w (some Tm.no)) := by
  have hnx := s_nm (w.alloc (.cells #[.string ⟨#[]⟩, .slice none 0 0] 40)) [120]
  have hres := heap_new' w (.cells #[.string ⟨#[]⟩, .slice none 0 0] 40)
  have hA := After.new w (.cells #[.string ⟨#[]⟩, .slice none 0 0] 40)
  have HRES := Lib.hid hres
  clear hres
  go_enter Try.func32, Try.ntmps32
  go_wp2_with fail
  refine hnx.mono ?_
  rintro e w1 ⟨rfl, hb1⟩
  have hAY : After w (w1.alloc (.cells #[str [120], .slice none 0 0] 40)) := (hA.trans hb1).alloc _
  have hRY : (w1.alloc (.cells #[str [120], .slice none 0 0] 40)).heap[w.heap.size]? = some (.cells #[.string ⟨#[]⟩, .slice none 0 0] 40 (0, 0)) := (hb1.alloc _).heap HRES.out
  have HR1 := Lib.hid (hb1.heap HRES.out)
  have HA1 := Lib.hid (hA.trans hb1)
  have hXY := heap_new' w1 (.cells #[str [120], .slice none 0 0] 40)
  have hs1 := hb1.size
  have hne : w.heap.size < w1.heap.size := by simp at hs1; omega
  have HAY := Lib.hid hAY
  have HRY := Lib.hid hRY
  have HXY := Lib.hid hXY
  clear hnx hAY hRY hXY hb1 hs1 hA HRES
  have hk := s_false (w1.alloc (.cells #[str [120], .slice none 0 0] 40))
  unfold TreePost at hk
  go_wp2_with fail
  refine hk.mono ?_
  rintro e w3 ⟨t3, ao3, n3, c3, rfl, hb3, ht3⟩
  have HT3 := Lib.hid ht3
  obtain ⟨z0, z1, z2, z3, l2⟩ := pair_facts HRY.out hb3
  clear ht3 hk
  go_wp2_with fail
  refine bodyPost_ret (v := .tuple #[.agg #[str t3, .slice ao3 n3 c3], .bool true]) (by simp [results, Try.results32, go_sem, z0, z1]) rfl
    ⟨t3, ao3, n3, c3, rfl, after_sets2 (HAY.out.trans hb3) (After.heap hb3 HRY.out) (Nat.le_refl _) _ _, fun t he => by obtain rfl := Option.some.inj he; exact HT3.out.sets2 (After.heap hb3 HRY.out)⟩

theorem sdata_first (w : World) : Calls Try.prog 32 #[str [102, 105, 114, 115, 116]] w (SDataPost w (some Tm.first)) := by
  have hnx := s_nm (w.alloc (.cells #[.string ⟨#[]⟩, .slice none 0 0] 40)) [120]
  have hres := heap_new' w (.cells #[.string ⟨#[]⟩, .slice none 0 0] 40)
  have hA := After.new w (.cells #[.string ⟨#[]⟩, .slice none 0 0] 40)
  have HRES := Lib.hid hres
  clear hres
  go_enter Try.func32, Try.ntmps32
  go_wp2_with fail
  refine hnx.mono ?_
  rintro e w1 ⟨rfl, hb1⟩
  have hAY : After w (w1.alloc (.cells #[str [120], .slice none 0 0] 40)) := (hA.trans hb1).alloc _
  have hRY : (w1.alloc (.cells #[str [120], .slice none 0 0] 40)).heap[w.heap.size]? = some (.cells #[.string ⟨#[]⟩, .slice none 0 0] 40 (0, 0)) := (hb1.alloc _).heap HRES.out
  have HR1 := Lib.hid (hb1.heap HRES.out)
  have HA1 := Lib.hid (hA.trans hb1)
  have hXY := heap_new' w1 (.cells #[str [120], .slice none 0 0] 40)
  have hs1 := hb1.size
  have hne : w.heap.size < w1.heap.size := by simp at hs1; omega
  have HAY := Lib.hid hAY
  have HRY := Lib.hid hRY
  have HXY := Lib.hid hXY
  clear hnx hAY hRY hXY hb1 hs1 hA HRES
  have habs := fun W v (h : ST W (Tm.app Tm.X .k) v) => h.abs [120] (by decide) (by decide) (by decide) (Tm.plain_good (by decide +kernel)) (by decide +kernel)
  unfold TreePost at habs
  obtain ⟨Y, hY⟩ : ∃ Y, Y = (w1.alloc (.cells #[str [120], .slice none 0 0] 40)) := ⟨_, rfl⟩
  rw [← hY] at HAY HRY HXY
  have hbf : ButFor Y w.heap.size Y.drew := ⟨Nat.le_refl _, fun _ _ _ => rfl⟩
  have o0 : ∀ W, ButFor Y w.heap.size W → W.cell? ⟨w1.heap.size, 0, none⟩ = some (str [120]) := fun W hW => hW.cell (by omega) (cell_of_heap HXY.out)
  have o1 : ∀ W, ButFor Y w.heap.size W → W.cell? ⟨w1.heap.size, 1, none⟩ = some (.slice none 0 0) := fun W hW => hW.cell (by omega) (cell_of_heap HXY.out)
  go_wp2_with fail
  rw [← hY]
  have HY := Lib.hid hY
  clear hY
  go_region_held3 (fun W' => ButFor Y w.heap.size W') (first | assumption | exact hbf | exact ButFor.alloc (by assumption) _ | exact hbf.alloc _ | exact ButFor.set (by assumption) _ _ | exact ButFor.set (ButFor.set (by assumption) _ _) _ _ | exact hbf)
    (first
      | (go_at_call 60
         refine (s_true _).mono ?_
         rintro e w3 ⟨t3, ao3, n3, c3, rfl, hb3, ht3⟩
         have HT3 := Lib.hid ht3
         clear ht3
         have hS3 : ButFor Y w.heap.size w3 := After.butFor (After.trans (a := Y) (by repeat (first | assumption | exact After.refl _ | apply After.alloc | apply After.drew | (refine After.trans ?_ (by assumption)))) hb3))
      | (go_at_call 63
         refine (s_app _ Tm.X .k [120] t3 none ao3 0 0 n3 c3 _ (0, 0) ?_ ?_ ?_).mono ?_
         · (rfl)
         · (exact HT3.out.later (by repeat (first | assumption | exact After.refl _ | apply After.alloc | apply After.drew | (refine After.trans ?_ (by assumption)))))
         · (repeat (first | (first | exact heap_new' _ _ | exact heap_newD _ _ | exact heap_old2 _ _ _ | exact heap_old2D _ _ _ | exact heap_new2 _ _ _ _ rfl | exact heap_new2D _ _ _) | (refine After.heap (by assumption) ?_) | (refine After.heap (After.alloc (by assumption) _) ?_) | (refine After.heap (After.alloc (After.alloc (by assumption) _) _) ?_)))
         rintro e w4 ⟨t4, ao4, n4, c4, rfl, hb4, ht4⟩
         have HT4 := Lib.hid ht4
         clear ht4
         have hS4 : ButFor Y w.heap.size w4 := After.butFor (After.trans (a := Y) (by repeat (first | assumption | exact After.refl _ | apply After.alloc | apply After.drew | (refine After.trans ?_ (by assumption)))) hb4))
      | (go_at_call 64
         refine (habs _ _ (HT4.out.later (by repeat (first | assumption | exact After.refl _ | apply After.alloc | apply After.drew | (refine After.trans ?_ (by assumption)))))).mono ?_
         rintro e w5 ⟨t5, ao5, n5, c5, rfl, hb5, ht5⟩
         have HT5 := Lib.hid ht5
         clear ht5
         have hS5 : ButFor Y w.heap.size w5 := After.butFor (After.trans (a := Y) (by repeat (first | assumption | exact After.refl _ | apply After.alloc | apply After.drew | (refine After.trans ?_ (by assumption)))) hb5)
         have hAL : After Y w5 := After.trans (a := Y) (by repeat (first | assumption | exact After.refl _ | apply After.alloc | apply After.drew | (refine After.trans ?_ (by assumption)))) hb5
         obtain ⟨z0, z1, z2, z3, z4⟩ := pair_facts HRY.out hAL)
    )
  all_goals
    go_wp2_with fail
    refine bodyPost_ret (v := .tuple #[.agg #[str t5, .slice ao5 n5 c5], .bool true]) (by simp [results, Try.results32, go_sem, z0, z1]) rfl
      ⟨t5, ao5, n5, c5, rfl, after_sets2 (HAY.out.trans hAL) (After.heap hAL HRY.out) (Nat.le_refl _) _ _, fun t he => by obtain rfl := Option.some.inj he; exact HT5.out.sets2 (After.heap hAL HRY.out)⟩

theorem sdata_zero (w : World) : Calls Try.prog 32 #[str [122, 101, 114, 111]] w (SDataPost w (some Tm.first)) := by
  have hnx := s_nm (w.alloc (.cells #[.string ⟨#[]⟩, .slice none 0 0] 40)) [120]
  have hres := heap_new' w (.cells #[.string ⟨#[]⟩, .slice none 0 0] 40)
  have hA := After.new w (.cells #[.string ⟨#[]⟩, .slice none 0 0] 40)
  have HRES := Lib.hid hres
  clear hres
  go_enter Try.func32, Try.ntmps32
  go_wp2_with fail
  refine hnx.mono ?_
  rintro e w1 ⟨rfl, hb1⟩
  have hAY : After w (w1.alloc (.cells #[str [120], .slice none 0 0] 40)) := (hA.trans hb1).alloc _
  have hRY : (w1.alloc (.cells #[str [120], .slice none 0 0] 40)).heap[w.heap.size]? = some (.cells #[.string ⟨#[]⟩, .slice none 0 0] 40 (0, 0)) := (hb1.alloc _).heap HRES.out
  have HR1 := Lib.hid (hb1.heap HRES.out)
  have HA1 := Lib.hid (hA.trans hb1)
  have hXY := heap_new' w1 (.cells #[str [120], .slice none 0 0] 40)
  have hs1 := hb1.size
  have hne : w.heap.size < w1.heap.size := by simp at hs1; omega
  have HAY := Lib.hid hAY
  have HRY := Lib.hid hRY
  have HXY := Lib.hid hXY
  clear hnx hAY hRY hXY hb1 hs1 hA HRES
  have habs := fun W v (h : ST W (Tm.app Tm.X .k) v) => h.abs [120] (by decide) (by decide) (by decide) (Tm.plain_good (by decide +kernel)) (by decide +kernel)
  unfold TreePost at habs
  obtain ⟨Y, hY⟩ : ∃ Y, Y = (w1.alloc (.cells #[str [120], .slice none 0 0] 40)) := ⟨_, rfl⟩
  rw [← hY] at HAY HRY HXY
  have hbf : ButFor Y w.heap.size Y.drew := ⟨Nat.le_refl _, fun _ _ _ => rfl⟩
  have o0 : ∀ W, ButFor Y w.heap.size W → W.cell? ⟨w1.heap.size, 0, none⟩ = some (str [120]) := fun W hW => hW.cell (by omega) (cell_of_heap HXY.out)
  have o1 : ∀ W, ButFor Y w.heap.size W → W.cell? ⟨w1.heap.size, 1, none⟩ = some (.slice none 0 0) := fun W hW => hW.cell (by omega) (cell_of_heap HXY.out)
  go_wp2_with fail
  rw [← hY]
  have HY := Lib.hid hY
  clear hY
  go_region_held3 (fun W' => ButFor Y w.heap.size W') (first | assumption | exact hbf | exact ButFor.alloc (by assumption) _ | exact hbf.alloc _ | exact ButFor.set (by assumption) _ _ | exact ButFor.set (ButFor.set (by assumption) _ _) _ _ | exact hbf)
    (first
      | (go_at_call 60
         refine (s_true _).mono ?_
         rintro e w3 ⟨t3, ao3, n3, c3, rfl, hb3, ht3⟩
         have HT3 := Lib.hid ht3
         clear ht3
         have hS3 : ButFor Y w.heap.size w3 := After.butFor (After.trans (a := Y) (by repeat (first | assumption | exact After.refl _ | apply After.alloc | apply After.drew | (refine After.trans ?_ (by assumption)))) hb3))
      | (go_at_call 63
         refine (s_app _ Tm.X .k [120] t3 none ao3 0 0 n3 c3 _ (0, 0) ?_ ?_ ?_).mono ?_
         · (rfl)
         · (exact HT3.out.later (by repeat (first | assumption | exact After.refl _ | apply After.alloc | apply After.drew | (refine After.trans ?_ (by assumption)))))
         · (repeat (first | (first | exact heap_new' _ _ | exact heap_newD _ _ | exact heap_old2 _ _ _ | exact heap_old2D _ _ _ | exact heap_new2 _ _ _ _ rfl | exact heap_new2D _ _ _) | (refine After.heap (by assumption) ?_) | (refine After.heap (After.alloc (by assumption) _) ?_) | (refine After.heap (After.alloc (After.alloc (by assumption) _) _) ?_)))
         rintro e w4 ⟨t4, ao4, n4, c4, rfl, hb4, ht4⟩
         have HT4 := Lib.hid ht4
         clear ht4
         have hS4 : ButFor Y w.heap.size w4 := After.butFor (After.trans (a := Y) (by repeat (first | assumption | exact After.refl _ | apply After.alloc | apply After.drew | (refine After.trans ?_ (by assumption)))) hb4))
      | (go_at_call 64
         refine (habs _ _ (HT4.out.later (by repeat (first | assumption | exact After.refl _ | apply After.alloc | apply After.drew | (refine After.trans ?_ (by assumption)))))).mono ?_
         rintro e w5 ⟨t5, ao5, n5, c5, rfl, hb5, ht5⟩
         have HT5 := Lib.hid ht5
         clear ht5
         have hS5 : ButFor Y w.heap.size w5 := After.butFor (After.trans (a := Y) (by repeat (first | assumption | exact After.refl _ | apply After.alloc | apply After.drew | (refine After.trans ?_ (by assumption)))) hb5)
         have hAL : After Y w5 := After.trans (a := Y) (by repeat (first | assumption | exact After.refl _ | apply After.alloc | apply After.drew | (refine After.trans ?_ (by assumption)))) hb5
         obtain ⟨z0, z1, z2, z3, z4⟩ := pair_facts HRY.out hAL)
    )
  all_goals
    go_wp2_with fail
    refine bodyPost_ret (v := .tuple #[.agg #[str t5, .slice ao5 n5 c5], .bool true]) (by simp [results, Try.results32, go_sem, z0, z1]) rfl
      ⟨t5, ao5, n5, c5, rfl, after_sets2 (HAY.out.trans hAL) (After.heap hAL HRY.out) (Nat.le_refl _) _ _, fun t he => by obtain rfl := Option.some.inj he; exact HT5.out.sets2 (After.heap hAL HRY.out)⟩

theorem sdata_second (w : World) : Calls Try.prog 32 #[str [115, 101, 99, 111, 110, 100]] w (SDataPost w (some Tm.second)) := by
  have hnx := s_nm (w.alloc (.cells #[.string ⟨#[]⟩, .slice none 0 0] 40)) [120]
  have hres := heap_new' w (.cells #[.string ⟨#[]⟩, .slice none 0 0] 40)
  have hA := After.new w (.cells #[.string ⟨#[]⟩, .slice none 0 0] 40)
  have HRES := Lib.hid hres
  clear hres
  go_enter Try.func32, Try.ntmps32
  go_wp2_with fail
  refine hnx.mono ?_
  rintro e w1 ⟨rfl, hb1⟩
  have hAY : After w (w1.alloc (.cells #[str [120], .slice none 0 0] 40)) := (hA.trans hb1).alloc _
  have hRY : (w1.alloc (.cells #[str [120], .slice none 0 0] 40)).heap[w.heap.size]? = some (.cells #[.string ⟨#[]⟩, .slice none 0 0] 40 (0, 0)) := (hb1.alloc _).heap HRES.out
  have HR1 := Lib.hid (hb1.heap HRES.out)
  have HA1 := Lib.hid (hA.trans hb1)
  have hXY := heap_new' w1 (.cells #[str [120], .slice none 0 0] 40)
  have hs1 := hb1.size
  have hne : w.heap.size < w1.heap.size := by simp at hs1; omega
  have HAY := Lib.hid hAY
  have HRY := Lib.hid hRY
  have HXY := Lib.hid hXY
  clear hnx hAY hRY hXY hb1 hs1 hA HRES
  have habs := fun W v (h : ST W (Tm.app Tm.X Tm.no) v) => h.abs [120] (by decide) (by decide) (by decide) (Tm.plain_good (by decide +kernel)) (by decide +kernel)
  unfold TreePost at habs
  obtain ⟨Y, hY⟩ : ∃ Y, Y = (w1.alloc (.cells #[str [120], .slice none 0 0] 40)) := ⟨_, rfl⟩
  rw [← hY] at HAY HRY HXY
  have hbf : ButFor Y w.heap.size Y.drew := ⟨Nat.le_refl _, fun _ _ _ => rfl⟩
  have o0 : ∀ W, ButFor Y w.heap.size W → W.cell? ⟨w1.heap.size, 0, none⟩ = some (str [120]) := fun W hW => hW.cell (by omega) (cell_of_heap HXY.out)
  have o1 : ∀ W, ButFor Y w.heap.size W → W.cell? ⟨w1.heap.size, 1, none⟩ = some (.slice none 0 0) := fun W hW => hW.cell (by omega) (cell_of_heap HXY.out)
  go_wp2_with fail
  rw [← hY]
  have HY := Lib.hid hY
  clear hY
  go_region_held3 (fun W' => ButFor Y w.heap.size W') (first | assumption | exact hbf | exact ButFor.alloc (by assumption) _ | exact hbf.alloc _ | exact ButFor.set (by assumption) _ _ | exact ButFor.set (ButFor.set (by assumption) _ _) _ _ | exact hbf)
    (first
      | (go_at_call 61
         refine (s_false _).mono ?_
         rintro e w3 ⟨t3, ao3, n3, c3, rfl, hb3, ht3⟩
         have HT3 := Lib.hid ht3
         clear ht3
         have hS3 : ButFor Y w.heap.size w3 := After.butFor (After.trans (a := Y) (by repeat (first | assumption | exact After.refl _ | apply After.alloc | apply After.drew | (refine After.trans ?_ (by assumption)))) hb3))
      | (go_at_call 63
         refine (s_app _ Tm.X Tm.no [120] t3 none ao3 0 0 n3 c3 _ (0, 0) ?_ ?_ ?_).mono ?_
         · (rfl)
         · (exact HT3.out.later (by repeat (first | assumption | exact After.refl _ | apply After.alloc | apply After.drew | (refine After.trans ?_ (by assumption)))))
         · (repeat (first | (first | exact heap_new' _ _ | exact heap_newD _ _ | exact heap_old2 _ _ _ | exact heap_old2D _ _ _ | exact heap_new2 _ _ _ _ rfl | exact heap_new2D _ _ _) | (refine After.heap (by assumption) ?_) | (refine After.heap (After.alloc (by assumption) _) ?_) | (refine After.heap (After.alloc (After.alloc (by assumption) _) _) ?_)))
         rintro e w4 ⟨t4, ao4, n4, c4, rfl, hb4, ht4⟩
         have HT4 := Lib.hid ht4
         clear ht4
         have hS4 : ButFor Y w.heap.size w4 := After.butFor (After.trans (a := Y) (by repeat (first | assumption | exact After.refl _ | apply After.alloc | apply After.drew | (refine After.trans ?_ (by assumption)))) hb4))
      | (go_at_call 64
         refine (habs _ _ (HT4.out.later (by repeat (first | assumption | exact After.refl _ | apply After.alloc | apply After.drew | (refine After.trans ?_ (by assumption)))))).mono ?_
         rintro e w5 ⟨t5, ao5, n5, c5, rfl, hb5, ht5⟩
         have HT5 := Lib.hid ht5
         clear ht5
         have hS5 : ButFor Y w.heap.size w5 := After.butFor (After.trans (a := Y) (by repeat (first | assumption | exact After.refl _ | apply After.alloc | apply After.drew | (refine After.trans ?_ (by assumption)))) hb5)
         have hAL : After Y w5 := After.trans (a := Y) (by repeat (first | assumption | exact After.refl _ | apply After.alloc | apply After.drew | (refine After.trans ?_ (by assumption)))) hb5
         obtain ⟨z0, z1, z2, z3, z4⟩ := pair_facts HRY.out hAL)
    )
  all_goals
    go_wp2_with fail
    refine bodyPost_ret (v := .tuple #[.agg #[str t5, .slice ao5 n5 c5], .bool true]) (by simp [results, Try.results32, go_sem, z0, z1]) rfl
      ⟨t5, ao5, n5, c5, rfl, after_sets2 (HAY.out.trans hAL) (After.heap hAL HRY.out) (Nat.le_refl _) _ _, fun t he => by obtain rfl := Option.some.inj he; exact HT5.out.sets2 (After.heap hAL HRY.out)⟩

theorem sdata_succ (w : World) : Calls Try.prog 32 #[str [115, 117, 99, 99]] w (SDataPost w (some Tm.succ)) := by
  have hnx := s_nm (w.alloc (.cells #[.string ⟨#[]⟩, .slice none 0 0] 40)) [120]
  have hres := heap_new' w (.cells #[.string ⟨#[]⟩, .slice none 0 0] 40)
  have hA := After.new w (.cells #[.string ⟨#[]⟩, .slice none 0 0] 40)
  have HRES := Lib.hid hres
  clear hres
  go_enter Try.func32, Try.ntmps32
  go_wp2_with fail
  refine hnx.mono ?_
  rintro e w1 ⟨rfl, hb1⟩
  have hAY : After w (w1.alloc (.cells #[str [120], .slice none 0 0] 40)) := (hA.trans hb1).alloc _
  have hRY : (w1.alloc (.cells #[str [120], .slice none 0 0] 40)).heap[w.heap.size]? = some (.cells #[.string ⟨#[]⟩, .slice none 0 0] 40 (0, 0)) := (hb1.alloc _).heap HRES.out
  have HR1 := Lib.hid (hb1.heap HRES.out)
  have HA1 := Lib.hid (hA.trans hb1)
  have hXY := heap_new' w1 (.cells #[str [120], .slice none 0 0] 40)
  have hs1 := hb1.size
  have hne : w.heap.size < w1.heap.size := by simp at hs1; omega
  have HAY := Lib.hid hAY
  have HRY := Lib.hid hRY
  have HXY := Lib.hid hXY
  clear hnx hAY hRY hXY hb1 hs1 hA HRES
  have habs := fun W v (h : ST W (Tm.pair Tm.no Tm.X) v) => h.abs [120] (by decide) (by decide) (by decide) (Tm.plain_good (by decide +kernel)) (by decide +kernel)
  unfold TreePost at habs
  obtain ⟨Y, hY⟩ : ∃ Y, Y = (w1.alloc (.cells #[str [120], .slice none 0 0] 40)) := ⟨_, rfl⟩
  rw [← hY] at HAY HRY HXY
  have hbf : ButFor Y w.heap.size Y.drew := ⟨Nat.le_refl _, fun _ _ _ => rfl⟩
  have o0 : ∀ W, ButFor Y w.heap.size W → W.cell? ⟨w1.heap.size, 0, none⟩ = some (str [120]) := fun W hW => hW.cell (by omega) (cell_of_heap HXY.out)
  have o1 : ∀ W, ButFor Y w.heap.size W → W.cell? ⟨w1.heap.size, 1, none⟩ = some (.slice none 0 0) := fun W hW => hW.cell (by omega) (cell_of_heap HXY.out)
  go_wp2_with fail
  rw [← hY]
  have HY := Lib.hid hY
  clear hY
  go_region_held3 (fun W' => ButFor Y w.heap.size W') (first | assumption | exact hbf | exact ButFor.alloc (by assumption) _ | exact hbf.alloc _ | exact ButFor.set (by assumption) _ _ | exact ButFor.set (ButFor.set (by assumption) _ _) _ _ | exact hbf)
    (first
      | (go_at_call 61
         refine (s_false _).mono ?_
         rintro e w3 ⟨t3, ao3, n3, c3, rfl, hb3, ht3⟩
         have HT3 := Lib.hid ht3
         clear ht3
         have hS3 : ButFor Y w.heap.size w3 := After.butFor (After.trans (a := Y) (by repeat (first | assumption | exact After.refl _ | apply After.alloc | apply After.drew | (refine After.trans ?_ (by assumption)))) hb3))
      | (go_at_call 65
         refine (s_pair _ Tm.no Tm.X t3 [120] ao3 none n3 c3 0 0 (HT3.out.later (by repeat (first | assumption | exact After.refl _ | apply After.alloc | apply After.drew | (refine After.trans ?_ (by assumption))))) rfl (by decide +kernel) (by decide +kernel) (by decide +kernel)).mono ?_
         rintro e w4 ⟨t4, ao4, n4, c4, rfl, hb4, ht4⟩
         have HT4 := Lib.hid ht4
         clear ht4
         have hS4 : ButFor Y w.heap.size w4 := After.butFor (After.trans (a := Y) (by repeat (first | assumption | exact After.refl _ | apply After.alloc | apply After.drew | (refine After.trans ?_ (by assumption)))) hb4))
      | (go_at_call 64
         refine (habs _ _ (HT4.out.later (by repeat (first | assumption | exact After.refl _ | apply After.alloc | apply After.drew | (refine After.trans ?_ (by assumption)))))).mono ?_
         rintro e w5 ⟨t5, ao5, n5, c5, rfl, hb5, ht5⟩
         have HT5 := Lib.hid ht5
         clear ht5
         have hS5 : ButFor Y w.heap.size w5 := After.butFor (After.trans (a := Y) (by repeat (first | assumption | exact After.refl _ | apply After.alloc | apply After.drew | (refine After.trans ?_ (by assumption)))) hb5)
         have hAL : After Y w5 := After.trans (a := Y) (by repeat (first | assumption | exact After.refl _ | apply After.alloc | apply After.drew | (refine After.trans ?_ (by assumption)))) hb5
         obtain ⟨z0, z1, z2, z3, z4⟩ := pair_facts HRY.out hAL)
    )
  all_goals
    go_wp2_with fail
    refine bodyPost_ret (v := .tuple #[.agg #[str t5, .slice ao5 n5 c5], .bool true]) (by simp [results, Try.results32, go_sem, z0, z1]) rfl
      ⟨t5, ao5, n5, c5, rfl, after_sets2 (HAY.out.trans hAL) (After.heap hAL HRY.out) (Nat.le_refl _) _ _, fun t he => by obtain rfl := Option.some.inj he; exact HT5.out.sets2 (After.heap hAL HRY.out)⟩

theorem sdata_pred (w : World) : Calls Try.prog 32 #[str [112, 114, 101, 100]] w (SDataPost w (some Tm.pred)) := by
  have hnx := s_nm (w.alloc (.cells #[.string ⟨#[]⟩, .slice none 0 0] 40)) [120]
  have hres := heap_new' w (.cells #[.string ⟨#[]⟩, .slice none 0 0] 40)
  have hA := After.new w (.cells #[.string ⟨#[]⟩, .slice none 0 0] 40)
  have HRES := Lib.hid hres
  clear hres
  go_enter Try.func32, Try.ntmps32
  go_wp2_with fail
  refine hnx.mono ?_
  rintro e w1 ⟨rfl, hb1⟩
  have hAY : After w (w1.alloc (.cells #[str [120], .slice none 0 0] 40)) := (hA.trans hb1).alloc _
  have hRY : (w1.alloc (.cells #[str [120], .slice none 0 0] 40)).heap[w.heap.size]? = some (.cells #[.string ⟨#[]⟩, .slice none 0 0] 40 (0, 0)) := (hb1.alloc _).heap HRES.out
  have HR1 := Lib.hid (hb1.heap HRES.out)
  have HA1 := Lib.hid (hA.trans hb1)
  have hXY := heap_new' w1 (.cells #[str [120], .slice none 0 0] 40)
  have hs1 := hb1.size
  have hne : w.heap.size < w1.heap.size := by simp at hs1; omega
  have HAY := Lib.hid hAY
  have HRY := Lib.hid hRY
  have HXY := Lib.hid hXY
  clear hnx hAY hRY hXY hb1 hs1 hA HRES
  have habs := fun W v (h : ST W (Tm.app (Tm.app (Tm.app Tm.X .k) Tm.I) (Tm.app Tm.X Tm.no)) v) => h.abs [120] (by decide) (by decide) (by decide) (Tm.plain_good (by decide +kernel)) (by decide +kernel)
  unfold TreePost at habs
  obtain ⟨Y, hY⟩ : ∃ Y, Y = (w1.alloc (.cells #[str [120], .slice none 0 0] 40)) := ⟨_, rfl⟩
  rw [← hY] at HAY HRY HXY
  have hbf : ButFor Y w.heap.size Y.drew := ⟨Nat.le_refl _, fun _ _ _ => rfl⟩
  have o0 : ∀ W, ButFor Y w.heap.size W → W.cell? ⟨w1.heap.size, 0, none⟩ = some (str [120]) := fun W hW => hW.cell (by omega) (cell_of_heap HXY.out)
  have o1 : ∀ W, ButFor Y w.heap.size W → W.cell? ⟨w1.heap.size, 1, none⟩ = some (.slice none 0 0) := fun W hW => hW.cell (by omega) (cell_of_heap HXY.out)
  go_wp2_with fail
  rw [← hY]
  have HY := Lib.hid hY
  clear hY
  go_region_held3 (fun W' => ButFor Y w.heap.size W') (first | assumption | exact hbf | exact ButFor.alloc (by assumption) _ | exact hbf.alloc _ | exact ButFor.set (by assumption) _ _ | exact ButFor.set (ButFor.set (by assumption) _ _) _ _ | exact hbf)
    (first
      | (go_at_call 60
         refine (s_true _).mono ?_
         rintro e w3 ⟨t3, ao3, n3, c3, rfl, hb3, ht3⟩
         have HT3 := Lib.hid ht3
         clear ht3
         have hS3 : ButFor Y w.heap.size w3 := After.butFor (After.trans (a := Y) (by repeat (first | assumption | exact After.refl _ | apply After.alloc | apply After.drew | (refine After.trans ?_ (by assumption)))) hb3))
      | (go_at_call 59
         refine (s_i _).mono ?_
         rintro e w5 ⟨t5, ao5, n5, c5, rfl, hb5, ht5⟩
         have HT5 := Lib.hid ht5
         clear ht5
         have hS5 : ButFor Y w.heap.size w5 := After.butFor (After.trans (a := Y) (by repeat (first | assumption | exact After.refl _ | apply After.alloc | apply After.drew | (refine After.trans ?_ (by assumption)))) hb5))
      | (go_at_call 61
         refine (s_false _).mono ?_
         rintro e w6 ⟨t6, ao6, n6, c6, rfl, hb6, ht6⟩
         have HT6 := Lib.hid ht6
         clear ht6
         have hS6 : ButFor Y w.heap.size w6 := After.butFor (After.trans (a := Y) (by repeat (first | assumption | exact After.refl _ | apply After.alloc | apply After.drew | (refine After.trans ?_ (by assumption)))) hb6))
      | (go_at_call 63
         refine (s_app2 _ (Tm.app Tm.X .k) Tm.I (Tm.app Tm.X Tm.no) t4 t5 t7 ao4 ao5 ao7 n4 c4 n5 c5 n7 c7 _ (0, 0) ?_ ?_ ?_ ?_).mono ?_
         · (exact HT4.out.later (by repeat (first | assumption | exact After.refl _ | apply After.alloc | apply After.drew | (refine After.trans ?_ (by assumption)))))
         · (exact HT5.out.later (by repeat (first | assumption | exact After.refl _ | apply After.alloc | apply After.drew | (refine After.trans ?_ (by assumption)))))
         · (exact HT7.out.later (by repeat (first | assumption | exact After.refl _ | apply After.alloc | apply After.drew | (refine After.trans ?_ (by assumption)))))
         · (repeat (first | (first | exact heap_new' _ _ | exact heap_newD _ _ | exact heap_old2 _ _ _ | exact heap_old2D _ _ _ | exact heap_new2 _ _ _ _ rfl | exact heap_new2D _ _ _) | (refine After.heap (by assumption) ?_) | (refine After.heap (After.alloc (by assumption) _) ?_) | (refine After.heap (After.alloc (After.alloc (by assumption) _) _) ?_)))
         rintro e w8 ⟨t8, ao8, n8, c8, rfl, hb8, ht8⟩
         have HT8 := Lib.hid ht8
         clear ht8
         have hS8 : ButFor Y w.heap.size w8 := After.butFor (After.trans (a := Y) (by repeat (first | assumption | exact After.refl _ | apply After.alloc | apply After.drew | (refine After.trans ?_ (by assumption)))) hb8))
      | (go_at_call 63
         refine (s_app _ Tm.X Tm.no [120] t6 none ao6 0 0 n6 c6 _ (0, 0) ?_ ?_ ?_).mono ?_
         · (rfl)
         · (exact HT6.out.later (by repeat (first | assumption | exact After.refl _ | apply After.alloc | apply After.drew | (refine After.trans ?_ (by assumption)))))
         · (repeat (first | (first | exact heap_new' _ _ | exact heap_newD _ _ | exact heap_old2 _ _ _ | exact heap_old2D _ _ _ | exact heap_new2 _ _ _ _ rfl | exact heap_new2D _ _ _) | (refine After.heap (by assumption) ?_) | (refine After.heap (After.alloc (by assumption) _) ?_) | (refine After.heap (After.alloc (After.alloc (by assumption) _) _) ?_)))
         rintro e w7 ⟨t7, ao7, n7, c7, rfl, hb7, ht7⟩
         have HT7 := Lib.hid ht7
         clear ht7
         have hS7 : ButFor Y w.heap.size w7 := After.butFor (After.trans (a := Y) (by repeat (first | assumption | exact After.refl _ | apply After.alloc | apply After.drew | (refine After.trans ?_ (by assumption)))) hb7))
      | (go_at_call 63
         refine (s_app _ Tm.X .k [120] t3 none ao3 0 0 n3 c3 _ (0, 0) ?_ ?_ ?_).mono ?_
         · (rfl)
         · (exact HT3.out.later (by repeat (first | assumption | exact After.refl _ | apply After.alloc | apply After.drew | (refine After.trans ?_ (by assumption)))))
         · (repeat (first | (first | exact heap_new' _ _ | exact heap_newD _ _ | exact heap_old2 _ _ _ | exact heap_old2D _ _ _ | exact heap_new2 _ _ _ _ rfl | exact heap_new2D _ _ _) | (refine After.heap (by assumption) ?_) | (refine After.heap (After.alloc (by assumption) _) ?_) | (refine After.heap (After.alloc (After.alloc (by assumption) _) _) ?_)))
         rintro e w4 ⟨t4, ao4, n4, c4, rfl, hb4, ht4⟩
         have HT4 := Lib.hid ht4
         clear ht4
         have hS4 : ButFor Y w.heap.size w4 := After.butFor (After.trans (a := Y) (by repeat (first | assumption | exact After.refl _ | apply After.alloc | apply After.drew | (refine After.trans ?_ (by assumption)))) hb4))
      | (go_at_call 64
         refine (habs _ _ (HT8.out.later (by repeat (first | assumption | exact After.refl _ | apply After.alloc | apply After.drew | (refine After.trans ?_ (by assumption)))))).mono ?_
         rintro e w9 ⟨t9, ao9, n9, c9, rfl, hb9, ht9⟩
         have HT9 := Lib.hid ht9
         clear ht9
         have hS9 : ButFor Y w.heap.size w9 := After.butFor (After.trans (a := Y) (by repeat (first | assumption | exact After.refl _ | apply After.alloc | apply After.drew | (refine After.trans ?_ (by assumption)))) hb9)
         have hAL : After Y w9 := After.trans (a := Y) (by repeat (first | assumption | exact After.refl _ | apply After.alloc | apply After.drew | (refine After.trans ?_ (by assumption)))) hb9
         obtain ⟨z0, z1, z2, z3, z4⟩ := pair_facts HRY.out hAL)
    )
  all_goals
    go_wp2_with fail
    refine bodyPost_ret (v := .tuple #[.agg #[str t9, .slice ao9 n9 c9], .bool true]) (by simp [results, Try.results32, go_sem, z0, z1]) rfl
      ⟨t9, ao9, n9, c9, rfl, after_sets2 (HAY.out.trans hAL) (After.heap hAL HRY.out) (Nat.le_refl _) _ _, fun t he => by obtain rfl := Option.some.inj he; exact HT9.out.sets2 (After.heap hAL HRY.out)⟩

theorem sdata_pair (w : World) : Calls Try.prog 32 #[str [112, 97, 105, 114]] w (SDataPost w (some Tm.pairC)) := by
  have hnx := s_nm (w.alloc (.cells #[.string ⟨#[]⟩, .slice none 0 0] 40)) [120]
  have hres := heap_new' w (.cells #[.string ⟨#[]⟩, .slice none 0 0] 40)
  have hA := After.new w (.cells #[.string ⟨#[]⟩, .slice none 0 0] 40)
  have HRES := Lib.hid hres
  clear hres
  go_enter Try.func32, Try.ntmps32
  go_wp2_with fail
  refine hnx.mono ?_
  rintro e w1 ⟨rfl, hb1⟩
  have hAY : After w (w1.alloc (.cells #[str [120], .slice none 0 0] 40)) := (hA.trans hb1).alloc _
  have hRY : (w1.alloc (.cells #[str [120], .slice none 0 0] 40)).heap[w.heap.size]? = some (.cells #[.string ⟨#[]⟩, .slice none 0 0] 40 (0, 0)) := (hb1.alloc _).heap HRES.out
  have HR1 := Lib.hid (hb1.heap HRES.out)
  have HA1 := Lib.hid (hA.trans hb1)
  have hXY := heap_new' w1 (.cells #[str [120], .slice none 0 0] 40)
  have hs1 := hb1.size
  have hne : w.heap.size < w1.heap.size := by simp at hs1; omega
  have HAY := Lib.hid hAY
  have HRY := Lib.hid hRY
  have HXY := Lib.hid hXY
  clear hnx hAY hRY hXY hb1 hs1 hA HRES
  obtain ⟨Y, hY⟩ : ∃ Y, Y = (w1.alloc (.cells #[str [120], .slice none 0 0] 40)) := ⟨_, rfl⟩
  rw [← hY] at HAY HRY HXY
  have hbf : ButFor Y w.heap.size Y.drew := ⟨Nat.le_refl _, fun _ _ _ => rfl⟩
  have o0 : ∀ W, ButFor Y w.heap.size W → W.cell? ⟨w1.heap.size, 0, none⟩ = some (str [120]) := fun W hW => hW.cell (by omega) (cell_of_heap HXY.out)
  have o1 : ∀ W, ButFor Y w.heap.size W → W.cell? ⟨w1.heap.size, 1, none⟩ = some (.slice none 0 0) := fun W hW => hW.cell (by omega) (cell_of_heap HXY.out)
  go_wp2_with fail
  rw [← hY]
  have HY := Lib.hid hY
  clear hY
  go_region_held3 (fun W' => ButFor Y w.heap.size W') (first | assumption | exact hbf | exact ButFor.alloc (by assumption) _ | exact hbf.alloc _ | exact ButFor.set (by assumption) _ _ | exact ButFor.set (ButFor.set (by assumption) _ _) _ _ | exact hbf)
    (first
      | (go_at_call 58
         have := hb3
         refine (s_nm _ [121]).mono ?_
         rintro e w4 ⟨rfl, hb4⟩
         have hS4 : ButFor Y w.heap.size w4 := After.butFor (After.trans (a := Y) (by repeat (first | assumption | exact After.refl _ | apply After.alloc | apply After.drew | (refine After.trans ?_ (by assumption)))) hb4))
      | (go_at_call 58
         refine (s_nm _ [122]).mono ?_
         rintro e w3 ⟨rfl, hb3⟩
         have hS3 : ButFor Y w.heap.size w3 := After.butFor (After.trans (a := Y) (by repeat (first | assumption | exact After.refl _ | apply After.alloc | apply After.drew | (refine After.trans ?_ (by assumption)))) hb3))
      | (go_at_call 63
         refine (s_app2 _ Tm.Z Tm.X Tm.Y [122] [120] [121] none none none 0 0 0 0 0 0 _ (0, 0) rfl rfl rfl ?_).mono ?_
         · (repeat (first | (first | exact heap_new' _ _ | exact heap_newD _ _ | exact heap_old2 _ _ _ | exact heap_old2D _ _ _ | exact heap_new2 _ _ _ _ rfl | exact heap_new2D _ _ _) | (refine After.heap (by assumption) ?_) | (refine After.heap (After.alloc (by assumption) _) ?_) | (refine After.heap (After.alloc (After.alloc (by assumption) _) _) ?_)))
         rintro e w5 ⟨t5, ao5, n5, c5, rfl, hb5, ht5⟩
         have HT5 := Lib.hid ht5
         clear ht5
         have hS5 : ButFor Y w.heap.size w5 := After.butFor (After.trans (a := Y) (by repeat (first | assumption | exact After.refl _ | apply After.alloc | apply After.drew | (refine After.trans ?_ (by assumption)))) hb5))
      | (go_at_call 62
         refine (s_all_pair _ _ t5 ao5 n5 c5 (HT5.out.later (by repeat (first | assumption | exact After.refl _ | apply After.alloc | apply After.drew | (refine After.trans ?_ (by assumption))))) ?_).mono ?_
         · (repeat (first | (first | exact heap_new' _ _ | exact heap_newD _ _ | exact heap_old2 _ _ _ | exact heap_old2D _ _ _ | exact heap_new2 _ _ _ _ rfl | exact heap_new2D _ _ _) | (refine After.heap (by assumption) ?_) | (refine After.heap (After.alloc (by assumption) _) ?_) | (refine After.heap (After.alloc (After.alloc (by assumption) _) _) ?_)))
         rintro e w6 ⟨t6, ao6, n6, c6, rfl, hb6, ht6⟩
         have HT6 := Lib.hid ht6
         clear ht6
         have hS6 : ButFor Y w.heap.size w6 := After.butFor (After.trans (a := Y) (by repeat (first | assumption | exact After.refl _ | apply After.alloc | apply After.drew | (refine After.trans ?_ (by assumption)))) hb6)
         have hAL : After Y w6 := After.trans (a := Y) (by repeat (first | assumption | exact After.refl _ | apply After.alloc | apply After.drew | (refine After.trans ?_ (by assumption)))) hb6
         obtain ⟨z0, z1, z2, z3, z4⟩ := pair_facts HRY.out hAL)
    )
  all_goals
    go_wp2_with fail
    refine bodyPost_ret (v := .tuple #[.agg #[str t6, .slice ao6 n6 c6], .bool true]) (by simp [results, Try.results32, go_sem, z0, z1]) rfl
      ⟨t6, ao6, n6, c6, rfl, after_sets2 (HAY.out.trans hAL) (After.heap hAL HRY.out) (Nat.le_refl _) _ _, fun t he => by obtain rfl := Option.some.inj he; exact HT6.out.sets2 (After.heap hAL HRY.out)⟩

theorem sdata_fix (w : World) : Calls Try.prog 32 #[str [102, 105, 120]] w (SDataPost w (some Tm.fix)) := by
  have hnx := s_nm (w.alloc (.cells #[.string ⟨#[]⟩, .slice none 0 0] 40)) [120]
  have hres := heap_new' w (.cells #[.string ⟨#[]⟩, .slice none 0 0] 40)
  have hA := After.new w (.cells #[.string ⟨#[]⟩, .slice none 0 0] 40)
  have HRES := Lib.hid hres
  clear hres
  go_enter Try.func32, Try.ntmps32
  go_wp2_with fail
  refine hnx.mono ?_
  rintro e w1 ⟨rfl, hb1⟩
  have hAY : After w (w1.alloc (.cells #[str [120], .slice none 0 0] 40)) := (hA.trans hb1).alloc _
  have hRY : (w1.alloc (.cells #[str [120], .slice none 0 0] 40)).heap[w.heap.size]? = some (.cells #[.string ⟨#[]⟩, .slice none 0 0] 40 (0, 0)) := (hb1.alloc _).heap HRES.out
  have HR1 := Lib.hid (hb1.heap HRES.out)
  have HA1 := Lib.hid (hA.trans hb1)
  have hXY := heap_new' w1 (.cells #[str [120], .slice none 0 0] 40)
  have hs1 := hb1.size
  have hne : w.heap.size < w1.heap.size := by simp at hs1; omega
  have HAY := Lib.hid hAY
  have HRY := Lib.hid hRY
  have HXY := Lib.hid hXY
  clear hnx hAY hRY hXY hb1 hs1 hA HRES
  have hk := s_fix (w1.alloc (.cells #[str [120], .slice none 0 0] 40))
  unfold TreePost at hk
  go_wp2_with fail
  refine hk.mono ?_
  rintro e w3 ⟨t3, ao3, n3, c3, rfl, hb3, ht3⟩
  have HT3 := Lib.hid ht3
  obtain ⟨z0, z1, z2, z3, l2⟩ := pair_facts HRY.out hb3
  clear ht3 hk
  go_wp2_with fail
  refine bodyPost_ret (v := .tuple #[.agg #[str t3, .slice ao3 n3 c3], .bool true]) (by simp [results, Try.results32, go_sem, z0, z1]) rfl
    ⟨t3, ao3, n3, c3, rfl, after_sets2 (HAY.out.trans hb3) (After.heap hb3 HRY.out) (Nat.le_refl _) _ _, fun t he => by obtain rfl := Option.some.inj he; exact HT3.out.sets2 (After.heap hb3 HRY.out)⟩

theorem sdata_none (w : World) (l : List UInt8) (n0 : (l == [105]) = false) (n1 : (l == [116, 114, 117, 101]) = false) (n2 : (l == [102, 97, 108, 115, 101]) = false) (n3 : (l == [112, 97, 105, 114]) = false) (n4 : (l == [102, 105, 114, 115, 116]) = false) (n5 : (l == [122, 101, 114, 111]) = false) (n6 : (l == [115, 101, 99, 111, 110, 100]) = false) (n7 : (l == [115, 117, 99, 99]) = false) (n8 : (l == [112, 114, 101, 100]) = false) (n9 : (l == [102, 105, 120]) = false) : Calls Try.prog 32 #[str l] w (SDataPost w none) := by
  have hnx := s_nm (w.alloc (.cells #[.string ⟨#[]⟩, .slice none 0 0] 40)) [120]
  have hres := heap_new' w (.cells #[.string ⟨#[]⟩, .slice none 0 0] 40)
  have hA := After.new w (.cells #[.string ⟨#[]⟩, .slice none 0 0] 40)
  have HRES := Lib.hid hres
  clear hres
  go_enter Try.func32, Try.ntmps32
  go_wp2_with fail
  refine hnx.mono ?_
  rintro e w1 ⟨rfl, hb1⟩
  have hAY : After w (w1.alloc (.cells #[str [120], .slice none 0 0] 40)) := (hA.trans hb1).alloc _
  have hRY : (w1.alloc (.cells #[str [120], .slice none 0 0] 40)).heap[w.heap.size]? = some (.cells #[.string ⟨#[]⟩, .slice none 0 0] 40 (0, 0)) := (hb1.alloc _).heap HRES.out
  have HR1 := Lib.hid (hb1.heap HRES.out)
  have HA1 := Lib.hid (hA.trans hb1)
  have hXY := heap_new' w1 (.cells #[str [120], .slice none 0 0] 40)
  have hs1 := hb1.size
  have hne : w.heap.size < w1.heap.size := by simp at hs1; omega
  have HAY := Lib.hid hAY
  have HRY := Lib.hid hRY
  have HXY := Lib.hid hXY
  clear hnx hAY hRY hXY hb1 hs1 hA HRES
  obtain ⟨z0, z1, z2, z3, l2⟩ := pair_facts HR1.out (After.refl _)
  obtain ⟨y0, y1, y2, y3, m2⟩ := pair_facts HXY.out (After.refl _)
  go_wp2_with fail
  have hAc := (after_sets2 HA1.out HR1.out (Nat.le_refl _) (str [120]) (.slice none 0 0)).alloc (.cells #[str [120], .slice none 0 0] 40)
  obtain ⟨q0, q1, _, _, _⟩ := pair_facts (heap_sets2 (u := str [120]) (u' := .slice none 0 0) HR1.out) (After.new _ (.cells #[str [120], .slice none 0 0] 40))
  refine bodyPost_ret (v := .tuple #[.agg #[str [120], .slice none 0 0], .bool false]) (by simp [results, Try.results32, go_sem, q0, q1]) rfl
    ⟨[120], none, 0, 0, rfl, hAc, fun t he => by cases he⟩

theorem sdata_any (w : World) (l : List UInt8) : Calls Try.prog 32 #[str l] w (SDataPost w (Tm.data l)) := by
  by_cases h0 : l = [105]
  · subst h0; exact sdata_i w
  by_cases h1 : l = [116, 114, 117, 101]
  · subst h1; exact sdata_true w
  by_cases h2 : l = [102, 97, 108, 115, 101]
  · subst h2; exact sdata_false w
  by_cases h3 : l = [112, 97, 105, 114]
  · subst h3; exact sdata_pair w
  by_cases h4 : l = [102, 105, 114, 115, 116]
  · subst h4; exact sdata_first w
  by_cases h5 : l = [122, 101, 114, 111]
  · subst h5; exact sdata_zero w
  by_cases h6 : l = [115, 101, 99, 111, 110, 100]
  · subst h6; exact sdata_second w
  by_cases h7 : l = [115, 117, 99, 99]
  · subst h7; exact sdata_succ w
  by_cases h8 : l = [112, 114, 101, 100]
  · subst h8; exact sdata_pred w
  by_cases h9 : l = [102, 105, 120]
  · subst h9; exact sdata_fix w
  rw [show Tm.data l = none by simp only [Tm.data, if_neg h0, if_neg h1, if_neg h2, if_neg h3, if_neg h4, if_neg h5, if_neg h6, if_neg h7, if_neg h8, if_neg h9]]
  exact sdata_none w l (beq_eq_false_iff_ne.2 h0) (beq_eq_false_iff_ne.2 h1) (beq_eq_false_iff_ne.2 h2) (beq_eq_false_iff_ne.2 h3) (beq_eq_false_iff_ne.2 h4) (beq_eq_false_iff_ne.2 h5) (beq_eq_false_iff_ne.2 h6) (beq_eq_false_iff_ne.2 h7) (beq_eq_false_iff_ne.2 h8) (beq_eq_false_iff_ne.2 h9)

theorem spec_data (w : World) (l : List UInt8) : Calls Try.prog 13 #[str l] w (SNumOne w (pData l)) := by
  have hcall := sdata_any w l
  unfold SDataPost at hcall
  cases hd : Tm.data l with
  | none =>
    rw [show pData l = none by simp [pData, hd]]
    rw [hd] at hcall
    clear hd
    go_enter Try.func13, Try.ntmps13
    go_wp2_with fail
    refine hcall.mono ?_
    rintro e w1 ⟨s1, ao1, n1, c1, rfl, hb1, ht1⟩
    clear ht1
    go_wp2_with fail
    go_ret2
    exact ⟨rfl, After.alloc hb1 _⟩
  | some t =>
    rw [show pData l = some t.text by simp [pData, hd]]
    rw [hd] at hcall
    obtain ⟨hg, hs⟩ := Tm.data_good hd
    have htl := Tm.text_le t hg
    clear hd
    go_enter Try.func13, Try.ntmps13
    go_wp2_with fail
    refine hcall.mono ?_
    rintro e w1 ⟨s1, ao1, n1, c1, rfl, hb1, ht1⟩
    have htx := ((ht1 t rfl).later (After.new w1 (.cells #[str s1, .slice ao1 n1 c1] 40))).text hg (by omega)
    have hX := heap_new' w1 (.cells #[str s1, .slice ao1 n1 c1] 40)
    obtain ⟨z0, z1, z2, z3, l2⟩ := pair_facts hX (After.refl _)
    clear ht1 hcall hX
    go_wp2_with (go_at_call 33; refine htx.mono ?_; rintro e w2 ⟨rfl, hb2⟩)
    go_ret2
    exact ⟨rfl, (After.alloc hb1 _).trans hb2⟩

theorem law_data (w : World) (l : List UInt8) : Calls Try.prog 4 #[str l] w fun e w' => e = .returned (.bool true) ∧ After w w' := by
  have hsl : (⟨l.toArray⟩ : ByteArray).size = l.length := by show l.toArray.size = _; simp
  by_cases hl : (1048576 : Int) < (l.length : Int)
  · go_enter Try.func4, Try.ntmps4
    go_wp2_with fail
    go_ret
    exact ⟨rfl, After.refl _⟩
  have hs := fun W => spec_data W l
  have hi := fun W => impl_data W l
  unfold SNumOne at hs
  unfold NumOne at hi
  generalize (pData l).getD [] = x at *
  generalize (pData l).isSome = b at *
  go_enter Try.func4, Try.ntmps4
  cases b
  all_goals
    go_wp2_with (first
      | (go_at_call 13; refine (hs _).mono ?_; rintro e w1 ⟨rfl, hb1⟩)
      | (go_at_call 14; refine (hi _).mono ?_; rintro e w2 ⟨rfl, hb2⟩))
    go_ret
    exact ⟨rfl, After.trans hb1 hb2⟩
end Go.Proofs.Ytjomocjlnjgkeaa
