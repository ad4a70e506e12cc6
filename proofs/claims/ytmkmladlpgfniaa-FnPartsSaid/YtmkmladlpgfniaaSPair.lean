/-
  The model's PairOf.
-/
import Derived.Test.YtmkmladlpgfniaaFree
import Derived.Test.YtmkmladlpgfniaaImplPair
import Derived.Test.YtmkmladlpgfniaaPkSRead
namespace Go.Proofs.Ytmkmladlpgfniaa
open Go.RowKit

set_option maxHeartbeats 2000000
set_option maxRecDepth 100000

theorem heap_newD (w : World) (o : Obj) : ((w.alloc o).drew).heap[w.heap.size]? = some o := heap_new' w o
theorem heap_old2D (w : World) (o p : Obj) : (((w.alloc o).alloc p).drew).heap[w.heap.size]? = some o := heap_old2 w o p
theorem heap_new2D (w : World) (o p : Obj) : (((w.alloc o).alloc p).drew).heap[w.heap.size + 1]? = some p := heap_new2 w _ o p rfl

theorem after_sets2 {X W : World} {G : Nat} {o : Obj} (h : After X W) (_hG : W.heap[G]? = some o) (hle : X.heap.size ≤ G) (u u' : Value) : After X ((W.setCell ⟨G, 0, none⟩ u).setCell ⟨G, 1, none⟩ u') :=
  Below.setCell (p := ⟨G, 1, none⟩) (Below.setCell (p := ⟨G, 0, none⟩) h hle _) hle _

theorem s_pair_none1 (w : World) (l m : List UInt8) (hl : l.length ≤ 1000000000) (hm : m.length ≤ 1000000000) (hp : Tm.parse l = none) :
    Calls Try.prog 48 #[str l, str m] w (SNumOne w none) := by
  have h1 := s_term w l hl
  have h2 := fun W => s_term W m hm
  unfold STermPost at h1 h2
  rw [hp] at h1
  generalize (Tm.parse m).isSome = b at h2
  clear hp
  go_enter Try.func48, Try.ntmps48
  go_wp2_with fail
  refine h1.mono ?_
  rintro e w1 ⟨s1, ao1, n1, c1, rfl, hb1, ht1⟩
  clear ht1
  go_wp2_with fail
  refine (h2 _).mono ?_
  rintro e w2 ⟨s2, ao2, n2, c2, rfl, hb2, ht2⟩
  clear ht2 h2 h1
  have hb3 := (After.alloc ((After.alloc hb1 (.cells #[str s1, .slice ao1 n1 c1] 46)).trans hb2) (.cells #[str s2, .slice ao2 n2 c2] 46))
  go_wp2_with fail
  go_ret2
  exact ⟨rfl, hb3⟩

theorem s_pair_none2 (w : World) (l m : List UInt8) (hl : l.length ≤ 1000000000) (hm : m.length ≤ 1000000000) (hp : (Tm.parse l).isSome = true) (hq : Tm.parse m = none) :
    Calls Try.prog 48 #[str l, str m] w (SNumOne w none) := by
  have h1 := s_term w l hl
  have h2 := fun W => s_term W m hm
  unfold STermPost at h1 h2
  rw [hp] at h1
  rw [hq] at h2
  clear hp hq
  go_enter Try.func48, Try.ntmps48
  go_wp2_with fail
  refine h1.mono ?_
  rintro e w1 ⟨s1, ao1, n1, c1, rfl, hb1, ht1⟩
  clear ht1
  go_wp2_with fail
  refine (h2 _).mono ?_
  rintro e w2 ⟨s2, ao2, n2, c2, rfl, hb2, ht2⟩
  clear ht2 h2 h1
  have hb3 := (After.alloc ((After.alloc hb1 (.cells #[str s1, .slice ao1 n1 c1] 46)).trans hb2) (.cells #[str s2, .slice ao2 n2 c2] 46))
  go_wp2_with fail
  go_ret2
  exact ⟨rfl, hb3⟩

theorem s_pair_some (w : World) (l m : List UInt8) (t u : Tm) (hl : l.length ≤ 1000000000) (hm : m.length ≤ 1000000000) (hp : Tm.parse l = some t) (hq : Tm.parse m = some u) :
    Calls Try.prog 48 #[str l, str m] w (SNumOne w (if (Tm.pair t u).fits = true then some (Tm.pair t u).text else none)) := by
  have h1 := s_term w l hl
  have h2 := fun W => s_term W m hm
  unfold STermPost at h1 h2
  rw [hp] at h1
  rw [hq] at h2
  obtain ⟨hg, hf, hs, _, _⟩ := Tm.parse_facts hp
  obtain ⟨hgu, hfu, hsu, _, _⟩ := Tm.parse_facts hq
  have hgp : (Tm.pair t u).good = true := by rw [Tm.good_pair, hg, hgu]; rfl
  have hsz := Tm.size_pair t u
  have htl := Tm.text_le _ hgp
  obtain ⟨fb, hfb⟩ : ∃ fb, fb = (Tm.pair t u).fits := ⟨_, rfl⟩
  rw [← hfb]
  obtain ⟨r, hr⟩ : ∃ r, r = if fb = true then some (Tm.pair t u).text else none := ⟨_, rfl⟩
  rw [← hr]
  have HFB := Lib.hid hfb
  have HSZ := Lib.hid hsz
  have HR := Lib.hid hr
  clear hp hq hfb hsz hr
  go_enter Try.func48, Try.ntmps48
  go_wp2_with fail
  refine h1.mono ?_
  rintro e w1 ⟨s1, ao1, n1, c1, rfl, hb1, ht1⟩
  have HT1 := Lib.hid (ht1 t rfl)
  clear ht1
  go_wp2_with fail
  refine (h2 _).mono ?_
  rintro e w2 ⟨s2, ao2, n2, c2, rfl, hb2, ht2⟩
  have HT2 := Lib.hid (ht2 u rfl)
  clear ht2 h2 h1
  obtain ⟨X, hX⟩ : ∃ X, X = w2.alloc (.cells #[str s2, .slice ao2 n2 c2] 46) := ⟨_, rfl⟩
  have h2X : After w2 X := by rw [hX]; exact After.new _ _
  have hA1 : After (w1.alloc (.cells #[str s1, .slice ao1 n1 c1] 46)) X := hb2.trans h2X
  have hAX : After w X := (After.alloc hb1 _).trans hA1
  have hT1 := HT1.out.later ((After.new w1 (.cells #[str s1, .slice ao1 n1 c1] 46)).trans hA1)
  have hT2 := HT2.out.later h2X
  have hbox1 := hA1.heap (heap_new' w1 (.cells #[str s1, .slice ao1 n1 c1] 46))
  have hbox2 : X.heap[w2.heap.size]? = some (.cells #[str s2, .slice ao2 n2 c2] 46 (0, 0)) := by rw [hX]; exact heap_new' _ _
  have hfree := free_any X t u s1 s2 ao1 ao2 n1 c1 n2 c2 hT1 hT2 hg hgu (by omega) (by omega)
  unfold FreePost at hfree
  have k0 : ∀ W, After X W → W.cell? ⟨w1.heap.size, 0, none⟩ = some (str s1) := fun W hW => hW.cell (cell_of_heap hbox1)
  have k1 : ∀ W, After X W → W.cell? ⟨w1.heap.size, 1, none⟩ = some (.slice ao1 n1 c1) := fun W hW => hW.cell (cell_of_heap hbox1)
  have k2 : ∀ W, After X W → W.cell? ⟨w2.heap.size, 0, none⟩ = some (str s2) := fun W hW => hW.cell (cell_of_heap hbox2)
  have k3 : ∀ W, After X W → W.cell? ⟨w2.heap.size, 1, none⟩ = some (.slice ao2 n2 c2) := fun W hW => hW.cell (cell_of_heap hbox2)
  have HAX := Lib.hid hAX
  have HTX1 := Lib.hid hT1
  have HTX2 := Lib.hid hT2
  have hself := After.refl X
  have x0 := k0 X hself
  have x1 := k1 X hself
  have x2 := k2 X hself
  have x3 := k3 X hself
  rw [hX] at x0 x1 x2 x3 hfree
  have HX := Lib.hid hX
  clear hX h2X hA1 hAX hT1 hT2 hbox1 hbox2 HT1 HT2 hb1 hb2
  go_wp2_with fail
  refine hfree.mono ?_
  rintro e w3 ⟨k, _, rfl, hb3, hu1, hu2⟩
  rw [← HX.out] at hb3
  clear x0 x1 x2 x3
  obtain ⟨hzk, hzs, hz0⟩ := zn_not k
  have hplain : (Tm.app (.app (.nm (zn k)) t) u).Plain := ⟨⟨by show zn k ≠ []; simp [zn], Tm.plain_good hg⟩, Tm.plain_good hgu⟩
  have habs := fun W v (h : ST W (.app (.app (.nm (zn k)) t) u) v) => h.abs (zn k) hz0 hzk hzs hplain (by simp [Tm.size]; omega)
  rw [Tm.pair_abs (zn k) t u hu1 hu2] at habs
  unfold TreePost at habs
  have hnm := fun W => s_nm W (zn k)
  generalize zn k = z at *
  have HAB := Lib.hid habs
  clear hzk hzs hz0 hplain hu1 hu2 hfree habs
  have sz3 := hb3.size
  go_wp2_with fail
  go_region_held3 (fun W' => After X W') (first | assumption | exact After.drew (by assumption) | exact After.alloc (by assumption) _ | exact Below.setCell (by assumption) (by first | omega | (simp; omega)) _ | exact Below.setCell (Below.setCell (by assumption) (by first | omega | (simp; omega)) _) (by first | omega | (simp; omega)) _)
    (first
      | (go_at_call 78
         refine (hnm _).mono ?_
         rintro e w4 ⟨rfl, hb4⟩
         have hA4 := After.trans (a := X) (by repeat (first | assumption | exact After.refl _ | apply After.alloc | apply After.drew | apply After.drews)) hb4
         have sz4 := hA4.size)
      | (go_at_call 81
         refine (s_app2 _ (.nm z) t u _ s1 s2 none ao1 ao2 0 0 n1 c1 n2 c2 _ (0, 0) ?_ ?_ ?_ ?_).mono ?_
         · rfl
         · exact HTX1.out.later (by repeat (first | assumption | exact After.refl _ | apply After.alloc | apply After.drew | apply After.drews))
         · exact HTX2.out.later (by repeat (first | assumption | exact After.refl _ | apply After.alloc | apply After.drew | apply After.drews))
         · (first | (first | exact heap_new' _ _ | exact heap_newD _ _ | exact heap_old2 _ _ _ | exact heap_old2D _ _ _ | exact heap_new2 _ _ _ _ rfl | exact heap_new2D _ _ _) | (refine After.heap hb4 ?_; (first | exact heap_new' _ _ | exact heap_newD _ _ | exact heap_old2 _ _ _ | exact heap_old2D _ _ _ | exact heap_new2 _ _ _ _ rfl | exact heap_new2D _ _ _)) | (refine After.heap (After.alloc hb4 _) ?_; (first | exact heap_new' _ _ | exact heap_newD _ _ | exact heap_old2 _ _ _ | exact heap_old2D _ _ _ | exact heap_new2 _ _ _ _ rfl | exact heap_new2D _ _ _)))
         rintro e w5 ⟨t5, ao5, n5, c5, rfl, hb5, ht5⟩
         have HT5 := Lib.hid ht5
         clear ht5
         have hA5 := After.trans (a := X) (by repeat (first | assumption | exact After.refl _ | apply After.alloc | apply After.drew | apply After.drews)) hb5
         have sz5 := hA5.size)
      | (go_at_call 82
         refine (HAB.out _ _ (HT5.out.later (by repeat (first | assumption | exact After.refl _ | apply After.alloc | apply After.drew | apply After.drews)))).mono ?_
         rintro e w6 ⟨t6, ao6, n6, c6, rfl, hb6, ht6⟩
         have HT6 := Lib.hid ht6
         clear ht6
         have hA6 := After.trans (a := X) (by repeat (first | assumption | exact After.refl _ | apply After.alloc | apply After.drew | apply After.drews)) hb6
         have sz6 := hA6.size
         first
           | ((first | (have hG : w6.heap[w5.heap.size]? = some (.cells #[.string ⟨#[]⟩, .slice none 0 0] 46 (0, 0)) := by (first | (first | exact heap_new' _ _ | exact heap_newD _ _ | exact heap_old2 _ _ _ | exact heap_old2D _ _ _ | exact heap_new2 _ _ _ _ rfl | exact heap_new2D _ _ _) | (refine After.heap hb6 ?_; (first | exact heap_new' _ _ | exact heap_newD _ _ | exact heap_old2 _ _ _ | exact heap_old2D _ _ _ | exact heap_new2 _ _ _ _ rfl | exact heap_new2D _ _ _)) | (refine After.heap (After.alloc hb6 _) ?_; (first | exact heap_new' _ _ | exact heap_newD _ _ | exact heap_old2 _ _ _ | exact heap_old2D _ _ _ | exact heap_new2 _ _ _ _ rfl | exact heap_new2D _ _ _)))) | (have hG : w6.heap[w4.heap.size]? = some (.cells #[.string ⟨#[]⟩, .slice none 0 0] 46 (0, 0)) := by (first | (first | exact heap_new' _ _ | exact heap_newD _ _ | exact heap_old2 _ _ _ | exact heap_old2D _ _ _ | exact heap_new2 _ _ _ _ rfl | exact heap_new2D _ _ _) | (refine After.heap hb6 ?_; (first | (first | exact heap_new' _ _ | exact heap_newD _ _ | exact heap_old2 _ _ _ | exact heap_old2D _ _ _ | exact heap_new2 _ _ _ _ rfl | exact heap_new2D _ _ _) | (refine After.heap hb5 ?_; (first | exact heap_new' _ _ | exact heap_newD _ _ | exact heap_old2 _ _ _ | exact heap_old2D _ _ _ | exact heap_new2 _ _ _ _ rfl | exact heap_new2D _ _ _)) | (refine After.heap (After.alloc hb5 _) ?_; (first | exact heap_new' _ _ | exact heap_newD _ _ | exact heap_old2 _ _ _ | exact heap_old2D _ _ _ | exact heap_new2 _ _ _ _ rfl | exact heap_new2D _ _ _)))) | (refine After.heap (After.alloc hb6 _) ?_; (first | (first | exact heap_new' _ _ | exact heap_newD _ _ | exact heap_old2 _ _ _ | exact heap_old2D _ _ _ | exact heap_new2 _ _ _ _ rfl | exact heap_new2D _ _ _) | (refine After.heap hb5 ?_; (first | exact heap_new' _ _ | exact heap_newD _ _ | exact heap_old2 _ _ _ | exact heap_old2D _ _ _ | exact heap_new2 _ _ _ _ rfl | exact heap_new2D _ _ _)) | (refine After.heap (After.alloc hb5 _) ?_; (first | exact heap_new' _ _ | exact heap_newD _ _ | exact heap_old2 _ _ _ | exact heap_old2D _ _ _ | exact heap_new2 _ _ _ _ rfl | exact heap_new2D _ _ _)))))) | (have hG : w6.heap[w4.heap.size + 1]? = some (.cells #[.string ⟨#[]⟩, .slice none 0 0] 46 (0, 0)) := by (first | (first | exact heap_new' _ _ | exact heap_newD _ _ | exact heap_old2 _ _ _ | exact heap_old2D _ _ _ | exact heap_new2 _ _ _ _ rfl | exact heap_new2D _ _ _) | (refine After.heap hb6 ?_; (first | (first | exact heap_new' _ _ | exact heap_newD _ _ | exact heap_old2 _ _ _ | exact heap_old2D _ _ _ | exact heap_new2 _ _ _ _ rfl | exact heap_new2D _ _ _) | (refine After.heap hb5 ?_; (first | exact heap_new' _ _ | exact heap_newD _ _ | exact heap_old2 _ _ _ | exact heap_old2D _ _ _ | exact heap_new2 _ _ _ _ rfl | exact heap_new2D _ _ _)) | (refine After.heap (After.alloc hb5 _) ?_; (first | exact heap_new' _ _ | exact heap_newD _ _ | exact heap_old2 _ _ _ | exact heap_old2D _ _ _ | exact heap_new2 _ _ _ _ rfl | exact heap_new2D _ _ _)))) | (refine After.heap (After.alloc hb6 _) ?_; (first | (first | exact heap_new' _ _ | exact heap_newD _ _ | exact heap_old2 _ _ _ | exact heap_old2D _ _ _ | exact heap_new2 _ _ _ _ rfl | exact heap_new2D _ _ _) | (refine After.heap hb5 ?_; (first | exact heap_new' _ _ | exact heap_newD _ _ | exact heap_old2 _ _ _ | exact heap_old2D _ _ _ | exact heap_new2 _ _ _ _ rfl | exact heap_new2D _ _ _)) | (refine After.heap (After.alloc hb5 _) ?_; (first | exact heap_new' _ _ | exact heap_newD _ _ | exact heap_old2 _ _ _ | exact heap_old2D _ _ _ | exact heap_new2 _ _ _ _ rfl | exact heap_new2D _ _ _)))))) | (have hG : w6.heap[w3.heap.size]? = some (.cells #[.string ⟨#[]⟩, .slice none 0 0] 46 (0, 0)) := by (first | (first | exact heap_new' _ _ | exact heap_newD _ _ | exact heap_old2 _ _ _ | exact heap_old2D _ _ _ | exact heap_new2 _ _ _ _ rfl | exact heap_new2D _ _ _) | (refine After.heap hb6 ?_; (first | (first | exact heap_new' _ _ | exact heap_newD _ _ | exact heap_old2 _ _ _ | exact heap_old2D _ _ _ | exact heap_new2 _ _ _ _ rfl | exact heap_new2D _ _ _) | (refine After.heap hb5 ?_; (first | (first | exact heap_new' _ _ | exact heap_newD _ _ | exact heap_old2 _ _ _ | exact heap_old2D _ _ _ | exact heap_new2 _ _ _ _ rfl | exact heap_new2D _ _ _) | (refine After.heap hb4 ?_; (first | exact heap_new' _ _ | exact heap_newD _ _ | exact heap_old2 _ _ _ | exact heap_old2D _ _ _ | exact heap_new2 _ _ _ _ rfl | exact heap_new2D _ _ _)) | (refine After.heap (After.alloc hb4 _) ?_; (first | exact heap_new' _ _ | exact heap_newD _ _ | exact heap_old2 _ _ _ | exact heap_old2D _ _ _ | exact heap_new2 _ _ _ _ rfl | exact heap_new2D _ _ _)))) | (refine After.heap (After.alloc hb5 _) ?_; (first | (first | exact heap_new' _ _ | exact heap_newD _ _ | exact heap_old2 _ _ _ | exact heap_old2D _ _ _ | exact heap_new2 _ _ _ _ rfl | exact heap_new2D _ _ _) | (refine After.heap hb4 ?_; (first | exact heap_new' _ _ | exact heap_newD _ _ | exact heap_old2 _ _ _ | exact heap_old2D _ _ _ | exact heap_new2 _ _ _ _ rfl | exact heap_new2D _ _ _)) | (refine After.heap (After.alloc hb4 _) ?_; (first | exact heap_new' _ _ | exact heap_newD _ _ | exact heap_old2 _ _ _ | exact heap_old2D _ _ _ | exact heap_new2 _ _ _ _ rfl | exact heap_new2D _ _ _)))))) | (refine After.heap (After.alloc hb6 _) ?_; (first | (first | exact heap_new' _ _ | exact heap_newD _ _ | exact heap_old2 _ _ _ | exact heap_old2D _ _ _ | exact heap_new2 _ _ _ _ rfl | exact heap_new2D _ _ _) | (refine After.heap hb5 ?_; (first | (first | exact heap_new' _ _ | exact heap_newD _ _ | exact heap_old2 _ _ _ | exact heap_old2D _ _ _ | exact heap_new2 _ _ _ _ rfl | exact heap_new2D _ _ _) | (refine After.heap hb4 ?_; (first | exact heap_new' _ _ | exact heap_newD _ _ | exact heap_old2 _ _ _ | exact heap_old2D _ _ _ | exact heap_new2 _ _ _ _ rfl | exact heap_new2D _ _ _)) | (refine After.heap (After.alloc hb4 _) ?_; (first | exact heap_new' _ _ | exact heap_newD _ _ | exact heap_old2 _ _ _ | exact heap_old2D _ _ _ | exact heap_new2 _ _ _ _ rfl | exact heap_new2D _ _ _)))) | (refine After.heap (After.alloc hb5 _) ?_; (first | (first | exact heap_new' _ _ | exact heap_newD _ _ | exact heap_old2 _ _ _ | exact heap_old2D _ _ _ | exact heap_new2 _ _ _ _ rfl | exact heap_new2D _ _ _) | (refine After.heap hb4 ?_; (first | exact heap_new' _ _ | exact heap_newD _ _ | exact heap_old2 _ _ _ | exact heap_old2D _ _ _ | exact heap_new2 _ _ _ _ rfl | exact heap_new2D _ _ _)) | (refine After.heap (After.alloc hb4 _) ?_; (first | exact heap_new' _ _ | exact heap_newD _ _ | exact heap_old2 _ _ _ | exact heap_old2D _ _ _ | exact heap_new2 _ _ _ _ rfl | exact heap_new2D _ _ _)))))))) | (have hG : w6.heap[w3.heap.size + 1]? = some (.cells #[.string ⟨#[]⟩, .slice none 0 0] 46 (0, 0)) := by (first | (first | exact heap_new' _ _ | exact heap_newD _ _ | exact heap_old2 _ _ _ | exact heap_old2D _ _ _ | exact heap_new2 _ _ _ _ rfl | exact heap_new2D _ _ _) | (refine After.heap hb6 ?_; (first | (first | exact heap_new' _ _ | exact heap_newD _ _ | exact heap_old2 _ _ _ | exact heap_old2D _ _ _ | exact heap_new2 _ _ _ _ rfl | exact heap_new2D _ _ _) | (refine After.heap hb5 ?_; (first | (first | exact heap_new' _ _ | exact heap_newD _ _ | exact heap_old2 _ _ _ | exact heap_old2D _ _ _ | exact heap_new2 _ _ _ _ rfl | exact heap_new2D _ _ _) | (refine After.heap hb4 ?_; (first | exact heap_new' _ _ | exact heap_newD _ _ | exact heap_old2 _ _ _ | exact heap_old2D _ _ _ | exact heap_new2 _ _ _ _ rfl | exact heap_new2D _ _ _)) | (refine After.heap (After.alloc hb4 _) ?_; (first | exact heap_new' _ _ | exact heap_newD _ _ | exact heap_old2 _ _ _ | exact heap_old2D _ _ _ | exact heap_new2 _ _ _ _ rfl | exact heap_new2D _ _ _)))) | (refine After.heap (After.alloc hb5 _) ?_; (first | (first | exact heap_new' _ _ | exact heap_newD _ _ | exact heap_old2 _ _ _ | exact heap_old2D _ _ _ | exact heap_new2 _ _ _ _ rfl | exact heap_new2D _ _ _) | (refine After.heap hb4 ?_; (first | exact heap_new' _ _ | exact heap_newD _ _ | exact heap_old2 _ _ _ | exact heap_old2D _ _ _ | exact heap_new2 _ _ _ _ rfl | exact heap_new2D _ _ _)) | (refine After.heap (After.alloc hb4 _) ?_; (first | exact heap_new' _ _ | exact heap_newD _ _ | exact heap_old2 _ _ _ | exact heap_old2D _ _ _ | exact heap_new2 _ _ _ _ rfl | exact heap_new2D _ _ _)))))) | (refine After.heap (After.alloc hb6 _) ?_; (first | (first | exact heap_new' _ _ | exact heap_newD _ _ | exact heap_old2 _ _ _ | exact heap_old2D _ _ _ | exact heap_new2 _ _ _ _ rfl | exact heap_new2D _ _ _) | (refine After.heap hb5 ?_; (first | (first | exact heap_new' _ _ | exact heap_newD _ _ | exact heap_old2 _ _ _ | exact heap_old2D _ _ _ | exact heap_new2 _ _ _ _ rfl | exact heap_new2D _ _ _) | (refine After.heap hb4 ?_; (first | exact heap_new' _ _ | exact heap_newD _ _ | exact heap_old2 _ _ _ | exact heap_old2D _ _ _ | exact heap_new2 _ _ _ _ rfl | exact heap_new2D _ _ _)) | (refine After.heap (After.alloc hb4 _) ?_; (first | exact heap_new' _ _ | exact heap_newD _ _ | exact heap_old2 _ _ _ | exact heap_old2D _ _ _ | exact heap_new2 _ _ _ _ rfl | exact heap_new2D _ _ _)))) | (refine After.heap (After.alloc hb5 _) ?_; (first | (first | exact heap_new' _ _ | exact heap_newD _ _ | exact heap_old2 _ _ _ | exact heap_old2D _ _ _ | exact heap_new2 _ _ _ _ rfl | exact heap_new2D _ _ _) | (refine After.heap hb4 ?_; (first | exact heap_new' _ _ | exact heap_newD _ _ | exact heap_old2 _ _ _ | exact heap_old2D _ _ _ | exact heap_new2 _ _ _ _ rfl | exact heap_new2D _ _ _)) | (refine After.heap (After.alloc hb4 _) ?_; (first | exact heap_new' _ _ | exact heap_newD _ _ | exact heap_old2 _ _ _ | exact heap_old2D _ _ _ | exact heap_new2 _ _ _ _ rfl | exact heap_new2D _ _ _)))))))))
              have HG := Lib.hid hG
              obtain ⟨g0, g1, g2, g3, g4⟩ := pair_facts hG (After.refl _)
              clear hG)
           | skip))
  all_goals
    have hr := HR.out
    clear hb3 hb4 hb5 k0 k1 k2 k3
    first
      | (have hbox := heap_sets2 (u := str t6) (u' := .slice ao6 n6 c6) HG.out
         have hst := HT6.out.sets2 (u := str t6) (u' := .slice ao6 n6 c6) (i := 0) (j := 1) HG.out
         have hAc := after_sets2 hA6 HG.out (by omega) (str t6) (.slice ao6 n6 c6)
         clear HG g0 g1 g2 g3 g4)
      | (have hbox := heap_new' w6 (.cells #[str t6, .slice ao6 n6 c6] 46)
         have hst := HT6.out.later (After.new w6 (.cells #[str t6, .slice ao6 n6 c6] 46))
         have hAc := hA6.alloc (.cells #[str t6, .slice ao6 n6 c6] 46))
    obtain ⟨y0, y1, y2, y3, y4⟩ := pair_facts hbox (After.refl _)
    have hfine := hst.fine hgp (by have := HSZ.out; omega)
    have hbl := hbox
    have HBX := Lib.hid hbox
    have HST := Lib.hid hst
    have HAC := Lib.hid hAc
    rw [← HFB.out] at hfine
    clear hbox hst hAc hbl hA6 hA5 hA4 hb6 HT6 HT5
    cases fb
    all_goals
      simp only [if_true, Bool.false_eq_true, if_false] at hr
      subst hr
      go_wp2_with fail
      refine hfine.mono ?_
      rintro e w7 ⟨rfl, hb7⟩
      obtain ⟨i0, i1, i2, i3, i4⟩ := pair_facts HBX.out hb7
      have htx := (HST.out.later hb7).text hgp (by have := HSZ.out; omega)
      clear hfine y0 y1 y2 y3 y4
      go_wp2_with (go_at_call 47; refine htx.mono ?_; rintro e w8 ⟨rfl, hb8⟩)
      go_ret2
      first
        | exact ⟨rfl, HAX.out.trans ((HAC.out.trans hb7).trans hb8)⟩
        | exact ⟨rfl, HAX.out.trans (HAC.out.trans hb7)⟩

theorem spec_pair (w : World) (l m : List UInt8) (hl : l.length ≤ 1000000000) (hm : m.length ≤ 1000000000) :
    Calls Try.prog 48 #[str l, str m] w (SNumOne w (pPair l m)) := by
  unfold pPair
  cases hp : Tm.parse l with
  | none => exact s_pair_none1 w l m hl hm hp
  | some t =>
    cases hq : Tm.parse m with
    | none => exact s_pair_none2 w l m hl hm (by rw [hp]; rfl) hq
    | some u => exact s_pair_some w l m t u hl hm hp hq

end Go.Proofs.Ytmkmladlpgfniaa
