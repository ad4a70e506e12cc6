/-
  The model's reader of codes: l4Back; what stands at the ends.
-/
import Derived.Test.YtkmfnnmbhmjfgaaPkP
import Derived.Test.YtkmfnnmbhmjfgaaPkX
import Derived.Test.YtkmfnnmbhmjfgaaPkS
import Derived.Test.YtkmfnnmbhmjfgaaPkYR
namespace Go.Proofs.Ytkmfnnmbhmjfgaa
open Go.RowKit

set_option maxHeartbeats 2000000
set_option maxRecDepth 100000

def SBackPost (w : World) (r : Option Tm) (e : Ending) (w' : World) : Prop :=
  ∃ x s ao n c, e = .returned (.tuple #[.agg #[str s, .slice ao n c], .bool r.isSome]) ∧ After w w' ∧ ST w' x (.agg #[str s, .slice ao n c]) ∧ ∀ u, r = some u → x = u

theorem back_k (w : World) (t : Tm) (x : List UInt8) (ax : Option Addr) (nx cx : Nat) (h : ST w t (.agg #[str x, .slice ax nx cx])) (hg : t.good = true) (hz : t.size ≤ 3000) (hk : (t.text == Tm.kC.text) = true) :
    Calls Try.prog 43 #[.agg #[str x, .slice ax nx cx]] w (SBackPost w (some .k)) := by
  obtain ⟨Y0, hY0⟩ : ∃ Y0, Y0 = (w.alloc (.cells #[str x, .slice ax nx cx] 32)).alloc (.cells #[.string ⟨#[]⟩, .slice none 0 0] 32) := ⟨_, rfl⟩
  have hA0 : After w Y0 := by rw [hY0]; exact (After.new _ _).alloc _
  have hq : Y0.heap[w.heap.size]? = some (.cells #[str x, .slice ax nx cx] 32 (0, 0)) := by rw [hY0]; exact heap_old2 _ _ _
  have hr : Y0.heap[w.heap.size + 1]? = some (.cells #[.string ⟨#[]⟩, .slice none 0 0] 32 (0, 0)) := by rw [hY0]; exact heap_new2 w _ _ _ rfl
  have k1 := (h.later hA0).text hg (by have := Tm.text_le t hg; omega)
  obtain ⟨q0, q1, q2, q3, q4⟩ := pair_facts hq (After.refl _)
  have HQ := Lib.hid hq
  have HR := Lib.hid hr
  have HA0 := Lib.hid hA0
  have HST := Lib.hid (h.later hA0)
  obtain ⟨kT, hkT⟩ : ∃ z, z = Tm.kC.text := ⟨_, rfl⟩
  obtain ⟨sT, hsT⟩ : ∃ z, z = Tm.sC.text := ⟨_, rfl⟩
  rw [← hkT] at hk
  have HKT := Lib.hid hkT
  have HSTT := Lib.hid hsT
  clear hq hr hA0 h q2 q3 q4 hkT
  go_enter Try.func43, Try.ntmps43
  go_wp2_with fail
  rw [← hY0]
  clear hY0
  refine k1.mono ?_
  rintro e w1 ⟨rfl, hb1⟩
  obtain ⟨Y1, hY1⟩ : ∃ Y1, Y1 = (w1.alloc (.cells #[str [107], .slice none 0 0] 32)).alloc (.cells #[str [115], .slice none 0 0] 32) := ⟨_, rfl⟩
  have hA1 : After w1 Y1 := by rw [hY1]; exact (After.new _ _).alloc _
  have hgk : Y1.heap[w1.heap.size]? = some (.cells #[str [107], .slice none 0 0] 32 (0, 0)) := by rw [hY1]; exact heap_old2 _ _ _
  have hgs : Y1.heap[w1.heap.size + 1]? = some (.cells #[str [115], .slice none 0 0] 32 (0, 0)) := by rw [hY1]; exact heap_new2 w1 _ _ _ rfl
  have HGK := Lib.hid hgk
  have HGS := Lib.hid hgs
  have k2 := ST.code4 (t := .k) (w := Y1) (v := .agg #[str [107], .slice none 0 0]) rfl (fun _ => rfl)
  rw [show Tm.code .k = Tm.kC from rfl] at k2
  unfold TreePost at k2
  have HA1 := Lib.hid (hb1.trans hA1)
  clear k1 q0 q1 hgk hgs hA1 hb1
  go_wp2_with fail
  rw [← hY1]
  clear hY1
  refine k2.mono ?_
  rintro e w2 ⟨t2, ao2, n2, c2, rfl, hb2, ht2⟩
  have k3 := ht2.text (by decide +kernel) (by decide +kernel)
  rw [← HKT.out] at k3
  clear k2 ht2
  go_wp2_with fail
  refine k3.mono ?_
  rintro e w3 ⟨rfl, hb3⟩
  have HA3 := Lib.hid (hb2.trans hb3)
  clear k3 hb2 hb3
  have AZ := HA1.out.trans HA3.out
  have G := AZ.heap HR.out
  obtain ⟨z0, z1, z2, z3, z4⟩ := pair_facts G (After.refl _)
  have GK := HA3.out.heap HGK.out
  obtain ⟨j0, j1, _, _, _⟩ := pair_facts GK (After.refl _)
  have HAW := Lib.hid (HA0.out.trans AZ)
  clear AZ
  go_wp2_with fail
  exact bodyPost_ret (v := .tuple #[.agg #[str [107], .slice none 0 0], .bool true]) (by simp [results, Try.results43, go_sem, z0, z1]) rfl
    ⟨.k, [107], none, 0, 0, rfl, after_sets2 HAW.out G (Nat.le_succ _) _ _, rfl, fun u hu => by obtain rfl := Option.some.inj hu; rfl⟩

theorem back_s (w : World) (t : Tm) (x : List UInt8) (ax : Option Addr) (nx cx : Nat) (h : ST w t (.agg #[str x, .slice ax nx cx])) (hg : t.good = true) (hz : t.size ≤ 3000) (hk : (t.text == Tm.kC.text) = false) (hs : (t.text == Tm.sC.text) = true) :
    Calls Try.prog 43 #[.agg #[str x, .slice ax nx cx]] w (SBackPost w (some .s)) := by
  obtain ⟨Y0, hY0⟩ : ∃ Y0, Y0 = (w.alloc (.cells #[str x, .slice ax nx cx] 32)).alloc (.cells #[.string ⟨#[]⟩, .slice none 0 0] 32) := ⟨_, rfl⟩
  have hA0 : After w Y0 := by rw [hY0]; exact (After.new _ _).alloc _
  have hq : Y0.heap[w.heap.size]? = some (.cells #[str x, .slice ax nx cx] 32 (0, 0)) := by rw [hY0]; exact heap_old2 _ _ _
  have hr : Y0.heap[w.heap.size + 1]? = some (.cells #[.string ⟨#[]⟩, .slice none 0 0] 32 (0, 0)) := by rw [hY0]; exact heap_new2 w _ _ _ rfl
  have k1 := (h.later hA0).text hg (by have := Tm.text_le t hg; omega)
  obtain ⟨q0, q1, q2, q3, q4⟩ := pair_facts hq (After.refl _)
  have HQ := Lib.hid hq
  have HR := Lib.hid hr
  have HA0 := Lib.hid hA0
  have HST := Lib.hid (h.later hA0)
  obtain ⟨kT, hkT⟩ : ∃ z, z = Tm.kC.text := ⟨_, rfl⟩
  obtain ⟨sT, hsT⟩ : ∃ z, z = Tm.sC.text := ⟨_, rfl⟩
  rw [← hkT] at hk
  have HKT := Lib.hid hkT
  have HSTT := Lib.hid hsT
  clear hq hr hA0 h q2 q3 q4 hkT
  go_enter Try.func43, Try.ntmps43
  go_wp2_with fail
  rw [← hY0]
  clear hY0
  refine k1.mono ?_
  rintro e w1 ⟨rfl, hb1⟩
  obtain ⟨Y1, hY1⟩ : ∃ Y1, Y1 = (w1.alloc (.cells #[str [107], .slice none 0 0] 32)).alloc (.cells #[str [115], .slice none 0 0] 32) := ⟨_, rfl⟩
  have hA1 : After w1 Y1 := by rw [hY1]; exact (After.new _ _).alloc _
  have hgk : Y1.heap[w1.heap.size]? = some (.cells #[str [107], .slice none 0 0] 32 (0, 0)) := by rw [hY1]; exact heap_old2 _ _ _
  have hgs : Y1.heap[w1.heap.size + 1]? = some (.cells #[str [115], .slice none 0 0] 32 (0, 0)) := by rw [hY1]; exact heap_new2 w1 _ _ _ rfl
  have HGK := Lib.hid hgk
  have HGS := Lib.hid hgs
  have k2 := ST.code4 (t := .k) (w := Y1) (v := .agg #[str [107], .slice none 0 0]) rfl (fun _ => rfl)
  rw [show Tm.code .k = Tm.kC from rfl] at k2
  unfold TreePost at k2
  have HA1 := Lib.hid (hb1.trans hA1)
  clear k1 q0 q1 hgk hgs hA1 hb1
  go_wp2_with fail
  rw [← hY1]
  clear hY1
  refine k2.mono ?_
  rintro e w2 ⟨t2, ao2, n2, c2, rfl, hb2, ht2⟩
  have k3 := ht2.text (by decide +kernel) (by decide +kernel)
  rw [← HKT.out] at k3
  clear k2 ht2
  go_wp2_with fail
  refine k3.mono ?_
  rintro e w3 ⟨rfl, hb3⟩
  have HA3 := Lib.hid (hb2.trans hb3)
  clear k3 hb2 hb3
  rw [← hsT] at hs
  clear hsT
  have GS3 := HA3.out.heap HGS.out
  obtain ⟨i0, i1, i2, i3, i4⟩ := pair_facts GS3 (After.refl _)
  have k4 := ST.code4 (t := .s) (w := w3) (v := .agg #[str [115], .slice none 0 0]) rfl (fun _ => rfl)
  rw [show Tm.code .s = Tm.sC from rfl] at k4
  unfold TreePost at k4
  clear GS3 i2 i3 i4
  go_wp2_with fail
  refine k4.mono ?_
  rintro e w4 ⟨t4, ao4, n4, c4, rfl, hb4, ht4⟩
  have k5 := ht4.text (by decide +kernel) (by decide +kernel)
  rw [← HSTT.out] at k5
  clear k4 ht4 i0 i1
  go_wp2_with fail
  refine k5.mono ?_
  rintro e w5 ⟨rfl, hb5⟩
  have HA5 := Lib.hid ((HA1.out.trans HA3.out).trans (hb4.trans hb5))
  have G := HA5.out.heap HR.out
  obtain ⟨z0, z1, z2, z3, z4⟩ := pair_facts G (After.refl _)
  have GS := (hb4.trans hb5).heap (HA3.out.heap HGS.out)
  obtain ⟨j0, j1, _, _, _⟩ := pair_facts GS (After.refl _)
  have HAW := Lib.hid (HA0.out.trans HA5.out)
  clear k5 hb4 hb5
  go_wp2_with fail
  exact bodyPost_ret (v := .tuple #[.agg #[str [115], .slice none 0 0], .bool true]) (by simp [results, Try.results43, go_sem, z0, z1]) rfl
    ⟨.s, [115], none, 0, 0, rfl, after_sets2 HAW.out G (Nat.le_succ _) _ _, rfl, fun u hu => by obtain rfl := Option.some.inj hu; rfl⟩

theorem back_1 (w : World) (t : Tm) (x : List UInt8) (ax : Option Addr) (nx cx : Nat) (h : ST w t (.agg #[str x, .slice ax nx cx])) (hg : t.good = true) (hz : t.size ≤ 3000) (hk : (t.text == Tm.kC.text) = false) (hs : (t.text == Tm.sC.text) = false) (hx : x.isEmpty = false) :
    Calls Try.prog 43 #[.agg #[str x, .slice ax nx cx]] w (SBackPost w none) := by
  obtain ⟨Y0, hY0⟩ : ∃ Y0, Y0 = (w.alloc (.cells #[str x, .slice ax nx cx] 32)).alloc (.cells #[.string ⟨#[]⟩, .slice none 0 0] 32) := ⟨_, rfl⟩
  have hA0 : After w Y0 := by rw [hY0]; exact (After.new _ _).alloc _
  have hq : Y0.heap[w.heap.size]? = some (.cells #[str x, .slice ax nx cx] 32 (0, 0)) := by rw [hY0]; exact heap_old2 _ _ _
  have hr : Y0.heap[w.heap.size + 1]? = some (.cells #[.string ⟨#[]⟩, .slice none 0 0] 32 (0, 0)) := by rw [hY0]; exact heap_new2 w _ _ _ rfl
  have k1 := (h.later hA0).text hg (by have := Tm.text_le t hg; omega)
  obtain ⟨q0, q1, q2, q3, q4⟩ := pair_facts hq (After.refl _)
  have HQ := Lib.hid hq
  have HR := Lib.hid hr
  have HA0 := Lib.hid hA0
  have HST := Lib.hid (h.later hA0)
  obtain ⟨kT, hkT⟩ : ∃ z, z = Tm.kC.text := ⟨_, rfl⟩
  obtain ⟨sT, hsT⟩ : ∃ z, z = Tm.sC.text := ⟨_, rfl⟩
  rw [← hkT] at hk
  have HKT := Lib.hid hkT
  have HSTT := Lib.hid hsT
  clear hq hr hA0 h q2 q3 q4 hkT
  go_enter Try.func43, Try.ntmps43
  go_wp2_with fail
  rw [← hY0]
  clear hY0
  refine k1.mono ?_
  rintro e w1 ⟨rfl, hb1⟩
  obtain ⟨Y1, hY1⟩ : ∃ Y1, Y1 = (w1.alloc (.cells #[str [107], .slice none 0 0] 32)).alloc (.cells #[str [115], .slice none 0 0] 32) := ⟨_, rfl⟩
  have hA1 : After w1 Y1 := by rw [hY1]; exact (After.new _ _).alloc _
  have hgk : Y1.heap[w1.heap.size]? = some (.cells #[str [107], .slice none 0 0] 32 (0, 0)) := by rw [hY1]; exact heap_old2 _ _ _
  have hgs : Y1.heap[w1.heap.size + 1]? = some (.cells #[str [115], .slice none 0 0] 32 (0, 0)) := by rw [hY1]; exact heap_new2 w1 _ _ _ rfl
  have HGK := Lib.hid hgk
  have HGS := Lib.hid hgs
  have k2 := ST.code4 (t := .k) (w := Y1) (v := .agg #[str [107], .slice none 0 0]) rfl (fun _ => rfl)
  rw [show Tm.code .k = Tm.kC from rfl] at k2
  unfold TreePost at k2
  have HA1 := Lib.hid (hb1.trans hA1)
  clear k1 q0 q1 hgk hgs hA1 hb1
  go_wp2_with fail
  rw [← hY1]
  clear hY1
  refine k2.mono ?_
  rintro e w2 ⟨t2, ao2, n2, c2, rfl, hb2, ht2⟩
  have k3 := ht2.text (by decide +kernel) (by decide +kernel)
  rw [← HKT.out] at k3
  clear k2 ht2
  go_wp2_with fail
  refine k3.mono ?_
  rintro e w3 ⟨rfl, hb3⟩
  have HA3 := Lib.hid (hb2.trans hb3)
  clear k3 hb2 hb3
  rw [← hsT] at hs
  clear hsT
  have GS3 := HA3.out.heap HGS.out
  obtain ⟨i0, i1, i2, i3, i4⟩ := pair_facts GS3 (After.refl _)
  have k4 := ST.code4 (t := .s) (w := w3) (v := .agg #[str [115], .slice none 0 0]) rfl (fun _ => rfl)
  rw [show Tm.code .s = Tm.sC from rfl] at k4
  unfold TreePost at k4
  clear GS3 i2 i3 i4
  go_wp2_with fail
  refine k4.mono ?_
  rintro e w4 ⟨t4, ao4, n4, c4, rfl, hb4, ht4⟩
  have k5 := ht4.text (by decide +kernel) (by decide +kernel)
  rw [← HSTT.out] at k5
  clear k4 ht4 i0 i1
  go_wp2_with fail
  refine k5.mono ?_
  rintro e w5 ⟨rfl, hb5⟩
  have HA5 := Lib.hid ((HA1.out.trans HA3.out).trans (hb4.trans hb5))
  have G := HA5.out.heap HR.out
  obtain ⟨z0, z1, z2, z3, z4⟩ := pair_facts G (After.refl _)
  have GQ := HA5.out.heap HQ.out
  obtain ⟨j0, j1, _, _, _⟩ := pair_facts GQ (After.refl _)
  have HAW := Lib.hid (HA0.out.trans HA5.out)
  have HF := Lib.hid ((HST.out.later HA5.out).sets2 (i := 0) (j := 1) (u := str x) (u' := .slice ax nx cx) G)
  clear k5 hb4 hb5
  go_wp2_with fail
  exact bodyPost_ret (v := .tuple #[.agg #[str x, .slice ax nx cx], .bool false]) (by simp [results, Try.results43, go_sem, z0, z1]) rfl
    ⟨t, x, ax, nx, cx, rfl, after_sets2 HAW.out G (Nat.le_succ _) _ _, HF.out, fun u hu => by cases hu⟩

theorem back_2 (w : World) (t : Tm) (x : List UInt8) (ax : Option Addr) (nx cx : Nat) (h : ST w t (.agg #[str x, .slice ax nx cx])) (hg : t.good = true) (hz : t.size ≤ 3000) (hk : (t.text == Tm.kC.text) = false) (hs : (t.text == Tm.sC.text) = false) (g : Nat) (x0 : List UInt8) (p0 s1 p1 : Value) (fr : Nat × Nat) (e1 : x = []) (e2 : ax = some ⟨g, 0, none⟩) (e3 : nx = 2) (hh : w.heap[g]? = some (.cells #[str x0, p0, s1, p1] 32 fr)) (hx : (x0 == [107]) = false) :
    Calls Try.prog 43 #[.agg #[str x, .slice ax nx cx]] w (SBackPost w none) := by
  subst e1 e2 e3
  obtain ⟨Y0, hY0⟩ : ∃ Y0, Y0 = (w.alloc (.cells #[str [], .slice (some ⟨g, 0, none⟩) 2 cx] 32)).alloc (.cells #[.string ⟨#[]⟩, .slice none 0 0] 32) := ⟨_, rfl⟩
  have hA0 : After w Y0 := by rw [hY0]; exact (After.new _ _).alloc _
  have hq : Y0.heap[w.heap.size]? = some (.cells #[str [], .slice (some ⟨g, 0, none⟩) 2 cx] 32 (0, 0)) := by rw [hY0]; exact heap_old2 _ _ _
  have hr : Y0.heap[w.heap.size + 1]? = some (.cells #[.string ⟨#[]⟩, .slice none 0 0] 32 (0, 0)) := by rw [hY0]; exact heap_new2 w _ _ _ rfl
  have k1 := (h.later hA0).text hg (by have := Tm.text_le t hg; omega)
  obtain ⟨q0, q1, q2, q3, q4⟩ := pair_facts hq (After.refl _)
  have HQ := Lib.hid hq
  have HR := Lib.hid hr
  have HA0 := Lib.hid hA0
  have HST := Lib.hid (h.later hA0)
  obtain ⟨kT, hkT⟩ : ∃ z, z = Tm.kC.text := ⟨_, rfl⟩
  obtain ⟨sT, hsT⟩ : ∃ z, z = Tm.sC.text := ⟨_, rfl⟩
  rw [← hkT] at hk
  have HKT := Lib.hid hkT
  have HSTT := Lib.hid hsT
  clear hq hr hA0 h q2 q3 q4 hkT
  go_enter Try.func43, Try.ntmps43
  go_wp2_with fail
  rw [← hY0]
  clear hY0
  refine k1.mono ?_
  rintro e w1 ⟨rfl, hb1⟩
  obtain ⟨Y1, hY1⟩ : ∃ Y1, Y1 = (w1.alloc (.cells #[str [107], .slice none 0 0] 32)).alloc (.cells #[str [115], .slice none 0 0] 32) := ⟨_, rfl⟩
  have hA1 : After w1 Y1 := by rw [hY1]; exact (After.new _ _).alloc _
  have hgk : Y1.heap[w1.heap.size]? = some (.cells #[str [107], .slice none 0 0] 32 (0, 0)) := by rw [hY1]; exact heap_old2 _ _ _
  have hgs : Y1.heap[w1.heap.size + 1]? = some (.cells #[str [115], .slice none 0 0] 32 (0, 0)) := by rw [hY1]; exact heap_new2 w1 _ _ _ rfl
  have HGK := Lib.hid hgk
  have HGS := Lib.hid hgs
  have k2 := ST.code4 (t := .k) (w := Y1) (v := .agg #[str [107], .slice none 0 0]) rfl (fun _ => rfl)
  rw [show Tm.code .k = Tm.kC from rfl] at k2
  unfold TreePost at k2
  have HA1 := Lib.hid (hb1.trans hA1)
  clear k1 q0 q1 hgk hgs hA1 hb1
  go_wp2_with fail
  rw [← hY1]
  clear hY1
  refine k2.mono ?_
  rintro e w2 ⟨t2, ao2, n2, c2, rfl, hb2, ht2⟩
  have k3 := ht2.text (by decide +kernel) (by decide +kernel)
  rw [← HKT.out] at k3
  clear k2 ht2
  go_wp2_with fail
  refine k3.mono ?_
  rintro e w3 ⟨rfl, hb3⟩
  have HA3 := Lib.hid (hb2.trans hb3)
  clear k3 hb2 hb3
  rw [← hsT] at hs
  clear hsT
  have GS3 := HA3.out.heap HGS.out
  obtain ⟨i0, i1, i2, i3, i4⟩ := pair_facts GS3 (After.refl _)
  have k4 := ST.code4 (t := .s) (w := w3) (v := .agg #[str [115], .slice none 0 0]) rfl (fun _ => rfl)
  rw [show Tm.code .s = Tm.sC from rfl] at k4
  unfold TreePost at k4
  clear GS3 i2 i3 i4
  go_wp2_with fail
  refine k4.mono ?_
  rintro e w4 ⟨t4, ao4, n4, c4, rfl, hb4, ht4⟩
  have k5 := ht4.text (by decide +kernel) (by decide +kernel)
  rw [← HSTT.out] at k5
  clear k4 ht4 i0 i1
  go_wp2_with fail
  refine k5.mono ?_
  rintro e w5 ⟨rfl, hb5⟩
  have HA5 := Lib.hid ((HA1.out.trans HA3.out).trans (hb4.trans hb5))
  have G := HA5.out.heap HR.out
  obtain ⟨z0, z1, z2, z3, z4⟩ := pair_facts G (After.refl _)
  have GQ := HA5.out.heap HQ.out
  obtain ⟨j0, j1, _, _, _⟩ := pair_facts GQ (After.refl _)
  have GH := HA5.out.heap (HA0.out.heap hh)
  have m0 := cell_of_heap (i := 0) GH
  clear GH
  have HAW := Lib.hid (HA0.out.trans HA5.out)
  have HF := Lib.hid ((HST.out.later HA5.out).sets2 (i := 0) (j := 1) (u := str []) (u' := .slice (some ⟨g, 0, none⟩) 2 cx) G)
  clear k5 hb4 hb5
  go_wp2_with fail
  exact bodyPost_ret (v := .tuple #[.agg #[str [], .slice (some ⟨g, 0, none⟩) 2 cx], .bool false]) (by simp [results, Try.results43, go_sem, z0, z1]) rfl
    ⟨t, [], some ⟨g, 0, none⟩, 2, cx, rfl, after_sets2 HAW.out G (Nat.le_succ _) _ _, HF.out, fun u hu => by cases hu⟩

theorem back_3 (w : World) (t : Tm) (x : List UInt8) (ax : Option Addr) (nx cx : Nat) (h : ST w t (.agg #[str x, .slice ax nx cx])) (hg : t.good = true) (hz : t.size ≤ 3000) (hk : (t.text == Tm.kC.text) = false) (hs : (t.text == Tm.sC.text) = false) (g : Nat) (x1 : List UInt8) (p0 p1 : Value) (fr : Nat × Nat) (e1 : x = []) (e2 : ax = some ⟨g, 0, none⟩) (e3 : nx = 2) (hh : w.heap[g]? = some (.cells #[str [107], p0, str x1, p1] 32 fr)) (hx : x1.isEmpty = false) :
    Calls Try.prog 43 #[.agg #[str x, .slice ax nx cx]] w (SBackPost w none) := by
  subst e1 e2 e3
  obtain ⟨Y0, hY0⟩ : ∃ Y0, Y0 = (w.alloc (.cells #[str [], .slice (some ⟨g, 0, none⟩) 2 cx] 32)).alloc (.cells #[.string ⟨#[]⟩, .slice none 0 0] 32) := ⟨_, rfl⟩
  have hA0 : After w Y0 := by rw [hY0]; exact (After.new _ _).alloc _
  have hq : Y0.heap[w.heap.size]? = some (.cells #[str [], .slice (some ⟨g, 0, none⟩) 2 cx] 32 (0, 0)) := by rw [hY0]; exact heap_old2 _ _ _
  have hr : Y0.heap[w.heap.size + 1]? = some (.cells #[.string ⟨#[]⟩, .slice none 0 0] 32 (0, 0)) := by rw [hY0]; exact heap_new2 w _ _ _ rfl
  have k1 := (h.later hA0).text hg (by have := Tm.text_le t hg; omega)
  obtain ⟨q0, q1, q2, q3, q4⟩ := pair_facts hq (After.refl _)
  have HQ := Lib.hid hq
  have HR := Lib.hid hr
  have HA0 := Lib.hid hA0
  have HST := Lib.hid (h.later hA0)
  obtain ⟨kT, hkT⟩ : ∃ z, z = Tm.kC.text := ⟨_, rfl⟩
  obtain ⟨sT, hsT⟩ : ∃ z, z = Tm.sC.text := ⟨_, rfl⟩
  rw [← hkT] at hk
  have HKT := Lib.hid hkT
  have HSTT := Lib.hid hsT
  clear hq hr hA0 h q2 q3 q4 hkT
  go_enter Try.func43, Try.ntmps43
  go_wp2_with fail
  rw [← hY0]
  clear hY0
  refine k1.mono ?_
  rintro e w1 ⟨rfl, hb1⟩
  obtain ⟨Y1, hY1⟩ : ∃ Y1, Y1 = (w1.alloc (.cells #[str [107], .slice none 0 0] 32)).alloc (.cells #[str [115], .slice none 0 0] 32) := ⟨_, rfl⟩
  have hA1 : After w1 Y1 := by rw [hY1]; exact (After.new _ _).alloc _
  have hgk : Y1.heap[w1.heap.size]? = some (.cells #[str [107], .slice none 0 0] 32 (0, 0)) := by rw [hY1]; exact heap_old2 _ _ _
  have hgs : Y1.heap[w1.heap.size + 1]? = some (.cells #[str [115], .slice none 0 0] 32 (0, 0)) := by rw [hY1]; exact heap_new2 w1 _ _ _ rfl
  have HGK := Lib.hid hgk
  have HGS := Lib.hid hgs
  have k2 := ST.code4 (t := .k) (w := Y1) (v := .agg #[str [107], .slice none 0 0]) rfl (fun _ => rfl)
  rw [show Tm.code .k = Tm.kC from rfl] at k2
  unfold TreePost at k2
  have HA1 := Lib.hid (hb1.trans hA1)
  clear k1 q0 q1 hgk hgs hA1 hb1
  go_wp2_with fail
  rw [← hY1]
  clear hY1
  refine k2.mono ?_
  rintro e w2 ⟨t2, ao2, n2, c2, rfl, hb2, ht2⟩
  have k3 := ht2.text (by decide +kernel) (by decide +kernel)
  rw [← HKT.out] at k3
  clear k2 ht2
  go_wp2_with fail
  refine k3.mono ?_
  rintro e w3 ⟨rfl, hb3⟩
  have HA3 := Lib.hid (hb2.trans hb3)
  clear k3 hb2 hb3
  rw [← hsT] at hs
  clear hsT
  have GS3 := HA3.out.heap HGS.out
  obtain ⟨i0, i1, i2, i3, i4⟩ := pair_facts GS3 (After.refl _)
  have k4 := ST.code4 (t := .s) (w := w3) (v := .agg #[str [115], .slice none 0 0]) rfl (fun _ => rfl)
  rw [show Tm.code .s = Tm.sC from rfl] at k4
  unfold TreePost at k4
  clear GS3 i2 i3 i4
  go_wp2_with fail
  refine k4.mono ?_
  rintro e w4 ⟨t4, ao4, n4, c4, rfl, hb4, ht4⟩
  have k5 := ht4.text (by decide +kernel) (by decide +kernel)
  rw [← HSTT.out] at k5
  clear k4 ht4 i0 i1
  go_wp2_with fail
  refine k5.mono ?_
  rintro e w5 ⟨rfl, hb5⟩
  have HA5 := Lib.hid ((HA1.out.trans HA3.out).trans (hb4.trans hb5))
  have G := HA5.out.heap HR.out
  obtain ⟨z0, z1, z2, z3, z4⟩ := pair_facts G (After.refl _)
  have GQ := HA5.out.heap HQ.out
  obtain ⟨j0, j1, _, _, _⟩ := pair_facts GQ (After.refl _)
  have GH := HA5.out.heap (HA0.out.heap hh)
  have m0 := cell_of_heap (i := 0) GH
  have m2 := cell_of_heap (i := 2) GH
  clear GH
  have HAW := Lib.hid (HA0.out.trans HA5.out)
  have HF := Lib.hid ((HST.out.later HA5.out).sets2 (i := 0) (j := 1) (u := str []) (u' := .slice (some ⟨g, 0, none⟩) 2 cx) G)
  clear k5 hb4 hb5
  go_wp2_with fail
  exact bodyPost_ret (v := .tuple #[.agg #[str [], .slice (some ⟨g, 0, none⟩) 2 cx], .bool false]) (by simp [results, Try.results43, go_sem, z0, z1]) rfl
    ⟨t, [], some ⟨g, 0, none⟩, 2, cx, rfl, after_sets2 HAW.out G (Nat.le_succ _) _ _, HF.out, fun u hu => by cases hu⟩

theorem back_4 (w : World) (t : Tm) (x : List UInt8) (ax : Option Addr) (nx cx : Nat) (h : ST w t (.agg #[str x, .slice ax nx cx])) (hg : t.good = true) (hz : t.size ≤ 3000) (hk : (t.text == Tm.kC.text) = false) (hs : (t.text == Tm.sC.text) = false) (g g2 cap2 : Nat) (x2 : List UInt8) (p0 p2 s3 p3 : Value) (fr fr2 : Nat × Nat) (e1 : x = []) (e2 : ax = some ⟨g, 0, none⟩) (e3 : nx = 2) (hh : w.heap[g]? = some (.cells #[str [107], p0, str [], .slice (some ⟨g2, 0, none⟩) 2 cap2] 32 fr)) (hh2 : w.heap[g2]? = some (.cells #[str x2, p2, s3, p3] 32 fr2)) (hx : (x2 == [107]) = false) :
    Calls Try.prog 43 #[.agg #[str x, .slice ax nx cx]] w (SBackPost w none) := by
  subst e1 e2 e3
  obtain ⟨Y0, hY0⟩ : ∃ Y0, Y0 = (w.alloc (.cells #[str [], .slice (some ⟨g, 0, none⟩) 2 cx] 32)).alloc (.cells #[.string ⟨#[]⟩, .slice none 0 0] 32) := ⟨_, rfl⟩
  have hA0 : After w Y0 := by rw [hY0]; exact (After.new _ _).alloc _
  have hq : Y0.heap[w.heap.size]? = some (.cells #[str [], .slice (some ⟨g, 0, none⟩) 2 cx] 32 (0, 0)) := by rw [hY0]; exact heap_old2 _ _ _
  have hr : Y0.heap[w.heap.size + 1]? = some (.cells #[.string ⟨#[]⟩, .slice none 0 0] 32 (0, 0)) := by rw [hY0]; exact heap_new2 w _ _ _ rfl
  have k1 := (h.later hA0).text hg (by have := Tm.text_le t hg; omega)
  obtain ⟨q0, q1, q2, q3, q4⟩ := pair_facts hq (After.refl _)
  have HQ := Lib.hid hq
  have HR := Lib.hid hr
  have HA0 := Lib.hid hA0
  have HST := Lib.hid (h.later hA0)
  obtain ⟨kT, hkT⟩ : ∃ z, z = Tm.kC.text := ⟨_, rfl⟩
  obtain ⟨sT, hsT⟩ : ∃ z, z = Tm.sC.text := ⟨_, rfl⟩
  rw [← hkT] at hk
  have HKT := Lib.hid hkT
  have HSTT := Lib.hid hsT
  clear hq hr hA0 h q2 q3 q4 hkT
  go_enter Try.func43, Try.ntmps43
  go_wp2_with fail
  rw [← hY0]
  clear hY0
  refine k1.mono ?_
  rintro e w1 ⟨rfl, hb1⟩
  obtain ⟨Y1, hY1⟩ : ∃ Y1, Y1 = (w1.alloc (.cells #[str [107], .slice none 0 0] 32)).alloc (.cells #[str [115], .slice none 0 0] 32) := ⟨_, rfl⟩
  have hA1 : After w1 Y1 := by rw [hY1]; exact (After.new _ _).alloc _
  have hgk : Y1.heap[w1.heap.size]? = some (.cells #[str [107], .slice none 0 0] 32 (0, 0)) := by rw [hY1]; exact heap_old2 _ _ _
  have hgs : Y1.heap[w1.heap.size + 1]? = some (.cells #[str [115], .slice none 0 0] 32 (0, 0)) := by rw [hY1]; exact heap_new2 w1 _ _ _ rfl
  have HGK := Lib.hid hgk
  have HGS := Lib.hid hgs
  have k2 := ST.code4 (t := .k) (w := Y1) (v := .agg #[str [107], .slice none 0 0]) rfl (fun _ => rfl)
  rw [show Tm.code .k = Tm.kC from rfl] at k2
  unfold TreePost at k2
  have HA1 := Lib.hid (hb1.trans hA1)
  clear k1 q0 q1 hgk hgs hA1 hb1
  go_wp2_with fail
  rw [← hY1]
  clear hY1
  refine k2.mono ?_
  rintro e w2 ⟨t2, ao2, n2, c2, rfl, hb2, ht2⟩
  have k3 := ht2.text (by decide +kernel) (by decide +kernel)
  rw [← HKT.out] at k3
  clear k2 ht2
  go_wp2_with fail
  refine k3.mono ?_
  rintro e w3 ⟨rfl, hb3⟩
  have HA3 := Lib.hid (hb2.trans hb3)
  clear k3 hb2 hb3
  rw [← hsT] at hs
  clear hsT
  have GS3 := HA3.out.heap HGS.out
  obtain ⟨i0, i1, i2, i3, i4⟩ := pair_facts GS3 (After.refl _)
  have k4 := ST.code4 (t := .s) (w := w3) (v := .agg #[str [115], .slice none 0 0]) rfl (fun _ => rfl)
  rw [show Tm.code .s = Tm.sC from rfl] at k4
  unfold TreePost at k4
  clear GS3 i2 i3 i4
  go_wp2_with fail
  refine k4.mono ?_
  rintro e w4 ⟨t4, ao4, n4, c4, rfl, hb4, ht4⟩
  have k5 := ht4.text (by decide +kernel) (by decide +kernel)
  rw [← HSTT.out] at k5
  clear k4 ht4 i0 i1
  go_wp2_with fail
  refine k5.mono ?_
  rintro e w5 ⟨rfl, hb5⟩
  have HA5 := Lib.hid ((HA1.out.trans HA3.out).trans (hb4.trans hb5))
  have G := HA5.out.heap HR.out
  obtain ⟨z0, z1, z2, z3, z4⟩ := pair_facts G (After.refl _)
  have GQ := HA5.out.heap HQ.out
  obtain ⟨j0, j1, _, _, _⟩ := pair_facts GQ (After.refl _)
  have GH := HA5.out.heap (HA0.out.heap hh)
  have m0 := cell_of_heap (i := 0) GH
  have m2 := cell_of_heap (i := 2) GH
  have m3 := cell_of_heap (i := 3) GH
  have GH2 := HA5.out.heap (HA0.out.heap hh2)
  have l0 := cell_of_heap (i := 0) GH2
  clear GH GH2
  have HAW := Lib.hid (HA0.out.trans HA5.out)
  have HF := Lib.hid ((HST.out.later HA5.out).sets2 (i := 0) (j := 1) (u := str []) (u' := .slice (some ⟨g, 0, none⟩) 2 cx) G)
  clear k5 hb4 hb5
  go_wp2_with fail
  exact bodyPost_ret (v := .tuple #[.agg #[str [], .slice (some ⟨g, 0, none⟩) 2 cx], .bool false]) (by simp [results, Try.results43, go_sem, z0, z1]) rfl
    ⟨t, [], some ⟨g, 0, none⟩, 2, cx, rfl, after_sets2 HAW.out G (Nat.le_succ _) _ _, HF.out, fun u hu => by cases hu⟩

end Go.Proofs.Ytkmfnnmbhmjfgaa

namespace Go.Proofs.Ytkmfnnmbhmjfgaa
open Go.RowKit

set_option maxHeartbeats 4000000
set_option maxRecDepth 100000

theorem back_5 (w : World) (t : Tm) (x : List UInt8) (ax : Option Addr) (nx cx : Nat) (h : ST w t (.agg #[str x, .slice ax nx cx])) (hg : t.good = true) (hz : t.size ≤ 3000) (hk : (t.text == Tm.kC.text) = false) (hs : (t.text == Tm.sC.text) = false) (g g2 cap2 : Nat) (p0 p2 s3 p3 : Value) (fr fr2 : Nat × Nat) (pp : Tm) (e1 : x = []) (e2 : ax = some ⟨g, 0, none⟩) (e3 : nx = 2) (hh : w.heap[g]? = some (.cells #[str [107], p0, str [], .slice (some ⟨g2, 0, none⟩) 2 cap2] 32 fr)) (hh2 : w.heap[g2]? = some (.cells #[str [107], p2, s3, p3] 32 fr2)) (hp : ST w pp (.agg #[s3, p3])) (hpg : pp.good = true) (hpz : pp.size ≤ 3000) (hpn : pp.parts = none) :
    Calls Try.prog 43 #[.agg #[str x, .slice ax nx cx]] w (SBackPost w none) := by
  subst e1 e2 e3
  obtain ⟨Y0, hY0⟩ : ∃ Y0, Y0 = (w.alloc (.cells #[str [], .slice (some ⟨g, 0, none⟩) 2 cx] 32)).alloc (.cells #[.string ⟨#[]⟩, .slice none 0 0] 32) := ⟨_, rfl⟩
  have hA0 : After w Y0 := by rw [hY0]; exact (After.new _ _).alloc _
  have hq : Y0.heap[w.heap.size]? = some (.cells #[str [], .slice (some ⟨g, 0, none⟩) 2 cx] 32 (0, 0)) := by rw [hY0]; exact heap_old2 _ _ _
  have hr : Y0.heap[w.heap.size + 1]? = some (.cells #[.string ⟨#[]⟩, .slice none 0 0] 32 (0, 0)) := by rw [hY0]; exact heap_new2 w _ _ _ rfl
  have k1 := (h.later hA0).text hg (by have := Tm.text_le t hg; omega)
  obtain ⟨q0, q1, q2, q3, q4⟩ := pair_facts hq (After.refl _)
  have HQ := Lib.hid hq
  have HR := Lib.hid hr
  have HA0 := Lib.hid hA0
  have HST := Lib.hid (h.later hA0)
  obtain ⟨kT, hkT⟩ : ∃ z, z = Tm.kC.text := ⟨_, rfl⟩
  obtain ⟨sT, hsT⟩ : ∃ z, z = Tm.sC.text := ⟨_, rfl⟩
  rw [← hkT] at hk
  have HKT := Lib.hid hkT
  have HSTT := Lib.hid hsT
  clear hq hr hA0 h q2 q3 q4 hkT
  go_enter Try.func43, Try.ntmps43
  go_wp2_with fail
  rw [← hY0]
  clear hY0
  refine k1.mono ?_
  rintro e w1 ⟨rfl, hb1⟩
  obtain ⟨Y1, hY1⟩ : ∃ Y1, Y1 = (w1.alloc (.cells #[str [107], .slice none 0 0] 32)).alloc (.cells #[str [115], .slice none 0 0] 32) := ⟨_, rfl⟩
  have hA1 : After w1 Y1 := by rw [hY1]; exact (After.new _ _).alloc _
  have hgk : Y1.heap[w1.heap.size]? = some (.cells #[str [107], .slice none 0 0] 32 (0, 0)) := by rw [hY1]; exact heap_old2 _ _ _
  have hgs : Y1.heap[w1.heap.size + 1]? = some (.cells #[str [115], .slice none 0 0] 32 (0, 0)) := by rw [hY1]; exact heap_new2 w1 _ _ _ rfl
  have HGK := Lib.hid hgk
  have HGS := Lib.hid hgs
  have k2 := ST.code4 (t := .k) (w := Y1) (v := .agg #[str [107], .slice none 0 0]) rfl (fun _ => rfl)
  rw [show Tm.code .k = Tm.kC from rfl] at k2
  unfold TreePost at k2
  have HA1 := Lib.hid (hb1.trans hA1)
  clear k1 q0 q1 hgk hgs hA1 hb1
  go_wp2_with fail
  rw [← hY1]
  clear hY1
  refine k2.mono ?_
  rintro e w2 ⟨t2, ao2, n2, c2, rfl, hb2, ht2⟩
  have k3 := ht2.text (by decide +kernel) (by decide +kernel)
  rw [← HKT.out] at k3
  clear k2 ht2
  go_wp2_with fail
  refine k3.mono ?_
  rintro e w3 ⟨rfl, hb3⟩
  have HA3 := Lib.hid (hb2.trans hb3)
  clear k3 hb2 hb3
  rw [← hsT] at hs
  clear hsT
  have GS3 := HA3.out.heap HGS.out
  obtain ⟨i0, i1, i2, i3, i4⟩ := pair_facts GS3 (After.refl _)
  have k4 := ST.code4 (t := .s) (w := w3) (v := .agg #[str [115], .slice none 0 0]) rfl (fun _ => rfl)
  rw [show Tm.code .s = Tm.sC from rfl] at k4
  unfold TreePost at k4
  clear GS3 i2 i3 i4
  go_wp2_with fail
  refine k4.mono ?_
  rintro e w4 ⟨t4, ao4, n4, c4, rfl, hb4, ht4⟩
  have k5 := ht4.text (by decide +kernel) (by decide +kernel)
  rw [← HSTT.out] at k5
  clear k4 ht4 i0 i1
  go_wp2_with fail
  refine k5.mono ?_
  rintro e w5 ⟨rfl, hb5⟩
  have HA5 := Lib.hid ((HA1.out.trans HA3.out).trans (hb4.trans hb5))
  have G := HA5.out.heap HR.out
  obtain ⟨z0, z1, z2, z3, z4⟩ := pair_facts G (After.refl _)
  have GQ := HA5.out.heap HQ.out
  obtain ⟨j0, j1, j2, j3, j4⟩ := pair_facts GQ (After.refl _)
  have GH := HA5.out.heap (HA0.out.heap hh)
  have m0 := cell_of_heap (i := 0) GH
  have m2 := cell_of_heap (i := 2) GH
  have m3 := cell_of_heap (i := 3) GH
  have GH2 := HA5.out.heap (HA0.out.heap hh2)
  have l0 := cell_of_heap (i := 0) GH2
  have l2 := cell_of_heap (i := 2) GH2
  have l3 := cell_of_heap (i := 3) GH2
  have kp := s_parts w5 pp _ ((hp.later HA0.out).later HA5.out) hpg hpz
  unfold SPartsPost at kp
  rw [hpn] at kp
  clear hpn
  clear GH GH2 k5 j2 j3 j4 hp
  go_wp2_with fail
  refine kp.mono ?_
  rintro e w6 ⟨sc, ac, nc, cc, sd, ad, nd, cd, rfl, hb6, hr6⟩
  have HA6 := Lib.hid (HA5.out.trans hb6)
  have a7 := (After.new w6 (.cells #[str sc, .slice ac nc cc] 32)).alloc (.cells #[str sd, .slice ad nd cd] 32)
  have AZ := HA6.out.trans a7
  have G' := AZ.heap HR.out
  obtain ⟨y0, y1, y2, y3, y4⟩ := pair_facts G' (After.refl _)
  have GQ' := AZ.heap HQ.out
  obtain ⟨j5, j6, j7, j8, j9⟩ := pair_facts GQ' (After.refl _)
  have HAW := Lib.hid (HA0.out.trans AZ)
  have HF := Lib.hid ((HST.out.later AZ).sets2 (i := 0) (j := 1) (u := str []) (u' := .slice (some ⟨g, 0, none⟩) 2 cx) G')
  clear kp hr6 hb4 hb5 hb6 AZ a7 z0 z1 z2 z3 z4 j0 j1
  go_wp2_with fail
  exact bodyPost_ret (v := .tuple #[.agg #[str [], .slice (some ⟨g, 0, none⟩) 2 cx], .bool false]) (by simp [results, Try.results43, go_sem, y0, y1]) rfl
    ⟨t, [], some ⟨g, 0, none⟩, 2, cx, rfl, after_sets2 HAW.out G' (Nat.le_succ _) _ _, HF.out, fun u hu => by cases hu⟩

theorem back_6 (w : World) (t : Tm) (x : List UInt8) (ax : Option Addr) (nx cx : Nat) (h : ST w t (.agg #[str x, .slice ax nx cx])) (hg : t.good = true) (hz : t.size ≤ 3000) (hk : (t.text == Tm.kC.text) = false) (hs : (t.text == Tm.sC.text) = false) (g g2 cap2 : Nat) (p0 p2 s3 p3 : Value) (fr fr2 : Nat × Nat) (pp : Tm) (e1 : x = []) (e2 : ax = some ⟨g, 0, none⟩) (e3 : nx = 2) (hh : w.heap[g]? = some (.cells #[str [107], p0, str [], .slice (some ⟨g2, 0, none⟩) 2 cap2] 32 fr)) (hh2 : w.heap[g2]? = some (.cells #[str [107], p2, s3, p3] 32 fr2)) (hp : ST w pp (.agg #[s3, p3])) (hpg : pp.good = true) (hpz : pp.size ≤ 3000) (mm mn : Tm) (hpn : pp.parts = some (mm, mn)) (uc : Tm) (rd : Option Tm)
    (ihc : ∀ {W : World} {v : Value}, ST W mm v → Calls Try.prog 43 #[v] W (SBackPost W (some uc))) (ihd : ∀ {W : World} {v : Value}, ST W mn v → Calls Try.prog 43 #[v] W (SBackPost W rd)) :
    Calls Try.prog 43 #[.agg #[str x, .slice ax nx cx]] w (SBackPost w (rd.bind fun y => some (.app uc y))) := by
  subst e1 e2 e3
  obtain ⟨Y0, hY0⟩ : ∃ Y0, Y0 = (w.alloc (.cells #[str [], .slice (some ⟨g, 0, none⟩) 2 cx] 32)).alloc (.cells #[.string ⟨#[]⟩, .slice none 0 0] 32) := ⟨_, rfl⟩
  have hA0 : After w Y0 := by rw [hY0]; exact (After.new _ _).alloc _
  have hq : Y0.heap[w.heap.size]? = some (.cells #[str [], .slice (some ⟨g, 0, none⟩) 2 cx] 32 (0, 0)) := by rw [hY0]; exact heap_old2 _ _ _
  have hr : Y0.heap[w.heap.size + 1]? = some (.cells #[.string ⟨#[]⟩, .slice none 0 0] 32 (0, 0)) := by rw [hY0]; exact heap_new2 w _ _ _ rfl
  have k1 := (h.later hA0).text hg (by have := Tm.text_le t hg; omega)
  obtain ⟨q0, q1, q2, q3, q4⟩ := pair_facts hq (After.refl _)
  have HQ := Lib.hid hq
  have HR := Lib.hid hr
  have HA0 := Lib.hid hA0
  have HST := Lib.hid (h.later hA0)
  obtain ⟨kT, hkT⟩ : ∃ z, z = Tm.kC.text := ⟨_, rfl⟩
  obtain ⟨sT, hsT⟩ : ∃ z, z = Tm.sC.text := ⟨_, rfl⟩
  rw [← hkT] at hk
  have HKT := Lib.hid hkT
  have HSTT := Lib.hid hsT
  clear hq hr hA0 h q2 q3 q4 hkT
  go_enter Try.func43, Try.ntmps43
  go_wp2_with fail
  rw [← hY0]
  clear hY0
  refine k1.mono ?_
  rintro e w1 ⟨rfl, hb1⟩
  obtain ⟨Y1, hY1⟩ : ∃ Y1, Y1 = (w1.alloc (.cells #[str [107], .slice none 0 0] 32)).alloc (.cells #[str [115], .slice none 0 0] 32) := ⟨_, rfl⟩
  have hA1 : After w1 Y1 := by rw [hY1]; exact (After.new _ _).alloc _
  have hgk : Y1.heap[w1.heap.size]? = some (.cells #[str [107], .slice none 0 0] 32 (0, 0)) := by rw [hY1]; exact heap_old2 _ _ _
  have hgs : Y1.heap[w1.heap.size + 1]? = some (.cells #[str [115], .slice none 0 0] 32 (0, 0)) := by rw [hY1]; exact heap_new2 w1 _ _ _ rfl
  have HGK := Lib.hid hgk
  have HGS := Lib.hid hgs
  have k2 := ST.code4 (t := .k) (w := Y1) (v := .agg #[str [107], .slice none 0 0]) rfl (fun _ => rfl)
  rw [show Tm.code .k = Tm.kC from rfl] at k2
  unfold TreePost at k2
  have HA1 := Lib.hid (hb1.trans hA1)
  clear k1 q0 q1 hgk hgs hA1 hb1
  go_wp2_with fail
  rw [← hY1]
  clear hY1
  refine k2.mono ?_
  rintro e w2 ⟨t2, ao2, n2, c2, rfl, hb2, ht2⟩
  have k3 := ht2.text (by decide +kernel) (by decide +kernel)
  rw [← HKT.out] at k3
  clear k2 ht2
  go_wp2_with fail
  refine k3.mono ?_
  rintro e w3 ⟨rfl, hb3⟩
  have HA3 := Lib.hid (hb2.trans hb3)
  clear k3 hb2 hb3
  rw [← hsT] at hs
  clear hsT
  have GS3 := HA3.out.heap HGS.out
  obtain ⟨i0, i1, i2, i3, i4⟩ := pair_facts GS3 (After.refl _)
  have k4 := ST.code4 (t := .s) (w := w3) (v := .agg #[str [115], .slice none 0 0]) rfl (fun _ => rfl)
  rw [show Tm.code .s = Tm.sC from rfl] at k4
  unfold TreePost at k4
  clear GS3 i2 i3 i4
  go_wp2_with fail
  refine k4.mono ?_
  rintro e w4 ⟨t4, ao4, n4, c4, rfl, hb4, ht4⟩
  have k5 := ht4.text (by decide +kernel) (by decide +kernel)
  rw [← HSTT.out] at k5
  clear k4 ht4 i0 i1
  go_wp2_with fail
  refine k5.mono ?_
  rintro e w5 ⟨rfl, hb5⟩
  have HA5 := Lib.hid ((HA1.out.trans HA3.out).trans (hb4.trans hb5))
  have G := HA5.out.heap HR.out
  obtain ⟨z0, z1, z2, z3, z4⟩ := pair_facts G (After.refl _)
  have GQ := HA5.out.heap HQ.out
  obtain ⟨j0, j1, j2, j3, j4⟩ := pair_facts GQ (After.refl _)
  have GH := HA5.out.heap (HA0.out.heap hh)
  have m0 := cell_of_heap (i := 0) GH
  have m2 := cell_of_heap (i := 2) GH
  have m3 := cell_of_heap (i := 3) GH
  have GH2 := HA5.out.heap (HA0.out.heap hh2)
  have l0 := cell_of_heap (i := 0) GH2
  have l2 := cell_of_heap (i := 2) GH2
  have l3 := cell_of_heap (i := 3) GH2
  have kp := s_parts w5 pp _ ((hp.later HA0.out).later HA5.out) hpg hpz
  unfold SPartsPost at kp
  rw [hpn] at kp
  clear hpn
  clear GH GH2 k5 j2 j3 j4 hp
  go_wp2_with fail
  refine kp.mono ?_
  rintro e w6 ⟨sc, ac, nc, cc, sd, ad, nd, cd, rfl, hb6, hr6⟩
  have HA6 := Lib.hid (HA5.out.trans hb6)
  have ST1 := (hr6 mm mn rfl).1
  have ST2 := (hr6 mm mn rfl).2
  have a7 := (After.new w6 (.cells #[str sc, .slice ac nc cc] 32)).alloc (.cells #[str sd, .slice ad nd cd] 32)
  obtain ⟨Y7, hY7⟩ : ∃ Y7, Y7 = (w6.alloc (.cells #[str sc, .slice ac nc cc] 32)).alloc (.cells #[str sd, .slice ad nd cd] 32) := ⟨_, rfl⟩
  have gc : Y7.heap[w6.heap.size]? = some (.cells #[str sc, .slice ac nc cc] 32 (0, 0)) := by rw [hY7]; exact heap_old2 _ _ _
  have gd : Y7.heap[w6.heap.size + 1]? = some (.cells #[str sd, .slice ad nd cd] 32 (0, 0)) := by rw [hY7]; exact heap_new2 w6 _ _ _ rfl
  rw [← hY7] at a7
  obtain ⟨y0, y1, y2, y3, y4⟩ := pair_facts gc (After.refl _)
  have kc := ihc (ST1.later a7)
  have HT2 := Lib.hid (ST2.later a7)
  have HGD := Lib.hid gd
  have HA7 := Lib.hid (HA6.out.trans a7)
  unfold SBackPost at kc
  clear kp hr6 hb4 hb5 hb6 a7 z0 z1 z2 z3 z4 j0 j1 gc gd ST1 ST2 y2 y3 y4 G GQ m0 m2 m3 l0 l2 l3 ihc
  go_wp2_with fail
  rw [← hY7]
  clear hY7
  refine kc.mono ?_
  rintro e w8 ⟨xc, s8, a8, n8, c8, rfl, hb8, st8, hx8⟩
  have al8 := After.new w8 (.cells #[str s8, .slice a8 n8 c8] 32)
  have gx := heap_new' w8 (.cells #[str s8, .slice a8 n8 c8] 32)
  have GD8 := (hb8.trans al8).heap HGD.out
  obtain ⟨u0, u1, u2, u3, u4⟩ := pair_facts GD8 (After.refl _)
  have kd := ihd (HT2.out.later (hb8.trans al8))
  have HX8 := Lib.hid (st8.later al8)
  have HGX := Lib.hid gx
  have HA8 := Lib.hid (HA7.out.trans (hb8.trans al8))
  have HEC := Lib.hid hx8
  unfold SBackPost at kd
  clear kc y0 y1 st8 gx GD8 u2 u3 u4 hb8 al8 hx8 ihd
  go_wp2_with fail
  refine kd.mono ?_
  rintro e w9 ⟨xd, s9, a9, n9, c9, rfl, hb9, st9, hx9⟩
  have al9 := After.new w9 (.cells #[str s9, .slice a9 n9 c9] 32)
  have gy := heap_new' w9 (.cells #[str s9, .slice a9 n9 c9] 32)
  have gx9 := (hb9.trans al9).heap HGX.out
  have SX9 := Lib.hid (HX8.out.later (hb9.trans al9))
  have SY9 := Lib.hid (st9.later al9)
  have AY9 := Lib.hid (HA8.out.trans (hb9.trans al9))
  have HED := Lib.hid hx9
  obtain ⟨f0, f1, f2, f3, f4⟩ := pair_facts gx9 (After.refl _)
  obtain ⟨f5, f6, f7, f8, f9⟩ := pair_facts gy (After.refl _)
  obtain ⟨Y, hY⟩ : ∃ Y, Y = w9.alloc (.cells #[str s9, .slice a9 n9 c9] 32) := ⟨_, rfl⟩
  rw [← hY] at f0 f1 f5 f6 SX9 SY9 AY9
  have szY : Y.heap.size = w9.heap.size + 1 := by rw [hY]; simp
  have ka := s_app (Y.alloc (.cells #[str s9, .slice a9 n9 c9] 32)) xc xd s8 s9 a8 a9 n8 c8 n9 c9 Y.heap.size (0, 0) (SX9.out.later (After.new _ _)) (SY9.out.later (After.new _ _)) (heap_new' _ _)
  unfold TreePost at ka
  rw [szY] at ka
  rw [hY] at ka f0 f1 f5 f6
  have HA10 := Lib.hid (AY9.out.trans (After.new Y (.cells #[str s9, .slice a9 n9 c9] 32)))
  rw [hY] at HA10
  clear kd u0 u1 st9 hx9 f2 f3 f4 f7 f8 f9 gx9 gy hb9 al9
  go_wp2_with fail
  refine ka.mono ?_
  rintro e w10 ⟨t10, a10, n10, c10, rfl, hb10, ht10⟩
  have AZ := HA10.out.trans hb10
  have G := AZ.heap HR.out
  obtain ⟨z0, z1, z2, z3, z4⟩ := pair_facts G (After.refl _)
  have HAW := Lib.hid (HA0.out.trans AZ)
  have HF := Lib.hid (ht10.sets2 (i := 0) (j := 1) (u := str t10) (u' := .slice a10 n10 c10) G)
  clear ka f0 f1 f5 f6 AZ
  go_wp2_with fail
  exact bodyPost_ret (v := .tuple #[.agg #[str t10, .slice a10 n10 c10], .bool rd.isSome]) (by simp [results, Try.results43, go_sem, z0, z1]) rfl
    ⟨.app xc xd, t10, a10, n10, c10, (by cases rd <;> rfl), after_sets2 HAW.out G (Nat.le_succ _) _ _, HF.out, (fun u hu => by cases rd with | none => cases hu | some ud => (obtain rfl := Option.some.inj hu; rw [HEC.out _ rfl, HED.out _ rfl]))⟩

theorem back_7 (w : World) (t : Tm) (x : List UInt8) (ax : Option Addr) (nx cx : Nat) (h : ST w t (.agg #[str x, .slice ax nx cx])) (hg : t.good = true) (hz : t.size ≤ 3000) (hk : (t.text == Tm.kC.text) = false) (hs : (t.text == Tm.sC.text) = false) (g g2 cap2 : Nat) (p0 p2 s3 p3 : Value) (fr fr2 : Nat × Nat) (pp : Tm) (e1 : x = []) (e2 : ax = some ⟨g, 0, none⟩) (e3 : nx = 2) (hh : w.heap[g]? = some (.cells #[str [107], p0, str [], .slice (some ⟨g2, 0, none⟩) 2 cap2] 32 fr)) (hh2 : w.heap[g2]? = some (.cells #[str [107], p2, s3, p3] 32 fr2)) (hp : ST w pp (.agg #[s3, p3])) (hpg : pp.good = true) (hpz : pp.size ≤ 3000) (mm mn : Tm) (hpn : pp.parts = some (mm, mn)) (rd : Option Tm)
    (ihc : ∀ {W : World} {v : Value}, ST W mm v → Calls Try.prog 43 #[v] W (SBackPost W none)) (ihd : ∀ {W : World} {v : Value}, ST W mn v → Calls Try.prog 43 #[v] W (SBackPost W rd)) :
    Calls Try.prog 43 #[.agg #[str x, .slice ax nx cx]] w (SBackPost w none) := by
  subst e1 e2 e3
  obtain ⟨Y0, hY0⟩ : ∃ Y0, Y0 = (w.alloc (.cells #[str [], .slice (some ⟨g, 0, none⟩) 2 cx] 32)).alloc (.cells #[.string ⟨#[]⟩, .slice none 0 0] 32) := ⟨_, rfl⟩
  have hA0 : After w Y0 := by rw [hY0]; exact (After.new _ _).alloc _
  have hq : Y0.heap[w.heap.size]? = some (.cells #[str [], .slice (some ⟨g, 0, none⟩) 2 cx] 32 (0, 0)) := by rw [hY0]; exact heap_old2 _ _ _
  have hr : Y0.heap[w.heap.size + 1]? = some (.cells #[.string ⟨#[]⟩, .slice none 0 0] 32 (0, 0)) := by rw [hY0]; exact heap_new2 w _ _ _ rfl
  have k1 := (h.later hA0).text hg (by have := Tm.text_le t hg; omega)
  obtain ⟨q0, q1, q2, q3, q4⟩ := pair_facts hq (After.refl _)
  have HQ := Lib.hid hq
  have HR := Lib.hid hr
  have HA0 := Lib.hid hA0
  have HST := Lib.hid (h.later hA0)
  obtain ⟨kT, hkT⟩ : ∃ z, z = Tm.kC.text := ⟨_, rfl⟩
  obtain ⟨sT, hsT⟩ : ∃ z, z = Tm.sC.text := ⟨_, rfl⟩
  rw [← hkT] at hk
  have HKT := Lib.hid hkT
  have HSTT := Lib.hid hsT
  clear hq hr hA0 h q2 q3 q4 hkT
  go_enter Try.func43, Try.ntmps43
  go_wp2_with fail
  rw [← hY0]
  clear hY0
  refine k1.mono ?_
  rintro e w1 ⟨rfl, hb1⟩
  obtain ⟨Y1, hY1⟩ : ∃ Y1, Y1 = (w1.alloc (.cells #[str [107], .slice none 0 0] 32)).alloc (.cells #[str [115], .slice none 0 0] 32) := ⟨_, rfl⟩
  have hA1 : After w1 Y1 := by rw [hY1]; exact (After.new _ _).alloc _
  have hgk : Y1.heap[w1.heap.size]? = some (.cells #[str [107], .slice none 0 0] 32 (0, 0)) := by rw [hY1]; exact heap_old2 _ _ _
  have hgs : Y1.heap[w1.heap.size + 1]? = some (.cells #[str [115], .slice none 0 0] 32 (0, 0)) := by rw [hY1]; exact heap_new2 w1 _ _ _ rfl
  have HGK := Lib.hid hgk
  have HGS := Lib.hid hgs
  have k2 := ST.code4 (t := .k) (w := Y1) (v := .agg #[str [107], .slice none 0 0]) rfl (fun _ => rfl)
  rw [show Tm.code .k = Tm.kC from rfl] at k2
  unfold TreePost at k2
  have HA1 := Lib.hid (hb1.trans hA1)
  clear k1 q0 q1 hgk hgs hA1 hb1
  go_wp2_with fail
  rw [← hY1]
  clear hY1
  refine k2.mono ?_
  rintro e w2 ⟨t2, ao2, n2, c2, rfl, hb2, ht2⟩
  have k3 := ht2.text (by decide +kernel) (by decide +kernel)
  rw [← HKT.out] at k3
  clear k2 ht2
  go_wp2_with fail
  refine k3.mono ?_
  rintro e w3 ⟨rfl, hb3⟩
  have HA3 := Lib.hid (hb2.trans hb3)
  clear k3 hb2 hb3
  rw [← hsT] at hs
  clear hsT
  have GS3 := HA3.out.heap HGS.out
  obtain ⟨i0, i1, i2, i3, i4⟩ := pair_facts GS3 (After.refl _)
  have k4 := ST.code4 (t := .s) (w := w3) (v := .agg #[str [115], .slice none 0 0]) rfl (fun _ => rfl)
  rw [show Tm.code .s = Tm.sC from rfl] at k4
  unfold TreePost at k4
  clear GS3 i2 i3 i4
  go_wp2_with fail
  refine k4.mono ?_
  rintro e w4 ⟨t4, ao4, n4, c4, rfl, hb4, ht4⟩
  have k5 := ht4.text (by decide +kernel) (by decide +kernel)
  rw [← HSTT.out] at k5
  clear k4 ht4 i0 i1
  go_wp2_with fail
  refine k5.mono ?_
  rintro e w5 ⟨rfl, hb5⟩
  have HA5 := Lib.hid ((HA1.out.trans HA3.out).trans (hb4.trans hb5))
  have G := HA5.out.heap HR.out
  obtain ⟨z0, z1, z2, z3, z4⟩ := pair_facts G (After.refl _)
  have GQ := HA5.out.heap HQ.out
  obtain ⟨j0, j1, j2, j3, j4⟩ := pair_facts GQ (After.refl _)
  have GH := HA5.out.heap (HA0.out.heap hh)
  have m0 := cell_of_heap (i := 0) GH
  have m2 := cell_of_heap (i := 2) GH
  have m3 := cell_of_heap (i := 3) GH
  have GH2 := HA5.out.heap (HA0.out.heap hh2)
  have l0 := cell_of_heap (i := 0) GH2
  have l2 := cell_of_heap (i := 2) GH2
  have l3 := cell_of_heap (i := 3) GH2
  have kp := s_parts w5 pp _ ((hp.later HA0.out).later HA5.out) hpg hpz
  unfold SPartsPost at kp
  rw [hpn] at kp
  clear hpn
  clear GH GH2 k5 j2 j3 j4 hp
  go_wp2_with fail
  refine kp.mono ?_
  rintro e w6 ⟨sc, ac, nc, cc, sd, ad, nd, cd, rfl, hb6, hr6⟩
  have HA6 := Lib.hid (HA5.out.trans hb6)
  have ST1 := (hr6 mm mn rfl).1
  have ST2 := (hr6 mm mn rfl).2
  have a7 := (After.new w6 (.cells #[str sc, .slice ac nc cc] 32)).alloc (.cells #[str sd, .slice ad nd cd] 32)
  obtain ⟨Y7, hY7⟩ : ∃ Y7, Y7 = (w6.alloc (.cells #[str sc, .slice ac nc cc] 32)).alloc (.cells #[str sd, .slice ad nd cd] 32) := ⟨_, rfl⟩
  have gc : Y7.heap[w6.heap.size]? = some (.cells #[str sc, .slice ac nc cc] 32 (0, 0)) := by rw [hY7]; exact heap_old2 _ _ _
  have gd : Y7.heap[w6.heap.size + 1]? = some (.cells #[str sd, .slice ad nd cd] 32 (0, 0)) := by rw [hY7]; exact heap_new2 w6 _ _ _ rfl
  rw [← hY7] at a7
  obtain ⟨y0, y1, y2, y3, y4⟩ := pair_facts gc (After.refl _)
  have kc := ihc (ST1.later a7)
  have HT2 := Lib.hid (ST2.later a7)
  have HGD := Lib.hid gd
  have HA7 := Lib.hid (HA6.out.trans a7)
  unfold SBackPost at kc
  clear kp hr6 hb4 hb5 hb6 a7 z0 z1 z2 z3 z4 j0 j1 gc gd ST1 ST2 y2 y3 y4 G GQ m0 m2 m3 l0 l2 l3 ihc
  go_wp2_with fail
  rw [← hY7]
  clear hY7
  refine kc.mono ?_
  rintro e w8 ⟨xc, s8, a8, n8, c8, rfl, hb8, st8, hx8⟩
  have al8 := After.new w8 (.cells #[str s8, .slice a8 n8 c8] 32)
  have gx := heap_new' w8 (.cells #[str s8, .slice a8 n8 c8] 32)
  have GD8 := (hb8.trans al8).heap HGD.out
  obtain ⟨u0, u1, u2, u3, u4⟩ := pair_facts GD8 (After.refl _)
  have kd := ihd (HT2.out.later (hb8.trans al8))
  have HX8 := Lib.hid (st8.later al8)
  have HGX := Lib.hid gx
  have HA8 := Lib.hid (HA7.out.trans (hb8.trans al8))
  have HEC := Lib.hid hx8
  unfold SBackPost at kd
  clear kc y0 y1 st8 gx GD8 u2 u3 u4 hb8 al8 hx8 ihd
  go_wp2_with fail
  refine kd.mono ?_
  rintro e w9 ⟨xd, s9, a9, n9, c9, rfl, hb9, st9, hx9⟩
  have al9 := After.new w9 (.cells #[str s9, .slice a9 n9 c9] 32)
  have gy := heap_new' w9 (.cells #[str s9, .slice a9 n9 c9] 32)
  have gx9 := (hb9.trans al9).heap HGX.out
  have SX9 := Lib.hid (HX8.out.later (hb9.trans al9))
  have SY9 := Lib.hid (st9.later al9)
  have AY9 := Lib.hid (HA8.out.trans (hb9.trans al9))
  have HED := Lib.hid hx9
  obtain ⟨f0, f1, f2, f3, f4⟩ := pair_facts gx9 (After.refl _)
  obtain ⟨f5, f6, f7, f8, f9⟩ := pair_facts gy (After.refl _)
  obtain ⟨Y, hY⟩ : ∃ Y, Y = w9.alloc (.cells #[str s9, .slice a9 n9 c9] 32) := ⟨_, rfl⟩
  rw [← hY] at f0 f1 f5 f6 SX9 SY9 AY9
  have szY : Y.heap.size = w9.heap.size + 1 := by rw [hY]; simp
  have ka := s_app (Y.alloc (.cells #[str s9, .slice a9 n9 c9] 32)) xc xd s8 s9 a8 a9 n8 c8 n9 c9 Y.heap.size (0, 0) (SX9.out.later (After.new _ _)) (SY9.out.later (After.new _ _)) (heap_new' _ _)
  unfold TreePost at ka
  rw [szY] at ka
  rw [hY] at ka f0 f1 f5 f6
  have HA10 := Lib.hid (AY9.out.trans (After.new Y (.cells #[str s9, .slice a9 n9 c9] 32)))
  rw [hY] at HA10
  clear kd u0 u1 st9 hx9 f2 f3 f4 f7 f8 f9 gx9 gy hb9 al9
  go_wp2_with fail
  refine ka.mono ?_
  rintro e w10 ⟨t10, a10, n10, c10, rfl, hb10, ht10⟩
  have AZ := HA10.out.trans hb10
  have G := AZ.heap HR.out
  obtain ⟨z0, z1, z2, z3, z4⟩ := pair_facts G (After.refl _)
  have HAW := Lib.hid (HA0.out.trans AZ)
  have HF := Lib.hid (ht10.sets2 (i := 0) (j := 1) (u := str t10) (u' := .slice a10 n10 c10) G)
  clear ka f0 f1 f5 f6 AZ
  go_wp2_with fail
  exact bodyPost_ret (v := .tuple #[.agg #[str t10, .slice a10 n10 c10], .bool false]) (by simp [results, Try.results43, go_sem, z0, z1]) rfl
    ⟨.app xc xd, t10, a10, n10, c10, rfl, after_sets2 HAW.out G (Nat.le_succ _) _ _, HF.out, (fun u hu => by cases hu)⟩

end Go.Proofs.Ytkmfnnmbhmjfgaa

namespace Go.Proofs.Ytkmfnnmbhmjfgaa
open Go.RowKit

set_option maxHeartbeats 2000000
set_option maxRecDepth 100000

namespace Tm
theorem behind_is {F : Tm} {t a : Tm} (hF : F.good = true) (hg : t.good = true) (h : behind F.text t = some a) : t = app F a := by
  cases t with
  | app f b =>
    simp only [behind] at h
    split at h
    · rename_i he
      obtain rfl := Option.some.inj h
      simp only [good, Bool.and_eq_true] at hg
      rw [text_inj hg.1 hF he]
    · cases h
  | _ => simp [behind] at h

theorem parts_pair {t m n : Tm} (h : t.parts = some (m, n)) (hg : t.good = true) : t = pair m n := by
  cases t with
  | app x y =>
    have hg' := hg
    simp only [good, Bool.and_eq_true] at hg'
    simp only [parts] at h
    split at h
    · simp at h
    · rename_i n' e1
      split at h
      · simp at h
      · rename_i left e2
        split at h
        · simp at h
        · rename_i front e3
          split at h
          · simp at h
          · rename_i m' e4
            simp only [Option.some.injEq, Prod.mk.injEq] at h
            obtain ⟨rfl, rfl⟩ := h
            have g1 := behind_is (F := k) rfl hg'.2 e1
            have g2 := behind_is (F := s) rfl hg'.1 e2
            subst g1
            subst g2
            simp only [good, Bool.and_eq_true] at hg'
            have g3 := behind_is (F := app s I) rfl hg'.1.2 e3
            subst g3
            simp only [good, Bool.and_eq_true] at hg'
            have g4 := behind_is (F := k) rfl hg'.1.2.2 e4
            subst g4
            rfl
  | _ => simp [parts] at h
theorem parts_of_pair (m n : Tm) : (pair m n).parts = some (m, n) := by
  have h1 : Tm.text .k = [107] := rfl
  have h2 : Tm.text .s = [115] := rfl
  have h3 : Tm.text (.app .s I) = [40, 115, 32, 40, 40, 115, 32, 107, 41, 32, 107, 41, 41] := by decide
  simp [pair, parts, behind, h1, h2, h3]
theorem text_mt {u t : Tm} (hu : u.good = true) (hn : ∀ n, has n u = false) (hg : t.good = true) : (t.text == u.text) = (mt u t).isSome := by
  rw [Bool.eq_iff_iff, beq_iff_eq, Option.isSome_iff_exists]
  constructor
  · intro h
    obtain rfl := text_inj hg hu h
    exact ⟨_, mt_self _ hn⟩
  · rintro ⟨l, h⟩
    rw [(mt_closed _ _ _ hn h).1]
end Tm

theorem s_back : ∀ (n : Nat) {t : Tm} {w : World} {v : Value}, t.size ≤ n → ST w t v → t.good = true → t.size ≤ 3000 → Calls Try.prog 43 #[v] w (SBackPost w (Tm.back n t))
  | 0, t, _, _, h, _, _, _ => by have := Tm.size_pos t; omega
  | n + 1, t, w, v, hn, hst, hg, hz => by
    have hk := Tm.text_mt (u := Tm.kC) (by decide +kernel) Tm.kC_has hg
    have hs := Tm.text_mt (u := Tm.sC) (by decide +kernel) Tm.sC_has hg
    obtain ⟨x, ax, nx, cx, rfl⟩ := hst.form
    simp only [Tm.back]
    cases h1 : (Tm.mt Tm.kC t).isSome with
    | true =>
      rw [h1] at hk
      simp only [if_true]
      exact back_k w t x ax nx cx hst hg hz hk
    | false =>
      rw [h1] at hk
      simp only [Bool.false_eq_true, if_false]
      cases h2 : (Tm.mt Tm.sC t).isSome with
      | true =>
        rw [h2] at hs
        simp only [if_true]
        exact back_s w t x ax nx cx hst hg hz hk hs
      | false =>
        rw [h2] at hs
        simp only [Bool.false_eq_true, if_false]
        clear h1 h2
        cases hm : Tm.mt (Tm.appC Tm.X Tm.Y) t with
        | some l =>
          obtain ⟨c, d, rfl, rfl⟩ := Tm.mt_appC hm
          simp only
          have hsz := Tm.size_appC c d
          have hg' := hg
          simp only [Tm.appC, Tm.good, Bool.and_eq_true] at hg'
          have hgp := hg'.2.2
          have hgcd := hgp
          rw [Tm.good_pair, Bool.and_eq_true] at hgcd
          have hpz := Tm.size_pair c d
          obtain ⟨g, cap, fr, s0, p0, s1, p1, e, hh, hf, ha⟩ := hst
          obtain ⟨g2, cap2, fr2, s2, p2, s3, p3, e', hh2, hf2, ha2⟩ := ha
          simp only [Value.agg.injEq, Array.mk.injEq, List.cons.injEq, and_true] at e e'
          obtain ⟨ex, es⟩ := e
          obtain ⟨rfl, rfl⟩ := e'
          have hf' : Value.agg #[s0, p0] = .agg #[str [107], .slice none 0 0] := hf
          have hf2' : Value.agg #[s2, p2] = .agg #[str [107], .slice none 0 0] := hf2
          simp only [Value.agg.injEq, Array.mk.injEq, List.cons.injEq, and_true] at hf' hf2'
          obtain ⟨rfl, rfl⟩ := hf'
          obtain ⟨rfl, rfl⟩ := hf2'
          injection es with e1 e2 e3
          subst e1 e2 e3
          obtain rfl : x = [] := by
            injection ex with ex
            have := congrArg (fun b : ByteArray => b.data.toList) ex
            simpa using this
          have hst2 : ST w (Tm.appC c d) (.agg #[str [], .slice (some ⟨g, 0, none⟩) 2 cx]) := ⟨g, cx, fr, _, _, _, _, rfl, hh, hf, g2, cap2, fr2, _, _, _, _, rfl, hh2, hf2, ha2⟩
          have ihc : ∀ {W : World} {v : Value}, ST W c v → Calls Try.prog 43 #[v] W (SBackPost W (Tm.back n c)) := fun h => s_back n (by omega) h hgcd.1 (by omega)
          have ihd : ∀ {W : World} {v : Value}, ST W d v → Calls Try.prog 43 #[v] W (SBackPost W (Tm.back n d)) := fun h => s_back n (by omega) h hgcd.2 (by omega)
          generalize Tm.back n c = rc at *
          generalize Tm.back n d = rd at *
          cases rc with
          | none => exact back_7 w (Tm.appC c d) [] (some ⟨g, 0, none⟩) 2 cx hst2 hg hz hk hs g g2 cap2 _ _ s3 p3 fr fr2 (Tm.pair c d) rfl rfl rfl hh hh2 ha2 hgp (by omega) c d (Tm.parts_of_pair c d) rd ihc ihd
          | some uc => exact back_6 w (Tm.appC c d) [] (some ⟨g, 0, none⟩) 2 cx hst2 hg hz hk hs g g2 cap2 _ _ s3 p3 fr fr2 (Tm.pair c d) rfl rfl rfl hh hh2 ha2 hgp (by omega) c d (Tm.parts_of_pair c d) uc rd ihc ihd
        | none =>
          simp only
          cases t with
          | k => exact back_1 w .k x ax nx cx hst hg hz hk hs (by
              have : Value.agg #[str x, .slice ax nx cx] = .agg #[str [107], .slice none 0 0] := hst
              rw [empty_app hst hg]; rfl)
          | s => exact back_1 w .s x ax nx cx hst hg hz hk hs (by rw [empty_app hst hg]; rfl)
          | nm m => exact back_1 w (.nm m) x ax nx cx hst hg hz hk hs (by rw [empty_app hst hg]; rfl)
          | app f a =>
            have hgg := hg
            simp only [Tm.good, Bool.and_eq_true] at hgg
            have hsz : f.size + a.size ≤ 3000 := hz
            obtain ⟨g, cap, fr, s0, p0, s1, p1, e, hh, hf, ha⟩ := id hst
            obtain ⟨x0, a0, n0, c0, e0⟩ := hf.form
            obtain ⟨x1, a1, n1, c1, e1⟩ := ha.form
            simp only [Value.agg.injEq, Array.mk.injEq, List.cons.injEq, and_true] at e e0 e1
            obtain ⟨ex, es⟩ := e
            obtain ⟨rfl, rfl⟩ := e0
            obtain ⟨rfl, rfl⟩ := e1
            injection es with e1 e2 e3
            subst e1 e2 e3
            obtain rfl : x = [] := by
              injection ex with ex
              have := congrArg (fun b : ByteArray => b.data.toList) ex
              simpa using this
            by_cases hf107 : x0 = [107]
            · subst hf107
              have hfk : f = .k := Tm.text_inj hgg.1 (u := .k) rfl ((letter_eq 107 hf).1 rfl)
              cases hx1 : x1.isEmpty with
              | false => exact back_3 w (.app f a) [] (some ⟨g, 0, none⟩) 2 cx hst hg hz hk hs g x1 _ _ fr rfl rfl rfl hh hx1
              | true =>
                obtain rfl : x1 = [] := List.isEmpty_iff.1 hx1
                have hia := empty_app ha hgg.2
                rw [show ([] : List UInt8).isEmpty = true from rfl] at hia
                cases a with
                | k => cases hia
                | s => cases hia
                | nm m => cases hia
                | app h p =>
                  have hggp := hgg.2
                  simp only [Tm.good, Bool.and_eq_true] at hggp
                  obtain ⟨g2, cap2, fr2, s2, p2, s3, p3, e', hh2, hf2, ha2⟩ := ha
                  obtain ⟨x2, a2, n2, c2, e2⟩ := hf2.form
                  simp only [Value.agg.injEq, Array.mk.injEq, List.cons.injEq, and_true, true_and] at e' e2
                  obtain ⟨rfl, rfl⟩ := e2
                  injection e' with e1 e2 e3
                  subst e1 e2 e3
                  by_cases hx2 : x2 = [107]
                  · subst hx2
                    have hhk : h = .k := Tm.text_inj hggp.1 (u := .k) rfl ((letter_eq 107 hf2).1 rfl)
                    subst hhk
                    subst hfk
                    have hpn : p.parts = none := by
                      cases hpp : p.parts with
                      | none => rfl
                      | some q =>
                        obtain ⟨m1, m2⟩ := q
                        have := Tm.parts_pair hpp hggp.2
                        subst this
                        have := Tm.mt_appC_self m1 m2
                        unfold Tm.appC at this hm
                        rw [hm] at this
                        cases this
                    simp only [Tm.size] at hsz
                    exact back_5 w _ [] (some ⟨g, 0, none⟩) 2 cx hst hg hz hk hs g g2 c1 _ _ s3 p3 fr fr2 p rfl rfl rfl hh hh2 ha2 hggp.2 (by omega) hpn
                  · exact back_4 w _ [] (some ⟨g, 0, none⟩) 2 cx hst hg hz hk hs g g2 c1 x2 _ _ s3 p3 fr fr2 rfl rfl rfl hh hh2 (beq_eq_false_iff_ne.2 hx2)
            · exact back_2 w (.app f a) [] (some ⟨g, 0, none⟩) 2 cx hst hg hz hk hs g x0 _ _ _ fr rfl rfl rfl hh (beq_eq_false_iff_ne.2 hf107)
end Go.Proofs.Ytkmfnnmbhmjfgaa

namespace Go.Proofs.Ytkmfnnmbhmjfgaa
open Go.RowKit

set_option maxHeartbeats 2000000
set_option maxRecDepth 100000

theorem names_of_has {t : Tm} (h : ∀ n, Tm.has n t = false) : t.names [] = [] := by
  cases hn : t.names [] with
  | nil => rfl
  | cons n ns =>
    have h1 := (Tm.mem_names n t []).1 (by rw [hn]; simp)
    rcases h1 with h1 | h1
    · cases h1
    · rw [h n] at h1; cases h1

theorem read_open {l : List UInt8} (h : Tm.closedOf l = none) : Tm.pCodeRead l = none := by
  unfold Tm.pCodeRead
  cases hp : Tm.parse l with
  | none => rfl
  | some t =>
    simp only [Option.bind_some]
    cases hb : Tm.back t.size t with
    | none => rfl
    | some u =>
      obtain ⟨h1, _, _, h4⟩ := Tm.back_facts t.size t u hb
      have hn : t.names [] = [] := names_of_has (fun n => by rw [← h1, code_has]; exact h4 n)
      unfold Tm.closedOf at h
      rw [hp] at h
      simp [hn] at h

theorem spec_codeRead (w : World) (l : List UInt8) (hl : l.length ≤ 1000000000) :
    Calls Try.prog 17 #[str l] w (SOne' w (Tm.pCodeRead l)) := by
  have hc := s_closed4 w l hl
  unfold SClosedPost at hc
  cases hp : Tm.closedOf l with
  | none =>
    rw [hp] at hc
    rw [read_open hp]
    clear hp
    go_enter Try.func17, Try.ntmps17
    go_wp2_with fail
    refine hc.mono ?_
    rintro e w1 ⟨s1, ao1, n1, c1, rfl, hb1, ht1⟩
    clear ht1 hc
    go_wp2_with fail
    go_ret2
    exact ⟨rfl, hb1.alloc _⟩
  | some t =>
    obtain ⟨hg, hs, hn, _, _, _⟩ := small_facts hp
    obtain ⟨hpp, _⟩ := Tm.closed_facts hp
    rw [show Tm.pCodeRead l = (Tm.back t.size t).map Tm.text by unfold Tm.pCodeRead; rw [hpp]; rfl]
    rw [hp] at hc
    clear hp hpp
    have hbk := fun W v h => s_back t.size (w := W) (v := v) (Nat.le_refl _) h hg hs
    unfold SBackPost at hbk
    have hbf := fun u (hu : Tm.back t.size t = some u) => Tm.back_facts t.size t u hu
    generalize Tm.back t.size t = r at *
    cases r with
    | none =>
      go_enter Try.func17, Try.ntmps17
      go_wp2_with fail
      refine hc.mono ?_
      rintro e w1 ⟨s1, ao1, n1, c1, rfl, hb1, ht1⟩
      have hal1 := After.new w1 (.cells #[str s1, .slice ao1 n1 c1] 32)
      have hbox1 := heap_new' w1 (.cells #[str s1, .slice ao1 n1 c1] 32)
      obtain ⟨k0, k1, k2, k3, k4⟩ := pair_facts hbox1 (After.refl _)
      have hcall := hbk _ _ ((ht1 t rfl).later hal1)
      clear ht1 hc hbox1 hbk k2 k3 k4
      go_wp2_with fail
      refine hcall.mono ?_
      rintro e w2 ⟨x, s2, ao2, n2, c2, rfl, hb2, ht2, hx2⟩
      clear ht2 hx2 hcall
      go_wp2_with fail
      go_ret2
      exact ⟨rfl, ((hb1.trans hal1).trans hb2).alloc _⟩
    | some u =>
      obtain ⟨_, hsu, hgu, _⟩ := hbf u rfl
      have htx := Tm.text_le u hgu
      go_enter Try.func17, Try.ntmps17
      go_wp2_with fail
      refine hc.mono ?_
      rintro e w1 ⟨s1, ao1, n1, c1, rfl, hb1, ht1⟩
      have hal1 := After.new w1 (.cells #[str s1, .slice ao1 n1 c1] 32)
      have hbox1 := heap_new' w1 (.cells #[str s1, .slice ao1 n1 c1] 32)
      obtain ⟨k0, k1, k2, k3, k4⟩ := pair_facts hbox1 (After.refl _)
      have hcall := hbk _ _ ((ht1 t rfl).later hal1)
      clear ht1 hc hbox1 hbk k2 k3 k4
      go_wp2_with fail
      refine hcall.mono ?_
      rintro e w2 ⟨x, s2, ao2, n2, c2, rfl, hb2, ht2, hx2⟩
      obtain rfl := hx2 u rfl
      have hw2 := After.alloc ((hb1.trans hal1).trans hb2) (.cells #[str s2, .slice ao2 n2 c2] 32)
      have htext := (ht2.later (After.new w2 (.cells #[str s2, .slice ao2 n2 c2] 32))).text hgu (by omega)
      clear ht2 hcall hx2 k0 k1
      go_wp2_with (go_at_call 36; refine htext.mono ?_; rintro e w5 ⟨rfl, hb5⟩)
      go_ret2
      exact ⟨rfl, hw2.trans hb5⟩

theorem str_size' (l : List UInt8) : (⟨l.toArray⟩ : ByteArray).size = l.length := by show l.toArray.size = _; simp

theorem law_codeRead (w : World) (l : List UInt8) :
    Calls Try.prog 5 #[str l] w fun e w' => e = .returned (.bool true) ∧ After w w' := by
  have hsz := str_size' l
  by_cases hbig : (1048576 : Int) < (l.length : Int)
  · go_enter Try.func5, Try.ntmps5
    go_wp2_with fail
    go_ret
    exact ⟨rfl, After.refl _⟩
  · have hs := fun W => spec_codeRead W l (by omega)
    have hi := fun W => impl_codeRead W l (by omega)
    unfold SOne' at hs
    unfold TextRes' at hi
    generalize (Tm.pCodeRead l).getD [] = x at *
    generalize (Tm.pCodeRead l).isSome = b at *
    go_enter Try.func5, Try.ntmps5
    cases b
    all_goals
      go_wp2_with (first
        | (go_at_call 17; refine (hs _).mono ?_; rintro e w1 ⟨rfl, hb1⟩)
        | (go_at_call 18; refine (hi _).mono ?_; rintro e w2 ⟨rfl, hb2⟩))
      go_ret
      exact ⟨rfl, After.trans hb1 hb2⟩
end Go.Proofs.Ytkmfnnmbhmjfgaa
