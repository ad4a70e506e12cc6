/-
  TrackAfter: what it answers; the program's function.
-/
import Derived.Test.YtjfdindlfakmcaaPkU
import Derived.Test.YtjfdindlfakmcaaPkB2
import Derived.Test.YtjfdindlfakmcaaPkA
import Derived.Test.YtjfdindlfakmcaaPkB1
import Derived.Test.YtjfdindlfakmcaaRegT
namespace Go.Proofs.Ytjfdindlfakmcaa
open Go.RowKit

set_option maxHeartbeats 1000000
set_option maxRecDepth 100000

namespace Tm
theorem abs_good' (x : List UInt8) : ∀ {t : Tm}, t.good = true → (Tm.abs x t).good = true
  | .k, _ => by simp [abs, good]
  | .s, _ => by simp [abs, good]
  | .nm n, h => by
    by_cases hn : n = x
    · simp [abs, hn]; decide +kernel
    · simp [abs, hn, good] at h ⊢; exact h
  | .app f a, h => by
    simp only [good, Bool.and_eq_true] at h
    have hf := abs_good' x h.1
    have ha := abs_good' x h.2
    rw [abs]
    split
    · simp [good, h.1, h.2]
    · split
      · exact h.1
      · simp [good, hf, ha]

/-- One after the other. -/
def afterT (t u : Tm) : Tm := abs [120] (app u (app t (nm [120])))
def pAfter (l m : List UInt8) : Option (List UInt8) := (closedOf l).bind fun t => (closedOf m).bind fun u => if (afterT t u).fits = true then some (afterT t u).text else none

theorem text_fits {t : Tm} (hg : t.good = true) (hf : t.fits = true) : t.text.length ≤ 1000000 := by
  have htm := Tm.text_le _ hg
  have hsm := fits_size hf
  omega

theorem after_facts {l m : List UInt8} {t u : Tm} (h : closedOf l = some t) (g : closedOf m = some u) :
    (afterT t u).good = true ∧ (afterT t u).size ≤ 30000 ∧ (app u (app t (nm [120]))).good = true ∧ (app u (app t (nm [120]))).size ≤ 7000 := by
  obtain ⟨hg, hf, hs, _, _⟩ := parse_facts (closed_facts h).1
  obtain ⟨hgu, hfu, hsu, _, _⟩ := parse_facts (closed_facts g).1
  have hx : (nm [120]).good = true := by decide +kernel
  have hi : (app u (app t (nm [120]))).good = true := by simp [good, hg, hgu]; exact hx
  have hz : (app u (app t (nm [120]))).size ≤ 7000 := by simp only [size]; omega
  have := abs_size [120] (app u (app t (nm [120])))
  exact ⟨abs_good' _ hi, by unfold afterT; omega, hi, hz⟩
end Tm

/-- A text handed back, or nothing. -/
def ARes (w : World) (r : Option (List UInt8)) (e : Ending) (w' : World) : Prop :=
  e = .returned (.tuple #[str (r.getD []), .bool r.isSome]) ∧ After w w'

theorem impl_trackAfter (w : World) (l m : List UInt8) (hl : l.length ≤ 1000000000) (hm : m.length ≤ 1000000000) :
    Calls Try.prog 5 #[str l, str m] w (ARes w (Tm.pAfter l m)) := by
  have hr1 := readClosed_any w w.heap.size l (Nat.le_refl _) hl
  have hr2 := fun W (hB : w.heap.size ≤ W.heap.size) => readClosed_any W w.heap.size m hB hm
  unfold DataPost at hr1 hr2
  cases hp : Tm.closedOf l with
  | none =>
    rw [show Tm.pAfter l m = none by unfold Tm.pAfter; rw [hp]; rfl]
    rw [hp] at hr1
    clear hp
    go_enter Try.func5, Try.ntmps5
    go_wp2_with fail
    refine hr1.mono ?_
    rintro e w1 ⟨v1, rfl, hb1, hv1⟩
    clear hv1 hr1 hr2
    go_wp2_with fail
    go_ret2
    exact ⟨rfl, hb1⟩
  | some t =>
    cases hq : Tm.closedOf m with
    | none =>
      rw [show Tm.pAfter l m = none by unfold Tm.pAfter; rw [hp, hq]; rfl]
      rw [hp] at hr1
      simp only [hq] at hr2
      clear hp hq
      go_enter Try.func5, Try.ntmps5
      go_wp2_with fail
      refine hr1.mono ?_
      rintro e w1 ⟨v1, rfl, hb1, hv1⟩
      clear hv1 hr1
      go_wp2_with fail
      refine (hr2 _ hb1.size).mono ?_
      rintro e w2 ⟨v2, rfl, hb2, hv2⟩
      clear hv2 hr2
      go_wp2_with fail
      go_ret2
      exact ⟨rfl, below_trans hb1 hb2⟩
    | some u =>
      obtain ⟨hga, hza, hgi, hzi⟩ := Tm.after_facts hp hq
      rw [show Tm.pAfter l m = if (Tm.afterT t u).fits = true then some (Tm.afterT t u).text else none by unfold Tm.pAfter; rw [hp, hq]; rfl]
      rw [hp] at hr1
      simp only [hq] at hr2
      clear hp hq
      have htu : t.size ≤ 7000 ∧ u.size + t.size ≤ 7000 := by simp only [Tm.size] at hzi; omega
      have hab := fun W v (h : TV W w.heap.size (.app u (.app t (.nm [120]))) v) hB => abstraction_any W w.heap.size [120] _ v h hB (by omega)
      unfold TermPost at hab
      obtain ⟨b, hb⟩ : ∃ b, b = (Tm.afterT t u).fits := ⟨_, rfl⟩
      have htx : b = true → (Tm.afterT t u).text.length ≤ 1000000 := fun h => Tm.text_fits hga (by rw [← hb, h])
      have hfits := fun W v (h : TV W w.heap.size (Tm.afterT t u) v) => fits_any W w.heap.size _ v h
      rw [← hb] at hfits ⊢
      have HTX := Lib.hid htx
      have HGA := Lib.hid hga
      clear hb htx hga hza hgi
      cases b with
      | true =>
        simp only [if_true]
        go_enter Try.func5, Try.ntmps5
        go_wp2_with fail
        refine hr1.mono ?_
        rintro e w1 ⟨v1, rfl, hb1, hv1⟩
        have HV1 := Lib.hid (hv1 t rfl)
        clear hv1 hr1
        go_wp2_with fail
        refine (hr2 _ hb1.size).mono ?_
        rintro e w2 ⟨v2, rfl, hb2, hv2⟩
        have HV2 := Lib.hid (hv2 u rfl)
        clear hv2 hr2
        have hb12 := below_trans hb1 hb2
        have hnew := below_new w2 (.cells #[str [120]] 44)
        have hbn := below_trans hb12 hnew
        have hc3 := apply_any (w2.alloc (.cells #[str [120]] 44)) w.heap.size t (.nm [120]) v1 _ ((HV1.out.below hb2).below hnew) (nm_val (heap_top w2 (.cells #[str [120]] 44)) hb12.size) hbn.size (by simp only [Tm.size]; omega)
        have HV2' := Lib.hid (HV2.out.below hnew)
        clear HV1 HV2
        go_wp2_with fail
        refine hc3.mono ?_
        rintro e w3 ⟨v3, rfl, hb3, ht3⟩
        have hb13 := below_trans hbn hb3
        have hc4 := apply_any w3 w.heap.size u _ v2 v3 (HV2'.out.below hb3) ht3 hb13.size (by simp only [Tm.size]; omega)
        clear ht3 hc3 HV2'
        go_wp2_with fail
        refine hc4.mono ?_
        rintro e w4 ⟨v4, rfl, hb4, ht4⟩
        have hb14 := below_trans hb13 hb4
        have hc5 := hab w4 v4 ht4 hb14.size
        clear ht4 hc4 hab
        go_wp2_with fail
        refine hc5.mono ?_
        rintro e w5 ⟨v5, rfl, hb5, ht5⟩
        have hb15 := below_trans hb14 hb5
        have hfit := hfits w5 v5 ht5
        have HT5 := Lib.hid ht5
        clear ht5 hc5 hfits
        go_wp2_with (go_at_call 14; refine hfit.mono ?_; rintro e w6 ⟨rfl, hb6⟩)
        have hb16 := below_trans hb15 hb6
        have htext := textOf_any w6 w.heap.size _ v5 (HT5.out.below hb6) HGA.out (HTX.out (by trivial))
        go_wp2_with (go_at_call 15; refine htext.mono ?_; rintro e w7 ⟨rfl, hb7⟩)
        go_ret2
        exact ⟨rfl, below_trans hb16 hb7⟩
      | false =>
        simp only [Bool.false_eq_true, if_false]
        go_enter Try.func5, Try.ntmps5
        go_wp2_with fail
        refine hr1.mono ?_
        rintro e w1 ⟨v1, rfl, hb1, hv1⟩
        have HV1 := Lib.hid (hv1 t rfl)
        clear hv1 hr1
        go_wp2_with fail
        refine (hr2 _ hb1.size).mono ?_
        rintro e w2 ⟨v2, rfl, hb2, hv2⟩
        have HV2 := Lib.hid (hv2 u rfl)
        clear hv2 hr2
        have hb12 := below_trans hb1 hb2
        have hnew := below_new w2 (.cells #[str [120]] 44)
        have hbn := below_trans hb12 hnew
        have hc3 := apply_any (w2.alloc (.cells #[str [120]] 44)) w.heap.size t (.nm [120]) v1 _ ((HV1.out.below hb2).below hnew) (nm_val (heap_top w2 (.cells #[str [120]] 44)) hb12.size) hbn.size (by simp only [Tm.size]; omega)
        have HV2' := Lib.hid (HV2.out.below hnew)
        clear HV1 HV2
        go_wp2_with fail
        refine hc3.mono ?_
        rintro e w3 ⟨v3, rfl, hb3, ht3⟩
        have hb13 := below_trans hbn hb3
        have hc4 := apply_any w3 w.heap.size u _ v2 v3 (HV2'.out.below hb3) ht3 hb13.size (by simp only [Tm.size]; omega)
        clear ht3 hc3 HV2'
        go_wp2_with fail
        refine hc4.mono ?_
        rintro e w4 ⟨v4, rfl, hb4, ht4⟩
        have hb14 := below_trans hb13 hb4
        have hc5 := hab w4 v4 ht4 hb14.size
        clear ht4 hc4 hab
        go_wp2_with fail
        refine hc5.mono ?_
        rintro e w5 ⟨v5, rfl, hb5, ht5⟩
        have hb15 := below_trans hb14 hb5
        have hfit := hfits w5 v5 ht5
        have HT5 := Lib.hid ht5
        clear ht5 hc5 hfits
        go_wp2_with (go_at_call 14; refine hfit.mono ?_; rintro e w6 ⟨rfl, hb6⟩)
        have hb16 := below_trans hb15 hb6
        go_ret2
        exact ⟨rfl, hb16⟩
end Go.Proofs.Ytjfdindlfakmcaa

namespace Go.Proofs.Ytjfdindlfakmcaa
open Go.RowKit

set_option maxHeartbeats 2000000
set_option maxRecDepth 100000

/-- A tree and whether it is a closed term. -/
def SClosedPost (w : World) (l : List UInt8) (e : Ending) (w' : World) : Prop :=
  ∃ s ao n c, e = .returned (.tuple #[.agg #[str s, .slice ao n c], .bool (Tm.closedOf l).isSome]) ∧ After w w' ∧ ∀ t, Tm.closedOf l = some t → ST w' t (.agg #[str s, .slice ao n c])

theorem names_call' (X : World) (t : Tm) (v : Value) (g : Nat) (hg' : g = X.heap.size) (h : ST X t v) (hg : t.good = true) (hs : t.size ≤ 3000) :
    Calls Try.prog 30 #[v, .slice (some ⟨g, 0, none⟩) 0 0] (X.alloc (.cells #[] 9)) fun e w' =>
      ∃ sv, e = .returned sv ∧ After X w' ∧ w'.ownsRow X.heap.size 9 1 sv (t.names []).length ((t.names []).map str) := by
  subst hg'
  have hown := own_empty X
  have hnames := ST.names h hg _ (After.new _ (.cells #[] 9)) _ [] hown (by simp; omega)
  refine hnames.mono ?_
  rintro e w2 ⟨sv, he, ho, hgr, hor⟩
  refine ⟨sv, he, ?_, ho⟩
  exact (After.new X (.cells #[] 9)).grown hgr (by simp) (fun k hk => by simp [Value.ownBlock] at hk; omega)

theorem s_closed4 (w : World) (l : List UInt8) (hl : l.length ≤ 1000000000) :
    Calls Try.prog 16 #[str l] w (SClosedPost w l) := by
  have hterm := fun W => s_term W l hl
  unfold STermPost at hterm
  cases hp : Tm.parse l with
  | none =>
    have H := Lib.hid (show Tm.closedOf l = none by simp [Tm.closedOf, hp])
    simp only [hp] at hterm
    clear hp
    go_enter Try.func16, Try.ntmps16
    go_wp2_with fail
    refine (hterm _).mono ?_
    rintro e w1 ⟨s1, ao1, n1, c1, rfl, hb1, ht1⟩
    clear ht1 hterm
    obtain ⟨r0, r1, f0, f1, hz⟩ := box2 hb1
    go_wp2_with fail
    go_region
    go_wp2_with fail
    exact bodyPost_ret (v := .tuple #[.agg #[str s1, .slice ao1 n1 c1], .bool false]) (by simp [results, Try.results16, go_sem, r0, r1, hz]) rfl
      ⟨s1, ao1, n1, c1, by rw [H.out]; rfl, After.drew (After.alloc (After.set2 hb1) _), fun t he => by rw [H.out] at he; simp at he⟩
  | some t =>
    obtain ⟨hg, hf, hs, _, _⟩ := Tm.parse_facts hp
    obtain ⟨k, hk⟩ : ∃ k, k = (t.names []).length := ⟨_, rfl⟩
    have hfin : Tm.closedOf l = if k = 0 then some t else none := by
      unfold Tm.closedOf
      rw [hp, hk]
      by_cases h0 : t.names [] = []
      · simp [h0]
      · have : ¬ (t.names []).length = 0 := fun e => h0 (List.length_eq_zero_iff.1 e)
        have h0' : (t.names []).isEmpty = false := by simpa using h0
        simp [h0', this]
    have HK := Lib.hid hk
    have H := Lib.hid hfin
    simp only [hp] at hterm
    clear hp hfin hk
    obtain ⟨b, hb⟩ : ∃ b, b = decide (k = 0) := ⟨_, rfl⟩
    have hkb : ((k : Int) == 0) = b := by rw [hb, Bool.eq_iff_iff, beq_iff_eq, decide_eq_true_eq]; omega
    have hsome : b = (Tm.closedOf l).isSome := by
      rw [H.out, hb]
      by_cases h0 : k = 0 <;> simp [h0]
    have hok : ∀ t', Tm.closedOf l = some t' → t' = t := fun t' h => by
      rw [H.out] at h
      split at h
      · exact (Option.some.inj h).symm
      · cases h
    have HS := Lib.hid hsome
    have HOK := Lib.hid hok
    clear hb hsome hok H
    cases b with
    | true =>
      obtain rfl : k = 0 := by simpa using hkb
      go_enter Try.func16, Try.ntmps16
      go_wp2_with fail
      refine (hterm _).mono ?_
      rintro e w1 ⟨s1, ao1, n1, c1, rfl, hb1, ht1⟩
      have hst := Lib.hid (ht1 t rfl)
      clear ht1 hterm
      obtain ⟨r0, r1, f0, f1, hz⟩ := box2 hb1
      have hal := After.new w1 (.cells #[str s1, .slice ao1 n1 c1] 49)
      have hsz1 : w.heap.size < w1.heap.size := hz
      obtain ⟨Y, hY⟩ : ∃ Y, Y = w1.alloc (.cells #[str s1, .slice ao1 n1 c1] 49) := ⟨_, rfl⟩
      have hGt : Y.heap[w1.heap.size]? = some (.cells #[str s1, .slice ao1 n1 c1] 49 (0, 0)) := by rw [hY]; exact heap_new' _ _
      have hYs : Y.heap.size = w1.heap.size + 1 := by rw [hY]; simp
      rw [← hY] at hal
      have HST := Lib.hid (hst.out.later hal)
      have HYS := Lib.hid hYs
      have hself := After.refl Y
      have hbf : ButFor Y w.heap.size Y.drew := ⟨Nat.le_refl _, fun _ _ _ => rfl⟩
      have o0 : ∀ W, ButFor Y w.heap.size W → W.cell? ⟨w1.heap.size, 0, none⟩ = some (str s1) := fun W hW => hW.cell (by omega) (cell_of_heap (i := 0) hGt)
      have o1 : ∀ W, ButFor Y w.heap.size W → W.cell? ⟨w1.heap.size, 1, none⟩ = some (.slice ao1 n1 c1) := fun W hW => hW.cell (by omega) (cell_of_heap (i := 1) hGt)
      clear hst hGt hYs
      go_wp2_with fail
      rw [← hY]
      clear hY
      go_region_held3 (fun W' => ButFor Y w.heap.size W') (first | assumption | exact hbf | exact ButFor.alloc (by assumption) _ | exact hbf.alloc _ | exact ButFor.set (by assumption) _ _ | exact ButFor.set (ButFor.set (by assumption) _ _) _ _)
        (first
          | (go_at_call 30
             refine (names_call' Y.drew t _ _ ?_ (HST.out.later hself.drew) hg hs).mono ?_
             · (first | rfl | (simp; done) | (have := HYS.out; simp; omega))
             rintro e w2 ⟨sv, rfl, hb2, ho2⟩
             rw [← HK.out] at ho2
             obtain ⟨ao, ac, rfl⟩ := own_slice_len ho2
             clear ho2
             have hS2 : ButFor Y w.heap.size w2 := After.butFor (hself.drew.trans hb2)
             have hb3 := (hb1.trans hal).trans (hself.drew.trans hb2)
             obtain ⟨p0, p1, p2, p3, p4⟩ := box2 hb3))
      all_goals
        go_wp2_with fail
        exact bodyPost_ret (v := .tuple #[.agg #[str s1, .slice ao1 n1 c1], .bool true]) (by simp [results, Try.results16, go_sem, p0, p1]) rfl ⟨s1, ao1, n1, c1, by rw [← HS.out], After.set2 hb3, fun t' he => by obtain rfl := HOK.out t' he; exact (HST.out.later (hself.drew.trans hb2)).sets (i := 0) (j := 1) hb3⟩
    | false =>
      go_enter Try.func16, Try.ntmps16
      go_wp2_with fail
      refine (hterm _).mono ?_
      rintro e w1 ⟨s1, ao1, n1, c1, rfl, hb1, ht1⟩
      have hst := Lib.hid (ht1 t rfl)
      clear ht1 hterm
      obtain ⟨r0, r1, f0, f1, hz⟩ := box2 hb1
      have hal := After.new w1 (.cells #[str s1, .slice ao1 n1 c1] 49)
      have hsz1 : w.heap.size < w1.heap.size := hz
      obtain ⟨Y, hY⟩ : ∃ Y, Y = w1.alloc (.cells #[str s1, .slice ao1 n1 c1] 49) := ⟨_, rfl⟩
      have hGt : Y.heap[w1.heap.size]? = some (.cells #[str s1, .slice ao1 n1 c1] 49 (0, 0)) := by rw [hY]; exact heap_new' _ _
      have hYs : Y.heap.size = w1.heap.size + 1 := by rw [hY]; simp
      rw [← hY] at hal
      have HST := Lib.hid (hst.out.later hal)
      have HYS := Lib.hid hYs
      have hself := After.refl Y
      have hbf : ButFor Y w.heap.size Y.drew := ⟨Nat.le_refl _, fun _ _ _ => rfl⟩
      have o0 : ∀ W, ButFor Y w.heap.size W → W.cell? ⟨w1.heap.size, 0, none⟩ = some (str s1) := fun W hW => hW.cell (by omega) (cell_of_heap (i := 0) hGt)
      have o1 : ∀ W, ButFor Y w.heap.size W → W.cell? ⟨w1.heap.size, 1, none⟩ = some (.slice ao1 n1 c1) := fun W hW => hW.cell (by omega) (cell_of_heap (i := 1) hGt)
      clear hst hGt hYs
      go_wp2_with fail
      rw [← hY]
      clear hY
      go_region_held3 (fun W' => ButFor Y w.heap.size W') (first | assumption | exact hbf | exact ButFor.alloc (by assumption) _ | exact hbf.alloc _ | exact ButFor.set (by assumption) _ _ | exact ButFor.set (ButFor.set (by assumption) _ _) _ _)
        (first
          | (go_at_call 30
             refine (names_call' Y.drew t _ _ ?_ (HST.out.later hself.drew) hg hs).mono ?_
             · (first | rfl | (simp; done) | (have := HYS.out; simp; omega))
             rintro e w2 ⟨sv, rfl, hb2, ho2⟩
             rw [← HK.out] at ho2
             obtain ⟨ao, ac, rfl⟩ := own_slice_len ho2
             clear ho2
             have hS2 : ButFor Y w.heap.size w2 := After.butFor (hself.drew.trans hb2)
             have hb3 := (hb1.trans hal).trans (hself.drew.trans hb2)
             obtain ⟨p0, p1, p2, p3, p4⟩ := box2 hb3))
      all_goals
        go_wp2_with fail
        exact bodyPost_ret (v := .tuple #[.agg #[str s1, .slice ao1 n1 c1], .bool false]) (by simp [results, Try.results16, go_sem, p0, p1]) rfl ⟨s1, ao1, n1, c1, by rw [← HS.out], After.set2 hb3, fun t' he => by obtain rfl := HOK.out t' he; exact (HST.out.later (hself.drew.trans hb2)).sets (i := 0) (j := 1) hb3⟩

end Go.Proofs.Ytjfdindlfakmcaa

namespace Go.Proofs.Ytjfdindlfakmcaa
open Go.RowKit

set_option maxHeartbeats 2000000
set_option maxRecDepth 100000

theorem abs_call120 {w : World} {t : Tm} {v : Value} (h : ST w t v) (hg : t.good = true) (hz : t.size ≤ 1000000) : Calls Try.prog 17 #[str [120], v] w (TreePost w (Tm.abs [120] t)) :=
  h.abs [120] rfl rfl rfl (Tm.plain_good hg) (by omega)

theorem spec_trackAfter (w : World) (l m : List UInt8) (hl : l.length ≤ 1000000000) (hm : m.length ≤ 1000000000) :
    Calls Try.prog 6 #[str l, str m] w (ARes w (Tm.pAfter l m)) := by
  have hc := s_closed4 w l hl
  have hd := fun W => s_closed4 W m hm
  unfold SClosedPost at hc hd
  cases hp : Tm.closedOf l with
  | none =>
    rw [show Tm.pAfter l m = none by unfold Tm.pAfter; rw [hp]; rfl]
    rw [hp] at hc
    clear hp
    generalize (Tm.closedOf m).isSome = q at hd
    go_enter Try.func6, Try.ntmps6
    go_wp2_with fail
    refine hc.mono ?_
    rintro e w1 ⟨s1, ao1, n1, c1, rfl, hb1, ht1⟩
    clear ht1 hc
    go_wp2_with fail
    refine (hd _).mono ?_
    rintro e w2 ⟨s2, ao2, n2, c2, rfl, hb2, ht2⟩
    clear ht2 hd
    go_wp2_with fail
    go_ret2
    exact ⟨rfl, ((hb1.alloc _).trans hb2).alloc _⟩
  | some t =>
    cases hq : Tm.closedOf m with
    | none =>
      rw [show Tm.pAfter l m = none by unfold Tm.pAfter; rw [hp, hq]; rfl]
      rw [hp] at hc
      simp only [hq] at hd
      clear hp hq
      go_enter Try.func6, Try.ntmps6
      go_wp2_with fail
      refine hc.mono ?_
      rintro e w1 ⟨s1, ao1, n1, c1, rfl, hb1, ht1⟩
      clear ht1 hc
      go_wp2_with fail
      refine (hd _).mono ?_
      rintro e w2 ⟨s2, ao2, n2, c2, rfl, hb2, ht2⟩
      clear ht2 hd
      go_wp2_with fail
      go_ret2
      exact ⟨rfl, ((hb1.alloc _).trans hb2).alloc _⟩
    | some t2 =>
      obtain ⟨hga, hza, hgi, hzi⟩ := Tm.after_facts hp hq
      rw [show Tm.pAfter l m = if (Tm.afterT t t2).fits = true then some (Tm.afterT t t2).text else none by unfold Tm.pAfter; rw [hp, hq]; rfl]
      rw [hp] at hc
      simp only [hq] at hd
      clear hp hq
      have HG := Lib.hid (show (Tm.app t2 (.app t (.nm [120]))).good = true ∧ (Tm.app t2 (.app t (.nm [120]))).size ≤ 1000000 from ⟨hgi, by omega⟩)
      have HGA := Lib.hid hga
      obtain ⟨b, hb⟩ : ∃ b, b = (Tm.afterT t t2).fits := ⟨_, rfl⟩
      have htx : b = true → (Tm.afterT t t2).text.length ≤ 100000000 := fun h => by have := Tm.text_fits hga (by rw [← hb, h]); omega
      have hfine : ∀ W v, ST W (Tm.abs [120] (.app t2 (.app t (.nm [120])))) v → _ := fun W v (h : ST W (Tm.afterT t t2) v) => h.fine hga (by omega)
      rw [← hb] at hfine ⊢
      have HTX := Lib.hid htx
      clear hb htx hga hza hgi hzi
      cases b with
      | true =>
        simp only [if_true]
        go_enter Try.func6, Try.ntmps6
        go_wp2_with fail
        refine hc.mono ?_
        rintro e w1 ⟨s1, ao1, n1, c1, rfl, hb1, ht1⟩
        have hal1 := After.new w1 (.cells #[str s1, .slice ao1 n1 c1] 49)
        have hbox1 := heap_new' w1 (.cells #[str s1, .slice ao1 n1 c1] 49)
        have HT1 := Lib.hid ((ht1 t rfl).later hal1)
        clear ht1 hc
        go_wp2_with fail
        refine (hd _).mono ?_
        rintro e w2 ⟨s2, ao2, n2, c2, rfl, hb2, ht2⟩
        have hal2 := After.new w2 (.cells #[str s2, .slice ao2 n2 c2] 49)
        have q2 := heap_new' w2 (.cells #[str s2, .slice ao2 n2 c2] 49)
        have q1 := (hb2.trans hal2).heap hbox1
        have st1 := HT1.out.later (hb2.trans hal2)
        have st2 := (ht2 t2 rfl).later hal2
        have aY := ((hb1.trans hal1).trans hb2).trans hal2
        clear ht2 hd hbox1
        go_wp2_with fail
        generalize w2.alloc (.cells #[str s2, .slice ao2 n2 c2] 49) = Y at *
        generalize w2.heap.size = g2 at *
        generalize w1.heap.size = g1 at *
        have G1 := Lib.hid q1
        have G2 := Lib.hid q2
        have S1 := Lib.hid st1
        have S2 := Lib.hid st2
        have AY := Lib.hid aY
        have hself := (After.refl Y).drew
        clear q1 q2 st1 st2 aY hal1 hal2 hb1 hb2 HT1
        rename_i KK hKK
        refine wp_region_reg1 (n := 9) (by kernel_rfl) (by kernel_rfl) (by kernel_rfl) (by kernel_rfl) After After.refl (fun _ _ _ h g => h.trans g)
          (yds [.tree (t2), .tree (t), .tree (.nm [120]), .row [.nm [120]], .tree (.app (t) (.nm [120])), .row [.app (t) (.nm [120])], .tree (.app (t2) (.app (t) (.nm [120]))), .tree (Tm.abs [120] (.app (t2) (.app (t) (.nm [120])))), .cell (Y.heap.size)]) yds_later (lt9 ?_ ?_ ?_ ?_ ?_ ?_ ?_ ?_ ?_) ?_
        · intro vs W hE hd K hK
          have hE' : After Y W := hself.trans hE
          have G := hE'.heap G2.out
          exact do_load (.tree (t2)) (x := .tmp 8) (by kernel_rfl) (by kernel_rfl) (by kernel_rfl) (by kernel_rfl) (cell_of_heap (i := 0) G) (cell_of_heap (i := 1) G) ⟨_, _, _, _, rfl, S2.out.later hE'⟩ hK
        · intro vs W hE hd K hK
          have hE' : After Y W := hself.trans hE
          have G := hE'.heap G1.out
          exact do_load (.tree (t)) (x := .tmp 6) (by kernel_rfl) (by kernel_rfl) (by kernel_rfl) (by kernel_rfl) (cell_of_heap (i := 0) G) (cell_of_heap (i := 1) G) ⟨_, _, _, _, rfl, S1.out.later hE'⟩ hK
        · intro vs W hE hd K hK
          have hE' : After Y W := hself.trans hE
          exact do_name (x := [120]) (by kernel_rfl) (by kernel_rfl) (by kernel_rfl) hK
        · intro vs W hE hd K hK
          have hE' : After Y W := hself.trans hE
          exact do_row1 (x := .tmp 29) (u := vs 2) (by kernel_rfl) (by kernel_rfl) (by kernel_rfl) (by kernel_rfl) (hd 2 (by kernel_rfl)) hK
        · intro vs W hE hd K hK
          have hE' : After Y W := hself.trans hE
          exact do_app (u1 := vs 1) (u2 := vs 3) (us := [.nm [120]]) (by kernel_rfl) (by kernel_rfl) (by kernel_rfl) (hd 1 (by kernel_rfl)) (hd 3 (by kernel_rfl)) (by simp) hK
        · intro vs W hE hd K hK
          have hE' : After Y W := hself.trans hE
          exact do_row1 (x := .tmp 31) (u := vs 4) (by kernel_rfl) (by kernel_rfl) (by kernel_rfl) (by kernel_rfl) (hd 4 (by kernel_rfl)) hK
        · intro vs W hE hd K hK
          have hE' : After Y W := hself.trans hE
          exact do_app (u1 := vs 0) (u2 := vs 5) (us := [.app (t) (.nm [120])]) (by kernel_rfl) (by kernel_rfl) (by kernel_rfl) (hd 0 (by kernel_rfl)) (hd 5 (by kernel_rfl)) (by simp) hK
        · intro vs W hE hd K hK
          have hE' : After Y W := hself.trans hE
          exact do_call (Tm.abs [120] (.app (t2) (.app (t) (.nm [120])))) (f := 17) (args := #[str [120], vs 6]) (by kernel_rfl) (by kernel_rfl) (by kernel_rfl) (abs_call120 (stOf (hd 6 (by kernel_rfl))) HG.out.1 HG.out.2) hK
        · intro vs W hE hd K hK
          have hE' : After Y W := hself.trans hE
          exact do_cell (by kernel_rfl) (by kernel_rfl) hE'.size (by kernel_rfl) hK
        intro vs W hE hd K hK
        have hE' : After Y W := hself.trans hE
        obtain ⟨gg, ca, cb, ec, hg, G⟩ := hd 8 (by decide)
        refine do_store_at (Tm.abs [120] (.app (t2) (.app (t) (.nm [120])))) (x := .tmp 10) (y := .tmp 34) (v := vs 7) (p := ca) (q := cb) (u := vs 8) (by kernel_rfl) (by kernel_rfl) (by kernel_rfl) (by kernel_rfl) (by kernel_rfl) ec (by kernel_rfl) (hd 7 (by decide)) G (fun rs ra rn rc hst => hK _ _ ?_)
        refine hKK _ _ ?_
        generalize hAA : frame _ _ vs = AA
        obtain rfl : AA = ⟨#[str l, str m, undef, undef, str [], .bool false, .pointer (some ⟨g1, 0, none⟩), .bool true, .pointer (some ⟨g2, 0, none⟩), .bool true, .pointer (some ⟨gg, 0, none⟩), .tuple #[.agg #[str s1, .slice ao1 n1 c1], .bool true], str l, .tuple #[.agg #[str s1, .slice ao1 n1 c1], .bool true], .agg #[str s1, .slice ao1 n1 c1], .bool true, .tuple #[.agg #[str s2, .slice ao2 n2 c2], .bool true], str m, .tuple #[.agg #[str s2, .slice ao2 n2 c2], .bool true], .agg #[str s2, .slice ao2 n2 c2], .bool true, .bool true, .bool false, .bool false, .bool true, .bool false, .bool false, vs 0, vs 1, vs 2, vs 3, vs 4, vs 5, vs 6, vs 7, undef, undef, undef, undef, undef], []⟩ := by rw [← hAA, ← ec]; kernel_rfl
        clear hAA hK
        have aW := after_sets2 hE' G hg (str rs) (.slice ra rn rc)
        have q2 := heap_sets2 (u := str rs) (u' := .slice ra rn rc) G
        obtain ⟨j0, j1, j2, j3, j4⟩ := pair_facts q2 (After.refl _)
        have hf1 := hfine _ _ hst
        have HST := Lib.hid hst
        have AW := Lib.hid (AY.out.trans aW)
        clear hd ec hst aW q2 j2 j3 j4 hfine
        generalize (W.setCell ⟨gg, 0, none⟩ (str rs)).setCell ⟨gg, 1, none⟩ (.slice ra rn rc) = X at *
        go_wp2_with (go_at_call 20; refine hf1.mono ?_; rintro e w3 ⟨rfl, hb3⟩; obtain ⟨i0, i1⟩ : w3.cell? ⟨gg, 0, none⟩ = some (str rs) ∧ w3.cell? ⟨gg, 1, none⟩ = some (.slice ra rn rc) := ⟨hb3.cell j0, hb3.cell j1⟩)
        have htext := (HST.out.later hb3).text HGA.out (HTX.out (by trivial))
        refine htext.mono ?_
        rintro e w4 ⟨rfl, hb4⟩
        go_wp2_with fail
        go_ret2
        exact ⟨rfl, (AW.out.trans hb3).trans hb4⟩
      | false =>
        simp only [Bool.false_eq_true, if_false]
        go_enter Try.func6, Try.ntmps6
        go_wp2_with fail
        refine hc.mono ?_
        rintro e w1 ⟨s1, ao1, n1, c1, rfl, hb1, ht1⟩
        have hal1 := After.new w1 (.cells #[str s1, .slice ao1 n1 c1] 49)
        have hbox1 := heap_new' w1 (.cells #[str s1, .slice ao1 n1 c1] 49)
        have HT1 := Lib.hid ((ht1 t rfl).later hal1)
        clear ht1 hc
        go_wp2_with fail
        refine (hd _).mono ?_
        rintro e w2 ⟨s2, ao2, n2, c2, rfl, hb2, ht2⟩
        have hal2 := After.new w2 (.cells #[str s2, .slice ao2 n2 c2] 49)
        have q2 := heap_new' w2 (.cells #[str s2, .slice ao2 n2 c2] 49)
        have q1 := (hb2.trans hal2).heap hbox1
        have st1 := HT1.out.later (hb2.trans hal2)
        have st2 := (ht2 t2 rfl).later hal2
        have aY := ((hb1.trans hal1).trans hb2).trans hal2
        clear ht2 hd hbox1
        go_wp2_with fail
        generalize w2.alloc (.cells #[str s2, .slice ao2 n2 c2] 49) = Y at *
        generalize w2.heap.size = g2 at *
        generalize w1.heap.size = g1 at *
        have G1 := Lib.hid q1
        have G2 := Lib.hid q2
        have S1 := Lib.hid st1
        have S2 := Lib.hid st2
        have AY := Lib.hid aY
        have hself := (After.refl Y).drew
        clear q1 q2 st1 st2 aY hal1 hal2 hb1 hb2 HT1
        rename_i KK hKK
        refine wp_region_reg1 (n := 9) (by kernel_rfl) (by kernel_rfl) (by kernel_rfl) (by kernel_rfl) After After.refl (fun _ _ _ h g => h.trans g)
          (yds [.tree (t2), .tree (t), .tree (.nm [120]), .row [.nm [120]], .tree (.app (t) (.nm [120])), .row [.app (t) (.nm [120])], .tree (.app (t2) (.app (t) (.nm [120]))), .tree (Tm.abs [120] (.app (t2) (.app (t) (.nm [120])))), .cell (Y.heap.size)]) yds_later (lt9 ?_ ?_ ?_ ?_ ?_ ?_ ?_ ?_ ?_) ?_
        · intro vs W hE hd K hK
          have hE' : After Y W := hself.trans hE
          have G := hE'.heap G2.out
          exact do_load (.tree (t2)) (x := .tmp 8) (by kernel_rfl) (by kernel_rfl) (by kernel_rfl) (by kernel_rfl) (cell_of_heap (i := 0) G) (cell_of_heap (i := 1) G) ⟨_, _, _, _, rfl, S2.out.later hE'⟩ hK
        · intro vs W hE hd K hK
          have hE' : After Y W := hself.trans hE
          have G := hE'.heap G1.out
          exact do_load (.tree (t)) (x := .tmp 6) (by kernel_rfl) (by kernel_rfl) (by kernel_rfl) (by kernel_rfl) (cell_of_heap (i := 0) G) (cell_of_heap (i := 1) G) ⟨_, _, _, _, rfl, S1.out.later hE'⟩ hK
        · intro vs W hE hd K hK
          have hE' : After Y W := hself.trans hE
          exact do_name (x := [120]) (by kernel_rfl) (by kernel_rfl) (by kernel_rfl) hK
        · intro vs W hE hd K hK
          have hE' : After Y W := hself.trans hE
          exact do_row1 (x := .tmp 29) (u := vs 2) (by kernel_rfl) (by kernel_rfl) (by kernel_rfl) (by kernel_rfl) (hd 2 (by kernel_rfl)) hK
        · intro vs W hE hd K hK
          have hE' : After Y W := hself.trans hE
          exact do_app (u1 := vs 1) (u2 := vs 3) (us := [.nm [120]]) (by kernel_rfl) (by kernel_rfl) (by kernel_rfl) (hd 1 (by kernel_rfl)) (hd 3 (by kernel_rfl)) (by simp) hK
        · intro vs W hE hd K hK
          have hE' : After Y W := hself.trans hE
          exact do_row1 (x := .tmp 31) (u := vs 4) (by kernel_rfl) (by kernel_rfl) (by kernel_rfl) (by kernel_rfl) (hd 4 (by kernel_rfl)) hK
        · intro vs W hE hd K hK
          have hE' : After Y W := hself.trans hE
          exact do_app (u1 := vs 0) (u2 := vs 5) (us := [.app (t) (.nm [120])]) (by kernel_rfl) (by kernel_rfl) (by kernel_rfl) (hd 0 (by kernel_rfl)) (hd 5 (by kernel_rfl)) (by simp) hK
        · intro vs W hE hd K hK
          have hE' : After Y W := hself.trans hE
          exact do_call (Tm.abs [120] (.app (t2) (.app (t) (.nm [120])))) (f := 17) (args := #[str [120], vs 6]) (by kernel_rfl) (by kernel_rfl) (by kernel_rfl) (abs_call120 (stOf (hd 6 (by kernel_rfl))) HG.out.1 HG.out.2) hK
        · intro vs W hE hd K hK
          have hE' : After Y W := hself.trans hE
          exact do_cell (by kernel_rfl) (by kernel_rfl) hE'.size (by kernel_rfl) hK
        intro vs W hE hd K hK
        have hE' : After Y W := hself.trans hE
        obtain ⟨gg, ca, cb, ec, hg, G⟩ := hd 8 (by decide)
        refine do_store_at (Tm.abs [120] (.app (t2) (.app (t) (.nm [120])))) (x := .tmp 10) (y := .tmp 34) (v := vs 7) (p := ca) (q := cb) (u := vs 8) (by kernel_rfl) (by kernel_rfl) (by kernel_rfl) (by kernel_rfl) (by kernel_rfl) ec (by kernel_rfl) (hd 7 (by decide)) G (fun rs ra rn rc hst => hK _ _ ?_)
        refine hKK _ _ ?_
        generalize hAA : frame _ _ vs = AA
        obtain rfl : AA = ⟨#[str l, str m, undef, undef, str [], .bool false, .pointer (some ⟨g1, 0, none⟩), .bool true, .pointer (some ⟨g2, 0, none⟩), .bool true, .pointer (some ⟨gg, 0, none⟩), .tuple #[.agg #[str s1, .slice ao1 n1 c1], .bool true], str l, .tuple #[.agg #[str s1, .slice ao1 n1 c1], .bool true], .agg #[str s1, .slice ao1 n1 c1], .bool true, .tuple #[.agg #[str s2, .slice ao2 n2 c2], .bool true], str m, .tuple #[.agg #[str s2, .slice ao2 n2 c2], .bool true], .agg #[str s2, .slice ao2 n2 c2], .bool true, .bool true, .bool false, .bool false, .bool true, .bool false, .bool false, vs 0, vs 1, vs 2, vs 3, vs 4, vs 5, vs 6, vs 7, undef, undef, undef, undef, undef], []⟩ := by rw [← hAA, ← ec]; kernel_rfl
        clear hAA hK
        have aW := after_sets2 hE' G hg (str rs) (.slice ra rn rc)
        have q2 := heap_sets2 (u := str rs) (u' := .slice ra rn rc) G
        obtain ⟨j0, j1, j2, j3, j4⟩ := pair_facts q2 (After.refl _)
        have hf1 := hfine _ _ hst
        have AW := Lib.hid (AY.out.trans aW)
        clear hd ec hst aW q2 j2 j3 j4 hfine
        generalize (W.setCell ⟨gg, 0, none⟩ (str rs)).setCell ⟨gg, 1, none⟩ (.slice ra rn rc) = X at *
        go_wp2_with (go_at_call 20; refine hf1.mono ?_; rintro e w3 ⟨rfl, hb3⟩)
        go_ret2
        exact ⟨rfl, AW.out.trans hb3⟩
end Go.Proofs.Ytjfdindlfakmcaa
