/-
  The model's l4Closed, l4Small, l4End.
-/
import Derived.Test.YtfpekihdoclncaaPkAU
import Derived.Test.YtfpekihdoclncaaPkAW
import Derived.Test.YtfpekihdoclncaaPkAG
import Derived.Test.YtfpekihdoclncaaPkAN
import Derived.Test.YtfpekihdoclncaaPkAR
import Derived.Test.YtfpekihdoclncaaPkAT
import Derived.Test.YtfpekihdoclncaaPkAV
import Derived.Test.YtfpekihdoclncaaPkAL
import Derived.Test.YtfpekihdoclncaaPkAI
namespace Go.Proofs.Ytfpekihdoclncaa
open Go.RowKit

set_option maxHeartbeats 2000000
set_option maxRecDepth 100000

/-- What l4Small makes of a closed term. -/
def smallT (t : Tm) : Tm := if t.size ≤ 300 then t.code else t
def smallB (t : Tm) : Bool := if t.size ≤ 300 then t.code.fits else false
theorem small_eq {t : Tm} (hn : t.names [] = []) : smallB t = t.code.fits := by
  unfold smallB
  split
  · rfl
  · rename_i h
    have hge := Tm.code_size_ge t (fun n e => by subst e; simp [Tm.names] at hn) (fun x hx => by rw [hn] at hx; cases hx)
    have : ¬ t.code.size ≤ 3000 := by omega
    simp [Tm.fits, this]
theorem small_some {t : Tm} (h : smallB t = true) : smallT t = t.code := by
  unfold smallB at h
  unfold smallT
  split at h
  · rename_i h1; rw [if_pos h1]
  · cases h

theorem s_small4 (w : World) (t : Tm) (s : List UInt8) (ao : Option Addr) (m c : Nat) (h : ST w t (.agg #[str s, .slice ao m c])) (hg : t.good = true) (hz : t.size ≤ 1000000) (hn : t.names [] = []) :
    Calls Try.prog 34 #[.agg #[str s, .slice ao m c]] w (SNormPost w (smallT t) (smallB t)) := by
  obtain ⟨Y, hY⟩ : ∃ Y, Y = (w.alloc (.cells #[str s, .slice ao m c] 32)).alloc (.cells #[.string ⟨#[]⟩, .slice none 0 0] 32) := ⟨_, rfl⟩
  have hA : After w Y := by rw [hY]; exact (After.new _ _).alloc _
  have hq : Y.heap[w.heap.size]? = some (.cells #[str s, .slice ao m c] 32 (0, 0)) := by rw [hY]; exact heap_old2 _ _ _
  have hr : Y.heap[w.heap.size + 1]? = some (.cells #[.string ⟨#[]⟩, .slice none 0 0] 32 (0, 0)) := by rw [hY]; exact heap_new2 w _ _ _ rfl
  have HQ := Lib.hid hq
  have HR := Lib.hid hr
  have HA := Lib.hid hA
  have HT := Lib.hid (h.later hA)
  have hsize := (h.later hA).size hg (by omega)
  obtain ⟨q0, q1, _, _, _⟩ := pair_facts hq (After.refl Y)
  clear hq hr hA h
  by_cases h3 : t.size ≤ 300
  · have h3' : ¬ (300 : Int) < (t.size : Int) := by omega
    have e1 : smallT t = t.code := by unfold smallT; rw [if_pos h3]
    have e2 : smallB t = t.code.fits := by unfold smallB; rw [if_pos h3]
    rw [e1, e2]
    have hcz := Tm.code_size_le t
    have hgc := Tm.code_good t hg
    have hcl := closed_of hn
    have HN := Lib.hid hcl
    clear e1 e2 hcl
    go_enter Try.func34, Try.ntmps34
    go_wp2_with fail
    rw [← hY]
    clear hY
    refine hsize.mono ?_
    rintro e w1 ⟨rfl, hb1⟩
    obtain ⟨p0, p1, _, _, _⟩ := pair_facts HQ.out hb1
    have hcode := ST.code4 (HT.out.later hb1) HN.out
    unfold TreePost at hcode
    clear hsize q0 q1
    go_wp2_with fail
    refine hcode.mono ?_
    rintro e w2 ⟨s2, ao2, n2, c2, rfl, hb2, ht2⟩
    obtain ⟨X, hX⟩ : ∃ X, X = w2.alloc (.cells #[str s2, .slice ao2 n2 c2] 32) := ⟨_, rfl⟩
    have hal : After w2 X := by rw [hX]; exact After.new _ _
    have hGt : X.heap[w2.heap.size]? = some (.cells #[str s2, .slice ao2 n2 c2] 32 (0, 0)) := by rw [hX]; exact heap_new' _ _
    have hlt : w.heap.size + 1 < w2.heap.size := by have := (Array.getElem?_eq_some_iff.1 ((hb1.trans hb2).heap HR.out)).1; omega
    have HST := Lib.hid (ht2.later hal)
    have hAX := (hb1.trans hb2).trans hal
    have hself := After.refl X
    have hbf : ButFor X (w.heap.size + 1) X.drew := ⟨Nat.le_refl _, fun _ _ _ => rfl⟩
    have o0 : ∀ W, ButFor X (w.heap.size + 1) W → W.cell? ⟨w2.heap.size, 0, none⟩ = some (str s2) := fun W hW => hW.cell (by omega) (cell_of_heap (i := 0) hGt)
    have o1 : ∀ W, ButFor X (w.heap.size + 1) W → W.cell? ⟨w2.heap.size, 1, none⟩ = some (.slice ao2 n2 c2) := fun W hW => hW.cell (by omega) (cell_of_heap (i := 1) hGt)
    obtain ⟨b, hb⟩ : ∃ b, b = t.code.fits := ⟨_, rfl⟩
    have hfine := fun W (hW : After X W) => (HST.out.later hW).fine hgc (by omega)
    rw [← hb] at hfine
    have HB := Lib.hid hb
    clear ht2 hcode hGt hb p0 p1
    go_wp2_with fail
    rw [← hX]
    clear hX
    go_region_held3 (fun W' => ButFor X (w.heap.size + 1) W') (first | assumption | exact hbf | exact ButFor.alloc (by assumption) _ | exact hbf.alloc _ | exact ButFor.set (by assumption) _ _ | exact ButFor.set (ButFor.set (by assumption) _ _) _ _)
      (first
        | (go_at_call 55
           refine (hfine _ hself.drew).mono ?_
           rintro e w3 ⟨rfl, hb3⟩
           have hS3 : ButFor X (w.heap.size + 1) w3 := After.butFor (hself.drew.trans hb3)
           have hA3 := hAX.trans (hself.drew.trans hb3)
           have G := hA3.heap HR.out
           obtain ⟨z0, z1, z2, z3, z4⟩ := pair_facts G (After.refl _)))
    all_goals
      go_wp2_with fail
      exact bodyPost_ret (v := .tuple #[.agg #[str s2, .slice ao2 n2 c2], .bool b]) (by simp [results, Try.results34, go_sem, z0, z1]) rfl
        ⟨s2, ao2, n2, c2, by rw [HB.out], after_sets2 (HA.out.trans hA3) G (Nat.le_succ _) _ _, (HST.out.later (hself.drew.trans hb3)).sets2 (i := 0) (j := 1) G⟩
  · have h3' : (300 : Int) < (t.size : Int) := by omega
    have e1 : smallT t = t := by unfold smallT; rw [if_neg h3]
    have e2 : smallB t = false := by unfold smallB; rw [if_neg h3]
    rw [e1, e2]
    clear e1 e2
    go_enter Try.func34, Try.ntmps34
    go_wp2_with fail
    rw [← hY]
    clear hY
    refine hsize.mono ?_
    rintro e w1 ⟨rfl, hb1⟩
    obtain ⟨p0, p1, _, _, _⟩ := pair_facts HQ.out hb1
    have G := hb1.heap HR.out
    obtain ⟨z0, z1, z2, z3, z4⟩ := pair_facts G (After.refl _)
    have HT2 := Lib.hid ((HT.out.later hb1).sets2 (i := 0) (j := 1) (u := str s) (u' := .slice ao m c) G)
    clear hsize q0 q1
    go_wp2_with fail
    exact bodyPost_ret (v := .tuple #[.agg #[str s, .slice ao m c], .bool false]) (by simp [results, Try.results34, go_sem, z0, z1]) rfl
      ⟨s, ao, m, c, rfl, after_sets2 (HA.out.trans hb1) G (Nat.le_succ _) _ _, HT2.out⟩

/-- What is told of an end. -/
def endR (x : Tm) (ok : Bool) : Option (List UInt8) := if ok = true then (Tm.endOf x).map Tm.text else none

theorem s_end4 (w : World) (x : Tm) (ok : Bool) (s : List UInt8) (ao : Option Addr) (m c : Nat) (h : ok = true → ST w x (.agg #[str s, .slice ao m c]) ∧ x.good = true ∧ x.size ≤ 1000000) :
    Calls Try.prog 36 #[.agg #[str s, .slice ao m c], .bool ok] w fun e w' => e = .returned (.tuple #[str ((endR x ok).getD []), .bool (endR x ok).isSome]) ∧ After w w' := by
  cases ok with
  | false =>
    have hn := After.new w (.cells #[str s, .slice ao m c] 32)
    rw [show endR x false = none from rfl]
    clear h
    go_enter Try.func36, Try.ntmps36
    go_wp2_with fail
    go_ret2
    exact ⟨rfl, hn⟩
  | true =>
    obtain ⟨hst, hg, hz⟩ := h rfl
    rw [show endR x true = (Tm.endOf x).map Tm.text from rfl]
    obtain ⟨y, hy⟩ : ∃ y, y = (if x.fits = true then (x.many 6000).1 else x) := ⟨_, rfl⟩
    obtain ⟨b, hb⟩ : ∃ b, b = (x.fits && y.step.isNone) := ⟨_, rfl⟩
    have hnorm : ∀ W s ao m c, ST W x (.agg #[str s, .slice ao m c]) → Calls Try.prog 27 #[.agg #[str s, .slice ao m c]] W (SNormPost W y b) := by
      intro W s ao m c h
      cases hfa : x.fits with
      | false =>
        rw [hfa] at hy hb
        simp only [Bool.false_eq_true, if_false, Bool.false_and] at hy hb
        rw [hy, hb]
        exact s_normal_no W _ s ao m c h hg hz hfa
      | true =>
        rw [hfa] at hy hb
        simp only [if_true, Bool.true_and] at hy hb
        rw [hb, hy]
        exact s_normal W _ s ao m c h hg hfa
    have hfin : (Tm.endOf x).map Tm.text = if b = true then some y.text else none := by
      rw [Tm.endOf_eq]
      simp only [normal_none]
      cases hfa : x.fits with
      | false => rw [hfa] at hb; simp only [Bool.false_and] at hb; simp [hb]
      | true =>
        rw [hfa] at hy hb
        simp only [if_true, Bool.true_and] at hy hb
        rw [hb, hy]
        cases (x.many 6000).1.step.isNone <;> rfl
    have hgx : b = true → y.good = true ∧ y.text.length ≤ 100000000 := by
      intro hbt
      rw [hbt] at hb
      obtain ⟨hfa, _⟩ := Bool.and_eq_true_iff.1 hb.symm
      rw [hfa] at hy
      simp only [if_true] at hy
      obtain ⟨hgm, hfm⟩ := Tm.many_good 6000 _ hg hfa
      rw [← hy] at hgm hfm
      have htm := Tm.text_le _ hgm
      have hsm := fits_size hfm
      exact ⟨hgm, by omega⟩
    rw [hfin]
    have HGX := Lib.hid hgx
    have hn := After.new w (.cells #[str s, .slice ao m c] 32)
    have hbox := heap_new' w (.cells #[str s, .slice ao m c] 32)
    obtain ⟨k0, k1, _, _, _⟩ := pair_facts hbox (After.refl _)
    have hcall := hnorm _ _ _ _ _ (hst.later hn)
    unfold SNormPost at hcall
    clear hfin hy hb hgx hnorm hst hbox h
    cases b
    all_goals
      simp only [if_true, Bool.false_eq_true, if_false]
      go_enter Try.func36, Try.ntmps36
      go_wp2_with fail
      refine hcall.mono ?_
      rintro e w4 ⟨s4, ao4, n4, c4, rfl, hb4, ht4⟩
      have hw4 := After.alloc (hn.trans hb4) (.cells #[str s4, .slice ao4 n4 c4] 32)
      first
        | (have htext := (ht4.later (After.new w4 (.cells #[str s4, .slice ao4 n4 c4] 32))).text (HGX.out (by trivial)).1 (HGX.out (by trivial)).2
           clear ht4 hcall HGX
           go_wp2_with (go_at_call 29; refine htext.mono ?_; rintro e w5 ⟨rfl, hb5⟩)
           go_ret2
           exact ⟨rfl, hw4.trans hb5⟩)
        | (clear ht4 hcall HGX
           go_wp2_with fail
           go_ret2
           exact ⟨rfl, hw4⟩)
end Go.Proofs.Ytfpekihdoclncaa

namespace Go.Proofs.Ytfpekihdoclncaa
open Go.RowKit Go.Shelf

attribute [local go_sem] Oper.semAt_some

theorem absR_snoc (x : List UInt8) : ∀ (xs : List (List UInt8)) (t : Tm), absR (xs ++ [x]) t = Tm.abs x (absR xs t)
  | [], _ => rfl
  | y :: ys, t => by simp only [List.cons_append, absR]; exact absR_snoc x ys _

theorem absR_size : ∀ (xs : List (List UInt8)) (t : Tm), (absR xs t).size ≤ 4 ^ xs.length * t.size
  | [], t => by simp [absR]
  | x :: xs, t => by
    have h1 := absR_size xs (Tm.abs x t)
    have h2 := abs_size x t
    simp only [absR, List.length_cons, Nat.pow_succ]
    calc (absR xs (Tm.abs x t)).size ≤ 4 ^ xs.length * (Tm.abs x t).size := h1
      _ ≤ 4 ^ xs.length * (4 * t.size) := Nat.mul_le_mul_left _ (by omega)
      _ = 4 ^ xs.length * 4 * t.size := by rw [Nat.mul_assoc]

theorem absR_small (xs : List (List UInt8)) (t : Tm) (h5 : xs.length < 5) (hz : t.size ≤ 3900) : (absR xs t).size ≤ 1000000 := by
  have h1 := absR_size xs t
  have h3 : 4 ^ xs.length ≤ 4 ^ 4 := Nat.pow_le_pow_right (by decide) (by omega)
  have h4 : 4 ^ xs.length * t.size ≤ 256 * 3900 := Nat.mul_le_mul h3 hz
  omega

set_option maxRecDepth 100000 in
set_option maxHeartbeats 2000000 in
theorem absAll_any (w : World) (B : Nat) (names : List (List UInt8)) (sv : Value) (t : Tm) (v : Value) (hI : StrsB w.heap.size w sv names) (hT : TV w B t v) (hB : B ≤ w.heap.size) (hlen : names.length ≤ 5) (hz : t.size ≤ 3900) :
    Calls Try.prog 65 #[sv, v] w (TermPost w B (FT.absAll names t)) := by
  obtain ⟨T, x, rfl, _⟩ := hT.asks
  obtain ⟨ao, cap, rfl⟩ : ∃ ao cap, sv = .slice ao names.length cap := by
    rcases hI with ⟨ao, cap, rfl, rfl⟩ | ⟨b, off, cap, rfl, _⟩
    · exact ⟨_, _, rfl⟩
    · exact ⟨_, _, rfl⟩
  refine (callsIn_wide (n := 3)).1 ?_
  refine callsIn_of_wp_marks Try.func65 rfl trivial ?_ rfl
  simp only [Try.ntmps65, List.size_toArray, List.length_cons, List.length_nil, Nat.reduceAdd, Nat.reduceSub, Array.replicate_succ, Array.replicate_zero, List.push_toArray, List.append_toArray, List.nil_append, List.cons_append]
  gi_wp2_with (refine ⟨trivial, ?_⟩; gi_at_call 87; refine (back_in Fence.wide 2 trivial rfl _ _ _ _).mono ?_; rintro e w' ⟨rfl, rfl⟩)
  have b0 := Boxed.new w 39 (.iface T x)
  have b3 := Boxed.new (w.alloc (.cells #[.iface T x] 39)) 65 (.slice ao names.length cap)
  simp only [World.size_alloc] at b3
  have hB0 : Below w.heap.size w ((w.alloc (.cells #[.iface T x] 39)).alloc (.cells #[.slice ao names.length cap] 65)) := below_alloc (below_alloc (Below.refl _ _) _) _
  have hI' : StrsB w.heap.size ((w.alloc (.cells #[.iface T x] 39)).alloc (.cells #[.slice ao names.length cap] 65)) (.slice ao names.length cap) names := by
    rcases hI with h | ⟨b, off, cap', e, hb, hc⟩
    · exact Or.inl h
    · exact Or.inr ⟨b, off, cap', e, hb, fun j hj => cell_later' (hc j hj) _ hB0⟩
  refine wpIn_rangeFunc_ownG rfl (by omega) (gf := 101) (lb := #[.pointer (some ⟨w.heap.size + 1, 0, none⟩)]) rfl trivial (enters_of Try.func101 (by kernel_rfl) rfl)
    (back_stops Fence.wide 2 trivial rfl (by omega) (w.heap.size + 1) w.heap.size _ names (by omega) _ (by simp) (by simp; omega) b3.cell hI') KeepB.trans (keepB_b (by simp; omega) (by simp)) (Below.refl _ _) (fun _ => rfl)
    (fun pre W => (∃ u vu, absR (pre.map Prod.snd) t = u ∧ TV W B u vu ∧ Boxed W w.heap.size 39 vu ∧ w.heap.size + 1 < W.heap.size) ∧ Below w.heap.size w W)
    (fun _ _ _ => False)
    (OwnFrom.and (Own.from (fun s A C row hs hg hr => by
      obtain ⟨u, vu, h1, h3, h4, h7⟩ := hs
      exact ⟨u, vu, h1, h3.grownCells hg hr, box_kept h4 hg hr, Nat.lt_of_lt_of_le h7 hg.size⟩) _) (ownFrom_below (Nat.le_refl _) (by simp; omega)))
    (fun c => Own.from (fun s A C row hs hg hr => hs) _)
    ⟨⟨t, .iface T x, rfl, hT.below hB0, b0.alloc _, by simp⟩, hB0⟩
    (fun p => { tmps := #[.slice ao names.length cap, .iface T x, undef, .pointer (some ⟨w.heap.size, 0, none⟩), .nilIface, undef, str p.2, .slice ao names.length cap, .func (.func 101) #[] #[.pointer (some ⟨w.heap.size + 1, 0, none⟩)], .int .i64 (p.1 : Int), str p.2, undef, undef, undef, undef], defers := [] }) ?assign ?body ?done ?stop
  case assign =>
    intro l p W K hK
    gi_wp2
    exact hK
  case body =>
    rintro l pre p W ⟨⟨u, vu, h1, h3, h4, h7⟩, hBw⟩ hlt
    obtain ⟨T', x', rfl, _⟩ := h3.asks
    have c0 := h4.cell
    have hus : u.size ≤ 1000000 := by
      rw [← h1]
      exact absR_small _ _ (by rw [List.length_map]; omega) hz
    have hBW := Nat.le_trans hB hBw.size
    have hcall := abstraction_any W B p.2 u _ h3 hBW hus
    unfold TermPost at hcall
    gi_wp2_with (refine ⟨trivial, ?_⟩; gi_at_call 70; refine (CallsIn.inRound l (callsIn_wide.2 hcall)).mono ?_; rintro e w1 ⟨v1, rfl, hb1, ht1⟩; obtain ⟨T1, x1, rfl, _⟩ := ht1.asks; have g4 := box_later h4 hb1; have gc := g4.cell; have gf := g4.frozen; clear c0)
    have ht2 := TV.boxSet (u := .iface T1 x1) ht1 g4
    have e0 := Boxed.set (.iface T1 x1) g4
    have hs1 := hb1.size
    have hnext : absR ((pre ++ [p]).map Prod.snd) t = Tm.abs p.2 u := by
      rw [List.map_append, List.map_singleton, absR_snoc, h1]
    refine ⟨((keepsOthers_below hb1).trans (KeepsOthers.setCell _ _ _)).from _, (keepB_below hb1 (by omega) (by omega)).trans (keepB_set _ (Nat.le_refl _) (by omega)), ⟨Tm.abs p.2 u, .iface T1 x1, hnext, ht2, e0, by simp [World.setCell]; omega⟩, ?_⟩
    exact (hBw.trans (hb1.mono hBw.size)).trans ((Below.refl w.heap.size w1).setCell (p := ⟨w.heap.size, 0, none⟩) (Nat.le_refl _) _)
  case done =>
    rintro D ys W hD rfl ⟨⟨u, vu, h1, h3, h4, h7⟩, hBw⟩ hK
    rw [back_take _ _ (Nat.le_refl _), List.take_of_length_le (by simp)] at h1
    obtain ⟨T', x', rfl, _⟩ := h3.asks
    have c4 := h4.cell
    have HN := Lib.hid h1
    clear h1
    gi_wp2
    refine ⟨by simp, .inl ⟨_, _, rfl, run_takeDeferred hK, ?_⟩⟩
    have ht := TV.grownCells h3 (grownBy_putObj' _ D (.deferred none)) (fun r e => by cases e; exact ⟨_, hK, rfl⟩)
    refine ⟨.iface T' x', ?_, .iface T' x', rfl, ?_, ?_⟩
    · simp [results, Try.results65, go_sem]
    · exact hBw.trans (belowK_b (w := w) (Nat.le_refl _) _ D _ _ (by simp at hD; omega) hK rfl rfl)
    · unfold FT.absAll
      rw [HN.out]
      exact ht
  case stop => rintro D c pre W hD ⟨k, hk, rfl⟩ h hK; exact h.elim
end Go.Proofs.Ytfpekihdoclncaa

namespace Go.Proofs.Ytfpekihdoclncaa
open Go.RowKit

set_option maxHeartbeats 1000000
set_option maxRecDepth 100000

theorem code_names (w : World) : Calls Try.prog 88 #[] w fun e w' => e = .returned (.slice (some ⟨w.heap.size, 0, none⟩) 3 3) ∧ w' = w.alloc (.cells #[str [120], str [121], str [122]] 9 (0, 0)) := by
  go_enter Try.func88, Try.ntmps88
  go_wp2_with fail
  go_ret
  exact ⟨rfl, rfl⟩

/-- Names in a block. -/
theorem strsB_of {W : World} {g m : Nat} (xs : List (List UInt8)) {fr : Nat × Nat} (hg : g < m) (h : W.heap[g]? = some (.cells (xs.map str).toArray 9 fr)) : StrsB m W (.slice (some ⟨g, 0, none⟩) xs.length xs.length) xs :=
  Or.inr ⟨g, 0, xs.length, rfl, hg, fun j hj => by
    rw [Nat.zero_add, cell_of_heap h]
    simp [hj]⟩

theorem kcode_any (w : World) (B : Nat) (hB : B ≤ w.heap.size) : Calls Try.prog 67 #[] w (TermPost w B Tm.kC) := by
  obtain ⟨os, hos⟩ : ∃ os : List Obj, os = [.cells #[str [120], str [121], str [122]] 9, .cells #[str [120]] 87] := ⟨_, rfl⟩
  have hX : allocL w os = (w.alloc (.cells #[str [120], str [121], str [122]] 9)).alloc (.cells #[str [120]] 87) := by rw [hos]; rfl
  have hA := allocL_below w os
  have hsz := allocL_size w os
  have h0 : (allocL w os).heap[w.heap.size]? = some (.cells #[str [120], str [121], str [122]] 9 (0, 0)) := by have := allocL_heap w os 0 (by rw [hos]; simp); simpa [hos] using this
  have h1 : (allocL w os).heap[w.heap.size + 1]? = some (.cells #[str [120]] 87 (0, 0)) := by have := allocL_heap w os 1 (by rw [hos]; simp); simpa [hos] using this
  have hx := nm_val (B := B) h1 (by omega)
  have hc := absAll_any (allocL w os) B [[120], [121], [122]] _ Tm.X _ (strsB_of (m := (allocL w os).heap.size) [[120], [121], [122]] (by rw [hsz, hos]; simp) h0) hx (Nat.le_trans hB hA.size) (by decide) (by decide +kernel)
  rw [show FT.absAll [[120], [121], [122]] Tm.X = Tm.kC by kernel_rfl] at hc
  rw [hX] at hc hA
  unfold TermPost at hc
  have hn := code_names w
  clear hx h0 h1 hX hsz hos
  go_enter Try.func67, Try.ntmps67
  go_wp2_with fail
  refine hn.mono ?_
  rintro e w1 ⟨rfl, rfl⟩
  clear hn
  go_wp2_with fail
  refine hc.mono ?_
  rintro e w2 ⟨v2, rfl, hb2, ht2⟩
  have HT := Lib.hid ht2
  clear ht2 hc
  go_wp2_with fail
  go_ret
  exact ⟨_, rfl, below_trans hA hb2, HT.out⟩

theorem scode_any (w : World) (B : Nat) (hB : B ≤ w.heap.size) : Calls Try.prog 68 #[] w (TermPost w B Tm.sC) := by
  obtain ⟨os, hos⟩ : ∃ os : List Obj, os = [.cells #[str [120], str [121], str [122]] 9, .cells #[str [121]] 87] := ⟨_, rfl⟩
  have hX : allocL w os = (w.alloc (.cells #[str [120], str [121], str [122]] 9)).alloc (.cells #[str [121]] 87) := by rw [hos]; rfl
  have hA := allocL_below w os
  have hsz := allocL_size w os
  have h0 : (allocL w os).heap[w.heap.size]? = some (.cells #[str [120], str [121], str [122]] 9 (0, 0)) := by have := allocL_heap w os 0 (by rw [hos]; simp); simpa [hos] using this
  have h1 : (allocL w os).heap[w.heap.size + 1]? = some (.cells #[str [121]] 87 (0, 0)) := by have := allocL_heap w os 1 (by rw [hos]; simp); simpa [hos] using this
  have hx := nm_val (B := B) h1 (by omega)
  have hc := absAll_any (allocL w os) B [[120], [121], [122]] _ Tm.Y _ (strsB_of (m := (allocL w os).heap.size) [[120], [121], [122]] (by rw [hsz, hos]; simp) h0) hx (Nat.le_trans hB hA.size) (by decide) (by decide +kernel)
  rw [show FT.absAll [[120], [121], [122]] Tm.Y = Tm.sC by kernel_rfl] at hc
  rw [hX] at hc hA
  unfold TermPost at hc
  have hn := code_names w
  clear hx h0 h1 hX hsz hos
  go_enter Try.func68, Try.ntmps68
  go_wp2_with fail
  refine hn.mono ?_
  rintro e w1 ⟨rfl, rfl⟩
  clear hn
  go_wp2_with fail
  refine hc.mono ?_
  rintro e w2 ⟨v2, rfl, hb2, ht2⟩
  have HT := Lib.hid ht2
  clear ht2 hc
  go_wp2_with fail
  go_ret
  exact ⟨_, rfl, below_trans hA hb2, HT.out⟩

theorem appC_any (w : World) (B : Nat) (f a : Tm) (v1 v2 : Value) (h1 : TV w B f v1) (h2 : TV w B a v2) (hB : B ≤ w.heap.size) (hz : f.size + a.size ≤ 100000000) :
    Calls Try.prog 69 #[v1, v2] w (TermPost w B (Tm.appC f a)) := by
  obtain ⟨os, hos⟩ : ∃ os : List Obj, os = [.cells #[] 76, .cells #[] 76] := ⟨_, rfl⟩
  have hX : allocL w os = (w.alloc (.cells #[] 76)).alloc (.cells #[] 76) := by rw [hos]; rfl
  have hA := allocL_below w os
  have g0 : (allocL w os).heap[w.heap.size]? = some (.cells #[] 76 (0, 0)) := by have := allocL_heap w os 0 (by rw [hos]; simp); simpa [hos] using this
  have g1 : (allocL w os).heap[w.heap.size + 1]? = some (.cells #[] 76 (0, 0)) := by have := allocL_heap w os 1 (by rw [hos]; simp); simpa [hos] using this
  have hk0 : TV (allocL w os) B .k (.iface 72 (.pointer (some ⟨w.heap.size, 0, none⟩))) := ⟨_, _, rfl, hB, g0⟩
  have hk1 : TV (allocL w os) B .k (.iface 72 (.pointer (some ⟨w.heap.size + 1, 0, none⟩))) := ⟨_, _, rfl, by omega, g1⟩
  have hp := pair_any (allocL w os) B f a v1 v2 (h1.below hA) (h2.below hA) (Nat.le_trans hB hA.size) hz
  have hps := Tm.size_pair f a
  unfold TermPost at hp
  rw [hX] at hp hk0 hk1 hA
  have HK0 := Lib.hid hk0
  have HK1 := Lib.hid hk1
  obtain ⟨T1, x1, rfl, _⟩ := h1.asks
  obtain ⟨T2, x2, rfl, _⟩ := h2.asks
  have hk : Tm.k.size = 1 := rfl
  clear g0 g1 hk0 hk1 hX hos h1 h2
  go_enter Try.func69, Try.ntmps69
  go_wp2_with fail
  refine hp.mono ?_
  rintro e w1 ⟨v3, rfl, hb1, ht1⟩
  have hb01 := below_trans hA hb1
  have hc2 := apply_any w1 B .k _ _ v3 (HK1.out.below hb1) ht1 (Nat.le_trans hB hb01.size) (by omega)
  clear ht1 hp
  go_wp2_with fail
  refine hc2.mono ?_
  rintro e w2 ⟨v4, rfl, hb2, ht2⟩
  have hb02 := below_trans hb01 hb2
  have hc3 := apply_any w2 B .k _ _ v4 (HK0.out.below (below_trans hb1 hb2)) ht2 (Nat.le_trans hB hb02.size) (by simp only [Tm.size]; omega)
  clear ht2 hc2
  go_wp2_with fail
  refine hc3.mono ?_
  rintro e w3 ⟨v5, rfl, hb3, ht3⟩
  have HT := Lib.hid ht3
  clear ht3 hc3
  go_wp2_with fail
  go_ret
  exact ⟨_, rfl, below_trans hb02 hb3, HT.out⟩

theorem as_k_k (W : World) (x : Value) : (Instr.typeAssert (.iface 72 x) 39 72 true).run Try.prog W = .ok (.tuple #[x, .bool true]) W := by kernel_rfl
theorem as_k_s (W : World) (x : Value) : (Instr.typeAssert (.iface 77 x) 39 72 true).run Try.prog W = .ok (.tuple #[.pointer none, .bool false]) W := by kernel_rfl
theorem as_k_n (W : World) (x : Value) : (Instr.typeAssert (.iface 85 x) 39 72 true).run Try.prog W = .ok (.tuple #[.pointer none, .bool false]) W := by kernel_rfl
theorem as_k_a (W : World) (x : Value) : (Instr.typeAssert (.iface 81 x) 39 72 true).run Try.prog W = .ok (.tuple #[.pointer none, .bool false]) W := by kernel_rfl
theorem as_s_s (W : World) (x : Value) : (Instr.typeAssert (.iface 77 x) 39 77 true).run Try.prog W = .ok (.tuple #[x, .bool true]) W := by kernel_rfl
theorem as_s_n (W : World) (x : Value) : (Instr.typeAssert (.iface 85 x) 39 77 true).run Try.prog W = .ok (.tuple #[.pointer none, .bool false]) W := by kernel_rfl
theorem as_s_a (W : World) (x : Value) : (Instr.typeAssert (.iface 81 x) 39 77 true).run Try.prog W = .ok (.tuple #[.pointer none, .bool false]) W := by kernel_rfl

theorem codeOf_any : ∀ {t : Tm} {w : World} {B : Nat} {v : Value}, TV w B t v → B ≤ w.heap.size → t.size ≤ 1000000 → Calls Try.prog 42 #[v] w (TermPost w B t.code) := by
  intro t
  induction t with
  | k =>
    intro w B v h hB _
    obtain ⟨b, fr, rfl, _, _⟩ := h
    have ha1 := as_k_k w (.pointer (some ⟨b, 0, none⟩))
    have hc := kcode_any w B hB
    unfold TermPost at hc
    go_enter Try.func42, Try.ntmps42
    go_wp2_with fail
    refine hc.mono ?_
    rintro e w1 ⟨v1, rfl, hb1, ht1⟩
    have HT := Lib.hid ht1
    clear ht1 hc
    go_wp2_with fail
    go_ret
    exact ⟨_, rfl, hb1, HT.out⟩
  | s =>
    intro w B v h hB _
    obtain ⟨b, fr, rfl, _, _⟩ := h
    have ha1 := as_k_s w (.pointer (some ⟨b, 0, none⟩))
    have ha2 := as_s_s w (.pointer (some ⟨b, 0, none⟩))
    have hc := scode_any w B hB
    unfold TermPost at hc
    go_enter Try.func42, Try.ntmps42
    go_wp2_with fail
    refine hc.mono ?_
    rintro e w1 ⟨v1, rfl, hb1, ht1⟩
    have HT := Lib.hid ht1
    clear ht1 hc
    go_wp2_with fail
    go_ret
    exact ⟨_, rfl, hb1, HT.out⟩
  | nm n =>
    intro w B v h hB _
    have HT := Lib.hid h
    obtain ⟨b, fr, rfl, _, _⟩ := h
    have ha1 := as_k_n w (.pointer (some ⟨b, 0, none⟩))
    have ha2 := as_s_n w (.pointer (some ⟨b, 0, none⟩))
    have ha3 := assert_n w (.pointer (some ⟨b, 0, none⟩))
    go_enter Try.func42, Try.ntmps42
    go_wp2_with fail
    go_ret
    exact ⟨_, rfl, Below.refl _ _, HT.out⟩
  | app f a ihf iha =>
    intro w B v h hB hz
    obtain ⟨b, fr, vf, va, rfl, hb, hh, hf, ha⟩ := h
    obtain ⟨T1, x1, rfl, _⟩ := hf.asks
    obtain ⟨T2, x2, rfl, _⟩ := ha.asks
    simp only [Tm.size] at hz
    have hzf := Tm.code_size_le f
    have hza := Tm.code_size_le a
    have h0 := cell_later' (cell_of_heap (i := 0) hh)
    have h1 := cell_later' (cell_of_heap (i := 1) hh)
    simp at h0 h1
    have ihf' := fun W' (hW : Below w.heap.size w W') => ihf (hf.below hW) (Nat.le_trans hB hW.size) (by omega)
    have iha' := fun W' (hW : Below w.heap.size w W') => iha (ha.below hW) (Nat.le_trans hB hW.size) (by omega)
    have ha1 := as_k_a w (.pointer (some ⟨b, 0, none⟩))
    have ha2 := as_s_a w (.pointer (some ⟨b, 0, none⟩))
    have ha3 := assert_app w (.pointer (some ⟨b, 0, none⟩))
    have hself := Below.refl w.heap.size w
    unfold TermPost at ihf' iha'
    clear ihf iha hf ha hh
    rw [show Tm.code (.app f a) = Tm.appC f.code a.code from rfl]
    go_enter Try.func42, Try.ntmps42
    go_wp2_with fail
    go_region_held3 (fun W' => Below w.heap.size w W') (first | assumption | exact hself.drew | go_keep)
      (first
        | (go_at_call_of 42 x1; refine (ihf' _ (by first | assumption | exact hself.drew)).mono ?_; rintro e w1 ⟨r1, rfl, hb1, ht1⟩; have HT1 := Lib.hid ht1; clear ht1; have hb1' := below_trans (by first | assumption | exact hself.drew) hb1)
        | (go_at_call_of 42 x2; refine (iha' _ (by assumption)).mono ?_; rintro e w2 ⟨r2, rfl, hb2, ht2⟩; have HT2 := Lib.hid ht2; clear ht2; have hb2' := below_trans (by assumption) hb2)
        | (go_at_call 69; refine (appC_any _ B f.code a.code r1 r2 (HT1.out.below hb2) HT2.out (Nat.le_trans hB hb2'.size) (by omega)).mono ?_; rintro e w3 ⟨r3, rfl, hb3, ht3⟩; have HT3 := Lib.hid ht3; clear ht3; have hb3' := below_trans hb2' hb3))
    all_goals
      go_wp2_with fail
      go_ret
      exact ⟨_, rfl, hb3', HT3.out⟩

end Go.Proofs.Ytfpekihdoclncaa
