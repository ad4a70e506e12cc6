/-
  The model's l4Closed, l4Small, l4End.
-/
import Derived.Test.YtfpekihdoclncaaGreatPkBA
import Derived.Test.YtfpekihdoclncaaGreatPkBB
import Derived.Test.YtfpekihdoclncaaGreatPkAJ
import Derived.Test.YtfpekihdoclncaaGreatPkAK
import Derived.Test.YtfpekihdoclncaaGreatPkAI
namespace Go.Proofs.YtfpekihdoclncaaGreat
open Go.RowKit

set_option maxHeartbeats 2000000
set_option maxRecDepth 100000

/-- What l4Small makes of a closed term. -/
def smallT (t : Tm) : Tm := if t.size ≤ 300 then t.code else t
def smallB (t : Tm) : Bool := if t.size ≤ 300 then t.code.fits else false
theorem small_eq {t : Tm} (hn : t.names [] = []) : smallB t = t.code.fits := by
  unfold smallB
  split
  · rfl
  · rename_i h
    have hge := Tm.code_size_ge t (fun n e => by subst e; simp [Tm.names] at hn) (fun x hx => by rw [hn] at hx; cases hx)
    have : ¬ t.code.size ≤ 3000 := by omega
    simp [Tm.fits, this]
theorem small_some {t : Tm} (h : smallB t = true) : smallT t = t.code := by
  unfold smallB at h
  unfold smallT
  split at h
  · rename_i h1; rw [if_pos h1]
  · cases h

theorem s_small4 (w : World) (t : Tm) (s : List UInt8) (ao : Option Addr) (m c : Nat) (h : ST w t (.agg #[str s, .slice ao m c])) (hg : t.good = true) (hz : t.size ≤ 1000000) (hn : t.names [] = []) :
    Calls Tryz.prog 17 #[.agg #[str s, .slice ao m c]] w (SNormPost w (smallT t) (smallB t)) := by
  obtain ⟨Y, hY⟩ : ∃ Y, Y = (w.alloc (.cells #[str s, .slice ao m c] 42)).alloc (.cells #[.string ⟨#[]⟩, .slice none 0 0] 42) := ⟨_, rfl⟩
  have hA : After w Y := by rw [hY]; exact (After.new _ _).alloc _
  have hq : Y.heap[w.heap.size]? = some (.cells #[str s, .slice ao m c] 42 (0, 0)) := by rw [hY]; exact heap_old2 _ _ _
  have hr : Y.heap[w.heap.size + 1]? = some (.cells #[.string ⟨#[]⟩, .slice none 0 0] 42 (0, 0)) := by rw [hY]; exact heap_new2 w _ _ _ rfl
  have HQ := Lib.hid hq
  have HR := Lib.hid hr
  have HA := Lib.hid hA
  have HT := Lib.hid (h.later hA)
  have hsize := (h.later hA).size hg (by omega)
  obtain ⟨q0, q1, _, _, _⟩ := pair_facts hq (After.refl Y)
  clear hq hr hA h
  by_cases h3 : t.size ≤ 300
  · have h3' : ¬ (300 : Int) < (t.size : Int) := by omega
    have e1 : smallT t = t.code := by unfold smallT; rw [if_pos h3]
    have e2 : smallB t = t.code.fits := by unfold smallB; rw [if_pos h3]
    rw [e1, e2]
    have hcz := Tm.code_size_le t
    have hgc := Tm.code_good t hg
    have hcl := closed_of hn
    have HN := Lib.hid hcl
    clear e1 e2 hcl
    go_enter Tryz.func17, Tryz.ntmps17
    go_wp2_with fail
    rw [← hY]
    clear hY
    refine hsize.mono ?_
    rintro e w1 ⟨rfl, hb1⟩
    obtain ⟨p0, p1, _, _, _⟩ := pair_facts HQ.out hb1
    have hcode := ST.code4 (HT.out.later hb1) HN.out
    unfold TreePost at hcode
    clear hsize q0 q1
    go_wp2_with fail
    refine hcode.mono ?_
    rintro e w2 ⟨s2, ao2, n2, c2, rfl, hb2, ht2⟩
    obtain ⟨X, hX⟩ : ∃ X, X = w2.alloc (.cells #[str s2, .slice ao2 n2 c2] 42) := ⟨_, rfl⟩
    have hal : After w2 X := by rw [hX]; exact After.new _ _
    have hGt : X.heap[w2.heap.size]? = some (.cells #[str s2, .slice ao2 n2 c2] 42 (0, 0)) := by rw [hX]; exact heap_new' _ _
    have hlt : w.heap.size + 1 < w2.heap.size := by have := (Array.getElem?_eq_some_iff.1 ((hb1.trans hb2).heap HR.out)).1; omega
    have HST := Lib.hid (ht2.later hal)
    have hAX := (hb1.trans hb2).trans hal
    have hself := After.refl X
    have hbf : ButFor X (w.heap.size + 1) X.drew := ⟨Nat.le_refl _, fun _ _ _ => rfl⟩
    have o0 : ∀ W, ButFor X (w.heap.size + 1) W → W.cell? ⟨w2.heap.size, 0, none⟩ = some (str s2) := fun W hW => hW.cell (by omega) (cell_of_heap (i := 0) hGt)
    have o1 : ∀ W, ButFor X (w.heap.size + 1) W → W.cell? ⟨w2.heap.size, 1, none⟩ = some (.slice ao2 n2 c2) := fun W hW => hW.cell (by omega) (cell_of_heap (i := 1) hGt)
    obtain ⟨b, hb⟩ : ∃ b, b = t.code.fits := ⟨_, rfl⟩
    have hfine := fun W (hW : After X W) => (HST.out.later hW).fine hgc (by omega)
    rw [← hb] at hfine
    have HB := Lib.hid hb
    clear ht2 hcode hGt hb p0 p1
    go_wp2_with fail
    rw [← hX]
    clear hX
    go_region_held3 (fun W' => ButFor X (w.heap.size + 1) W') (first | assumption | exact hbf | exact ButFor.alloc (by assumption) _ | exact hbf.alloc _ | exact ButFor.set (by assumption) _ _ | exact ButFor.set (ButFor.set (by assumption) _ _) _ _)
      (first
        | (go_at_call 37
           refine (hfine _ hself.drew).mono ?_
           rintro e w3 ⟨rfl, hb3⟩
           have hS3 : ButFor X (w.heap.size + 1) w3 := After.butFor (hself.drew.trans hb3)
           have hA3 := hAX.trans (hself.drew.trans hb3)
           have G := hA3.heap HR.out
           obtain ⟨z0, z1, z2, z3, z4⟩ := pair_facts G (After.refl _)))
    all_goals
      go_wp2_with fail
      exact bodyPost_ret (v := .tuple #[.agg #[str s2, .slice ao2 n2 c2], .bool b]) (by simp [results, Tryz.results17, go_sem, z0, z1]) rfl
        ⟨s2, ao2, n2, c2, by rw [HB.out], after_sets2 (HA.out.trans hA3) G (Nat.le_succ _) _ _, (HST.out.later (hself.drew.trans hb3)).sets2 (i := 0) (j := 1) G⟩
  · have h3' : (300 : Int) < (t.size : Int) := by omega
    have e1 : smallT t = t := by unfold smallT; rw [if_neg h3]
    have e2 : smallB t = false := by unfold smallB; rw [if_neg h3]
    rw [e1, e2]
    clear e1 e2
    go_enter Tryz.func17, Tryz.ntmps17
    go_wp2_with fail
    rw [← hY]
    clear hY
    refine hsize.mono ?_
    rintro e w1 ⟨rfl, hb1⟩
    obtain ⟨p0, p1, _, _, _⟩ := pair_facts HQ.out hb1
    have G := hb1.heap HR.out
    obtain ⟨z0, z1, z2, z3, z4⟩ := pair_facts G (After.refl _)
    have HT2 := Lib.hid ((HT.out.later hb1).sets2 (i := 0) (j := 1) (u := str s) (u' := .slice ao m c) G)
    clear hsize q0 q1
    go_wp2_with fail
    exact bodyPost_ret (v := .tuple #[.agg #[str s, .slice ao m c], .bool false]) (by simp [results, Tryz.results17, go_sem, z0, z1]) rfl
      ⟨s, ao, m, c, rfl, after_sets2 (HA.out.trans hb1) G (Nat.le_succ _) _ _, HT2.out⟩

/-- What is told of an end. -/
def endR (x : Tm) (ok : Bool) : Option (List UInt8) := if ok = true then (Tm.endOf x).map Tm.text else none

theorem s_end4 (w : World) (x : Tm) (ok : Bool) (s : List UInt8) (ao : Option Addr) (m c : Nat) (h : ok = true → ST w x (.agg #[str s, .slice ao m c]) ∧ x.good = true ∧ x.size ≤ 1000000) :
    Calls Tryz.prog 18 #[.agg #[str s, .slice ao m c], .bool ok] w fun e w' => e = .returned (.tuple #[str ((endR x ok).getD []), .bool (endR x ok).isSome]) ∧ After w w' := by
  cases ok with
  | false =>
    have hn := After.new w (.cells #[str s, .slice ao m c] 42)
    rw [show endR x false = none from rfl]
    clear h
    go_enter Tryz.func18, Tryz.ntmps18
    go_wp2_with fail
    go_ret2
    exact ⟨rfl, hn⟩
  | true =>
    obtain ⟨hst, hg, hz⟩ := h rfl
    rw [show endR x true = (Tm.endOf x).map Tm.text from rfl]
    obtain ⟨y, hy⟩ : ∃ y, y = (if x.fits = true then (x.many 6000).1 else x) := ⟨_, rfl⟩
    obtain ⟨b, hb⟩ : ∃ b, b = (x.fits && y.step.isNone) := ⟨_, rfl⟩
    have hnorm : ∀ W s ao m c, ST W x (.agg #[str s, .slice ao m c]) → Calls Tryz.prog 38 #[.agg #[str s, .slice ao m c]] W (SNormPost W y b) := by
      intro W s ao m c h
      cases hfa : x.fits with
      | false =>
        rw [hfa] at hy hb
        simp only [Bool.false_eq_true, if_false, Bool.false_and] at hy hb
        rw [hy, hb]
        exact s_normal_no W _ s ao m c h hg hz hfa
      | true =>
        rw [hfa] at hy hb
        simp only [if_true, Bool.true_and] at hy hb
        rw [hb, hy]
        exact s_normal W _ s ao m c h hg hfa
    have hfin : (Tm.endOf x).map Tm.text = if b = true then some y.text else none := by
      rw [Tm.endOf_eq]
      simp only [normal_none]
      cases hfa : x.fits with
      | false => rw [hfa] at hb; simp only [Bool.false_and] at hb; simp [hb]
      | true =>
        rw [hfa] at hy hb
        simp only [if_true, Bool.true_and] at hy hb
        rw [hb, hy]
        cases (x.many 6000).1.step.isNone <;> rfl
    have hgx : b = true → y.good = true ∧ y.text.length ≤ 100000000 := by
      intro hbt
      rw [hbt] at hb
      obtain ⟨hfa, _⟩ := Bool.and_eq_true_iff.1 hb.symm
      rw [hfa] at hy
      simp only [if_true] at hy
      obtain ⟨hgm, hfm⟩ := Tm.many_good 6000 _ hg hfa
      rw [← hy] at hgm hfm
      have htm := Tm.text_le _ hgm
      have hsm := fits_size hfm
      exact ⟨hgm, by omega⟩
    rw [hfin]
    have HGX := Lib.hid hgx
    have hn := After.new w (.cells #[str s, .slice ao m c] 42)
    have hbox := heap_new' w (.cells #[str s, .slice ao m c] 42)
    obtain ⟨k0, k1, _, _, _⟩ := pair_facts hbox (After.refl _)
    have hcall := hnorm _ _ _ _ _ (hst.later hn)
    unfold SNormPost at hcall
    clear hfin hy hb hgx hnorm hst hbox h
    cases b
    all_goals
      simp only [if_true, Bool.false_eq_true, if_false]
      go_enter Tryz.func18, Tryz.ntmps18
      go_wp2_with fail
      refine hcall.mono ?_
      rintro e w4 ⟨s4, ao4, n4, c4, rfl, hb4, ht4⟩
      have hw4 := After.alloc (hn.trans hb4) (.cells #[str s4, .slice ao4 n4 c4] 42)
      first
        | (have htext := (ht4.later (After.new w4 (.cells #[str s4, .slice ao4 n4 c4] 42))).text (HGX.out (by trivial)).1 (HGX.out (by trivial)).2
           clear ht4 hcall HGX
           go_wp2_with (go_at_call 39; refine htext.mono ?_; rintro e w5 ⟨rfl, hb5⟩)
           go_ret2
           exact ⟨rfl, hw4.trans hb5⟩)
        | (clear ht4 hcall HGX
           go_wp2_with fail
           go_ret2
           exact ⟨rfl, hw4⟩)
end Go.Proofs.YtfpekihdoclncaaGreat

namespace Go.Proofs.YtfpekihdoclncaaGreat
open Go.RowKit

set_option maxHeartbeats 2000000
set_option maxRecDepth 100000

def SPartsPost (w : World) (r : Option (Tm × Tm)) (e : Ending) (w' : World) : Prop :=
  ∃ s1 a1 n1 c1 s2 a2 n2 c2, e = .returned (.tuple #[.agg #[str s1, .slice a1 n1 c1], .agg #[str s2, .slice a2 n2 c2], .bool r.isSome]) ∧ After w w' ∧ ∀ m n, r = some (m, n) → ST w' m (.agg #[str s1, .slice a1 n1 c1]) ∧ ST w' n (.agg #[str s2, .slice a2 n2 c2])

end Go.Proofs.YtfpekihdoclncaaGreat

namespace Go.Proofs.YtfpekihdoclncaaGreat
open Go.RowKit

set_option maxHeartbeats 2000000
set_option maxRecDepth 100000

end Go.Proofs.YtfpekihdoclncaaGreat
