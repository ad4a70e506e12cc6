/-
  The model's exported functions ApplyOf, CodeOf, CodeWords.
-/
import Derived.Test.YtkmfnnmbhmjfgaaPkX
import Derived.Test.YtkmfnnmbhmjfgaaPkW
namespace Go.Proofs.Ytkmfnnmbhmjfgaa
open Go.RowKit

set_option maxHeartbeats 1000000
set_option maxRecDepth 100000

def SOne' (w : World) (r : Option (List UInt8)) (e : Ending) (w' : World) : Prop :=
  e = .returned (.tuple #[str (r.getD []), .bool r.isSome]) ∧ After w w'

theorem spec_apply (w : World) (l m : List UInt8) (hl : l.length ≤ 1000000000) (hm : m.length ≤ 1000000000) :
    Calls Try.prog 13 #[str l, str m] w (SOne' w (Tm.pApply l m)) := by
  have h1 := s_term w l hl
  have h2 := fun W => s_term W m hm
  unfold STermPost at h1 h2
  by_cases hb : ((Tm.parse l).isSome && (Tm.parse m).isSome) = false
  · have hfin : Tm.pApply l m = none := by
      unfold Tm.pApply
      split
      · rename_i h1 h2; rw [h1, h2] at hb; simp at hb
      · rfl
    rw [hfin]
    clear hfin
    generalize (Tm.parse l).isSome = p at *
    generalize (Tm.parse m).isSome = q at *
    cases p
    all_goals
      try simp only [Bool.true_and] at hb
      try subst hb
      go_enter Try.func13, Try.ntmps13
      go_wp2_with fail
      refine h1.mono ?_
      rintro e w1 ⟨s1, ao1, n1, c1, rfl, hb1, ht1⟩
      clear ht1
      go_wp2_with (go_at_call 33; refine (h2 _).mono ?_; rintro e w2 ⟨s2, ao2, n2, c2, rfl, hb2, ht2⟩; clear ht2)
      go_ret2
      exact ⟨rfl, After.alloc ((After.alloc hb1 _).trans hb2) _⟩
  · have hb' : ((Tm.parse l).isSome && (Tm.parse m).isSome) = true := by rw [Bool.not_eq_false] at hb; exact hb
    rw [Bool.and_eq_true, Option.isSome_iff_exists, Option.isSome_iff_exists] at hb'
    obtain ⟨⟨t, hp⟩, ⟨u, hq⟩⟩ := hb'
    clear hb
    rw [hp] at h1
    rw [hq] at h2
    obtain ⟨hg, hf, hs, _, _⟩ := Tm.parse_facts hp
    obtain ⟨hgu, hfu, hsu, _, _⟩ := Tm.parse_facts hq
    have hga : (t.app u).good = true := by simp [Tm.good, hg, hgu]
    have hsz : (t.app u).size ≤ 1000000 := by simp only [Tm.size]; omega
    obtain ⟨x, hx⟩ : ∃ x, x = (if (t.app u).fits = true then ((t.app u).many 6000).1 else t.app u) := ⟨_, rfl⟩
    obtain ⟨b, hb⟩ : ∃ b, b = ((t.app u).fits && x.step.isNone) := ⟨_, rfl⟩
    have hnorm : ∀ W s ao m c, ST W (t.app u) (.agg #[str s, .slice ao m c]) → Calls Try.prog 34 #[.agg #[str s, .slice ao m c]] W (SNormPost W x b) := by
      intro W s ao m c h
      cases hfa : (t.app u).fits with
      | false =>
        rw [hfa] at hx hb
        simp only [Bool.false_eq_true, if_false, Bool.false_and] at hx hb
        rw [hx, hb]
        exact s_normal_no W _ s ao m c h hga hsz hfa
      | true =>
        rw [hfa] at hx hb
        simp only [if_true, Bool.true_and] at hx hb
        rw [hb, hx]
        exact s_normal W _ s ao m c h hga hfa
    have hfin : Tm.pApply l m = if b = true then some x.text else none := by
      have hne := norm_eq (t.app u)
      simp only [normal_none] at hne
      simp only [Tm.pApply, hp, hq, hne]
      cases hfa : (t.app u).fits with
      | false => rw [hfa] at hb; simp only [Bool.false_and] at hb; simp [hb]
      | true =>
        rw [hfa] at hx hb
        simp only [if_true, Bool.true_and] at hx hb
        rw [hb, hx]
        cases ((t.app u).many 6000).1.step.isNone <;> rfl
    have hgx : b = true → x.good = true ∧ x.text.length ≤ 100000000 := by
      intro hbt
      rw [hbt] at hb
      obtain ⟨hfa, _⟩ := Bool.and_eq_true_iff.1 hb.symm
      rw [hfa] at hx
      simp only [if_true] at hx
      obtain ⟨hgm, hfm⟩ := Tm.many_good 6000 _ hga hfa
      rw [← hx] at hgm hfm
      have htm := Tm.text_le _ hgm
      have hsm := fits_size hfm
      exact ⟨hgm, by omega⟩
    rw [hfin]
    have HGX := Lib.hid hgx
    clear hfin hx hb hp hq hgx
    unfold SNormPost at hnorm
    cases b
    all_goals
      simp only [if_true, Bool.false_eq_true, if_false]
      go_enter Try.func13, Try.ntmps13
      go_wp2_with fail
      refine h1.mono ?_
      rintro e w1 ⟨s1, ao1, n1, c1, rfl, hb1, ht1⟩
      have HT1 := Lib.hid (ht1 t rfl)
      clear ht1 h1
      have hw1 := After.alloc hb1 (.cells #[str s1, .slice ao1 n1 c1] 32)
      go_wp2_with fail
      refine (h2 _).mono ?_
      rintro e w2 ⟨s2, ao2, n2, c2, rfl, hb2, ht2⟩
      have HT2 := Lib.hid (ht2 u rfl)
      clear ht2 h2
      have h2X : After w2 (w2.alloc (.cells #[str s2, .slice ao2 n2 c2] 32)) := After.new _ _
      have hA1 := After.trans hb2 h2X
      have hAX := After.trans hw1 hA1
      have hbox1 := hA1.heap (heap_new' w1 (.cells #[str s1, .slice ao1 n1 c1] 32))
      have hbox2 := heap_new' w2 (.cells #[str s2, .slice ao2 n2 c2] 32)
      have hT1 := HT1.out.later ((After.new w1 (.cells #[str s1, .slice ao1 n1 c1] 32)).trans hA1)
      have hT2 := HT2.out.later h2X
      have happ := s_app ((w2.alloc (.cells #[str s2, .slice ao2 n2 c2] 32)).alloc (.cells #[str s2, .slice ao2 n2 c2] 32)) t u s1 s2 ao1 ao2 n1 c1 n2 c2 (w2.heap.size + 1) (0, 0) (hT1.later (After.new _ _)) (hT2.later (After.new _ _)) (heap_new2 _ _ _ _ rfl)
      unfold TreePost at happ
      obtain ⟨k0, k1, _, _, l1⟩ := pair_facts hbox1 (After.refl _)
      obtain ⟨k2, k3, _, _, l2⟩ := pair_facts hbox2 (After.refl _)
      clear hT1 hT2 HT1 HT2
      go_wp2_with fail
      refine happ.mono ?_
      rintro e w3 ⟨s3, ao3, n3, c3, rfl, hb3, ht3⟩
      have hcall := hnorm _ _ _ _ _ ht3
      have hw3 := After.trans (After.alloc hAX (.cells #[str s2, .slice ao2 n2 c2] 32)) hb3
      clear ht3 happ k0 k1 k2 k3 hnorm
      go_wp2_with fail
      refine hcall.mono ?_
      rintro e w4 ⟨s4, ao4, n4, c4, rfl, hb4, ht4⟩
      have hw4 := After.alloc (hw3.trans hb4) (.cells #[str s4, .slice ao4 n4 c4] 32)
      first
        | (have htext := (ht4.later (After.new w4 (.cells #[str s4, .slice ao4 n4 c4] 32))).text (HGX.out (by trivial)).1 (HGX.out (by trivial)).2
           clear ht4 hcall HGX
           go_wp2_with (go_at_call 36; refine htext.mono ?_; rintro e w5 ⟨rfl, hb5⟩)
           go_ret2
           exact ⟨rfl, hw4.trans hb5⟩)
        | (clear ht4 hcall HGX
           go_wp2_with fail
           go_ret2
           exact ⟨rfl, hw4⟩)


theorem codeT_small {l : List UInt8} {t : Tm} (h : Tm.closedOf l = some t) : Tm.codeT l = if smallB t = true then some (smallT t) else none := by
  obtain ⟨_, hn⟩ := Tm.closed_facts h
  unfold Tm.codeT
  rw [h]
  have hb := small_eq hn
  show (if (Tm.code t).fits = true then some (Tm.code t) else none) = _
  rw [← hb]
  split
  · rename_i h1; rw [small_some h1]
  · rfl
theorem codeT_none {l : List UInt8} (h : Tm.closedOf l = none) : Tm.codeT l = none := by
  unfold Tm.codeT
  rw [h]
theorem small_facts {l : List UInt8} {t : Tm} (h : Tm.closedOf l = some t) : t.good = true ∧ t.size ≤ 3000 ∧ t.names [] = [] ∧ (smallT t).good = true ∧ (smallT t).size ≤ 39000 ∧ (smallB t = true → (smallT t).text.length ≤ 100000000) := by
  obtain ⟨hp, hn⟩ := Tm.closed_facts h
  obtain ⟨hg, hf, hs, _, htx⟩ := Tm.parse_facts hp
  have hcz := Tm.code_size_le t
  refine ⟨hg, hs, hn, ?_, ?_, ?_⟩
  · unfold smallT; split
    · exact Tm.code_good t hg
    · exact hg
  · unfold smallT; split <;> omega
  · intro hb
    have e := small_eq hn
    rw [hb] at e
    rw [small_some hb]
    have := text_small (Tm.code_good t hg) e.symm
    omega

theorem spec_codeOf (w : World) (l : List UInt8) (hl : l.length ≤ 1000000000) :
    Calls Try.prog 15 #[str l] w (SOne' w (Tm.pCodeOf l)) := by
  have hc := s_closed4 w l hl
  unfold SClosedPost at hc
  unfold Tm.pCodeOf
  cases hp : Tm.closedOf l with
  | none =>
    rw [hp] at hc
    rw [codeT_none hp]
    clear hp
    go_enter Try.func15, Try.ntmps15
    go_wp2_with fail
    refine hc.mono ?_
    rintro e w1 ⟨s1, ao1, n1, c1, rfl, hb1, ht1⟩
    clear ht1 hc
    go_wp2_with fail
    go_ret2
    exact ⟨rfl, hb1.alloc _⟩
  | some t =>
    obtain ⟨hg, hs, hn, hgx, hzx, htx⟩ := small_facts hp
    rw [codeT_small hp]
    rw [hp] at hc
    clear hp
    obtain ⟨x, hx⟩ : ∃ x, x = smallT t := ⟨_, rfl⟩
    obtain ⟨b, hb⟩ : ∃ b, b = smallB t := ⟨_, rfl⟩
    have hsm := fun W s ao m c h => s_small4 W t s ao m c h hg (by omega) hn
    unfold SNormPost at hsm
    rw [← hx, ← hb] at hsm ⊢
    rw [← hx] at hgx
    rw [← hx, ← hb] at htx
    have HTX := Lib.hid htx
    clear hx hb htx
    cases b
    all_goals
      simp only [if_true, Bool.false_eq_true, if_false]
      go_enter Try.func15, Try.ntmps15
      go_wp2_with fail
      refine hc.mono ?_
      rintro e w1 ⟨s1, ao1, n1, c1, rfl, hb1, ht1⟩
      have hal1 := After.new w1 (.cells #[str s1, .slice ao1 n1 c1] 32)
      have hbox1 := heap_new' w1 (.cells #[str s1, .slice ao1 n1 c1] 32)
      obtain ⟨k0, k1, _, _, _⟩ := pair_facts hbox1 (After.refl _)
      have hcall := hsm _ _ _ _ _ ((ht1 t rfl).later hal1)
      clear ht1 hc hbox1 hsm
      go_wp2_with fail
      refine hcall.mono ?_
      rintro e w2 ⟨s2, ao2, n2, c2, rfl, hb2, ht2⟩
      have hw2 := After.alloc ((hb1.trans hal1).trans hb2) (.cells #[str s2, .slice ao2 n2 c2] 32)
      first
        | (have htext := (ht2.later (After.new w2 (.cells #[str s2, .slice ao2 n2 c2] 32))).text hgx (HTX.out (by trivial))
           clear ht2 hcall HTX k0 k1
           go_wp2_with (go_at_call 36; refine htext.mono ?_; rintro e w5 ⟨rfl, hb5⟩)
           go_ret2
           exact ⟨rfl, hw2.trans hb5⟩)
        | (clear ht2 hcall HTX k0 k1
           go_wp2_with fail
           go_ret2
           exact ⟨rfl, hw2⟩)

theorem spec_codeWords (w : World) (l : List UInt8) :
    Calls Try.prog 19 #[str l] w (SOne' w (Tm.pWord l)) := by
  have k1 := s_run4 w
  have k2 := s_join4 w
  have k3 := s_quote4 w
  unfold TreePost at k1 k2 k3
  by_cases h0 : l = [114, 117, 110]
  · subst h0
    obtain ⟨hg, htx⟩ := Tm.word_good (w := [114, 117, 110]) (t := Tm.runC) rfl
    rw [show Tm.pWord [114, 117, 110] = some Tm.runC.text from rfl]
    go_enter Try.func19, Try.ntmps19
    go_wp2_with fail
    refine k1.mono ?_
    rintro e w1 ⟨s1, ao1, n1, c1, rfl, hb1, ht1⟩
    have htext := ht1.text hg (by omega)
    clear ht1 k1 k2 k3
    go_wp2_with (go_at_call 36; refine htext.mono ?_; rintro e w5 ⟨rfl, hb5⟩)
    go_ret2
    exact ⟨rfl, hb1.trans hb5⟩
  by_cases h1 : l = [106, 111, 105, 110]
  · subst h1
    obtain ⟨hg, htx⟩ := Tm.word_good (w := [106, 111, 105, 110]) (t := Tm.joinC) rfl
    rw [show Tm.pWord [106, 111, 105, 110] = some Tm.joinC.text from rfl]
    go_enter Try.func19, Try.ntmps19
    go_wp2_with fail
    refine k2.mono ?_
    rintro e w1 ⟨s1, ao1, n1, c1, rfl, hb1, ht1⟩
    have htext := ht1.text hg (by omega)
    clear ht1 k1 k2 k3
    go_wp2_with (go_at_call 36; refine htext.mono ?_; rintro e w5 ⟨rfl, hb5⟩)
    go_ret2
    exact ⟨rfl, hb1.trans hb5⟩
  by_cases h2 : l = [113, 117, 111, 116, 101]
  · subst h2
    obtain ⟨hg, htx⟩ := Tm.word_good (w := [113, 117, 111, 116, 101]) (t := Tm.quoteC) rfl
    rw [show Tm.pWord [113, 117, 111, 116, 101] = some Tm.quoteC.text from rfl]
    go_enter Try.func19, Try.ntmps19
    go_wp2_with fail
    refine k3.mono ?_
    rintro e w1 ⟨s1, ao1, n1, c1, rfl, hb1, ht1⟩
    have htext := ht1.text hg (by omega)
    clear ht1 k1 k2 k3
    go_wp2_with (go_at_call 36; refine htext.mono ?_; rintro e w5 ⟨rfl, hb5⟩)
    go_ret2
    exact ⟨rfl, hb1.trans hb5⟩
  have n0 : (l == [114, 117, 110]) = false := beq_eq_false_iff_ne.2 h0
  have n1 : (l == [106, 111, 105, 110]) = false := beq_eq_false_iff_ne.2 h1
  have n2 : (l == [113, 117, 111, 116, 101]) = false := beq_eq_false_iff_ne.2 h2
  have hw : Tm.pWord l = none := by simp [Tm.pWord, Tm.word, h0, h1, h2]
  rw [hw]
  clear hw h0 h1 h2 k1 k2 k3
  go_enter Try.func19, Try.ntmps19
  go_wp2_with fail
  go_ret2
  exact ⟨rfl, After.refl _⟩
end Go.Proofs.Ytkmfnnmbhmjfgaa

namespace Go.Proofs.Ytkmfnnmbhmjfgaa
open Go.RowKit

set_option maxHeartbeats 2000000
set_option maxRecDepth 100000

theorem s_end4' (w : World) (x : Tm) (ok : Bool) (v : Value) (hv : Yd.raw.holds v w) (h : ok = true → ST w x v ∧ x.good = true ∧ x.size ≤ 1000000) :
    Calls Try.prog 51 #[v, .bool ok] w fun e w' => e = .returned (.tuple #[str ((endR x ok).getD []), .bool (endR x ok).isSome]) ∧ After w w' := by
  obtain ⟨s, ao, n, c, rfl⟩ := hv
  exact s_end4 w x ok s ao n c h

theorem end_of {c : Option Tm} {t : Tm} {f : Tm → Tm} {b : Bool} (h : c = if b = true then some t else none) : (c.bind fun d => (Tm.endOf (f d)).map Tm.text) = endR (f t) b := by
  subst h
  unfold endR
  cases b <;> rfl

theorem fits_app {f a : Tm} (h : a.fits = false) : (Tm.app f a).fits = false := by
  cases hh : (Tm.app f a).fits with
  | false => rfl
  | true =>
    have hh := fits_size hh
    simp only [Tm.size, Tm.depth] at hh
    have : a.fits = true := by
      simp only [Tm.fits, Bool.and_eq_true, decide_eq_true_eq]
      exact ⟨by omega, by omega⟩
    rw [this] at h
    cases h
theorem small_good {t : Tm} (h : t.good = true) : (smallT t).good = true := by
  unfold smallT
  split
  · exact Tm.code_good t h
  · exact h
theorem code_has : ∀ (t : Tm) (n : List UInt8), Tm.has n t.code = Tm.has n t
  | .k, n => closed_of (by kernel_rfl) n
  | .s, n => closed_of (by kernel_rfl) n
  | .nm _, _ => rfl
  | .app f a, n => by simp [Tm.code, Tm.appC, Tm.has, Tm.pair, Tm.I, code_has f n, code_has a n]
theorem code_names_nil (t : Tm) (hn : t.names [] = []) : t.code.names [] = [] := by
  cases h : t.code.names [] with
  | nil => rfl
  | cons n ns =>
    have h1 := (Tm.mem_names n t.code []).1 (by rw [h]; simp)
    rcases h1 with h1 | h1
    · cases h1
    · rw [code_has, closed_of hn] at h1
      cases h1

theorem spec_codeRun (w : World) (l : List UInt8) (hl : l.length ≤ 1000000000) :
    Calls Try.prog 21 #[str l] w (SOne' w (Tm.pCodeRun l)) := by
  have hc := s_closed4 w l hl
  unfold SClosedPost at hc
  cases hp : Tm.closedOf l with
  | none =>
    rw [show Tm.pCodeRun l = none by unfold Tm.pCodeRun; rw [codeT_none hp]; rfl]
    rw [hp] at hc
    clear hp
    go_enter Try.func21, Try.ntmps21
    go_wp2_with fail
    refine hc.mono ?_
    rintro e w1 ⟨s1, ao1, n1, c1, rfl, hb1, ht1⟩
    clear ht1 hc
    go_wp2_with fail
    go_ret2
    exact ⟨rfl, hb1.alloc _⟩
  | some t =>
    obtain ⟨hg, hs, hn, hgx, hzx, htx⟩ := small_facts hp
    have hcT := codeT_small hp
    rw [hp] at hc
    obtain ⟨x, hx⟩ : ∃ x, x = smallT t := ⟨_, rfl⟩
    obtain ⟨b, hb⟩ : ∃ b, b = smallB t := ⟨_, rfl⟩
    have hsm := fun W s ao m c h => s_small4 W t s ao m c h hg (by omega) hn
    unfold SNormPost at hsm
    rw [← hx, ← hb] at hcT
    rw [← hx, ← hb] at hsm
    rw [← hx] at hgx hzx
    rw [show Tm.pCodeRun l = endR (.app Tm.runC x) b from end_of (f := fun c => .app Tm.runC c) hcT]
    have HG := Lib.hid (show (Tm.app Tm.runC x).good = true ∧ (Tm.app Tm.runC x).size ≤ 1000000 from ⟨by simp [Tm.good, run_good.1, hgx], by have := run_good.2; simp only [Tm.size]; omega⟩)
    clear hx hb hcT hp htx
    go_enter Try.func21, Try.ntmps21
    go_wp2_with fail
    refine hc.mono ?_
    rintro e w1 ⟨s1, ao1, n1, c1, rfl, hb1, ht1⟩
    have hal1 := After.new w1 (.cells #[str s1, .slice ao1 n1 c1] 32)
    have hbox1 := heap_new' w1 (.cells #[str s1, .slice ao1 n1 c1] 32)
    obtain ⟨k0, k1, k2, k3, k4⟩ := pair_facts hbox1 (After.refl _)
    have hcall := hsm _ _ _ _ _ ((ht1 t rfl).later hal1)
    clear ht1 hc hbox1 hsm k2 k3 k4
    go_wp2_with fail
    refine hcall.mono ?_
    rintro e w2 ⟨s2, ao2, n2, c2, rfl, hb2, ht2⟩
    have hal2 := After.new w2 (.cells #[str s2, .slice ao2 n2 c2] 32)
    have g2 := heap_new' w2 (.cells #[str s2, .slice ao2 n2 c2] 32)
    have st2 := ht2.later hal2
    have aY := ((hb1.trans hal1).trans hb2).trans hal2
    clear k0 k1 hcall ht2
    go_wp2_with fail
    generalize w2.alloc (.cells #[str s2, .slice ao2 n2 c2] 32) = Y at *
    generalize w2.heap.size = gg2 at *
    generalize w1.heap.size = g1 at *
    have G2 := Lib.hid g2
    have S2 := Lib.hid st2
    have AY := Lib.hid aY
    have hself := (After.refl Y).drew
    clear g2 st2 aY hal1 hal2 hb1 hb2
    rename_i KK hKK
    refine wp_region_reg (by kernel_rfl) (by kernel_rfl) After After.refl (fun _ _ _ h g => h.trans g)
      (yds [.tree (Tm.runC), .tree (x), .row [x], .tree (.app (Tm.runC) (x)), .lit (.bool b), .lit (.tuple #[str ((endR (.app (Tm.runC) (x)) b).getD []), .bool (endR (.app (Tm.runC) (x)) b).isSome]), .lit (str ((endR (.app (Tm.runC) (x)) b).getD [])), .lit (.bool (endR (.app (Tm.runC) (x)) b).isSome), .lit (str ((endR (.app (Tm.runC) (x)) b).getD [])), .lit (.bool (endR (.app (Tm.runC) (x)) b).isSome)]) yds_later (lt10 ?_ ?_ ?_ ?_ ?_ ?_ ?_ ?_ ?_ ?_) ?_
    · intro vs W hE hd K hK
      have hE' : After Y W := hself.trans hE
      exact do_call (Tm.runC) (f := 47) (args := #[]) (by kernel_rfl) (by kernel_rfl) (by kernel_rfl) (s_run4 W) hK
    · intro vs W hE hd K hK
      have hE' : After Y W := hself.trans hE
      have G := hE'.heap G2.out
      exact do_load (.tree (x)) (x := .tmp 6) (by kernel_rfl) (by kernel_rfl) (by kernel_rfl) (by kernel_rfl) (cell_of_heap (i := 0) G) (cell_of_heap (i := 1) G) ⟨_, _, _, _, rfl, S2.out.later hE'⟩ hK
    · intro vs W hE hd K hK
      have hE' : After Y W := hself.trans hE
      exact do_row1 (x := .tmp 21) (u := vs 1) (by kernel_rfl) (by kernel_rfl) (by kernel_rfl) (by kernel_rfl) (hd 1 (by kernel_rfl)) hK
    · intro vs W hE hd K hK
      have hE' : After Y W := hself.trans hE
      exact do_app (u1 := vs 0) (u2 := vs 2) (us := [x]) (by kernel_rfl) (by kernel_rfl) (by kernel_rfl) (hd 0 (by kernel_rfl)) (hd 2 (by kernel_rfl)) (by simp) hK
    · intro vs W hE hd K hK
      have hE' : After Y W := hself.trans hE
      exact do_pure (v := .bool b) (.lit (.bool b)) (by kernel_rfl) (by kernel_rfl) (by kernel_rfl) rfl hK
    · intro vs W hE hd K hK
      have hE' : After Y W := hself.trans hE
      exact do_calllit (v := .tuple #[str ((endR (.app (Tm.runC) (x)) b).getD []), .bool (endR (.app (Tm.runC) (x)) b).isSome]) (f := 51) (args := #[vs 3, vs 4]) (by kernel_rfl) (by kernel_rfl) (by kernel_rfl) (by rw [show vs 4 = .bool b from hd 4 (by kernel_rfl)]; exact s_end4' W (.app (Tm.runC) (x)) b (vs 3) (rawOf (hd 3 (by kernel_rfl))) (fun _ => ⟨stOf (hd 3 (by kernel_rfl)), HG.out.1, HG.out.2⟩)) hK
    · intro vs W hE hd K hK
      have hE' : After Y W := hself.trans hE
      exact do_extract0 (x := .tmp 25) (u := vs 5) (a := str ((endR (.app (Tm.runC) (x)) b).getD [])) (b := .bool (endR (.app (Tm.runC) (x)) b).isSome) (by kernel_rfl) (by kernel_rfl) (by kernel_rfl) (by kernel_rfl) (hd 5 (by kernel_rfl)) hK
    · intro vs W hE hd K hK
      have hE' : After Y W := hself.trans hE
      exact do_extract1 (x := .tmp 25) (u := vs 5) (a := str ((endR (.app (Tm.runC) (x)) b).getD [])) (b := .bool (endR (.app (Tm.runC) (x)) b).isSome) (by kernel_rfl) (by kernel_rfl) (by kernel_rfl) (by kernel_rfl) (hd 5 (by kernel_rfl)) hK
    · intro vs W hE hd K hK
      have hE' : After Y W := hself.trans hE
      exact do_pure (v := vs 6) (.lit (str ((endR (.app (Tm.runC) (x)) b).getD []))) (by kernel_rfl) (by kernel_rfl) (by kernel_rfl) (hd 6 (by kernel_rfl)) hK
    · intro vs W hE hd K hK
      have hE' : After Y W := hself.trans hE
      exact do_pure (v := vs 7) (.lit (.bool (endR (.app (Tm.runC) (x)) b).isSome)) (by kernel_rfl) (by kernel_rfl) (by kernel_rfl) (hd 7 (by kernel_rfl)) hK
    intro vs W hE hd
    have hE' : After Y W := hself.trans hE
    have er0 : vs 8 = str ((endR (.app (Tm.runC) (x)) b).getD []) := hd 8 (by decide)
    have er1 : vs 9 = .bool (endR (.app (Tm.runC) (x)) b).isSome := hd 9 (by decide)
    refine hKK _ _ ?_
    generalize hAA : frame _ _ vs = AA
    obtain rfl : AA = ⟨#[str l, undef, vs 8, vs 9, .pointer (some ⟨g1, 0, none⟩), .bool true, .pointer (some ⟨gg2, 0, none⟩), .bool b, .tuple #[.agg #[str s1, .slice ao1 n1 c1], .bool true], str l, .tuple #[.agg #[str s1, .slice ao1 n1 c1], .bool true], .agg #[str s1, .slice ao1 n1 c1], .bool true, .bool true, .bool false, .tuple #[.agg #[str s2, .slice ao2 n2 c2], .bool b], .agg #[str s1, .slice ao1 n1 c1], .tuple #[.agg #[str s2, .slice ao2 n2 c2], .bool b], .agg #[str s2, .slice ao2 n2 c2], .bool b, vs 0, vs 1, vs 2, vs 3, vs 4, vs 5, vs 6, vs 7], []⟩ := by rw [← hAA]; kernel_rfl
    clear hAA hd
    generalize vs 8 = rv0 at *
    subst er0
    generalize vs 9 = rv1 at *
    subst er1
    go_wp2_with fail
    go_ret2
    exact ⟨rfl, AY.out.trans hE'⟩

theorem spec_codeQuote (w : World) (l : List UInt8) (hl : l.length ≤ 1000000000) :
    Calls Try.prog 25 #[str l] w (SOne' w (Tm.pCodeQuote l)) := by
  have hc := s_closed4 w l hl
  unfold SClosedPost at hc
  cases hp : Tm.closedOf l with
  | none =>
    rw [show Tm.pCodeQuote l = none by unfold Tm.pCodeQuote; rw [codeT_none hp]; rfl]
    rw [hp] at hc
    clear hp
    go_enter Try.func25, Try.ntmps25
    go_wp2_with fail
    refine hc.mono ?_
    rintro e w1 ⟨s1, ao1, n1, c1, rfl, hb1, ht1⟩
    clear ht1 hc
    go_wp2_with fail
    go_ret2
    exact ⟨rfl, hb1.alloc _⟩
  | some t =>
    obtain ⟨hg, hs, hn, hgx, hzx, htx⟩ := small_facts hp
    have hcT := codeT_small hp
    rw [hp] at hc
    obtain ⟨x, hx⟩ : ∃ x, x = smallT t := ⟨_, rfl⟩
    obtain ⟨b, hb⟩ : ∃ b, b = smallB t := ⟨_, rfl⟩
    have hsm := fun W s ao m c h => s_small4 W t s ao m c h hg (by omega) hn
    unfold SNormPost at hsm
    rw [← hx, ← hb] at hcT
    rw [← hx, ← hb] at hsm
    rw [← hx] at hgx hzx
    cases b with
    | false =>
      rw [show Tm.pCodeQuote l = none by unfold Tm.pCodeQuote; rw [hcT]; rfl]
      clear hx hb hcT hp htx
      go_enter Try.func25, Try.ntmps25
      go_wp2_with fail
      refine hc.mono ?_
      rintro e w1 ⟨s1, ao1, n1, c1, rfl, hb1, ht1⟩
      have hal1 := After.new w1 (.cells #[str s1, .slice ao1 n1 c1] 32)
      have hbox1 := heap_new' w1 (.cells #[str s1, .slice ao1 n1 c1] 32)
      obtain ⟨k0, k1, k2, k3, k4⟩ := pair_facts hbox1 (After.refl _)
      have hcall := hsm _ _ _ _ _ ((ht1 t rfl).later hal1)
      clear ht1 hc hbox1 hsm k2 k3 k4
      go_wp2_with fail
      refine hcall.mono ?_
      rintro e w2 ⟨s2, ao2, n2, c2, rfl, hb2, ht2⟩
      clear ht2 hcall
      go_wp2_with fail
      go_ret2
      exact ⟨rfl, ((hb1.trans hal1).trans hb2).alloc _⟩
    | true =>
      have hxe : x = t.code := by rw [hx]; exact small_some hb.symm
      have hxf : x.fits = true := by rw [hxe, ← small_eq hn]; exact hb.symm
      have hxn : x.names [] = [] := by rw [hxe]; exact code_names_nil t hn
      have hxz := fits_size hxf
      have hcT' : Tm.codeT l = some x := hcT
      have hqq : Tm.pCodeQuote l = (Tm.endOf (.app Tm.runC x.code)).map Tm.text := by unfold Tm.pCodeQuote; rw [hcT']; rfl
      obtain ⟨y, hy⟩ : ∃ y, y = smallT x := ⟨_, rfl⟩
      obtain ⟨b3, hb3e⟩ : ∃ b3, b3 = smallB x := ⟨_, rfl⟩
      have hgy : y.good = true := by rw [hy]; exact small_good hgx
      have hzy : y.size ≤ 39000 := by have := Tm.code_size_le x; rw [hy]; unfold smallT; split <;> omega
      have hfin : Tm.pCodeQuote l = endR (.app Tm.runC y) b3 := by
        rw [hqq]
        unfold endR
        rw [hb3e, hy]
        cases hbb : smallB x with
        | true => rw [small_some hbb]; rfl
        | false =>
          have hnf : x.code.fits = false := by rw [← small_eq hxn]; exact hbb
          have : (Tm.app Tm.runC x.code).fits = false := fits_app hnf
          simp [Tm.endOf, this]
      rw [hfin]
      have hsm2 := fun W s ao m c h => s_small4 W x s ao m c h hgx (by omega) hxn
      unfold SNormPost at hsm2
      rw [← hy, ← hb3e] at hsm2
      have HG := Lib.hid (show (Tm.app Tm.runC y).good = true ∧ (Tm.app Tm.runC y).size ≤ 1000000 from ⟨by simp [Tm.good, run_good.1, hgy], by have := run_good.2; simp only [Tm.size]; omega⟩)
      clear hx hb hcT hp htx hxe hxf hxn hcT' hqq hy hb3e hfin
      go_enter Try.func25, Try.ntmps25
      go_wp2_with fail
      refine hc.mono ?_
      rintro e w1 ⟨s1, ao1, n1, c1, rfl, hb1, ht1⟩
      have hal1 := After.new w1 (.cells #[str s1, .slice ao1 n1 c1] 32)
      have hbox1 := heap_new' w1 (.cells #[str s1, .slice ao1 n1 c1] 32)
      obtain ⟨k0, k1, k2, k3, k4⟩ := pair_facts hbox1 (After.refl _)
      have hcall := hsm _ _ _ _ _ ((ht1 t rfl).later hal1)
      clear ht1 hc hbox1 hsm k2 k3 k4
      go_wp2_with fail
      refine hcall.mono ?_
      rintro e w2 ⟨s2, ao2, n2, c2, rfl, hb2, ht2⟩
      have hal2 := After.new w2 (.cells #[str s2, .slice ao2 n2 c2] 32)
      have hbox2 := heap_new' w2 (.cells #[str s2, .slice ao2 n2 c2] 32)
      obtain ⟨j0, j1, j2, j3, j4⟩ := pair_facts hbox2 (After.refl _)
      have hcall2 := hsm2 _ _ _ _ _ (ht2.later hal2)
      clear k0 k1 hcall ht2 hbox2 hsm2 j2 j3 j4
      go_wp2_with fail
      refine hcall2.mono ?_
      rintro e w3 ⟨s3, ao3, n3, c3, rfl, hb3, ht3⟩
      have hal3 := After.new w3 (.cells #[str s3, .slice ao3 n3 c3] 32)
      have q3 := heap_new' w3 (.cells #[str s3, .slice ao3 n3 c3] 32)
      have st3 := ht3.later hal3
      have aY := ((((hb1.trans hal1).trans hb2).trans hal2).trans hb3).trans hal3
      clear j0 j1 hcall2 ht3
      go_wp2_with fail
      generalize w3.alloc (.cells #[str s3, .slice ao3 n3 c3] 32) = Y at *
      generalize w3.heap.size = g3 at *
      generalize w2.heap.size = g2 at *
      generalize w1.heap.size = g1 at *
      have G3 := Lib.hid q3
      have S3 := Lib.hid st3
      have AY := Lib.hid aY
      have hself := (After.refl Y).drew
      clear q3 st3 aY hal1 hal2 hal3 hb1 hb2 hb3
      rename_i KK hKK
      refine wp_region_reg (by kernel_rfl) (by kernel_rfl) After After.refl (fun _ _ _ h g => h.trans g)
        (yds [.tree (Tm.runC), .tree (y), .row [y], .tree (.app (Tm.runC) (y)), .lit (.bool b3), .lit (.tuple #[str ((endR (.app (Tm.runC) (y)) b3).getD []), .bool (endR (.app (Tm.runC) (y)) b3).isSome]), .lit (str ((endR (.app (Tm.runC) (y)) b3).getD [])), .lit (.bool (endR (.app (Tm.runC) (y)) b3).isSome), .lit (str ((endR (.app (Tm.runC) (y)) b3).getD [])), .lit (.bool (endR (.app (Tm.runC) (y)) b3).isSome)]) yds_later (lt10 ?_ ?_ ?_ ?_ ?_ ?_ ?_ ?_ ?_ ?_) ?_
      · intro vs W hE hd K hK
        have hE' : After Y W := hself.trans hE
        exact do_call (Tm.runC) (f := 47) (args := #[]) (by kernel_rfl) (by kernel_rfl) (by kernel_rfl) (s_run4 W) hK
      · intro vs W hE hd K hK
        have hE' : After Y W := hself.trans hE
        have G := hE'.heap G3.out
        exact do_load (.tree (y)) (x := .tmp 8) (by kernel_rfl) (by kernel_rfl) (by kernel_rfl) (by kernel_rfl) (cell_of_heap (i := 0) G) (cell_of_heap (i := 1) G) ⟨_, _, _, _, rfl, S3.out.later hE'⟩ hK
      · intro vs W hE hd K hK
        have hE' : After Y W := hself.trans hE
        exact do_row1 (x := .tmp 30) (u := vs 1) (by kernel_rfl) (by kernel_rfl) (by kernel_rfl) (by kernel_rfl) (hd 1 (by kernel_rfl)) hK
      · intro vs W hE hd K hK
        have hE' : After Y W := hself.trans hE
        exact do_app (u1 := vs 0) (u2 := vs 2) (us := [y]) (by kernel_rfl) (by kernel_rfl) (by kernel_rfl) (hd 0 (by kernel_rfl)) (hd 2 (by kernel_rfl)) (by simp) hK
      · intro vs W hE hd K hK
        have hE' : After Y W := hself.trans hE
        exact do_pure (v := .bool b3) (.lit (.bool b3)) (by kernel_rfl) (by kernel_rfl) (by kernel_rfl) rfl hK
      · intro vs W hE hd K hK
        have hE' : After Y W := hself.trans hE
        exact do_calllit (v := .tuple #[str ((endR (.app (Tm.runC) (y)) b3).getD []), .bool (endR (.app (Tm.runC) (y)) b3).isSome]) (f := 51) (args := #[vs 3, vs 4]) (by kernel_rfl) (by kernel_rfl) (by kernel_rfl) (by rw [show vs 4 = .bool b3 from hd 4 (by kernel_rfl)]; exact s_end4' W (.app (Tm.runC) (y)) b3 (vs 3) (rawOf (hd 3 (by kernel_rfl))) (fun _ => ⟨stOf (hd 3 (by kernel_rfl)), HG.out.1, HG.out.2⟩)) hK
      · intro vs W hE hd K hK
        have hE' : After Y W := hself.trans hE
        exact do_extract0 (x := .tmp 34) (u := vs 5) (a := str ((endR (.app (Tm.runC) (y)) b3).getD [])) (b := .bool (endR (.app (Tm.runC) (y)) b3).isSome) (by kernel_rfl) (by kernel_rfl) (by kernel_rfl) (by kernel_rfl) (hd 5 (by kernel_rfl)) hK
      · intro vs W hE hd K hK
        have hE' : After Y W := hself.trans hE
        exact do_extract1 (x := .tmp 34) (u := vs 5) (a := str ((endR (.app (Tm.runC) (y)) b3).getD [])) (b := .bool (endR (.app (Tm.runC) (y)) b3).isSome) (by kernel_rfl) (by kernel_rfl) (by kernel_rfl) (by kernel_rfl) (hd 5 (by kernel_rfl)) hK
      · intro vs W hE hd K hK
        have hE' : After Y W := hself.trans hE
        exact do_pure (v := vs 6) (.lit (str ((endR (.app (Tm.runC) (y)) b3).getD []))) (by kernel_rfl) (by kernel_rfl) (by kernel_rfl) (hd 6 (by kernel_rfl)) hK
      · intro vs W hE hd K hK
        have hE' : After Y W := hself.trans hE
        exact do_pure (v := vs 7) (.lit (.bool (endR (.app (Tm.runC) (y)) b3).isSome)) (by kernel_rfl) (by kernel_rfl) (by kernel_rfl) (hd 7 (by kernel_rfl)) hK
      intro vs W hE hd
      have hE' : After Y W := hself.trans hE
      have er0 : vs 8 = str ((endR (.app (Tm.runC) (y)) b3).getD []) := hd 8 (by decide)
      have er1 : vs 9 = .bool (endR (.app (Tm.runC) (y)) b3).isSome := hd 9 (by decide)
      refine hKK _ _ ?_
      generalize hAA : frame _ _ vs = AA
      obtain rfl : AA = ⟨#[str l, undef, vs 8, vs 9, .pointer (some ⟨g1, 0, none⟩), .bool true, .pointer (some ⟨g2, 0, none⟩), .bool true, .pointer (some ⟨g3, 0, none⟩), .bool b3, .tuple #[.agg #[str s1, .slice ao1 n1 c1], .bool true], str l, .tuple #[.agg #[str s1, .slice ao1 n1 c1], .bool true], .agg #[str s1, .slice ao1 n1 c1], .bool true, .bool true, .bool false, .tuple #[.agg #[str s2, .slice ao2 n2 c2], .bool true], .agg #[str s1, .slice ao1 n1 c1], .tuple #[.agg #[str s2, .slice ao2 n2 c2], .bool true], .agg #[str s2, .slice ao2 n2 c2], .bool true, .bool true, .bool false, .tuple #[.agg #[str s3, .slice ao3 n3 c3], .bool b3], .agg #[str s2, .slice ao2 n2 c2], .tuple #[.agg #[str s3, .slice ao3 n3 c3], .bool b3], .agg #[str s3, .slice ao3 n3 c3], .bool b3, vs 0, vs 1, vs 2, vs 3, vs 4, vs 5, vs 6, vs 7], []⟩ := by rw [← hAA]; kernel_rfl
      clear hAA hd
      generalize vs 8 = rv0 at *
      subst er0
      generalize vs 9 = rv1 at *
      subst er1
      go_wp2_with fail
      go_ret2
      exact ⟨rfl, AY.out.trans hE'⟩

end Go.Proofs.Ytkmfnnmbhmjfgaa

namespace Go.Proofs.Ytkmfnnmbhmjfgaa
open Go.RowKit

set_option maxHeartbeats 2000000
set_option maxRecDepth 100000

theorem join_of {c d : Option Tm} {t t' : Tm} {f : Tm → Tm → Tm} {b e : Bool} (h : c = if b = true then some t else none) (g : d = if e = true then some t' else none) : (c.bind fun x => d.bind fun y => (Tm.endOf (f x y)).map Tm.text) = endR (f t t') (b && e) := by
  subst h
  subst g
  unfold endR
  cases b <;> cases e <;> rfl

theorem spec_codeJoin (w : World) (l m : List UInt8) (hl : l.length ≤ 1000000000) (hm : m.length ≤ 1000000000) :
    Calls Try.prog 23 #[str l, str m] w (SOne' w (Tm.pCodeJoin l m)) := by
  have hc := s_closed4 w l hl
  have hd := fun W => s_closed4 W m hm
  unfold SClosedPost at hc hd
  cases hp : Tm.closedOf l with
  | none =>
    rw [show Tm.pCodeJoin l m = none by unfold Tm.pCodeJoin; rw [codeT_none hp]; rfl]
    rw [hp] at hc
    clear hp
    generalize (Tm.closedOf m).isSome = q at hd
    go_enter Try.func23, Try.ntmps23
    go_wp2_with fail
    refine hc.mono ?_
    rintro e w1 ⟨s1, ao1, n1, c1, rfl, hb1, ht1⟩
    clear ht1 hc
    go_wp2_with fail
    refine (hd _).mono ?_
    rintro e w2 ⟨s2, ao2, n2, c2, rfl, hb2, ht2⟩
    clear ht2 hd
    go_wp2_with fail
    go_ret2
    exact ⟨rfl, ((hb1.alloc _).trans hb2).alloc _⟩
  | some t =>
    cases hq : Tm.closedOf m with
    | none =>
      rw [show Tm.pCodeJoin l m = none by unfold Tm.pCodeJoin; rw [codeT_none hq]; cases Tm.codeT l <;> rfl]
      rw [hp] at hc
      simp only [hq] at hd
      clear hp hq
      go_enter Try.func23, Try.ntmps23
      go_wp2_with fail
      refine hc.mono ?_
      rintro e w1 ⟨s1, ao1, n1, c1, rfl, hb1, ht1⟩
      clear ht1 hc
      go_wp2_with fail
      refine (hd _).mono ?_
      rintro e w2 ⟨s2, ao2, n2, c2, rfl, hb2, ht2⟩
      clear ht2 hd
      go_wp2_with fail
      go_ret2
      exact ⟨rfl, ((hb1.alloc _).trans hb2).alloc _⟩
    | some t2 =>
      obtain ⟨hg, hs, hn, hgx, hzx, _⟩ := small_facts hp
      obtain ⟨hg2, hs2, hn2, hgy, hzy, _⟩ := small_facts hq
      have hcT := codeT_small hp
      have hdT := codeT_small hq
      rw [hp] at hc
      simp only [hq] at hd
      obtain ⟨x, hx⟩ : ∃ x, x = smallT t := ⟨_, rfl⟩
      obtain ⟨u, hu⟩ : ∃ b, b = smallB t := ⟨_, rfl⟩
      obtain ⟨y, hy⟩ : ∃ x, x = smallT t2 := ⟨_, rfl⟩
      obtain ⟨v, hv⟩ : ∃ b, b = smallB t2 := ⟨_, rfl⟩
      have hsm := fun W s ao m c h => s_small4 W t s ao m c h hg (by omega) hn
      have hsm2 := fun W s ao m c h => s_small4 W t2 s ao m c h hg2 (by omega) hn2
      unfold SNormPost at hsm hsm2
      rw [← hx, ← hu] at hcT
      rw [← hx, ← hu] at hsm
      rw [← hy, ← hv] at hdT
      rw [← hy, ← hv] at hsm2
      rw [← hx] at hgx hzx
      rw [← hy] at hgy hzy
      rw [show Tm.pCodeJoin l m = endR (.app (.app Tm.joinC x) y) (u && v) from join_of (f := fun c d => .app (.app Tm.joinC c) d) hcT hdT]
      have HG := Lib.hid (show (Tm.app (.app Tm.joinC x) y).good = true ∧ (Tm.app (.app Tm.joinC x) y).size ≤ 1000000 from ⟨by simp [Tm.good, join_good.1, hgx, hgy], by have := join_good.2; simp only [Tm.size]; omega⟩)
      clear hx hu hy hv hcT hdT hp hq hgx hgy
      cases u with
      | true =>
        rw [Bool.true_and]
        go_enter Try.func23, Try.ntmps23
        go_wp2_with fail
        refine hc.mono ?_
        rintro e w1 ⟨s1, ao1, n1, c1, rfl, hb1, ht1⟩
        have hal1 := After.new w1 (.cells #[str s1, .slice ao1 n1 c1] 32)
        have hbox1 := heap_new' w1 (.cells #[str s1, .slice ao1 n1 c1] 32)
        have HT1 := Lib.hid ((ht1 t rfl).later hal1)
        clear ht1 hc
        go_wp2_with fail
        refine (hd _).mono ?_
        rintro e w2 ⟨s2, ao2, n2, c2, rfl, hb2, ht2⟩
        have hal2 := After.new w2 (.cells #[str s2, .slice ao2 n2 c2] 32)
        have hbox2 := heap_new' w2 (.cells #[str s2, .slice ao2 n2 c2] 32)
        have hbox1' := (hb2.trans hal2).heap hbox1
        have HT2 := Lib.hid ((ht2 t2 rfl).later hal2)
        obtain ⟨k0, k1, k2, k3, k4⟩ := pair_facts hbox1' (After.refl _)
        have hcall := hsm _ _ _ _ _ (HT1.out.later (hb2.trans hal2))
        have HB2 := Lib.hid hbox2
        clear ht2 hd hbox1 hbox1' hbox2 hsm k2 k3 k4
        go_wp2_with fail
        refine hcall.mono ?_
        rintro e w3 ⟨s3, ao3, n3, c3, rfl, hb3, ht3⟩
        have hal3 := After.new w3 (.cells #[str s3, .slice ao3 n3 c3] 32)
        have q3 := heap_new' w3 (.cells #[str s3, .slice ao3 n3 c3] 32)
        have hbox2 := (hb3.trans hal3).heap HB2.out
        obtain ⟨j0, j1, j2, j3, j4⟩ := pair_facts hbox2 (After.refl _)
        have hcall2 := hsm2 _ _ _ _ _ (HT2.out.later (hb3.trans hal3))
        have HT3 := Lib.hid (ht3.later hal3)
        have Q3 := Lib.hid q3
        clear ht3 hcall hbox2 hsm2 q3 j2 j3 j4 k0 k1
        go_wp2_with fail
        refine hcall2.mono ?_
        rintro e w4 ⟨s4, ao4, n4, c4, rfl, hb4, ht4⟩
        have hal4 := After.new w4 (.cells #[str s4, .slice ao4 n4 c4] 32)
        have q4 := heap_new' w4 (.cells #[str s4, .slice ao4 n4 c4] 32)
        have q3 := (hb4.trans hal4).heap Q3.out
        have st3 := HT3.out.later (hb4.trans hal4)
        have st4 := ht4.later hal4
        have aY := ((((((hb1.trans hal1).trans hb2).trans hal2).trans hb3).trans hal3).trans hb4).trans hal4
        clear j0 j1 hcall2 ht4
        go_wp2_with fail
        generalize w4.alloc (.cells #[str s4, .slice ao4 n4 c4] 32) = Y at *
        generalize w4.heap.size = g4 at *
        generalize w3.heap.size = g3 at *
        generalize w2.heap.size = g2 at *
        generalize w1.heap.size = g1 at *
        have G3 := Lib.hid q3
        have G4 := Lib.hid q4
        have S3 := Lib.hid st3
        have S4 := Lib.hid st4
        have AY := Lib.hid aY
        have hself := (After.refl Y).drew
        clear q3 q4 st3 st4 aY hal1 hal2 hal3 hal4 hb1 hb2 hb3 hb4
        rename_i KK hKK
        refine wp_region_reg (by kernel_rfl) (by kernel_rfl) After After.refl (fun _ _ _ h g => h.trans g)
          (yds [.tree (Tm.joinC), .tree (x), .tree (y), .row [x, y], .tree (.app (.app (Tm.joinC) (x)) (y)), .lit (.bool true), .lit (.bool true), .lit (.bool v), .lit (.bool v), .lit (.tuple #[str ((endR (.app (.app (Tm.joinC) (x)) (y)) v).getD []), .bool (endR (.app (.app (Tm.joinC) (x)) (y)) v).isSome]), .lit (str ((endR (.app (.app (Tm.joinC) (x)) (y)) v).getD [])), .lit (.bool (endR (.app (.app (Tm.joinC) (x)) (y)) v).isSome), .lit (str ((endR (.app (.app (Tm.joinC) (x)) (y)) v).getD [])), .lit (.bool (endR (.app (.app (Tm.joinC) (x)) (y)) v).isSome)]) yds_later (lt14 ?_ ?_ ?_ ?_ ?_ ?_ ?_ ?_ ?_ ?_ ?_ ?_ ?_ ?_) ?_
        · intro vs W hE hd K hK
          have hE' : After Y W := hself.trans hE
          exact do_call (Tm.joinC) (f := 48) (args := #[]) (by kernel_rfl) (by kernel_rfl) (by kernel_rfl) (s_join4 W) hK
        · intro vs W hE hd K hK
          have hE' : After Y W := hself.trans hE
          have G := hE'.heap G3.out
          exact do_load (.tree (x)) (x := .tmp 10) (by kernel_rfl) (by kernel_rfl) (by kernel_rfl) (by kernel_rfl) (cell_of_heap (i := 0) G) (cell_of_heap (i := 1) G) ⟨_, _, _, _, rfl, S3.out.later hE'⟩ hK
        · intro vs W hE hd K hK
          have hE' : After Y W := hself.trans hE
          have G := hE'.heap G4.out
          exact do_load (.tree (y)) (x := .tmp 12) (by kernel_rfl) (by kernel_rfl) (by kernel_rfl) (by kernel_rfl) (cell_of_heap (i := 0) G) (cell_of_heap (i := 1) G) ⟨_, _, _, _, rfl, S4.out.later hE'⟩ hK
        · intro vs W hE hd K hK
          have hE' : After Y W := hself.trans hE
          exact do_row2 (x := .tmp 41) (y := .tmp 42) (u := vs 1) (v := vs 2) (by kernel_rfl) (by kernel_rfl) (by kernel_rfl) (by kernel_rfl) (by kernel_rfl) (hd 1 (by kernel_rfl)) (hd 2 (by kernel_rfl)) hK
        · intro vs W hE hd K hK
          have hE' : After Y W := hself.trans hE
          exact do_app (u1 := vs 0) (u2 := vs 3) (us := [x, y]) (by kernel_rfl) (by kernel_rfl) (by kernel_rfl) (hd 0 (by kernel_rfl)) (hd 3 (by kernel_rfl)) (by simp) hK
        · intro vs W hE hd K hK
          have hE' : After Y W := hself.trans hE
          exact do_pure (v := .bool true) (.lit (.bool true)) (by kernel_rfl) (by kernel_rfl) (by kernel_rfl) rfl hK
        · intro vs W hE hd K hK
          have hE' : After Y W := hself.trans hE
          exact do_pure (v := vs 5) (.lit (.bool true)) (by kernel_rfl) (by kernel_rfl) (by kernel_rfl) (hd 5 (by kernel_rfl)) hK
        · intro vs W hE hd K hK
          have hE' : After Y W := hself.trans hE
          exact do_on (j := 6) (u := vs 6) (v := .bool v) (.lit (.bool v)) (by kernel_rfl) (by kernel_rfl) (by kernel_rfl) (hd 6 (by kernel_rfl)) (by kernel_rfl) rfl hK
        · intro vs W hE hd K hK
          have hE' : After Y W := hself.trans hE
          exact do_pick (c := .tmp 46) (x := .tmp 47) (y := .const (.bool false)) (u := vs 6) (p := true) (r := .bool v) (by kernel_rfl) (by kernel_rfl) (by kernel_rfl) (by kernel_rfl) (hd 6 (by kernel_rfl)) (by rw [if_pos rfl]; exact Eq.trans (by kernel_rfl : _ = vs 7) (hd 7 (by kernel_rfl))) hK
        · intro vs W hE hd K hK
          have hE' : After Y W := hself.trans hE
          exact do_calllit (v := .tuple #[str ((endR (.app (.app (Tm.joinC) (x)) (y)) v).getD []), .bool (endR (.app (.app (Tm.joinC) (x)) (y)) v).isSome]) (f := 51) (args := #[vs 4, vs 8]) (by kernel_rfl) (by kernel_rfl) (by kernel_rfl) (by rw [show vs 8 = .bool v from hd 8 (by kernel_rfl)]; exact s_end4' W (.app (.app (Tm.joinC) (x)) (y)) v (vs 4) (rawOf (hd 4 (by kernel_rfl))) (fun _ => ⟨stOf (hd 4 (by kernel_rfl)), HG.out.1, HG.out.2⟩)) hK
        · intro vs W hE hd K hK
          have hE' : After Y W := hself.trans hE
          exact do_extract0 (x := .tmp 49) (u := vs 9) (a := str ((endR (.app (.app (Tm.joinC) (x)) (y)) v).getD [])) (b := .bool (endR (.app (.app (Tm.joinC) (x)) (y)) v).isSome) (by kernel_rfl) (by kernel_rfl) (by kernel_rfl) (by kernel_rfl) (hd 9 (by kernel_rfl)) hK
        · intro vs W hE hd K hK
          have hE' : After Y W := hself.trans hE
          exact do_extract1 (x := .tmp 49) (u := vs 9) (a := str ((endR (.app (.app (Tm.joinC) (x)) (y)) v).getD [])) (b := .bool (endR (.app (.app (Tm.joinC) (x)) (y)) v).isSome) (by kernel_rfl) (by kernel_rfl) (by kernel_rfl) (by kernel_rfl) (hd 9 (by kernel_rfl)) hK
        · intro vs W hE hd K hK
          have hE' : After Y W := hself.trans hE
          exact do_pure (v := vs 10) (.lit (str ((endR (.app (.app (Tm.joinC) (x)) (y)) v).getD []))) (by kernel_rfl) (by kernel_rfl) (by kernel_rfl) (hd 10 (by kernel_rfl)) hK
        · intro vs W hE hd K hK
          have hE' : After Y W := hself.trans hE
          exact do_pure (v := vs 11) (.lit (.bool (endR (.app (.app (Tm.joinC) (x)) (y)) v).isSome)) (by kernel_rfl) (by kernel_rfl) (by kernel_rfl) (hd 11 (by kernel_rfl)) hK
        intro vs W hE hd
        have hE' : After Y W := hself.trans hE
        have er0 : vs 12 = str ((endR (.app (.app (Tm.joinC) (x)) (y)) v).getD []) := hd 12 (by decide)
        have er1 : vs 13 = .bool (endR (.app (.app (Tm.joinC) (x)) (y)) v).isSome := hd 13 (by decide)
        refine hKK _ _ ?_
        generalize hAA : frame _ _ vs = AA
        obtain rfl : AA = ⟨#[str l, str m, undef, undef, vs 12, vs 13, .pointer (some ⟨g1, 0, none⟩), .bool true, .pointer (some ⟨g2, 0, none⟩), .bool true, .pointer (some ⟨g3, 0, none⟩), .bool true, .pointer (some ⟨g4, 0, none⟩), .bool v, .tuple #[.agg #[str s1, .slice ao1 n1 c1], .bool true], str l, .tuple #[.agg #[str s1, .slice ao1 n1 c1], .bool true], .agg #[str s1, .slice ao1 n1 c1], .bool true, .tuple #[.agg #[str s2, .slice ao2 n2 c2], .bool true], str m, .tuple #[.agg #[str s2, .slice ao2 n2 c2], .bool true], .agg #[str s2, .slice ao2 n2 c2], .bool true, .bool true, .bool false, .bool false, .bool true, .bool false, .bool false, .tuple #[.agg #[str s3, .slice ao3 n3 c3], .bool true], .agg #[str s1, .slice ao1 n1 c1], .tuple #[.agg #[str s3, .slice ao3 n3 c3], .bool true], .agg #[str s3, .slice ao3 n3 c3], .bool true, .tuple #[.agg #[str s4, .slice ao4 n4 c4], .bool v], .agg #[str s2, .slice ao2 n2 c2], .tuple #[.agg #[str s4, .slice ao4 n4 c4], .bool v], .agg #[str s4, .slice ao4 n4 c4], .bool v, vs 0, vs 1, vs 2, vs 3, vs 4, vs 5, vs 6, vs 7, vs 8, vs 9, vs 10, vs 11], []⟩ := by rw [← hAA]; kernel_rfl
        clear hAA hd
        generalize vs 12 = rv0 at *
        subst er0
        generalize vs 13 = rv1 at *
        subst er1
        go_wp2_with fail
        go_ret2
        exact ⟨rfl, AY.out.trans hE'⟩
      | false =>
        rw [Bool.false_and]
        go_enter Try.func23, Try.ntmps23
        go_wp2_with fail
        refine hc.mono ?_
        rintro e w1 ⟨s1, ao1, n1, c1, rfl, hb1, ht1⟩
        have hal1 := After.new w1 (.cells #[str s1, .slice ao1 n1 c1] 32)
        have hbox1 := heap_new' w1 (.cells #[str s1, .slice ao1 n1 c1] 32)
        have HT1 := Lib.hid ((ht1 t rfl).later hal1)
        clear ht1 hc
        go_wp2_with fail
        refine (hd _).mono ?_
        rintro e w2 ⟨s2, ao2, n2, c2, rfl, hb2, ht2⟩
        have hal2 := After.new w2 (.cells #[str s2, .slice ao2 n2 c2] 32)
        have hbox2 := heap_new' w2 (.cells #[str s2, .slice ao2 n2 c2] 32)
        have hbox1' := (hb2.trans hal2).heap hbox1
        have HT2 := Lib.hid ((ht2 t2 rfl).later hal2)
        obtain ⟨k0, k1, k2, k3, k4⟩ := pair_facts hbox1' (After.refl _)
        have hcall := hsm _ _ _ _ _ (HT1.out.later (hb2.trans hal2))
        have HB2 := Lib.hid hbox2
        clear ht2 hd hbox1 hbox1' hbox2 hsm k2 k3 k4
        go_wp2_with fail
        refine hcall.mono ?_
        rintro e w3 ⟨s3, ao3, n3, c3, rfl, hb3, ht3⟩
        have hal3 := After.new w3 (.cells #[str s3, .slice ao3 n3 c3] 32)
        have q3 := heap_new' w3 (.cells #[str s3, .slice ao3 n3 c3] 32)
        have hbox2 := (hb3.trans hal3).heap HB2.out
        obtain ⟨j0, j1, j2, j3, j4⟩ := pair_facts hbox2 (After.refl _)
        have hcall2 := hsm2 _ _ _ _ _ (HT2.out.later (hb3.trans hal3))
        have HT3 := Lib.hid (ht3.later hal3)
        have Q3 := Lib.hid q3
        clear ht3 hcall hbox2 hsm2 q3 j2 j3 j4 k0 k1
        go_wp2_with fail
        refine hcall2.mono ?_
        rintro e w4 ⟨s4, ao4, n4, c4, rfl, hb4, ht4⟩
        have hal4 := After.new w4 (.cells #[str s4, .slice ao4 n4 c4] 32)
        have q4 := heap_new' w4 (.cells #[str s4, .slice ao4 n4 c4] 32)
        have q3 := (hb4.trans hal4).heap Q3.out
        have st3 := HT3.out.later (hb4.trans hal4)
        have st4 := ht4.later hal4
        have aY := ((((((hb1.trans hal1).trans hb2).trans hal2).trans hb3).trans hal3).trans hb4).trans hal4
        clear j0 j1 hcall2 ht4
        go_wp2_with fail
        generalize w4.alloc (.cells #[str s4, .slice ao4 n4 c4] 32) = Y at *
        generalize w4.heap.size = g4 at *
        generalize w3.heap.size = g3 at *
        generalize w2.heap.size = g2 at *
        generalize w1.heap.size = g1 at *
        have G3 := Lib.hid q3
        have G4 := Lib.hid q4
        have S3 := Lib.hid st3
        have S4 := Lib.hid st4
        have AY := Lib.hid aY
        have hself := (After.refl Y).drew
        clear q3 q4 st3 st4 aY hal1 hal2 hal3 hal4 hb1 hb2 hb3 hb4
        rename_i KK hKK
        refine wp_region_reg (by kernel_rfl) (by kernel_rfl) After After.refl (fun _ _ _ h g => h.trans g)
          (yds [.tree (Tm.joinC), .tree (x), .tree (y), .row [x, y], .tree (.app (.app (Tm.joinC) (x)) (y)), .lit (.bool false), .lit (.bool false), .free, .lit (.bool false), .lit (.tuple #[str ((endR (.app (.app (Tm.joinC) (x)) (y)) false).getD []), .bool (endR (.app (.app (Tm.joinC) (x)) (y)) false).isSome]), .lit (str ((endR (.app (.app (Tm.joinC) (x)) (y)) false).getD [])), .lit (.bool (endR (.app (.app (Tm.joinC) (x)) (y)) false).isSome), .lit (str ((endR (.app (.app (Tm.joinC) (x)) (y)) false).getD [])), .lit (.bool (endR (.app (.app (Tm.joinC) (x)) (y)) false).isSome)]) yds_later (lt14 ?_ ?_ ?_ ?_ ?_ ?_ ?_ ?_ ?_ ?_ ?_ ?_ ?_ ?_) ?_
        · intro vs W hE hd K hK
          have hE' : After Y W := hself.trans hE
          exact do_call (Tm.joinC) (f := 48) (args := #[]) (by kernel_rfl) (by kernel_rfl) (by kernel_rfl) (s_join4 W) hK
        · intro vs W hE hd K hK
          have hE' : After Y W := hself.trans hE
          have G := hE'.heap G3.out
          exact do_load (.tree (x)) (x := .tmp 10) (by kernel_rfl) (by kernel_rfl) (by kernel_rfl) (by kernel_rfl) (cell_of_heap (i := 0) G) (cell_of_heap (i := 1) G) ⟨_, _, _, _, rfl, S3.out.later hE'⟩ hK
        · intro vs W hE hd K hK
          have hE' : After Y W := hself.trans hE
          have G := hE'.heap G4.out
          exact do_load (.tree (y)) (x := .tmp 12) (by kernel_rfl) (by kernel_rfl) (by kernel_rfl) (by kernel_rfl) (cell_of_heap (i := 0) G) (cell_of_heap (i := 1) G) ⟨_, _, _, _, rfl, S4.out.later hE'⟩ hK
        · intro vs W hE hd K hK
          have hE' : After Y W := hself.trans hE
          exact do_row2 (x := .tmp 41) (y := .tmp 42) (u := vs 1) (v := vs 2) (by kernel_rfl) (by kernel_rfl) (by kernel_rfl) (by kernel_rfl) (by kernel_rfl) (hd 1 (by kernel_rfl)) (hd 2 (by kernel_rfl)) hK
        · intro vs W hE hd K hK
          have hE' : After Y W := hself.trans hE
          exact do_app (u1 := vs 0) (u2 := vs 3) (us := [x, y]) (by kernel_rfl) (by kernel_rfl) (by kernel_rfl) (hd 0 (by kernel_rfl)) (hd 3 (by kernel_rfl)) (by simp) hK
        · intro vs W hE hd K hK
          have hE' : After Y W := hself.trans hE
          exact do_pure (v := .bool false) (.lit (.bool false)) (by kernel_rfl) (by kernel_rfl) (by kernel_rfl) rfl hK
        · intro vs W hE hd K hK
          have hE' : After Y W := hself.trans hE
          exact do_pure (v := vs 5) (.lit (.bool false)) (by kernel_rfl) (by kernel_rfl) (by kernel_rfl) (hd 5 (by kernel_rfl)) hK
        · intro vs W hE hd K hK
          have hE' : After Y W := hself.trans hE
          exact do_offg (j := 6) (b := true) (c := false) (u := vs 6) (by kernel_rfl) (by kernel_rfl) (by kernel_rfl) (hd 6 (by kernel_rfl)) (by decide) hK
        · intro vs W hE hd K hK
          have hE' : After Y W := hself.trans hE
          exact do_pick (c := .tmp 46) (x := .tmp 47) (y := .const (.bool false)) (u := vs 6) (p := false) (r := .bool false) (by kernel_rfl) (by kernel_rfl) (by kernel_rfl) (by kernel_rfl) (hd 6 (by kernel_rfl)) (by rw [if_neg (by decide)]; rfl) hK
        · intro vs W hE hd K hK
          have hE' : After Y W := hself.trans hE
          exact do_calllit (v := .tuple #[str ((endR (.app (.app (Tm.joinC) (x)) (y)) false).getD []), .bool (endR (.app (.app (Tm.joinC) (x)) (y)) false).isSome]) (f := 51) (args := #[vs 4, vs 8]) (by kernel_rfl) (by kernel_rfl) (by kernel_rfl) (by rw [show vs 8 = .bool false from hd 8 (by kernel_rfl)]; exact s_end4' W (.app (.app (Tm.joinC) (x)) (y)) false (vs 4) (rawOf (hd 4 (by kernel_rfl))) (fun _ => ⟨stOf (hd 4 (by kernel_rfl)), HG.out.1, HG.out.2⟩)) hK
        · intro vs W hE hd K hK
          have hE' : After Y W := hself.trans hE
          exact do_extract0 (x := .tmp 49) (u := vs 9) (a := str ((endR (.app (.app (Tm.joinC) (x)) (y)) false).getD [])) (b := .bool (endR (.app (.app (Tm.joinC) (x)) (y)) false).isSome) (by kernel_rfl) (by kernel_rfl) (by kernel_rfl) (by kernel_rfl) (hd 9 (by kernel_rfl)) hK
        · intro vs W hE hd K hK
          have hE' : After Y W := hself.trans hE
          exact do_extract1 (x := .tmp 49) (u := vs 9) (a := str ((endR (.app (.app (Tm.joinC) (x)) (y)) false).getD [])) (b := .bool (endR (.app (.app (Tm.joinC) (x)) (y)) false).isSome) (by kernel_rfl) (by kernel_rfl) (by kernel_rfl) (by kernel_rfl) (hd 9 (by kernel_rfl)) hK
        · intro vs W hE hd K hK
          have hE' : After Y W := hself.trans hE
          exact do_pure (v := vs 10) (.lit (str ((endR (.app (.app (Tm.joinC) (x)) (y)) false).getD []))) (by kernel_rfl) (by kernel_rfl) (by kernel_rfl) (hd 10 (by kernel_rfl)) hK
        · intro vs W hE hd K hK
          have hE' : After Y W := hself.trans hE
          exact do_pure (v := vs 11) (.lit (.bool (endR (.app (.app (Tm.joinC) (x)) (y)) false).isSome)) (by kernel_rfl) (by kernel_rfl) (by kernel_rfl) (hd 11 (by kernel_rfl)) hK
        intro vs W hE hd
        have hE' : After Y W := hself.trans hE
        have er0 : vs 12 = str ((endR (.app (.app (Tm.joinC) (x)) (y)) false).getD []) := hd 12 (by decide)
        have er1 : vs 13 = .bool (endR (.app (.app (Tm.joinC) (x)) (y)) false).isSome := hd 13 (by decide)
        refine hKK _ _ ?_
        generalize hAA : frame _ _ vs = AA
        obtain rfl : AA = ⟨#[str l, str m, undef, undef, vs 12, vs 13, .pointer (some ⟨g1, 0, none⟩), .bool true, .pointer (some ⟨g2, 0, none⟩), .bool true, .pointer (some ⟨g3, 0, none⟩), .bool false, .pointer (some ⟨g4, 0, none⟩), .bool v, .tuple #[.agg #[str s1, .slice ao1 n1 c1], .bool true], str l, .tuple #[.agg #[str s1, .slice ao1 n1 c1], .bool true], .agg #[str s1, .slice ao1 n1 c1], .bool true, .tuple #[.agg #[str s2, .slice ao2 n2 c2], .bool true], str m, .tuple #[.agg #[str s2, .slice ao2 n2 c2], .bool true], .agg #[str s2, .slice ao2 n2 c2], .bool true, .bool true, .bool false, .bool false, .bool true, .bool false, .bool false, .tuple #[.agg #[str s3, .slice ao3 n3 c3], .bool false], .agg #[str s1, .slice ao1 n1 c1], .tuple #[.agg #[str s3, .slice ao3 n3 c3], .bool false], .agg #[str s3, .slice ao3 n3 c3], .bool false, .tuple #[.agg #[str s4, .slice ao4 n4 c4], .bool v], .agg #[str s2, .slice ao2 n2 c2], .tuple #[.agg #[str s4, .slice ao4 n4 c4], .bool v], .agg #[str s4, .slice ao4 n4 c4], .bool v, vs 0, vs 1, vs 2, vs 3, vs 4, vs 5, vs 6, vs 7, vs 8, vs 9, vs 10, vs 11], []⟩ := by rw [← hAA]; kernel_rfl
        clear hAA hd
        generalize vs 12 = rv0 at *
        subst er0
        generalize vs 13 = rv1 at *
        subst er1
        go_wp2_with fail
        go_ret2
        exact ⟨rfl, AY.out.trans hE'⟩

theorem spec_fixOf (w : World) (l : List UInt8) (hl : l.length ≤ 1000000000) :
    Calls Try.prog 27 #[str l] w (SOne' w (Tm.pFixOf l)) := by
  have hterm := s_term w l hl
  unfold STermPost at hterm
  cases hp : Tm.parse l with
  | none =>
    rw [show Tm.pFixOf l = none by unfold Tm.pFixOf; rw [hp]; rfl]
    rw [hp] at hterm
    clear hp
    go_enter Try.func27, Try.ntmps27
    go_wp2_with fail
    refine hterm.mono ?_
    rintro e w1 ⟨s1, ao1, n1, c1, rfl, hb1, ht1⟩
    have hal1 := After.new w1 (.cells #[str s1, .slice ao1 n1 c1] 32)
    have q1 := heap_new' w1 (.cells #[str s1, .slice ao1 n1 c1] 32)
    have aY := hb1.trans hal1
    clear ht1 hterm
    go_wp2_with fail
    generalize w1.alloc (.cells #[str s1, .slice ao1 n1 c1] 32) = Y at *
    generalize w1.heap.size = g1 at *
    have G1 := Lib.hid q1
    have AY := Lib.hid aY
    have hself := (After.refl Y).drew
    clear q1 aY hal1 hb1 
    rename_i KK hKK
    refine wp_region_reg1 (n := 5) (by kernel_rfl) (by kernel_rfl) (by kernel_rfl) (by kernel_rfl) After After.refl (fun _ _ _ h g => h.trans g)
      (yds [.tree (Tm.fix), .raw, .rraw 1, .raw, .cell (Y.heap.size)]) yds_later (lt5 ?_ ?_ ?_ ?_ ?_) ?_
    · intro vs W hE hd K hK
      have hE' : After Y W := hself.trans hE
      exact do_call (Tm.fix) (f := 56) (args := #[]) (by kernel_rfl) (by kernel_rfl) (by kernel_rfl) (s_fix W) hK
    · intro vs W hE hd K hK
      have hE' : After Y W := hself.trans hE
      have G := hE'.heap G1.out
      exact do_load .raw (x := .tmp 4) (by kernel_rfl) (by kernel_rfl) (by kernel_rfl) (by kernel_rfl) (cell_of_heap (i := 0) G) (cell_of_heap (i := 1) G) ⟨_, _, _, _, rfl⟩ hK
    · intro vs W hE hd K hK
      have hE' : After Y W := hself.trans hE
      exact do_rraw1 (x := .tmp 13) (u := vs 1) (by kernel_rfl) (by kernel_rfl) (by kernel_rfl) (by kernel_rfl) (hd 1 (by kernel_rfl)) hK
    · intro vs W hE hd K hK
      have hE' : After Y W := hself.trans hE
      exact do_appraw (u1 := vs 0) (u2 := vs 2) (n := 1) (by kernel_rfl) (by kernel_rfl) (by kernel_rfl) (rawOf (hd 0 (by kernel_rfl))) (hd 2 (by kernel_rfl)) (by decide) hK
    · intro vs W hE hd K hK
      have hE' : After Y W := hself.trans hE
      exact do_cell (by kernel_rfl) (by kernel_rfl) hE'.size (by kernel_rfl) hK
    intro vs W hE hd K hK
    have hE' : After Y W := hself.trans hE
    obtain ⟨gg, ca, cb, ec, hg, G⟩ := hd 4 (by decide)
    refine do_store_raw (x := .tmp 6) (y := .tmp 15) (v := vs 3) (p := ca) (q := cb) (u := vs 4) (by kernel_rfl) (by kernel_rfl) (by kernel_rfl) (by kernel_rfl) (by kernel_rfl) ec (by kernel_rfl) (hd 3 (by decide)) G (fun rs ra rn rc hst => hK _ _ ?_)
    refine hKK _ _ ?_
    generalize hAA : frame _ _ vs = AA
    obtain rfl : AA = ⟨#[str l, undef, str [], .bool false, .pointer (some ⟨g1, 0, none⟩), .bool false, .pointer (some ⟨gg, 0, none⟩), .tuple #[.agg #[str s1, .slice ao1 n1 c1], .bool false], str l, .tuple #[.agg #[str s1, .slice ao1 n1 c1], .bool false], .agg #[str s1, .slice ao1 n1 c1], .bool false, vs 0, vs 1, vs 2, vs 3, undef, undef, undef, undef, undef, undef, undef, undef, undef], []⟩ := by rw [← hAA, ← ec]; kernel_rfl
    clear hAA hK
    have aW := after_sets2 hE' G hg (str rs) (.slice ra rn rc)
    clear hd hst ec
    go_wp2_with fail
    go_ret2
    exact ⟨rfl, AY.out.trans aW⟩
  | some t =>
    obtain ⟨hgd, hf, hs, _, _⟩ := Tm.parse_facts hp
    have hga : (Tm.app Tm.fix t).good = true := by
      have : Tm.fix.good = true := by decide +kernel
      simp [Tm.good, this, hgd]
    have hfz : Tm.fix.size ≤ 1000 := by decide +kernel
    rw [show Tm.pFixOf l = (if (Tm.app Tm.fix t).fits = true then some (Tm.text (.app .fix t)) else none) by unfold Tm.pFixOf; rw [hp]; rfl]
    rw [hp] at hterm
    clear hp
    obtain ⟨b, hb⟩ : ∃ b, b = (Tm.app Tm.fix t).fits := ⟨_, rfl⟩
    have htx : b = true → (Tm.app Tm.fix t).text.length ≤ 100000000 := fun h => by have := text_small hga (by rw [← hb, h]); omega
    have hfine := fun W v (h : ST W (.app .fix t) v) => h.fine hga (by simp only [Tm.size]; omega)
    rw [← hb] at hfine ⊢
    have HTX := Lib.hid htx
    clear hb htx
    cases b with
    | true =>
      simp only [if_true]
      go_enter Try.func27, Try.ntmps27
      go_wp2_with fail
      refine hterm.mono ?_
      rintro e w1 ⟨s1, ao1, n1, c1, rfl, hb1, ht1⟩
      have hal1 := After.new w1 (.cells #[str s1, .slice ao1 n1 c1] 32)
      have q1 := heap_new' w1 (.cells #[str s1, .slice ao1 n1 c1] 32)
      have st1 := (ht1 t rfl).later hal1
      have aY := hb1.trans hal1
      clear ht1 hterm
      go_wp2_with fail
      generalize w1.alloc (.cells #[str s1, .slice ao1 n1 c1] 32) = Y at *
      generalize w1.heap.size = g1 at *
      have G1 := Lib.hid q1
      have S1 := Lib.hid st1
      have AY := Lib.hid aY
      have hself := (After.refl Y).drew
      clear q1 aY hal1 hb1 st1
      rename_i KK hKK
      refine wp_region_reg1 (n := 5) (by kernel_rfl) (by kernel_rfl) (by kernel_rfl) (by kernel_rfl) After After.refl (fun _ _ _ h g => h.trans g)
        (yds [.tree (Tm.fix), .tree (t), .row [t], .tree (.app (Tm.fix) (t)), .cell (Y.heap.size)]) yds_later (lt5 ?_ ?_ ?_ ?_ ?_) ?_
      · intro vs W hE hd K hK
        have hE' : After Y W := hself.trans hE
        exact do_call (Tm.fix) (f := 56) (args := #[]) (by kernel_rfl) (by kernel_rfl) (by kernel_rfl) (s_fix W) hK
      · intro vs W hE hd K hK
        have hE' : After Y W := hself.trans hE
        have G := hE'.heap G1.out
        exact do_load (.tree (t)) (x := .tmp 4) (by kernel_rfl) (by kernel_rfl) (by kernel_rfl) (by kernel_rfl) (cell_of_heap (i := 0) G) (cell_of_heap (i := 1) G) ⟨_, _, _, _, rfl, S1.out.later hE'⟩ hK
      · intro vs W hE hd K hK
        have hE' : After Y W := hself.trans hE
        exact do_row1 (x := .tmp 13) (u := vs 1) (by kernel_rfl) (by kernel_rfl) (by kernel_rfl) (by kernel_rfl) (hd 1 (by kernel_rfl)) hK
      · intro vs W hE hd K hK
        have hE' : After Y W := hself.trans hE
        exact do_app (u1 := vs 0) (u2 := vs 2) (us := [t]) (by kernel_rfl) (by kernel_rfl) (by kernel_rfl) (hd 0 (by kernel_rfl)) (hd 2 (by kernel_rfl)) (by simp) hK
      · intro vs W hE hd K hK
        have hE' : After Y W := hself.trans hE
        exact do_cell (by kernel_rfl) (by kernel_rfl) hE'.size (by kernel_rfl) hK
      intro vs W hE hd K hK
      have hE' : After Y W := hself.trans hE
      obtain ⟨gg, ca, cb, ec, hg, G⟩ := hd 4 (by decide)
      refine do_store_at (.app (Tm.fix) (t)) (x := .tmp 6) (y := .tmp 15) (v := vs 3) (p := ca) (q := cb) (u := vs 4) (by kernel_rfl) (by kernel_rfl) (by kernel_rfl) (by kernel_rfl) (by kernel_rfl) ec (by kernel_rfl) (hd 3 (by decide)) G (fun rs ra rn rc hst => hK _ _ ?_)
      refine hKK _ _ ?_
      generalize hAA : frame _ _ vs = AA
      obtain rfl : AA = ⟨#[str l, undef, str [], .bool false, .pointer (some ⟨g1, 0, none⟩), .bool true, .pointer (some ⟨gg, 0, none⟩), .tuple #[.agg #[str s1, .slice ao1 n1 c1], .bool true], str l, .tuple #[.agg #[str s1, .slice ao1 n1 c1], .bool true], .agg #[str s1, .slice ao1 n1 c1], .bool true, vs 0, vs 1, vs 2, vs 3, undef, undef, undef, undef, undef, undef, undef, undef, undef], []⟩ := by rw [← hAA, ← ec]; kernel_rfl
      clear hAA hK
      have aW := after_sets2 hE' G hg (str rs) (.slice ra rn rc)
      have q2 := heap_sets2 (u := str rs) (u' := .slice ra rn rc) G
      obtain ⟨j0, j1, j2, j3, j4⟩ := pair_facts q2 (After.refl _)
      have hf1 := hfine _ _ hst
      have HST := Lib.hid hst
      have AW := Lib.hid (AY.out.trans aW)
      clear hd ec hst aW q2 j2 j3 j4 hfine
      generalize (W.setCell ⟨gg, 0, none⟩ (str rs)).setCell ⟨gg, 1, none⟩ (.slice ra rn rc) = X at *
      go_wp2_with (go_at_call 57; refine hf1.mono ?_; rintro e w2 ⟨rfl, hb2⟩; obtain ⟨i0, i1⟩ : w2.cell? ⟨gg, 0, none⟩ = some (str rs) ∧ w2.cell? ⟨gg, 1, none⟩ = some (.slice ra rn rc) := ⟨hb2.cell j0, hb2.cell j1⟩)
      have htext := (HST.out.later hb2).text hga (HTX.out (by trivial))
      refine htext.mono ?_
      rintro e w3 ⟨rfl, hb3⟩
      go_wp2_with fail
      go_ret2
      exact ⟨rfl, (AW.out.trans hb2).trans hb3⟩
    | false =>
      simp only [Bool.false_eq_true, if_false]
      go_enter Try.func27, Try.ntmps27
      go_wp2_with fail
      refine hterm.mono ?_
      rintro e w1 ⟨s1, ao1, n1, c1, rfl, hb1, ht1⟩
      have hal1 := After.new w1 (.cells #[str s1, .slice ao1 n1 c1] 32)
      have q1 := heap_new' w1 (.cells #[str s1, .slice ao1 n1 c1] 32)
      have st1 := (ht1 t rfl).later hal1
      have aY := hb1.trans hal1
      clear ht1 hterm
      go_wp2_with fail
      generalize w1.alloc (.cells #[str s1, .slice ao1 n1 c1] 32) = Y at *
      generalize w1.heap.size = g1 at *
      have G1 := Lib.hid q1
      have S1 := Lib.hid st1
      have AY := Lib.hid aY
      have hself := (After.refl Y).drew
      clear q1 aY hal1 hb1 st1
      rename_i KK hKK
      refine wp_region_reg1 (n := 5) (by kernel_rfl) (by kernel_rfl) (by kernel_rfl) (by kernel_rfl) After After.refl (fun _ _ _ h g => h.trans g)
        (yds [.tree (Tm.fix), .tree (t), .row [t], .tree (.app (Tm.fix) (t)), .cell (Y.heap.size)]) yds_later (lt5 ?_ ?_ ?_ ?_ ?_) ?_
      · intro vs W hE hd K hK
        have hE' : After Y W := hself.trans hE
        exact do_call (Tm.fix) (f := 56) (args := #[]) (by kernel_rfl) (by kernel_rfl) (by kernel_rfl) (s_fix W) hK
      · intro vs W hE hd K hK
        have hE' : After Y W := hself.trans hE
        have G := hE'.heap G1.out
        exact do_load (.tree (t)) (x := .tmp 4) (by kernel_rfl) (by kernel_rfl) (by kernel_rfl) (by kernel_rfl) (cell_of_heap (i := 0) G) (cell_of_heap (i := 1) G) ⟨_, _, _, _, rfl, S1.out.later hE'⟩ hK
      · intro vs W hE hd K hK
        have hE' : After Y W := hself.trans hE
        exact do_row1 (x := .tmp 13) (u := vs 1) (by kernel_rfl) (by kernel_rfl) (by kernel_rfl) (by kernel_rfl) (hd 1 (by kernel_rfl)) hK
      · intro vs W hE hd K hK
        have hE' : After Y W := hself.trans hE
        exact do_app (u1 := vs 0) (u2 := vs 2) (us := [t]) (by kernel_rfl) (by kernel_rfl) (by kernel_rfl) (hd 0 (by kernel_rfl)) (hd 2 (by kernel_rfl)) (by simp) hK
      · intro vs W hE hd K hK
        have hE' : After Y W := hself.trans hE
        exact do_cell (by kernel_rfl) (by kernel_rfl) hE'.size (by kernel_rfl) hK
      intro vs W hE hd K hK
      have hE' : After Y W := hself.trans hE
      obtain ⟨gg, ca, cb, ec, hg, G⟩ := hd 4 (by decide)
      refine do_store_at (.app (Tm.fix) (t)) (x := .tmp 6) (y := .tmp 15) (v := vs 3) (p := ca) (q := cb) (u := vs 4) (by kernel_rfl) (by kernel_rfl) (by kernel_rfl) (by kernel_rfl) (by kernel_rfl) ec (by kernel_rfl) (hd 3 (by decide)) G (fun rs ra rn rc hst => hK _ _ ?_)
      refine hKK _ _ ?_
      generalize hAA : frame _ _ vs = AA
      obtain rfl : AA = ⟨#[str l, undef, str [], .bool false, .pointer (some ⟨g1, 0, none⟩), .bool true, .pointer (some ⟨gg, 0, none⟩), .tuple #[.agg #[str s1, .slice ao1 n1 c1], .bool true], str l, .tuple #[.agg #[str s1, .slice ao1 n1 c1], .bool true], .agg #[str s1, .slice ao1 n1 c1], .bool true, vs 0, vs 1, vs 2, vs 3, undef, undef, undef, undef, undef, undef, undef, undef, undef], []⟩ := by rw [← hAA, ← ec]; kernel_rfl
      clear hAA hK
      have aW := after_sets2 hE' G hg (str rs) (.slice ra rn rc)
      have q2 := heap_sets2 (u := str rs) (u' := .slice ra rn rc) G
      obtain ⟨j0, j1, j2, j3, j4⟩ := pair_facts q2 (After.refl _)
      have hf1 := hfine _ _ hst
      have AW := Lib.hid (AY.out.trans aW)
      clear hd ec hst aW q2 j2 j3 j4 hfine
      generalize (W.setCell ⟨gg, 0, none⟩ (str rs)).setCell ⟨gg, 1, none⟩ (.slice ra rn rc) = X at *
      go_wp2_with (go_at_call 57; refine hf1.mono ?_; rintro e w2 ⟨rfl, hb2⟩)
      go_ret2
      exact ⟨rfl, AW.out.trans hb2⟩

theorem spec_fixApply (w : World) (l m : List UInt8) (hl : l.length ≤ 1000000000) (hm : m.length ≤ 1000000000) :
    Calls Try.prog 29 #[str l, str m] w (SOne' w (Tm.pFixApply l m)) := by
  have hterm := s_term w l hl
  have hterm2 := fun W => s_term W m hm
  unfold STermPost at hterm hterm2
  cases hp : Tm.parse l with
  | none =>
    rw [show Tm.pFixApply l m = none by unfold Tm.pFixApply; rw [hp]]
    rw [hp] at hterm
    simp only [Option.isSome_none] at hterm
    generalize (Tm.parse m).isSome = q at hterm2
    clear hp
    go_enter Try.func29, Try.ntmps29
    go_wp2_with fail
    refine hterm.mono ?_
    rintro e w1 ⟨s1, ao1, n1, c1, rfl, hb1, ht1⟩
    have hal1 := After.new w1 (.cells #[str s1, .slice ao1 n1 c1] 32)
    have q1 := heap_new' w1 (.cells #[str s1, .slice ao1 n1 c1] 32)
    clear ht1 hterm
    go_wp2_with fail
    refine (hterm2 _).mono ?_
    rintro e w2 ⟨s2, ao2, n2, c2, rfl, hb2, ht2⟩
    have hal2 := After.new w2 (.cells #[str s2, .slice ao2 n2 c2] 32)
    have q2 := heap_new' w2 (.cells #[str s2, .slice ao2 n2 c2] 32)
    have q1' := (hb2.trans hal2).heap q1
    have aY := ((hb1.trans hal1).trans hb2).trans hal2
    clear ht2 hterm2 q1
    go_wp2_with fail
    generalize w2.alloc (.cells #[str s2, .slice ao2 n2 c2] 32) = Y at *
    generalize w2.heap.size = g2 at *
    generalize w1.heap.size = g1 at *
    have G1 := Lib.hid q1'
    have G2 := Lib.hid q2
    have AY := Lib.hid aY
    have hself := (After.refl Y).drew
    clear q1' q2 aY hal1 hal2 hb1 hb2
    rename_i KK hKK
    refine wp_region_reg (by kernel_rfl) (by kernel_rfl) After After.refl (fun _ _ _ h g => h.trans g)
      (yds [.tree (Tm.fix), .raw, .raw, .rraw 2, .raw, .lit (.bool false), .lit (.bool false), .free, .lit (.bool false), .lit (.tuple #[str ((endR (Tm.k) false).getD []), .bool (endR (Tm.k) false).isSome]), .lit (str ((endR (Tm.k) false).getD [])), .lit (.bool (endR (Tm.k) false).isSome), .lit (str ((endR (Tm.k) false).getD [])), .lit (.bool (endR (Tm.k) false).isSome)]) yds_later (lt14 ?_ ?_ ?_ ?_ ?_ ?_ ?_ ?_ ?_ ?_ ?_ ?_ ?_ ?_) ?_
    · intro vs W hE hd K hK
      have hE' : After Y W := hself.trans hE
      exact do_call (Tm.fix) (f := 56) (args := #[]) (by kernel_rfl) (by kernel_rfl) (by kernel_rfl) (s_fix W) hK
    · intro vs W hE hd K hK
      have hE' : After Y W := hself.trans hE
      have G := hE'.heap G1.out
      exact do_load .raw (x := .tmp 6) (by kernel_rfl) (by kernel_rfl) (by kernel_rfl) (by kernel_rfl) (cell_of_heap (i := 0) G) (cell_of_heap (i := 1) G) ⟨_, _, _, _, rfl⟩ hK
    · intro vs W hE hd K hK
      have hE' : After Y W := hself.trans hE
      have G := hE'.heap G2.out
      exact do_load .raw (x := .tmp 8) (by kernel_rfl) (by kernel_rfl) (by kernel_rfl) (by kernel_rfl) (cell_of_heap (i := 0) G) (cell_of_heap (i := 1) G) ⟨_, _, _, _, rfl⟩ hK
    · intro vs W hE hd K hK
      have hE' : After Y W := hself.trans hE
      exact do_rraw2 (x := .tmp 21) (y := .tmp 22) (u := vs 1) (v := vs 2) (by kernel_rfl) (by kernel_rfl) (by kernel_rfl) (by kernel_rfl) (by kernel_rfl) (hd 1 (by kernel_rfl)) (hd 2 (by kernel_rfl)) hK
    · intro vs W hE hd K hK
      have hE' : After Y W := hself.trans hE
      exact do_appraw (u1 := vs 0) (u2 := vs 3) (n := 2) (by kernel_rfl) (by kernel_rfl) (by kernel_rfl) (rawOf (hd 0 (by kernel_rfl))) (hd 3 (by kernel_rfl)) (by decide) hK
    · intro vs W hE hd K hK
      have hE' : After Y W := hself.trans hE
      exact do_pure (v := .bool false) (.lit (.bool false)) (by kernel_rfl) (by kernel_rfl) (by kernel_rfl) rfl hK
    · intro vs W hE hd K hK
      have hE' : After Y W := hself.trans hE
      exact do_pure (v := vs 5) (.lit (.bool false)) (by kernel_rfl) (by kernel_rfl) (by kernel_rfl) (hd 5 (by kernel_rfl)) hK
    · intro vs W hE hd K hK
      have hE' : After Y W := hself.trans hE
      exact do_offg (j := 6) (b := true) (c := false) (u := vs 6) (by kernel_rfl) (by kernel_rfl) (by kernel_rfl) (hd 6 (by kernel_rfl)) (by decide) hK
    · intro vs W hE hd K hK
      have hE' : After Y W := hself.trans hE
      exact do_pick (c := .tmp 26) (x := .tmp 27) (y := .const (.bool false)) (u := vs 6) (p := false) (r := .bool false) (by kernel_rfl) (by kernel_rfl) (by kernel_rfl) (by kernel_rfl) (hd 6 (by kernel_rfl)) (by rw [if_neg (by decide)]; rfl) hK
    · intro vs W hE hd K hK
      have hE' : After Y W := hself.trans hE
      exact do_calllit (v := .tuple #[str ((endR (Tm.k) false).getD []), .bool (endR (Tm.k) false).isSome]) (f := 51) (args := #[vs 4, vs 8]) (by kernel_rfl) (by kernel_rfl) (by kernel_rfl) (by rw [show vs 8 = .bool false from hd 8 (by kernel_rfl)]; exact s_end4' W (Tm.k) false (vs 4) (hd 4 (by kernel_rfl)) (fun h => by cases h)) hK
    · intro vs W hE hd K hK
      have hE' : After Y W := hself.trans hE
      exact do_extract0 (x := .tmp 29) (u := vs 9) (a := str ((endR (Tm.k) false).getD [])) (b := .bool (endR (Tm.k) false).isSome) (by kernel_rfl) (by kernel_rfl) (by kernel_rfl) (by kernel_rfl) (hd 9 (by kernel_rfl)) hK
    · intro vs W hE hd K hK
      have hE' : After Y W := hself.trans hE
      exact do_extract1 (x := .tmp 29) (u := vs 9) (a := str ((endR (Tm.k) false).getD [])) (b := .bool (endR (Tm.k) false).isSome) (by kernel_rfl) (by kernel_rfl) (by kernel_rfl) (by kernel_rfl) (hd 9 (by kernel_rfl)) hK
    · intro vs W hE hd K hK
      have hE' : After Y W := hself.trans hE
      exact do_pure (v := vs 10) (.lit (str ((endR (Tm.k) false).getD []))) (by kernel_rfl) (by kernel_rfl) (by kernel_rfl) (hd 10 (by kernel_rfl)) hK
    · intro vs W hE hd K hK
      have hE' : After Y W := hself.trans hE
      exact do_pure (v := vs 11) (.lit (.bool (endR (Tm.k) false).isSome)) (by kernel_rfl) (by kernel_rfl) (by kernel_rfl) (hd 11 (by kernel_rfl)) hK
    intro vs W hE hd
    have hE' : After Y W := hself.trans hE
    have er0 : vs 12 = str ((endR (Tm.k) false).getD []) := hd 12 (by decide)
    have er1 : vs 13 = .bool (endR (Tm.k) false).isSome := hd 13 (by decide)
    refine hKK _ _ ?_
    generalize hAA : frame _ _ vs = AA
    obtain rfl : AA = ⟨#[str l, str m, undef, undef, vs 12, vs 13, .pointer (some ⟨g1, 0, none⟩), .bool false, .pointer (some ⟨g2, 0, none⟩), .bool q, .tuple #[.agg #[str s1, .slice ao1 n1 c1], .bool false], str l, .tuple #[.agg #[str s1, .slice ao1 n1 c1], .bool false], .agg #[str s1, .slice ao1 n1 c1], .bool false, .tuple #[.agg #[str s2, .slice ao2 n2 c2], .bool q], str m, .tuple #[.agg #[str s2, .slice ao2 n2 c2], .bool q], .agg #[str s2, .slice ao2 n2 c2], .bool q, vs 0, vs 1, vs 2, vs 3, vs 4, vs 5, vs 6, vs 7, vs 8, vs 9, vs 10, vs 11], []⟩ := by rw [← hAA]; kernel_rfl
    clear hAA hd
    generalize vs 12 = rv0 at *
    subst er0
    generalize vs 13 = rv1 at *
    subst er1
    go_wp2_with fail
    go_ret2
    exact ⟨rfl, AY.out.trans hE'⟩
  | some t =>
    cases hq : Tm.parse m with
    | none =>
      rw [show Tm.pFixApply l m = none by unfold Tm.pFixApply; rw [hp, hq]]
      rw [hp] at hterm
      simp only [hq, Option.isSome_none] at hterm2
      clear hp hq
      go_enter Try.func29, Try.ntmps29
      go_wp2_with fail
      refine hterm.mono ?_
      rintro e w1 ⟨s1, ao1, n1, c1, rfl, hb1, ht1⟩
      have hal1 := After.new w1 (.cells #[str s1, .slice ao1 n1 c1] 32)
      have q1 := heap_new' w1 (.cells #[str s1, .slice ao1 n1 c1] 32)
      clear ht1 hterm
      go_wp2_with fail
      refine (hterm2 _).mono ?_
      rintro e w2 ⟨s2, ao2, n2, c2, rfl, hb2, ht2⟩
      have hal2 := After.new w2 (.cells #[str s2, .slice ao2 n2 c2] 32)
      have q2 := heap_new' w2 (.cells #[str s2, .slice ao2 n2 c2] 32)
      have q1' := (hb2.trans hal2).heap q1
      have aY := ((hb1.trans hal1).trans hb2).trans hal2
      clear ht2 hterm2 q1
      go_wp2_with fail
      generalize w2.alloc (.cells #[str s2, .slice ao2 n2 c2] 32) = Y at *
      generalize w2.heap.size = g2 at *
      generalize w1.heap.size = g1 at *
      have G1 := Lib.hid q1'
      have G2 := Lib.hid q2
      have AY := Lib.hid aY
      have hself := (After.refl Y).drew
      clear q1' q2 aY hal1 hal2 hb1 hb2
      rename_i KK hKK
      refine wp_region_reg (by kernel_rfl) (by kernel_rfl) After After.refl (fun _ _ _ h g => h.trans g)
        (yds [.tree (Tm.fix), .raw, .raw, .rraw 2, .raw, .lit (.bool true), .lit (.bool true), .lit (.bool false), .lit (.bool false), .lit (.tuple #[str ((endR (Tm.k) false).getD []), .bool (endR (Tm.k) false).isSome]), .lit (str ((endR (Tm.k) false).getD [])), .lit (.bool (endR (Tm.k) false).isSome), .lit (str ((endR (Tm.k) false).getD [])), .lit (.bool (endR (Tm.k) false).isSome)]) yds_later (lt14 ?_ ?_ ?_ ?_ ?_ ?_ ?_ ?_ ?_ ?_ ?_ ?_ ?_ ?_) ?_
      · intro vs W hE hd K hK
        have hE' : After Y W := hself.trans hE
        exact do_call (Tm.fix) (f := 56) (args := #[]) (by kernel_rfl) (by kernel_rfl) (by kernel_rfl) (s_fix W) hK
      · intro vs W hE hd K hK
        have hE' : After Y W := hself.trans hE
        have G := hE'.heap G1.out
        exact do_load .raw (x := .tmp 6) (by kernel_rfl) (by kernel_rfl) (by kernel_rfl) (by kernel_rfl) (cell_of_heap (i := 0) G) (cell_of_heap (i := 1) G) ⟨_, _, _, _, rfl⟩ hK
      · intro vs W hE hd K hK
        have hE' : After Y W := hself.trans hE
        have G := hE'.heap G2.out
        exact do_load .raw (x := .tmp 8) (by kernel_rfl) (by kernel_rfl) (by kernel_rfl) (by kernel_rfl) (cell_of_heap (i := 0) G) (cell_of_heap (i := 1) G) ⟨_, _, _, _, rfl⟩ hK
      · intro vs W hE hd K hK
        have hE' : After Y W := hself.trans hE
        exact do_rraw2 (x := .tmp 21) (y := .tmp 22) (u := vs 1) (v := vs 2) (by kernel_rfl) (by kernel_rfl) (by kernel_rfl) (by kernel_rfl) (by kernel_rfl) (hd 1 (by kernel_rfl)) (hd 2 (by kernel_rfl)) hK
      · intro vs W hE hd K hK
        have hE' : After Y W := hself.trans hE
        exact do_appraw (u1 := vs 0) (u2 := vs 3) (n := 2) (by kernel_rfl) (by kernel_rfl) (by kernel_rfl) (rawOf (hd 0 (by kernel_rfl))) (hd 3 (by kernel_rfl)) (by decide) hK
      · intro vs W hE hd K hK
        have hE' : After Y W := hself.trans hE
        exact do_pure (v := .bool true) (.lit (.bool true)) (by kernel_rfl) (by kernel_rfl) (by kernel_rfl) rfl hK
      · intro vs W hE hd K hK
        have hE' : After Y W := hself.trans hE
        exact do_pure (v := vs 5) (.lit (.bool true)) (by kernel_rfl) (by kernel_rfl) (by kernel_rfl) (hd 5 (by kernel_rfl)) hK
      · intro vs W hE hd K hK
        have hE' : After Y W := hself.trans hE
        exact do_on (j := 6) (u := vs 6) (v := .bool false) (.lit (.bool false)) (by kernel_rfl) (by kernel_rfl) (by kernel_rfl) (hd 6 (by kernel_rfl)) (by kernel_rfl) rfl hK
      · intro vs W hE hd K hK
        have hE' : After Y W := hself.trans hE
        exact do_pick (c := .tmp 26) (x := .tmp 27) (y := .const (.bool false)) (u := vs 6) (p := true) (r := .bool false) (by kernel_rfl) (by kernel_rfl) (by kernel_rfl) (by kernel_rfl) (hd 6 (by kernel_rfl)) (by rw [if_pos rfl]; exact Eq.trans (by kernel_rfl : _ = vs 7) (hd 7 (by kernel_rfl))) hK
      · intro vs W hE hd K hK
        have hE' : After Y W := hself.trans hE
        exact do_calllit (v := .tuple #[str ((endR (Tm.k) false).getD []), .bool (endR (Tm.k) false).isSome]) (f := 51) (args := #[vs 4, vs 8]) (by kernel_rfl) (by kernel_rfl) (by kernel_rfl) (by rw [show vs 8 = .bool false from hd 8 (by kernel_rfl)]; exact s_end4' W (Tm.k) false (vs 4) (hd 4 (by kernel_rfl)) (fun h => by cases h)) hK
      · intro vs W hE hd K hK
        have hE' : After Y W := hself.trans hE
        exact do_extract0 (x := .tmp 29) (u := vs 9) (a := str ((endR (Tm.k) false).getD [])) (b := .bool (endR (Tm.k) false).isSome) (by kernel_rfl) (by kernel_rfl) (by kernel_rfl) (by kernel_rfl) (hd 9 (by kernel_rfl)) hK
      · intro vs W hE hd K hK
        have hE' : After Y W := hself.trans hE
        exact do_extract1 (x := .tmp 29) (u := vs 9) (a := str ((endR (Tm.k) false).getD [])) (b := .bool (endR (Tm.k) false).isSome) (by kernel_rfl) (by kernel_rfl) (by kernel_rfl) (by kernel_rfl) (hd 9 (by kernel_rfl)) hK
      · intro vs W hE hd K hK
        have hE' : After Y W := hself.trans hE
        exact do_pure (v := vs 10) (.lit (str ((endR (Tm.k) false).getD []))) (by kernel_rfl) (by kernel_rfl) (by kernel_rfl) (hd 10 (by kernel_rfl)) hK
      · intro vs W hE hd K hK
        have hE' : After Y W := hself.trans hE
        exact do_pure (v := vs 11) (.lit (.bool (endR (Tm.k) false).isSome)) (by kernel_rfl) (by kernel_rfl) (by kernel_rfl) (hd 11 (by kernel_rfl)) hK
      intro vs W hE hd
      have hE' : After Y W := hself.trans hE
      have er0 : vs 12 = str ((endR (Tm.k) false).getD []) := hd 12 (by decide)
      have er1 : vs 13 = .bool (endR (Tm.k) false).isSome := hd 13 (by decide)
      refine hKK _ _ ?_
      generalize hAA : frame _ _ vs = AA
      obtain rfl : AA = ⟨#[str l, str m, undef, undef, vs 12, vs 13, .pointer (some ⟨g1, 0, none⟩), .bool true, .pointer (some ⟨g2, 0, none⟩), .bool false, .tuple #[.agg #[str s1, .slice ao1 n1 c1], .bool true], str l, .tuple #[.agg #[str s1, .slice ao1 n1 c1], .bool true], .agg #[str s1, .slice ao1 n1 c1], .bool true, .tuple #[.agg #[str s2, .slice ao2 n2 c2], .bool false], str m, .tuple #[.agg #[str s2, .slice ao2 n2 c2], .bool false], .agg #[str s2, .slice ao2 n2 c2], .bool false, vs 0, vs 1, vs 2, vs 3, vs 4, vs 5, vs 6, vs 7, vs 8, vs 9, vs 10, vs 11], []⟩ := by rw [← hAA]; kernel_rfl
      clear hAA hd
      generalize vs 12 = rv0 at *
      subst er0
      generalize vs 13 = rv1 at *
      subst er1
      go_wp2_with fail
      go_ret2
      exact ⟨rfl, AY.out.trans hE'⟩
    | some t2 =>
      obtain ⟨hg, hf, hs, _, _⟩ := Tm.parse_facts hp
      obtain ⟨hgu, hfu, hsu, _, _⟩ := Tm.parse_facts hq
      have HG := Lib.hid (show (Tm.app (.app Tm.fix t) t2).good = true ∧ (Tm.app (.app Tm.fix t) t2).size ≤ 1000000 from ⟨by
        have : Tm.fix.good = true := by decide +kernel
        simp [Tm.good, this, hg, hgu], by
        have : Tm.fix.size ≤ 1000 := by decide +kernel
        simp only [Tm.size]; omega⟩)
      rw [show Tm.pFixApply l m = endR (.app (.app .fix t) t2) true by unfold Tm.pFixApply; rw [hp, hq]; rfl]
      rw [hp] at hterm
      simp only [hq] at hterm2
      clear hp hq
      go_enter Try.func29, Try.ntmps29
      go_wp2_with fail
      refine hterm.mono ?_
      rintro e w1 ⟨s1, ao1, n1, c1, rfl, hb1, ht1⟩
      have hal1 := After.new w1 (.cells #[str s1, .slice ao1 n1 c1] 32)
      have q1 := heap_new' w1 (.cells #[str s1, .slice ao1 n1 c1] 32)
      have st1 := (ht1 t rfl).later hal1
      clear ht1 hterm
      go_wp2_with fail
      refine (hterm2 _).mono ?_
      rintro e w2 ⟨s2, ao2, n2, c2, rfl, hb2, ht2⟩
      have hal2 := After.new w2 (.cells #[str s2, .slice ao2 n2 c2] 32)
      have q2 := heap_new' w2 (.cells #[str s2, .slice ao2 n2 c2] 32)
      have q1' := (hb2.trans hal2).heap q1
      have st2 := (ht2 t2 rfl).later hal2
      have st1' := st1.later (hb2.trans hal2)
      clear st1
      have aY := ((hb1.trans hal1).trans hb2).trans hal2
      clear ht2 hterm2 q1
      go_wp2_with fail
      generalize w2.alloc (.cells #[str s2, .slice ao2 n2 c2] 32) = Y at *
      generalize w2.heap.size = g2 at *
      generalize w1.heap.size = g1 at *
      have G1 := Lib.hid q1'
      have G2 := Lib.hid q2
      have S1 := Lib.hid st1'
      have S2 := Lib.hid st2
      clear st1' st2
      have AY := Lib.hid aY
      have hself := (After.refl Y).drew
      clear q1' q2 aY hal1 hal2 hb1 hb2
      rename_i KK hKK
      refine wp_region_reg (by kernel_rfl) (by kernel_rfl) After After.refl (fun _ _ _ h g => h.trans g)
        (yds [.tree (Tm.fix), .tree (t), .tree (t2), .row [t, t2], .tree (.app (.app (Tm.fix) (t)) (t2)), .lit (.bool true), .lit (.bool true), .lit (.bool true), .lit (.bool true), .lit (.tuple #[str ((endR (.app (.app (Tm.fix) (t)) (t2)) true).getD []), .bool (endR (.app (.app (Tm.fix) (t)) (t2)) true).isSome]), .lit (str ((endR (.app (.app (Tm.fix) (t)) (t2)) true).getD [])), .lit (.bool (endR (.app (.app (Tm.fix) (t)) (t2)) true).isSome), .lit (str ((endR (.app (.app (Tm.fix) (t)) (t2)) true).getD [])), .lit (.bool (endR (.app (.app (Tm.fix) (t)) (t2)) true).isSome)]) yds_later (lt14 ?_ ?_ ?_ ?_ ?_ ?_ ?_ ?_ ?_ ?_ ?_ ?_ ?_ ?_) ?_
      · intro vs W hE hd K hK
        have hE' : After Y W := hself.trans hE
        exact do_call (Tm.fix) (f := 56) (args := #[]) (by kernel_rfl) (by kernel_rfl) (by kernel_rfl) (s_fix W) hK
      · intro vs W hE hd K hK
        have hE' : After Y W := hself.trans hE
        have G := hE'.heap G1.out
        exact do_load (.tree (t)) (x := .tmp 6) (by kernel_rfl) (by kernel_rfl) (by kernel_rfl) (by kernel_rfl) (cell_of_heap (i := 0) G) (cell_of_heap (i := 1) G) ⟨_, _, _, _, rfl, S1.out.later hE'⟩ hK
      · intro vs W hE hd K hK
        have hE' : After Y W := hself.trans hE
        have G := hE'.heap G2.out
        exact do_load (.tree (t2)) (x := .tmp 8) (by kernel_rfl) (by kernel_rfl) (by kernel_rfl) (by kernel_rfl) (cell_of_heap (i := 0) G) (cell_of_heap (i := 1) G) ⟨_, _, _, _, rfl, S2.out.later hE'⟩ hK
      · intro vs W hE hd K hK
        have hE' : After Y W := hself.trans hE
        exact do_row2 (x := .tmp 21) (y := .tmp 22) (u := vs 1) (v := vs 2) (by kernel_rfl) (by kernel_rfl) (by kernel_rfl) (by kernel_rfl) (by kernel_rfl) (hd 1 (by kernel_rfl)) (hd 2 (by kernel_rfl)) hK
      · intro vs W hE hd K hK
        have hE' : After Y W := hself.trans hE
        exact do_app (u1 := vs 0) (u2 := vs 3) (us := [t, t2]) (by kernel_rfl) (by kernel_rfl) (by kernel_rfl) (hd 0 (by kernel_rfl)) (hd 3 (by kernel_rfl)) (by simp) hK
      · intro vs W hE hd K hK
        have hE' : After Y W := hself.trans hE
        exact do_pure (v := .bool true) (.lit (.bool true)) (by kernel_rfl) (by kernel_rfl) (by kernel_rfl) rfl hK
      · intro vs W hE hd K hK
        have hE' : After Y W := hself.trans hE
        exact do_pure (v := vs 5) (.lit (.bool true)) (by kernel_rfl) (by kernel_rfl) (by kernel_rfl) (hd 5 (by kernel_rfl)) hK
      · intro vs W hE hd K hK
        have hE' : After Y W := hself.trans hE
        exact do_on (j := 6) (u := vs 6) (v := .bool true) (.lit (.bool true)) (by kernel_rfl) (by kernel_rfl) (by kernel_rfl) (hd 6 (by kernel_rfl)) (by kernel_rfl) rfl hK
      · intro vs W hE hd K hK
        have hE' : After Y W := hself.trans hE
        exact do_pick (c := .tmp 26) (x := .tmp 27) (y := .const (.bool false)) (u := vs 6) (p := true) (r := .bool true) (by kernel_rfl) (by kernel_rfl) (by kernel_rfl) (by kernel_rfl) (hd 6 (by kernel_rfl)) (by rw [if_pos rfl]; exact Eq.trans (by kernel_rfl : _ = vs 7) (hd 7 (by kernel_rfl))) hK
      · intro vs W hE hd K hK
        have hE' : After Y W := hself.trans hE
        exact do_calllit (v := .tuple #[str ((endR (.app (.app (Tm.fix) (t)) (t2)) true).getD []), .bool (endR (.app (.app (Tm.fix) (t)) (t2)) true).isSome]) (f := 51) (args := #[vs 4, vs 8]) (by kernel_rfl) (by kernel_rfl) (by kernel_rfl) (by rw [show vs 8 = .bool true from hd 8 (by kernel_rfl)]; exact s_end4' W (.app (.app (Tm.fix) (t)) (t2)) true (vs 4) (rawOf (hd 4 (by kernel_rfl))) (fun _ => ⟨stOf (hd 4 (by kernel_rfl)), HG.out.1, HG.out.2⟩)) hK
      · intro vs W hE hd K hK
        have hE' : After Y W := hself.trans hE
        exact do_extract0 (x := .tmp 29) (u := vs 9) (a := str ((endR (.app (.app (Tm.fix) (t)) (t2)) true).getD [])) (b := .bool (endR (.app (.app (Tm.fix) (t)) (t2)) true).isSome) (by kernel_rfl) (by kernel_rfl) (by kernel_rfl) (by kernel_rfl) (hd 9 (by kernel_rfl)) hK
      · intro vs W hE hd K hK
        have hE' : After Y W := hself.trans hE
        exact do_extract1 (x := .tmp 29) (u := vs 9) (a := str ((endR (.app (.app (Tm.fix) (t)) (t2)) true).getD [])) (b := .bool (endR (.app (.app (Tm.fix) (t)) (t2)) true).isSome) (by kernel_rfl) (by kernel_rfl) (by kernel_rfl) (by kernel_rfl) (hd 9 (by kernel_rfl)) hK
      · intro vs W hE hd K hK
        have hE' : After Y W := hself.trans hE
        exact do_pure (v := vs 10) (.lit (str ((endR (.app (.app (Tm.fix) (t)) (t2)) true).getD []))) (by kernel_rfl) (by kernel_rfl) (by kernel_rfl) (hd 10 (by kernel_rfl)) hK
      · intro vs W hE hd K hK
        have hE' : After Y W := hself.trans hE
        exact do_pure (v := vs 11) (.lit (.bool (endR (.app (.app (Tm.fix) (t)) (t2)) true).isSome)) (by kernel_rfl) (by kernel_rfl) (by kernel_rfl) (hd 11 (by kernel_rfl)) hK
      intro vs W hE hd
      have hE' : After Y W := hself.trans hE
      have er0 : vs 12 = str ((endR (.app (.app (Tm.fix) (t)) (t2)) true).getD []) := hd 12 (by decide)
      have er1 : vs 13 = .bool (endR (.app (.app (Tm.fix) (t)) (t2)) true).isSome := hd 13 (by decide)
      refine hKK _ _ ?_
      generalize hAA : frame _ _ vs = AA
      obtain rfl : AA = ⟨#[str l, str m, undef, undef, vs 12, vs 13, .pointer (some ⟨g1, 0, none⟩), .bool true, .pointer (some ⟨g2, 0, none⟩), .bool true, .tuple #[.agg #[str s1, .slice ao1 n1 c1], .bool true], str l, .tuple #[.agg #[str s1, .slice ao1 n1 c1], .bool true], .agg #[str s1, .slice ao1 n1 c1], .bool true, .tuple #[.agg #[str s2, .slice ao2 n2 c2], .bool true], str m, .tuple #[.agg #[str s2, .slice ao2 n2 c2], .bool true], .agg #[str s2, .slice ao2 n2 c2], .bool true, vs 0, vs 1, vs 2, vs 3, vs 4, vs 5, vs 6, vs 7, vs 8, vs 9, vs 10, vs 11], []⟩ := by rw [← hAA]; kernel_rfl
      clear hAA hd
      generalize vs 12 = rv0 at *
      subst er0
      generalize vs 13 = rv1 at *
      subst er1
      go_wp2_with fail
      go_ret2
      exact ⟨rfl, AY.out.trans hE'⟩
end Go.Proofs.Ytkmfnnmbhmjfgaa

namespace Go.Proofs.Ytkmfnnmbhmjfgaa
open Go.RowKit

set_option maxHeartbeats 1000000
set_option maxRecDepth 100000

theorem str_size (l : List UInt8) : (⟨l.toArray⟩ : ByteArray).size = l.length := by show l.toArray.size = _; simp

theorem law_codeOf (w : World) (l : List UInt8) :
    Calls Try.prog 4 #[str l] w fun e w' => e = .returned (.bool true) ∧ After w w' := by
  have hsz := str_size l
  by_cases hbig : (1048576 : Int) < (l.length : Int)
  · go_enter Try.func4, Try.ntmps4
    go_wp2_with fail
    go_ret
    exact ⟨rfl, After.refl _⟩
  · have hs := fun W => spec_codeOf W l (by omega)
    have hi := fun W => impl_codeOf W l (by omega)
    unfold SOne' at hs
    unfold TextRes' at hi
    generalize (Tm.pCodeOf l).getD [] = x at *
    generalize (Tm.pCodeOf l).isSome = b at *
    go_enter Try.func4, Try.ntmps4
    cases b
    all_goals
      go_wp2_with (first
        | (go_at_call 15; refine (hs _).mono ?_; rintro e w1 ⟨rfl, hb1⟩)
        | (go_at_call 16; refine (hi _).mono ?_; rintro e w2 ⟨rfl, hb2⟩))
      go_ret
      exact ⟨rfl, After.trans hb1 hb2⟩

theorem law_codeWords (w : World) (l : List UInt8) :
    Calls Try.prog 6 #[str l] w fun e w' => e = .returned (.bool true) ∧ After w w' := by
  have hsz := str_size l
  by_cases hbig : (1048576 : Int) < (l.length : Int)
  · go_enter Try.func6, Try.ntmps6
    go_wp2_with fail
    go_ret
    exact ⟨rfl, After.refl _⟩
  · have hs := fun W => spec_codeWords W l
    have hi := fun W => impl_codeWords W l
    unfold SOne' at hs
    unfold TextRes' at hi
    generalize (Tm.pWord l).getD [] = x at *
    generalize (Tm.pWord l).isSome = b at *
    go_enter Try.func6, Try.ntmps6
    cases b
    all_goals
      go_wp2_with (first
        | (go_at_call 19; refine (hs _).mono ?_; rintro e w1 ⟨rfl, hb1⟩)
        | (go_at_call 20; refine (hi _).mono ?_; rintro e w2 ⟨rfl, hb2⟩))
      go_ret
      exact ⟨rfl, After.trans hb1 hb2⟩

theorem law_codeRun (w : World) (l : List UInt8) :
    Calls Try.prog 7 #[str l] w fun e w' => e = .returned (.bool true) ∧ After w w' := by
  have hsz := str_size l
  by_cases hbig : (1048576 : Int) < (l.length : Int)
  · go_enter Try.func7, Try.ntmps7
    go_wp2_with fail
    go_ret
    exact ⟨rfl, After.refl _⟩
  · have hs := fun W => spec_codeRun W l (by omega)
    have hi := fun W => impl_codeRun W l (by omega)
    unfold SOne' at hs
    unfold TextRes' at hi
    generalize (Tm.pCodeRun l).getD [] = x at *
    generalize (Tm.pCodeRun l).isSome = b at *
    go_enter Try.func7, Try.ntmps7
    cases b
    all_goals
      go_wp2_with (first
        | (go_at_call 21; refine (hs _).mono ?_; rintro e w1 ⟨rfl, hb1⟩)
        | (go_at_call 22; refine (hi _).mono ?_; rintro e w2 ⟨rfl, hb2⟩))
      go_ret
      exact ⟨rfl, After.trans hb1 hb2⟩

theorem law_codeQuote (w : World) (l : List UInt8) :
    Calls Try.prog 9 #[str l] w fun e w' => e = .returned (.bool true) ∧ After w w' := by
  have hsz := str_size l
  by_cases hbig : (1048576 : Int) < (l.length : Int)
  · go_enter Try.func9, Try.ntmps9
    go_wp2_with fail
    go_ret
    exact ⟨rfl, After.refl _⟩
  · have hs := fun W => spec_codeQuote W l (by omega)
    have hi := fun W => impl_codeQuote W l (by omega)
    unfold SOne' at hs
    unfold TextRes' at hi
    generalize (Tm.pCodeQuote l).getD [] = x at *
    generalize (Tm.pCodeQuote l).isSome = b at *
    go_enter Try.func9, Try.ntmps9
    cases b
    all_goals
      go_wp2_with (first
        | (go_at_call 25; refine (hs _).mono ?_; rintro e w1 ⟨rfl, hb1⟩)
        | (go_at_call 26; refine (hi _).mono ?_; rintro e w2 ⟨rfl, hb2⟩))
      go_ret
      exact ⟨rfl, After.trans hb1 hb2⟩

theorem law_fixOf (w : World) (l : List UInt8) :
    Calls Try.prog 10 #[str l] w fun e w' => e = .returned (.bool true) ∧ After w w' := by
  have hsz := str_size l
  by_cases hbig : (1048576 : Int) < (l.length : Int)
  · go_enter Try.func10, Try.ntmps10
    go_wp2_with fail
    go_ret
    exact ⟨rfl, After.refl _⟩
  · have hs := fun W => spec_fixOf W l (by omega)
    have hi := fun W => impl_fixOf W l (by omega)
    unfold SOne' at hs
    unfold TextRes' at hi
    generalize (Tm.pFixOf l).getD [] = x at *
    generalize (Tm.pFixOf l).isSome = b at *
    go_enter Try.func10, Try.ntmps10
    cases b
    all_goals
      go_wp2_with (first
        | (go_at_call 27; refine (hs _).mono ?_; rintro e w1 ⟨rfl, hb1⟩)
        | (go_at_call 28; refine (hi _).mono ?_; rintro e w2 ⟨rfl, hb2⟩))
      go_ret
      exact ⟨rfl, After.trans hb1 hb2⟩

theorem law_apply (w : World) (l m : List UInt8) :
    Calls Try.prog 3 #[str l, str m] w fun e w' => e = .returned (.bool true) ∧ After w w' := by
  have hsz := str_size l
  have hsm := str_size m
  by_cases hbig : (1048576 : Int) < (l.length : Int)
  · go_enter Try.func3, Try.ntmps3
    go_wp2_with fail
    go_ret
    exact ⟨rfl, After.refl _⟩
  · by_cases hbig2 : (1048576 : Int) < (m.length : Int)
    · go_enter Try.func3, Try.ntmps3
      go_wp2_with fail
      go_ret
      exact ⟨rfl, After.refl _⟩
    · have hs := fun W => spec_apply W l m (by omega) (by omega)
      have hi := fun W => impl_apply W l m (by omega) (by omega)
      unfold SOne' at hs
      unfold TextRes' at hi
      generalize (Tm.pApply l m).getD [] = x at *
      generalize (Tm.pApply l m).isSome = b at *
      go_enter Try.func3, Try.ntmps3
      cases b
      all_goals
        go_wp2_with (first
          | (go_at_call 13; refine (hs _).mono ?_; rintro e w1 ⟨rfl, hb1⟩)
          | (go_at_call 14; refine (hi _).mono ?_; rintro e w2 ⟨rfl, hb2⟩))
        go_ret
        exact ⟨rfl, After.trans hb1 hb2⟩

theorem law_codeJoin (w : World) (l m : List UInt8) :
    Calls Try.prog 8 #[str l, str m] w fun e w' => e = .returned (.bool true) ∧ After w w' := by
  have hsz := str_size l
  have hsm := str_size m
  by_cases hbig : (1048576 : Int) < (l.length : Int)
  · go_enter Try.func8, Try.ntmps8
    go_wp2_with fail
    go_ret
    exact ⟨rfl, After.refl _⟩
  · by_cases hbig2 : (1048576 : Int) < (m.length : Int)
    · go_enter Try.func8, Try.ntmps8
      go_wp2_with fail
      go_ret
      exact ⟨rfl, After.refl _⟩
    · have hs := fun W => spec_codeJoin W l m (by omega) (by omega)
      have hi := fun W => impl_codeJoin W l m (by omega) (by omega)
      unfold SOne' at hs
      unfold TextRes' at hi
      generalize (Tm.pCodeJoin l m).getD [] = x at *
      generalize (Tm.pCodeJoin l m).isSome = b at *
      go_enter Try.func8, Try.ntmps8
      cases b
      all_goals
        go_wp2_with (first
          | (go_at_call 23; refine (hs _).mono ?_; rintro e w1 ⟨rfl, hb1⟩)
          | (go_at_call 24; refine (hi _).mono ?_; rintro e w2 ⟨rfl, hb2⟩))
        go_ret
        exact ⟨rfl, After.trans hb1 hb2⟩

theorem law_fixApply (w : World) (l m : List UInt8) :
    Calls Try.prog 11 #[str l, str m] w fun e w' => e = .returned (.bool true) ∧ After w w' := by
  have hsz := str_size l
  have hsm := str_size m
  by_cases hbig : (1048576 : Int) < (l.length : Int)
  · go_enter Try.func11, Try.ntmps11
    go_wp2_with fail
    go_ret
    exact ⟨rfl, After.refl _⟩
  · by_cases hbig2 : (1048576 : Int) < (m.length : Int)
    · go_enter Try.func11, Try.ntmps11
      go_wp2_with fail
      go_ret
      exact ⟨rfl, After.refl _⟩
    · have hs := fun W => spec_fixApply W l m (by omega) (by omega)
      have hi := fun W => impl_fixApply W l m (by omega) (by omega)
      unfold SOne' at hs
      unfold TextRes' at hi
      generalize (Tm.pFixApply l m).getD [] = x at *
      generalize (Tm.pFixApply l m).isSome = b at *
      go_enter Try.func11, Try.ntmps11
      cases b
      all_goals
        go_wp2_with (first
          | (go_at_call 29; refine (hs _).mono ?_; rintro e w1 ⟨rfl, hb1⟩)
          | (go_at_call 30; refine (hi _).mono ?_; rintro e w2 ⟨rfl, hb2⟩))
        go_ret
        exact ⟨rfl, After.trans hb1 hb2⟩

end Go.Proofs.Ytkmfnnmbhmjfgaa
