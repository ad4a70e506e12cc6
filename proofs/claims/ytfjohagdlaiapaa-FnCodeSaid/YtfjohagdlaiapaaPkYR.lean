/-
  The model's exported functions ApplyOf, CodeOf, CodeWords.
-/
import Derived.Test.YtfjohagdlaiapaaPkX
import Derived.Test.YtfjohagdlaiapaaPkW
namespace Go.Proofs.Ytfjohagdlaiapaa
open Go.RowKit

set_option maxHeartbeats 1000000
set_option maxRecDepth 100000

theorem codeT_small {l : List UInt8} {t : Tm} (h : Tm.closedOf l = some t) : Tm.codeT l = if smallB t = true then some (smallT t) else none := by
  obtain ⟨_, hn⟩ := Tm.closed_facts h
  unfold Tm.codeT
  rw [h]
  have hb := small_eq hn
  show (if (Tm.code t).fits = true then some (Tm.code t) else none) = _
  rw [← hb]
  split
  · rename_i h1; rw [small_some h1]
  · rfl
theorem codeT_none {l : List UInt8} (h : Tm.closedOf l = none) : Tm.codeT l = none := by
  unfold Tm.codeT
  rw [h]
theorem small_facts {l : List UInt8} {t : Tm} (h : Tm.closedOf l = some t) : t.good = true ∧ t.size ≤ 3000 ∧ t.names [] = [] ∧ (smallT t).good = true ∧ (smallT t).size ≤ 39000 ∧ (smallB t = true → (smallT t).text.length ≤ 100000000) := by
  obtain ⟨hp, hn⟩ := Tm.closed_facts h
  obtain ⟨hg, hf, hs, _, htx⟩ := Tm.parse_facts hp
  have hcz := Tm.code_size_le t
  refine ⟨hg, hs, hn, ?_, ?_, ?_⟩
  · unfold smallT; split
    · exact Tm.code_good t hg
    · exact hg
  · unfold smallT; split <;> omega
  · intro hb
    have e := small_eq hn
    rw [hb] at e
    rw [small_some hb]
    have := text_small (Tm.code_good t hg) e.symm
    omega

theorem spec_codeOf (w : World) (l : List UInt8) (hl : l.length ≤ 1000000000) :
    Calls Try.prog 17 #[str l] w (SOne' w (Tm.pCodeOf l)) := by
  have hc := s_closed4 w l hl
  unfold SClosedPost at hc
  unfold Tm.pCodeOf
  cases hp : Tm.closedOf l with
  | none =>
    rw [hp] at hc
    rw [codeT_none hp]
    clear hp
    go_enter Try.func17, Try.ntmps17
    go_wp2_with fail
    refine hc.mono ?_
    rintro e w1 ⟨s1, ao1, n1, c1, rfl, hb1, ht1⟩
    clear ht1 hc
    go_wp2_with fail
    go_ret2
    exact ⟨rfl, hb1.alloc _⟩
  | some t =>
    obtain ⟨hg, hs, hn, hgx, hzx, htx⟩ := small_facts hp
    rw [codeT_small hp]
    rw [hp] at hc
    clear hp
    obtain ⟨x, hx⟩ : ∃ x, x = smallT t := ⟨_, rfl⟩
    obtain ⟨b, hb⟩ : ∃ b, b = smallB t := ⟨_, rfl⟩
    have hsm := fun W s ao m c h => s_small4 W t s ao m c h hg (by omega) hn
    unfold SNormPost at hsm
    rw [← hx, ← hb] at hsm ⊢
    rw [← hx] at hgx
    rw [← hx, ← hb] at htx
    have HTX := Lib.hid htx
    clear hx hb htx
    cases b
    all_goals
      simp only [if_true, Bool.false_eq_true, if_false]
      go_enter Try.func17, Try.ntmps17
      go_wp2_with fail
      refine hc.mono ?_
      rintro e w1 ⟨s1, ao1, n1, c1, rfl, hb1, ht1⟩
      have hal1 := After.new w1 (.cells #[str s1, .slice ao1 n1 c1] 53)
      have hbox1 := heap_new' w1 (.cells #[str s1, .slice ao1 n1 c1] 53)
      obtain ⟨k0, k1, _, _, _⟩ := pair_facts hbox1 (After.refl _)
      have hcall := hsm _ _ _ _ _ ((ht1 t rfl).later hal1)
      clear ht1 hc hbox1 hsm
      go_wp2_with fail
      refine hcall.mono ?_
      rintro e w2 ⟨s2, ao2, n2, c2, rfl, hb2, ht2⟩
      have hw2 := After.alloc ((hb1.trans hal1).trans hb2) (.cells #[str s2, .slice ao2 n2 c2] 53)
      first
        | (have htext := (ht2.later (After.new w2 (.cells #[str s2, .slice ao2 n2 c2] 53))).text hgx (HTX.out (by trivial))
           clear ht2 hcall HTX k0 k1
           go_wp2_with (go_at_call 44; refine htext.mono ?_; rintro e w5 ⟨rfl, hb5⟩)
           go_ret2
           exact ⟨rfl, hw2.trans hb5⟩)
        | (clear ht2 hcall HTX k0 k1
           go_wp2_with fail
           go_ret2
           exact ⟨rfl, hw2⟩)

theorem spec_codeWords (w : World) (l : List UInt8) :
    Calls Try.prog 23 #[str l] w (SOne' w (Tm.pWord l)) := by
  have k1 := s_run4 w
  have k2 := s_join4 w
  have k3 := s_quote4 w
  unfold TreePost at k1 k2 k3
  by_cases h0 : l = [114, 117, 110]
  · subst h0
    obtain ⟨hg, htx⟩ := Tm.word_good (w := [114, 117, 110]) (t := Tm.runC) rfl
    rw [show Tm.pWord [114, 117, 110] = some Tm.runC.text from rfl]
    go_enter Try.func23, Try.ntmps23
    go_wp2_with fail
    refine k1.mono ?_
    rintro e w1 ⟨s1, ao1, n1, c1, rfl, hb1, ht1⟩
    have htext := ht1.text hg (by omega)
    clear ht1 k1 k2 k3
    go_wp2_with (go_at_call 44; refine htext.mono ?_; rintro e w5 ⟨rfl, hb5⟩)
    go_ret2
    exact ⟨rfl, hb1.trans hb5⟩
  by_cases h1 : l = [106, 111, 105, 110]
  · subst h1
    obtain ⟨hg, htx⟩ := Tm.word_good (w := [106, 111, 105, 110]) (t := Tm.joinC) rfl
    rw [show Tm.pWord [106, 111, 105, 110] = some Tm.joinC.text from rfl]
    go_enter Try.func23, Try.ntmps23
    go_wp2_with fail
    refine k2.mono ?_
    rintro e w1 ⟨s1, ao1, n1, c1, rfl, hb1, ht1⟩
    have htext := ht1.text hg (by omega)
    clear ht1 k1 k2 k3
    go_wp2_with (go_at_call 44; refine htext.mono ?_; rintro e w5 ⟨rfl, hb5⟩)
    go_ret2
    exact ⟨rfl, hb1.trans hb5⟩
  by_cases h2 : l = [113, 117, 111, 116, 101]
  · subst h2
    obtain ⟨hg, htx⟩ := Tm.word_good (w := [113, 117, 111, 116, 101]) (t := Tm.quoteC) rfl
    rw [show Tm.pWord [113, 117, 111, 116, 101] = some Tm.quoteC.text from rfl]
    go_enter Try.func23, Try.ntmps23
    go_wp2_with fail
    refine k3.mono ?_
    rintro e w1 ⟨s1, ao1, n1, c1, rfl, hb1, ht1⟩
    have htext := ht1.text hg (by omega)
    clear ht1 k1 k2 k3
    go_wp2_with (go_at_call 44; refine htext.mono ?_; rintro e w5 ⟨rfl, hb5⟩)
    go_ret2
    exact ⟨rfl, hb1.trans hb5⟩
  have n0 : (l == [114, 117, 110]) = false := beq_eq_false_iff_ne.2 h0
  have n1 : (l == [106, 111, 105, 110]) = false := beq_eq_false_iff_ne.2 h1
  have n2 : (l == [113, 117, 111, 116, 101]) = false := beq_eq_false_iff_ne.2 h2
  have hw : Tm.pWord l = none := by simp [Tm.pWord, Tm.word, h0, h1, h2]
  rw [hw]
  clear hw h0 h1 h2 k1 k2 k3
  go_enter Try.func23, Try.ntmps23
  go_wp2_with fail
  go_ret2
  exact ⟨rfl, After.refl _⟩
end Go.Proofs.Ytfjohagdlaiapaa

namespace Go.Proofs.Ytfjohagdlaiapaa
open Go.RowKit

set_option maxHeartbeats 2000000
set_option maxRecDepth 100000

theorem s_end4' (w : World) (x : Tm) (ok : Bool) (v : Value) (hv : Yd.raw.holds v w) (h : ok = true → ST w x v ∧ x.good = true ∧ x.size ≤ 1000000) :
    Calls Try.prog 67 #[v, .bool ok] w fun e w' => e = .returned (.tuple #[str ((endR x ok).getD []), .bool (endR x ok).isSome]) ∧ After w w' := by
  obtain ⟨s, ao, n, c, rfl⟩ := hv
  exact s_end4 w x ok s ao n c h

theorem end_of {c : Option Tm} {t : Tm} {f : Tm → Tm} {b : Bool} (h : c = if b = true then some t else none) : (c.bind fun d => (Tm.endOf (f d)).map Tm.text) = endR (f t) b := by
  subst h
  unfold endR
  cases b <;> rfl

theorem fits_app {f a : Tm} (h : a.fits = false) : (Tm.app f a).fits = false := by
  cases hh : (Tm.app f a).fits with
  | false => rfl
  | true =>
    have hh := fits_size hh
    simp only [Tm.size, Tm.depth] at hh
    have : a.fits = true := by
      simp only [Tm.fits, Bool.and_eq_true, decide_eq_true_eq]
      exact ⟨by omega, by omega⟩
    rw [this] at h
    cases h
theorem small_good {t : Tm} (h : t.good = true) : (smallT t).good = true := by
  unfold smallT
  split
  · exact Tm.code_good t h
  · exact h
theorem code_has : ∀ (t : Tm) (n : List UInt8), Tm.has n t.code = Tm.has n t
  | .k, n => closed_of (by kernel_rfl) n
  | .s, n => closed_of (by kernel_rfl) n
  | .nm _, _ => rfl
  | .app f a, n => by simp [Tm.code, Tm.appC, Tm.has, Tm.pair, Tm.I, code_has f n, code_has a n]
theorem code_names_nil (t : Tm) (hn : t.names [] = []) : t.code.names [] = [] := by
  cases h : t.code.names [] with
  | nil => rfl
  | cons n ns =>
    have h1 := (Tm.mem_names n t.code []).1 (by rw [h]; simp)
    rcases h1 with h1 | h1
    · cases h1
    · rw [code_has, closed_of hn] at h1
      cases h1

end Go.Proofs.Ytfjohagdlaiapaa

namespace Go.Proofs.Ytfjohagdlaiapaa
open Go.RowKit

set_option maxHeartbeats 2000000
set_option maxRecDepth 100000

theorem join_of {c d : Option Tm} {t t' : Tm} {f : Tm → Tm → Tm} {b e : Bool} (h : c = if b = true then some t else none) (g : d = if e = true then some t' else none) : (c.bind fun x => d.bind fun y => (Tm.endOf (f x y)).map Tm.text) = endR (f t t') (b && e) := by
  subst h
  subst g
  unfold endR
  cases b <;> cases e <;> rfl

theorem spec_fixOf (w : World) (l : List UInt8) (hl : l.length ≤ 1000000000) :
    Calls Try.prog 27 #[str l] w (SOne' w (Tm.pFixOf l)) := by
  have hterm := s_term w l hl
  unfold STermPost at hterm
  cases hp : Tm.parse l with
  | none =>
    rw [show Tm.pFixOf l = none by unfold Tm.pFixOf; rw [hp]; rfl]
    rw [hp] at hterm
    clear hp
    go_enter Try.func27, Try.ntmps27
    go_wp2_with fail
    refine hterm.mono ?_
    rintro e w1 ⟨s1, ao1, n1, c1, rfl, hb1, ht1⟩
    have hal1 := After.new w1 (.cells #[str s1, .slice ao1 n1 c1] 53)
    have q1 := heap_new' w1 (.cells #[str s1, .slice ao1 n1 c1] 53)
    have aY := hb1.trans hal1
    clear ht1 hterm
    go_wp2_with fail
    generalize w1.alloc (.cells #[str s1, .slice ao1 n1 c1] 53) = Y at *
    generalize w1.heap.size = g1 at *
    have G1 := Lib.hid q1
    have AY := Lib.hid aY
    have hself := (After.refl Y).drew
    clear q1 aY hal1 hb1 
    rename_i KK hKK
    refine wp_region_reg1 (n := 5) (by kernel_rfl) (by kernel_rfl) (by kernel_rfl) (by kernel_rfl) After After.refl (fun _ _ _ h g => h.trans g)
      (yds [.tree (Tm.fix), .raw, .rraw 1, .raw, .cell (Y.heap.size)]) yds_later (lt5 ?_ ?_ ?_ ?_ ?_) ?_
    · intro vs W hE hd K hK
      have hE' : After Y W := hself.trans hE
      exact do_call (Tm.fix) (f := 65) (args := #[]) (by kernel_rfl) (by kernel_rfl) (by kernel_rfl) (s_fix W) hK
    · intro vs W hE hd K hK
      have hE' : After Y W := hself.trans hE
      have G := hE'.heap G1.out
      exact do_load .raw (x := .tmp 4) (by kernel_rfl) (by kernel_rfl) (by kernel_rfl) (by kernel_rfl) (cell_of_heap (i := 0) G) (cell_of_heap (i := 1) G) ⟨_, _, _, _, rfl⟩ hK
    · intro vs W hE hd K hK
      have hE' : After Y W := hself.trans hE
      exact do_rraw1 (x := .tmp 13) (u := vs 1) (by kernel_rfl) (by kernel_rfl) (by kernel_rfl) (by kernel_rfl) (hd 1 (by kernel_rfl)) hK
    · intro vs W hE hd K hK
      have hE' : After Y W := hself.trans hE
      exact do_appraw (u1 := vs 0) (u2 := vs 2) (n := 1) (by kernel_rfl) (by kernel_rfl) (by kernel_rfl) (rawOf (hd 0 (by kernel_rfl))) (hd 2 (by kernel_rfl)) (by decide) hK
    · intro vs W hE hd K hK
      have hE' : After Y W := hself.trans hE
      exact do_cell (by kernel_rfl) (by kernel_rfl) hE'.size (by kernel_rfl) hK
    intro vs W hE hd K hK
    have hE' : After Y W := hself.trans hE
    obtain ⟨gg, ca, cb, ec, hg, G⟩ := hd 4 (by decide)
    refine do_store_raw (x := .tmp 6) (y := .tmp 15) (v := vs 3) (p := ca) (q := cb) (u := vs 4) (by kernel_rfl) (by kernel_rfl) (by kernel_rfl) (by kernel_rfl) (by kernel_rfl) ec (by kernel_rfl) (hd 3 (by decide)) G (fun rs ra rn rc hst => hK _ _ ?_)
    refine hKK _ _ ?_
    generalize hAA : frame _ _ vs = AA
    obtain rfl : AA = ⟨#[str l, undef, str [], .bool false, .pointer (some ⟨g1, 0, none⟩), .bool false, .pointer (some ⟨gg, 0, none⟩), .tuple #[.agg #[str s1, .slice ao1 n1 c1], .bool false], str l, .tuple #[.agg #[str s1, .slice ao1 n1 c1], .bool false], .agg #[str s1, .slice ao1 n1 c1], .bool false, vs 0, vs 1, vs 2, vs 3, undef, undef, undef, undef, undef, undef, undef, undef, undef], []⟩ := by rw [← hAA, ← ec]; kernel_rfl
    clear hAA hK
    have aW := after_sets2 hE' G hg (str rs) (.slice ra rn rc)
    clear hd hst ec
    go_wp2_with fail
    go_ret2
    exact ⟨rfl, AY.out.trans aW⟩
  | some t =>
    obtain ⟨hgd, hf, hs, _, _⟩ := Tm.parse_facts hp
    have hga : (Tm.app Tm.fix t).good = true := by
      have : Tm.fix.good = true := by decide +kernel
      simp [Tm.good, this, hgd]
    have hfz : Tm.fix.size ≤ 1000 := by decide +kernel
    rw [show Tm.pFixOf l = (if (Tm.app Tm.fix t).fits = true then some (Tm.text (.app .fix t)) else none) by unfold Tm.pFixOf; rw [hp]; rfl]
    rw [hp] at hterm
    clear hp
    obtain ⟨b, hb⟩ : ∃ b, b = (Tm.app Tm.fix t).fits := ⟨_, rfl⟩
    have htx : b = true → (Tm.app Tm.fix t).text.length ≤ 100000000 := fun h => by have := text_small hga (by rw [← hb, h]); omega
    have hfine := fun W v (h : ST W (.app .fix t) v) => h.fine hga (by simp only [Tm.size]; omega)
    rw [← hb] at hfine ⊢
    have HTX := Lib.hid htx
    clear hb htx
    cases b with
    | true =>
      simp only [if_true]
      go_enter Try.func27, Try.ntmps27
      go_wp2_with fail
      refine hterm.mono ?_
      rintro e w1 ⟨s1, ao1, n1, c1, rfl, hb1, ht1⟩
      have hal1 := After.new w1 (.cells #[str s1, .slice ao1 n1 c1] 53)
      have q1 := heap_new' w1 (.cells #[str s1, .slice ao1 n1 c1] 53)
      have st1 := (ht1 t rfl).later hal1
      have aY := hb1.trans hal1
      clear ht1 hterm
      go_wp2_with fail
      generalize w1.alloc (.cells #[str s1, .slice ao1 n1 c1] 53) = Y at *
      generalize w1.heap.size = g1 at *
      have G1 := Lib.hid q1
      have S1 := Lib.hid st1
      have AY := Lib.hid aY
      have hself := (After.refl Y).drew
      clear q1 aY hal1 hb1 st1
      rename_i KK hKK
      refine wp_region_reg1 (n := 5) (by kernel_rfl) (by kernel_rfl) (by kernel_rfl) (by kernel_rfl) After After.refl (fun _ _ _ h g => h.trans g)
        (yds [.tree (Tm.fix), .tree (t), .row [t], .tree (.app (Tm.fix) (t)), .cell (Y.heap.size)]) yds_later (lt5 ?_ ?_ ?_ ?_ ?_) ?_
      · intro vs W hE hd K hK
        have hE' : After Y W := hself.trans hE
        exact do_call (Tm.fix) (f := 65) (args := #[]) (by kernel_rfl) (by kernel_rfl) (by kernel_rfl) (s_fix W) hK
      · intro vs W hE hd K hK
        have hE' : After Y W := hself.trans hE
        have G := hE'.heap G1.out
        exact do_load (.tree (t)) (x := .tmp 4) (by kernel_rfl) (by kernel_rfl) (by kernel_rfl) (by kernel_rfl) (cell_of_heap (i := 0) G) (cell_of_heap (i := 1) G) ⟨_, _, _, _, rfl, S1.out.later hE'⟩ hK
      · intro vs W hE hd K hK
        have hE' : After Y W := hself.trans hE
        exact do_row1 (x := .tmp 13) (u := vs 1) (by kernel_rfl) (by kernel_rfl) (by kernel_rfl) (by kernel_rfl) (hd 1 (by kernel_rfl)) hK
      · intro vs W hE hd K hK
        have hE' : After Y W := hself.trans hE
        exact do_app (u1 := vs 0) (u2 := vs 2) (us := [t]) (by kernel_rfl) (by kernel_rfl) (by kernel_rfl) (hd 0 (by kernel_rfl)) (hd 2 (by kernel_rfl)) (by simp) hK
      · intro vs W hE hd K hK
        have hE' : After Y W := hself.trans hE
        exact do_cell (by kernel_rfl) (by kernel_rfl) hE'.size (by kernel_rfl) hK
      intro vs W hE hd K hK
      have hE' : After Y W := hself.trans hE
      obtain ⟨gg, ca, cb, ec, hg, G⟩ := hd 4 (by decide)
      refine do_store_at (.app (Tm.fix) (t)) (x := .tmp 6) (y := .tmp 15) (v := vs 3) (p := ca) (q := cb) (u := vs 4) (by kernel_rfl) (by kernel_rfl) (by kernel_rfl) (by kernel_rfl) (by kernel_rfl) ec (by kernel_rfl) (hd 3 (by decide)) G (fun rs ra rn rc hst => hK _ _ ?_)
      refine hKK _ _ ?_
      generalize hAA : frame _ _ vs = AA
      obtain rfl : AA = ⟨#[str l, undef, str [], .bool false, .pointer (some ⟨g1, 0, none⟩), .bool true, .pointer (some ⟨gg, 0, none⟩), .tuple #[.agg #[str s1, .slice ao1 n1 c1], .bool true], str l, .tuple #[.agg #[str s1, .slice ao1 n1 c1], .bool true], .agg #[str s1, .slice ao1 n1 c1], .bool true, vs 0, vs 1, vs 2, vs 3, undef, undef, undef, undef, undef, undef, undef, undef, undef], []⟩ := by rw [← hAA, ← ec]; kernel_rfl
      clear hAA hK
      have aW := after_sets2 hE' G hg (str rs) (.slice ra rn rc)
      have q2 := heap_sets2 (u := str rs) (u' := .slice ra rn rc) G
      obtain ⟨j0, j1, j2, j3, j4⟩ := pair_facts q2 (After.refl _)
      have hf1 := hfine _ _ hst
      have HST := Lib.hid hst
      have AW := Lib.hid (AY.out.trans aW)
      clear hd ec hst aW q2 j2 j3 j4 hfine
      generalize (W.setCell ⟨gg, 0, none⟩ (str rs)).setCell ⟨gg, 1, none⟩ (.slice ra rn rc) = X at *
      go_wp2_with (go_at_call 43; refine hf1.mono ?_; rintro e w2 ⟨rfl, hb2⟩; obtain ⟨i0, i1⟩ : w2.cell? ⟨gg, 0, none⟩ = some (str rs) ∧ w2.cell? ⟨gg, 1, none⟩ = some (.slice ra rn rc) := ⟨hb2.cell j0, hb2.cell j1⟩)
      have htext := (HST.out.later hb2).text hga (HTX.out (by trivial))
      refine htext.mono ?_
      rintro e w3 ⟨rfl, hb3⟩
      go_wp2_with fail
      go_ret2
      exact ⟨rfl, (AW.out.trans hb2).trans hb3⟩
    | false =>
      simp only [Bool.false_eq_true, if_false]
      go_enter Try.func27, Try.ntmps27
      go_wp2_with fail
      refine hterm.mono ?_
      rintro e w1 ⟨s1, ao1, n1, c1, rfl, hb1, ht1⟩
      have hal1 := After.new w1 (.cells #[str s1, .slice ao1 n1 c1] 53)
      have q1 := heap_new' w1 (.cells #[str s1, .slice ao1 n1 c1] 53)
      have st1 := (ht1 t rfl).later hal1
      have aY := hb1.trans hal1
      clear ht1 hterm
      go_wp2_with fail
      generalize w1.alloc (.cells #[str s1, .slice ao1 n1 c1] 53) = Y at *
      generalize w1.heap.size = g1 at *
      have G1 := Lib.hid q1
      have S1 := Lib.hid st1
      have AY := Lib.hid aY
      have hself := (After.refl Y).drew
      clear q1 aY hal1 hb1 st1
      rename_i KK hKK
      refine wp_region_reg1 (n := 5) (by kernel_rfl) (by kernel_rfl) (by kernel_rfl) (by kernel_rfl) After After.refl (fun _ _ _ h g => h.trans g)
        (yds [.tree (Tm.fix), .tree (t), .row [t], .tree (.app (Tm.fix) (t)), .cell (Y.heap.size)]) yds_later (lt5 ?_ ?_ ?_ ?_ ?_) ?_
      · intro vs W hE hd K hK
        have hE' : After Y W := hself.trans hE
        exact do_call (Tm.fix) (f := 65) (args := #[]) (by kernel_rfl) (by kernel_rfl) (by kernel_rfl) (s_fix W) hK
      · intro vs W hE hd K hK
        have hE' : After Y W := hself.trans hE
        have G := hE'.heap G1.out
        exact do_load (.tree (t)) (x := .tmp 4) (by kernel_rfl) (by kernel_rfl) (by kernel_rfl) (by kernel_rfl) (cell_of_heap (i := 0) G) (cell_of_heap (i := 1) G) ⟨_, _, _, _, rfl, S1.out.later hE'⟩ hK
      · intro vs W hE hd K hK
        have hE' : After Y W := hself.trans hE
        exact do_row1 (x := .tmp 13) (u := vs 1) (by kernel_rfl) (by kernel_rfl) (by kernel_rfl) (by kernel_rfl) (hd 1 (by kernel_rfl)) hK
      · intro vs W hE hd K hK
        have hE' : After Y W := hself.trans hE
        exact do_app (u1 := vs 0) (u2 := vs 2) (us := [t]) (by kernel_rfl) (by kernel_rfl) (by kernel_rfl) (hd 0 (by kernel_rfl)) (hd 2 (by kernel_rfl)) (by simp) hK
      · intro vs W hE hd K hK
        have hE' : After Y W := hself.trans hE
        exact do_cell (by kernel_rfl) (by kernel_rfl) hE'.size (by kernel_rfl) hK
      intro vs W hE hd K hK
      have hE' : After Y W := hself.trans hE
      obtain ⟨gg, ca, cb, ec, hg, G⟩ := hd 4 (by decide)
      refine do_store_at (.app (Tm.fix) (t)) (x := .tmp 6) (y := .tmp 15) (v := vs 3) (p := ca) (q := cb) (u := vs 4) (by kernel_rfl) (by kernel_rfl) (by kernel_rfl) (by kernel_rfl) (by kernel_rfl) ec (by kernel_rfl) (hd 3 (by decide)) G (fun rs ra rn rc hst => hK _ _ ?_)
      refine hKK _ _ ?_
      generalize hAA : frame _ _ vs = AA
      obtain rfl : AA = ⟨#[str l, undef, str [], .bool false, .pointer (some ⟨g1, 0, none⟩), .bool true, .pointer (some ⟨gg, 0, none⟩), .tuple #[.agg #[str s1, .slice ao1 n1 c1], .bool true], str l, .tuple #[.agg #[str s1, .slice ao1 n1 c1], .bool true], .agg #[str s1, .slice ao1 n1 c1], .bool true, vs 0, vs 1, vs 2, vs 3, undef, undef, undef, undef, undef, undef, undef, undef, undef], []⟩ := by rw [← hAA, ← ec]; kernel_rfl
      clear hAA hK
      have aW := after_sets2 hE' G hg (str rs) (.slice ra rn rc)
      have q2 := heap_sets2 (u := str rs) (u' := .slice ra rn rc) G
      obtain ⟨j0, j1, j2, j3, j4⟩ := pair_facts q2 (After.refl _)
      have hf1 := hfine _ _ hst
      have AW := Lib.hid (AY.out.trans aW)
      clear hd ec hst aW q2 j2 j3 j4 hfine
      generalize (W.setCell ⟨gg, 0, none⟩ (str rs)).setCell ⟨gg, 1, none⟩ (.slice ra rn rc) = X at *
      go_wp2_with (go_at_call 43; refine hf1.mono ?_; rintro e w2 ⟨rfl, hb2⟩)
      go_ret2
      exact ⟨rfl, AW.out.trans hb2⟩

theorem spec_fixApply (w : World) (l m : List UInt8) (hl : l.length ≤ 1000000000) (hm : m.length ≤ 1000000000) :
    Calls Try.prog 30 #[str l, str m] w (SOne' w (Tm.pFixApply l m)) := by
  have hterm := s_term w l hl
  have hterm2 := fun W => s_term W m hm
  unfold STermPost at hterm hterm2
  cases hp : Tm.parse l with
  | none =>
    rw [show Tm.pFixApply l m = none by unfold Tm.pFixApply; rw [hp]]
    rw [hp] at hterm
    simp only [Option.isSome_none] at hterm
    generalize (Tm.parse m).isSome = q at hterm2
    clear hp
    go_enter Try.func30, Try.ntmps30
    go_wp2_with fail
    refine hterm.mono ?_
    rintro e w1 ⟨s1, ao1, n1, c1, rfl, hb1, ht1⟩
    have hal1 := After.new w1 (.cells #[str s1, .slice ao1 n1 c1] 53)
    have q1 := heap_new' w1 (.cells #[str s1, .slice ao1 n1 c1] 53)
    clear ht1 hterm
    go_wp2_with fail
    refine (hterm2 _).mono ?_
    rintro e w2 ⟨s2, ao2, n2, c2, rfl, hb2, ht2⟩
    have hal2 := After.new w2 (.cells #[str s2, .slice ao2 n2 c2] 53)
    have q2 := heap_new' w2 (.cells #[str s2, .slice ao2 n2 c2] 53)
    have q1' := (hb2.trans hal2).heap q1
    have aY := ((hb1.trans hal1).trans hb2).trans hal2
    clear ht2 hterm2 q1
    go_wp2_with fail
    generalize w2.alloc (.cells #[str s2, .slice ao2 n2 c2] 53) = Y at *
    generalize w2.heap.size = g2 at *
    generalize w1.heap.size = g1 at *
    have G1 := Lib.hid q1'
    have G2 := Lib.hid q2
    have AY := Lib.hid aY
    have hself := (After.refl Y).drew
    clear q1' q2 aY hal1 hal2 hb1 hb2
    rename_i KK hKK
    refine wp_region_reg (by kernel_rfl) (by kernel_rfl) After After.refl (fun _ _ _ h g => h.trans g)
      (yds [.tree (Tm.fix), .raw, .raw, .rraw 2, .raw, .lit (.bool false), .lit (.bool false), .free, .lit (.bool false), .lit (.tuple #[str ((endR (Tm.k) false).getD []), .bool (endR (Tm.k) false).isSome]), .lit (str ((endR (Tm.k) false).getD [])), .lit (.bool (endR (Tm.k) false).isSome), .lit (str ((endR (Tm.k) false).getD [])), .lit (.bool (endR (Tm.k) false).isSome)]) yds_later (lt14 ?_ ?_ ?_ ?_ ?_ ?_ ?_ ?_ ?_ ?_ ?_ ?_ ?_ ?_) ?_
    · intro vs W hE hd K hK
      have hE' : After Y W := hself.trans hE
      exact do_call (Tm.fix) (f := 65) (args := #[]) (by kernel_rfl) (by kernel_rfl) (by kernel_rfl) (s_fix W) hK
    · intro vs W hE hd K hK
      have hE' : After Y W := hself.trans hE
      have G := hE'.heap G1.out
      exact do_load .raw (x := .tmp 6) (by kernel_rfl) (by kernel_rfl) (by kernel_rfl) (by kernel_rfl) (cell_of_heap (i := 0) G) (cell_of_heap (i := 1) G) ⟨_, _, _, _, rfl⟩ hK
    · intro vs W hE hd K hK
      have hE' : After Y W := hself.trans hE
      have G := hE'.heap G2.out
      exact do_load .raw (x := .tmp 8) (by kernel_rfl) (by kernel_rfl) (by kernel_rfl) (by kernel_rfl) (cell_of_heap (i := 0) G) (cell_of_heap (i := 1) G) ⟨_, _, _, _, rfl⟩ hK
    · intro vs W hE hd K hK
      have hE' : After Y W := hself.trans hE
      exact do_rraw2 (x := .tmp 21) (y := .tmp 22) (u := vs 1) (v := vs 2) (by kernel_rfl) (by kernel_rfl) (by kernel_rfl) (by kernel_rfl) (by kernel_rfl) (hd 1 (by kernel_rfl)) (hd 2 (by kernel_rfl)) hK
    · intro vs W hE hd K hK
      have hE' : After Y W := hself.trans hE
      exact do_appraw (u1 := vs 0) (u2 := vs 3) (n := 2) (by kernel_rfl) (by kernel_rfl) (by kernel_rfl) (rawOf (hd 0 (by kernel_rfl))) (hd 3 (by kernel_rfl)) (by decide) hK
    · intro vs W hE hd K hK
      have hE' : After Y W := hself.trans hE
      exact do_pure (v := .bool false) (.lit (.bool false)) (by kernel_rfl) (by kernel_rfl) (by kernel_rfl) rfl hK
    · intro vs W hE hd K hK
      have hE' : After Y W := hself.trans hE
      exact do_pure (v := vs 5) (.lit (.bool false)) (by kernel_rfl) (by kernel_rfl) (by kernel_rfl) (hd 5 (by kernel_rfl)) hK
    · intro vs W hE hd K hK
      have hE' : After Y W := hself.trans hE
      exact do_offg (j := 6) (b := true) (c := false) (u := vs 6) (by kernel_rfl) (by kernel_rfl) (by kernel_rfl) (hd 6 (by kernel_rfl)) (by decide) hK
    · intro vs W hE hd K hK
      have hE' : After Y W := hself.trans hE
      exact do_pick (c := .tmp 26) (x := .tmp 27) (y := .const (.bool false)) (u := vs 6) (p := false) (r := .bool false) (by kernel_rfl) (by kernel_rfl) (by kernel_rfl) (by kernel_rfl) (hd 6 (by kernel_rfl)) (by rw [if_neg (by decide)]; rfl) hK
    · intro vs W hE hd K hK
      have hE' : After Y W := hself.trans hE
      exact do_calllit (v := .tuple #[str ((endR (Tm.k) false).getD []), .bool (endR (Tm.k) false).isSome]) (f := 67) (args := #[vs 4, vs 8]) (by kernel_rfl) (by kernel_rfl) (by kernel_rfl) (by rw [show vs 8 = .bool false from hd 8 (by kernel_rfl)]; exact s_end4' W (Tm.k) false (vs 4) (hd 4 (by kernel_rfl)) (fun h => by cases h)) hK
    · intro vs W hE hd K hK
      have hE' : After Y W := hself.trans hE
      exact do_extract0 (x := .tmp 29) (u := vs 9) (a := str ((endR (Tm.k) false).getD [])) (b := .bool (endR (Tm.k) false).isSome) (by kernel_rfl) (by kernel_rfl) (by kernel_rfl) (by kernel_rfl) (hd 9 (by kernel_rfl)) hK
    · intro vs W hE hd K hK
      have hE' : After Y W := hself.trans hE
      exact do_extract1 (x := .tmp 29) (u := vs 9) (a := str ((endR (Tm.k) false).getD [])) (b := .bool (endR (Tm.k) false).isSome) (by kernel_rfl) (by kernel_rfl) (by kernel_rfl) (by kernel_rfl) (hd 9 (by kernel_rfl)) hK
    · intro vs W hE hd K hK
      have hE' : After Y W := hself.trans hE
      exact do_pure (v := vs 10) (.lit (str ((endR (Tm.k) false).getD []))) (by kernel_rfl) (by kernel_rfl) (by kernel_rfl) (hd 10 (by kernel_rfl)) hK
    · intro vs W hE hd K hK
      have hE' : After Y W := hself.trans hE
      exact do_pure (v := vs 11) (.lit (.bool (endR (Tm.k) false).isSome)) (by kernel_rfl) (by kernel_rfl) (by kernel_rfl) (hd 11 (by kernel_rfl)) hK
    intro vs W hE hd
    have hE' : After Y W := hself.trans hE
    have er0 : vs 12 = str ((endR (Tm.k) false).getD []) := hd 12 (by decide)
    have er1 : vs 13 = .bool (endR (Tm.k) false).isSome := hd 13 (by decide)
    refine hKK _ _ ?_
    generalize hAA : frame _ _ vs = AA
    obtain rfl : AA = ⟨#[str l, str m, undef, undef, vs 12, vs 13, .pointer (some ⟨g1, 0, none⟩), .bool false, .pointer (some ⟨g2, 0, none⟩), .bool q, .tuple #[.agg #[str s1, .slice ao1 n1 c1], .bool false], str l, .tuple #[.agg #[str s1, .slice ao1 n1 c1], .bool false], .agg #[str s1, .slice ao1 n1 c1], .bool false, .tuple #[.agg #[str s2, .slice ao2 n2 c2], .bool q], str m, .tuple #[.agg #[str s2, .slice ao2 n2 c2], .bool q], .agg #[str s2, .slice ao2 n2 c2], .bool q, vs 0, vs 1, vs 2, vs 3, vs 4, vs 5, vs 6, vs 7, vs 8, vs 9, vs 10, vs 11], []⟩ := by rw [← hAA]; kernel_rfl
    clear hAA hd
    generalize vs 12 = rv0 at *
    subst er0
    generalize vs 13 = rv1 at *
    subst er1
    go_wp2_with fail
    go_ret2
    exact ⟨rfl, AY.out.trans hE'⟩
  | some t =>
    cases hq : Tm.parse m with
    | none =>
      rw [show Tm.pFixApply l m = none by unfold Tm.pFixApply; rw [hp, hq]]
      rw [hp] at hterm
      simp only [hq, Option.isSome_none] at hterm2
      clear hp hq
      go_enter Try.func30, Try.ntmps30
      go_wp2_with fail
      refine hterm.mono ?_
      rintro e w1 ⟨s1, ao1, n1, c1, rfl, hb1, ht1⟩
      have hal1 := After.new w1 (.cells #[str s1, .slice ao1 n1 c1] 53)
      have q1 := heap_new' w1 (.cells #[str s1, .slice ao1 n1 c1] 53)
      clear ht1 hterm
      go_wp2_with fail
      refine (hterm2 _).mono ?_
      rintro e w2 ⟨s2, ao2, n2, c2, rfl, hb2, ht2⟩
      have hal2 := After.new w2 (.cells #[str s2, .slice ao2 n2 c2] 53)
      have q2 := heap_new' w2 (.cells #[str s2, .slice ao2 n2 c2] 53)
      have q1' := (hb2.trans hal2).heap q1
      have aY := ((hb1.trans hal1).trans hb2).trans hal2
      clear ht2 hterm2 q1
      go_wp2_with fail
      generalize w2.alloc (.cells #[str s2, .slice ao2 n2 c2] 53) = Y at *
      generalize w2.heap.size = g2 at *
      generalize w1.heap.size = g1 at *
      have G1 := Lib.hid q1'
      have G2 := Lib.hid q2
      have AY := Lib.hid aY
      have hself := (After.refl Y).drew
      clear q1' q2 aY hal1 hal2 hb1 hb2
      rename_i KK hKK
      refine wp_region_reg (by kernel_rfl) (by kernel_rfl) After After.refl (fun _ _ _ h g => h.trans g)
        (yds [.tree (Tm.fix), .raw, .raw, .rraw 2, .raw, .lit (.bool true), .lit (.bool true), .lit (.bool false), .lit (.bool false), .lit (.tuple #[str ((endR (Tm.k) false).getD []), .bool (endR (Tm.k) false).isSome]), .lit (str ((endR (Tm.k) false).getD [])), .lit (.bool (endR (Tm.k) false).isSome), .lit (str ((endR (Tm.k) false).getD [])), .lit (.bool (endR (Tm.k) false).isSome)]) yds_later (lt14 ?_ ?_ ?_ ?_ ?_ ?_ ?_ ?_ ?_ ?_ ?_ ?_ ?_ ?_) ?_
      · intro vs W hE hd K hK
        have hE' : After Y W := hself.trans hE
        exact do_call (Tm.fix) (f := 65) (args := #[]) (by kernel_rfl) (by kernel_rfl) (by kernel_rfl) (s_fix W) hK
      · intro vs W hE hd K hK
        have hE' : After Y W := hself.trans hE
        have G := hE'.heap G1.out
        exact do_load .raw (x := .tmp 6) (by kernel_rfl) (by kernel_rfl) (by kernel_rfl) (by kernel_rfl) (cell_of_heap (i := 0) G) (cell_of_heap (i := 1) G) ⟨_, _, _, _, rfl⟩ hK
      · intro vs W hE hd K hK
        have hE' : After Y W := hself.trans hE
        have G := hE'.heap G2.out
        exact do_load .raw (x := .tmp 8) (by kernel_rfl) (by kernel_rfl) (by kernel_rfl) (by kernel_rfl) (cell_of_heap (i := 0) G) (cell_of_heap (i := 1) G) ⟨_, _, _, _, rfl⟩ hK
      · intro vs W hE hd K hK
        have hE' : After Y W := hself.trans hE
        exact do_rraw2 (x := .tmp 21) (y := .tmp 22) (u := vs 1) (v := vs 2) (by kernel_rfl) (by kernel_rfl) (by kernel_rfl) (by kernel_rfl) (by kernel_rfl) (hd 1 (by kernel_rfl)) (hd 2 (by kernel_rfl)) hK
      · intro vs W hE hd K hK
        have hE' : After Y W := hself.trans hE
        exact do_appraw (u1 := vs 0) (u2 := vs 3) (n := 2) (by kernel_rfl) (by kernel_rfl) (by kernel_rfl) (rawOf (hd 0 (by kernel_rfl))) (hd 3 (by kernel_rfl)) (by decide) hK
      · intro vs W hE hd K hK
        have hE' : After Y W := hself.trans hE
        exact do_pure (v := .bool true) (.lit (.bool true)) (by kernel_rfl) (by kernel_rfl) (by kernel_rfl) rfl hK
      · intro vs W hE hd K hK
        have hE' : After Y W := hself.trans hE
        exact do_pure (v := vs 5) (.lit (.bool true)) (by kernel_rfl) (by kernel_rfl) (by kernel_rfl) (hd 5 (by kernel_rfl)) hK
      · intro vs W hE hd K hK
        have hE' : After Y W := hself.trans hE
        exact do_on (j := 6) (u := vs 6) (v := .bool false) (.lit (.bool false)) (by kernel_rfl) (by kernel_rfl) (by kernel_rfl) (hd 6 (by kernel_rfl)) (by kernel_rfl) rfl hK
      · intro vs W hE hd K hK
        have hE' : After Y W := hself.trans hE
        exact do_pick (c := .tmp 26) (x := .tmp 27) (y := .const (.bool false)) (u := vs 6) (p := true) (r := .bool false) (by kernel_rfl) (by kernel_rfl) (by kernel_rfl) (by kernel_rfl) (hd 6 (by kernel_rfl)) (by rw [if_pos rfl]; exact Eq.trans (by kernel_rfl : _ = vs 7) (hd 7 (by kernel_rfl))) hK
      · intro vs W hE hd K hK
        have hE' : After Y W := hself.trans hE
        exact do_calllit (v := .tuple #[str ((endR (Tm.k) false).getD []), .bool (endR (Tm.k) false).isSome]) (f := 67) (args := #[vs 4, vs 8]) (by kernel_rfl) (by kernel_rfl) (by kernel_rfl) (by rw [show vs 8 = .bool false from hd 8 (by kernel_rfl)]; exact s_end4' W (Tm.k) false (vs 4) (hd 4 (by kernel_rfl)) (fun h => by cases h)) hK
      · intro vs W hE hd K hK
        have hE' : After Y W := hself.trans hE
        exact do_extract0 (x := .tmp 29) (u := vs 9) (a := str ((endR (Tm.k) false).getD [])) (b := .bool (endR (Tm.k) false).isSome) (by kernel_rfl) (by kernel_rfl) (by kernel_rfl) (by kernel_rfl) (hd 9 (by kernel_rfl)) hK
      · intro vs W hE hd K hK
        have hE' : After Y W := hself.trans hE
        exact do_extract1 (x := .tmp 29) (u := vs 9) (a := str ((endR (Tm.k) false).getD [])) (b := .bool (endR (Tm.k) false).isSome) (by kernel_rfl) (by kernel_rfl) (by kernel_rfl) (by kernel_rfl) (hd 9 (by kernel_rfl)) hK
      · intro vs W hE hd K hK
        have hE' : After Y W := hself.trans hE
        exact do_pure (v := vs 10) (.lit (str ((endR (Tm.k) false).getD []))) (by kernel_rfl) (by kernel_rfl) (by kernel_rfl) (hd 10 (by kernel_rfl)) hK
      · intro vs W hE hd K hK
        have hE' : After Y W := hself.trans hE
        exact do_pure (v := vs 11) (.lit (.bool (endR (Tm.k) false).isSome)) (by kernel_rfl) (by kernel_rfl) (by kernel_rfl) (hd 11 (by kernel_rfl)) hK
      intro vs W hE hd
      have hE' : After Y W := hself.trans hE
      have er0 : vs 12 = str ((endR (Tm.k) false).getD []) := hd 12 (by decide)
      have er1 : vs 13 = .bool (endR (Tm.k) false).isSome := hd 13 (by decide)
      refine hKK _ _ ?_
      generalize hAA : frame _ _ vs = AA
      obtain rfl : AA = ⟨#[str l, str m, undef, undef, vs 12, vs 13, .pointer (some ⟨g1, 0, none⟩), .bool true, .pointer (some ⟨g2, 0, none⟩), .bool false, .tuple #[.agg #[str s1, .slice ao1 n1 c1], .bool true], str l, .tuple #[.agg #[str s1, .slice ao1 n1 c1], .bool true], .agg #[str s1, .slice ao1 n1 c1], .bool true, .tuple #[.agg #[str s2, .slice ao2 n2 c2], .bool false], str m, .tuple #[.agg #[str s2, .slice ao2 n2 c2], .bool false], .agg #[str s2, .slice ao2 n2 c2], .bool false, vs 0, vs 1, vs 2, vs 3, vs 4, vs 5, vs 6, vs 7, vs 8, vs 9, vs 10, vs 11], []⟩ := by rw [← hAA]; kernel_rfl
      clear hAA hd
      generalize vs 12 = rv0 at *
      subst er0
      generalize vs 13 = rv1 at *
      subst er1
      go_wp2_with fail
      go_ret2
      exact ⟨rfl, AY.out.trans hE'⟩
    | some t2 =>
      obtain ⟨hg, hf, hs, _, _⟩ := Tm.parse_facts hp
      obtain ⟨hgu, hfu, hsu, _, _⟩ := Tm.parse_facts hq
      have HG := Lib.hid (show (Tm.app (.app Tm.fix t) t2).good = true ∧ (Tm.app (.app Tm.fix t) t2).size ≤ 1000000 from ⟨by
        have : Tm.fix.good = true := by decide +kernel
        simp [Tm.good, this, hg, hgu], by
        have : Tm.fix.size ≤ 1000 := by decide +kernel
        simp only [Tm.size]; omega⟩)
      rw [show Tm.pFixApply l m = endR (.app (.app .fix t) t2) true by unfold Tm.pFixApply; rw [hp, hq]; rfl]
      rw [hp] at hterm
      simp only [hq] at hterm2
      clear hp hq
      go_enter Try.func30, Try.ntmps30
      go_wp2_with fail
      refine hterm.mono ?_
      rintro e w1 ⟨s1, ao1, n1, c1, rfl, hb1, ht1⟩
      have hal1 := After.new w1 (.cells #[str s1, .slice ao1 n1 c1] 53)
      have q1 := heap_new' w1 (.cells #[str s1, .slice ao1 n1 c1] 53)
      have st1 := (ht1 t rfl).later hal1
      clear ht1 hterm
      go_wp2_with fail
      refine (hterm2 _).mono ?_
      rintro e w2 ⟨s2, ao2, n2, c2, rfl, hb2, ht2⟩
      have hal2 := After.new w2 (.cells #[str s2, .slice ao2 n2 c2] 53)
      have q2 := heap_new' w2 (.cells #[str s2, .slice ao2 n2 c2] 53)
      have q1' := (hb2.trans hal2).heap q1
      have st2 := (ht2 t2 rfl).later hal2
      have st1' := st1.later (hb2.trans hal2)
      clear st1
      have aY := ((hb1.trans hal1).trans hb2).trans hal2
      clear ht2 hterm2 q1
      go_wp2_with fail
      generalize w2.alloc (.cells #[str s2, .slice ao2 n2 c2] 53) = Y at *
      generalize w2.heap.size = g2 at *
      generalize w1.heap.size = g1 at *
      have G1 := Lib.hid q1'
      have G2 := Lib.hid q2
      have S1 := Lib.hid st1'
      have S2 := Lib.hid st2
      clear st1' st2
      have AY := Lib.hid aY
      have hself := (After.refl Y).drew
      clear q1' q2 aY hal1 hal2 hb1 hb2
      rename_i KK hKK
      refine wp_region_reg (by kernel_rfl) (by kernel_rfl) After After.refl (fun _ _ _ h g => h.trans g)
        (yds [.tree (Tm.fix), .tree (t), .tree (t2), .row [t, t2], .tree (.app (.app (Tm.fix) (t)) (t2)), .lit (.bool true), .lit (.bool true), .lit (.bool true), .lit (.bool true), .lit (.tuple #[str ((endR (.app (.app (Tm.fix) (t)) (t2)) true).getD []), .bool (endR (.app (.app (Tm.fix) (t)) (t2)) true).isSome]), .lit (str ((endR (.app (.app (Tm.fix) (t)) (t2)) true).getD [])), .lit (.bool (endR (.app (.app (Tm.fix) (t)) (t2)) true).isSome), .lit (str ((endR (.app (.app (Tm.fix) (t)) (t2)) true).getD [])), .lit (.bool (endR (.app (.app (Tm.fix) (t)) (t2)) true).isSome)]) yds_later (lt14 ?_ ?_ ?_ ?_ ?_ ?_ ?_ ?_ ?_ ?_ ?_ ?_ ?_ ?_) ?_
      · intro vs W hE hd K hK
        have hE' : After Y W := hself.trans hE
        exact do_call (Tm.fix) (f := 65) (args := #[]) (by kernel_rfl) (by kernel_rfl) (by kernel_rfl) (s_fix W) hK
      · intro vs W hE hd K hK
        have hE' : After Y W := hself.trans hE
        have G := hE'.heap G1.out
        exact do_load (.tree (t)) (x := .tmp 6) (by kernel_rfl) (by kernel_rfl) (by kernel_rfl) (by kernel_rfl) (cell_of_heap (i := 0) G) (cell_of_heap (i := 1) G) ⟨_, _, _, _, rfl, S1.out.later hE'⟩ hK
      · intro vs W hE hd K hK
        have hE' : After Y W := hself.trans hE
        have G := hE'.heap G2.out
        exact do_load (.tree (t2)) (x := .tmp 8) (by kernel_rfl) (by kernel_rfl) (by kernel_rfl) (by kernel_rfl) (cell_of_heap (i := 0) G) (cell_of_heap (i := 1) G) ⟨_, _, _, _, rfl, S2.out.later hE'⟩ hK
      · intro vs W hE hd K hK
        have hE' : After Y W := hself.trans hE
        exact do_row2 (x := .tmp 21) (y := .tmp 22) (u := vs 1) (v := vs 2) (by kernel_rfl) (by kernel_rfl) (by kernel_rfl) (by kernel_rfl) (by kernel_rfl) (hd 1 (by kernel_rfl)) (hd 2 (by kernel_rfl)) hK
      · intro vs W hE hd K hK
        have hE' : After Y W := hself.trans hE
        exact do_app (u1 := vs 0) (u2 := vs 3) (us := [t, t2]) (by kernel_rfl) (by kernel_rfl) (by kernel_rfl) (hd 0 (by kernel_rfl)) (hd 3 (by kernel_rfl)) (by simp) hK
      · intro vs W hE hd K hK
        have hE' : After Y W := hself.trans hE
        exact do_pure (v := .bool true) (.lit (.bool true)) (by kernel_rfl) (by kernel_rfl) (by kernel_rfl) rfl hK
      · intro vs W hE hd K hK
        have hE' : After Y W := hself.trans hE
        exact do_pure (v := vs 5) (.lit (.bool true)) (by kernel_rfl) (by kernel_rfl) (by kernel_rfl) (hd 5 (by kernel_rfl)) hK
      · intro vs W hE hd K hK
        have hE' : After Y W := hself.trans hE
        exact do_on (j := 6) (u := vs 6) (v := .bool true) (.lit (.bool true)) (by kernel_rfl) (by kernel_rfl) (by kernel_rfl) (hd 6 (by kernel_rfl)) (by kernel_rfl) rfl hK
      · intro vs W hE hd K hK
        have hE' : After Y W := hself.trans hE
        exact do_pick (c := .tmp 26) (x := .tmp 27) (y := .const (.bool false)) (u := vs 6) (p := true) (r := .bool true) (by kernel_rfl) (by kernel_rfl) (by kernel_rfl) (by kernel_rfl) (hd 6 (by kernel_rfl)) (by rw [if_pos rfl]; exact Eq.trans (by kernel_rfl : _ = vs 7) (hd 7 (by kernel_rfl))) hK
      · intro vs W hE hd K hK
        have hE' : After Y W := hself.trans hE
        exact do_calllit (v := .tuple #[str ((endR (.app (.app (Tm.fix) (t)) (t2)) true).getD []), .bool (endR (.app (.app (Tm.fix) (t)) (t2)) true).isSome]) (f := 67) (args := #[vs 4, vs 8]) (by kernel_rfl) (by kernel_rfl) (by kernel_rfl) (by rw [show vs 8 = .bool true from hd 8 (by kernel_rfl)]; exact s_end4' W (.app (.app (Tm.fix) (t)) (t2)) true (vs 4) (rawOf (hd 4 (by kernel_rfl))) (fun _ => ⟨stOf (hd 4 (by kernel_rfl)), HG.out.1, HG.out.2⟩)) hK
      · intro vs W hE hd K hK
        have hE' : After Y W := hself.trans hE
        exact do_extract0 (x := .tmp 29) (u := vs 9) (a := str ((endR (.app (.app (Tm.fix) (t)) (t2)) true).getD [])) (b := .bool (endR (.app (.app (Tm.fix) (t)) (t2)) true).isSome) (by kernel_rfl) (by kernel_rfl) (by kernel_rfl) (by kernel_rfl) (hd 9 (by kernel_rfl)) hK
      · intro vs W hE hd K hK
        have hE' : After Y W := hself.trans hE
        exact do_extract1 (x := .tmp 29) (u := vs 9) (a := str ((endR (.app (.app (Tm.fix) (t)) (t2)) true).getD [])) (b := .bool (endR (.app (.app (Tm.fix) (t)) (t2)) true).isSome) (by kernel_rfl) (by kernel_rfl) (by kernel_rfl) (by kernel_rfl) (hd 9 (by kernel_rfl)) hK
      · intro vs W hE hd K hK
        have hE' : After Y W := hself.trans hE
        exact do_pure (v := vs 10) (.lit (str ((endR (.app (.app (Tm.fix) (t)) (t2)) true).getD []))) (by kernel_rfl) (by kernel_rfl) (by kernel_rfl) (hd 10 (by kernel_rfl)) hK
      · intro vs W hE hd K hK
        have hE' : After Y W := hself.trans hE
        exact do_pure (v := vs 11) (.lit (.bool (endR (.app (.app (Tm.fix) (t)) (t2)) true).isSome)) (by kernel_rfl) (by kernel_rfl) (by kernel_rfl) (hd 11 (by kernel_rfl)) hK
      intro vs W hE hd
      have hE' : After Y W := hself.trans hE
      have er0 : vs 12 = str ((endR (.app (.app (Tm.fix) (t)) (t2)) true).getD []) := hd 12 (by decide)
      have er1 : vs 13 = .bool (endR (.app (.app (Tm.fix) (t)) (t2)) true).isSome := hd 13 (by decide)
      refine hKK _ _ ?_
      generalize hAA : frame _ _ vs = AA
      obtain rfl : AA = ⟨#[str l, str m, undef, undef, vs 12, vs 13, .pointer (some ⟨g1, 0, none⟩), .bool true, .pointer (some ⟨g2, 0, none⟩), .bool true, .tuple #[.agg #[str s1, .slice ao1 n1 c1], .bool true], str l, .tuple #[.agg #[str s1, .slice ao1 n1 c1], .bool true], .agg #[str s1, .slice ao1 n1 c1], .bool true, .tuple #[.agg #[str s2, .slice ao2 n2 c2], .bool true], str m, .tuple #[.agg #[str s2, .slice ao2 n2 c2], .bool true], .agg #[str s2, .slice ao2 n2 c2], .bool true, vs 0, vs 1, vs 2, vs 3, vs 4, vs 5, vs 6, vs 7, vs 8, vs 9, vs 10, vs 11], []⟩ := by rw [← hAA]; kernel_rfl
      clear hAA hd
      generalize vs 12 = rv0 at *
      subst er0
      generalize vs 13 = rv1 at *
      subst er1
      go_wp2_with fail
      go_ret2
      exact ⟨rfl, AY.out.trans hE'⟩
end Go.Proofs.Ytfjohagdlaiapaa
