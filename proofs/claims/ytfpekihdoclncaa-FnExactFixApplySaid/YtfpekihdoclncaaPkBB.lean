/-
  The model's exported functions CodeJoin, FixOf, FixApply.
-/
import Derived.Test.YtfpekihdoclncaaPkBA
import Derived.Test.YtfpekihdoclncaaPkAD
import Derived.Test.YtfpekihdoclncaaPkAE
namespace Go.Proofs.Ytfpekihdoclncaa
open Go.RowKit

set_option maxHeartbeats 2000000
set_option maxRecDepth 100000

theorem join_of {c d : Option Tm} {t t' : Tm} {f : Tm → Tm → Tm} {b e : Bool} (h : c = if b = true then some t else none) (g : d = if e = true then some t' else none) : (c.bind fun x => d.bind fun y => (Tm.endOf (f x y)).map Tm.text) = endR (f t t') (b && e) := by
  subst h
  subst g
  unfold endR
  cases b <;> cases e <;> rfl

theorem spec_codeJoin (w : World) (l m : List UInt8) (hl : l.length ≤ 1000000000) (hm : m.length ≤ 1000000000) :
    Calls Try.prog 16 #[str l, str m] w (SOne' w (Tm.pCodeJoin l m)) := by
  have hc := s_closed4 w l hl
  have hd := fun W => s_closed4 W m hm
  unfold SClosedPost at hc hd
  cases hp : Tm.closedOf l with
  | none =>
    rw [show Tm.pCodeJoin l m = none by unfold Tm.pCodeJoin; rw [codeT_none hp]; rfl]
    rw [hp] at hc
    clear hp
    generalize (Tm.closedOf m).isSome = q at hd
    go_enter Try.func16, Try.ntmps16
    go_wp2_with fail
    refine hc.mono ?_
    rintro e w1 ⟨s1, ao1, n1, c1, rfl, hb1, ht1⟩
    clear ht1 hc
    go_wp2_with fail
    refine (hd _).mono ?_
    rintro e w2 ⟨s2, ao2, n2, c2, rfl, hb2, ht2⟩
    clear ht2 hd
    go_wp2_with fail
    go_ret2
    exact ⟨rfl, ((hb1.alloc _).trans hb2).alloc _⟩
  | some t =>
    cases hq : Tm.closedOf m with
    | none =>
      rw [show Tm.pCodeJoin l m = none by unfold Tm.pCodeJoin; rw [codeT_none hq]; cases Tm.codeT l <;> rfl]
      rw [hp] at hc
      simp only [hq] at hd
      clear hp hq
      go_enter Try.func16, Try.ntmps16
      go_wp2_with fail
      refine hc.mono ?_
      rintro e w1 ⟨s1, ao1, n1, c1, rfl, hb1, ht1⟩
      clear ht1 hc
      go_wp2_with fail
      refine (hd _).mono ?_
      rintro e w2 ⟨s2, ao2, n2, c2, rfl, hb2, ht2⟩
      clear ht2 hd
      go_wp2_with fail
      go_ret2
      exact ⟨rfl, ((hb1.alloc _).trans hb2).alloc _⟩
    | some t2 =>
      obtain ⟨hg, hs, hn, hgx, hzx, _⟩ := small_facts hp
      obtain ⟨hg2, hs2, hn2, hgy, hzy, _⟩ := small_facts hq
      have hcT := codeT_small hp
      have hdT := codeT_small hq
      rw [hp] at hc
      simp only [hq] at hd
      obtain ⟨x, hx⟩ : ∃ x, x = smallT t := ⟨_, rfl⟩
      obtain ⟨u, hu⟩ : ∃ b, b = smallB t := ⟨_, rfl⟩
      obtain ⟨y, hy⟩ : ∃ x, x = smallT t2 := ⟨_, rfl⟩
      obtain ⟨v, hv⟩ : ∃ b, b = smallB t2 := ⟨_, rfl⟩
      have hsm := fun W s ao m c h => s_small4 W t s ao m c h hg (by omega) hn
      have hsm2 := fun W s ao m c h => s_small4 W t2 s ao m c h hg2 (by omega) hn2
      unfold SNormPost at hsm hsm2
      rw [← hx, ← hu] at hcT
      rw [← hx, ← hu] at hsm
      rw [← hy, ← hv] at hdT
      rw [← hy, ← hv] at hsm2
      rw [← hx] at hgx hzx
      rw [← hy] at hgy hzy
      rw [show Tm.pCodeJoin l m = endR (.app (.app Tm.joinC x) y) (u && v) from join_of (f := fun c d => .app (.app Tm.joinC c) d) hcT hdT]
      have HG := Lib.hid (show (Tm.app (.app Tm.joinC x) y).good = true ∧ (Tm.app (.app Tm.joinC x) y).size ≤ 1000000 from ⟨by simp [Tm.good, join_good.1, hgx, hgy], by have := join_good.2; simp only [Tm.size]; omega⟩)
      clear hx hu hy hv hcT hdT hp hq hgx hgy
      cases u with
      | true =>
        rw [Bool.true_and]
        go_enter Try.func16, Try.ntmps16
        go_wp2_with fail
        refine hc.mono ?_
        rintro e w1 ⟨s1, ao1, n1, c1, rfl, hb1, ht1⟩
        have hal1 := After.new w1 (.cells #[str s1, .slice ao1 n1 c1] 32)
        have hbox1 := heap_new' w1 (.cells #[str s1, .slice ao1 n1 c1] 32)
        have HT1 := Lib.hid ((ht1 t rfl).later hal1)
        clear ht1 hc
        go_wp2_with fail
        refine (hd _).mono ?_
        rintro e w2 ⟨s2, ao2, n2, c2, rfl, hb2, ht2⟩
        have hal2 := After.new w2 (.cells #[str s2, .slice ao2 n2 c2] 32)
        have hbox2 := heap_new' w2 (.cells #[str s2, .slice ao2 n2 c2] 32)
        have hbox1' := (hb2.trans hal2).heap hbox1
        have HT2 := Lib.hid ((ht2 t2 rfl).later hal2)
        obtain ⟨k0, k1, k2, k3, k4⟩ := pair_facts hbox1' (After.refl _)
        have hcall := hsm _ _ _ _ _ (HT1.out.later (hb2.trans hal2))
        have HB2 := Lib.hid hbox2
        clear ht2 hd hbox1 hbox1' hbox2 hsm k2 k3 k4
        go_wp2_with fail
        refine hcall.mono ?_
        rintro e w3 ⟨s3, ao3, n3, c3, rfl, hb3, ht3⟩
        have hal3 := After.new w3 (.cells #[str s3, .slice ao3 n3 c3] 32)
        have q3 := heap_new' w3 (.cells #[str s3, .slice ao3 n3 c3] 32)
        have hbox2 := (hb3.trans hal3).heap HB2.out
        obtain ⟨j0, j1, j2, j3, j4⟩ := pair_facts hbox2 (After.refl _)
        have hcall2 := hsm2 _ _ _ _ _ (HT2.out.later (hb3.trans hal3))
        have HT3 := Lib.hid (ht3.later hal3)
        have Q3 := Lib.hid q3
        clear ht3 hcall hbox2 hsm2 q3 j2 j3 j4 k0 k1
        go_wp2_with fail
        refine hcall2.mono ?_
        rintro e w4 ⟨s4, ao4, n4, c4, rfl, hb4, ht4⟩
        have hal4 := After.new w4 (.cells #[str s4, .slice ao4 n4 c4] 32)
        have q4 := heap_new' w4 (.cells #[str s4, .slice ao4 n4 c4] 32)
        have q3 := (hb4.trans hal4).heap Q3.out
        have st3 := HT3.out.later (hb4.trans hal4)
        have st4 := ht4.later hal4
        have aY := ((((((hb1.trans hal1).trans hb2).trans hal2).trans hb3).trans hal3).trans hb4).trans hal4
        clear j0 j1 hcall2 ht4
        go_wp2_with fail
        generalize w4.alloc (.cells #[str s4, .slice ao4 n4 c4] 32) = Y at *
        generalize w4.heap.size = g4 at *
        generalize w3.heap.size = g3 at *
        generalize w2.heap.size = g2 at *
        generalize w1.heap.size = g1 at *
        have G3 := Lib.hid q3
        have G4 := Lib.hid q4
        have S3 := Lib.hid st3
        have S4 := Lib.hid st4
        have AY := Lib.hid aY
        have hself := (After.refl Y).drew
        clear q3 q4 st3 st4 aY hal1 hal2 hal3 hal4 hb1 hb2 hb3 hb4
        rename_i KK hKK
        refine wp_region_reg (by kernel_rfl) (by kernel_rfl) After After.refl (fun _ _ _ h g => h.trans g)
          (yds [.tree (Tm.joinC), .tree (x), .tree (y), .row [x, y], .tree (.app (.app (Tm.joinC) (x)) (y)), .lit (.bool true), .lit (.bool true), .lit (.bool v), .lit (.bool v), .lit (.tuple #[str ((endR (.app (.app (Tm.joinC) (x)) (y)) v).getD []), .bool (endR (.app (.app (Tm.joinC) (x)) (y)) v).isSome]), .lit (str ((endR (.app (.app (Tm.joinC) (x)) (y)) v).getD [])), .lit (.bool (endR (.app (.app (Tm.joinC) (x)) (y)) v).isSome), .lit (str ((endR (.app (.app (Tm.joinC) (x)) (y)) v).getD [])), .lit (.bool (endR (.app (.app (Tm.joinC) (x)) (y)) v).isSome)]) yds_later (lt14 ?_ ?_ ?_ ?_ ?_ ?_ ?_ ?_ ?_ ?_ ?_ ?_ ?_ ?_) ?_
        · intro vs W hE hd K hK
          have hE' : After Y W := hself.trans hE
          exact do_call (Tm.joinC) (f := 39) (args := #[]) (by kernel_rfl) (by kernel_rfl) (by kernel_rfl) (s_join4 W) hK
        · intro vs W hE hd K hK
          have hE' : After Y W := hself.trans hE
          have G := hE'.heap G3.out
          exact do_load (.tree (x)) (x := .tmp 10) (by kernel_rfl) (by kernel_rfl) (by kernel_rfl) (by kernel_rfl) (cell_of_heap (i := 0) G) (cell_of_heap (i := 1) G) ⟨_, _, _, _, rfl, S3.out.later hE'⟩ hK
        · intro vs W hE hd K hK
          have hE' : After Y W := hself.trans hE
          have G := hE'.heap G4.out
          exact do_load (.tree (y)) (x := .tmp 12) (by kernel_rfl) (by kernel_rfl) (by kernel_rfl) (by kernel_rfl) (cell_of_heap (i := 0) G) (cell_of_heap (i := 1) G) ⟨_, _, _, _, rfl, S4.out.later hE'⟩ hK
        · intro vs W hE hd K hK
          have hE' : After Y W := hself.trans hE
          exact do_row2 (x := .tmp 41) (y := .tmp 42) (u := vs 1) (v := vs 2) (by kernel_rfl) (by kernel_rfl) (by kernel_rfl) (by kernel_rfl) (by kernel_rfl) (hd 1 (by kernel_rfl)) (hd 2 (by kernel_rfl)) hK
        · intro vs W hE hd K hK
          have hE' : After Y W := hself.trans hE
          exact do_app (u1 := vs 0) (u2 := vs 3) (us := [x, y]) (by kernel_rfl) (by kernel_rfl) (by kernel_rfl) (hd 0 (by kernel_rfl)) (hd 3 (by kernel_rfl)) (by simp) hK
        · intro vs W hE hd K hK
          have hE' : After Y W := hself.trans hE
          exact do_pure (v := .bool true) (.lit (.bool true)) (by kernel_rfl) (by kernel_rfl) (by kernel_rfl) rfl hK
        · intro vs W hE hd K hK
          have hE' : After Y W := hself.trans hE
          exact do_pure (v := vs 5) (.lit (.bool true)) (by kernel_rfl) (by kernel_rfl) (by kernel_rfl) (hd 5 (by kernel_rfl)) hK
        · intro vs W hE hd K hK
          have hE' : After Y W := hself.trans hE
          exact do_on (j := 6) (u := vs 6) (v := .bool v) (.lit (.bool v)) (by kernel_rfl) (by kernel_rfl) (by kernel_rfl) (hd 6 (by kernel_rfl)) (by kernel_rfl) rfl hK
        · intro vs W hE hd K hK
          have hE' : After Y W := hself.trans hE
          exact do_pick (c := .tmp 46) (x := .tmp 47) (y := .const (.bool false)) (u := vs 6) (p := true) (r := .bool v) (by kernel_rfl) (by kernel_rfl) (by kernel_rfl) (by kernel_rfl) (hd 6 (by kernel_rfl)) (by rw [if_pos rfl]; exact Eq.trans (by kernel_rfl : _ = vs 7) (hd 7 (by kernel_rfl))) hK
        · intro vs W hE hd K hK
          have hE' : After Y W := hself.trans hE
          exact do_calllit (v := .tuple #[str ((endR (.app (.app (Tm.joinC) (x)) (y)) v).getD []), .bool (endR (.app (.app (Tm.joinC) (x)) (y)) v).isSome]) (f := 36) (args := #[vs 4, vs 8]) (by kernel_rfl) (by kernel_rfl) (by kernel_rfl) (by rw [show vs 8 = .bool v from hd 8 (by kernel_rfl)]; exact s_end4' W (.app (.app (Tm.joinC) (x)) (y)) v (vs 4) (rawOf (hd 4 (by kernel_rfl))) (fun _ => ⟨stOf (hd 4 (by kernel_rfl)), HG.out.1, HG.out.2⟩)) hK
        · intro vs W hE hd K hK
          have hE' : After Y W := hself.trans hE
          exact do_extract0 (x := .tmp 49) (u := vs 9) (a := str ((endR (.app (.app (Tm.joinC) (x)) (y)) v).getD [])) (b := .bool (endR (.app (.app (Tm.joinC) (x)) (y)) v).isSome) (by kernel_rfl) (by kernel_rfl) (by kernel_rfl) (by kernel_rfl) (hd 9 (by kernel_rfl)) hK
        · intro vs W hE hd K hK
          have hE' : After Y W := hself.trans hE
          exact do_extract1 (x := .tmp 49) (u := vs 9) (a := str ((endR (.app (.app (Tm.joinC) (x)) (y)) v).getD [])) (b := .bool (endR (.app (.app (Tm.joinC) (x)) (y)) v).isSome) (by kernel_rfl) (by kernel_rfl) (by kernel_rfl) (by kernel_rfl) (hd 9 (by kernel_rfl)) hK
        · intro vs W hE hd K hK
          have hE' : After Y W := hself.trans hE
          exact do_pure (v := vs 10) (.lit (str ((endR (.app (.app (Tm.joinC) (x)) (y)) v).getD []))) (by kernel_rfl) (by kernel_rfl) (by kernel_rfl) (hd 10 (by kernel_rfl)) hK
        · intro vs W hE hd K hK
          have hE' : After Y W := hself.trans hE
          exact do_pure (v := vs 11) (.lit (.bool (endR (.app (.app (Tm.joinC) (x)) (y)) v).isSome)) (by kernel_rfl) (by kernel_rfl) (by kernel_rfl) (hd 11 (by kernel_rfl)) hK
        intro vs W hE hd
        have hE' : After Y W := hself.trans hE
        have er0 : vs 12 = str ((endR (.app (.app (Tm.joinC) (x)) (y)) v).getD []) := hd 12 (by decide)
        have er1 : vs 13 = .bool (endR (.app (.app (Tm.joinC) (x)) (y)) v).isSome := hd 13 (by decide)
        refine hKK _ _ ?_
        generalize hAA : frame _ _ vs = AA
        obtain rfl : AA = ⟨#[str l, str m, undef, undef, vs 12, vs 13, .pointer (some ⟨g1, 0, none⟩), .bool true, .pointer (some ⟨g2, 0, none⟩), .bool true, .pointer (some ⟨g3, 0, none⟩), .bool true, .pointer (some ⟨g4, 0, none⟩), .bool v, .tuple #[.agg #[str s1, .slice ao1 n1 c1], .bool true], str l, .tuple #[.agg #[str s1, .slice ao1 n1 c1], .bool true], .agg #[str s1, .slice ao1 n1 c1], .bool true, .tuple #[.agg #[str s2, .slice ao2 n2 c2], .bool true], str m, .tuple #[.agg #[str s2, .slice ao2 n2 c2], .bool true], .agg #[str s2, .slice ao2 n2 c2], .bool true, .bool true, .bool false, .bool false, .bool true, .bool false, .bool false, .tuple #[.agg #[str s3, .slice ao3 n3 c3], .bool true], .agg #[str s1, .slice ao1 n1 c1], .tuple #[.agg #[str s3, .slice ao3 n3 c3], .bool true], .agg #[str s3, .slice ao3 n3 c3], .bool true, .tuple #[.agg #[str s4, .slice ao4 n4 c4], .bool v], .agg #[str s2, .slice ao2 n2 c2], .tuple #[.agg #[str s4, .slice ao4 n4 c4], .bool v], .agg #[str s4, .slice ao4 n4 c4], .bool v, vs 0, vs 1, vs 2, vs 3, vs 4, vs 5, vs 6, vs 7, vs 8, vs 9, vs 10, vs 11], []⟩ := by rw [← hAA]; kernel_rfl
        clear hAA hd
        generalize vs 12 = rv0 at *
        subst er0
        generalize vs 13 = rv1 at *
        subst er1
        go_wp2_with fail
        go_ret2
        exact ⟨rfl, AY.out.trans hE'⟩
      | false =>
        rw [Bool.false_and]
        go_enter Try.func16, Try.ntmps16
        go_wp2_with fail
        refine hc.mono ?_
        rintro e w1 ⟨s1, ao1, n1, c1, rfl, hb1, ht1⟩
        have hal1 := After.new w1 (.cells #[str s1, .slice ao1 n1 c1] 32)
        have hbox1 := heap_new' w1 (.cells #[str s1, .slice ao1 n1 c1] 32)
        have HT1 := Lib.hid ((ht1 t rfl).later hal1)
        clear ht1 hc
        go_wp2_with fail
        refine (hd _).mono ?_
        rintro e w2 ⟨s2, ao2, n2, c2, rfl, hb2, ht2⟩
        have hal2 := After.new w2 (.cells #[str s2, .slice ao2 n2 c2] 32)
        have hbox2 := heap_new' w2 (.cells #[str s2, .slice ao2 n2 c2] 32)
        have hbox1' := (hb2.trans hal2).heap hbox1
        have HT2 := Lib.hid ((ht2 t2 rfl).later hal2)
        obtain ⟨k0, k1, k2, k3, k4⟩ := pair_facts hbox1' (After.refl _)
        have hcall := hsm _ _ _ _ _ (HT1.out.later (hb2.trans hal2))
        have HB2 := Lib.hid hbox2
        clear ht2 hd hbox1 hbox1' hbox2 hsm k2 k3 k4
        go_wp2_with fail
        refine hcall.mono ?_
        rintro e w3 ⟨s3, ao3, n3, c3, rfl, hb3, ht3⟩
        have hal3 := After.new w3 (.cells #[str s3, .slice ao3 n3 c3] 32)
        have q3 := heap_new' w3 (.cells #[str s3, .slice ao3 n3 c3] 32)
        have hbox2 := (hb3.trans hal3).heap HB2.out
        obtain ⟨j0, j1, j2, j3, j4⟩ := pair_facts hbox2 (After.refl _)
        have hcall2 := hsm2 _ _ _ _ _ (HT2.out.later (hb3.trans hal3))
        have HT3 := Lib.hid (ht3.later hal3)
        have Q3 := Lib.hid q3
        clear ht3 hcall hbox2 hsm2 q3 j2 j3 j4 k0 k1
        go_wp2_with fail
        refine hcall2.mono ?_
        rintro e w4 ⟨s4, ao4, n4, c4, rfl, hb4, ht4⟩
        have hal4 := After.new w4 (.cells #[str s4, .slice ao4 n4 c4] 32)
        have q4 := heap_new' w4 (.cells #[str s4, .slice ao4 n4 c4] 32)
        have q3 := (hb4.trans hal4).heap Q3.out
        have st3 := HT3.out.later (hb4.trans hal4)
        have st4 := ht4.later hal4
        have aY := ((((((hb1.trans hal1).trans hb2).trans hal2).trans hb3).trans hal3).trans hb4).trans hal4
        clear j0 j1 hcall2 ht4
        go_wp2_with fail
        generalize w4.alloc (.cells #[str s4, .slice ao4 n4 c4] 32) = Y at *
        generalize w4.heap.size = g4 at *
        generalize w3.heap.size = g3 at *
        generalize w2.heap.size = g2 at *
        generalize w1.heap.size = g1 at *
        have G3 := Lib.hid q3
        have G4 := Lib.hid q4
        have S3 := Lib.hid st3
        have S4 := Lib.hid st4
        have AY := Lib.hid aY
        have hself := (After.refl Y).drew
        clear q3 q4 st3 st4 aY hal1 hal2 hal3 hal4 hb1 hb2 hb3 hb4
        rename_i KK hKK
        refine wp_region_reg (by kernel_rfl) (by kernel_rfl) After After.refl (fun _ _ _ h g => h.trans g)
          (yds [.tree (Tm.joinC), .tree (x), .tree (y), .row [x, y], .tree (.app (.app (Tm.joinC) (x)) (y)), .lit (.bool false), .lit (.bool false), .free, .lit (.bool false), .lit (.tuple #[str ((endR (.app (.app (Tm.joinC) (x)) (y)) false).getD []), .bool (endR (.app (.app (Tm.joinC) (x)) (y)) false).isSome]), .lit (str ((endR (.app (.app (Tm.joinC) (x)) (y)) false).getD [])), .lit (.bool (endR (.app (.app (Tm.joinC) (x)) (y)) false).isSome), .lit (str ((endR (.app (.app (Tm.joinC) (x)) (y)) false).getD [])), .lit (.bool (endR (.app (.app (Tm.joinC) (x)) (y)) false).isSome)]) yds_later (lt14 ?_ ?_ ?_ ?_ ?_ ?_ ?_ ?_ ?_ ?_ ?_ ?_ ?_ ?_) ?_
        · intro vs W hE hd K hK
          have hE' : After Y W := hself.trans hE
          exact do_call (Tm.joinC) (f := 39) (args := #[]) (by kernel_rfl) (by kernel_rfl) (by kernel_rfl) (s_join4 W) hK
        · intro vs W hE hd K hK
          have hE' : After Y W := hself.trans hE
          have G := hE'.heap G3.out
          exact do_load (.tree (x)) (x := .tmp 10) (by kernel_rfl) (by kernel_rfl) (by kernel_rfl) (by kernel_rfl) (cell_of_heap (i := 0) G) (cell_of_heap (i := 1) G) ⟨_, _, _, _, rfl, S3.out.later hE'⟩ hK
        · intro vs W hE hd K hK
          have hE' : After Y W := hself.trans hE
          have G := hE'.heap G4.out
          exact do_load (.tree (y)) (x := .tmp 12) (by kernel_rfl) (by kernel_rfl) (by kernel_rfl) (by kernel_rfl) (cell_of_heap (i := 0) G) (cell_of_heap (i := 1) G) ⟨_, _, _, _, rfl, S4.out.later hE'⟩ hK
        · intro vs W hE hd K hK
          have hE' : After Y W := hself.trans hE
          exact do_row2 (x := .tmp 41) (y := .tmp 42) (u := vs 1) (v := vs 2) (by kernel_rfl) (by kernel_rfl) (by kernel_rfl) (by kernel_rfl) (by kernel_rfl) (hd 1 (by kernel_rfl)) (hd 2 (by kernel_rfl)) hK
        · intro vs W hE hd K hK
          have hE' : After Y W := hself.trans hE
          exact do_app (u1 := vs 0) (u2 := vs 3) (us := [x, y]) (by kernel_rfl) (by kernel_rfl) (by kernel_rfl) (hd 0 (by kernel_rfl)) (hd 3 (by kernel_rfl)) (by simp) hK
        · intro vs W hE hd K hK
          have hE' : After Y W := hself.trans hE
          exact do_pure (v := .bool false) (.lit (.bool false)) (by kernel_rfl) (by kernel_rfl) (by kernel_rfl) rfl hK
        · intro vs W hE hd K hK
          have hE' : After Y W := hself.trans hE
          exact do_pure (v := vs 5) (.lit (.bool false)) (by kernel_rfl) (by kernel_rfl) (by kernel_rfl) (hd 5 (by kernel_rfl)) hK
        · intro vs W hE hd K hK
          have hE' : After Y W := hself.trans hE
          exact do_offg (j := 6) (b := true) (c := false) (u := vs 6) (by kernel_rfl) (by kernel_rfl) (by kernel_rfl) (hd 6 (by kernel_rfl)) (by decide) hK
        · intro vs W hE hd K hK
          have hE' : After Y W := hself.trans hE
          exact do_pick (c := .tmp 46) (x := .tmp 47) (y := .const (.bool false)) (u := vs 6) (p := false) (r := .bool false) (by kernel_rfl) (by kernel_rfl) (by kernel_rfl) (by kernel_rfl) (hd 6 (by kernel_rfl)) (by rw [if_neg (by decide)]; rfl) hK
        · intro vs W hE hd K hK
          have hE' : After Y W := hself.trans hE
          exact do_calllit (v := .tuple #[str ((endR (.app (.app (Tm.joinC) (x)) (y)) false).getD []), .bool (endR (.app (.app (Tm.joinC) (x)) (y)) false).isSome]) (f := 36) (args := #[vs 4, vs 8]) (by kernel_rfl) (by kernel_rfl) (by kernel_rfl) (by rw [show vs 8 = .bool false from hd 8 (by kernel_rfl)]; exact s_end4' W (.app (.app (Tm.joinC) (x)) (y)) false (vs 4) (rawOf (hd 4 (by kernel_rfl))) (fun _ => ⟨stOf (hd 4 (by kernel_rfl)), HG.out.1, HG.out.2⟩)) hK
        · intro vs W hE hd K hK
          have hE' : After Y W := hself.trans hE
          exact do_extract0 (x := .tmp 49) (u := vs 9) (a := str ((endR (.app (.app (Tm.joinC) (x)) (y)) false).getD [])) (b := .bool (endR (.app (.app (Tm.joinC) (x)) (y)) false).isSome) (by kernel_rfl) (by kernel_rfl) (by kernel_rfl) (by kernel_rfl) (hd 9 (by kernel_rfl)) hK
        · intro vs W hE hd K hK
          have hE' : After Y W := hself.trans hE
          exact do_extract1 (x := .tmp 49) (u := vs 9) (a := str ((endR (.app (.app (Tm.joinC) (x)) (y)) false).getD [])) (b := .bool (endR (.app (.app (Tm.joinC) (x)) (y)) false).isSome) (by kernel_rfl) (by kernel_rfl) (by kernel_rfl) (by kernel_rfl) (hd 9 (by kernel_rfl)) hK
        · intro vs W hE hd K hK
          have hE' : After Y W := hself.trans hE
          exact do_pure (v := vs 10) (.lit (str ((endR (.app (.app (Tm.joinC) (x)) (y)) false).getD []))) (by kernel_rfl) (by kernel_rfl) (by kernel_rfl) (hd 10 (by kernel_rfl)) hK
        · intro vs W hE hd K hK
          have hE' : After Y W := hself.trans hE
          exact do_pure (v := vs 11) (.lit (.bool (endR (.app (.app (Tm.joinC) (x)) (y)) false).isSome)) (by kernel_rfl) (by kernel_rfl) (by kernel_rfl) (hd 11 (by kernel_rfl)) hK
        intro vs W hE hd
        have hE' : After Y W := hself.trans hE
        have er0 : vs 12 = str ((endR (.app (.app (Tm.joinC) (x)) (y)) false).getD []) := hd 12 (by decide)
        have er1 : vs 13 = .bool (endR (.app (.app (Tm.joinC) (x)) (y)) false).isSome := hd 13 (by decide)
        refine hKK _ _ ?_
        generalize hAA : frame _ _ vs = AA
        obtain rfl : AA = ⟨#[str l, str m, undef, undef, vs 12, vs 13, .pointer (some ⟨g1, 0, none⟩), .bool true, .pointer (some ⟨g2, 0, none⟩), .bool true, .pointer (some ⟨g3, 0, none⟩), .bool false, .pointer (some ⟨g4, 0, none⟩), .bool v, .tuple #[.agg #[str s1, .slice ao1 n1 c1], .bool true], str l, .tuple #[.agg #[str s1, .slice ao1 n1 c1], .bool true], .agg #[str s1, .slice ao1 n1 c1], .bool true, .tuple #[.agg #[str s2, .slice ao2 n2 c2], .bool true], str m, .tuple #[.agg #[str s2, .slice ao2 n2 c2], .bool true], .agg #[str s2, .slice ao2 n2 c2], .bool true, .bool true, .bool false, .bool false, .bool true, .bool false, .bool false, .tuple #[.agg #[str s3, .slice ao3 n3 c3], .bool false], .agg #[str s1, .slice ao1 n1 c1], .tuple #[.agg #[str s3, .slice ao3 n3 c3], .bool false], .agg #[str s3, .slice ao3 n3 c3], .bool false, .tuple #[.agg #[str s4, .slice ao4 n4 c4], .bool v], .agg #[str s2, .slice ao2 n2 c2], .tuple #[.agg #[str s4, .slice ao4 n4 c4], .bool v], .agg #[str s4, .slice ao4 n4 c4], .bool v, vs 0, vs 1, vs 2, vs 3, vs 4, vs 5, vs 6, vs 7, vs 8, vs 9, vs 10, vs 11], []⟩ := by rw [← hAA]; kernel_rfl
        clear hAA hd
        generalize vs 12 = rv0 at *
        subst er0
        generalize vs 13 = rv1 at *
        subst er1
        go_wp2_with fail
        go_ret2
        exact ⟨rfl, AY.out.trans hE'⟩

theorem spec_fixApply (w : World) (l m : List UInt8) (hl : l.length ≤ 1000000000) (hm : m.length ≤ 1000000000) :
    Calls Try.prog 20 #[str l, str m] w (SOne' w (Tm.pFixApply l m)) := by
  have hterm := s_term w l hl
  have hterm2 := fun W => s_term W m hm
  unfold STermPost at hterm hterm2
  cases hp : Tm.parse l with
  | none =>
    rw [show Tm.pFixApply l m = none by unfold Tm.pFixApply; rw [hp]]
    rw [hp] at hterm
    simp only [Option.isSome_none] at hterm
    generalize (Tm.parse m).isSome = q at hterm2
    clear hp
    go_enter Try.func20, Try.ntmps20
    go_wp2_with fail
    refine hterm.mono ?_
    rintro e w1 ⟨s1, ao1, n1, c1, rfl, hb1, ht1⟩
    have hal1 := After.new w1 (.cells #[str s1, .slice ao1 n1 c1] 32)
    have q1 := heap_new' w1 (.cells #[str s1, .slice ao1 n1 c1] 32)
    clear ht1 hterm
    go_wp2_with fail
    refine (hterm2 _).mono ?_
    rintro e w2 ⟨s2, ao2, n2, c2, rfl, hb2, ht2⟩
    have hal2 := After.new w2 (.cells #[str s2, .slice ao2 n2 c2] 32)
    have q2 := heap_new' w2 (.cells #[str s2, .slice ao2 n2 c2] 32)
    have q1' := (hb2.trans hal2).heap q1
    have aY := ((hb1.trans hal1).trans hb2).trans hal2
    clear ht2 hterm2 q1
    go_wp2_with fail
    generalize w2.alloc (.cells #[str s2, .slice ao2 n2 c2] 32) = Y at *
    generalize w2.heap.size = g2 at *
    generalize w1.heap.size = g1 at *
    have G1 := Lib.hid q1'
    have G2 := Lib.hid q2
    have AY := Lib.hid aY
    have hself := (After.refl Y).drew
    clear q1' q2 aY hal1 hal2 hb1 hb2
    rename_i KK hKK
    refine wp_region_reg (by kernel_rfl) (by kernel_rfl) After After.refl (fun _ _ _ h g => h.trans g)
      (yds [.tree (Tm.fix), .raw, .raw, .rraw 2, .raw, .lit (.bool false), .lit (.bool false), .free, .lit (.bool false), .lit (.tuple #[str ((endR (Tm.k) false).getD []), .bool (endR (Tm.k) false).isSome]), .lit (str ((endR (Tm.k) false).getD [])), .lit (.bool (endR (Tm.k) false).isSome), .lit (str ((endR (Tm.k) false).getD [])), .lit (.bool (endR (Tm.k) false).isSome)]) yds_later (lt14 ?_ ?_ ?_ ?_ ?_ ?_ ?_ ?_ ?_ ?_ ?_ ?_ ?_ ?_) ?_
    · intro vs W hE hd K hK
      have hE' : After Y W := hself.trans hE
      exact do_call (Tm.fix) (f := 43) (args := #[]) (by kernel_rfl) (by kernel_rfl) (by kernel_rfl) (s_fix W) hK
    · intro vs W hE hd K hK
      have hE' : After Y W := hself.trans hE
      have G := hE'.heap G1.out
      exact do_load .raw (x := .tmp 6) (by kernel_rfl) (by kernel_rfl) (by kernel_rfl) (by kernel_rfl) (cell_of_heap (i := 0) G) (cell_of_heap (i := 1) G) ⟨_, _, _, _, rfl⟩ hK
    · intro vs W hE hd K hK
      have hE' : After Y W := hself.trans hE
      have G := hE'.heap G2.out
      exact do_load .raw (x := .tmp 8) (by kernel_rfl) (by kernel_rfl) (by kernel_rfl) (by kernel_rfl) (cell_of_heap (i := 0) G) (cell_of_heap (i := 1) G) ⟨_, _, _, _, rfl⟩ hK
    · intro vs W hE hd K hK
      have hE' : After Y W := hself.trans hE
      exact do_rraw2 (x := .tmp 21) (y := .tmp 22) (u := vs 1) (v := vs 2) (by kernel_rfl) (by kernel_rfl) (by kernel_rfl) (by kernel_rfl) (by kernel_rfl) (hd 1 (by kernel_rfl)) (hd 2 (by kernel_rfl)) hK
    · intro vs W hE hd K hK
      have hE' : After Y W := hself.trans hE
      exact do_appraw (u1 := vs 0) (u2 := vs 3) (n := 2) (by kernel_rfl) (by kernel_rfl) (by kernel_rfl) (rawOf (hd 0 (by kernel_rfl))) (hd 3 (by kernel_rfl)) (by decide) hK
    · intro vs W hE hd K hK
      have hE' : After Y W := hself.trans hE
      exact do_pure (v := .bool false) (.lit (.bool false)) (by kernel_rfl) (by kernel_rfl) (by kernel_rfl) rfl hK
    · intro vs W hE hd K hK
      have hE' : After Y W := hself.trans hE
      exact do_pure (v := vs 5) (.lit (.bool false)) (by kernel_rfl) (by kernel_rfl) (by kernel_rfl) (hd 5 (by kernel_rfl)) hK
    · intro vs W hE hd K hK
      have hE' : After Y W := hself.trans hE
      exact do_offg (j := 6) (b := true) (c := false) (u := vs 6) (by kernel_rfl) (by kernel_rfl) (by kernel_rfl) (hd 6 (by kernel_rfl)) (by decide) hK
    · intro vs W hE hd K hK
      have hE' : After Y W := hself.trans hE
      exact do_pick (c := .tmp 26) (x := .tmp 27) (y := .const (.bool false)) (u := vs 6) (p := false) (r := .bool false) (by kernel_rfl) (by kernel_rfl) (by kernel_rfl) (by kernel_rfl) (hd 6 (by kernel_rfl)) (by rw [if_neg (by decide)]; rfl) hK
    · intro vs W hE hd K hK
      have hE' : After Y W := hself.trans hE
      exact do_calllit (v := .tuple #[str ((endR (Tm.k) false).getD []), .bool (endR (Tm.k) false).isSome]) (f := 36) (args := #[vs 4, vs 8]) (by kernel_rfl) (by kernel_rfl) (by kernel_rfl) (by rw [show vs 8 = .bool false from hd 8 (by kernel_rfl)]; exact s_end4' W (Tm.k) false (vs 4) (hd 4 (by kernel_rfl)) (fun h => by cases h)) hK
    · intro vs W hE hd K hK
      have hE' : After Y W := hself.trans hE
      exact do_extract0 (x := .tmp 29) (u := vs 9) (a := str ((endR (Tm.k) false).getD [])) (b := .bool (endR (Tm.k) false).isSome) (by kernel_rfl) (by kernel_rfl) (by kernel_rfl) (by kernel_rfl) (hd 9 (by kernel_rfl)) hK
    · intro vs W hE hd K hK
      have hE' : After Y W := hself.trans hE
      exact do_extract1 (x := .tmp 29) (u := vs 9) (a := str ((endR (Tm.k) false).getD [])) (b := .bool (endR (Tm.k) false).isSome) (by kernel_rfl) (by kernel_rfl) (by kernel_rfl) (by kernel_rfl) (hd 9 (by kernel_rfl)) hK
    · intro vs W hE hd K hK
      have hE' : After Y W := hself.trans hE
      exact do_pure (v := vs 10) (.lit (str ((endR (Tm.k) false).getD []))) (by kernel_rfl) (by kernel_rfl) (by kernel_rfl) (hd 10 (by kernel_rfl)) hK
    · intro vs W hE hd K hK
      have hE' : After Y W := hself.trans hE
      exact do_pure (v := vs 11) (.lit (.bool (endR (Tm.k) false).isSome)) (by kernel_rfl) (by kernel_rfl) (by kernel_rfl) (hd 11 (by kernel_rfl)) hK
    intro vs W hE hd
    have hE' : After Y W := hself.trans hE
    have er0 : vs 12 = str ((endR (Tm.k) false).getD []) := hd 12 (by decide)
    have er1 : vs 13 = .bool (endR (Tm.k) false).isSome := hd 13 (by decide)
    refine hKK _ _ ?_
    generalize hAA : frame _ _ vs = AA
    obtain rfl : AA = ⟨#[str l, str m, undef, undef, vs 12, vs 13, .pointer (some ⟨g1, 0, none⟩), .bool false, .pointer (some ⟨g2, 0, none⟩), .bool q, .tuple #[.agg #[str s1, .slice ao1 n1 c1], .bool false], str l, .tuple #[.agg #[str s1, .slice ao1 n1 c1], .bool false], .agg #[str s1, .slice ao1 n1 c1], .bool false, .tuple #[.agg #[str s2, .slice ao2 n2 c2], .bool q], str m, .tuple #[.agg #[str s2, .slice ao2 n2 c2], .bool q], .agg #[str s2, .slice ao2 n2 c2], .bool q, vs 0, vs 1, vs 2, vs 3, vs 4, vs 5, vs 6, vs 7, vs 8, vs 9, vs 10, vs 11], []⟩ := by rw [← hAA]; kernel_rfl
    clear hAA hd
    generalize vs 12 = rv0 at *
    subst er0
    generalize vs 13 = rv1 at *
    subst er1
    go_wp2_with fail
    go_ret2
    exact ⟨rfl, AY.out.trans hE'⟩
  | some t =>
    cases hq : Tm.parse m with
    | none =>
      rw [show Tm.pFixApply l m = none by unfold Tm.pFixApply; rw [hp, hq]]
      rw [hp] at hterm
      simp only [hq, Option.isSome_none] at hterm2
      clear hp hq
      go_enter Try.func20, Try.ntmps20
      go_wp2_with fail
      refine hterm.mono ?_
      rintro e w1 ⟨s1, ao1, n1, c1, rfl, hb1, ht1⟩
      have hal1 := After.new w1 (.cells #[str s1, .slice ao1 n1 c1] 32)
      have q1 := heap_new' w1 (.cells #[str s1, .slice ao1 n1 c1] 32)
      clear ht1 hterm
      go_wp2_with fail
      refine (hterm2 _).mono ?_
      rintro e w2 ⟨s2, ao2, n2, c2, rfl, hb2, ht2⟩
      have hal2 := After.new w2 (.cells #[str s2, .slice ao2 n2 c2] 32)
      have q2 := heap_new' w2 (.cells #[str s2, .slice ao2 n2 c2] 32)
      have q1' := (hb2.trans hal2).heap q1
      have aY := ((hb1.trans hal1).trans hb2).trans hal2
      clear ht2 hterm2 q1
      go_wp2_with fail
      generalize w2.alloc (.cells #[str s2, .slice ao2 n2 c2] 32) = Y at *
      generalize w2.heap.size = g2 at *
      generalize w1.heap.size = g1 at *
      have G1 := Lib.hid q1'
      have G2 := Lib.hid q2
      have AY := Lib.hid aY
      have hself := (After.refl Y).drew
      clear q1' q2 aY hal1 hal2 hb1 hb2
      rename_i KK hKK
      refine wp_region_reg (by kernel_rfl) (by kernel_rfl) After After.refl (fun _ _ _ h g => h.trans g)
        (yds [.tree (Tm.fix), .raw, .raw, .rraw 2, .raw, .lit (.bool true), .lit (.bool true), .lit (.bool false), .lit (.bool false), .lit (.tuple #[str ((endR (Tm.k) false).getD []), .bool (endR (Tm.k) false).isSome]), .lit (str ((endR (Tm.k) false).getD [])), .lit (.bool (endR (Tm.k) false).isSome), .lit (str ((endR (Tm.k) false).getD [])), .lit (.bool (endR (Tm.k) false).isSome)]) yds_later (lt14 ?_ ?_ ?_ ?_ ?_ ?_ ?_ ?_ ?_ ?_ ?_ ?_ ?_ ?_) ?_
      · intro vs W hE hd K hK
        have hE' : After Y W := hself.trans hE
        exact do_call (Tm.fix) (f := 43) (args := #[]) (by kernel_rfl) (by kernel_rfl) (by kernel_rfl) (s_fix W) hK
      · intro vs W hE hd K hK
        have hE' : After Y W := hself.trans hE
        have G := hE'.heap G1.out
        exact do_load .raw (x := .tmp 6) (by kernel_rfl) (by kernel_rfl) (by kernel_rfl) (by kernel_rfl) (cell_of_heap (i := 0) G) (cell_of_heap (i := 1) G) ⟨_, _, _, _, rfl⟩ hK
      · intro vs W hE hd K hK
        have hE' : After Y W := hself.trans hE
        have G := hE'.heap G2.out
        exact do_load .raw (x := .tmp 8) (by kernel_rfl) (by kernel_rfl) (by kernel_rfl) (by kernel_rfl) (cell_of_heap (i := 0) G) (cell_of_heap (i := 1) G) ⟨_, _, _, _, rfl⟩ hK
      · intro vs W hE hd K hK
        have hE' : After Y W := hself.trans hE
        exact do_rraw2 (x := .tmp 21) (y := .tmp 22) (u := vs 1) (v := vs 2) (by kernel_rfl) (by kernel_rfl) (by kernel_rfl) (by kernel_rfl) (by kernel_rfl) (hd 1 (by kernel_rfl)) (hd 2 (by kernel_rfl)) hK
      · intro vs W hE hd K hK
        have hE' : After Y W := hself.trans hE
        exact do_appraw (u1 := vs 0) (u2 := vs 3) (n := 2) (by kernel_rfl) (by kernel_rfl) (by kernel_rfl) (rawOf (hd 0 (by kernel_rfl))) (hd 3 (by kernel_rfl)) (by decide) hK
      · intro vs W hE hd K hK
        have hE' : After Y W := hself.trans hE
        exact do_pure (v := .bool true) (.lit (.bool true)) (by kernel_rfl) (by kernel_rfl) (by kernel_rfl) rfl hK
      · intro vs W hE hd K hK
        have hE' : After Y W := hself.trans hE
        exact do_pure (v := vs 5) (.lit (.bool true)) (by kernel_rfl) (by kernel_rfl) (by kernel_rfl) (hd 5 (by kernel_rfl)) hK
      · intro vs W hE hd K hK
        have hE' : After Y W := hself.trans hE
        exact do_on (j := 6) (u := vs 6) (v := .bool false) (.lit (.bool false)) (by kernel_rfl) (by kernel_rfl) (by kernel_rfl) (hd 6 (by kernel_rfl)) (by kernel_rfl) rfl hK
      · intro vs W hE hd K hK
        have hE' : After Y W := hself.trans hE
        exact do_pick (c := .tmp 26) (x := .tmp 27) (y := .const (.bool false)) (u := vs 6) (p := true) (r := .bool false) (by kernel_rfl) (by kernel_rfl) (by kernel_rfl) (by kernel_rfl) (hd 6 (by kernel_rfl)) (by rw [if_pos rfl]; exact Eq.trans (by kernel_rfl : _ = vs 7) (hd 7 (by kernel_rfl))) hK
      · intro vs W hE hd K hK
        have hE' : After Y W := hself.trans hE
        exact do_calllit (v := .tuple #[str ((endR (Tm.k) false).getD []), .bool (endR (Tm.k) false).isSome]) (f := 36) (args := #[vs 4, vs 8]) (by kernel_rfl) (by kernel_rfl) (by kernel_rfl) (by rw [show vs 8 = .bool false from hd 8 (by kernel_rfl)]; exact s_end4' W (Tm.k) false (vs 4) (hd 4 (by kernel_rfl)) (fun h => by cases h)) hK
      · intro vs W hE hd K hK
        have hE' : After Y W := hself.trans hE
        exact do_extract0 (x := .tmp 29) (u := vs 9) (a := str ((endR (Tm.k) false).getD [])) (b := .bool (endR (Tm.k) false).isSome) (by kernel_rfl) (by kernel_rfl) (by kernel_rfl) (by kernel_rfl) (hd 9 (by kernel_rfl)) hK
      · intro vs W hE hd K hK
        have hE' : After Y W := hself.trans hE
        exact do_extract1 (x := .tmp 29) (u := vs 9) (a := str ((endR (Tm.k) false).getD [])) (b := .bool (endR (Tm.k) false).isSome) (by kernel_rfl) (by kernel_rfl) (by kernel_rfl) (by kernel_rfl) (hd 9 (by kernel_rfl)) hK
      · intro vs W hE hd K hK
        have hE' : After Y W := hself.trans hE
        exact do_pure (v := vs 10) (.lit (str ((endR (Tm.k) false).getD []))) (by kernel_rfl) (by kernel_rfl) (by kernel_rfl) (hd 10 (by kernel_rfl)) hK
      · intro vs W hE hd K hK
        have hE' : After Y W := hself.trans hE
        exact do_pure (v := vs 11) (.lit (.bool (endR (Tm.k) false).isSome)) (by kernel_rfl) (by kernel_rfl) (by kernel_rfl) (hd 11 (by kernel_rfl)) hK
      intro vs W hE hd
      have hE' : After Y W := hself.trans hE
      have er0 : vs 12 = str ((endR (Tm.k) false).getD []) := hd 12 (by decide)
      have er1 : vs 13 = .bool (endR (Tm.k) false).isSome := hd 13 (by decide)
      refine hKK _ _ ?_
      generalize hAA : frame _ _ vs = AA
      obtain rfl : AA = ⟨#[str l, str m, undef, undef, vs 12, vs 13, .pointer (some ⟨g1, 0, none⟩), .bool true, .pointer (some ⟨g2, 0, none⟩), .bool false, .tuple #[.agg #[str s1, .slice ao1 n1 c1], .bool true], str l, .tuple #[.agg #[str s1, .slice ao1 n1 c1], .bool true], .agg #[str s1, .slice ao1 n1 c1], .bool true, .tuple #[.agg #[str s2, .slice ao2 n2 c2], .bool false], str m, .tuple #[.agg #[str s2, .slice ao2 n2 c2], .bool false], .agg #[str s2, .slice ao2 n2 c2], .bool false, vs 0, vs 1, vs 2, vs 3, vs 4, vs 5, vs 6, vs 7, vs 8, vs 9, vs 10, vs 11], []⟩ := by rw [← hAA]; kernel_rfl
      clear hAA hd
      generalize vs 12 = rv0 at *
      subst er0
      generalize vs 13 = rv1 at *
      subst er1
      go_wp2_with fail
      go_ret2
      exact ⟨rfl, AY.out.trans hE'⟩
    | some t2 =>
      obtain ⟨hg, hf, hs, _, _⟩ := Tm.parse_facts hp
      obtain ⟨hgu, hfu, hsu, _, _⟩ := Tm.parse_facts hq
      have HG := Lib.hid (show (Tm.app (.app Tm.fix t) t2).good = true ∧ (Tm.app (.app Tm.fix t) t2).size ≤ 1000000 from ⟨by
        have : Tm.fix.good = true := by decide +kernel
        simp [Tm.good, this, hg, hgu], by
        have : Tm.fix.size ≤ 1000 := by decide +kernel
        simp only [Tm.size]; omega⟩)
      rw [show Tm.pFixApply l m = endR (.app (.app .fix t) t2) true by unfold Tm.pFixApply; rw [hp, hq]; rfl]
      rw [hp] at hterm
      simp only [hq] at hterm2
      clear hp hq
      go_enter Try.func20, Try.ntmps20
      go_wp2_with fail
      refine hterm.mono ?_
      rintro e w1 ⟨s1, ao1, n1, c1, rfl, hb1, ht1⟩
      have hal1 := After.new w1 (.cells #[str s1, .slice ao1 n1 c1] 32)
      have q1 := heap_new' w1 (.cells #[str s1, .slice ao1 n1 c1] 32)
      have st1 := (ht1 t rfl).later hal1
      clear ht1 hterm
      go_wp2_with fail
      refine (hterm2 _).mono ?_
      rintro e w2 ⟨s2, ao2, n2, c2, rfl, hb2, ht2⟩
      have hal2 := After.new w2 (.cells #[str s2, .slice ao2 n2 c2] 32)
      have q2 := heap_new' w2 (.cells #[str s2, .slice ao2 n2 c2] 32)
      have q1' := (hb2.trans hal2).heap q1
      have st2 := (ht2 t2 rfl).later hal2
      have st1' := st1.later (hb2.trans hal2)
      clear st1
      have aY := ((hb1.trans hal1).trans hb2).trans hal2
      clear ht2 hterm2 q1
      go_wp2_with fail
      generalize w2.alloc (.cells #[str s2, .slice ao2 n2 c2] 32) = Y at *
      generalize w2.heap.size = g2 at *
      generalize w1.heap.size = g1 at *
      have G1 := Lib.hid q1'
      have G2 := Lib.hid q2
      have S1 := Lib.hid st1'
      have S2 := Lib.hid st2
      clear st1' st2
      have AY := Lib.hid aY
      have hself := (After.refl Y).drew
      clear q1' q2 aY hal1 hal2 hb1 hb2
      rename_i KK hKK
      refine wp_region_reg (by kernel_rfl) (by kernel_rfl) After After.refl (fun _ _ _ h g => h.trans g)
        (yds [.tree (Tm.fix), .tree (t), .tree (t2), .row [t, t2], .tree (.app (.app (Tm.fix) (t)) (t2)), .lit (.bool true), .lit (.bool true), .lit (.bool true), .lit (.bool true), .lit (.tuple #[str ((endR (.app (.app (Tm.fix) (t)) (t2)) true).getD []), .bool (endR (.app (.app (Tm.fix) (t)) (t2)) true).isSome]), .lit (str ((endR (.app (.app (Tm.fix) (t)) (t2)) true).getD [])), .lit (.bool (endR (.app (.app (Tm.fix) (t)) (t2)) true).isSome), .lit (str ((endR (.app (.app (Tm.fix) (t)) (t2)) true).getD [])), .lit (.bool (endR (.app (.app (Tm.fix) (t)) (t2)) true).isSome)]) yds_later (lt14 ?_ ?_ ?_ ?_ ?_ ?_ ?_ ?_ ?_ ?_ ?_ ?_ ?_ ?_) ?_
      · intro vs W hE hd K hK
        have hE' : After Y W := hself.trans hE
        exact do_call (Tm.fix) (f := 43) (args := #[]) (by kernel_rfl) (by kernel_rfl) (by kernel_rfl) (s_fix W) hK
      · intro vs W hE hd K hK
        have hE' : After Y W := hself.trans hE
        have G := hE'.heap G1.out
        exact do_load (.tree (t)) (x := .tmp 6) (by kernel_rfl) (by kernel_rfl) (by kernel_rfl) (by kernel_rfl) (cell_of_heap (i := 0) G) (cell_of_heap (i := 1) G) ⟨_, _, _, _, rfl, S1.out.later hE'⟩ hK
      · intro vs W hE hd K hK
        have hE' : After Y W := hself.trans hE
        have G := hE'.heap G2.out
        exact do_load (.tree (t2)) (x := .tmp 8) (by kernel_rfl) (by kernel_rfl) (by kernel_rfl) (by kernel_rfl) (cell_of_heap (i := 0) G) (cell_of_heap (i := 1) G) ⟨_, _, _, _, rfl, S2.out.later hE'⟩ hK
      · intro vs W hE hd K hK
        have hE' : After Y W := hself.trans hE
        exact do_row2 (x := .tmp 21) (y := .tmp 22) (u := vs 1) (v := vs 2) (by kernel_rfl) (by kernel_rfl) (by kernel_rfl) (by kernel_rfl) (by kernel_rfl) (hd 1 (by kernel_rfl)) (hd 2 (by kernel_rfl)) hK
      · intro vs W hE hd K hK
        have hE' : After Y W := hself.trans hE
        exact do_app (u1 := vs 0) (u2 := vs 3) (us := [t, t2]) (by kernel_rfl) (by kernel_rfl) (by kernel_rfl) (hd 0 (by kernel_rfl)) (hd 3 (by kernel_rfl)) (by simp) hK
      · intro vs W hE hd K hK
        have hE' : After Y W := hself.trans hE
        exact do_pure (v := .bool true) (.lit (.bool true)) (by kernel_rfl) (by kernel_rfl) (by kernel_rfl) rfl hK
      · intro vs W hE hd K hK
        have hE' : After Y W := hself.trans hE
        exact do_pure (v := vs 5) (.lit (.bool true)) (by kernel_rfl) (by kernel_rfl) (by kernel_rfl) (hd 5 (by kernel_rfl)) hK
      · intro vs W hE hd K hK
        have hE' : After Y W := hself.trans hE
        exact do_on (j := 6) (u := vs 6) (v := .bool true) (.lit (.bool true)) (by kernel_rfl) (by kernel_rfl) (by kernel_rfl) (hd 6 (by kernel_rfl)) (by kernel_rfl) rfl hK
      · intro vs W hE hd K hK
        have hE' : After Y W := hself.trans hE
        exact do_pick (c := .tmp 26) (x := .tmp 27) (y := .const (.bool false)) (u := vs 6) (p := true) (r := .bool true) (by kernel_rfl) (by kernel_rfl) (by kernel_rfl) (by kernel_rfl) (hd 6 (by kernel_rfl)) (by rw [if_pos rfl]; exact Eq.trans (by kernel_rfl : _ = vs 7) (hd 7 (by kernel_rfl))) hK
      · intro vs W hE hd K hK
        have hE' : After Y W := hself.trans hE
        exact do_calllit (v := .tuple #[str ((endR (.app (.app (Tm.fix) (t)) (t2)) true).getD []), .bool (endR (.app (.app (Tm.fix) (t)) (t2)) true).isSome]) (f := 36) (args := #[vs 4, vs 8]) (by kernel_rfl) (by kernel_rfl) (by kernel_rfl) (by rw [show vs 8 = .bool true from hd 8 (by kernel_rfl)]; exact s_end4' W (.app (.app (Tm.fix) (t)) (t2)) true (vs 4) (rawOf (hd 4 (by kernel_rfl))) (fun _ => ⟨stOf (hd 4 (by kernel_rfl)), HG.out.1, HG.out.2⟩)) hK
      · intro vs W hE hd K hK
        have hE' : After Y W := hself.trans hE
        exact do_extract0 (x := .tmp 29) (u := vs 9) (a := str ((endR (.app (.app (Tm.fix) (t)) (t2)) true).getD [])) (b := .bool (endR (.app (.app (Tm.fix) (t)) (t2)) true).isSome) (by kernel_rfl) (by kernel_rfl) (by kernel_rfl) (by kernel_rfl) (hd 9 (by kernel_rfl)) hK
      · intro vs W hE hd K hK
        have hE' : After Y W := hself.trans hE
        exact do_extract1 (x := .tmp 29) (u := vs 9) (a := str ((endR (.app (.app (Tm.fix) (t)) (t2)) true).getD [])) (b := .bool (endR (.app (.app (Tm.fix) (t)) (t2)) true).isSome) (by kernel_rfl) (by kernel_rfl) (by kernel_rfl) (by kernel_rfl) (hd 9 (by kernel_rfl)) hK
      · intro vs W hE hd K hK
        have hE' : After Y W := hself.trans hE
        exact do_pure (v := vs 10) (.lit (str ((endR (.app (.app (Tm.fix) (t)) (t2)) true).getD []))) (by kernel_rfl) (by kernel_rfl) (by kernel_rfl) (hd 10 (by kernel_rfl)) hK
      · intro vs W hE hd K hK
        have hE' : After Y W := hself.trans hE
        exact do_pure (v := vs 11) (.lit (.bool (endR (.app (.app (Tm.fix) (t)) (t2)) true).isSome)) (by kernel_rfl) (by kernel_rfl) (by kernel_rfl) (hd 11 (by kernel_rfl)) hK
      intro vs W hE hd
      have hE' : After Y W := hself.trans hE
      have er0 : vs 12 = str ((endR (.app (.app (Tm.fix) (t)) (t2)) true).getD []) := hd 12 (by decide)
      have er1 : vs 13 = .bool (endR (.app (.app (Tm.fix) (t)) (t2)) true).isSome := hd 13 (by decide)
      refine hKK _ _ ?_
      generalize hAA : frame _ _ vs = AA
      obtain rfl : AA = ⟨#[str l, str m, undef, undef, vs 12, vs 13, .pointer (some ⟨g1, 0, none⟩), .bool true, .pointer (some ⟨g2, 0, none⟩), .bool true, .tuple #[.agg #[str s1, .slice ao1 n1 c1], .bool true], str l, .tuple #[.agg #[str s1, .slice ao1 n1 c1], .bool true], .agg #[str s1, .slice ao1 n1 c1], .bool true, .tuple #[.agg #[str s2, .slice ao2 n2 c2], .bool true], str m, .tuple #[.agg #[str s2, .slice ao2 n2 c2], .bool true], .agg #[str s2, .slice ao2 n2 c2], .bool true, vs 0, vs 1, vs 2, vs 3, vs 4, vs 5, vs 6, vs 7, vs 8, vs 9, vs 10, vs 11], []⟩ := by rw [← hAA]; kernel_rfl
      clear hAA hd
      generalize vs 12 = rv0 at *
      subst er0
      generalize vs 13 = rv1 at *
      subst er1
      go_wp2_with fail
      go_ret2
      exact ⟨rfl, AY.out.trans hE'⟩
end Go.Proofs.Ytfpekihdoclncaa

namespace Go.Proofs.Ytfpekihdoclncaa
open Go.RowKit

set_option maxHeartbeats 1000000
set_option maxRecDepth 100000

theorem str_size (l : List UInt8) : (⟨l.toArray⟩ : ByteArray).size = l.length := by show l.toArray.size = _; simp

theorem law_codeOf (w : World) (l : List UInt8) :
    Calls Try.prog 4 #[str l] w fun e w' => e = .returned (.bool true) ∧ After w w' := by
  have hsz := str_size l
  by_cases hbig : (1048576 : Int) < (l.length : Int)
  · go_enter Try.func4, Try.ntmps4
    go_wp2_with fail
    go_ret
    exact ⟨rfl, After.refl _⟩
  · have hs := fun W => spec_codeOf W l (by omega)
    have hi := fun W => impl_codeOf W l (by omega)
    unfold SOne' at hs
    unfold TextRes' at hi
    generalize (Tm.pCodeOf l).getD [] = x at *
    generalize (Tm.pCodeOf l).isSome = b at *
    go_enter Try.func4, Try.ntmps4
    cases b
    all_goals
      go_wp2_with (first
        | (go_at_call 12; refine (hs _).mono ?_; rintro e w1 ⟨rfl, hb1⟩)
        | (go_at_call 13; refine (hi _).mono ?_; rintro e w2 ⟨rfl, hb2⟩))
      go_ret
      exact ⟨rfl, After.trans hb1 hb2⟩

theorem law_codeRun (w : World) (l : List UInt8) :
    Calls Try.prog 5 #[str l] w fun e w' => e = .returned (.bool true) ∧ After w w' := by
  have hsz := str_size l
  by_cases hbig : (1048576 : Int) < (l.length : Int)
  · go_enter Try.func5, Try.ntmps5
    go_wp2_with fail
    go_ret
    exact ⟨rfl, After.refl _⟩
  · have hs := fun W => spec_codeRun W l (by omega)
    have hi := fun W => impl_codeRun W l (by omega)
    unfold SOne' at hs
    unfold TextRes' at hi
    generalize (Tm.pCodeRun l).getD [] = x at *
    generalize (Tm.pCodeRun l).isSome = b at *
    go_enter Try.func5, Try.ntmps5
    cases b
    all_goals
      go_wp2_with (first
        | (go_at_call 14; refine (hs _).mono ?_; rintro e w1 ⟨rfl, hb1⟩)
        | (go_at_call 15; refine (hi _).mono ?_; rintro e w2 ⟨rfl, hb2⟩))
      go_ret
      exact ⟨rfl, After.trans hb1 hb2⟩

theorem law_codeQuote (w : World) (l : List UInt8) :
    Calls Try.prog 7 #[str l] w fun e w' => e = .returned (.bool true) ∧ After w w' := by
  have hsz := str_size l
  by_cases hbig : (1048576 : Int) < (l.length : Int)
  · go_enter Try.func7, Try.ntmps7
    go_wp2_with fail
    go_ret
    exact ⟨rfl, After.refl _⟩
  · have hs := fun W => spec_codeQuote W l (by omega)
    have hi := fun W => impl_codeQuote W l (by omega)
    unfold SOne' at hs
    unfold TextRes' at hi
    generalize (Tm.pCodeQuote l).getD [] = x at *
    generalize (Tm.pCodeQuote l).isSome = b at *
    go_enter Try.func7, Try.ntmps7
    cases b
    all_goals
      go_wp2_with (first
        | (go_at_call 18; refine (hs _).mono ?_; rintro e w1 ⟨rfl, hb1⟩)
        | (go_at_call 19; refine (hi _).mono ?_; rintro e w2 ⟨rfl, hb2⟩))
      go_ret
      exact ⟨rfl, After.trans hb1 hb2⟩

theorem law_apply (w : World) (l m : List UInt8) :
    Calls Try.prog 3 #[str l, str m] w fun e w' => e = .returned (.bool true) ∧ After w w' := by
  have hsz := str_size l
  have hsm := str_size m
  by_cases hbig : (1048576 : Int) < (l.length : Int)
  · go_enter Try.func3, Try.ntmps3
    go_wp2_with fail
    go_ret
    exact ⟨rfl, After.refl _⟩
  · by_cases hbig2 : (1048576 : Int) < (m.length : Int)
    · go_enter Try.func3, Try.ntmps3
      go_wp2_with fail
      go_ret
      exact ⟨rfl, After.refl _⟩
    · have hs := fun W => spec_apply W l m (by omega) (by omega)
      have hi := fun W => impl_apply W l m (by omega) (by omega)
      unfold SOne' at hs
      unfold TextRes' at hi
      generalize (Tm.pApply l m).getD [] = x at *
      generalize (Tm.pApply l m).isSome = b at *
      go_enter Try.func3, Try.ntmps3
      cases b
      all_goals
        go_wp2_with (first
          | (go_at_call 10; refine (hs _).mono ?_; rintro e w1 ⟨rfl, hb1⟩)
          | (go_at_call 11; refine (hi _).mono ?_; rintro e w2 ⟨rfl, hb2⟩))
        go_ret
        exact ⟨rfl, After.trans hb1 hb2⟩

theorem law_codeJoin (w : World) (l m : List UInt8) :
    Calls Try.prog 6 #[str l, str m] w fun e w' => e = .returned (.bool true) ∧ After w w' := by
  have hsz := str_size l
  have hsm := str_size m
  by_cases hbig : (1048576 : Int) < (l.length : Int)
  · go_enter Try.func6, Try.ntmps6
    go_wp2_with fail
    go_ret
    exact ⟨rfl, After.refl _⟩
  · by_cases hbig2 : (1048576 : Int) < (m.length : Int)
    · go_enter Try.func6, Try.ntmps6
      go_wp2_with fail
      go_ret
      exact ⟨rfl, After.refl _⟩
    · have hs := fun W => spec_codeJoin W l m (by omega) (by omega)
      have hi := fun W => impl_codeJoin W l m (by omega) (by omega)
      unfold SOne' at hs
      unfold TextRes' at hi
      generalize (Tm.pCodeJoin l m).getD [] = x at *
      generalize (Tm.pCodeJoin l m).isSome = b at *
      go_enter Try.func6, Try.ntmps6
      cases b
      all_goals
        go_wp2_with (first
          | (go_at_call 16; refine (hs _).mono ?_; rintro e w1 ⟨rfl, hb1⟩)
          | (go_at_call 17; refine (hi _).mono ?_; rintro e w2 ⟨rfl, hb2⟩))
        go_ret
        exact ⟨rfl, After.trans hb1 hb2⟩

theorem law_fixApply (w : World) (l m : List UInt8) :
    Calls Try.prog 8 #[str l, str m] w fun e w' => e = .returned (.bool true) ∧ After w w' := by
  have hsz := str_size l
  have hsm := str_size m
  by_cases hbig : (1048576 : Int) < (l.length : Int)
  · go_enter Try.func8, Try.ntmps8
    go_wp2_with fail
    go_ret
    exact ⟨rfl, After.refl _⟩
  · by_cases hbig2 : (1048576 : Int) < (m.length : Int)
    · go_enter Try.func8, Try.ntmps8
      go_wp2_with fail
      go_ret
      exact ⟨rfl, After.refl _⟩
    · have hs := fun W => spec_fixApply W l m (by omega) (by omega)
      have hi := fun W => impl_fixApply W l m (by omega) (by omega)
      unfold SOne' at hs
      unfold TextRes' at hi
      generalize (Tm.pFixApply l m).getD [] = x at *
      generalize (Tm.pFixApply l m).isSome = b at *
      go_enter Try.func8, Try.ntmps8
      cases b
      all_goals
        go_wp2_with (first
          | (go_at_call 20; refine (hs _).mono ?_; rintro e w1 ⟨rfl, hb1⟩)
          | (go_at_call 21; refine (hi _).mono ?_; rintro e w2 ⟨rfl, hb2⟩))
        go_ret
        exact ⟨rfl, After.trans hb1 hb2⟩

end Go.Proofs.Ytfpekihdoclncaa

namespace Go.Proofs.Ytfpekihdoclncaa
open Go.RowKit

set_option maxHeartbeats 1000000
set_option maxRecDepth 100000

/-- The reader of a code lies in block rb. -/
def DR (w : World) (rb : Nat) (v : Value) (p : Nat) : Prop := w.heap[rb]? = some (.cells #[v, .int .i64 p] 92 (0, 0))

/-- The bytes of a code can be read. -/
def CodeOk (w : World) (rb : Nat) (v : Value) : Prop :=
  (∃ a0 cap, v = .slice a0 0 cap) ∨ ∃ b o n cap, 0 < n ∧ n ≤ 2000 ∧ v = .slice (some ⟨b, o, none⟩) n cap ∧ b ≠ rb ∧
    ∃ z : Nat → Nat, ∀ i, i < n → w.cell? ⟨b, o + i, none⟩ = some (.int .u8 (z i)) ∧ z i ≤ 255

def Dr (w : World) (rb p : Nat) : Prop := ∃ v, DR w rb v p ∧ CodeOk w rb v

def PickPost (w : World) (rb p m : Nat) (e : Ending) (w' : World) : Prop :=
  ∃ k : Nat, k < m ∧ e = .returned (.int .i64 k) ∧ w.grownBy w' (some rb) ∧ Dr w' rb (p + 1)

theorem DR.set {w : World} {rb p : Nat} {v : Value} (h : DR w rb v p) (q : Nat) : DR (w.setCell ⟨rb, 1, none⟩ (.int .i64 q)) rb v q := by
  unfold DR at *
  simp [World.setCell, Array.getElem?_modify, h]

theorem grown_set1 (w : World) (b i : Nat) (v : Value) : w.grownBy (w.setCell ⟨b, i, none⟩ v) (some b) := by
  refine ⟨rfl, rfl, rfl, by simp [World.setCell], fun k hk hne => ?_⟩
  have : b ≠ k := fun e => hne (e ▸ rfl)
  simp [World.setCell, Array.getElem?_modify, this]

theorem pick_none (w : World) (rb p : Nat) (a0 : Option Addr) (cap m : Nat) (h : DR w rb (.slice a0 0 cap) p) (hp : p ≤ 1000000) (hm : 1 ≤ m) :
    Calls Try.prog 47 #[.pointer (some ⟨rb, 0, none⟩), .int .i64 m] w (PickPost w rb p m) := by
  have c0 : w.cell? ⟨rb, 0, none⟩ = some (.slice a0 0 cap) := cell_of_heap h
  have c1 : w.cell? ⟨rb, 1, none⟩ = some (.int .i64 (p : Nat)) := cell_of_heap h
  have f1 : w.frozen? ⟨rb, 1, none⟩ = false := by unfold DR at h; simp [World.frozen?, h]
  have H := Lib.hid h
  clear h
  go_enter Try.func47, Try.ntmps47
  go_wp2_with fail
  go_ret
  exact ⟨0, by omega, rfl, grown_set1 _ _ _ _, _, H.out.set (p + 1), Or.inl ⟨_, _, rfl⟩⟩
theorem cell_set_other {w : World} {rb b i : Nat} (hne : b ≠ rb) (v : Value) : (w.setCell ⟨rb, 1, none⟩ v).cell? ⟨b, i, none⟩ = w.cell? ⟨b, i, none⟩ := by
  have : ¬ rb = b := fun e => hne e.symm
  simp [World.setCell, World.cell?, Array.getElem?_modify, this]

theorem pick_in (w : World) (rb p : Nat) (b o n cap m : Nat) (z : Nat → Nat) (h : DR w rb (.slice (some ⟨b, o, none⟩) n cap) p) (hn : n ≤ 2000) (hne : b ≠ rb) (hz : ∀ i, i < n → w.cell? ⟨b, o + i, none⟩ = some (.int .u8 (z i)) ∧ z i ≤ 255) (hp : p < n) (hm : 1 ≤ m) (hm2 : m ≤ 1000) :
    Calls Try.prog 47 #[.pointer (some ⟨rb, 0, none⟩), .int .i64 m] w (PickPost w rb p m) := by
  have c0 : w.cell? ⟨rb, 0, none⟩ = some (.slice (some ⟨b, o, none⟩) n cap) := cell_of_heap h
  have c1 : w.cell? ⟨rb, 1, none⟩ = some (.int .i64 (p : Nat)) := cell_of_heap h
  have f1 : w.frozen? ⟨rb, 1, none⟩ = false := by unfold DR at h; simp [World.frozen?, h]
  have H := Lib.hid h
  obtain ⟨hz1, hz2⟩ := hz p hp
  have hz3 := fun v => (cell_set_other (w := w) (i := o + p) hne v).trans hz1
  have HZ := Lib.hid hz
  have hp' : (p : Int) < (n : Int) := by omega
  have hm' : (1 : Int) ≤ (m : Int) := by omega
  have hn' : ((n : Int) == 0) = false := by rw [beq_eq_false_iff_ne]; omega
  clear h hz
  go_enter Try.func47, Try.ntmps47
  go_wp2_with fail
  go_ret
  refine ⟨z p % m, Nat.mod_lt _ (by omega), ?_, grown_set1 _ _ _ _, _, H.out.set (p + 1), Or.inr ⟨b, o, n, cap, by omega, hn, rfl, hne, z, fun i hi => ?_⟩⟩
  · show Ending.returned (.int .i64 _) = _; rfl
  · rw [cell_set_other hne]; exact HZ.out i hi

theorem wrap64_small (x : Int) (h0 : 0 ≤ x) (h1 : x < 9223372036854775808) : wrap64 x = x := by unfold wrap64; omega

theorem bits_xor_i64_nat (a b : Nat) (ha : a < 4611686018427387904) (hb : b < 4611686018427387904) : bits .xor .i64 (a : Int) (b : Int) = ((a ^^^ b : Nat) : Int) := by
  have hx : a ^^^ b < 2 ^ 62 := Nat.xor_lt_two_pow (by omega) (by omega)
  have h1 : (BitVec.ofInt 64 (a : Int)).toNat = a := by
    rw [BitVec.ofInt_natCast, BitVec.toNat_ofNat]; exact Nat.mod_eq_of_lt (by omega)
  have h2 : (BitVec.ofInt 64 (b : Int)).toNat = b := by
    rw [BitVec.ofInt_natCast, BitVec.toNat_ofNat]; exact Nat.mod_eq_of_lt (by omega)
  show IntKind.i64.wrap ((BitVec.ofInt 64 (a : Int) ^^^ BitVec.ofInt 64 (b : Int)).toNat : Int) = _
  rw [BitVec.toNat_xor, h1, h2, IntWalk.i64_in _ (by omega)]

theorem rem_xor (x y : Int) (m : Nat) (hx : 0 ≤ x) (hx2 : x < 1099511627776) (hy : 0 ≤ y) (hy2 : y < 1099511627776) (hm : 1 ≤ m) : ∃ k : Nat, k < m ∧ (bits .xor .i64 x y).tmod (m : Int) = (k : Int) := by
  obtain ⟨a, rfl⟩ := Int.eq_ofNat_of_zero_le hx
  obtain ⟨b, rfl⟩ := Int.eq_ofNat_of_zero_le hy
  rw [bits_xor_i64_nat a b (by omega) (by omega)]
  exact ⟨(a ^^^ b) % m, Nat.mod_lt _ (by omega), rfl⟩

theorem mix_range (p n m y z : Nat) (hp : p ≤ 1000000) (hy : y ≤ 255) (hz : z ≤ 255) (hm : 1 ≤ m) : ∃ k : Nat, k < m ∧
    (bits .xor .i64 (wrap64 ((y : Int) * 131 + (z : Int) * 1117 + (p : Int) * 29 + wrap64 (wrap64 ((p : Int) / (n : Int)) * 53)))
      (wrap64 ((wrap64 ((y : Int) * 131 + (z : Int) * 1117 + (p : Int) * 29 + wrap64 (wrap64 ((p : Int) / (n : Int)) * 53))).tdiv 64))).tmod (m : Int) = (k : Int) := by
  have d0 : (p : Int) / (n : Int) = ((p / n : Nat) : Int) := by simp
  have d1 : p / n ≤ p := Nat.div_le_self _ _
  rw [d0]
  generalize p / n = q at d1
  clear d0
  rw [wrap64_small (q : Int) (by omega) (by omega), wrap64_small ((q : Int) * 53) (by omega) (by omega)]
  rw [wrap64_small ((y : Int) * 131 + (z : Int) * 1117 + (p : Int) * 29 + (q : Int) * 53) (by omega) (by omega)]
  generalize hX : (y : Int) * 131 + (z : Int) * 1117 + (p : Int) * 29 + (q : Int) * 53 = X
  have h0 : 0 ≤ X := by omega
  have h1 : X < 1000000000 := by omega
  have e : X.tdiv 64 = X / 64 := Int.tdiv_eq_ediv_of_nonneg h0
  rw [e, wrap64_small (X / 64) (by omega) (by omega)]
  exact rem_xor _ _ m h0 (by omega) (by omega) (by omega) hm

theorem pick_past (w : World) (rb p : Nat) (b o n cap m : Nat) (z : Nat → Nat) (h : DR w rb (.slice (some ⟨b, o, none⟩) n cap) p) (hn : n ≤ 2000) (hne : b ≠ rb) (hz : ∀ i, i < n → w.cell? ⟨b, o + i, none⟩ = some (.int .u8 (z i)) ∧ z i ≤ 255) (hp : n ≤ p) (hp2 : p ≤ 1000000) (hn0 : 0 < n) (hm : 1 ≤ m) (hm2 : m ≤ 1000) :
    Calls Try.prog 47 #[.pointer (some ⟨rb, 0, none⟩), .int .i64 m] w (PickPost w rb p m) := by
  have c0 : w.cell? ⟨rb, 0, none⟩ = some (.slice (some ⟨b, o, none⟩) n cap) := cell_of_heap h
  have c1 : w.cell? ⟨rb, 1, none⟩ = some (.int .i64 (p : Nat)) := cell_of_heap h
  have f1 : w.frozen? ⟨rb, 1, none⟩ = false := by unfold DR at h; simp [World.frozen?, h]
  have H := Lib.hid h
  have l1 : p % n < n := Nat.mod_lt _ hn0
  have l2 : (p * 7 + 3) % n < n := Nat.mod_lt _ hn0
  obtain ⟨hz1, hz2⟩ := hz _ l1
  obtain ⟨hy1, hy2⟩ := hz _ l2
  have hz3 := fun v => (cell_set_other (w := w) (i := o + p % n) hne v).trans hz1
  have hy3 := fun v => (cell_set_other (w := w) (i := o + (p * 7 + 3) % n) hne v).trans hy1
  obtain ⟨k, hk, he⟩ := mix_range p n m (z (p % n)) (z ((p * 7 + 3) % n)) hp2 hz2 hy2 hm
  have HE := Lib.hid he
  clear he
  have HZ := Lib.hid hz
  have hp' : ¬ (p : Int) < (n : Int) := by omega
  have hm' : (1 : Int) ≤ (m : Int) := by omega
  have hn' : ((n : Int) == 0) = false := by rw [beq_eq_false_iff_ne]; omega
  have hn1 : ¬ n = 0 := by omega
  have hn2 : (0 : Int) < (n : Int) := by omega
  have q0 : 0 ≤ (p : Int) % (n : Int) := Int.emod_nonneg _ (by omega)
  have q1 : (p : Int) % (n : Int) < (n : Int) := Int.emod_lt_of_pos _ hn2
  have q2 : ((p : Int) % (n : Int)).toNat = p % n := by rw [← Int.natCast_emod]; rfl
  have r0 : 0 ≤ ((p : Int) * 7 + 3) % (n : Int) := Int.emod_nonneg _ (by omega)
  have r1 : ((p : Int) * 7 + 3) % (n : Int) < (n : Int) := Int.emod_lt_of_pos _ hn2
  have r2 : (((p : Int) * 7 + 3) % (n : Int)).toNat = (p * 7 + 3) % n := by
    rw [show ((p : Int) * 7 + 3) = ((p * 7 + 3 : Nat) : Int) by omega, ← Int.natCast_emod]; rfl
  have ht2 : ((p : Int) * 7 + 3).tmod (n : Int) = ((p : Int) * 7 + 3) % (n : Int) := Int.tmod_eq_emod_of_nonneg (by omega)
  clear h hz
  go_enter Try.func47, Try.ntmps47
  go_wp2_with fail
  go_quiet (fail)
  go_wp2_with fail
  go_ret
  refine ⟨k, hk, ?_, grown_trans (grown_set1 _ _ _ _) (grown_drawn _ rb _), _, H.out.set (p + 1), Or.inr ⟨b, o, n, cap, by omega, hn, rfl, hne, z, fun i hi => ?_⟩⟩
  · exact congrArg (fun x => Ending.returned (.int .i64 x)) HE.out
  · exact (cell_set_other hne _).trans (HZ.out i hi).1 |> fun h => ⟨h, (HZ.out i hi).2⟩

theorem pick_any (w : World) (rb p m : Nat) (h : Dr w rb p) (hp : p ≤ 1000000) (hm : 1 ≤ m) (hm2 : m ≤ 1000) :
    Calls Try.prog 47 #[.pointer (some ⟨rb, 0, none⟩), .int .i64 m] w (PickPost w rb p m) := by
  obtain ⟨v, h, hc⟩ := h
  rcases hc with ⟨a0, cap, rfl⟩ | ⟨b, o, n, cap, hn0, hn, rfl, hne, z, hz⟩
  · exact pick_none w rb p a0 cap m h hp hm
  · by_cases hlt : p < n
    · exact pick_in w rb p b o n cap m z h hn hne hz hlt hm hm2
    · exact pick_past w rb p b o n cap m z h hn hne hz (by omega) hp hn0 hm hm2
end Go.Proofs.Ytfpekihdoclncaa
