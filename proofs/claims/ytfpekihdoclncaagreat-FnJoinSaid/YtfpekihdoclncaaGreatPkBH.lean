/-
  The model's CodeRead; the walk of the law.
-/
import Derived.Test.YtfpekihdoclncaaGreatPkBG
import Derived.Test.YtfpekihdoclncaaGreatPkAG
import Derived.Test.YtfpekihdoclncaaGreatPkAH
import Derived.Test.YtfpekihdoclncaaGreatPkBB
namespace Go.Proofs.YtfpekihdoclncaaGreat
open Go.RowKit

set_option maxHeartbeats 2000000
set_option maxRecDepth 100000

theorem names_of_has {t : Tm} (h : ∀ n, Tm.has n t = false) : t.names [] = [] := by
  cases hn : t.names [] with
  | nil => rfl
  | cons n ns =>
    have h1 := (Tm.mem_names n t []).1 (by rw [hn]; simp)
    rcases h1 with h1 | h1
    · cases h1
    · rw [h n] at h1; cases h1

theorem read_open {l : List UInt8} (h : Tm.closedOf l = none) : Tm.pCodeRead l = none := by
  unfold Tm.pCodeRead
  cases hp : Tm.parse l with
  | none => rfl
  | some t =>
    simp only [Option.bind_some]
    cases hb : Tm.back t.size t with
    | none => rfl
    | some u =>
      obtain ⟨h1, _, _, h4⟩ := Tm.back_facts t.size t u hb
      have hn : t.names [] = [] := names_of_has (fun n => by rw [← h1, code_has]; exact h4 n)
      unfold Tm.closedOf at h
      rw [hp] at h
      simp [hn] at h

theorem str_size' (l : List UInt8) : (⟨l.toArray⟩ : ByteArray).size = l.length := by show l.toArray.size = _; simp

end Go.Proofs.YtfpekihdoclncaaGreat

namespace Go.Proofs.YtfpekihdoclncaaGreat
open Go.RowKit

set_option maxHeartbeats 1000000
set_option maxRecDepth 100000

theorem CodeArg.form {w : World} {v : Value} {n : Nat} (h : CodeArg w v n) : ∃ a0 cap, v = .slice a0 n cap := by
  rcases h with ⟨a0, cap, rfl, rfl⟩ | ⟨b, o, cap, _, _, _, rfl, _⟩
  · exact ⟨_, _, rfl⟩
  · exact ⟨_, _, rfl⟩

/-- Some text, as a list of bytes. -/
def TextPostK (w : World) (e : Ending) (w' : World) : Prop := ∃ l : List UInt8, e = .returned (str l) ∧ l.length ≤ 100000 ∧ After w w'

theorem DrawPost.textK {w w' : World} {e : Ending} (h : DrawPost w e w') : TextPostK w e w' := by
  obtain ⟨s, rfl, hs, ha⟩ := h
  refine ⟨s.data.toList, congrArg Ending.returned (congrArg Value.string ?_), ?_, ha⟩
  · exact ByteArray.ext (by simp)
  · have : s.size = s.data.toList.length := by show s.data.size = _; simp
    omega

theorem code_depth : ∀ t : Tm, t.depth ≤ t.code.depth
  | .k => by simp [Tm.depth]
  | .s => by simp [Tm.depth]
  | .nm _ => Nat.le_refl _
  | .app f a => by
    have := code_depth f
    have := code_depth a
    simp only [Tm.code, Tm.appC, Tm.pair, Tm.depth]
    omega

/-- What is read of a text: coded again it is the text. -/
theorem read_facts {l x : List UInt8} (h : Tm.pCodeRead l = some x) : Tm.pCodeOf x = some l ∧ Tm.pClosed x = true ∧ x.length ≤ 21000 := by
  unfold Tm.pCodeRead at h
  cases hp : Tm.parse l with
  | none => rw [hp] at h; cases h
  | some t =>
    rw [hp] at h
    simp only [Option.bind_some] at h
    obtain ⟨u, hu, rfl⟩ := Option.map_eq_some_iff.1 h
    obtain ⟨h1, h2, h3, h4⟩ := Tm.back_facts t.size t u hu
    obtain ⟨hg, hf, hs, hd, _⟩ := Tm.parse_facts hp
    have hl := (Tm.parse_iff.1 hp).1
    have hcd := code_depth u
    rw [h1] at hcd
    have huf : u.fits = true := by
      simp only [Tm.fits, Bool.and_eq_true, decide_eq_true_eq]
      exact ⟨by omega, by omega⟩
    have hpu := Tm.parse_text h3 huf
    have hn := names_of_has h4
    have hcl : Tm.closedOf u.text = some u := by simp [Tm.closedOf, hpu, hn]
    refine ⟨?_, ?_, ?_⟩
    · unfold Tm.pCodeOf Tm.codeT
      rw [hcl]
      show ((if u.code.fits = true then some u.code else none).map Tm.text) = some l
      rw [h1, if_pos hf, Option.map_some]
      first | rw [hl] | rw [← hl]
    · unfold Tm.pClosed
      rw [hpu]
      simp [hn]
    · have := Tm.text_le u h3
      omega

end Go.Proofs.YtfpekihdoclncaaGreat

namespace Go.Proofs.YtfpekihdoclncaaGreat
open Go.RowKit

set_option maxHeartbeats 2000000
set_option maxRecDepth 100000

theorem join_of {c d : Option Tm} {t t' : Tm} {f : Tm → Tm → Tm} {b e : Bool} (h : c = if b = true then some t else none) (g : d = if e = true then some t' else none) : (c.bind fun x => d.bind fun y => (Tm.endOf (f x y)).map Tm.text) = endR (f t t') (b && e) := by
  subst h
  subst g
  unfold endR
  cases b <;> cases e <;> rfl

theorem spec_codeJoin (w : World) (l m : List UInt8) (hl : l.length ≤ 1000000000) (hm : m.length ≤ 1000000000) :
    Calls Tryz.prog 6 #[str l, str m] w (SOne' w (Tm.pCodeJoin l m)) := by
  have hc := s_closed4 w l hl
  have hd := fun W => s_closed4 W m hm
  unfold SClosedPost at hc hd
  cases hp : Tm.closedOf l with
  | none =>
    rw [show Tm.pCodeJoin l m = none by unfold Tm.pCodeJoin; rw [codeT_none hp]; rfl]
    rw [hp] at hc
    clear hp
    generalize (Tm.closedOf m).isSome = q at hd
    go_enter Tryz.func6, Tryz.ntmps6
    go_wp2_with fail
    refine hc.mono ?_
    rintro e w1 ⟨s1, ao1, n1, c1, rfl, hb1, ht1⟩
    clear ht1 hc
    go_wp2_with fail
    refine (hd _).mono ?_
    rintro e w2 ⟨s2, ao2, n2, c2, rfl, hb2, ht2⟩
    clear ht2 hd
    go_wp2_with fail
    go_ret2
    exact ⟨rfl, ((hb1.alloc _).trans hb2).alloc _⟩
  | some t =>
    cases hq : Tm.closedOf m with
    | none =>
      rw [show Tm.pCodeJoin l m = none by unfold Tm.pCodeJoin; rw [codeT_none hq]; cases Tm.codeT l <;> rfl]
      rw [hp] at hc
      simp only [hq] at hd
      clear hp hq
      go_enter Tryz.func6, Tryz.ntmps6
      go_wp2_with fail
      refine hc.mono ?_
      rintro e w1 ⟨s1, ao1, n1, c1, rfl, hb1, ht1⟩
      clear ht1 hc
      go_wp2_with fail
      refine (hd _).mono ?_
      rintro e w2 ⟨s2, ao2, n2, c2, rfl, hb2, ht2⟩
      clear ht2 hd
      go_wp2_with fail
      go_ret2
      exact ⟨rfl, ((hb1.alloc _).trans hb2).alloc _⟩
    | some t2 =>
      obtain ⟨hg, hs, hn, hgx, hzx, _⟩ := small_facts hp
      obtain ⟨hg2, hs2, hn2, hgy, hzy, _⟩ := small_facts hq
      have hcT := codeT_small hp
      have hdT := codeT_small hq
      rw [hp] at hc
      simp only [hq] at hd
      obtain ⟨x, hx⟩ : ∃ x, x = smallT t := ⟨_, rfl⟩
      obtain ⟨u, hu⟩ : ∃ b, b = smallB t := ⟨_, rfl⟩
      obtain ⟨y, hy⟩ : ∃ x, x = smallT t2 := ⟨_, rfl⟩
      obtain ⟨v, hv⟩ : ∃ b, b = smallB t2 := ⟨_, rfl⟩
      have hsm := fun W s ao m c h => s_small4 W t s ao m c h hg (by omega) hn
      have hsm2 := fun W s ao m c h => s_small4 W t2 s ao m c h hg2 (by omega) hn2
      unfold SNormPost at hsm hsm2
      rw [← hx, ← hu] at hcT
      rw [← hx, ← hu] at hsm
      rw [← hy, ← hv] at hdT
      rw [← hy, ← hv] at hsm2
      rw [← hx] at hgx hzx
      rw [← hy] at hgy hzy
      rw [show Tm.pCodeJoin l m = endR (.app (.app Tm.joinC x) y) (u && v) from join_of (f := fun c d => .app (.app Tm.joinC c) d) hcT hdT]
      have HG := Lib.hid (show (Tm.app (.app Tm.joinC x) y).good = true ∧ (Tm.app (.app Tm.joinC x) y).size ≤ 1000000 from ⟨by simp [Tm.good, join_good.1, hgx, hgy], by have := join_good.2; simp only [Tm.size]; omega⟩)
      clear hx hu hy hv hcT hdT hp hq hgx hgy
      cases u with
      | true =>
        rw [Bool.true_and]
        go_enter Tryz.func6, Tryz.ntmps6
        go_wp2_with fail
        refine hc.mono ?_
        rintro e w1 ⟨s1, ao1, n1, c1, rfl, hb1, ht1⟩
        have hal1 := After.new w1 (.cells #[str s1, .slice ao1 n1 c1] 42)
        have hbox1 := heap_new' w1 (.cells #[str s1, .slice ao1 n1 c1] 42)
        have HT1 := Lib.hid ((ht1 t rfl).later hal1)
        clear ht1 hc
        go_wp2_with fail
        refine (hd _).mono ?_
        rintro e w2 ⟨s2, ao2, n2, c2, rfl, hb2, ht2⟩
        have hal2 := After.new w2 (.cells #[str s2, .slice ao2 n2 c2] 42)
        have hbox2 := heap_new' w2 (.cells #[str s2, .slice ao2 n2 c2] 42)
        have hbox1' := (hb2.trans hal2).heap hbox1
        have HT2 := Lib.hid ((ht2 t2 rfl).later hal2)
        obtain ⟨k0, k1, k2, k3, k4⟩ := pair_facts hbox1' (After.refl _)
        have hcall := hsm _ _ _ _ _ (HT1.out.later (hb2.trans hal2))
        have HB2 := Lib.hid hbox2
        clear ht2 hd hbox1 hbox1' hbox2 hsm k2 k3 k4
        go_wp2_with fail
        refine hcall.mono ?_
        rintro e w3 ⟨s3, ao3, n3, c3, rfl, hb3, ht3⟩
        have hal3 := After.new w3 (.cells #[str s3, .slice ao3 n3 c3] 42)
        have q3 := heap_new' w3 (.cells #[str s3, .slice ao3 n3 c3] 42)
        have hbox2 := (hb3.trans hal3).heap HB2.out
        obtain ⟨j0, j1, j2, j3, j4⟩ := pair_facts hbox2 (After.refl _)
        have hcall2 := hsm2 _ _ _ _ _ (HT2.out.later (hb3.trans hal3))
        have HT3 := Lib.hid (ht3.later hal3)
        have Q3 := Lib.hid q3
        clear ht3 hcall hbox2 hsm2 q3 j2 j3 j4 k0 k1
        go_wp2_with fail
        refine hcall2.mono ?_
        rintro e w4 ⟨s4, ao4, n4, c4, rfl, hb4, ht4⟩
        have hal4 := After.new w4 (.cells #[str s4, .slice ao4 n4 c4] 42)
        have q4 := heap_new' w4 (.cells #[str s4, .slice ao4 n4 c4] 42)
        have q3 := (hb4.trans hal4).heap Q3.out
        have st3 := HT3.out.later (hb4.trans hal4)
        have st4 := ht4.later hal4
        have aY := ((((((hb1.trans hal1).trans hb2).trans hal2).trans hb3).trans hal3).trans hb4).trans hal4
        clear j0 j1 hcall2 ht4
        go_wp2_with fail
        generalize w4.alloc (.cells #[str s4, .slice ao4 n4 c4] 42) = Y at *
        generalize w4.heap.size = g4 at *
        generalize w3.heap.size = g3 at *
        generalize w2.heap.size = g2 at *
        generalize w1.heap.size = g1 at *
        have G3 := Lib.hid q3
        have G4 := Lib.hid q4
        have S3 := Lib.hid st3
        have S4 := Lib.hid st4
        have AY := Lib.hid aY
        have hself := (After.refl Y).drew
        clear q3 q4 st3 st4 aY hal1 hal2 hal3 hal4 hb1 hb2 hb3 hb4
        rename_i KK hKK
        refine wp_region_reg (by kernel_rfl) (by kernel_rfl) After After.refl (fun _ _ _ h g => h.trans g)
          (yds [.tree (Tm.joinC), .tree (x), .tree (y), .row [x, y], .tree (.app (.app (Tm.joinC) (x)) (y)), .lit (.bool true), .lit (.bool true), .lit (.bool v), .lit (.bool v), .lit (.tuple #[str ((endR (.app (.app (Tm.joinC) (x)) (y)) v).getD []), .bool (endR (.app (.app (Tm.joinC) (x)) (y)) v).isSome]), .lit (str ((endR (.app (.app (Tm.joinC) (x)) (y)) v).getD [])), .lit (.bool (endR (.app (.app (Tm.joinC) (x)) (y)) v).isSome), .lit (str ((endR (.app (.app (Tm.joinC) (x)) (y)) v).getD [])), .lit (.bool (endR (.app (.app (Tm.joinC) (x)) (y)) v).isSome)]) yds_later (lt14 ?_ ?_ ?_ ?_ ?_ ?_ ?_ ?_ ?_ ?_ ?_ ?_ ?_ ?_) ?_
        · intro vs W hE hd K hK
          have hE' : After Y W := hself.trans hE
          exact do_call (Tm.joinC) (f := 20) (args := #[]) (by kernel_rfl) (by kernel_rfl) (by kernel_rfl) (s_join4 W) hK
        · intro vs W hE hd K hK
          have hE' : After Y W := hself.trans hE
          have G := hE'.heap G3.out
          exact do_load (.tree (x)) (x := .tmp 10) (by kernel_rfl) (by kernel_rfl) (by kernel_rfl) (by kernel_rfl) (cell_of_heap (i := 0) G) (cell_of_heap (i := 1) G) ⟨_, _, _, _, rfl, S3.out.later hE'⟩ hK
        · intro vs W hE hd K hK
          have hE' : After Y W := hself.trans hE
          have G := hE'.heap G4.out
          exact do_load (.tree (y)) (x := .tmp 12) (by kernel_rfl) (by kernel_rfl) (by kernel_rfl) (by kernel_rfl) (cell_of_heap (i := 0) G) (cell_of_heap (i := 1) G) ⟨_, _, _, _, rfl, S4.out.later hE'⟩ hK
        · intro vs W hE hd K hK
          have hE' : After Y W := hself.trans hE
          exact do_row2 (x := .tmp 41) (y := .tmp 42) (u := vs 1) (v := vs 2) (by kernel_rfl) (by kernel_rfl) (by kernel_rfl) (by kernel_rfl) (by kernel_rfl) (hd 1 (by kernel_rfl)) (hd 2 (by kernel_rfl)) hK
        · intro vs W hE hd K hK
          have hE' : After Y W := hself.trans hE
          exact do_app (u1 := vs 0) (u2 := vs 3) (us := [x, y]) (by kernel_rfl) (by kernel_rfl) (by kernel_rfl) (hd 0 (by kernel_rfl)) (hd 3 (by kernel_rfl)) (by simp) hK
        · intro vs W hE hd K hK
          have hE' : After Y W := hself.trans hE
          exact do_pure (v := .bool true) (.lit (.bool true)) (by kernel_rfl) (by kernel_rfl) (by kernel_rfl) rfl hK
        · intro vs W hE hd K hK
          have hE' : After Y W := hself.trans hE
          exact do_pure (v := vs 5) (.lit (.bool true)) (by kernel_rfl) (by kernel_rfl) (by kernel_rfl) (hd 5 (by kernel_rfl)) hK
        · intro vs W hE hd K hK
          have hE' : After Y W := hself.trans hE
          exact do_on (j := 6) (u := vs 6) (v := .bool v) (.lit (.bool v)) (by kernel_rfl) (by kernel_rfl) (by kernel_rfl) (hd 6 (by kernel_rfl)) (by kernel_rfl) rfl hK
        · intro vs W hE hd K hK
          have hE' : After Y W := hself.trans hE
          exact do_pick (c := .tmp 46) (x := .tmp 47) (y := .const (.bool false)) (u := vs 6) (p := true) (r := .bool v) (by kernel_rfl) (by kernel_rfl) (by kernel_rfl) (by kernel_rfl) (hd 6 (by kernel_rfl)) (by rw [if_pos rfl]; exact Eq.trans (by kernel_rfl : _ = vs 7) (hd 7 (by kernel_rfl))) hK
        · intro vs W hE hd K hK
          have hE' : After Y W := hself.trans hE
          exact do_calllit (v := .tuple #[str ((endR (.app (.app (Tm.joinC) (x)) (y)) v).getD []), .bool (endR (.app (.app (Tm.joinC) (x)) (y)) v).isSome]) (f := 18) (args := #[vs 4, vs 8]) (by kernel_rfl) (by kernel_rfl) (by kernel_rfl) (by rw [show vs 8 = .bool v from hd 8 (by kernel_rfl)]; exact s_end4' W (.app (.app (Tm.joinC) (x)) (y)) v (vs 4) (rawOf (hd 4 (by kernel_rfl))) (fun _ => ⟨stOf (hd 4 (by kernel_rfl)), HG.out.1, HG.out.2⟩)) hK
        · intro vs W hE hd K hK
          have hE' : After Y W := hself.trans hE
          exact do_extract0 (x := .tmp 49) (u := vs 9) (a := str ((endR (.app (.app (Tm.joinC) (x)) (y)) v).getD [])) (b := .bool (endR (.app (.app (Tm.joinC) (x)) (y)) v).isSome) (by kernel_rfl) (by kernel_rfl) (by kernel_rfl) (by kernel_rfl) (hd 9 (by kernel_rfl)) hK
        · intro vs W hE hd K hK
          have hE' : After Y W := hself.trans hE
          exact do_extract1 (x := .tmp 49) (u := vs 9) (a := str ((endR (.app (.app (Tm.joinC) (x)) (y)) v).getD [])) (b := .bool (endR (.app (.app (Tm.joinC) (x)) (y)) v).isSome) (by kernel_rfl) (by kernel_rfl) (by kernel_rfl) (by kernel_rfl) (hd 9 (by kernel_rfl)) hK
        · intro vs W hE hd K hK
          have hE' : After Y W := hself.trans hE
          exact do_pure (v := vs 10) (.lit (str ((endR (.app (.app (Tm.joinC) (x)) (y)) v).getD []))) (by kernel_rfl) (by kernel_rfl) (by kernel_rfl) (hd 10 (by kernel_rfl)) hK
        · intro vs W hE hd K hK
          have hE' : After Y W := hself.trans hE
          exact do_pure (v := vs 11) (.lit (.bool (endR (.app (.app (Tm.joinC) (x)) (y)) v).isSome)) (by kernel_rfl) (by kernel_rfl) (by kernel_rfl) (hd 11 (by kernel_rfl)) hK
        intro vs W hE hd
        have hE' : After Y W := hself.trans hE
        have er0 : vs 12 = str ((endR (.app (.app (Tm.joinC) (x)) (y)) v).getD []) := hd 12 (by decide)
        have er1 : vs 13 = .bool (endR (.app (.app (Tm.joinC) (x)) (y)) v).isSome := hd 13 (by decide)
        refine hKK _ _ ?_
        generalize hAA : frame _ _ vs = AA
        obtain rfl : AA = ⟨#[str l, str m, undef, undef, vs 12, vs 13, .pointer (some ⟨g1, 0, none⟩), .bool true, .pointer (some ⟨g2, 0, none⟩), .bool true, .pointer (some ⟨g3, 0, none⟩), .bool true, .pointer (some ⟨g4, 0, none⟩), .bool v, .tuple #[.agg #[str s1, .slice ao1 n1 c1], .bool true], str l, .tuple #[.agg #[str s1, .slice ao1 n1 c1], .bool true], .agg #[str s1, .slice ao1 n1 c1], .bool true, .tuple #[.agg #[str s2, .slice ao2 n2 c2], .bool true], str m, .tuple #[.agg #[str s2, .slice ao2 n2 c2], .bool true], .agg #[str s2, .slice ao2 n2 c2], .bool true, .bool true, .bool false, .bool false, .bool true, .bool false, .bool false, .tuple #[.agg #[str s3, .slice ao3 n3 c3], .bool true], .agg #[str s1, .slice ao1 n1 c1], .tuple #[.agg #[str s3, .slice ao3 n3 c3], .bool true], .agg #[str s3, .slice ao3 n3 c3], .bool true, .tuple #[.agg #[str s4, .slice ao4 n4 c4], .bool v], .agg #[str s2, .slice ao2 n2 c2], .tuple #[.agg #[str s4, .slice ao4 n4 c4], .bool v], .agg #[str s4, .slice ao4 n4 c4], .bool v, vs 0, vs 1, vs 2, vs 3, vs 4, vs 5, vs 6, vs 7, vs 8, vs 9, vs 10, vs 11], []⟩ := by rw [← hAA]; kernel_rfl
        clear hAA hd
        generalize vs 12 = rv0 at *
        subst er0
        generalize vs 13 = rv1 at *
        subst er1
        go_wp2_with fail
        go_ret2
        exact ⟨rfl, AY.out.trans hE'⟩
      | false =>
        rw [Bool.false_and]
        go_enter Tryz.func6, Tryz.ntmps6
        go_wp2_with fail
        refine hc.mono ?_
        rintro e w1 ⟨s1, ao1, n1, c1, rfl, hb1, ht1⟩
        have hal1 := After.new w1 (.cells #[str s1, .slice ao1 n1 c1] 42)
        have hbox1 := heap_new' w1 (.cells #[str s1, .slice ao1 n1 c1] 42)
        have HT1 := Lib.hid ((ht1 t rfl).later hal1)
        clear ht1 hc
        go_wp2_with fail
        refine (hd _).mono ?_
        rintro e w2 ⟨s2, ao2, n2, c2, rfl, hb2, ht2⟩
        have hal2 := After.new w2 (.cells #[str s2, .slice ao2 n2 c2] 42)
        have hbox2 := heap_new' w2 (.cells #[str s2, .slice ao2 n2 c2] 42)
        have hbox1' := (hb2.trans hal2).heap hbox1
        have HT2 := Lib.hid ((ht2 t2 rfl).later hal2)
        obtain ⟨k0, k1, k2, k3, k4⟩ := pair_facts hbox1' (After.refl _)
        have hcall := hsm _ _ _ _ _ (HT1.out.later (hb2.trans hal2))
        have HB2 := Lib.hid hbox2
        clear ht2 hd hbox1 hbox1' hbox2 hsm k2 k3 k4
        go_wp2_with fail
        refine hcall.mono ?_
        rintro e w3 ⟨s3, ao3, n3, c3, rfl, hb3, ht3⟩
        have hal3 := After.new w3 (.cells #[str s3, .slice ao3 n3 c3] 42)
        have q3 := heap_new' w3 (.cells #[str s3, .slice ao3 n3 c3] 42)
        have hbox2 := (hb3.trans hal3).heap HB2.out
        obtain ⟨j0, j1, j2, j3, j4⟩ := pair_facts hbox2 (After.refl _)
        have hcall2 := hsm2 _ _ _ _ _ (HT2.out.later (hb3.trans hal3))
        have HT3 := Lib.hid (ht3.later hal3)
        have Q3 := Lib.hid q3
        clear ht3 hcall hbox2 hsm2 q3 j2 j3 j4 k0 k1
        go_wp2_with fail
        refine hcall2.mono ?_
        rintro e w4 ⟨s4, ao4, n4, c4, rfl, hb4, ht4⟩
        have hal4 := After.new w4 (.cells #[str s4, .slice ao4 n4 c4] 42)
        have q4 := heap_new' w4 (.cells #[str s4, .slice ao4 n4 c4] 42)
        have q3 := (hb4.trans hal4).heap Q3.out
        have st3 := HT3.out.later (hb4.trans hal4)
        have st4 := ht4.later hal4
        have aY := ((((((hb1.trans hal1).trans hb2).trans hal2).trans hb3).trans hal3).trans hb4).trans hal4
        clear j0 j1 hcall2 ht4
        go_wp2_with fail
        generalize w4.alloc (.cells #[str s4, .slice ao4 n4 c4] 42) = Y at *
        generalize w4.heap.size = g4 at *
        generalize w3.heap.size = g3 at *
        generalize w2.heap.size = g2 at *
        generalize w1.heap.size = g1 at *
        have G3 := Lib.hid q3
        have G4 := Lib.hid q4
        have S3 := Lib.hid st3
        have S4 := Lib.hid st4
        have AY := Lib.hid aY
        have hself := (After.refl Y).drew
        clear q3 q4 st3 st4 aY hal1 hal2 hal3 hal4 hb1 hb2 hb3 hb4
        rename_i KK hKK
        refine wp_region_reg (by kernel_rfl) (by kernel_rfl) After After.refl (fun _ _ _ h g => h.trans g)
          (yds [.tree (Tm.joinC), .tree (x), .tree (y), .row [x, y], .tree (.app (.app (Tm.joinC) (x)) (y)), .lit (.bool false), .lit (.bool false), .free, .lit (.bool false), .lit (.tuple #[str ((endR (.app (.app (Tm.joinC) (x)) (y)) false).getD []), .bool (endR (.app (.app (Tm.joinC) (x)) (y)) false).isSome]), .lit (str ((endR (.app (.app (Tm.joinC) (x)) (y)) false).getD [])), .lit (.bool (endR (.app (.app (Tm.joinC) (x)) (y)) false).isSome), .lit (str ((endR (.app (.app (Tm.joinC) (x)) (y)) false).getD [])), .lit (.bool (endR (.app (.app (Tm.joinC) (x)) (y)) false).isSome)]) yds_later (lt14 ?_ ?_ ?_ ?_ ?_ ?_ ?_ ?_ ?_ ?_ ?_ ?_ ?_ ?_) ?_
        · intro vs W hE hd K hK
          have hE' : After Y W := hself.trans hE
          exact do_call (Tm.joinC) (f := 20) (args := #[]) (by kernel_rfl) (by kernel_rfl) (by kernel_rfl) (s_join4 W) hK
        · intro vs W hE hd K hK
          have hE' : After Y W := hself.trans hE
          have G := hE'.heap G3.out
          exact do_load (.tree (x)) (x := .tmp 10) (by kernel_rfl) (by kernel_rfl) (by kernel_rfl) (by kernel_rfl) (cell_of_heap (i := 0) G) (cell_of_heap (i := 1) G) ⟨_, _, _, _, rfl, S3.out.later hE'⟩ hK
        · intro vs W hE hd K hK
          have hE' : After Y W := hself.trans hE
          have G := hE'.heap G4.out
          exact do_load (.tree (y)) (x := .tmp 12) (by kernel_rfl) (by kernel_rfl) (by kernel_rfl) (by kernel_rfl) (cell_of_heap (i := 0) G) (cell_of_heap (i := 1) G) ⟨_, _, _, _, rfl, S4.out.later hE'⟩ hK
        · intro vs W hE hd K hK
          have hE' : After Y W := hself.trans hE
          exact do_row2 (x := .tmp 41) (y := .tmp 42) (u := vs 1) (v := vs 2) (by kernel_rfl) (by kernel_rfl) (by kernel_rfl) (by kernel_rfl) (by kernel_rfl) (hd 1 (by kernel_rfl)) (hd 2 (by kernel_rfl)) hK
        · intro vs W hE hd K hK
          have hE' : After Y W := hself.trans hE
          exact do_app (u1 := vs 0) (u2 := vs 3) (us := [x, y]) (by kernel_rfl) (by kernel_rfl) (by kernel_rfl) (hd 0 (by kernel_rfl)) (hd 3 (by kernel_rfl)) (by simp) hK
        · intro vs W hE hd K hK
          have hE' : After Y W := hself.trans hE
          exact do_pure (v := .bool false) (.lit (.bool false)) (by kernel_rfl) (by kernel_rfl) (by kernel_rfl) rfl hK
        · intro vs W hE hd K hK
          have hE' : After Y W := hself.trans hE
          exact do_pure (v := vs 5) (.lit (.bool false)) (by kernel_rfl) (by kernel_rfl) (by kernel_rfl) (hd 5 (by kernel_rfl)) hK
        · intro vs W hE hd K hK
          have hE' : After Y W := hself.trans hE
          exact do_offg (j := 6) (b := true) (c := false) (u := vs 6) (by kernel_rfl) (by kernel_rfl) (by kernel_rfl) (hd 6 (by kernel_rfl)) (by decide) hK
        · intro vs W hE hd K hK
          have hE' : After Y W := hself.trans hE
          exact do_pick (c := .tmp 46) (x := .tmp 47) (y := .const (.bool false)) (u := vs 6) (p := false) (r := .bool false) (by kernel_rfl) (by kernel_rfl) (by kernel_rfl) (by kernel_rfl) (hd 6 (by kernel_rfl)) (by rw [if_neg (by decide)]; rfl) hK
        · intro vs W hE hd K hK
          have hE' : After Y W := hself.trans hE
          exact do_calllit (v := .tuple #[str ((endR (.app (.app (Tm.joinC) (x)) (y)) false).getD []), .bool (endR (.app (.app (Tm.joinC) (x)) (y)) false).isSome]) (f := 18) (args := #[vs 4, vs 8]) (by kernel_rfl) (by kernel_rfl) (by kernel_rfl) (by rw [show vs 8 = .bool false from hd 8 (by kernel_rfl)]; exact s_end4' W (.app (.app (Tm.joinC) (x)) (y)) false (vs 4) (rawOf (hd 4 (by kernel_rfl))) (fun _ => ⟨stOf (hd 4 (by kernel_rfl)), HG.out.1, HG.out.2⟩)) hK
        · intro vs W hE hd K hK
          have hE' : After Y W := hself.trans hE
          exact do_extract0 (x := .tmp 49) (u := vs 9) (a := str ((endR (.app (.app (Tm.joinC) (x)) (y)) false).getD [])) (b := .bool (endR (.app (.app (Tm.joinC) (x)) (y)) false).isSome) (by kernel_rfl) (by kernel_rfl) (by kernel_rfl) (by kernel_rfl) (hd 9 (by kernel_rfl)) hK
        · intro vs W hE hd K hK
          have hE' : After Y W := hself.trans hE
          exact do_extract1 (x := .tmp 49) (u := vs 9) (a := str ((endR (.app (.app (Tm.joinC) (x)) (y)) false).getD [])) (b := .bool (endR (.app (.app (Tm.joinC) (x)) (y)) false).isSome) (by kernel_rfl) (by kernel_rfl) (by kernel_rfl) (by kernel_rfl) (hd 9 (by kernel_rfl)) hK
        · intro vs W hE hd K hK
          have hE' : After Y W := hself.trans hE
          exact do_pure (v := vs 10) (.lit (str ((endR (.app (.app (Tm.joinC) (x)) (y)) false).getD []))) (by kernel_rfl) (by kernel_rfl) (by kernel_rfl) (hd 10 (by kernel_rfl)) hK
        · intro vs W hE hd K hK
          have hE' : After Y W := hself.trans hE
          exact do_pure (v := vs 11) (.lit (.bool (endR (.app (.app (Tm.joinC) (x)) (y)) false).isSome)) (by kernel_rfl) (by kernel_rfl) (by kernel_rfl) (hd 11 (by kernel_rfl)) hK
        intro vs W hE hd
        have hE' : After Y W := hself.trans hE
        have er0 : vs 12 = str ((endR (.app (.app (Tm.joinC) (x)) (y)) false).getD []) := hd 12 (by decide)
        have er1 : vs 13 = .bool (endR (.app (.app (Tm.joinC) (x)) (y)) false).isSome := hd 13 (by decide)
        refine hKK _ _ ?_
        generalize hAA : frame _ _ vs = AA
        obtain rfl : AA = ⟨#[str l, str m, undef, undef, vs 12, vs 13, .pointer (some ⟨g1, 0, none⟩), .bool true, .pointer (some ⟨g2, 0, none⟩), .bool true, .pointer (some ⟨g3, 0, none⟩), .bool false, .pointer (some ⟨g4, 0, none⟩), .bool v, .tuple #[.agg #[str s1, .slice ao1 n1 c1], .bool true], str l, .tuple #[.agg #[str s1, .slice ao1 n1 c1], .bool true], .agg #[str s1, .slice ao1 n1 c1], .bool true, .tuple #[.agg #[str s2, .slice ao2 n2 c2], .bool true], str m, .tuple #[.agg #[str s2, .slice ao2 n2 c2], .bool true], .agg #[str s2, .slice ao2 n2 c2], .bool true, .bool true, .bool false, .bool false, .bool true, .bool false, .bool false, .tuple #[.agg #[str s3, .slice ao3 n3 c3], .bool false], .agg #[str s1, .slice ao1 n1 c1], .tuple #[.agg #[str s3, .slice ao3 n3 c3], .bool false], .agg #[str s3, .slice ao3 n3 c3], .bool false, .tuple #[.agg #[str s4, .slice ao4 n4 c4], .bool v], .agg #[str s2, .slice ao2 n2 c2], .tuple #[.agg #[str s4, .slice ao4 n4 c4], .bool v], .agg #[str s4, .slice ao4 n4 c4], .bool v, vs 0, vs 1, vs 2, vs 3, vs 4, vs 5, vs 6, vs 7, vs 8, vs 9, vs 10, vs 11], []⟩ := by rw [← hAA]; kernel_rfl
        clear hAA hd
        generalize vs 12 = rv0 at *
        subst er0
        generalize vs 13 = rv1 at *
        subst er1
        go_wp2_with fail
        go_ret2
        exact ⟨rfl, AY.out.trans hE'⟩

end Go.Proofs.YtfpekihdoclncaaGreat
