/-
  The program's exported functions StepMany, TermNormal, NormalOf against the plain mathematics.
-/
import Derived.Test.YtfpekihdoclncaaPkAH
import Derived.Test.YtfpekihdoclncaaPkAG
namespace Go.Proofs.Ytfpekihdoclncaa
open Go.RowKit

set_option maxHeartbeats 400000
set_option maxRecDepth 100000

theorem normal_none (t : Tm) : t.normal = t.step.isNone := by
  rw [Bool.eq_iff_iff, normal_step, Option.isNone_iff_eq_none]

theorem norm_eq (t : Tm) : t.norm = if (t.many 6000).1.normal = true then some (t.many 6000) else none := by
  unfold Tm.norm
  simp only [normal_step]

/-- A text and a number handed back, or nothing. -/
def NumRes (w : World) (r : Option (List UInt8 × Nat)) (e : Ending) (w' : World) : Prop :=
  e = .returned (.tuple #[str ((r.map Prod.fst).getD []), .int .i64 (((r.map Prod.snd).getD 0 : Nat) : Int), .bool r.isSome]) ∧ Below w.heap.size w w'

end Go.Proofs.Ytfpekihdoclncaa

namespace Go.Proofs.Ytfpekihdoclncaa
open Go.RowKit

set_option maxHeartbeats 1000000
set_option maxRecDepth 100000

def SNum (w : World) (r : Option (List UInt8 × Nat)) (e : Ending) (w' : World) : Prop :=
  e = .returned (.tuple #[str ((r.map Prod.fst).getD []), .int .i64 (((r.map Prod.snd).getD 0 : Nat) : Int), .bool r.isSome]) ∧ After w w'

end Go.Proofs.Ytfpekihdoclncaa

namespace Go.Proofs.Ytfpekihdoclncaa
open Go.RowKit

set_option maxHeartbeats 1000000
set_option maxRecDepth 100000

def SOne' (w : World) (r : Option (List UInt8)) (e : Ending) (w' : World) : Prop :=
  e = .returned (.tuple #[str (r.getD []), .bool r.isSome]) ∧ After w w'

theorem spec_apply (w : World) (l m : List UInt8) (hl : l.length ≤ 1000000000) (hm : m.length ≤ 1000000000) :
    Calls Try.prog 10 #[str l, str m] w (SOne' w (Tm.pApply l m)) := by
  have h1 := s_term w l hl
  have h2 := fun W => s_term W m hm
  unfold STermPost at h1 h2
  by_cases hb : ((Tm.parse l).isSome && (Tm.parse m).isSome) = false
  · have hfin : Tm.pApply l m = none := by
      unfold Tm.pApply
      split
      · rename_i h1 h2; rw [h1, h2] at hb; simp at hb
      · rfl
    rw [hfin]
    clear hfin
    generalize (Tm.parse l).isSome = p at *
    generalize (Tm.parse m).isSome = q at *
    cases p
    all_goals
      try simp only [Bool.true_and] at hb
      try subst hb
      go_enter Try.func10, Try.ntmps10
      go_wp2_with fail
      refine h1.mono ?_
      rintro e w1 ⟨s1, ao1, n1, c1, rfl, hb1, ht1⟩
      clear ht1
      go_wp2_with (go_at_call 26; refine (h2 _).mono ?_; rintro e w2 ⟨s2, ao2, n2, c2, rfl, hb2, ht2⟩; clear ht2)
      go_ret2
      exact ⟨rfl, After.alloc ((After.alloc hb1 _).trans hb2) _⟩
  · have hb' : ((Tm.parse l).isSome && (Tm.parse m).isSome) = true := by rw [Bool.not_eq_false] at hb; exact hb
    rw [Bool.and_eq_true, Option.isSome_iff_exists, Option.isSome_iff_exists] at hb'
    obtain ⟨⟨t, hp⟩, ⟨u, hq⟩⟩ := hb'
    clear hb
    rw [hp] at h1
    rw [hq] at h2
    obtain ⟨hg, hf, hs, _, _⟩ := Tm.parse_facts hp
    obtain ⟨hgu, hfu, hsu, _, _⟩ := Tm.parse_facts hq
    have hga : (t.app u).good = true := by simp [Tm.good, hg, hgu]
    have hsz : (t.app u).size ≤ 1000000 := by simp only [Tm.size]; omega
    obtain ⟨x, hx⟩ : ∃ x, x = (if (t.app u).fits = true then ((t.app u).many 6000).1 else t.app u) := ⟨_, rfl⟩
    obtain ⟨b, hb⟩ : ∃ b, b = ((t.app u).fits && x.step.isNone) := ⟨_, rfl⟩
    have hnorm : ∀ W s ao m c, ST W (t.app u) (.agg #[str s, .slice ao m c]) → Calls Try.prog 27 #[.agg #[str s, .slice ao m c]] W (SNormPost W x b) := by
      intro W s ao m c h
      cases hfa : (t.app u).fits with
      | false =>
        rw [hfa] at hx hb
        simp only [Bool.false_eq_true, if_false, Bool.false_and] at hx hb
        rw [hx, hb]
        exact s_normal_no W _ s ao m c h hga hsz hfa
      | true =>
        rw [hfa] at hx hb
        simp only [if_true, Bool.true_and] at hx hb
        rw [hb, hx]
        exact s_normal W _ s ao m c h hga hfa
    have hfin : Tm.pApply l m = if b = true then some x.text else none := by
      have hne := norm_eq (t.app u)
      simp only [normal_none] at hne
      simp only [Tm.pApply, hp, hq, hne]
      cases hfa : (t.app u).fits with
      | false => rw [hfa] at hb; simp only [Bool.false_and] at hb; simp [hb]
      | true =>
        rw [hfa] at hx hb
        simp only [if_true, Bool.true_and] at hx hb
        rw [hb, hx]
        cases ((t.app u).many 6000).1.step.isNone <;> rfl
    have hgx : b = true → x.good = true ∧ x.text.length ≤ 100000000 := by
      intro hbt
      rw [hbt] at hb
      obtain ⟨hfa, _⟩ := Bool.and_eq_true_iff.1 hb.symm
      rw [hfa] at hx
      simp only [if_true] at hx
      obtain ⟨hgm, hfm⟩ := Tm.many_good 6000 _ hga hfa
      rw [← hx] at hgm hfm
      have htm := Tm.text_le _ hgm
      have hsm := fits_size hfm
      exact ⟨hgm, by omega⟩
    rw [hfin]
    have HGX := Lib.hid hgx
    clear hfin hx hb hp hq hgx
    unfold SNormPost at hnorm
    cases b
    all_goals
      simp only [if_true, Bool.false_eq_true, if_false]
      go_enter Try.func10, Try.ntmps10
      go_wp2_with fail
      refine h1.mono ?_
      rintro e w1 ⟨s1, ao1, n1, c1, rfl, hb1, ht1⟩
      have HT1 := Lib.hid (ht1 t rfl)
      clear ht1 h1
      have hw1 := After.alloc hb1 (.cells #[str s1, .slice ao1 n1 c1] 32)
      go_wp2_with fail
      refine (h2 _).mono ?_
      rintro e w2 ⟨s2, ao2, n2, c2, rfl, hb2, ht2⟩
      have HT2 := Lib.hid (ht2 u rfl)
      clear ht2 h2
      have h2X : After w2 (w2.alloc (.cells #[str s2, .slice ao2 n2 c2] 32)) := After.new _ _
      have hA1 := After.trans hb2 h2X
      have hAX := After.trans hw1 hA1
      have hbox1 := hA1.heap (heap_new' w1 (.cells #[str s1, .slice ao1 n1 c1] 32))
      have hbox2 := heap_new' w2 (.cells #[str s2, .slice ao2 n2 c2] 32)
      have hT1 := HT1.out.later ((After.new w1 (.cells #[str s1, .slice ao1 n1 c1] 32)).trans hA1)
      have hT2 := HT2.out.later h2X
      have happ := s_app ((w2.alloc (.cells #[str s2, .slice ao2 n2 c2] 32)).alloc (.cells #[str s2, .slice ao2 n2 c2] 32)) t u s1 s2 ao1 ao2 n1 c1 n2 c2 (w2.heap.size + 1) (0, 0) (hT1.later (After.new _ _)) (hT2.later (After.new _ _)) (heap_new2 _ _ _ _ rfl)
      unfold TreePost at happ
      obtain ⟨k0, k1, _, _, l1⟩ := pair_facts hbox1 (After.refl _)
      obtain ⟨k2, k3, _, _, l2⟩ := pair_facts hbox2 (After.refl _)
      clear hT1 hT2 HT1 HT2
      go_wp2_with fail
      refine happ.mono ?_
      rintro e w3 ⟨s3, ao3, n3, c3, rfl, hb3, ht3⟩
      have hcall := hnorm _ _ _ _ _ ht3
      have hw3 := After.trans (After.alloc hAX (.cells #[str s2, .slice ao2 n2 c2] 32)) hb3
      clear ht3 happ k0 k1 k2 k3 hnorm
      go_wp2_with fail
      refine hcall.mono ?_
      rintro e w4 ⟨s4, ao4, n4, c4, rfl, hb4, ht4⟩
      have hw4 := After.alloc (hw3.trans hb4) (.cells #[str s4, .slice ao4 n4 c4] 32)
      first
        | (have htext := (ht4.later (After.new w4 (.cells #[str s4, .slice ao4 n4 c4] 32))).text (HGX.out (by trivial)).1 (HGX.out (by trivial)).2
           clear ht4 hcall HGX
           go_wp2_with (go_at_call 29; refine htext.mono ?_; rintro e w5 ⟨rfl, hb5⟩)
           go_ret2
           exact ⟨rfl, hw4.trans hb5⟩)
        | (clear ht4 hcall HGX
           go_wp2_with fail
           go_ret2
           exact ⟨rfl, hw4⟩)
end Go.Proofs.Ytfpekihdoclncaa
