/-
  The walks of two promises' laws: numerals, pairs: whatever the code, the law returns true.
-/
import Derived.Test.YtipmgfbncfkmiaaPromC
import Derived.Test.YtipmgfbncfkmiaaDrawN
import Derived.Test.YtipmgfbncfkmiaaImplAp
import Derived.Test.YtipmgfbncfkmiaaPkR
import Derived.Test.YtipmgfbncfkmiaaPkB
namespace Go.Proofs.Ytipmgfbncfkmiaa
open Go.RowKit

set_option maxHeartbeats 1000000
set_option maxRecDepth 100000

namespace Tm
theorem parts_of_pair' (m n : Tm) : (pair m n).parts = some (m, n) := by
  have h1 : Tm.text .k = [107] := rfl
  have h2 : Tm.text .s = [115] := rfl
  have h3 : Tm.text (.app .s I) = [40, 115, 32, 40, 40, 115, 32, 107, 41, 32, 107, 41, 41] := by decide
  simp [pair, parts, behind, h1, h2, h3]

theorem rd_of_num : ∀ (j f : Nat), j < f → rd f (num j) = some j
  | 0, f + 1, _ => by simp [rd, num]
  | j + 1, f + 1, h => by
    have hne : ¬ (num (j + 1)).text = I.text := fun e => by
      have := text_inj (good_num (j + 1)) rfl e
      have := congrArg size this
      rw [size_num] at this
      have hI : I.size = 3 := rfl
      omega
    have ih := rd_of_num j f (by omega)
    have hp : (num (j + 1)).parts = some (no, num j) := parts_of_pair' no (num j)
    simp only [rd]
    rw [if_neg hne, hp]
    simp only
    rw [if_pos trivial, ih]
    rfl
  | _, 0, h => by omega

theorem num_has (n : List UInt8) : ∀ j : Nat, has n (num j) = false
  | 0 => rfl
  | j + 1 => by
    show has n (pair no (num j)) = false
    simp [pair, has, no, I, num_has n j]

theorem num_fits (k : Nat) (hk : k ≤ 60) : (num k).fits = true := by
  have h1 := size_num k
  have h2 := depth_lt (num k)
  simp only [fits, Bool.and_eq_true, decide_eq_true_eq]
  omega

theorem num_facts (k : Nat) (hk : k ≤ 60) : pNumRead (num k).text = some k ∧ pClosed (num k).text = true ∧ pNormal (num k).text = true ∧ (num k).text.length ≤ 21000 ∧
    ∀ b, pBit (40 :: (first.text ++ 32 :: ((num k).text ++ [41]))) = some b → b = if k = 0 then 1 else 0 := by
  have hg := good_num k
  have hf := num_fits k hk
  refine ⟨?_, closed_text hg hf (fun n => num_has n k), normal_text hg hf (num_normal k), (parse_facts (parse_text hg hf)).2.2.2.2, fun b hb => ?_⟩
  · unfold pNumRead normOf
    rw [parse_text hg hf]
    simp only [norm_of_normal (num_normal k), Option.map_some, Option.bind_some]
    exact rd_of_num k 61 (by omega)
  · have gf : first.good = true := by decide +kernel
    have hs : Star (app first (num k)) (if k = 0 then Tm.k else no) := by
      have h1 := abs_star [120] (num k) (app X .k)
      have e : put (app X .k) [120] (num k) = app (num k) .k := rfl
      rw [e] at h1
      cases k with
      | zero => exact h1.trans (star_i _)
      | succ j => exact h1.trans ((pair_star no (num j) .k).trans (star_k _ _))
    have hb' : pBit (app first (num k)).text = some b := hb
    unfold pBit at hb'
    cases hq : pNorm (app first (num k)).text with
    | none => rw [hq] at hb'; cases hb'
    | some q =>
      obtain ⟨x, j⟩ := q
      rw [hq] at hb'
      simp only at hb'
      obtain ⟨u, rfl, su, nu, gu, _⟩ := pNorm_text (by simp [good, gf, hg]) hq
      have hu : u = (if k = 0 then Tm.k else no) := normal_one su hs nu (by split <;> decide +kernel)
      rw [hu] at hb'
      by_cases h0 : k = 0
      · rw [if_pos h0] at hb' ⊢
        simp [bitX] at hb'
        exact hb'.symm
      · rw [if_neg h0] at hb' ⊢
        unfold bitX at hb'
        rw [if_neg (by decide +kernel), if_pos rfl] at hb'
        exact (Option.some.inj hb').symm

theorem pair_facts {l m x : List UInt8} (h : pPair l m = some x) : pParts x = some (l, m) ∧ x.length ≤ 21000 ∧
    (∀ a b j, pApply first.text x = some a → pNorm l = some (b, j) → a = b) ∧ (∀ a b j, pApply second.text x = some a → pNorm m = some (b, j) → a = b) := by
  unfold pPair at h
  cases h1 : parse l with
  | none => rw [h1] at h; cases h
  | some t =>
    cases h2 : parse m with
    | none => rw [h1, h2] at h; cases h
    | some u =>
      rw [h1, h2] at h
      simp only at h
      split at h
      · rename_i hf
        obtain rfl := Option.some.inj h
        obtain ⟨rfl, gt, _⟩ := parse_text_iff h1
        obtain ⟨rfl, gu, _⟩ := parse_text_iff h2
        have hg : (pair t u).good = true := by rw [good_pair, gt, gu]; rfl
        have hp := parse_text hg hf
        have gf : first.good = true := by decide +kernel
        have gs : second.good = true := by decide +kernel
        have pf : parse first.text = some first := parse_text gf (by decide +kernel)
        have ps : parse second.text = some second := parse_text gs (by decide +kernel)
        refine ⟨?_, (parse_facts hp).2.2.2.2, fun a b j ha hb => ?_, fun a b j ha hb => ?_⟩
        · unfold pParts
          rw [hp]
          simp only
          rw [parts_of_pair']
          rfl
        · rw [pApply_norm pf hp, Option.map_eq_some_iff] at ha
          obtain ⟨⟨a', i⟩, ha', rfl⟩ := ha
          have s1 : Star (app first (pair t u)) t := by
            have h1 := abs_star [120] (pair t u) (app X .k)
            have e : put (app X .k) [120] (pair t u) = app (pair t u) .k := rfl
            rw [e] at h1
            exact h1.trans ((pair_star t u .k).trans (star_k _ _))
          exact same_end (V := t) (by simp [good, gf, hg]) gt s1 (.refl t) ha' hb
        · rw [pApply_norm ps hp, Option.map_eq_some_iff] at ha
          obtain ⟨⟨a', i⟩, ha', rfl⟩ := ha
          have s1 : Star (app second (pair t u)) u := by
            have h1 := abs_star [120] (pair t u) (app X no)
            have e : put (app X no) [120] (pair t u) = app (pair t u) no := rfl
            rw [e] at h1
            exact h1.trans ((pair_star t u no).trans (((star_k I t).app (.refl u)).trans (star_i u)))
          exact same_end (V := u) (by simp [good, gs, hg]) gu s1 (.refl u) ha' hb
      · cases h
end Tm

theorem data_zero_is : pData [122, 101, 114, 111] = some Tm.first.text := rfl
theorem data_first_is : pData [102, 105, 114, 115, 116] = some Tm.first.text := rfl
theorem data_second_is : pData [115, 101, 99, 111, 110, 100] = some Tm.second.text := rfl

def zeroOf (x y : List UInt8) : List UInt8 := 40 :: (x ++ 32 :: (y ++ [41]))

theorem number_nat {z : Int} {x : List UInt8} (h : pNumber z = some x) : ∃ k : Nat, z = (k : Int) ∧ k ≤ 60 ∧ x = (Tm.num k).text := by
  unfold pNumber at h
  split at h
  · rename_i hr
    obtain ⟨k, rfl⟩ := Int.eq_ofNat_of_zero_le hr.1
    refine ⟨k, rfl, by omega, ?_⟩
    simpa using h.symm
  · cases h

theorem law_pnumber (w : World) (v : Value) (n : Nat) (h : CodeArg w v n) :
    Calls Try.prog 13 #[v] w fun e w' => e = .returned (.bool true) ∧ After w w' := by
  obtain ⟨a0, cap, rfl⟩ := h.form
  have hdraw := draw_number w _ n h
  clear h
  by_cases hbig : (1048576 : Int) < (n : Int)
  · go_enter Try.func13, Try.ntmps13
    go_wp2_with fail
    go_ret
    exact ⟨rfl, After.refl _⟩
  · go_enter Try.func13, Try.ntmps13
    go_wp2_with fail
    refine hdraw.mono ?_
    rintro e w1 ⟨z, rfl, ha⟩
    have HA := Lib.hid ha
    clear hdraw ha
    have hi := fun W => impl_number W z
    have hs := fun W => spec_number W z
    unfold NumOne at hi
    unfold SNumOne at hs
    cases hb : pNumber z with
    | none =>
      simp only [hb, Option.getD_none, Option.isSome_none] at hi hs
      clear hb
      go_wp2_with fail
      refine (hi _).mono ?_
      rintro e w2 ⟨rfl, hb2⟩
      go_wp2_with fail
      refine (hs _).mono ?_
      rintro e w3 ⟨rfl, hb3⟩
      go_wp2_with fail
      go_ret
      exact ⟨by simp, ((HA.out.trans hb2).trans hb3)⟩
    | some x =>
      obtain ⟨k, rfl, hk, hx⟩ := number_nat hb
      obtain ⟨f1, f2, f3, f4, f5⟩ := Tm.num_facts k hk
      rw [← hx] at f1 f2 f3 f4 f5
      have hr := fun W => impl_numread W x (by omega)
      have hd := fun W => impl_data W [122, 101, 114, 111]
      have hc := fun W => impl_closed W x (by omega)
      have hno := fun W => impl_normal W x (by omega)
      unfold IntRes at hr
      unfold NumOne at hd
      simp only [hb, Option.getD_some, Option.isSome_some] at hi hs
      simp only [f1, Option.getD_some, Option.isSome_some] at hr
      simp only [data_zero_is, Option.getD_some, Option.isSome_some] at hd
      simp only [f2] at hc
      simp only [f3] at hno
      have hfl : Tm.first.text.length ≤ 1000 := by decide +kernel
      generalize Tm.first.text = y at *
      obtain ⟨L, hL⟩ : ∃ L, L = zeroOf y x := ⟨_, rfl⟩
      have hbt := fun W => impl_bit W L (by rw [hL]; simp [zeroOf]; omega)
      unfold BitRes at hbt
      have hA : (pBit L).isSome = true → (pBit L).getD 0 = if k = 0 then 1 else 0 := fun h => by
        obtain ⟨b, hb⟩ := Option.isSome_iff_exists.1 h
        rw [hb]
        rw [hL] at hb
        exact f5 b hb
      clear hb f1 f2 f3 f5 hx
      generalize (pBit L).isSome = b1 at *
      generalize (pBit L).getD 0 = v1 at *
      have zx := ssize x
      have zy := ssize y
      have hlena : L.length ≤ 10000000 := by rw [hL]; simp [zeroOf]; omega
      have qa0 : (⟨#[40]⟩ : ByteArray).size = 1 := rfl
      have qa1 : (⟨#[32]⟩ : ByteArray).size = 1 := rfl
      have qa2 : (⟨#[41]⟩ : ByteArray).size = 1 := rfl
      obtain ⟨ca0, da0, za0, ea0⟩ := cat ⟨#[40]⟩ ⟨y.toArray⟩ (by omega)
      obtain ⟨ca1, da1, za1, ea1⟩ := cat ca0 ⟨#[32]⟩ (by omega)
      obtain ⟨ca2, da2, za2, ea2⟩ := cat ca1 ⟨x.toArray⟩ (by omega)
      obtain ⟨ca3, da3, za3, ea3⟩ := cat ca2 ⟨#[41]⟩ (by omega)
      have hfina : str L = .string ca3 := by
        refine congrArg Value.string (ByteArray.ext (Array.ext' ?_))
        rw [da3, da2, da1, da0, hL]
        simp [zeroOf]
      rw [hfina] at hbt
      clear hfina da0 za0 da1 za1 da2 za2 da3 za3 qa0 qa1 qa2 hL
      clear hlena zx zy hfl f4
      go_wp2_with fail
      refine (hi _).mono ?_
      rintro e w2 ⟨rfl, hb2⟩
      go_wp2_with fail
      refine (hs _).mono ?_
      rintro e w3 ⟨rfl, hb3⟩
      go_wp2_with fail
      refine (hr _).mono ?_
      rintro e w4 ⟨rfl, hb4⟩
      go_wp2_with fail
      refine (hd _).mono ?_
      rintro e w5 ⟨rfl, hb5⟩
      go_wp2_with fail
      refine (hbt _).mono ?_
      rintro e w6 ⟨rfl, hb6⟩
      by_cases h0 : k = 0
      · subst h0
        simp only [if_true] at hA
        cases b1
        all_goals
          try (have hA' := hA rfl; subst hA')
          clear hA
          go_wp2_with (first
            | (go_at_call 20; refine (hc _).mono ?_; rintro e w7 ⟨rfl, hb7⟩)
            | (go_at_call 31; refine (hno _).mono ?_; rintro e w8 ⟨rfl, hb8⟩))
          go_ret
          exact ⟨by simp, ((((((HA.out.trans hb2).trans hb3).trans hb4).trans hb5).trans hb6).trans hb7).trans hb8⟩
      · have h1 : ((k : Int) == 0) = false := by rw [beq_eq_false_iff_ne]; omega
        simp only [h0, if_false] at hA
        cases b1
        all_goals
          try (have hA' := hA rfl; subst hA')
          clear hA
          go_wp2_with (first
            | (go_at_call 20; refine (hc _).mono ?_; rintro e w7 ⟨rfl, hb7⟩)
            | (go_at_call 31; refine (hno _).mono ?_; rintro e w8 ⟨rfl, hb8⟩))
          go_ret
          exact ⟨by simp, ((((((HA.out.trans hb2).trans hb3).trans hb4).trans hb5).trans hb6).trans hb7).trans hb8⟩

theorem law_ppair (w : World) (v : Value) (n : Nat) (h : CodeArg w v n) :
    Calls Try.prog 12 #[v] w fun e w' => e = .returned (.bool true) ∧ After w w' := by
  obtain ⟨a0, cap, rfl⟩ := h.form
  have hdraw := draw_pairof w _ n h
  clear h
  by_cases hbig : (1048576 : Int) < (n : Int)
  · go_enter Try.func12, Try.ntmps12
    go_wp2_with fail
    go_ret
    exact ⟨rfl, After.refl _⟩
  · go_enter Try.func12, Try.ntmps12
    go_wp2_with fail
    refine hdraw.mono ?_
    rintro e w1 ⟨l, m, rfl, hl, hm, ha⟩
    have HA := Lib.hid ha
    clear hdraw ha
    have hi := fun W => impl_pair W l m (by omega) (by omega)
    have hs := fun W => spec_pair W l m (by omega) (by omega)
    unfold NumOne at hi
    unfold SNumOne at hs
    cases hb : pPair l m with
    | none =>
      simp only [hb, Option.getD_none, Option.isSome_none] at hi hs
      clear hb
      go_wp2_with fail
      refine (hi _).mono ?_
      rintro e w2 ⟨rfl, hb2⟩
      go_wp2_with fail
      refine (hs _).mono ?_
      rintro e w3 ⟨rfl, hb3⟩
      go_wp2_with fail
      go_ret
      exact ⟨by simp, ((HA.out.trans hb2).trans hb3)⟩
    | some x =>
      obtain ⟨f1, f2, f3, f4⟩ := Tm.pair_facts hb
      have hp := fun W => impl_parts W x (by omega)
      have hd1 := fun W => impl_data W [102, 105, 114, 115, 116]
      have hd2 := fun W => impl_data W [115, 101, 99, 111, 110, 100]
      have y1 : Tm.first.text.length ≤ 1000 := by decide +kernel
      have y2 : Tm.second.text.length ≤ 1000 := by decide +kernel
      have ha1 := fun W => impl_apply W Tm.first.text x (by omega) (by omega)
      have ha2 := fun W => impl_apply W Tm.second.text x (by omega) (by omega)
      have hn1 := fun W => impl_norm W l (by omega)
      have hn2 := fun W => impl_norm W m (by omega)
      unfold TwoRes at hp
      unfold NumOne at hd1 hd2
      unfold TextRes' at ha1 ha2
      unfold NumRes at hn1 hn2
      simp only [hb, Option.getD_some, Option.isSome_some] at hi hs
      simp only [f1, Option.map_some, Option.getD_some, Option.isSome_some] at hp
      simp only [data_first_is, Option.getD_some, Option.isSome_some] at hd1
      simp only [data_second_is, Option.getD_some, Option.isSome_some] at hd2
      generalize Tm.first.text = p at *
      generalize Tm.second.text = q at *
      have hA1 : (Tm.pApply p x).isSome = true → (Tm.pNorm l).isSome = true → ((Tm.pNorm l).map Prod.fst).getD [] = (Tm.pApply p x).getD [] := fun h1 h2 => by
        obtain ⟨a, ha⟩ := Option.isSome_iff_exists.1 h1
        have := f3 a _ _ ha (some_pair (x := []) (y := 0) h2)
        rw [ha]
        exact this.symm
      have hA2 : (Tm.pApply q x).isSome = true → (Tm.pNorm m).isSome = true → ((Tm.pNorm m).map Prod.fst).getD [] = (Tm.pApply q x).getD [] := fun h1 h2 => by
        obtain ⟨a, ha⟩ := Option.isSome_iff_exists.1 h1
        have := f4 a _ _ ha (some_pair (x := []) (y := 0) h2)
        rw [ha]
        exact this.symm
      clear hb f1 f3 f4
      generalize (Tm.pApply p x).isSome = b0 at *
      generalize (Tm.pApply p x).getD [] = x0 at *
      generalize (Tm.pApply q x).isSome = b1 at *
      generalize (Tm.pApply q x).getD [] = x1 at *
      generalize (Tm.pNorm l).isSome = b2 at *
      generalize ((Tm.pNorm l).map Prod.fst).getD [] = x2 at *
      generalize ((Tm.pNorm l).map Prod.snd).getD 0 = n2 at *
      generalize (Tm.pNorm m).isSome = b3 at *
      generalize ((Tm.pNorm m).map Prod.fst).getD [] = x3 at *
      generalize ((Tm.pNorm m).map Prod.snd).getD 0 = n3 at *
      go_wp2_with fail
      refine (hi _).mono ?_
      rintro e w2 ⟨rfl, hb2⟩
      go_wp2_with fail
      refine (hs _).mono ?_
      rintro e w3 ⟨rfl, hb3⟩
      go_wp2_with fail
      refine (hp _).mono ?_
      rintro e w4 ⟨rfl, hb4⟩
      go_wp2_with fail
      refine (hd1 _).mono ?_
      rintro e w5 ⟨rfl, hb5⟩
      go_wp2_with fail
      refine (hd2 _).mono ?_
      rintro e w6 ⟨rfl, hb6⟩
      go_wp2_with fail
      refine (ha1 _).mono ?_
      rintro e w7 ⟨rfl, hb7⟩
      go_wp2_with fail
      refine (ha2 _).mono ?_
      rintro e w8 ⟨rfl, hb8⟩
      go_wp2_with fail
      refine (hn1 _).mono ?_
      rintro e w9 ⟨rfl, hb9⟩
      go_wp2_with fail
      refine (hn2 _).mono ?_
      rintro e w10 ⟨rfl, hb10⟩
      cases b0 <;> cases b1 <;> cases b2 <;> cases b3
      all_goals
        try (have hA1' := hA1 rfl rfl; subst hA1')
        try (have hA2' := hA2 rfl rfl; subst hA2')
        clear hA1 hA2
        go_wp2_with fail
        go_ret
        exact ⟨by simp, (((((((((HA.out.trans hb2).trans hb3).trans hb4).trans hb5).trans hb6).trans hb7).trans hb8).trans hb9).trans hb10)⟩
end Go.Proofs.Ytipmgfbncfkmiaa
