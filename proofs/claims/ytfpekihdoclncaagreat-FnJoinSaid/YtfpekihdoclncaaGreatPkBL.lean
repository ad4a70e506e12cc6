/-
  Plain mathematics: the code of a closed term is read back.
-/
import Derived.Test.YtfpekihdoclncaaGreatPkBK
import Derived.Test.YtfpekihdoclncaaGreatPkAT
import Derived.Test.YtfpekihdoclncaaGreatPkBH
import Derived.Test.YtfpekihdoclncaaGreatPkAU
import Derived.Test.YtfpekihdoclncaaGreatPkBI
namespace Go.Proofs.YtfpekihdoclncaaGreat
open Go.RowKit

set_option maxHeartbeats 2000000
set_option maxRecDepth 100000

namespace Tm
theorem mt_kC_app (c d : Tm) : mt kC (appC c d) = none := by
  rw [show kC = app (app s (app k k)) k by kernel_rfl]
  rfl
theorem mt_sC_app (c d : Tm) : mt sC (appC c d) = none := by
  rw [show sC = app k k by kernel_rfl]
  rfl
theorem back_code : ∀ (n : Nat) (t : Tm), (∀ m, has m t = false) → (code t).size ≤ n → back n (code t) = some t
  | 0, t, _, h => by have := size_pos (code t); omega
  | n + 1, .k, _, _ => by
    simp only [back, code, mt_self kC kC_has]
    rfl
  | n + 1, .s, _, _ => by
    simp only [back, code, mt_self sC sC_has, show mt kC sC = none by kernel_rfl]
    rfl
  | n + 1, .nm m, h, _ => by have := h m; simp [has] at this
  | n + 1, .app f a, h, hz => by
    simp only [code] at hz ⊢
    rw [size_appC] at hz
    have hf := back_code n f (fun n => by have := h n; simp [has] at this; exact this.1) (by omega)
    have ha := back_code n a (fun n => by have := h n; simp [has] at this; exact this.2) (by omega)
    simp only [back, mt_kC_app, mt_sC_app, mt_appC_self, hf, ha]
    rfl
end Tm

theorem code_back {l x : List UInt8} (h : Tm.pCodeOf l = some x) : Tm.pCodeRead x = some l := by
  obtain ⟨t, ht, rfl, hcg, hcf, _⟩ := Tm.codeOf_facts h
  obtain ⟨hp, rfl, hg, hf, hn⟩ := Tm.closedOf_facts ht
  unfold Tm.pCodeRead
  rw [Tm.parse_text hcg hcf]
  simp only [Option.bind_some]
  rw [Tm.back_code _ _ hn (Nat.le_refl _)]
  rfl
end Go.Proofs.YtfpekihdoclncaaGreat

namespace Go.Proofs.YtfpekihdoclncaaGreat
open Go.RowKit

set_option maxHeartbeats 2000000
set_option maxRecDepth 100000


/-- What two joined codes are: the code of the application. -/
theorem join_facts {l m out : List UInt8} (h : Tm.pCodeJoin l m = some out) : Tm.pCodeRead out = some (40 :: (l ++ 32 :: (m ++ [41]))) ∧ Tm.pCodeOf (40 :: (l ++ 32 :: (m ++ [41]))) = some out ∧ out.length ≤ 21000 ∧ l.length ≤ 21000 ∧ m.length ≤ 21000 := by
  unfold Tm.pCodeJoin at h
  cases hc : Tm.codeT l with
  | none => rw [hc] at h; cases h
  | some c =>
    cases hd : Tm.codeT m with
    | none => rw [hc, hd] at h; cases h
    | some d =>
      rw [hc, hd] at h
      simp only [Option.bind_some] at h
      obtain ⟨x, hx, rfl⟩ := Option.map_eq_some_iff.1 h
      obtain ⟨t, ht, rfl, hcf, hcg⟩ := Tm.codeT_facts hc
      obtain ⟨t2, ht2, rfl, hdf, hdg⟩ := Tm.codeT_facts hd
      obtain ⟨hp, hn⟩ := Tm.closed_facts ht
      obtain ⟨hp2, hn2⟩ := Tm.closed_facts ht2
      obtain ⟨hg, _, _, _, _⟩ := Tm.parse_facts hp
      obtain ⟨hg2, _, _, _, _⟩ := Tm.parse_facts hp2
      have hl := (Tm.parse_iff.1 hp).1
      have hm := (Tm.parse_iff.1 hp2).1
      have c1 := Tm.has_none hn
      have c2 := Tm.has_none hn2
      have k1 : ∀ n, Tm.has n t.code = false := fun n => by rw [code_has]; exact c1 n
      have hgj : (Tm.app (.app Tm.joinC t.code) t2.code).good = true := by simp [Tm.good, join_good.1, hcg, hdg]
      obtain ⟨hgx, hfx⟩ := Tm.endOf_facts hx hgj
      have hxe : x = Tm.code (.app t t2) := by
        unfold Tm.endOf at hx
        split at hx
        · obtain ⟨⟨y, k⟩, hy, rfl⟩ := Option.map_eq_some_iff.1 hx
          exact Tm.norm_unique hy (Tm.join_star _ _ k1) (Tm.code_normal (.app t t2) (fun n => by simp [Tm.has, c1 n, c2 n]))
        · cases hx
      have ca : ∀ n, Tm.has n (.app t t2) = false := fun n => by simp [Tm.has, c1 n, c2 n]
      have hga : (Tm.app t t2).good = true := by simp [Tm.good, hg, hg2]
      have hfs := fits_size hfx
      have hcd := code_depth (.app t t2)
      have hna := names_of_has ca
      have hcz := Tm.code_size_ge (.app t t2) (fun n e => by cases e) (fun y hy => by rw [hna] at hy; cases hy)
      rw [← hxe] at hcd hcz
      have hfa : (Tm.app t t2).fits = true := by
        simp only [Tm.fits, Bool.and_eq_true, decide_eq_true_eq]
        exact ⟨by omega, by omega⟩
      have hL : (40 :: (l ++ 32 :: (m ++ [41]))) = (Tm.app t t2).text := by
        have e1 : l = t.text := by first | exact hl | exact hl.symm
        have e2 : m = t2.text := by first | exact hm | exact hm.symm
        rw [e1, e2]
        rfl
      have hpo := Tm.parse_text hgx hfx
      have hpa := Tm.parse_text hga hfa
      have tz := Tm.text_le x hgx
      have tz1 := Tm.text_le t hg
      have tz2 := Tm.text_le t2 hg2
      rw [hL]
      refine ⟨?_, ?_, by omega, ?_, ?_⟩
      · unfold Tm.pCodeRead
        rw [hpo]
        simp only [Option.bind_some]
        rw [hxe, Tm.back_code _ _ ca (Nat.le_refl _)]
        rfl
      · unfold Tm.pCodeOf Tm.codeT
        have hcl : Tm.closedOf (Tm.app t t2).text = some (.app t t2) := by simp [Tm.closedOf, hpa, hna]
        rw [hcl]
        show ((if (Tm.code (.app t t2)).fits = true then some (Tm.code (.app t t2)) else none).map Tm.text) = some x.text
        rw [← hxe, if_pos hfx]
        rfl
      · have := (Tm.parse_facts hp).2.2.2.2
        have e1 : l = t.text := by first | exact hl | exact hl.symm
        rw [e1]; omega
      · have := (Tm.parse_facts hp2).2.2.2.2
        have e2 : m = t2.text := by first | exact hm | exact hm.symm
        rw [e2]; omega

theorem draw_join (w : World) (v : Value) (n : Nat) (h : CodeArg w v n) : Calls Tryz.prog 4 #[v] w fun e w' => ∃ l m : List UInt8, e = .returned (.tuple #[str l, str m]) ∧ l.length ≤ 1000 ∧ m.length ≤ 1000 ∧ After w w' := by
  have hopen := open_any w v n h
  clear h
  go_enter Tryz.func4, Tryz.ntmps4
  go_wp2_with fail
  refine hopen.mono ?_
  rintro e w1 ⟨rb, rfl, hr, ha, hd⟩
  have hs := small_any w1 rb 0 hd (by omega)
  clear hopen hd
  go_wp2_with fail
  refine hs.mono ?_
  rintro e w2 ⟨s1, q1, rfl, hz1, hq1, hg1, hd1⟩
  have hs2 := small_any w2 rb q1 hd1 (by omega)
  clear hs hd1
  go_wp2_with fail
  refine hs2.mono ?_
  rintro e w3 ⟨s2, q2, rfl, hz2, hq2, hg2, hd2⟩
  clear hs2 hd2
  obtain ⟨l1, rfl⟩ : ∃ l : List UInt8, s1 = ⟨l.toArray⟩ := ⟨s1.data.toList, by simp⟩
  obtain ⟨l2, rfl⟩ : ∃ l : List UInt8, s2 = ⟨l.toArray⟩ := ⟨s2.data.toList, by simp⟩
  rw [ssize] at hz1 hz2
  go_wp2_with fail
  go_ret2
  exact ⟨l1, l2, rfl, hz1, hz2, after_open ha (grown_trans hg1 hg2) hr⟩

theorem law_pjoin (w : World) (v : Value) (n : Nat) (h : CodeArg w v n) :
    Calls Tryz.prog 3 #[v] w fun e w' => e = .returned (.bool true) ∧ After w w' := by
  obtain ⟨a0, cap, rfl⟩ := h.form
  have hdraw := draw_join w _ n h
  clear h
  by_cases hbig : (1048576 : Int) < (n : Int)
  · go_enter Tryz.func3, Tryz.ntmps3
    go_wp2_with fail
    go_ret
    exact ⟨rfl, After.refl _⟩
  · go_enter Tryz.func3, Tryz.ntmps3
    go_wp2_with fail
    refine hdraw.mono ?_
    rintro e w1 ⟨l, m, rfl, hl, hm, ha⟩
    have hi := fun W => impl_codeJoin W l m (by omega) (by omega)
    have hs := fun W => spec_codeJoin W l m (by omega) (by omega)
    unfold TextRes' at hi
    unfold SOne' at hs
    have HA := Lib.hid ha
    clear hdraw ha
    cases hb : Tm.pCodeJoin l m with
    | none =>
      simp only [hb] at hi hs
      clear hb
      go_wp2_with (first
        | (go_at_call 5; refine (hi _).mono ?_; rintro e w2 ⟨rfl, hb2⟩)
        | (go_at_call 6; refine (hs _).mono ?_; rintro e w3 ⟨rfl, hb3⟩))
      go_ret
      exact ⟨by simp, (HA.out.trans hb2).trans hb3⟩
    | some x =>
      obtain ⟨f1, f2, f3, _, _⟩ := join_facts hb
      simp only [hb] at hi hs
      obtain ⟨L, hL⟩ : ∃ L, L = 40 :: (l ++ 32 :: (m ++ [41])) := ⟨_, rfl⟩
      rw [← hL] at f1 f2
      have hLl : L.length ≤ 100000 := by rw [hL]; simp; omega
      have hco := fun W => impl_codeOf W L (by omega)
      have hrd := fun W => impl_codeRead W x (by omega)
      unfold TextRes' at hco hrd
      simp only [f2] at hco
      simp only [f1] at hrd
      have zl := ssize l
      have zm := ssize m
      have q1 : (⟨#[40]⟩ : ByteArray).size = 1 := rfl
      have q2 : (⟨#[32]⟩ : ByteArray).size = 1 := rfl
      have q3 : (⟨#[41]⟩ : ByteArray).size = 1 := rfl
      obtain ⟨c1, d1, z1, e1⟩ := cat ⟨#[40]⟩ ⟨l.toArray⟩ (by omega)
      obtain ⟨c2, d2, z2, e2⟩ := cat c1 ⟨#[32]⟩ (by omega)
      obtain ⟨c3, d3, z3, e3⟩ := cat c2 ⟨m.toArray⟩ (by omega)
      obtain ⟨c4, d4, z4, e4⟩ := cat c3 ⟨#[41]⟩ (by omega)
      have hfin : str L = .string c4 := by
        refine congrArg Value.string (ByteArray.ext (Array.ext' ?_))
        rw [d4, d3, d2, d1, hL]
        simp
      simp only [Option.getD_some, Option.isSome_some] at hco hrd
      rw [hfin] at hco hrd
      clear hfin d1 d2 d3 d4 z1 z2 z3 z4 hL hb f1 f2 hLl zl zm q1 q2 q3
      go_wp2_with (first
        | (go_at_call 5; refine (hi _).mono ?_; rintro e w2 ⟨rfl, hb2⟩)
        | (go_at_call 6; refine (hs _).mono ?_; rintro e w3 ⟨rfl, hb3⟩)
        | (go_at_call 7; refine (hco _).mono ?_; rintro e w4 ⟨rfl, hb4⟩)
        | (go_at_call 8; refine (hrd _).mono ?_; rintro e w5 ⟨rfl, hb5⟩))
      go_ret
      exact ⟨by simp, (((HA.out.trans hb2).trans hb3).trans hb4).trans hb5⟩
end Go.Proofs.YtfpekihdoclncaaGreat
