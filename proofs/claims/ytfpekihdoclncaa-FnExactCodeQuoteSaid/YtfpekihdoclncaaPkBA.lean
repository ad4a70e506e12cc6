/-
  The program's exported functions CodeRun, CodeJoin, CodeQuote, CodeWords.
-/
import Derived.Test.YtfpekihdoclncaaPkAZ
import Derived.Test.YtfpekihdoclncaaPkAI
import Derived.Test.YtfpekihdoclncaaPkAX
namespace Go.Proofs.Ytfpekihdoclncaa
open Go.RowKit

set_option maxHeartbeats 1000000
set_option maxRecDepth 100000

theorem run_good : Tm.runC.good = true ∧ Tm.runC.size ≤ 1000 := ⟨by decide +kernel, by decide +kernel⟩
theorem join_good : Tm.joinC.good = true ∧ Tm.joinC.size ≤ 1000 := ⟨by decide +kernel, by decide +kernel⟩

theorem impl_codeRun (w : World) (l : List UInt8) (hl : l.length ≤ 1000000000) :
    Calls Try.prog 15 #[str l] w (TextRes' w (Tm.pCodeRun l)) := by
  have hc := codeOfText_any w w.heap.size l (Nat.le_refl _) hl
  unfold DataPost at hc
  unfold Tm.pCodeRun
  cases hp : Tm.codeT l with
  | none =>
    rw [hp] at hc
    clear hp
    go_enter Try.func15, Try.ntmps15
    go_wp2_with fail
    refine hc.mono ?_
    rintro e w1 ⟨v1, rfl, hb1, hv1⟩
    clear hv1 hc
    go_wp2_with fail
    go_ret2
    exact ⟨rfl, hb1⟩
  | some c =>
    obtain ⟨hf, hg⟩ : c.fits = true ∧ c.good = true := by obtain ⟨_, _, _, hf, hg⟩ := Tm.codeT_facts hp; exact ⟨hf, hg⟩
    have hcs := fits_size hf
    obtain ⟨rg, rz⟩ := run_good
    have hga : (Tm.app Tm.runC c).good = true := by simp [Tm.good, rg, hg]
    rw [hp] at hc
    clear hp
    show Calls _ _ _ _ (TextRes' w ((Tm.endOf (.app Tm.runC c)).map Tm.text))
    have hrun := fun W hB => run_any W w.heap.size hB
    have hcall := fun W v1 v2 h1 h2 hB => applyNormal_any W w.heap.size Tm.runC c v1 v2 h1 h2 hB (by omega)
    unfold DataPost at hcall
    unfold TermPost at hrun
    cases hE : Tm.endOf (.app Tm.runC c) with
    | none =>
      simp only [hE] at hcall
      clear hE
      go_enter Try.func15, Try.ntmps15
      go_wp2_with fail
      refine hc.mono ?_
      rintro e w1 ⟨v1, rfl, hb1, hv1⟩
      have HV1 := Lib.hid (hv1 c rfl)
      clear hv1 hc
      go_wp2_with fail
      refine (hrun _ hb1.size).mono ?_
      rintro e w2 ⟨v2, rfl, hb2, ht2⟩
      have hb12 := below_trans hb1 hb2
      have hn := hcall w2 v2 v1 ht2 (HV1.out.below hb2) hb12.size
      clear ht2 hrun hcall
      go_wp2_with fail
      refine hn.mono ?_
      rintro e w3 ⟨v3, rfl, hb3, hv3⟩
      clear hv3 hn
      go_wp2_with fail
      go_ret2
      exact ⟨rfl, below_trans hb12 hb3⟩
    | some x =>
      obtain ⟨hgx, htx⟩ := end_small hE hga
      simp only [hE] at hcall
      clear hE
      go_enter Try.func15, Try.ntmps15
      go_wp2_with fail
      refine hc.mono ?_
      rintro e w1 ⟨v1, rfl, hb1, hv1⟩
      have HV1 := Lib.hid (hv1 c rfl)
      clear hv1 hc
      go_wp2_with fail
      refine (hrun _ hb1.size).mono ?_
      rintro e w2 ⟨v2, rfl, hb2, ht2⟩
      have hb12 := below_trans hb1 hb2
      have hn := hcall w2 v2 v1 ht2 (HV1.out.below hb2) hb12.size
      clear ht2 hrun hcall
      go_wp2_with fail
      refine hn.mono ?_
      rintro e w3 ⟨v3, rfl, hb3, hv3⟩
      have htext := textOf_any w3 _ x v3 (hv3 x rfl) hgx htx
      clear hv3 hn
      go_wp2_with (go_at_call 32; refine htext.mono ?_; rintro e w7 ⟨rfl, hb7⟩)
      go_ret2
      exact ⟨rfl, below_trans (below_trans hb12 hb3) hb7⟩

theorem impl_codeQuote (w : World) (l : List UInt8) (hl : l.length ≤ 1000000000) :
    Calls Try.prog 19 #[str l] w (TextRes' w (Tm.pCodeQuote l)) := by
  have hc := codeOfText_any w w.heap.size l (Nat.le_refl _) hl
  unfold DataPost at hc
  unfold Tm.pCodeQuote
  cases hp : Tm.codeT l with
  | none =>
    rw [hp] at hc
    clear hp
    go_enter Try.func19, Try.ntmps19
    go_wp2_with fail
    refine hc.mono ?_
    rintro e w1 ⟨v1, rfl, hb1, hv1⟩
    clear hv1 hc
    go_wp2_with fail
    go_ret2
    exact ⟨rfl, hb1⟩
  | some c =>
    obtain ⟨hf, hg⟩ : c.fits = true ∧ c.good = true := by obtain ⟨_, _, _, hf, hg⟩ := Tm.codeT_facts hp; exact ⟨hf, hg⟩
    have hcs := fits_size hf
    have hcc := Tm.code_size_le c
    obtain ⟨rg, rz⟩ := run_good
    have hga : (Tm.app Tm.runC c.code).good = true := by simp [Tm.good, rg, Tm.code_good c hg]
    rw [hp] at hc
    clear hp
    show Calls _ _ _ _ (TextRes' w ((Tm.endOf (.app Tm.runC c.code)).map Tm.text))
    have hrun := fun W hB => run_any W w.heap.size hB
    have hcall := fun W v1 v2 h1 h2 hB => applyNormal_any W w.heap.size Tm.runC c.code v1 v2 h1 h2 hB (by omega)
    have hcd := fun W v h hB => codeOf_any (t := c) (w := W) (B := w.heap.size) (v := v) h hB (by omega)
    unfold DataPost at hcall
    unfold TermPost at hrun hcd
    cases hE : Tm.endOf (.app Tm.runC c.code) with
    | none =>
      simp only [hE] at hcall
      clear hE
      go_enter Try.func19, Try.ntmps19
      go_wp2_with fail
      refine hc.mono ?_
      rintro e w1 ⟨v1, rfl, hb1, hv1⟩
      have HV1 := Lib.hid (hv1 c rfl)
      clear hv1 hc
      go_wp2_with fail
      refine (hrun _ hb1.size).mono ?_
      rintro e w2 ⟨v2, rfl, hb2, ht2⟩
      have hb12 := below_trans hb1 hb2
      have hk := hcd w2 v1 (HV1.out.below hb2) hb12.size
      have HT2 := Lib.hid ht2
      clear ht2 hrun hcd
      go_wp2_with fail
      refine hk.mono ?_
      rintro e w3 ⟨v3, rfl, hb3, ht3⟩
      have hb13 := below_trans hb12 hb3
      have hn := hcall w3 v2 v3 (HT2.out.below hb3) ht3 hb13.size
      clear ht3 hcall hk
      go_wp2_with fail
      refine hn.mono ?_
      rintro e w4 ⟨v4, rfl, hb4, hv4⟩
      clear hv4 hn
      go_wp2_with fail
      go_ret2
      exact ⟨rfl, below_trans hb13 hb4⟩
    | some x =>
      obtain ⟨hgx, htx⟩ := end_small hE hga
      simp only [hE] at hcall
      clear hE
      go_enter Try.func19, Try.ntmps19
      go_wp2_with fail
      refine hc.mono ?_
      rintro e w1 ⟨v1, rfl, hb1, hv1⟩
      have HV1 := Lib.hid (hv1 c rfl)
      clear hv1 hc
      go_wp2_with fail
      refine (hrun _ hb1.size).mono ?_
      rintro e w2 ⟨v2, rfl, hb2, ht2⟩
      have hb12 := below_trans hb1 hb2
      have hk := hcd w2 v1 (HV1.out.below hb2) hb12.size
      have HT2 := Lib.hid ht2
      clear ht2 hrun hcd
      go_wp2_with fail
      refine hk.mono ?_
      rintro e w3 ⟨v3, rfl, hb3, ht3⟩
      have hb13 := below_trans hb12 hb3
      have hn := hcall w3 v2 v3 (HT2.out.below hb3) ht3 hb13.size
      clear ht3 hcall hk
      go_wp2_with fail
      refine hn.mono ?_
      rintro e w4 ⟨v4, rfl, hb4, hv4⟩
      have htext := textOf_any w4 _ x v4 (hv4 x rfl) hgx htx
      clear hv4 hn
      go_wp2_with (go_at_call 32; refine htext.mono ?_; rintro e w7 ⟨rfl, hb7⟩)
      go_ret2
      exact ⟨rfl, below_trans (below_trans hb13 hb4) hb7⟩

theorem impl_codeJoin (w : World) (l m : List UInt8) (hl : l.length ≤ 1000000000) (hm : m.length ≤ 1000000000) :
    Calls Try.prog 17 #[str l, str m] w (TextRes' w (Tm.pCodeJoin l m)) := by
  have hc := codeOfText_any w w.heap.size l (Nat.le_refl _) hl
  have hd := fun W hB => codeOfText_any W w.heap.size m hB hm
  unfold DataPost at hc hd
  unfold Tm.pCodeJoin
  cases hp : Tm.codeT l with
  | none =>
    rw [hp] at hc
    clear hp hd
    go_enter Try.func17, Try.ntmps17
    go_wp2_with fail
    refine hc.mono ?_
    rintro e w1 ⟨v1, rfl, hb1, hv1⟩
    clear hv1 hc
    go_wp2_with fail
    go_ret2
    exact ⟨rfl, hb1⟩
  | some c =>
    obtain ⟨hf, hg⟩ : c.fits = true ∧ c.good = true := by obtain ⟨_, _, _, hf, hg⟩ := Tm.codeT_facts hp; exact ⟨hf, hg⟩
    have hcs := fits_size hf
    rw [hp] at hc
    clear hp
    show Calls _ _ _ _ (TextRes' w ((Tm.codeT m).bind fun d => (Tm.endOf (.app (.app Tm.joinC c) d)).map Tm.text))
    cases hq : Tm.codeT m with
    | none =>
      simp only [hq] at hd
      clear hq
      go_enter Try.func17, Try.ntmps17
      go_wp2_with fail
      refine hc.mono ?_
      rintro e w1 ⟨v1, rfl, hb1, hv1⟩
      clear hv1 hc
      go_wp2_with fail
      refine (hd _ hb1.size).mono ?_
      rintro e w2 ⟨v2, rfl, hb2, hv2⟩
      clear hv2 hd
      go_wp2_with fail
      go_ret2
      exact ⟨rfl, below_trans hb1 hb2⟩
    | some d =>
      obtain ⟨hfd, hgd⟩ : d.fits = true ∧ d.good = true := by obtain ⟨_, _, _, hf, hg⟩ := Tm.codeT_facts hq; exact ⟨hf, hg⟩
      have hds := fits_size hfd
      simp only [hq] at hd
      clear hq
      obtain ⟨rg, rz⟩ := join_good
      have hga : (Tm.app (.app Tm.joinC c) d).good = true := by simp [Tm.good, rg, hg, hgd]
      show Calls _ _ _ _ (TextRes' w ((Tm.endOf (.app (.app Tm.joinC c) d)).map Tm.text))
      have hjoin := fun W hB => join_any W w.heap.size hB
      have hcall := fun W v1 v2 h1 h2 hB => applyNormal_any W w.heap.size (.app Tm.joinC c) d v1 v2 h1 h2 hB (by simp only [Tm.size]; omega)
      unfold DataPost at hcall
      unfold TermPost at hjoin
      cases hE : Tm.endOf (.app (.app Tm.joinC c) d) with
      | none =>
        simp only [hE] at hcall
        clear hE
        go_enter Try.func17, Try.ntmps17
        go_wp2_with fail
        refine hc.mono ?_
        rintro e w1 ⟨v1, rfl, hb1, hv1⟩
        have HV1 := Lib.hid (hv1 c rfl)
        clear hv1 hc
        go_wp2_with fail
        refine (hd _ hb1.size).mono ?_
        rintro e w2 ⟨v2, rfl, hb2, hv2⟩
        have HV2 := Lib.hid (hv2 d rfl)
        have hb12 := below_trans hb1 hb2
        clear hv2 hd
        go_wp2_with fail
        refine (hjoin _ hb12.size).mono ?_
        rintro e w3 ⟨v3, rfl, hb3, ht3⟩
        have hb13 := below_trans hb12 hb3
        have happ := apply_any w3 _ _ _ v3 v1 ht3 (HV1.out.below (below_trans hb2 hb3)) hb13.size (by omega)
        clear ht3 hjoin
        go_wp2_with fail
        refine happ.mono ?_
        rintro e w4 ⟨v4, rfl, hb4, ht4⟩
        have hb14 := below_trans hb13 hb4
        have hn := hcall w4 v4 v2 ht4 (HV2.out.below (below_trans hb3 hb4)) hb14.size
        clear ht4 happ hcall
        go_wp2_with fail
        refine hn.mono ?_
        rintro e w5 ⟨v5, rfl, hb5, hv5⟩
        clear hv5 hn
        go_wp2_with fail
        go_ret2
        exact ⟨rfl, below_trans hb14 hb5⟩
      | some x =>
        obtain ⟨hgx, htx⟩ := end_small hE hga
        simp only [hE] at hcall
        clear hE
        go_enter Try.func17, Try.ntmps17
        go_wp2_with fail
        refine hc.mono ?_
        rintro e w1 ⟨v1, rfl, hb1, hv1⟩
        have HV1 := Lib.hid (hv1 c rfl)
        clear hv1 hc
        go_wp2_with fail
        refine (hd _ hb1.size).mono ?_
        rintro e w2 ⟨v2, rfl, hb2, hv2⟩
        have HV2 := Lib.hid (hv2 d rfl)
        have hb12 := below_trans hb1 hb2
        clear hv2 hd
        go_wp2_with fail
        refine (hjoin _ hb12.size).mono ?_
        rintro e w3 ⟨v3, rfl, hb3, ht3⟩
        have hb13 := below_trans hb12 hb3
        have happ := apply_any w3 _ _ _ v3 v1 ht3 (HV1.out.below (below_trans hb2 hb3)) hb13.size (by omega)
        clear ht3 hjoin
        go_wp2_with fail
        refine happ.mono ?_
        rintro e w4 ⟨v4, rfl, hb4, ht4⟩
        have hb14 := below_trans hb13 hb4
        have hn := hcall w4 v4 v2 ht4 (HV2.out.below (below_trans hb3 hb4)) hb14.size
        clear ht4 happ hcall
        go_wp2_with fail
        refine hn.mono ?_
        rintro e w5 ⟨v5, rfl, hb5, hv5⟩
        have htext := textOf_any w5 _ x v5 (hv5 x rfl) hgx htx
        clear hv5 hn
        go_wp2_with (go_at_call 32; refine htext.mono ?_; rintro e w7 ⟨rfl, hb7⟩)
        go_ret2
        exact ⟨rfl, below_trans (below_trans hb14 hb5) hb7⟩

end Go.Proofs.Ytfpekihdoclncaa

namespace Go.Proofs.Ytfpekihdoclncaa
open Go.RowKit

set_option maxHeartbeats 1000000
set_option maxRecDepth 100000

theorem codeT_small {l : List UInt8} {t : Tm} (h : Tm.closedOf l = some t) : Tm.codeT l = if smallB t = true then some (smallT t) else none := by
  obtain ⟨_, hn⟩ := Tm.closed_facts h
  unfold Tm.codeT
  rw [h]
  have hb := small_eq hn
  show (if (Tm.code t).fits = true then some (Tm.code t) else none) = _
  rw [← hb]
  split
  · rename_i h1; rw [small_some h1]
  · rfl
theorem codeT_none {l : List UInt8} (h : Tm.closedOf l = none) : Tm.codeT l = none := by
  unfold Tm.codeT
  rw [h]
theorem small_facts {l : List UInt8} {t : Tm} (h : Tm.closedOf l = some t) : t.good = true ∧ t.size ≤ 3000 ∧ t.names [] = [] ∧ (smallT t).good = true ∧ (smallT t).size ≤ 39000 ∧ (smallB t = true → (smallT t).text.length ≤ 100000000) := by
  obtain ⟨hp, hn⟩ := Tm.closed_facts h
  obtain ⟨hg, hf, hs, _, htx⟩ := Tm.parse_facts hp
  have hcz := Tm.code_size_le t
  refine ⟨hg, hs, hn, ?_, ?_, ?_⟩
  · unfold smallT; split
    · exact Tm.code_good t hg
    · exact hg
  · unfold smallT; split <;> omega
  · intro hb
    have e := small_eq hn
    rw [hb] at e
    rw [small_some hb]
    have := text_small (Tm.code_good t hg) e.symm
    omega

theorem spec_codeOf (w : World) (l : List UInt8) (hl : l.length ≤ 1000000000) :
    Calls Try.prog 12 #[str l] w (SOne' w (Tm.pCodeOf l)) := by
  have hc := s_closed4 w l hl
  unfold SClosedPost at hc
  unfold Tm.pCodeOf
  cases hp : Tm.closedOf l with
  | none =>
    rw [hp] at hc
    rw [codeT_none hp]
    clear hp
    go_enter Try.func12, Try.ntmps12
    go_wp2_with fail
    refine hc.mono ?_
    rintro e w1 ⟨s1, ao1, n1, c1, rfl, hb1, ht1⟩
    clear ht1 hc
    go_wp2_with fail
    go_ret2
    exact ⟨rfl, hb1.alloc _⟩
  | some t =>
    obtain ⟨hg, hs, hn, hgx, hzx, htx⟩ := small_facts hp
    rw [codeT_small hp]
    rw [hp] at hc
    clear hp
    obtain ⟨x, hx⟩ : ∃ x, x = smallT t := ⟨_, rfl⟩
    obtain ⟨b, hb⟩ : ∃ b, b = smallB t := ⟨_, rfl⟩
    have hsm := fun W s ao m c h => s_small4 W t s ao m c h hg (by omega) hn
    unfold SNormPost at hsm
    rw [← hx, ← hb] at hsm ⊢
    rw [← hx] at hgx
    rw [← hx, ← hb] at htx
    have HTX := Lib.hid htx
    clear hx hb htx
    cases b
    all_goals
      simp only [if_true, Bool.false_eq_true, if_false]
      go_enter Try.func12, Try.ntmps12
      go_wp2_with fail
      refine hc.mono ?_
      rintro e w1 ⟨s1, ao1, n1, c1, rfl, hb1, ht1⟩
      have hal1 := After.new w1 (.cells #[str s1, .slice ao1 n1 c1] 32)
      have hbox1 := heap_new' w1 (.cells #[str s1, .slice ao1 n1 c1] 32)
      obtain ⟨k0, k1, _, _, _⟩ := pair_facts hbox1 (After.refl _)
      have hcall := hsm _ _ _ _ _ ((ht1 t rfl).later hal1)
      clear ht1 hc hbox1 hsm
      go_wp2_with fail
      refine hcall.mono ?_
      rintro e w2 ⟨s2, ao2, n2, c2, rfl, hb2, ht2⟩
      have hw2 := After.alloc ((hb1.trans hal1).trans hb2) (.cells #[str s2, .slice ao2 n2 c2] 32)
      first
        | (have htext := (ht2.later (After.new w2 (.cells #[str s2, .slice ao2 n2 c2] 32))).text hgx (HTX.out (by trivial))
           clear ht2 hcall HTX k0 k1
           go_wp2_with (go_at_call 29; refine htext.mono ?_; rintro e w5 ⟨rfl, hb5⟩)
           go_ret2
           exact ⟨rfl, hw2.trans hb5⟩)
        | (clear ht2 hcall HTX k0 k1
           go_wp2_with fail
           go_ret2
           exact ⟨rfl, hw2⟩)

end Go.Proofs.Ytfpekihdoclncaa

namespace Go.Proofs.Ytfpekihdoclncaa
open Go.RowKit

set_option maxHeartbeats 2000000
set_option maxRecDepth 100000

theorem s_end4' (w : World) (x : Tm) (ok : Bool) (v : Value) (hv : Yd.raw.holds v w) (h : ok = true → ST w x v ∧ x.good = true ∧ x.size ≤ 1000000) :
    Calls Try.prog 36 #[v, .bool ok] w fun e w' => e = .returned (.tuple #[str ((endR x ok).getD []), .bool (endR x ok).isSome]) ∧ After w w' := by
  obtain ⟨s, ao, n, c, rfl⟩ := hv
  exact s_end4 w x ok s ao n c h

theorem end_of {c : Option Tm} {t : Tm} {f : Tm → Tm} {b : Bool} (h : c = if b = true then some t else none) : (c.bind fun d => (Tm.endOf (f d)).map Tm.text) = endR (f t) b := by
  subst h
  unfold endR
  cases b <;> rfl

theorem fits_app {f a : Tm} (h : a.fits = false) : (Tm.app f a).fits = false := by
  cases hh : (Tm.app f a).fits with
  | false => rfl
  | true =>
    have hh := fits_size hh
    simp only [Tm.size, Tm.depth] at hh
    have : a.fits = true := by
      simp only [Tm.fits, Bool.and_eq_true, decide_eq_true_eq]
      exact ⟨by omega, by omega⟩
    rw [this] at h
    cases h
theorem small_good {t : Tm} (h : t.good = true) : (smallT t).good = true := by
  unfold smallT
  split
  · exact Tm.code_good t h
  · exact h
theorem code_has : ∀ (t : Tm) (n : List UInt8), Tm.has n t.code = Tm.has n t
  | .k, n => closed_of (by kernel_rfl) n
  | .s, n => closed_of (by kernel_rfl) n
  | .nm _, _ => rfl
  | .app f a, n => by simp [Tm.code, Tm.appC, Tm.has, Tm.pair, Tm.I, code_has f n, code_has a n]
theorem code_names_nil (t : Tm) (hn : t.names [] = []) : t.code.names [] = [] := by
  cases h : t.code.names [] with
  | nil => rfl
  | cons n ns =>
    have h1 := (Tm.mem_names n t.code []).1 (by rw [h]; simp)
    rcases h1 with h1 | h1
    · cases h1
    · rw [code_has, closed_of hn] at h1
      cases h1

theorem spec_codeRun (w : World) (l : List UInt8) (hl : l.length ≤ 1000000000) :
    Calls Try.prog 14 #[str l] w (SOne' w (Tm.pCodeRun l)) := by
  have hc := s_closed4 w l hl
  unfold SClosedPost at hc
  cases hp : Tm.closedOf l with
  | none =>
    rw [show Tm.pCodeRun l = none by unfold Tm.pCodeRun; rw [codeT_none hp]; rfl]
    rw [hp] at hc
    clear hp
    go_enter Try.func14, Try.ntmps14
    go_wp2_with fail
    refine hc.mono ?_
    rintro e w1 ⟨s1, ao1, n1, c1, rfl, hb1, ht1⟩
    clear ht1 hc
    go_wp2_with fail
    go_ret2
    exact ⟨rfl, hb1.alloc _⟩
  | some t =>
    obtain ⟨hg, hs, hn, hgx, hzx, htx⟩ := small_facts hp
    have hcT := codeT_small hp
    rw [hp] at hc
    obtain ⟨x, hx⟩ : ∃ x, x = smallT t := ⟨_, rfl⟩
    obtain ⟨b, hb⟩ : ∃ b, b = smallB t := ⟨_, rfl⟩
    have hsm := fun W s ao m c h => s_small4 W t s ao m c h hg (by omega) hn
    unfold SNormPost at hsm
    rw [← hx, ← hb] at hcT
    rw [← hx, ← hb] at hsm
    rw [← hx] at hgx hzx
    rw [show Tm.pCodeRun l = endR (.app Tm.runC x) b from end_of (f := fun c => .app Tm.runC c) hcT]
    have HG := Lib.hid (show (Tm.app Tm.runC x).good = true ∧ (Tm.app Tm.runC x).size ≤ 1000000 from ⟨by simp [Tm.good, run_good.1, hgx], by have := run_good.2; simp only [Tm.size]; omega⟩)
    clear hx hb hcT hp htx
    go_enter Try.func14, Try.ntmps14
    go_wp2_with fail
    refine hc.mono ?_
    rintro e w1 ⟨s1, ao1, n1, c1, rfl, hb1, ht1⟩
    have hal1 := After.new w1 (.cells #[str s1, .slice ao1 n1 c1] 32)
    have hbox1 := heap_new' w1 (.cells #[str s1, .slice ao1 n1 c1] 32)
    obtain ⟨k0, k1, k2, k3, k4⟩ := pair_facts hbox1 (After.refl _)
    have hcall := hsm _ _ _ _ _ ((ht1 t rfl).later hal1)
    clear ht1 hc hbox1 hsm k2 k3 k4
    go_wp2_with fail
    refine hcall.mono ?_
    rintro e w2 ⟨s2, ao2, n2, c2, rfl, hb2, ht2⟩
    have hal2 := After.new w2 (.cells #[str s2, .slice ao2 n2 c2] 32)
    have g2 := heap_new' w2 (.cells #[str s2, .slice ao2 n2 c2] 32)
    have st2 := ht2.later hal2
    have aY := ((hb1.trans hal1).trans hb2).trans hal2
    clear k0 k1 hcall ht2
    go_wp2_with fail
    generalize w2.alloc (.cells #[str s2, .slice ao2 n2 c2] 32) = Y at *
    generalize w2.heap.size = gg2 at *
    generalize w1.heap.size = g1 at *
    have G2 := Lib.hid g2
    have S2 := Lib.hid st2
    have AY := Lib.hid aY
    have hself := (After.refl Y).drew
    clear g2 st2 aY hal1 hal2 hb1 hb2
    rename_i KK hKK
    refine wp_region_reg (by kernel_rfl) (by kernel_rfl) After After.refl (fun _ _ _ h g => h.trans g)
      (yds [.tree (Tm.runC), .tree (x), .row [x], .tree (.app (Tm.runC) (x)), .lit (.bool b), .lit (.tuple #[str ((endR (.app (Tm.runC) (x)) b).getD []), .bool (endR (.app (Tm.runC) (x)) b).isSome]), .lit (str ((endR (.app (Tm.runC) (x)) b).getD [])), .lit (.bool (endR (.app (Tm.runC) (x)) b).isSome), .lit (str ((endR (.app (Tm.runC) (x)) b).getD [])), .lit (.bool (endR (.app (Tm.runC) (x)) b).isSome)]) yds_later (lt10 ?_ ?_ ?_ ?_ ?_ ?_ ?_ ?_ ?_ ?_) ?_
    · intro vs W hE hd K hK
      have hE' : After Y W := hself.trans hE
      exact do_call (Tm.runC) (f := 37) (args := #[]) (by kernel_rfl) (by kernel_rfl) (by kernel_rfl) (s_run4 W) hK
    · intro vs W hE hd K hK
      have hE' : After Y W := hself.trans hE
      have G := hE'.heap G2.out
      exact do_load (.tree (x)) (x := .tmp 6) (by kernel_rfl) (by kernel_rfl) (by kernel_rfl) (by kernel_rfl) (cell_of_heap (i := 0) G) (cell_of_heap (i := 1) G) ⟨_, _, _, _, rfl, S2.out.later hE'⟩ hK
    · intro vs W hE hd K hK
      have hE' : After Y W := hself.trans hE
      exact do_row1 (x := .tmp 21) (u := vs 1) (by kernel_rfl) (by kernel_rfl) (by kernel_rfl) (by kernel_rfl) (hd 1 (by kernel_rfl)) hK
    · intro vs W hE hd K hK
      have hE' : After Y W := hself.trans hE
      exact do_app (u1 := vs 0) (u2 := vs 2) (us := [x]) (by kernel_rfl) (by kernel_rfl) (by kernel_rfl) (hd 0 (by kernel_rfl)) (hd 2 (by kernel_rfl)) (by simp) hK
    · intro vs W hE hd K hK
      have hE' : After Y W := hself.trans hE
      exact do_pure (v := .bool b) (.lit (.bool b)) (by kernel_rfl) (by kernel_rfl) (by kernel_rfl) rfl hK
    · intro vs W hE hd K hK
      have hE' : After Y W := hself.trans hE
      exact do_calllit (v := .tuple #[str ((endR (.app (Tm.runC) (x)) b).getD []), .bool (endR (.app (Tm.runC) (x)) b).isSome]) (f := 36) (args := #[vs 3, vs 4]) (by kernel_rfl) (by kernel_rfl) (by kernel_rfl) (by rw [show vs 4 = .bool b from hd 4 (by kernel_rfl)]; exact s_end4' W (.app (Tm.runC) (x)) b (vs 3) (rawOf (hd 3 (by kernel_rfl))) (fun _ => ⟨stOf (hd 3 (by kernel_rfl)), HG.out.1, HG.out.2⟩)) hK
    · intro vs W hE hd K hK
      have hE' : After Y W := hself.trans hE
      exact do_extract0 (x := .tmp 25) (u := vs 5) (a := str ((endR (.app (Tm.runC) (x)) b).getD [])) (b := .bool (endR (.app (Tm.runC) (x)) b).isSome) (by kernel_rfl) (by kernel_rfl) (by kernel_rfl) (by kernel_rfl) (hd 5 (by kernel_rfl)) hK
    · intro vs W hE hd K hK
      have hE' : After Y W := hself.trans hE
      exact do_extract1 (x := .tmp 25) (u := vs 5) (a := str ((endR (.app (Tm.runC) (x)) b).getD [])) (b := .bool (endR (.app (Tm.runC) (x)) b).isSome) (by kernel_rfl) (by kernel_rfl) (by kernel_rfl) (by kernel_rfl) (hd 5 (by kernel_rfl)) hK
    · intro vs W hE hd K hK
      have hE' : After Y W := hself.trans hE
      exact do_pure (v := vs 6) (.lit (str ((endR (.app (Tm.runC) (x)) b).getD []))) (by kernel_rfl) (by kernel_rfl) (by kernel_rfl) (hd 6 (by kernel_rfl)) hK
    · intro vs W hE hd K hK
      have hE' : After Y W := hself.trans hE
      exact do_pure (v := vs 7) (.lit (.bool (endR (.app (Tm.runC) (x)) b).isSome)) (by kernel_rfl) (by kernel_rfl) (by kernel_rfl) (hd 7 (by kernel_rfl)) hK
    intro vs W hE hd
    have hE' : After Y W := hself.trans hE
    have er0 : vs 8 = str ((endR (.app (Tm.runC) (x)) b).getD []) := hd 8 (by decide)
    have er1 : vs 9 = .bool (endR (.app (Tm.runC) (x)) b).isSome := hd 9 (by decide)
    refine hKK _ _ ?_
    generalize hAA : frame _ _ vs = AA
    obtain rfl : AA = ⟨#[str l, undef, vs 8, vs 9, .pointer (some ⟨g1, 0, none⟩), .bool true, .pointer (some ⟨gg2, 0, none⟩), .bool b, .tuple #[.agg #[str s1, .slice ao1 n1 c1], .bool true], str l, .tuple #[.agg #[str s1, .slice ao1 n1 c1], .bool true], .agg #[str s1, .slice ao1 n1 c1], .bool true, .bool true, .bool false, .tuple #[.agg #[str s2, .slice ao2 n2 c2], .bool b], .agg #[str s1, .slice ao1 n1 c1], .tuple #[.agg #[str s2, .slice ao2 n2 c2], .bool b], .agg #[str s2, .slice ao2 n2 c2], .bool b, vs 0, vs 1, vs 2, vs 3, vs 4, vs 5, vs 6, vs 7], []⟩ := by rw [← hAA]; kernel_rfl
    clear hAA hd
    generalize vs 8 = rv0 at *
    subst er0
    generalize vs 9 = rv1 at *
    subst er1
    go_wp2_with fail
    go_ret2
    exact ⟨rfl, AY.out.trans hE'⟩

theorem spec_codeQuote (w : World) (l : List UInt8) (hl : l.length ≤ 1000000000) :
    Calls Try.prog 18 #[str l] w (SOne' w (Tm.pCodeQuote l)) := by
  have hc := s_closed4 w l hl
  unfold SClosedPost at hc
  cases hp : Tm.closedOf l with
  | none =>
    rw [show Tm.pCodeQuote l = none by unfold Tm.pCodeQuote; rw [codeT_none hp]; rfl]
    rw [hp] at hc
    clear hp
    go_enter Try.func18, Try.ntmps18
    go_wp2_with fail
    refine hc.mono ?_
    rintro e w1 ⟨s1, ao1, n1, c1, rfl, hb1, ht1⟩
    clear ht1 hc
    go_wp2_with fail
    go_ret2
    exact ⟨rfl, hb1.alloc _⟩
  | some t =>
    obtain ⟨hg, hs, hn, hgx, hzx, htx⟩ := small_facts hp
    have hcT := codeT_small hp
    rw [hp] at hc
    obtain ⟨x, hx⟩ : ∃ x, x = smallT t := ⟨_, rfl⟩
    obtain ⟨b, hb⟩ : ∃ b, b = smallB t := ⟨_, rfl⟩
    have hsm := fun W s ao m c h => s_small4 W t s ao m c h hg (by omega) hn
    unfold SNormPost at hsm
    rw [← hx, ← hb] at hcT
    rw [← hx, ← hb] at hsm
    rw [← hx] at hgx hzx
    cases b with
    | false =>
      rw [show Tm.pCodeQuote l = none by unfold Tm.pCodeQuote; rw [hcT]; rfl]
      clear hx hb hcT hp htx
      go_enter Try.func18, Try.ntmps18
      go_wp2_with fail
      refine hc.mono ?_
      rintro e w1 ⟨s1, ao1, n1, c1, rfl, hb1, ht1⟩
      have hal1 := After.new w1 (.cells #[str s1, .slice ao1 n1 c1] 32)
      have hbox1 := heap_new' w1 (.cells #[str s1, .slice ao1 n1 c1] 32)
      obtain ⟨k0, k1, k2, k3, k4⟩ := pair_facts hbox1 (After.refl _)
      have hcall := hsm _ _ _ _ _ ((ht1 t rfl).later hal1)
      clear ht1 hc hbox1 hsm k2 k3 k4
      go_wp2_with fail
      refine hcall.mono ?_
      rintro e w2 ⟨s2, ao2, n2, c2, rfl, hb2, ht2⟩
      clear ht2 hcall
      go_wp2_with fail
      go_ret2
      exact ⟨rfl, ((hb1.trans hal1).trans hb2).alloc _⟩
    | true =>
      have hxe : x = t.code := by rw [hx]; exact small_some hb.symm
      have hxf : x.fits = true := by rw [hxe, ← small_eq hn]; exact hb.symm
      have hxn : x.names [] = [] := by rw [hxe]; exact code_names_nil t hn
      have hxz := fits_size hxf
      have hcT' : Tm.codeT l = some x := hcT
      have hqq : Tm.pCodeQuote l = (Tm.endOf (.app Tm.runC x.code)).map Tm.text := by unfold Tm.pCodeQuote; rw [hcT']; rfl
      obtain ⟨y, hy⟩ : ∃ y, y = smallT x := ⟨_, rfl⟩
      obtain ⟨b3, hb3e⟩ : ∃ b3, b3 = smallB x := ⟨_, rfl⟩
      have hgy : y.good = true := by rw [hy]; exact small_good hgx
      have hzy : y.size ≤ 39000 := by have := Tm.code_size_le x; rw [hy]; unfold smallT; split <;> omega
      have hfin : Tm.pCodeQuote l = endR (.app Tm.runC y) b3 := by
        rw [hqq]
        unfold endR
        rw [hb3e, hy]
        cases hbb : smallB x with
        | true => rw [small_some hbb]; rfl
        | false =>
          have hnf : x.code.fits = false := by rw [← small_eq hxn]; exact hbb
          have : (Tm.app Tm.runC x.code).fits = false := fits_app hnf
          simp [Tm.endOf, this]
      rw [hfin]
      have hsm2 := fun W s ao m c h => s_small4 W x s ao m c h hgx (by omega) hxn
      unfold SNormPost at hsm2
      rw [← hy, ← hb3e] at hsm2
      have HG := Lib.hid (show (Tm.app Tm.runC y).good = true ∧ (Tm.app Tm.runC y).size ≤ 1000000 from ⟨by simp [Tm.good, run_good.1, hgy], by have := run_good.2; simp only [Tm.size]; omega⟩)
      clear hx hb hcT hp htx hxe hxf hxn hcT' hqq hy hb3e hfin
      go_enter Try.func18, Try.ntmps18
      go_wp2_with fail
      refine hc.mono ?_
      rintro e w1 ⟨s1, ao1, n1, c1, rfl, hb1, ht1⟩
      have hal1 := After.new w1 (.cells #[str s1, .slice ao1 n1 c1] 32)
      have hbox1 := heap_new' w1 (.cells #[str s1, .slice ao1 n1 c1] 32)
      obtain ⟨k0, k1, k2, k3, k4⟩ := pair_facts hbox1 (After.refl _)
      have hcall := hsm _ _ _ _ _ ((ht1 t rfl).later hal1)
      clear ht1 hc hbox1 hsm k2 k3 k4
      go_wp2_with fail
      refine hcall.mono ?_
      rintro e w2 ⟨s2, ao2, n2, c2, rfl, hb2, ht2⟩
      have hal2 := After.new w2 (.cells #[str s2, .slice ao2 n2 c2] 32)
      have hbox2 := heap_new' w2 (.cells #[str s2, .slice ao2 n2 c2] 32)
      obtain ⟨j0, j1, j2, j3, j4⟩ := pair_facts hbox2 (After.refl _)
      have hcall2 := hsm2 _ _ _ _ _ (ht2.later hal2)
      clear k0 k1 hcall ht2 hbox2 hsm2 j2 j3 j4
      go_wp2_with fail
      refine hcall2.mono ?_
      rintro e w3 ⟨s3, ao3, n3, c3, rfl, hb3, ht3⟩
      have hal3 := After.new w3 (.cells #[str s3, .slice ao3 n3 c3] 32)
      have q3 := heap_new' w3 (.cells #[str s3, .slice ao3 n3 c3] 32)
      have st3 := ht3.later hal3
      have aY := ((((hb1.trans hal1).trans hb2).trans hal2).trans hb3).trans hal3
      clear j0 j1 hcall2 ht3
      go_wp2_with fail
      generalize w3.alloc (.cells #[str s3, .slice ao3 n3 c3] 32) = Y at *
      generalize w3.heap.size = g3 at *
      generalize w2.heap.size = g2 at *
      generalize w1.heap.size = g1 at *
      have G3 := Lib.hid q3
      have S3 := Lib.hid st3
      have AY := Lib.hid aY
      have hself := (After.refl Y).drew
      clear q3 st3 aY hal1 hal2 hal3 hb1 hb2 hb3
      rename_i KK hKK
      refine wp_region_reg (by kernel_rfl) (by kernel_rfl) After After.refl (fun _ _ _ h g => h.trans g)
        (yds [.tree (Tm.runC), .tree (y), .row [y], .tree (.app (Tm.runC) (y)), .lit (.bool b3), .lit (.tuple #[str ((endR (.app (Tm.runC) (y)) b3).getD []), .bool (endR (.app (Tm.runC) (y)) b3).isSome]), .lit (str ((endR (.app (Tm.runC) (y)) b3).getD [])), .lit (.bool (endR (.app (Tm.runC) (y)) b3).isSome), .lit (str ((endR (.app (Tm.runC) (y)) b3).getD [])), .lit (.bool (endR (.app (Tm.runC) (y)) b3).isSome)]) yds_later (lt10 ?_ ?_ ?_ ?_ ?_ ?_ ?_ ?_ ?_ ?_) ?_
      · intro vs W hE hd K hK
        have hE' : After Y W := hself.trans hE
        exact do_call (Tm.runC) (f := 37) (args := #[]) (by kernel_rfl) (by kernel_rfl) (by kernel_rfl) (s_run4 W) hK
      · intro vs W hE hd K hK
        have hE' : After Y W := hself.trans hE
        have G := hE'.heap G3.out
        exact do_load (.tree (y)) (x := .tmp 8) (by kernel_rfl) (by kernel_rfl) (by kernel_rfl) (by kernel_rfl) (cell_of_heap (i := 0) G) (cell_of_heap (i := 1) G) ⟨_, _, _, _, rfl, S3.out.later hE'⟩ hK
      · intro vs W hE hd K hK
        have hE' : After Y W := hself.trans hE
        exact do_row1 (x := .tmp 30) (u := vs 1) (by kernel_rfl) (by kernel_rfl) (by kernel_rfl) (by kernel_rfl) (hd 1 (by kernel_rfl)) hK
      · intro vs W hE hd K hK
        have hE' : After Y W := hself.trans hE
        exact do_app (u1 := vs 0) (u2 := vs 2) (us := [y]) (by kernel_rfl) (by kernel_rfl) (by kernel_rfl) (hd 0 (by kernel_rfl)) (hd 2 (by kernel_rfl)) (by simp) hK
      · intro vs W hE hd K hK
        have hE' : After Y W := hself.trans hE
        exact do_pure (v := .bool b3) (.lit (.bool b3)) (by kernel_rfl) (by kernel_rfl) (by kernel_rfl) rfl hK
      · intro vs W hE hd K hK
        have hE' : After Y W := hself.trans hE
        exact do_calllit (v := .tuple #[str ((endR (.app (Tm.runC) (y)) b3).getD []), .bool (endR (.app (Tm.runC) (y)) b3).isSome]) (f := 36) (args := #[vs 3, vs 4]) (by kernel_rfl) (by kernel_rfl) (by kernel_rfl) (by rw [show vs 4 = .bool b3 from hd 4 (by kernel_rfl)]; exact s_end4' W (.app (Tm.runC) (y)) b3 (vs 3) (rawOf (hd 3 (by kernel_rfl))) (fun _ => ⟨stOf (hd 3 (by kernel_rfl)), HG.out.1, HG.out.2⟩)) hK
      · intro vs W hE hd K hK
        have hE' : After Y W := hself.trans hE
        exact do_extract0 (x := .tmp 34) (u := vs 5) (a := str ((endR (.app (Tm.runC) (y)) b3).getD [])) (b := .bool (endR (.app (Tm.runC) (y)) b3).isSome) (by kernel_rfl) (by kernel_rfl) (by kernel_rfl) (by kernel_rfl) (hd 5 (by kernel_rfl)) hK
      · intro vs W hE hd K hK
        have hE' : After Y W := hself.trans hE
        exact do_extract1 (x := .tmp 34) (u := vs 5) (a := str ((endR (.app (Tm.runC) (y)) b3).getD [])) (b := .bool (endR (.app (Tm.runC) (y)) b3).isSome) (by kernel_rfl) (by kernel_rfl) (by kernel_rfl) (by kernel_rfl) (hd 5 (by kernel_rfl)) hK
      · intro vs W hE hd K hK
        have hE' : After Y W := hself.trans hE
        exact do_pure (v := vs 6) (.lit (str ((endR (.app (Tm.runC) (y)) b3).getD []))) (by kernel_rfl) (by kernel_rfl) (by kernel_rfl) (hd 6 (by kernel_rfl)) hK
      · intro vs W hE hd K hK
        have hE' : After Y W := hself.trans hE
        exact do_pure (v := vs 7) (.lit (.bool (endR (.app (Tm.runC) (y)) b3).isSome)) (by kernel_rfl) (by kernel_rfl) (by kernel_rfl) (hd 7 (by kernel_rfl)) hK
      intro vs W hE hd
      have hE' : After Y W := hself.trans hE
      have er0 : vs 8 = str ((endR (.app (Tm.runC) (y)) b3).getD []) := hd 8 (by decide)
      have er1 : vs 9 = .bool (endR (.app (Tm.runC) (y)) b3).isSome := hd 9 (by decide)
      refine hKK _ _ ?_
      generalize hAA : frame _ _ vs = AA
      obtain rfl : AA = ⟨#[str l, undef, vs 8, vs 9, .pointer (some ⟨g1, 0, none⟩), .bool true, .pointer (some ⟨g2, 0, none⟩), .bool true, .pointer (some ⟨g3, 0, none⟩), .bool b3, .tuple #[.agg #[str s1, .slice ao1 n1 c1], .bool true], str l, .tuple #[.agg #[str s1, .slice ao1 n1 c1], .bool true], .agg #[str s1, .slice ao1 n1 c1], .bool true, .bool true, .bool false, .tuple #[.agg #[str s2, .slice ao2 n2 c2], .bool true], .agg #[str s1, .slice ao1 n1 c1], .tuple #[.agg #[str s2, .slice ao2 n2 c2], .bool true], .agg #[str s2, .slice ao2 n2 c2], .bool true, .bool true, .bool false, .tuple #[.agg #[str s3, .slice ao3 n3 c3], .bool b3], .agg #[str s2, .slice ao2 n2 c2], .tuple #[.agg #[str s3, .slice ao3 n3 c3], .bool b3], .agg #[str s3, .slice ao3 n3 c3], .bool b3, vs 0, vs 1, vs 2, vs 3, vs 4, vs 5, vs 6, vs 7], []⟩ := by rw [← hAA]; kernel_rfl
      clear hAA hd
      generalize vs 8 = rv0 at *
      subst er0
      generalize vs 9 = rv1 at *
      subst er1
      go_wp2_with fail
      go_ret2
      exact ⟨rfl, AY.out.trans hE'⟩

end Go.Proofs.Ytfpekihdoclncaa
