/-
  The walk of a promise's law: function texts without m have parts without m: whatever the code, the law returns true.
-/
import Derived.Test.YtfjohagdlaiapaaGreatPkQ
import Derived.Test.YtfjohagdlaiapaaGreatPkH
namespace Go.Proofs.YtfjohagdlaiapaaGreat
open Go.RowKit

set_option maxHeartbeats 1000000
set_option maxRecDepth 100000

theorem draw_total (w : World) (v : Value) (n : Nat) (h : CodeArg w v n) : Calls Tryz.prog 6 #[v] w (DrawPost w) := by
  have hopen := open_any w v n h
  clear h
  go_enter Tryz.func6, Tryz.ntmps6
  go_wp2_with fail
  refine hopen.mono ?_
  rintro e w1 ⟨rb, rfl, hr, ha, hd⟩
  have hfs := functions_any w1 rb 0 hd (by omega)
  clear hopen hd
  go_wp2_with fail
  refine hfs.mono ?_
  rintro e w2 ⟨s, q, rfl, hs, hq, hg, hd⟩
  clear hfs hd
  go_wp2_with fail
  go_ret
  exact ⟨s, rfl, by omega, after_open ha hg hr⟩

theorem law_ptotal (w : World) (v : Value) (n : Nat) (h : CodeArg w v n) :
    Calls Tryz.prog 3 #[v] w fun e w' => e = .returned (.bool true) ∧ After w w' := by
  obtain ⟨a0, cap, rfl⟩ := h.form
  have hdraw := draw_total w _ n h
  clear h
  by_cases hbig : (1048576 : Int) < (n : Int)
  · go_enter Tryz.func3, Tryz.ntmps3
    go_wp2_with fail
    go_ret
    exact ⟨rfl, After.refl _⟩
  · go_enter Tryz.func3, Tryz.ntmps3
    go_wp2_with fail
    refine hdraw.mono ?_
    rintro e w1 hd
    obtain ⟨l, rfl, hl, ha⟩ := hd.text
    clear hd
    have HA := Lib.hid ha
    clear hdraw ha
    have hi := fun W => impl_total W l (by omega)
    have hs := fun W => spec_total W l (by omega)
    unfold BitPost at hi hs
    cases hb : pTotal l with
    | false =>
      simp only [hb] at hi hs
      clear hb
      go_wp2_with fail
      refine (hi _).mono ?_
      rintro e w2 ⟨rfl, hb2⟩
      go_wp2_with fail
      refine (hs _).mono ?_
      rintro e w3 ⟨rfl, hb3⟩
      go_wp2_with fail
      go_ret
      exact ⟨by simp, ((HA.out.trans hb2).trans hb3)⟩
    | true =>
      obtain ⟨t, hp, ht⟩ : ∃ t, FT.parse l = some t ∧ FT.total t = true := by
        unfold pTotal at hb
        cases hq : FT.parse l with
        | none => rw [hq] at hb; cases hb
        | some t => rw [hq] at hb; exact ⟨t, rfl, hb⟩
      simp only [hb] at hi hs
      obtain ⟨m, hm⟩ : ∃ m : Nat, m = FT.arity t := ⟨_, rfl⟩
      have ha1 := fun W => impl_arity W l (by omega)
      rw [show pArity l = (m : Int) by simp [pArity, hp, hm]] at ha1
      obtain ⟨c1, c2, hfin, e1, e2⟩ := inc_string l (by omega)
      have ht2 := fun W => impl_total W (FT.incOf l) (by rw [FT.inc_len]; omega)
      have ha2 := fun W => impl_arity W (FT.incOf l) (by rw [FT.inc_len]; omega)
      unfold BitPost at ht2
      unfold IntPost at ha1 ha2
      have hout : (pTotal (FT.incOf l) = false ∧ pArity (FT.incOf l) = -1) ∨ (pTotal (FT.incOf l) = true ∧ pArity (FT.incOf l) = (m : Int)) := by
        rcases FT.parse_inc hp with h | h
        · left; simp [pTotal, pArity, h]
        · right; simp [pTotal, pArity, h, hm, FT.arity, FT.total, ht]
      rw [hfin] at ht2 ha2
      have mi0 : (0 : Int) ≤ (m : Int) := by omega
      clear hfin hp hb hm ht
      rcases hout with ⟨h1, h2⟩ | ⟨h1, h2⟩
      all_goals
        rw [h1] at ht2
        rw [h2] at ha2
        clear h1 h2
        go_wp2_with fail
        refine (hi _).mono ?_
        rintro e w2 ⟨rfl, hb2⟩
        go_wp2_with fail
        refine (hs _).mono ?_
        rintro e w3 ⟨rfl, hb3⟩
        go_wp2_with fail
        refine (ha1 _).mono ?_
        rintro e w4 ⟨rfl, hb4⟩
        go_wp2_with fail
        refine (ht2 _).mono ?_
        rintro e w5 ⟨rfl, hb5⟩
        go_wp2_with fail
        refine (ha2 _).mono ?_
        rintro e w6 ⟨rfl, hb6⟩
        go_wp2_with fail
        go_ret
        exact ⟨by simp, (((((HA.out.trans hb2).trans hb3).trans hb4).trans hb5).trans hb6)⟩
end Go.Proofs.YtfjohagdlaiapaaGreat
