/-
  The model's Abstract.
-/
import Derived.Test.YtfjohagdlaiapaaPkB
import Derived.Test.YtfjohagdlaiapaaImplAbs
import Derived.Test.YtfjohagdlaiapaaPkU
import Derived.BigQuiet
import Derived.Deep.QuietTactic
namespace Go.Proofs.Ytfjohagdlaiapaa
open Go.RowKit

set_option maxHeartbeats 2000000
set_option maxRecDepth 100000

def SAbsRes (w : World) (r : Option (List UInt8)) (e : Ending) (w' : World) : Prop :=
  e = .returned (.tuple #[str (r.getD []), .bool r.isSome]) ∧ After w w'

theorem after_drews {a b : World} (h : After a b) (n : Nat) : After a (b.drewN n) := ⟨h.os, h.tape, h.output, h.size, h.block⟩

theorem spec_abs_some (w : World) (b off cap : Nat) (names : List (List UInt8)) (l : List UInt8) (hl : l.length ≤ 1000000000) (hn : names.length ≤ 8) (h1 : ∀ x ∈ names, x.length ≤ 1000000000) (hcap : names.length ≤ cap)
    (hc : ∀ j, j < names.length → w.cell? ⟨b, off + j, none⟩ = some (str (names[j]?.getD []))) :
    Calls Try.prog 10 #[.slice (some ⟨b, off, none⟩) names.length cap, str l] w (SAbsRes w (pAbs names l)) := by
  have hterm := s_term w l hl
  unfold STermPost at hterm
  obtain ⟨R, hR⟩ : ∃ R, R = pAbs names l := ⟨_, rfl⟩
  rw [← hR]
  have HR : Hid (R = if okL [] names = true then (match Tm.parse l with | some t => (absL names.reverse t).map Tm.text | none => none) else none) := by
    show _ = _
    rw [hR, pAbs]
    by_cases h : okL [] names = true
    · rw [if_pos ⟨hn, h⟩, if_pos h]; cases Tm.parse l <;> rfl
    · rw [if_neg (fun h' => h h'.2), if_neg h]
  clear hR
  cases hp : Tm.parse l with
  | none =>
    rw [hp] at hterm HR
    have HR2 : Hid (R = none) := by show _ = _; rw [HR.out]; split <;> rfl
    clear hp HR hc
    go_enter Try.func10, Try.ntmps10
    go_wp2_with (go_at_call 39; refine hterm.mono ?_; rintro e w1 ⟨s1, ao1, n1, c1, rfl, hb1, ht1⟩; clear ht1)
    go_ret2
    exact ⟨by rw [HR2.out]; rfl, After.alloc hb1 _⟩
  | some t =>
    obtain ⟨hg, hf, hs, _, _⟩ := Tm.parse_facts hp
    rw [hp] at hterm HR
    simp only at HR
    clear hp
    obtain ⟨N, hN⟩ : ∃ N, N = names.length := ⟨_, rfl⟩
    rw [← hN] at hn hcap ⊢
    have HN := Lib.hid hN
    have HC := Lib.hid hc
    have H1 := Lib.hid h1
    clear hN hc h1
    go_enter Try.func10, Try.ntmps10
    go_wp2_with fail
    refine hterm.mono ?_
    rintro e w1 ⟨s1, ao1, n1, c1, rfl, hb1, ht1⟩
    have hX := After.new w1 (.cells #[str s1, .slice ao1 n1 c1] 53)
    have HT := Lib.hid ((ht1 t rfl).later hX)
    have HB := Lib.hid (heap_new' w1 (.cells #[str s1, .slice ao1 n1 c1] 53))
    have HWX := Lib.hid (After.trans hb1 hX)
    have hstart : Hid (okL [] names = okL (names.take 0) (names.drop 0)) := by show _ = _; simp
    clear ht1 hterm hX
    go_wp2_with fail
    go_loopw [8] (fun i wr => ∃ k : Nat, i = .int .i64 k ∧ k ≤ N ∧ Hid (okL [] names = okL (names.take k) (names.drop k)) ∧ Hid (After (w1.alloc (.cells #[str s1, .slice ao1 n1 c1] 53)) wr)) (fun i _ => N - (intOf i).toNat)
    case atStart => exact ⟨0, rfl, Nat.zero_le _, hstart, After.refl _⟩
    case round =>
      clear hstart
      obtain ⟨k, rfl, hk, hr, hA⟩ := hrel
      by_cases hlt : k < N
      · have hlt' : k < names.length := by rw [← HN.out]; exact hlt
        have hAw := HWX.out.trans hA.out
        have hck := hAw.cell (HC.out k hlt')
        have hg : names[k]?.getD [] = names[k] := by simp [hlt']
        rw [hg] at hck
        have hd : okL (names.take k) (names.drop k) = (Tm.nameOk names[k] && (!decide (names[k] ∈ names.take k) && okL (names.take (k + 1)) (names.drop (k + 1)))) := by
          rw [List.drop_eq_getElem_cons hlt', okL, List.take_succ_eq_append_getElem hlt']
        rw [hd] at hr
        have hlen := H1.out names[k] (List.getElem_mem hlt')
        have hhas := fun m => s_has (wr.drewN m) (.slice (some ⟨b, off, none⟩) k cap) (names.take k) names[k] (Or.inr ⟨b, off, cap, by simp [Nat.le_of_lt hlt'], fun j hj => by
          have hj' : j < k := by simpa [Nat.le_of_lt hlt'] using hj
          have h2 := (after_drews hAw m).cell (HC.out j (by omega))
          rw [h2]
          simp [show j < names.length by omega]⟩) (by simp; omega)
        clear hd hg
        generalize names[k] = y at hck hr hhas hlen
        generalize decide (y ∈ names.take k) = q at hr hhas
        have hval := fun m => s_name (wr.drewN m) y hlen
        generalize Tm.nameOk y = o at hr hval
        have hki : (k : Int) < (N : Int) := by omega
        have hkc : k ≤ cap := by omega
        have hkci : (k : Int) ≤ (cap : Int) := by omega
        cases o
        · have HBD : Hid (okL [] names = false) := by show _ = _; rw [hr.out]; rfl
          have HR2 : Hid (R = none) := by show _ = _; rw [HR.out, HBD.out]; rfl
          clear hr hhas
          go_wp2_with fail
          go_quiet ((go_at_call 40; refine Calls.quiet_of_same ((hval _).mono fun e w' ⟨a, b⟩ => ⟨a, b.symm⟩)))
          go_wp2_with fail
          go_ret2
          exact ⟨by rw [HR2.out]; rfl, after_drews hAw _⟩
        · cases q
          · have HS : Hid (okL [] names = okL (names.take (k + 1)) (names.drop (k + 1))) := by show _ = _; rw [hr.out]; simp
            clear hr
            go_wp2_with fail
            go_quiet (first
              | (go_at_call 40; refine Calls.quiet_of_same ((hval _).mono fun e w' ⟨a, b⟩ => ⟨a, b.symm⟩))
              | (go_at_call 41; refine Calls.quiet_of_same ((hhas _).mono fun e w' ⟨a, b⟩ => ⟨a, b.symm⟩)))
            go_wp2_with fail
            go_roundw
            case rel => exact ⟨k + 1, by go_num, by omega, HS, after_drews hA.out _⟩
            case measure => simp [intOf]; omega
          · have HBD : Hid (okL [] names = false) := by show _ = _; rw [hr.out]; simp
            have HR2 : Hid (R = none) := by show _ = _; rw [HR.out, HBD.out]; rfl
            clear hr
            go_wp2_with fail
            go_quiet (first
              | (go_at_call 40; refine Calls.quiet_of_same ((hval _).mono fun e w' ⟨a, b⟩ => ⟨a, b.symm⟩))
              | (go_at_call 41; refine Calls.quiet_of_same ((hhas _).mono fun e w' ⟨a, b⟩ => ⟨a, b.symm⟩)))
            go_wp2_with fail
            go_ret2
            exact ⟨by rw [HR2.out]; rfl, after_drews hAw _⟩
      · obtain rfl : k = N := by omega
        have hok : okL [] names = true := by rw [hr.out, List.drop_eq_nil_of_le (by rw [← HN.out]; exact Nat.le_refl _)]; rfl
        have hAw := HWX.out.trans hA.out
        have hall := s_all wr b off cap names t s1 ao1 n1 c1 (HT.out.later hA.out) hg hf (by rw [← HN.out]; exact hn) (okL_names [] names hok) (fun j hj => hAw.cell (HC.out j hj))
        obtain ⟨hgl, hzl⟩ := last_good names.reverse hg hf
        have htl := Tm.text_le _ hgl
        have hlast := absL_last names.reverse hf
        unfold TreePost at hall
        rw [← HN.out] at hall
        have HR2 : Hid (R = (absL names.reverse t).map Tm.text) := by show _ = _; rw [HR.out, hok]; rfl
        generalize lastL names.reverse t = u at *
        obtain ⟨fb, hfb⟩ : ∃ fb, fb = u.fits := ⟨_, rfl⟩
        have HR3 : Hid (R = if fb = true then some u.text else none) := by show _ = _; rw [HR2.out, hlast, hfb]; cases u.fits <;> rfl
        have HFB := Lib.hid hfb
        obtain ⟨k0, k1, _, _, _⟩ := pair_facts HB.out hA.out
        clear hlast hfb HR HR2 hr hok
        cases fb
        all_goals
          go_wp2_with fail
          refine hall.mono ?_
          rintro e w2 ⟨s2, ao2, n2, c2, rfl, hb2, ht2⟩
          have hX2 := After.new w2 (.cells #[str s2, .slice ao2 n2 c2] 53)
          have hT2 := ht2.later hX2
          have hfine := hT2.fine hgl (by omega)
          rw [← HFB.out] at hfine
          have HT2 := Lib.hid hT2
          have HBX := Lib.hid (heap_new' w2 (.cells #[str s2, .slice ao2 n2 c2] 53))
          have hw2 := hAw.trans (hb2.trans hX2)
          clear ht2 hT2 hall
          go_wp2_with fail
          refine hfine.mono ?_
          rintro e w3 ⟨rfl, hb3⟩
          have htext := (HT2.out.later hb3).text hgl (by omega)
          obtain ⟨i0, i1, _, _, _⟩ := pair_facts HBX.out hb3
          clear hfine
          go_wp2_with (go_at_call 44; refine htext.mono ?_; rintro e w4 ⟨rfl, hb4⟩)
          go_ret2
          first
            | exact ⟨by rw [HR3.out]; rfl, (hw2.trans hb3).trans hb4⟩
            | exact ⟨by rw [HR3.out]; rfl, hw2.trans hb3⟩
end Go.Proofs.Ytfjohagdlaiapaa
