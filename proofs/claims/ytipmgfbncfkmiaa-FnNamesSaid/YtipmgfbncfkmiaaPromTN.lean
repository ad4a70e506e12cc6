/-
  The walk of a promise's law: names: whatever the code, the law returns true.
-/
import Derived.Test.YtipmgfbncfkmiaaDrawN
import Derived.Test.YtipmgfbncfkmiaaPromS
import Derived.Test.YtipmgfbncfkmiaaPkE
import Derived.Test.YtipmgfbncfkmiaaPkU
import Derived.Test.YtipmgfbncfkmiaaSFnC
import Derived.BigQuiet
import Derived.Deep.QuietTactic
namespace Go.Proofs.Ytipmgfbncfkmiaa
open Go.RowKit

set_option maxHeartbeats 2000000
set_option maxRecDepth 100000

theorem put_len {l n b x : List UInt8} (h : Tm.pPut l n b = some x) : x.length ≤ 21000 := by
  obtain ⟨_, _, _, _, _, _, _, _, _, _, _, h⟩ := Tm.put_facts h
  exact h

theorem law_pnames (w : World) (v : Value) (n : Nat) (h : CodeArg w v n) :
    Calls Try.prog 4 #[v] w fun e w' => e = .returned (.bool true) ∧ After w w' := by
  obtain ⟨a0, cap, rfl⟩ := h.form
  have hdraw := draw_names w _ n h
  clear h
  by_cases hbig : (1048576 : Int) < (n : Int)
  · go_enter Try.func4, Try.ntmps4
    go_wp2_with fail
    go_ret
    exact ⟨rfl, After.refl _⟩
  · go_enter Try.func4, Try.ntmps4
    go_wp2_with fail
    refine hdraw.mono ?_
    rintro e w1 hd
    obtain ⟨l, rfl, hl, ha⟩ := hd.text
    clear hd
    have HA := Lib.hid ha
    clear hdraw ha
    have hi := fun W => impl_names W l (by omega)
    have hs := fun W => spec_names W l (by omega)
    cases hp : Tm.parse l with
    | none =>
      have e : Tm.pNames l = none := by simp [Tm.pNames, hp]
      rw [e] at hi hs
      clear hp e
      go_wp2_with fail
      refine (hi _).mono ?_
      rintro e w2 hn2
      obtain ⟨ao1, cap1, rfl, hb2, hu1⟩ := names_row_none hn2
      have HU1 := Lib.hid hu1
      clear hn2 hu1
      go_wp2_with fail
      refine (hs _).mono ?_
      rintro e w3 hn3
      obtain ⟨ao2, cap2, rfl, hb3, hu2⟩ := snames_row_none hn3
      have HU2 := Lib.hid hu2
      clear hn3 hu2
      have hsm : ∀ W, After w3 W → Calls Try.prog 23 #[.slice ao1 0 cap1, .slice ao2 0 cap2] W fun e w' => e = .returned (.bool true) ∧ After W w' := fun W hW => l_same_self W _ _ [] ((HU1.out.later hb3).later hW) (HU2.out.later hW) (by decide)
      go_wp2_with fail
      refine (hsm _ (After.refl _)).mono ?_
      rintro e w4 ⟨rfl, hb4⟩
      go_wp2_with fail
      refine (hsm _ hb4).mono ?_
      rintro e w5 ⟨rfl, hb5⟩
      go_wp2_with fail
      go_ret
      exact ⟨by simp, (((HA.out.trans hb2).trans hb3).trans hb4).trans hb5⟩
    | some t =>
      obtain ⟨hl0, hg, hf⟩ := parse_text_iff hp
      obtain ⟨ns, hns⟩ : ∃ ns, ns = Tm.names [] t := ⟨_, rfl⟩
      have en : Tm.pNames l = some ns := by rw [hns]; simp [Tm.pNames, hp]
      obtain ⟨h1, h2, h3, h4⟩ := Tm.names_facts hns hg
      have hz := (fits_size hf).1
      have hnn : ns.length ≤ 3000 := by omega
      rw [en] at hi hs
      have hcl : ns.length = 0 → ∀ W, Calls Try.prog 20 #[str l] W fun e w' => e = .returned (.bool true) ∧ Below W.heap.size W w' := fun h0 W => by
        have := impl_closed W l (by omega)
        rw [show Tm.pClosed l = true by rw [hl0]; exact Tm.closed_text hg hf (Tm.names_nil.1 (by rw [← hns]; exact List.length_eq_zero_iff.1 h0))] at this
        exact this
      have hput : 0 < ns.length → ∃ y, (∀ W, Calls Try.prog 19 #[str l, str (ns.getD 0 []), str [115]] W fun e w' => e = .returned (.tuple #[str y, .bool true]) ∧ Below W.heap.size W w') ∧ ∀ W, Calls Try.prog 18 #[str y] W (NamesRes W (some (ns.drop 1))) := fun h0 => by
        obtain ⟨y, q1, q2, q3⟩ := Tm.put_first hns hg hf h0
        obtain ⟨_, hsh⟩ := h2 _ (Tm.getD_mem h0)
        refine ⟨y, fun W => ?_, fun W => ?_⟩
        · have := impl_put W l (ns.getD 0 []) [115] (by omega) (by omega) (by decide)
          unfold TextRes at this
          rw [hl0, q1] at this
          rw [hl0]
          exact this
        · have := impl_names W y (by omega)
          rw [q3] at this
          exact this
      have hnot : ∀ j, j < ns.length → decide (ns.getD j [] ∈ ns.take j) = false := fun j hj => decide_eq_false (Tm.nodup_take h4 hj)
      have HCL := Lib.hid hcl
      have HPUT := Lib.hid hput
      have HNOT := Lib.hid hnot
      clear hcl hput hnot hp en hg hf hns hl0 hz h1 h2 h3 h4
      go_wp2_with fail
      refine (hi _).mono ?_
      rintro e w2 hn2
      obtain ⟨ao1, cap1, rfl, hb2, hu1⟩ := names_row_some hn2
      have HU1 := Lib.hid hu1
      clear hn2 hu1
      go_wp2_with fail
      refine (hs _).mono ?_
      rintro e w3 hn3
      obtain ⟨ao2, cap2, rfl, hb3, hu2⟩ := snames_row_some hn3
      have HU2 := Lib.hid hu2
      clear hn3 hu2
      have hsm := l_same_self w3 _ _ ns (HU1.out.later hb3) HU2.out (by omega)
      go_wp2_with fail
      refine hsm.mono ?_
      rintro e w4 ⟨rfl, hb4⟩
      have hA4 := Lib.hid (((HA.out.trans hb2).trans hb3).trans hb4)
      have HU4 := Lib.hid ((HU1.out.later hb3).later hb4)
      obtain ⟨ao', cap', e', hc⟩ := id HU4.out
      simp only [Value.slice.injEq] at e'
      obtain ⟨rfl, _, rfl⟩ := e'
      have HC := Lib.hid hc
      clear hc hi hs hsm HU1 HU2
      go_wp2_with fail
      go_loopw [8] (fun i wr => ∃ k : Nat, i = .int .i64 k ∧ k ≤ ns.length ∧ After w4 wr) (fun i _ => ns.length - (intOf i).toNat)
      case atStart => exact ⟨0, rfl, Nat.zero_le _, After.refl _⟩
      case round =>
        obtain ⟨k, rfl, hk, hAw⟩ := hrel
        by_cases hlt : k < ns.length
        · obtain ⟨b, off, rfl, ⟨_, hle, hcm⟩, h1⟩ := HC.out k hlt
          replace h1 := hAw.cell h1
          have hcut := StrsU.cutU HU4.out rfl hlt
          have hN := HNOT.out k hlt
          generalize ns.getD k [] = y at h1 hN
          have hhas : ∀ W, After wr W → Calls Try.prog 24 #[.slice (some ⟨b, off, none⟩) k cap1, str y] W fun e w' => e = .returned (.bool false) ∧ W = w' := fun W hW => by
            have := l_has_same W _ (ns.take k) y ((hcut.later hAw).later hW) (by simp; omega)
            rw [hN] at this
            exact this
          have hlt' : (k : Int) < (ns.length : Int) := by omega
          have hkc : (k : Int) ≤ (cap1 : Int) := by omega
          have hself := After.refl wr
          have HH := Lib.hid hhas
          clear hcut hN hhas
          go_wp2_with fail
          go_quiet ((go_at_call 24; refine Calls.quiet_of_same ((HH.out _ (hself.drews _)).mono fun e w' ⟨a, b⟩ => ⟨a, b.symm⟩)))
          go_wp2_with fail
          go_roundw
          case rel => exact ⟨k + 1, by go_num, by omega, hAw.drews _⟩
          case measure => simp [intOf]; omega
        · obtain rfl : k = ns.length := by omega
          by_cases h0 : ns.length = 0
          · have hcl := HCL.out h0
            have hE : ((ns.length : Int) == 0) = true := by rw [h0]; rfl
            go_wp2_with fail
            refine (hcl _).mono ?_
            rintro e w5 ⟨rfl, hb5⟩
            go_wp2_with fail
            go_ret
            exact ⟨rfl, (hA4.out.trans hAw).trans hb5⟩
          · obtain ⟨y, hput, hnm⟩ := HPUT.out (by omega)
            obtain ⟨b, off, rfl, ⟨_, hle, hcm⟩, h1⟩ := HC.out 0 (by omega)
            replace h1 := hAw.cell h1
            have hz1 : wr.cell? ⟨b, off, none⟩ = some (str (ns.getD 0 [])) := by rw [Nat.add_zero] at h1; exact h1
            have hdr := StrsU.dropU HU4.out rfl (by omega)
            have hE : ((ns.length : Int) == 0) = false := by rw [beq_eq_false_iff_ne]; omega
            have h0' : (0 : Int) < (ns.length : Int) := by omega
            have h1' : (1 : Int) ≤ (ns.length : Int) := by omega
            have hcc : (ns.length : Int) ≤ (cap1 : Int) := by omega
            have hdl : (ns.drop 1).length ≤ 1000000000 := by simp; omega
            have hdn : (ns.drop 1).length = ns.length - 1 := by simp
            generalize ns.getD 0 [] = z at h1 hz1 hput
            generalize ns.drop 1 = ds at hnm hdr hdl hdn
            go_wp2_with fail
            refine (hput _).mono ?_
            rintro e w5 ⟨rfl, hb5⟩
            go_wp2_with fail
            refine (hnm _).mono ?_
            rintro e w6 hn6
            obtain ⟨ao3, cap3, rfl, hb6, hu3⟩ := names_row_some hn6
            have HU3 := Lib.hid hu3
            clear hn6 hu3
            have hu6 := ((hdr.later hAw).later hb5).later hb6
            have hu6' : cap1 = 1 → StrsU 0 w6 (.slice (some ⟨b, off, none⟩) (ns.length - 1) 0) ds := fun hc => ⟨some ⟨b, off, none⟩, 0, by rw [hdn], fun j hj => absurd hj (by omega)⟩
            have HSM := Lib.hid (l_same_self w6 _ _ ds HU3.out hu6 hdl)
            have HSM2 : Hid (cap1 = 1 → Calls Try.prog 23 #[.slice ao3 ds.length cap3, .slice (some ⟨b, off, none⟩) (ns.length - 1) 0] w6 fun e w' => e = .returned (.bool true) ∧ After w6 w') := fun hc => l_same_self w6 _ _ ds HU3.out (hu6' hc) hdl
            clear hdr hu6 hu6' hdn
            by_cases hcap : cap1 = 1
            · have hsm := HSM2.out hcap
              go_wp2_with fail
              refine hsm.mono ?_
              rintro e w7 ⟨rfl, hb7⟩
              go_wp2_with fail
              go_ret
              exact ⟨by simp, ((((hA4.out.trans hAw).trans hb5).trans hb6).trans hb7)⟩
            · go_wp2_with fail
              refine HSM.out.mono ?_
              rintro e w7 ⟨rfl, hb7⟩
              go_wp2_with fail
              go_ret
              exact ⟨by simp, ((((hA4.out.trans hAw).trans hb5).trans hb6).trans hb7)⟩

end Go.Proofs.Ytipmgfbncfkmiaa
