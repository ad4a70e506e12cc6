/-
  The model's AssemblyModest.
-/
import Derived.Test.YtidpkmkhcomcdaaGreatPkI
import Derived.Test.YtidpkmkhcomcdaaGreatPkJ
namespace Go.Proofs.YtidpkmkhcomcdaaGreat
open Go.RowKit

set_option maxHeartbeats 2000000
set_option maxRecDepth 100000

theorem s_asmModest (w : World) (sv : Value) (a : List (List (List UInt8))) (h : SSU 0 w sv a) (hl : Lens 1048576 a) :
    Calls Tryz.prog 22 #[.agg #[sv]] w fun e w' => e = .returned (.bool (Asm.modest a)) ∧ After w w' := by
  have hval := fun W (hW : After w W) => s_asmValid W sv a (h.later hW) hl
  obtain ⟨f, ⟨ao, cap, rfl, hc⟩, hf⟩ := h
  obtain ⟨hn, hz⟩ := hl
  have hform : ∀ j, j < a.length → (a.getD j []).length ≤ 1048576 ∧ (∃ ao' c, f j = .slice ao' (a.getD j []).length c) ∧ StrsU 0 w (f j) (a.getD j []) := fun j hj => by
    obtain ⟨ao', c, e, _⟩ := hf j hj
    exact ⟨(hz (a.getD j []) (gd_mem hj)).1, ⟨_, _, e⟩, hf j hj⟩
  obtain ⟨r, hr⟩ : ∃ r, r = Asm.modest a := ⟨_, rfl⟩
  rw [← hr]
  rw [Asm.modest] at hr
  have hA := After.new w (.cells #[.slice ao a.length cap] 26)
  have hbox := heap_new' w (.cells #[.slice ao a.length cap] 26)
  obtain ⟨o0, o1, o2⟩ := one_facts hbox (After.refl _)
  have hs1 := hval _ hA
  obtain ⟨n, hn'⟩ : ∃ n, n = a.length := ⟨_, rfl⟩
  rw [← hn'] at hc hn hform hr hA hbox o0 o1 o2 hs1 ⊢
  have HC := Lib.hid hc
  have HF := Lib.hid hform
  have HR := Lib.hid hr
  clear hc hz hform hf hr hval hn'
  cases hok : Asm.ok a with
  | false =>
    have HR' : Hid (r = false) := by show _ = _; rw [HR.out, hok, Bool.false_and]
    rw [hok] at hs1
    clear HR hok
    go_enter Tryz.func22, Tryz.ntmps22
    go_wp2_with fail
    refine hs1.mono ?_
    rintro e w1 ⟨rfl, hb1⟩
    go_wp2_with fail
    go_ret
    exact ⟨by rw [HR'.out]; rfl, hA.trans hb1⟩
  | true =>
    have HR' : Hid (r = Asm.mds a n) := by show _ = _; rw [HR.out, hok, Bool.true_and]
    rw [hok] at hs1
    clear HR hok
    go_enter Tryz.func22, Tryz.ntmps22
    go_wp2_with fail
    refine hs1.mono ?_
    rintro e w1 ⟨rfl, hb1⟩
    have hbox' := hb1.heap hbox
    have hA1 := hA.trans hb1
    clear o0 o1 o2 hs1 hbox
    go_wp2_with fail
    go_loopw [3] (fun i wr => ∃ k : Nat, i = .int .i64 k ∧ k ≤ n ∧ Hid (Asm.mds a k = true) ∧ After w1 wr) (fun i _ => n - (intOf i).toNat)
    case atStart => exact ⟨0, rfl, Nat.zero_le _, by show _ = _; rfl, After.refl _⟩
    case round =>
      obtain ⟨i, rfl, hi, hmd, hAr⟩ := hrel
      obtain ⟨o0, o1, o2⟩ := one_facts hbox' hAr
      by_cases hlt : i < n
      · obtain ⟨b0, off0, rfl, _, h1⟩ := HC.out i hlt
        have H1 : Hid (∀ W, After w1 W → W.cell? ⟨b0, off0 + i, none⟩ = some (f i)) := fun W hW => (hA1.trans hW).cell h1
        obtain ⟨hm, ⟨ao', c, e⟩, hst⟩ := HF.out i hlt
        rw [e] at H1 hst
        have hlt' : (i : Int) < (n : Int) := by omega
        obtain ⟨rs, hrs⟩ : ∃ rs, rs = a.getD i [] := ⟨_, rfl⟩
        rw [← hrs] at H1 hm hst
        have HRS := Lib.hid hrs
        obtain ⟨ao2, c2, e2, hc2⟩ := hst
        simp only [Value.slice.injEq, true_and] at e2
        obtain ⟨rfl, rfl⟩ := e2
        obtain ⟨m, hmm⟩ : ∃ m, m = rs.length := ⟨_, rfl⟩
        rw [← hmm] at H1 hm hc2
        have HM := Lib.hid hmm
        have HPC := Lib.hid hc2
        clear e hmm hrs h1 hc2
        obtain ⟨wa, hwa⟩ : ∃ x, x = wr := ⟨_, rfl⟩
        subst hwa
        go_wp2_with fail
        go_loopw [4] (fun j wr' => ∃ k : Nat, j = .int .i64 k ∧ k ≤ i ∧ Hid (Asm.mdj a i k = true) ∧ After w1 wr') (fun j _ => i - (intOf j).toNat)
        case atStart => exact ⟨0, rfl, Nat.zero_le _, by show _ = _; rfl, hAr⟩
        case round =>
          obtain ⟨jj, rfl, hj, hmj, hAj⟩ := hrel
          obtain ⟨o0', o1', o2'⟩ := one_facts hbox' hAj
          clear o0 o1 o2
          by_cases hlj : jj < i
          · obtain ⟨b0', off0', e0, _, h1j⟩ := HC.out jj (by omega)
            simp only [Option.some.injEq, Addr.mk.injEq, and_true] at e0
            obtain ⟨rfl, rfl⟩ := e0
            have H1j : Hid (∀ W, After w1 W → W.cell? ⟨b0, off0 + jj, none⟩ = some (f jj)) := fun W hW => (hA1.trans hW).cell h1j
            obtain ⟨hmj', ⟨aoj, cj, ej⟩, hstj⟩ := HF.out jj (by omega)
            rw [ej] at H1j hstj
            have hlj' : (jj : Int) < (i : Int) := by omega
            have hljn : (jj : Int) < (n : Int) := by omega
            obtain ⟨ys, hys⟩ : ∃ ys, ys = a.getD jj [] := ⟨_, rfl⟩
            rw [← hys] at H1j hmj' hstj
            obtain ⟨mj, hmmj⟩ : ∃ mj, mj = ys.length := ⟨_, rfl⟩
            have HSJ : Hid (∀ W x, After w1 W → Calls Tryz.prog 49 #[.slice aoj mj cj, str x] W fun e w' => e = .returned (.bool (decide (x ∈ ys))) ∧ After W w') := fun W x hW => by
              rw [hmmj]
              exact s_hasU W _ ys x (RowU.later hstj (hA1.trans hW)) (by omega)
            rw [← hmmj] at H1j
            have HYS := Lib.hid hys
            clear h1j ej hstj hys hmmj
            have hxi := H1.out _ hAj
            obtain ⟨wb, hwb⟩ : ∃ x, x = wr := ⟨_, rfl⟩
            subst hwb
            go_wp2_with fail
            go_loopw [5] (fun q wr' => ∃ k : Nat, q = .int .i64 k ∧ k ≤ m ∧ Hid (Asm.mdk a i jj k = true) ∧ After w1 wr') (fun q _ => m - (intOf q).toNat)
            case atStart => exact ⟨0, rfl, Nat.zero_le _, by show _ = _; rfl, hAj⟩
            case round =>
              obtain ⟨k, rfl, hk, hmk, hAk⟩ := hrel
              obtain ⟨p0, p1, p2⟩ := one_facts hbox' hAk
              have hxi' := H1.out _ hAk
              clear o0' o1' o2' hxi
              by_cases hlk : k < m
              · obtain ⟨b, off, rfl, _, hck⟩ := HPC.out k hlk
                have hlk' : (k : Int) < (m : Int) := by omega
                obtain ⟨z, hz⟩ : ∃ z, z = rs.getD k [] := ⟨_, rfl⟩
                replace hck : w.cell? ⟨b, off + k, none⟩ = some (str z) := by rw [hz]; exact hck
                have x1 : ∀ W, After wr W → W.cell? ⟨w.heap.size, 0, none⟩ = some (.slice (some ⟨b0, off0, none⟩) n cap) := fun W hW => (one_facts hbox' (hAk.trans hW)).1
                have x2 : ∀ W, After wr W → W.cell? ⟨b0, off0 + i, none⟩ = some (.slice (some ⟨b, off, none⟩) m c) := fun W hW => H1.out W (hAk.trans hW)
                have x3 : ∀ W, After wr W → W.cell? ⟨b0, off0 + jj, none⟩ = some (.slice aoj mj cj) := fun W hW => H1j.out W (hAk.trans hW)
                have x4 : ∀ W, After wr W → W.cell? ⟨b, off + k, none⟩ = some (str z) := fun W hW => (hA1.trans (hAk.trans hW)).cell hck
                have hself := After.refl wr
                have hmk2 := Asm.mdk_succ a i jj k
                have hno : Hid (z ∈ ys → r = false) := fun h => by
                  rw [HR'.out]
                  exact Asm.mds_no (i := i) (j := jj) (k := k) (by rw [← HRS.out, ← HYS.out, ← hz]; exact h) (by rw [← HRS.out, ← HM.out]; exact hlk) hlj hlt
                rw [hmk.out, ← HRS.out, ← HYS.out, ← hz] at hmk2
                have HK2 := Lib.hid hmk2
                have HSK := Lib.hid (fun W hW => HSJ.out W z hW)
                clear hmk2 hz hck
                by_cases hmem : z ∈ ys
                · have HFl := Lib.hid (hno.out hmem)
                  rw [decide_eq_true hmem] at HSK
                  clear hmem hno
                  go_wp2_with fail
                  go_region_held3 (fun W' => After wr W') (first | assumption | exact hself.drew | go_keep)
                    ((go_at_call 49; refine (HSK.out _ (hAk.trans (by first | assumption | exact hself.drew))).mono ?_; rintro e w2 ⟨rfl, hb2⟩; have hb2' := After.trans (by first | assumption | exact hself.drew) hb2))
                  all_goals
                    go_wp2_with fail
                    go_ret
                    exact ⟨by rw [HFl.out]; rfl, hA1.trans (hAk.trans hb2')⟩
                · rw [decide_eq_false hmem] at HSK
                  have HN := Lib.hid hmem
                  clear hmem hno
                  go_wp2_with fail
                  go_region_held3 (fun W' => After wr W') (first | assumption | exact hself.drew | go_keep)
                    ((go_at_call 49; refine (HSK.out _ (hAk.trans (by first | assumption | exact hself.drew))).mono ?_; rintro e w2 ⟨rfl, hb2⟩; have hb2' := After.trans (by first | assumption | exact hself.drew) hb2))
                  all_goals
                    go_wp2_with fail
                    go_roundw
                    case rel => exact ⟨k + 1, by go_num, by omega, by show _ = _; rw [HK2.out, decide_eq_false HN.out]; rfl, hAk.trans hb2'⟩
                    case measure => simp [intOf]; omega
              · obtain rfl : k = m := by omega
                go_wp2_with fail
                go_roundw
                case rel => exact ⟨jj + 1, by go_num, by omega, by show _ = _; rw [Asm.mdj_succ, hmj.out, ← HRS.out, ← HM.out, hmk.out]; rfl, hAk⟩
                case measure => simp [intOf]; omega
          · obtain rfl : jj = i := by omega
            go_wp2_with fail
            go_roundw
            case rel => exact ⟨jj + 1, by go_num, by omega, by show _ = _; rw [Asm.mds_succ, hmd.out, hmj.out]; rfl, hAj⟩
            case measure => simp [intOf]; omega
      · obtain rfl : i = n := by omega
        go_wp2_with fail
        go_ret
        exact ⟨by rw [HR'.out, hmd.out]; rfl, hA1.trans hAr⟩
end Go.Proofs.YtidpkmkhcomcdaaGreat
