/-
  The model's l1Has, l5Sizes, AssemblyValid.
-/
import Derived.Test.YtidpkmkhcomcdaaGreatPkE
import Derived.Test.YtidpkmkhcomcdaaGreatPkH
import Derived.Test.YtidpkmkhcomcdaaGreatPkG
import Derived.Test.YtidpkmkhcomcdaaGreatPkC
import Derived.Test.YtidpkmkhcomcdaaGreatPkD
namespace Go.Proofs.YtidpkmkhcomcdaaGreat
open Go.RowKit

set_option maxHeartbeats 2000000
set_option maxRecDepth 100000

theorem lit_59_27_32 {x0 x1 x2 x3 x4 x5 x6 x7 x8 x9 x10 x11 x12 x13 x14 x15 x16 x17 x18 x19 x20 x21 x22 x23 x24 x25 x26 x27 x28 x29 x30 x31 x32 x33 x34 x35 x36 x37 x38 x39 x40 x41 x42 x43 x44 x45 x46 x47 x48 x49 x50 x51 x52 x53 x54 x55 x56 x57 x58 : Value} {d : List Deferred} {vs : Nat → Value} : putFrom ⟨#[x0, x1, x2, x3, x4, x5, x6, x7, x8, x9, x10, x11, x12, x13, x14, x15, x16, x17, x18, x19, x20, x21, x22, x23, x24, x25, x26, x27, x28, x29, x30, x31, x32, x33, x34, x35, x36, x37, x38, x39, x40, x41, x42, x43, x44, x45, x46, x47, x48, x49, x50, x51, x52, x53, x54, x55, x56, x57, x58], d⟩ 27 vs 32 = ⟨#[x0, x1, x2, x3, x4, x5, x6, x7, x8, x9, x10, x11, x12, x13, x14, x15, x16, x17, x18, x19, x20, x21, x22, x23, x24, x25, x26, vs 0, vs 1, vs 2, vs 3, vs 4, vs 5, vs 6, vs 7, vs 8, vs 9, vs 10, vs 11, vs 12, vs 13, vs 14, vs 15, vs 16, vs 17, vs 18, vs 19, vs 20, vs 21, vs 22, vs 23, vs 24, vs 25, vs 26, vs 27, vs 28, vs 29, vs 30, vs 31], d⟩ := by kernel_rfl

theorem s_hasU (w : World) (sv : Value) (ns : List (List UInt8)) (x : List UInt8) (h : StrsU 0 w sv ns) (hn : ns.length ≤ 1000000000) :
    Calls Tryz.prog 49 #[sv, str x] w fun e w' => e = .returned (.bool (decide (x ∈ ns))) ∧ After w w' := by
  obtain ⟨ao, cap, rfl, hc⟩ := h
  obtain ⟨r, hr⟩ : ∃ r, r = decide (x ∈ ns) := ⟨_, rfl⟩
  rw [← hr]
  have hstart : Hid (r = decide (x ∈ ns.drop 0)) := by show _ = _; rw [hr]; simp
  have hd : ∀ k, k < ns.length → ns.drop k = ns.getD k [] :: ns.drop (k + 1) := fun k hk => by rw [List.drop_eq_getElem_cons hk, List.getD, List.getElem?_eq_getElem hk]; rfl
  have hz : ns.drop ns.length = [] := List.drop_eq_nil_of_le (Nat.le_refl _)
  obtain ⟨n, hnn⟩ : ∃ n, n = ns.length := ⟨_, rfl⟩
  rw [← hnn] at hc hn hd hz ⊢
  have HC := Lib.hid hc
  have HD := Lib.hid hd
  have HZ := Lib.hid hz
  clear hr hc hd hz hnn
  go_enter Tryz.func49, Tryz.ntmps49
  go_wp2_with fail
  go_loop [5] (fun i => ∃ k : Nat, i = .int .i64 k ∧ k ≤ n ∧ Hid (r = decide (x ∈ ns.drop k))) (fun i => n - (intOf i).toNat)
  case atStart => exact ⟨0, rfl, Nat.zero_le _, hstart⟩
  case round =>
    obtain ⟨k, rfl, hk, hr⟩ := hrel
    clear hstart
    by_cases hlt : k < n
    · obtain ⟨b, off, rfl, _, h1⟩ := HC.out k hlt
      rw [HD.out k hlt] at hr
      generalize ns.getD k [] = y at h1 hr
      have hlt' : (k : Int) < (n : Int) := by omega
      by_cases he : y = x
      · subst he
        have HS : Hid (r = true) := by show _ = _; rw [hr.out]; simp
        clear hr
        go_wp2_with fail
        go_ret
        exact ⟨by rw [HS.out]; rfl, After.refl _⟩
      · have heq : (y == x) = false := beq_eq_false_iff_ne.2 he
        have HS : Hid (r = decide (x ∈ ns.drop (k + 1))) := by show _ = _; rw [hr.out]; simp [Ne.symm he]
        clear hr he
        go_wp2_with fail
        go_round
        case rel => exact ⟨k + 1, by go_num, by omega, HS⟩
        case measure => simp [intOf]; omega
    · obtain rfl : k = n := by omega
      have HS : Hid (r = false) := by show _ = _; rw [hr.out, HZ.out]; simp
      clear hr
      go_wp2_with fail
      go_ret
      exact ⟨by rw [HS.out]; rfl, After.refl _⟩

theorem StrsU.take {B : Nat} {w : World} {b off n cap k : Nat} {ns : List (List UInt8)} (h : StrsU B w (.slice (some ⟨b, off, none⟩) n cap) ns) (hn : ns.length = n) (hk : k < n) : StrsU B w (.slice (some ⟨b, off, none⟩) k cap) (ns.take k) := by
  obtain ⟨ao, cap', e, hc⟩ := h
  simp only [Value.slice.injEq] at e
  obtain ⟨rfl, hl, rfl⟩ := e
  have hlk : (ns.take k).length = k := by simp; omega
  refine ⟨some ⟨b, off, none⟩, cap, by rw [hlk], fun j hj => ?_⟩
  rw [hlk] at hj
  obtain ⟨b', off', e, hb, h⟩ := hc j (by omega)
  simp only [Option.some.injEq, Addr.mk.injEq, and_true] at e
  obtain ⟨rfl, rfl⟩ := e
  refine ⟨_, _, rfl, ⟨hb.1, by omega, hb.2.2⟩, ?_⟩
  simp [h, List.getD, hj]

theorem s_in (w : World) (n lo hi : Int) (c : Bool) (hc : decide (lo ≤ n ∧ n ≤ hi) = c) : Calls Tryz.prog 31 #[.int .i64 n, .int .i64 lo, .int .i64 hi] w fun e w' => e = .returned (.bool c) ∧ w = w' := by
  subst hc
  exact in_any w n lo hi

theorem s_sizes (w : World) (sv : Value) (a : List (List (List UInt8))) (h : SSU 0 w sv a) (hl : Lens 1000000000 a) :
    Calls Tryz.prog 45 #[.agg #[sv]] w fun e w' => e = .returned (.bool (Asm.sizes a)) ∧ After w w' := by
  obtain ⟨f, ⟨ao, cap, rfl, hc⟩, hf⟩ := h
  obtain ⟨hn, hz⟩ := hl
  have hform : ∀ j, j < a.length → (a.getD j []).length ≤ 1000000000 ∧ ∃ ao' c, f j = .slice ao' (a.getD j []).length c := fun j hj => by
    obtain ⟨ao', c, e, _⟩ := hf j hj
    exact ⟨(hz _ (by rw [List.getD, List.getElem?_eq_getElem hj]; exact List.getElem_mem hj)).1, _, _, e⟩
  obtain ⟨r, hr⟩ : ∃ r, r = Asm.sizes a := ⟨_, rfl⟩
  rw [← hr]
  have hr' : r = (decide (1 ≤ a.length ∧ a.length ≤ 6) && Asm.szs a a.length) := by rw [hr, Asm.sizes, Bool.decide_and]
  obtain ⟨n, hn'⟩ : ∃ n, n = a.length := ⟨_, rfl⟩
  rw [← hn'] at hc hn hform hr' ⊢
  have HC := Lib.hid hc
  have HF := Lib.hid hform
  have HR := Lib.hid hr'
  clear hc hz hform hf hr hr' hn'
  have hA := After.new w (.cells #[.slice ao n cap] 26)
  have hbox := heap_new' w (.cells #[.slice ao n cap] 26)
  obtain ⟨o0, o1, o2⟩ := one_facts hbox (After.refl _)
  by_cases hb : 1 ≤ n ∧ n ≤ 6
  · have hin := fun W => s_in W n 1 6 true (by rw [decide_eq_true_eq]; omega)
    have HR' : Hid (r = Asm.szs a n) := by show _ = _; rw [HR.out, decide_eq_true hb, Bool.true_and]
    clear HR
    go_enter Tryz.func45, Tryz.ntmps45
    go_wp2_with (go_at_call 31; refine (hin _).mono ?_; rintro e w1 ⟨rfl, rfl⟩)
    generalize w.alloc (.cells #[.slice ao n cap] 26) = Y at *
    go_loop [3] (fun i => ∃ k : Nat, i = .int .i64 k ∧ k ≤ n ∧ Hid (Asm.szs a k = true)) (fun i => n - (intOf i).toNat)
    case atStart => exact ⟨0, rfl, Nat.zero_le _, by show _ = _; rfl⟩
    case round =>
      obtain ⟨k, rfl, hk, hs⟩ := hrel
      by_cases hlt : k < n
      · obtain ⟨b, off, rfl, _, h1⟩ := HC.out k hlt
        replace h1 := hA.cell h1
        obtain ⟨hm, ao', c', e⟩ := HF.out k hlt
        rw [e] at h1
        have hlt' : (k : Int) < (n : Int) := by omega
        obtain ⟨m, hmm⟩ : ∃ m, m = (a.getD k []).length := ⟨_, rfl⟩
        rw [← hmm] at h1 hm
        have HM := Lib.hid hmm
        clear e hmm
        by_cases hb4 : 1 ≤ m ∧ m ≤ 4
        · have hin2 := fun W => s_in W m 1 4 true (by rw [decide_eq_true_eq]; omega)
          go_wp2_with (go_at_call 31; refine (hin2 _).mono ?_; rintro e w1 ⟨rfl, rfl⟩)
          go_round
          case rel => exact ⟨k + 1, by go_num, by omega, by show _ = _; rw [Asm.szs_succ, hs.out, ← HM.out]; simp [hb4.1, hb4.2]⟩
          case measure => simp [intOf]; omega
        · have hin2 := fun W => s_in W m 1 4 false (by rw [decide_eq_false_iff_not]; omega)
          have HF2 : Hid (r = false) := by
            show _ = _
            rw [HR'.out]
            refine Asm.szs_no (k := k) ?_ hlt
            rw [← HM.out, ← Bool.decide_and, decide_eq_false_iff_not]
            exact hb4
          go_wp2_with (go_at_call 31; refine (hin2 _).mono ?_; rintro e w1 ⟨rfl, rfl⟩)
          go_ret
          exact ⟨by rw [HF2.out]; rfl, hA⟩
      · obtain rfl : k = n := by omega
        go_wp2_with fail
        go_ret
        exact ⟨by rw [HR'.out, hs.out]; rfl, hA⟩
  · have hin := fun W => s_in W n 1 6 false (by rw [decide_eq_false_iff_not]; omega)
    have HR' : Hid (r = false) := by show _ = _; rw [HR.out, decide_eq_false hb, Bool.false_and]
    clear HR
    go_enter Tryz.func45, Tryz.ntmps45
    go_wp2_with (go_at_call 31; refine (hin _).mono ?_; rintro e w1 ⟨rfl, rfl⟩)
    go_ret
    exact ⟨by rw [HR'.out]; rfl, hA⟩

theorem s_asmValid (w : World) (sv : Value) (a : List (List (List UInt8))) (h : SSU 0 w sv a) (hl : Lens 1048576 a) :
    Calls Tryz.prog 20 #[.agg #[sv]] w fun e w' => e = .returned (.bool (Asm.ok a)) ∧ After w w' := by
  have hl2 : Lens 1000000000 a := ⟨by have := hl.1; omega, fun ns hs => ⟨by have := (hl.2 ns hs).1; omega, fun s h => by have := (hl.2 ns hs).2 s h; omega⟩⟩
  have hsz := fun W (hW : After w W) => s_sizes W sv a (h.later hW) hl2
  obtain ⟨f, ⟨ao, cap, rfl, hc⟩, hf⟩ := h
  obtain ⟨hn, hz⟩ := hl
  have hform : ∀ j, j < a.length → (a.getD j []).length ≤ 1048576 ∧ (∀ s ∈ a.getD j [], s.length ≤ 1048576) ∧ (∃ ao' c, f j = .slice ao' (a.getD j []).length c) ∧ StrsU 0 w (f j) (a.getD j []) := fun j hj => by
    obtain ⟨ao', c, e, _⟩ := hf j hj
    have hm := hz (a.getD j []) (by rw [List.getD, List.getElem?_eq_getElem hj]; exact List.getElem_mem hj)
    exact ⟨hm.1, hm.2, ⟨_, _, e⟩, hf j hj⟩
  obtain ⟨r, hr⟩ : ∃ r, r = Asm.ok a := ⟨_, rfl⟩
  rw [← hr]
  rw [Asm.ok_eq] at hr
  have hA := After.new w (.cells #[.slice ao a.length cap] 26)
  have hbox := heap_new' w (.cells #[.slice ao a.length cap] 26)
  obtain ⟨o0, o1, o2⟩ := one_facts hbox (After.refl _)
  have hs1 := hsz _ hA
  obtain ⟨n, hn'⟩ : ∃ n, n = a.length := ⟨_, rfl⟩
  rw [← hn'] at hc hn hform hr hA hbox o0 o1 o2 hs1 ⊢
  have HC := Lib.hid hc
  have HF := Lib.hid hform
  have HR := Lib.hid hr
  clear hc hz hform hf hr hsz hn'
  cases hszv : Asm.sizes a with
  | false =>
    have HR' : Hid (r = false) := by show _ = _; rw [HR.out, hszv, Bool.false_and]
    rw [hszv] at hs1
    clear HR hszv
    go_enter Tryz.func20, Tryz.ntmps20
    go_wp2_with fail
    refine hs1.mono ?_
    rintro e w1 ⟨rfl, hb1⟩
    go_wp2_with fail
    go_ret
    exact ⟨by rw [HR'.out]; rfl, hA.trans hb1⟩
  | true =>
    have HR' : Hid (r = Asm.pfs a n) := by show _ = _; rw [HR.out, hszv, Bool.true_and]
    rw [hszv] at hs1
    clear HR hszv
    go_enter Tryz.func20, Tryz.ntmps20
    go_wp2_with fail
    refine hs1.mono ?_
    rintro e w1 ⟨rfl, hb1⟩
    have hbox' := hb1.heap hbox
    have hA1 := hA.trans hb1
    clear o0 o1 o2 hs1 hbox
    go_wp2_with fail
    go_loopw [3] (fun i wr => ∃ k : Nat, i = .int .i64 k ∧ k ≤ n ∧ Hid (Asm.pfs a k = true) ∧ After w1 wr) (fun i _ => n - (intOf i).toNat)
    case atStart => exact ⟨0, rfl, Nat.zero_le _, by show _ = _; rfl, After.refl _⟩
    case round =>
      obtain ⟨i, rfl, hi, hpf, hAr⟩ := hrel
      obtain ⟨o0, o1, o2⟩ := one_facts hbox' hAr
      by_cases hlt : i < n
      · obtain ⟨b0, off0, rfl, _, h1⟩ := HC.out i hlt
        replace h1 := (hA1.trans hAr).cell h1
        obtain ⟨hm, hsl, ⟨ao', c, e⟩, hst⟩ := HF.out i hlt
        rw [e] at h1 hst
        have hlt' : (i : Int) < (n : Int) := by omega
        obtain ⟨rs, hrs⟩ : ∃ rs, rs = a.getD i [] := ⟨_, rfl⟩
        rw [← hrs] at h1 hm hsl hst
        have HRS := Lib.hid hrs
        have hst' := Lib.hid (RowU.later hst (hA1.trans hAr))
        obtain ⟨m, hmm⟩ : ∃ m, m = rs.length := ⟨_, rfl⟩
        rw [← hmm] at h1 hm hst'
        have HM := Lib.hid hmm
        have HSL := Lib.hid hsl
        clear e hmm hrs hst hsl
        obtain ⟨wa, hwa⟩ : ∃ x, x = wr := ⟨_, rfl⟩
        subst hwa
        go_wp2_with fail
        go_loopw [5] (fun i wr' => ∃ k : Nat, i = .int .i64 k ∧ k ≤ m ∧ Hid (Asm.pfx rs k = true) ∧ After wa wr') (fun i _ => m - (intOf i).toNat)
        case atStart => exact ⟨0, rfl, Nat.zero_le _, by show _ = _; rfl, After.refl _⟩
        case round =>
          obtain ⟨k, rfl, hk, hp, hAi⟩ := hrel
          by_cases hkm : k < m
          · obtain ⟨ao2, c2, e2, hc2⟩ := hst'.out
            simp only [Value.slice.injEq, true_and] at e2
            obtain ⟨rfl, rfl⟩ := e2
            obtain ⟨b, off, rfl, ⟨_, hmc, hcm⟩, hcell⟩ := hc2 k hkm
            obtain ⟨z, hz⟩ : ∃ z, z = rs.getD k [] := ⟨_, rfl⟩
            have hzl : z.length ≤ 1048576 := by
              rw [hz, List.getD, List.getElem?_eq_getElem (by rw [← HM.out]; exact hkm)]
              exact HSL.out _ (List.getElem_mem _)
            replace hcell : wa.cell? ⟨b, off + k, none⟩ = some (str z) := by rw [hz]; exact hcell
            have H1 : Hid (∀ W, After wr W → W.cell? ⟨b, off + k, none⟩ = some (str z)) := fun W hW => (hAi.trans hW).cell hcell
            have hkc : k ≤ c := by omega
            have hhas : ∀ W, After wr W → Calls Tryz.prog 49 #[.slice (some ⟨b, off, none⟩) k c, str z] W fun e w' => e = .returned (.bool (decide (z ∈ rs.take k))) ∧ After W w' := fun W hW => by
              have hT := StrsU.take (ns := rs) (show StrsU 0 wa (.slice (some ⟨b, off, none⟩) m c) rs by have := hst'.out; rw [HM.out] at this ⊢; exact this) HM.out.symm hkm
              exact s_hasU W _ _ z (hT.later (hAi.trans hW)) (by simp; omega)
            have hQ : Hid ((∀ W, Calls Tryz.prog 46 #[str z] W fun e w' => e = .returned (.bool (Tm.pClosed z)) ∧ After W w') ∧ (∀ W, Calls Tryz.prog 47 #[str z] W fun e w' => e = .returned (.bool (Tm.pNormal z)) ∧ After W w') ∧
                (∀ W, Calls Tryz.prog 48 #[str z] W fun e w' => e = .returned (.int .i64 (Tm.pSize z)) ∧ After W w') ∧ (∀ W, After wr W → Calls Tryz.prog 49 #[.slice (some ⟨b, off, none⟩) k c, str z] W fun e w' => e = .returned (.bool (decide (z ∈ rs.take k))) ∧ After W w') ∧ decide (Tm.pSize z > 60) = decide (Tm.pSize z > 60)) :=
              ⟨fun W => spec_closed W z (by omega), fun W => spec_normal W z (by omega), fun W => spec_size W z (by omega), hhas, rfl⟩
            have hst2 : Asm.step rs k = ((Tm.pClosed z && (Tm.pNormal z && !decide (Tm.pSize z > 60))) && !decide (z ∈ rs.take k)) := by
              rw [Asm.step, ← hz, Asm.rz_some, decide_not]
            have hself := (After.refl wr).drew
            have hlk' : (k : Int) < (m : Int) := by omega
            have HFIN : Hid (Asm.step rs k = false → r = false) := fun h => by
              rw [HR'.out]
              refine Asm.pfs_no (k := i) ?_ hlt
              rw [← HRS.out, ← HM.out]
              exact Asm.pfx_no h hkm
            have HS := Lib.hid hst2
            clear hst2 hhas hz hc2 hcell
            obtain ⟨c1, h1⟩ : ∃ c, c = Tm.pClosed z := ⟨_, rfl⟩
            obtain ⟨c2, h2⟩ : ∃ c, c = Tm.pNormal z := ⟨_, rfl⟩
            obtain ⟨c3, h3⟩ : ∃ c, c = decide (Tm.pSize z > 60) := ⟨_, rfl⟩
            obtain ⟨c4, h4⟩ : ∃ c, c = decide (z ∈ rs.take k) := ⟨_, rfl⟩
            rw [← h1, ← h2, ← h3, ← h4] at HS
            have HQ : Hid ((∀ W, Calls Tryz.prog 46 #[str z] W fun e w' => e = .returned (.bool c1) ∧ After W w') ∧ (∀ W, Calls Tryz.prog 47 #[str z] W fun e w' => e = .returned (.bool c2) ∧ After W w') ∧
                (∀ W, Calls Tryz.prog 48 #[str z] W fun e w' => e = .returned (.int .i64 (Tm.pSize z)) ∧ After W w') ∧ (∀ W, After wr W → Calls Tryz.prog 49 #[.slice (some ⟨b, off, none⟩) k c, str z] W fun e w' => e = .returned (.bool c4) ∧ After W w') ∧ decide (Tm.pSize z > 60) = c3) := by
              rw [h1, h2, h3, h4]; exact hQ
            clear h1 h2 h3 h4 hQ
            go_wp2_with fail
            rename_i KK hKK
            cases c1 with
            | false =>
              have HF2 := Lib.hid (HFIN.out (by rw [HS.out]; rfl))
              refine wp_region_reg (by kernel_rfl) (by kernel_rfl) After After.refl (fun _ _ _ h g => h.trans g)
                (yds [.lit (.slice (some ⟨b, off, none⟩) m c), .lit (.int .i64 k), .lit (.pointer (some ⟨b, off + k, none⟩)), .lit (str z), .lit (.bool false), .lit (.bool true), .lit (.bool true), .free, .free, .free, .free, .free, .free, .lit (.bool true), .lit (.bool true), .free, .free, .free, .free, .free, .free, .lit (.bool true), .lit (.bool true), .free, .free, .free, .free, .free, .free, .free, .free, .lit (.bool true)]) yds_later (lt32 ?_ ?_ ?_ ?_ ?_ ?_ ?_ ?_ ?_ ?_ ?_ ?_ ?_ ?_ ?_ ?_ ?_ ?_ ?_ ?_ ?_ ?_ ?_ ?_ ?_ ?_ ?_ ?_ ?_ ?_ ?_ ?_) ?_
              · intro vs W hE hd K hK
                have hE' : After wr W := hself.trans hE
                exact do_r (v := .slice (some ⟨b, off, none⟩) m c) (.lit (.slice (some ⟨b, off, none⟩) m c)) (by kernel_rfl) (wanted_of (by kernel_rfl)) (by kernel_rfl) rfl hK
              · intro vs W hE hd K hK
                have hE' : After wr W := hself.trans hE
                exact do_r (v := .int .i64 k) (.lit (.int .i64 k)) (by kernel_rfl) (wanted_of (by kernel_rfl)) (by kernel_rfl) rfl hK
              · intro vs W hE hd K hK
                have hE' : After wr W := hself.trans hE
                exact do_r (v := .pointer (some ⟨b, off + k, none⟩)) (.lit (.pointer (some ⟨b, off + k, none⟩))) (by kernel_rfl) (wanted_of (by kernel_rfl)) (run_ixs (x := .tmp 27) (y := .tmp 28) (u := vs 0) (u' := vs 1) (by kernel_rfl) (by kernel_rfl) (hd 0 (by kernel_rfl)) (by kernel_rfl) (hd 1 (by kernel_rfl)) hkm) rfl hK
              · intro vs W hE hd K hK
                have hE' : After wr W := hself.trans hE
                exact do_r (v := str z) (.lit (str z)) (by kernel_rfl) (wanted_of (by kernel_rfl)) (run_lds (x := .tmp 29) (u := vs 2) (by kernel_rfl) (by kernel_rfl) (hd 2 (by kernel_rfl)) (H1.out W hE')) rfl hK
              · intro vs W hE hd K hK
                have hE' : After wr W := hself.trans hE
                exact do_c (v := .bool false) (f := 46) (args := #[vs 3]) (by kernel_rfl) (wanted_of (by kernel_rfl)) (by kernel_rfl) (by rw [show vs 3 = str z from hd 3 (by kernel_rfl)]; exact HQ.out.1 W) hK
              · intro vs W hE hd K hK
                have hE' : After wr W := hself.trans hE
                exact do_r (v := .bool (!false)) (.lit (.bool true)) (by kernel_rfl) (wanted_of (by kernel_rfl)) (run_not (T := 4) (x := .tmp 31) (u := vs 4) (b := false) (by kernel_rfl) (by kernel_rfl) (hd 4 (by kernel_rfl))) rfl hK
              · intro vs W hE hd K hK
                have hE' : After wr W := hself.trans hE
                exact do_r (v := vs 5) (.lit (.bool true)) (by kernel_rfl) (wanted_of (by kernel_rfl)) (by kernel_rfl) (hd 5 (by kernel_rfl)) hK
              · intro vs W hE hd K hK
                have hE' : After wr W := hself.trans hE
                exact do_offg (j := 6) (b := false) (c := true) (u := vs 6) (by kernel_rfl) (by kernel_rfl) (by kernel_rfl) (hd 6 (by kernel_rfl)) (by decide) hK
              · intro vs W hE hd K hK
                have hE' : After wr W := hself.trans hE
                exact do_offg (j := 6) (b := false) (c := true) (u := vs 6) (by kernel_rfl) (by kernel_rfl) (by kernel_rfl) (hd 6 (by kernel_rfl)) (by decide) hK
              · intro vs W hE hd K hK
                have hE' : After wr W := hself.trans hE
                exact do_offg (j := 6) (b := false) (c := true) (u := vs 6) (by kernel_rfl) (by kernel_rfl) (by kernel_rfl) (hd 6 (by kernel_rfl)) (by decide) hK
              · intro vs W hE hd K hK
                have hE' : After wr W := hself.trans hE
                exact do_offg (j := 6) (b := false) (c := true) (u := vs 6) (by kernel_rfl) (by kernel_rfl) (by kernel_rfl) (hd 6 (by kernel_rfl)) (by decide) hK
              · intro vs W hE hd K hK
                have hE' : After wr W := hself.trans hE
                exact do_offg (j := 6) (b := false) (c := true) (u := vs 6) (by kernel_rfl) (by kernel_rfl) (by kernel_rfl) (hd 6 (by kernel_rfl)) (by decide) hK
              · intro vs W hE hd K hK
                have hE' : After wr W := hself.trans hE
                exact do_offg (j := 6) (b := false) (c := true) (u := vs 6) (by kernel_rfl) (by kernel_rfl) (by kernel_rfl) (hd 6 (by kernel_rfl)) (by decide) hK
              · intro vs W hE hd K hK
                have hE' : After wr W := hself.trans hE
                exact do_pick (c := .tmp 33) (x := .const (.bool true)) (y := .tmp 39) (u := vs 6) (p := true) (r := .bool true) (by kernel_rfl) (by kernel_rfl) (by kernel_rfl) (by kernel_rfl) (hd 6 (by kernel_rfl)) (by rw [if_pos rfl]; rfl) hK
              · intro vs W hE hd K hK
                have hE' : After wr W := hself.trans hE
                exact do_r (v := vs 13) (.lit (.bool true)) (by kernel_rfl) (wanted_of (by kernel_rfl)) (by kernel_rfl) (hd 13 (by kernel_rfl)) hK
              · intro vs W hE hd K hK
                have hE' : After wr W := hself.trans hE
                exact do_offg (j := 14) (b := false) (c := true) (u := vs 14) (by kernel_rfl) (by kernel_rfl) (by kernel_rfl) (hd 14 (by kernel_rfl)) (by decide) hK
              · intro vs W hE hd K hK
                have hE' : After wr W := hself.trans hE
                exact do_offg (j := 14) (b := false) (c := true) (u := vs 14) (by kernel_rfl) (by kernel_rfl) (by kernel_rfl) (hd 14 (by kernel_rfl)) (by decide) hK
              · intro vs W hE hd K hK
                have hE' : After wr W := hself.trans hE
                exact do_offg (j := 14) (b := false) (c := true) (u := vs 14) (by kernel_rfl) (by kernel_rfl) (by kernel_rfl) (hd 14 (by kernel_rfl)) (by decide) hK
              · intro vs W hE hd K hK
                have hE' : After wr W := hself.trans hE
                exact do_offg (j := 14) (b := false) (c := true) (u := vs 14) (by kernel_rfl) (by kernel_rfl) (by kernel_rfl) (hd 14 (by kernel_rfl)) (by decide) hK
              · intro vs W hE hd K hK
                have hE' : After wr W := hself.trans hE
                exact do_offg (j := 14) (b := false) (c := true) (u := vs 14) (by kernel_rfl) (by kernel_rfl) (by kernel_rfl) (hd 14 (by kernel_rfl)) (by decide) hK
              · intro vs W hE hd K hK
                have hE' : After wr W := hself.trans hE
                exact do_offg (j := 14) (b := false) (c := true) (u := vs 14) (by kernel_rfl) (by kernel_rfl) (by kernel_rfl) (hd 14 (by kernel_rfl)) (by decide) hK
              · intro vs W hE hd K hK
                have hE' : After wr W := hself.trans hE
                exact do_pick (c := .tmp 41) (x := .const (.bool true)) (y := .tmp 47) (u := vs 14) (p := true) (r := .bool true) (by kernel_rfl) (by kernel_rfl) (by kernel_rfl) (by kernel_rfl) (hd 14 (by kernel_rfl)) (by rw [if_pos rfl]; rfl) hK
              · intro vs W hE hd K hK
                have hE' : After wr W := hself.trans hE
                exact do_r (v := vs 21) (.lit (.bool true)) (by kernel_rfl) (wanted_of (by kernel_rfl)) (by kernel_rfl) (hd 21 (by kernel_rfl)) hK
              · intro vs W hE hd K hK
                have hE' : After wr W := hself.trans hE
                exact do_offg (j := 22) (b := false) (c := true) (u := vs 22) (by kernel_rfl) (by kernel_rfl) (by kernel_rfl) (hd 22 (by kernel_rfl)) (by decide) hK
              · intro vs W hE hd K hK
                have hE' : After wr W := hself.trans hE
                exact do_offg (j := 22) (b := false) (c := true) (u := vs 22) (by kernel_rfl) (by kernel_rfl) (by kernel_rfl) (hd 22 (by kernel_rfl)) (by decide) hK
              · intro vs W hE hd K hK
                have hE' : After wr W := hself.trans hE
                exact do_offg (j := 22) (b := false) (c := true) (u := vs 22) (by kernel_rfl) (by kernel_rfl) (by kernel_rfl) (hd 22 (by kernel_rfl)) (by decide) hK
              · intro vs W hE hd K hK
                have hE' : After wr W := hself.trans hE
                exact do_offg (j := 22) (b := false) (c := true) (u := vs 22) (by kernel_rfl) (by kernel_rfl) (by kernel_rfl) (hd 22 (by kernel_rfl)) (by decide) hK
              · intro vs W hE hd K hK
                have hE' : After wr W := hself.trans hE
                exact do_offg (j := 22) (b := false) (c := true) (u := vs 22) (by kernel_rfl) (by kernel_rfl) (by kernel_rfl) (hd 22 (by kernel_rfl)) (by decide) hK
              · intro vs W hE hd K hK
                have hE' : After wr W := hself.trans hE
                exact do_offg (j := 22) (b := false) (c := true) (u := vs 22) (by kernel_rfl) (by kernel_rfl) (by kernel_rfl) (hd 22 (by kernel_rfl)) (by decide) hK
              · intro vs W hE hd K hK
                have hE' : After wr W := hself.trans hE
                exact do_offg (j := 22) (b := false) (c := true) (u := vs 22) (by kernel_rfl) (by kernel_rfl) (by kernel_rfl) (hd 22 (by kernel_rfl)) (by decide) hK
              · intro vs W hE hd K hK
                have hE' : After wr W := hself.trans hE
                exact do_offg (j := 22) (b := false) (c := true) (u := vs 22) (by kernel_rfl) (by kernel_rfl) (by kernel_rfl) (hd 22 (by kernel_rfl)) (by decide) hK
              · intro vs W hE hd K hK
                have hE' : After wr W := hself.trans hE
                exact do_pick (c := .tmp 49) (x := .const (.bool true)) (y := .tmp 57) (u := vs 22) (p := true) (r := .bool true) (by kernel_rfl) (by kernel_rfl) (by kernel_rfl) (by kernel_rfl) (hd 22 (by kernel_rfl)) (by rw [if_pos rfl]; rfl) hK
              intro vs W hE hd
              have hE' : After wr W := hself.trans hE
              have er : vs 31 = .bool true := hd 31 (by decide)
              refine hKK _ _ ?_
              rw [frame_all 27 32 (by kernel_rfl) (by kernel_rfl), lit_59_27_32, er]
              clear er hd
              generalize vs 0 = y0 at *
              generalize vs 1 = y1 at *
              generalize vs 2 = y2 at *
              generalize vs 3 = y3 at *
              generalize vs 4 = y4 at *
              generalize vs 5 = y5 at *
              generalize vs 6 = y6 at *
              generalize vs 7 = y7 at *
              generalize vs 8 = y8 at *
              generalize vs 9 = y9 at *
              generalize vs 10 = y10 at *
              generalize vs 11 = y11 at *
              generalize vs 12 = y12 at *
              generalize vs 13 = y13 at *
              generalize vs 14 = y14 at *
              generalize vs 15 = y15 at *
              generalize vs 16 = y16 at *
              generalize vs 17 = y17 at *
              generalize vs 18 = y18 at *
              generalize vs 19 = y19 at *
              generalize vs 20 = y20 at *
              generalize vs 21 = y21 at *
              generalize vs 22 = y22 at *
              generalize vs 23 = y23 at *
              generalize vs 24 = y24 at *
              generalize vs 25 = y25 at *
              generalize vs 26 = y26 at *
              generalize vs 27 = y27 at *
              generalize vs 28 = y28 at *
              generalize vs 29 = y29 at *
              generalize vs 30 = y30 at *
              go_wp2_with fail
              go_ret
              exact ⟨by rw [HF2.out]; rfl, hA1.trans (hAr.trans (hAi.trans hE'))⟩
            | true =>
              cases c2 with
              | false =>
                have HF2 := Lib.hid (HFIN.out (by rw [HS.out]; rfl))
                refine wp_region_reg (by kernel_rfl) (by kernel_rfl) After After.refl (fun _ _ _ h g => h.trans g)
                  (yds [.lit (.slice (some ⟨b, off, none⟩) m c), .lit (.int .i64 k), .lit (.pointer (some ⟨b, off + k, none⟩)), .lit (str z), .lit (.bool true), .lit (.bool false), .lit (.bool false), .lit (.slice (some ⟨b, off, none⟩) m c), .lit (.int .i64 k), .lit (.pointer (some ⟨b, off + k, none⟩)), .lit (str z), .lit (.bool false), .lit (.bool true), .lit (.bool true), .lit (.bool true), .free, .free, .free, .free, .free, .free, .lit (.bool true), .lit (.bool true), .free, .free, .free, .free, .free, .free, .free, .free, .lit (.bool true)]) yds_later (lt32 ?_ ?_ ?_ ?_ ?_ ?_ ?_ ?_ ?_ ?_ ?_ ?_ ?_ ?_ ?_ ?_ ?_ ?_ ?_ ?_ ?_ ?_ ?_ ?_ ?_ ?_ ?_ ?_ ?_ ?_ ?_ ?_) ?_
                · intro vs W hE hd K hK
                  have hE' : After wr W := hself.trans hE
                  exact do_r (v := .slice (some ⟨b, off, none⟩) m c) (.lit (.slice (some ⟨b, off, none⟩) m c)) (by kernel_rfl) (wanted_of (by kernel_rfl)) (by kernel_rfl) rfl hK
                · intro vs W hE hd K hK
                  have hE' : After wr W := hself.trans hE
                  exact do_r (v := .int .i64 k) (.lit (.int .i64 k)) (by kernel_rfl) (wanted_of (by kernel_rfl)) (by kernel_rfl) rfl hK
                · intro vs W hE hd K hK
                  have hE' : After wr W := hself.trans hE
                  exact do_r (v := .pointer (some ⟨b, off + k, none⟩)) (.lit (.pointer (some ⟨b, off + k, none⟩))) (by kernel_rfl) (wanted_of (by kernel_rfl)) (run_ixs (x := .tmp 27) (y := .tmp 28) (u := vs 0) (u' := vs 1) (by kernel_rfl) (by kernel_rfl) (hd 0 (by kernel_rfl)) (by kernel_rfl) (hd 1 (by kernel_rfl)) hkm) rfl hK
                · intro vs W hE hd K hK
                  have hE' : After wr W := hself.trans hE
                  exact do_r (v := str z) (.lit (str z)) (by kernel_rfl) (wanted_of (by kernel_rfl)) (run_lds (x := .tmp 29) (u := vs 2) (by kernel_rfl) (by kernel_rfl) (hd 2 (by kernel_rfl)) (H1.out W hE')) rfl hK
                · intro vs W hE hd K hK
                  have hE' : After wr W := hself.trans hE
                  exact do_c (v := .bool true) (f := 46) (args := #[vs 3]) (by kernel_rfl) (wanted_of (by kernel_rfl)) (by kernel_rfl) (by rw [show vs 3 = str z from hd 3 (by kernel_rfl)]; exact HQ.out.1 W) hK
                · intro vs W hE hd K hK
                  have hE' : After wr W := hself.trans hE
                  exact do_r (v := .bool (!true)) (.lit (.bool false)) (by kernel_rfl) (wanted_of (by kernel_rfl)) (run_not (T := 4) (x := .tmp 31) (u := vs 4) (b := true) (by kernel_rfl) (by kernel_rfl) (hd 4 (by kernel_rfl))) rfl hK
                · intro vs W hE hd K hK
                  have hE' : After wr W := hself.trans hE
                  exact do_r (v := vs 5) (.lit (.bool false)) (by kernel_rfl) (wanted_of (by kernel_rfl)) (by kernel_rfl) (hd 5 (by kernel_rfl)) hK
                · intro vs W hE hd K hK
                  have hE' : After wr W := hself.trans hE
                  exact do_r (v := .slice (some ⟨b, off, none⟩) m c) (.lit (.slice (some ⟨b, off, none⟩) m c)) (by kernel_rfl) (wanted_on (j := 6) (b := false) (u := vs 6) (by kernel_rfl) (by kernel_rfl) (hd 6 (by kernel_rfl))) (by kernel_rfl) rfl hK
                · intro vs W hE hd K hK
                  have hE' : After wr W := hself.trans hE
                  exact do_r (v := .int .i64 k) (.lit (.int .i64 k)) (by kernel_rfl) (wanted_on (j := 6) (b := false) (u := vs 6) (by kernel_rfl) (by kernel_rfl) (hd 6 (by kernel_rfl))) (by kernel_rfl) rfl hK
                · intro vs W hE hd K hK
                  have hE' : After wr W := hself.trans hE
                  exact do_r (v := .pointer (some ⟨b, off + k, none⟩)) (.lit (.pointer (some ⟨b, off + k, none⟩))) (by kernel_rfl) (wanted_on (j := 6) (b := false) (u := vs 6) (by kernel_rfl) (by kernel_rfl) (hd 6 (by kernel_rfl))) (run_ixs (x := .tmp 34) (y := .tmp 35) (u := vs 7) (u' := vs 8) (by kernel_rfl) (by kernel_rfl) (hd 7 (by kernel_rfl)) (by kernel_rfl) (hd 8 (by kernel_rfl)) hkm) rfl hK
                · intro vs W hE hd K hK
                  have hE' : After wr W := hself.trans hE
                  exact do_r (v := str z) (.lit (str z)) (by kernel_rfl) (wanted_on (j := 6) (b := false) (u := vs 6) (by kernel_rfl) (by kernel_rfl) (hd 6 (by kernel_rfl))) (run_lds (x := .tmp 36) (u := vs 9) (by kernel_rfl) (by kernel_rfl) (hd 9 (by kernel_rfl)) (H1.out W hE')) rfl hK
                · intro vs W hE hd K hK
                  have hE' : After wr W := hself.trans hE
                  exact do_c (v := .bool false) (f := 47) (args := #[vs 10]) (by kernel_rfl) (wanted_on (j := 6) (b := false) (u := vs 6) (by kernel_rfl) (by kernel_rfl) (hd 6 (by kernel_rfl))) (by kernel_rfl) (by rw [show vs 10 = str z from hd 10 (by kernel_rfl)]; exact HQ.out.2.1 W) hK
                · intro vs W hE hd K hK
                  have hE' : After wr W := hself.trans hE
                  exact do_r (v := .bool (!false)) (.lit (.bool true)) (by kernel_rfl) (wanted_on (j := 6) (b := false) (u := vs 6) (by kernel_rfl) (by kernel_rfl) (hd 6 (by kernel_rfl))) (run_not (T := 4) (x := .tmp 38) (u := vs 11) (b := false) (by kernel_rfl) (by kernel_rfl) (hd 11 (by kernel_rfl))) rfl hK
                · intro vs W hE hd K hK
                  have hE' : After wr W := hself.trans hE
                  exact do_pick (c := .tmp 33) (x := .const (.bool true)) (y := .tmp 39) (u := vs 6) (p := false) (r := .bool true) (by kernel_rfl) (by kernel_rfl) (by kernel_rfl) (by kernel_rfl) (hd 6 (by kernel_rfl)) (by rw [if_neg (by decide)]; exact Eq.trans (by kernel_rfl : _ = vs 12) (hd 12 (by kernel_rfl))) hK
                · intro vs W hE hd K hK
                  have hE' : After wr W := hself.trans hE
                  exact do_r (v := vs 13) (.lit (.bool true)) (by kernel_rfl) (wanted_of (by kernel_rfl)) (by kernel_rfl) (hd 13 (by kernel_rfl)) hK
                · intro vs W hE hd K hK
                  have hE' : After wr W := hself.trans hE
                  exact do_offg (j := 14) (b := false) (c := true) (u := vs 14) (by kernel_rfl) (by kernel_rfl) (by kernel_rfl) (hd 14 (by kernel_rfl)) (by decide) hK
                · intro vs W hE hd K hK
                  have hE' : After wr W := hself.trans hE
                  exact do_offg (j := 14) (b := false) (c := true) (u := vs 14) (by kernel_rfl) (by kernel_rfl) (by kernel_rfl) (hd 14 (by kernel_rfl)) (by decide) hK
                · intro vs W hE hd K hK
                  have hE' : After wr W := hself.trans hE
                  exact do_offg (j := 14) (b := false) (c := true) (u := vs 14) (by kernel_rfl) (by kernel_rfl) (by kernel_rfl) (hd 14 (by kernel_rfl)) (by decide) hK
                · intro vs W hE hd K hK
                  have hE' : After wr W := hself.trans hE
                  exact do_offg (j := 14) (b := false) (c := true) (u := vs 14) (by kernel_rfl) (by kernel_rfl) (by kernel_rfl) (hd 14 (by kernel_rfl)) (by decide) hK
                · intro vs W hE hd K hK
                  have hE' : After wr W := hself.trans hE
                  exact do_offg (j := 14) (b := false) (c := true) (u := vs 14) (by kernel_rfl) (by kernel_rfl) (by kernel_rfl) (hd 14 (by kernel_rfl)) (by decide) hK
                · intro vs W hE hd K hK
                  have hE' : After wr W := hself.trans hE
                  exact do_offg (j := 14) (b := false) (c := true) (u := vs 14) (by kernel_rfl) (by kernel_rfl) (by kernel_rfl) (hd 14 (by kernel_rfl)) (by decide) hK
                · intro vs W hE hd K hK
                  have hE' : After wr W := hself.trans hE
                  exact do_pick (c := .tmp 41) (x := .const (.bool true)) (y := .tmp 47) (u := vs 14) (p := true) (r := .bool true) (by kernel_rfl) (by kernel_rfl) (by kernel_rfl) (by kernel_rfl) (hd 14 (by kernel_rfl)) (by rw [if_pos rfl]; rfl) hK
                · intro vs W hE hd K hK
                  have hE' : After wr W := hself.trans hE
                  exact do_r (v := vs 21) (.lit (.bool true)) (by kernel_rfl) (wanted_of (by kernel_rfl)) (by kernel_rfl) (hd 21 (by kernel_rfl)) hK
                · intro vs W hE hd K hK
                  have hE' : After wr W := hself.trans hE
                  exact do_offg (j := 22) (b := false) (c := true) (u := vs 22) (by kernel_rfl) (by kernel_rfl) (by kernel_rfl) (hd 22 (by kernel_rfl)) (by decide) hK
                · intro vs W hE hd K hK
                  have hE' : After wr W := hself.trans hE
                  exact do_offg (j := 22) (b := false) (c := true) (u := vs 22) (by kernel_rfl) (by kernel_rfl) (by kernel_rfl) (hd 22 (by kernel_rfl)) (by decide) hK
                · intro vs W hE hd K hK
                  have hE' : After wr W := hself.trans hE
                  exact do_offg (j := 22) (b := false) (c := true) (u := vs 22) (by kernel_rfl) (by kernel_rfl) (by kernel_rfl) (hd 22 (by kernel_rfl)) (by decide) hK
                · intro vs W hE hd K hK
                  have hE' : After wr W := hself.trans hE
                  exact do_offg (j := 22) (b := false) (c := true) (u := vs 22) (by kernel_rfl) (by kernel_rfl) (by kernel_rfl) (hd 22 (by kernel_rfl)) (by decide) hK
                · intro vs W hE hd K hK
                  have hE' : After wr W := hself.trans hE
                  exact do_offg (j := 22) (b := false) (c := true) (u := vs 22) (by kernel_rfl) (by kernel_rfl) (by kernel_rfl) (hd 22 (by kernel_rfl)) (by decide) hK
                · intro vs W hE hd K hK
                  have hE' : After wr W := hself.trans hE
                  exact do_offg (j := 22) (b := false) (c := true) (u := vs 22) (by kernel_rfl) (by kernel_rfl) (by kernel_rfl) (hd 22 (by kernel_rfl)) (by decide) hK
                · intro vs W hE hd K hK
                  have hE' : After wr W := hself.trans hE
                  exact do_offg (j := 22) (b := false) (c := true) (u := vs 22) (by kernel_rfl) (by kernel_rfl) (by kernel_rfl) (hd 22 (by kernel_rfl)) (by decide) hK
                · intro vs W hE hd K hK
                  have hE' : After wr W := hself.trans hE
                  exact do_offg (j := 22) (b := false) (c := true) (u := vs 22) (by kernel_rfl) (by kernel_rfl) (by kernel_rfl) (hd 22 (by kernel_rfl)) (by decide) hK
                · intro vs W hE hd K hK
                  have hE' : After wr W := hself.trans hE
                  exact do_pick (c := .tmp 49) (x := .const (.bool true)) (y := .tmp 57) (u := vs 22) (p := true) (r := .bool true) (by kernel_rfl) (by kernel_rfl) (by kernel_rfl) (by kernel_rfl) (hd 22 (by kernel_rfl)) (by rw [if_pos rfl]; rfl) hK
                intro vs W hE hd
                have hE' : After wr W := hself.trans hE
                have er : vs 31 = .bool true := hd 31 (by decide)
                refine hKK _ _ ?_
                rw [frame_all 27 32 (by kernel_rfl) (by kernel_rfl), lit_59_27_32, er]
                clear er hd
                generalize vs 0 = y0 at *
                generalize vs 1 = y1 at *
                generalize vs 2 = y2 at *
                generalize vs 3 = y3 at *
                generalize vs 4 = y4 at *
                generalize vs 5 = y5 at *
                generalize vs 6 = y6 at *
                generalize vs 7 = y7 at *
                generalize vs 8 = y8 at *
                generalize vs 9 = y9 at *
                generalize vs 10 = y10 at *
                generalize vs 11 = y11 at *
                generalize vs 12 = y12 at *
                generalize vs 13 = y13 at *
                generalize vs 14 = y14 at *
                generalize vs 15 = y15 at *
                generalize vs 16 = y16 at *
                generalize vs 17 = y17 at *
                generalize vs 18 = y18 at *
                generalize vs 19 = y19 at *
                generalize vs 20 = y20 at *
                generalize vs 21 = y21 at *
                generalize vs 22 = y22 at *
                generalize vs 23 = y23 at *
                generalize vs 24 = y24 at *
                generalize vs 25 = y25 at *
                generalize vs 26 = y26 at *
                generalize vs 27 = y27 at *
                generalize vs 28 = y28 at *
                generalize vs 29 = y29 at *
                generalize vs 30 = y30 at *
                go_wp2_with fail
                go_ret
                exact ⟨by rw [HF2.out]; rfl, hA1.trans (hAr.trans (hAi.trans hE'))⟩
              | true =>
                cases c3 with
                | true =>
                  have HF2 := Lib.hid (HFIN.out (by rw [HS.out]; rfl))
                  refine wp_region_reg (by kernel_rfl) (by kernel_rfl) After After.refl (fun _ _ _ h g => h.trans g)
                    (yds [.lit (.slice (some ⟨b, off, none⟩) m c), .lit (.int .i64 k), .lit (.pointer (some ⟨b, off + k, none⟩)), .lit (str z), .lit (.bool true), .lit (.bool false), .lit (.bool false), .lit (.slice (some ⟨b, off, none⟩) m c), .lit (.int .i64 k), .lit (.pointer (some ⟨b, off + k, none⟩)), .lit (str z), .lit (.bool true), .lit (.bool false), .lit (.bool false), .lit (.bool false), .lit (.slice (some ⟨b, off, none⟩) m c), .lit (.int .i64 k), .lit (.pointer (some ⟨b, off + k, none⟩)), .lit (str z), .lit (.int .i64 (Tm.pSize z)), .lit (.bool true), .lit (.bool true), .lit (.bool true), .free, .free, .free, .free, .free, .free, .free, .free, .lit (.bool true)]) yds_later (lt32 ?_ ?_ ?_ ?_ ?_ ?_ ?_ ?_ ?_ ?_ ?_ ?_ ?_ ?_ ?_ ?_ ?_ ?_ ?_ ?_ ?_ ?_ ?_ ?_ ?_ ?_ ?_ ?_ ?_ ?_ ?_ ?_) ?_
                  · intro vs W hE hd K hK
                    have hE' : After wr W := hself.trans hE
                    exact do_r (v := .slice (some ⟨b, off, none⟩) m c) (.lit (.slice (some ⟨b, off, none⟩) m c)) (by kernel_rfl) (wanted_of (by kernel_rfl)) (by kernel_rfl) rfl hK
                  · intro vs W hE hd K hK
                    have hE' : After wr W := hself.trans hE
                    exact do_r (v := .int .i64 k) (.lit (.int .i64 k)) (by kernel_rfl) (wanted_of (by kernel_rfl)) (by kernel_rfl) rfl hK
                  · intro vs W hE hd K hK
                    have hE' : After wr W := hself.trans hE
                    exact do_r (v := .pointer (some ⟨b, off + k, none⟩)) (.lit (.pointer (some ⟨b, off + k, none⟩))) (by kernel_rfl) (wanted_of (by kernel_rfl)) (run_ixs (x := .tmp 27) (y := .tmp 28) (u := vs 0) (u' := vs 1) (by kernel_rfl) (by kernel_rfl) (hd 0 (by kernel_rfl)) (by kernel_rfl) (hd 1 (by kernel_rfl)) hkm) rfl hK
                  · intro vs W hE hd K hK
                    have hE' : After wr W := hself.trans hE
                    exact do_r (v := str z) (.lit (str z)) (by kernel_rfl) (wanted_of (by kernel_rfl)) (run_lds (x := .tmp 29) (u := vs 2) (by kernel_rfl) (by kernel_rfl) (hd 2 (by kernel_rfl)) (H1.out W hE')) rfl hK
                  · intro vs W hE hd K hK
                    have hE' : After wr W := hself.trans hE
                    exact do_c (v := .bool true) (f := 46) (args := #[vs 3]) (by kernel_rfl) (wanted_of (by kernel_rfl)) (by kernel_rfl) (by rw [show vs 3 = str z from hd 3 (by kernel_rfl)]; exact HQ.out.1 W) hK
                  · intro vs W hE hd K hK
                    have hE' : After wr W := hself.trans hE
                    exact do_r (v := .bool (!true)) (.lit (.bool false)) (by kernel_rfl) (wanted_of (by kernel_rfl)) (run_not (T := 4) (x := .tmp 31) (u := vs 4) (b := true) (by kernel_rfl) (by kernel_rfl) (hd 4 (by kernel_rfl))) rfl hK
                  · intro vs W hE hd K hK
                    have hE' : After wr W := hself.trans hE
                    exact do_r (v := vs 5) (.lit (.bool false)) (by kernel_rfl) (wanted_of (by kernel_rfl)) (by kernel_rfl) (hd 5 (by kernel_rfl)) hK
                  · intro vs W hE hd K hK
                    have hE' : After wr W := hself.trans hE
                    exact do_r (v := .slice (some ⟨b, off, none⟩) m c) (.lit (.slice (some ⟨b, off, none⟩) m c)) (by kernel_rfl) (wanted_on (j := 6) (b := false) (u := vs 6) (by kernel_rfl) (by kernel_rfl) (hd 6 (by kernel_rfl))) (by kernel_rfl) rfl hK
                  · intro vs W hE hd K hK
                    have hE' : After wr W := hself.trans hE
                    exact do_r (v := .int .i64 k) (.lit (.int .i64 k)) (by kernel_rfl) (wanted_on (j := 6) (b := false) (u := vs 6) (by kernel_rfl) (by kernel_rfl) (hd 6 (by kernel_rfl))) (by kernel_rfl) rfl hK
                  · intro vs W hE hd K hK
                    have hE' : After wr W := hself.trans hE
                    exact do_r (v := .pointer (some ⟨b, off + k, none⟩)) (.lit (.pointer (some ⟨b, off + k, none⟩))) (by kernel_rfl) (wanted_on (j := 6) (b := false) (u := vs 6) (by kernel_rfl) (by kernel_rfl) (hd 6 (by kernel_rfl))) (run_ixs (x := .tmp 34) (y := .tmp 35) (u := vs 7) (u' := vs 8) (by kernel_rfl) (by kernel_rfl) (hd 7 (by kernel_rfl)) (by kernel_rfl) (hd 8 (by kernel_rfl)) hkm) rfl hK
                  · intro vs W hE hd K hK
                    have hE' : After wr W := hself.trans hE
                    exact do_r (v := str z) (.lit (str z)) (by kernel_rfl) (wanted_on (j := 6) (b := false) (u := vs 6) (by kernel_rfl) (by kernel_rfl) (hd 6 (by kernel_rfl))) (run_lds (x := .tmp 36) (u := vs 9) (by kernel_rfl) (by kernel_rfl) (hd 9 (by kernel_rfl)) (H1.out W hE')) rfl hK
                  · intro vs W hE hd K hK
                    have hE' : After wr W := hself.trans hE
                    exact do_c (v := .bool true) (f := 47) (args := #[vs 10]) (by kernel_rfl) (wanted_on (j := 6) (b := false) (u := vs 6) (by kernel_rfl) (by kernel_rfl) (hd 6 (by kernel_rfl))) (by kernel_rfl) (by rw [show vs 10 = str z from hd 10 (by kernel_rfl)]; exact HQ.out.2.1 W) hK
                  · intro vs W hE hd K hK
                    have hE' : After wr W := hself.trans hE
                    exact do_r (v := .bool (!true)) (.lit (.bool false)) (by kernel_rfl) (wanted_on (j := 6) (b := false) (u := vs 6) (by kernel_rfl) (by kernel_rfl) (hd 6 (by kernel_rfl))) (run_not (T := 4) (x := .tmp 38) (u := vs 11) (b := true) (by kernel_rfl) (by kernel_rfl) (hd 11 (by kernel_rfl))) rfl hK
                  · intro vs W hE hd K hK
                    have hE' : After wr W := hself.trans hE
                    exact do_pick (c := .tmp 33) (x := .const (.bool true)) (y := .tmp 39) (u := vs 6) (p := false) (r := .bool false) (by kernel_rfl) (by kernel_rfl) (by kernel_rfl) (by kernel_rfl) (hd 6 (by kernel_rfl)) (by rw [if_neg (by decide)]; exact Eq.trans (by kernel_rfl : _ = vs 12) (hd 12 (by kernel_rfl))) hK
                  · intro vs W hE hd K hK
                    have hE' : After wr W := hself.trans hE
                    exact do_r (v := vs 13) (.lit (.bool false)) (by kernel_rfl) (wanted_of (by kernel_rfl)) (by kernel_rfl) (hd 13 (by kernel_rfl)) hK
                  · intro vs W hE hd K hK
                    have hE' : After wr W := hself.trans hE
                    exact do_r (v := .slice (some ⟨b, off, none⟩) m c) (.lit (.slice (some ⟨b, off, none⟩) m c)) (by kernel_rfl) (wanted_on (j := 14) (b := false) (u := vs 14) (by kernel_rfl) (by kernel_rfl) (hd 14 (by kernel_rfl))) (by kernel_rfl) rfl hK
                  · intro vs W hE hd K hK
                    have hE' : After wr W := hself.trans hE
                    exact do_r (v := .int .i64 k) (.lit (.int .i64 k)) (by kernel_rfl) (wanted_on (j := 14) (b := false) (u := vs 14) (by kernel_rfl) (by kernel_rfl) (hd 14 (by kernel_rfl))) (by kernel_rfl) rfl hK
                  · intro vs W hE hd K hK
                    have hE' : After wr W := hself.trans hE
                    exact do_r (v := .pointer (some ⟨b, off + k, none⟩)) (.lit (.pointer (some ⟨b, off + k, none⟩))) (by kernel_rfl) (wanted_on (j := 14) (b := false) (u := vs 14) (by kernel_rfl) (by kernel_rfl) (hd 14 (by kernel_rfl))) (run_ixs (x := .tmp 42) (y := .tmp 43) (u := vs 15) (u' := vs 16) (by kernel_rfl) (by kernel_rfl) (hd 15 (by kernel_rfl)) (by kernel_rfl) (hd 16 (by kernel_rfl)) hkm) rfl hK
                  · intro vs W hE hd K hK
                    have hE' : After wr W := hself.trans hE
                    exact do_r (v := str z) (.lit (str z)) (by kernel_rfl) (wanted_on (j := 14) (b := false) (u := vs 14) (by kernel_rfl) (by kernel_rfl) (hd 14 (by kernel_rfl))) (run_lds (x := .tmp 44) (u := vs 17) (by kernel_rfl) (by kernel_rfl) (hd 17 (by kernel_rfl)) (H1.out W hE')) rfl hK
                  · intro vs W hE hd K hK
                    have hE' : After wr W := hself.trans hE
                    exact do_c (v := .int .i64 (Tm.pSize z)) (f := 48) (args := #[vs 18]) (by kernel_rfl) (wanted_on (j := 14) (b := false) (u := vs 14) (by kernel_rfl) (by kernel_rfl) (hd 14 (by kernel_rfl))) (by kernel_rfl) (by rw [show vs 18 = str z from hd 18 (by kernel_rfl)]; exact HQ.out.2.2.1 W) hK
                  · intro vs W hE hd K hK
                    have hE' : After wr W := hself.trans hE
                    exact do_r (v := .bool (decide ((Tm.pSize z) > 60))) (.lit (.bool true)) (by kernel_rfl) (wanted_on (j := 14) (b := false) (u := vs 14) (by kernel_rfl) (by kernel_rfl) (hd 14 (by kernel_rfl))) (run_gtr (T := 3) (T' := 3) (x := .tmp 46) (u := vs 19) (n := (Tm.pSize z)) (c := 60) (by kernel_rfl) (by kernel_rfl) (hd 19 (by kernel_rfl))) (congrArg Value.bool HQ.out.2.2.2.2) hK
                  · intro vs W hE hd K hK
                    have hE' : After wr W := hself.trans hE
                    exact do_pick (c := .tmp 41) (x := .const (.bool true)) (y := .tmp 47) (u := vs 14) (p := false) (r := .bool true) (by kernel_rfl) (by kernel_rfl) (by kernel_rfl) (by kernel_rfl) (hd 14 (by kernel_rfl)) (by rw [if_neg (by decide)]; exact Eq.trans (by kernel_rfl : _ = vs 20) (hd 20 (by kernel_rfl))) hK
                  · intro vs W hE hd K hK
                    have hE' : After wr W := hself.trans hE
                    exact do_r (v := vs 21) (.lit (.bool true)) (by kernel_rfl) (wanted_of (by kernel_rfl)) (by kernel_rfl) (hd 21 (by kernel_rfl)) hK
                  · intro vs W hE hd K hK
                    have hE' : After wr W := hself.trans hE
                    exact do_offg (j := 22) (b := false) (c := true) (u := vs 22) (by kernel_rfl) (by kernel_rfl) (by kernel_rfl) (hd 22 (by kernel_rfl)) (by decide) hK
                  · intro vs W hE hd K hK
                    have hE' : After wr W := hself.trans hE
                    exact do_offg (j := 22) (b := false) (c := true) (u := vs 22) (by kernel_rfl) (by kernel_rfl) (by kernel_rfl) (hd 22 (by kernel_rfl)) (by decide) hK
                  · intro vs W hE hd K hK
                    have hE' : After wr W := hself.trans hE
                    exact do_offg (j := 22) (b := false) (c := true) (u := vs 22) (by kernel_rfl) (by kernel_rfl) (by kernel_rfl) (hd 22 (by kernel_rfl)) (by decide) hK
                  · intro vs W hE hd K hK
                    have hE' : After wr W := hself.trans hE
                    exact do_offg (j := 22) (b := false) (c := true) (u := vs 22) (by kernel_rfl) (by kernel_rfl) (by kernel_rfl) (hd 22 (by kernel_rfl)) (by decide) hK
                  · intro vs W hE hd K hK
                    have hE' : After wr W := hself.trans hE
                    exact do_offg (j := 22) (b := false) (c := true) (u := vs 22) (by kernel_rfl) (by kernel_rfl) (by kernel_rfl) (hd 22 (by kernel_rfl)) (by decide) hK
                  · intro vs W hE hd K hK
                    have hE' : After wr W := hself.trans hE
                    exact do_offg (j := 22) (b := false) (c := true) (u := vs 22) (by kernel_rfl) (by kernel_rfl) (by kernel_rfl) (hd 22 (by kernel_rfl)) (by decide) hK
                  · intro vs W hE hd K hK
                    have hE' : After wr W := hself.trans hE
                    exact do_offg (j := 22) (b := false) (c := true) (u := vs 22) (by kernel_rfl) (by kernel_rfl) (by kernel_rfl) (hd 22 (by kernel_rfl)) (by decide) hK
                  · intro vs W hE hd K hK
                    have hE' : After wr W := hself.trans hE
                    exact do_offg (j := 22) (b := false) (c := true) (u := vs 22) (by kernel_rfl) (by kernel_rfl) (by kernel_rfl) (hd 22 (by kernel_rfl)) (by decide) hK
                  · intro vs W hE hd K hK
                    have hE' : After wr W := hself.trans hE
                    exact do_pick (c := .tmp 49) (x := .const (.bool true)) (y := .tmp 57) (u := vs 22) (p := true) (r := .bool true) (by kernel_rfl) (by kernel_rfl) (by kernel_rfl) (by kernel_rfl) (hd 22 (by kernel_rfl)) (by rw [if_pos rfl]; rfl) hK
                  intro vs W hE hd
                  have hE' : After wr W := hself.trans hE
                  have er : vs 31 = .bool true := hd 31 (by decide)
                  refine hKK _ _ ?_
                  rw [frame_all 27 32 (by kernel_rfl) (by kernel_rfl), lit_59_27_32, er]
                  clear er hd
                  generalize vs 0 = y0 at *
                  generalize vs 1 = y1 at *
                  generalize vs 2 = y2 at *
                  generalize vs 3 = y3 at *
                  generalize vs 4 = y4 at *
                  generalize vs 5 = y5 at *
                  generalize vs 6 = y6 at *
                  generalize vs 7 = y7 at *
                  generalize vs 8 = y8 at *
                  generalize vs 9 = y9 at *
                  generalize vs 10 = y10 at *
                  generalize vs 11 = y11 at *
                  generalize vs 12 = y12 at *
                  generalize vs 13 = y13 at *
                  generalize vs 14 = y14 at *
                  generalize vs 15 = y15 at *
                  generalize vs 16 = y16 at *
                  generalize vs 17 = y17 at *
                  generalize vs 18 = y18 at *
                  generalize vs 19 = y19 at *
                  generalize vs 20 = y20 at *
                  generalize vs 21 = y21 at *
                  generalize vs 22 = y22 at *
                  generalize vs 23 = y23 at *
                  generalize vs 24 = y24 at *
                  generalize vs 25 = y25 at *
                  generalize vs 26 = y26 at *
                  generalize vs 27 = y27 at *
                  generalize vs 28 = y28 at *
                  generalize vs 29 = y29 at *
                  generalize vs 30 = y30 at *
                  go_wp2_with fail
                  go_ret
                  exact ⟨by rw [HF2.out]; rfl, hA1.trans (hAr.trans (hAi.trans hE'))⟩
                | false =>
                  cases c4 with
                  | true =>
                    have HF2 := Lib.hid (HFIN.out (by rw [HS.out]; rfl))
                    refine wp_region_reg (by kernel_rfl) (by kernel_rfl) After After.refl (fun _ _ _ h g => h.trans g)
                      (yds [.lit (.slice (some ⟨b, off, none⟩) m c), .lit (.int .i64 k), .lit (.pointer (some ⟨b, off + k, none⟩)), .lit (str z), .lit (.bool true), .lit (.bool false), .lit (.bool false), .lit (.slice (some ⟨b, off, none⟩) m c), .lit (.int .i64 k), .lit (.pointer (some ⟨b, off + k, none⟩)), .lit (str z), .lit (.bool true), .lit (.bool false), .lit (.bool false), .lit (.bool false), .lit (.slice (some ⟨b, off, none⟩) m c), .lit (.int .i64 k), .lit (.pointer (some ⟨b, off + k, none⟩)), .lit (str z), .lit (.int .i64 (Tm.pSize z)), .lit (.bool false), .lit (.bool false), .lit (.bool false), .lit (.slice (some ⟨b, off, none⟩) m c), .lit (.int .i64 k), .lit (.slice (some ⟨b, off, none⟩) k c), .lit (.slice (some ⟨b, off, none⟩) m c), .lit (.int .i64 k), .lit (.pointer (some ⟨b, off + k, none⟩)), .lit (str z), .lit (.bool true), .lit (.bool true)]) yds_later (lt32 ?_ ?_ ?_ ?_ ?_ ?_ ?_ ?_ ?_ ?_ ?_ ?_ ?_ ?_ ?_ ?_ ?_ ?_ ?_ ?_ ?_ ?_ ?_ ?_ ?_ ?_ ?_ ?_ ?_ ?_ ?_ ?_) ?_
                    · intro vs W hE hd K hK
                      have hE' : After wr W := hself.trans hE
                      exact do_r (v := .slice (some ⟨b, off, none⟩) m c) (.lit (.slice (some ⟨b, off, none⟩) m c)) (by kernel_rfl) (wanted_of (by kernel_rfl)) (by kernel_rfl) rfl hK
                    · intro vs W hE hd K hK
                      have hE' : After wr W := hself.trans hE
                      exact do_r (v := .int .i64 k) (.lit (.int .i64 k)) (by kernel_rfl) (wanted_of (by kernel_rfl)) (by kernel_rfl) rfl hK
                    · intro vs W hE hd K hK
                      have hE' : After wr W := hself.trans hE
                      exact do_r (v := .pointer (some ⟨b, off + k, none⟩)) (.lit (.pointer (some ⟨b, off + k, none⟩))) (by kernel_rfl) (wanted_of (by kernel_rfl)) (run_ixs (x := .tmp 27) (y := .tmp 28) (u := vs 0) (u' := vs 1) (by kernel_rfl) (by kernel_rfl) (hd 0 (by kernel_rfl)) (by kernel_rfl) (hd 1 (by kernel_rfl)) hkm) rfl hK
                    · intro vs W hE hd K hK
                      have hE' : After wr W := hself.trans hE
                      exact do_r (v := str z) (.lit (str z)) (by kernel_rfl) (wanted_of (by kernel_rfl)) (run_lds (x := .tmp 29) (u := vs 2) (by kernel_rfl) (by kernel_rfl) (hd 2 (by kernel_rfl)) (H1.out W hE')) rfl hK
                    · intro vs W hE hd K hK
                      have hE' : After wr W := hself.trans hE
                      exact do_c (v := .bool true) (f := 46) (args := #[vs 3]) (by kernel_rfl) (wanted_of (by kernel_rfl)) (by kernel_rfl) (by rw [show vs 3 = str z from hd 3 (by kernel_rfl)]; exact HQ.out.1 W) hK
                    · intro vs W hE hd K hK
                      have hE' : After wr W := hself.trans hE
                      exact do_r (v := .bool (!true)) (.lit (.bool false)) (by kernel_rfl) (wanted_of (by kernel_rfl)) (run_not (T := 4) (x := .tmp 31) (u := vs 4) (b := true) (by kernel_rfl) (by kernel_rfl) (hd 4 (by kernel_rfl))) rfl hK
                    · intro vs W hE hd K hK
                      have hE' : After wr W := hself.trans hE
                      exact do_r (v := vs 5) (.lit (.bool false)) (by kernel_rfl) (wanted_of (by kernel_rfl)) (by kernel_rfl) (hd 5 (by kernel_rfl)) hK
                    · intro vs W hE hd K hK
                      have hE' : After wr W := hself.trans hE
                      exact do_r (v := .slice (some ⟨b, off, none⟩) m c) (.lit (.slice (some ⟨b, off, none⟩) m c)) (by kernel_rfl) (wanted_on (j := 6) (b := false) (u := vs 6) (by kernel_rfl) (by kernel_rfl) (hd 6 (by kernel_rfl))) (by kernel_rfl) rfl hK
                    · intro vs W hE hd K hK
                      have hE' : After wr W := hself.trans hE
                      exact do_r (v := .int .i64 k) (.lit (.int .i64 k)) (by kernel_rfl) (wanted_on (j := 6) (b := false) (u := vs 6) (by kernel_rfl) (by kernel_rfl) (hd 6 (by kernel_rfl))) (by kernel_rfl) rfl hK
                    · intro vs W hE hd K hK
                      have hE' : After wr W := hself.trans hE
                      exact do_r (v := .pointer (some ⟨b, off + k, none⟩)) (.lit (.pointer (some ⟨b, off + k, none⟩))) (by kernel_rfl) (wanted_on (j := 6) (b := false) (u := vs 6) (by kernel_rfl) (by kernel_rfl) (hd 6 (by kernel_rfl))) (run_ixs (x := .tmp 34) (y := .tmp 35) (u := vs 7) (u' := vs 8) (by kernel_rfl) (by kernel_rfl) (hd 7 (by kernel_rfl)) (by kernel_rfl) (hd 8 (by kernel_rfl)) hkm) rfl hK
                    · intro vs W hE hd K hK
                      have hE' : After wr W := hself.trans hE
                      exact do_r (v := str z) (.lit (str z)) (by kernel_rfl) (wanted_on (j := 6) (b := false) (u := vs 6) (by kernel_rfl) (by kernel_rfl) (hd 6 (by kernel_rfl))) (run_lds (x := .tmp 36) (u := vs 9) (by kernel_rfl) (by kernel_rfl) (hd 9 (by kernel_rfl)) (H1.out W hE')) rfl hK
                    · intro vs W hE hd K hK
                      have hE' : After wr W := hself.trans hE
                      exact do_c (v := .bool true) (f := 47) (args := #[vs 10]) (by kernel_rfl) (wanted_on (j := 6) (b := false) (u := vs 6) (by kernel_rfl) (by kernel_rfl) (hd 6 (by kernel_rfl))) (by kernel_rfl) (by rw [show vs 10 = str z from hd 10 (by kernel_rfl)]; exact HQ.out.2.1 W) hK
                    · intro vs W hE hd K hK
                      have hE' : After wr W := hself.trans hE
                      exact do_r (v := .bool (!true)) (.lit (.bool false)) (by kernel_rfl) (wanted_on (j := 6) (b := false) (u := vs 6) (by kernel_rfl) (by kernel_rfl) (hd 6 (by kernel_rfl))) (run_not (T := 4) (x := .tmp 38) (u := vs 11) (b := true) (by kernel_rfl) (by kernel_rfl) (hd 11 (by kernel_rfl))) rfl hK
                    · intro vs W hE hd K hK
                      have hE' : After wr W := hself.trans hE
                      exact do_pick (c := .tmp 33) (x := .const (.bool true)) (y := .tmp 39) (u := vs 6) (p := false) (r := .bool false) (by kernel_rfl) (by kernel_rfl) (by kernel_rfl) (by kernel_rfl) (hd 6 (by kernel_rfl)) (by rw [if_neg (by decide)]; exact Eq.trans (by kernel_rfl : _ = vs 12) (hd 12 (by kernel_rfl))) hK
                    · intro vs W hE hd K hK
                      have hE' : After wr W := hself.trans hE
                      exact do_r (v := vs 13) (.lit (.bool false)) (by kernel_rfl) (wanted_of (by kernel_rfl)) (by kernel_rfl) (hd 13 (by kernel_rfl)) hK
                    · intro vs W hE hd K hK
                      have hE' : After wr W := hself.trans hE
                      exact do_r (v := .slice (some ⟨b, off, none⟩) m c) (.lit (.slice (some ⟨b, off, none⟩) m c)) (by kernel_rfl) (wanted_on (j := 14) (b := false) (u := vs 14) (by kernel_rfl) (by kernel_rfl) (hd 14 (by kernel_rfl))) (by kernel_rfl) rfl hK
                    · intro vs W hE hd K hK
                      have hE' : After wr W := hself.trans hE
                      exact do_r (v := .int .i64 k) (.lit (.int .i64 k)) (by kernel_rfl) (wanted_on (j := 14) (b := false) (u := vs 14) (by kernel_rfl) (by kernel_rfl) (hd 14 (by kernel_rfl))) (by kernel_rfl) rfl hK
                    · intro vs W hE hd K hK
                      have hE' : After wr W := hself.trans hE
                      exact do_r (v := .pointer (some ⟨b, off + k, none⟩)) (.lit (.pointer (some ⟨b, off + k, none⟩))) (by kernel_rfl) (wanted_on (j := 14) (b := false) (u := vs 14) (by kernel_rfl) (by kernel_rfl) (hd 14 (by kernel_rfl))) (run_ixs (x := .tmp 42) (y := .tmp 43) (u := vs 15) (u' := vs 16) (by kernel_rfl) (by kernel_rfl) (hd 15 (by kernel_rfl)) (by kernel_rfl) (hd 16 (by kernel_rfl)) hkm) rfl hK
                    · intro vs W hE hd K hK
                      have hE' : After wr W := hself.trans hE
                      exact do_r (v := str z) (.lit (str z)) (by kernel_rfl) (wanted_on (j := 14) (b := false) (u := vs 14) (by kernel_rfl) (by kernel_rfl) (hd 14 (by kernel_rfl))) (run_lds (x := .tmp 44) (u := vs 17) (by kernel_rfl) (by kernel_rfl) (hd 17 (by kernel_rfl)) (H1.out W hE')) rfl hK
                    · intro vs W hE hd K hK
                      have hE' : After wr W := hself.trans hE
                      exact do_c (v := .int .i64 (Tm.pSize z)) (f := 48) (args := #[vs 18]) (by kernel_rfl) (wanted_on (j := 14) (b := false) (u := vs 14) (by kernel_rfl) (by kernel_rfl) (hd 14 (by kernel_rfl))) (by kernel_rfl) (by rw [show vs 18 = str z from hd 18 (by kernel_rfl)]; exact HQ.out.2.2.1 W) hK
                    · intro vs W hE hd K hK
                      have hE' : After wr W := hself.trans hE
                      exact do_r (v := .bool (decide ((Tm.pSize z) > 60))) (.lit (.bool false)) (by kernel_rfl) (wanted_on (j := 14) (b := false) (u := vs 14) (by kernel_rfl) (by kernel_rfl) (hd 14 (by kernel_rfl))) (run_gtr (T := 3) (T' := 3) (x := .tmp 46) (u := vs 19) (n := (Tm.pSize z)) (c := 60) (by kernel_rfl) (by kernel_rfl) (hd 19 (by kernel_rfl))) (congrArg Value.bool HQ.out.2.2.2.2) hK
                    · intro vs W hE hd K hK
                      have hE' : After wr W := hself.trans hE
                      exact do_pick (c := .tmp 41) (x := .const (.bool true)) (y := .tmp 47) (u := vs 14) (p := false) (r := .bool false) (by kernel_rfl) (by kernel_rfl) (by kernel_rfl) (by kernel_rfl) (hd 14 (by kernel_rfl)) (by rw [if_neg (by decide)]; exact Eq.trans (by kernel_rfl : _ = vs 20) (hd 20 (by kernel_rfl))) hK
                    · intro vs W hE hd K hK
                      have hE' : After wr W := hself.trans hE
                      exact do_r (v := vs 21) (.lit (.bool false)) (by kernel_rfl) (wanted_of (by kernel_rfl)) (by kernel_rfl) (hd 21 (by kernel_rfl)) hK
                    · intro vs W hE hd K hK
                      have hE' : After wr W := hself.trans hE
                      exact do_r (v := .slice (some ⟨b, off, none⟩) m c) (.lit (.slice (some ⟨b, off, none⟩) m c)) (by kernel_rfl) (wanted_on (j := 22) (b := false) (u := vs 22) (by kernel_rfl) (by kernel_rfl) (hd 22 (by kernel_rfl))) (by kernel_rfl) rfl hK
                    · intro vs W hE hd K hK
                      have hE' : After wr W := hself.trans hE
                      exact do_r (v := .int .i64 k) (.lit (.int .i64 k)) (by kernel_rfl) (wanted_on (j := 22) (b := false) (u := vs 22) (by kernel_rfl) (by kernel_rfl) (hd 22 (by kernel_rfl))) (by kernel_rfl) rfl hK
                    · intro vs W hE hd K hK
                      have hE' : After wr W := hself.trans hE
                      exact do_r (v := .slice (some ⟨b, off, none⟩) k c) (.lit (.slice (some ⟨b, off, none⟩) k c)) (by kernel_rfl) (wanted_on (j := 22) (b := false) (u := vs 22) (by kernel_rfl) (by kernel_rfl) (hd 22 (by kernel_rfl))) (run_slc (x := .tmp 50) (y := .tmp 51) (u := vs 23) (u' := vs 24) (by kernel_rfl) (by kernel_rfl) (hd 23 (by kernel_rfl)) (by kernel_rfl) (hd 24 (by kernel_rfl)) hkc hcm) rfl hK
                    · intro vs W hE hd K hK
                      have hE' : After wr W := hself.trans hE
                      exact do_r (v := .slice (some ⟨b, off, none⟩) m c) (.lit (.slice (some ⟨b, off, none⟩) m c)) (by kernel_rfl) (wanted_on (j := 22) (b := false) (u := vs 22) (by kernel_rfl) (by kernel_rfl) (hd 22 (by kernel_rfl))) (by kernel_rfl) rfl hK
                    · intro vs W hE hd K hK
                      have hE' : After wr W := hself.trans hE
                      exact do_r (v := .int .i64 k) (.lit (.int .i64 k)) (by kernel_rfl) (wanted_on (j := 22) (b := false) (u := vs 22) (by kernel_rfl) (by kernel_rfl) (hd 22 (by kernel_rfl))) (by kernel_rfl) rfl hK
                    · intro vs W hE hd K hK
                      have hE' : After wr W := hself.trans hE
                      exact do_r (v := .pointer (some ⟨b, off + k, none⟩)) (.lit (.pointer (some ⟨b, off + k, none⟩))) (by kernel_rfl) (wanted_on (j := 22) (b := false) (u := vs 22) (by kernel_rfl) (by kernel_rfl) (hd 22 (by kernel_rfl))) (run_ixs (x := .tmp 53) (y := .tmp 54) (u := vs 26) (u' := vs 27) (by kernel_rfl) (by kernel_rfl) (hd 26 (by kernel_rfl)) (by kernel_rfl) (hd 27 (by kernel_rfl)) hkm) rfl hK
                    · intro vs W hE hd K hK
                      have hE' : After wr W := hself.trans hE
                      exact do_r (v := str z) (.lit (str z)) (by kernel_rfl) (wanted_on (j := 22) (b := false) (u := vs 22) (by kernel_rfl) (by kernel_rfl) (hd 22 (by kernel_rfl))) (run_lds (x := .tmp 55) (u := vs 28) (by kernel_rfl) (by kernel_rfl) (hd 28 (by kernel_rfl)) (H1.out W hE')) rfl hK
                    · intro vs W hE hd K hK
                      have hE' : After wr W := hself.trans hE
                      exact do_c (v := .bool true) (f := 49) (args := #[vs 25, vs 29]) (by kernel_rfl) (wanted_on (j := 22) (b := false) (u := vs 22) (by kernel_rfl) (by kernel_rfl) (hd 22 (by kernel_rfl))) (by kernel_rfl) (by rw [show vs 25 = .slice (some ⟨b, off, none⟩) k c from hd 25 (by kernel_rfl), show vs 29 = str z from hd 29 (by kernel_rfl)]; exact HQ.out.2.2.2.1 W hE') hK
                    · intro vs W hE hd K hK
                      have hE' : After wr W := hself.trans hE
                      exact do_pick (c := .tmp 49) (x := .const (.bool true)) (y := .tmp 57) (u := vs 22) (p := false) (r := .bool true) (by kernel_rfl) (by kernel_rfl) (by kernel_rfl) (by kernel_rfl) (hd 22 (by kernel_rfl)) (by rw [if_neg (by decide)]; exact Eq.trans (by kernel_rfl : _ = vs 30) (hd 30 (by kernel_rfl))) hK
                    intro vs W hE hd
                    have hE' : After wr W := hself.trans hE
                    have er : vs 31 = .bool true := hd 31 (by decide)
                    refine hKK _ _ ?_
                    rw [frame_all 27 32 (by kernel_rfl) (by kernel_rfl), lit_59_27_32, er]
                    clear er hd
                    generalize vs 0 = y0 at *
                    generalize vs 1 = y1 at *
                    generalize vs 2 = y2 at *
                    generalize vs 3 = y3 at *
                    generalize vs 4 = y4 at *
                    generalize vs 5 = y5 at *
                    generalize vs 6 = y6 at *
                    generalize vs 7 = y7 at *
                    generalize vs 8 = y8 at *
                    generalize vs 9 = y9 at *
                    generalize vs 10 = y10 at *
                    generalize vs 11 = y11 at *
                    generalize vs 12 = y12 at *
                    generalize vs 13 = y13 at *
                    generalize vs 14 = y14 at *
                    generalize vs 15 = y15 at *
                    generalize vs 16 = y16 at *
                    generalize vs 17 = y17 at *
                    generalize vs 18 = y18 at *
                    generalize vs 19 = y19 at *
                    generalize vs 20 = y20 at *
                    generalize vs 21 = y21 at *
                    generalize vs 22 = y22 at *
                    generalize vs 23 = y23 at *
                    generalize vs 24 = y24 at *
                    generalize vs 25 = y25 at *
                    generalize vs 26 = y26 at *
                    generalize vs 27 = y27 at *
                    generalize vs 28 = y28 at *
                    generalize vs 29 = y29 at *
                    generalize vs 30 = y30 at *
                    go_wp2_with fail
                    go_ret
                    exact ⟨by rw [HF2.out]; rfl, hA1.trans (hAr.trans (hAi.trans hE'))⟩
                  | false =>
                    refine wp_region_reg (by kernel_rfl) (by kernel_rfl) After After.refl (fun _ _ _ h g => h.trans g)
                      (yds [.lit (.slice (some ⟨b, off, none⟩) m c), .lit (.int .i64 k), .lit (.pointer (some ⟨b, off + k, none⟩)), .lit (str z), .lit (.bool true), .lit (.bool false), .lit (.bool false), .lit (.slice (some ⟨b, off, none⟩) m c), .lit (.int .i64 k), .lit (.pointer (some ⟨b, off + k, none⟩)), .lit (str z), .lit (.bool true), .lit (.bool false), .lit (.bool false), .lit (.bool false), .lit (.slice (some ⟨b, off, none⟩) m c), .lit (.int .i64 k), .lit (.pointer (some ⟨b, off + k, none⟩)), .lit (str z), .lit (.int .i64 (Tm.pSize z)), .lit (.bool false), .lit (.bool false), .lit (.bool false), .lit (.slice (some ⟨b, off, none⟩) m c), .lit (.int .i64 k), .lit (.slice (some ⟨b, off, none⟩) k c), .lit (.slice (some ⟨b, off, none⟩) m c), .lit (.int .i64 k), .lit (.pointer (some ⟨b, off + k, none⟩)), .lit (str z), .lit (.bool false), .lit (.bool false)]) yds_later (lt32 ?_ ?_ ?_ ?_ ?_ ?_ ?_ ?_ ?_ ?_ ?_ ?_ ?_ ?_ ?_ ?_ ?_ ?_ ?_ ?_ ?_ ?_ ?_ ?_ ?_ ?_ ?_ ?_ ?_ ?_ ?_ ?_) ?_
                    · intro vs W hE hd K hK
                      have hE' : After wr W := hself.trans hE
                      exact do_r (v := .slice (some ⟨b, off, none⟩) m c) (.lit (.slice (some ⟨b, off, none⟩) m c)) (by kernel_rfl) (wanted_of (by kernel_rfl)) (by kernel_rfl) rfl hK
                    · intro vs W hE hd K hK
                      have hE' : After wr W := hself.trans hE
                      exact do_r (v := .int .i64 k) (.lit (.int .i64 k)) (by kernel_rfl) (wanted_of (by kernel_rfl)) (by kernel_rfl) rfl hK
                    · intro vs W hE hd K hK
                      have hE' : After wr W := hself.trans hE
                      exact do_r (v := .pointer (some ⟨b, off + k, none⟩)) (.lit (.pointer (some ⟨b, off + k, none⟩))) (by kernel_rfl) (wanted_of (by kernel_rfl)) (run_ixs (x := .tmp 27) (y := .tmp 28) (u := vs 0) (u' := vs 1) (by kernel_rfl) (by kernel_rfl) (hd 0 (by kernel_rfl)) (by kernel_rfl) (hd 1 (by kernel_rfl)) hkm) rfl hK
                    · intro vs W hE hd K hK
                      have hE' : After wr W := hself.trans hE
                      exact do_r (v := str z) (.lit (str z)) (by kernel_rfl) (wanted_of (by kernel_rfl)) (run_lds (x := .tmp 29) (u := vs 2) (by kernel_rfl) (by kernel_rfl) (hd 2 (by kernel_rfl)) (H1.out W hE')) rfl hK
                    · intro vs W hE hd K hK
                      have hE' : After wr W := hself.trans hE
                      exact do_c (v := .bool true) (f := 46) (args := #[vs 3]) (by kernel_rfl) (wanted_of (by kernel_rfl)) (by kernel_rfl) (by rw [show vs 3 = str z from hd 3 (by kernel_rfl)]; exact HQ.out.1 W) hK
                    · intro vs W hE hd K hK
                      have hE' : After wr W := hself.trans hE
                      exact do_r (v := .bool (!true)) (.lit (.bool false)) (by kernel_rfl) (wanted_of (by kernel_rfl)) (run_not (T := 4) (x := .tmp 31) (u := vs 4) (b := true) (by kernel_rfl) (by kernel_rfl) (hd 4 (by kernel_rfl))) rfl hK
                    · intro vs W hE hd K hK
                      have hE' : After wr W := hself.trans hE
                      exact do_r (v := vs 5) (.lit (.bool false)) (by kernel_rfl) (wanted_of (by kernel_rfl)) (by kernel_rfl) (hd 5 (by kernel_rfl)) hK
                    · intro vs W hE hd K hK
                      have hE' : After wr W := hself.trans hE
                      exact do_r (v := .slice (some ⟨b, off, none⟩) m c) (.lit (.slice (some ⟨b, off, none⟩) m c)) (by kernel_rfl) (wanted_on (j := 6) (b := false) (u := vs 6) (by kernel_rfl) (by kernel_rfl) (hd 6 (by kernel_rfl))) (by kernel_rfl) rfl hK
                    · intro vs W hE hd K hK
                      have hE' : After wr W := hself.trans hE
                      exact do_r (v := .int .i64 k) (.lit (.int .i64 k)) (by kernel_rfl) (wanted_on (j := 6) (b := false) (u := vs 6) (by kernel_rfl) (by kernel_rfl) (hd 6 (by kernel_rfl))) (by kernel_rfl) rfl hK
                    · intro vs W hE hd K hK
                      have hE' : After wr W := hself.trans hE
                      exact do_r (v := .pointer (some ⟨b, off + k, none⟩)) (.lit (.pointer (some ⟨b, off + k, none⟩))) (by kernel_rfl) (wanted_on (j := 6) (b := false) (u := vs 6) (by kernel_rfl) (by kernel_rfl) (hd 6 (by kernel_rfl))) (run_ixs (x := .tmp 34) (y := .tmp 35) (u := vs 7) (u' := vs 8) (by kernel_rfl) (by kernel_rfl) (hd 7 (by kernel_rfl)) (by kernel_rfl) (hd 8 (by kernel_rfl)) hkm) rfl hK
                    · intro vs W hE hd K hK
                      have hE' : After wr W := hself.trans hE
                      exact do_r (v := str z) (.lit (str z)) (by kernel_rfl) (wanted_on (j := 6) (b := false) (u := vs 6) (by kernel_rfl) (by kernel_rfl) (hd 6 (by kernel_rfl))) (run_lds (x := .tmp 36) (u := vs 9) (by kernel_rfl) (by kernel_rfl) (hd 9 (by kernel_rfl)) (H1.out W hE')) rfl hK
                    · intro vs W hE hd K hK
                      have hE' : After wr W := hself.trans hE
                      exact do_c (v := .bool true) (f := 47) (args := #[vs 10]) (by kernel_rfl) (wanted_on (j := 6) (b := false) (u := vs 6) (by kernel_rfl) (by kernel_rfl) (hd 6 (by kernel_rfl))) (by kernel_rfl) (by rw [show vs 10 = str z from hd 10 (by kernel_rfl)]; exact HQ.out.2.1 W) hK
                    · intro vs W hE hd K hK
                      have hE' : After wr W := hself.trans hE
                      exact do_r (v := .bool (!true)) (.lit (.bool false)) (by kernel_rfl) (wanted_on (j := 6) (b := false) (u := vs 6) (by kernel_rfl) (by kernel_rfl) (hd 6 (by kernel_rfl))) (run_not (T := 4) (x := .tmp 38) (u := vs 11) (b := true) (by kernel_rfl) (by kernel_rfl) (hd 11 (by kernel_rfl))) rfl hK
                    · intro vs W hE hd K hK
                      have hE' : After wr W := hself.trans hE
                      exact do_pick (c := .tmp 33) (x := .const (.bool true)) (y := .tmp 39) (u := vs 6) (p := false) (r := .bool false) (by kernel_rfl) (by kernel_rfl) (by kernel_rfl) (by kernel_rfl) (hd 6 (by kernel_rfl)) (by rw [if_neg (by decide)]; exact Eq.trans (by kernel_rfl : _ = vs 12) (hd 12 (by kernel_rfl))) hK
                    · intro vs W hE hd K hK
                      have hE' : After wr W := hself.trans hE
                      exact do_r (v := vs 13) (.lit (.bool false)) (by kernel_rfl) (wanted_of (by kernel_rfl)) (by kernel_rfl) (hd 13 (by kernel_rfl)) hK
                    · intro vs W hE hd K hK
                      have hE' : After wr W := hself.trans hE
                      exact do_r (v := .slice (some ⟨b, off, none⟩) m c) (.lit (.slice (some ⟨b, off, none⟩) m c)) (by kernel_rfl) (wanted_on (j := 14) (b := false) (u := vs 14) (by kernel_rfl) (by kernel_rfl) (hd 14 (by kernel_rfl))) (by kernel_rfl) rfl hK
                    · intro vs W hE hd K hK
                      have hE' : After wr W := hself.trans hE
                      exact do_r (v := .int .i64 k) (.lit (.int .i64 k)) (by kernel_rfl) (wanted_on (j := 14) (b := false) (u := vs 14) (by kernel_rfl) (by kernel_rfl) (hd 14 (by kernel_rfl))) (by kernel_rfl) rfl hK
                    · intro vs W hE hd K hK
                      have hE' : After wr W := hself.trans hE
                      exact do_r (v := .pointer (some ⟨b, off + k, none⟩)) (.lit (.pointer (some ⟨b, off + k, none⟩))) (by kernel_rfl) (wanted_on (j := 14) (b := false) (u := vs 14) (by kernel_rfl) (by kernel_rfl) (hd 14 (by kernel_rfl))) (run_ixs (x := .tmp 42) (y := .tmp 43) (u := vs 15) (u' := vs 16) (by kernel_rfl) (by kernel_rfl) (hd 15 (by kernel_rfl)) (by kernel_rfl) (hd 16 (by kernel_rfl)) hkm) rfl hK
                    · intro vs W hE hd K hK
                      have hE' : After wr W := hself.trans hE
                      exact do_r (v := str z) (.lit (str z)) (by kernel_rfl) (wanted_on (j := 14) (b := false) (u := vs 14) (by kernel_rfl) (by kernel_rfl) (hd 14 (by kernel_rfl))) (run_lds (x := .tmp 44) (u := vs 17) (by kernel_rfl) (by kernel_rfl) (hd 17 (by kernel_rfl)) (H1.out W hE')) rfl hK
                    · intro vs W hE hd K hK
                      have hE' : After wr W := hself.trans hE
                      exact do_c (v := .int .i64 (Tm.pSize z)) (f := 48) (args := #[vs 18]) (by kernel_rfl) (wanted_on (j := 14) (b := false) (u := vs 14) (by kernel_rfl) (by kernel_rfl) (hd 14 (by kernel_rfl))) (by kernel_rfl) (by rw [show vs 18 = str z from hd 18 (by kernel_rfl)]; exact HQ.out.2.2.1 W) hK
                    · intro vs W hE hd K hK
                      have hE' : After wr W := hself.trans hE
                      exact do_r (v := .bool (decide ((Tm.pSize z) > 60))) (.lit (.bool false)) (by kernel_rfl) (wanted_on (j := 14) (b := false) (u := vs 14) (by kernel_rfl) (by kernel_rfl) (hd 14 (by kernel_rfl))) (run_gtr (T := 3) (T' := 3) (x := .tmp 46) (u := vs 19) (n := (Tm.pSize z)) (c := 60) (by kernel_rfl) (by kernel_rfl) (hd 19 (by kernel_rfl))) (congrArg Value.bool HQ.out.2.2.2.2) hK
                    · intro vs W hE hd K hK
                      have hE' : After wr W := hself.trans hE
                      exact do_pick (c := .tmp 41) (x := .const (.bool true)) (y := .tmp 47) (u := vs 14) (p := false) (r := .bool false) (by kernel_rfl) (by kernel_rfl) (by kernel_rfl) (by kernel_rfl) (hd 14 (by kernel_rfl)) (by rw [if_neg (by decide)]; exact Eq.trans (by kernel_rfl : _ = vs 20) (hd 20 (by kernel_rfl))) hK
                    · intro vs W hE hd K hK
                      have hE' : After wr W := hself.trans hE
                      exact do_r (v := vs 21) (.lit (.bool false)) (by kernel_rfl) (wanted_of (by kernel_rfl)) (by kernel_rfl) (hd 21 (by kernel_rfl)) hK
                    · intro vs W hE hd K hK
                      have hE' : After wr W := hself.trans hE
                      exact do_r (v := .slice (some ⟨b, off, none⟩) m c) (.lit (.slice (some ⟨b, off, none⟩) m c)) (by kernel_rfl) (wanted_on (j := 22) (b := false) (u := vs 22) (by kernel_rfl) (by kernel_rfl) (hd 22 (by kernel_rfl))) (by kernel_rfl) rfl hK
                    · intro vs W hE hd K hK
                      have hE' : After wr W := hself.trans hE
                      exact do_r (v := .int .i64 k) (.lit (.int .i64 k)) (by kernel_rfl) (wanted_on (j := 22) (b := false) (u := vs 22) (by kernel_rfl) (by kernel_rfl) (hd 22 (by kernel_rfl))) (by kernel_rfl) rfl hK
                    · intro vs W hE hd K hK
                      have hE' : After wr W := hself.trans hE
                      exact do_r (v := .slice (some ⟨b, off, none⟩) k c) (.lit (.slice (some ⟨b, off, none⟩) k c)) (by kernel_rfl) (wanted_on (j := 22) (b := false) (u := vs 22) (by kernel_rfl) (by kernel_rfl) (hd 22 (by kernel_rfl))) (run_slc (x := .tmp 50) (y := .tmp 51) (u := vs 23) (u' := vs 24) (by kernel_rfl) (by kernel_rfl) (hd 23 (by kernel_rfl)) (by kernel_rfl) (hd 24 (by kernel_rfl)) hkc hcm) rfl hK
                    · intro vs W hE hd K hK
                      have hE' : After wr W := hself.trans hE
                      exact do_r (v := .slice (some ⟨b, off, none⟩) m c) (.lit (.slice (some ⟨b, off, none⟩) m c)) (by kernel_rfl) (wanted_on (j := 22) (b := false) (u := vs 22) (by kernel_rfl) (by kernel_rfl) (hd 22 (by kernel_rfl))) (by kernel_rfl) rfl hK
                    · intro vs W hE hd K hK
                      have hE' : After wr W := hself.trans hE
                      exact do_r (v := .int .i64 k) (.lit (.int .i64 k)) (by kernel_rfl) (wanted_on (j := 22) (b := false) (u := vs 22) (by kernel_rfl) (by kernel_rfl) (hd 22 (by kernel_rfl))) (by kernel_rfl) rfl hK
                    · intro vs W hE hd K hK
                      have hE' : After wr W := hself.trans hE
                      exact do_r (v := .pointer (some ⟨b, off + k, none⟩)) (.lit (.pointer (some ⟨b, off + k, none⟩))) (by kernel_rfl) (wanted_on (j := 22) (b := false) (u := vs 22) (by kernel_rfl) (by kernel_rfl) (hd 22 (by kernel_rfl))) (run_ixs (x := .tmp 53) (y := .tmp 54) (u := vs 26) (u' := vs 27) (by kernel_rfl) (by kernel_rfl) (hd 26 (by kernel_rfl)) (by kernel_rfl) (hd 27 (by kernel_rfl)) hkm) rfl hK
                    · intro vs W hE hd K hK
                      have hE' : After wr W := hself.trans hE
                      exact do_r (v := str z) (.lit (str z)) (by kernel_rfl) (wanted_on (j := 22) (b := false) (u := vs 22) (by kernel_rfl) (by kernel_rfl) (hd 22 (by kernel_rfl))) (run_lds (x := .tmp 55) (u := vs 28) (by kernel_rfl) (by kernel_rfl) (hd 28 (by kernel_rfl)) (H1.out W hE')) rfl hK
                    · intro vs W hE hd K hK
                      have hE' : After wr W := hself.trans hE
                      exact do_c (v := .bool false) (f := 49) (args := #[vs 25, vs 29]) (by kernel_rfl) (wanted_on (j := 22) (b := false) (u := vs 22) (by kernel_rfl) (by kernel_rfl) (hd 22 (by kernel_rfl))) (by kernel_rfl) (by rw [show vs 25 = .slice (some ⟨b, off, none⟩) k c from hd 25 (by kernel_rfl), show vs 29 = str z from hd 29 (by kernel_rfl)]; exact HQ.out.2.2.2.1 W hE') hK
                    · intro vs W hE hd K hK
                      have hE' : After wr W := hself.trans hE
                      exact do_pick (c := .tmp 49) (x := .const (.bool true)) (y := .tmp 57) (u := vs 22) (p := false) (r := .bool false) (by kernel_rfl) (by kernel_rfl) (by kernel_rfl) (by kernel_rfl) (hd 22 (by kernel_rfl)) (by rw [if_neg (by decide)]; exact Eq.trans (by kernel_rfl : _ = vs 30) (hd 30 (by kernel_rfl))) hK
                    intro vs W hE hd
                    have hE' : After wr W := hself.trans hE
                    have er : vs 31 = .bool false := hd 31 (by decide)
                    refine hKK _ _ ?_
                    rw [frame_all 27 32 (by kernel_rfl) (by kernel_rfl), lit_59_27_32, er]
                    clear er hd
                    generalize vs 0 = y0 at *
                    generalize vs 1 = y1 at *
                    generalize vs 2 = y2 at *
                    generalize vs 3 = y3 at *
                    generalize vs 4 = y4 at *
                    generalize vs 5 = y5 at *
                    generalize vs 6 = y6 at *
                    generalize vs 7 = y7 at *
                    generalize vs 8 = y8 at *
                    generalize vs 9 = y9 at *
                    generalize vs 10 = y10 at *
                    generalize vs 11 = y11 at *
                    generalize vs 12 = y12 at *
                    generalize vs 13 = y13 at *
                    generalize vs 14 = y14 at *
                    generalize vs 15 = y15 at *
                    generalize vs 16 = y16 at *
                    generalize vs 17 = y17 at *
                    generalize vs 18 = y18 at *
                    generalize vs 19 = y19 at *
                    generalize vs 20 = y20 at *
                    generalize vs 21 = y21 at *
                    generalize vs 22 = y22 at *
                    generalize vs 23 = y23 at *
                    generalize vs 24 = y24 at *
                    generalize vs 25 = y25 at *
                    generalize vs 26 = y26 at *
                    generalize vs 27 = y27 at *
                    generalize vs 28 = y28 at *
                    generalize vs 29 = y29 at *
                    generalize vs 30 = y30 at *
                    go_wp2_with fail
                    go_roundw
                    case rel => exact ⟨k + 1, by go_num, by omega, by show _ = _; rw [Asm.pfx_succ, hp.out, HS.out]; rfl, hAi.trans hE'⟩
                    case measure => simp [intOf]; omega
          · obtain rfl : k = m := by omega
            go_wp2_with fail
            go_roundw
            case rel => exact ⟨i + 1, by go_num, by omega, by show _ = _; rw [Asm.pfs_succ, hpf.out, ← HRS.out, ← HM.out, hp.out]; rfl, hAr.trans hAi⟩
            case measure => simp [intOf]; omega
      · obtain rfl : i = n := by omega
        go_wp2_with fail
        go_ret
        exact ⟨by rw [HR'.out, hpf.out]; rfl, hA1.trans hAr⟩
end Go.Proofs.YtidpkmkhcomcdaaGreat

namespace Go.Proofs.YtidpkmkhcomcdaaGreat
open Go.RowKit

set_option maxHeartbeats 2000000
set_option maxRecDepth 100000

def numsA (n : Nat) : List (List (List UInt8)) := (List.range n).map fun i => [(Tm.num i).text]
theorem numsA_succ (n : Nat) : numsA (n + 1) = numsA n ++ [[(Tm.num n).text]] := by simp [numsA, List.range_succ]
theorem numsA_len (n : Nat) : (numsA n).length = n := by simp [numsA]
def pNums (n : Int) : Option (List (List (List UInt8))) := if 1 ≤ n ∧ n ≤ 6 then some (numsA n.toNat) else none
theorem nums_ok : ∀ n, n ≤ 6 → 1 ≤ n → Asm.ok (numsA n) = true
  | 0, _, h => by omega
  | 1, _, _ | 2, _, _ | 3, _, _ | 4, _, _ | 5, _, _ | 6, _, _ => by decide +kernel
  | n + 7, h, _ => by omega
theorem nums_lens : ∀ n, n ≤ 6 → Lens 1000 (numsA n)
  | 0, _ | 1, _ | 2, _ | 3, _ | 4, _ | 5, _ | 6, _ => by unfold Lens; decide +kernel
  | n + 7, h => by omega

/-- An assembly handed back, all of its memory new, or nothing. -/
def AsmOwn (w : World) (r : Option (List (List (List UInt8)))) (e : Ending) (w' : World) : Prop :=
  ∃ sv, e = .returned (.tuple #[.agg #[sv], .bool r.isSome]) ∧ OwnSS w' w.heap.size sv (r.getD []) ∧ After w w'

theorem OwnSS.less {w : World} {base base' : Nat} {sv : Value} {a : List (List (List UInt8))} (h : OwnSS w base sv a) (hB : base' ≤ base) : OwnSS w base' sv a := by
  obtain ⟨cs, ho, hc, hd⟩ := h
  exact ⟨cs, own_mono ho hB, fun j hj => by obtain ⟨rv, h1, h2⟩ := hc j hj; exact ⟨rv, h1, own_mono h2 hB⟩, hd⟩

theorem num_small (k : Nat) (hk : k ≤ 60) : (Tm.num k).good = true ∧ (Tm.num k).size ≤ 1000 ∧ (Tm.num k).text.length ≤ 1000000 := by
  have hg := Tm.good_num k
  have hz := Tm.size_num k
  have htl := Tm.text_le _ hg
  have hd := Tm.depth_lt (Tm.num k)
  exact ⟨hg, by omega, by omega⟩

theorem lit2_31_17_9 {x0 x1 x2 x3 x4 x5 x6 x7 x8 x9 x10 x11 x12 x13 x14 x15 x16 x17 x18 x19 x20 x21 x22 x23 x24 x25 x26 x27 x28 x29 x30 u u' : Value} {d : List Deferred} {vs : Nat → Value} : ((putFrom ⟨#[x0, x1, x2, x3, x4, x5, x6, x7, x8, x9, x10, x11, x12, x13, x14, x15, x16, x17, x18, x19, x20, x21, x22, x23, x24, x25, x26, x27, x28, x29, x30], d⟩ 17 vs 9).put (some 24) u).put (some 25) u' = ⟨#[x0, x1, x2, x3, x4, x5, x6, x7, x8, x9, x10, x11, x12, x13, x14, x15, x16, vs 0, vs 1, vs 2, vs 3, vs 4, vs 5, vs 6, u, u', x26, x27, x28, x29, x30], d⟩ := by kernel_rfl

theorem validOnly_any (w : World) (sv : Value) (a : List (List (List UInt8))) (h : SSU 0 w sv a) (hl : Lens 1000000000 a) :
    Calls Tryz.prog 30 #[.agg #[sv]] w fun e w' => e = .returned (.tuple #[.agg #[if Asm.ok a = true then sv else .slice none 0 0], .bool (Asm.ok a)]) ∧ After w w' := by
  have hcall := fun W (hW : After w W) => impl_asmValid W sv a (h.later hW) hl
  obtain ⟨ao, cap, rfl⟩ := h.form
  generalize a.length = n at *
  obtain ⟨os, hos⟩ : ∃ os : List Obj, os = [.cells #[.slice ao n cap] 26, .cells #[.slice none 0 0] 26] := ⟨_, rfl⟩
  have hX : allocL w os = (w.alloc (.cells #[.slice ao n cap] 26)).alloc (.cells #[.slice none 0 0] 26) := by rw [hos]; rfl
  have hA : After w (allocL w os) := allocL_below w os
  have h0 : (allocL w os).heap[w.heap.size]? = some (.cells #[.slice ao n cap] 26 (0, 0)) := by have := allocL_heap w os 0 (by rw [hos]; simp); simpa [hos] using this
  have h1 : (allocL w os).heap[w.heap.size + 1]? = some (.cells #[.slice none 0 0] 26 (0, 0)) := by have := allocL_heap w os 1 (by rw [hos]; simp); simpa [hos] using this
  rw [hX] at hA h0 h1
  have H0 := Lib.hid h0
  have H1 := Lib.hid h1
  have hc := hcall _ hA
  have HA := Lib.hid hA
  clear hos hX h hl h0 h1 hcall hA
  generalize Asm.ok a = b at *
  go_enter Tryz.func30, Tryz.ntmps30
  go_wp2_with fail
  refine hc.mono ?_
  rintro e w1 ⟨rfl, hb1⟩
  obtain ⟨p0, p1, p2⟩ := one_facts H0.out hb1
  obtain ⟨r0, r1, r2⟩ := one_facts H1.out hb1
  have HB := Lib.hid (HA.out.trans hb1)
  cases b with
  | true =>
    go_wp2_with fail
    exact bodyPost_ret (v := .tuple #[.agg #[.slice ao n cap], .bool true]) (by simp [results, Tryz.results30, go_sem, r0]) rfl ⟨rfl, Below.setCell HB.out (by show w.heap.size ≤ w.heap.size + 1; omega) _⟩
  | false =>
    go_wp2_with fail
    exact bodyPost_ret (v := .tuple #[.agg #[.slice none 0 0], .bool false]) (by simp [results, Tryz.results30, go_sem, r0]) rfl ⟨rfl, Below.setCell HB.out (by show w.heap.size ≤ w.heap.size + 1; omega) _⟩

theorem impl_nums (w : World) (n : Int) : Calls Tryz.prog 9 #[.int .i64 n] w (AsmOwn w (pNums n)) := by
  by_cases hn : 1 ≤ n ∧ n ≤ 6
  · obtain ⟨N, rfl⟩ : ∃ N : Nat, n = N := ⟨n.toNat, by omega⟩
    have hn1 : ¬ (N : Int) < 1 := by omega
    have hn6 : ¬ (6 : Int) < (N : Int) := by omega
    rw [show pNums (N : Int) = some (numsA N) by unfold pNums; rw [if_pos hn, Int.toNat_natCast]]
    have hok := nums_ok N (by omega) (by omega)
    have hlens := nums_lens N (by omega)
    have hval := fun W sv (h : SSU 0 W sv (numsA N)) => validOnly_any W sv (numsA N) h ⟨by have := hlens.1; omega, fun ns hs => ⟨by have := (hlens.2 ns hs).1; omega, fun s h => by have := (hlens.2 ns hs).2 s h; omega⟩⟩
    rw [hok] at hval
    simp only [if_true] at hval
    have hA0 := (After.new w (.cells #[.slice none 0 0] 26)).alloc (.cells #[.slice none 0 0] 26)
    have hr0 := heap_old2 w (.cells #[.slice none 0 0] 26) (.cells #[.slice none 0 0] 26)
    have hb0 := heap_new2 w w.heap.size (.cells #[.slice none 0 0] 26) (.cells #[.slice none 0 0] 26) rfl
    have hs0 : ((w.alloc (.cells #[.slice none 0 0] 26)).alloc (.cells #[.slice none 0 0] 26)).heap.size = w.heap.size + 2 := by simp
    have HVAL := Lib.hid hval
    have HA0 := Lib.hid hA0
    have HR0 := Lib.hid hr0
    have HB0 := Lib.hid hb0
    have HS0 := Lib.hid hs0
    clear hok hlens hval hA0 hr0 hb0 hs0
    go_enter Tryz.func9, Tryz.ntmps9
    go_wp2_with fail
    obtain ⟨q, hq⟩ : ∃ q, q = w.heap.size + 1 := ⟨_, rfl⟩
    simp only [← hq]
    rw [← hq] at HB0
    have HQ := Lib.hid hq
    clear hq
    generalize ((w.alloc (.cells #[.slice none 0 0] 26)).alloc (.cells #[.slice none 0 0] 26)) = w0 at *
    go_loopw [14] (fun i wr => ∃ (k : Nat) (sv : Value), i = .int .i64 k ∧ k ≤ N ∧ Hid (wr.heap[q]? = some (.cells #[sv] 26 (0, 0))) ∧ Hid (OwnSS wr q sv (numsA k)) ∧ Hid (wr.heap[w.heap.size]? = some (.cells #[.slice none 0 0] 26 (0, 0))) ∧ Hid (After w wr)) (fun i _ => N - (intOf i).toNat)
    case atStart => exact ⟨0, _, rfl, Nat.zero_le _, HB0, by show OwnSS _ _ _ _; exact OwnSS.nil _ _, HR0, HA0⟩
    case round =>
      obtain ⟨k, sv, rfl, hk, HBOX, HOWN, HRES, HAW⟩ := hrel
      by_cases hlt : k < N
      · have hlt' : (k : Int) < (N : Int) := by omega
        have hself := (After.refl wr).drew
        have HSM := Lib.hid (num_small k (by omega))
        obtain ⟨z, hz⟩ : ∃ z, z = (Tm.num k).text := ⟨_, rfl⟩
        have HZ := Lib.hid hz
        have HLN : Hid ((numsA k).length ≤ 1000000) := by show _ ≤ _; rw [numsA_len]; omega
        have HQS : Hid (q ≤ wr.heap.size) := by show _ ≤ _; have := (Array.getElem?_eq_some_iff.1 HBOX.out).1; omega
        clear hz
        have hA := HAW.out
        go_wp2_with fail
        rename_i KK hKK
        refine wp_region_tail (m := 7) (k := 3) (f := 12) (by kernel_rfl) (by kernel_rfl) (by kernel_rfl) (by kernel_rfl) After After.refl (fun _ _ _ h g => h.trans g)
          (rl [Sp.lit (.pointer (some ⟨q, 0, none⟩)), Sp.lit sv, Sp.lit (.int .i64 k), Sp.tv w.heap.size (Tm.num k), Sp.lit (str z), Sp.row wr.heap.size [z], Sp.rows wr.heap.size [z]]) rl_later (lt7 ?_ ?_ ?_ ?_ ?_ ?_ ?_) ?_
        · intro vs W hE hd K hK
          have hE' : After wr W := hself.trans hE
          exact do_rp (v := .pointer (some ⟨q, 0, none⟩)) (Sp.lit (.pointer (some ⟨q, 0, none⟩))).p (by kernel_rfl) (wanted_of (by kernel_rfl)) (by kernel_rfl) (After.refl W) rfl hK
        · intro vs W hE hd K hK
          have hE' : After wr W := hself.trans hE
          exact do_rp (v := sv) (Sp.lit sv).p (by kernel_rfl) (wanted_of (by kernel_rfl)) (run_ld_ss (x := .tmp 17) (u := vs 0) (by kernel_rfl) (by kernel_rfl) (hd 0 (by kernel_rfl)) (cell_of_heap (i := 0) (hE'.heap HBOX.out))) (After.refl W) rfl hK
        · intro vs W hE hd K hK
          have hE' : After wr W := hself.trans hE
          exact do_rp (v := .int .i64 k) (Sp.lit (.int .i64 k)).p (by kernel_rfl) (wanted_of (by kernel_rfl)) (by kernel_rfl) (After.refl W) rfl hK
        · intro vs W hE hd K hK
          have hE' : After wr W := hself.trans hE
          exact do_cp (Sp.tv w.heap.size (Tm.num k)).p (by kernel_rfl) (wanted_of (by kernel_rfl)) (f := 29) (args := #[vs 2]) (by kernel_rfl) (by rw [show vs 2 = .int .i64 k from hd 2 (by kernel_rfl)]; exact numeral_any W w.heap.size k (Nat.le_trans hA.size hE'.size) (by omega)) hK
        · intro vs W hE hd K hK
          have hE' : After wr W := hself.trans hE
          exact do_cp (Sp.lit (str z)).p (by kernel_rfl) (wanted_of (by kernel_rfl)) (f := 28) (args := #[vs 3]) (by kernel_rfl) ((textOf_any W w.heap.size (Tm.num k) (vs 3) (hd 3 (by kernel_rfl)) HSM.out.1 HSM.out.2.2).mono fun e w' h => ⟨_, h.1, h.2, by rw [HZ.out]; rfl⟩) hK
        · intro vs W hE hd K hK
          have hE' : After wr W := hself.trans hE
          exact do_rp (Sp.row wr.heap.size [z]).p (by kernel_rfl) (wanted_of (by kernel_rfl)) (run_row1 (x := .tmp 21) (u := vs 4) (by kernel_rfl) (by kernel_rfl) (hd 4 (by kernel_rfl))) (After.new _ _) (own_one W _ hE'.size z) hK
        · intro vs W hE hd K hK
          have hE' : After wr W := hself.trans hE
          have h5 : W.ownsRow wr.heap.size 9 1 (vs 5) ([z] : List (List UInt8)).length ([z].map str) := hd 5 (by kernel_rfl)
          obtain ⟨g5, c5, e5, _⟩ := h5.form (by simp)
          exact do_rp (Sp.rows wr.heap.size [z]).p (by kernel_rfl) (wanted_of (by kernel_rfl)) (run_rows1 (x := .tmp 22) (u := vs 5) (by kernel_rfl) (by kernel_rfl) e5) (After.new _ _) ⟨_, _, rfl, heap_new' _ _, rfl, by rw [← e5]; exact own_later h5 (After.new _ _)⟩ hK
        intro vs W hE hd
        have hE' : After wr W := hself.trans hE
        obtain ⟨b2, rv, eb2, hb2, _, hrow⟩ := hd 6 (by decide)
        refine tail_push2 (wr := wr) (m := 7) (q := q) (base := q) (b2 := b2) (sv := sv) (s := .tmp 18) (x := .tmp 23) (t := .tmp 4) (y := .tmp 25) (z := .tmp 24) (d7 := 24) (d8 := 25) (rv := rv)
          (by kernel_rfl) (by kernel_rfl) (by kernel_rfl) (by kernel_rfl) (by kernel_rfl) (by kernel_rfl) (by kernel_rfl) (by kernel_rfl) (by kernel_rfl) (by kernel_rfl) (by kernel_rfl) (by kernel_rfl)
          (Eq.trans (by kernel_rfl : _ = vs 1) (hd 1 (by decide))) (Eq.trans (by kernel_rfl : _ = vs 6) eb2) (fun v => by kernel_rfl) (fun v => by kernel_rfl) (fun v => by kernel_rfl) HOWN.out hE' HQS.out HLN.out (Nat.le_refl _) HBOX.out hrow hb2 (fun g cap w9 hown9 hbox9 hb9 => ?_)
        refine hKK _ _ ?_
        rw [frame_from 17 9 (by kernel_rfl) (by kernel_rfl) (by kernel_rfl), lit2_31_17_9]
        clear hd eb2 hb2 hrow
        generalize vs 0 = y0 at *
        generalize vs 1 = y1 at *
        generalize vs 2 = y2 at *
        generalize vs 3 = y3 at *
        generalize vs 4 = y4 at *
        generalize vs 5 = y5 at *
        generalize vs 6 = y6 at *
        go_wp2_with fail
        go_roundw
        case rel =>
          refine ⟨k + 1, _, by go_num, by omega, hbox9, ?_, ?_, ?_⟩
          · show OwnSS _ _ _ _
            rw [numsA_succ, ← HZ.out]
            exact hown9
          · show _ = _
            rw [hb9.block _ (by rw [HQ.out]; omega)]
            exact HRES.out
          · show After _ _
            exact Below.trans HAW.out (hb9.mono (by rw [HQ.out]; omega))
        case measure => simp [intOf]; omega
      · obtain rfl : k = N := by omega
        have hv := HVAL.out wr sv (HOWN.out.ssu (Nat.zero_le _))
        obtain ⟨ao, cap, rfl⟩ := HOWN.out.form
        obtain ⟨p0, p1, p2⟩ := one_facts HBOX.out (After.refl _)
        generalize (numsA k).length = L at *
        go_wp2_with fail
        refine hv.mono ?_
        rintro e w1 ⟨rfl, hb1⟩
        obtain ⟨r0, r1, r2⟩ := one_facts HRES.out hb1
        clear p0 p1 p2
        go_wp2_with fail
        refine bodyPost_ret (v := .tuple #[.agg #[.slice ao L cap], .bool true]) (by simp [results, Tryz.results9, go_sem, r0]) rfl ⟨_, rfl, ?_, ?_⟩
        · refine OwnSS.less (base := q) ((HOWN.out.later hb1).keptT fun b cs T fr hT hb => ?_) (by rw [HQ.out]; omega)
          rw [Below.heap_setCell _ _ _ _ (fun e => by have e' : b = w.heap.size := e; subst e'; rw [hb1.heap HRES.out] at hb; injection hb with hb; injection hb with _ hb _; exact hT hb.symm)]
          exact hb
        · exact Below.setCell (Below.trans HAW.out (hb1.mono (Nat.le_trans (Nat.le_refl _) HAW.out.size))) (Nat.le_refl _) _
  · rw [show pNums n = none by unfold pNums; rw [if_neg hn]]
    have hA0 := After.new w (.cells #[.slice none 0 0] 26)
    obtain ⟨r0, r1, r2⟩ := one_facts (heap_new' w (.cells #[.slice none 0 0] 26)) (After.refl _)
    have hfin : AsmOwn w none (.returned (.tuple #[.agg #[.slice none 0 0], .bool false])) (w.alloc (.cells #[.slice none 0 0] 26)) := ⟨_, rfl, OwnSS.nil _ _, hA0⟩
    by_cases hn1 : n < 1
    · go_enter Tryz.func9, Tryz.ntmps9
      go_wp2_with fail
      exact bodyPost_ret (v := .tuple #[.agg #[.slice none 0 0], .bool false]) (by simp [results, Tryz.results9, go_sem, r0]) rfl hfin
    · have hn6 : 6 < n := by omega
      go_enter Tryz.func9, Tryz.ntmps9
      go_wp2_with fail
      exact bodyPost_ret (v := .tuple #[.agg #[.slice none 0 0], .bool false]) (by simp [results, Tryz.results9, go_sem, r0]) rfl hfin
end Go.Proofs.YtidpkmkhcomcdaaGreat
