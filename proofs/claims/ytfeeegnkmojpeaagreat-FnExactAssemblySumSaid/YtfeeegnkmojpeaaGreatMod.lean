/-
  Modest assemblies: in plain mathematics; the program's modest, AssemblyModest.
-/
import Derived.Test.YtfeeegnkmojpeaaGreatPkO
import Derived.Test.YtfeeegnkmojpeaaGreatPkU
namespace Go.Proofs.YtfeeegnkmojpeaaGreat
open Go.RowKit Go.WideMaps Go.Maps

set_option maxHeartbeats 2000000
set_option maxRecDepth 100000

theorem gd {α : Type} (l : List α) (k : Nat) (d : α) (h : k < l.length) : l.getD k d = l[k] := by rw [List.getD, List.getElem?_eq_getElem h]; rfl
theorem gd_mem {α : Type} {l : List α} {k : Nat} {d : α} (h : k < l.length) : l.getD k d ∈ l := by rw [gd l k d h]; exact List.getElem_mem h

namespace Asm
def mdk (a : List (List Txt)) (i j n : Nat) : Bool := (List.range n).all fun k => !decide ((a.getD i []).getD k [] ∈ a.getD j [])
def mdj (a : List (List Txt)) (i m : Nat) : Bool := (List.range m).all fun j => mdk a i j (a.getD i []).length
def mds (a : List (List Txt)) (n : Nat) : Bool := (List.range n).all fun i => mdj a i i
def modest (a : List (List Txt)) : Bool := ok a && mds a a.length

theorem mdk_succ (a : List (List Txt)) (i j n : Nat) : mdk a i j (n + 1) = (mdk a i j n && !decide ((a.getD i []).getD n [] ∈ a.getD j [])) := by simp [mdk, List.range_succ]
theorem mdj_succ (a : List (List Txt)) (i m : Nat) : mdj a i (m + 1) = (mdj a i m && mdk a i m (a.getD i []).length) := by simp [mdj, List.range_succ]
theorem mds_succ (a : List (List Txt)) (n : Nat) : mds a (n + 1) = (mds a n && mdj a n n) := by simp [mds, List.range_succ]
theorem mds_no {a : List (List Txt)} {i j k n : Nat} (h : (a.getD i []).getD k [] ∈ a.getD j []) (hk : k < (a.getD i []).length) (hj : j < i) (hi : i < n) : mds a n = false := by
  rw [mds, List.all_eq_false]
  refine ⟨i, List.mem_range.2 hi, ?_⟩
  have h1 : mdk a i j (a.getD i []).length = false := by
    rw [mdk, List.all_eq_false]
    exact ⟨k, List.mem_range.2 hk, by rw [decide_eq_true h]; decide⟩
  have h2 : mdj a i i = false := by
    rw [mdj, List.all_eq_false]
    exact ⟨j, List.mem_range.2 hj, by rw [h1]; decide⟩
  rw [h2]; decide

/-- What stands ahead of realizer k of element i. -/
def ahead (a : List (List Txt)) (i k : Nat) : List Txt := (a.take i).flatten ++ (a.getD i []).take k
theorem ahead_zero (a : List (List Txt)) (i : Nat) : ahead a i 0 = (a.take i).flatten := by simp [ahead]
theorem ahead_succ {a : List (List Txt)} {i k : Nat} (hk : k < (a.getD i []).length) : ahead a i (k + 1) = ahead a i k ++ [(a.getD i []).getD k []] := by
  rw [ahead, ahead, List.take_succ_eq_append_getElem hk, List.append_assoc, gd _ _ _ hk]
theorem ahead_next {a : List (List Txt)} {i : Nat} (hi : i < a.length) : ahead a i (a.getD i []).length = (a.take (i + 1)).flatten := by
  rw [ahead, List.take_length, List.take_succ_eq_append_getElem hi, List.flatten_append]
  congr 1
  rw [List.getD, List.getElem?_eq_getElem hi]
  simp

theorem mem_take_flatten {a : List (List Txt)} {i : Nat} (hi : i ≤ a.length) {x : Txt} : x ∈ (a.take i).flatten ↔ ∃ j, j < i ∧ x ∈ a.getD j [] := by
  rw [List.mem_flatten]
  constructor
  · rintro ⟨l, hl, hx⟩
    obtain ⟨j, hj, rfl⟩ := List.getElem_of_mem hl
    rw [List.length_take] at hj
    refine ⟨j, by omega, ?_⟩
    rw [List.getElem_take] at hx
    rw [List.getD, List.getElem?_eq_getElem (by omega)]
    exact hx
  · rintro ⟨j, hj, hx⟩
    rw [List.getD, List.getElem?_eq_getElem (show j < a.length by omega)] at hx
    exact ⟨_, List.mem_iff_getElem.2 ⟨j, by rw [List.length_take]; omega, List.getElem_take⟩, hx⟩

/-- In a valid assembly what stands ahead is in an element ahead. -/
theorem ahead_mem {a : List (List Txt)} {i k : Nat} (hok : ok a = true) (hi : i < a.length) (hk : k < (a.getD i []).length) (h : (a.getD i []).getD k [] ∈ ahead a i k) : ∃ j, j < i ∧ (a.getD i []).getD k [] ∈ a.getD j [] := by
  rw [ahead, List.mem_append] at h
  rcases h with h | h
  · exact (mem_take_flatten (by omega)).1 h
  · exfalso
    rw [ok_eq, Bool.and_eq_true, pfs, List.all_eq_true] at hok
    have := hok.2 i (List.mem_range.2 hi)
    rw [pfx, List.all_eq_true] at this
    have := this k (List.mem_range.2 hk)
    rw [step, Bool.and_eq_true] at this
    rw [decide_eq_true h] at this
    exact absurd this.2 (by decide)

theorem mdj_all {a : List (List Txt)} {i : Nat} (hi : i ≤ a.length) (h : ∀ k, k < (a.getD i []).length → (a.getD i []).getD k [] ∉ (a.take i).flatten) : mdj a i i = true := by
  rw [mdj, List.all_eq_true]
  intro j hj
  rw [mdk, List.all_eq_true]
  intro k hk
  have := h k (List.mem_range.1 hk)
  rw [mem_take_flatten hi] at this
  simp only [Bool.not_eq_true', decide_eq_false_iff_not]
  exact fun hm => this ⟨j, List.mem_range.1 hj, hm⟩
end Asm

/-- The map of the texts that are known. -/
def KM (w : World) (mb : Nat) (S : List (List UInt8)) : Prop :=
  ∃ D : DataW Unit, w.ownsMap Tryz.prog 9 (plainElem Tryz.prog 4) mb S.length D ∧ ∀ x, D.atKey (.string x) (.lit (.bool false)) = .lit (.bool (decide (x ∈ S)))

theorem KM.start (w : World) : KM (w.alloc (.map #[] 0)) w.heap.size [] := ⟨_, World.ownsMap_made w _ _ _, fun x => by simp [DataW.atKey]⟩

theorem KM.kept {w W : World} {mb : Nat} {S : List (List UInt8)} (h : KM w mb S) (hA : After w W) : KM W mb S := by
  obtain ⟨D, hm, hD⟩ := h
  exact ⟨D, hm.kept (row := none) ⟨hA.os, hA.tape, hA.output, hA.size, fun k hk _ => hA.block k hk⟩ (by simp), hD⟩

theorem modest_any (w : World) (base : Nat) (sv : Value) (a : List (List (List UInt8))) (h : RowA w base sv a) (hok : Asm.ok a = true) (hx : ∀ rs ∈ a, ∀ x ∈ rs, x.length ≤ 1000000000) :
    Calls Tryz.prog 60 #[sv] w fun e w' => e = .returned (.bool (Asm.mds a a.length)) ∧ After w w' := by
  have hsz : a.length ≤ 6 ∧ ∀ i, i < a.length → (a.getD i []).length ≤ 4 := by
    rw [Asm.ok, Bool.and_eq_true, Bool.and_eq_true, decide_eq_true_eq, decide_eq_true_eq, Asm.els, List.all_eq_true] at hok
    refine ⟨hok.1.2, fun i hi => ?_⟩
    have := hok.2 i (List.mem_range.2 hi)
    rw [Asm.el, Bool.and_eq_true, Bool.and_eq_true, decide_eq_true_eq, decide_eq_true_eq] at this
    exact this.1.2
  have hat := fun j hj => h.at j hj
  obtain ⟨ao, cap, rfl⟩ := h.form
  have hcell : ∀ j, j < a.length → ∃ g ev, ao = some ⟨g, 0, none⟩ ∧ w.cell? ⟨g, j, none⟩ = some ev ∧ PairsU w ev (a.getD j []) ∧ ∃ ao' c', ev = .slice ao' (a.getD j []).length c' := fun j hj => by
    obtain ⟨g, cap', ev, e, h1, h2⟩ := hat j hj
    simp only [Value.slice.injEq, true_and] at e
    obtain ⟨rfl, rfl⟩ := e
    exact ⟨g, ev, rfl, h1, h2.pairs, h2.form⟩
  have hlen : ∀ i k, i < a.length → k < (a.getD i []).length → ((a.getD i []).getD k []).length ≤ maxLen := fun i k hi hk => by
    have := hx _ (gd_mem hi) ((a.getD i []).getD k []) (gd_mem hk)
    unfold maxLen; omega
  have hal : ∀ i k, i < a.length → k ≤ (a.getD i []).length → (Asm.ahead a i k).length ≤ 1000 := fun i k hi hk => by
    have h1 : (a.take i).flatten.length ≤ 4 * 6 := by
      rw [List.length_flatten]
      have : ∀ l : List (List (List UInt8)), (∀ x ∈ l, x.length ≤ 4) → (l.map List.length).sum ≤ 4 * l.length := by
        intro l
        induction l with
        | nil => simp
        | cons y l ih =>
          intro h
          have h1 := h y (List.mem_cons_self ..)
          have h2 := ih (fun x hx => h x (List.mem_cons_of_mem _ hx))
          simp only [List.map_cons, List.sum_cons, List.length_cons]
          omega
      refine Nat.le_trans (this _ fun x hx => ?_) (by rw [List.length_take]; omega)
      obtain ⟨j, hj, rfl⟩ := List.getElem_of_mem (List.mem_of_mem_take hx)
      have := hsz.2 j hj
      rwa [List.getD, List.getElem?_eq_getElem hj] at this
    have h2 := hsz.2 i hi
    rw [Asm.ahead, List.length_append, List.length_take]
    omega
  obtain ⟨r, hr⟩ : ∃ r, r = Asm.mds a a.length := ⟨_, rfl⟩
  rw [← hr]
  have hno : ∀ i k, i < a.length → k < (a.getD i []).length → (a.getD i []).getD k [] ∈ Asm.ahead a i k → r = false := fun i k hi hk hm => by
    obtain ⟨j, hj, hm'⟩ := Asm.ahead_mem hok hi hk hm
    rw [hr]
    exact Asm.mds_no hm' hk hj hi
  have hnext : ∀ i, i < a.length → Asm.ahead a i (a.getD i []).length = Asm.ahead a (i + 1) 0 := fun i hi => by rw [Asm.ahead_next hi, Asm.ahead_zero]
  have hstep : ∀ i, i < a.length → Asm.mds a i = true → (∀ k, k < (a.getD i []).length → (a.getD i []).getD k [] ∉ (a.take i).flatten) → Asm.mds a (i + 1) = true := fun i hi h1 h2 => by rw [Asm.mds_succ, h1, Asm.mdj_all (by omega) h2]; rfl
  have hst := KM.start w
  have hA0 := After.new w (.map #[] 0)
  have hmm := @run_makeMap Tryz.prog
  obtain ⟨n, hn'⟩ : ∃ n, n = a.length := ⟨_, rfl⟩
  rw [← hn'] at hcell hlen hal hr hno hnext hstep hsz ⊢
  have HC := Lib.hid hcell
  have HLEN := Lib.hid hlen
  have HAL := Lib.hid hal
  have HR := Lib.hid hr
  have HNO := Lib.hid hno
  have HNEXT := Lib.hid hnext
  have HSTEP := Lib.hid hstep
  have HST : Hid (KM (w.alloc (.map #[] 0)) w.heap.size (Asm.ahead a 0 0)) := by
    show KM _ _ _
    have e : Asm.ahead a 0 0 = [] := by simp [Asm.ahead]
    rw [e]
    exact hst
  have HSZ := Lib.hid hsz
  have hn6 := hsz.1
  clear hcell hlen hal hr hno hnext hstep hst hx hat hok h hn' hsz
  go_enter Tryz.func60, Tryz.ntmps60
  go_wp2_with fail
  obtain ⟨mb, hmb⟩ : ∃ mb, mb = w.heap.size := ⟨_, rfl⟩
  rw [← hmb] at HST
  have HMB := Lib.hid hmb
  simp only [← hmb]
  clear hmb
  generalize w.alloc (.map #[] 0) = w0 at *
  go_loopw [11] (fun i wr => ∃ k : Nat, i = .int .i64 k ∧ k ≤ n ∧ Hid (KM wr mb (Asm.ahead a k 0)) ∧ Hid (Asm.mds a k = true) ∧ After w wr) (fun i _ => n - (intOf i).toNat)
  case atStart => exact ⟨0, rfl, Nat.zero_le _, HST, by show _ = _; rfl, hA0⟩
  case round =>
    obtain ⟨i, rfl, hi, hkm, hmd, hA⟩ := hrel
    clear HST
    by_cases hlt : i < n
    · obtain ⟨g, ev, rfl, h1, hpu, ao', c', rfl⟩ := HC.out i hlt
      replace h1 := hA.cell h1
      have hlt' : (i : Int) < (n : Int) := by omega
      have hrs4 := HSZ.out.2 i hlt
      obtain ⟨rs, hrs⟩ : ∃ rs, rs = a.getD i [] := ⟨_, rfl⟩
      have hlen := HLEN.out i
      have hal := HAL.out i
      have hno := HNO.out i
      have hnx := HNEXT.out i hlt
      have hsp := HSTEP.out i hlt hmd.out
      have hah : ∀ k, k < rs.length → Asm.ahead a i (k + 1) = Asm.ahead a i k ++ [rs.getD k []] := fun k hk => by rw [hrs] at hk ⊢; exact Asm.ahead_succ hk
      have hin : ∀ k x, x ∈ (a.take i).flatten → x ∈ Asm.ahead a i k := fun k x hx => by rw [Asm.ahead]; exact List.mem_append_left _ hx
      rw [← hrs] at h1 hpu hlen hal hno hnx hsp hrs4
      have HLE := Lib.hid (fun k => hlen k hlt)
      have HALI := Lib.hid (fun k => hal k hlt)
      have HNOI := Lib.hid (fun k => hno k hlt)
      have HNX := Lib.hid hnx
      have HSP := Lib.hid hsp
      have HAH := Lib.hid hah
      have HIN := Lib.hid hin
      obtain ⟨ao2, c2, e2, hpc⟩ := hpu
      simp only [Value.slice.injEq, true_and] at e2
      obtain ⟨rfl, rfl⟩ := e2
      obtain ⟨m, hm⟩ : ∃ m, m = rs.length := ⟨_, rfl⟩
      rw [← hm] at h1 hpc hrs4
      have HM := Lib.hid hm
      have HPC := Lib.hid hpc
      clear hlen hal hno hnx hsp hah hin hpc hm hrs
      obtain ⟨wa, hwa⟩ : ∃ x, x = wr := ⟨_, rfl⟩
      subst hwa
      go_wp2_with fail
      go_loopw [17] (fun j wr => ∃ k : Nat, j = .int .i64 k ∧ k ≤ m ∧ Hid (KM wr mb (Asm.ahead a i k)) ∧ Hid (∀ k', k' < k → rs.getD k' [] ∉ (a.take i).flatten) ∧ After w wr) (fun i _ => m - (intOf i).toNat)
      case atStart => exact ⟨0, rfl, Nat.zero_le _, hkm, by show ∀ k', _; exact fun k' h => absurd h (Nat.not_lt_zero k'), hA⟩
      case round =>
        obtain ⟨k, rfl, hk, hkm2, hall, hA2⟩ := hrel
        clear hkm
        by_cases hlk : k < m
        · obtain ⟨b, off, T, v, rfl, q1, q2⟩ := HPC.out k hlk
          replace q1 := hA2.cell q1
          replace q2 := hA2.cell q2
          have hlk2 : k < rs.length := by rw [← HM.out]; exact hlk
          have hle := HLE.out k hlk2
          have hac := HALI.out k (by omega)
          have hlk' : (k : Int) < (m : Int) := by omega
          have hah := HAH.out k hlk2
          have hno := HNOI.out k hlk2
          obtain ⟨x, hx⟩ : ∃ x, x = rs.getD k [] := ⟨_, rfl⟩
          rw [← hx] at q2 hle hah hno
          obtain ⟨S, hS⟩ : ∃ S, S = Asm.ahead a i k := ⟨_, rfl⟩
          rw [← hS] at hkm2 hah hno hac
          obtain ⟨D, hmp, hD⟩ := hkm2.out
          have hnw := hA2.alloc (.cells #[.iface T v, str x] 99)
          have hmp2 := hmp.alloc (.cells #[.iface T v, str x] 99)
          have hrun := look_run hmp2 hD x hle
          have HX := Lib.hid hx
          have HS := Lib.hid hS
          have HAH2 := Lib.hid hah
          clear hx hS hah
          by_cases hmem : x ∈ S
          · have HF := Lib.hid (hno hmem)
            rw [decide_eq_true hmem] at hrun
            clear hno hD hmem hmp hmp2
            go_wp2_with fail
            go_ret
            exact ⟨by rw [HF.out]; rfl, hnw⟩
          · rw [decide_eq_false hmem] at hrun
            have hmax : S.length < maxLen := by unfold maxLen; omega
            have hkey := key_str x hle
            have HD := Lib.hid hD
            have HMI := hmp.isMap
            have HNM := Lib.hid hmem
            clear hno hD hmem hmp
            go_wp2_with (at_mapUpdate; refine wpList_mapUpdate_own _ rfl _ _ _ 140 rfl 9 4 law_key Tryz.underlying140 _ mb _ _ rfl hmp2 hmax _ _ _ rfl rfl hkey _ [] (plainElem_bool Tryz.underlying4 true) ?_; intro w1 hm1 hg1; have HM1 := Lib.hid hm1; have HG1 := Lib.hid hg1; clear hm1 hg1)
            go_roundw
            case rel =>
              refine ⟨k + 1, by go_num, by omega, ?_, ?_, ?_⟩
              · show KM _ _ _
                rw [← HS.out] at *
                rw [HAH2.out]
                refine ⟨_, by rw [List.length_append]; exact HM1.out, fun y => ?_⟩
                by_cases hy : y = x
                · subst hy
                  rw [atKey_put_same HMI (by trivial)]
                  simp
                · rw [atKey_put_other (by intro e; injection e with e; exact hy e), HD.out]
                  simp [hy]
              · show ∀ k', _
                intro k' hk'
                by_cases hkk : k' = k
                · subst hkk
                  rw [← HX.out]
                  exact fun hm => HNM.out (by rw [HS.out]; exact HIN.out _ _ hm)
                · exact hall.out k' (by omega)
              · exact hnw.grown HG1.out hnw.size (fun q hq => by injection hq with hq; rw [← hq, HMB.out]; exact Nat.le_refl _)
            case measure => simp [intOf]; omega
        · obtain rfl : k = m := by omega
          go_wp2_with fail
          go_roundw
          case rel =>
            refine ⟨i + 1, by go_num, by omega, ?_, HSP.out (fun k' hk' => hall.out k' (by rw [HM.out]; exact hk')), hA2⟩
            show KM _ _ _
            rw [← HNX.out, ← HM.out]
            exact hkm2.out
          case measure => simp [intOf]; omega
    · obtain rfl : i = n := by omega
      go_wp2_with fail
      go_ret
      exact ⟨by rw [HR.out, hmd.out]; rfl, hA⟩

theorem impl_asmModest (w : World) (sv : Value) (a : List (List (List UInt8))) (h : SSU 0 w sv a) (hl : Lens 1000000000 a) :
    Calls Tryz.prog 23 #[.agg #[sv]] w fun e w' => e = .returned (.bool (Asm.modest a)) ∧ After w w' := by
  have hcall := fun W (hW : After w W) => readAssembly_any W sv a (h.later hW) hl
  have hmod := fun W base v (hv : RowA W base v a) (hok : Asm.ok a = true) => modest_any W base v a hv hok (fun rs hrs => (hl.2 rs hrs).2)
  obtain ⟨ao, cap, rfl⟩ := h.form
  have hA0 := After.new w (.cells #[.slice ao a.length cap] 25)
  have hc := hcall _ hA0
  unfold ReadAsmPost at hc
  obtain ⟨r, hr⟩ : ∃ r, r = Asm.modest a := ⟨_, rfl⟩
  rw [← hr]
  rw [Asm.modest] at hr
  have HR := Lib.hid hr
  have HMOD := Lib.hid hmod
  clear hcall h hl hr hmod
  cases hok : Asm.ok a with
  | false =>
    rw [hok] at hc HR
    generalize a.length = n at *
    go_enter Tryz.func23, Tryz.ntmps23
    go_wp2_with fail
    refine hc.mono ?_
    rintro e w1 ⟨ao2, n2, c2, rfl, hb1, hv1⟩
    clear hv1 hc
    go_wp2_with fail
    go_ret
    exact ⟨by rw [HR.out]; rfl, hA0.trans hb1⟩
  | true =>
    have hmod := fun W base v hv => HMOD.out W base v hv hok
    rw [hok] at hc HR
    generalize Asm.mds a a.length = md at *
    generalize a.length = n at *
    go_enter Tryz.func23, Tryz.ntmps23
    go_wp2_with fail
    refine hc.mono ?_
    rintro e w1 ⟨ao2, n2, c2, rfl, hb1, hv1⟩
    have hm := hmod w1 _ _ (hv1 (by trivial))
    clear hv1 hc hmod
    go_wp2_with (go_at_call 60; refine hm.mono ?_; rintro e w2 ⟨rfl, hb2⟩)
    go_ret
    exact ⟨by rw [HR.out]; rfl, (hA0.trans hb1).trans hb2⟩
end Go.Proofs.YtfeeegnkmojpeaaGreat
