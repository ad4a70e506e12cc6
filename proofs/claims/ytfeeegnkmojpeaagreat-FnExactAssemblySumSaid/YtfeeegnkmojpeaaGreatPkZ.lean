/-
  Pairs of realizers: in plain mathematics; the program's pairTexts.
-/
import Derived.Test.YtfeeegnkmojpeaaGreatPkY
import Derived.Test.YtfeeegnkmojpeaaGreatPkA
import Derived.Test.YtfeeegnkmojpeaaGreatTrkA
import Derived.Test.YtfeeegnkmojpeaaGreatPkR
import Derived.Test.YtfeeegnkmojpeaaGreatPkN
import Derived.Test.YtfeeegnkmojpeaaGreatPkU
import Derived.Deep.RegionHeld3
import Derived.Test.YtfeeegnkmojpeaaGreatMod
namespace Go.Proofs.YtfeeegnkmojpeaaGreat
open Go.RowKit

set_option maxHeartbeats 2000000
set_option maxRecDepth 100000

namespace Asm
def tmOf (x : Txt) : Tm := (rz x).getD Tm.k
def pr (x y : Txt) : Txt := (Tm.pair (tmOf x) (tmOf y)).text
def prs (xs ys : List Txt) : List Txt := xs.flatMap fun x => ys.map (pr x)

theorem rz_facts {x : Txt} {t : Tm} (h : rz x = some t) : tmOf x = t ∧ t.good = true ∧ t.size ≤ 60 ∧ Tm.closedOf x = some t := by
  have h0 := h
  unfold rz at h
  cases hc : Tm.closedOf x with
  | none => rw [hc] at h; cases h
  | some u =>
    rw [hc] at h
    simp only at h
    split at h
    · rename_i hh
      obtain rfl := Option.some.inj h
      exact ⟨by rw [tmOf, h0]; rfl, (Tm.parse_facts (Tm.closed_facts hc).1).1, hh.2, rfl⟩
    · cases h

theorem pair_fits {t u : Tm} (ht : t.size ≤ 60) (hu : u.size ≤ 60) (hg : t.good = true) (hgu : u.good = true) : (Tm.pair t u).good = true ∧ (Tm.pair t u).size ≤ 200 ∧ (Tm.pair t u).text.length ≤ 100000 := by
  have hgp : (Tm.pair t u).good = true := by rw [Tm.good_pair, hg, hgu]; rfl
  have hz : (Tm.pair t u).size ≤ 200 := by simp only [Tm.pair, Tm.I, Tm.size]; omega
  have htl := Tm.text_le _ hgp
  exact ⟨hgp, hz, by omega⟩
end Asm

theorem RowE.at {w : World} {base : Nat} {sv : Value} {xs : List (List UInt8)} (h : RowE w base sv xs) (j : Nat) (hj : j < xs.length) : ∃ g cap T v t, sv = .slice (some ⟨g, 0, none⟩) xs.length cap ∧
    w.cell? ⟨g, j * 2, none⟩ = some (.iface T v) ∧ w.cell? ⟨g, j * 2 + 1, none⟩ = some (str (xs.getD j [])) ∧ Asm.rz (xs.getD j []) = some t ∧ TV w base t (.iface T v) := by
  obtain ⟨cs, ho, hc⟩ := h
  obtain ⟨T, v, t, h1, h2, h3, h4⟩ := hc j hj
  rcases ho.2 with ⟨rfl, h0⟩ | ⟨g, cap, cur, rfl, _⟩
  · omega
  · exact ⟨g, cap, T, v, t, rfl, (ho.cellAt (j * 2) (by omega)).trans h1, (ho.cellAt (j * 2 + 1) (by omega)).trans h2, h3, h4⟩

theorem prs_row (xs ys : List (List UInt8)) (i j : Nat) (hi : i < xs.length) (hj : j < ys.length) : Asm.prs (xs.take i) ys ++ (ys.take (j + 1)).map (Asm.pr (xs.getD i [])) = (Asm.prs (xs.take i) ys ++ (ys.take j).map (Asm.pr (xs.getD i []))) ++ [Asm.pr (xs.getD i []) (ys.getD j [])] := by
  rw [List.take_succ_eq_append_getElem hj, List.map_append, List.append_assoc]
  have : ys.getD j [] = ys[j] := by simp [List.getD, hj]
  rw [this]
  rfl
theorem prs_next (xs ys : List (List UInt8)) (i : Nat) (hi : i < xs.length) : Asm.prs (xs.take i) ys ++ (ys.take ys.length).map (Asm.pr (xs.getD i [])) = Asm.prs (xs.take (i + 1)) ys := by
  have : xs.getD i [] = xs[i] := by simp [List.getD, hi]
  rw [List.take_length, List.take_succ_eq_append_getElem hi, this, Asm.prs, Asm.prs, List.flatMap_append]
  simp only [List.flatMap_cons, List.flatMap_nil, List.append_nil]
theorem prs_len (xs ys : List (List UInt8)) : (Asm.prs xs ys).length = xs.length * ys.length := by
  induction xs with
  | nil => simp [Asm.prs]
  | cons x xs ih =>
    have : Asm.prs (x :: xs) ys = ys.map (Asm.pr x) ++ Asm.prs xs ys := rfl
    rw [this, List.length_append, ih, List.length_map, List.length_cons, Nat.succ_mul, Nat.add_comm]

/-- A row of texts that grows. -/
def RowS (w : World) (base : Nat) (sv : Value) (ns : List (List UInt8)) : Prop := w.ownsRow base 9 1 sv ns.length (ns.map str)

theorem pairTexts_any (w : World) (b1 b2 : Nat) (e1 e2 : Value) (xs ys : List (List UInt8)) (h1 : RowE w b1 e1 xs) (h2 : RowE w b2 e2 ys) (hx : xs.length ≤ 4) (hy : ys.length ≤ 4) :
    Calls Tryz.prog 49 #[e1, e2] w fun e w' => ∃ v, e = .returned v ∧ After w w' ∧ RowS w' w.heap.size v (Asm.prs xs ys) := by
  have hat1 := fun j hj => h1.at j hj
  have hat2 := fun j hj => h2.at j hj
  obtain ⟨ao1, c1, rfl⟩ := h1.form
  obtain ⟨ao2, c2, rfl⟩ := h2.form
  have hc1 : ∀ j, j < xs.length → ∃ g T v t, ao1 = some ⟨g, 0, none⟩ ∧ w.cell? ⟨g, j * 2, none⟩ = some (.iface T v) ∧ w.cell? ⟨g, j * 2 + 1, none⟩ = some (str (xs.getD j [])) ∧ Asm.rz (xs.getD j []) = some t ∧ TV w 0 t (.iface T v) := fun j hj => by
    obtain ⟨g, cap, T, v, t, e, r1, r2, r3, r4⟩ := hat1 j hj
    simp only [Value.slice.injEq, true_and] at e
    exact ⟨g, T, v, t, e.1, r1, r2, r3, r4.less (Nat.zero_le _)⟩
  have hc2 : ∀ j, j < ys.length → ∃ g T v t, ao2 = some ⟨g, 0, none⟩ ∧ w.cell? ⟨g, j * 2, none⟩ = some (.iface T v) ∧ w.cell? ⟨g, j * 2 + 1, none⟩ = some (str (ys.getD j [])) ∧ Asm.rz (ys.getD j []) = some t ∧ TV w 0 t (.iface T v) := fun j hj => by
    obtain ⟨g, cap, T, v, t, e, r1, r2, r3, r4⟩ := hat2 j hj
    simp only [Value.slice.injEq, true_and] at e
    exact ⟨g, T, v, t, e.1, r1, r2, r3, r4.less (Nat.zero_le _)⟩
  have hrow := prs_row xs ys
  have hnext := prs_next xs ys
  have hlen : ∀ i j, i ≤ xs.length → j ≤ ys.length → (Asm.prs (xs.take i) ys ++ (ys.take j).map (Asm.pr (xs.getD i []))).length ≤ 1000 := fun i j hi hj => by
    rw [List.length_append, prs_len, List.length_map, List.length_take, List.length_take]
    have : min i xs.length * ys.length ≤ 4 * 4 := Nat.mul_le_mul (by omega) hy
    omega
  have hend : Asm.prs (xs.take xs.length) ys = Asm.prs xs ys := by rw [List.take_length]
  obtain ⟨n, hn⟩ : ∃ n, n = xs.length := ⟨_, rfl⟩
  obtain ⟨m, hm⟩ : ∃ m, m = ys.length := ⟨_, rfl⟩
  rw [← hn] at hc1 hrow hnext hlen hend hx ⊢
  rw [← hm] at hc2 hrow hnext hlen hy ⊢
  have HC1 := Lib.hid hc1
  have HC2 := Lib.hid hc2
  have HROW := Lib.hid hrow
  have HNEXT := Lib.hid hnext
  have HLEN := Lib.hid hlen
  have HEND := Lib.hid hend
  have hi : ∃ i, (Tryz.prog).info? 9 = some i ∧ i.zero = some (.string ⟨#[]⟩) ∧ i.size = 1 ∧ i.bytes = 16 := ⟨_, rfl, rfl, rfl, rfl⟩
  obtain ⟨i0, hi0, hz0, hz1, hz2⟩ := hi
  have hun : Tryz.prog.underlying 69 = some (.slice 9) := by kernel_rfl
  have HUN := Lib.hid hun
  have HI := Lib.hid (And.intro hi0 (And.intro hz0 (And.intro hz1 hz2)))
  have hnil : Hid (RowS w w.heap.size (.slice none 0 0) (Asm.prs (xs.take 0) ys)) := by show RowS _ _ _ _; exact World.ownsRow_nil w _ _ _
  clear hc1 hc2 hrow hnext hlen hend hat1 hat2 h1 h2 hun hi0 hz0 hz1 hz2 hn hm
  go_enter Tryz.func49, Tryz.ntmps49
  go_wp2_with fail
  go_loopw [5, 12] (fun t i wr => ∃ k : Nat, i = .int .i64 k ∧ k ≤ n ∧ Hid (RowS wr w.heap.size t (Asm.prs (xs.take k) ys)) ∧ After w wr) (fun _ i _ => n - (intOf i).toNat)
  case atStart => exact ⟨0, rfl, Nat.zero_le _, hnil, After.refl _⟩
  case round =>
    obtain ⟨i, rfl, hi, hown, hA⟩ := hrel
    clear hnil
    obtain ⟨ta, tc, e0⟩ : ∃ ao c, u5 = .slice ao (Asm.prs (xs.take i) ys).length c := by
      rcases hown.out.2 with ⟨rfl, h0⟩ | ⟨g, cap, cur, rfl, _⟩
      · exact ⟨_, _, by rw [h0]⟩
      · exact ⟨_, _, rfl⟩
    subst e0
    by_cases hlt : i < n
    · obtain ⟨g1, T1, v1, t1, rfl, q1, q2, q3, q4⟩ := HC1.out i hlt
      replace q1 := hA.cell q1
      replace q2 := hA.cell q2
      have hlt' : (i : Int) < (n : Int) := by omega
      obtain ⟨x, hx'⟩ : ∃ x, x = xs.getD i [] := ⟨_, rfl⟩
      have hrowi := fun j hj => HROW.out i j hlt hj
      have hnxt := HNEXT.out i hlt
      have hlni := fun j hj => HLEN.out i j hi hj
      rw [← hx'] at q2 q3 hrowi hnxt hlni
      have Q3 := Lib.hid q3
      have Q4 := Lib.hid q4
      have HROWI := Lib.hid hrowi
      have HNXT := Lib.hid hnxt
      have HLNI := Lib.hid hlni
      obtain ⟨P, hP⟩ : ∃ P, P = Asm.prs (xs.take i) ys := ⟨_, rfl⟩
      rw [← hP] at hown HROWI HNXT HLNI ⊢
      have hst : Hid (RowS wr w.heap.size (.slice ta P.length tc) (P ++ (ys.take 0).map (Asm.pr x))) := by show RowS _ _ _ _; simpa using hown.out
      have hA2 := hA.alloc (.cells #[.iface T1 v1, str x] 99)
      have hbx := heap_new' wr (.cells #[.iface T1 v1, str x] 99)
      have hst2 : Hid (RowS (wr.alloc (.cells #[.iface T1 v1, str x] 99)) w.heap.size (.slice ta P.length tc) (P ++ (ys.take 0).map (Asm.pr x))) := by show RowS _ _ _ _; exact own_later hst.out (After.new _ _)
      have HBX := Lib.hid hbx
      clear q3 q4 hrowi hnxt hlni hst hP hx' hbx hown
      obtain ⟨wa, hwa⟩ : ∃ x, x = wr := ⟨_, rfl⟩
      subst hwa
      go_wp2_with fail
      generalize wa.heap.size = bx at *
      generalize wa.alloc (.cells #[.iface T1 v1, str x] 99) = wb at *
      go_loopw [5, 18] (fun t j wr => ∃ k : Nat, j = .int .i64 k ∧ k ≤ m ∧ Hid (RowS wr w.heap.size t (P ++ (ys.take k).map (Asm.pr x))) ∧ After w wr ∧ Hid (wr.heap[bx]? = some (.cells #[.iface T1 v1, str x] 99 (0, 0)))) (fun _ i _ => m - (intOf i).toNat)
      case atStart => exact ⟨0, rfl, Nat.zero_le _, hst2, hA2, HBX⟩
      case round =>
        obtain ⟨j, rfl, hj, hown, hA3, hAb⟩ := hrel
        clear hst2
        obtain ⟨tb, td, e0⟩ : ∃ ao c, u5 = .slice ao (P ++ (ys.take j).map (Asm.pr x)).length c := by
          rcases hown.out.2 with ⟨rfl, h0⟩ | ⟨g, cap, cur, rfl, _⟩
          · exact ⟨_, _, by rw [h0]⟩
          · exact ⟨_, _, rfl⟩
        subst e0
        by_cases hlj : j < m
        · obtain ⟨g2, T2, v2, t2, rfl, r1, r2, r3, r4⟩ := HC2.out j hlj
          replace r1 := hA3.cell r1
          replace r2 := hA3.cell r2
          have hlj' : (j : Int) < (m : Int) := by omega
          obtain ⟨f1, f2, f3⟩ := Asm.rz_facts Q3.out
          obtain ⟨k1, k2, k3⟩ := Asm.rz_facts r3
          have hfit := Asm.pair_fits f3.1 k3.1 f2 k2
          have hrw := HROWI.out j hlj
          have hpr : Asm.pr x (ys.getD j []) = (Tm.pair t1 t2).text := by rw [Asm.pr, f1, k1]
          rw [hpr] at hrw
          have hlen := HLNI.out j hj
          obtain ⟨y, hy'⟩ : ∃ y, y = ys.getD j [] := ⟨_, rfl⟩
          rw [← hy'] at r2
          obtain ⟨S, hS⟩ : ∃ S, S = P ++ (ys.take j).map (Asm.pr x) := ⟨_, rfl⟩
          rw [← hS] at hown hrw hlen ⊢
          have hnw := After.new wr (.cells #[.iface T2 v2, str y] 99)
          have hA4 := hA3.trans hnw
          have hpc := pair_any (wr.alloc (.cells #[.iface T2 v2, str y] 99)) 0 t1 t2 _ _ (Q4.out.below hA4) (r4.below hA4) (Nat.zero_le _) (by omega)
          unfold TermPost at hpc
          have b0 : (wr.alloc (.cells #[.iface T2 v2, str y] 99)).cell? ⟨bx, 0, none⟩ = some (.iface T1 v1) := cell_of_heap (i := 0) (hnw.heap hAb.out)
          have HFIT := Lib.hid hfit
          have HRW := Lib.hid hrw
          have HABN := Lib.hid (hnw.heap hAb.out)
          have HOWN := Lib.hid (own_later hown.out hnw)
          clear r3 r4 f1 f2 f3 k1 k2 k3 hpr hrw hfit hown hy' hS hAb
          go_wp2_with fail
          refine hpc.mono ?_
          rintro e w1 ⟨v3, rfl, hb1, ht3⟩
          have htx := textOf_any w1 0 _ v3 ht3 HFIT.out.1 (by have := HFIT.out.2.2; omega)
          clear ht3 hpc b0
          go_wp2_with fail
          refine htx.mono ?_
          rintro e w2 ⟨rfl, hb2⟩
          have hA5 := (hA4.trans hb1).trans hb2
          obtain ⟨z, hz⟩ : ∃ z, z = (Tm.pair t1 t2).text := ⟨_, rfl⟩
          rw [← hz] at HRW ⊢
          have hA6 := hA5.alloc (.cells #[str z] 9)
          have hn6 := After.new w2 (.cells #[str z] 9)
          have HO := Lib.hid (own_later (own_later HOWN.out (After.trans hb1 hb2)) hn6)
          have hlit := World.ownsRow_lit (base := w2.heap.size) (e := 9) (size := 1) w2 #[str z] 1 (Nat.le_refl _) (by decide) (by simp)
          have hnews := Lib.hid (hlit.cells (g := w2.heap.size) rfl)
          have HAB6 := Lib.hid (hn6.heap ((After.trans hb1 hb2).heap HABN.out))
          obtain ⟨hi0, hz0, hz1, hz2⟩ := HI.out
          have hb5 := hA6.size
          clear hlit htx hz
          go_wp2_with (at_builtin; refine wpList_append_lies _ (by rfl) _ _ 69 (by rfl) w.heap.size 9 i0 (.string ⟨#[]⟩) 1 16 HUN.out hi0 hz0 hz1 hz2 rfl (by decide) _ _ _ (by rfl) HO.out ⟨w2.heap.size, 0, none⟩ 1 1 [str z] (by rfl) (by rfl) hnews.out (by simp [Value.oneCell', str]) (by omega) (by unfold maxLen; omega) (by omega) hb5 _ rfl ?_; intro g4 q4 w5 ho4 hg4 _ hlt4; have HO4 := Lib.hid ho4; have HG4 := Lib.hid hg4; clear ho4 hg4)
          go_roundw
          case rel =>
            refine ⟨j + 1, by go_num, by omega, ?_, ?_, ?_⟩
            · show RowS _ _ _ _
              rw [HRW.out]
              unfold RowS
              rw [List.length_append, List.map_append]
              exact HO4.out
            · exact hA6.grown HG4.out hA6.size (fun k hk => (HO.out.lt k hk).1)
            · show _ = _
              exact row_keeps HO.out HG4.out _ _ _ _ (by decide) HAB6.out
          case measure => simp [intOf]; omega
        · obtain rfl : j = m := by omega
          go_wp2_with fail
          go_roundw
          case rel => exact ⟨i + 1, by go_num, by omega, by show RowS _ _ _ _; rw [← HNXT.out]; exact hown.out, hA3⟩
          case measure => simp [intOf]; omega
    · obtain rfl : i = n := by omega
      have hD : ∀ zs v, zs = Asm.prs xs ys → RowS wr w.heap.size v zs → RowS wr w.heap.size v (Asm.prs xs ys) := fun zs v e h => e ▸ h
      have HO := Lib.hid (hD _ _ HEND.out hown.out)
      clear hown hD
      go_wp2_with fail
      go_ret
      exact ⟨_, rfl, hA, HO.out⟩
end Go.Proofs.YtfeeegnkmojpeaaGreat

namespace Go.Proofs.YtfeeegnkmojpeaaGreat
open Go.RowKit

set_option maxHeartbeats 2000000
set_option maxRecDepth 100000

theorem pair_of_rz {x y : List UInt8} {t u : Tm} (hx : Asm.rz x = some t) (hy : Asm.rz y = some u) : pPair x y = some (Asm.pr x y) := by
  obtain ⟨f1, f2, f3, f4⟩ := Asm.rz_facts hx
  obtain ⟨k1, k2, k3, k4⟩ := Asm.rz_facts hy
  obtain ⟨_, hz, _⟩ := Asm.pair_fits f3 k3 f2 k2
  have hd := Tm.depth_lt (Tm.pair t u)
  have hfit : (Tm.pair t u).fits = true := by unfold Tm.fits; simp; omega
  unfold pPair
  rw [(Tm.closed_facts f4).1, (Tm.closed_facts k4).1]
  simp only
  rw [if_pos hfit, Asm.pr, f1, k1]

theorem s_pairs (w : World) (e1 e2 : Value) (xs ys : List (List UInt8)) (h1 : StrsU 0 w e1 xs) (h2 : StrsU 0 w e2 ys) (hx : xs.length ≤ 4) (hy : ys.length ≤ 4)
    (hrx : ∀ i, i < xs.length → (Asm.rz (xs.getD i [])).isSome = true) (hry : ∀ i, i < ys.length → (Asm.rz (ys.getD i [])).isSome = true) (hlx : ∀ i, i < xs.length → (xs.getD i []).length ≤ 1048576) (hly : ∀ i, i < ys.length → (ys.getD i []).length ≤ 1048576) :
    Calls Tryz.prog 52 #[e1, e2] w fun e w' => ∃ v, e = .returned v ∧ After w w' ∧ RowS w' w.heap.size v (Asm.prs xs ys) := by
  obtain ⟨ao1, c1, rfl, hc1⟩ := h1
  obtain ⟨ao2, c2, rfl, hc2⟩ := h2
  have hcall : ∀ i j, i < xs.length → j < ys.length → ∀ W, Calls Tryz.prog 90 #[str (xs.getD i []), str (ys.getD j [])] W fun e w' => e = .returned (.tuple #[str (Asm.pr (xs.getD i []) (ys.getD j [])), .bool true]) ∧ After W w' := fun i j hi hj W => by
    obtain ⟨t, ht⟩ := Option.isSome_iff_exists.1 (hrx i hi)
    obtain ⟨u, hu⟩ := Option.isSome_iff_exists.1 (hry j hj)
    have := spec_pair W (xs.getD i []) (ys.getD j []) (by have := hlx i hi; omega) (by have := hly j hj; omega)
    rw [pair_of_rz ht hu] at this
    exact this.mono fun e w' h => h
  have hrow := prs_row xs ys
  have hnext := prs_next xs ys
  have hlen : ∀ i j, i ≤ xs.length → j ≤ ys.length → (Asm.prs (xs.take i) ys ++ (ys.take j).map (Asm.pr (xs.getD i []))).length ≤ 1000 := fun i j hi hj => by
    rw [List.length_append, prs_len, List.length_map, List.length_take, List.length_take]
    have : min i xs.length * ys.length ≤ 4 * 4 := Nat.mul_le_mul (by omega) hy
    omega
  have hend : Asm.prs (xs.take xs.length) ys = Asm.prs xs ys := by rw [List.take_length]
  obtain ⟨n, hn⟩ : ∃ n, n = xs.length := ⟨_, rfl⟩
  obtain ⟨m, hm⟩ : ∃ m, m = ys.length := ⟨_, rfl⟩
  rw [← hn] at hc1 hcall hrow hnext hlen hend hx ⊢
  rw [← hm] at hc2 hcall hrow hnext hlen hy ⊢
  have HC1 := Lib.hid hc1
  have HC2 := Lib.hid hc2
  have HCALL := Lib.hid hcall
  have HROW := Lib.hid hrow
  have HNEXT := Lib.hid hnext
  have HLEN := Lib.hid hlen
  have HEND := Lib.hid hend
  have hi : ∃ i, (Tryz.prog).info? 9 = some i ∧ i.zero = some (.string ⟨#[]⟩) ∧ i.size = 1 ∧ i.bytes = 16 := ⟨_, rfl, rfl, rfl, rfl⟩
  obtain ⟨i0, hi0, hz0, hz1, hz2⟩ := hi
  have hun : Tryz.prog.underlying 69 = some (.slice 9) := by kernel_rfl
  have HUN := Lib.hid hun
  have HI := Lib.hid (And.intro hi0 (And.intro hz0 (And.intro hz1 hz2)))
  have hA0 := After.new w (.cells #[] 9)
  have hnil : Hid (RowS (w.alloc (.cells #[] 9)) w.heap.size (.slice (some ⟨w.heap.size, 0, none⟩) 0 0) (Asm.prs (xs.take 0) ys)) := by show RowS _ _ _ _; exact own_empty w
  clear hc1 hc2 hcall hrow hnext hlen hend hun hi0 hz0 hz1 hz2 hn hm hrx hry hlx hly
  go_enter Tryz.func52, Tryz.ntmps52
  go_wp2_with fail
  generalize w.alloc (.cells #[] 9) = w0 at *
  go_loopw [5, 6] (fun t i wr => ∃ k : Nat, i = .int .i64 k ∧ k ≤ n ∧ Hid (RowS wr w.heap.size t (Asm.prs (xs.take k) ys)) ∧ After w wr) (fun _ i _ => n - (intOf i).toNat)
  case atStart => exact ⟨0, rfl, Nat.zero_le _, hnil, hA0⟩
  case round =>
    obtain ⟨i, rfl, hi, hown, hA⟩ := hrel
    clear hnil
    obtain ⟨ta, tc, e0⟩ : ∃ ao c, u5 = .slice ao (Asm.prs (xs.take i) ys).length c := by
      rcases hown.out.2 with ⟨rfl, h0⟩ | ⟨g, cap, cur, rfl, _⟩
      · exact ⟨_, _, by rw [h0]⟩
      · exact ⟨_, _, rfl⟩
    subst e0
    by_cases hlt : i < n
    · obtain ⟨g1, o1, rfl, _, q1⟩ := HC1.out i hlt
      have hlt' : (i : Int) < (n : Int) := by omega
      obtain ⟨x, hx'⟩ : ∃ x, x = xs.getD i [] := ⟨_, rfl⟩
      replace q1 : w.cell? ⟨g1, o1 + i, none⟩ = some (str x) := by rw [hx']; exact q1
      have Q1 : Hid (∀ W, After w W → W.cell? ⟨g1, o1 + i, none⟩ = some (str x)) := fun W hW => hW.cell q1
      have hrowi := fun j hj => HROW.out i j hlt hj
      have hnxt := HNEXT.out i hlt
      have hlni := fun j hj => HLEN.out i j hi hj
      have hci := fun j hj => HCALL.out i j hlt hj
      rw [← hx'] at hrowi hnxt hlni hci
      have HROWI := Lib.hid hrowi
      have HNXT := Lib.hid hnxt
      have HLNI := Lib.hid hlni
      have HCI := Lib.hid hci
      obtain ⟨P, hP⟩ : ∃ P, P = Asm.prs (xs.take i) ys := ⟨_, rfl⟩
      rw [← hP] at hown HROWI HNXT HLNI ⊢
      have hst : Hid (RowS wr w.heap.size (.slice ta P.length tc) (P ++ (ys.take 0).map (Asm.pr x))) := by show RowS _ _ _ _; simpa using hown.out
      clear hrowi hnxt hlni hci hP hx' hown q1
      go_wp2_with fail
      go_loopw [5, 7] (fun t j wr => ∃ k : Nat, j = .int .i64 k ∧ k ≤ m ∧ Hid (RowS wr w.heap.size t (P ++ (ys.take k).map (Asm.pr x))) ∧ After w wr) (fun _ i _ => m - (intOf i).toNat)
      case atStart => exact ⟨0, rfl, Nat.zero_le _, hst, hA⟩
      case round =>
        obtain ⟨j, rfl, hj, hown, hA3⟩ := hrel
        clear hst
        obtain ⟨tb, td, e0⟩ : ∃ ao c, u5 = .slice ao (P ++ (ys.take j).map (Asm.pr x)).length c := by
          rcases hown.out.2 with ⟨rfl, h0⟩ | ⟨g, cap, cur, rfl, _⟩
          · exact ⟨_, _, by rw [h0]⟩
          · exact ⟨_, _, rfl⟩
        subst e0
        by_cases hlj : j < m
        · obtain ⟨g2, o2, rfl, _, r1⟩ := HC2.out j hlj
          have hlj' : (j : Int) < (m : Int) := by omega
          have hrw := HROWI.out j hlj
          have hcj := HCI.out j hlj
          have hlen := HLNI.out j hj
          obtain ⟨y, hy'⟩ : ∃ y, y = ys.getD j [] := ⟨_, rfl⟩
          replace r1 : w.cell? ⟨g2, o2 + j, none⟩ = some (str y) := by rw [hy']; exact r1
          rw [← hy'] at hrw hcj
          obtain ⟨S, hS⟩ : ∃ S, S = P ++ (ys.take j).map (Asm.pr x) := ⟨_, rfl⟩
          rw [← hS] at hown hrw hlen ⊢
          obtain ⟨z, hz⟩ : ∃ z, z = Asm.pr x y := ⟨_, rfl⟩
          rw [← hz] at hrw hcj
          have x1 : ∀ W, After wr W → W.cell? ⟨g1, o1 + i, none⟩ = some (str x) := fun W hW => Q1.out W (hA3.trans hW)
          have x2 : ∀ W, After wr W → W.cell? ⟨g2, o2 + j, none⟩ = some (str y) := fun W hW => (hA3.trans hW).cell r1
          have hself := After.refl wr
          have HRW := Lib.hid hrw
          have HCJ := Lib.hid hcj
          have HOWN := Lib.hid hown.out
          clear hrw hown hy' hS hz hcj r1
          go_wp2_with fail
          go_region_held3 (fun W' => After wr W') (first | assumption | exact hself.drew | go_keep)
            ((go_at_call 90; refine (HCJ.out _).mono ?_; rintro e w2 ⟨rfl, hb2⟩; have hb2' := After.trans (by first | assumption | exact hself.drew) hb2))
          all_goals
            have hA5 := hA3.trans hb2'
            have hA6 := hA5.alloc (.cells #[str z] 9)
            have hn6 := After.new w2 (.cells #[str z] 9)
            have HO := Lib.hid (own_later (own_later HOWN.out hb2') hn6)
            have hlit := World.ownsRow_lit (base := w2.heap.size) (e := 9) (size := 1) w2 #[str z] 1 (Nat.le_refl _) (by decide) (by simp)
            have hnews := Lib.hid (hlit.cells (g := w2.heap.size) rfl)
            obtain ⟨hi0, hz0, hz1, hz2⟩ := HI.out
            have hb5 := hA6.size
            clear hlit
            go_wp2_with (at_builtin; refine wpList_append_lies _ (by rfl) _ _ 69 (by rfl) w.heap.size 9 i0 (.string ⟨#[]⟩) 1 16 HUN.out hi0 hz0 hz1 hz2 rfl (by decide) _ _ _ (by rfl) HO.out ⟨w2.heap.size, 0, none⟩ 1 1 [str z] (by rfl) (by rfl) hnews.out (by simp [Value.oneCell', str]) (by omega) (by unfold maxLen; omega) (by omega) hb5 _ rfl ?_; intro g4 q4 w5 ho4 hg4 _ hlt4; have HO4 := Lib.hid ho4; have HG4 := Lib.hid hg4; clear ho4 hg4)
            go_roundw
            case rel =>
              refine ⟨j + 1, by go_num, by omega, ?_, ?_⟩
              · show RowS _ _ _ _
                rw [HRW.out]
                unfold RowS
                rw [List.length_append, List.map_append]
                exact HO4.out
              · exact hA6.grown HG4.out hA6.size (fun k hk => (HO.out.lt k hk).1)
            case measure => simp [intOf]; omega
        · obtain rfl : j = m := by omega
          go_wp2_with fail
          go_roundw
          case rel => exact ⟨i + 1, by go_num, by omega, by show RowS _ _ _ _; rw [← HNXT.out]; exact hown.out, hA3⟩
          case measure => simp [intOf]; omega
    · obtain rfl : i = n := by omega
      have hD : ∀ zs v, zs = Asm.prs xs ys → RowS wr w.heap.size v zs → RowS wr w.heap.size v (Asm.prs xs ys) := fun zs v e h => e ▸ h
      have HO := Lib.hid (hD _ _ HEND.out hown.out)
      clear hown hD
      go_wp2_with fail
      go_ret
      exact ⟨_, rfl, hA, HO.out⟩
end Go.Proofs.YtfeeegnkmojpeaaGreat

namespace Go.Proofs.YtfeeegnkmojpeaaGreat
open Go.RowKit

set_option maxHeartbeats 2000000
set_option maxRecDepth 100000

/-! ### rows of all pairs -/
def prd {α β γ : Type} (f : α → β → γ) (xs : List α) (ys : List β) : List γ := xs.flatMap fun x => ys.map (f x)
theorem prd_row {α β γ : Type} (f : α → β → γ) (d : α) (e : β) (xs : List α) (ys : List β) (i j : Nat) (hj : j < ys.length) : prd f (xs.take i) ys ++ (ys.take (j + 1)).map (f (xs.getD i d)) = (prd f (xs.take i) ys ++ (ys.take j).map (f (xs.getD i d))) ++ [f (xs.getD i d) (ys.getD j e)] := by
  rw [List.take_succ_eq_append_getElem hj, List.map_append, List.append_assoc]
  have : ys.getD j e = ys[j] := by simp [List.getD, hj]
  rw [this]
  rfl
theorem prd_next {α β γ : Type} (f : α → β → γ) (d : α) (xs : List α) (ys : List β) (i : Nat) (hi : i < xs.length) : prd f (xs.take i) ys ++ (ys.take ys.length).map (f (xs.getD i d)) = prd f (xs.take (i + 1)) ys := by
  have : xs.getD i d = xs[i] := by simp [List.getD, hi]
  rw [List.take_length, List.take_succ_eq_append_getElem hi, this, prd, prd, List.flatMap_append]
  simp only [List.flatMap_cons, List.flatMap_nil, List.append_nil]
theorem prd_len {α β γ : Type} (f : α → β → γ) (xs : List α) (ys : List β) : (prd f xs ys).length = xs.length * ys.length := by
  induction xs with
  | nil => simp [prd]
  | cons x xs ih =>
    have : prd f (x :: xs) ys = ys.map (f x) ++ prd f xs ys := rfl
    rw [this, List.length_append, ih, List.length_map, List.length_cons, Nat.succ_mul, Nat.add_comm]

theorem own_form {w : World} {base n size : Nat} {E : TypeId} {v : Value} {vs : List Value} (h : w.ownsRow base E size v n vs) : ∃ ao m c, v = .slice ao m c := by
  rcases h.2 with ⟨rfl, _⟩ | ⟨g, cap, cur, rfl, _⟩
  · exact ⟨_, _, _, rfl⟩
  · exact ⟨_, _, _, rfl⟩

namespace Asm
def pairA (a b : List (List Txt)) : List (List Txt) := prd prs a b
theorem ok_facts {a : List (List Txt)} (h : ok a = true) : a.length ≤ 6 ∧ (∀ i, i < a.length → (a.getD i []).length ≤ 4) ∧ ∀ i k, i < a.length → k < (a.getD i []).length → (rz ((a.getD i []).getD k [])).isSome = true := by
  rw [ok_eq, Bool.and_eq_true, sizes, Bool.and_eq_true, Bool.and_eq_true, decide_eq_true_eq, decide_eq_true_eq, szs, pfs, List.all_eq_true, List.all_eq_true] at h
  refine ⟨h.1.1.2, fun i hi => ?_, fun i k hi hk => ?_⟩
  · have := h.1.2 i (List.mem_range.2 hi)
    rw [Bool.and_eq_true, decide_eq_true_eq, decide_eq_true_eq] at this
    exact this.2
  · have := h.2 i (List.mem_range.2 hi)
    rw [pfx, List.all_eq_true] at this
    have := this k (List.mem_range.2 hk)
    rw [step, Bool.and_eq_true] at this
    exact this.1
theorem pr_len {x y : Txt} (hx : (rz x).isSome = true) (hy : (rz y).isSome = true) : (pr x y).length ≤ 100000 := by
  obtain ⟨t, ht⟩ := Option.isSome_iff_exists.1 hx
  obtain ⟨u, hu⟩ := Option.isSome_iff_exists.1 hy
  obtain ⟨f1, f2, f3, _⟩ := rz_facts ht
  obtain ⟨k1, k2, k3, _⟩ := rz_facts hu
  rw [pr, f1, k1]
  exact (pair_fits f3 k3 f2 k2).2.2
theorem prs_lens {xs ys : List Txt} (hx : xs.length ≤ 4) (hy : ys.length ≤ 4) (gx : ∀ k, k < xs.length → (rz (xs.getD k [])).isSome = true) (gy : ∀ k, k < ys.length → (rz (ys.getD k [])).isSome = true) : (prs xs ys).length ≤ 1000 ∧ ∀ s ∈ prs xs ys, s.length ≤ 100000 := by
  refine ⟨?_, fun s hs => ?_⟩
  · rw [prs_len]
    have : xs.length * ys.length ≤ 4 * 4 := Nat.mul_le_mul hx hy
    omega
  · rw [prs, List.mem_flatMap] at hs
    obtain ⟨x, hx', hs⟩ := hs
    obtain ⟨y, hy', rfl⟩ := List.mem_map.1 hs
    obtain ⟨i, hi, rfl⟩ := List.getElem_of_mem hx'
    obtain ⟨j, hj, rfl⟩ := List.getElem_of_mem hy'
    have h1 := gx i hi
    have h2 := gy j hj
    rw [show xs.getD i [] = xs[i] by simp [List.getD, hi]] at h1
    rw [show ys.getD j [] = ys[j] by simp [List.getD, hj]] at h2
    exact pr_len h1 h2
theorem pairA_lens {a b : List (List Txt)} (ha : ok a = true) (hb : ok b = true) : Lens 1000000 (pairA a b) := by
  obtain ⟨a1, a2, a3⟩ := ok_facts ha
  obtain ⟨b1, b2, b3⟩ := ok_facts hb
  refine ⟨?_, fun ns hs => ?_⟩
  · rw [pairA, prd_len]
    have : a.length * b.length ≤ 6 * 6 := Nat.mul_le_mul a1 b1
    omega
  · rw [pairA, prd, List.mem_flatMap] at hs
    obtain ⟨xs, hx, hs⟩ := hs
    obtain ⟨ys, hy, rfl⟩ := List.mem_map.1 hs
    obtain ⟨i, hi, rfl⟩ := List.getElem_of_mem hx
    obtain ⟨j, hj, rfl⟩ := List.getElem_of_mem hy
    have e1 : a.getD i [] = a[i] := by simp [List.getD, hi]
    have e2 : b.getD j [] = b[j] := by simp [List.getD, hj]
    have h1 := a2 i hi
    have h2 := b2 j hj
    have h3 := fun k hk => a3 i k hi hk
    have h4 := fun k hk => b3 j k hj hk
    rw [e1] at h1 h3
    rw [e2] at h2 h4
    have := prs_lens h1 h2 h3 h4
    exact ⟨by omega, fun s hs => by have := this.2 s hs; omega⟩
def pPairA (a b : List (List Txt)) : Option (List (List Txt)) := if (ok a && ok b) = true then (if ok (pairA a b) = true then some (pairA a b) else none) else none
end Asm

def ReadTwoPost (w : World) (a b : List (List (List UInt8))) (e : Ending) (w' : World) : Prop :=
  ∃ ao1 n1 c1 ao2 n2 c2, e = .returned (.tuple #[.slice ao1 n1 c1, .slice ao2 n2 c2, .bool (Asm.ok a && Asm.ok b)]) ∧ After w w' ∧ ((Asm.ok a && Asm.ok b) = true → RowA w' w.heap.size (.slice ao1 n1 c1) a ∧ RowA w' w.heap.size (.slice ao2 n2 c2) b)

theorem RowA.less {w : World} {base base' : Nat} {sv : Value} {a : List (List (List UInt8))} (h : RowA w base sv a) (hB : base' ≤ base) : RowA w base' sv a := by
  obtain ⟨cs, ho, hc⟩ := h
  exact ⟨cs, own_mono ho hB, fun j hj => by obtain ⟨ev, h1, h2⟩ := hc j hj; exact ⟨ev, h1, h2.less hB⟩⟩

theorem readTwo_any (w : World) (s1 s2 : Value) (a b : List (List (List UInt8))) (h1 : SSU 0 w s1 a) (h2 : SSU 0 w s2 b) (hl1 : Lens 1000000000 a) (hl2 : Lens 1000000000 b) :
    Calls Tryz.prog 48 #[.agg #[s1], .agg #[s2]] w (ReadTwoPost w a b) := by
  have hc1 := fun W (hW : After w W) => readAssembly_any W s1 a (h1.later hW) hl1
  have hc2 := fun W (hW : After w W) => readAssembly_any W s2 b (h2.later hW) hl2
  obtain ⟨p1, k1, rfl⟩ := h1.form
  obtain ⟨p2, k2, rfl⟩ := h2.form
  unfold ReadAsmPost at hc1 hc2
  have hfail : Hid ((Asm.ok a && Asm.ok b) = false → ∀ W, After w W → ReadTwoPost w a b (.returned (.tuple #[.slice none 0 0, .slice none 0 0, .bool false])) W) := fun h W hW => ⟨none, 0, 0, none, 0, 0, by rw [h], hW, fun e => by rw [h] at e; cases e⟩
  have hdone : Hid ((Asm.ok a && Asm.ok b) = true → ∀ W ao1 n1 c1 ao2 n2 c2, After w W → RowA W w.heap.size (.slice ao1 n1 c1) a → RowA W w.heap.size (.slice ao2 n2 c2) b → ReadTwoPost w a b (.returned (.tuple #[.slice ao1 n1 c1, .slice ao2 n2 c2, .bool true])) W) := fun h W ao1 n1 c1 ao2 n2 c2 hW r1 r2 => ⟨ao1, n1, c1, ao2, n2, c2, by rw [h], hW, fun _ => ⟨r1, r2⟩⟩
  have hA0 := (After.new w (.cells #[.slice p1 a.length k1] 25)).alloc (.cells #[.slice p2 b.length k2] 25)
  have hx1 := heap_old2 w (.cells #[.slice p1 a.length k1] 25) (.cells #[.slice p2 b.length k2] 25)
  have hx2 := heap_new2 w w.heap.size (.cells #[.slice p1 a.length k1] 25) (.cells #[.slice p2 b.length k2] 25) rfl
  have hc := hc1 _ hA0
  have HC2 := Lib.hid hc2
  have HX2 := Lib.hid hx2
  have HA0 := Lib.hid hA0
  obtain ⟨o0, o1, o2⟩ := one_facts hx1 (After.refl _)
  clear hc1 hc2 h1 h2 hl1 hl2 hx1 hx2 hA0
  generalize a.length = n at *
  generalize b.length = m at *
  cases hoa : Asm.ok a with
  | false =>
    have HF := Lib.hid (hfail.out (by rw [hoa]; rfl))
    rw [hoa] at hc
    clear hoa hfail hdone
    go_enter Tryz.func48, Tryz.ntmps48
    go_wp2_with fail
    refine hc.mono ?_
    rintro e w1 ⟨r1, l1, t1, rfl, hb1, hv1⟩
    clear hc hv1
    go_wp2_with fail
    go_ret3
    exact HF.out _ (HA0.out.trans hb1)
  | true =>
    rw [hoa] at hc
    cases hob : Asm.ok b with
    | false =>
      have HF := Lib.hid (hfail.out (by rw [hoa, hob]; rfl))
      rw [hob] at HC2
      clear hoa hob hfail hdone
      go_enter Tryz.func48, Tryz.ntmps48
      go_wp2_with fail
      refine hc.mono ?_
      rintro e w1 ⟨r1, l1, t1, rfl, hb1, hv1⟩
      have hA1 := HA0.out.trans hb1
      have hd := HC2.out _ hA1
      obtain ⟨q0, q1, q2⟩ := one_facts HX2.out hb1
      clear hc hv1 o0 o1 o2
      go_wp2_with fail
      refine hd.mono ?_
      rintro e w2 ⟨r2, l2, t2, rfl, hb2, hv2⟩
      clear hd hv2
      go_wp2_with fail
      go_ret3
      exact HF.out _ (hA1.trans hb2)
    | true =>
      have HD := Lib.hid (hdone.out (by rw [hoa, hob]; rfl))
      rw [hob] at HC2
      clear hoa hob hfail hdone
      go_enter Tryz.func48, Tryz.ntmps48
      go_wp2_with fail
      refine hc.mono ?_
      rintro e w1 ⟨r1, l1, t1, rfl, hb1, hv1⟩
      have hA1 := HA0.out.trans hb1
      have hd := HC2.out _ hA1
      obtain ⟨q0, q1, q2⟩ := one_facts HX2.out hb1
      have HV1 := Lib.hid ((hv1 (by trivial)).less HA0.out.size)
      clear hc hv1 o0 o1 o2
      go_wp2_with fail
      refine hd.mono ?_
      rintro e w2 ⟨r2, l2, t2, rfl, hb2, hv2⟩
      have HV2 := Lib.hid ((hv2 (by trivial)).less hA1.size)
      clear hd hv2
      go_wp2_with fail
      go_ret3
      exact HD.out _ _ _ _ _ _ _ (hA1.trans hb2) (HV1.out.later hb2) HV2.out

theorem lit2_50_36_8 {x0 x1 x2 x3 x4 x5 x6 x7 x8 x9 x10 x11 x12 x13 x14 x15 x16 x17 x18 x19 x20 x21 x22 x23 x24 x25 x26 x27 x28 x29 x30 x31 x32 x33 x34 x35 x36 x37 x38 x39 x40 x41 x42 x43 x44 x45 x46 x47 x48 x49 u u' : Value} {d : List Deferred} {vs : Nat → Value} : ((putFrom ⟨#[x0, x1, x2, x3, x4, x5, x6, x7, x8, x9, x10, x11, x12, x13, x14, x15, x16, x17, x18, x19, x20, x21, x22, x23, x24, x25, x26, x27, x28, x29, x30, x31, x32, x33, x34, x35, x36, x37, x38, x39, x40, x41, x42, x43, x44, x45, x46, x47, x48, x49], d⟩ 36 vs 8).put (some 42) u).put (some 43) u' = ⟨#[x0, x1, x2, x3, x4, x5, x6, x7, x8, x9, x10, x11, x12, x13, x14, x15, x16, x17, x18, x19, x20, x21, x22, x23, x24, x25, x26, x27, x28, x29, x30, x31, x32, x33, x34, x35, vs 0, vs 1, vs 2, vs 3, vs 4, vs 5, u, u', x44, x45, x46, x47, x48, x49], d⟩ := by kernel_rfl

theorem impl_pairA (w : World) (s1 s2 : Value) (a b : List (List (List UInt8))) (h1 : SSU 0 w s1 a) (h2 : SSU 0 w s2 b) (hl1 : Lens 1000000000 a) (hl2 : Lens 1000000000 b) :
    Calls Tryz.prog 16 #[.agg #[s1], .agg #[s2]] w (AsmOwn w (Asm.pPairA a b)) := by
  have hc1 := fun W (hW : After w W) => readTwo_any W s1 s2 a b (h1.later hW) (h2.later hW) hl1 hl2
  obtain ⟨p1, k1, rfl⟩ := h1.form
  obtain ⟨p2, k2, rfl⟩ := h2.form
  unfold ReadTwoPost at hc1
  obtain ⟨os, hos⟩ : ∃ os : List Obj, os = [.cells #[.slice p1 a.length k1] 25, .cells #[.slice p2 b.length k2] 25, .cells #[.slice none 0 0] 25] := ⟨_, rfl⟩
  have hX : allocL w os = ((w.alloc (.cells #[.slice p1 a.length k1] 25)).alloc (.cells #[.slice p2 b.length k2] 25)).alloc (.cells #[.slice none 0 0] 25) := by rw [hos]; rfl
  have hA0 : After w (allocL w os) := allocL_below w os
  have hr0 : (allocL w os).heap[w.heap.size + 1 + 1]? = some (.cells #[.slice none 0 0] 25 (0, 0)) := by have := allocL_heap w os 2 (by rw [hos]; simp); simpa [hos] using this
  rw [hX] at hA0 hr0
  have hc := hc1 _ hA0
  have HR0 := Lib.hid hr0
  have HA0 := Lib.hid hA0
  clear hc1 h1 h2 hX hos hr0 hA0
  cases hok : (Asm.ok a && Asm.ok b) with
  | false =>
    rw [show Asm.pPairA a b = none by unfold Asm.pPairA; rw [hok]; rfl]
    rw [hok] at hc
    clear hok
    generalize a.length = n at *
    generalize b.length = m at *
    go_enter Tryz.func16, Tryz.ntmps16
    go_wp2_with fail
    refine hc.mono ?_
    rintro e w1 ⟨ao1, n1, c1, ao2, n2, c2, rfl, hb1, hv1⟩
    obtain ⟨r0, r1, r2⟩ := one_facts HR0.out hb1
    clear hc hv1
    go_wp2_with fail
    refine bodyPost_ret (v := .tuple #[.agg #[.slice none 0 0], .bool false]) (by simp [results, Tryz.results16, go_sem, r0]) rfl ⟨_, rfl, OwnSS.nil _ _, ?_⟩
    exact Below.setCell (HA0.out.trans hb1) (by show w.heap.size ≤ w.heap.size + 1 + 1; omega) _
  | true =>
    obtain ⟨hoa, hob⟩ := Bool.and_eq_true_iff.1 hok
    obtain ⟨a1, a2, a3⟩ := Asm.ok_facts hoa
    obtain ⟨b1, b2, b3⟩ := Asm.ok_facts hob
    have hlens := Asm.pairA_lens hoa hob
    have hval := fun W sv (h : SSU 0 W sv (Asm.pairA a b)) => validOnly_any W sv (Asm.pairA a b) h ⟨by have := hlens.1; omega, fun ns hs => ⟨by have := (hlens.2 ns hs).1; omega, fun s h => by have := (hlens.2 ns hs).2 s h; omega⟩⟩
    rw [show Asm.pPairA a b = if Asm.ok (Asm.pairA a b) = true then some (Asm.pairA a b) else none by unfold Asm.pPairA; rw [hok]; rfl]
    have hfin : ∀ W sv, OwnSS W w.heap.size sv (Asm.pairA a b) → After w W → AsmOwn w (if Asm.ok (Asm.pairA a b) = true then some (Asm.pairA a b) else none) (.returned (.tuple #[.agg #[if Asm.ok (Asm.pairA a b) = true then sv else .slice none 0 0], .bool (Asm.ok (Asm.pairA a b))])) W := fun W sv ho hA => by
      cases Asm.ok (Asm.pairA a b) with
      | true => exact ⟨_, rfl, ho, hA⟩
      | false => exact ⟨_, rfl, OwnSS.nil _ _, hA⟩
    generalize (if Asm.ok (Asm.pairA a b) = true then some (Asm.pairA a b) else none) = R at hfin ⊢
    have hrow := fun i j hj => prd_row Asm.prs [] [] a b i j hj
    have hnext := prd_next Asm.prs [] a b
    have hlen : ∀ i j, i ≤ a.length → j ≤ b.length → (prd Asm.prs (a.take i) b ++ (b.take j).map (Asm.prs (a.getD i []))).length ≤ 1000 := fun i j hi hj => by
      rw [List.length_append, prd_len, List.length_map, List.length_take, List.length_take]
      have : min i a.length * b.length ≤ 6 * 6 := Nat.mul_le_mul (by omega) b1
      omega
    have hend : prd Asm.prs (a.take a.length) b = Asm.pairA a b := by rw [List.take_length]; rfl
    rw [hok] at hc
    clear hok hlens hoa hob
    obtain ⟨n, hn⟩ : ∃ n, n = a.length := ⟨_, rfl⟩
    obtain ⟨m, hm⟩ : ∃ m, m = b.length := ⟨_, rfl⟩
    rw [← hn] at hc HR0 HA0 hnext hlen hend a1 a2 ⊢
    rw [← hm] at hc HR0 HA0 hrow hnext hlen b1 b2 ⊢
    have HROW := Lib.hid hrow
    have HNEXT := Lib.hid hnext
    have HLEN := Lib.hid hlen
    have HEND := Lib.hid hend
    have HVAL := Lib.hid hval
    have HFIN := Lib.hid hfin
    have HA2 := Lib.hid a2
    have HB2 := Lib.hid b2
    have HNN := Lib.hid hn
    have HMM := Lib.hid hm
    clear hrow hnext hlen hend hval hfin a2 a3 b2 b3 hl1 hl2 hn hm
    go_enter Tryz.func16, Tryz.ntmps16
    go_wp2_with fail
    refine hc.mono ?_
    rintro e w1 ⟨ao1, n1, c1, ao2, n2, c2, rfl, hb1, hv1⟩
    obtain ⟨hra, hrb⟩ := hv1 (by trivial)
    have e1 : n1 = a.length := by obtain ⟨_, _, e⟩ := hra.form; injection e
    have e2 : n2 = b.length := by obtain ⟨_, _, e⟩ := hrb.form; injection e
    rw [← HNN.out] at e1
    rw [← HMM.out] at e2
    replace e1 := e1.symm
    replace e2 := e2.symm
    subst e1
    subst e2
    have hcA : ∀ i, i < n → ∃ g ev, ao1 = some ⟨g, 0, none⟩ ∧ w1.cell? ⟨g, i, none⟩ = some ev ∧ RowE w1 0 ev (a.getD i []) ∧ ∃ ao' n' c', ev = .slice ao' n' c' := fun i hi => by
      obtain ⟨g, cap, ev, e, q1, q2⟩ := hra.at i (by rw [← HNN.out]; exact hi)
      simp only [Value.slice.injEq] at e
      obtain ⟨_, c', e'⟩ := q2.form
      exact ⟨g, ev, e.1, q1, q2.less (Nat.zero_le _), _, _, _, e'⟩
    have hcB : ∀ i, i < m → ∃ g ev, ao2 = some ⟨g, 0, none⟩ ∧ w1.cell? ⟨g, i, none⟩ = some ev ∧ RowE w1 0 ev (b.getD i []) ∧ ∃ ao' n' c', ev = .slice ao' n' c' := fun i hi => by
      obtain ⟨g, cap, ev, e, q1, q2⟩ := hrb.at i (by rw [← HMM.out]; exact hi)
      simp only [Value.slice.injEq] at e
      obtain ⟨_, c', e'⟩ := q2.form
      exact ⟨g, ev, e.1, q1, q2.less (Nat.zero_le _), _, _, _, e'⟩
    have HCA := Lib.hid hcA
    have HCB := Lib.hid hcB
    have hAw1 := HA0.out.trans hb1
    have hnw := After.new w1 (.cells #[.slice none 0 0] 25)
    have hb0 := heap_new' w1 (.cells #[.slice none 0 0] 25)
    have hres1 := hb1.heap HR0.out
    have hsz1 : w.heap.size + 1 + 1 < w1.heap.size := (Array.getElem?_eq_some_iff.1 hres1).1
    have HAW1 := Lib.hid hAw1
    have HRES1 := Lib.hid hres1
    have HSTART : Hid (OwnSS (w1.alloc (.cells #[.slice none 0 0] 25)) w1.heap.size (.slice none 0 0) (prd Asm.prs (a.take 0) b)) := by show OwnSS _ _ _ _; exact OwnSS.nil _ _
    have HB0 := Lib.hid hb0
    have HNW := Lib.hid hnw
    clear hc hv1 hra hrb hcA hcB hAw1 hres1 hb0 hnw
    go_wp2_with fail
    obtain ⟨q, hq⟩ : ∃ q, q = w1.heap.size := ⟨_, rfl⟩
    simp only [← hq] at HB0 HSTART ⊢
    have HQ := Lib.hid hq
    clear hq
    generalize w1.alloc (.cells #[.slice none 0 0] 25) = w2 at *
    go_loopw [26] (fun i wr => ∃ (k : Nat) (sv : Value), i = .int .i64 k ∧ k ≤ n ∧ Hid (wr.heap[q]? = some (.cells #[sv] 25 (0, 0))) ∧ Hid (OwnSS wr q sv (prd Asm.prs (a.take k) b)) ∧ Hid (After w1 wr)) (fun i _ => n - (intOf i).toNat)
    case atStart => exact ⟨0, _, rfl, Nat.zero_le _, HB0, HSTART, HNW⟩
    case round =>
      obtain ⟨i, sv0, rfl, hi, HBOX0, HOWN0, HA10⟩ := hrel
      clear HSTART
      by_cases hlt : i < n
      · obtain ⟨ga, eva, rfl, q1, q2, ae, ne, ce, rfl⟩ := HCA.out i hlt
        replace q1 := HA10.out.cell q1
        have hlt' : (i : Int) < (n : Int) := by omega
        have hle4 := HA2.out i hlt
        have hrowi := fun j hj => HROW.out i j hj
        have hnxt := HNEXT.out i hlt
        have hlni := fun j hj => HLEN.out i j hi hj
        obtain ⟨xs, hxs⟩ : ∃ xs, xs = a.getD i [] := ⟨_, rfl⟩
        rw [← hxs] at q2 hle4 hrowi hnxt hlni
        have HE1 := Lib.hid q2
        have HROWI := Lib.hid hrowi
        have HNXT := Lib.hid hnxt
        have HLNI := Lib.hid hlni
        obtain ⟨P, hP⟩ : ∃ P, P = prd Asm.prs (a.take i) b := ⟨_, rfl⟩
        rw [← hP] at HOWN0 HROWI HNXT HLNI
        have hst : Hid (OwnSS wr q sv0 (P ++ (b.take 0).map (Asm.prs xs))) := by show OwnSS _ _ _ _; simpa using HOWN0.out
        clear q2 hrowi hnxt hlni hP hxs HOWN0
        go_wp2_with fail
        go_loopw [32] (fun j wr => ∃ (k : Nat) (sv : Value), j = .int .i64 k ∧ k ≤ m ∧ Hid (wr.heap[q]? = some (.cells #[sv] 25 (0, 0))) ∧ Hid (OwnSS wr q sv (P ++ (b.take k).map (Asm.prs xs))) ∧ Hid (After w1 wr)) (fun i _ => m - (intOf i).toNat)
        case atStart => exact ⟨0, sv0, rfl, Nat.zero_le _, HBOX0, hst, HA10⟩
        case round =>
          obtain ⟨j, sv, rfl, hj, HBOX, HOWN, HA1R⟩ := hrel
          clear hst HBOX0 HA10
          by_cases hlj : j < m
          · obtain ⟨gb, evb, rfl, r1, r2, ag, ng, cg, rfl⟩ := HCB.out j hlj
            replace r1 := HA1R.out.cell r1
            have hlj' : (j : Int) < (m : Int) := by omega
            have hle4b := HB2.out j hlj
            have hrw := HROWI.out j hlj
            have hlen := HLNI.out j hj
            obtain ⟨ys, hys⟩ : ∃ ys, ys = b.getD j [] := ⟨_, rfl⟩
            rw [← hys] at r2 hle4b hrw
            obtain ⟨z, hz⟩ : ∃ z, z = Asm.prs xs ys := ⟨_, rfl⟩
            have HPT : Hid (∀ W, After w1 W → Calls Tryz.prog 49 #[.slice ae ne ce, .slice ag ng cg] W fun e w' => ∃ v, e = .returned v ∧ After W w' ∧ RowS w' W.heap.size v z) := fun W hW => by
              rw [hz]
              exact pairTexts_any W 0 0 _ _ xs ys (HE1.out.later hW) (r2.later hW) hle4 hle4b
            rw [← hz] at hrw
            obtain ⟨S, hS⟩ : ∃ S, S = P ++ (b.take j).map (Asm.prs xs) := ⟨_, rfl⟩
            rw [← hS] at HOWN hrw hlen
            have HRW := Lib.hid hrw
            have HLN : Hid (S.length ≤ 1000000) := by show _ ≤ _; omega
            have HQS : Hid (q ≤ wr.heap.size) := by show _ ≤ _; have := (Array.getElem?_eq_some_iff.1 HBOX.out).1; omega
            have hself := (After.refl wr).drew
            clear r2 hrw hlen hS hz hys
            go_wp2_with fail
            rename_i KK hKK
            refine wp_region_tail (m := 6) (k := 3) (f := 12) (by kernel_rfl) (by kernel_rfl) (by kernel_rfl) (by kernel_rfl) After After.refl (fun _ _ _ h g => h.trans g)
              (rl [Sp.lit (.pointer (some ⟨q, 0, none⟩)), Sp.lit sv, Sp.lit (.slice ae ne ce), Sp.lit (.slice ag ng cg), Sp.row wr.heap.size z, Sp.rows wr.heap.size z]) rl_later (lt6 ?_ ?_ ?_ ?_ ?_ ?_) ?_
            · intro vs W hE hd K hK
              have hE' : After wr W := hself.trans hE
              exact do_rp (v := .pointer (some ⟨q, 0, none⟩)) (Sp.lit (.pointer (some ⟨q, 0, none⟩))).p (by kernel_rfl) (wanted_of (by kernel_rfl)) (by kernel_rfl) (After.refl W) rfl hK
            · intro vs W hE hd K hK
              have hE' : After wr W := hself.trans hE
              exact do_rp (v := sv) (Sp.lit sv).p (by kernel_rfl) (wanted_of (by kernel_rfl)) (run_ld_ss (x := .tmp 36) (u := vs 0) (by kernel_rfl) (by kernel_rfl) (hd 0 (by kernel_rfl)) (cell_of_heap (i := 0) (hE'.heap HBOX.out))) (After.refl W) rfl hK
            · intro vs W hE hd K hK
              have hE' : After wr W := hself.trans hE
              exact do_rp (v := .slice ae ne ce) (Sp.lit (.slice ae ne ce)).p (by kernel_rfl) (wanted_of (by kernel_rfl)) (by kernel_rfl) (After.refl W) rfl hK
            · intro vs W hE hd K hK
              have hE' : After wr W := hself.trans hE
              exact do_rp (v := .slice ag ng cg) (Sp.lit (.slice ag ng cg)).p (by kernel_rfl) (wanted_of (by kernel_rfl)) (by kernel_rfl) (After.refl W) rfl hK
            · intro vs W hE hd K hK
              have hE' : After wr W := hself.trans hE
              exact do_cp (Sp.row wr.heap.size z).p (by kernel_rfl) (wanted_of (by kernel_rfl)) (f := 49) (args := #[vs 2, vs 3]) (by kernel_rfl) (by rw [show vs 2 = .slice ae ne ce from hd 2 (by kernel_rfl), show vs 3 = .slice ag ng cg from hd 3 (by kernel_rfl)]; exact (HPT.out W (HA1R.out.trans hE')).mono fun e w' ⟨v, he, ha, hr⟩ => ⟨v, he, ha, own_mono hr hE'.size⟩) hK
            · intro vs W hE hd K hK
              have hE' : After wr W := hself.trans hE
              have h4 : W.ownsRow wr.heap.size 9 1 (vs 4) z.length (z.map str) := hd 4 (by kernel_rfl)
              obtain ⟨ao4, n4, c4, e4⟩ := own_form h4
              exact do_rp (Sp.rows wr.heap.size z).p (by kernel_rfl) (wanted_of (by kernel_rfl)) (run_rows1 (x := .tmp 40) (u := vs 4) (by kernel_rfl) (by kernel_rfl) e4) (After.new _ _) ⟨_, _, rfl, heap_new' _ _, rfl, by rw [← e4]; exact own_later h4 (After.new _ _)⟩ hK
            intro vs W hE hd
            have hE' : After wr W := hself.trans hE
            obtain ⟨b2, rv, eb2, hb2, _, hrow⟩ := hd 5 (by decide)
            refine tail_push2 (wr := wr) (m := 6) (q := q) (base := q) (b2 := b2) (sv := sv) (s := .tmp 37) (x := .tmp 41) (t := .tmp 9) (y := .tmp 43) (z := .tmp 42) (d7 := 42) (d8 := 43) (rv := rv)
              (by kernel_rfl) (by kernel_rfl) (by kernel_rfl) (by kernel_rfl) (by kernel_rfl) (by kernel_rfl) (by kernel_rfl) (by kernel_rfl) (by kernel_rfl) (by kernel_rfl) (by kernel_rfl) (by kernel_rfl)
              (Eq.trans (by kernel_rfl : _ = vs 1) (hd 1 (by decide))) (Eq.trans (by kernel_rfl : _ = vs 5) eb2) (fun v => by kernel_rfl) (fun v => by kernel_rfl) (fun v => by kernel_rfl) HOWN.out hE' HQS.out HLN.out (Nat.le_refl _) HBOX.out hrow hb2 (fun g cap w9 hown9 hbox9 hb9 => ?_)
            refine hKK _ _ ?_
            rw [frame_from 36 8 (by kernel_rfl) (by kernel_rfl) (by kernel_rfl), lit2_50_36_8]
            clear hd eb2 hb2 hrow
            generalize vs 0 = y0 at *
            generalize vs 1 = y1 at *
            generalize vs 2 = y2 at *
            generalize vs 3 = y3 at *
            generalize vs 4 = y4 at *
            generalize vs 5 = y5 at *
            go_wp2_with fail
            go_roundw
            case rel =>
              refine ⟨j + 1, _, by go_num, by omega, hbox9, ?_, ?_⟩
              · show OwnSS _ _ _ _
                rw [HRW.out]
                exact hown9
              · show After _ _
                exact Below.trans HA1R.out (hb9.mono (by rw [HQ.out]; exact Nat.le_refl _))
            case measure => simp [intOf]; omega
          · obtain rfl : j = m := by omega
            go_wp2_with fail
            go_roundw
            case rel => exact ⟨i + 1, sv, by go_num, by omega, HBOX, by show OwnSS _ _ _ _; rw [← HNXT.out]; rw [HMM.out] at HOWN ⊢; exact HOWN.out, HA1R⟩
            case measure => simp [intOf]; omega
      · obtain rfl : i = n := by omega
        have hD : ∀ zs v, zs = Asm.pairA a b → OwnSS wr q v zs → OwnSS wr q v (Asm.pairA a b) := fun zs v e h => e ▸ h
        have HO := Lib.hid (hD _ _ HEND.out HOWN0.out)
        have hv := HVAL.out wr sv0 (HO.out.ssu (Nat.zero_le _))
        obtain ⟨ao, cap, rfl⟩ := HO.out.form
        obtain ⟨p0, p1', p2'⟩ := one_facts HBOX0.out (After.refl _)
        have hfin := fun W h1 h2 => HFIN.out W (.slice ao (Asm.pairA a b).length cap) h1 h2
        clear hD HOWN0
        go_wp2_with fail
        refine hv.mono ?_
        rintro e w3 ⟨rfl, hb3⟩
        have hres3 := (HA10.out.trans hb3).heap HRES1.out
        obtain ⟨r0, r1, r2⟩ := one_facts hres3 (After.refl _)
        have HRS := Lib.hid hres3
        have hA3 := HAW1.out.trans (HA10.out.trans hb3)
        have HOW : Hid (OwnSS w3 w.heap.size (.slice ao (Asm.pairA a b).length cap) (Asm.pairA a b)) := OwnSS.less (HO.out.later hb3) (by have := hsz1; rw [HQ.out]; omega)
        generalize hRB : Asm.ok (Asm.pairA a b) = rb at *
        generalize (Asm.pairA a b).length = L at *
        have hset : ∀ v, OwnSS (w3.setCell ⟨w.heap.size + 1 + 1, 0, none⟩ v) w.heap.size (.slice ao L cap) (Asm.pairA a b) ∧ After w (w3.setCell ⟨w.heap.size + 1 + 1, 0, none⟩ v) := fun v => ⟨HOW.out.keptT fun b' cs T fr hT hb' => by
          rw [Below.heap_setCell _ _ _ _ (fun e => by have e' : b' = w.heap.size + 1 + 1 := e; subst e'; rw [HRS.out] at hb'; injection hb' with hb'; injection hb' with _ hb' _; exact hT hb'.symm)]
          exact hb', Below.setCell hA3 (by show w.heap.size ≤ w.heap.size + 1 + 1; omega) v⟩
        have HSET := Lib.hid hset
        clear p0 p1' p2' hres3 hset hRB hv
        cases rb
        all_goals
          go_wp2_with fail
          refine bodyPost_ret (v := .tuple #[.agg #[_], .bool _]) (by simp [results, Tryz.results16, go_sem, r0]) rfl (hfin _ (HSET.out _).1 (HSET.out _).2)
end Go.Proofs.YtfeeegnkmojpeaaGreat

namespace Go.Proofs.YtfeeegnkmojpeaaGreat
open Go.RowKit

set_option maxHeartbeats 2000000
set_option maxRecDepth 100000

section
variable {ops : Array Oper} {A : Act} {i : Nat} {w : World}
theorem run_ixss {x y : Operand} {u u' : Value} {b off n cap k : Nat} (hop : (opAt ops i).op = .indexAddr 23 x y) (hx : A.eval x = u) (hu : u = .slice (some ⟨b, off, none⟩) n cap) (hy : A.eval y = u') (hu' : u' = .int .i64 k) (hk : k < n) :
    (execOp A.eval (opAt ops i)).run Tryz.prog w = .ok (.value (.pointer (some ⟨b, off + k, none⟩))) w := by
  subst hu hu'
  have hk' : (k : Int) < (n : Int) := by omega
  unfold execOp
  simp only [hop, hx, hy]
  simp [go_sem, hk']
theorem run_ldr {x : Operand} {u : Value} {p : Addr} {v : Value} (hop : (opAt ops i).op = .load 69 x) (hx : A.eval x = u) (hu : u = .pointer (some p)) (hc : w.cell? p = some v) :
    (execOp A.eval (opAt ops i)).run Tryz.prog w = .ok (.value v) w := by
  subst hu
  unfold execOp
  simp only [hop, hx]
  simp [go_sem, hc]
end

theorem lens_big {a : List (List (List UInt8))} (h : Lens 1048576 a) : Lens 1000000000 a := ⟨by have := h.1; omega, fun ns hs => ⟨by have := (h.2 ns hs).1; omega, fun s hh => by have := (h.2 ns hs).2 s hh; omega⟩⟩

theorem lit2_55_34_16 {x0 x1 x2 x3 x4 x5 x6 x7 x8 x9 x10 x11 x12 x13 x14 x15 x16 x17 x18 x19 x20 x21 x22 x23 x24 x25 x26 x27 x28 x29 x30 x31 x32 x33 x34 x35 x36 x37 x38 x39 x40 x41 x42 x43 x44 x45 x46 x47 x48 x49 x50 x51 x52 x53 x54 u u' : Value} {d : List Deferred} {vs : Nat → Value} : ((putFrom ⟨#[x0, x1, x2, x3, x4, x5, x6, x7, x8, x9, x10, x11, x12, x13, x14, x15, x16, x17, x18, x19, x20, x21, x22, x23, x24, x25, x26, x27, x28, x29, x30, x31, x32, x33, x34, x35, x36, x37, x38, x39, x40, x41, x42, x43, x44, x45, x46, x47, x48, x49, x50, x51, x52, x53, x54], d⟩ 34 vs 16).put (some 48) u).put (some 49) u' = ⟨#[x0, x1, x2, x3, x4, x5, x6, x7, x8, x9, x10, x11, x12, x13, x14, x15, x16, x17, x18, x19, x20, x21, x22, x23, x24, x25, x26, x27, x28, x29, x30, x31, x32, x33, vs 0, vs 1, vs 2, vs 3, vs 4, vs 5, vs 6, vs 7, vs 8, vs 9, vs 10, vs 11, vs 12, vs 13, u, u', x50, x51, x52, x53, x54], d⟩ := by kernel_rfl

theorem spec_pairA (w : World) (s1 s2 : Value) (a b : List (List (List UInt8))) (h1 : SSU 0 w s1 a) (h2 : SSU 0 w s2 b) (hl1 : Lens 1048576 a) (hl2 : Lens 1048576 b) :
    Calls Tryz.prog 17 #[.agg #[s1], .agg #[s2]] w (AsmOwn w (Asm.pPairA a b)) := by
  have hv1 := fun W (hW : After w W) => s_asmValid W s1 a (h1.later hW) hl1
  have hv2 := fun W (hW : After w W) => s_asmValid W s2 b (h2.later hW) hl2
  obtain ⟨fa, ⟨p1, k1, rfl, hca⟩, hfa⟩ := h1
  obtain ⟨fb, ⟨p2, k2, rfl, hcb⟩, hfb⟩ := h2
  obtain ⟨os, hos⟩ : ∃ os : List Obj, os = [.cells #[.slice p1 a.length k1] 25, .cells #[.slice p2 b.length k2] 25, .cells #[.slice none 0 0] 25] := ⟨_, rfl⟩
  have hX : allocL w os = ((w.alloc (.cells #[.slice p1 a.length k1] 25)).alloc (.cells #[.slice p2 b.length k2] 25)).alloc (.cells #[.slice none 0 0] 25) := by rw [hos]; rfl
  have hA0 : After w (allocL w os) := allocL_below w os
  have hx0 : (allocL w os).heap[w.heap.size]? = some (.cells #[.slice p1 a.length k1] 25 (0, 0)) := by have := allocL_heap w os 0 (by rw [hos]; simp); simpa [hos] using this
  have hx1 : (allocL w os).heap[w.heap.size + 1]? = some (.cells #[.slice p2 b.length k2] 25 (0, 0)) := by have := allocL_heap w os 1 (by rw [hos]; simp); simpa [hos] using this
  have hr0 : (allocL w os).heap[w.heap.size + 1 + 1]? = some (.cells #[.slice none 0 0] 25 (0, 0)) := by have := allocL_heap w os 2 (by rw [hos]; simp); simpa [hos] using this
  have hs3 : (allocL w os).heap.size = w.heap.size + 1 + 1 + 1 := by rw [hX]; simp
  rw [hX] at hA0 hx0 hx1 hr0 hs3
  obtain ⟨w3, hw3⟩ : ∃ w3, w3 = ((w.alloc (.cells #[.slice p1 a.length k1] 25)).alloc (.cells #[.slice p2 b.length k2] 25)).alloc (.cells #[.slice none 0 0] 25) := ⟨_, rfl⟩
  rw [← hw3] at hA0 hx0 hx1 hr0 hs3
  have hA4 : After w3 ((w3.alloc (.cells #[] 69)).alloc (.cells #[.slice (some ⟨w.heap.size + 1 + 1 + 1, 0, none⟩) 0 0] 25)) := (After.new _ _).alloc _
  have he0 := heap_old2 w3 (.cells #[] 69) (.cells #[.slice (some ⟨w.heap.size + 1 + 1 + 1, 0, none⟩) 0 0] 25)
  have hb0 := heap_new2 w3 w3.heap.size (.cells #[] 69) (.cells #[.slice (some ⟨w.heap.size + 1 + 1 + 1, 0, none⟩) 0 0] 25) rfl
  rw [hs3] at he0 hb0
  have ho0 := OwnSS.empty (base := w.heap.size + 1 + 1 + 1) he0 (Nat.le_refl _)
  have hc := hv1 _ (hA0.trans hA4)
  have HV2 := Lib.hid hv2
  have HA0 := Lib.hid hA0
  have HXA := Lib.hid hx0
  have HXB := Lib.hid hx1
  have HR0 := Lib.hid hr0
  have HS3 := Lib.hid hs3
  have HA4 := Lib.hid hA4
  have HB0 := Lib.hid hb0
  have HO0 := Lib.hid ho0
  obtain ⟨t0, t1, t2⟩ := one_facts hx0 hA4
  clear hv1 hv2 hA0 hx0 hx1 hr0 hs3 hA4 he0 hb0 ho0 hX hos
  cases hoa : Asm.ok a with
  | false =>
    rw [show Asm.pPairA a b = none by unfold Asm.pPairA; rw [hoa]; rfl]
    rw [hoa] at hc
    clear hoa hca hcb hfa hfb
    generalize a.length = n at *
    generalize b.length = m at *
    go_enter Tryz.func17, Tryz.ntmps17
    go_wp2_with fail
    rw [← hw3]
    clear hw3
    refine hc.mono ?_
    rintro e w1 ⟨rfl, hb1⟩
    obtain ⟨r0, r1, r2⟩ := one_facts HR0.out (HA4.out.trans hb1)
    clear hc t0 t1 t2
    go_wp2_with fail
    refine bodyPost_ret (v := .tuple #[.agg #[.slice none 0 0], .bool false]) (by simp [results, Tryz.results17, go_sem, r0]) rfl ⟨_, rfl, OwnSS.nil _ _, ?_⟩
    exact Below.setCell (HA0.out.trans (HA4.out.trans hb1)) (by show w.heap.size ≤ w.heap.size + 1 + 1; omega) _
  | true =>
    rw [hoa] at hc
    cases hob : Asm.ok b with
    | false =>
      rw [show Asm.pPairA a b = none by unfold Asm.pPairA; rw [hoa, hob]; rfl]
      rw [hob] at HV2
      clear hoa hob hca hcb hfa hfb
      generalize a.length = n at *
      generalize b.length = m at *
      go_enter Tryz.func17, Tryz.ntmps17
      go_wp2_with fail
      rw [← hw3]
      clear hw3
      refine hc.mono ?_
      rintro e w1 ⟨rfl, hb1⟩
      have hA5 := HA4.out.trans hb1
      obtain ⟨u0, u1, u2⟩ := one_facts HXB.out hA5
      have hd := HV2.out w1 (HA0.out.trans hA5)
      clear hc t0 t1 t2
      go_wp2_with fail
      refine hd.mono ?_
      rintro e w2 ⟨rfl, hb2⟩
      obtain ⟨r0, r1, r2⟩ := one_facts HR0.out (hA5.trans hb2)
      clear hd u0 u1 u2
      go_wp2_with fail
      refine bodyPost_ret (v := .tuple #[.agg #[.slice none 0 0], .bool false]) (by simp [results, Tryz.results17, go_sem, r0]) rfl ⟨_, rfl, OwnSS.nil _ _, ?_⟩
      exact Below.setCell (HA0.out.trans (hA5.trans hb2)) (by show w.heap.size ≤ w.heap.size + 1 + 1; omega) _
    | true =>
      obtain ⟨a1, a2, a3⟩ := Asm.ok_facts hoa
      obtain ⟨b1, b2, b3⟩ := Asm.ok_facts hob
      have hlens := Asm.pairA_lens hoa hob
      have hval := fun W sv (h : SSU 0 W sv (Asm.pairA a b)) => s_asmValid W sv (Asm.pairA a b) h ⟨by have := hlens.1; omega, fun ns hs => ⟨by have := (hlens.2 ns hs).1; omega, fun s h => by have := (hlens.2 ns hs).2 s h; omega⟩⟩
      rw [show Asm.pPairA a b = if Asm.ok (Asm.pairA a b) = true then some (Asm.pairA a b) else none by unfold Asm.pPairA; rw [hoa, hob]; rfl]
      have hfin : ∀ W sv, OwnSS W w.heap.size sv (Asm.pairA a b) → After w W → AsmOwn w (if Asm.ok (Asm.pairA a b) = true then some (Asm.pairA a b) else none) (.returned (.tuple #[.agg #[if Asm.ok (Asm.pairA a b) = true then sv else .slice none 0 0], .bool (Asm.ok (Asm.pairA a b))])) W := fun W sv ho hA => by
        cases Asm.ok (Asm.pairA a b) with
        | true => exact ⟨_, rfl, ho, hA⟩
        | false => exact ⟨_, rfl, OwnSS.nil _ _, hA⟩
      generalize (if Asm.ok (Asm.pairA a b) = true then some (Asm.pairA a b) else none) = R at hfin ⊢
      have hrow := fun i j hj => prd_row Asm.prs [] [] a b i j hj
      have hnext := prd_next Asm.prs [] a b
      have hlen : ∀ i j, i ≤ a.length → j ≤ b.length → (prd Asm.prs (a.take i) b ++ (b.take j).map (Asm.prs (a.getD i []))).length ≤ 1000 := fun i j hi hj => by
        rw [List.length_append, prd_len, List.length_map, List.length_take, List.length_take]
        have : min i a.length * b.length ≤ 6 * 6 := Nat.mul_le_mul (by omega) b1
        omega
      have hend : prd Asm.prs (a.take a.length) b = Asm.pairA a b := by rw [List.take_length]; rfl
      have hcA : ∀ i, i < a.length → ∃ ga oa, p1 = some ⟨ga, oa, none⟩ ∧ w.cell? ⟨ga, oa + i, none⟩ = some (fa i) ∧ (∃ ao' n' c', fa i = .slice ao' n' c') ∧ StrsU 0 w (fa i) (a.getD i []) ∧ ∀ k, k < (a.getD i []).length → ((a.getD i []).getD k []).length ≤ 1048576 := fun i hi => by
        obtain ⟨g, o, e, _, q⟩ := hca i hi
        obtain ⟨ao', c', e', _⟩ := hfa i hi
        refine ⟨g, o, e, q, ⟨_, _, _, e'⟩, hfa i hi, fun k hk => ?_⟩
        exact (hl1.2 _ (gd_mem hi)).2 _ (gd_mem hk)
      have hcB : ∀ i, i < b.length → ∃ ga oa, p2 = some ⟨ga, oa, none⟩ ∧ w.cell? ⟨ga, oa + i, none⟩ = some (fb i) ∧ (∃ ao' n' c', fb i = .slice ao' n' c') ∧ StrsU 0 w (fb i) (b.getD i []) ∧ ∀ k, k < (b.getD i []).length → ((b.getD i []).getD k []).length ≤ 1048576 := fun i hi => by
        obtain ⟨g, o, e, _, q⟩ := hcb i hi
        obtain ⟨ao', c', e', _⟩ := hfb i hi
        refine ⟨g, o, e, q, ⟨_, _, _, e'⟩, hfb i hi, fun k hk => ?_⟩
        exact (hl2.2 _ (gd_mem hi)).2 _ (gd_mem hk)
      rw [hob] at HV2
      clear hoa hob hlens hca hcb hfa hfb
      obtain ⟨n, hn⟩ : ∃ n, n = a.length := ⟨_, rfl⟩
      obtain ⟨m, hm⟩ : ∃ m, m = b.length := ⟨_, rfl⟩
      rw [← hn] at hw3 hc HXA hcA hnext hlen hend a1 a2 a3 t0 ⊢
      rw [← hm] at hw3 HV2 HXB hcB hrow hnext hlen b1 b2 b3 ⊢
      have HROW := Lib.hid hrow
      have HNEXT := Lib.hid hnext
      have HLEN := Lib.hid hlen
      have HEND := Lib.hid hend
      have HVAL := Lib.hid hval
      have HFIN := Lib.hid hfin
      have HA2 := Lib.hid a2
      have HB2 := Lib.hid b2
      have HA3 := Lib.hid a3
      have HB3 := Lib.hid b3
      have HCA := Lib.hid hcA
      have HCB := Lib.hid hcB
      have HMM := Lib.hid hm
      clear hrow hnext hlen hend hval hfin a2 a3 b2 b3 hl1 hl2 hn hm hcA hcB
      go_enter Tryz.func17, Tryz.ntmps17
      go_wp2_with fail
      rw [← hw3]
      clear hw3
      refine hc.mono ?_
      rintro e w1 ⟨rfl, hb1⟩
      have hA5 := HA4.out.trans hb1
      obtain ⟨u0, u1, u2⟩ := one_facts HXB.out hA5
      have hd := HV2.out w1 (HA0.out.trans hA5)
      clear hc t0 t1 t2
      go_wp2_with fail
      refine hd.mono ?_
      rintro e w2 ⟨rfl, hb2⟩
      have HA3W := Lib.hid (hA5.trans hb2)
      have HBOXS : Hid (w2.heap[w.heap.size + 1 + 1 + 1 + 1]? = some (.cells #[.slice (some ⟨w.heap.size + 1 + 1 + 1, 0, none⟩) 0 0] 25 (0, 0))) := (hb1.trans hb2).heap HB0.out
      have HSTART : Hid (OwnSS w2 (w.heap.size + 1 + 1 + 1) (.slice (some ⟨w.heap.size + 1 + 1 + 1, 0, none⟩) 0 0) (prd Asm.prs (a.take 0) b)) := by show OwnSS _ _ _ _; exact HO0.out.later (hb1.trans hb2)
      clear hd u0 u1 u2 hA5 HA4 HB0 HO0
      go_wp2_with fail
      obtain ⟨qa, hqa⟩ : ∃ q, q = w.heap.size := ⟨_, rfl⟩
      obtain ⟨qb, hqb⟩ : ∃ q, q = qa + 1 := ⟨_, rfl⟩
      obtain ⟨qr, hqr⟩ : ∃ q, q = qb + 1 := ⟨_, rfl⟩
      obtain ⟨base, hbs⟩ : ∃ q, q = qr + 1 := ⟨_, rfl⟩
      obtain ⟨q, hq⟩ : ∃ q, q = base + 1 := ⟨_, rfl⟩
      simp only [← hqa, ← hqb, ← hqr, ← hbs, ← hq] at HXA HXB HR0 HS3 HBOXS HSTART ⊢
      have HQA := Lib.hid hqa
      have HQB := Lib.hid hqb
      have HQR := Lib.hid hqr
      have HBS := Lib.hid hbs
      have HQ := Lib.hid hq
      clear hqa hqb hqr hbs hq
      go_loopw [7] (fun i wr => ∃ (k : Nat) (sv : Value), i = .int .i64 k ∧ k ≤ n ∧ Hid (wr.heap[q]? = some (.cells #[sv] 25 (0, 0))) ∧ Hid (OwnSS wr base sv (prd Asm.prs (a.take k) b)) ∧ Hid (After w3 wr)) (fun i _ => n - (intOf i).toNat)
      case atStart => exact ⟨0, _, rfl, Nat.zero_le _, HBOXS, HSTART, HA3W⟩
      case round =>
        obtain ⟨i, sv0, rfl, hi, HBOX0, HOWN0, HA30⟩ := hrel
        obtain ⟨t0, t1, t2⟩ := one_facts HXA.out HA30.out
        clear HSTART HBOXS
        by_cases hlt : i < n
        · obtain ⟨ga, oa, rfl, q1, ⟨ae, ne, ce, e1⟩, q2, hlx⟩ := HCA.out i hlt
          rw [e1] at q1 q2
          have Q1 : Hid (∀ W, After w3 W → W.cell? ⟨ga, oa + i, none⟩ = some (.slice ae ne ce)) := fun W hW => (HA0.out.trans hW).cell q1
          have hlt' : (i : Int) < (n : Int) := by omega
          have hle4 := HA2.out i hlt
          have hrz := fun k hk => HA3.out i k hlt hk
          have hrowi := fun j hj => HROW.out i j hj
          have hnxt := HNEXT.out i hlt
          have hlni := fun j hj => HLEN.out i j hi hj
          obtain ⟨xs, hxs⟩ : ∃ xs, xs = a.getD i [] := ⟨_, rfl⟩
          rw [← hxs] at q2 hle4 hrowi hnxt hlni hrz hlx
          have HE1 := Lib.hid q2
          have HRZ := Lib.hid hrz
          have HLX := Lib.hid hlx
          have HROWI := Lib.hid hrowi
          have HNXT := Lib.hid hnxt
          have HLNI := Lib.hid hlni
          obtain ⟨P, hP⟩ : ∃ P, P = prd Asm.prs (a.take i) b := ⟨_, rfl⟩
          rw [← hP] at HOWN0 HROWI HNXT HLNI
          have hst : Hid (OwnSS wr base sv0 (P ++ (b.take 0).map (Asm.prs xs))) := by show OwnSS _ _ _ _; simpa using HOWN0.out
          clear q1 q2 hrowi hnxt hlni hP hxs HOWN0 hrz hlx e1
          go_wp2_with fail
          go_loopw [8] (fun j wr => ∃ (k : Nat) (sv : Value), j = .int .i64 k ∧ k ≤ m ∧ Hid (wr.heap[q]? = some (.cells #[sv] 25 (0, 0))) ∧ Hid (OwnSS wr base sv (P ++ (b.take k).map (Asm.prs xs))) ∧ Hid (After w3 wr)) (fun i _ => m - (intOf i).toNat)
          case atStart => exact ⟨0, sv0, rfl, Nat.zero_le _, HBOX0, hst, HA30⟩
          case round =>
            obtain ⟨j, sv, rfl, hj, HBOX, HOWN, HA3R⟩ := hrel
            obtain ⟨u0, u1, u2⟩ := one_facts HXB.out HA3R.out
            clear hst HBOX0 HA30 t0 t1 t2
            by_cases hlj : j < m
            · obtain ⟨gb, ob, rfl, r1, ⟨ag, ng, cg, e2⟩, r2, hly⟩ := HCB.out j hlj
              rw [e2] at r1 r2
              have R1 : Hid (∀ W, After w3 W → W.cell? ⟨gb, ob + j, none⟩ = some (.slice ag ng cg)) := fun W hW => (HA0.out.trans hW).cell r1
              have hlj' : (j : Int) < (m : Int) := by omega
              have hle4b := HB2.out j hlj
              have hrzb := fun k hk => HB3.out j k hlj hk
              have hrw := HROWI.out j hlj
              have hlen := HLNI.out j hj
              obtain ⟨ys, hys⟩ : ∃ ys, ys = b.getD j [] := ⟨_, rfl⟩
              rw [← hys] at r2 hle4b hrw hrzb hly
              obtain ⟨z, hz⟩ : ∃ z, z = Asm.prs xs ys := ⟨_, rfl⟩
              have HPT : Hid (∀ W, After w3 W → Calls Tryz.prog 52 #[.slice ae ne ce, .slice ag ng cg] W fun e w' => ∃ v, e = .returned v ∧ After W w' ∧ RowS w' W.heap.size v z) := fun W hW => by
                rw [hz]
                exact s_pairs W _ _ xs ys (HE1.out.later (HA0.out.trans hW)) (StrsU.later r2 (HA0.out.trans hW)) hle4 hle4b HRZ.out hrzb HLX.out hly
              rw [← hz] at hrw
              obtain ⟨S, hS⟩ : ∃ S, S = P ++ (b.take j).map (Asm.prs xs) := ⟨_, rfl⟩
              rw [← hS] at HOWN hrw hlen
              have HRW := Lib.hid hrw
              have HLN : Hid (S.length ≤ 1000000) := by show _ ≤ _; omega
              have HBQ : Hid (base ≤ q) := by show _ ≤ _; rw [HQ.out]; omega
              have HQS : Hid (base ≤ wr.heap.size) := by show _ ≤ _; have := (Array.getElem?_eq_some_iff.1 HBOX.out).1; have := HBQ.out; omega
              have hself := (After.refl wr).drew
              clear r1 r2 hrw hlen hS hz hys e2 hrzb hly
              go_wp2_with fail
              rename_i KK hKK
              refine wp_region_tail (m := 14) (k := 3) (f := 12) (by kernel_rfl) (by kernel_rfl) (by kernel_rfl) (by kernel_rfl) After After.refl (fun _ _ _ h g => h.trans g)
                (rl [Sp.lit (.pointer (some ⟨q, 0, none⟩)), Sp.lit (sv), Sp.lit (.pointer (some ⟨qa, 0, none⟩)), Sp.lit (.slice (some ⟨ga, oa, none⟩) n k1), Sp.lit (.int .i64 i), Sp.lit (.pointer (some ⟨ga, oa + i, none⟩)), Sp.lit (.slice ae ne ce), Sp.lit (.pointer (some ⟨qb, 0, none⟩)), Sp.lit (.slice (some ⟨gb, ob, none⟩) m k2), Sp.lit (.int .i64 j), Sp.lit (.pointer (some ⟨gb, ob + j, none⟩)), Sp.lit (.slice ag ng cg), Sp.row wr.heap.size z, Sp.rows wr.heap.size z]) rl_later (lt14 ?_ ?_ ?_ ?_ ?_ ?_ ?_ ?_ ?_ ?_ ?_ ?_ ?_ ?_) ?_
              · intro vs W hE hd K hK
                have hE' : After wr W := hself.trans hE
                exact do_rp (v := .pointer (some ⟨q, 0, none⟩)) (Sp.lit (.pointer (some ⟨q, 0, none⟩))).p (by kernel_rfl) (wanted_of (by kernel_rfl)) (by kernel_rfl) (After.refl W) rfl hK
              · intro vs W hE hd K hK
                have hE' : After wr W := hself.trans hE
                exact do_rp (v := sv) (Sp.lit (sv)).p (by kernel_rfl) (wanted_of (by kernel_rfl)) (run_ld_ss (x := .tmp 34) (u := vs 0) (by kernel_rfl) (by kernel_rfl) (hd 0 (by kernel_rfl)) (cell_of_heap (i := 0) (hE'.heap HBOX.out))) (After.refl W) rfl hK
              · intro vs W hE hd K hK
                have hE' : After wr W := hself.trans hE
                exact do_rp (v := .pointer (some ⟨qa, 0, none⟩)) (Sp.lit (.pointer (some ⟨qa, 0, none⟩))).p (by kernel_rfl) (wanted_of (by kernel_rfl)) (by kernel_rfl) (After.refl W) rfl hK
              · intro vs W hE hd K hK
                have hE' : After wr W := hself.trans hE
                exact do_rp (v := .slice (some ⟨ga, oa, none⟩) n k1) (Sp.lit (.slice (some ⟨ga, oa, none⟩) n k1)).p (by kernel_rfl) (wanted_of (by kernel_rfl)) (run_ld_ss (x := .tmp 36) (u := vs 2) (by kernel_rfl) (by kernel_rfl) (hd 2 (by kernel_rfl)) (cell_of_heap (i := 0) ((HA3R.out.trans hE').heap HXA.out))) (After.refl W) rfl hK
              · intro vs W hE hd K hK
                have hE' : After wr W := hself.trans hE
                exact do_rp (v := .int .i64 i) (Sp.lit (.int .i64 i)).p (by kernel_rfl) (wanted_of (by kernel_rfl)) (by kernel_rfl) (After.refl W) rfl hK
              · intro vs W hE hd K hK
                have hE' : After wr W := hself.trans hE
                exact do_rp (v := .pointer (some ⟨ga, oa + i, none⟩)) (Sp.lit (.pointer (some ⟨ga, oa + i, none⟩))).p (by kernel_rfl) (wanted_of (by kernel_rfl)) (run_ixss (x := .tmp 37) (y := .tmp 38) (u := vs 3) (u' := vs 4) (by kernel_rfl) (by kernel_rfl) (hd 3 (by kernel_rfl)) (by kernel_rfl) (hd 4 (by kernel_rfl)) hlt) (After.refl W) rfl hK
              · intro vs W hE hd K hK
                have hE' : After wr W := hself.trans hE
                exact do_rp (v := .slice ae ne ce) (Sp.lit (.slice ae ne ce)).p (by kernel_rfl) (wanted_of (by kernel_rfl)) (run_ldr (x := .tmp 39) (u := vs 5) (by kernel_rfl) (by kernel_rfl) (hd 5 (by kernel_rfl)) (Q1.out W (HA3R.out.trans hE'))) (After.refl W) rfl hK
              · intro vs W hE hd K hK
                have hE' : After wr W := hself.trans hE
                exact do_rp (v := .pointer (some ⟨qb, 0, none⟩)) (Sp.lit (.pointer (some ⟨qb, 0, none⟩))).p (by kernel_rfl) (wanted_of (by kernel_rfl)) (by kernel_rfl) (After.refl W) rfl hK
              · intro vs W hE hd K hK
                have hE' : After wr W := hself.trans hE
                exact do_rp (v := .slice (some ⟨gb, ob, none⟩) m k2) (Sp.lit (.slice (some ⟨gb, ob, none⟩) m k2)).p (by kernel_rfl) (wanted_of (by kernel_rfl)) (run_ld_ss (x := .tmp 41) (u := vs 7) (by kernel_rfl) (by kernel_rfl) (hd 7 (by kernel_rfl)) (cell_of_heap (i := 0) ((HA3R.out.trans hE').heap HXB.out))) (After.refl W) rfl hK
              · intro vs W hE hd K hK
                have hE' : After wr W := hself.trans hE
                exact do_rp (v := .int .i64 j) (Sp.lit (.int .i64 j)).p (by kernel_rfl) (wanted_of (by kernel_rfl)) (by kernel_rfl) (After.refl W) rfl hK
              · intro vs W hE hd K hK
                have hE' : After wr W := hself.trans hE
                exact do_rp (v := .pointer (some ⟨gb, ob + j, none⟩)) (Sp.lit (.pointer (some ⟨gb, ob + j, none⟩))).p (by kernel_rfl) (wanted_of (by kernel_rfl)) (run_ixss (x := .tmp 42) (y := .tmp 43) (u := vs 8) (u' := vs 9) (by kernel_rfl) (by kernel_rfl) (hd 8 (by kernel_rfl)) (by kernel_rfl) (hd 9 (by kernel_rfl)) hlj) (After.refl W) rfl hK
              · intro vs W hE hd K hK
                have hE' : After wr W := hself.trans hE
                exact do_rp (v := .slice ag ng cg) (Sp.lit (.slice ag ng cg)).p (by kernel_rfl) (wanted_of (by kernel_rfl)) (run_ldr (x := .tmp 44) (u := vs 10) (by kernel_rfl) (by kernel_rfl) (hd 10 (by kernel_rfl)) (R1.out W (HA3R.out.trans hE'))) (After.refl W) rfl hK
              · intro vs W hE hd K hK
                have hE' : After wr W := hself.trans hE
                exact do_cp (Sp.row wr.heap.size z).p (by kernel_rfl) (wanted_of (by kernel_rfl)) (f := 52) (args := #[vs 6, vs 11]) (by kernel_rfl) (by rw [show vs 6 = .slice ae ne ce from hd 6 (by kernel_rfl), show vs 11 = .slice ag ng cg from hd 11 (by kernel_rfl)]; exact (HPT.out W (HA3R.out.trans hE')).mono fun e w' ⟨v, he, ha, hr⟩ => ⟨v, he, ha, own_mono hr hE'.size⟩) hK
              · intro vs W hE hd K hK
                have hE' : After wr W := hself.trans hE
                have h4 : W.ownsRow wr.heap.size 9 1 (vs 12) z.length (z.map str) := hd 12 (by kernel_rfl)
                obtain ⟨ao4, n4, c4, e4⟩ := own_form h4
                exact do_rp (Sp.rows wr.heap.size z).p (by kernel_rfl) (wanted_of (by kernel_rfl)) (run_rows1 (x := .tmp 46) (u := vs 12) (by kernel_rfl) (by kernel_rfl) e4) (After.new _ _) ⟨_, _, rfl, heap_new' _ _, rfl, by rw [← e4]; exact own_later h4 (After.new _ _)⟩ hK
              intro vs W hE hd
              have hE' : After wr W := hself.trans hE
              obtain ⟨b2, rv, eb2, hb2, _, hrow⟩ := hd 13 (by decide)
              refine tail_push2 (wr := wr) (m := 14) (q := q) (base := base) (b2 := b2) (sv := sv) (s := .tmp 35) (x := .tmp 47) (t := .tmp 6) (y := .tmp 49) (z := .tmp 48) (d7 := 48) (d8 := 49) (rv := rv)
                (by kernel_rfl) (by kernel_rfl) (by kernel_rfl) (by kernel_rfl) (by kernel_rfl) (by kernel_rfl) (by kernel_rfl) (by kernel_rfl) (by kernel_rfl) (by kernel_rfl) (by kernel_rfl) (by kernel_rfl)
                (Eq.trans (by kernel_rfl : _ = vs 1) (hd 1 (by decide))) (Eq.trans (by kernel_rfl : _ = vs 13) eb2) (fun v => by kernel_rfl) (fun v => by kernel_rfl) (fun v => by kernel_rfl) HOWN.out hE' HQS.out HLN.out HBQ.out HBOX.out hrow hb2 (fun g cap w9 hown9 hbox9 hb9 => ?_)
              refine hKK _ _ ?_
              rw [frame_from 34 16 (by kernel_rfl) (by kernel_rfl) (by kernel_rfl), lit2_55_34_16]
              clear hd eb2 hb2 hrow
              generalize vs 0 = y0 at *
              generalize vs 1 = y1 at *
              generalize vs 2 = y2 at *
              generalize vs 3 = y3 at *
              generalize vs 4 = y4 at *
              generalize vs 5 = y5 at *
              generalize vs 6 = y6 at *
              generalize vs 7 = y7 at *
              generalize vs 8 = y8 at *
              generalize vs 9 = y9 at *
              generalize vs 10 = y10 at *
              generalize vs 11 = y11 at *
              generalize vs 12 = y12 at *
              generalize vs 13 = y13 at *
              go_wp2_with fail
              go_roundw
              case rel =>
                refine ⟨j + 1, _, by go_num, by omega, hbox9, ?_, ?_⟩
                · show OwnSS _ _ _ _
                  rw [HRW.out]
                  exact hown9
                · show After _ _
                  exact Below.trans HA3R.out (hb9.mono (by rw [HS3.out]; exact Nat.le_refl _))
              case measure => simp [intOf]; omega
            · obtain rfl : j = m := by omega
              go_wp2_with fail
              go_roundw
              case rel => exact ⟨i + 1, sv, by go_num, by omega, HBOX, by show OwnSS _ _ _ _; rw [← HNXT.out]; rw [HMM.out] at HOWN ⊢; exact HOWN.out, HA3R⟩
              case measure => simp [intOf]; omega
        · obtain rfl : i = n := by omega
          have hD : ∀ zs v, zs = Asm.pairA a b → OwnSS wr base v zs → OwnSS wr base v (Asm.pairA a b) := fun zs v e h => e ▸ h
          have HO := Lib.hid (hD _ _ HEND.out HOWN0.out)
          have hv := HVAL.out wr sv0 (HO.out.ssu (Nat.zero_le _))
          obtain ⟨ao, cap, rfl⟩ := HO.out.form
          obtain ⟨p0, p1', p2'⟩ := one_facts HBOX0.out (After.refl _)
          have hfin := fun W h1 h2 => HFIN.out W (.slice ao (Asm.pairA a b).length cap) h1 h2
          clear hD HOWN0
          go_wp2_with fail
          refine hv.mono ?_
          rintro e w4 ⟨rfl, hb4⟩
          have hres3 := (HA30.out.trans hb4).heap HR0.out
          obtain ⟨r0, r1, r2⟩ := one_facts hres3 (After.refl _)
          obtain ⟨s0, s1, s2⟩ := one_facts HBOX0.out hb4
          have HRS := Lib.hid hres3
          have hAA := HA0.out.trans (HA30.out.trans hb4)
          have HOW : Hid (OwnSS w4 w.heap.size (.slice ao (Asm.pairA a b).length cap) (Asm.pairA a b)) := OwnSS.less (HO.out.later hb4) (by rw [HBS.out, HQR.out, HQB.out, HQA.out]; omega)
          generalize hRB : Asm.ok (Asm.pairA a b) = rb at *
          generalize (Asm.pairA a b).length = L at *
          have hset : ∀ v, OwnSS (w4.setCell ⟨qr, 0, none⟩ v) w.heap.size (.slice ao L cap) (Asm.pairA a b) ∧ After w (w4.setCell ⟨qr, 0, none⟩ v) := fun v => ⟨HOW.out.keptT fun b' cs T fr hT hb' => by
            rw [Below.heap_setCell _ _ _ _ (fun e => by have e' : b' = qr := e; subst e'; rw [HRS.out] at hb'; injection hb' with hb'; injection hb' with _ hb' _; exact hT hb'.symm)]
            exact hb', Below.setCell hAA (by show w.heap.size ≤ qr; rw [HQR.out, HQB.out, HQA.out]; omega) v⟩
          have HSET := Lib.hid hset
          clear p0 p1' p2' hres3 hset hRB hv t0 t1 t2
          cases rb
          all_goals
            go_wp2_with fail
            refine bodyPost_ret (v := .tuple #[.agg #[_], .bool _]) (by simp [results, Tryz.results17, go_sem, r0]) rfl (hfin _ (HSET.out _).1 (HSET.out _).2)
end Go.Proofs.YtfeeegnkmojpeaaGreat

namespace Go.Proofs.YtfeeegnkmojpeaaGreat
open Go

section
variable {P : Program} {ops : Array Oper} {Q : Exit → Act → World → Prop}

/-- The operations' places differ, and what binds points back. -/
def regBack (ops : Array Oper) (n : Nat) : Bool :=
  (List.range n).all (fun i => (List.range ops.size).all fun j => (j == i) || (dstOf ops j != dstOf ops i) || (dstOf ops j == none)) && (List.range ops.size).all fun i => (List.range ops.size).all fun j => !depsOn ops i j || decide (j < i)

theorem regBack_dst {n : Nat} (h : regBack ops n = true) : ∀ i j, i < n → j < ops.size → j ≠ i → dstOf ops j ≠ dstOf ops i ∨ dstOf ops j = none := by
  intro i j hi hj hne
  rw [regBack, Bool.and_eq_true] at h
  have := List.all_eq_true.1 (List.all_eq_true.1 h.1 i (List.mem_range.2 hi)) j (List.mem_range.2 hj)
  simp only [Bool.or_eq_true, beq_iff_eq, bne_iff_ne, ne_eq] at this
  rcases this with (h | h) | h
  · exact absurd h hne
  · exact Or.inl h
  · exact Or.inr h

theorem regBack_back {n : Nat} (h : regBack ops n = true) {i j : Nat} (hi : i < ops.size) (hj : j < ops.size) (hd : depsOn ops i j = true) : j < i := by
  rw [regBack, Bool.and_eq_true] at h
  have := List.all_eq_true.1 (List.all_eq_true.1 h.2 i (List.mem_range.2 hi)) j (List.mem_range.2 hj)
  rw [hd] at this
  simpa using this

/-- All that is bound has been listed: so all has been. -/
theorem all_listed' {n : Nat} {listed : Array Bool} (hsz : listed.size = ops.size) (hb : regBack ops n = true) (hin : (List.range ops.size).all (fun i => match ops[i]? with | some o => o.after.all fun e => decide (e.on < ops.size) | none => true) = true)
    (hr : Region.ready .any ops listed = []) : ∀ i, i < ops.size → listed.getD i false = true := by
  have hall : ∀ n i, i < n → i < ops.size → listed.getD i false = true := by
    intro n
    induction n with
    | zero => intro i h; omega
    | succ n ih =>
      intro i hin' hi
      by_cases hl : listed.getD i true = false
      · exfalso
        have hmem : i ∈ Region.ready .any ops listed := by
          simp only [Region.ready, List.mem_filter, List.mem_range, Bool.and_eq_true, Bool.not_eq_true']
          refine ⟨hi, hl, ?_⟩
          have ho : ops[i]? = some ops[i] := Array.getElem?_eq_getElem hi
          rw [ho]
          simp only [Option.map_some, Option.getD_some, Array.all_eq_true_iff_forall_mem, Bool.or_eq_true, Bool.not_eq_true']
          intro e hm'
          cases hbd : Region.binds .any e with
          | false => left; rfl
          | true =>
            right
            have hd : depsOn ops i e.on = true := by
              unfold depsOn
              rw [ho]
              simp only
              rw [Array.any_eq_true]
              obtain ⟨k, hk, hke⟩ := Array.getElem_of_mem hm'
              exact ⟨k, hk, by rw [hke]; simp [hbd]⟩
            have hon : e.on < ops.size := by
              have := List.all_eq_true.1 hin i (List.mem_range.2 hi)
              rw [ho] at this
              simp only [Array.all_eq_true_iff_forall_mem, decide_eq_true_eq] at this
              exact this e hm'
            have := regBack_back hb hi hon hd
            exact ih e.on (by omega) hon
        rw [hr] at hmem
        cases hmem
      · have hlt : i < listed.size := by omega
        simp only [Array.getD, hlt, dif_pos] at hl ⊢
        simpa using hl
  exact fun i hi => hall (i + 1) i (by omega) hi

theorem wp_region_mid {id n p : Nat} {a0 : Act} {w0 : World} (hm : P.follows .mixedOrders = true) (hn : ops.size = n + 1) (hp : p < n) (hok : regBack ops n = true) (hl : regLast ops n = true)
    (hin : (List.range ops.size).all (fun i => match ops[i]? with | some o => o.after.all fun e => decide (e.on < ops.size) | none => true) = true)
    (Ext : World → World → Prop) (hrefl : ∀ w, Ext w w) (htrans : ∀ a b c, Ext a b → Ext b c → Ext a c)
    (R : Nat → Value → World → Prop) (hR : ∀ i v w w', Ext w0.drew w → R i v w → Ext w w' → R i v w') (fr : Nat → Bool) (hfr : ((List.range n).all fun i => (i == p) || fr i || depsOn ops p i) = true)
    (R2 : Nat → Value → Prop) (hR2 : ∀ i v w, i < n → i ≠ p → R i v w → R2 i v) (S : (Nat → Value) → World → Prop) (hS : ∀ vs w i v, fr i = true → S vs w → S (fun j => if j = i then v else vs j) w)
    (hstep : ∀ i, i < n → i ≠ p → ∀ (vs : Nat → Value) (w : World), Ext w0.drew w → (∀ j, depsOn ops i j = true → R j (vs j) w) →
      ∀ K : Act → World → Prop, (∀ v w', Ext w w' → R i v w' → K ((frame a0 ops vs).put (dstOf ops i) v) w') → OpDo P ops Q (frame a0 ops vs) i w K)
    (hmid : ∀ (vs : Nat → Value) (w : World), Ext w0.drew w → (∀ j, depsOn ops p j = true → R j (vs j) w) →
      ∀ K : Act → World → Prop, (∀ v w', S (fun j => if j = p then v else vs j) w' → K ((frame a0 ops vs).put (dstOf ops p) v) w') → OpDo P ops Q (frame a0 ops vs) p w K)
    (hfree : ∀ i, i < n → i ≠ p → fr i = true → ∀ (vs : Nat → Value) (w : World), (∀ j, j ≠ p → depsOn ops i j = true → R2 j (vs j)) → ∀ (K : Act → World → Prop), (∀ v, R2 i v → K ((frame a0 ops vs).put (dstOf ops i) v) w) → OpDo P ops Q (frame a0 ops vs) i w K)
    (hlast : ∀ (vs : Nat → Value) (w : World), S vs w → (∀ j, j < n → j ≠ p → R2 j (vs j)) → ∀ K : Act → World → Prop, (∀ a w, Q .normal a w → K a w) → OpDo P ops Q (frame a0 ops vs) n w K) :
    (Code.region id ops true).wp P Q a0 w0 := by
  have getSet : ∀ (listed : Array Bool) (i j : Nat), (listed.setIfInBounds i true).getD j false = if j = i ∧ i < listed.size then true else listed.getD j false := fun listed i j => by
    simp only [Array.getD_eq_getD_getElem?, Array.getElem?_setIfInBounds]
    by_cases h : i = j
    · subst h
      by_cases hi : i < listed.size
      · simp [hi]
      · simp [hi]
    · have h' : ¬ j = i := fun e => h e.symm
      simp [h, h']
  refine wp_region_any hm ?_
  refine wpAny_inv (fun listed a w => listed.size = ops.size ∧
    ((∃ vs, a = frame a0 ops vs ∧ Ext w0.drew w ∧ listed.getD p false = false ∧ listed.getD n false = false ∧ ∀ j, listed.getD j false = true → R j (vs j) w) ∨
     (∃ vs, a = frame a0 ops vs ∧ S vs w ∧ listed.getD p false = true ∧ listed.getD n false = false ∧ (∀ j, depsOn ops p j = true → listed.getD j false = true) ∧ ∀ j, j < n → j ≠ p → listed.getD j false = true → R2 j (vs j)) ∨
     ((∀ j, j < ops.size → listed.getD j false = true) ∧ Q .normal a w))) ?_ ?_ ops.size _ _ _ ?_ ⟨by simp, Or.inl ⟨_, (putAll_init a0 (dstOf ops) ops.size).symm, hrefl _, ?_, ?_, fun j hj => ?_⟩⟩
  · rintro listed a w ⟨hsz, h⟩ hr
    have hall := all_listed' hsz hok hin hr
    rcases h with ⟨vs, _, _, _, h1, _⟩ | ⟨vs, _, _, _, h1, _⟩ | ⟨_, hq⟩
    · have := hall n (by omega); rw [h1] at this; cases this
    · have := hall n (by omega); rw [h1] at this; cases this
    · exact hq
  · rintro listed a w i ⟨hsz, h⟩ hi
    obtain ⟨hlt, hun, o, ho, hdeps⟩ := ready_open hi
    have hun' : listed.getD i false = false := by
      have hls : i < listed.size := by omega
      simp only [Array.getD, hls, dif_pos] at hun ⊢
      exact hun
    have hdep : ∀ j, depsOn ops i j = true → listed.getD j false = true := fun j hj => by
      unfold depsOn at hj
      rw [ho] at hj
      simp only at hj
      rw [Array.any_eq_true] at hj
      obtain ⟨k, hk, hb⟩ := hj
      simp only [Bool.and_eq_true, beq_iff_eq] at hb
      rw [← hb.2]
      exact hdeps _ (Array.getElem_mem hk) hb.1
    have fin : ∀ {A : Act} {K2 : Act → World → Prop}, (∀ K' : Act → World → Prop, (∀ a w, K2 a w → K' a w) → OpDo P ops Q A i w K') → wpOp P ops Q i K2 A w := fun {A K2} h => wpOp_step ho (fun K' hK => by
      have := (h K' hK).out
      rw [ho] at this
      exact this)
    have hsz' : (listed.setIfInBounds i true).size = ops.size := by simpa using hsz
    have hil : i < listed.size := by omega
    have same : ∀ j, listed.getD j false = true → (listed.setIfInBounds i true).getD j false = true := fun j hj => by rw [getSet]; split <;> simp [hj]
    have here : (listed.setIfInBounds i true).getD i false = true := by rw [getSet]; simp [hil]
    have other : ∀ j, j ≠ i → listed.getD j false = false → (listed.setIfInBounds i true).getD j false = false := fun j hne hj => by rw [getSet]; simp [hne, hj]
    have back : ∀ j, j ≠ i → (listed.setIfInBounds i true).getD j false = true → listed.getD j false = true := fun j hne hj => by rw [getSet, if_neg (fun h => hne h.1)] at hj; exact hj
    have dn : ∀ j, j < n → depsOn ops n j = true := fun j hj => List.all_eq_true.1 hl j (List.mem_range.2 hj)
    have upd : ∀ vs v, i < n → frame a0 ops (fun j => if j = i then v else vs j) = (frame a0 ops vs).put (dstOf ops i) v := fun vs v hin => putAll_upd a0 (dstOf ops) vs i v ops.size hlt (fun j hj' hne => regBack_dst hok i j hin hj' hne)
    rcases h with ⟨vs, rfl, hE, h1, h2, hj⟩ | ⟨vs, rfl, hSS, h1, h2, h3, hj⟩ | ⟨h1, hq⟩
    · by_cases hip : i = p
      · subst hip
        refine fin (fun K' hK => hmid vs w hE (fun j hjd => hj j (hdep j hjd)) K' (fun v w' hs => hK _ _ ⟨hsz', Or.inr (Or.inl ⟨fun j => if j = i then v else vs j, (upd vs v hp).symm, hs, here, other n (by omega) h2, fun j hjd => same j (hdep j hjd), fun j hjn hne hjl => ?_⟩)⟩))
        simp only [hne, if_false]
        exact hR2 j _ w hjn hne (hj j (back j hne hjl))
      · have hin' : i < n := by
          by_cases hin' : i < n
          · exact hin'
          · exfalso
            obtain rfl : i = n := by omega
            have := hdep p (dn p hp)
            rw [h1] at this; cases this
        refine fin (fun K' hK => hstep i hin' hip vs w hE (fun j hjd => hj j (hdep j hjd)) K' (fun v w' he hr => hK _ _ ⟨hsz', Or.inl ⟨fun j => if j = i then v else vs j, (upd vs v hin').symm, htrans _ _ _ hE he, other p (fun e => hip e.symm) h1, other n (by omega) h2, fun j hjl => ?_⟩⟩))
        by_cases hji : j = i
        · subst hji; simpa using hr
        · simp only [hji, if_false]
          exact hR j _ w w' hE (hj j (back j hji hjl)) he
    · by_cases hin' : i < n
      · have hip : i ≠ p := fun e => by rw [e, h1] at hun'; cases hun'
        have hf : fr i = true := by
          have := List.all_eq_true.1 hfr i (List.mem_range.2 hin')
          simp only [Bool.or_eq_true, beq_iff_eq] at this
          rcases this with (h | h) | h
          · exact absurd h hip
          · exact h
          · have := h3 i h; rw [hun'] at this; cases this
        have hji : ∀ j, depsOn ops i j = true → j < n := fun j hjd => by
          by_cases hjn : j < ops.size
          · have := regBack_back hok hlt hjn hjd; omega
          · have := hdep j hjd
            rw [Array.getD_eq_getD_getElem?, Array.getElem?_eq_none (by omega)] at this
            cases this
        refine fin (fun K' hK => hfree i hin' hip hf vs w (fun j hne hjd => hj j (hji j hjd) hne (hdep j hjd)) K' (fun v hv => hK _ _ ⟨hsz', Or.inr (Or.inl ⟨fun j => if j = i then v else vs j, (upd vs v hin').symm, hS vs w i v hf hSS, same p h1, other n (by omega) h2, fun j hjd => same j (h3 j hjd), fun j hjn hne hjl => ?_⟩)⟩))
        by_cases hji' : j = i
        · subst hji'; simpa using hv
        · simp only [hji', if_false]
          exact hj j hjn hne (back j hji' hjl)
      · obtain rfl : i = n := by omega
        refine fin (fun K' hK => hlast vs w hSS (fun j hjn hne => hj j hjn hne (hdep j (dn j hjn))) K' (fun a w hq => hK _ _ ⟨hsz', Or.inr (Or.inr ⟨fun j hjs => ?_, hq⟩)⟩))
        by_cases hji : j = i
        · rw [hji]; exact here
        · exact same j (hdep j (dn j (by omega)))
    · have := h1 i hlt; rw [hun'] at this; cases this
  · have := List.countP_le_length (p := fun b : Bool => !b) (l := (Array.replicate ops.size false).toList)
    unfold openN
    simpa using this
  · rw [Array.getD_eq_getD_getElem?, Array.getElem?_replicate]; split <;> rfl
  · rw [Array.getD_eq_getD_getElem?, Array.getElem?_replicate]; split <;> rfl
  · rw [Array.getD_eq_getD_getElem?, Array.getElem?_replicate] at hj; split at hj <;> cases hj
end
end Go.Proofs.YtfeeegnkmojpeaaGreat
