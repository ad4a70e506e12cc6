/-
  Pairs of realizers: in plain mathematics; the program's pairTexts.
-/
import Derived.Test.YtidpkmkhcomcdaaGreatPkG
import Derived.Test.YtidpkmkhcomcdaaGreatPkC
import Derived.Test.YtidpkmkhcomcdaaGreatPkB
import Derived.Test.YtidpkmkhcomcdaaGreatPkD
namespace Go.Proofs.YtidpkmkhcomcdaaGreat
open Go.RowKit

set_option maxHeartbeats 2000000
set_option maxRecDepth 100000

namespace Asm
def tmOf (x : Txt) : Tm := (rz x).getD Tm.k
def pr (x y : Txt) : Txt := (Tm.pair (tmOf x) (tmOf y)).text
def prs (xs ys : List Txt) : List Txt := xs.flatMap fun x => ys.map (pr x)

theorem rz_facts {x : Txt} {t : Tm} (h : rz x = some t) : tmOf x = t ∧ t.good = true ∧ t.size ≤ 60 ∧ Tm.closedOf x = some t := by
  have h0 := h
  unfold rz at h
  cases hc : Tm.closedOf x with
  | none => rw [hc] at h; cases h
  | some u =>
    rw [hc] at h
    simp only at h
    split at h
    · rename_i hh
      obtain rfl := Option.some.inj h
      exact ⟨by rw [tmOf, h0]; rfl, (Tm.parse_facts (Tm.closed_facts hc).1).1, hh.2, rfl⟩
    · cases h

theorem pair_fits {t u : Tm} (ht : t.size ≤ 60) (hu : u.size ≤ 60) (hg : t.good = true) (hgu : u.good = true) : (Tm.pair t u).good = true ∧ (Tm.pair t u).size ≤ 200 ∧ (Tm.pair t u).text.length ≤ 100000 := by
  have hgp : (Tm.pair t u).good = true := by rw [Tm.good_pair, hg, hgu]; rfl
  have hz : (Tm.pair t u).size ≤ 200 := by simp only [Tm.pair, Tm.I, Tm.size]; omega
  have htl := Tm.text_le _ hgp
  exact ⟨hgp, hz, by omega⟩
end Asm

theorem RowE.at {w : World} {base : Nat} {sv : Value} {xs : List (List UInt8)} (h : RowE w base sv xs) (j : Nat) (hj : j < xs.length) : ∃ g cap T v t, sv = .slice (some ⟨g, 0, none⟩) xs.length cap ∧
    w.cell? ⟨g, j * 2, none⟩ = some (.iface T v) ∧ w.cell? ⟨g, j * 2 + 1, none⟩ = some (str (xs.getD j [])) ∧ Asm.rz (xs.getD j []) = some t ∧ TV w base t (.iface T v) := by
  obtain ⟨cs, ho, hc⟩ := h
  obtain ⟨T, v, t, h1, h2, h3, h4⟩ := hc j hj
  rcases ho.2 with ⟨rfl, h0⟩ | ⟨g, cap, cur, rfl, _⟩
  · omega
  · exact ⟨g, cap, T, v, t, rfl, (ho.cellAt (j * 2) (by omega)).trans h1, (ho.cellAt (j * 2 + 1) (by omega)).trans h2, h3, h4⟩

theorem prs_row (xs ys : List (List UInt8)) (i j : Nat) (_hi : i < xs.length) (hj : j < ys.length) : Asm.prs (xs.take i) ys ++ (ys.take (j + 1)).map (Asm.pr (xs.getD i [])) = (Asm.prs (xs.take i) ys ++ (ys.take j).map (Asm.pr (xs.getD i []))) ++ [Asm.pr (xs.getD i []) (ys.getD j [])] := by
  rw [List.take_succ_eq_append_getElem hj, List.map_append, List.append_assoc]
  have : ys.getD j [] = ys[j] := by simp [List.getD, hj]
  rw [this]
  rfl
theorem prs_next (xs ys : List (List UInt8)) (i : Nat) (hi : i < xs.length) : Asm.prs (xs.take i) ys ++ (ys.take ys.length).map (Asm.pr (xs.getD i [])) = Asm.prs (xs.take (i + 1)) ys := by
  have : xs.getD i [] = xs[i] := by simp [List.getD, hi]
  rw [List.take_length, List.take_succ_eq_append_getElem hi, this, Asm.prs, Asm.prs, List.flatMap_append]
  simp only [List.flatMap_cons, List.flatMap_nil, List.append_nil]
theorem prs_len (xs ys : List (List UInt8)) : (Asm.prs xs ys).length = xs.length * ys.length := by
  induction xs with
  | nil => simp [Asm.prs]
  | cons x xs ih =>
    have : Asm.prs (x :: xs) ys = ys.map (Asm.pr x) ++ Asm.prs xs ys := rfl
    rw [this, List.length_append, ih, List.length_map, List.length_cons, Nat.succ_mul, Nat.add_comm]

/-- A row of texts that grows. -/
def RowS (w : World) (base : Nat) (sv : Value) (ns : List (List UInt8)) : Prop := w.ownsRow base 9 1 sv ns.length (ns.map str)

theorem pairTexts_any (w : World) (b1 b2 : Nat) (e1 e2 : Value) (xs ys : List (List UInt8)) (h1 : RowE w b1 e1 xs) (h2 : RowE w b2 e2 ys) (hx : xs.length ≤ 4) (hy : ys.length ≤ 4) :
    Calls Tryz.prog 43 #[e1, e2] w fun e w' => ∃ v, e = .returned v ∧ After w w' ∧ RowS w' w.heap.size v (Asm.prs xs ys) := by
  have hat1 := fun j hj => h1.at j hj
  have hat2 := fun j hj => h2.at j hj
  obtain ⟨ao1, c1, rfl⟩ := h1.form
  obtain ⟨ao2, c2, rfl⟩ := h2.form
  have hc1 : ∀ j, j < xs.length → ∃ g T v t, ao1 = some ⟨g, 0, none⟩ ∧ w.cell? ⟨g, j * 2, none⟩ = some (.iface T v) ∧ w.cell? ⟨g, j * 2 + 1, none⟩ = some (str (xs.getD j [])) ∧ Asm.rz (xs.getD j []) = some t ∧ TV w 0 t (.iface T v) := fun j hj => by
    obtain ⟨g, cap, T, v, t, e, r1, r2, r3, r4⟩ := hat1 j hj
    simp only [Value.slice.injEq, true_and] at e
    exact ⟨g, T, v, t, e.1, r1, r2, r3, r4.less (Nat.zero_le _)⟩
  have hc2 : ∀ j, j < ys.length → ∃ g T v t, ao2 = some ⟨g, 0, none⟩ ∧ w.cell? ⟨g, j * 2, none⟩ = some (.iface T v) ∧ w.cell? ⟨g, j * 2 + 1, none⟩ = some (str (ys.getD j [])) ∧ Asm.rz (ys.getD j []) = some t ∧ TV w 0 t (.iface T v) := fun j hj => by
    obtain ⟨g, cap, T, v, t, e, r1, r2, r3, r4⟩ := hat2 j hj
    simp only [Value.slice.injEq, true_and] at e
    exact ⟨g, T, v, t, e.1, r1, r2, r3, r4.less (Nat.zero_le _)⟩
  have hrow := prs_row xs ys
  have hnext := prs_next xs ys
  have hlen : ∀ i j, i ≤ xs.length → j ≤ ys.length → (Asm.prs (xs.take i) ys ++ (ys.take j).map (Asm.pr (xs.getD i []))).length ≤ 1000 := fun i j hi hj => by
    rw [List.length_append, prs_len, List.length_map, List.length_take, List.length_take]
    have : min i xs.length * ys.length ≤ 4 * 4 := Nat.mul_le_mul (by omega) hy
    omega
  have hend : Asm.prs (xs.take xs.length) ys = Asm.prs xs ys := by rw [List.take_length]
  obtain ⟨n, hn⟩ : ∃ n, n = xs.length := ⟨_, rfl⟩
  obtain ⟨m, hm⟩ : ∃ m, m = ys.length := ⟨_, rfl⟩
  rw [← hn] at hc1 hrow hnext hlen hend hx ⊢
  rw [← hm] at hc2 hrow hnext hlen hy ⊢
  have HC1 := Lib.hid hc1
  have HC2 := Lib.hid hc2
  have HROW := Lib.hid hrow
  have HNEXT := Lib.hid hnext
  have HLEN := Lib.hid hlen
  have HEND := Lib.hid hend
  have hi : ∃ i, (Tryz.prog).info? 9 = some i ∧ i.zero = some (.string ⟨#[]⟩) ∧ i.size = 1 ∧ i.bytes = 16 := ⟨_, rfl, rfl, rfl, rfl⟩
  obtain ⟨i0, hi0, hz0, hz1, hz2⟩ := hi
  have hun : Tryz.prog.underlying 40 = some (.slice 9) := by kernel_rfl
  have HUN := Lib.hid hun
  have HI := Lib.hid (And.intro hi0 (And.intro hz0 (And.intro hz1 hz2)))
  have hnil : Hid (RowS w w.heap.size (.slice none 0 0) (Asm.prs (xs.take 0) ys)) := by show RowS _ _ _ _; exact World.ownsRow_nil w _ _ _
  clear hc1 hc2 hrow hnext hlen hend hat1 hat2 h1 h2 hun hi0 hz0 hz1 hz2 hn hm
  go_enter Tryz.func43, Tryz.ntmps43
  go_wp2_with fail
  go_loopw [5, 12] (fun t i wr => ∃ k : Nat, i = .int .i64 k ∧ k ≤ n ∧ Hid (RowS wr w.heap.size t (Asm.prs (xs.take k) ys)) ∧ After w wr) (fun _ i _ => n - (intOf i).toNat)
  case atStart => exact ⟨0, rfl, Nat.zero_le _, hnil, After.refl _⟩
  case round =>
    obtain ⟨i, rfl, hi, hown, hA⟩ := hrel
    clear hnil
    obtain ⟨ta, tc, e0⟩ : ∃ ao c, u5 = .slice ao (Asm.prs (xs.take i) ys).length c := by
      rcases hown.out.2 with ⟨rfl, h0⟩ | ⟨g, cap, cur, rfl, _⟩
      · exact ⟨_, _, by rw [h0]⟩
      · exact ⟨_, _, rfl⟩
    subst e0
    by_cases hlt : i < n
    · obtain ⟨g1, T1, v1, t1, rfl, q1, q2, q3, q4⟩ := HC1.out i hlt
      replace q1 := hA.cell q1
      replace q2 := hA.cell q2
      have hlt' : (i : Int) < (n : Int) := by omega
      obtain ⟨x, hx'⟩ : ∃ x, x = xs.getD i [] := ⟨_, rfl⟩
      have hrowi := fun j hj => HROW.out i j hlt hj
      have hnxt := HNEXT.out i hlt
      have hlni := fun j hj => HLEN.out i j hi hj
      rw [← hx'] at q2 q3 hrowi hnxt hlni
      have Q3 := Lib.hid q3
      have Q4 := Lib.hid q4
      have HROWI := Lib.hid hrowi
      have HNXT := Lib.hid hnxt
      have HLNI := Lib.hid hlni
      obtain ⟨P, hP⟩ : ∃ P, P = Asm.prs (xs.take i) ys := ⟨_, rfl⟩
      rw [← hP] at hown HROWI HNXT HLNI ⊢
      have hst : Hid (RowS wr w.heap.size (.slice ta P.length tc) (P ++ (ys.take 0).map (Asm.pr x))) := by show RowS _ _ _ _; simpa using hown.out
      have hA2 := hA.alloc (.cells #[.iface T1 v1, str x] 79)
      have hbx := heap_new' wr (.cells #[.iface T1 v1, str x] 79)
      have hst2 : Hid (RowS (wr.alloc (.cells #[.iface T1 v1, str x] 79)) w.heap.size (.slice ta P.length tc) (P ++ (ys.take 0).map (Asm.pr x))) := by show RowS _ _ _ _; exact own_later hst.out (After.new _ _)
      have HBX := Lib.hid hbx
      clear q3 q4 hrowi hnxt hlni hst hP hx' hbx hown
      obtain ⟨wa, hwa⟩ : ∃ x, x = wr := ⟨_, rfl⟩
      subst hwa
      go_wp2_with fail
      generalize wa.heap.size = bx at *
      generalize wa.alloc (.cells #[.iface T1 v1, str x] 79) = wb at *
      go_loopw [5, 18] (fun t j wr => ∃ k : Nat, j = .int .i64 k ∧ k ≤ m ∧ Hid (RowS wr w.heap.size t (P ++ (ys.take k).map (Asm.pr x))) ∧ After w wr ∧ Hid (wr.heap[bx]? = some (.cells #[.iface T1 v1, str x] 79 (0, 0)))) (fun _ i _ => m - (intOf i).toNat)
      case atStart => exact ⟨0, rfl, Nat.zero_le _, hst2, hA2, HBX⟩
      case round =>
        obtain ⟨j, rfl, hj, hown, hA3, hAb⟩ := hrel
        clear hst2
        obtain ⟨tb, td, e0⟩ : ∃ ao c, u5 = .slice ao (P ++ (ys.take j).map (Asm.pr x)).length c := by
          rcases hown.out.2 with ⟨rfl, h0⟩ | ⟨g, cap, cur, rfl, _⟩
          · exact ⟨_, _, by rw [h0]⟩
          · exact ⟨_, _, rfl⟩
        subst e0
        by_cases hlj : j < m
        · obtain ⟨g2, T2, v2, t2, rfl, r1, r2, r3, r4⟩ := HC2.out j hlj
          replace r1 := hA3.cell r1
          replace r2 := hA3.cell r2
          have hlj' : (j : Int) < (m : Int) := by omega
          obtain ⟨f1, f2, f3⟩ := Asm.rz_facts Q3.out
          obtain ⟨k1, k2, k3⟩ := Asm.rz_facts r3
          have hfit := Asm.pair_fits f3.1 k3.1 f2 k2
          have hrw := HROWI.out j hlj
          have hpr : Asm.pr x (ys.getD j []) = (Tm.pair t1 t2).text := by rw [Asm.pr, f1, k1]
          rw [hpr] at hrw
          have hlen := HLNI.out j hj
          obtain ⟨y, hy'⟩ : ∃ y, y = ys.getD j [] := ⟨_, rfl⟩
          rw [← hy'] at r2
          obtain ⟨S, hS⟩ : ∃ S, S = P ++ (ys.take j).map (Asm.pr x) := ⟨_, rfl⟩
          rw [← hS] at hown hrw hlen ⊢
          have hnw := After.new wr (.cells #[.iface T2 v2, str y] 79)
          have hA4 := hA3.trans hnw
          have hpc := pair_any (wr.alloc (.cells #[.iface T2 v2, str y] 79)) 0 t1 t2 _ _ (Q4.out.below hA4) (r4.below hA4) (Nat.zero_le _) (by omega)
          unfold TermPost at hpc
          have b0 : (wr.alloc (.cells #[.iface T2 v2, str y] 79)).cell? ⟨bx, 0, none⟩ = some (.iface T1 v1) := cell_of_heap (i := 0) (hnw.heap hAb.out)
          have HFIT := Lib.hid hfit
          have HRW := Lib.hid hrw
          have HABN := Lib.hid (hnw.heap hAb.out)
          have HOWN := Lib.hid (own_later hown.out hnw)
          clear r3 r4 f1 f2 f3 k1 k2 k3 hpr hrw hfit hown hy' hS hAb
          go_wp2_with fail
          refine hpc.mono ?_
          rintro e w1 ⟨v3, rfl, hb1, ht3⟩
          have htx := textOf_any w1 0 _ v3 ht3 HFIT.out.1 (by have := HFIT.out.2.2; omega)
          clear ht3 hpc b0
          go_wp2_with fail
          refine htx.mono ?_
          rintro e w2 ⟨rfl, hb2⟩
          have hA5 := (hA4.trans hb1).trans hb2
          obtain ⟨z, hz⟩ : ∃ z, z = (Tm.pair t1 t2).text := ⟨_, rfl⟩
          rw [← hz] at HRW ⊢
          have hA6 := hA5.alloc (.cells #[str z] 9)
          have hn6 := After.new w2 (.cells #[str z] 9)
          have HO := Lib.hid (own_later (own_later HOWN.out (After.trans hb1 hb2)) hn6)
          have hlit := World.ownsRow_lit (base := w2.heap.size) (e := 9) (size := 1) w2 #[str z] 1 (Nat.le_refl _) (by decide) (by simp)
          have hnews := Lib.hid (hlit.cells (g := w2.heap.size) rfl)
          have HAB6 := Lib.hid (hn6.heap ((After.trans hb1 hb2).heap HABN.out))
          obtain ⟨hi0, hz0, hz1, hz2⟩ := HI.out
          have hb5 := hA6.size
          clear hlit htx hz
          go_wp2_with (at_builtin; refine wpList_append_lies _ (by rfl) _ _ 40 (by rfl) w.heap.size 9 i0 (.string ⟨#[]⟩) 1 16 HUN.out hi0 hz0 hz1 hz2 rfl (by decide) _ _ _ (by rfl) HO.out ⟨w2.heap.size, 0, none⟩ 1 1 [str z] (by rfl) (by rfl) hnews.out (by simp [Value.oneCell', str]) (by omega) (by unfold maxLen; omega) (by omega) hb5 _ rfl ?_; intro g4 q4 w5 ho4 hg4 _ hlt4; have HO4 := Lib.hid ho4; have HG4 := Lib.hid hg4; clear ho4 hg4)
          go_roundw
          case rel =>
            refine ⟨j + 1, by go_num, by omega, ?_, ?_, ?_⟩
            · show RowS _ _ _ _
              rw [HRW.out]
              unfold RowS
              rw [List.length_append, List.map_append]
              exact HO4.out
            · exact hA6.grown HG4.out hA6.size (fun k hk => (HO.out.lt k hk).1)
            · show _ = _
              exact row_keeps HO.out HG4.out _ _ _ _ (by decide) HAB6.out
          case measure => simp [intOf]; omega
        · obtain rfl : j = m := by omega
          go_wp2_with fail
          go_roundw
          case rel => exact ⟨i + 1, by go_num, by omega, by show RowS _ _ _ _; rw [← HNXT.out]; exact hown.out, hA3⟩
          case measure => simp [intOf]; omega
    · obtain rfl : i = n := by omega
      have hD : ∀ zs v, zs = Asm.prs xs ys → RowS wr w.heap.size v zs → RowS wr w.heap.size v (Asm.prs xs ys) := fun zs v e h => e ▸ h
      have HO := Lib.hid (hD _ _ HEND.out hown.out)
      clear hown hD
      go_wp2_with fail
      go_ret
      exact ⟨_, rfl, hA, HO.out⟩
end Go.Proofs.YtidpkmkhcomcdaaGreat

namespace Go.Proofs.YtidpkmkhcomcdaaGreat
open Go.RowKit

set_option maxHeartbeats 2000000
set_option maxRecDepth 100000

namespace Asm
/-- A term leads a realizer into a row. -/
def hit (t : Tm) (x : Txt) (row : List Txt) : Bool := match Tm.endOf (.app t (tmOf x)) with
  | some m => decide (m.text ∈ row)
  | none => false
def lefts (t : Tm) (xs : List Txt) (b : List (List Txt)) : List Nat := (List.range b.length).filter fun j => xs.all fun x => hit t x (b.getD j [])
theorem lefts_nil (t : Tm) (b : List (List Txt)) : lefts t [] b = List.range b.length := by simp [lefts]
theorem lefts_step (t : Tm) (xs : List Txt) (x : Txt) (b : List (List Txt)) {m : Tm} (h : Tm.endOf (.app t (tmOf x)) = some m) : lefts t (xs ++ [x]) b = kept (fun j => !decide (m.text ∈ b.getD j [])) (lefts t xs b) := by
  rw [lefts, lefts, kept, List.filter_filter]
  apply List.filter_congr
  intro j _
  rw [List.all_append, Bool.and_comm]
  simp [hit, h]
theorem lefts_none (t : Tm) (xs ys : List Txt) (x : Txt) (b : List (List Txt)) (h : Tm.endOf (.app t (tmOf x)) = none) : lefts t (xs ++ x :: ys) b = [] := by
  rw [lefts, List.filter_eq_nil_iff]
  intro j _
  simp [hit, h]
theorem lefts_empty (t : Tm) (xs ys : List Txt) (b : List (List Txt)) (h : lefts t xs b = []) : lefts t (xs ++ ys) b = [] := by
  rw [lefts, List.filter_eq_nil_iff] at h ⊢
  intro j hj
  rw [List.all_append, Bool.and_eq_true]
  exact fun e => h j hj e.1
theorem lefts_lt {t : Tm} {xs : List Txt} {b : List (List Txt)} {j : Nat} (h : j ∈ lefts t xs b) : j < b.length := by
  rw [lefts, List.mem_filter, List.mem_range] at h
  exact h.1
theorem lefts_len (t : Tm) (xs : List Txt) (b : List (List Txt)) : (lefts t xs b).length ≤ b.length := by
  have := List.length_filter_le (fun j => xs.all fun x => hit t x (b.getD j [])) (List.range b.length)
  rw [List.length_range] at this
  exact this
end Asm

theorem tgt_small {t m : Tm} (h : Tm.endOf t = some m) (hg : t.good = true) : m.good = true ∧ m.text.length ≤ 1000000 := by
  obtain ⟨h1, h2⟩ := Tm.endOf_facts h hg
  have htm := Tm.text_le _ h1
  have hsm := fits_size h2
  exact ⟨h1, by omega⟩
theorem int_row (w : World) (C : Nat) (hC : C ≤ w.heap.size) (x : Nat) : (w.alloc (.cells #[.int .i64 ((x : Nat) : Int)] 3)).ownsRow C 3 1 (.slice (some ⟨w.heap.size, 0, none⟩) 1 1) 1 [.int .i64 ((x : Nat) : Int)] :=
  World.ownsRow_lit (base := C) (e := 3) (size := 1) w #[.int .i64 ((x : Nat) : Int)] 1 hC (by decide) (by simp)
theorem ints_range (k : Nat) : ints (List.range (k + 1)) = ints (List.range k) ++ [.int .i64 ((k : Nat) : Int)] := by rw [ints, ints, List.range_succ, List.map_append]; rfl

/-- What targets hands back. -/
def TgtPost (w : World) (t : Tm) (xs : List (List UInt8)) (b : List (List (List UInt8))) (e : Ending) (w' : World) : Prop :=
  ∃ v, e = .returned v ∧ After w w' ∧ w'.ownsRow w.heap.size 3 1 v (Asm.lefts t xs b).length (ints (Asm.lefts t xs b))

theorem targets_any (w : World) (sv tv es : Value) (b : List (List (List UInt8))) (t : Tm) (xs : List (List UInt8)) (base2 : Nat) (hb : RowA w 0 sv b) (ht : TV w 0 t tv) (hg : t.good = true) (htz : t.size ≤ 1000000) (hx : RowE w base2 es xs) (hb1 : 1 ≤ b.length) (hbl : b.length ≤ 6) (hxl : xs.length ≤ 1000000) (hbr : ∀ j, j < b.length → (b.getD j []).length ≤ 1000000000) :
    Calls Tryz.prog 70 #[sv, tv, es] w (TgtPost w t xs b) := by
  have hxat := fun j hj => hx.at j hj
  obtain ⟨ae, ce, rfl⟩ := hx.form
  obtain ⟨ab, cb, rfl⟩ : ∃ ao cap, sv = .slice ao b.length cap := by
    obtain ⟨cs, ho, _⟩ := hb
    rcases ho.2 with ⟨rfl, h0⟩ | ⟨g, cap, cur, rfl, _⟩
    · exact ⟨_, _, by rw [h0]⟩
    · exact ⟨_, _, rfl⟩
  have hstart := Asm.lefts_nil t b
  obtain ⟨nb, hnb⟩ : ∃ n, n = b.length := ⟨_, rfl⟩
  obtain ⟨nx, hnx⟩ : ∃ n, n = xs.length := ⟨_, rfl⟩
  rw [← hnb] at hstart hbl hb1 hbr ⊢
  rw [← hnx] at hxat hxl ⊢
  have hnone := fun k (hk : k < xs.length) (h : Tm.endOf (.app t (Asm.tmOf (xs.getD k []))) = none) => show Asm.lefts t xs b = [] by
    have e : xs = xs.take k ++ xs.getD k [] :: xs.drop (k + 1) := by
      have e1 : xs.getD k [] = xs[k] := by simp [List.getD, hk]
      rw [e1, List.getElem_cons_drop, List.take_append_drop]
    rw [e]
    exact Asm.lefts_none t _ _ _ b h
  have hsome := fun k (hk : k < xs.length) m (h : Tm.endOf (.app t (Asm.tmOf (xs.getD k []))) = some m) => show Asm.lefts t (xs.take (k + 1)) b = kept (fun j => !decide (m.text ∈ b.getD j [])) (Asm.lefts t (xs.take k) b) by
    have e1 : xs.getD k [] = xs[k] := by simp [List.getD, hk]
    rw [List.take_succ_eq_append_getElem hk, ← e1]
    exact Asm.lefts_step t _ _ b h
  have hempty := fun k (h : Asm.lefts t (xs.take k) b = []) => show Asm.lefts t xs b = [] by
    have := Asm.lefts_empty t (xs.take k) (xs.drop k) b h
    rwa [List.take_append_drop] at this
  have hfull : Asm.lefts t (xs.take xs.length) b = Asm.lefts t xs b := by rw [List.take_length]
  rw [← hnx] at hnone hsome hfull
  have hA0 := After.new w (.cells #[.slice ab nb cb] 59)
  have hbox := heap_new' w (.cells #[.slice ab nb cb] 59)
  obtain ⟨o0, o1, o2⟩ := one_facts hbox (After.refl _)
  have HB : Hid (RowA w 0 (.slice ab nb cb) b) := by show RowA _ _ _ _; rw [hnb]; exact hb
  have HT := Lib.hid ht
  have HX := Lib.hid hxat
  have HBR := Lib.hid hbr
  have HS := Lib.hid hstart
  have HNONE := Lib.hid hnone
  have HSOME := Lib.hid hsome
  have HEMPTY := Lib.hid hempty
  have HFULL := Lib.hid hfull
  have HA0 := Lib.hid hA0
  have HBOX := Lib.hid hbox
  have HNB := Lib.hid hnb
  have HNX := Lib.hid hnx
  clear hnone hsome hempty hfull hb hx hxat hbr hstart hA0 hbox hnb hnx ht
  go_enter Tryz.func70, Tryz.ntmps70
  go_wp2_with fail
  obtain ⟨q, hq⟩ : ∃ q, q = w.heap.size := ⟨_, rfl⟩
  obtain ⟨w1, hw1⟩ : ∃ w1, w1 = w.alloc (.cells #[.slice ab nb cb] 59) := ⟨_, rfl⟩
  simp only [← hw1, ← hq] at HA0 HBOX o0 o1 o2 ⊢
  have HQ := Lib.hid hq
  have HW1 := Lib.hid hw1
  clear hq hw1
  have HI : Hid (∃ i, (Tryz.prog).info? 3 = some i ∧ i.zero = some (.int .i64 0) ∧ i.size = 1 ∧ i.bytes = 8) := ⟨_, rfl, rfl, rfl, rfl⟩
  have HUN : Hid (Tryz.prog.underlying 30 = some (.slice 3)) := by show _ = _; kernel_rfl
  go_loopw [7, 16] (fun lv i wr => ∃ k : Nat, i = .int .i64 k ∧ k ≤ nb ∧ Hid (wr.ownsRow w1.heap.size 3 1 lv k (ints (List.range k))) ∧ Hid (After w1 wr)) (fun _ i _ => nb - (intOf i).toNat)
  case atStart => exact ⟨0, rfl, Nat.zero_le _, by show World.ownsRow _ _ _ _ _ _ _; exact World.ownsRow_nil _ _ _ _, by show After _ _; exact After.refl _⟩
  case round =>
    obtain ⟨k, rfl, hk, hrow, hA⟩ := hrel
    clear o0 o1 o2
    by_cases hlt : k < nb
    · obtain ⟨al, cl, rfl⟩ := own_slice_len hrow.out
      have hlt' : (k : Int) < (nb : Int) := by omega
      have hnw := After.new wr (.cells #[.int .i64 ((k : Nat) : Int)] 3)
      have HO := Lib.hid (own_later hrow.out hnw)
      have hlit := int_row wr wr.heap.size (Nat.le_refl _) k
      have hnews := Lib.hid (hlit.cells (g := wr.heap.size) rfl)
      obtain ⟨i0, hi0, hz0, hz1, hz2⟩ := HI.out
      have hb5 := (hA.out.trans hnw).size
      have HA5 := Lib.hid (hA.out.trans hnw)
      clear hlit hnw
      go_wp2_with (at_builtin; refine wpList_append_lies _ (by rfl) _ _ 30 (by rfl) w1.heap.size 3 i0 (.int .i64 0) 1 8 HUN.out hi0 hz0 hz1 hz2 rfl (by decide) _ _ _ (by rfl) HO.out ⟨wr.heap.size, 0, none⟩ 1 1 [.int .i64 ((k : Nat) : Int)] (by rfl) (by rfl) hnews.out (by simp [Value.oneCell']) (by omega) (by unfold maxLen; omega) (by omega) hb5 _ rfl ?_; intro g4 q4 w5 ho4 hg4 _ hlt4; have HO4 := Lib.hid ho4; have HG4 := Lib.hid hg4; clear ho4 hg4)
      go_roundw
      case rel =>
        refine ⟨k + 1, by go_num, by omega, ?_, ?_⟩
        · show World.ownsRow _ _ _ _ _ _ _
          rw [ints_range]
          exact HO4.out
        · show After _ _
          exact HA5.out.grown HG4.out HA5.out.size (fun k hk => (HO.out.lt k hk).1)
      case measure => simp [intOf]; omega
    · obtain rfl : k = nb := by omega
      obtain ⟨al0, cl0, rfl⟩ := own_slice_len hrow.out
      go_wp2_with fail
      have HST : Hid (wr.ownsRow w1.heap.size 3 1 (.slice al0 k cl0) (Asm.lefts t (xs.take 0) b).length (ints (Asm.lefts t (xs.take 0) b))) := by
        show World.ownsRow _ _ _ _ _ _ _
        rw [List.take_zero, HS.out, List.length_range]
        exact hrow.out
      have HL0 : Hid (k = (Asm.lefts t (xs.take 0) b).length) := by show _ = _; rw [List.take_zero, HS.out, List.length_range]
      clear hrow
      go_loopw [7, 26] (fun lv i wr => ∃ (j l : Nat), i = .int .i64 j ∧ j ≤ nx ∧ 0 < l ∧ l ≤ k ∧ Hid (l = (Asm.lefts t (xs.take j) b).length) ∧ Hid (wr.ownsRow w1.heap.size 3 1 lv (Asm.lefts t (xs.take j) b).length (ints (Asm.lefts t (xs.take j) b))) ∧ Hid (After w1 wr)) (fun _ i _ => nx - (intOf i).toNat)
      case atStart => exact ⟨0, k, rfl, Nat.zero_le _, by omega, Nat.le_refl _, HL0, HST, hA⟩
      case round =>
        obtain ⟨j, l, rfl, hj, hl0, hlk, hl, hrow, hA⟩ := hrel
        clear HST HL0
        obtain ⟨al, cl, e⟩ := own_slice_len hrow.out
        rw [← hl.out] at e
        subst e
        by_cases hlj : j < nx
        · obtain ⟨ge, cape, T, v, u, e, c1, c2, hrz, htv⟩ := HX.out j hlj
          simp only [Value.slice.injEq] at e
          obtain ⟨rfl, _, rfl⟩ := e
          have hAw := HA0.out.trans hA.out
          replace c1 := hAw.cell c1
          replace c2 := hAw.cell c2
          obtain ⟨f1, _, f3, _⟩ := Asm.rz_facts hrz
          have hzero : ∃ g, al = some ⟨g, 0, none⟩ ∧ w1.heap.size ≤ g ∧ g < wr.heap.size := by
            rcases hrow.out.2 with ⟨_, h0⟩ | ⟨g, cap, cur, e, h1, h2, _⟩
            · have := hl.out; omega
            · simp only [Value.slice.injEq] at e
              exact ⟨g, e.1, h1, (Array.getElem?_eq_some_iff.1 h2).1⟩
          obtain ⟨g, rfl, hg1, hg2⟩ := hzero
          have hnw := After.new wr (.cells #[.iface T v, str (xs.getD j [])] 79)
          have hxb := heap_new' wr (.cells #[.iface T v, str (xs.getD j [])] 79)
          obtain ⟨x0, x1⟩ : (wr.alloc (.cells #[.iface T v, str (xs.getD j [])] 79)).cell? ⟨wr.heap.size, 0, none⟩ = some (.iface T v) ∧ (wr.alloc (.cells #[.iface T v, str (xs.getD j [])] 79)).cell? ⟨wr.heap.size, 1, none⟩ = some (str (xs.getD j [])) := ⟨cell_of_heap (i := 0) hxb, cell_of_heap (i := 1) hxb⟩
          have happ := applyNormal_any _ 0 t u tv (.iface T v) ((HT.out.below hAw).below hnw) (((htv.less (Nat.zero_le _)).below hAw).below hnw) (Nat.zero_le _) (by omega)
          have hgood : (Tm.app t u).good = true := by simp only [Tm.good, hg, (Asm.rz_facts hrz).2.1, Bool.and_self]
          have hno := HNONE.out j hlj
          have hso := HSOME.out j hlj
          rw [f1] at hno hso
          have HNO := Lib.hid hno
          have HSO := Lib.hid hso
          have HNW := Lib.hid (hA.out.trans hnw)
          have HR := Lib.hid (own_later hrow.out hnw)
          have HG1 := Lib.hid hg1
          have HG2 := Lib.hid hg2
          unfold DataPost at happ
          clear f1 f3 hno hso hrz htv hAw hnw hxb hrow hA hg1 hg2
          generalize xs.getD j [] = xj at *
          cases hr : Tm.endOf (.app t u) with
          | none =>
            have HN := Lib.hid (HNO.out hr)
            rw [hr] at happ
            clear HSO HNO hr
            go_wp2_with fail
            refine happ.mono ?_
            rintro e w3 ⟨v3, rfl, hb3, hv3⟩
            clear hv3 happ
            go_wp2_with fail
            go_ret
            exact ⟨_, rfl, HA0.out.trans (HNW.out.trans hb3), by rw [HN.out]; exact World.ownsRow_nil _ _ _ _⟩
          | some m =>
            have HS2 := Lib.hid (HSO.out m hr)
            obtain ⟨m1, m2⟩ := tgt_small hr hgood
            rw [hr] at happ
            clear HSO HNO hr
            go_wp2_with fail
            refine happ.mono ?_
            rintro e w3 ⟨v3, rfl, hb3, hv3⟩
            have htext := textOf_any w3 0 m v3 (hv3 m rfl) m1 m2
            have HA3 := Lib.hid (HNW.out.trans hb3)
            have HR3 := Lib.hid (own_later HR.out hb3)
            have hg3 : g < w3.heap.size := Nat.lt_of_lt_of_le (Nat.lt_of_lt_of_le HG2.out (by simp)) hb3.size
            clear hv3 happ x0 x1 hb3
            go_wp2_with fail
            refine htext.mono ?_
            rintro e w4 ⟨rfl, hb4⟩
            have hn4 := After.new w4 (.cells #[str m.text] 9)
            have hx4 := heap_new' w4 (.cells #[str m.text] 9)
            have HA5 := Lib.hid ((HA3.out.trans hb4).trans hn4)
            have hg4 : g < w4.heap.size := Nat.lt_of_lt_of_le hg3 hb4.size
            have hdel := del_any (w4.alloc (.cells #[str m.text] 9)) w1.heap.size g cl (Asm.lefts t (xs.take j) b) (fun j => !decide (m.text ∈ b.getD j [])) q w4.heap.size (by rw [← hl.out]; omega) (by rw [← hl.out]; exact own_later (own_later (by have := HR3.out; rw [← hl.out] at this; exact this) hb4) hn4)
              (fun W hW i hi => by
                have hWA : After w1 W := HA5.out.grown hW HA5.out.size (fun k hk => by injection hk with hk; subst hk; exact HG1.out)
                have hlt : (Asm.lefts t (xs.take j) b).getD i 0 < b.length := Asm.lefts_lt (t := t) (xs := xs.take j) (by rw [List.getD, List.getElem?_eq_getElem hi]; exact List.getElem_mem hi)
                exact targets1_any W q w4.heap.size 0 (.slice ab k cb) b m.text (HB.out.later (HA0.out.trans hWA)) (cell_of_heap (i := 0) (hWA.heap HBOX.out)) (hW.cell (cell_of_heap (i := 0) hx4) (fun e => by injection e with e; have e' : w4.heap.size = g := e; omega)) _ hlt (HBR.out _ (by rw [HNB.out]; exact hlt)))
            obtain ⟨zs, hzs⟩ : ∃ zs, zs = kept (fun j => !decide (m.text ∈ b.getD j [])) (Asm.lefts t (xs.take j) b) := ⟨_, rfl⟩
            have hzl : zs.length ≤ l := by rw [hzs, hl.out]; exact List.length_filter_le _ _
            rw [← hl.out, ← hzs] at hdel
            have HZS : Hid (Asm.lefts t (xs.take (j + 1)) b = zs) := by show _ = _; rw [HS2.out, hzs]
            obtain ⟨l', hl'⟩ : ∃ l', l' = zs.length := ⟨_, rfl⟩
            rw [← hl'] at hdel hzl
            have HL' := Lib.hid hl'
            clear hzs hl' htext hn4 hx4
            go_wp2_with fail
            refine hdel.mono ?_
            rintro e w6 ⟨rfl, ho6, hg6⟩
            have HA6 : Hid (After w1 w6) := HA5.out.grown hg6 HA5.out.size (fun k hk => by injection hk with hk; subst hk; exact HG1.out)
            have HO6 := Lib.hid ho6
            clear hdel ho6 hg6
            by_cases h0 : l' = 0
            · subst h0
              have HE : Hid (Asm.lefts t xs b = []) := HEMPTY.out (j + 1) (by rw [HZS.out]; exact List.length_eq_zero_iff.1 HL'.out.symm)
              go_wp2_with fail
              go_ret
              exact ⟨_, rfl, HA0.out.trans HA6.out, by rw [HE.out]; exact World.ownsRow_nil _ _ _ _⟩
            · have hl0' : ((l' : Int) == 0) = false := beq_eq_false_iff_ne.2 (by omega)
              go_wp2_with fail
              go_roundw
              case rel =>
                refine ⟨j + 1, l', by go_num, by omega, by omega, by omega, ?_, ?_, HA6⟩
                · show _ = _; rw [HZS.out]; exact HL'.out
                · show World.ownsRow _ _ _ _ _ _ _
                  rw [HZS.out, ← HL'.out]
                  exact HO6.out
              case measure => simp [intOf]; omega
        · obtain rfl : j = nx := by omega
          have hd : ∀ zs, zs = Asm.lefts t xs b → wr.ownsRow w1.heap.size 3 1 (.slice al l cl) zs.length (ints zs) → wr.ownsRow w.heap.size 3 1 (.slice al l cl) (Asm.lefts t xs b).length (ints (Asm.lefts t xs b)) := fun zs e h => e ▸ own_mono h HA0.out.size
          have HD := Lib.hid (hd _ HFULL.out hrow.out)
          clear hd hrow
          go_wp2_with fail
          go_ret
          exact ⟨_, rfl, HA0.out.trans hA.out, HD.out⟩
end Go.Proofs.YtidpkmkhcomcdaaGreat

namespace Go.Proofs.YtidpkmkhcomcdaaGreat
open Go.RowKit

set_option maxHeartbeats 2000000
set_option maxRecDepth 100000

theorem index_nat (w : World) (ao : Option Addr) (cap : Nat) (ns : List Nat) (x : Nat) (hn : ns.length ≤ 1000000) (hc : ∀ j, j < ns.length → ∃ b off, ao = some ⟨b, off, none⟩ ∧ w.cell? ⟨b, off + j, none⟩ = some (.int .i64 ((ns.getD j 0 : Nat) : Int))) :
    Calls Tryz.prog 89 #[.slice ao ns.length cap, .int .i64 ((x : Nat) : Int)] w fun e w' => ∃ r : Int, e = .returned (.int .i64 r) ∧ decide (r ≥ 0) = decide (x ∈ ns) ∧ After w w' := by
  obtain ⟨r, hr⟩ : ∃ r, r = decide (x ∈ ns) := ⟨_, rfl⟩
  rw [← hr]
  have hstart : Hid (r = decide (x ∈ ns.drop 0)) := by show _ = _; rw [hr]; simp
  have hd : ∀ k, k < ns.length → ns.drop k = ns.getD k 0 :: ns.drop (k + 1) := fun k hk => by rw [List.drop_eq_getElem_cons hk, List.getD, List.getElem?_eq_getElem hk]; rfl
  have hz : ns.drop ns.length = [] := List.drop_eq_nil_of_le (Nat.le_refl _)
  obtain ⟨n, hnn⟩ : ∃ n, n = ns.length := ⟨_, rfl⟩
  rw [← hnn] at hc hn hd hz ⊢
  have HC := Lib.hid hc
  have HD := Lib.hid hd
  have HZ := Lib.hid hz
  clear hr hc hd hz hnn
  go_enter Tryz.func89, Tryz.ntmps89
  go_wp2_with fail
  go_loopw [8] (fun i wr => ∃ k : Nat, i = .int .i64 k ∧ k ≤ n ∧ Hid (r = decide (x ∈ ns.drop k)) ∧ After w wr) (fun i _ => n - (intOf i).toNat)
  case atStart => exact ⟨0, rfl, Nat.zero_le _, hstart, After.refl _⟩
  case round =>
    obtain ⟨k, rfl, hk, hr, hA⟩ := hrel
    clear hstart
    by_cases hlt : k < n
    · obtain ⟨b, off, rfl, h1⟩ := HC.out k hlt
      replace h1 := hA.cell h1
      rw [HD.out k hlt] at hr
      generalize ns.getD k 0 = y at h1 hr
      have hlt' : (k : Int) < (n : Int) := by omega
      by_cases he : x = y
      · subst he
        have HS : Hid (r = true) := by show _ = _; rw [hr.out]; simp
        clear hr
        go_wp2_with fail
        go_ret
        exact ⟨k, rfl, by rw [HS.out]; simp, hA⟩
      · have heq : ((x : Int) == (y : Int)) = false := beq_eq_false_iff_ne.2 (by omega)
        have HS : Hid (r = decide (x ∈ ns.drop (k + 1))) := by show _ = _; rw [hr.out]; simp [he]
        clear hr he
        go_wp2_with fail
        go_roundw
        case rel => exact ⟨k + 1, by go_num, by omega, HS, hA⟩
        case measure => simp [intOf]; omega
    · obtain rfl : k = n := by omega
      have HS : Hid (r = false) := by show _ = _; rw [hr.out, HZ.out]; simp
      clear hr
      go_wp2_with fail
      go_ret
      exact ⟨-1, rfl, by rw [HS.out]; rfl, hA⟩

theorem contains_nat (w : World) (base : Nat) (sv : Value) (ns : List Nat) (x : Nat) (hn : ns.length ≤ 1000000) (h : w.ownsRow base 3 1 sv ns.length (ints ns)) :
    Calls Tryz.prog 69 #[sv, .int .i64 ((x : Nat) : Int)] w fun e w' => e = .returned (.bool (decide (x ∈ ns))) ∧ After w w' := by
  obtain ⟨ao, cap, rfl⟩ := own_slice_len h
  have hidx := index_nat w ao cap ns x hn (fun j hj => by
    rcases h.2 with ⟨_, h0⟩ | ⟨g, cp, cur, e, _⟩
    · omega
    · simp only [Value.slice.injEq] at e
      obtain ⟨rfl, _⟩ := e
      refine ⟨g, 0, rfl, ?_⟩
      rw [Nat.zero_add]
      exact (h.cellAt j (by omega)).trans (ints_at hj))
  clear h
  generalize decide (x ∈ ns) = r at *
  generalize ns.length = n at *
  go_enter Tryz.func69, Tryz.ntmps69
  go_wp2_with fail
  refine hidx.mono ?_
  rintro e w1 ⟨i, rfl, hir, hb1⟩
  have HI := Lib.hid hir
  clear hir hidx
  go_wp2_with fail
  go_ret
  exact ⟨by rw [← HI.out]; rfl, hb1⟩

namespace Asm
/-- Element i is led to its image. -/
def trk (t : Tm) (a b : List (List Txt)) (ls : List Nat) (i : Nat) : Bool := decide (ls.getD i 0 ∈ lefts t (a.getD i []) b)
def trks (t : Tm) (a b : List (List Txt)) (ls : List Nat) (i : Nat) : Bool := (List.range i).all (trk t a b ls)
theorem trks_succ (t : Tm) (a b : List (List Txt)) (ls : List Nat) (i : Nat) : trks t a b ls (i + 1) = (trks t a b ls i && trk t a b ls i) := by simp [trks, List.range_succ]
theorem trks_no {t : Tm} {a b : List (List Txt)} {ls : List Nat} {k n : Nat} (h : trk t a b ls k = false) (hk : k < n) : trks t a b ls n = false := by
  rw [trks, List.all_eq_false]
  exact ⟨k, List.mem_range.2 hk, by rw [h]; decide⟩
end Asm

theorem trackedBy_any (w : World) (s1 s2 s3 tv : Value) (a b : List (List (List UInt8))) (ls : List Nat) (t : Tm) (h1 : RowA w 0 s1 a) (h2 : RowA w 0 s2 b) (h3 : RowU 0 w s3 ls.length (fun j => .int .i64 ((ls.getD j 0 : Nat) : Int))) (hll : ls.length = a.length) (ht : TV w 0 t tv) (hg : t.good = true) (htz : t.size ≤ 1000000)
    (hal : a.length ≤ 6) (ha4 : ∀ j, j < a.length → (a.getD j []).length ≤ 1000000) (hb1 : 1 ≤ b.length) (hbl : b.length ≤ 6) (hbr : ∀ j, j < b.length → (b.getD j []).length ≤ 1000000000) :
    Calls Tryz.prog 40 #[.agg #[s1, s2, s3], tv] w fun e w' => e = .returned (.bool (Asm.trks t a b ls a.length)) ∧ After w w' := by
  have h1at := fun j hj => h1.at j hj
  have hformA : ∀ {sv : Value} {c : List (List (List UInt8))}, RowA w 0 sv c → ∃ ao cap, sv = .slice ao c.length cap := fun {sv c} h => by
    obtain ⟨cs, ho, _⟩ := h
    rcases ho.2 with ⟨rfl, h0⟩ | ⟨g, cap, cur, rfl, _⟩
    · exact ⟨_, _, by rw [h0]⟩
    · exact ⟨_, _, rfl⟩
  have htg := fun W (hW : After w W) j es (he : RowE W 0 es (a.getD j [])) (hj : j < a.length) => targets_any W s2 tv es b t (a.getD j []) 0 (h2.later hW) (ht.below hW) hg htz he hb1 hbl (ha4 j hj) hbr
  unfold TgtPost at htg
  obtain ⟨p1, k1, rfl⟩ := hformA h1
  obtain ⟨p2, k2, rfl⟩ := hformA h2
  obtain ⟨p3, k3, rfl, h3at⟩ := h3
  rw [hll] at h3at ⊢
  obtain ⟨n, hn⟩ : ∃ n, n = a.length := ⟨_, rfl⟩
  have htk : ∀ j, j < n → Asm.trks t a b ls (j + 1) = (Asm.trks t a b ls j && Asm.trk t a b ls j) := fun j _ => Asm.trks_succ t a b ls j
  have hno : ∀ j, j < n → Asm.trk t a b ls j = false → Asm.trks t a b ls n = false := fun j hj h => Asm.trks_no h hj
  have h0 : Asm.trks t a b ls 0 = true := rfl
  have hleft : ∀ j, (Asm.lefts t (a.getD j []) b).length ≤ 1000000 := fun j => Nat.le_trans (Asm.lefts_len _ _ _) (by omega)
  rw [← hn] at h1at htg hal h3at ⊢
  have hA0 := After.new w (.cells #[.slice p1 n k1, .slice p2 b.length k2, .slice p3 n k3] 64)
  have hbox := heap_new' w (.cells #[.slice p1 n k1, .slice p2 b.length k2, .slice p3 n k3] 64)
  have HAT := Lib.hid h1at
  have HTG := Lib.hid htg
  have H3 := Lib.hid h3at
  have HTK := Lib.hid htk
  have HNO := Lib.hid hno
  have HST := Lib.hid h0
  have HLEFT := Lib.hid hleft
  have HA0 := Lib.hid hA0
  have HBOX := Lib.hid hbox
  have o0 : (w.alloc (.cells #[.slice p1 n k1, .slice p2 b.length k2, .slice p3 n k3] 64)).cell? ⟨w.heap.size, 0, none⟩ = some (.slice p1 n k1) := cell_of_heap (i := 0) hbox
  clear h1 h2 h1at hformA htg htk hno h0 hbox h3at hn ht hA0 hleft ha4 hbr hll
  generalize b.length = m at *
  obtain ⟨res, hres⟩ : ∃ res, res = Asm.trks t a b ls n := ⟨_, rfl⟩
  rw [← hres]
  have HRES := Lib.hid hres
  clear hres
  go_enter Tryz.func40, Tryz.ntmps40
  go_wp2_with fail
  generalize (w.alloc (.cells #[.slice p1 n k1, .slice p2 m k2, .slice p3 n k3] 64)) = w1 at *
  go_loopw [10] (fun i wr => ∃ k : Nat, i = .int .i64 k ∧ k ≤ n ∧ Hid (Asm.trks t a b ls k = true) ∧ Hid (After w1 wr)) (fun i _ => n - (intOf i).toNat)
  case atStart => exact ⟨0, rfl, Nat.zero_le _, HST, by show After _ _; exact After.refl _⟩
  case round =>
    obtain ⟨k, rfl, hk, hpf, hA⟩ := hrel
    clear o0
    by_cases hlt : k < n
    · obtain ⟨g, cap, ev, e, c1, he⟩ := HAT.out k hlt
      simp only [Value.slice.injEq] at e
      obtain ⟨rfl, _, rfl⟩ := e
      obtain ⟨b3, off3, rfl, _, c3⟩ := H3.out k hlt
      have hAw := HA0.out.trans hA.out
      obtain ⟨ae, ce, rfl⟩ := he.form
      have HE := Lib.hid he
      have C1 := hAw.cell c1
      have hlt' : (k : Int) < (n : Int) := by omega
      have x1 : ∀ W, After wr W → W.cell? ⟨w.heap.size, 0, none⟩ = some (.slice (some ⟨g, 0, none⟩) n k1) := fun W hW => cell_of_heap (i := 0) ((hA.out.trans hW).heap HBOX.out)
      have x2 : ∀ W, After wr W → W.cell? ⟨w.heap.size, 1, none⟩ = some (.slice p2 m k2) := fun W hW => cell_of_heap (i := 1) ((hA.out.trans hW).heap HBOX.out)
      have x3 : ∀ W, After wr W → W.cell? ⟨w.heap.size, 2, none⟩ = some (.slice (some ⟨b3, off3, none⟩) n k3) := fun W hW => cell_of_heap (i := 2) ((hA.out.trans hW).heap HBOX.out)
      have x4 : ∀ W, After wr W → W.cell? ⟨b3, off3 + k, none⟩ = some (.int .i64 ((ls.getD k 0 : Nat) : Int)) := fun W hW => (hAw.trans hW).cell c3
      have HAW := Lib.hid hAw
      have hself := After.refl wr
      clear c1 he c3 hAw
      obtain ⟨r, hr⟩ : ∃ r, r = Asm.trk t a b ls k := ⟨_, rfl⟩
      have HRK := Lib.hid hr
      clear hr
      have hbit : Asm.trk t a b ls k = decide (ls.getD k 0 ∈ Asm.lefts t (a.getD k []) b) := rfl
      have HBIT : Hid (r = decide (ls.getD k 0 ∈ Asm.lefts t (a.getD k []) b)) := by show _ = _; rw [HRK.out, hbit]
      clear hbit
      have HLF := Lib.hid (HLEFT.out k)
      generalize ls.getD k 0 = y at *
      go_wp2_with fail
      go_region_held3 (fun W' => After wr W') (first | assumption | exact hself.drew | go_keep)
        (first
          | (go_at_call 70
             have hd := hself.drew
             refine (HTG.out _ (HAW.out.trans (by first | assumption | exact hself.drew)) k _ (HE.out.later (HAW.out.trans (by first | assumption | exact hself.drew)) |>.less (Nat.zero_le _)) hlt).mono ?_
             rintro e w2 ⟨v2, rfl, hb2, ho2⟩
             have hb2' := After.trans (by first | assumption | exact hself.drew) hb2
             have HO2 := Lib.hid ho2
             clear ho2 hd)
          | (go_at_call 69
             refine (contains_nat _ _ _ _ y HLF.out (own_later HO2.out (by first | exact After.refl _ | assumption))).mono ?_
             rintro e w3 ⟨rfl, hb3⟩
             rw [← HBIT.out]
             have hb3' := After.trans hb2' hb3))
      all_goals
        have HA3 := Lib.hid (hA.out.trans hb3')
        have hnx := HTK.out k hlt
        rw [hpf.out, ← HRK.out, Bool.true_and] at hnx
        have hne := HNO.out k hlt
        rw [← HRK.out, ← HRES.out] at hne
        have HNX := Lib.hid hnx
        have HNE := Lib.hid hne
        clear hnx hne hpf x1 x2 x3 x4 hself
        cases r with
        | true =>
          go_wp2_with fail
          go_roundw
          case rel => exact ⟨k + 1, by go_num, by omega, HNX, HA3⟩
          case measure => simp [intOf]; omega
        | false =>
          go_wp2_with fail
          go_ret
          exact ⟨by rw [HNE.out (by trivial)]; rfl, HA0.out.trans HA3.out⟩
    · obtain rfl : k = n := by omega
      have HF : Hid (res = true) := by show _ = _; rw [HRES.out, hpf.out]
      go_wp2_with fail
      go_ret
      exact ⟨by rw [HF.out]; rfl, HA0.out.trans hA.out⟩
end Go.Proofs.YtidpkmkhcomcdaaGreat

namespace Go.Proofs.YtidpkmkhcomcdaaGreat
open Go.RowKit

set_option maxHeartbeats 1000000
set_option maxRecDepth 100000

theorem lt25 {p : Nat → Prop} (h0 : p 0) (h1 : p 1) (h2 : p 2) (h3 : p 3) (h4 : p 4) (h5 : p 5) (h6 : p 6) (h7 : p 7) (h8 : p 8) (h9 : p 9) (h10 : p 10) (h11 : p 11) (h12 : p 12) (h13 : p 13) (h14 : p 14) (h15 : p 15) (h16 : p 16) (h17 : p 17) (h18 : p 18) (h19 : p 19) (h20 : p 20) (h21 : p 21) (h22 : p 22) (h23 : p 23) (h24 : p 24) : ∀ i, i < 25 → p i := fun i hi => by
  rcases Nat.lt_succ_iff_lt_or_eq.1 hi with h | h
  · exact lt24 h0 h1 h2 h3 h4 h5 h6 h7 h8 h9 h10 h11 h12 h13 h14 h15 h16 h17 h18 h19 h20 h21 h22 h23 i h
  · subst h; exact h24
theorem lt26 {p : Nat → Prop} (h0 : p 0) (h1 : p 1) (h2 : p 2) (h3 : p 3) (h4 : p 4) (h5 : p 5) (h6 : p 6) (h7 : p 7) (h8 : p 8) (h9 : p 9) (h10 : p 10) (h11 : p 11) (h12 : p 12) (h13 : p 13) (h14 : p 14) (h15 : p 15) (h16 : p 16) (h17 : p 17) (h18 : p 18) (h19 : p 19) (h20 : p 20) (h21 : p 21) (h22 : p 22) (h23 : p 23) (h24 : p 24) (h25 : p 25) : ∀ i, i < 26 → p i := fun i hi => by
  rcases Nat.lt_succ_iff_lt_or_eq.1 hi with h | h
  · exact lt25 h0 h1 h2 h3 h4 h5 h6 h7 h8 h9 h10 h11 h12 h13 h14 h15 h16 h17 h18 h19 h20 h21 h22 h23 h24 i h
  · subst h; exact h25
theorem lt27 {p : Nat → Prop} (h0 : p 0) (h1 : p 1) (h2 : p 2) (h3 : p 3) (h4 : p 4) (h5 : p 5) (h6 : p 6) (h7 : p 7) (h8 : p 8) (h9 : p 9) (h10 : p 10) (h11 : p 11) (h12 : p 12) (h13 : p 13) (h14 : p 14) (h15 : p 15) (h16 : p 16) (h17 : p 17) (h18 : p 18) (h19 : p 19) (h20 : p 20) (h21 : p 21) (h22 : p 22) (h23 : p 23) (h24 : p 24) (h25 : p 25) (h26 : p 26) : ∀ i, i < 27 → p i := fun i hi => by
  rcases Nat.lt_succ_iff_lt_or_eq.1 hi with h | h
  · exact lt26 h0 h1 h2 h3 h4 h5 h6 h7 h8 h9 h10 h11 h12 h13 h14 h15 h16 h17 h18 h19 h20 h21 h22 h23 h24 h25 i h
  · subst h; exact h26
theorem lt28 {p : Nat → Prop} (h0 : p 0) (h1 : p 1) (h2 : p 2) (h3 : p 3) (h4 : p 4) (h5 : p 5) (h6 : p 6) (h7 : p 7) (h8 : p 8) (h9 : p 9) (h10 : p 10) (h11 : p 11) (h12 : p 12) (h13 : p 13) (h14 : p 14) (h15 : p 15) (h16 : p 16) (h17 : p 17) (h18 : p 18) (h19 : p 19) (h20 : p 20) (h21 : p 21) (h22 : p 22) (h23 : p 23) (h24 : p 24) (h25 : p 25) (h26 : p 26) (h27 : p 27) : ∀ i, i < 28 → p i := fun i hi => by
  rcases Nat.lt_succ_iff_lt_or_eq.1 hi with h | h
  · exact lt27 h0 h1 h2 h3 h4 h5 h6 h7 h8 h9 h10 h11 h12 h13 h14 h15 h16 h17 h18 h19 h20 h21 h22 h23 h24 h25 h26 i h
  · subst h; exact h27
theorem lt29 {p : Nat → Prop} (h0 : p 0) (h1 : p 1) (h2 : p 2) (h3 : p 3) (h4 : p 4) (h5 : p 5) (h6 : p 6) (h7 : p 7) (h8 : p 8) (h9 : p 9) (h10 : p 10) (h11 : p 11) (h12 : p 12) (h13 : p 13) (h14 : p 14) (h15 : p 15) (h16 : p 16) (h17 : p 17) (h18 : p 18) (h19 : p 19) (h20 : p 20) (h21 : p 21) (h22 : p 22) (h23 : p 23) (h24 : p 24) (h25 : p 25) (h26 : p 26) (h27 : p 27) (h28 : p 28) : ∀ i, i < 29 → p i := fun i hi => by
  rcases Nat.lt_succ_iff_lt_or_eq.1 hi with h | h
  · exact lt28 h0 h1 h2 h3 h4 h5 h6 h7 h8 h9 h10 h11 h12 h13 h14 h15 h16 h17 h18 h19 h20 h21 h22 h23 h24 h25 h26 h27 i h
  · subst h; exact h28
theorem lt30 {p : Nat → Prop} (h0 : p 0) (h1 : p 1) (h2 : p 2) (h3 : p 3) (h4 : p 4) (h5 : p 5) (h6 : p 6) (h7 : p 7) (h8 : p 8) (h9 : p 9) (h10 : p 10) (h11 : p 11) (h12 : p 12) (h13 : p 13) (h14 : p 14) (h15 : p 15) (h16 : p 16) (h17 : p 17) (h18 : p 18) (h19 : p 19) (h20 : p 20) (h21 : p 21) (h22 : p 22) (h23 : p 23) (h24 : p 24) (h25 : p 25) (h26 : p 26) (h27 : p 27) (h28 : p 28) (h29 : p 29) : ∀ i, i < 30 → p i := fun i hi => by
  rcases Nat.lt_succ_iff_lt_or_eq.1 hi with h | h
  · exact lt29 h0 h1 h2 h3 h4 h5 h6 h7 h8 h9 h10 h11 h12 h13 h14 h15 h16 h17 h18 h19 h20 h21 h22 h23 h24 h25 h26 h27 h28 i h
  · subst h; exact h29
theorem lt31 {p : Nat → Prop} (h0 : p 0) (h1 : p 1) (h2 : p 2) (h3 : p 3) (h4 : p 4) (h5 : p 5) (h6 : p 6) (h7 : p 7) (h8 : p 8) (h9 : p 9) (h10 : p 10) (h11 : p 11) (h12 : p 12) (h13 : p 13) (h14 : p 14) (h15 : p 15) (h16 : p 16) (h17 : p 17) (h18 : p 18) (h19 : p 19) (h20 : p 20) (h21 : p 21) (h22 : p 22) (h23 : p 23) (h24 : p 24) (h25 : p 25) (h26 : p 26) (h27 : p 27) (h28 : p 28) (h29 : p 29) (h30 : p 30) : ∀ i, i < 31 → p i := fun i hi => by
  rcases Nat.lt_succ_iff_lt_or_eq.1 hi with h | h
  · exact lt30 h0 h1 h2 h3 h4 h5 h6 h7 h8 h9 h10 h11 h12 h13 h14 h15 h16 h17 h18 h19 h20 h21 h22 h23 h24 h25 h26 h27 h28 h29 i h
  · subst h; exact h30
theorem lt32 {p : Nat → Prop} (h0 : p 0) (h1 : p 1) (h2 : p 2) (h3 : p 3) (h4 : p 4) (h5 : p 5) (h6 : p 6) (h7 : p 7) (h8 : p 8) (h9 : p 9) (h10 : p 10) (h11 : p 11) (h12 : p 12) (h13 : p 13) (h14 : p 14) (h15 : p 15) (h16 : p 16) (h17 : p 17) (h18 : p 18) (h19 : p 19) (h20 : p 20) (h21 : p 21) (h22 : p 22) (h23 : p 23) (h24 : p 24) (h25 : p 25) (h26 : p 26) (h27 : p 27) (h28 : p 28) (h29 : p 29) (h30 : p 30) (h31 : p 31) : ∀ i, i < 32 → p i := fun i hi => by
  rcases Nat.lt_succ_iff_lt_or_eq.1 hi with h | h
  · exact lt31 h0 h1 h2 h3 h4 h5 h6 h7 h8 h9 h10 h11 h12 h13 h14 h15 h16 h17 h18 h19 h20 h21 h22 h23 h24 h25 h26 h27 h28 h29 h30 i h
  · subst h; exact h31
theorem lt33 {p : Nat → Prop} (h0 : p 0) (h1 : p 1) (h2 : p 2) (h3 : p 3) (h4 : p 4) (h5 : p 5) (h6 : p 6) (h7 : p 7) (h8 : p 8) (h9 : p 9) (h10 : p 10) (h11 : p 11) (h12 : p 12) (h13 : p 13) (h14 : p 14) (h15 : p 15) (h16 : p 16) (h17 : p 17) (h18 : p 18) (h19 : p 19) (h20 : p 20) (h21 : p 21) (h22 : p 22) (h23 : p 23) (h24 : p 24) (h25 : p 25) (h26 : p 26) (h27 : p 27) (h28 : p 28) (h29 : p 29) (h30 : p 30) (h31 : p 31) (h32 : p 32) : ∀ i, i < 33 → p i := fun i hi => by
  rcases Nat.lt_succ_iff_lt_or_eq.1 hi with h | h
  · exact lt32 h0 h1 h2 h3 h4 h5 h6 h7 h8 h9 h10 h11 h12 h13 h14 h15 h16 h17 h18 h19 h20 h21 h22 h23 h24 h25 h26 h27 h28 h29 h30 h31 i h
  · subst h; exact h32
theorem lt34 {p : Nat → Prop} (h0 : p 0) (h1 : p 1) (h2 : p 2) (h3 : p 3) (h4 : p 4) (h5 : p 5) (h6 : p 6) (h7 : p 7) (h8 : p 8) (h9 : p 9) (h10 : p 10) (h11 : p 11) (h12 : p 12) (h13 : p 13) (h14 : p 14) (h15 : p 15) (h16 : p 16) (h17 : p 17) (h18 : p 18) (h19 : p 19) (h20 : p 20) (h21 : p 21) (h22 : p 22) (h23 : p 23) (h24 : p 24) (h25 : p 25) (h26 : p 26) (h27 : p 27) (h28 : p 28) (h29 : p 29) (h30 : p 30) (h31 : p 31) (h32 : p 32) (h33 : p 33) : ∀ i, i < 34 → p i := fun i hi => by
  rcases Nat.lt_succ_iff_lt_or_eq.1 hi with h | h
  · exact lt33 h0 h1 h2 h3 h4 h5 h6 h7 h8 h9 h10 h11 h12 h13 h14 h15 h16 h17 h18 h19 h20 h21 h22 h23 h24 h25 h26 h27 h28 h29 h30 h31 h32 i h
  · subst h; exact h33
theorem lt35 {p : Nat → Prop} (h0 : p 0) (h1 : p 1) (h2 : p 2) (h3 : p 3) (h4 : p 4) (h5 : p 5) (h6 : p 6) (h7 : p 7) (h8 : p 8) (h9 : p 9) (h10 : p 10) (h11 : p 11) (h12 : p 12) (h13 : p 13) (h14 : p 14) (h15 : p 15) (h16 : p 16) (h17 : p 17) (h18 : p 18) (h19 : p 19) (h20 : p 20) (h21 : p 21) (h22 : p 22) (h23 : p 23) (h24 : p 24) (h25 : p 25) (h26 : p 26) (h27 : p 27) (h28 : p 28) (h29 : p 29) (h30 : p 30) (h31 : p 31) (h32 : p 32) (h33 : p 33) (h34 : p 34) : ∀ i, i < 35 → p i := fun i hi => by
  rcases Nat.lt_succ_iff_lt_or_eq.1 hi with h | h
  · exact lt34 h0 h1 h2 h3 h4 h5 h6 h7 h8 h9 h10 h11 h12 h13 h14 h15 h16 h17 h18 h19 h20 h21 h22 h23 h24 h25 h26 h27 h28 h29 h30 h31 h32 h33 i h
  · subst h; exact h34
theorem lt36 {p : Nat → Prop} (h0 : p 0) (h1 : p 1) (h2 : p 2) (h3 : p 3) (h4 : p 4) (h5 : p 5) (h6 : p 6) (h7 : p 7) (h8 : p 8) (h9 : p 9) (h10 : p 10) (h11 : p 11) (h12 : p 12) (h13 : p 13) (h14 : p 14) (h15 : p 15) (h16 : p 16) (h17 : p 17) (h18 : p 18) (h19 : p 19) (h20 : p 20) (h21 : p 21) (h22 : p 22) (h23 : p 23) (h24 : p 24) (h25 : p 25) (h26 : p 26) (h27 : p 27) (h28 : p 28) (h29 : p 29) (h30 : p 30) (h31 : p 31) (h32 : p 32) (h33 : p 33) (h34 : p 34) (h35 : p 35) : ∀ i, i < 36 → p i := fun i hi => by
  rcases Nat.lt_succ_iff_lt_or_eq.1 hi with h | h
  · exact lt35 h0 h1 h2 h3 h4 h5 h6 h7 h8 h9 h10 h11 h12 h13 h14 h15 h16 h17 h18 h19 h20 h21 h22 h23 h24 h25 h26 h27 h28 h29 h30 h31 h32 h33 h34 i h
  · subst h; exact h35
theorem lt37 {p : Nat → Prop} (h0 : p 0) (h1 : p 1) (h2 : p 2) (h3 : p 3) (h4 : p 4) (h5 : p 5) (h6 : p 6) (h7 : p 7) (h8 : p 8) (h9 : p 9) (h10 : p 10) (h11 : p 11) (h12 : p 12) (h13 : p 13) (h14 : p 14) (h15 : p 15) (h16 : p 16) (h17 : p 17) (h18 : p 18) (h19 : p 19) (h20 : p 20) (h21 : p 21) (h22 : p 22) (h23 : p 23) (h24 : p 24) (h25 : p 25) (h26 : p 26) (h27 : p 27) (h28 : p 28) (h29 : p 29) (h30 : p 30) (h31 : p 31) (h32 : p 32) (h33 : p 33) (h34 : p 34) (h35 : p 35) (h36 : p 36) : ∀ i, i < 37 → p i := fun i hi => by
  rcases Nat.lt_succ_iff_lt_or_eq.1 hi with h | h
  · exact lt36 h0 h1 h2 h3 h4 h5 h6 h7 h8 h9 h10 h11 h12 h13 h14 h15 h16 h17 h18 h19 h20 h21 h22 h23 h24 h25 h26 h27 h28 h29 h30 h31 h32 h33 h34 h35 i h
  · subst h; exact h36
theorem lt38 {p : Nat → Prop} (h0 : p 0) (h1 : p 1) (h2 : p 2) (h3 : p 3) (h4 : p 4) (h5 : p 5) (h6 : p 6) (h7 : p 7) (h8 : p 8) (h9 : p 9) (h10 : p 10) (h11 : p 11) (h12 : p 12) (h13 : p 13) (h14 : p 14) (h15 : p 15) (h16 : p 16) (h17 : p 17) (h18 : p 18) (h19 : p 19) (h20 : p 20) (h21 : p 21) (h22 : p 22) (h23 : p 23) (h24 : p 24) (h25 : p 25) (h26 : p 26) (h27 : p 27) (h28 : p 28) (h29 : p 29) (h30 : p 30) (h31 : p 31) (h32 : p 32) (h33 : p 33) (h34 : p 34) (h35 : p 35) (h36 : p 36) (h37 : p 37) : ∀ i, i < 38 → p i := fun i hi => by
  rcases Nat.lt_succ_iff_lt_or_eq.1 hi with h | h
  · exact lt37 h0 h1 h2 h3 h4 h5 h6 h7 h8 h9 h10 h11 h12 h13 h14 h15 h16 h17 h18 h19 h20 h21 h22 h23 h24 h25 h26 h27 h28 h29 h30 h31 h32 h33 h34 h35 h36 i h
  · subst h; exact h37
theorem lt39 {p : Nat → Prop} (h0 : p 0) (h1 : p 1) (h2 : p 2) (h3 : p 3) (h4 : p 4) (h5 : p 5) (h6 : p 6) (h7 : p 7) (h8 : p 8) (h9 : p 9) (h10 : p 10) (h11 : p 11) (h12 : p 12) (h13 : p 13) (h14 : p 14) (h15 : p 15) (h16 : p 16) (h17 : p 17) (h18 : p 18) (h19 : p 19) (h20 : p 20) (h21 : p 21) (h22 : p 22) (h23 : p 23) (h24 : p 24) (h25 : p 25) (h26 : p 26) (h27 : p 27) (h28 : p 28) (h29 : p 29) (h30 : p 30) (h31 : p 31) (h32 : p 32) (h33 : p 33) (h34 : p 34) (h35 : p 35) (h36 : p 36) (h37 : p 37) (h38 : p 38) : ∀ i, i < 39 → p i := fun i hi => by
  rcases Nat.lt_succ_iff_lt_or_eq.1 hi with h | h
  · exact lt38 h0 h1 h2 h3 h4 h5 h6 h7 h8 h9 h10 h11 h12 h13 h14 h15 h16 h17 h18 h19 h20 h21 h22 h23 h24 h25 h26 h27 h28 h29 h30 h31 h32 h33 h34 h35 h36 h37 i h
  · subst h; exact h38
theorem lt40 {p : Nat → Prop} (h0 : p 0) (h1 : p 1) (h2 : p 2) (h3 : p 3) (h4 : p 4) (h5 : p 5) (h6 : p 6) (h7 : p 7) (h8 : p 8) (h9 : p 9) (h10 : p 10) (h11 : p 11) (h12 : p 12) (h13 : p 13) (h14 : p 14) (h15 : p 15) (h16 : p 16) (h17 : p 17) (h18 : p 18) (h19 : p 19) (h20 : p 20) (h21 : p 21) (h22 : p 22) (h23 : p 23) (h24 : p 24) (h25 : p 25) (h26 : p 26) (h27 : p 27) (h28 : p 28) (h29 : p 29) (h30 : p 30) (h31 : p 31) (h32 : p 32) (h33 : p 33) (h34 : p 34) (h35 : p 35) (h36 : p 36) (h37 : p 37) (h38 : p 38) (h39 : p 39) : ∀ i, i < 40 → p i := fun i hi => by
  rcases Nat.lt_succ_iff_lt_or_eq.1 hi with h | h
  · exact lt39 h0 h1 h2 h3 h4 h5 h6 h7 h8 h9 h10 h11 h12 h13 h14 h15 h16 h17 h18 h19 h20 h21 h22 h23 h24 h25 h26 h27 h28 h29 h30 h31 h32 h33 h34 h35 h36 h37 h38 i h
  · subst h; exact h39

theorem frame_all {a : Act} {ops : Array Oper} {vs : Nat → Value} (s n : Nat) (h : regFrom ops s n = true) (hs : ops.size = n) : frame a ops vs = putFrom a s vs n := by
  unfold frame
  rw [hs, putFrom_eq h n (Nat.le_refl n)]

section
variable {ops : Array Oper} {Q : Exit → Act → World → Prop} {A : Act} {i : Nat} {w : World} {K : Act → World → Prop}

theorem wanted_on {j : Nat} {u : Value} {b : Bool} (hg : (opAt ops i).guard = some (j, b)) (hj : ((ops[j]?).bind (·.dst)).bind (A.tmps[·]?) = some u) (hu : u = .bool b) : Region.wanted (opAt ops i) (yielded ops A.tmps) = true := by
  unfold Region.wanted; rw [hg]; simp [yielded_at hj hu]

/-- A value, whether a guard stands before it or not. -/
theorem do_r {v : Value} (y : Yd) (hs : (ops[i]?).isSome = true) (hw : Region.wanted (opAt ops i) (yielded ops A.tmps) = true) (hr : (execOp A.eval (opAt ops i)).run Tryz.prog w = .ok (.value v) w) (hy : y.holds v w)
    (hK : ∀ v w', After w w' → y.holds v w' → K (A.put (dstOf ops i) v) w') : OpDo Tryz.prog ops Q A i w K :=
  op_val hs hw hr (hK _ _ (After.refl w) hy)

/-- A call whose answer is known. -/
theorem do_c {f : FuncId} {args : Array Value} {v : Value} (hs : (ops[i]?).isSome = true) (hw : Region.wanted (opAt ops i) (yielded ops A.tmps) = true) (hr : (execOp A.eval (opAt ops i)).run Tryz.prog w = .ok (.enter f args) w) (hc : Calls Tryz.prog f args w fun e w' => e = .returned v ∧ After w w')
    (hK : ∀ v' w', After w w' → (Yd.lit v).holds v' w' → K (A.put (dstOf ops i) v') w') : OpDo Tryz.prog ops Q A i w K := by
  refine op_call hs hw hr (hc.mono ?_)
  rintro e w' ⟨rfl, ha⟩
  exact ⟨_, rfl, hK _ _ ha rfl⟩

theorem run_not {x : Operand} {T : TypeId} {u : Value} {b : Bool} (hop : (opAt ops i).op = .unOp .not T x) (hx : A.eval x = u) (hu : u = .bool b) : (execOp A.eval (opAt ops i)).run Tryz.prog w = .ok (.value (.bool !b)) w := by
  subst hu
  unfold execOp
  simp only [hop, hx]
  cases b <;> kernel_rfl

theorem run_gtr {x : Operand} {T T' : TypeId} {u : Value} {n c : Int} (hop : (opAt ops i).op = .binOp .gtr T x (.const (.int .i64 c)) T') (hx : A.eval x = u) (hu : u = .int .i64 n) : (execOp A.eval (opAt ops i)).run Tryz.prog w = .ok (.value (.bool (decide (n > c)))) w := by
  subst hu
  unfold execOp
  simp only [hop, hx]
  kernel_rfl

theorem run_ixs {x y : Operand} {u u' : Value} {b off n cap k : Nat} (hop : (opAt ops i).op = .indexAddr 40 x y) (hx : A.eval x = u) (hu : u = .slice (some ⟨b, off, none⟩) n cap) (hy : A.eval y = u') (hu' : u' = .int .i64 k) (hk : k < n) :
    (execOp A.eval (opAt ops i)).run Tryz.prog w = .ok (.value (.pointer (some ⟨b, off + k, none⟩))) w := by
  subst hu hu'
  have hk' : (k : Int) < (n : Int) := by omega
  unfold execOp
  simp only [hop, hx, hy]
  simp [go_sem, hk']

theorem run_lds {x : Operand} {u : Value} {p : Addr} {s : List UInt8} (hop : (opAt ops i).op = .load 9 x) (hx : A.eval x = u) (hu : u = .pointer (some p)) (hc : w.cell? p = some (str s)) :
    (execOp A.eval (opAt ops i)).run Tryz.prog w = .ok (.value (str s)) w := by
  subst hu
  unfold execOp
  simp only [hop, hx]
  simp [go_sem, hc]

theorem run_slc {x y : Operand} {u u' : Value} {b off n cap k : Nat} (hop : (opAt ops i).op = .slice 40 x none (some y) none) (hx : A.eval x = u) (hu : u = .slice (some ⟨b, off, none⟩) n cap) (hy : A.eval y = u') (hu' : u' = .int .i64 k) (hk : k ≤ cap) (_hc : cap ≤ 9223372036854775807) :
    (execOp A.eval (opAt ops i)).run Tryz.prog w = .ok (.value (.slice (some ⟨b, off, none⟩) k cap)) w := by
  subst hu hu'
  have hk' : (k : Int) ≤ (cap : Int) := by omega
  unfold execOp
  generalize A.eval = E at *
  simp only [hop]
  simp [go_sem, hx, hy, hk']
end
end Go.Proofs.YtidpkmkhcomcdaaGreat

namespace Go.Proofs.YtidpkmkhcomcdaaGreat
open Go.RowKit

set_option maxHeartbeats 1000000
set_option maxRecDepth 100000

theorem spec_size (w : World) (l : List UInt8) (hl : l.length ≤ 1000000000) :
    Calls Tryz.prog 48 #[str l] w fun e w' => e = .returned (.int .i64 (Tm.pSize l)) ∧ After w w' := by
  have hterm := s_term w l hl
  unfold STermPost at hterm
  unfold Tm.pSize
  cases hp : Tm.parse l with
  | none =>
    rw [hp] at hterm
    go_enter Tryz.func48, Tryz.ntmps48
    go_wp2_with (go_at_call 73; refine hterm.mono ?_; rintro e w1 ⟨s1, ao1, n1, c1, rfl, hb1, ht1⟩; clear ht1)
    go_ret
    exact ⟨rfl, After.alloc hb1 _⟩
  | some t =>
    obtain ⟨hg, hf, hs, _, _⟩ := Tm.parse_facts hp
    rw [hp] at hterm
    clear hp
    go_enter Tryz.func48, Tryz.ntmps48
    go_wp2_with (go_at_call 73; refine hterm.mono ?_; rintro e w1 ⟨s1, ao1, n1, c1, rfl, hb1, ht1⟩; have HT := Lib.hid ((ht1 t rfl).later (After.new w1 (.cells #[str s1, .slice ao1 n1 c1] 53))); clear ht1)
    refine (ST.size HT.out hg (by omega)).mono ?_
    rintro e w2 ⟨rfl, hb2⟩
    go_wp2_with fail
    go_ret
    exact ⟨rfl, (After.alloc hb1 _).trans hb2⟩
end Go.Proofs.YtidpkmkhcomcdaaGreat

namespace Go.Proofs.YtidpkmkhcomcdaaGreat
open Go.RowKit

set_option maxHeartbeats 1000000
set_option maxRecDepth 100000

def SNum (w : World) (r : Option (List UInt8 × Nat)) (e : Ending) (w' : World) : Prop :=
  e = .returned (.tuple #[str ((r.map Prod.fst).getD []), .int .i64 (((r.map Prod.snd).getD 0 : Nat) : Int), .bool r.isSome]) ∧ After w w'

theorem spec_normal (w : World) (l : List UInt8) (hl : l.length ≤ 1000000000) :
    Calls Tryz.prog 47 #[str l] w fun e w' => e = .returned (.bool (Tm.pNormal l)) ∧ After w w' := by
  have hterm := s_term w l hl
  unfold STermPost at hterm
  unfold Tm.pNormal
  cases hp : Tm.parse l with
  | none =>
    rw [hp] at hterm
    go_enter Tryz.func47, Tryz.ntmps47
    go_wp2_with (go_at_call 73; refine hterm.mono ?_; rintro e w1 ⟨s1, ao1, n1, c1, rfl, hb1, ht1⟩; clear ht1)
    go_ret
    exact ⟨rfl, After.alloc hb1 _⟩
  | some t =>
    obtain ⟨hg, hf, hs, _, _⟩ := Tm.parse_facts hp
    rw [hp] at hterm
    clear hp
    have hstep := fun W v (h : ST W t v) => s_step h hg
    unfold SStepPost at hstep
    generalize t.step.getD t = u at hstep
    simp only [show t.step.isNone = !t.step.isSome by cases t.step <;> rfl]
    generalize t.step.isSome = b at hstep ⊢
    go_enter Tryz.func47, Tryz.ntmps47
    go_wp2_with fail
    refine hterm.mono ?_
    rintro e w1 ⟨s1, ao1, n1, c1, rfl, hb1, ht1⟩
    have hcall := hstep _ _ ((ht1 t rfl).later (After.new w1 (.cells #[str s1, .slice ao1 n1 c1] 53)))
    have hw1 := After.alloc hb1 (.cells #[str s1, .slice ao1 n1 c1] 53)
    clear ht1 hterm hstep
    go_wp2_with (go_at_call 75; refine hcall.mono ?_; rintro e w2 ⟨s2, ao2, n2, c2, rfl, hb2, ht2⟩; clear ht2)
    go_ret
    exact ⟨rfl, (hw1.trans hb2).alloc _⟩

theorem spec_norm (w : World) (l : List UInt8) (hl : l.length ≤ 1000000000) :
    Calls Tryz.prog 93 #[str l] w (SNum w (Tm.pNorm l)) := by
  have hterm := s_term w l hl
  unfold STermPost at hterm
  unfold Tm.pNorm
  cases hp : Tm.parse l with
  | none =>
    rw [hp] at hterm
    go_enter Tryz.func93, Tryz.ntmps93
    go_wp2_with (go_at_call 73; refine hterm.mono ?_; rintro e w1 ⟨s1, ao1, n1, c1, rfl, hb1, ht1⟩; clear ht1)
    go_ret3
    exact ⟨rfl, After.alloc hb1 _⟩
  | some t =>
    obtain ⟨hg, hf, hs, _, _⟩ := Tm.parse_facts hp
    rw [hp] at hterm
    clear hp
    obtain ⟨hgm, hfm⟩ := Tm.many_good 6000 t hg hf
    have htm := Tm.text_le _ hgm
    have hsm := fits_size hfm
    have hmany := fun W s ao m c h => s_many W 6000 t s ao m c h hg hf (by omega)
    unfold SManyPost at hmany
    have hne := norm_eq t
    generalize hu : t.many 6000 = mm at *
    obtain ⟨u, i⟩ := mm
    simp only [normal_none] at hmany hgm hfm htm hsm hne
    generalize u.step.isNone = b at hmany hne
    simp only [hne]
    clear hu hne
    cases b
    all_goals
      go_enter Tryz.func93, Tryz.ntmps93
      go_wp2_with fail
      refine hterm.mono ?_
      rintro e w1 ⟨s1, ao1, n1, c1, rfl, hb1, ht1⟩
      have hcall := hmany _ _ _ _ _ ((ht1 t rfl).later (After.new w1 (.cells #[str s1, .slice ao1 n1 c1] 53)))
      have hw1 := After.alloc hb1 (.cells #[str s1, .slice ao1 n1 c1] 53)
      clear ht1 hmany hterm
      go_wp2_with fail
      refine hcall.mono ?_
      rintro e w2 ⟨s2, ao2, n2, c2, rfl, hb2, ht2⟩
      have hw2 := After.alloc (hw1.trans hb2) (.cells #[str s2, .slice ao2 n2 c2] 53)
      have htext := (ht2.later (After.new w2 (.cells #[str s2, .slice ao2 n2 c2] 53))).text hgm (by omega)
      clear ht2 hcall
      go_wp2_with (go_at_call 32; refine htext.mono ?_; rintro e w3 ⟨rfl, hb3⟩)
      go_ret3
      first
        | exact ⟨rfl, hw2.trans hb3⟩
        | exact ⟨rfl, hw2⟩
end Go.Proofs.YtidpkmkhcomcdaaGreat
