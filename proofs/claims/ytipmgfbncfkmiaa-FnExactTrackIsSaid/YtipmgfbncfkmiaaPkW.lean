/-
  What the laws do with a list of numbers of an argument: toIntS, eqIntS.
-/
import Derived.Test.YtipmgfbncfkmiaaPkU
import Derived.BigQuiet
import Derived.OwnWalk
import Derived.Laws.OwnMore
import Derived.Test.YtipmgfbncfkmiaaPkY
import Derived.Test.YtipmgfbncfkmiaaPkA
import Derived.Test.YtipmgfbncfkmiaaTrkA
import Derived.Test.YtipmgfbncfkmiaaPkX
import Derived.Test.YtipmgfbncfkmiaaPkN
import Derived.Test.YtipmgfbncfkmiaaNums
namespace Go.Proofs.Ytipmgfbncfkmiaa
open Go.RowKit

set_option maxHeartbeats 1000000
set_option maxRecDepth 100000

/-- A number as a value. -/
abbrev int64 (x : Int) : Value := .int .i64 x

def fillI (n : Nat) (k : Nat) (ns : List Int) : List Value := (ns.take k).map int64 ++ List.replicate (n - k) (int64 0)

theorem fillI_len (n k : Nat) (ns : List Int) (h : ns.length = n) (hk : k ≤ n) : (fillI n k ns).length = n := by
  simp [fillI, h]; omega

theorem fillI_at (n k : Nat) (ns : List Int) (h : ns.length = n) (hk : k < n) : (fillI n k ns)[k]? = some (int64 0) := by
  have e : ((ns.take k).map int64).length = k := by simp; omega
  rw [fillI, List.getElem?_append_right (by omega), e, Nat.sub_self, List.getElem?_replicate]
  simp; omega

theorem fillI_set (n k : Nat) (ns : List Int) (h : ns.length = n) (hk : k < n) : (fillI n k ns).set k (int64 (ns[k]?.getD 0)) = fillI n (k + 1) ns := by
  have e : ((ns.take k).map int64).length = k := by simp; omega
  rw [fillI, List.set_append_right _ _ (by omega), e, Nat.sub_self, show n - k = (n - (k + 1)) + 1 by omega, List.replicate_succ, List.set_cons_zero, fillI]
  have hk' : k < ns.length := by omega
  rw [List.take_add_one, List.getElem?_eq_getElem hk', List.map_append, List.append_assoc]
  rfl

theorem made_fillI (n : Nat) (ns : List Int) : (madeCells (int64 0).cells (n * 1)).toList = fillI n 0 ns := by
  apply List.ext_getElem?
  intro i
  have e : ∀ x : Nat, (#[int64 0] : Array Value)[x % 1]! = int64 0 := fun x => by rw [Nat.mod_one]; rfl
  have e2 : (int64 0).cells = #[int64 0] := rfl
  have e3 : (#[int64 0] : Array Value).size = 1 := rfl
  simp only [madeCells, fillI, e2, e3, e, Array.toList_map, Array.toList_range, List.take_zero, List.map_nil, List.nil_append, Nat.sub_zero, Nat.mul_one]
  rw [List.getElem?_map, List.getElem?_replicate]
  by_cases h : i < n
  · rw [if_pos h, List.getElem?_eq_getElem (by simpa using h)]; rfl
  · rw [if_neg h, List.getElem?_eq_none (by simpa using h)]; rfl

theorem li_to_some (w : World) (b off cap : Nat) (ns : List Int) (hn : ns.length ≤ 1048576) (hb : b < w.heap.size)
    (hc : ∀ j, j < ns.length → w.cell? ⟨b, off + j, none⟩ = some (int64 (ns[j]?.getD 0))) :
    Calls Try.prog 58 #[.slice (some ⟨b, off, none⟩) ns.length cap] w fun e w' =>
      e = .returned (.slice (some ⟨w.heap.size, 0, none⟩) ns.length ns.length) ∧ w'.ownsRow w.heap.size 3 1 (.slice (some ⟨w.heap.size, 0, none⟩) ns.length ns.length) ns.length (ns.map int64) ∧ w.grownBy w' none := by
  obtain ⟨n, hnn⟩ : ∃ n, n = ns.length := ⟨_, rfl⟩
  rw [← hnn] at hn hc ⊢
  have HN := Lib.hid hnn
  have HC := Lib.hid hc
  clear hnn hc
  have hi : ∃ i, (Try.prog).info? 3 = some i ∧ i.zero = some (int64 0) ∧ i.size = 1 ∧ i.bytes = 8 := ⟨_, rfl, rfl, rfl, rfl⟩
  obtain ⟨i0, hi, hz0, hz1, hz2⟩ := hi
  go_enter Try.func58, Try.ntmps58
  go_wp2_with (at_make; refine wpList_make_full _ rfl _ _ _ rfl w.heap.size 3 i0 (int64 0) 1 rfl hi hz0 hz1 .i64 .i64 _ _ n rfl rfl rfl rfl (by rw [hz2]; omega) (by unfold maxLen; omega) (Nat.le_refl _) ?_; intro w1 ho hg)
  rw [made_fillI n ns] at ho
  have hstart : Hid (w1.ownsRow w.heap.size 3 1 (.slice (some ⟨w.heap.size, 0, none⟩) n n) n (fillI n 0 ns)) := ho
  obtain ⟨g, hgg⟩ : ∃ g, g = w.heap.size := ⟨_, rfl⟩
  rw [← hgg] at hstart hb
  have HG := Lib.hid hgg
  simp only [← hgg]
  clear ho hgg
  go_loopw [4] (fun i wr => ∃ k : Nat, i = .int .i64 k ∧ k ≤ n ∧ Hid (wr.ownsRow g 3 1 (.slice (some ⟨g, 0, none⟩) n n) n (fillI n k ns)) ∧ w.grownBy wr none) (fun i _ => n - (intOf i).toNat)
  case atStart => exact ⟨0, rfl, Nat.zero_le _, hstart, hg⟩
  case round =>
    obtain ⟨k, rfl, hk, hrow, hgr⟩ := hrel
    clear hstart hg
    by_cases hlt : k < n
    · have h1 : _ = some (int64 (ns[k]?.getD 0)) := After.cell (⟨hgr.os, hgr.tape, hgr.output, hgr.size, fun q hq => hgr.block q hq (by simp)⟩ : After w wr) (HC.out k hlt)
      have h2 := (hrow.out.cellAt k (by omega)).trans (fillI_at n k ns HN.out.symm hlt)
      have h3 := hrow.out.frozenAt k
      have hlt' : (k : Int) < (n : Int) := by omega
      obtain ⟨z, hz⟩ : ∃ z, z = ns[k]?.getD 0 := ⟨_, rfl⟩
      rw [← hz] at h1
      have HZ := Lib.hid hz
      clear hz
      have hbg : b ≠ g := by omega
      go_wp2_with fail
      go_roundw
      case rel =>
        refine ⟨k + 1, by go_num, by omega, ?_, ?_⟩
        · have h := (hrow.out.stored k (int64 z)).1
          rw [HZ.out, fillI_set n k ns HN.out.symm hlt, ← HZ.out] at h
          exact h
        · refine ⟨hgr.os, hgr.tape, hgr.output, by have h1 := hgr.size; simp [World.setCell]; omega, fun b' hb' hne => ?_⟩
          rw [Below.heap_setCell _ _ _ _ (fun e => absurd ((show b' = g from e).trans HG.out) (Nat.ne_of_lt hb'))]
          exact hgr.block b' hb' hne
      case measure => simp [intOf]; omega
    · obtain rfl : k = n := by omega
      have HR := Lib.hid hrow.out
      clear hrow
      go_wp2_with fail
      go_ret
      have h := HR.out
      rw [← HG.out]
      refine ⟨rfl, ?_, hgr⟩
      rw [fillI, Nat.sub_self, List.replicate_zero, List.append_nil, List.take_of_length_le (by rw [← HN.out]; exact Nat.le_refl _)] at h
      exact h

theorem li_to_none (w : World) (ao : Option Addr) (cap : Nat) :
    Calls Try.prog 58 #[.slice ao 0 cap] w fun e w' =>
      e = .returned (.slice (some ⟨w.heap.size, 0, none⟩) 0 0) ∧ w.grownBy w' none ∧ w.heap.size < w'.heap.size := by
  have hi : ∃ i, (Try.prog).info? 3 = some i ∧ i.zero = some (int64 0) ∧ i.size = 1 ∧ i.bytes = 8 := ⟨_, rfl, rfl, rfl, rfl⟩
  obtain ⟨i0, hi, hz0, hz1, hz2⟩ := hi
  go_enter Try.func58, Try.ntmps58
  go_wp2_with (at_make; refine wpList_make_full _ rfl _ _ _ rfl w.heap.size 3 i0 (int64 0) 1 rfl hi hz0 hz1 .i64 .i64 _ _ 0 rfl rfl rfl rfl (by rw [hz2]; omega) (by unfold maxLen; omega) (Nat.le_refl _) ?_; intro w1 ho hg)
  have hsz : w.heap.size < w1.heap.size := by
    rcases ho.2 with ⟨h, _⟩ | ⟨g, cp, cur, h, _, hh, _⟩
    · cases h
    · cases h
      exact (Array.getElem?_eq_some_iff.1 hh).1
  clear ho
  go_loop [4] (fun i => i = .int .i64 0) (fun _ => 0)
  case atStart => rfl
  case round =>
    obtain rfl := hrel
    go_wp2_with fail
    go_ret
    exact ⟨rfl, hg, hsz⟩


theorem li_eqv (w : World) (x y xo yo xc yc n : Nat) (Z : Nat → Int) (hn : n ≤ 1000000000)
    (hx : ∀ j, j < n → w.cell? ⟨x, xo + j, none⟩ = some (.int .i64 (Z j))) (hy : ∀ j, j < n → w.cell? ⟨y, yo + j, none⟩ = some (.int .i64 (Z j))) :
    Calls Try.prog 61 #[.slice (some ⟨x, xo, none⟩) n xc, .slice (some ⟨y, yo, none⟩) n yc] w fun e w' => e = .returned (.bool true) ∧ After w w' := by
  have HA := Lib.hid hx
  have HB := Lib.hid hy
  clear hx hy
  go_enter Try.func61, Try.ntmps61
  go_wp2_with fail
  go_loopw [5] (fun i wr => ∃ k : Nat, i = .int .i64 k ∧ k ≤ n ∧ After w wr) (fun i _ => n - (intOf i).toNat)
  case atStart => exact ⟨0, rfl, Nat.zero_le _, After.refl _⟩
  case round =>
    obtain ⟨k, rfl, hk, hA⟩ := hrel
    by_cases hlt : k < n
    · have h1 := hA.cell (HA.out k hlt)
      have h2 := hA.cell (HB.out k hlt)
      generalize Z k = z at h1 h2
      have hlt' : (k : Int) < (n : Int) := by omega
      go_wp2_with fail
      go_quiet (fail)
      go_wp2_with fail
      go_roundw
      case rel => exact ⟨k + 1, by go_num, by omega, ⟨hA.os, hA.tape, hA.output, hA.size, hA.block⟩⟩
      case measure => simp [intOf]; omega
    · go_wp2_with fail
      go_ret
      exact ⟨rfl, hA⟩

/-- A list of numbers in memory. -/
def IntsZ (w : World) (sv : Value) (zs : List Int) : Prop :=
  (zs = [] ∧ ∃ ao cap, sv = .slice ao 0 cap) ∨ ∃ b o cap, sv = .slice (some ⟨b, o, none⟩) zs.length cap ∧ zs.length ≤ cap ∧ ∀ j, j < zs.length → w.cell? ⟨b, o + j, none⟩ = some (.int .i64 (zs[j]?.getD 0))

theorem IntsZ.form {w : World} {sv : Value} {zs : List Int} (h : IntsZ w sv zs) : ∃ ao cap, sv = .slice ao zs.length cap := by
  rcases h with ⟨rfl, ao, cap, rfl⟩ | ⟨b, o, cap, rfl, _⟩
  · exact ⟨_, _, rfl⟩
  · exact ⟨_, _, rfl⟩
theorem IntsZ.after {w W : World} {sv : Value} {zs : List Int} (h : IntsZ w sv zs) (ha : After w W) : IntsZ W sv zs := by
  rcases h with h | ⟨b, o, cap, hv, hl, hc⟩
  · exact Or.inl h
  · exact Or.inr ⟨b, o, cap, hv, hl, fun j hj => ha.cell (hc j hj)⟩

/-- The slice value of a copy holds these numbers. -/
def HoldI (W : World) (g n : Nat) (ns : List Int) : Prop := g < W.heap.size ∧ ∀ j, j < n → W.cell? ⟨g, 0 + j, none⟩ = some (.int .i64 (ns[j]?.getD 0))

theorem HoldI.later {w W : World} {g n : Nat} {ns : List Int} (h : HoldI w g n ns) (hA : After w W) : HoldI W g n ns :=
  ⟨Nat.lt_of_lt_of_le h.1 hA.size, fun j hj => hA.cell (h.2 j hj)⟩
theorem HoldI.ints {w : World} {g : Nat} {ns : List Int} (h : HoldI w g ns.length ns) : IntsZ w (.slice (some ⟨g, 0, none⟩) ns.length ns.length) ns :=
  Or.inr ⟨g, 0, _, rfl, Nat.le_refl _, h.2⟩

theorem After.grewI {w a b : World} {r : Option Nat} (h : After w a) (hg : a.grownBy b r) (hr : ∀ k, r = some k → w.heap.size ≤ k) : After w b := Below.grown h hg h.size hr

/-- The argument, read at every later world. -/
def ArgI (w : World) (sv : Value) (n : Nat) (Z : Nat → Int) : Prop := (∃ ao cap, sv = .slice ao 0 cap ∧ n = 0) ∨ ∃ b off cap, sv = .slice (some ⟨b, off, none⟩) n cap ∧ ∀ j, j < n → w.cell? ⟨b, off + j, none⟩ = some (.int .i64 (Z j))

theorem li_to (w : World) (sv : Value) (n : Nat) (Z : Nat → Int) (ns : List Int) (h : ArgI w sv n Z) (hl : ns.length = n) (hz : ∀ j, j < n → ns[j]?.getD 0 = Z j) (hn : n ≤ 1048576) :
    Calls Try.prog 58 #[sv] w fun e w' => ∃ g, e = .returned (.slice (some ⟨g, 0, none⟩) n n) ∧ HoldI w' g n ns ∧ After w w' := by
  subst hl
  have none_case : ∀ ao cap, ns = [] → sv = .slice ao 0 cap → Calls Try.prog 58 #[sv] w fun e w' => ∃ g, e = .returned (.slice (some ⟨g, 0, none⟩) ns.length ns.length) ∧ HoldI w' g ns.length ns ∧ After w w' := by
    rintro ao cap rfl rfl
    refine (li_to_none w ao cap).mono ?_
    rintro e w' ⟨rfl, hg, hs⟩
    exact ⟨_, rfl, ⟨hs, fun j hj => absurd hj (Nat.not_lt_zero j)⟩, (After.refl w).grewI hg (fun k hk => by cases hk)⟩
  rcases h with ⟨ao, cap, rfl, h0⟩ | ⟨b, off, cap, rfl, hc⟩
  · exact none_case ao cap (List.length_eq_zero_iff.1 h0) rfl
  · by_cases h0 : ns = []
    · exact none_case _ cap h0 (by rw [h0]; rfl)
    · have hpos : 0 < ns.length := List.length_pos_iff.2 h0
      have hc' : ∀ j, j < ns.length → w.cell? ⟨b, off + j, none⟩ = some (int64 (ns[j]?.getD 0)) := fun j hj => by rw [hz j hj]; exact hc j hj
      refine (li_to_some w b off cap ns hn (World.block_lt_of_cell? _ _ (hc 0 hpos)) hc').mono ?_
      rintro e w' ⟨rfl, ho, hg⟩
      refine ⟨_, rfl, ⟨?_, fun j hj => ?_⟩, (After.refl w).grewI hg (fun k hk => by cases hk)⟩
      · exact World.block_lt_of_cell? _ _ ((ho.cellAt 0 (by omega)).trans (by rw [List.getElem?_map, List.getElem?_eq_getElem hpos]; rfl))
      · rw [Nat.zero_add]
        exact (ho.cellAt j (by omega)).trans (by rw [List.getElem?_map, List.getElem?_eq_getElem hj]; rfl)
end Go.Proofs.Ytipmgfbncfkmiaa

namespace Go.Proofs.Ytipmgfbncfkmiaa
open Go.RowKit

set_option maxHeartbeats 2000000
set_option maxRecDepth 100000

namespace Asm
def tmOf (x : Txt) : Tm := (rz x).getD Tm.k
def pr (x y : Txt) : Txt := (Tm.pair (tmOf x) (tmOf y)).text
def prs (xs ys : List Txt) : List Txt := xs.flatMap fun x => ys.map (pr x)

theorem rz_facts {x : Txt} {t : Tm} (h : rz x = some t) : tmOf x = t ∧ t.good = true ∧ t.size ≤ 60 ∧ Tm.closedOf x = some t := by
  have h0 := h
  unfold rz at h
  cases hc : Tm.closedOf x with
  | none => rw [hc] at h; cases h
  | some u =>
    rw [hc] at h
    simp only at h
    split at h
    · rename_i hh
      obtain rfl := Option.some.inj h
      exact ⟨by rw [tmOf, h0]; rfl, (Tm.parse_facts (Tm.closed_facts hc).1).1, hh.2, rfl⟩
    · cases h

theorem pair_fits {t u : Tm} (ht : t.size ≤ 60) (hu : u.size ≤ 60) (hg : t.good = true) (hgu : u.good = true) : (Tm.pair t u).good = true ∧ (Tm.pair t u).size ≤ 200 ∧ (Tm.pair t u).text.length ≤ 100000 := by
  have hgp : (Tm.pair t u).good = true := by rw [Tm.good_pair, hg, hgu]; rfl
  have hz : (Tm.pair t u).size ≤ 200 := by simp only [Tm.pair, Tm.I, Tm.size]; omega
  have htl := Tm.text_le _ hgp
  exact ⟨hgp, hz, by omega⟩
end Asm

theorem RowE.at {w : World} {base : Nat} {sv : Value} {xs : List (List UInt8)} (h : RowE w base sv xs) (j : Nat) (hj : j < xs.length) : ∃ g cap T v t, sv = .slice (some ⟨g, 0, none⟩) xs.length cap ∧
    w.cell? ⟨g, j * 2, none⟩ = some (.iface T v) ∧ w.cell? ⟨g, j * 2 + 1, none⟩ = some (str (xs.getD j [])) ∧ Asm.rz (xs.getD j []) = some t ∧ TV w base t (.iface T v) := by
  obtain ⟨cs, ho, hc⟩ := h
  obtain ⟨T, v, t, h1, h2, h3, h4⟩ := hc j hj
  rcases ho.2 with ⟨rfl, h0⟩ | ⟨g, cap, cur, rfl, _⟩
  · omega
  · exact ⟨g, cap, T, v, t, rfl, (ho.cellAt (j * 2) (by omega)).trans h1, (ho.cellAt (j * 2 + 1) (by omega)).trans h2, h3, h4⟩

theorem prs_row (xs ys : List (List UInt8)) (i j : Nat) (_hi : i < xs.length) (hj : j < ys.length) : Asm.prs (xs.take i) ys ++ (ys.take (j + 1)).map (Asm.pr (xs.getD i [])) = (Asm.prs (xs.take i) ys ++ (ys.take j).map (Asm.pr (xs.getD i []))) ++ [Asm.pr (xs.getD i []) (ys.getD j [])] := by
  rw [List.take_succ_eq_append_getElem hj, List.map_append, List.append_assoc]
  have : ys.getD j [] = ys[j] := by simp [List.getD, hj]
  rw [this]
  rfl
theorem prs_next (xs ys : List (List UInt8)) (i : Nat) (hi : i < xs.length) : Asm.prs (xs.take i) ys ++ (ys.take ys.length).map (Asm.pr (xs.getD i [])) = Asm.prs (xs.take (i + 1)) ys := by
  have : xs.getD i [] = xs[i] := by simp [List.getD, hi]
  rw [List.take_length, List.take_succ_eq_append_getElem hi, this, Asm.prs, Asm.prs, List.flatMap_append]
  simp only [List.flatMap_cons, List.flatMap_nil, List.append_nil]
theorem prs_len (xs ys : List (List UInt8)) : (Asm.prs xs ys).length = xs.length * ys.length := by
  induction xs with
  | nil => simp [Asm.prs]
  | cons x xs ih =>
    have : Asm.prs (x :: xs) ys = ys.map (Asm.pr x) ++ Asm.prs xs ys := rfl
    rw [this, List.length_append, ih, List.length_map, List.length_cons, Nat.succ_mul, Nat.add_comm]

/-- A row of texts that grows. -/
def RowS (w : World) (base : Nat) (sv : Value) (ns : List (List UInt8)) : Prop := w.ownsRow base 9 1 sv ns.length (ns.map str)

end Go.Proofs.Ytipmgfbncfkmiaa

namespace Go.Proofs.Ytipmgfbncfkmiaa
open Go.RowKit

set_option maxHeartbeats 2000000
set_option maxRecDepth 100000

namespace Asm
/-- A term leads a realizer into a row. -/
def hit (t : Tm) (x : Txt) (row : List Txt) : Bool := match Tm.endOf (.app t (tmOf x)) with
  | some m => decide (m.text ∈ row)
  | none => false
def lefts (t : Tm) (xs : List Txt) (b : List (List Txt)) : List Nat := (List.range b.length).filter fun j => xs.all fun x => hit t x (b.getD j [])
theorem lefts_nil (t : Tm) (b : List (List Txt)) : lefts t [] b = List.range b.length := by simp [lefts]
theorem lefts_step (t : Tm) (xs : List Txt) (x : Txt) (b : List (List Txt)) {m : Tm} (h : Tm.endOf (.app t (tmOf x)) = some m) : lefts t (xs ++ [x]) b = kept (fun j => !decide (m.text ∈ b.getD j [])) (lefts t xs b) := by
  rw [lefts, lefts, kept, List.filter_filter]
  apply List.filter_congr
  intro j _
  rw [List.all_append, Bool.and_comm]
  simp [hit, h]
theorem lefts_none (t : Tm) (xs ys : List Txt) (x : Txt) (b : List (List Txt)) (h : Tm.endOf (.app t (tmOf x)) = none) : lefts t (xs ++ x :: ys) b = [] := by
  rw [lefts, List.filter_eq_nil_iff]
  intro j _
  simp [hit, h]
theorem lefts_empty (t : Tm) (xs ys : List Txt) (b : List (List Txt)) (h : lefts t xs b = []) : lefts t (xs ++ ys) b = [] := by
  rw [lefts, List.filter_eq_nil_iff] at h ⊢
  intro j hj
  rw [List.all_append, Bool.and_eq_true]
  exact fun e => h j hj e.1
theorem lefts_lt {t : Tm} {xs : List Txt} {b : List (List Txt)} {j : Nat} (h : j ∈ lefts t xs b) : j < b.length := by
  rw [lefts, List.mem_filter, List.mem_range] at h
  exact h.1
theorem lefts_len (t : Tm) (xs : List Txt) (b : List (List Txt)) : (lefts t xs b).length ≤ b.length := by
  have := List.length_filter_le (fun j => xs.all fun x => hit t x (b.getD j [])) (List.range b.length)
  rw [List.length_range] at this
  exact this
end Asm

theorem tgt_small {t m : Tm} (h : Tm.endOf t = some m) (hg : t.good = true) : m.good = true ∧ m.text.length ≤ 1000000 := by
  obtain ⟨h1, h2⟩ := Tm.endOf_facts h hg
  have htm := Tm.text_le _ h1
  have hsm := fits_size h2
  exact ⟨h1, by omega⟩
theorem int_row (w : World) (C : Nat) (hC : C ≤ w.heap.size) (x : Nat) : (w.alloc (.cells #[.int .i64 ((x : Nat) : Int)] 3)).ownsRow C 3 1 (.slice (some ⟨w.heap.size, 0, none⟩) 1 1) 1 [.int .i64 ((x : Nat) : Int)] :=
  World.ownsRow_lit (base := C) (e := 3) (size := 1) w #[.int .i64 ((x : Nat) : Int)] 1 hC (by decide) (by simp)
theorem ints_range (k : Nat) : ints (List.range (k + 1)) = ints (List.range k) ++ [.int .i64 ((k : Nat) : Int)] := by rw [ints, ints, List.range_succ, List.map_append]; rfl

/-- What targets hands back. -/
def TgtPost (w : World) (t : Tm) (xs : List (List UInt8)) (b : List (List (List UInt8))) (e : Ending) (w' : World) : Prop :=
  ∃ v, e = .returned v ∧ After w w' ∧ w'.ownsRow w.heap.size 3 1 v (Asm.lefts t xs b).length (ints (Asm.lefts t xs b))

theorem targets_any (w : World) (sv tv es : Value) (b : List (List (List UInt8))) (t : Tm) (xs : List (List UInt8)) (base2 : Nat) (hb : RowA w 0 sv b) (ht : TV w 0 t tv) (hg : t.good = true) (htz : t.size ≤ 1000000) (hx : RowE w base2 es xs) (hb1 : 1 ≤ b.length) (hbl : b.length ≤ 6) (hxl : xs.length ≤ 1000000) (hbr : ∀ j, j < b.length → (b.getD j []).length ≤ 1000000000) :
    Calls Try.prog 141 #[sv, tv, es] w (TgtPost w t xs b) := by
  have hxat := fun j hj => hx.at j hj
  obtain ⟨ae, ce, rfl⟩ := hx.form
  obtain ⟨ab, cb, rfl⟩ : ∃ ao cap, sv = .slice ao b.length cap := by
    obtain ⟨cs, ho, _⟩ := hb
    rcases ho.2 with ⟨rfl, h0⟩ | ⟨g, cap, cur, rfl, _⟩
    · exact ⟨_, _, by rw [h0]⟩
    · exact ⟨_, _, rfl⟩
  have hstart := Asm.lefts_nil t b
  obtain ⟨nb, hnb⟩ : ∃ n, n = b.length := ⟨_, rfl⟩
  obtain ⟨nx, hnx⟩ : ∃ n, n = xs.length := ⟨_, rfl⟩
  rw [← hnb] at hstart hbl hb1 hbr ⊢
  rw [← hnx] at hxat hxl ⊢
  have hnone := fun k (hk : k < xs.length) (h : Tm.endOf (.app t (Asm.tmOf (xs.getD k []))) = none) => show Asm.lefts t xs b = [] by
    have e : xs = xs.take k ++ xs.getD k [] :: xs.drop (k + 1) := by
      have e1 : xs.getD k [] = xs[k] := by simp [List.getD, hk]
      rw [e1, List.getElem_cons_drop, List.take_append_drop]
    rw [e]
    exact Asm.lefts_none t _ _ _ b h
  have hsome := fun k (hk : k < xs.length) m (h : Tm.endOf (.app t (Asm.tmOf (xs.getD k []))) = some m) => show Asm.lefts t (xs.take (k + 1)) b = kept (fun j => !decide (m.text ∈ b.getD j [])) (Asm.lefts t (xs.take k) b) by
    have e1 : xs.getD k [] = xs[k] := by simp [List.getD, hk]
    rw [List.take_succ_eq_append_getElem hk, ← e1]
    exact Asm.lefts_step t _ _ b h
  have hempty := fun k (h : Asm.lefts t (xs.take k) b = []) => show Asm.lefts t xs b = [] by
    have := Asm.lefts_empty t (xs.take k) (xs.drop k) b h
    rwa [List.take_append_drop] at this
  have hfull : Asm.lefts t (xs.take xs.length) b = Asm.lefts t xs b := by rw [List.take_length]
  rw [← hnx] at hnone hsome hfull
  have hA0 := After.new w (.cells #[.slice ab nb cb] 115)
  have hbox := heap_new' w (.cells #[.slice ab nb cb] 115)
  obtain ⟨o0, o1, o2⟩ := one_facts hbox (After.refl _)
  have HB : Hid (RowA w 0 (.slice ab nb cb) b) := by show RowA _ _ _ _; rw [hnb]; exact hb
  have HT := Lib.hid ht
  have HX := Lib.hid hxat
  have HBR := Lib.hid hbr
  have HS := Lib.hid hstart
  have HNONE := Lib.hid hnone
  have HSOME := Lib.hid hsome
  have HEMPTY := Lib.hid hempty
  have HFULL := Lib.hid hfull
  have HA0 := Lib.hid hA0
  have HBOX := Lib.hid hbox
  have HNB := Lib.hid hnb
  have HNX := Lib.hid hnx
  clear hnone hsome hempty hfull hb hx hxat hbr hstart hA0 hbox hnb hnx ht
  go_enter Try.func141, Try.ntmps141
  go_wp2_with fail
  obtain ⟨q, hq⟩ : ∃ q, q = w.heap.size := ⟨_, rfl⟩
  obtain ⟨w1, hw1⟩ : ∃ w1, w1 = w.alloc (.cells #[.slice ab nb cb] 115) := ⟨_, rfl⟩
  simp only [← hw1, ← hq] at HA0 HBOX o0 o1 o2 ⊢
  have HQ := Lib.hid hq
  have HW1 := Lib.hid hw1
  clear hq hw1
  have HI : Hid (∃ i, (Try.prog).info? 3 = some i ∧ i.zero = some (.int .i64 0) ∧ i.size = 1 ∧ i.bytes = 8) := ⟨_, rfl, rfl, rfl, rfl⟩
  have HUN : Hid (Try.prog.underlying 55 = some (.slice 3)) := by show _ = _; kernel_rfl
  go_loopw [7, 16] (fun lv i wr => ∃ k : Nat, i = .int .i64 k ∧ k ≤ nb ∧ Hid (wr.ownsRow w1.heap.size 3 1 lv k (ints (List.range k))) ∧ Hid (After w1 wr)) (fun _ i _ => nb - (intOf i).toNat)
  case atStart => exact ⟨0, rfl, Nat.zero_le _, by show World.ownsRow _ _ _ _ _ _ _; exact World.ownsRow_nil _ _ _ _, by show After _ _; exact After.refl _⟩
  case round =>
    obtain ⟨k, rfl, hk, hrow, hA⟩ := hrel
    clear o0 o1 o2
    by_cases hlt : k < nb
    · obtain ⟨al, cl, rfl⟩ := own_slice_len hrow.out
      have hlt' : (k : Int) < (nb : Int) := by omega
      have hnw := After.new wr (.cells #[.int .i64 ((k : Nat) : Int)] 3)
      have HO := Lib.hid (own_later hrow.out hnw)
      have hlit := int_row wr wr.heap.size (Nat.le_refl _) k
      have hnews := Lib.hid (hlit.cells (g := wr.heap.size) rfl)
      obtain ⟨i0, hi0, hz0, hz1, hz2⟩ := HI.out
      have hb5 := (hA.out.trans hnw).size
      have HA5 := Lib.hid (hA.out.trans hnw)
      clear hlit hnw
      go_wp2_with (at_builtin; refine wpList_append_lies _ (by rfl) _ _ 55 (by rfl) w1.heap.size 3 i0 (.int .i64 0) 1 8 HUN.out hi0 hz0 hz1 hz2 rfl (by decide) _ _ _ (by rfl) HO.out ⟨wr.heap.size, 0, none⟩ 1 1 [.int .i64 ((k : Nat) : Int)] (by rfl) (by rfl) hnews.out (by simp [Value.oneCell']) (by omega) (by unfold maxLen; omega) (by omega) hb5 _ rfl ?_; intro g4 q4 w5 ho4 hg4 _ hlt4; have HO4 := Lib.hid ho4; have HG4 := Lib.hid hg4; clear ho4 hg4)
      go_roundw
      case rel =>
        refine ⟨k + 1, by go_num, by omega, ?_, ?_⟩
        · show World.ownsRow _ _ _ _ _ _ _
          rw [ints_range]
          exact HO4.out
        · show After _ _
          exact HA5.out.grown HG4.out HA5.out.size (fun k hk => (HO.out.lt k hk).1)
      case measure => simp [intOf]; omega
    · obtain rfl : k = nb := by omega
      obtain ⟨al0, cl0, rfl⟩ := own_slice_len hrow.out
      go_wp2_with fail
      have HST : Hid (wr.ownsRow w1.heap.size 3 1 (.slice al0 k cl0) (Asm.lefts t (xs.take 0) b).length (ints (Asm.lefts t (xs.take 0) b))) := by
        show World.ownsRow _ _ _ _ _ _ _
        rw [List.take_zero, HS.out, List.length_range]
        exact hrow.out
      have HL0 : Hid (k = (Asm.lefts t (xs.take 0) b).length) := by show _ = _; rw [List.take_zero, HS.out, List.length_range]
      clear hrow
      go_loopw [7, 26] (fun lv i wr => ∃ (j l : Nat), i = .int .i64 j ∧ j ≤ nx ∧ 0 < l ∧ l ≤ k ∧ Hid (l = (Asm.lefts t (xs.take j) b).length) ∧ Hid (wr.ownsRow w1.heap.size 3 1 lv (Asm.lefts t (xs.take j) b).length (ints (Asm.lefts t (xs.take j) b))) ∧ Hid (After w1 wr)) (fun _ i _ => nx - (intOf i).toNat)
      case atStart => exact ⟨0, k, rfl, Nat.zero_le _, by omega, Nat.le_refl _, HL0, HST, hA⟩
      case round =>
        obtain ⟨j, l, rfl, hj, hl0, hlk, hl, hrow, hA⟩ := hrel
        clear HST HL0
        obtain ⟨al, cl, e⟩ := own_slice_len hrow.out
        rw [← hl.out] at e
        subst e
        by_cases hlj : j < nx
        · obtain ⟨ge, cape, T, v, u, e, c1, c2, hrz, htv⟩ := HX.out j hlj
          simp only [Value.slice.injEq] at e
          obtain ⟨rfl, _, rfl⟩ := e
          have hAw := HA0.out.trans hA.out
          replace c1 := hAw.cell c1
          replace c2 := hAw.cell c2
          obtain ⟨f1, _, f3, _⟩ := Asm.rz_facts hrz
          have hzero : ∃ g, al = some ⟨g, 0, none⟩ ∧ w1.heap.size ≤ g ∧ g < wr.heap.size := by
            rcases hrow.out.2 with ⟨_, h0⟩ | ⟨g, cap, cur, e, h1, h2, _⟩
            · have := hl.out; omega
            · simp only [Value.slice.injEq] at e
              exact ⟨g, e.1, h1, (Array.getElem?_eq_some_iff.1 h2).1⟩
          obtain ⟨g, rfl, hg1, hg2⟩ := hzero
          have hnw := After.new wr (.cells #[.iface T v, str (xs.getD j [])] 188)
          have hxb := heap_new' wr (.cells #[.iface T v, str (xs.getD j [])] 188)
          obtain ⟨x0, x1⟩ : (wr.alloc (.cells #[.iface T v, str (xs.getD j [])] 188)).cell? ⟨wr.heap.size, 0, none⟩ = some (.iface T v) ∧ (wr.alloc (.cells #[.iface T v, str (xs.getD j [])] 188)).cell? ⟨wr.heap.size, 1, none⟩ = some (str (xs.getD j [])) := ⟨cell_of_heap (i := 0) hxb, cell_of_heap (i := 1) hxb⟩
          have happ := applyNormal_any _ 0 t u tv (.iface T v) ((HT.out.below hAw).below hnw) (((htv.less (Nat.zero_le _)).below hAw).below hnw) (Nat.zero_le _) (by omega)
          have hgood : (Tm.app t u).good = true := by simp only [Tm.good, hg, (Asm.rz_facts hrz).2.1, Bool.and_self]
          have hno := HNONE.out j hlj
          have hso := HSOME.out j hlj
          rw [f1] at hno hso
          have HNO := Lib.hid hno
          have HSO := Lib.hid hso
          have HNW := Lib.hid (hA.out.trans hnw)
          have HR := Lib.hid (own_later hrow.out hnw)
          have HG1 := Lib.hid hg1
          have HG2 := Lib.hid hg2
          unfold DataPost at happ
          clear f1 f3 hno hso hrz htv hAw hnw hxb hrow hA hg1 hg2
          generalize xs.getD j [] = xj at *
          cases hr : Tm.endOf (.app t u) with
          | none =>
            have HN := Lib.hid (HNO.out hr)
            rw [hr] at happ
            clear HSO HNO hr
            go_wp2_with fail
            refine happ.mono ?_
            rintro e w3 ⟨v3, rfl, hb3, hv3⟩
            clear hv3 happ
            go_wp2_with fail
            go_ret
            exact ⟨_, rfl, HA0.out.trans (HNW.out.trans hb3), by rw [HN.out]; exact World.ownsRow_nil _ _ _ _⟩
          | some m =>
            have HS2 := Lib.hid (HSO.out m hr)
            obtain ⟨m1, m2⟩ := tgt_small hr hgood
            rw [hr] at happ
            clear HSO HNO hr
            go_wp2_with fail
            refine happ.mono ?_
            rintro e w3 ⟨v3, rfl, hb3, hv3⟩
            have htext := textOf_any w3 0 m v3 (hv3 m rfl) m1 m2
            have HA3 := Lib.hid (HNW.out.trans hb3)
            have HR3 := Lib.hid (own_later HR.out hb3)
            have hg3 : g < w3.heap.size := Nat.lt_of_lt_of_le (Nat.lt_of_lt_of_le HG2.out (by simp)) hb3.size
            clear hv3 happ x0 x1 hb3
            go_wp2_with fail
            refine htext.mono ?_
            rintro e w4 ⟨rfl, hb4⟩
            have hn4 := After.new w4 (.cells #[str m.text] 9)
            have hx4 := heap_new' w4 (.cells #[str m.text] 9)
            have HA5 := Lib.hid ((HA3.out.trans hb4).trans hn4)
            have hg4 : g < w4.heap.size := Nat.lt_of_lt_of_le hg3 hb4.size
            have hdel := del_any (w4.alloc (.cells #[str m.text] 9)) w1.heap.size g cl (Asm.lefts t (xs.take j) b) (fun j => !decide (m.text ∈ b.getD j [])) q w4.heap.size (by rw [← hl.out]; omega) (by rw [← hl.out]; exact own_later (own_later (by have := HR3.out; rw [← hl.out] at this; exact this) hb4) hn4)
              (fun W hW i hi => by
                have hWA : After w1 W := HA5.out.grown hW HA5.out.size (fun k hk => by injection hk with hk; subst hk; exact HG1.out)
                have hlt : (Asm.lefts t (xs.take j) b).getD i 0 < b.length := Asm.lefts_lt (t := t) (xs := xs.take j) (by rw [List.getD, List.getElem?_eq_getElem hi]; exact List.getElem_mem hi)
                exact targets1_any W q w4.heap.size 0 (.slice ab k cb) b m.text (HB.out.later (HA0.out.trans hWA)) (cell_of_heap (i := 0) (hWA.heap HBOX.out)) (hW.cell (cell_of_heap (i := 0) hx4) (fun e => by injection e with e; have e' : w4.heap.size = g := e; omega)) _ hlt (HBR.out _ (by rw [HNB.out]; exact hlt)))
            obtain ⟨zs, hzs⟩ : ∃ zs, zs = kept (fun j => !decide (m.text ∈ b.getD j [])) (Asm.lefts t (xs.take j) b) := ⟨_, rfl⟩
            have hzl : zs.length ≤ l := by rw [hzs, hl.out]; exact List.length_filter_le _ _
            rw [← hl.out, ← hzs] at hdel
            have HZS : Hid (Asm.lefts t (xs.take (j + 1)) b = zs) := by show _ = _; rw [HS2.out, hzs]
            obtain ⟨l', hl'⟩ : ∃ l', l' = zs.length := ⟨_, rfl⟩
            rw [← hl'] at hdel hzl
            have HL' := Lib.hid hl'
            clear hzs hl' htext hn4 hx4
            go_wp2_with fail
            refine hdel.mono ?_
            rintro e w6 ⟨rfl, ho6, hg6⟩
            have HA6 : Hid (After w1 w6) := HA5.out.grown hg6 HA5.out.size (fun k hk => by injection hk with hk; subst hk; exact HG1.out)
            have HO6 := Lib.hid ho6
            clear hdel ho6 hg6
            by_cases h0 : l' = 0
            · subst h0
              have HE : Hid (Asm.lefts t xs b = []) := HEMPTY.out (j + 1) (by rw [HZS.out]; exact List.length_eq_zero_iff.1 HL'.out.symm)
              go_wp2_with fail
              go_ret
              exact ⟨_, rfl, HA0.out.trans HA6.out, by rw [HE.out]; exact World.ownsRow_nil _ _ _ _⟩
            · have hl0' : ((l' : Int) == 0) = false := beq_eq_false_iff_ne.2 (by omega)
              go_wp2_with fail
              go_roundw
              case rel =>
                refine ⟨j + 1, l', by go_num, by omega, by omega, by omega, ?_, ?_, HA6⟩
                · show _ = _; rw [HZS.out]; exact HL'.out
                · show World.ownsRow _ _ _ _ _ _ _
                  rw [HZS.out, ← HL'.out]
                  exact HO6.out
              case measure => simp [intOf]; omega
        · obtain rfl : j = nx := by omega
          have hd : ∀ zs, zs = Asm.lefts t xs b → wr.ownsRow w1.heap.size 3 1 (.slice al l cl) zs.length (ints zs) → wr.ownsRow w.heap.size 3 1 (.slice al l cl) (Asm.lefts t xs b).length (ints (Asm.lefts t xs b)) := fun zs e h => e ▸ own_mono h HA0.out.size
          have HD := Lib.hid (hd _ HFULL.out hrow.out)
          clear hd hrow
          go_wp2_with fail
          go_ret
          exact ⟨_, rfl, HA0.out.trans hA.out, HD.out⟩
end Go.Proofs.Ytipmgfbncfkmiaa

namespace Go.Proofs.Ytipmgfbncfkmiaa
open Go.RowKit

set_option maxHeartbeats 2000000
set_option maxRecDepth 100000

theorem index_nat (w : World) (ao : Option Addr) (cap : Nat) (ns : List Nat) (x : Nat) (hn : ns.length ≤ 1000000) (hc : ∀ j, j < ns.length → ∃ b off, ao = some ⟨b, off, none⟩ ∧ w.cell? ⟨b, off + j, none⟩ = some (.int .i64 ((ns.getD j 0 : Nat) : Int))) :
    Calls Try.prog 151 #[.slice ao ns.length cap, .int .i64 ((x : Nat) : Int)] w fun e w' => ∃ r : Int, e = .returned (.int .i64 r) ∧ decide (r ≥ 0) = decide (x ∈ ns) ∧ After w w' := by
  obtain ⟨r, hr⟩ : ∃ r, r = decide (x ∈ ns) := ⟨_, rfl⟩
  rw [← hr]
  have hstart : Hid (r = decide (x ∈ ns.drop 0)) := by show _ = _; rw [hr]; simp
  have hd : ∀ k, k < ns.length → ns.drop k = ns.getD k 0 :: ns.drop (k + 1) := fun k hk => by rw [List.drop_eq_getElem_cons hk, List.getD, List.getElem?_eq_getElem hk]; rfl
  have hz : ns.drop ns.length = [] := List.drop_eq_nil_of_le (Nat.le_refl _)
  obtain ⟨n, hnn⟩ : ∃ n, n = ns.length := ⟨_, rfl⟩
  rw [← hnn] at hc hn hd hz ⊢
  have HC := Lib.hid hc
  have HD := Lib.hid hd
  have HZ := Lib.hid hz
  clear hr hc hd hz hnn
  go_enter Try.func151, Try.ntmps151
  go_wp2_with fail
  go_loopw [8] (fun i wr => ∃ k : Nat, i = .int .i64 k ∧ k ≤ n ∧ Hid (r = decide (x ∈ ns.drop k)) ∧ After w wr) (fun i _ => n - (intOf i).toNat)
  case atStart => exact ⟨0, rfl, Nat.zero_le _, hstart, After.refl _⟩
  case round =>
    obtain ⟨k, rfl, hk, hr, hA⟩ := hrel
    clear hstart
    by_cases hlt : k < n
    · obtain ⟨b, off, rfl, h1⟩ := HC.out k hlt
      replace h1 := hA.cell h1
      rw [HD.out k hlt] at hr
      generalize ns.getD k 0 = y at h1 hr
      have hlt' : (k : Int) < (n : Int) := by omega
      by_cases he : x = y
      · subst he
        have HS : Hid (r = true) := by show _ = _; rw [hr.out]; simp
        clear hr
        go_wp2_with fail
        go_ret
        exact ⟨k, rfl, by rw [HS.out]; simp, hA⟩
      · have heq : ((x : Int) == (y : Int)) = false := beq_eq_false_iff_ne.2 (by omega)
        have HS : Hid (r = decide (x ∈ ns.drop (k + 1))) := by show _ = _; rw [hr.out]; simp [he]
        clear hr he
        go_wp2_with fail
        go_roundw
        case rel => exact ⟨k + 1, by go_num, by omega, HS, hA⟩
        case measure => simp [intOf]; omega
    · obtain rfl : k = n := by omega
      have HS : Hid (r = false) := by show _ = _; rw [hr.out, HZ.out]; simp
      clear hr
      go_wp2_with fail
      go_ret
      exact ⟨-1, rfl, by rw [HS.out]; rfl, hA⟩

theorem contains_nat (w : World) (base : Nat) (sv : Value) (ns : List Nat) (x : Nat) (hn : ns.length ≤ 1000000) (h : w.ownsRow base 3 1 sv ns.length (ints ns)) :
    Calls Try.prog 140 #[sv, .int .i64 ((x : Nat) : Int)] w fun e w' => e = .returned (.bool (decide (x ∈ ns))) ∧ After w w' := by
  obtain ⟨ao, cap, rfl⟩ := own_slice_len h
  have hidx := index_nat w ao cap ns x hn (fun j hj => by
    rcases h.2 with ⟨_, h0⟩ | ⟨g, cp, cur, e, _⟩
    · omega
    · simp only [Value.slice.injEq] at e
      obtain ⟨rfl, _⟩ := e
      refine ⟨g, 0, rfl, ?_⟩
      rw [Nat.zero_add]
      exact (h.cellAt j (by omega)).trans (ints_at hj))
  clear h
  generalize decide (x ∈ ns) = r at *
  generalize ns.length = n at *
  go_enter Try.func140, Try.ntmps140
  go_wp2_with fail
  refine hidx.mono ?_
  rintro e w1 ⟨i, rfl, hir, hb1⟩
  have HI := Lib.hid hir
  clear hir hidx
  go_wp2_with fail
  go_ret
  exact ⟨by rw [← HI.out]; rfl, hb1⟩

namespace Asm
/-- Element i is led to its image. -/
def trk (t : Tm) (a b : List (List Txt)) (ls : List Nat) (i : Nat) : Bool := decide (ls.getD i 0 ∈ lefts t (a.getD i []) b)
def trks (t : Tm) (a b : List (List Txt)) (ls : List Nat) (i : Nat) : Bool := (List.range i).all (trk t a b ls)
theorem trks_succ (t : Tm) (a b : List (List Txt)) (ls : List Nat) (i : Nat) : trks t a b ls (i + 1) = (trks t a b ls i && trk t a b ls i) := by simp [trks, List.range_succ]
theorem trks_no {t : Tm} {a b : List (List Txt)} {ls : List Nat} {k n : Nat} (h : trk t a b ls k = false) (hk : k < n) : trks t a b ls n = false := by
  rw [trks, List.all_eq_false]
  exact ⟨k, List.mem_range.2 hk, by rw [h]; decide⟩
end Asm

theorem trackedBy_any (w : World) (s1 s2 s3 tv : Value) (a b : List (List (List UInt8))) (ls : List Nat) (t : Tm) (h1 : RowA w 0 s1 a) (h2 : RowA w 0 s2 b) (h3 : RowU 0 w s3 ls.length (fun j => .int .i64 ((ls.getD j 0 : Nat) : Int))) (hll : ls.length = a.length) (ht : TV w 0 t tv) (hg : t.good = true) (htz : t.size ≤ 1000000)
    (hal : a.length ≤ 6) (ha4 : ∀ j, j < a.length → (a.getD j []).length ≤ 1000000) (hb1 : 1 ≤ b.length) (hbl : b.length ≤ 6) (hbr : ∀ j, j < b.length → (b.getD j []).length ≤ 1000000000) :
    Calls Try.prog 108 #[.agg #[s1, s2, s3], tv] w fun e w' => e = .returned (.bool (Asm.trks t a b ls a.length)) ∧ After w w' := by
  have h1at := fun j hj => h1.at j hj
  have hformA : ∀ {sv : Value} {c : List (List (List UInt8))}, RowA w 0 sv c → ∃ ao cap, sv = .slice ao c.length cap := fun {sv c} h => by
    obtain ⟨cs, ho, _⟩ := h
    rcases ho.2 with ⟨rfl, h0⟩ | ⟨g, cap, cur, rfl, _⟩
    · exact ⟨_, _, by rw [h0]⟩
    · exact ⟨_, _, rfl⟩
  have htg := fun W (hW : After w W) j es (he : RowE W 0 es (a.getD j [])) (hj : j < a.length) => targets_any W s2 tv es b t (a.getD j []) 0 (h2.later hW) (ht.below hW) hg htz he hb1 hbl (ha4 j hj) hbr
  unfold TgtPost at htg
  obtain ⟨p1, k1, rfl⟩ := hformA h1
  obtain ⟨p2, k2, rfl⟩ := hformA h2
  obtain ⟨p3, k3, rfl, h3at⟩ := h3
  rw [hll] at h3at ⊢
  obtain ⟨n, hn⟩ : ∃ n, n = a.length := ⟨_, rfl⟩
  have htk : ∀ j, j < n → Asm.trks t a b ls (j + 1) = (Asm.trks t a b ls j && Asm.trk t a b ls j) := fun j _ => Asm.trks_succ t a b ls j
  have hno : ∀ j, j < n → Asm.trk t a b ls j = false → Asm.trks t a b ls n = false := fun j hj h => Asm.trks_no h hj
  have h0 : Asm.trks t a b ls 0 = true := rfl
  have hleft : ∀ j, (Asm.lefts t (a.getD j []) b).length ≤ 1000000 := fun j => Nat.le_trans (Asm.lefts_len _ _ _) (by omega)
  rw [← hn] at h1at htg hal h3at ⊢
  have hA0 := After.new w (.cells #[.slice p1 n k1, .slice p2 b.length k2, .slice p3 n k3] 117)
  have hbox := heap_new' w (.cells #[.slice p1 n k1, .slice p2 b.length k2, .slice p3 n k3] 117)
  have HAT := Lib.hid h1at
  have HTG := Lib.hid htg
  have H3 := Lib.hid h3at
  have HTK := Lib.hid htk
  have HNO := Lib.hid hno
  have HST := Lib.hid h0
  have HLEFT := Lib.hid hleft
  have HA0 := Lib.hid hA0
  have HBOX := Lib.hid hbox
  have o0 : (w.alloc (.cells #[.slice p1 n k1, .slice p2 b.length k2, .slice p3 n k3] 117)).cell? ⟨w.heap.size, 0, none⟩ = some (.slice p1 n k1) := cell_of_heap (i := 0) hbox
  clear h1 h2 h1at hformA htg htk hno h0 hbox h3at hn ht hA0 hleft ha4 hbr hll
  generalize b.length = m at *
  obtain ⟨res, hres⟩ : ∃ res, res = Asm.trks t a b ls n := ⟨_, rfl⟩
  rw [← hres]
  have HRES := Lib.hid hres
  clear hres
  go_enter Try.func108, Try.ntmps108
  go_wp2_with fail
  generalize (w.alloc (.cells #[.slice p1 n k1, .slice p2 m k2, .slice p3 n k3] 117)) = w1 at *
  go_loopw [10] (fun i wr => ∃ k : Nat, i = .int .i64 k ∧ k ≤ n ∧ Hid (Asm.trks t a b ls k = true) ∧ Hid (After w1 wr)) (fun i _ => n - (intOf i).toNat)
  case atStart => exact ⟨0, rfl, Nat.zero_le _, HST, by show After _ _; exact After.refl _⟩
  case round =>
    obtain ⟨k, rfl, hk, hpf, hA⟩ := hrel
    clear o0
    by_cases hlt : k < n
    · obtain ⟨g, cap, ev, e, c1, he⟩ := HAT.out k hlt
      simp only [Value.slice.injEq] at e
      obtain ⟨rfl, _, rfl⟩ := e
      obtain ⟨b3, off3, rfl, _, c3⟩ := H3.out k hlt
      have hAw := HA0.out.trans hA.out
      obtain ⟨ae, ce, rfl⟩ := he.form
      have HE := Lib.hid he
      have C1 := hAw.cell c1
      have hlt' : (k : Int) < (n : Int) := by omega
      have x1 : ∀ W, After wr W → W.cell? ⟨w.heap.size, 0, none⟩ = some (.slice (some ⟨g, 0, none⟩) n k1) := fun W hW => cell_of_heap (i := 0) ((hA.out.trans hW).heap HBOX.out)
      have x2 : ∀ W, After wr W → W.cell? ⟨w.heap.size, 1, none⟩ = some (.slice p2 m k2) := fun W hW => cell_of_heap (i := 1) ((hA.out.trans hW).heap HBOX.out)
      have x3 : ∀ W, After wr W → W.cell? ⟨w.heap.size, 2, none⟩ = some (.slice (some ⟨b3, off3, none⟩) n k3) := fun W hW => cell_of_heap (i := 2) ((hA.out.trans hW).heap HBOX.out)
      have x4 : ∀ W, After wr W → W.cell? ⟨b3, off3 + k, none⟩ = some (.int .i64 ((ls.getD k 0 : Nat) : Int)) := fun W hW => (hAw.trans hW).cell c3
      have HAW := Lib.hid hAw
      have hself := After.refl wr
      clear c1 he c3 hAw
      obtain ⟨r, hr⟩ : ∃ r, r = Asm.trk t a b ls k := ⟨_, rfl⟩
      have HRK := Lib.hid hr
      clear hr
      have hbit : Asm.trk t a b ls k = decide (ls.getD k 0 ∈ Asm.lefts t (a.getD k []) b) := rfl
      have HBIT : Hid (r = decide (ls.getD k 0 ∈ Asm.lefts t (a.getD k []) b)) := by show _ = _; rw [HRK.out, hbit]
      clear hbit
      have HLF := Lib.hid (HLEFT.out k)
      generalize ls.getD k 0 = y at *
      go_wp2_with fail
      go_region_held3 (fun W' => After wr W') (first | assumption | exact hself.drew | go_keep)
        (first
          | (go_at_call 141
             have hd := hself.drew
             refine (HTG.out _ (HAW.out.trans (by first | assumption | exact hself.drew)) k _ (HE.out.later (HAW.out.trans (by first | assumption | exact hself.drew)) |>.less (Nat.zero_le _)) hlt).mono ?_
             rintro e w2 ⟨v2, rfl, hb2, ho2⟩
             have hb2' := After.trans (by first | assumption | exact hself.drew) hb2
             have HO2 := Lib.hid ho2
             clear ho2 hd)
          | (go_at_call 140
             refine (contains_nat _ _ _ _ y HLF.out (own_later HO2.out (by first | exact After.refl _ | assumption))).mono ?_
             rintro e w3 ⟨rfl, hb3⟩
             rw [← HBIT.out]
             have hb3' := After.trans hb2' hb3))
      all_goals
        have HA3 := Lib.hid (hA.out.trans hb3')
        have hnx := HTK.out k hlt
        rw [hpf.out, ← HRK.out, Bool.true_and] at hnx
        have hne := HNO.out k hlt
        rw [← HRK.out, ← HRES.out] at hne
        have HNX := Lib.hid hnx
        have HNE := Lib.hid hne
        clear hnx hne hpf x1 x2 x3 x4 hself
        cases r with
        | true =>
          go_wp2_with fail
          go_roundw
          case rel => exact ⟨k + 1, by go_num, by omega, HNX, HA3⟩
          case measure => simp [intOf]; omega
        | false =>
          go_wp2_with fail
          go_ret
          exact ⟨by rw [HNE.out (by trivial)]; rfl, HA0.out.trans HA3.out⟩
    · obtain rfl : k = n := by omega
      have HF : Hid (res = true) := by show _ = _; rw [HRES.out, hpf.out]
      go_wp2_with fail
      go_ret
      exact ⟨by rw [HF.out]; rfl, HA0.out.trans hA.out⟩
end Go.Proofs.Ytipmgfbncfkmiaa

namespace Go.Proofs.Ytipmgfbncfkmiaa
open Go.RowKit

set_option maxHeartbeats 2000000
set_option maxRecDepth 100000

/-! ### rows of all pairs -/
def prd {α β γ : Type} (f : α → β → γ) (xs : List α) (ys : List β) : List γ := xs.flatMap fun x => ys.map (f x)
theorem prd_row {α β γ : Type} (f : α → β → γ) (d : α) (e : β) (xs : List α) (ys : List β) (i j : Nat) (hj : j < ys.length) : prd f (xs.take i) ys ++ (ys.take (j + 1)).map (f (xs.getD i d)) = (prd f (xs.take i) ys ++ (ys.take j).map (f (xs.getD i d))) ++ [f (xs.getD i d) (ys.getD j e)] := by
  rw [List.take_succ_eq_append_getElem hj, List.map_append, List.append_assoc]
  have : ys.getD j e = ys[j] := by simp [List.getD, hj]
  rw [this]
  rfl
theorem prd_next {α β γ : Type} (f : α → β → γ) (d : α) (xs : List α) (ys : List β) (i : Nat) (hi : i < xs.length) : prd f (xs.take i) ys ++ (ys.take ys.length).map (f (xs.getD i d)) = prd f (xs.take (i + 1)) ys := by
  have : xs.getD i d = xs[i] := by simp [List.getD, hi]
  rw [List.take_length, List.take_succ_eq_append_getElem hi, this, prd, prd, List.flatMap_append]
  simp only [List.flatMap_cons, List.flatMap_nil, List.append_nil]
theorem prd_len {α β γ : Type} (f : α → β → γ) (xs : List α) (ys : List β) : (prd f xs ys).length = xs.length * ys.length := by
  induction xs with
  | nil => simp [prd]
  | cons x xs ih =>
    have : prd f (x :: xs) ys = ys.map (f x) ++ prd f xs ys := rfl
    rw [this, List.length_append, ih, List.length_map, List.length_cons, Nat.succ_mul, Nat.add_comm]

theorem own_form {w : World} {base n size : Nat} {E : TypeId} {v : Value} {vs : List Value} (h : w.ownsRow base E size v n vs) : ∃ ao m c, v = .slice ao m c := by
  rcases h.2 with ⟨rfl, _⟩ | ⟨g, cap, cur, rfl, _⟩
  · exact ⟨_, _, _, rfl⟩
  · exact ⟨_, _, _, rfl⟩

namespace Asm
def pairA (a b : List (List Txt)) : List (List Txt) := prd prs a b
theorem ok_facts {a : List (List Txt)} (h : ok a = true) : a.length ≤ 6 ∧ (∀ i, i < a.length → (a.getD i []).length ≤ 4) ∧ ∀ i k, i < a.length → k < (a.getD i []).length → (rz ((a.getD i []).getD k [])).isSome = true := by
  rw [ok_eq, Bool.and_eq_true, sizes, Bool.and_eq_true, Bool.and_eq_true, decide_eq_true_eq, decide_eq_true_eq, szs, pfs, List.all_eq_true, List.all_eq_true] at h
  refine ⟨h.1.1.2, fun i hi => ?_, fun i k hi hk => ?_⟩
  · have := h.1.2 i (List.mem_range.2 hi)
    rw [Bool.and_eq_true, decide_eq_true_eq, decide_eq_true_eq] at this
    exact this.2
  · have := h.2 i (List.mem_range.2 hi)
    rw [pfx, List.all_eq_true] at this
    have := this k (List.mem_range.2 hk)
    rw [step, Bool.and_eq_true] at this
    exact this.1
theorem pr_len {x y : Txt} (hx : (rz x).isSome = true) (hy : (rz y).isSome = true) : (pr x y).length ≤ 100000 := by
  obtain ⟨t, ht⟩ := Option.isSome_iff_exists.1 hx
  obtain ⟨u, hu⟩ := Option.isSome_iff_exists.1 hy
  obtain ⟨f1, f2, f3, _⟩ := rz_facts ht
  obtain ⟨k1, k2, k3, _⟩ := rz_facts hu
  rw [pr, f1, k1]
  exact (pair_fits f3 k3 f2 k2).2.2
theorem prs_lens {xs ys : List Txt} (hx : xs.length ≤ 4) (hy : ys.length ≤ 4) (gx : ∀ k, k < xs.length → (rz (xs.getD k [])).isSome = true) (gy : ∀ k, k < ys.length → (rz (ys.getD k [])).isSome = true) : (prs xs ys).length ≤ 1000 ∧ ∀ s ∈ prs xs ys, s.length ≤ 100000 := by
  refine ⟨?_, fun s hs => ?_⟩
  · rw [prs_len]
    have : xs.length * ys.length ≤ 4 * 4 := Nat.mul_le_mul hx hy
    omega
  · rw [prs, List.mem_flatMap] at hs
    obtain ⟨x, hx', hs⟩ := hs
    obtain ⟨y, hy', rfl⟩ := List.mem_map.1 hs
    obtain ⟨i, hi, rfl⟩ := List.getElem_of_mem hx'
    obtain ⟨j, hj, rfl⟩ := List.getElem_of_mem hy'
    have h1 := gx i hi
    have h2 := gy j hj
    rw [show xs.getD i [] = xs[i] by simp [List.getD, hi]] at h1
    rw [show ys.getD j [] = ys[j] by simp [List.getD, hj]] at h2
    exact pr_len h1 h2
theorem pairA_lens {a b : List (List Txt)} (ha : ok a = true) (hb : ok b = true) : Lens 1000000 (pairA a b) := by
  obtain ⟨a1, a2, a3⟩ := ok_facts ha
  obtain ⟨b1, b2, b3⟩ := ok_facts hb
  refine ⟨?_, fun ns hs => ?_⟩
  · rw [pairA, prd_len]
    have : a.length * b.length ≤ 6 * 6 := Nat.mul_le_mul a1 b1
    omega
  · rw [pairA, prd, List.mem_flatMap] at hs
    obtain ⟨xs, hx, hs⟩ := hs
    obtain ⟨ys, hy, rfl⟩ := List.mem_map.1 hs
    obtain ⟨i, hi, rfl⟩ := List.getElem_of_mem hx
    obtain ⟨j, hj, rfl⟩ := List.getElem_of_mem hy
    have e1 : a.getD i [] = a[i] := by simp [List.getD, hi]
    have e2 : b.getD j [] = b[j] := by simp [List.getD, hj]
    have h1 := a2 i hi
    have h2 := b2 j hj
    have h3 := fun k hk => a3 i k hi hk
    have h4 := fun k hk => b3 j k hj hk
    rw [e1] at h1 h3
    rw [e2] at h2 h4
    have := prs_lens h1 h2 h3 h4
    exact ⟨by omega, fun s hs => by have := this.2 s hs; omega⟩
def pPairA (a b : List (List Txt)) : Option (List (List Txt)) := if (ok a && ok b) = true then (if ok (pairA a b) = true then some (pairA a b) else none) else none
end Asm

def ReadTwoPost (w : World) (a b : List (List (List UInt8))) (e : Ending) (w' : World) : Prop :=
  ∃ ao1 n1 c1 ao2 n2 c2, e = .returned (.tuple #[.slice ao1 n1 c1, .slice ao2 n2 c2, .bool (Asm.ok a && Asm.ok b)]) ∧ After w w' ∧ ((Asm.ok a && Asm.ok b) = true → RowA w' w.heap.size (.slice ao1 n1 c1) a ∧ RowA w' w.heap.size (.slice ao2 n2 c2) b)

theorem RowA.less {w : World} {base base' : Nat} {sv : Value} {a : List (List (List UInt8))} (h : RowA w base sv a) (hB : base' ≤ base) : RowA w base' sv a := by
  obtain ⟨cs, ho, hc⟩ := h
  exact ⟨cs, own_mono ho hB, fun j hj => by obtain ⟨ev, h1, h2⟩ := hc j hj; exact ⟨ev, h1, h2.less hB⟩⟩

theorem readTwo_any (w : World) (s1 s2 : Value) (a b : List (List (List UInt8))) (h1 : SSU 0 w s1 a) (h2 : SSU 0 w s2 b) (hl1 : Lens 1000000000 a) (hl2 : Lens 1000000000 b) :
    Calls Try.prog 139 #[.agg #[s1], .agg #[s2]] w (ReadTwoPost w a b) := by
  have hc1 := fun W (hW : After w W) => readAssembly_any W s1 a (h1.later hW) hl1
  have hc2 := fun W (hW : After w W) => readAssembly_any W s2 b (h2.later hW) hl2
  obtain ⟨p1, k1, rfl⟩ := h1.form
  obtain ⟨p2, k2, rfl⟩ := h2.form
  unfold ReadAsmPost at hc1 hc2
  have hfail : Hid ((Asm.ok a && Asm.ok b) = false → ∀ W, After w W → ReadTwoPost w a b (.returned (.tuple #[.slice none 0 0, .slice none 0 0, .bool false])) W) := fun h W hW => ⟨none, 0, 0, none, 0, 0, by rw [h], hW, fun e => by rw [h] at e; cases e⟩
  have hdone : Hid ((Asm.ok a && Asm.ok b) = true → ∀ W ao1 n1 c1 ao2 n2 c2, After w W → RowA W w.heap.size (.slice ao1 n1 c1) a → RowA W w.heap.size (.slice ao2 n2 c2) b → ReadTwoPost w a b (.returned (.tuple #[.slice ao1 n1 c1, .slice ao2 n2 c2, .bool true])) W) := fun h W ao1 n1 c1 ao2 n2 c2 hW r1 r2 => ⟨ao1, n1, c1, ao2, n2, c2, by rw [h], hW, fun _ => ⟨r1, r2⟩⟩
  have hA0 := (After.new w (.cells #[.slice p1 a.length k1] 58)).alloc (.cells #[.slice p2 b.length k2] 58)
  have hx1 := heap_old2 w (.cells #[.slice p1 a.length k1] 58) (.cells #[.slice p2 b.length k2] 58)
  have hx2 := heap_new2 w w.heap.size (.cells #[.slice p1 a.length k1] 58) (.cells #[.slice p2 b.length k2] 58) rfl
  have hc := hc1 _ hA0
  have HC2 := Lib.hid hc2
  have HX2 := Lib.hid hx2
  have HA0 := Lib.hid hA0
  obtain ⟨o0, o1, o2⟩ := one_facts hx1 (After.refl _)
  clear hc1 hc2 h1 h2 hl1 hl2 hx1 hx2 hA0
  generalize a.length = n at *
  generalize b.length = m at *
  cases hoa : Asm.ok a with
  | false =>
    have HF := Lib.hid (hfail.out (by rw [hoa]; rfl))
    rw [hoa] at hc
    clear hoa hfail hdone
    go_enter Try.func139, Try.ntmps139
    go_wp2_with fail
    refine hc.mono ?_
    rintro e w1 ⟨r1, l1, t1, rfl, hb1, hv1⟩
    clear hc hv1
    go_wp2_with fail
    go_ret3
    exact HF.out _ (HA0.out.trans hb1)
  | true =>
    rw [hoa] at hc
    cases hob : Asm.ok b with
    | false =>
      have HF := Lib.hid (hfail.out (by rw [hoa, hob]; rfl))
      rw [hob] at HC2
      clear hoa hob hfail hdone
      go_enter Try.func139, Try.ntmps139
      go_wp2_with fail
      refine hc.mono ?_
      rintro e w1 ⟨r1, l1, t1, rfl, hb1, hv1⟩
      have hA1 := HA0.out.trans hb1
      have hd := HC2.out _ hA1
      obtain ⟨q0, q1, q2⟩ := one_facts HX2.out hb1
      clear hc hv1 o0 o1 o2
      go_wp2_with fail
      refine hd.mono ?_
      rintro e w2 ⟨r2, l2, t2, rfl, hb2, hv2⟩
      clear hd hv2
      go_wp2_with fail
      go_ret3
      exact HF.out _ (hA1.trans hb2)
    | true =>
      have HD := Lib.hid (hdone.out (by rw [hoa, hob]; rfl))
      rw [hob] at HC2
      clear hoa hob hfail hdone
      go_enter Try.func139, Try.ntmps139
      go_wp2_with fail
      refine hc.mono ?_
      rintro e w1 ⟨r1, l1, t1, rfl, hb1, hv1⟩
      have hA1 := HA0.out.trans hb1
      have hd := HC2.out _ hA1
      obtain ⟨q0, q1, q2⟩ := one_facts HX2.out hb1
      have HV1 := Lib.hid ((hv1 (by trivial)).less HA0.out.size)
      clear hc hv1 o0 o1 o2
      go_wp2_with fail
      refine hd.mono ?_
      rintro e w2 ⟨r2, l2, t2, rfl, hb2, hv2⟩
      have HV2 := Lib.hid ((hv2 (by trivial)).less hA1.size)
      clear hd hv2
      go_wp2_with fail
      go_ret3
      exact HD.out _ _ _ _ _ _ _ (hA1.trans hb2) (HV1.out.later hb2) HV2.out

theorem lit2_50_36_8 {x0 x1 x2 x3 x4 x5 x6 x7 x8 x9 x10 x11 x12 x13 x14 x15 x16 x17 x18 x19 x20 x21 x22 x23 x24 x25 x26 x27 x28 x29 x30 x31 x32 x33 x34 x35 x36 x37 x38 x39 x40 x41 x42 x43 x44 x45 x46 x47 x48 x49 u u' : Value} {d : List Deferred} {vs : Nat → Value} : ((putFrom ⟨#[x0, x1, x2, x3, x4, x5, x6, x7, x8, x9, x10, x11, x12, x13, x14, x15, x16, x17, x18, x19, x20, x21, x22, x23, x24, x25, x26, x27, x28, x29, x30, x31, x32, x33, x34, x35, x36, x37, x38, x39, x40, x41, x42, x43, x44, x45, x46, x47, x48, x49], d⟩ 36 vs 8).put (some 42) u).put (some 43) u' = ⟨#[x0, x1, x2, x3, x4, x5, x6, x7, x8, x9, x10, x11, x12, x13, x14, x15, x16, x17, x18, x19, x20, x21, x22, x23, x24, x25, x26, x27, x28, x29, x30, x31, x32, x33, x34, x35, vs 0, vs 1, vs 2, vs 3, vs 4, vs 5, u, u', x44, x45, x46, x47, x48, x49], d⟩ := by kernel_rfl

end Go.Proofs.Ytipmgfbncfkmiaa

namespace Go.Proofs.Ytipmgfbncfkmiaa
open Go.RowKit

set_option maxHeartbeats 2000000
set_option maxRecDepth 100000

namespace Asm
def rng (m : Nat) (ls : List Int) (k : Nat) : Bool := (List.range k).all fun j => decide (0 ≤ ls.getD j 0) && decide (ls.getD j 0 < (m : Int))
theorem rng_succ (m : Nat) (ls : List Int) (k : Nat) : rng m ls (k + 1) = (rng m ls k && (decide (0 ≤ ls.getD k 0) && decide (ls.getD k 0 < (m : Int)))) := by simp [rng, List.range_succ]
theorem rng_no {m : Nat} {ls : List Int} {k n : Nat} (h : (decide (0 ≤ ls.getD k 0) && decide (ls.getD k 0 < (m : Int))) = false) (hk : k < n) : rng m ls n = false := by
  rw [rng, List.all_eq_false]
  exact ⟨k, List.mem_range.2 hk, by rw [h]; decide⟩
def mapOk (a b : List (List Txt)) (ls : List Int) : Bool := (ok a && ok b) && (decide (ls.length = a.length) && rng b.length ls ls.length)
end Asm

def MapPost (w : World) (s3 : Value) (a b : List (List (List UInt8))) (ls : List Int) (e : Ending) (w' : World) : Prop :=
  ∃ o1 n1 c1 o2 n2 c2 o3 n3 c3, e = .returned (.tuple #[.agg #[.slice o1 n1 c1, .slice o2 n2 c2, .slice o3 n3 c3], .bool (Asm.mapOk a b ls)]) ∧ After w w' ∧ (Asm.mapOk a b ls = true → RowA w' 0 (.slice o1 n1 c1) a ∧ RowA w' 0 (.slice o2 n2 c2) b ∧ .slice o3 n3 c3 = s3)

theorem own_same {w W : World} {base size n : Nat} {E : TypeId} {v : Value} {vs : List Value} (hs : ∀ b, base ≤ b → b < w.heap.size → W.heap[b]? = w.heap[b]?) (h : w.ownsRow base E size v n vs) : W.ownsRow base E size v n vs := by
  refine ⟨h.1, ?_⟩
  rcases h.2 with h | ⟨g, cap, cur, h1, h2, h3, h4⟩
  · exact Or.inl h
  · exact Or.inr ⟨g, cap, cur, h1, h2, by rw [hs g h2 (Array.getElem?_eq_some_iff.1 h3).1]; exact h3, h4⟩
theorem RowA.same {w W : World} {base : Nat} {sv : Value} {a : List (List (List UInt8))} (h : RowA w base sv a) (hs : ∀ b, base ≤ b → b < w.heap.size → W.heap[b]? = w.heap[b]?) : RowA W base sv a := by
  obtain ⟨cs, ho, hc⟩ := h
  refine ⟨cs, own_same hs ho, fun j hj => ?_⟩
  obtain ⟨ev, h1, cs2, ho2, hc2⟩ := hc j hj
  refine ⟨ev, h1, cs2, own_same hs ho2, fun i hi => ?_⟩
  obtain ⟨T, v, t, g1, g2, g3, g4⟩ := hc2 i hi
  exact ⟨T, v, t, g1, g2, g3, g4.same hs⟩

theorem readMap_any (w : World) (s1 s2 s3 : Value) (a b : List (List (List UInt8))) (ls : List Int) (h1 : SSU 0 w s1 a) (h2 : SSU 0 w s2 b) (hl1 : Lens 1000000000 a) (hl2 : Lens 1000000000 b) (h3 : RowU 0 w s3 ls.length (fun j => .int .i64 (ls.getD j 0))) (hll : ls.length ≤ 1000000000) :
    Calls Try.prog 107 #[.agg #[s1], .agg #[s2], s3] w (MapPost w s3 a b ls) := by
  have hc1 := fun W (hW : After w W) => readTwo_any W s1 s2 a b (h1.later hW) (h2.later hW) hl1 hl2
  obtain ⟨p1, k1, rfl⟩ := h1.form
  obtain ⟨p2, k2, rfl⟩ := h2.form
  obtain ⟨p3, k3, rfl, h3at⟩ := h3
  unfold ReadTwoPost at hc1
  obtain ⟨os, hos⟩ : ∃ os : List Obj, os = [.cells #[.slice p1 a.length k1] 58, .cells #[.slice p2 b.length k2] 58, .cells #[.slice none 0 0, .slice none 0 0, .slice none 0 0] 117] := ⟨_, rfl⟩
  have hX : allocL w os = ((w.alloc (.cells #[.slice p1 a.length k1] 58)).alloc (.cells #[.slice p2 b.length k2] 58)).alloc (.cells #[.slice none 0 0, .slice none 0 0, .slice none 0 0] 117) := by rw [hos]; rfl
  have hA0 : After w (allocL w os) := allocL_below w os
  have hr0 : (allocL w os).heap[w.heap.size + 1 + 1]? = some (.cells #[.slice none 0 0, .slice none 0 0, .slice none 0 0] 117 (0, 0)) := by have := allocL_heap w os 2 (by rw [hos]; simp); simpa [hos] using this
  rw [hX] at hA0 hr0
  have hc := hc1 _ hA0
  have HR0 := Lib.hid hr0
  have HA0 := Lib.hid hA0
  have H3 := Lib.hid h3at
  obtain ⟨res, hres⟩ : ∃ res, res = Asm.mapOk a b ls := ⟨_, rfl⟩
  have hfail : res = false → ∀ W, After w W → MapPost w (.slice p3 ls.length k3) a b ls (.returned (.tuple #[.agg #[.slice none 0 0, .slice none 0 0, .slice none 0 0], .bool false])) W := fun h W hW => ⟨none, 0, 0, none, 0, 0, none, 0, 0, by rw [← hres, h], hW, fun e => by rw [← hres, h] at e; cases e⟩
  have hdone : res = true → ∀ W o1 n1 c1 o2 n2 c2, After w W → RowA W 0 (.slice o1 n1 c1) a → RowA W 0 (.slice o2 n2 c2) b → MapPost w (.slice p3 ls.length k3) a b ls (.returned (.tuple #[.agg #[.slice o1 n1 c1, .slice o2 n2 c2, .slice p3 ls.length k3], .bool true])) W := fun h W o1 n1 c1 o2 n2 c2 hW g1 g2 => ⟨o1, n1, c1, o2, n2, c2, p3, ls.length, k3, by rw [← hres, h], hW, fun _ => ⟨g1, g2, rfl⟩⟩
  have HFAIL := Lib.hid hfail
  have HDONE := Lib.hid hdone
  have HRES : Hid (res = ((Asm.ok a && Asm.ok b) && (decide (ls.length = a.length) && Asm.rng b.length ls ls.length))) := hres
  clear hc1 h1 h2 hX hos hr0 hA0 hfail hdone hres h3at
  have hset : ∀ W x y z, After w W → After w (((W.setCell ⟨w.heap.size + 1 + 1, 0, none⟩ x).setCell ⟨w.heap.size + 1 + 1, 1, none⟩ y).setCell ⟨w.heap.size + 1 + 1, 2, none⟩ z) := fun W x y z hW => Below.setCell (Below.setCell (Below.setCell hW (by show w.heap.size ≤ w.heap.size + 1 + 1; omega) _) (by show w.heap.size ≤ w.heap.size + 1 + 1; omega) _) (by show w.heap.size ≤ w.heap.size + 1 + 1; omega) _
  have HSET := Lib.hid hset
  have three : ∀ {W : World}, W.heap[w.heap.size + 1 + 1]? = some (.cells #[.slice none 0 0, .slice none 0 0, .slice none 0 0] 117 (0, 0)) → ∀ i, i < 3 → W.cell? ⟨w.heap.size + 1 + 1, i, none⟩ = some (.slice none 0 0) ∧ W.frozen? ⟨w.heap.size + 1 + 1, i, none⟩ = false := fun {W} h i hi => ⟨by rw [cell_of_heap h]; match i, hi with | 0, _ => rfl | 1, _ => rfl | 2, _ => rfl, by simp [World.frozen?, h]⟩
  have HTHREE : Hid (∀ {W : World}, W.heap[w.heap.size + 1 + 1]? = some (.cells #[.slice none 0 0, .slice none 0 0, .slice none 0 0] 117 (0, 0)) → ∀ i, i < 3 → W.cell? ⟨w.heap.size + 1 + 1, i, none⟩ = some (.slice none 0 0) ∧ W.frozen? ⟨w.heap.size + 1 + 1, i, none⟩ = false) := three
  clear hset three
  cases hok : (Asm.ok a && Asm.ok b) with
  | false =>
    have HF := Lib.hid (HFAIL.out (by rw [HRES.out, hok]; rfl))
    rw [hok] at hc
    clear hok HRES HDONE HFAIL H3
    generalize a.length = n at *
    generalize b.length = m at *
    generalize ls.length = l at *
    go_enter Try.func107, Try.ntmps107
    go_wp2_with fail
    refine hc.mono ?_
    rintro e w1 ⟨ao1, n1, c1, ao2, n2, c2, rfl, hb1, hv1⟩
    have hh := hb1.heap HR0.out
    obtain ⟨r0, f0⟩ := HTHREE.out hh 0 (by omega)
    obtain ⟨r1, f1⟩ := HTHREE.out hh 1 (by omega)
    obtain ⟨r2, f2⟩ := HTHREE.out hh 2 (by omega)
    have hz : w.heap.size + 1 + 1 < w1.heap.size := (Array.getElem?_eq_some_iff.1 hh).1
    clear hc hv1 hh
    go_wp2_with fail
    refine bodyPost_ret (v := .tuple #[.agg #[.slice none 0 0, .slice none 0 0, .slice none 0 0], .bool false]) (by simp [results, Try.results107, go_sem, r0, r1, r2]) rfl (HF.out _ (HSET.out _ _ _ _ (HA0.out.trans hb1)))
  | true =>
    have hsucc := fun k => Asm.rng_succ b.length ls k
    have hno := fun k (hk : k < ls.length) h => Asm.rng_no (m := b.length) (ls := ls) (k := k) h hk
    have h0 : Asm.rng b.length ls 0 = true := rfl
    have HR2 : Hid (res = (decide (ls.length = a.length) && Asm.rng b.length ls ls.length)) := by show _ = _; rw [HRES.out, hok]; rfl
    rw [hok] at hc
    clear hok HRES
    obtain ⟨n, hn⟩ : ∃ n, n = a.length := ⟨_, rfl⟩
    obtain ⟨m, hm⟩ : ∃ m, m = b.length := ⟨_, rfl⟩
    obtain ⟨l, hl⟩ : ∃ l, l = ls.length := ⟨_, rfl⟩
    rw [← hn] at hc HR0 HA0 HR2 ⊢
    rw [← hm] at hc HR0 HA0 HR2 hsucc hno h0 ⊢
    rw [← hl] at HR2 H3 hno hll HFAIL HDONE ⊢
    have HSUCC := Lib.hid hsucc
    have HNO := Lib.hid hno
    have HN := Lib.hid hn
    have HM := Lib.hid hm
    have HST := Lib.hid h0
    clear hsucc hno h0 hn hm hl hl1 hl2
    go_enter Try.func107, Try.ntmps107
    go_wp2_with fail
    refine hc.mono ?_
    rintro e w1 ⟨ao1, n1, c1, ao2, n2, c2, rfl, hb1, hv1⟩
    obtain ⟨hra, hrb⟩ := hv1 (by trivial)
    have e1 : n1 = a.length := by obtain ⟨_, _, e⟩ := hra.form; injection e
    have e2 : n2 = b.length := by obtain ⟨_, _, e⟩ := hrb.form; injection e
    rw [← HN.out] at e1
    rw [← HM.out] at e2
    replace e1 := e1.symm
    replace e2 := e2.symm
    subst e1
    subst e2
    have HRA := Lib.hid (hra.less (base' := w.heap.size + 1 + 1 + 1) (by simp))
    have HRB := Lib.hid (hrb.less (base' := w.heap.size + 1 + 1 + 1) (by simp))
    have HA1 := Lib.hid (HA0.out.trans hb1)
    have hh := hb1.heap HR0.out
    have HH := Lib.hid hh
    obtain ⟨r0, f0⟩ := HTHREE.out hh 0 (by omega)
    obtain ⟨r1, f1⟩ := HTHREE.out hh 1 (by omega)
    obtain ⟨r2, f2⟩ := HTHREE.out hh 2 (by omega)
    have hz : w.heap.size + 1 + 1 < w1.heap.size := (Array.getElem?_eq_some_iff.1 hh).1
    clear hc hv1 hra hrb hh hb1
    by_cases hln : l = n
    · subst hln
      have HR3 : Hid (res = Asm.rng m ls l) := by show _ = _; rw [HR2.out]; simp
      clear r0 r1 r2 f0 f1 f2 hz HR2
      go_wp2_with fail
      go_loopw [32] (fun i wr => ∃ k : Nat, i = .int .i64 k ∧ k ≤ l ∧ Hid (Asm.rng m ls k = true) ∧ Hid (After w1 wr)) (fun i _ => l - (intOf i).toNat)
      case atStart => exact ⟨0, rfl, Nat.zero_le _, HST, by show After _ _; exact After.refl _⟩
      case round =>
        obtain ⟨k, rfl, hk, hpf, hA⟩ := hrel
        have hh := hA.out.heap HH.out
        obtain ⟨r0, f0⟩ := HTHREE.out hh 0 (by omega)
        obtain ⟨r1, f1⟩ := HTHREE.out hh 1 (by omega)
        obtain ⟨r2, f2⟩ := HTHREE.out hh 2 (by omega)
        have hz : w.heap.size + 1 + 1 < wr.heap.size := (Array.getElem?_eq_some_iff.1 hh).1
        clear hh HST
        by_cases hlt : k < l
        · obtain ⟨b3, off3, rfl, _, c3⟩ := H3.out k hlt
          replace c3 := (HA1.out.trans hA.out).cell c3
          have hsu := HSUCC.out k
          have hno := HNO.out k hlt
          generalize ls.getD k 0 = v at c3 hsu hno
          have HSU := Lib.hid hsu
          have HNO2 := Lib.hid hno
          have hlt' : (k : Int) < (l : Int) := by omega
          clear hsu hno
          by_cases hneg : v < 0
          · have HF := Lib.hid (HFAIL.out (by rw [HR3.out]; exact HNO2.out (by rw [decide_eq_false (by omega : ¬ 0 ≤ v)]; rfl)))
            go_wp2_with fail
            refine bodyPost_ret (v := .tuple #[.agg #[.slice none 0 0, .slice none 0 0, .slice none 0 0], .bool false]) (by simp [results, Try.results107, go_sem, r0, r1, r2]) rfl (HF.out _ (HSET.out _ _ _ _ (HA1.out.trans hA.out)))
          · by_cases hge : v < (m : Int)
            · have HNX : Hid (Asm.rng m ls (k + 1) = true) := by show _ = _; rw [HSU.out, hpf.out, decide_eq_true (by omega : 0 ≤ v), decide_eq_true hge]; rfl
              clear hpf
              go_wp2_with fail
              go_roundw
              case rel => exact ⟨k + 1, by go_num, by omega, HNX, hA⟩
              case measure => simp [intOf]; omega
            · have HF := Lib.hid (HFAIL.out (by rw [HR3.out]; exact HNO2.out (by rw [decide_eq_false hge, Bool.and_false])))
              go_wp2_with fail
              refine bodyPost_ret (v := .tuple #[.agg #[.slice none 0 0, .slice none 0 0, .slice none 0 0], .bool false]) (by simp [results, Try.results107, go_sem, r0, r1, r2]) rfl (HF.out _ (HSET.out _ _ _ _ (HA1.out.trans hA.out)))
        · obtain rfl : k = l := by omega
          have HD := Lib.hid (HDONE.out (by rw [HR3.out]; exact hpf.out))
          have hset : ∀ x y z, RowA (((wr.setCell ⟨w.heap.size + 1 + 1, 0, none⟩ x).setCell ⟨w.heap.size + 1 + 1, 1, none⟩ y).setCell ⟨w.heap.size + 1 + 1, 2, none⟩ z) 0 (.slice ao1 k c1) a ∧ RowA (((wr.setCell ⟨w.heap.size + 1 + 1, 0, none⟩ x).setCell ⟨w.heap.size + 1 + 1, 1, none⟩ y).setCell ⟨w.heap.size + 1 + 1, 2, none⟩ z) 0 (.slice ao2 m c2) b := fun x y z => by
            have hs : ∀ q, w.heap.size + 1 + 1 + 1 ≤ q → q < wr.heap.size → (((wr.setCell ⟨w.heap.size + 1 + 1, 0, none⟩ x).setCell ⟨w.heap.size + 1 + 1, 1, none⟩ y).setCell ⟨w.heap.size + 1 + 1, 2, none⟩ z).heap[q]? = wr.heap[q]? := fun q h1 _ => by
              have hne : ∀ i, (⟨w.heap.size + 1 + 1, i, none⟩ : Addr).block ≠ q := fun i e => by have e' : w.heap.size + 1 + 1 = q := e; omega
              rw [Below.heap_setCell _ _ _ _ (fun e => hne 2 e.symm), Below.heap_setCell _ _ _ _ (fun e => hne 1 e.symm), Below.heap_setCell _ _ _ _ (fun e => hne 0 e.symm)]
            exact ⟨((HRA.out.later hA.out).same hs).less (Nat.zero_le _), ((HRB.out.later hA.out).same hs).less (Nat.zero_le _)⟩
          have HSS := Lib.hid hset
          clear hset hpf
          go_wp2_with fail
          refine bodyPost_ret (v := .tuple #[.agg #[.slice ao1 k c1, .slice ao2 m c2, .slice p3 k k3], .bool true]) (by simp [results, Try.results107, go_sem, r0, r1, r2]) rfl (HD.out _ _ _ _ _ _ _ (HSET.out _ _ _ _ (HA1.out.trans hA.out)) (HSS.out _ _ _).1 (HSS.out _ _ _).2)
    · have hne : ((l : Int) == (n : Int)) = false := beq_eq_false_iff_ne.2 (by omega)
      have HF := Lib.hid (HFAIL.out (by rw [HR2.out, decide_eq_false hln]; rfl))
      go_wp2_with fail
      refine bodyPost_ret (v := .tuple #[.agg #[.slice none 0 0, .slice none 0 0, .slice none 0 0], .bool false]) (by simp [results, Try.results107, go_sem, r0, r1, r2]) rfl (HF.out _ (HSET.out _ _ _ _ HA1.out))
end Go.Proofs.Ytipmgfbncfkmiaa

namespace Go.Proofs.Ytipmgfbncfkmiaa
open Go.RowKit

set_option maxHeartbeats 2000000
set_option maxRecDepth 100000

namespace Asm
def nats (ls : List Int) : List Nat := ls.map Int.toNat
def pTrackIs (a b : List (List Txt)) (ls : List Int) (l : Txt) : Bool := mapOk a b ls && (match Tm.closedOf l with
  | some t => trks t a b (nats ls) a.length
  | none => false)
theorem rng_at {m : Nat} {ls : List Int} {k : Nat} (h : rng m ls k = true) {j : Nat} (hj : j < k) : 0 ≤ ls.getD j 0 ∧ ls.getD j 0 < (m : Int) := by
  rw [rng, List.all_eq_true] at h
  have := h j (List.mem_range.2 hj)
  rw [Bool.and_eq_true, decide_eq_true_eq, decide_eq_true_eq] at this
  exact this
theorem nats_at {ls : List Int} {j : Nat} (hj : j < ls.length) (h : 0 ≤ ls.getD j 0) : (((nats ls).getD j 0 : Nat) : Int) = ls.getD j 0 := by
  have e : ls.getD j 0 = ls[j] := by simp [List.getD, hj]
  have e2 : (nats ls).getD j 0 = (ls[j]).toNat := by simp [nats, List.getD, hj]
  rw [e] at h ⊢
  rw [e2]
  omega
end Asm

theorem impl_trackIs (w : World) (s1 s2 s3 : Value) (a b : List (List (List UInt8))) (ls : List Int) (l : List UInt8) (h1 : SSU 0 w s1 a) (h2 : SSU 0 w s2 b) (hl1 : Lens 1000000000 a) (hl2 : Lens 1000000000 b) (h3 : RowU 0 w s3 ls.length (fun j => .int .i64 (ls.getD j 0))) (hll : ls.length ≤ 1000000000) (hl : l.length ≤ 1000000000) :
    Calls Try.prog 59 #[.agg #[s1], .agg #[s2], s3, str l] w fun e w' => e = .returned (.bool (Asm.pTrackIs a b ls l)) ∧ After w w' := by
  have hc1 := fun W (hW : After w W) => readMap_any W s1 s2 s3 a b ls (h1.later hW) (h2.later hW) hl1 hl2 (RowU.later h3 hW) hll
  have hrd := fun W (hW : After w W) => readClosed_any W 0 l (Nat.zero_le _) hl
  unfold MapPost at hc1
  obtain ⟨p1, k1, rfl⟩ := h1.form
  obtain ⟨p2, k2, rfl⟩ := h2.form
  obtain ⟨p3, k3, rfl, h3at⟩ := h3
  obtain ⟨os, hos⟩ : ∃ os : List Obj, os = [.cells #[.slice p1 a.length k1] 58, .cells #[.slice p2 b.length k2] 58] := ⟨_, rfl⟩
  have hX : allocL w os = (w.alloc (.cells #[.slice p1 a.length k1] 58)).alloc (.cells #[.slice p2 b.length k2] 58) := by rw [hos]; rfl
  have hA0 : After w (allocL w os) := allocL_below w os
  rw [hX] at hA0
  have hc := hc1 _ hA0
  have HA0 := Lib.hid hA0
  have HRD := Lib.hid hrd
  have H3 := Lib.hid h3at
  obtain ⟨res, hres⟩ : ∃ res, res = Asm.pTrackIs a b ls l := ⟨_, rfl⟩
  rw [← hres]
  have HRES : Hid (res = (Asm.mapOk a b ls && (match Tm.closedOf l with
    | some t => Asm.trks t a b (Asm.nats ls) a.length
    | none => false))) := hres
  clear hc1 hrd h1 h2 hX hos hA0 hres h3at
  cases hok : Asm.mapOk a b ls with
  | false =>
    have HF : Hid (res = false) := by show _ = _; rw [HRES.out, hok]; rfl
    rw [hok] at hc
    clear hok HRES
    generalize a.length = n at *
    generalize b.length = m at *
    generalize ls.length = q at *
    go_enter Try.func59, Try.ntmps59
    go_wp2_with fail
    refine hc.mono ?_
    rintro e w1 ⟨o1, n1, c1, o2, n2, c2, o3, n3, c3, rfl, hb1, hv1⟩
    have hn1 := After.new w1 (.cells #[.slice o1 n1 c1, .slice o2 n2 c2, .slice o3 n3 c3] 117)
    have HA1 := Lib.hid ((HA0.out.trans hb1).trans hn1)
    clear hc hv1 hn1
    go_wp2_with fail
    go_ret
    exact ⟨by rw [HF.out]; rfl, HA1.out⟩
  | true =>
    have hoks := hok
    simp only [Asm.mapOk, Bool.and_eq_true, decide_eq_true_eq] at hoks
    obtain ⟨⟨hoa, hob⟩, hlen, hrng⟩ := hoks
    obtain ⟨a1, a2, a3⟩ := Asm.ok_facts hoa
    obtain ⟨b1, b2, b3⟩ := Asm.ok_facts hob
    have hb1' : 1 ≤ b.length := by
      simp only [Asm.ok, Bool.and_eq_true, decide_eq_true_eq] at hob
      exact hob.1.1
    have hR2 : res = (match Tm.closedOf l with
      | some t => Asm.trks t a b (Asm.nats ls) a.length
      | none => false) := by rw [HRES.out, hok]; rfl
    have htr : ∀ W t tv v1 v2, After w W → RowA W 0 v1 a → RowA W 0 v2 b → TV W 0 t tv → t.good = true → t.size ≤ 1000000 → Calls Try.prog 108 #[.agg #[v1, v2, .slice p3 ls.length k3], tv] W fun e w' => e = .returned (.bool (Asm.trks t a b (Asm.nats ls) a.length)) ∧ After W w' := fun W t tv v1 v2 hW g1 g2 g3 g4 g5 =>
      trackedBy_any W v1 v2 _ tv a b (Asm.nats ls) t g1 g2 ⟨p3, k3, by simp [Asm.nats], fun j hj => by
        have hj' : j < ls.length := by simpa [Asm.nats] using hj
        obtain ⟨b', off, e, ⟨q1, q2, q3⟩, q4⟩ := H3.out j hj'
        exact ⟨b', off, e, ⟨Nat.zero_le _, by simpa [Asm.nats] using q2, q3⟩, by show W.cell? _ = some (.int .i64 (((Asm.nats ls).getD j 0 : Nat) : Int)); rw [Asm.nats_at hj' (Asm.rng_at hrng hj').1]; exact hW.cell q4⟩⟩ (by simpa [Asm.nats] using hlen) g3 g4 g5 a1 (fun j hj => by have := a2 j hj; omega) hb1' b1 (fun j hj => by have := b2 j hj; omega)
    rw [hok] at hc
    have HTR := Lib.hid htr
    have HR2 := Lib.hid hR2
    clear hok HRES htr hR2 hoa hob hlen hrng a1 a2 a3 b1 b2 b3 hb1' H3
    generalize a.length = n at *
    generalize b.length = m at *
    generalize ls.length = q at *
    go_enter Try.func59, Try.ntmps59
    go_wp2_with fail
    refine hc.mono ?_
    rintro e w1 ⟨o1, n1, c1, o2, n2, c2, o3, n3, c3, rfl, hb1, hv1⟩
    obtain ⟨hra, hrb, e3⟩ := hv1 (by trivial)
    injection e3 with e31 e32 e33
    subst e31 e32 e33
    have hn1 := After.new w1 (.cells #[.slice o1 n1 c1, .slice o2 n2 c2, .slice o3 n3 c3] 117)
    have hbox := heap_new' w1 (.cells #[.slice o1 n1 c1, .slice o2 n2 c2, .slice o3 n3 c3] 117)
    have HA1 := Lib.hid ((HA0.out.trans hb1).trans hn1)
    have HBOX := Lib.hid hbox
    have HRA := Lib.hid (hra.later hn1)
    have HRB := Lib.hid (hrb.later hn1)
    have hrd := HRD.out _ ((HA0.out.trans hb1).trans hn1)
    unfold DataPost at hrd
    clear hc hv1 hn1 hra hrb hbox hb1
    cases hcl : Tm.closedOf l with
    | none =>
      have HF : Hid (res = false) := by show _ = _; rw [HR2.out, hcl]
      rw [hcl] at hrd
      clear hcl HR2
      go_wp2_with fail
      refine hrd.mono ?_
      rintro e w2 ⟨v2, rfl, hb2, hv2⟩
      clear hrd hv2
      go_wp2_with fail
      go_ret
      exact ⟨by rw [HF.out]; rfl, HA1.out.trans hb2⟩
    | some t =>
      have HF : Hid (res = Asm.trks t a b (Asm.nats ls) n) := by show _ = _; rw [HR2.out, hcl]
      obtain ⟨hg, hf, hsz, _, _⟩ := Tm.parse_facts (Tm.closed_facts hcl).1
      have hfs := (fits_size hf).1
      rw [hcl] at hrd
      clear hcl HR2
      go_wp2_with fail
      refine hrd.mono ?_
      rintro e w2 ⟨v2, rfl, hb2, hv2⟩
      have htv := hv2 t rfl
      have htr := HTR.out w2 t v2 _ _ (HA1.out.trans hb2) (HRA.out.later hb2) (HRB.out.later hb2) htv hg (by omega)
      have hh := After.heap hb2 HBOX.out
      obtain ⟨x0, x1, x2⟩ : w2.cell? ⟨w1.heap.size, 0, none⟩ = some (.slice o1 n1 c1) ∧ w2.cell? ⟨w1.heap.size, 1, none⟩ = some (.slice o2 n2 c2) ∧ w2.cell? ⟨w1.heap.size, 2, none⟩ = some (.slice o3 n3 c3) := ⟨cell_of_heap (i := 0) hh, cell_of_heap (i := 1) hh, cell_of_heap (i := 2) hh⟩
      rw [← HF.out] at htr
      clear hrd hv2 htv hh hg hf hsz
      go_wp2_with (go_at_call 108; refine htr.mono ?_; rintro e w3 ⟨rfl, hb3⟩)
      go_ret
      exact ⟨rfl, (HA1.out.trans hb2).trans hb3⟩
end Go.Proofs.Ytipmgfbncfkmiaa
