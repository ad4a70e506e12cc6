/-
  What the laws do with a list of numbers of an argument: toIntS, eqIntS.
-/
import Derived.Test.YtjomocjlnjgkeaaPkAX
import Derived.Test.YtjomocjlnjgkeaaPkBR
import Derived.BigQuiet
import Derived.OwnWalk
import Derived.Laws.OwnMore
import Derived.Test.YtjomocjlnjgkeaaPkBZ
namespace Go.Proofs.Ytjomocjlnjgkeaa
open Go.RowKit

set_option maxHeartbeats 1000000
set_option maxRecDepth 100000

/-- A number as a value. -/
abbrev int64 (x : Int) : Value := .int .i64 x

def fillI (n : Nat) (k : Nat) (ns : List Int) : List Value := (ns.take k).map int64 ++ List.replicate (n - k) (int64 0)

theorem fillI_len (n k : Nat) (ns : List Int) (h : ns.length = n) (hk : k ≤ n) : (fillI n k ns).length = n := by
  simp [fillI, h]; omega

theorem fillI_at (n k : Nat) (ns : List Int) (h : ns.length = n) (hk : k < n) : (fillI n k ns)[k]? = some (int64 0) := by
  have e : ((ns.take k).map int64).length = k := by simp; omega
  rw [fillI, List.getElem?_append_right (by omega), e, Nat.sub_self, List.getElem?_replicate]
  simp; omega

theorem fillI_set (n k : Nat) (ns : List Int) (h : ns.length = n) (hk : k < n) : (fillI n k ns).set k (int64 (ns[k]?.getD 0)) = fillI n (k + 1) ns := by
  have e : ((ns.take k).map int64).length = k := by simp; omega
  rw [fillI, List.set_append_right _ _ (by omega), e, Nat.sub_self, show n - k = (n - (k + 1)) + 1 by omega, List.replicate_succ, List.set_cons_zero, fillI]
  have hk' : k < ns.length := by omega
  rw [List.take_add_one, List.getElem?_eq_getElem hk', List.map_append, List.append_assoc]
  rfl

theorem made_fillI (n : Nat) (ns : List Int) : (madeCells (int64 0).cells (n * 1)).toList = fillI n 0 ns := by
  apply List.ext_getElem?
  intro i
  have e : ∀ x : Nat, (#[int64 0] : Array Value)[x % 1]! = int64 0 := fun x => by rw [Nat.mod_one]; rfl
  have e2 : (int64 0).cells = #[int64 0] := rfl
  have e3 : (#[int64 0] : Array Value).size = 1 := rfl
  simp only [madeCells, fillI, e2, e3, e, Array.toList_map, Array.toList_range, List.take_zero, List.map_nil, List.nil_append, Nat.sub_zero, Nat.mul_one]
  rw [List.getElem?_map, List.getElem?_replicate]
  by_cases h : i < n
  · rw [if_pos h, List.getElem?_eq_getElem (by simpa using h)]; rfl
  · rw [if_neg h, List.getElem?_eq_none (by simpa using h)]; rfl

theorem li_to_some (w : World) (b off cap : Nat) (ns : List Int) (hn : ns.length ≤ 1048576) (hb : b < w.heap.size)
    (hc : ∀ j, j < ns.length → w.cell? ⟨b, off + j, none⟩ = some (int64 (ns[j]?.getD 0))) :
    Calls Try.prog 26 #[.slice (some ⟨b, off, none⟩) ns.length cap] w fun e w' =>
      e = .returned (.slice (some ⟨w.heap.size, 0, none⟩) ns.length ns.length) ∧ w'.ownsRow w.heap.size 3 1 (.slice (some ⟨w.heap.size, 0, none⟩) ns.length ns.length) ns.length (ns.map int64) ∧ w.grownBy w' none := by
  obtain ⟨n, hnn⟩ : ∃ n, n = ns.length := ⟨_, rfl⟩
  rw [← hnn] at hn hc ⊢
  have HN := Lib.hid hnn
  have HC := Lib.hid hc
  clear hnn hc
  have hi : ∃ i, (Try.prog).info? 3 = some i ∧ i.zero = some (int64 0) ∧ i.size = 1 ∧ i.bytes = 8 := ⟨_, rfl, rfl, rfl, rfl⟩
  obtain ⟨i0, hi, hz0, hz1, hz2⟩ := hi
  go_enter Try.func26, Try.ntmps26
  go_wp2_with (at_make; refine wpList_make_full _ rfl _ _ _ rfl w.heap.size 3 i0 (int64 0) 1 rfl hi hz0 hz1 .i64 .i64 _ _ n rfl rfl rfl rfl (by rw [hz2]; omega) (by unfold maxLen; omega) (Nat.le_refl _) ?_; intro w1 ho hg)
  rw [made_fillI n ns] at ho
  have hstart : Hid (w1.ownsRow w.heap.size 3 1 (.slice (some ⟨w.heap.size, 0, none⟩) n n) n (fillI n 0 ns)) := ho
  obtain ⟨g, hgg⟩ : ∃ g, g = w.heap.size := ⟨_, rfl⟩
  rw [← hgg] at hstart hb
  have HG := Lib.hid hgg
  simp only [← hgg]
  clear ho hgg
  go_loopw [4] (fun i wr => ∃ k : Nat, i = .int .i64 k ∧ k ≤ n ∧ Hid (wr.ownsRow g 3 1 (.slice (some ⟨g, 0, none⟩) n n) n (fillI n k ns)) ∧ w.grownBy wr none) (fun i _ => n - (intOf i).toNat)
  case atStart => exact ⟨0, rfl, Nat.zero_le _, hstart, hg⟩
  case round =>
    obtain ⟨k, rfl, hk, hrow, hgr⟩ := hrel
    clear hstart hg
    by_cases hlt : k < n
    · have h1 : _ = some (int64 (ns[k]?.getD 0)) := After.cell (⟨hgr.os, hgr.tape, hgr.output, hgr.size, fun q hq => hgr.block q hq (by simp)⟩ : After w wr) (HC.out k hlt)
      have h2 := (hrow.out.cellAt k (by omega)).trans (fillI_at n k ns HN.out.symm hlt)
      have h3 := hrow.out.frozenAt k
      have hlt' : (k : Int) < (n : Int) := by omega
      obtain ⟨z, hz⟩ : ∃ z, z = ns[k]?.getD 0 := ⟨_, rfl⟩
      rw [← hz] at h1
      have HZ := Lib.hid hz
      clear hz
      have hbg : b ≠ g := by omega
      go_wp2_with fail
      go_roundw
      case rel =>
        refine ⟨k + 1, by go_num, by omega, ?_, ?_⟩
        · have h := (hrow.out.stored k (int64 z)).1
          rw [HZ.out, fillI_set n k ns HN.out.symm hlt, ← HZ.out] at h
          exact h
        · refine ⟨hgr.os, hgr.tape, hgr.output, by have h1 := hgr.size; simp [World.setCell]; omega, fun b' hb' hne => ?_⟩
          rw [Below.heap_setCell _ _ _ _ (fun e => absurd ((show b' = g from e).trans HG.out) (Nat.ne_of_lt hb'))]
          exact hgr.block b' hb' hne
      case measure => simp [intOf]; omega
    · obtain rfl : k = n := by omega
      have HR := Lib.hid hrow.out
      clear hrow
      go_wp2_with fail
      go_ret
      have h := HR.out
      rw [← HG.out]
      refine ⟨rfl, ?_, hgr⟩
      rw [fillI, Nat.sub_self, List.replicate_zero, List.append_nil, List.take_of_length_le (by rw [← HN.out]; exact Nat.le_refl _)] at h
      exact h

theorem li_to_none (w : World) (ao : Option Addr) (cap : Nat) :
    Calls Try.prog 26 #[.slice ao 0 cap] w fun e w' =>
      e = .returned (.slice (some ⟨w.heap.size, 0, none⟩) 0 0) ∧ w.grownBy w' none ∧ w.heap.size < w'.heap.size := by
  have hi : ∃ i, (Try.prog).info? 3 = some i ∧ i.zero = some (int64 0) ∧ i.size = 1 ∧ i.bytes = 8 := ⟨_, rfl, rfl, rfl, rfl⟩
  obtain ⟨i0, hi, hz0, hz1, hz2⟩ := hi
  go_enter Try.func26, Try.ntmps26
  go_wp2_with (at_make; refine wpList_make_full _ rfl _ _ _ rfl w.heap.size 3 i0 (int64 0) 1 rfl hi hz0 hz1 .i64 .i64 _ _ 0 rfl rfl rfl rfl (by rw [hz2]; omega) (by unfold maxLen; omega) (Nat.le_refl _) ?_; intro w1 ho hg)
  have hsz : w.heap.size < w1.heap.size := by
    rcases ho.2 with ⟨h, _⟩ | ⟨g, cp, cur, h, _, hh, _⟩
    · cases h
    · cases h
      exact (Array.getElem?_eq_some_iff.1 hh).1
  clear ho
  go_loop [4] (fun i => i = .int .i64 0) (fun _ => 0)
  case atStart => rfl
  case round =>
    obtain rfl := hrel
    go_wp2_with fail
    go_ret
    exact ⟨rfl, hg, hsz⟩


theorem li_eqv (w : World) (x y xo yo xc yc n : Nat) (Z : Nat → Int) (hn : n ≤ 1000000000)
    (hx : ∀ j, j < n → w.cell? ⟨x, xo + j, none⟩ = some (.int .i64 (Z j))) (hy : ∀ j, j < n → w.cell? ⟨y, yo + j, none⟩ = some (.int .i64 (Z j))) :
    Calls Try.prog 28 #[.slice (some ⟨x, xo, none⟩) n xc, .slice (some ⟨y, yo, none⟩) n yc] w fun e w' => e = .returned (.bool true) ∧ After w w' := by
  have HA := Lib.hid hx
  have HB := Lib.hid hy
  clear hx hy
  go_enter Try.func28, Try.ntmps28
  go_wp2_with fail
  go_loopw [5] (fun i wr => ∃ k : Nat, i = .int .i64 k ∧ k ≤ n ∧ After w wr) (fun i _ => n - (intOf i).toNat)
  case atStart => exact ⟨0, rfl, Nat.zero_le _, After.refl _⟩
  case round =>
    obtain ⟨k, rfl, hk, hA⟩ := hrel
    by_cases hlt : k < n
    · have h1 := hA.cell (HA.out k hlt)
      have h2 := hA.cell (HB.out k hlt)
      generalize Z k = z at h1 h2
      have hlt' : (k : Int) < (n : Int) := by omega
      go_wp2_with fail
      go_quiet (fail)
      go_wp2_with fail
      go_roundw
      case rel => exact ⟨k + 1, by go_num, by omega, ⟨hA.os, hA.tape, hA.output, hA.size, hA.block⟩⟩
      case measure => simp [intOf]; omega
    · go_wp2_with fail
      go_ret
      exact ⟨rfl, hA⟩

/-- A list of numbers in memory. -/
def IntsZ (w : World) (sv : Value) (zs : List Int) : Prop :=
  (zs = [] ∧ ∃ ao cap, sv = .slice ao 0 cap) ∨ ∃ b o cap, sv = .slice (some ⟨b, o, none⟩) zs.length cap ∧ zs.length ≤ cap ∧ ∀ j, j < zs.length → w.cell? ⟨b, o + j, none⟩ = some (.int .i64 (zs[j]?.getD 0))

theorem IntsZ.form {w : World} {sv : Value} {zs : List Int} (h : IntsZ w sv zs) : ∃ ao cap, sv = .slice ao zs.length cap := by
  rcases h with ⟨rfl, ao, cap, rfl⟩ | ⟨b, o, cap, rfl, _⟩
  · exact ⟨_, _, rfl⟩
  · exact ⟨_, _, rfl⟩
theorem IntsZ.after {w W : World} {sv : Value} {zs : List Int} (h : IntsZ w sv zs) (ha : After w W) : IntsZ W sv zs := by
  rcases h with h | ⟨b, o, cap, hv, hl, hc⟩
  · exact Or.inl h
  · exact Or.inr ⟨b, o, cap, hv, hl, fun j hj => ha.cell (hc j hj)⟩

/-- The slice value of a copy holds these numbers. -/
def HoldI (W : World) (g n : Nat) (ns : List Int) : Prop := g < W.heap.size ∧ ∀ j, j < n → W.cell? ⟨g, 0 + j, none⟩ = some (.int .i64 (ns[j]?.getD 0))

theorem HoldI.later {w W : World} {g n : Nat} {ns : List Int} (h : HoldI w g n ns) (hA : After w W) : HoldI W g n ns :=
  ⟨Nat.lt_of_lt_of_le h.1 hA.size, fun j hj => hA.cell (h.2 j hj)⟩
theorem HoldI.ints {w : World} {g : Nat} {ns : List Int} (h : HoldI w g ns.length ns) : IntsZ w (.slice (some ⟨g, 0, none⟩) ns.length ns.length) ns :=
  Or.inr ⟨g, 0, _, rfl, Nat.le_refl _, h.2⟩

theorem After.grewI {w a b : World} {r : Option Nat} (h : After w a) (hg : a.grownBy b r) (hr : ∀ k, r = some k → w.heap.size ≤ k) : After w b := Below.grown h hg h.size hr

/-- The argument, read at every later world. -/
def ArgI (w : World) (sv : Value) (n : Nat) (Z : Nat → Int) : Prop := (∃ ao cap, sv = .slice ao 0 cap ∧ n = 0) ∨ ∃ b off cap, sv = .slice (some ⟨b, off, none⟩) n cap ∧ ∀ j, j < n → w.cell? ⟨b, off + j, none⟩ = some (.int .i64 (Z j))

theorem li_to (w : World) (sv : Value) (n : Nat) (Z : Nat → Int) (ns : List Int) (h : ArgI w sv n Z) (hl : ns.length = n) (hz : ∀ j, j < n → ns[j]?.getD 0 = Z j) (hn : n ≤ 1048576) :
    Calls Try.prog 26 #[sv] w fun e w' => ∃ g, e = .returned (.slice (some ⟨g, 0, none⟩) n n) ∧ HoldI w' g n ns ∧ After w w' := by
  subst hl
  have none_case : ∀ ao cap, ns = [] → sv = .slice ao 0 cap → Calls Try.prog 26 #[sv] w fun e w' => ∃ g, e = .returned (.slice (some ⟨g, 0, none⟩) ns.length ns.length) ∧ HoldI w' g ns.length ns ∧ After w w' := by
    rintro ao cap rfl rfl
    refine (li_to_none w ao cap).mono ?_
    rintro e w' ⟨rfl, hg, hs⟩
    exact ⟨_, rfl, ⟨hs, fun j hj => absurd hj (Nat.not_lt_zero j)⟩, (After.refl w).grewI hg (fun k hk => by cases hk)⟩
  rcases h with ⟨ao, cap, rfl, h0⟩ | ⟨b, off, cap, rfl, hc⟩
  · exact none_case ao cap (List.length_eq_zero_iff.1 h0) rfl
  · by_cases h0 : ns = []
    · exact none_case _ cap h0 (by rw [h0]; rfl)
    · have hpos : 0 < ns.length := List.length_pos_iff.2 h0
      have hc' : ∀ j, j < ns.length → w.cell? ⟨b, off + j, none⟩ = some (int64 (ns[j]?.getD 0)) := fun j hj => by rw [hz j hj]; exact hc j hj
      refine (li_to_some w b off cap ns hn (World.block_lt_of_cell? _ _ (hc 0 hpos)) hc').mono ?_
      rintro e w' ⟨rfl, ho, hg⟩
      refine ⟨_, rfl, ⟨?_, fun j hj => ?_⟩, (After.refl w).grewI hg (fun k hk => by cases hk)⟩
      · exact World.block_lt_of_cell? _ _ ((ho.cellAt 0 (by omega)).trans (by rw [List.getElem?_map, List.getElem?_eq_getElem hpos]; rfl))
      · rw [Nat.zero_add]
        exact (ho.cellAt j (by omega)).trans (by rw [List.getElem?_map, List.getElem?_eq_getElem hj]; rfl)
end Go.Proofs.Ytjomocjlnjgkeaa

namespace Go.Proofs.Ytjomocjlnjgkeaa
open Go.RowKit

set_option maxHeartbeats 2000000
set_option maxRecDepth 100000

def inNum (z : Int) : Bool := decide (0 ≤ z) && decide (z ≤ 60)

theorem IntsZ.at {w : World} {sv : Value} {zs : List Int} (h : IntsZ w sv zs) (k : Nat) (hk : k < zs.length) : ∃ b o cap, sv = .slice (some ⟨b, o, none⟩) zs.length cap ∧ w.cell? ⟨b, o + k, none⟩ = some (.int .i64 zs[k]) := by
  rcases h with ⟨h, _⟩ | ⟨b, o, cap, hv, hl, hc⟩
  · rw [h] at hk; simp at hk
  · exact ⟨b, o, cap, hv, by rw [hc k hk, List.getElem?_eq_getElem hk]; rfl⟩

theorem IntsZ.nats {w : World} {rb : Nat} {sv : Value} {zs : List Int} (h : IntsZ w sv zs) (hr : w.heap.size ≤ rb) (ho : ∀ z ∈ zs, 0 ≤ z) {W : World} (hW : After w W) : IntsV W rb sv (zs.map Int.toNat) := by
  rcases h with ⟨rfl, ao, cap, rfl⟩ | ⟨b, o, cap, rfl, hl, hc⟩
  · exact Or.inl ⟨rfl, _, _, rfl⟩
  · by_cases h0 : zs = []
    · subst h0
      exact Or.inl ⟨rfl, _, _, rfl⟩
    · have hpos : 0 < zs.length := List.length_pos_iff.2 h0
      have hb := World.block_lt_of_cell? _ _ (hc 0 hpos)
      have hb' : b < w.heap.size := hb
      refine Or.inr ⟨b, o, cap, by rw [List.length_map], by rw [List.length_map]; exact hl, by omega, Nat.lt_of_lt_of_le hb' hW.size, fun j hj => ?_⟩
      rw [List.length_map] at hj
      rw [hW.cell (hc j hj)]
      have := ho zs[j] (List.getElem_mem hj)
      simp [List.getD_eq_getElem?_getD, List.getElem?_eq_getElem hj]
      omega

theorem haveNum_any (w : World) (sv : Value) (zs : List Int) (h : IntsZ w sv zs) (hn : zs.length ≤ 1048576) :
    Calls Try.prog 52 #[sv] w (BitPost w (zs.all inNum)) := by
  obtain ⟨ao, cap, rfl⟩ := h.form
  obtain ⟨N, hN⟩ : ∃ N, N = zs.length := ⟨_, rfl⟩
  obtain ⟨R, hR⟩ : ∃ R, R = zs.all inNum := ⟨_, rfl⟩
  rw [← hN] at hn ⊢
  rw [← hR]
  have HN := Lib.hid hN
  have HR := Lib.hid hR
  have H := Lib.hid h
  clear hN hR h
  go_enter Try.func52, Try.ntmps52
  go_wp2_with fail
  go_loopw [7] (fun i wr => ∃ k : Nat, i = .int .i64 k ∧ k ≤ N ∧ Hid ((zs.take k).all inNum = true) ∧ After w wr) (fun i _ => N - (intOf i).toNat)
  case atStart => exact ⟨0, rfl, Nat.zero_le _, rfl, After.refl _⟩
  case round =>
    obtain ⟨k, rfl, hk, HE, hA⟩ := hrel
    by_cases hlt : k < N
    · have hkl : k < zs.length := by rw [← HN.out]; exact hlt
      obtain ⟨b, o, cap', hsv, hc⟩ := (H.out.after hA).at k hkl
      injection hsv with e1 e2 e3
      subst e1
      clear e2 e3
      have hnext : (zs.take (k + 1)).all inNum = inNum zs[k] := by
        rw [List.take_succ_eq_append_getElem hkl, List.all_append, HE.out]; simp
      have hno : inNum zs[k] = false → R = false := fun h => by
        rw [HR.out, ← List.take_append_drop (k + 1) zs, List.all_append, hnext, h]; rfl
      generalize zs[k] = z at *
      have hltI : (k : Int) < (N : Int) := by omega
      by_cases h0 : z < 0
      · have HF := Lib.hid (hno (by simp [inNum]; omega))
        clear hno hnext
        go_wp2_with fail
        go_ret
        exact ⟨by rw [HF.out]; rfl, hA⟩
      · by_cases h6 : 60 < z
        · have HF := Lib.hid (hno (by simp [inNum]; omega))
          clear hno hnext
          go_wp2_with fail
          go_ret
          exact ⟨by rw [HF.out]; rfl, hA⟩
        · have HX := Lib.hid (show (zs.take (k + 1)).all inNum = true from hnext.trans (by simp [inNum]; omega))
          clear hno hnext
          go_wp2_with fail
          go_roundw
          case rel => exact ⟨k + 1, by go_num, by omega, HX.out, hA⟩
          case measure => simp [intOf]; omega
    · obtain rfl : k = N := by omega
      have HF := Lib.hid (show R = true by rw [HR.out, ← HE.out, HN.out, List.take_length])
      go_wp2_with fail
      go_ret
      exact ⟨by rw [HF.out]; rfl, hA⟩

def ValPost (w : World) (o : Option (Nat × Nat)) (e : Ending) (w' : World) : Prop :=
  (∃ (v s : Nat) (b : Bool), e = .returned (.tuple #[.int .i64 v, .int .i64 s, .bool b]) ∧ (o = some (v, s) ∧ b = true ∨ o = none ∧ v = 0 ∧ s = 0 ∧ b = false)) ∧ After w w'

theorem ValPost.no {w w' : World} (h : After w w') : ValPost w none (.returned (.tuple #[.int .i64 0, .int .i64 0, .bool false])) w' := ⟨⟨0, 0, false, rfl, Or.inr ⟨rfl, rfl, rfl, rfl⟩⟩, h⟩
theorem ValPost.yes {w w' : World} {v s : Nat} (h : After w w') : ValPost w (some (v, s)) (.returned (.tuple #[.int .i64 v, .int .i64 s, .bool true])) w' := ⟨⟨v, s, true, rfl, Or.inl ⟨rfl, rfl⟩⟩, h⟩

theorem impl_value (w : World) (l : List UInt8) (hl : l.length ≤ 1000000000) (sv : Value) (zs : List Int) (h : IntsZ w sv zs) (hn : zs.length ≤ 1048576) :
    Calls Try.prog 27 #[str l, sv] w (ValPost w (FT.pValue l zs)) := by
  have k1 := readFunction_any w l hl
  obtain ⟨ao, cap, rfl⟩ := h.form
  have H := Lib.hid h
  clear h
  cases hp : FT.parse l with
  | none =>
    have HP := Lib.hid (show FT.pValue l zs = none by simp [FT.pValue, hp])
    rw [hp] at k1
    clear hp
    generalize zs.length = N at *
    go_enter Try.func27, Try.ntmps27
    go_wp2_with fail
    refine k1.mono ?_
    rintro e w2 ⟨v2, rfl, a2, hv2⟩
    clear hv2 k1
    go_wp2_with fail
    go_ret3
    rw [HP.out]
    exact .no a2
  | some t =>
    obtain ⟨hok, _⟩ := FT.parse_facts hp
    have hp2 : FT.pValue l zs = if zs.length = FT.arity t ∧ ∀ a ∈ zs, 0 ≤ a ∧ a ≤ 60 then FT.ev t (zs.map Int.toNat) 0 else none := by simp [FT.pValue, hp]
    rw [hp] at k1
    clear hp
    have hall : (zs.all inNum = true) ↔ ∀ a ∈ zs, 0 ≤ a ∧ a ≤ 60 := by simp [List.all_eq_true, inNum]
    have har := FT.arity_le hok
    obtain ⟨N, hN⟩ : ∃ N, N = zs.length := ⟨_, rfl⟩
    by_cases hla : zs.length = FT.arity t
    · have h3 : N ≤ 3 := by omega
      by_cases hin : zs.all inNum = true
      · have HP := Lib.hid (show FT.pValue l zs = FT.ev t (zs.map Int.toNat) 0 by rw [hp2, if_pos ⟨hla, hall.1 hin⟩])
        have hhave : ∀ W, After w W → Calls Try.prog 52 #[.slice ao zs.length cap] W (BitPost W true) := fun W hW => by
          have := haveNum_any W _ zs (H.out.after hW) hn
          rwa [hin] at this
        have hz0 : ∀ z ∈ zs, 0 ≤ z := fun z hz => (hall.1 hin z hz).1
        have hz6 : ∀ a ∈ zs.map Int.toNat, a ≤ 10000 := fun a ha => by
          obtain ⟨z, hz, rfl⟩ := List.mem_map.1 ha
          have := (hall.1 hin z hz).2
          omega
        have hlm : (zs.map Int.toNat).length = FT.arity t := by rw [List.length_map]; exact hla
        have hreck : ∀ (w2 : World) (b : Nat), CV w2 w.heap.size t (ptr b) → After w w2 → ∀ (W : World), W = w2.alloc (.cells #[.int .i64 0] 84 (0, 0)) →
            Calls Try.prog 53 #[ptr b, ptr w2.heap.size, .slice ao zs.length cap] W (ReckPost W w2.heap.size (FT.ev t (zs.map Int.toNat) 0)) := fun w2 b hb ha W hW => by
          have aW : After w2 W := by rw [hW]; exact After.new _ _
          exact rk_any hok w2 w.heap.size W w2.heap.size 0 _ _ _ hb ⟨aW.size, fun k _ h2 => aW.block k h2⟩ (Nat.le_refl _) (by rw [hW]; exact heap_top _ _) (by omega) (H.out.nats ha.size hz0 (ha.trans aW)) hlm hz6
        have HRECK := Lib.hid hreck
        have hruns := FT.ev_runs t (zs.map Int.toNat) 0
        clear hp2 hall hin hz0 hz6 hlm hreck
        obtain ⟨R, hR⟩ : ∃ R, R = FT.ev t (zs.map Int.toNat) 0 := ⟨_, rfl⟩
        rw [← hR] at hruns
        have HR := Lib.hid hR
        rw [← hN] at *
        have HLA := Lib.hid hla
        clear hN hR hla
        go_enter Try.func27, Try.ntmps27
        go_wp2_with fail
        refine k1.mono ?_
        rintro e w2 ⟨v2, rfl, a2, hv2⟩
        have hcv := hv2 t rfl
        obtain ⟨b, T, x, vf, rfl, _, hh, _, _⟩ := hcv.fields
        have c0 : w2.cell? ⟨b, 0, none⟩ = some (.int .i64 (FT.arity t : Nat)) := cell_of_heap (i := 0) hh
        rw [← HLA.out] at c0
        have HCV := Lib.hid hcv
        clear hv2 k1 hh hcv
        go_wp2_with (go_at_call 52; refine (hhave _ a2).mono ?_; rintro e w3 ⟨rfl, a3⟩)
        have k3 := HRECK.out w3 b (HCV.out.after a3) (a2.trans a3) _ rfl
        rw [← HR.out] at k3
        cases R with
        | none =>
          refine k3.mono ?_
          rintro e w4 ⟨g4, rfl⟩
          have a4 := after_own2 g4
          clear k3
          go_wp2_with fail
          go_ret3
          rw [HP.out, ← HR.out]
          exact .no ((a2.trans a3).trans a4)
        | some p =>
          obtain ⟨v, s'⟩ := p
          have hb := hruns.small _ _ rfl
          refine k3.mono ?_
          rintro e w4 ⟨g4, rfl, hs4⟩
          have a4 := after_own2 g4
          have c4 : w4.cell? ⟨w3.heap.size, 0, none⟩ = some (.int .i64 (s' : Nat)) := cell_of_heap (i := 0) hs4
          clear k3 hs4
          go_wp2_with fail
          go_region
          go_wp2_with fail
          go_ret3
          rw [HP.out, ← HR.out]
          exact .yes ((a2.trans a3).trans (After.drew a4))
      · have HP := Lib.hid (show FT.pValue l zs = none by rw [hp2, if_neg (fun h => hin (hall.2 h.2))])
        have hin' : zs.all inNum = false := by simpa using hin
        have hhave : ∀ W, After w W → Calls Try.prog 52 #[.slice ao zs.length cap] W (BitPost W false) := fun W hW => by
          have := haveNum_any W _ zs (H.out.after hW) hn
          rwa [hin'] at this
        clear hp2 hall hin hin'
        rw [← hN] at *
        have HLA := Lib.hid hla
        clear hN hla
        go_enter Try.func27, Try.ntmps27
        go_wp2_with fail
        refine k1.mono ?_
        rintro e w2 ⟨v2, rfl, a2, hv2⟩
        obtain ⟨b, T, x, vf, rfl, _, hh, _, _⟩ := (hv2 t rfl).fields
        have c0 : w2.cell? ⟨b, 0, none⟩ = some (.int .i64 (FT.arity t : Nat)) := cell_of_heap (i := 0) hh
        rw [← HLA.out] at c0
        clear hv2 k1 hh
        go_wp2_with (go_at_call 52; refine (hhave _ a2).mono ?_; rintro e w3 ⟨rfl, a3⟩)
        go_ret3
        rw [HP.out]
        exact .no (a2.trans a3)
    · have HP := Lib.hid (show FT.pValue l zs = none by rw [hp2, if_neg (fun h => hla h.1)])
      have hne : ((zs.length : Int) != (FT.arity t : Int)) = true := by rw [bne_iff_ne]; omega
      clear hp2 hall hla
      rw [← hN] at *
      go_enter Try.func27, Try.ntmps27
      go_wp2_with fail
      refine k1.mono ?_
      rintro e w2 ⟨v2, rfl, a2, hv2⟩
      obtain ⟨b, T, x, vf, rfl, _, hh, _, _⟩ := (hv2 t rfl).fields
      have c0 : w2.cell? ⟨b, 0, none⟩ = some (.int .i64 (FT.arity t : Nat)) := cell_of_heap (i := 0) hh
      clear hv2 k1 hh
      go_wp2_with fail
      go_ret3
      rw [HP.out]
      exact .no a2
end Go.Proofs.Ytjomocjlnjgkeaa
