/-
  What the laws do with a list of numbers of an argument: toIntS, eqIntS.
-/
import Derived.Test.YtjomocjlnjgkeaaGreatPkBI
import Derived.Test.YtjomocjlnjgkeaaGreatPkBG
import Derived.BigQuiet
import Derived.OwnWalk
import Derived.Laws.OwnMore
import Derived.Test.YtjomocjlnjgkeaaGreatPkBL
import Derived.Test.YtjomocjlnjgkeaaGreatPkBA
import Derived.Test.YtjomocjlnjgkeaaGreatPkBJ
namespace Go.Proofs.YtjomocjlnjgkeaaGreat
open Go.RowKit

set_option maxHeartbeats 1000000
set_option maxRecDepth 100000

/-- A number as a value. -/
abbrev int64 (x : Int) : Value := .int .i64 x

def fillI (n : Nat) (k : Nat) (ns : List Int) : List Value := (ns.take k).map int64 ++ List.replicate (n - k) (int64 0)

theorem fillI_len (n k : Nat) (ns : List Int) (h : ns.length = n) (hk : k ≤ n) : (fillI n k ns).length = n := by
  simp [fillI, h]; omega

theorem fillI_at (n k : Nat) (ns : List Int) (h : ns.length = n) (hk : k < n) : (fillI n k ns)[k]? = some (int64 0) := by
  have e : ((ns.take k).map int64).length = k := by simp; omega
  rw [fillI, List.getElem?_append_right (by omega), e, Nat.sub_self, List.getElem?_replicate]
  simp; omega

theorem fillI_set (n k : Nat) (ns : List Int) (h : ns.length = n) (hk : k < n) : (fillI n k ns).set k (int64 (ns[k]?.getD 0)) = fillI n (k + 1) ns := by
  have e : ((ns.take k).map int64).length = k := by simp; omega
  rw [fillI, List.set_append_right _ _ (by omega), e, Nat.sub_self, show n - k = (n - (k + 1)) + 1 by omega, List.replicate_succ, List.set_cons_zero, fillI]
  have hk' : k < ns.length := by omega
  rw [List.take_add_one, List.getElem?_eq_getElem hk', List.map_append, List.append_assoc]
  rfl

theorem made_fillI (n : Nat) (ns : List Int) : (madeCells (int64 0).cells (n * 1)).toList = fillI n 0 ns := by
  apply List.ext_getElem?
  intro i
  have e : ∀ x : Nat, (#[int64 0] : Array Value)[x % 1]! = int64 0 := fun x => by rw [Nat.mod_one]; rfl
  have e2 : (int64 0).cells = #[int64 0] := rfl
  have e3 : (#[int64 0] : Array Value).size = 1 := rfl
  simp only [madeCells, fillI, e2, e3, e, Array.toList_map, Array.toList_range, List.take_zero, List.map_nil, List.nil_append, Nat.sub_zero, Nat.mul_one]
  rw [List.getElem?_map, List.getElem?_replicate]
  by_cases h : i < n
  · rw [if_pos h, List.getElem?_eq_getElem (by simpa using h)]; rfl
  · rw [if_neg h, List.getElem?_eq_none (by simpa using h)]; rfl

/-- A list of numbers in memory. -/
def IntsZ (w : World) (sv : Value) (zs : List Int) : Prop :=
  (zs = [] ∧ ∃ ao cap, sv = .slice ao 0 cap) ∨ ∃ b o cap, sv = .slice (some ⟨b, o, none⟩) zs.length cap ∧ zs.length ≤ cap ∧ ∀ j, j < zs.length → w.cell? ⟨b, o + j, none⟩ = some (.int .i64 (zs[j]?.getD 0))

theorem IntsZ.form {w : World} {sv : Value} {zs : List Int} (h : IntsZ w sv zs) : ∃ ao cap, sv = .slice ao zs.length cap := by
  rcases h with ⟨rfl, ao, cap, rfl⟩ | ⟨b, o, cap, rfl, _⟩
  · exact ⟨_, _, rfl⟩
  · exact ⟨_, _, rfl⟩
theorem IntsZ.after {w W : World} {sv : Value} {zs : List Int} (h : IntsZ w sv zs) (ha : After w W) : IntsZ W sv zs := by
  rcases h with h | ⟨b, o, cap, hv, hl, hc⟩
  · exact Or.inl h
  · exact Or.inr ⟨b, o, cap, hv, hl, fun j hj => ha.cell (hc j hj)⟩

/-- The slice value of a copy holds these numbers. -/
def HoldI (W : World) (g n : Nat) (ns : List Int) : Prop := g < W.heap.size ∧ ∀ j, j < n → W.cell? ⟨g, 0 + j, none⟩ = some (.int .i64 (ns[j]?.getD 0))

theorem HoldI.later {w W : World} {g n : Nat} {ns : List Int} (h : HoldI w g n ns) (hA : After w W) : HoldI W g n ns :=
  ⟨Nat.lt_of_lt_of_le h.1 hA.size, fun j hj => hA.cell (h.2 j hj)⟩
theorem HoldI.ints {w : World} {g : Nat} {ns : List Int} (h : HoldI w g ns.length ns) : IntsZ w (.slice (some ⟨g, 0, none⟩) ns.length ns.length) ns :=
  Or.inr ⟨g, 0, _, rfl, Nat.le_refl _, h.2⟩

theorem After.grewI {w a b : World} {r : Option Nat} (h : After w a) (hg : a.grownBy b r) (hr : ∀ k, r = some k → w.heap.size ≤ k) : After w b := Below.grown h hg h.size hr

/-- The argument, read at every later world. -/
def ArgI (w : World) (sv : Value) (n : Nat) (Z : Nat → Int) : Prop := (∃ ao cap, sv = .slice ao 0 cap ∧ n = 0) ∨ ∃ b off cap, sv = .slice (some ⟨b, off, none⟩) n cap ∧ ∀ j, j < n → w.cell? ⟨b, off + j, none⟩ = some (.int .i64 (Z j))

end Go.Proofs.YtjomocjlnjgkeaaGreat

namespace Go.Proofs.YtjomocjlnjgkeaaGreat
open Go.RowKit

set_option maxHeartbeats 2000000
set_option maxRecDepth 100000

def inNum (z : Int) : Bool := decide (0 ≤ z) && decide (z ≤ 60)

theorem IntsZ.at {w : World} {sv : Value} {zs : List Int} (h : IntsZ w sv zs) (k : Nat) (hk : k < zs.length) : ∃ b o cap, sv = .slice (some ⟨b, o, none⟩) zs.length cap ∧ w.cell? ⟨b, o + k, none⟩ = some (.int .i64 zs[k]) := by
  rcases h with ⟨h, _⟩ | ⟨b, o, cap, hv, hl, hc⟩
  · rw [h] at hk; simp at hk
  · exact ⟨b, o, cap, hv, by rw [hc k hk, List.getElem?_eq_getElem hk]; rfl⟩

theorem IntsZ.nats {w : World} {rb : Nat} {sv : Value} {zs : List Int} (h : IntsZ w sv zs) (hr : w.heap.size ≤ rb) (ho : ∀ z ∈ zs, 0 ≤ z) {W : World} (hW : After w W) : IntsV W rb sv (zs.map Int.toNat) := by
  rcases h with ⟨rfl, ao, cap, rfl⟩ | ⟨b, o, cap, rfl, hl, hc⟩
  · exact Or.inl ⟨rfl, _, _, rfl⟩
  · by_cases h0 : zs = []
    · subst h0
      exact Or.inl ⟨rfl, _, _, rfl⟩
    · have hpos : 0 < zs.length := List.length_pos_iff.2 h0
      have hb := World.block_lt_of_cell? _ _ (hc 0 hpos)
      have hb' : b < w.heap.size := hb
      refine Or.inr ⟨b, o, cap, by rw [List.length_map], by rw [List.length_map]; exact hl, by omega, Nat.lt_of_lt_of_le hb' hW.size, fun j hj => ?_⟩
      rw [List.length_map] at hj
      rw [hW.cell (hc j hj)]
      have := ho zs[j] (List.getElem_mem hj)
      simp [List.getD_eq_getElem?_getD, List.getElem?_eq_getElem hj]
      omega

theorem haveNum_any (w : World) (sv : Value) (zs : List Int) (h : IntsZ w sv zs) (hn : zs.length ≤ 1048576) :
    Calls Tryz.prog 37 #[sv] w (BitPost w (zs.all inNum)) := by
  obtain ⟨ao, cap, rfl⟩ := h.form
  obtain ⟨N, hN⟩ : ∃ N, N = zs.length := ⟨_, rfl⟩
  obtain ⟨R, hR⟩ : ∃ R, R = zs.all inNum := ⟨_, rfl⟩
  rw [← hN] at hn ⊢
  rw [← hR]
  have HN := Lib.hid hN
  have HR := Lib.hid hR
  have H := Lib.hid h
  clear hN hR h
  go_enter Tryz.func37, Tryz.ntmps37
  go_wp2_with fail
  go_loopw [7] (fun i wr => ∃ k : Nat, i = .int .i64 k ∧ k ≤ N ∧ Hid ((zs.take k).all inNum = true) ∧ After w wr) (fun i _ => N - (intOf i).toNat)
  case atStart => exact ⟨0, rfl, Nat.zero_le _, rfl, After.refl _⟩
  case round =>
    obtain ⟨k, rfl, hk, HE, hA⟩ := hrel
    by_cases hlt : k < N
    · have hkl : k < zs.length := by rw [← HN.out]; exact hlt
      obtain ⟨b, o, cap', hsv, hc⟩ := (H.out.after hA).at k hkl
      injection hsv with e1 e2 e3
      subst e1
      clear e2 e3
      have hnext : (zs.take (k + 1)).all inNum = inNum zs[k] := by
        rw [List.take_succ_eq_append_getElem hkl, List.all_append, HE.out]; simp
      have hno : inNum zs[k] = false → R = false := fun h => by
        rw [HR.out, ← List.take_append_drop (k + 1) zs, List.all_append, hnext, h]; rfl
      generalize zs[k] = z at *
      have hltI : (k : Int) < (N : Int) := by omega
      by_cases h0 : z < 0
      · have HF := Lib.hid (hno (by simp [inNum]; omega))
        clear hno hnext
        go_wp2_with fail
        go_ret
        exact ⟨by rw [HF.out]; rfl, hA⟩
      · by_cases h6 : 60 < z
        · have HF := Lib.hid (hno (by simp [inNum]; omega))
          clear hno hnext
          go_wp2_with fail
          go_ret
          exact ⟨by rw [HF.out]; rfl, hA⟩
        · have HX := Lib.hid (show (zs.take (k + 1)).all inNum = true from hnext.trans (by simp [inNum]; omega))
          clear hno hnext
          go_wp2_with fail
          go_roundw
          case rel => exact ⟨k + 1, by go_num, by omega, HX.out, hA⟩
          case measure => simp [intOf]; omega
    · obtain rfl : k = N := by omega
      have HF := Lib.hid (show R = true by rw [HR.out, ← HE.out, HN.out, List.take_length])
      go_wp2_with fail
      go_ret
      exact ⟨by rw [HF.out]; rfl, hA⟩

def ValPost (w : World) (o : Option (Nat × Nat)) (e : Ending) (w' : World) : Prop :=
  (∃ (v s : Nat) (b : Bool), e = .returned (.tuple #[.int .i64 v, .int .i64 s, .bool b]) ∧ (o = some (v, s) ∧ b = true ∨ o = none ∧ v = 0 ∧ s = 0 ∧ b = false)) ∧ After w w'

theorem ValPost.no {w w' : World} (h : After w w') : ValPost w none (.returned (.tuple #[.int .i64 0, .int .i64 0, .bool false])) w' := ⟨⟨0, 0, false, rfl, Or.inr ⟨rfl, rfl, rfl, rfl⟩⟩, h⟩
theorem ValPost.yes {w w' : World} {v s : Nat} (h : After w w') : ValPost w (some (v, s)) (.returned (.tuple #[.int .i64 v, .int .i64 s, .bool true])) w' := ⟨⟨v, s, true, rfl, Or.inl ⟨rfl, rfl⟩⟩, h⟩

theorem impl_value (w : World) (l : List UInt8) (hl : l.length ≤ 1000000000) (sv : Value) (zs : List Int) (h : IntsZ w sv zs) (hn : zs.length ≤ 1048576) :
    Calls Tryz.prog 15 #[str l, sv] w (ValPost w (FT.pValue l zs)) := by
  have k1 := readFunction_any w l hl
  obtain ⟨ao, cap, rfl⟩ := h.form
  have H := Lib.hid h
  clear h
  cases hp : FT.parse l with
  | none =>
    have HP := Lib.hid (show FT.pValue l zs = none by simp [FT.pValue, hp])
    rw [hp] at k1
    clear hp
    generalize zs.length = N at *
    go_enter Tryz.func15, Tryz.ntmps15
    go_wp2_with fail
    refine k1.mono ?_
    rintro e w2 ⟨v2, rfl, a2, hv2⟩
    clear hv2 k1
    go_wp2_with fail
    go_ret3
    rw [HP.out]
    exact .no a2
  | some t =>
    obtain ⟨hok, _⟩ := FT.parse_facts hp
    have hp2 : FT.pValue l zs = if zs.length = FT.arity t ∧ ∀ a ∈ zs, 0 ≤ a ∧ a ≤ 60 then FT.ev t (zs.map Int.toNat) 0 else none := by simp [FT.pValue, hp]
    rw [hp] at k1
    clear hp
    have hall : (zs.all inNum = true) ↔ ∀ a ∈ zs, 0 ≤ a ∧ a ≤ 60 := by simp [List.all_eq_true, inNum]
    have har := FT.arity_le hok
    obtain ⟨N, hN⟩ : ∃ N, N = zs.length := ⟨_, rfl⟩
    by_cases hla : zs.length = FT.arity t
    · have h3 : N ≤ 3 := by omega
      by_cases hin : zs.all inNum = true
      · have HP := Lib.hid (show FT.pValue l zs = FT.ev t (zs.map Int.toNat) 0 by rw [hp2, if_pos ⟨hla, hall.1 hin⟩])
        have hhave : ∀ W, After w W → Calls Tryz.prog 37 #[.slice ao zs.length cap] W (BitPost W true) := fun W hW => by
          have := haveNum_any W _ zs (H.out.after hW) hn
          rwa [hin] at this
        have hz0 : ∀ z ∈ zs, 0 ≤ z := fun z hz => (hall.1 hin z hz).1
        have hz6 : ∀ a ∈ zs.map Int.toNat, a ≤ 10000 := fun a ha => by
          obtain ⟨z, hz, rfl⟩ := List.mem_map.1 ha
          have := (hall.1 hin z hz).2
          omega
        have hlm : (zs.map Int.toNat).length = FT.arity t := by rw [List.length_map]; exact hla
        have hreck : ∀ (w2 : World) (b : Nat), CV w2 w.heap.size t (ptr b) → After w w2 → ∀ (W : World), W = w2.alloc (.cells #[.int .i64 0] 70 (0, 0)) →
            Calls Tryz.prog 38 #[ptr b, ptr w2.heap.size, .slice ao zs.length cap] W (ReckPost W w2.heap.size (FT.ev t (zs.map Int.toNat) 0)) := fun w2 b hb ha W hW => by
          have aW : After w2 W := by rw [hW]; exact After.new _ _
          exact rk_any hok w2 w.heap.size W w2.heap.size 0 _ _ _ hb ⟨aW.size, fun k _ h2 => aW.block k h2⟩ (Nat.le_refl _) (by rw [hW]; exact heap_top _ _) (by omega) (H.out.nats ha.size hz0 (ha.trans aW)) hlm hz6
        have HRECK := Lib.hid hreck
        have hruns := FT.ev_runs t (zs.map Int.toNat) 0
        clear hp2 hall hin hz0 hz6 hlm hreck
        obtain ⟨R, hR⟩ : ∃ R, R = FT.ev t (zs.map Int.toNat) 0 := ⟨_, rfl⟩
        rw [← hR] at hruns
        have HR := Lib.hid hR
        rw [← hN] at *
        have HLA := Lib.hid hla
        clear hN hR hla
        go_enter Tryz.func15, Tryz.ntmps15
        go_wp2_with fail
        refine k1.mono ?_
        rintro e w2 ⟨v2, rfl, a2, hv2⟩
        have hcv := hv2 t rfl
        obtain ⟨b, T, x, vf, rfl, _, hh, _, _⟩ := hcv.fields
        have c0 : w2.cell? ⟨b, 0, none⟩ = some (.int .i64 (FT.arity t : Nat)) := cell_of_heap (i := 0) hh
        rw [← HLA.out] at c0
        have HCV := Lib.hid hcv
        clear hv2 k1 hh hcv
        go_wp2_with (go_at_call 37; refine (hhave _ a2).mono ?_; rintro e w3 ⟨rfl, a3⟩)
        have k3 := HRECK.out w3 b (HCV.out.after a3) (a2.trans a3) _ rfl
        rw [← HR.out] at k3
        cases R with
        | none =>
          refine k3.mono ?_
          rintro e w4 ⟨g4, rfl⟩
          have a4 := after_own2 g4
          clear k3
          go_wp2_with fail
          go_ret3
          rw [HP.out, ← HR.out]
          exact .no ((a2.trans a3).trans a4)
        | some p =>
          obtain ⟨v, s'⟩ := p
          have hb := hruns.small _ _ rfl
          refine k3.mono ?_
          rintro e w4 ⟨g4, rfl, hs4⟩
          have a4 := after_own2 g4
          have c4 : w4.cell? ⟨w3.heap.size, 0, none⟩ = some (.int .i64 (s' : Nat)) := cell_of_heap (i := 0) hs4
          clear k3 hs4
          go_wp2_with fail
          go_region
          go_wp2_with fail
          go_ret3
          rw [HP.out, ← HR.out]
          exact .yes ((a2.trans a3).trans (After.drew a4))
      · have HP := Lib.hid (show FT.pValue l zs = none by rw [hp2, if_neg (fun h => hin (hall.2 h.2))])
        have hin' : zs.all inNum = false := by simpa using hin
        have hhave : ∀ W, After w W → Calls Tryz.prog 37 #[.slice ao zs.length cap] W (BitPost W false) := fun W hW => by
          have := haveNum_any W _ zs (H.out.after hW) hn
          rwa [hin'] at this
        clear hp2 hall hin hin'
        rw [← hN] at *
        have HLA := Lib.hid hla
        clear hN hla
        go_enter Tryz.func15, Tryz.ntmps15
        go_wp2_with fail
        refine k1.mono ?_
        rintro e w2 ⟨v2, rfl, a2, hv2⟩
        obtain ⟨b, T, x, vf, rfl, _, hh, _, _⟩ := (hv2 t rfl).fields
        have c0 : w2.cell? ⟨b, 0, none⟩ = some (.int .i64 (FT.arity t : Nat)) := cell_of_heap (i := 0) hh
        rw [← HLA.out] at c0
        clear hv2 k1 hh
        go_wp2_with (go_at_call 37; refine (hhave _ a2).mono ?_; rintro e w3 ⟨rfl, a3⟩)
        go_ret3
        rw [HP.out]
        exact .no (a2.trans a3)
    · have HP := Lib.hid (show FT.pValue l zs = none by rw [hp2, if_neg (fun h => hla h.1)])
      have hne : ((zs.length : Int) != (FT.arity t : Int)) = true := by rw [bne_iff_ne]; omega
      clear hp2 hall hla
      rw [← hN] at *
      go_enter Tryz.func15, Tryz.ntmps15
      go_wp2_with fail
      refine k1.mono ?_
      rintro e w2 ⟨v2, rfl, a2, hv2⟩
      obtain ⟨b, T, x, vf, rfl, _, hh, _, _⟩ := (hv2 t rfl).fields
      have c0 : w2.cell? ⟨b, 0, none⟩ = some (.int .i64 (FT.arity t : Nat)) := cell_of_heap (i := 0) hh
      clear hv2 k1 hh
      go_wp2_with fail
      go_ret3
      rw [HP.out]
      exact .no a2
end Go.Proofs.YtjomocjlnjgkeaaGreat

namespace Go.Proofs.YtjomocjlnjgkeaaGreat
open Go.RowKit

set_option maxHeartbeats 1000000
set_option maxRecDepth 100000

/-- A pick that keeps the code. -/
def PickK (w : World) (rb p m : Nat) (v : Value) (e : Ending) (w' : World) : Prop :=
  ∃ k : Nat, k < m ∧ e = .returned (.int .i64 k) ∧ w.grownBy w' (some rb) ∧ DR w' rb v (p + 1) ∧ CodeOk w' rb v

theorem pickk_none (w : World) (rb p : Nat) (a0 : Option Addr) (cap m : Nat) (h : DR w rb (.slice a0 0 cap) p) (hp : p ≤ 1000000) (hm : 1 ≤ m) :
    Calls Tryz.prog 22 #[.pointer (some ⟨rb, 0, none⟩), .int .i64 m] w (PickK w rb p m (.slice a0 0 cap)) := by
  have c0 : w.cell? ⟨rb, 0, none⟩ = some (.slice a0 0 cap) := cell_of_heap h
  have c1 : w.cell? ⟨rb, 1, none⟩ = some (.int .i64 (p : Nat)) := cell_of_heap h
  have f1 : w.frozen? ⟨rb, 1, none⟩ = false := by unfold DR at h; simp [World.frozen?, h]
  have H := Lib.hid h
  clear h
  go_enter Tryz.func22, Tryz.ntmps22
  go_wp2_with fail
  go_ret
  exact ⟨0, by omega, rfl, grown_set1 _ _ _ _, H.out.set (p + 1), Or.inl ⟨_, _, rfl⟩⟩
theorem pickk_in (w : World) (rb p : Nat) (b o n cap m : Nat) (z : Nat → Nat) (h : DR w rb (.slice (some ⟨b, o, none⟩) n cap) p) (hn : n ≤ 2000) (hne : b ≠ rb) (hz : ∀ i, i < n → w.cell? ⟨b, o + i, none⟩ = some (.int .u8 (z i)) ∧ z i ≤ 255) (hp : p < n) (hm : 1 ≤ m) (hm2 : m ≤ 1000) :
    Calls Tryz.prog 22 #[.pointer (some ⟨rb, 0, none⟩), .int .i64 m] w (PickK w rb p m (.slice (some ⟨b, o, none⟩) n cap)) := by
  have c0 : w.cell? ⟨rb, 0, none⟩ = some (.slice (some ⟨b, o, none⟩) n cap) := cell_of_heap h
  have c1 : w.cell? ⟨rb, 1, none⟩ = some (.int .i64 (p : Nat)) := cell_of_heap h
  have f1 : w.frozen? ⟨rb, 1, none⟩ = false := by unfold DR at h; simp [World.frozen?, h]
  have H := Lib.hid h
  obtain ⟨hz1, hz2⟩ := hz p hp
  have hz3 := fun v => (cell_set_other (w := w) (i := o + p) hne v).trans hz1
  have HZ := Lib.hid hz
  have hp' : (p : Int) < (n : Int) := by omega
  have hm' : (1 : Int) ≤ (m : Int) := by omega
  have hn' : ((n : Int) == 0) = false := by rw [beq_eq_false_iff_ne]; omega
  clear h hz
  go_enter Tryz.func22, Tryz.ntmps22
  go_wp2_with fail
  go_ret
  refine ⟨z p % m, Nat.mod_lt _ (by omega), ?_, grown_set1 _ _ _ _, H.out.set (p + 1), Or.inr ⟨b, o, n, cap, by omega, hn, rfl, hne, z, fun i hi => ?_⟩⟩
  · show Ending.returned (.int .i64 _) = _; rfl
  · rw [cell_set_other hne]; exact HZ.out i hi

theorem pickk_past (w : World) (rb p : Nat) (b o n cap m : Nat) (z : Nat → Nat) (h : DR w rb (.slice (some ⟨b, o, none⟩) n cap) p) (hn : n ≤ 2000) (hne : b ≠ rb) (hz : ∀ i, i < n → w.cell? ⟨b, o + i, none⟩ = some (.int .u8 (z i)) ∧ z i ≤ 255) (hp : n ≤ p) (hp2 : p ≤ 1000000) (hn0 : 0 < n) (hm : 1 ≤ m) (hm2 : m ≤ 1000) :
    Calls Tryz.prog 22 #[.pointer (some ⟨rb, 0, none⟩), .int .i64 m] w (PickK w rb p m (.slice (some ⟨b, o, none⟩) n cap)) := by
  have c0 : w.cell? ⟨rb, 0, none⟩ = some (.slice (some ⟨b, o, none⟩) n cap) := cell_of_heap h
  have c1 : w.cell? ⟨rb, 1, none⟩ = some (.int .i64 (p : Nat)) := cell_of_heap h
  have f1 : w.frozen? ⟨rb, 1, none⟩ = false := by unfold DR at h; simp [World.frozen?, h]
  have H := Lib.hid h
  have l1 : p % n < n := Nat.mod_lt _ hn0
  have l2 : (p * 7 + 3) % n < n := Nat.mod_lt _ hn0
  obtain ⟨hz1, hz2⟩ := hz _ l1
  obtain ⟨hy1, hy2⟩ := hz _ l2
  have hz3 := fun v => (cell_set_other (w := w) (i := o + p % n) hne v).trans hz1
  have hy3 := fun v => (cell_set_other (w := w) (i := o + (p * 7 + 3) % n) hne v).trans hy1
  obtain ⟨k, hk, he⟩ := mix_range p n m (z (p % n)) (z ((p * 7 + 3) % n)) hp2 hz2 hy2 hm
  have HE := Lib.hid he
  clear he
  have HZ := Lib.hid hz
  have hp' : ¬ (p : Int) < (n : Int) := by omega
  have hm' : (1 : Int) ≤ (m : Int) := by omega
  have hn' : ((n : Int) == 0) = false := by rw [beq_eq_false_iff_ne]; omega
  have hn1 : ¬ n = 0 := by omega
  have hn2 : (0 : Int) < (n : Int) := by omega
  have q0 : 0 ≤ (p : Int) % (n : Int) := Int.emod_nonneg _ (by omega)
  have q1 : (p : Int) % (n : Int) < (n : Int) := Int.emod_lt_of_pos _ hn2
  have q2 : ((p : Int) % (n : Int)).toNat = p % n := by rw [← Int.natCast_emod]; rfl
  have r0 : 0 ≤ ((p : Int) * 7 + 3) % (n : Int) := Int.emod_nonneg _ (by omega)
  have r1 : ((p : Int) * 7 + 3) % (n : Int) < (n : Int) := Int.emod_lt_of_pos _ hn2
  have r2 : (((p : Int) * 7 + 3) % (n : Int)).toNat = (p * 7 + 3) % n := by
    rw [show ((p : Int) * 7 + 3) = ((p * 7 + 3 : Nat) : Int) by omega, ← Int.natCast_emod]; rfl
  have ht2 : ((p : Int) * 7 + 3).tmod (n : Int) = ((p : Int) * 7 + 3) % (n : Int) := Int.tmod_eq_emod_of_nonneg (by omega)
  clear h hz
  go_enter Tryz.func22, Tryz.ntmps22
  go_wp2_with fail
  go_quiet (fail)
  go_wp2_with fail
  go_ret
  refine ⟨k, hk, ?_, grown_trans (grown_set1 _ _ _ _) (grown_drawn _ rb _), H.out.set (p + 1), Or.inr ⟨b, o, n, cap, by omega, hn, rfl, hne, z, fun i hi => ?_⟩⟩
  · exact congrArg (fun x => Ending.returned (.int .i64 x)) HE.out
  · exact (cell_set_other hne _).trans (HZ.out i hi).1 |> fun h => ⟨h, (HZ.out i hi).2⟩

theorem pickk_any (w : World) (rb p m : Nat) (v : Value) (h : DR w rb v p) (hc : CodeOk w rb v) (hp : p ≤ 1000000) (hm : 1 ≤ m) (hm2 : m ≤ 1000) :
    Calls Tryz.prog 22 #[.pointer (some ⟨rb, 0, none⟩), .int .i64 m] w (PickK w rb p m v) := by
  rcases hc with ⟨a0, cap, rfl⟩ | ⟨b, o, n, cap, hn0, hn, rfl, hne, z, hz⟩
  · exact pickk_none w rb p a0 cap m h hp hm
  · by_cases hlt : p < n
    · exact pickk_in w rb p b o n cap m z h hn hne hz hlt hm hm2
    · exact pickk_past w rb p b o n cap m z h hn hne hz (by omega) hp hn0 hm hm2

theorem CodeOk.grown {w W : World} {rb : Nat} {v : Value} (h : CodeOk w rb v) (hg : w.grownBy W (some rb)) : CodeOk W rb v := by
  rcases h with h | ⟨b, o, n, cap, hn0, hn, rfl, hne, z, hz⟩
  · exact Or.inl h
  · exact Or.inr ⟨b, o, n, cap, hn0, hn, rfl, hne, z, fun i hi => ⟨grown_cell (hz i hi).1 hne hg, (hz i hi).2⟩⟩

/-- Some numbers. -/
def ArgsPost (w : World) (rb p : Nat) (e : Ending) (w' : World) : Prop :=
  ∃ (sv : Value) (zs : List Int) (q : Nat), e = .returned sv ∧ IntsZ w' sv zs ∧ zs.length ≤ 4 ∧ q ≤ p + 40 ∧ w.grownBy w' (some rb) ∧ Dr w' rb q

theorem ints_row {w : World} {base n : Nat} {v : Value} {zs : List Int} (hn : n = zs.length) (h : w.ownsRow base 3 1 v n (zs.map fun x => Value.int .i64 x)) : IntsZ w v zs := by
  subst hn
  rcases h.2 with ⟨h1, h2⟩ | ⟨g, cap, cur, h1, hg, hh, hle, _⟩
  · exact Or.inl ⟨List.length_eq_zero_iff.1 h2, none, 0, h1⟩
  · refine Or.inr ⟨g, 0, cap, h1, hle, fun j hj => ?_⟩
    rw [Nat.zero_add, World.ownsRow.cellAt (h1 ▸ h) j (by omega)]
    simp [List.getElem?_map, List.getElem?_eq_getElem hj]

theorem arity_range (l : List UInt8) : -1 ≤ pArity l ∧ pArity l ≤ 3 := by
  unfold pArity
  cases hp : FT.parse l with
  | none => simp
  | some t =>
    have := FT.arity_le (FT.parse_facts hp).1
    simp only
    omega

theorem args_any (w : World) (rb p m : Nat) (v : Value) (l : List UInt8) (h : DR w rb v p) (hc : CodeOk w rb v) (hp : p ≤ 800000) (hm1 : 1 ≤ m) (hm2 : m ≤ 1000) (hl : l.length ≤ 100000) :
    Calls Tryz.prog 36 #[.pointer (some ⟨rb, 0, none⟩), str l, .int .i64 m] w (ArgsPost w rb p) := by
  have hlt : rb < w.heap.size := (Array.getElem?_eq_some_iff.1 h).1
  obtain ⟨ha1, ha2⟩ := arity_range l
  have k1 := fun W => spec_arity W l (by omega)
  unfold IntPost at k1
  generalize pArity l = a at *
  obtain ⟨W1, hW1⟩ : ∃ W1, W1 = w.alloc (.cells #[] 3) := ⟨_, rfl⟩
  have a1 : After w W1 := by rw [hW1]; exact After.new _ _
  obtain ⟨base, hbase⟩ : ∃ base, base = w.heap.size := ⟨_, rfl⟩
  have hrow : W1.ownsRow base 3 1 (.slice (some ⟨base, 0, none⟩) 0 0) 0 [] := by
    rw [hW1, hbase]
    exact ⟨rfl, Or.inr ⟨w.heap.size, 0, #[], rfl, Nat.le_refl _, heap_top w _, Nat.le_refl _, by unfold maxLen; omega, rfl, rfl⟩⟩
  have hrbb : rb < base := by omega
  have HB := Lib.hid hbase
  have HW1 := Lib.hid hW1
  have HROW := Lib.hid hrow
  have H := Lib.hid h
  have HC := Lib.hid hc
  clear hbase hW1 hrow h hc
  go_enter Tryz.func36, Tryz.ntmps36
  go_wp2_with fail
  rw [← HW1.out]
  refine (k1 W1).mono ?_
  rintro e w2 ⟨rfl, a2⟩
  have a12 := a1.trans a2
  have kp := pickk_any w2 rb p 20 v (a12.heap H.out) (HC.out.grown (after_grown rb a12)) (by omega) (by decide) (by decide)
  clear k1
  go_wp2_with fail
  refine kp.mono ?_
  rintro e w3 ⟨k0, hk0, rfl, g3, d3, c3⟩
  have HG3 := Lib.hid (grown_trans (after_grown rb a12) g3)
  have HD3 := Lib.hid d3
  have HROW3 : Hid (w3.ownsRow base 3 1 (.slice (some ⟨w.heap.size, 0, none⟩) 0 0) 0 (([] : List Int).map fun x => Value.int .i64 x)) := by
    have h1 : w2.ownsRow base 3 1 (.slice (some ⟨base, 0, none⟩) 0 0) 0 [] := HROW.out.kept (row := none) ⟨a2.os, a2.tape, a2.output, a2.size, fun b hb _ => a2.block b hb⟩ (Or.inr (fun e => by cases e))
    have h2 : w3.ownsRow base 3 1 (.slice (some ⟨base, 0, none⟩) 0 0) 0 [] := h1.kept g3 (Or.inr (fun e => by injection e with e; have e' : base = rb := e; omega))
    rw [HB.out] at h2 ⊢
    exact h2
  clear kp g3 d3 c3
  by_cases k0z : k0 = 0
  · subst k0z
    go_wp2_with fail
    go_loopw [7, 9] (fun vs i wr => ∃ (k q : Nat) (xs : List Int), i = .int .i64 (k : Nat) ∧ k ≤ 4 ∧ q ≤ p + 1 + k ∧ Hid (wr.ownsRow base 3 1 vs k (xs.map fun x => Value.int .i64 x)) ∧ Hid (DR wr rb v q) ∧ Hid (w.grownBy wr (some rb))) (fun _ i _ => 5 - (intOf i).toNat)
    case atStart => exact ⟨0, p + 1, [], rfl, by omega, by omega, HROW3.out, HD3.out, HG3.out⟩
    case round =>
      obtain ⟨k, q, xs, rfl, hk, hq, HO, HDR, HG⟩ := hrel
      obtain ⟨bo, bc, rfl⟩ := o_slice_len HO.out
      have hxl : xs.length = k := by have := HO.out.1; simp at this; omega
      have hcr := HC.out.grown HG.out
      by_cases hlt : (k : Int) < a + 1
      · have kp5 := pickk_any wr rb q m v HDR.out hcr (by omega) hm1 hm2
        go_wp2_with fail
        refine kp5.mono ?_
        rintro e w5 ⟨x, hx, rfl, g5, d5, c5⟩
        have hg0 := grown_trans HG.out g5
        have hO1 : w5.ownsRow base 3 1 (.slice bo k bc) k (xs.map fun x => Value.int .i64 x) := HO.out.kept g5 (by
          cases hv : (Value.slice bo k bc).ownBlock with
          | none => exact Or.inl rfl
          | some g => exact Or.inr (fun e => by injection e with e; have := (HO.out.lt g hv).1; omega))
        obtain ⟨i0, hi0, hz0, hz1, hz2⟩ : ∃ i, (Tryz.prog).info? 3 = some i ∧ i.zero = some (.int .i64 0) ∧ i.size = 1 ∧ i.bytes = 8 := ⟨_, rfl, rfl, rfl, rfl⟩
        have hun : Tryz.prog.underlying 30 = some (.slice 3) := by kernel_rfl
        have hown := World.ownsRow.alloc hO1 (.cells #[.int .i64 (x : Nat)] 3)
        have hnew : ∀ j u, [Value.int .i64 (x : Nat)][j]? = some u → (w5.alloc (.cells #[.int .i64 (x : Nat)] 3)).cell? ((⟨w5.heap.size, 0, none⟩ : Addr).add j) = some u := fun j u h => by
          match j with
          | 0 =>
            simp at h
            subst h
            rw [show ((⟨w5.heap.size, 0, none⟩ : Addr).add 0) = ⟨w5.heap.size, 0, none⟩ from rfl, cell_of_heap (heap_top w5 (.cells #[.int .i64 (x : Nat)] 3))]
            rfl
          | j + 1 => simp at h
        have hone : ∀ u ∈ [Value.int .i64 (x : Nat)], u.oneCell' = true := by simp [Value.oneCell']
        have hmax : k + 1 ≤ maxLen := by unfold maxLen; omega
        have hm8 : (k + 1) * 8 ≤ 140737488355328 := by omega
        have hb1 : base ≤ w5.heap.size := by rw [HB.out]; exact hg0.size
        have hsz : base ≤ (w5.alloc (.cells #[.int .i64 (x : Nat)] 3)).heap.size := by simp; omega
        have HG0 := Lib.hid hg0
        have HD5 := Lib.hid d5
        clear kp5 g5 d5 c5 hO1 hg0 hcr hxl
        go_wp2_with (at_builtin; refine wpList_append_own _ rfl _ _ 30 rfl base 3 i0 (.int .i64 0) 1 8 hun hi0 hz0 hz1 hz2 rfl (by decide) _ _ _ rfl hown ⟨w5.heap.size, 0, none⟩ 1 1 [.int .i64 (x : Nat)] rfl rfl hnew hone hmax hm8 hsz ?_; intro v6 w6 ho6 hg6 hiff; clear hiff; obtain ⟨co, cn, cc, rfl⟩ := o_slice ho6; have HO6 := Lib.hid ho6; have HG6 := Lib.hid hg6; clear ho6 hg6)
        go_roundw
        case measure => simp [intOf]; omega
        case rel =>
          have hlow : ∀ g, (Value.slice bo k bc).ownBlock = some g → base ≤ g := fun g hg => (hown.lt g hg).1
          have h5lt : rb < w5.heap.size := (Array.getElem?_eq_some_iff.1 HD5.out).1
          have hbe := HB.out
          have hg02 : w.grownBy w6 (some rb) := by
            have h45 := HG0.out
            have h45s := h45.size
            refine ⟨HG6.out.os.trans h45.os, HG6.out.tape.trans h45.tape, HG6.out.output.trans h45.output, by have := HG6.out.size; simp at *; omega, fun q hq hne => ?_⟩
            rw [HG6.out.block q (by simp; omega) (fun e => by have := hlow q e.symm; omega)]
            rw [(below_new w5 _).block q (by omega)]
            exact h45.block q hq hne
          have h6 := HG6.out.block rb (by simp; omega) (fun e => by have := hlow rb e.symm; omega)
          have h7 := (below_new w5 (.cells #[.int .i64 (x : Nat)] 3)).block rb h5lt
          exact ⟨k + 1, q + 1, xs ++ [(x : Int)], by go_num, by omega, by omega, by show World.ownsRow _ _ _ _ _ _ _; simpa using HO6.out, (h6.trans h7).trans HD5.out, hg02⟩
      · have hfin : ∀ W, w.grownBy W (some rb) → W.ownsRow base 3 1 (.slice bo k bc) k (xs.map fun x => Value.int .i64 x) → ∀ q', q' ≤ p + 40 → DR W rb v q' → ArgsPost w rb p (.returned (.slice bo k bc)) W := fun W h1 h2 q' h3 h4 => ⟨_, xs, q', rfl, ints_row hxl.symm h2, by omega, h3, h1, v, h4, HC.out.grown h1⟩
        have HFIN := Lib.hid hfin
        clear hfin
        by_cases hk0' : k = 0
        · subst hk0'
          go_wp2_with fail
          go_ret
          exact HFIN.out _ HG.out HO.out _ (by omega) HDR.out
        · have hkp : (0 : Int) < (k : Int) := by omega
          have kp7 := pickk_any wr rb q 20 v HDR.out hcr (by omega) (by decide) (by decide)
          go_wp2_with fail
          refine kp7.mono ?_
          rintro e w7 ⟨y, hy, rfl, g7, d7, c7⟩
          have hO7 : w7.ownsRow base 3 1 (.slice bo k bc) k (xs.map fun x => Value.int .i64 x) := HO.out.kept g7 (by
            cases hv : (Value.slice bo k bc).ownBlock with
            | none => exact Or.inl rfl
            | some g => exact Or.inr (fun e => by injection e with e; have := (HO.out.lt g hv).1; omega))
          have HG7 := Lib.hid (grown_trans HG.out g7)
          have HO7 := Lib.hid hO7
          have HD7 := Lib.hid d7
          have HC7 := Lib.hid c7
          clear kp7 g7 d7 c7 hO7
          by_cases hy0 : y = 0
          · subst hy0
            obtain ⟨W8, hW8⟩ : ∃ W8, W8 = w7.alloc (.cells #[.int .i64 (-1), .int .i64 61] 3) := ⟨_, rfl⟩
            have a8 : After w7 W8 := by rw [hW8]; exact After.new _ _
            have hh8 : W8.heap[w7.heap.size]? = some (.cells #[.int .i64 (-1), .int .i64 61] 3 (0, 0)) := by rw [hW8]; exact heap_top _ _
            have kp9 := pickk_any W8 rb (q + 1) 2 v (a8.heap HD7.out) (HC7.out.grown (after_grown rb a8)) (by omega) (by decide) (by decide)
            have HW8 := Lib.hid hW8
            have HH8 := Lib.hid hh8
            clear hW8 hh8
            go_wp2_with fail
            rw [← HW8.out]
            refine kp9.mono ?_
            rintro e w9 ⟨z, hz, rfl, g9, d9, c9⟩
            have h7lt : rb < w7.heap.size := (Array.getElem?_eq_some_iff.1 HD7.out).1
            have x0 : w9.cell? ⟨w7.heap.size, 0, none⟩ = some (.int .i64 (-1)) := grown_cell (cell_of_heap (i := 0) HH8.out) (by omega) g9
            have x1 : w9.cell? ⟨w7.heap.size, 1, none⟩ = some (.int .i64 61) := grown_cell (cell_of_heap (i := 1) HH8.out) (by omega) g9
            have g79 := grown_trans (after_grown rb a8) g9
            have hO9 : w9.ownsRow base 3 1 (.slice bo k bc) k (xs.map fun x => Value.int .i64 x) := HO7.out.kept g79 (by
              cases hv : (Value.slice bo k bc).ownBlock with
              | none => exact Or.inl rfl
              | some g => exact Or.inr (fun e => by injection e with e; have := (HO.out.lt g hv).1; omega))
            rcases hO9.2 with ⟨hn, _⟩ | ⟨gb, cap', cur, hvv, hgb, _, _⟩
            · injection hn with _ hn _; omega
            injection hvv with e1 e2 e3
            subst e1
            subst e3
            have hfz := hO9.frozenAt 0
            have hcl := hO9.cellAt 0 (by omega)
            obtain ⟨x00, hx00⟩ : ∃ u, (xs.map fun x => Value.int .i64 x)[0]? = some u := ⟨_, List.getElem?_eq_getElem (by simp; omega)⟩
            rw [hx00] at hcl
            have HO9 := Lib.hid hO9
            have HG9 := Lib.hid (grown_trans HG7.out g79)
            have HD9 := Lib.hid d9
            have hgr : gb ≠ rb := by omega
            have hstore : ∀ c : Int, ArgsPost w rb p (.returned (.slice (some ⟨gb, 0, none⟩) k bc)) (w9.setCell ⟨gb, 0, none⟩ (.int .i64 c)) := fun c => by
              have h := (HO9.out.stored 0 (.int .i64 c)).1
              have h2 : (xs.map fun x => Value.int .i64 x).set 0 (.int .i64 c) = (xs.set 0 c).map fun x => Value.int .i64 x := by rw [List.map_set]
              rw [h2] at h
              have hgs : w.grownBy (w9.setCell ⟨gb, 0, none⟩ (.int .i64 c)) (some rb) := by
                have g := HG9.out
                refine ⟨g.os, g.tape, g.output, by have := g.size; simp [World.setCell]; omega, fun b hb hne => ?_⟩
                rw [Below.heap_setCell _ _ _ _ (show b ≠ gb by have := HB.out; omega)]
                exact g.block b hb hne
              refine ⟨_, xs.set 0 c, q + 1 + 1, rfl, ints_row (by simp; omega) h, by simp; omega, by omega, hgs, v, ?_, HC.out.grown hgs⟩
              show (w9.setCell ⟨gb, 0, none⟩ (.int .i64 c)).heap[rb]? = _
              rw [Below.heap_setCell _ _ _ _ (show rb ≠ gb by omega)]
              exact HD9.out
            have HST := Lib.hid hstore
            clear hstore g79 g9 d9 c9 hO9 kp9 a8
            have hz2 : z = 0 ∨ z = 1 := by omega
            rcases hz2 with rfl | rfl
            · go_wp2_with fail
              go_ret
              exact HST.out _
            · go_wp2_with fail
              go_ret
              exact HST.out _
          · have hyb : ((y : Int) == 0) = false := by rw [beq_eq_false_iff_ne]; omega
            go_wp2_with fail
            go_ret
            exact HFIN.out _ HG7.out HO7.out _ (by omega) HD7.out
  · have k0b : ((k0 : Int) == 0) = false := by rw [beq_eq_false_iff_ne]; omega
    go_wp2_with fail
    go_loopw [7, 9] (fun vs i wr => ∃ (k q : Nat) (xs : List Int), i = .int .i64 (k : Nat) ∧ k ≤ 4 ∧ q ≤ p + 1 + k ∧ Hid (wr.ownsRow base 3 1 vs k (xs.map fun x => Value.int .i64 x)) ∧ Hid (DR wr rb v q) ∧ Hid (w.grownBy wr (some rb))) (fun _ i _ => 5 - (intOf i).toNat)
    case atStart => exact ⟨0, p + 1, [], rfl, by omega, by omega, HROW3.out, HD3.out, HG3.out⟩
    case round =>
      obtain ⟨k, q, xs, rfl, hk, hq, HO, HDR, HG⟩ := hrel
      obtain ⟨bo, bc, rfl⟩ := o_slice_len HO.out
      have hxl : xs.length = k := by have := HO.out.1; simp at this; omega
      have hcr := HC.out.grown HG.out
      by_cases hlt : (k : Int) < a
      · have kp5 := pickk_any wr rb q m v HDR.out hcr (by omega) hm1 hm2
        go_wp2_with fail
        refine kp5.mono ?_
        rintro e w5 ⟨x, hx, rfl, g5, d5, c5⟩
        have hg0 := grown_trans HG.out g5
        have hO1 : w5.ownsRow base 3 1 (.slice bo k bc) k (xs.map fun x => Value.int .i64 x) := HO.out.kept g5 (by
          cases hv : (Value.slice bo k bc).ownBlock with
          | none => exact Or.inl rfl
          | some g => exact Or.inr (fun e => by injection e with e; have := (HO.out.lt g hv).1; omega))
        obtain ⟨i0, hi0, hz0, hz1, hz2⟩ : ∃ i, (Tryz.prog).info? 3 = some i ∧ i.zero = some (.int .i64 0) ∧ i.size = 1 ∧ i.bytes = 8 := ⟨_, rfl, rfl, rfl, rfl⟩
        have hun : Tryz.prog.underlying 30 = some (.slice 3) := by kernel_rfl
        have hown := World.ownsRow.alloc hO1 (.cells #[.int .i64 (x : Nat)] 3)
        have hnew : ∀ j u, [Value.int .i64 (x : Nat)][j]? = some u → (w5.alloc (.cells #[.int .i64 (x : Nat)] 3)).cell? ((⟨w5.heap.size, 0, none⟩ : Addr).add j) = some u := fun j u h => by
          match j with
          | 0 =>
            simp at h
            subst h
            rw [show ((⟨w5.heap.size, 0, none⟩ : Addr).add 0) = ⟨w5.heap.size, 0, none⟩ from rfl, cell_of_heap (heap_top w5 (.cells #[.int .i64 (x : Nat)] 3))]
            rfl
          | j + 1 => simp at h
        have hone : ∀ u ∈ [Value.int .i64 (x : Nat)], u.oneCell' = true := by simp [Value.oneCell']
        have hmax : k + 1 ≤ maxLen := by unfold maxLen; omega
        have hm8 : (k + 1) * 8 ≤ 140737488355328 := by omega
        have hb1 : base ≤ w5.heap.size := by rw [HB.out]; exact hg0.size
        have hsz : base ≤ (w5.alloc (.cells #[.int .i64 (x : Nat)] 3)).heap.size := by simp; omega
        have HG0 := Lib.hid hg0
        have HD5 := Lib.hid d5
        clear kp5 g5 d5 c5 hO1 hg0 hcr hxl
        go_wp2_with (at_builtin; refine wpList_append_own _ rfl _ _ 30 rfl base 3 i0 (.int .i64 0) 1 8 hun hi0 hz0 hz1 hz2 rfl (by decide) _ _ _ rfl hown ⟨w5.heap.size, 0, none⟩ 1 1 [.int .i64 (x : Nat)] rfl rfl hnew hone hmax hm8 hsz ?_; intro v6 w6 ho6 hg6 hiff; clear hiff; obtain ⟨co, cn, cc, rfl⟩ := o_slice ho6; have HO6 := Lib.hid ho6; have HG6 := Lib.hid hg6; clear ho6 hg6)
        go_roundw
        case measure => simp [intOf]; omega
        case rel =>
          have hlow : ∀ g, (Value.slice bo k bc).ownBlock = some g → base ≤ g := fun g hg => (hown.lt g hg).1
          have h5lt : rb < w5.heap.size := (Array.getElem?_eq_some_iff.1 HD5.out).1
          have hbe := HB.out
          have hg02 : w.grownBy w6 (some rb) := by
            have h45 := HG0.out
            have h45s := h45.size
            refine ⟨HG6.out.os.trans h45.os, HG6.out.tape.trans h45.tape, HG6.out.output.trans h45.output, by have := HG6.out.size; simp at *; omega, fun q hq hne => ?_⟩
            rw [HG6.out.block q (by simp; omega) (fun e => by have := hlow q e.symm; omega)]
            rw [(below_new w5 _).block q (by omega)]
            exact h45.block q hq hne
          have h6 := HG6.out.block rb (by simp; omega) (fun e => by have := hlow rb e.symm; omega)
          have h7 := (below_new w5 (.cells #[.int .i64 (x : Nat)] 3)).block rb h5lt
          exact ⟨k + 1, q + 1, xs ++ [(x : Int)], by go_num, by omega, by omega, by show World.ownsRow _ _ _ _ _ _ _; simpa using HO6.out, (h6.trans h7).trans HD5.out, hg02⟩
      · have hfin : ∀ W, w.grownBy W (some rb) → W.ownsRow base 3 1 (.slice bo k bc) k (xs.map fun x => Value.int .i64 x) → ∀ q', q' ≤ p + 40 → DR W rb v q' → ArgsPost w rb p (.returned (.slice bo k bc)) W := fun W h1 h2 q' h3 h4 => ⟨_, xs, q', rfl, ints_row hxl.symm h2, by omega, h3, h1, v, h4, HC.out.grown h1⟩
        have HFIN := Lib.hid hfin
        clear hfin
        by_cases hk0' : k = 0
        · subst hk0'
          go_wp2_with fail
          go_ret
          exact HFIN.out _ HG.out HO.out _ (by omega) HDR.out
        · have hkp : (0 : Int) < (k : Int) := by omega
          have kp7 := pickk_any wr rb q 20 v HDR.out hcr (by omega) (by decide) (by decide)
          go_wp2_with fail
          refine kp7.mono ?_
          rintro e w7 ⟨y, hy, rfl, g7, d7, c7⟩
          have hO7 : w7.ownsRow base 3 1 (.slice bo k bc) k (xs.map fun x => Value.int .i64 x) := HO.out.kept g7 (by
            cases hv : (Value.slice bo k bc).ownBlock with
            | none => exact Or.inl rfl
            | some g => exact Or.inr (fun e => by injection e with e; have := (HO.out.lt g hv).1; omega))
          have HG7 := Lib.hid (grown_trans HG.out g7)
          have HO7 := Lib.hid hO7
          have HD7 := Lib.hid d7
          have HC7 := Lib.hid c7
          clear kp7 g7 d7 c7 hO7
          by_cases hy0 : y = 0
          · subst hy0
            obtain ⟨W8, hW8⟩ : ∃ W8, W8 = w7.alloc (.cells #[.int .i64 (-1), .int .i64 61] 3) := ⟨_, rfl⟩
            have a8 : After w7 W8 := by rw [hW8]; exact After.new _ _
            have hh8 : W8.heap[w7.heap.size]? = some (.cells #[.int .i64 (-1), .int .i64 61] 3 (0, 0)) := by rw [hW8]; exact heap_top _ _
            have kp9 := pickk_any W8 rb (q + 1) 2 v (a8.heap HD7.out) (HC7.out.grown (after_grown rb a8)) (by omega) (by decide) (by decide)
            have HW8 := Lib.hid hW8
            have HH8 := Lib.hid hh8
            clear hW8 hh8
            go_wp2_with fail
            rw [← HW8.out]
            refine kp9.mono ?_
            rintro e w9 ⟨z, hz, rfl, g9, d9, c9⟩
            have h7lt : rb < w7.heap.size := (Array.getElem?_eq_some_iff.1 HD7.out).1
            have x0 : w9.cell? ⟨w7.heap.size, 0, none⟩ = some (.int .i64 (-1)) := grown_cell (cell_of_heap (i := 0) HH8.out) (by omega) g9
            have x1 : w9.cell? ⟨w7.heap.size, 1, none⟩ = some (.int .i64 61) := grown_cell (cell_of_heap (i := 1) HH8.out) (by omega) g9
            have g79 := grown_trans (after_grown rb a8) g9
            have hO9 : w9.ownsRow base 3 1 (.slice bo k bc) k (xs.map fun x => Value.int .i64 x) := HO7.out.kept g79 (by
              cases hv : (Value.slice bo k bc).ownBlock with
              | none => exact Or.inl rfl
              | some g => exact Or.inr (fun e => by injection e with e; have := (HO.out.lt g hv).1; omega))
            rcases hO9.2 with ⟨hn, _⟩ | ⟨gb, cap', cur, hvv, hgb, _, _⟩
            · injection hn with _ hn _; omega
            injection hvv with e1 e2 e3
            subst e1
            subst e3
            have hfz := hO9.frozenAt 0
            have hcl := hO9.cellAt 0 (by omega)
            obtain ⟨x00, hx00⟩ : ∃ u, (xs.map fun x => Value.int .i64 x)[0]? = some u := ⟨_, List.getElem?_eq_getElem (by simp; omega)⟩
            rw [hx00] at hcl
            have HO9 := Lib.hid hO9
            have HG9 := Lib.hid (grown_trans HG7.out g79)
            have HD9 := Lib.hid d9
            have hgr : gb ≠ rb := by omega
            have hstore : ∀ c : Int, ArgsPost w rb p (.returned (.slice (some ⟨gb, 0, none⟩) k bc)) (w9.setCell ⟨gb, 0, none⟩ (.int .i64 c)) := fun c => by
              have h := (HO9.out.stored 0 (.int .i64 c)).1
              have h2 : (xs.map fun x => Value.int .i64 x).set 0 (.int .i64 c) = (xs.set 0 c).map fun x => Value.int .i64 x := by rw [List.map_set]
              rw [h2] at h
              have hgs : w.grownBy (w9.setCell ⟨gb, 0, none⟩ (.int .i64 c)) (some rb) := by
                have g := HG9.out
                refine ⟨g.os, g.tape, g.output, by have := g.size; simp [World.setCell]; omega, fun b hb hne => ?_⟩
                rw [Below.heap_setCell _ _ _ _ (show b ≠ gb by have := HB.out; omega)]
                exact g.block b hb hne
              refine ⟨_, xs.set 0 c, q + 1 + 1, rfl, ints_row (by simp; omega) h, by simp; omega, by omega, hgs, v, ?_, HC.out.grown hgs⟩
              show (w9.setCell ⟨gb, 0, none⟩ (.int .i64 c)).heap[rb]? = _
              rw [Below.heap_setCell _ _ _ _ (show rb ≠ gb by omega)]
              exact HD9.out
            have HST := Lib.hid hstore
            clear hstore g79 g9 d9 c9 hO9 kp9 a8
            have hz2 : z = 0 ∨ z = 1 := by omega
            rcases hz2 with rfl | rfl
            · go_wp2_with fail
              go_ret
              exact HST.out _
            · go_wp2_with fail
              go_ret
              exact HST.out _
          · have hyb : ((y : Int) == 0) = false := by rw [beq_eq_false_iff_ne]; omega
            go_wp2_with fail
            go_ret
            exact HFIN.out _ HG7.out HO7.out _ (by omega) HD7.out
end Go.Proofs.YtjomocjlnjgkeaaGreat
