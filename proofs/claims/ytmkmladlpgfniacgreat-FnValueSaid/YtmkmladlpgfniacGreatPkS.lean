/-
  The drawing of inputs: arguments of function texts.
-/
import Derived.Test.YtmkmladlpgfniacGreatPkQ
import Derived.Test.YtmkmladlpgfniacGreatPkJ
import Derived.Test.YtmkmladlpgfniacGreatPkG
import Derived.Test.YtmkmladlpgfniacGreatPkC
namespace Go.Proofs.YtmkmladlpgfniacGreat
open Go.RowKit

set_option maxHeartbeats 1000000
set_option maxRecDepth 100000

/-- A pick that keeps the code. -/
def PickK (w : World) (rb p m : Nat) (v : Value) (e : Ending) (w' : World) : Prop :=
  ∃ k : Nat, k < m ∧ e = .returned (.int .i64 k) ∧ w.grownBy w' (some rb) ∧ DR w' rb v (p + 1) ∧ CodeOk w' rb v

theorem pickk_none (w : World) (rb p : Nat) (a0 : Option Addr) (cap m : Nat) (h : DR w rb (.slice a0 0 cap) p) (hp : p ≤ 1000000) (hm : 1 ≤ m) :
    Calls Tryz.prog 62 #[.pointer (some ⟨rb, 0, none⟩), .int .i64 m] w (PickK w rb p m (.slice a0 0 cap)) := by
  have c0 : w.cell? ⟨rb, 0, none⟩ = some (.slice a0 0 cap) := cell_of_heap h
  have c1 : w.cell? ⟨rb, 1, none⟩ = some (.int .i64 (p : Nat)) := cell_of_heap h
  have f1 : w.frozen? ⟨rb, 1, none⟩ = false := by unfold DR at h; simp [World.frozen?, h]
  have H := Lib.hid h
  clear h
  go_enter Tryz.func62, Tryz.ntmps62
  go_wp2_with fail
  go_ret
  exact ⟨0, by omega, rfl, grown_set1 _ _ _ _, H.out.set (p + 1), Or.inl ⟨_, _, rfl⟩⟩
theorem pickk_in (w : World) (rb p : Nat) (b o n cap m : Nat) (z : Nat → Nat) (h : DR w rb (.slice (some ⟨b, o, none⟩) n cap) p) (hn : n ≤ 2000) (hne : b ≠ rb) (hz : ∀ i, i < n → w.cell? ⟨b, o + i, none⟩ = some (.int .u8 (z i)) ∧ z i ≤ 255) (hp : p < n) (hm : 1 ≤ m) (hm2 : m ≤ 1000) :
    Calls Tryz.prog 62 #[.pointer (some ⟨rb, 0, none⟩), .int .i64 m] w (PickK w rb p m (.slice (some ⟨b, o, none⟩) n cap)) := by
  have c0 : w.cell? ⟨rb, 0, none⟩ = some (.slice (some ⟨b, o, none⟩) n cap) := cell_of_heap h
  have c1 : w.cell? ⟨rb, 1, none⟩ = some (.int .i64 (p : Nat)) := cell_of_heap h
  have f1 : w.frozen? ⟨rb, 1, none⟩ = false := by unfold DR at h; simp [World.frozen?, h]
  have H := Lib.hid h
  obtain ⟨hz1, hz2⟩ := hz p hp
  have hz3 := fun v => (cell_set_other (w := w) (i := o + p) hne v).trans hz1
  have HZ := Lib.hid hz
  have hp' : (p : Int) < (n : Int) := by omega
  have hm' : (1 : Int) ≤ (m : Int) := by omega
  have hn' : ((n : Int) == 0) = false := by rw [beq_eq_false_iff_ne]; omega
  clear h hz
  go_enter Tryz.func62, Tryz.ntmps62
  go_wp2_with fail
  go_ret
  refine ⟨z p % m, Nat.mod_lt _ (by omega), ?_, grown_set1 _ _ _ _, H.out.set (p + 1), Or.inr ⟨b, o, n, cap, by omega, hn, rfl, hne, z, fun i hi => ?_⟩⟩
  · show Ending.returned (.int .i64 _) = _; rfl
  · rw [cell_set_other hne]; exact HZ.out i hi

theorem pickk_past (w : World) (rb p : Nat) (b o n cap m : Nat) (z : Nat → Nat) (h : DR w rb (.slice (some ⟨b, o, none⟩) n cap) p) (hn : n ≤ 2000) (hne : b ≠ rb) (hz : ∀ i, i < n → w.cell? ⟨b, o + i, none⟩ = some (.int .u8 (z i)) ∧ z i ≤ 255) (hp : n ≤ p) (hp2 : p ≤ 1000000) (hn0 : 0 < n) (hm : 1 ≤ m) (hm2 : m ≤ 1000) :
    Calls Tryz.prog 62 #[.pointer (some ⟨rb, 0, none⟩), .int .i64 m] w (PickK w rb p m (.slice (some ⟨b, o, none⟩) n cap)) := by
  have c0 : w.cell? ⟨rb, 0, none⟩ = some (.slice (some ⟨b, o, none⟩) n cap) := cell_of_heap h
  have c1 : w.cell? ⟨rb, 1, none⟩ = some (.int .i64 (p : Nat)) := cell_of_heap h
  have f1 : w.frozen? ⟨rb, 1, none⟩ = false := by unfold DR at h; simp [World.frozen?, h]
  have H := Lib.hid h
  have l1 : p % n < n := Nat.mod_lt _ hn0
  have l2 : (p * 7 + 3) % n < n := Nat.mod_lt _ hn0
  obtain ⟨hz1, hz2⟩ := hz _ l1
  obtain ⟨hy1, hy2⟩ := hz _ l2
  have hz3 := fun v => (cell_set_other (w := w) (i := o + p % n) hne v).trans hz1
  have hy3 := fun v => (cell_set_other (w := w) (i := o + (p * 7 + 3) % n) hne v).trans hy1
  obtain ⟨k, hk, he⟩ := mix_range p n m (z (p % n)) (z ((p * 7 + 3) % n)) hp2 hz2 hy2 hm
  have HE := Lib.hid he
  clear he
  have HZ := Lib.hid hz
  have hp' : ¬ (p : Int) < (n : Int) := by omega
  have hm' : (1 : Int) ≤ (m : Int) := by omega
  have hn' : ((n : Int) == 0) = false := by rw [beq_eq_false_iff_ne]; omega
  have hn1 : ¬ n = 0 := by omega
  have hn2 : (0 : Int) < (n : Int) := by omega
  have q0 : 0 ≤ (p : Int) % (n : Int) := Int.emod_nonneg _ (by omega)
  have q1 : (p : Int) % (n : Int) < (n : Int) := Int.emod_lt_of_pos _ hn2
  have q2 : ((p : Int) % (n : Int)).toNat = p % n := by rw [← Int.natCast_emod]; rfl
  have r0 : 0 ≤ ((p : Int) * 7 + 3) % (n : Int) := Int.emod_nonneg _ (by omega)
  have r1 : ((p : Int) * 7 + 3) % (n : Int) < (n : Int) := Int.emod_lt_of_pos _ hn2
  have r2 : (((p : Int) * 7 + 3) % (n : Int)).toNat = (p * 7 + 3) % n := by
    rw [show ((p : Int) * 7 + 3) = ((p * 7 + 3 : Nat) : Int) by omega, ← Int.natCast_emod]; rfl
  have ht2 : ((p : Int) * 7 + 3).tmod (n : Int) = ((p : Int) * 7 + 3) % (n : Int) := Int.tmod_eq_emod_of_nonneg (by omega)
  clear h hz
  go_enter Tryz.func62, Tryz.ntmps62
  go_wp2_with fail
  go_quiet (fail)
  go_wp2_with fail
  go_ret
  refine ⟨k, hk, ?_, grown_trans (grown_set1 _ _ _ _) (grown_drawn _ rb _), H.out.set (p + 1), Or.inr ⟨b, o, n, cap, by omega, hn, rfl, hne, z, fun i hi => ?_⟩⟩
  · exact congrArg (fun x => Ending.returned (.int .i64 x)) HE.out
  · exact (cell_set_other hne _).trans (HZ.out i hi).1 |> fun h => ⟨h, (HZ.out i hi).2⟩

theorem pickk_any (w : World) (rb p m : Nat) (v : Value) (h : DR w rb v p) (hc : CodeOk w rb v) (hp : p ≤ 1000000) (hm : 1 ≤ m) (hm2 : m ≤ 1000) :
    Calls Tryz.prog 62 #[.pointer (some ⟨rb, 0, none⟩), .int .i64 m] w (PickK w rb p m v) := by
  rcases hc with ⟨a0, cap, rfl⟩ | ⟨b, o, n, cap, hn0, hn, rfl, hne, z, hz⟩
  · exact pickk_none w rb p a0 cap m h hp hm
  · by_cases hlt : p < n
    · exact pickk_in w rb p b o n cap m z h hn hne hz hlt hm hm2
    · exact pickk_past w rb p b o n cap m z h hn hne hz (by omega) hp hn0 hm hm2

theorem CodeOk.grown {w W : World} {rb : Nat} {v : Value} (h : CodeOk w rb v) (hg : w.grownBy W (some rb)) : CodeOk W rb v := by
  rcases h with h | ⟨b, o, n, cap, hn0, hn, rfl, hne, z, hz⟩
  · exact Or.inl h
  · exact Or.inr ⟨b, o, n, cap, hn0, hn, rfl, hne, z, fun i hi => ⟨grown_cell (hz i hi).1 hne hg, (hz i hi).2⟩⟩

/-- Some numbers. -/
def ArgsPost (w : World) (rb p : Nat) (e : Ending) (w' : World) : Prop :=
  ∃ (sv : Value) (zs : List Int) (q : Nat), e = .returned sv ∧ IntsZ w' sv zs ∧ zs.length ≤ 4 ∧ q ≤ p + 40 ∧ w.grownBy w' (some rb) ∧ Dr w' rb q

theorem ints_row {w : World} {base n : Nat} {v : Value} {zs : List Int} (hn : n = zs.length) (h : w.ownsRow base 3 1 v n (zs.map fun x => Value.int .i64 x)) : IntsZ w v zs := by
  subst hn
  rcases h.2 with ⟨h1, h2⟩ | ⟨g, cap, cur, h1, hg, hh, hle, _⟩
  · exact Or.inl ⟨List.length_eq_zero_iff.1 h2, none, 0, h1⟩
  · refine Or.inr ⟨g, 0, cap, h1, hle, fun j hj => ?_⟩
    rw [Nat.zero_add, World.ownsRow.cellAt (h1 ▸ h) j (by omega)]
    simp [List.getElem?_map, List.getElem?_eq_getElem hj]

theorem arity_range (l : List UInt8) : -1 ≤ pArity l ∧ pArity l ≤ 3 := by
  unfold pArity
  cases hp : FT.parse l with
  | none => simp
  | some t =>
    have := FT.arity_le (FT.parse_facts hp).1
    simp only
    omega

theorem args_any (w : World) (rb p m : Nat) (v : Value) (l : List UInt8) (h : DR w rb v p) (hc : CodeOk w rb v) (hp : p ≤ 800000) (hm1 : 1 ≤ m) (hm2 : m ≤ 1000) (hl : l.length ≤ 100000) :
    Calls Tryz.prog 37 #[.pointer (some ⟨rb, 0, none⟩), str l, .int .i64 m] w (ArgsPost w rb p) := by
  have hlt : rb < w.heap.size := (Array.getElem?_eq_some_iff.1 h).1
  obtain ⟨ha1, ha2⟩ := arity_range l
  have k1 := fun W => spec_arity W l (by omega)
  unfold IntPost at k1
  generalize pArity l = a at *
  obtain ⟨W1, hW1⟩ : ∃ W1, W1 = w.alloc (.cells #[] 3) := ⟨_, rfl⟩
  have a1 : After w W1 := by rw [hW1]; exact After.new _ _
  obtain ⟨base, hbase⟩ : ∃ base, base = w.heap.size := ⟨_, rfl⟩
  have hrow : W1.ownsRow base 3 1 (.slice (some ⟨base, 0, none⟩) 0 0) 0 [] := by
    rw [hW1, hbase]
    exact ⟨rfl, Or.inr ⟨w.heap.size, 0, #[], rfl, Nat.le_refl _, heap_top w _, Nat.le_refl _, by unfold maxLen; omega, rfl, rfl⟩⟩
  have hrbb : rb < base := by omega
  have HB := Lib.hid hbase
  have HW1 := Lib.hid hW1
  have HROW := Lib.hid hrow
  have H := Lib.hid h
  have HC := Lib.hid hc
  clear hbase hW1 hrow h hc
  go_enter Tryz.func37, Tryz.ntmps37
  go_wp2_with fail
  rw [← HW1.out]
  refine (k1 W1).mono ?_
  rintro e w2 ⟨rfl, a2⟩
  have a12 := a1.trans a2
  have kp := pickk_any w2 rb p 20 v (a12.heap H.out) (HC.out.grown (after_grown rb a12)) (by omega) (by decide) (by decide)
  clear k1
  go_wp2_with fail
  refine kp.mono ?_
  rintro e w3 ⟨k0, hk0, rfl, g3, d3, c3⟩
  have HG3 := Lib.hid (grown_trans (after_grown rb a12) g3)
  have HD3 := Lib.hid d3
  have HROW3 : Hid (w3.ownsRow base 3 1 (.slice (some ⟨w.heap.size, 0, none⟩) 0 0) 0 (([] : List Int).map fun x => Value.int .i64 x)) := by
    have h1 : w2.ownsRow base 3 1 (.slice (some ⟨base, 0, none⟩) 0 0) 0 [] := HROW.out.kept (row := none) ⟨a2.os, a2.tape, a2.output, a2.size, fun b hb _ => a2.block b hb⟩ (Or.inr (fun e => by cases e))
    have h2 : w3.ownsRow base 3 1 (.slice (some ⟨base, 0, none⟩) 0 0) 0 [] := h1.kept g3 (Or.inr (fun e => by injection e with e; have e' : base = rb := e; omega))
    rw [HB.out] at h2 ⊢
    exact h2
  clear kp g3 d3 c3
  by_cases k0z : k0 = 0
  · subst k0z
    go_wp2_with fail
    go_loopw [7, 9] (fun vs i wr => ∃ (k q : Nat) (xs : List Int), i = .int .i64 (k : Nat) ∧ k ≤ 4 ∧ q ≤ p + 1 + k ∧ Hid (wr.ownsRow base 3 1 vs k (xs.map fun x => Value.int .i64 x)) ∧ Hid (DR wr rb v q) ∧ Hid (w.grownBy wr (some rb))) (fun _ i _ => 5 - (intOf i).toNat)
    case atStart => exact ⟨0, p + 1, [], rfl, by omega, by omega, HROW3.out, HD3.out, HG3.out⟩
    case round =>
      obtain ⟨k, q, xs, rfl, hk, hq, HO, HDR, HG⟩ := hrel
      obtain ⟨bo, bc, rfl⟩ := o_slice_len HO.out
      have hxl : xs.length = k := by have := HO.out.1; simp at this; omega
      have hcr := HC.out.grown HG.out
      by_cases hlt : (k : Int) < a + 1
      · have kp5 := pickk_any wr rb q m v HDR.out hcr (by omega) hm1 hm2
        go_wp2_with fail
        refine kp5.mono ?_
        rintro e w5 ⟨x, hx, rfl, g5, d5, c5⟩
        have hg0 := grown_trans HG.out g5
        have hO1 : w5.ownsRow base 3 1 (.slice bo k bc) k (xs.map fun x => Value.int .i64 x) := HO.out.kept g5 (by
          cases hv : (Value.slice bo k bc).ownBlock with
          | none => exact Or.inl rfl
          | some g => exact Or.inr (fun e => by injection e with e; have := (HO.out.lt g hv).1; omega))
        obtain ⟨i0, hi0, hz0, hz1, hz2⟩ : ∃ i, (Tryz.prog).info? 3 = some i ∧ i.zero = some (.int .i64 0) ∧ i.size = 1 ∧ i.bytes = 8 := ⟨_, rfl, rfl, rfl, rfl⟩
        have hun : Tryz.prog.underlying 22 = some (.slice 3) := by kernel_rfl
        have hown := World.ownsRow.alloc hO1 (.cells #[.int .i64 (x : Nat)] 3)
        have hnew : ∀ j u, [Value.int .i64 (x : Nat)][j]? = some u → (w5.alloc (.cells #[.int .i64 (x : Nat)] 3)).cell? ((⟨w5.heap.size, 0, none⟩ : Addr).add j) = some u := fun j u h => by
          match j with
          | 0 =>
            simp at h
            subst h
            rw [show ((⟨w5.heap.size, 0, none⟩ : Addr).add 0) = ⟨w5.heap.size, 0, none⟩ from rfl, cell_of_heap (heap_top w5 (.cells #[.int .i64 (x : Nat)] 3))]
            rfl
          | j + 1 => simp at h
        have hone : ∀ u ∈ [Value.int .i64 (x : Nat)], u.oneCell' = true := by simp [Value.oneCell']
        have hmax : k + 1 ≤ maxLen := by unfold maxLen; omega
        have hm8 : (k + 1) * 8 ≤ 140737488355328 := by omega
        have hb1 : base ≤ w5.heap.size := by rw [HB.out]; exact hg0.size
        have hsz : base ≤ (w5.alloc (.cells #[.int .i64 (x : Nat)] 3)).heap.size := by simp; omega
        have HG0 := Lib.hid hg0
        have HD5 := Lib.hid d5
        clear kp5 g5 d5 c5 hO1 hg0 hcr hxl
        go_wp2_with (at_builtin; refine wpList_append_own _ rfl _ _ 22 rfl base 3 i0 (.int .i64 0) 1 8 hun hi0 hz0 hz1 hz2 rfl (by decide) _ _ _ rfl hown ⟨w5.heap.size, 0, none⟩ 1 1 [.int .i64 (x : Nat)] rfl rfl hnew hone hmax hm8 hsz ?_; intro v6 w6 ho6 hg6 hiff; clear hiff; obtain ⟨co, cn, cc, rfl⟩ := o_slice ho6; have HO6 := Lib.hid ho6; have HG6 := Lib.hid hg6; clear ho6 hg6)
        go_roundw
        case measure => simp [intOf]; omega
        case rel =>
          have hlow : ∀ g, (Value.slice bo k bc).ownBlock = some g → base ≤ g := fun g hg => (hown.lt g hg).1
          have h5lt : rb < w5.heap.size := (Array.getElem?_eq_some_iff.1 HD5.out).1
          have hbe := HB.out
          have hg02 : w.grownBy w6 (some rb) := by
            have h45 := HG0.out
            have h45s := h45.size
            refine ⟨HG6.out.os.trans h45.os, HG6.out.tape.trans h45.tape, HG6.out.output.trans h45.output, by have := HG6.out.size; simp at *; omega, fun q hq hne => ?_⟩
            rw [HG6.out.block q (by simp; omega) (fun e => by have := hlow q e.symm; omega)]
            rw [(below_new w5 _).block q (by omega)]
            exact h45.block q hq hne
          have h6 := HG6.out.block rb (by simp; omega) (fun e => by have := hlow rb e.symm; omega)
          have h7 := (below_new w5 (.cells #[.int .i64 (x : Nat)] 3)).block rb h5lt
          exact ⟨k + 1, q + 1, xs ++ [(x : Int)], by go_num, by omega, by omega, by show World.ownsRow _ _ _ _ _ _ _; simpa using HO6.out, (h6.trans h7).trans HD5.out, hg02⟩
      · have hfin : ∀ W, w.grownBy W (some rb) → W.ownsRow base 3 1 (.slice bo k bc) k (xs.map fun x => Value.int .i64 x) → ∀ q', q' ≤ p + 40 → DR W rb v q' → ArgsPost w rb p (.returned (.slice bo k bc)) W := fun W h1 h2 q' h3 h4 => ⟨_, xs, q', rfl, ints_row hxl.symm h2, by omega, h3, h1, v, h4, HC.out.grown h1⟩
        have HFIN := Lib.hid hfin
        clear hfin
        by_cases hk0' : k = 0
        · subst hk0'
          go_wp2_with fail
          go_ret
          exact HFIN.out _ HG.out HO.out _ (by omega) HDR.out
        · have hkp : (0 : Int) < (k : Int) := by omega
          have kp7 := pickk_any wr rb q 20 v HDR.out hcr (by omega) (by decide) (by decide)
          go_wp2_with fail
          refine kp7.mono ?_
          rintro e w7 ⟨y, hy, rfl, g7, d7, c7⟩
          have hO7 : w7.ownsRow base 3 1 (.slice bo k bc) k (xs.map fun x => Value.int .i64 x) := HO.out.kept g7 (by
            cases hv : (Value.slice bo k bc).ownBlock with
            | none => exact Or.inl rfl
            | some g => exact Or.inr (fun e => by injection e with e; have := (HO.out.lt g hv).1; omega))
          have HG7 := Lib.hid (grown_trans HG.out g7)
          have HO7 := Lib.hid hO7
          have HD7 := Lib.hid d7
          have HC7 := Lib.hid c7
          clear kp7 g7 d7 c7 hO7
          by_cases hy0 : y = 0
          · subst hy0
            obtain ⟨W8, hW8⟩ : ∃ W8, W8 = w7.alloc (.cells #[.int .i64 (-1), .int .i64 61] 3) := ⟨_, rfl⟩
            have a8 : After w7 W8 := by rw [hW8]; exact After.new _ _
            have hh8 : W8.heap[w7.heap.size]? = some (.cells #[.int .i64 (-1), .int .i64 61] 3 (0, 0)) := by rw [hW8]; exact heap_top _ _
            have kp9 := pickk_any W8 rb (q + 1) 2 v (a8.heap HD7.out) (HC7.out.grown (after_grown rb a8)) (by omega) (by decide) (by decide)
            have HW8 := Lib.hid hW8
            have HH8 := Lib.hid hh8
            clear hW8 hh8
            go_wp2_with fail
            rw [← HW8.out]
            refine kp9.mono ?_
            rintro e w9 ⟨z, hz, rfl, g9, d9, c9⟩
            have h7lt : rb < w7.heap.size := (Array.getElem?_eq_some_iff.1 HD7.out).1
            have x0 : w9.cell? ⟨w7.heap.size, 0, none⟩ = some (.int .i64 (-1)) := grown_cell (cell_of_heap (i := 0) HH8.out) (by omega) g9
            have x1 : w9.cell? ⟨w7.heap.size, 1, none⟩ = some (.int .i64 61) := grown_cell (cell_of_heap (i := 1) HH8.out) (by omega) g9
            have g79 := grown_trans (after_grown rb a8) g9
            have hO9 : w9.ownsRow base 3 1 (.slice bo k bc) k (xs.map fun x => Value.int .i64 x) := HO7.out.kept g79 (by
              cases hv : (Value.slice bo k bc).ownBlock with
              | none => exact Or.inl rfl
              | some g => exact Or.inr (fun e => by injection e with e; have := (HO.out.lt g hv).1; omega))
            rcases hO9.2 with ⟨hn, _⟩ | ⟨gb, cap', cur, hvv, hgb, _, _⟩
            · injection hn with _ hn _; omega
            injection hvv with e1 e2 e3
            subst e1
            subst e3
            have hfz := hO9.frozenAt 0
            have hcl := hO9.cellAt 0 (by omega)
            obtain ⟨x00, hx00⟩ : ∃ u, (xs.map fun x => Value.int .i64 x)[0]? = some u := ⟨_, List.getElem?_eq_getElem (by simp; omega)⟩
            rw [hx00] at hcl
            have HO9 := Lib.hid hO9
            have HG9 := Lib.hid (grown_trans HG7.out g79)
            have HD9 := Lib.hid d9
            have hgr : gb ≠ rb := by omega
            have hstore : ∀ c : Int, ArgsPost w rb p (.returned (.slice (some ⟨gb, 0, none⟩) k bc)) (w9.setCell ⟨gb, 0, none⟩ (.int .i64 c)) := fun c => by
              have h := (HO9.out.stored 0 (.int .i64 c)).1
              have h2 : (xs.map fun x => Value.int .i64 x).set 0 (.int .i64 c) = (xs.set 0 c).map fun x => Value.int .i64 x := by rw [List.map_set]
              rw [h2] at h
              have hgs : w.grownBy (w9.setCell ⟨gb, 0, none⟩ (.int .i64 c)) (some rb) := by
                have g := HG9.out
                refine ⟨g.os, g.tape, g.output, by have := g.size; simp [World.setCell]; omega, fun b hb hne => ?_⟩
                rw [Below.heap_setCell _ _ _ _ (show b ≠ gb by have := HB.out; omega)]
                exact g.block b hb hne
              refine ⟨_, xs.set 0 c, q + 1 + 1, rfl, ints_row (by simp; omega) h, by simp; omega, by omega, hgs, v, ?_, HC.out.grown hgs⟩
              show (w9.setCell ⟨gb, 0, none⟩ (.int .i64 c)).heap[rb]? = _
              rw [Below.heap_setCell _ _ _ _ (show rb ≠ gb by omega)]
              exact HD9.out
            have HST := Lib.hid hstore
            clear hstore g79 g9 d9 c9 hO9 kp9 a8
            have hz2 : z = 0 ∨ z = 1 := by omega
            rcases hz2 with rfl | rfl
            · go_wp2_with fail
              go_ret
              exact HST.out _
            · go_wp2_with fail
              go_ret
              exact HST.out _
          · have hyb : ((y : Int) == 0) = false := by rw [beq_eq_false_iff_ne]; omega
            go_wp2_with fail
            go_ret
            exact HFIN.out _ HG7.out HO7.out _ (by omega) HD7.out
  · have k0b : ((k0 : Int) == 0) = false := by rw [beq_eq_false_iff_ne]; omega
    go_wp2_with fail
    go_loopw [7, 9] (fun vs i wr => ∃ (k q : Nat) (xs : List Int), i = .int .i64 (k : Nat) ∧ k ≤ 4 ∧ q ≤ p + 1 + k ∧ Hid (wr.ownsRow base 3 1 vs k (xs.map fun x => Value.int .i64 x)) ∧ Hid (DR wr rb v q) ∧ Hid (w.grownBy wr (some rb))) (fun _ i _ => 5 - (intOf i).toNat)
    case atStart => exact ⟨0, p + 1, [], rfl, by omega, by omega, HROW3.out, HD3.out, HG3.out⟩
    case round =>
      obtain ⟨k, q, xs, rfl, hk, hq, HO, HDR, HG⟩ := hrel
      obtain ⟨bo, bc, rfl⟩ := o_slice_len HO.out
      have hxl : xs.length = k := by have := HO.out.1; simp at this; omega
      have hcr := HC.out.grown HG.out
      by_cases hlt : (k : Int) < a
      · have kp5 := pickk_any wr rb q m v HDR.out hcr (by omega) hm1 hm2
        go_wp2_with fail
        refine kp5.mono ?_
        rintro e w5 ⟨x, hx, rfl, g5, d5, c5⟩
        have hg0 := grown_trans HG.out g5
        have hO1 : w5.ownsRow base 3 1 (.slice bo k bc) k (xs.map fun x => Value.int .i64 x) := HO.out.kept g5 (by
          cases hv : (Value.slice bo k bc).ownBlock with
          | none => exact Or.inl rfl
          | some g => exact Or.inr (fun e => by injection e with e; have := (HO.out.lt g hv).1; omega))
        obtain ⟨i0, hi0, hz0, hz1, hz2⟩ : ∃ i, (Tryz.prog).info? 3 = some i ∧ i.zero = some (.int .i64 0) ∧ i.size = 1 ∧ i.bytes = 8 := ⟨_, rfl, rfl, rfl, rfl⟩
        have hun : Tryz.prog.underlying 22 = some (.slice 3) := by kernel_rfl
        have hown := World.ownsRow.alloc hO1 (.cells #[.int .i64 (x : Nat)] 3)
        have hnew : ∀ j u, [Value.int .i64 (x : Nat)][j]? = some u → (w5.alloc (.cells #[.int .i64 (x : Nat)] 3)).cell? ((⟨w5.heap.size, 0, none⟩ : Addr).add j) = some u := fun j u h => by
          match j with
          | 0 =>
            simp at h
            subst h
            rw [show ((⟨w5.heap.size, 0, none⟩ : Addr).add 0) = ⟨w5.heap.size, 0, none⟩ from rfl, cell_of_heap (heap_top w5 (.cells #[.int .i64 (x : Nat)] 3))]
            rfl
          | j + 1 => simp at h
        have hone : ∀ u ∈ [Value.int .i64 (x : Nat)], u.oneCell' = true := by simp [Value.oneCell']
        have hmax : k + 1 ≤ maxLen := by unfold maxLen; omega
        have hm8 : (k + 1) * 8 ≤ 140737488355328 := by omega
        have hb1 : base ≤ w5.heap.size := by rw [HB.out]; exact hg0.size
        have hsz : base ≤ (w5.alloc (.cells #[.int .i64 (x : Nat)] 3)).heap.size := by simp; omega
        have HG0 := Lib.hid hg0
        have HD5 := Lib.hid d5
        clear kp5 g5 d5 c5 hO1 hg0 hcr hxl
        go_wp2_with (at_builtin; refine wpList_append_own _ rfl _ _ 22 rfl base 3 i0 (.int .i64 0) 1 8 hun hi0 hz0 hz1 hz2 rfl (by decide) _ _ _ rfl hown ⟨w5.heap.size, 0, none⟩ 1 1 [.int .i64 (x : Nat)] rfl rfl hnew hone hmax hm8 hsz ?_; intro v6 w6 ho6 hg6 hiff; clear hiff; obtain ⟨co, cn, cc, rfl⟩ := o_slice ho6; have HO6 := Lib.hid ho6; have HG6 := Lib.hid hg6; clear ho6 hg6)
        go_roundw
        case measure => simp [intOf]; omega
        case rel =>
          have hlow : ∀ g, (Value.slice bo k bc).ownBlock = some g → base ≤ g := fun g hg => (hown.lt g hg).1
          have h5lt : rb < w5.heap.size := (Array.getElem?_eq_some_iff.1 HD5.out).1
          have hbe := HB.out
          have hg02 : w.grownBy w6 (some rb) := by
            have h45 := HG0.out
            have h45s := h45.size
            refine ⟨HG6.out.os.trans h45.os, HG6.out.tape.trans h45.tape, HG6.out.output.trans h45.output, by have := HG6.out.size; simp at *; omega, fun q hq hne => ?_⟩
            rw [HG6.out.block q (by simp; omega) (fun e => by have := hlow q e.symm; omega)]
            rw [(below_new w5 _).block q (by omega)]
            exact h45.block q hq hne
          have h6 := HG6.out.block rb (by simp; omega) (fun e => by have := hlow rb e.symm; omega)
          have h7 := (below_new w5 (.cells #[.int .i64 (x : Nat)] 3)).block rb h5lt
          exact ⟨k + 1, q + 1, xs ++ [(x : Int)], by go_num, by omega, by omega, by show World.ownsRow _ _ _ _ _ _ _; simpa using HO6.out, (h6.trans h7).trans HD5.out, hg02⟩
      · have hfin : ∀ W, w.grownBy W (some rb) → W.ownsRow base 3 1 (.slice bo k bc) k (xs.map fun x => Value.int .i64 x) → ∀ q', q' ≤ p + 40 → DR W rb v q' → ArgsPost w rb p (.returned (.slice bo k bc)) W := fun W h1 h2 q' h3 h4 => ⟨_, xs, q', rfl, ints_row hxl.symm h2, by omega, h3, h1, v, h4, HC.out.grown h1⟩
        have HFIN := Lib.hid hfin
        clear hfin
        by_cases hk0' : k = 0
        · subst hk0'
          go_wp2_with fail
          go_ret
          exact HFIN.out _ HG.out HO.out _ (by omega) HDR.out
        · have hkp : (0 : Int) < (k : Int) := by omega
          have kp7 := pickk_any wr rb q 20 v HDR.out hcr (by omega) (by decide) (by decide)
          go_wp2_with fail
          refine kp7.mono ?_
          rintro e w7 ⟨y, hy, rfl, g7, d7, c7⟩
          have hO7 : w7.ownsRow base 3 1 (.slice bo k bc) k (xs.map fun x => Value.int .i64 x) := HO.out.kept g7 (by
            cases hv : (Value.slice bo k bc).ownBlock with
            | none => exact Or.inl rfl
            | some g => exact Or.inr (fun e => by injection e with e; have := (HO.out.lt g hv).1; omega))
          have HG7 := Lib.hid (grown_trans HG.out g7)
          have HO7 := Lib.hid hO7
          have HD7 := Lib.hid d7
          have HC7 := Lib.hid c7
          clear kp7 g7 d7 c7 hO7
          by_cases hy0 : y = 0
          · subst hy0
            obtain ⟨W8, hW8⟩ : ∃ W8, W8 = w7.alloc (.cells #[.int .i64 (-1), .int .i64 61] 3) := ⟨_, rfl⟩
            have a8 : After w7 W8 := by rw [hW8]; exact After.new _ _
            have hh8 : W8.heap[w7.heap.size]? = some (.cells #[.int .i64 (-1), .int .i64 61] 3 (0, 0)) := by rw [hW8]; exact heap_top _ _
            have kp9 := pickk_any W8 rb (q + 1) 2 v (a8.heap HD7.out) (HC7.out.grown (after_grown rb a8)) (by omega) (by decide) (by decide)
            have HW8 := Lib.hid hW8
            have HH8 := Lib.hid hh8
            clear hW8 hh8
            go_wp2_with fail
            rw [← HW8.out]
            refine kp9.mono ?_
            rintro e w9 ⟨z, hz, rfl, g9, d9, c9⟩
            have h7lt : rb < w7.heap.size := (Array.getElem?_eq_some_iff.1 HD7.out).1
            have x0 : w9.cell? ⟨w7.heap.size, 0, none⟩ = some (.int .i64 (-1)) := grown_cell (cell_of_heap (i := 0) HH8.out) (by omega) g9
            have x1 : w9.cell? ⟨w7.heap.size, 1, none⟩ = some (.int .i64 61) := grown_cell (cell_of_heap (i := 1) HH8.out) (by omega) g9
            have g79 := grown_trans (after_grown rb a8) g9
            have hO9 : w9.ownsRow base 3 1 (.slice bo k bc) k (xs.map fun x => Value.int .i64 x) := HO7.out.kept g79 (by
              cases hv : (Value.slice bo k bc).ownBlock with
              | none => exact Or.inl rfl
              | some g => exact Or.inr (fun e => by injection e with e; have := (HO.out.lt g hv).1; omega))
            rcases hO9.2 with ⟨hn, _⟩ | ⟨gb, cap', cur, hvv, hgb, _, _⟩
            · injection hn with _ hn _; omega
            injection hvv with e1 e2 e3
            subst e1
            subst e3
            have hfz := hO9.frozenAt 0
            have hcl := hO9.cellAt 0 (by omega)
            obtain ⟨x00, hx00⟩ : ∃ u, (xs.map fun x => Value.int .i64 x)[0]? = some u := ⟨_, List.getElem?_eq_getElem (by simp; omega)⟩
            rw [hx00] at hcl
            have HO9 := Lib.hid hO9
            have HG9 := Lib.hid (grown_trans HG7.out g79)
            have HD9 := Lib.hid d9
            have hgr : gb ≠ rb := by omega
            have hstore : ∀ c : Int, ArgsPost w rb p (.returned (.slice (some ⟨gb, 0, none⟩) k bc)) (w9.setCell ⟨gb, 0, none⟩ (.int .i64 c)) := fun c => by
              have h := (HO9.out.stored 0 (.int .i64 c)).1
              have h2 : (xs.map fun x => Value.int .i64 x).set 0 (.int .i64 c) = (xs.set 0 c).map fun x => Value.int .i64 x := by rw [List.map_set]
              rw [h2] at h
              have hgs : w.grownBy (w9.setCell ⟨gb, 0, none⟩ (.int .i64 c)) (some rb) := by
                have g := HG9.out
                refine ⟨g.os, g.tape, g.output, by have := g.size; simp [World.setCell]; omega, fun b hb hne => ?_⟩
                rw [Below.heap_setCell _ _ _ _ (show b ≠ gb by have := HB.out; omega)]
                exact g.block b hb hne
              refine ⟨_, xs.set 0 c, q + 1 + 1, rfl, ints_row (by simp; omega) h, by simp; omega, by omega, hgs, v, ?_, HC.out.grown hgs⟩
              show (w9.setCell ⟨gb, 0, none⟩ (.int .i64 c)).heap[rb]? = _
              rw [Below.heap_setCell _ _ _ _ (show rb ≠ gb by omega)]
              exact HD9.out
            have HST := Lib.hid hstore
            clear hstore g79 g9 d9 c9 hO9 kp9 a8
            have hz2 : z = 0 ∨ z = 1 := by omega
            rcases hz2 with rfl | rfl
            · go_wp2_with fail
              go_ret
              exact HST.out _
            · go_wp2_with fail
              go_ret
              exact HST.out _
          · have hyb : ((y : Int) == 0) = false := by rw [beq_eq_false_iff_ne]; omega
            go_wp2_with fail
            go_ret
            exact HFIN.out _ HG7.out HO7.out _ (by omega) HD7.out
end Go.Proofs.YtmkmladlpgfniacGreat

namespace Go.Proofs.YtmkmladlpgfniacGreat
namespace FT

theorem if_none {c : Prop} [Decidable c] {o : Option (Nat × Nat)} {q : Nat × Nat} (h : (if c then none else o) = some q) : o = some q := by
  split at h
  · cases h
  · exact h

/-- What is reckoned from s and from s + d on. -/
def Shifts (g : List Nat → Nat → Option (Nat × Nat)) : Prop := ∀ (az : List Nat) (s d v s' v2 s2 : Nat), g az s = some (v, s') → g az (s + d) = some (v2, s2) → v2 = v ∧ s2 = s' + d

theorem loopR_shift {g : List Nat → Nat → Option (Nat × Nat)} (hg : Shifts g) (rest : List Nat) : ∀ (n i v s d r s' r2 s2 : Nat), loopR g rest n i v s = some (r, s') → loopR g rest n i v (s + d) = some (r2, s2) → r2 = r ∧ s2 = s' + d
  | 0, _, _, _, _, _, _, _, _, h1, h2 => by
    simp only [loopR, Option.some.injEq, Prod.mk.injEq] at h1 h2
    omega
  | n + 1, i, v, s, d, e1, s', e2, s2, h1, h2 => by
    simp only [loopR] at h1 h2
    cases q1 : g (i :: v :: rest) s with
    | none => rw [q1] at h1; simp at h1
    | some p1 =>
      obtain ⟨a, b⟩ := p1
      cases q2 : g (i :: v :: rest) (s + d) with
      | none => rw [q2] at h2; simp at h2
      | some p2 =>
        obtain ⟨a2, b2⟩ := p2
        obtain ⟨rfl, rfl⟩ := hg _ _ _ _ _ _ _ q1 q2
        rw [q1] at h1
        rw [q2] at h2
        exact loopR_shift hg rest n (i + 1) _ b d e1 s' e2 s2 h1 h2

theorem loopM_shift {f : List Nat → Nat → Option (Nat × Nat)} (hf : Shifts f) (rest : List Nat) : ∀ (k n s d r s' r2 s2 : Nat), loopM f rest k n s = some (r, s') → loopM f rest k n (s + d) = some (r2, s2) → r2 = r ∧ s2 = s' + d
  | 0, _, _, _, _, _, _, _, h1, _ => by simp [loopM] at h1
  | k + 1, n, s, d, e1, s', e2, s2, h1, h2 => by
    simp only [loopM] at h1 h2
    cases q1 : f (n :: rest) s with
    | none => rw [q1] at h1; simp at h1
    | some p1 =>
      obtain ⟨a, b⟩ := p1
      cases q2 : f (n :: rest) (s + d) with
      | none => rw [q2] at h2; simp at h2
      | some p2 =>
        obtain ⟨a2, b2⟩ := p2
        obtain ⟨rfl, rfl⟩ := hf _ _ _ _ _ _ _ q1 q2
        rw [q1] at h1
        rw [q2] at h2
        simp only at h1 h2
        by_cases h0 : a2 = 0
        · rw [if_pos h0] at h1 h2
          simp only [Option.some.injEq, Prod.mk.injEq] at h1 h2
          omega
        · rw [if_neg h0] at h1 h2
          exact loopM_shift hf rest k (n + 1) b d e1 s' e2 s2 h1 h2

theorem ev_shift : ∀ t : FT, Shifts (ev t) := by
  intro t
  induction t with
  | z a =>
    intro az s d v s' v2 s2 h1 h2
    simp only [ev] at h1 h2
    have h1 := if_none h1
    have h2 := if_none h2
    simp only [Option.some.injEq, Prod.mk.injEq] at h1 h2
    omega
  | inc =>
    intro az s d v s' v2 s2 h1 h2
    simp only [ev] at h1 h2
    have h1 := (chk_some (if_none h1)).1
    have h2 := (chk_some (if_none h2)).1
    simp only [Option.some.injEq, Prod.mk.injEq] at h1 h2
    omega
  | p i a =>
    intro az s d v s' v2 s2 h1 h2
    simp only [ev] at h1 h2
    have h1 := (chk_some (if_none h1)).1
    have h2 := (chk_some (if_none h2)).1
    simp only [Option.some.injEq, Prod.mk.injEq] at h1 h2
    omega
  | c1 f g ihf ihg =>
    intro az s d v s' v2 s2 h1 h2
    simp only [ev] at h1 h2
    have h1 := (chk_some (if_none h1)).1
    have h2 := (chk_some (if_none h2)).1
    rw [show s + d + 1 = s + 1 + d by omega] at h2
    cases q1 : ev g az (s + 1) with
    | none => rw [q1] at h1; simp at h1
    | some p1 =>
      obtain ⟨x, t1⟩ := p1
      cases q2 : ev g az (s + 1 + d) with
      | none => rw [q2] at h2; simp at h2
      | some p2 =>
        obtain ⟨x2, t2⟩ := p2
        obtain ⟨rfl, rfl⟩ := ihg _ _ _ _ _ _ _ q1 q2
        rw [q1] at h1
        rw [q2] at h2
        exact ihf _ _ _ _ _ _ _ h1 h2
  | c2 f g k ihf ihg ihk =>
    intro az s d v s' v2 s2 h1 h2
    simp only [ev] at h1 h2
    have h1 := (chk_some (if_none h1)).1
    have h2 := (chk_some (if_none h2)).1
    rw [show s + d + 1 = s + 1 + d by omega] at h2
    cases q1 : ev g az (s + 1) with
    | none => rw [q1] at h1; simp at h1
    | some p1 =>
      obtain ⟨x, t1⟩ := p1
      cases q2 : ev g az (s + 1 + d) with
      | none => rw [q2] at h2; simp at h2
      | some p2 =>
        obtain ⟨x2, t2⟩ := p2
        obtain ⟨rfl, rfl⟩ := ihg _ _ _ _ _ _ _ q1 q2
        rw [q1] at h1
        rw [q2] at h2
        simp only at h1 h2
        cases r1 : ev k az t1 with
        | none => rw [r1] at h1; simp at h1
        | some p1 =>
          obtain ⟨y, u1⟩ := p1
          cases r2 : ev k az (t1 + d) with
          | none => rw [r2] at h2; simp at h2
          | some p2 =>
            obtain ⟨y2, u2⟩ := p2
            obtain ⟨rfl, rfl⟩ := ihk _ _ _ _ _ _ _ r1 r2
            rw [r1] at h1
            rw [r2] at h2
            exact ihf _ _ _ _ _ _ _ h1 h2
  | c3 f g k l ihf ihg ihk ihl =>
    intro az s d v s' v2 s2 h1 h2
    simp only [ev] at h1 h2
    have h1 := (chk_some (if_none h1)).1
    have h2 := (chk_some (if_none h2)).1
    rw [show s + d + 1 = s + 1 + d by omega] at h2
    cases q1 : ev g az (s + 1) with
    | none => rw [q1] at h1; simp at h1
    | some p1 =>
      obtain ⟨x, t1⟩ := p1
      cases q2 : ev g az (s + 1 + d) with
      | none => rw [q2] at h2; simp at h2
      | some p2 =>
        obtain ⟨x2, t2⟩ := p2
        obtain ⟨rfl, rfl⟩ := ihg _ _ _ _ _ _ _ q1 q2
        rw [q1] at h1
        rw [q2] at h2
        simp only at h1 h2
        cases r1 : ev k az t1 with
        | none => rw [r1] at h1; simp at h1
        | some p1 =>
          obtain ⟨y, u1⟩ := p1
          cases r2 : ev k az (t1 + d) with
          | none => rw [r2] at h2; simp at h2
          | some p2 =>
            obtain ⟨y2, u2⟩ := p2
            obtain ⟨rfl, rfl⟩ := ihk _ _ _ _ _ _ _ r1 r2
            rw [r1] at h1
            rw [r2] at h2
            simp only at h1 h2
            cases e1 : ev l az u1 with
            | none => rw [e1] at h1; simp at h1
            | some p1 =>
              obtain ⟨z1, v1⟩ := p1
              cases e2 : ev l az (u1 + d) with
              | none => rw [e2] at h2; simp at h2
              | some p2 =>
                obtain ⟨z2, v2'⟩ := p2
                obtain ⟨rfl, rfl⟩ := ihl _ _ _ _ _ _ _ e1 e2
                rw [e1] at h1
                rw [e2] at h2
                exact ihf _ _ _ _ _ _ _ h1 h2
  | r f g ihf ihg =>
    intro az s d v s' v2 s2 h1 h2
    simp only [ev] at h1 h2
    have h1 := (chk_some (if_none h1)).1
    have h2 := (chk_some (if_none h2)).1
    rw [show s + d + 1 = s + 1 + d by omega] at h2
    cases q1 : ev f az.tail (s + 1) with
    | none => rw [q1] at h1; simp at h1
    | some p1 =>
      obtain ⟨x, t1⟩ := p1
      cases q2 : ev f az.tail (s + 1 + d) with
      | none => rw [q2] at h2; simp at h2
      | some p2 =>
        obtain ⟨x2, t2⟩ := p2
        obtain ⟨rfl, rfl⟩ := ihf _ _ _ _ _ _ _ q1 q2
        rw [q1] at h1
        rw [q2] at h2
        exact loopR_shift ihg _ _ _ _ _ _ _ _ _ _ h1 h2
  | m f ihf =>
    intro az s d v s' v2 s2 h1 h2
    simp only [ev] at h1 h2
    have h1 := (chk_some (if_none h1)).1
    have h2 := (chk_some (if_none h2)).1
    rw [show s + d + 1 = s + 1 + d by omega] at h2
    exact loopM_shift ihf _ _ _ _ _ _ _ _ _ h1 h2

end FT
end Go.Proofs.YtmkmladlpgfniacGreat

namespace Go.Proofs.YtmkmladlpgfniacGreat
open Go.RowKit

set_option maxHeartbeats 1000000
set_option maxRecDepth 100000

/-- A drawn function text with numbers. -/
def DrawArgs (w : World) (e : Ending) (w' : World) : Prop := ∃ (l : List UInt8) (sv : Value) (zs : List Int), e = .returned (.tuple #[str l, sv]) ∧ l.length ≤ 100000 ∧ IntsZ w' sv zs ∧ zs.length ≤ 4 ∧ After w w'

theorem text_of (s : ByteArray) : ∃ l : List UInt8, (.string s : Value) = str l ∧ l.length = s.size := by
  refine ⟨s.data.toList, ?_, ?_⟩
  · exact congrArg Value.string (ByteArray.ext (Array.ext' rfl))
  · show s.data.toList.length = s.data.size; simp

theorem draw_pvalue (w : World) (v : Value) (n : Nat) (h : CodeArg w v n) : Calls Tryz.prog 16 #[v] w (DrawArgs w) := by
  have hopen := open_any w v n h
  clear h
  go_enter Tryz.func16, Tryz.ntmps16
  go_wp2_with fail
  refine hopen.mono ?_
  rintro e w1 ⟨rb, rfl, hr, ha, hd⟩
  have hfs := functions_any w1 rb 0 hd (by omega)
  clear hopen hd
  go_wp2_with fail
  refine hfs.mono ?_
  rintro e w2 ⟨s, q, rfl, hs, hq, hg, hd⟩
  obtain ⟨vc, hdr, hco⟩ := hd
  obtain ⟨l, hsl, hll⟩ := text_of s
  rw [hsl]
  have hargs := args_any w2 rb q 6 vc l hdr hco (by omega) (by omega) (by omega) (by omega)
  clear hfs hdr hco hsl
  go_wp2_with fail
  refine hargs.mono ?_
  rintro e w3 ⟨sv, zs, q3, rfl, hz, hzl, hq3, hg3, hd3⟩
  have HZ := Lib.hid hz
  obtain ⟨ao, cap, rfl⟩ := hz.form
  clear hargs hd3 hz
  go_wp2_with fail
  go_ret2
  exact ⟨l, _, zs, rfl, by omega, HZ.out, hzl, after_open ha (grown_trans hg hg3) hr⟩

theorem value_facts {l : List UInt8} {zs : List Int} {v s : Nat} (h : FT.pValue l zs = some (v, s)) : v ≤ 1000 ∧ 1 ≤ s ∧ s ≤ 2000 ∧ (FT.pValue (FT.incOf l) zs = none ∨ FT.pValue (FT.incOf l) zs = some (v + 1, s + 2)) := by
  unfold FT.pValue at h ⊢
  cases hp : FT.parse l with
  | none => rw [hp] at h; simp at h
  | some t =>
    rw [hp] at h
    simp only at h
    split at h
    · rename_i hc
      have hr := (FT.ev_runs t (zs.map Int.toNat) 0).small _ _ h
      refine ⟨hr.1, by omega, hr.2.2, ?_⟩
      rcases FT.parse_inc hp with hi | hi
      · left; rw [hi]
      · rw [hi]
        have har : FT.arity (.c1 .inc t) = FT.arity t := rfl
        simp only [har]
        rw [if_pos hc]
        simp only [FT.ev]
        rw [if_neg (by omega)]
        cases h1 : FT.ev t (zs.map Int.toNat) (0 + 1) with
        | none => left; rfl
        | some q =>
          obtain ⟨x, s1⟩ := q
          obtain ⟨rfl, rfl⟩ := FT.ev_shift t _ 0 1 _ _ _ _ h h1
          simp only [List.headD_cons]
          by_cases hb : 2000 < s + 1 + 1
          · left; rw [if_pos hb]; rfl
          · rw [if_neg hb]
            by_cases hx : x + 1 ≤ 1000
            · right
              simp [FT.chk, hx]
            · left
              simp [FT.chk, hx]
    · cases h

theorem law_pvalue (w : World) (v : Value) (n : Nat) (h : CodeArg w v n) :
    Calls Tryz.prog 5 #[v] w fun e w' => e = .returned (.bool true) ∧ After w w' := by
  obtain ⟨a0, cap, rfl⟩ := h.form
  have hdraw := draw_pvalue w _ n h
  clear h
  by_cases hbig : (1048576 : Int) < (n : Int)
  · go_enter Tryz.func5, Tryz.ntmps5
    go_wp2_with fail
    go_ret
    exact ⟨rfl, After.refl _⟩
  · go_enter Tryz.func5, Tryz.ntmps5
    go_wp2_with fail
    refine hdraw.mono ?_
    rintro e w1 ⟨l, sv, zs, rfl, hl, hz, hzl, ha⟩
    have hi := fun W (hW : After w1 W) => (impl_value W l (by omega) sv zs (hz.after hW) (by omega)).mono fun e w' h => h.one
    have hs := fun W (hW : After w1 W) => (spec_value W l (by omega) sv zs (hz.after hW) (by omega)).mono fun e w' h => h.one
    have hi2 := fun W (hW : After w1 W) => (impl_value W (FT.incOf l) (by rw [FT.inc_len]; omega) sv zs (hz.after hW) (by omega)).mono fun e w' h => h.one
    obtain ⟨c1, c2, hfin, e1, e2⟩ := inc_string l (by omega)
    rw [hfin] at hi2
    have HA := Lib.hid ha
    obtain ⟨ao, capv, rfl⟩ := hz.form
    generalize zs.length = zl at *
    cases hp : FT.pValue l zs with
    | none =>
      rw [hp] at hi hs
      simp only [Option.getD_none, Option.isSome_none] at hi hs
      have HI := Lib.hid hi
      have HS := Lib.hid hs
      clear hi hs hi2 hdraw ha hz hfin hp
      go_wp2_with fail
      refine (HI.out w1 (After.refl _)).mono ?_
      rintro e w2 ⟨rfl, hb2⟩
      go_wp2_with fail
      refine (HS.out w2 hb2).mono ?_
      rintro e w3 ⟨rfl, hb3⟩
      go_wp2_with fail
      go_ret
      exact ⟨rfl, HA.out.trans (hb2.trans hb3)⟩
    | some q =>
      obtain ⟨x, s⟩ := q
      obtain ⟨f1, f2, f3, f4⟩ := value_facts hp
      rw [hp] at hi hs
      simp only [Option.getD_some, Option.isSome_some] at hi hs
      have HI := Lib.hid hi
      have HS := Lib.hid hs
      have g1 : (0 : Int) ≤ (x : Int) := by omega
      have g2 : (1 : Int) ≤ (s : Int) := by omega
      rcases f4 with f4 | f4
      · rw [f4] at hi2
        simp only [Option.getD_none, Option.isSome_none] at hi2
        have HI2 := Lib.hid hi2
        clear hi hs hi2 hdraw ha hz hfin hp f4
        go_wp2_with fail
        refine (HI.out w1 (After.refl _)).mono ?_
        rintro e w2 ⟨rfl, hb2⟩
        go_wp2_with fail
        refine (HS.out w2 hb2).mono ?_
        rintro e w3 ⟨rfl, hb3⟩
        go_wp2_with fail
        refine (HI2.out w3 (hb2.trans hb3)).mono ?_
        rintro e w4 ⟨rfl, hb4⟩
        go_wp2_with fail
        go_ret
        exact ⟨rfl, HA.out.trans ((hb2.trans hb3).trans hb4)⟩
      · rw [f4] at hi2
        simp only [Option.getD_some, Option.isSome_some] at hi2
        rw [show ((x + 1 : Nat) : Int) = (x : Int) + 1 by omega, show ((s + 2 : Nat) : Int) = (s : Int) + 2 by omega] at hi2
        have HI2 := Lib.hid hi2
        clear hi hs hi2 hdraw ha hz hfin hp f4
        go_wp2_with fail
        refine (HI.out w1 (After.refl _)).mono ?_
        rintro e w2 ⟨rfl, hb2⟩
        go_wp2_with fail
        refine (HS.out w2 hb2).mono ?_
        rintro e w3 ⟨rfl, hb3⟩
        go_wp2_with fail
        refine (HI2.out w3 (hb2.trans hb3)).mono ?_
        rintro e w4 ⟨rfl, hb4⟩
        go_wp2_with fail
        go_ret
        exact ⟨rfl, HA.out.trans ((hb2.trans hb3).trans hb4)⟩
end Go.Proofs.YtmkmladlpgfniacGreat
