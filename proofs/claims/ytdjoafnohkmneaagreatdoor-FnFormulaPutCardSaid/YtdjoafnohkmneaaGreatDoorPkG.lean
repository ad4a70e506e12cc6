/-
  The model's l6fRead at a parenthesis: its loop.
-/
import Derived.Test.YtdjoafnohkmneaaGreatDoorPkF
import Derived.Test.YtdjoafnohkmneaaGreatDoorPkB
import Derived.Test.YtdjoafnohkmneaaGreatDoorPkE
namespace Go.Proofs.YtdjoafnohkmneaaGreatDoor
open Go.RowKit

set_option maxHeartbeats 4000000
set_option maxRecDepth 100000

/-- What holds ahead of each round of l6fRead's loop. -/
def SLoopX (l : List UInt8) (d : Nat) (R : Option (List SX × Nat)) (W2 : World) (q : Nat) (m : Nat) (wr : World) : Prop :=
  ∃ fuel ps xs ao n c, Fm.sloop l (Fm.sread l d) fuel m ps = R ∧ l.length < fuel + m ∧ wr.heap[q]? = some (.cells #[.string ⟨#[]⟩, .slice ao n c] 35 (0, 0)) ∧ RowT wr W2.heap.size (.slice ao n c) ps xs ∧ W2.grownBy wr (some q) ∧ ps.length ≤ m

theorem grown_al (w : World) (b : Nat) (o : Obj) : w.grownBy (w.alloc o) (some b) := ⟨rfl, rfl, rfl, by simp, fun k hk _ => (below_new w o).block k hk⟩

theorem s_xread (l : List UInt8) (hl : l.length ≤ 1000) : ∀ (d k : Nat) (a : Int) (w : World), a + d = 151 → d ≤ 151 → k ≤ l.length →
    Calls Tryz.prog 32 #[str l, .int .i64 (k : Nat), .int .i64 a] w (SXPost w (Fm.sread l d k)) := by
  intro d
  induction d with
  | zero => intro k a w ha _ _; obtain rfl : a = 151 := by omega
            exact s_xread_deep w l k
  | succ d ih =>
    intro k a w ha hd hk
    have hsz : (⟨l.toArray⟩ : ByteArray).size = l.length := by show l.toArray.size = _; simp
    have ha0 : 0 ≤ a := by omega
    have ha40 : a ≤ 150 := by omega
    by_cases hlen : l.length ≤ k
    · have H := Lib.hid (show Fm.sread l (d + 1) k = none by simp only [Fm.sread, if_pos hlen])
      have hk0 : (l.length : Int) ≤ (k : Int) := by omega
      clear ih hlen ha
      go_enter Tryz.func32, Tryz.ntmps32
      go_wp2_with fail
      exact bodyPost_ret (v := .tuple #[.agg #[.string ⟨#[]⟩, .slice none 0 0], .int .i64 (-1)]) (by simp [results, Tryz.results32, go_sem]) rfl
        (SXPost.no H.out (by repeat (first | exact After.refl _ | refine After.alloc ?_ _ | refine Below.setCell ?_ (by first | exact Nat.le_refl _ | exact Nat.le_succ _) _)) [] _ _ _)
    have hlt : k < l.length := by omega
    by_cases h0 : l[k]? = some 40
    case neg => exact s_xread_word w l hl d k a ha0 ha40 hlt h0
    have h40e : ((((⟨l.toArray⟩ : ByteArray)[k]'(by rw [hsz]; exact hlt)).toNat : Int) != 40) = false := by
      rw [byte_at l k hlt (by rw [hsz]; exact hlt), byte_ne_lit' l[k] 40 40 rfl rfl]
      rw [List.getElem?_eq_getElem hlt] at h0
      simpa using h0
    obtain ⟨R, hR⟩ : ∃ R, R = Fm.sloop l (Fm.sread l d) (l.length + 1) k [] := ⟨_, rfl⟩
    have hmain : Fm.sread l (d + 1) k = R.map fun p => (.node p.1, p.2) := by
      rw [hR]
      simp only [Fm.sread, if_neg hlen, if_pos h0]
    have hk0 : (k : Int) < (l.length : Int) := by omega
    have HMN := Lib.hid hmain
    have HR := Lib.hid hR
    have HIH := Lib.hid ih
    have HA := Lib.hid ha
    clear hmain hR ih h0 ha hlen
    go_enter Tryz.func32, Tryz.ntmps32
    go_wp2_with fail
    obtain ⟨W2, hW2⟩ : ∃ W2, W2 = (w.alloc (.cells #[.string ⟨#[]⟩, .slice none 0 0] 35 (0, 0))).alloc (.cells #[.string ⟨#[]⟩, .slice none 0 0] 35 (0, 0)) := ⟨_, rfl⟩
    rw [← hW2]
    have aW2 : After w W2 := by rw [hW2]; exact (After.new _ _).alloc _
    have hq0 : W2.heap[w.heap.size]? = some (.cells #[.string ⟨#[]⟩, .slice none 0 0] 35 (0, 0)) := by rw [hW2]; exact heap_below2 _ _ _
    have hq1 : W2.heap[w.heap.size + 1]? = some (.cells #[.string ⟨#[]⟩, .slice none 0 0] 35 (0, 0)) := by rw [hW2]; exact heap_top2 _ _ _
    have hs2 : W2.heap.size = w.heap.size + 2 := by rw [hW2]; simp
    have HQ0 := Lib.hid hq0
    have HQ1 := Lib.hid hq1
    have HS2 := Lib.hid hs2
    clear hW2 hq0 hq1 hs2 h40e
    have e1 : decide (l.length ≤ k) = false := decide_eq_false (by omega)
    have e2 : decide (150 < a) = false := decide_eq_false (by omega)
    simp only [e1, e2, Bool.or_self]
    clear e1 e2
    go_loopw [1] (fun e wr => ∃ m : Nat, e = .int .i64 m ∧ m < l.length ∧ Hid (SLoopX l d R W2 (w.heap.size + 1) m wr)) (fun e _ => l.length - (intOf e).toNat)
    case atStart =>
      exact ⟨k, rfl, hlt, l.length + 1, [], [], none, 0, 0, HR.out.symm, by omega, HQ1.out, RowT.nil _ _, World.grownBy.refl _ _, by simp⟩
    case round =>
      obtain ⟨m, rfl, hm, HSL⟩ := hrel
      obtain ⟨fuel, ps, xs, ao, n, c, hP, hfm, hq, hRow, hG, hpm⟩ := HSL.out
      obtain ⟨fu, rfl⟩ : ∃ fu, fuel = fu + 1 := ⟨fuel - 1, by omega⟩
      have hr0 : wr.heap[w.heap.size]? = some (.cells #[.string ⟨#[]⟩, .slice none 0 0] 35 (0, 0)) := by
        rw [hG.block w.heap.size (by have := HS2.out; omega) (fun e => by injection e with e; omega)]; exact HQ0.out
      have hwz : w.heap.size + 1 < wr.heap.size := (Array.getElem?_eq_some_iff.1 hq).1
      have awr : After w wr := after_own aW2 (by omega) hG
      have HRow := Lib.hid hRow
      have HG := Lib.hid hG
      have HP := Lib.hid hP
      have HHQ := Lib.hid hq
      have HHR := Lib.hid hr0
      have k1 := fun W => HIH.out (m + 1) (a + 1) W (by have := HA.out; omega) (by omega) hm
      have hcast : ((m + 1 : Nat) : Int) = (m : Int) + 1 := by omega
      rw [hcast] at k1
      clear hRow hG hP hq hr0 HSL hcast
      cases hp : Fm.sread l d (m + 1) with
      | none =>
        rw [hp] at k1
        have HF := Lib.hid (show Fm.sread l (d + 1) k = none by rw [HMN.out, ← HP.out]; simp [Fm.sloop, hp])
        clear hp
        go_wp2_with fail
        refine (k1 _).mono ?_
        rintro e w1 ⟨s1, ao1, n1, c1, rfl, hb1, ht1⟩
        clear ht1 k1
        obtain ⟨b0, b1, g0, g1, gz⟩ := cells2 (After.heap hb1 HHQ.out)
        obtain ⟨r0, r1, f0, f1, hz⟩ := cells2 (After.heap hb1 HHR.out)
        have hpl : placeX none = -1 := rfl
        go_wp2_with fail
        exact bodyPost_ret (v := .tuple #[.agg #[.string ⟨#[]⟩, .slice ao n c], .int .i64 (-1)]) (by simp [results, Tryz.results32, go_sem, r0, r1, hz]) rfl (SXPost.no HF.out (by repeat (first | exact awr.trans hb1 | exact awr | refine After.alloc ?_ _ | refine Below.setCell ?_ (by first | exact Nat.le_refl _ | exact Nat.le_succ _) _)) [] _ _ _)
      | some p =>
        obtain ⟨t, j⟩ := p
        rw [hp] at k1
        have hpl : placeX (some (t, j)) = (j : Int) := rfl
        by_cases hjl : l.length ≤ j
        · have HF := Lib.hid (show Fm.sread l (d + 1) k = none by rw [HMN.out, ← HP.out]; simp [Fm.sloop, hp, hjl])
          have hji : (l.length : Int) ≤ (j : Int) := by omega
          clear hp hjl
          go_wp2_with fail
          refine (k1 _).mono ?_
          rintro e w1 ⟨s1, ao1, n1, c1, rfl, hb1, ht1⟩
          clear ht1 k1
          obtain ⟨b0, b1, g0, g1, gz⟩ := cells2 (After.heap hb1 HHQ.out)
          obtain ⟨r0, r1, f0, f1, hz⟩ := cells2 (After.heap hb1 HHR.out)
          go_wp2_with fail
          exact bodyPost_ret (v := .tuple #[.agg #[.string ⟨#[]⟩, .slice ao n c], .int .i64 (-1)]) (by simp [results, Tryz.results32, go_sem, r0, r1, hz]) rfl (SXPost.no HF.out (by repeat (first | exact awr.trans hb1 | exact awr | refine After.alloc ?_ _ | refine Below.setCell ?_ (by first | exact Nat.le_refl _ | exact Nat.le_succ _) _)) [] _ _ _)
        have hjlt : j < l.length := by omega
        have hji : (j : Int) < (l.length : Int) := by omega
        have hmj := sread_on hp hjlt
        have hstep : Fm.sloop l (Fm.sread l d) (fu + 1) m ps = if l[j]? = some 41 then some (ps ++ [t], j + 1) else if l[j]? = some 32 then Fm.sloop l (Fm.sread l d) fu j (ps ++ [t]) else none := by
          simp only [Fm.sloop, hp, if_neg hjl]
        have hP2 : (if l[j]? = some 41 then some (ps ++ [t], j + 1) else if l[j]? = some 32 then Fm.sloop l (Fm.sread l d) fu j (ps ++ [t]) else none) = R := by rw [← hstep]; exact HP.out
        have HP2 := Lib.hid hP2
        clear hp hjl hstep hP2
        go_wp2_with fail
        refine (k1 _).mono ?_
        rintro e w1 ⟨s1, ao1, n1, c1, rfl, hb1, ht1⟩
        have HT1 := Lib.hid (ht1 t j rfl)
        clear ht1 k1
        have hq1 := After.heap hb1 HHQ.out
        obtain ⟨b0, b1, g0, g1, gz⟩ := cells2 hq1
        have hgq : wr.grownBy w1 (some (w.heap.size + 1)) := ⟨hb1.os, hb1.tape, hb1.output, hb1.size, fun k hk _ => hb1.block k hk⟩
        have hbase : w.heap.size + 1 < W2.heap.size := by have := HS2.out; omega
        have hR1 := HRow.out.grown hgq hbase
        have hgS : ∀ g, (Value.slice ao n c).ownBlock = some g → g < wr.heap.size := fun g hg => (HRow.out.1.lt g hg).2
        have hlen : n = ps.length := by obtain ⟨_, _, e⟩ := y_slice_len HRow.out.1; injection e
        subst hlen
        obtain ⟨i0, hi0, hz0, hz1, hz2⟩ : ∃ i, (Tryz.prog).info? 35 = some i ∧ i.zero = some (.agg #[.string ⟨#[]⟩, .slice none 0 0]) ∧ i.size = 2 ∧ i.bytes = 40 := ⟨_, rfl, rfl, rfl, rfl⟩
        have hun : Tryz.prog.underlying 33 = some (.slice 35) := by kernel_rfl
        have hown := World.ownsRow.alloc (World.ownsRow.alloc hR1.1 (.cells #[str s1, .slice ao1 n1 c1] 35)) (.cells #[str s1, .slice ao1 n1 c1] 35)
        have hnew : ∀ i u, [str s1, .slice ao1 n1 c1][i]? = some u → ((w1.alloc (.cells #[str s1, .slice ao1 n1 c1] 35)).alloc (.cells #[str s1, .slice ao1 n1 c1] 35)).cell? ((⟨w1.heap.size + 1, 0, none⟩ : Addr).add i) = some u := fun i u h => by
          rw [show ((⟨w1.heap.size + 1, 0, none⟩ : Addr).add i) = ⟨w1.heap.size + 1, i, none⟩ by unfold Addr.add; split <;> simp_all, cell_of_heap (heap_top2 w1 (.cells #[str s1, .slice ao1 n1 c1] 35) (.cells #[str s1, .slice ao1 n1 c1] 35))]
          simpa using h
        have hone : ∀ u ∈ [str s1, .slice ao1 n1 c1], u.oneCell' = true := by simp [Value.oneCell']
        have hmax : ps.length + 1 ≤ maxLen := by unfold maxLen; omega
        have hm8 : (ps.length + 1) * 40 ≤ 140737488355328 := by omega
        have hw12 : wr.heap.size ≤ w1.heap.size := After.le hb1
        have hW2r := HG.out.size
        have hszb : W2.heap.size ≤ ((w1.alloc (.cells #[str s1, .slice ao1 n1 c1] 35)).alloc (.cells #[str s1, .slice ao1 n1 c1] 35)).heap.size := by simp; omega
        have HR1 := Lib.hid hR1
        have HGS := Lib.hid hgS
        have HHQ1 := Lib.hid (After.heap hb1 HHQ.out)
        have HHR1 := Lib.hid (After.heap hb1 HHR.out)
        clear hq1 hR1 hgS
        have hat41 : l[j]? = some l[j] := List.getElem?_eq_getElem hjlt
        have hR7f : ∀ (w6 : World) (bo : Option Addr) (bn bc : Nat), w6.ownsRow W2.heap.size 35 2 (.slice bo bn bc) (ps.length + 1) (xs ++ [str s1, .slice ao1 n1 c1]) → ((w1.alloc (.cells #[str s1, .slice ao1 n1 c1] 35)).alloc (.cells #[str s1, .slice ao1 n1 c1] 35)).grownBy w6 (Value.slice ao ps.length c).ownBlock →
            ((Value.slice bo bn bc).ownBlock = (Value.slice ao ps.length c).ownBlock ∨ (Value.slice bo bn bc).ownBlock = some ((w1.alloc (.cells #[str s1, .slice ao1 n1 c1] 35)).alloc (.cells #[str s1, .slice ao1 n1 c1] 35)).heap.size) →
            RowT w6 W2.heap.size (.slice bo bn bc) (ps ++ [t]) (xs ++ [str s1, .slice ao1 n1 c1]) ∧ W2.grownBy w6 (some (w.heap.size + 1)) := fun w6 bo bn bc h1 h2 h3 => by
          have hlow : ∀ g, (Value.slice ao ps.length c).ownBlock = some g → W2.heap.size ≤ g := fun g hg => (hown.lt g hg).1
          have hG1 : W2.grownBy w1 (some (w.heap.size + 1)) := grown_trans HG.out hgq
          refine ⟨RowT.push (w := w1.alloc (.cells #[str s1, .slice ao1 n1 c1] 35)) (S := wr.heap.size) (HR1.out.grown (grown_al _ _ _) hbase) hW2r HGS.out (HT1.out.after (After.new w1 _)) _ h1 h2 h3, ?_⟩
          have h45s := hG1.size
          refine ⟨h2.os.trans hG1.os, h2.tape.trans hG1.tape, h2.output.trans hG1.output, by have := h2.size; simp at this; omega, fun q hq hne => ?_⟩
          rw [h2.block q (by simp; omega) (fun e => by have := hlow q e.symm; omega)]
          rw [((After.new w1 (.cells #[str s1, .slice ao1 n1 c1] 35)).alloc _).block q (by omega)]
          exact hG1.block q hq hne
        have HR7F := Lib.hid hR7f
        clear hR7f
        by_cases h41 : l[j]? = some 41
        · have h41e : ((((⟨l.toArray⟩ : ByteArray)[j]'(by rw [hsz]; exact hjlt)).toNat : Int) == 41) = true := by
            have hv := (List.getElem?_eq_some_iff.1 h41).2
            rw [byte_at l j hjlt (by rw [hsz]; exact hjlt), hv]; rfl
          have HF := Lib.hid (show Fm.sread l (d + 1) k = some (.node (ps ++ [t]), j + 1) by rw [HMN.out, ← HP2.out, if_pos h41]; rfl)
          clear h41 hat41
          go_wp2_with (at_builtin; refine wpList_append_at _ rfl _ _ 33 rfl W2.heap.size 35 i0 (.agg #[.string ⟨#[]⟩, .slice none 0 0]) 2 40 hun hi0 hz0 hz1 hz2 rfl (by decide) _ _ _ rfl hown ⟨w1.heap.size + 1, 0, none⟩ 1 1 [str s1, .slice ao1 n1 c1] rfl rfl hnew hone hmax hm8 hszb (by decide) ?_; intro v6 w6 ho6 hg6 hw6; obtain ⟨bo, bn, bc, rfl⟩ := y_slice ho6; have hq6 := (hg6.block (w.heap.size + 1) (by simp; omega) (fun e => by have := (hown.lt _ e.symm).1; omega)).trans (After.heap (After.alloc (After.new w1 _) _) HHQ1.out); have hr6 := (hg6.block (w.heap.size) (by simp; omega) (fun e => by have := (hown.lt _ e.symm).1; omega)).trans (After.heap (After.alloc (After.new w1 _) _) HHR1.out); clear b0 b1 g0 g1 gz; obtain ⟨b0, b1, g0, g1, gz⟩ := cells2 hq6; obtain ⟨r0, r1, f0, f1, hz⟩ := cells2 hr6; have HQ6 := Lib.hid hq6; have HO6 := Lib.hid ho6; have HG6 := Lib.hid hg6; have HW6 := Lib.hid hw6; clear ho6 hg6 hw6 hq6 hr6)
          have aw6 : After w w6 := after_own aW2 (by omega) (HR7F.out w6 bo bn bc HO6.out HG6.out HW6.out).2
          have hkid := (HR7F.out w6 bo bn bc HO6.out HG6.out HW6.out).1.kids (Nat.le_refl _)
          have hsv : SV w6 W2.heap.size (.node (ps ++ [t])) (.agg #[.string ⟨#[]⟩, .slice bo bn bc]) := SV.mk hkid (by simp)
          have HSV := Lib.hid hsv
          clear hkid hsv
          refine bodyPost_ret (v := .tuple #[.agg #[.string ⟨#[]⟩, .slice bo bn bc], .int .i64 ((j : Int) + 1)]) (by simp [results, Tryz.results32, go_sem, r0, r1]; try omega) rfl ?_
          refine ⟨[], bo, bn, bc, by rw [HF.out]; rfl, (by repeat (first | exact aw6 | refine After.alloc ?_ _ | refine Below.setCell ?_ (by first | exact Nat.le_refl _ | exact Nat.le_succ _) _)), fun t' j' he => ?_⟩
          rw [HF.out] at he
          simp only [Option.some.injEq, Prod.mk.injEq] at he
          obtain ⟨rfl, rfl⟩ := he
          refine SV.move (B := W2.heap.size) (w := w6) (by have := HS2.out; omega) (fun b hb hl => ?_) _ _ HSV.out
          have hs2 := HS2.out
          rw [Below.heap_setCell _ _ _ _ (show b ≠ w.heap.size by omega), Below.heap_setCell _ _ _ _ (show b ≠ w.heap.size by omega)]
          exact Below.heap_setCell _ _ _ _ (show b ≠ w.heap.size + 1 by omega)
        · have h41e : ((((⟨l.toArray⟩ : ByteArray)[j]'(by rw [hsz]; exact hjlt)).toNat : Int) == 41) = false := by
            rw [byte_at l j hjlt (by rw [hsz]; exact hjlt)]
            rw [hat41] at h41
            rw [beq_eq_false_iff_ne]
            exact fun e => h41 (congrArg some (UInt8.toNat_inj.1 (by show (l[j]).toNat = 41; omega)))
          by_cases h32 : l[j]? = some 32
          · have h32e : ((((⟨l.toArray⟩ : ByteArray)[j]'(by rw [hsz]; exact hjlt)).toNat : Int) != 32) = false := by
              have hv := (List.getElem?_eq_some_iff.1 h32).2
              rw [byte_at l j hjlt (by rw [hsz]; exact hjlt), hv]; rfl
            have HPn := Lib.hid (show Fm.sloop l (Fm.sread l d) fu j (ps ++ [t]) = R by rw [← HP2.out, if_neg h41, if_pos h32])
            clear h41 h32 hat41
            go_wp2_with (at_builtin; refine wpList_append_at _ rfl _ _ 33 rfl W2.heap.size 35 i0 (.agg #[.string ⟨#[]⟩, .slice none 0 0]) 2 40 hun hi0 hz0 hz1 hz2 rfl (by decide) _ _ _ rfl hown ⟨w1.heap.size + 1, 0, none⟩ 1 1 [str s1, .slice ao1 n1 c1] rfl rfl hnew hone hmax hm8 hszb (by decide) ?_; intro v6 w6 ho6 hg6 hw6; obtain ⟨bo, bn, bc, rfl⟩ := y_slice ho6; have hq6 := (hg6.block (w.heap.size + 1) (by simp; omega) (fun e => by have := (hown.lt _ e.symm).1; omega)).trans (After.heap (After.alloc (After.new w1 _) _) HHQ1.out); have hr6 := (hg6.block (w.heap.size) (by simp; omega) (fun e => by have := (hown.lt _ e.symm).1; omega)).trans (After.heap (After.alloc (After.new w1 _) _) HHR1.out); clear b0 b1 g0 g1 gz; obtain ⟨b0, b1, g0, g1, gz⟩ := cells2 hq6; obtain ⟨r0, r1, f0, f1, hz⟩ := cells2 hr6; have HQ6 := Lib.hid hq6; have HO6 := Lib.hid ho6; have HG6 := Lib.hid hg6; have HW6 := Lib.hid hw6; clear ho6 hg6 hw6 hq6 hr6)
            go_roundw
            case measure => simp [intOf]; omega
            case rel =>
              have hHQ7 : (w6.setCell ⟨w.heap.size + 1, 1, none⟩ (.slice bo bn bc)).heap[w.heap.size + 1]? = some (.cells #[.string ⟨#[]⟩, .slice bo bn bc] 35 (0, 0)) := by
                have := HQ6.out
                simp [World.setCell, Array.getElem?_modify, this]
              obtain ⟨h7, h8⟩ := HR7F.out w6 bo bn bc HO6.out HG6.out HW6.out
              exact ⟨j, rfl, hjlt, fu, ps ++ [t], _, bo, bn, bc, HPn.out, by omega, hHQ7, h7.grown (grown_setx _ _ _ _) hbase, grown_trans h8 (grown_setx _ _ _ _), by simp; omega⟩
          · have h32e : ((((⟨l.toArray⟩ : ByteArray)[j]'(by rw [hsz]; exact hjlt)).toNat : Int) != 32) = true := by
              rw [byte_at l j hjlt (by rw [hsz]; exact hjlt), byte_ne_lit' l[j] 32 32 rfl rfl]
              rw [hat41] at h32
              simpa using h32
            have HF := Lib.hid (show Fm.sread l (d + 1) k = none by rw [HMN.out, ← HP2.out, if_neg h41, if_neg h32]; rfl)
            clear h41 h32 hat41
            go_wp2_with (at_builtin; refine wpList_append_at _ rfl _ _ 33 rfl W2.heap.size 35 i0 (.agg #[.string ⟨#[]⟩, .slice none 0 0]) 2 40 hun hi0 hz0 hz1 hz2 rfl (by decide) _ _ _ rfl hown ⟨w1.heap.size + 1, 0, none⟩ 1 1 [str s1, .slice ao1 n1 c1] rfl rfl hnew hone hmax hm8 hszb (by decide) ?_; intro v6 w6 ho6 hg6 hw6; obtain ⟨bo, bn, bc, rfl⟩ := y_slice ho6; have hq6 := (hg6.block (w.heap.size + 1) (by simp; omega) (fun e => by have := (hown.lt _ e.symm).1; omega)).trans (After.heap (After.alloc (After.new w1 _) _) HHQ1.out); have hr6 := (hg6.block (w.heap.size) (by simp; omega) (fun e => by have := (hown.lt _ e.symm).1; omega)).trans (After.heap (After.alloc (After.new w1 _) _) HHR1.out); clear b0 b1 g0 g1 gz; obtain ⟨b0, b1, g0, g1, gz⟩ := cells2 hq6; obtain ⟨r0, r1, f0, f1, hz⟩ := cells2 hr6; have HQ6 := Lib.hid hq6; have HO6 := Lib.hid ho6; have HG6 := Lib.hid hg6; have HW6 := Lib.hid hw6; clear ho6 hg6 hw6 hq6 hr6)
            have aw6 : After w w6 := after_own aW2 (by omega) (HR7F.out w6 bo bn bc HO6.out HG6.out HW6.out).2
            exact bodyPost_ret (v := .tuple #[.agg #[.string ⟨#[]⟩, .slice bo bn bc], .int .i64 (-1)]) (by simp [results, Tryz.results32, go_sem, r0, r1]; try omega) rfl (SXPost.no HF.out (by repeat (first | exact aw6 | refine After.alloc ?_ _ | refine Below.setCell ?_ (by first | exact Nat.le_refl _ | exact Nat.le_succ _) _)) [] _ _ _)
end Go.Proofs.YtdjoafnohkmneaaGreatDoor

namespace Go.Proofs.YtdjoafnohkmneaaGreatDoor
open Go.RowKit

set_option maxHeartbeats 4000000
set_option maxRecDepth 100000

theorem SV.form {w : World} {B : Nat} {t : SX} {v : Value} (h : SV w B t v) : ∃ ao cap, v = .agg #[str (atomX t), .slice ao (partsX t).length cap] := by
  cases t with
  | atom a => simp only [SV] at h; exact ⟨_, _, h⟩
  | node ps =>
    simp only [SV] at h
    obtain ⟨b, cap, cs, fr, hv, _⟩ := h
    exact ⟨_, _, hv⟩

/-- A part of a tree: its cells, in all later worlds. -/
theorem SV.part {w : World} {B : Nat} {ps : List SX} {v : Value} (h : SV w B (.node ps) v) : ∃ b cap, v = .agg #[.string ⟨#[]⟩, .slice (some ⟨b, 0, none⟩) ps.length cap] ∧
    ∀ j (hj : j < ps.length), ∃ ao c, (∀ W, After w W → W.cell? ⟨b, j * 2, none⟩ = some (str (atomX ps[j])) ∧ W.cell? ⟨b, j * 2 + 1, none⟩ = some (.slice ao (partsX ps[j]).length c)) ∧ SV w B ps[j] (.agg #[str (atomX ps[j]), .slice ao (partsX ps[j]).length c]) := by
  simp only [SV] at h
  obtain ⟨b, cap, cs, fr, hv, hb, hh, hc⟩ := h
  refine ⟨b, cap, hv, fun j hj => ?_⟩
  have := (SVs.iff ps 0).1 hc j hj
  rw [Nat.zero_add] at this
  obtain ⟨x, y, e1, e2, h5⟩ := this
  obtain ⟨ao, c, hf⟩ := h5.form
  injection hf with hf
  injection hf with hf
  injection hf with f1 hf
  injection hf with f2 hf
  subst f1
  subst f2
  exact ⟨ao, c, fun W hW => ⟨by rw [cell_of_heap (hW.heap hh), Nat.mul_comm]; exact e1, by rw [cell_of_heap (hW.heap hh), Nat.mul_comm]; exact e2⟩, h5⟩

def headX : SX → List UInt8
  | .node (p :: _) => atomX p
  | _ => []

theorem s_head (w : World) (B : Nat) (t : SX) (v : Value) (h : SV w B t v) (ok : Fm.sxOk t) : Calls Tryz.prog 58 #[v] w fun e w' => e = .returned (str (headX t)) ∧ After w w' := by
  cases t with
  | atom a =>
    simp only [SV] at h
    simp only [Fm.sxOk] at ok
    subst h
    have hA := After.new w (.cells #[str a, .slice none 0 0] 35)
    have e0 : (a == []) = false := beq_eq_false_iff_ne.2 ok.1
    have e1 : (a != []) = true := by rw [bne, e0]; rfl
    clear ok
    go_enter Tryz.func58, Tryz.ntmps58
    go_wp2_with fail
    go_ret
    exact ⟨rfl, hA⟩
  | node ps =>
    simp only [Fm.sxOk] at ok
    obtain ⟨b, cap, rfl, hp⟩ := h.part
    obtain ⟨n, hn⟩ : ∃ n, n = ps.length := ⟨_, rfl⟩
    obtain ⟨p, ps', rfl⟩ : ∃ p ps', ps = p :: ps' := by
      cases ps with
      | nil => exact absurd rfl ok.1
      | cons p ps' => exact ⟨p, ps', rfl⟩
    obtain ⟨ao, c, hc, _⟩ := hp 0 (by simp)
    rw [← hn]
    have h0 : 0 < n := by rw [hn]; simp
    have h0i : ((n : Int) == 0) = false := beq_eq_false_iff_ne.2 (by omega)
    have hA := After.new w (.cells #[.string ⟨#[]⟩, .slice (some ⟨b, 0, none⟩) n cap] 35)
    have c0 : (w.alloc (.cells #[.string ⟨#[]⟩, .slice (some ⟨b, 0, none⟩) n cap] 35)).cell? ⟨b, 0, none⟩ = some (str (atomX p)) := (hc _ hA).1
    show Calls _ _ _ _ fun e w' => e = .returned (str (atomX p)) ∧ After w w'
    clear hn hp hc h ok
    go_enter Tryz.func58, Tryz.ntmps58
    go_wp2_with fail
    go_ret
    exact ⟨rfl, hA⟩

/-! ### numbers -/

def digOk (a : List UInt8) : Bool := a.all fun c => decide (48 ≤ c.toNat ∧ c.toNat ≤ 57)
def valD (a : List UInt8) : Nat := a.foldl (fun n c => 10 * n + (c.toNat - 48)) 0
def lenOk (a : List UInt8) : Bool := decide (1 ≤ a.length ∧ a.length ≤ 2) && !(decide (a.length = 2) && decide (a[0]? = some 48))
def numI (a : List UInt8) : Int := if lenOk a && digOk a && decide (valD a ≤ 60) then (valD a : Nat) else -1
def numP : Option Nat → Int
  | some n => (n : Nat)
  | none => -1

theorem dec_toNat (m : Nat) (h : m < 10) : (UInt8.ofNat (48 + m)).toNat = 48 + m := by
  rw [UInt8.toNat_ofNat']
  omega

theorem numI_eq (a : List UInt8) : numI a = numP (Fm.num6 a) := by
  unfold Fm.num6
  cases hn : Fm.numOf a 0 60 with
  | some m =>
    obtain ⟨rfl, _, hm⟩ := Fm.numOf_some hn
    unfold numI Fm.dec
    by_cases h10 : m < 10
    · rw [if_pos h10]
      have e := dec_toNat m h10
      generalize UInt8.ofNat (48 + m) = c at *
      simp [lenOk, digOk, valD, e, numP]
      omega
    · rw [if_neg h10]
      have e1 := dec_toNat (m / 10) (by omega)
      have e2 := dec_toNat (m % 10) (by omega)
      have e3 : ¬ UInt8.ofNat (48 + m / 10) = 48 := fun e => by have := congrArg UInt8.toNat e; rw [e1] at this; simp at this; omega
      generalize UInt8.ofNat (48 + m / 10) = c at *
      generalize UInt8.ofNat (48 + m % 10) = d at *
      have e4 : 10 * (m / 10) + m % 10 = m := by omega
      simp [lenOk, digOk, valD, e1, e2, e3, e4, numP]
      omega
  | none =>
    unfold numI
    by_cases hc : (lenOk a && digOk a && decide (valD a ≤ 60)) = true
    · exfalso
      simp only [Bool.and_eq_true, decide_eq_true_eq] at hc
      obtain ⟨⟨h1, h2⟩, h3⟩ := hc
      have hd : a = Fm.dec (valD a) := by
        match a, h1, h2 with
        | [c], h1, h2 =>
          simp only [digOk, List.all_cons, List.all_nil, Bool.and_true, decide_eq_true_eq] at h2
          have hv : valD [c] = c.toNat - 48 := by simp [valD]
          rw [hv, Fm.dec, if_pos (by omega)]
          congr 1
          apply UInt8.toNat_inj.1
          rw [dec_toNat _ (by omega)]
          omega
        | [c, d], h1, h2 =>
          simp only [digOk, List.all_cons, List.all_nil, Bool.and_true, Bool.and_eq_true, decide_eq_true_eq] at h2
          have hv : valD [c, d] = 10 * (c.toNat - 48) + (d.toNat - 48) := by simp [valD]
          have hc : c.toNat ≠ 48 := fun e => by
            have : c = 48 := UInt8.toNat_inj.1 e
            subst this
            simp [lenOk] at h1
          rw [hv, Fm.dec, if_neg (by omega)]
          congr 1
          · apply UInt8.toNat_inj.1
            rw [dec_toNat _ (by omega)]
            omega
          · congr 1
            apply UInt8.toNat_inj.1
            rw [dec_toNat _ (by omega)]
            omega
        | c :: d :: e :: r, h1, _ => simp [lenOk] at h1
        | [], h1, _ => simp [lenOk] at h1
      have := Fm.numOf_dec (lo := 0) (hi := 60) (m := valD a) (Nat.zero_le _) h3 (by omega)
      rw [← hd, hn] at this
      cases this
    · rw [if_neg hc]
      rfl
end Go.Proofs.YtdjoafnohkmneaaGreatDoor

namespace Go.Proofs.YtdjoafnohkmneaaGreatDoor
open Go.RowKit

set_option maxHeartbeats 1000000
set_option maxRecDepth 100000

theorem valD_snoc (a : List UInt8) (k : Nat) (h : k < a.length) : valD (a.take (k + 1)) = 10 * valD (a.take k) + (a[k].toNat - 48) := by
  unfold valD
  rw [List.take_succ_eq_append_getElem h, List.foldl_append]
  rfl
theorem digOk_snoc (a : List UInt8) (k : Nat) (h : k < a.length) : digOk (a.take (k + 1)) = (digOk (a.take k) && decide (48 ≤ a[k].toNat ∧ a[k].toNat ≤ 57)) := by
  unfold digOk
  rw [List.take_succ_eq_append_getElem h, List.all_append]
  simp
theorem digOk_bad (a : List UInt8) (k : Nat) (h : k < a.length) (hb : ¬ (48 ≤ a[k].toNat ∧ a[k].toNat ≤ 57)) : digOk a = false := by
  unfold digOk
  rw [List.all_eq_false]
  exact ⟨a[k], List.getElem_mem h, by simpa using hb⟩
theorem valD_le (a : List UInt8) (h : a.length ≤ 2) (hd : digOk a = true) : valD a ≤ 99 := by
  match a, h with
  | [], _ => simp [valD]
  | [c], _ => simp [digOk] at hd; simp [valD]; omega
  | [c, d], _ => simp [digOk] at hd; simp [valD]; omega

theorem s_num (w : World) (a : List UInt8) (hl : a.length ≤ 1000000000) : Calls Tryz.prog 57 #[str a] w fun e w' => e = .returned (.int .i64 (numI a)) ∧ w = w' := by
  have hsz : (⟨a.toArray⟩ : ByteArray).size = a.length := by show a.toArray.size = _; simp
  have hin := in_any w (a.length : Nat) 1 2
  by_cases h12 : 1 ≤ a.length ∧ a.length ≤ 2
  case neg =>
    rw [decide_eq_false (by omega)] at hin
    have hr : numI a = -1 := by unfold numI lenOk; rw [decide_eq_false h12]; rfl
    rw [hr]
    clear hr h12
    go_enter Tryz.func57, Tryz.ntmps57
    go_wp2_with fail
    refine hin.mono ?_
    rintro e w1 ⟨rfl, rfl⟩
    clear hin
    go_wp2_with fail
    go_ret
    exact ⟨rfl, rfl⟩
  rw [decide_eq_true (by omega)] at hin
  have h0 : 0 < a.length := by omega
  have hb0 : ((⟨a.toArray⟩ : ByteArray)[0]'(by rw [hsz]; exact h0)) = a[0] := byte_at a 0 h0 (by rw [hsz]; exact h0)
  obtain ⟨ez, hez⟩ : ∃ ez : Bool, (decide (a.length = 2) && decide (a[0] = 48)) = ez := ⟨_, rfl⟩
  have hlen : lenOk a = !ez := by
    unfold lenOk
    rw [decide_eq_true h12, List.getElem?_eq_getElem h0, ← hez]
    simp
  cases ez with
  | true =>
    have hr : numI a = -1 := by unfold numI; rw [hlen]; rfl
    rw [hr]
    simp only [Bool.and_eq_true, decide_eq_true_eq] at hez
    have h2 : ((a.length : Int) == 2) = true := by rw [hez.1]; rfl
    have h48 : ((((⟨a.toArray⟩ : ByteArray)[0]'(by rw [hsz]; exact h0)).toNat : Int) == 48) = true := by rw [hb0, hez.2]; rfl
    clear hr hlen hez hb0 h12
    go_enter Tryz.func57, Tryz.ntmps57
    go_wp2_with fail
    refine hin.mono ?_
    rintro e w1 ⟨rfl, rfl⟩
    clear hin
    go_wp2_with fail
    go_ret
    exact ⟨rfl, rfl⟩
  | false =>
    have hloop : (a.length = 2 ∧ a[0] ≠ 48) ∨ a.length = 1 := by
      by_cases e : a.length = 2
      · rw [decide_eq_true e, Bool.true_and] at hez
        exact Or.inl ⟨e, of_decide_eq_false hez⟩
      · exact Or.inr (by omega)
    have hres : digOk a = false → numI a = -1 := fun h => by unfold numI; rw [h]; simp
    have hres2 : digOk a = true → numI a = if valD a ≤ 60 then (valD a : Int) else -1 := fun h => by
      unfold numI; rw [hlen, h]; simp
    have HV2 := Lib.hid (valD_le a h12.2)
    have HRES := Lib.hid hres
    have HRES2 := Lib.hid hres2
    have hal : a.length ≤ 2 := h12.2
    have hbyte : ∀ k (h : k < a.length), (((⟨a.toArray⟩ : ByteArray)[k]'(by rw [hsz]; exact h)).toNat : Int) = (a[k].toNat : Nat) := fun k h => by rw [byte_at a k h (by rw [hsz]; exact h)]
    have HBY := Lib.hid hbyte
    clear hres hres2 hbyte hlen
    obtain ⟨b2, hb2⟩ : ∃ b2 : Bool, ((a.length : Int) == 2) = b2 := ⟨_, rfl⟩
    have hcase : b2 = false ∨ (b2 = true ∧ ((((⟨a.toArray⟩ : ByteArray)[0]'(by rw [hsz]; exact h0)).toNat : Int) == 48) = false) := by
      rcases hloop with ⟨h2, hn⟩ | h1
      · right
        refine ⟨by rw [← hb2, h2]; rfl, ?_⟩
        rw [hb0, beq_eq_false_iff_ne]
        exact fun e => hn (UInt8.toNat_inj.1 (by show (a[0]).toNat = 48; omega))
      · left
        rw [← hb2, h1]; rfl
    clear hloop hez hb0 h12
    rcases hcase with rfl | ⟨rfl, h48⟩
    all_goals
      go_enter Tryz.func57, Tryz.ntmps57
      go_wp2_with fail
      refine hin.mono ?_
      rintro e w1 ⟨rfl, rfl⟩
      clear hin
      go_wp2_with fail
      try clear h48
      go_loopw [3, 4] (fun v i wr => ∃ k : Nat, i = .int .i64 k ∧ k ≤ a.length ∧ v = .int .i64 (valD (a.take k) : Nat) ∧ Hid (digOk (a.take k) = true) ∧ w = wr) (fun _ i _ => a.length - (intOf i).toNat)
      case atStart => exact ⟨0, rfl, Nat.zero_le _, rfl, (by simp [digOk] : digOk (a.take 0) = true), rfl⟩
      case round =>
        obtain ⟨k, rfl, hk, rfl, HD, rfl⟩ := hrel
        by_cases hlt : k < a.length
        · have hlti : (k : Int) < (a.length : Int) := by omega
          have hV := valD_le (a.take k) (by rw [List.length_take]; omega) HD.out
          have HS := Lib.hid (valD_snoc a k hlt)
          have HDS := Lib.hid (digOk_snoc a k hlt)
          have hby := HBY.out k hlt
          by_cases hd : 48 ≤ a[k].toNat ∧ a[k].toNat ≤ 57
          · have HDN : Hid (digOk (a.take (k + 1)) = true) := by show _ = _; rw [HDS.out, HD.out, decide_eq_true hd]; rfl
            obtain ⟨d1, d2⟩ := hd
            generalize a[k].toNat = cn at *
            generalize valD (a.take k) = V at *
            have hx1 : ¬ (((⟨a.toArray⟩ : ByteArray)[k]'(by rw [hsz]; exact hlt)).toNat : Int) < 48 := by omega
            have hx2 : ¬ (57 : Int) < (((⟨a.toArray⟩ : ByteArray)[k]'(by rw [hsz]; exact hlt)).toNat : Int) := by omega
            go_wp2_with fail
            go_roundw
            case rel => exact ⟨k + 1, by go_num, by omega, by rw [HS.out]; exact congrArg (Value.int .i64) (by omega), HDN, by first | rfl | trivial⟩
            case measure => simp [intOf]; omega
          · have hbad := digOk_bad a k hlt hd
            have HR : Hid (numI a = -1) := HRES.out hbad
            clear hbad
            by_cases hx1 : a[k].toNat < 48
            · have hx2 : (((⟨a.toArray⟩ : ByteArray)[k]'(by rw [hsz]; exact hlt)).toNat : Int) < 48 := by omega
              clear hd hx1 hby
              go_wp2_with fail
              go_ret
              exact ⟨by rw [HR.out]; rfl, rfl⟩
            · have hx2 : ¬ (((⟨a.toArray⟩ : ByteArray)[k]'(by rw [hsz]; exact hlt)).toNat : Int) < 48 := by omega
              have hx3 : (57 : Int) < (((⟨a.toArray⟩ : ByteArray)[k]'(by rw [hsz]; exact hlt)).toNat : Int) := by omega
              clear hd hx1 hby
              go_wp2_with fail
              go_ret
              exact ⟨by rw [HR.out]; rfl, rfl⟩
        · obtain rfl : k = a.length := by omega
          have hda : digOk a = true := by have := HD.out; rwa [List.take_length] at this
          have HR := Lib.hid (HRES2.out hda)
          have hVa := HV2.out hda
          rw [List.take_length]
          clear hda HD HV2
          generalize valD a = V at *
          by_cases h60 : V ≤ 60
          · have HR2 : Hid (numI a = (V : Int)) := by show _ = _; rw [HR.out, if_pos h60]
            have h60i : (V : Int) ≤ 60 := by omega
            clear HR h60
            go_wp2_with fail
            go_ret
            exact ⟨by rw [HR2.out]; rfl, rfl⟩
          · have HR2 : Hid (numI a = -1) := by show _ = _; rw [HR.out, if_neg h60]
            have h60i : (60 : Int) < (V : Int) := by omega
            clear HR h60
            go_wp2_with fail
            go_ret
            exact ⟨by rw [HR2.out]; rfl, rfl⟩
end Go.Proofs.YtdjoafnohkmneaaGreatDoor

namespace Go.Proofs.YtdjoafnohkmneaaGreatDoor
open Go.RowKit

set_option maxHeartbeats 4000000
set_option maxRecDepth 100000

theorem isE_num (a : List UInt8) : (Fm.num6 a).isSome = decide (0 ≤ numI a) := by
  rw [numI_eq]
  cases Fm.num6 a with
  | none => rfl
  | some n => simp [numP]

/-- A part's two cells, loaded whole. -/
theorem s_expr_atom (w : World) (a : List UInt8) (ha : a ≠ []) (hl : a.length ≤ 1000000000) : Calls Tryz.prog 33 #[.agg #[str a, .slice none 0 0]] w fun e w' => e = .returned (.bool (Tm.nameOk a || (Fm.num6 a).isSome)) ∧ After w w' := by
  have hA := After.new w (.cells #[str a, .slice none 0 0] 35)
  have hb := heap_new' w (.cells #[str a, .slice none 0 0] 35)
  have hn := fun W => s_name W a hl
  have hm := fun W => s_num W a hl
  have e0 : (a == []) = false := beq_eq_false_iff_ne.2 ha
  have e1 : (a != []) = true := by rw [bne, e0]; rfl
  rw [isE_num]
  clear ha
  generalize Tm.nameOk a = r at *
  generalize numI a = m at *
  cases r with
  | true =>
    rw [Bool.true_or]
    clear hb hm
    go_enter Tryz.func33, Tryz.ntmps33
    go_wp2_with fail
    refine (hn _).mono ?_
    rintro e w1 ⟨rfl, rfl⟩
    clear hn
    go_wp2_with fail
    go_ret
    exact ⟨rfl, hA⟩
  | false =>
    rw [Bool.false_or]
    clear hb
    go_enter Tryz.func33, Tryz.ntmps33
    go_wp2_with fail
    refine (hn _).mono ?_
    rintro e w1 ⟨rfl, rfl⟩
    clear hn
    go_wp2_with fail
    refine (hm _).mono ?_
    rintro e w1 ⟨rfl, rfl⟩
    clear hm
    go_wp2_with fail
    go_ret
    exact ⟨rfl, hA⟩

/-! ### trees whose atoms are short enough -/

def GoodX (t : SX) : Prop := Fm.sxOk t ∧ (Fm.sxText t).length ≤ 1000000000

theorem ok_part : ∀ {ps : List SX} {p : SX}, Fm.sxOks ps → p ∈ ps → Fm.sxOk p
  | q :: ps, p, h, hp => by
    simp only [Fm.sxOks] at h
    rcases List.mem_cons.1 hp with rfl | hp
    · exact h.1
    · exact ok_part h.2 hp
theorem text_part : ∀ {ps : List SX} {p : SX}, p ∈ ps → (Fm.sxText p).length ≤ (Fm.sxTexts ps).length
  | [q], p, hp => by
    obtain rfl : p = q := by simpa using hp
    simp [Fm.sxTexts]
  | q :: r :: ps, p, hp => by
    rcases List.mem_cons.1 hp with rfl | hp
    · simp [Fm.sxTexts]
    · have := text_part (ps := r :: ps) hp
      simp [Fm.sxTexts]; omega
theorem depth_part : ∀ {ps : List SX} {p : SX}, p ∈ ps → Fm.sxDepth p ≤ Fm.sxDepths ps
  | q :: ps, p, hp => by
    simp only [Fm.sxDepths]
    rcases List.mem_cons.1 hp with rfl | hp
    · omega
    · have := depth_part hp; omega
theorem GoodX.part {ps : List SX} {p : SX} (h : GoodX (.node ps)) (hp : p ∈ ps) : GoodX p := by
  obtain ⟨h1, h2⟩ := h
  simp only [Fm.sxOk] at h1
  simp only [Fm.sxText, List.length_cons] at h2
  exact ⟨ok_part h1.2 hp, by have := text_part hp; omega⟩
theorem depth_in {ps : List SX} {p : SX} {d : Nat} (h : Fm.sxDepth (.node ps) < d + 1) (hp : p ∈ ps) : Fm.sxDepth p < d := by
  simp only [Fm.sxDepth] at h
  have := depth_part hp
  omega

theorem isE_node (d : Nat) (ps : List SX) : Fm.isE (d + 1) (.node ps) = if headX (.node ps) = Fm.wSuc then decide (ps.length = 2) && ((ps[1]?.map (Fm.isE d)).getD false)
    else if headX (.node ps) = Fm.wAdd ∨ headX (.node ps) = Fm.wMul then decide (ps.length = 3) && (((ps[1]?.map (Fm.isE d)).getD false) && ((ps[2]?.map (Fm.isE d)).getD false)) else false := by
  have hsa : Fm.wSuc ≠ Fm.wAdd := by decide
  have hsm : Fm.wSuc ≠ Fm.wMul := by decide
  match ps with
  | [] => simp [Fm.isE, headX, Fm.wSuc, Fm.wAdd, Fm.wMul]
  | [p] => cases p <;> simp [Fm.isE, headX, atomX]
  | [.node qs, p] => simp [Fm.isE, headX, atomX, Fm.wSuc, Fm.wAdd, Fm.wMul]
  | [.node qs, p, q] => simp [Fm.isE, headX, atomX, Fm.wSuc, Fm.wAdd, Fm.wMul]
  | [.atom w, p] => by_cases h : w = Fm.wSuc <;> simp [Fm.isE, headX, atomX, h]
  | [.atom w, p, q] =>
    by_cases h : w = Fm.wSuc
    · simp [Fm.isE, headX, atomX, h, hsa, hsm]
    · by_cases h2 : w = Fm.wAdd ∨ w = Fm.wMul <;> simp [Fm.isE, headX, atomX, h, h2]
  | a :: p :: q :: r :: ps => simp [Fm.isE, headX]

def ExprIH (d : Nat) : Prop := ∀ (t : SX) (w : World) (B : Nat) (v : Value), SV w B t v → GoodX t → Fm.sxDepth t < d → Calls Tryz.prog 33 #[v] w fun e w' => e = .returned (.bool (Fm.isE d t)) ∧ After w w'

theorem s_expr_node (d : Nat) (ih : ExprIH d) (ps : List SX) (w : World) (B : Nat) (v : Value) (h : SV w B (.node ps) v) (hg : GoodX (.node ps)) (hd : Fm.sxDepth (.node ps) < d + 1) :
    Calls Tryz.prog 33 #[v] w fun e w' => e = .returned (.bool (Fm.isE (d + 1) (.node ps))) ∧ After w w' := by
  obtain ⟨b, cap, rfl, hp⟩ := h.part
  have hA := After.new w (.cells #[.string ⟨#[]⟩, .slice (some ⟨b, 0, none⟩) ps.length cap] 35)
  have hb := heap_new' w (.cells #[.string ⟨#[]⟩, .slice (some ⟨b, 0, none⟩) ps.length cap] 35)
  have hhead := fun W (hW : After w W) => s_head W B (.node ps) _ (h.after hW) hg.1
  rw [isE_node]
  generalize headX (.node ps) = x at *
  have hpart : ∀ j (hj : j < ps.length), ∃ (s : List UInt8) (ao : Option Addr) (n c : Nat), ∀ W, After w W → W.cell? ⟨b, j * 2, none⟩ = some (str s) ∧ W.cell? ⟨b, j * 2 + 1, none⟩ = some (.slice ao n c) ∧
      Calls Tryz.prog 33 #[.agg #[str s, .slice ao n c]] W fun e w' => e = .returned (.bool (Fm.isE d ps[j])) ∧ After W w' := fun j hj => by
    obtain ⟨ao, c, hc, hs⟩ := hp j hj
    exact ⟨_, ao, _, c, fun W hW => ⟨(hc W hW).1, (hc W hW).2, ih _ _ _ _ (hs.after hW) (hg.part (List.getElem_mem hj)) (depth_in hd (List.getElem_mem hj))⟩⟩
  obtain ⟨n, hn⟩ : ∃ n, n = ps.length := ⟨_, rfl⟩
  rw [← hn] at hA hb hhead ⊢
  have HB := Lib.hid hb
  have HA := Lib.hid hA
  have c1 : (w.alloc (.cells #[.string ⟨#[]⟩, .slice (some ⟨b, 0, none⟩) n cap] 35)).cell? ⟨w.heap.size, 1, none⟩ = some (.slice (some ⟨b, 0, none⟩) n cap) := cell_of_heap (i := 1) hb
  have c0 : (w.alloc (.cells #[.string ⟨#[]⟩, .slice (some ⟨b, 0, none⟩) n cap] 35)).cell? ⟨w.heap.size, 0, none⟩ = some (.string ⟨#[]⟩) := cell_of_heap (i := 0) hb
  have hh := hhead _ hA
  clear h hp hhead hb
  by_cases h1 : x = Fm.wSuc
  · rw [if_pos h1]
    subst h1
    by_cases h2 : n = 2
    · obtain ⟨s, ao, m, c, hc⟩ := hpart 1 (by omega)
      have hget : (ps[1]?.map (Fm.isE d)).getD false = Fm.isE d (ps[1]'(by omega)) := by rw [List.getElem?_eq_getElem (by omega)]; rfl
      rw [hget, decide_eq_true h2, Bool.true_and]
      generalize Fm.isE d (ps[1]'(by omega)) = r at *
      clear hget hpart ih
      subst h2
      have HC := Lib.hid hc
      clear hc hn hg hd hA
      go_enter Tryz.func33, Tryz.ntmps33
      go_wp2_with fail
      refine hh.mono ?_
      rintro e w1 ⟨rfl, ha⟩
      have d1 : w1.cell? ⟨w.heap.size, 1, none⟩ = some (.slice (some ⟨b, 0, none⟩) 2 cap) := cell_of_heap (i := 1) (ha.heap HB.out)
      obtain ⟨p0, p1, hcall⟩ := HC.out w1 (HA.out.trans ha)
      clear hh c0 c1
      go_wp2_with fail
      refine hcall.mono ?_
      rintro e w2 ⟨rfl, ha2⟩
      clear hcall
      go_wp2_with fail
      go_ret
      exact ⟨rfl, (HA.out.trans ha).trans ha2⟩
    · have h2i : ((n : Int) == 2) = false := beq_eq_false_iff_ne.2 (by omega)
      rw [decide_eq_false h2, Bool.false_and]
      clear hpart ih h2 hn hg hd hA
      go_enter Tryz.func33, Tryz.ntmps33
      go_wp2_with fail
      refine hh.mono ?_
      rintro e w1 ⟨rfl, ha⟩
      have d1 : w1.cell? ⟨w.heap.size, 1, none⟩ = some (.slice (some ⟨b, 0, none⟩) n cap) := cell_of_heap (i := 1) (ha.heap HB.out)
      clear hh c0 c1
      go_wp2_with fail
      go_ret
      exact ⟨rfl, HA.out.trans ha⟩
  rw [if_neg h1]
  by_cases h3 : x = Fm.wAdd ∨ x = Fm.wMul
  · rw [if_pos h3]
    clear h1
    rcases h3 with h3 | h3
    all_goals
      subst h3
      by_cases h2 : n = 3
      · obtain ⟨s, ao, m, c, hc⟩ := hpart 1 (by omega)
        obtain ⟨s', ao', m', c', hc'⟩ := hpart 2 (by omega)
        have hget : (ps[1]?.map (Fm.isE d)).getD false = Fm.isE d (ps[1]'(by omega)) := by rw [List.getElem?_eq_getElem (by omega)]; rfl
        have hget' : (ps[2]?.map (Fm.isE d)).getD false = Fm.isE d (ps[2]'(by omega)) := by rw [List.getElem?_eq_getElem (by omega)]; rfl
        rw [hget, hget', decide_eq_true h2, Bool.true_and]
        generalize Fm.isE d (ps[1]'(by omega)) = r at *
        generalize Fm.isE d (ps[2]'(by omega)) = r' at *
        clear hget hget' hpart ih
        subst h2
        have HC := Lib.hid hc
        have HC' := Lib.hid hc'
        clear hc hc' hn hg hd hA
        cases r with
        | false =>
          go_enter Tryz.func33, Tryz.ntmps33
          go_wp2_with fail
          refine hh.mono ?_
          rintro e w1 ⟨rfl, ha⟩
          have d1 : w1.cell? ⟨w.heap.size, 1, none⟩ = some (.slice (some ⟨b, 0, none⟩) 3 cap) := cell_of_heap (i := 1) (ha.heap HB.out)
          obtain ⟨p0, p1, hcall⟩ := HC.out w1 (HA.out.trans ha)
          clear hh c0 c1
          go_wp2_with fail
          refine hcall.mono ?_
          rintro e w2 ⟨rfl, ha2⟩
          clear hcall
          go_wp2_with fail
          go_ret
          exact ⟨rfl, (HA.out.trans ha).trans ha2⟩
        | true =>
          rw [Bool.true_and]
          go_enter Tryz.func33, Tryz.ntmps33
          go_wp2_with fail
          refine hh.mono ?_
          rintro e w1 ⟨rfl, ha⟩
          have d1 : w1.cell? ⟨w.heap.size, 1, none⟩ = some (.slice (some ⟨b, 0, none⟩) 3 cap) := cell_of_heap (i := 1) (ha.heap HB.out)
          obtain ⟨p0, p1, hcall⟩ := HC.out w1 (HA.out.trans ha)
          clear hh c0 c1
          go_wp2_with fail
          refine hcall.mono ?_
          rintro e w2 ⟨rfl, ha2⟩
          have e1 : w2.cell? ⟨w.heap.size, 1, none⟩ = some (.slice (some ⟨b, 0, none⟩) 3 cap) := cell_of_heap (i := 1) ((ha.trans ha2).heap HB.out)
          obtain ⟨q0, q1, hcall2⟩ := HC'.out w2 ((HA.out.trans ha).trans ha2)
          clear hcall d1 p0 p1
          go_wp2_with fail
          refine hcall2.mono ?_
          rintro e w3 ⟨rfl, ha3⟩
          clear hcall2
          go_wp2_with fail
          go_ret
          exact ⟨rfl, ((HA.out.trans ha).trans ha2).trans ha3⟩
      · have h2i : ((n : Int) == 3) = false := beq_eq_false_iff_ne.2 (by omega)
        rw [decide_eq_false h2, Bool.false_and]
        clear hpart ih h2 hn hg hd hA
        go_enter Tryz.func33, Tryz.ntmps33
        go_wp2_with fail
        refine hh.mono ?_
        rintro e w1 ⟨rfl, ha⟩
        have d1 : w1.cell? ⟨w.heap.size, 1, none⟩ = some (.slice (some ⟨b, 0, none⟩) n cap) := cell_of_heap (i := 1) (ha.heap HB.out)
        clear hh c0 c1
        go_wp2_with fail
        go_ret
        exact ⟨rfl, HA.out.trans ha⟩
  · rw [if_neg h3]
    have e1 : (x == [115, 117, 99]) = false := beq_eq_false_iff_ne.2 h1
    have e2 : (x == [97, 100, 100]) = false := beq_eq_false_iff_ne.2 (fun h => h3 (Or.inl h))
    have e3 : (x == [109, 117, 108]) = false := beq_eq_false_iff_ne.2 (fun h => h3 (Or.inr h))
    clear hpart ih h1 h3 hn hg hd hA
    go_enter Tryz.func33, Tryz.ntmps33
    go_wp2_with fail
    refine hh.mono ?_
    rintro e w1 ⟨rfl, ha⟩
    clear hh c0 c1
    go_wp2_with fail
    go_ret
    exact ⟨rfl, HA.out.trans ha⟩

theorem s_expr : ∀ d, ExprIH d
  | 0 => fun _ _ _ _ _ _ h => by omega
  | d + 1 => fun t w B v h hg hd => by
    cases t with
    | atom a =>
      simp only [SV] at h
      subst h
      exact s_expr_atom w a (by have := hg.1; simp only [Fm.sxOk] at this; exact this.1) (by have := hg.2; simpa only [Fm.sxText] using this)
    | node ps => exact s_expr_node d (s_expr d) ps w B v h hg hd
end Go.Proofs.YtdjoafnohkmneaaGreatDoor

namespace Go.Proofs.YtdjoafnohkmneaaGreatDoor
open Go.RowKit

set_option maxHeartbeats 2000000
set_option maxRecDepth 100000

theorem texts_sum : ∀ (ps : List SX), (ps.map fun p => (Fm.sxText p).length).sum ≤ (Fm.sxTexts ps).length
  | [] => by simp [Fm.sxTexts]
  | [p] => by simp [Fm.sxTexts]
  | p :: q :: ps => by
    have := texts_sum (q :: ps)
    simp only [List.map_cons, List.sum_cons, Fm.sxTexts, List.length_append, List.length_cons] at this ⊢
    omega

theorem szS_le : ∀ (d : Nat) (t : SX), Fm.sxOk t → Fm.szS d t ≤ (Fm.sxText t).length
  | 0, _, _ => by simp [Fm.szS]
  | d + 1, .atom a, h => by
    have := Fm.sxText_pos (.atom a) h
    simpa [Fm.szS] using this
  | d + 1, .node ps, h => by
    simp only [Fm.sxOk] at h
    have h2 := h.2
    have hle : ∀ qs : List SX, Fm.sxOks qs → (qs.map (Fm.szS d)).sum ≤ (qs.map fun p => (Fm.sxText p).length).sum := by
      intro qs
      induction qs with
      | nil => intro _; simp
      | cons q qs ih =>
        intro hq
        simp only [Fm.sxOks] at hq
        have := ih hq.2
        have := szS_le d q hq.1
        simp only [List.map_cons, List.sum_cons]
        omega
    have h3 := hle ps h2
    have h4 := texts_sum ps
    simp only [Fm.szS, Fm.sxText, List.length_cons]
    omega

theorem sum_take_le (l : List Nat) (k : Nat) : (l.take k).sum ≤ l.sum := by
  have h := List.take_append_drop k l
  have := congrArg List.sum h
  rw [List.sum_append] at this
  omega

def SizeIH (d : Nat) : Prop := ∀ (t : SX) (w : World) (B : Nat) (v : Value), SV w B t v → GoodX t → Fm.sxDepth t < d → Calls Tryz.prog 34 #[v] w fun e w' => e = .returned (.int .i64 (Fm.szS d t : Nat)) ∧ After w w'

theorem s_size_atom (w : World) (d : Nat) (a : List UInt8) (ha : a ≠ []) : Calls Tryz.prog 34 #[.agg #[str a, .slice none 0 0]] w fun e w' => e = .returned (.int .i64 (Fm.szS (d + 1) (.atom a) : Nat)) ∧ After w w' := by
  have hA := After.new w (.cells #[str a, .slice none 0 0] 35)
  have e0 : (a == []) = false := beq_eq_false_iff_ne.2 ha
  have e1 : (a != []) = true := by rw [bne, e0]; rfl
  clear ha
  go_enter Tryz.func34, Tryz.ntmps34
  go_wp2_with fail
  go_ret
  exact ⟨rfl, hA⟩

theorem s_size_node (d : Nat) (ih : SizeIH d) (ps : List SX) (w : World) (B : Nat) (v : Value) (h : SV w B (.node ps) v) (hg : GoodX (.node ps)) (hd : Fm.sxDepth (.node ps) < d + 1) :
    Calls Tryz.prog 34 #[v] w fun e w' => e = .returned (.int .i64 (Fm.szS (d + 1) (.node ps) : Nat)) ∧ After w w' := by
  obtain ⟨b, cap, rfl, hp⟩ := h.part
  have hA := After.new w (.cells #[.string ⟨#[]⟩, .slice (some ⟨b, 0, none⟩) ps.length cap] 35)
  have hb := heap_new' w (.cells #[.string ⟨#[]⟩, .slice (some ⟨b, 0, none⟩) ps.length cap] 35)
  have hpart : ∀ j (hj : j < ps.length), ∃ (s : List UInt8) (ao : Option Addr) (n c : Nat), ∀ W, After w W → W.cell? ⟨b, j * 2, none⟩ = some (str s) ∧ W.cell? ⟨b, j * 2 + 1, none⟩ = some (.slice ao n c) ∧
      Calls Tryz.prog 34 #[.agg #[str s, .slice ao n c]] W fun e w' => e = .returned (.int .i64 (Fm.szS d ps[j] : Nat)) ∧ After W w' := fun j hj => by
    obtain ⟨ao, c, hc, hs⟩ := hp j hj
    exact ⟨_, ao, _, c, fun W hW => ⟨(hc W hW).1, (hc W hW).2, ih _ _ _ _ (hs.after hW) (hg.part (List.getElem_mem hj)) (depth_in hd (List.getElem_mem hj))⟩⟩
  have hsz : (ps.map (Fm.szS d)).sum ≤ 1000000000 := by
    have h1 := szS_le (d + 1) (.node ps) hg.1
    have h2 := hg.2
    simp only [Fm.szS] at h1
    omega
  have hres : Fm.szS (d + 1) (.node ps) = (ps.map (Fm.szS d)).sum := by simp only [Fm.szS]
  rw [hres]
  obtain ⟨qs, hqs⟩ : ∃ qs, qs = ps.map (Fm.szS d) := ⟨_, rfl⟩
  have hpart2 : ∀ j (hj : j < qs.length), ∃ (s : List UInt8) (ao : Option Addr) (n c : Nat), ∀ W, After w W → W.cell? ⟨b, j * 2, none⟩ = some (str s) ∧ W.cell? ⟨b, j * 2 + 1, none⟩ = some (.slice ao n c) ∧
      Calls Tryz.prog 34 #[.agg #[str s, .slice ao n c]] W fun e w' => e = .returned (.int .i64 (qs[j] : Nat)) ∧ After W w' := fun j hj => by
    subst hqs
    have := hpart j (by simpa using hj)
    simpa using this
  have hql : ps.length = qs.length := by rw [hqs]; simp
  have hqn : qs.length ≤ 1000000000 := by
    have h1 := Fm.sxTexts_len ps
    have h2 := hg.2
    simp only [Fm.sxText, List.length_cons] at h2
    omega
  rw [← hqs] at hsz ⊢
  rw [hql] at hA hb ⊢
  have HB := Lib.hid hb
  have c0 : (w.alloc (.cells #[.string ⟨#[]⟩, .slice (some ⟨b, 0, none⟩) qs.length cap] 35)).cell? ⟨w.heap.size, 0, none⟩ = some (.string ⟨#[]⟩) := cell_of_heap (i := 0) hb
  have HP := Lib.hid hpart2
  have HA := Lib.hid hA
  clear hpart hpart2 hqs hql hres hp h hg hd ih hb hA
  go_enter Tryz.func34, Tryz.ntmps34
  go_wp2_with fail
  clear c0
  generalize hW0 : w.alloc (.cells #[.string ⟨#[]⟩, .slice (some ⟨b, 0, none⟩) qs.length cap] 35) = W0 at *
  clear hW0
  go_loopw [3, 4] (fun v i wr => ∃ k : Nat, i = .int .i64 k ∧ k ≤ qs.length ∧ v = .int .i64 ((qs.take k).sum : Nat) ∧ After W0 wr) (fun _ i _ => qs.length - (intOf i).toNat)
  case atStart => exact ⟨0, rfl, Nat.zero_le _, rfl, After.refl _⟩
  case round =>
    obtain ⟨k, rfl, hk, rfl, ha⟩ := hrel
    have d1 : wr.cell? ⟨w.heap.size, 1, none⟩ = some (.slice (some ⟨b, 0, none⟩) qs.length cap) := cell_of_heap (i := 1) (ha.heap HB.out)
    by_cases hlt : k < qs.length
    · have hlti : (k : Int) < (qs.length : Int) := by omega
      obtain ⟨s, ao, m, c, hc⟩ := HP.out k hlt
      obtain ⟨p0, p1, hcall⟩ := hc wr (HA.out.trans ha)
      have hnext : (qs.take (k + 1)).sum = (qs.take k).sum + qs[k] := by rw [List.take_succ_eq_append_getElem hlt, List.sum_append]; simp
      have hb1 := sum_take_le qs (k + 1)
      have HN := Lib.hid hnext
      rw [hnext] at hb1
      clear hc hnext
      generalize (qs.take k).sum = V at *
      generalize qs[k] = z at *
      go_wp2_with fail
      refine hcall.mono ?_
      rintro e w2 ⟨rfl, ha2⟩
      clear hcall
      go_wp2_with fail
      go_roundw
      case rel => exact ⟨k + 1, by go_num, by omega, by rw [HN.out]; exact congrArg (Value.int .i64) (by omega), ha.trans ha2⟩
      case measure => simp [intOf]; omega
    · obtain rfl : k = qs.length := by omega
      rw [List.take_length]
      go_wp2_with fail
      go_ret
      exact ⟨rfl, HA.out.trans ha⟩

theorem s_size : ∀ d, SizeIH d
  | 0 => fun _ _ _ _ _ _ h => by omega
  | d + 1 => fun t w B v h hg hd => by
    cases t with
    | atom a =>
      simp only [SV] at h
      subst h
      exact s_size_atom w d a (by have := hg.1; simp only [Fm.sxOk] at this; exact this.1)
    | node ps => exact s_size_node d (s_size d) ps w B v h hg hd

/-! ### l6fSimple -/

def SimIH (d : Nat) : Prop := ∀ (t : SX) (w : World) (B : Nat) (v : Value), SV w B t v → GoodX t → Fm.sxDepth t < d → Calls Tryz.prog 67 #[v] w fun e w' => e = .returned (.bool (Fm.isS d t)) ∧ After w w'

theorem s_sim_atom (w : World) (B d : Nat) (a : List UInt8) (v : Value) (h : SV w B (.atom a) v) (hg : GoodX (.atom a)) : Calls Tryz.prog 67 #[v] w fun e w' => e = .returned (.bool (Fm.isS (d + 1) (.atom a))) ∧ After w w' := by
  have hh := fun W (hW : After w W) => s_head W B (.atom a) _ (h.after hW) hg.1
  simp only [SV] at h
  subst h
  have hA := After.new w (.cells #[str a, .slice none 0 0] 35)
  have hb := heap_new' w (.cells #[str a, .slice none 0 0] 35)
  have hcall := hh _ hA
  rw [show headX (.atom a) = [] from rfl] at hcall
  have HB := Lib.hid hb
  have HA := Lib.hid hA
  clear hh hA hb
  go_enter Tryz.func67, Tryz.ntmps67
  go_wp2_with fail
  refine hcall.mono ?_
  rintro e w1 ⟨rfl, ha⟩
  have d1 : w1.cell? ⟨w.heap.size, 1, none⟩ = some (.slice none 0 0) := cell_of_heap (i := 1) (ha.heap HB.out)
  clear hcall
  go_wp2_with fail
  go_loopw [4] (fun i wr => i = .int .i64 1 ∧ w1 = wr) (fun i _ => 0)
  case atStart => exact ⟨rfl, rfl⟩
  case round =>
    obtain ⟨rfl, rfl⟩ := hrel
    go_wp2_with fail
    go_ret
    exact ⟨rfl, HA.out.trans ha⟩
end Go.Proofs.YtdjoafnohkmneaaGreatDoor

namespace Go.Proofs.YtdjoafnohkmneaaGreatDoor
open Go.RowKit

set_option maxHeartbeats 2000000
set_option maxRecDepth 100000

theorem texts_flat : ∀ (ps : List SX), ps ≠ [] → Fm.sxTexts ps = ((ps.map Fm.sxText).flatMap fun l => 32 :: l).drop 1 ++ [41]
  | [], h => absurd rfl h
  | [p], _ => by simp [Fm.sxTexts]
  | p :: q :: ps, _ => by
    have := texts_flat (q :: ps) (by simp)
    simp only [List.map_cons, List.flatMap_cons, List.cons_append, List.drop_succ_cons, List.drop_zero] at this ⊢
    rw [Fm.sxTexts, this]
    simp

theorem str_cat (a b : List UInt8) (h : a.length + b.length ≤ 4000000000) (W : World) : (Op.stringOp .add ⟨a.toArray⟩ ⟨b.toArray⟩).run Tryz.prog W = .ok (str (a ++ b)) W := by
  have h1 : (⟨b.toArray⟩ : ByteArray).size = b.length := by show b.toArray.size = _; simp
  have h2 : (⟨a.toArray⟩ : ByteArray).size = a.length := by show a.toArray.size = _; simp
  obtain ⟨t, hl, _, he⟩ := cat ⟨a.toArray⟩ ⟨b.toArray⟩ (by omega)
  have : (.string t : Value) = str (a ++ b) := congrArg Value.string (ByteArray.ext (Array.ext' (by rw [hl])))
  rw [← this]; exact he W

def TextIH (d : Nat) : Prop := ∀ (t : SX) (w : World) (B : Nat) (v : Value), SV w B t v → GoodX t → Fm.sxDepth t < d → Calls Tryz.prog 27 #[v] w fun e w' => e = .returned (str (Fm.sxText t)) ∧ After w w'

theorem s_text_atom (w : World) (a : List UInt8) (ha : a ≠ []) : Calls Tryz.prog 27 #[.agg #[str a, .slice none 0 0]] w fun e w' => e = .returned (str (Fm.sxText (.atom a))) ∧ After w w' := by
  have hA := After.new w (.cells #[str a, .slice none 0 0] 35)
  have e0 : (a == []) = false := beq_eq_false_iff_ne.2 ha
  have e1 : (a != []) = true := by rw [bne, e0]; rfl
  clear ha
  go_enter Tryz.func27, Tryz.ntmps27
  go_wp2_with fail
  go_ret
  exact ⟨rfl, hA⟩

theorem s_text_node (d : Nat) (ih : TextIH d) (ps : List SX) (w : World) (B : Nat) (v : Value) (h : SV w B (.node ps) v) (hg : GoodX (.node ps)) (hd : Fm.sxDepth (.node ps) < d + 1) :
    Calls Tryz.prog 27 #[v] w fun e w' => e = .returned (str (Fm.sxText (.node ps))) ∧ After w w' := by
  obtain ⟨b, cap, rfl, hp⟩ := h.part
  have hA := After.new w (.cells #[.string ⟨#[]⟩, .slice (some ⟨b, 0, none⟩) ps.length cap] 35)
  have hb := heap_new' w (.cells #[.string ⟨#[]⟩, .slice (some ⟨b, 0, none⟩) ps.length cap] 35)
  have hpart : ∀ j (hj : j < ps.length), ∃ (s : List UInt8) (ao : Option Addr) (n c : Nat), ∀ W, After w W → W.cell? ⟨b, j * 2, none⟩ = some (str s) ∧ W.cell? ⟨b, j * 2 + 1, none⟩ = some (.slice ao n c) ∧
      Calls Tryz.prog 27 #[.agg #[str s, .slice ao n c]] W fun e w' => e = .returned (str (Fm.sxText ps[j])) ∧ After W w' := fun j hj => by
    obtain ⟨ao, c, hc, hs⟩ := hp j hj
    exact ⟨_, ao, _, c, fun W hW => ⟨(hc W hW).1, (hc W hW).2, ih _ _ _ _ (hs.after hW) (hg.part (List.getElem_mem hj)) (depth_in hd (List.getElem_mem hj))⟩⟩
  have hne : ps ≠ [] := by
    have := hg.1
    simp only [Fm.sxOk] at this
    exact this.1
  obtain ⟨qs, hqs⟩ : ∃ qs, qs = ps.map Fm.sxText := ⟨_, rfl⟩
  have hres : Fm.sxText (.node ps) = 40 :: ((qs.flatMap fun l => 32 :: l).drop 1 ++ [41]) := by rw [hqs, Fm.sxText, texts_flat ps hne]
  have hlen : (qs.flatMap fun l => 32 :: l).length ≤ 1000000000 := by
    have := hg.2
    rw [hres] at this
    simp at this
    simp
    omega
  rw [hres]
  have hpart2 : ∀ j (hj : j < qs.length), ∃ (s : List UInt8) (ao : Option Addr) (n c : Nat), ∀ W, After w W → W.cell? ⟨b, j * 2, none⟩ = some (str s) ∧ W.cell? ⟨b, j * 2 + 1, none⟩ = some (.slice ao n c) ∧
      Calls Tryz.prog 27 #[.agg #[str s, .slice ao n c]] W fun e w' => e = .returned (str qs[j]) ∧ After W w' := fun j hj => by
    subst hqs
    have := hpart j (by simpa using hj)
    simpa using this
  have hql : ps.length = qs.length := by rw [hqs]; simp
  have hqn : qs.length ≤ 1000000000 := by
    have h1 := Fm.sxTexts_len ps
    have h2 := hg.2
    simp only [Fm.sxText, List.length_cons] at h2
    omega
  have hq0 : 0 < qs.length := by rw [← hql]; exact List.length_pos_iff.2 hne
  rw [hql] at hA hb ⊢
  have HB := Lib.hid hb
  have c0 : (w.alloc (.cells #[.string ⟨#[]⟩, .slice (some ⟨b, 0, none⟩) qs.length cap] 35)).cell? ⟨w.heap.size, 0, none⟩ = some (.string ⟨#[]⟩) := cell_of_heap (i := 0) hb
  have HP := Lib.hid hpart2
  have HA := Lib.hid hA
  obtain ⟨F, hF⟩ : ∃ F, F = (qs.flatMap fun l => 32 :: l).length := ⟨_, rfl⟩
  rw [← hF] at hlen
  have HF := Lib.hid hF
  clear hF hpart hpart2 hqs hql hres hp h hg hd ih hb hA hne
  go_enter Tryz.func27, Tryz.ntmps27
  go_wp2_with fail
  clear c0
  generalize hW0 : w.alloc (.cells #[.string ⟨#[]⟩, .slice (some ⟨b, 0, none⟩) qs.length cap] 35) = W0 at *
  clear hW0
  go_loopw [3, 4] (fun v i wr => ∃ (k : Nat) (s : List UInt8), i = .int .i64 k ∧ k ≤ qs.length ∧ v = str s ∧ Hid (s = 40 :: ((qs.take k).flatMap fun l => 32 :: l).drop 1) ∧ After W0 wr) (fun _ i _ => qs.length - (intOf i).toNat)
  case atStart => exact ⟨0, [40], rfl, Nat.zero_le _, rfl, Lib.hid (by simp), After.refl _⟩
  case round =>
    obtain ⟨k, s, rfl, hk, rfl, HS, ha⟩ := hrel
    have d1 : wr.cell? ⟨w.heap.size, 1, none⟩ = some (.slice (some ⟨b, 0, none⟩) qs.length cap) := cell_of_heap (i := 1) (ha.heap HB.out)
    have hsl : s.length ≤ 1000000001 := by
      have h1 : ((qs.take k).flatMap fun l => 32 :: l).length ≤ F := by
        rw [HF.out]
        conv => rhs; rw [← List.take_append_drop k qs, List.flatMap_append, List.length_append]
        omega
      rw [HS.out, List.length_cons, List.length_drop]
      omega
    by_cases hlt : k < qs.length
    · have hlti : (k : Int) < (qs.length : Int) := by omega
      obtain ⟨s1, ao, m, c, hc⟩ := HP.out k hlt
      obtain ⟨p0, p1, hcall⟩ := hc wr (HA.out.trans ha)
      have hnext : (qs.take (k + 1)).flatMap (fun l => 32 :: l) = (qs.take k).flatMap (fun l => 32 :: l) ++ 32 :: qs[k] := by
        rw [List.take_succ_eq_append_getElem hlt, List.flatMap_append]
        simp
      have hzl : qs[k].length ≤ 1000000000 := by
        have h1 : ((qs.take (k + 1)).flatMap fun l => 32 :: l).length ≤ F := by
          rw [HF.out]
          conv => rhs; rw [← List.take_append_drop (k + 1) qs, List.flatMap_append, List.length_append]
          omega
        rw [hnext, List.length_append, List.length_cons] at h1
        omega
      have HN := Lib.hid hnext
      have hk0 : k = 0 → (qs.take k).flatMap (fun l => 32 :: l) = [] := by rintro rfl; simp
      have hkp : 0 < k → (qs.take k).flatMap (fun l => 32 :: l) ≠ [] := fun h e => by
        have : (qs.take k) ≠ [] := by
          intro e2
          have := congrArg List.length e2
          rw [List.length_take, List.length_nil] at this
          omega
        obtain ⟨q, qt, hq⟩ := List.exists_cons_of_ne_nil this
        rw [hq] at e
        simp at e
      have HK0 := Lib.hid hk0
      have HKP := Lib.hid hkp
      clear hc hnext hk0 hkp
      generalize (qs.take k).flatMap (fun l => 32 :: l) = V at *
      generalize qs[k] = z at *
      by_cases h0 : k = 0
      · have hadd := str_cat s z (by omega)
        have hi0 : ¬ (0 : Int) < (k : Int) := by omega
        have hV := HK0.out h0
        clear h0
        go_wp2_with fail
        refine hcall.mono ?_
        rintro e w2 ⟨rfl, ha2⟩
        clear hcall
        go_wp2_with fail
        go_roundw
        case rel => exact ⟨k + 1, s ++ z, by go_num, by omega, rfl, Lib.hid (by rw [HN.out, HS.out, hV]; simp), ha.trans ha2⟩
        case measure => simp [intOf]; omega
      · have hadd0 := str_cat s [32] (by simp; omega)
        have hadd := str_cat (s ++ [32]) z (by simp; omega)
        have hi0 : (0 : Int) < (k : Int) := by omega
        have hV := HKP.out (by omega)
        clear h0
        obtain ⟨v0, vt, rfl⟩ := List.exists_cons_of_ne_nil hV
        go_wp2_with fail
        refine hcall.mono ?_
        rintro e w2 ⟨rfl, ha2⟩
        clear hcall
        go_wp2_with fail
        go_roundw
        case rel => exact ⟨k + 1, s ++ 32 :: z, by go_num, by omega, rfl, Lib.hid (by rw [HN.out, HS.out]; simp), ha.trans ha2⟩
        case measure => simp [intOf]; omega
    · obtain rfl : k = qs.length := by omega
      have hS := HS.out
      rw [List.take_length] at hS
      have hadd := str_cat s [41] (by simp; omega)
      have HSS := Lib.hid hS
      clear hS HS
      go_wp2_with fail
      go_ret
      exact ⟨by rw [HSS.out]; rfl, HA.out.trans ha⟩

theorem s_ltext : ∀ d, TextIH d
  | 0 => fun _ _ _ _ _ _ h => by omega
  | d + 1 => fun t w B v h hg hd => by
    cases t with
    | atom a =>
      simp only [SV] at h
      subst h
      exact s_text_atom w a (by have := hg.1; simp only [Fm.sxOk] at this; exact this.1)
    | node ps => exact s_text_node d (s_ltext d) ps w B v h hg hd
end Go.Proofs.YtdjoafnohkmneaaGreatDoor

namespace Go.Proofs.YtdjoafnohkmneaaGreatDoor
open Go.RowKit

set_option maxHeartbeats 2000000
set_option maxRecDepth 100000

namespace Fm
/-- What the model's l6fSimple answers of any tree. -/
def isS2 : Nat → SX → Bool
  | 0, _ => false
  | _ + 1, .atom _ => true
  | d + 1, .node ps => !decide (headX (.node ps) = wImp ∨ headX (.node ps) = wAll) && ps.tail.all (isS2 d)

theorem isS2_node (d : Nat) (w : List UInt8) (ps : List SX) : isS2 (d + 1) (.node (.atom w :: ps)) = (!decide (w = wImp ∨ w = wAll) && ps.all (isS2 d)) := rfl
theorem isS2_atom (d : Nat) (a : List UInt8) (h : 0 < d) : isS2 d (.atom a) = true := by
  cases d with
  | zero => omega
  | succ d => rfl
theorem isS2_ex : ∀ (e : Ex) (d : Nat), sxDepth (exTree e) < d → isS2 d (exTree e) = true
  | e, 0, h => by omega
  | .num n, d + 1, h => rfl
  | .var x, d + 1, h => rfl
  | .suc e, d + 1, h => by
    simp only [exTree, sxDepth, sxDepths] at h
    simp only [exTree, isS2_node, List.all_cons, List.all_nil, isS2_ex e d (by omega), Bool.and_true]
    decide
  | .add a b, d + 1, h => by
    simp only [exTree, sxDepth, sxDepths] at h
    simp only [exTree, isS2_node, List.all_cons, List.all_nil, isS2_ex a d (by omega), isS2_ex b d (by omega), Bool.and_true]
    decide
  | .mul a b, d + 1, h => by
    simp only [exTree, sxDepth, sxDepths] at h
    simp only [exTree, isS2_node, List.all_cons, List.all_nil, isS2_ex a d (by omega), isS2_ex b d (by omega), Bool.and_true]
    decide
theorem isS2_fo : ∀ (f : Fo) (d : Nat), sxDepth (tree f) < d → isS2 d (tree f) = simple f
  | f, 0, h => by omega
  | .top, d + 1, h => rfl
  | .bot, d + 1, h => rfl
  | .eq a b, d + 1, h => by
    simp only [tree, sxDepth, sxDepths] at h
    simp only [tree, isS2_node, List.all_cons, List.all_nil, isS2_ex a d (by omega), isS2_ex b d (by omega), Bool.and_true, simple]
    decide
  | .and f g, d + 1, h => by
    simp only [tree, sxDepth, sxDepths] at h
    simp only [tree, isS2_node, List.all_cons, List.all_nil, isS2_fo f d (by omega), isS2_fo g d (by omega), Bool.and_true, simple]
    rw [show (!decide (wAnd = wImp ∨ wAnd = wAll)) = true by decide, Bool.true_and]
  | .or f g, d + 1, h => by
    simp only [tree, sxDepth, sxDepths] at h
    simp only [tree, isS2_node, List.all_cons, List.all_nil, isS2_fo f d (by omega), isS2_fo g d (by omega), Bool.and_true, simple]
    rw [show (!decide (wOr = wImp ∨ wOr = wAll)) = true by decide, Bool.true_and]
  | .imp f g, d + 1, h => by
    simp [tree, isS2_node, simple]
  | .all x n f, d + 1, h => by
    simp [tree, isS2_node, simple]
  | .ex x n f, d + 1, h => by
    simp only [tree, sxDepth, sxDepths] at h
    simp only [tree, isS2_node, List.all_cons, List.all_nil, isS2_atom d _ (by omega), isS2_fo f d (by omega), Bool.and_true, Bool.true_and, simple]
    rw [show (!decide (wEx = wImp ∨ wEx = wAll)) = true by decide, Bool.true_and]
/-- Of the tree of a formula both say the same. -/
theorem isS2_eq {d : Nat} {t : SX} (h : isF d t = true) (hd : sxDepth t < d) : isS2 d t = isS d t := by
  obtain ⟨f, rfl, _⟩ := (isF_iff d t hd).1 h
  rw [isS2_fo f d hd, isS_fo f d hd]
end Fm

def SimpIH (d : Nat) : Prop := ∀ (t : SX) (w : World) (B : Nat) (v : Value), SV w B t v → GoodX t → Fm.sxDepth t < d → Calls Tryz.prog 67 #[v] w fun e w' => e = .returned (.bool (Fm.isS2 d t)) ∧ After w w'

theorem s_simp_node (d : Nat) (ih : SimpIH d) (ps : List SX) (w : World) (B : Nat) (v : Value) (h : SV w B (.node ps) v) (hg : GoodX (.node ps)) (hd : Fm.sxDepth (.node ps) < d + 1) :
    Calls Tryz.prog 67 #[v] w fun e w' => e = .returned (.bool (Fm.isS2 (d + 1) (.node ps))) ∧ After w w' := by
  obtain ⟨b, cap, rfl, hp⟩ := h.part
  have hA := After.new w (.cells #[.string ⟨#[]⟩, .slice (some ⟨b, 0, none⟩) ps.length cap] 35)
  have hb := heap_new' w (.cells #[.string ⟨#[]⟩, .slice (some ⟨b, 0, none⟩) ps.length cap] 35)
  have hhead := s_head _ B (.node ps) _ (h.after hA) hg.1
  have hn1 : 1 ≤ ps.length := by
    have := hg.1
    simp only [Fm.sxOk] at this
    cases ps with
    | nil => exact absurd rfl this.1
    | cons p ps => simp
  have hpart : ∀ j (hj : j < ps.length), ∃ (s : List UInt8) (ao : Option Addr) (n c : Nat), ∀ W, After w W → W.cell? ⟨b, j * 2, none⟩ = some (str s) ∧ W.cell? ⟨b, j * 2 + 1, none⟩ = some (.slice ao n c) ∧
      Calls Tryz.prog 67 #[.agg #[str s, .slice ao n c]] W fun e w' => e = .returned (.bool (Fm.isS2 d ps[j])) ∧ After W w' := fun j hj => by
    obtain ⟨ao, c, hc, hs⟩ := hp j hj
    exact ⟨_, ao, _, c, fun W hW => ⟨(hc W hW).1, (hc W hW).2, ih _ _ _ _ (hs.after hW) (hg.part (List.getElem_mem hj)) (depth_in hd (List.getElem_mem hj))⟩⟩
  have hqn : ps.length ≤ 1000000000 := by
    have h1 := Fm.sxTexts_len ps
    have h2 := hg.2
    simp only [Fm.sxText, List.length_cons] at h2
    omega
  have hres : Fm.isS2 (d + 1) (.node ps) = (!decide (headX (.node ps) = Fm.wImp ∨ headX (.node ps) = Fm.wAll) && ps.tail.all (Fm.isS2 d)) := by simp only [Fm.isS2]
  rw [hres]
  generalize headX (.node ps) = x at *
  obtain ⟨R, hR⟩ : ∃ R, R = ps.tail.all (Fm.isS2 d) := ⟨_, rfl⟩
  have hR1 : (∀ j, 1 ≤ j → (hj : j < ps.length) → Fm.isS2 d ps[j] = true) → R = true := fun h => by
    rw [hR, List.all_eq_true]
    intro p hp
    obtain ⟨i, hi, rfl⟩ := List.getElem_of_mem hp
    rw [List.getElem_tail]
    exact h (i + 1) (by omega) _
  have hR2 : ∀ j, 1 ≤ j → (hj : j < ps.length) → Fm.isS2 d ps[j] = false → R = false := fun j h1 hj h => by
    rw [hR, List.all_eq_false]
    refine ⟨ps[j], ?_, by rw [h]; simp⟩
    obtain ⟨i, rfl⟩ : ∃ i, j = i + 1 := ⟨j - 1, by omega⟩
    have : ps[i + 1] = ps.tail[i]'(by rw [List.length_tail]; omega) := by rw [List.getElem_tail]
    rw [this]
    exact List.getElem_mem _
  rw [← hR]
  obtain ⟨n, hn⟩ : ∃ n, n = ps.length := ⟨_, rfl⟩
  rw [← hn] at hA hb hhead hn1 hqn ⊢
  have HB := Lib.hid hb
  have HP := Lib.hid hpart
  have HA := Lib.hid hA
  have HR1 := Lib.hid hR1
  have HR2 := Lib.hid hR2
  have HN := Lib.hid hn
  have c0 : (w.alloc (.cells #[.string ⟨#[]⟩, .slice (some ⟨b, 0, none⟩) n cap] 35)).cell? ⟨w.heap.size, 0, none⟩ = some (.string ⟨#[]⟩) := cell_of_heap (i := 0) hb
  have c1 : (w.alloc (.cells #[.string ⟨#[]⟩, .slice (some ⟨b, 0, none⟩) n cap] 35)).cell? ⟨w.heap.size, 1, none⟩ = some (.slice (some ⟨b, 0, none⟩) n cap) := cell_of_heap (i := 1) hb
  clear hpart hR hR1 hR2 hres hp h hg hd ih hb hA hn
  by_cases h1 : x = Fm.wImp
  · rw [decide_eq_true (Or.inl h1)]
    subst h1
    go_enter Tryz.func67, Tryz.ntmps67
    go_wp2_with fail
    refine hhead.mono ?_
    rintro e w1 ⟨rfl, ha⟩
    clear hhead c0 c1
    go_wp2_with fail
    go_ret
    exact ⟨rfl, HA.out.trans ha⟩
  by_cases h2 : x = Fm.wAll
  · rw [decide_eq_true (Or.inr h2)]
    clear h1
    subst h2
    go_enter Tryz.func67, Tryz.ntmps67
    go_wp2_with fail
    refine hhead.mono ?_
    rintro e w1 ⟨rfl, ha⟩
    clear hhead c0 c1
    go_wp2_with fail
    go_ret
    exact ⟨rfl, HA.out.trans ha⟩
  rw [decide_eq_false (by rintro (h | h); exact h1 h; exact h2 h)]
  have e1 : (x == [105, 109, 112]) = false := beq_eq_false_iff_ne.2 h1
  have e2 : (x == [97, 108, 108]) = false := beq_eq_false_iff_ne.2 h2
  clear h1 h2
  go_enter Tryz.func67, Tryz.ntmps67
  go_wp2_with fail
  refine hhead.mono ?_
  rintro e w1 ⟨rfl, ha0⟩
  have HA1 := Lib.hid (HA.out.trans ha0)
  have HB1 := Lib.hid (ha0.heap HB.out)
  clear hhead c0 c1 ha0 HA HB
  go_wp2_with fail
  go_loopw [4] (fun i wr => ∃ k : Nat, i = .int .i64 k ∧ 1 ≤ k ∧ k ≤ n ∧ Hid (∀ j, 1 ≤ j → j < k → (hj : j < ps.length) → Fm.isS2 d ps[j] = true) ∧ After w1 wr) (fun i _ => n - (intOf i).toNat)
  case atStart => exact ⟨1, rfl, Nat.le_refl _, hn1, (fun j h1 h2 => by omega : ∀ j, 1 ≤ j → j < 1 → (hj : j < ps.length) → Fm.isS2 d ps[j] = true), After.refl _⟩
  case round =>
    obtain ⟨k, rfl, hk1, hk, HD, ha⟩ := hrel
    have d1 : wr.cell? ⟨w.heap.size, 1, none⟩ = some (.slice (some ⟨b, 0, none⟩) n cap) := cell_of_heap (i := 1) (ha.heap HB1.out)
    by_cases hlt : k < n
    · have hlti : (k : Int) < (n : Int) := by omega
      have hkl : k < ps.length := by rw [← HN.out]; exact hlt
      obtain ⟨s, ao, m, c, hc⟩ := HP.out k hkl
      obtain ⟨p0, p1, hcall⟩ := hc wr (HA1.out.trans ha)
      clear hc
      obtain ⟨r, hr⟩ : ∃ r, r = Fm.isS2 d ps[k] := ⟨_, rfl⟩
      rw [← hr] at hcall
      have HRR := Lib.hid hr
      clear hr
      cases r with
      | true =>
        have HD2 : Hid (∀ j, 1 ≤ j → j < k + 1 → (hj : j < ps.length) → Fm.isS2 d ps[j] = true) := fun j h1 h2 hj => by
          by_cases e : j = k
          · subst e; exact HRR.out.symm
          · exact HD.out j h1 (by omega) hj
        go_wp2_with fail
        refine hcall.mono ?_
        rintro e w2 ⟨rfl, ha2⟩
        clear hcall
        go_wp2_with fail
        go_roundw
        case rel => exact ⟨k + 1, by go_num, by omega, by omega, HD2, ha.trans ha2⟩
        case measure => simp [intOf]; omega
      | false =>
        have HF : Hid (R = false) := HR2.out k hk1 hkl HRR.out.symm
        go_wp2_with fail
        refine hcall.mono ?_
        rintro e w2 ⟨rfl, ha2⟩
        clear hcall
        go_wp2_with fail
        go_ret
        exact ⟨by rw [HF.out]; rfl, (HA1.out.trans ha).trans ha2⟩
    · obtain rfl : k = n := by omega
      have HF : Hid (R = true) := HR1.out fun j h1 hj => HD.out j h1 (by rw [HN.out]; exact hj) hj
      go_wp2_with fail
      go_ret
      exact ⟨by rw [HF.out]; rfl, HA1.out.trans ha⟩

theorem s_simp : ∀ d, SimpIH d
  | 0 => fun _ _ _ _ _ _ h => by omega
  | d + 1 => fun t w B v h hg hd => by
    cases t with
    | atom a => exact s_sim_atom w B d a v h hg
    | node ps => exact s_simp_node d (s_simp d) ps w B v h hg hd
end Go.Proofs.YtdjoafnohkmneaaGreatDoor

namespace Go.Proofs.YtdjoafnohkmneaaGreatDoor
open Go.RowKit

set_option maxHeartbeats 4000000
set_option maxRecDepth 100000
set_option linter.unusedSimpArgs false

def numIn (a : List UInt8) : Bool := decide (1 ≤ numI a ∧ numI a ≤ 6)
theorem numIn_eq (a : List UInt8) : numIn a = (Fm.numOf a 1 6).isSome := by
  unfold numIn
  cases h : Fm.numOf a 1 6 with
  | some m =>
    obtain ⟨rfl, h1, h2⟩ := Fm.numOf_some h
    have : Fm.num6 (Fm.dec m) = some m := Fm.numOf_dec (Nat.zero_le _) (by omega) (by omega)
    rw [numI_eq, this]
    show decide (1 ≤ (m : Int) ∧ (m : Int) ≤ 6) = true
    exact decide_eq_true ⟨by omega, by omega⟩
  | none =>
    rw [numI_eq]
    cases h6 : Fm.num6 a with
    | none => rfl
    | some m =>
      obtain ⟨rfl, _, h2⟩ := Fm.numOf_some h6
      by_cases hm : 1 ≤ m ∧ m ≤ 6
      · rw [Fm.numOf_dec hm.1 hm.2 (by omega)] at h
        cases h
      · show decide (1 ≤ (m : Int) ∧ (m : Int) ≤ 6) = false
        exact decide_eq_false fun h => hm ⟨by omega, by omega⟩

def partX (d : Nat) (f : Nat → SX → Bool) (ps : List SX) (j : Nat) : Bool := (ps[j]?.map (f d)).getD false
def wordX (ps : List SX) (j : Nat) : List UInt8 := (ps[j]?.map atomX).getD []
theorem partX_of {d : Nat} {f : Nat → SX → Bool} {ps : List SX} {j : Nat} (h : j < ps.length) : partX d f ps j = f d ps[j] := by
  unfold partX; rw [List.getElem?_eq_getElem h]; rfl
theorem wordX_of {ps : List SX} {j : Nat} (h : j < ps.length) : wordX ps j = atomX ps[j] := by
  unfold wordX; rw [List.getElem?_eq_getElem h]; rfl

/-- What l6fIs asks of a node. -/
def isN (d : Nat) (ps : List SX) : Bool :=
  if headX (.node ps) = Fm.wEq then decide (ps.length = 3) && (partX d Fm.isE ps 1 && partX d Fm.isE ps 2)
  else if headX (.node ps) = Fm.wAnd ∨ headX (.node ps) = Fm.wOr then decide (ps.length = 3) && (partX d Fm.isF ps 1 && partX d Fm.isF ps 2)
  else if headX (.node ps) = Fm.wImp then decide (ps.length = 3) && (partX d Fm.isF ps 1 && (partX d Fm.isF ps 2 && partX d Fm.isS2 ps 1))
  else if headX (.node ps) = Fm.wAll ∨ headX (.node ps) = Fm.wEx then decide (ps.length = 4) && (Tm.nameOk (wordX ps 1) && (numIn (wordX ps 2) && partX d Fm.isF ps 3))
  else false

theorem isN_eq (d : Nat) (ps : List SX) (hd : Fm.sxDepth (.node ps) < d + 1) : isN d ps = Fm.isF (d + 1) (.node ps) := by
  unfold isN
  have hne : [] ≠ Fm.wEq ∧ [] ≠ Fm.wAnd ∧ [] ≠ Fm.wOr ∧ [] ≠ Fm.wImp ∧ [] ≠ Fm.wAll ∧ [] ≠ Fm.wEx := by decide
  have hnil : Tm.nameOk [] = false := by decide
  have hnum : numIn [] = false := by decide
  match ps with
  | [] => simp [headX, Fm.isF, hne]
  | [a] => cases a <;> simp [headX, Fm.isF]
  | [a, b] => cases a <;> simp [headX, Fm.isF]
  | [.node qs, p, q] => simp [headX, atomX, Fm.isF, hne]
  | [.node qs, p, q, r] => simp [headX, atomX, Fm.isF, hne]
  | [.atom w, p, q] =>
    have hs : (Fm.isF d p && (Fm.isF d q && Fm.isS2 d p)) = (Fm.isF d p && (Fm.isF d q && Fm.isS d p)) := by
      cases h : Fm.isF d p with
      | false => rfl
      | true => rw [Fm.isS2_eq h (depth_in hd (by simp))]
    simp only [headX, atomX, Fm.isF, partX, List.length_cons, List.length_nil, List.getElem?_cons_succ, List.getElem?_cons_zero, Option.map_some, Option.getD_some, hs]
    by_cases h1 : w = Fm.wEq
    · simp [h1]
    by_cases h2 : w = Fm.wAnd ∨ w = Fm.wOr
    · simp [h1, h2]
    by_cases h3 : w = Fm.wImp
    · simp [h1, h2, h3]
    simp [h1, h2, h3]
  | [.atom w, a, b, p] =>
    simp only [headX, atomX, partX, wordX, List.length_cons, List.length_nil, List.getElem?_cons_succ, List.getElem?_cons_zero, Option.map_some, Option.getD_some]
    have hEA : Fm.wAll ≠ Fm.wEq ∧ Fm.wAll ≠ Fm.wAnd ∧ Fm.wAll ≠ Fm.wOr ∧ Fm.wAll ≠ Fm.wImp ∧ Fm.wEx ≠ Fm.wEq ∧ Fm.wEx ≠ Fm.wAnd ∧ Fm.wEx ≠ Fm.wOr ∧ Fm.wEx ≠ Fm.wImp := by decide
    by_cases h4 : w = Fm.wAll ∨ w = Fm.wEx
    · have h5 : w ≠ Fm.wEq ∧ ¬ (w = Fm.wAnd ∨ w = Fm.wOr) ∧ w ≠ Fm.wImp := by
        rcases h4 with rfl | rfl <;> simp [hEA]
      rw [if_neg h5.1, if_neg h5.2.1, if_neg h5.2.2, if_pos h4]
      cases a with
      | node qs => simp [hnil, Fm.isF]
      | atom x =>
        cases b with
        | node qs => simp [hnum, Fm.isF]
        | atom m => simp [Fm.isF, h4, numIn_eq]
    · have hF : Fm.isF (d + 1) (.node [.atom w, a, b, p]) = false := by
        cases a <;> cases b <;> simp [Fm.isF, h4]
      rw [hF, if_neg h4]
      simp
  | a :: b :: c :: e :: f :: ps => cases a <;> simp [headX, Fm.isF]

def IsIH (d : Nat) : Prop := ∀ (t : SX) (w : World) (B : Nat) (v : Value), SV w B t v → GoodX t → Fm.sxDepth t < d → Calls Tryz.prog 49 #[v] w fun e w' => e = .returned (.bool (Fm.isF d t)) ∧ After w w'

theorem s_is_node (d : Nat) (ih : IsIH d) (ps : List SX) (w : World) (B : Nat) (v : Value) (h : SV w B (.node ps) v) (hg : GoodX (.node ps)) (hd : Fm.sxDepth (.node ps) < d + 1) :
    Calls Tryz.prog 49 #[v] w fun e w' => e = .returned (.bool (Fm.isF (d + 1) (.node ps))) ∧ After w w' := by
  obtain ⟨b, cap, rfl, hp⟩ := h.part
  have hA := After.new w (.cells #[.string ⟨#[]⟩, .slice (some ⟨b, 0, none⟩) ps.length cap] 35)
  have hb := heap_new' w (.cells #[.string ⟨#[]⟩, .slice (some ⟨b, 0, none⟩) ps.length cap] 35)
  have hhead := s_head _ B (.node ps) _ (h.after hA) hg.1
  have hpart : ∀ j (hj : j < ps.length), ∃ (ao : Option Addr) (n c : Nat), ∀ W, After w W → W.cell? ⟨b, j * 2, none⟩ = some (str (wordX ps j)) ∧ W.cell? ⟨b, j * 2 + 1, none⟩ = some (.slice ao n c) ∧
      (Calls Tryz.prog 33 #[.agg #[str (wordX ps j), .slice ao n c]] W fun e w' => e = .returned (.bool (partX d Fm.isE ps j)) ∧ After W w') ∧
      (Calls Tryz.prog 49 #[.agg #[str (wordX ps j), .slice ao n c]] W fun e w' => e = .returned (.bool (partX d Fm.isF ps j)) ∧ After W w') ∧
      (Calls Tryz.prog 67 #[.agg #[str (wordX ps j), .slice ao n c]] W fun e w' => e = .returned (.bool (partX d Fm.isS2 ps j)) ∧ After W w') := fun j hj => by
    obtain ⟨ao, c, hc, hs⟩ := hp j hj
    rw [wordX_of hj, partX_of hj, partX_of hj, partX_of hj]
    have hgp := hg.part (List.getElem_mem hj)
    have hdp := depth_in hd (List.getElem_mem hj)
    exact ⟨ao, _, c, fun W hW => ⟨(hc W hW).1, (hc W hW).2, s_expr d _ _ _ _ (hs.after hW) hgp hdp, ih _ _ _ _ (hs.after hW) hgp hdp, s_simp d _ _ _ _ (hs.after hW) hgp hdp⟩⟩
  have hword : ∀ j (hj : j < ps.length), (wordX ps j).length ≤ 1000000000 := fun j hj => by
    rw [wordX_of hj]
    have := (hg.part (List.getElem_mem hj)).2
    cases hpj : ps[j] with
    | atom a => rw [hpj] at this; simpa only [Fm.sxText, atomX] using this
    | node qs => simp [atomX]
  have hname : ∀ j (hj : j < ps.length), ∀ W, Calls Tryz.prog 25 #[str (wordX ps j)] W fun e w' => e = .returned (.bool (Tm.nameOk (wordX ps j))) ∧ W = w' := fun j hj W => s_name W _ (hword j hj)
  have hnum : ∀ j (hj : j < ps.length), ∀ W, Calls Tryz.prog 57 #[str (wordX ps j)] W fun e w' => e = .returned (.int .i64 (numI (wordX ps j))) ∧ W = w' := fun j hj W => s_num W _ (hword j hj)
  have hinn : ∀ j, ∀ W, Calls Tryz.prog 26 #[.int .i64 (numI (wordX ps j)), .int .i64 1, .int .i64 6] W fun e w' => e = .returned (.bool (numIn (wordX ps j))) ∧ W = w' := fun j W => in_any W _ 1 6
  rw [← isN_eq d ps hd]
  obtain ⟨R, hR⟩ : ∃ R, R = isN d ps := ⟨_, rfl⟩
  rw [← hR]
  unfold isN at hR
  generalize headX (.node ps) = x at *
  obtain ⟨n, hn⟩ : ∃ n, n = ps.length := ⟨_, rfl⟩
  rw [← hn] at hA hb hhead hR ⊢
  have c0 : (w.alloc (.cells #[.string ⟨#[]⟩, .slice (some ⟨b, 0, none⟩) n cap] 35)).cell? ⟨w.heap.size, 0, none⟩ = some (.string ⟨#[]⟩) := cell_of_heap (i := 0) hb
  have c1 : (w.alloc (.cells #[.string ⟨#[]⟩, .slice (some ⟨b, 0, none⟩) n cap] 35)).cell? ⟨w.heap.size, 1, none⟩ = some (.slice (some ⟨b, 0, none⟩) n cap) := cell_of_heap (i := 1) hb
  have HB := Lib.hid hb
  have HA := Lib.hid hA
  clear h hp hg hd ih hb hA hword
  by_cases h1 : x = Fm.wEq
  · rw [if_pos h1] at hR
    subst h1
    by_cases h2 : n = 3
    · obtain ⟨ao1, m1, q1, hp1⟩ := hpart 1 (by omega)
      obtain ⟨ao2, m2, q2, hp2⟩ := hpart 2 (by omega)
      rw [decide_eq_true h2, Bool.true_and] at hR
      clear hpart hname hnum hinn
      generalize partX d Fm.isE ps 1 = r1 at *
      generalize partX d Fm.isE ps 2 = r2 at *
      generalize wordX ps 1 = y1 at *
      generalize wordX ps 2 = y2 at *
      subst h2
      have HP1 := Lib.hid hp1
      clear hp1
      have HP2 := Lib.hid hp2
      clear hp2
      have HR := Lib.hid hR
      clear hR hn
      go_enter Tryz.func49, Tryz.ntmps49
      go_wp2_with fail
      refine hhead.mono ?_
      rintro e w1 ⟨rfl, B1⟩
      have A1 := HA.out.trans B1
      clear hhead c0 c1
      obtain ⟨p0, p1, hE, hF, hS⟩ := HP1.out w1 A1
      have hcall := hE
      clear hE hF hS
      have d1 : w1.cell? ⟨w.heap.size, 1, none⟩ = some (.slice (some ⟨b, 0, none⟩) 3 cap) := cell_of_heap (i := 1) (B1.heap HB.out)
      go_wp2_with fail
      refine hcall.mono ?_
      rintro e w2 ⟨rfl, a2⟩
      have A2 := A1.trans a2
      have B2 := B1.trans a2
      clear hcall p0 p1 d1
      cases r1 with
      | false =>
        go_wp2_with fail
        go_ret
        exact ⟨by rw [HR.out]; rfl, A2⟩
      | true =>
        obtain ⟨p0, p1, hE, hF, hS⟩ := HP2.out w2 A2
        have hcall := hE
        clear hE hF hS
        have d1 : w2.cell? ⟨w.heap.size, 1, none⟩ = some (.slice (some ⟨b, 0, none⟩) 3 cap) := cell_of_heap (i := 1) (B2.heap HB.out)
        go_wp2_with fail
        refine hcall.mono ?_
        rintro e w3 ⟨rfl, a3⟩
        have A3 := A2.trans a3
        have B3 := B2.trans a3
        clear hcall p0 p1 d1
        cases r2 with
        | false =>
          go_wp2_with fail
          go_ret
          exact ⟨by rw [HR.out]; rfl, A3⟩
        | true =>
          go_wp2_with fail
          go_ret
          exact ⟨by rw [HR.out]; rfl, A3⟩
    · have h2i : ((n : Int) == 3) = false := beq_eq_false_iff_ne.2 (by omega)
      rw [decide_eq_false h2, Bool.false_and] at hR
      have HR := Lib.hid hR
      clear hpart hname hnum hinn hR hn h2
      go_enter Tryz.func49, Tryz.ntmps49
      go_wp2_with fail
      refine hhead.mono ?_
      rintro e w1 ⟨rfl, B1⟩
      have A1 := HA.out.trans B1
      clear hhead c0 c1
      have d1 : w1.cell? ⟨w.heap.size, 1, none⟩ = some (.slice (some ⟨b, 0, none⟩) n cap) := cell_of_heap (i := 1) (B1.heap HB.out)
      go_wp2_with fail
      go_ret
      exact ⟨by rw [HR.out] <;> rfl, A1⟩
  rw [if_neg h1] at hR
  by_cases h3 : x = Fm.wAnd ∨ x = Fm.wOr
  · rw [if_pos h3] at hR
    clear h1
    rcases h3 with h3 | h3
    all_goals
      subst h3
      by_cases h2 : n = 3
      · obtain ⟨ao1, m1, q1, hp1⟩ := hpart 1 (by omega)
        obtain ⟨ao2, m2, q2, hp2⟩ := hpart 2 (by omega)
        rw [decide_eq_true h2, Bool.true_and] at hR
        clear hpart hname hnum hinn
        generalize partX d Fm.isF ps 1 = r1 at *
        generalize partX d Fm.isF ps 2 = r2 at *
        generalize wordX ps 1 = y1 at *
        generalize wordX ps 2 = y2 at *
        subst h2
        have HP1 := Lib.hid hp1
        clear hp1
        have HP2 := Lib.hid hp2
        clear hp2
        have HR := Lib.hid hR
        clear hR hn
        go_enter Tryz.func49, Tryz.ntmps49
        go_wp2_with fail
        refine hhead.mono ?_
        rintro e w1 ⟨rfl, B1⟩
        have A1 := HA.out.trans B1
        clear hhead c0 c1
        obtain ⟨p0, p1, hE, hF, hS⟩ := HP1.out w1 A1
        have hcall := hF
        clear hE hF hS
        have d1 : w1.cell? ⟨w.heap.size, 1, none⟩ = some (.slice (some ⟨b, 0, none⟩) 3 cap) := cell_of_heap (i := 1) (B1.heap HB.out)
        go_wp2_with fail
        refine hcall.mono ?_
        rintro e w2 ⟨rfl, a2⟩
        have A2 := A1.trans a2
        have B2 := B1.trans a2
        clear hcall p0 p1 d1
        cases r1 with
        | false =>
          go_wp2_with fail
          go_ret
          exact ⟨by rw [HR.out]; rfl, A2⟩
        | true =>
          obtain ⟨p0, p1, hE, hF, hS⟩ := HP2.out w2 A2
          have hcall := hF
          clear hE hF hS
          have d1 : w2.cell? ⟨w.heap.size, 1, none⟩ = some (.slice (some ⟨b, 0, none⟩) 3 cap) := cell_of_heap (i := 1) (B2.heap HB.out)
          go_wp2_with fail
          refine hcall.mono ?_
          rintro e w3 ⟨rfl, a3⟩
          have A3 := A2.trans a3
          have B3 := B2.trans a3
          clear hcall p0 p1 d1
          cases r2 with
          | false =>
            go_wp2_with fail
            go_ret
            exact ⟨by rw [HR.out]; rfl, A3⟩
          | true =>
            go_wp2_with fail
            go_ret
            exact ⟨by rw [HR.out]; rfl, A3⟩
      · have h2i : ((n : Int) == 3) = false := beq_eq_false_iff_ne.2 (by omega)
        rw [decide_eq_false h2, Bool.false_and] at hR
        have HR := Lib.hid hR
        clear hpart hname hnum hinn hR hn h2
        go_enter Tryz.func49, Tryz.ntmps49
        go_wp2_with fail
        refine hhead.mono ?_
        rintro e w1 ⟨rfl, B1⟩
        have A1 := HA.out.trans B1
        clear hhead c0 c1
        have d1 : w1.cell? ⟨w.heap.size, 1, none⟩ = some (.slice (some ⟨b, 0, none⟩) n cap) := cell_of_heap (i := 1) (B1.heap HB.out)
        go_wp2_with fail
        go_ret
        exact ⟨by rw [HR.out] <;> rfl, A1⟩
  rw [if_neg h3] at hR
  by_cases h4 : x = Fm.wImp
  · rw [if_pos h4] at hR
    clear h1 h3
    subst h4
    by_cases h2 : n = 3
    · obtain ⟨ao1, m1, q1, hp1⟩ := hpart 1 (by omega)
      obtain ⟨ao2, m2, q2, hp2⟩ := hpart 2 (by omega)
      rw [decide_eq_true h2, Bool.true_and] at hR
      clear hpart hname hnum hinn
      generalize partX d Fm.isF ps 1 = r1 at *
      generalize partX d Fm.isF ps 2 = r2 at *
      generalize partX d Fm.isS2 ps 1 = r3 at *
      generalize wordX ps 1 = y1 at *
      generalize wordX ps 2 = y2 at *
      subst h2
      have HP1 := Lib.hid hp1
      clear hp1
      have HP2 := Lib.hid hp2
      clear hp2
      have HR := Lib.hid hR
      clear hR hn
      go_enter Tryz.func49, Tryz.ntmps49
      go_wp2_with fail
      refine hhead.mono ?_
      rintro e w1 ⟨rfl, B1⟩
      have A1 := HA.out.trans B1
      clear hhead c0 c1
      obtain ⟨p0, p1, hE, hF, hS⟩ := HP1.out w1 A1
      have hcall := hF
      clear hE hF hS
      have d1 : w1.cell? ⟨w.heap.size, 1, none⟩ = some (.slice (some ⟨b, 0, none⟩) 3 cap) := cell_of_heap (i := 1) (B1.heap HB.out)
      go_wp2_with fail
      refine hcall.mono ?_
      rintro e w2 ⟨rfl, a2⟩
      have A2 := A1.trans a2
      have B2 := B1.trans a2
      clear hcall p0 p1 d1
      cases r1 with
      | false =>
        go_wp2_with fail
        go_ret
        exact ⟨by rw [HR.out]; rfl, A2⟩
      | true =>
        obtain ⟨p0, p1, hE, hF, hS⟩ := HP2.out w2 A2
        have hcall := hF
        clear hE hF hS
        have d1 : w2.cell? ⟨w.heap.size, 1, none⟩ = some (.slice (some ⟨b, 0, none⟩) 3 cap) := cell_of_heap (i := 1) (B2.heap HB.out)
        go_wp2_with fail
        refine hcall.mono ?_
        rintro e w3 ⟨rfl, a3⟩
        have A3 := A2.trans a3
        have B3 := B2.trans a3
        clear hcall p0 p1 d1
        cases r2 with
        | false =>
          go_wp2_with fail
          go_ret
          exact ⟨by rw [HR.out]; rfl, A3⟩
        | true =>
          obtain ⟨p0, p1, hE, hF, hS⟩ := HP1.out w3 A3
          have hcall := hS
          clear hE hF hS
          have d1 : w3.cell? ⟨w.heap.size, 1, none⟩ = some (.slice (some ⟨b, 0, none⟩) 3 cap) := cell_of_heap (i := 1) (B3.heap HB.out)
          go_wp2_with fail
          refine hcall.mono ?_
          rintro e w4 ⟨rfl, a4⟩
          have A4 := A3.trans a4
          have B4 := B3.trans a4
          clear hcall p0 p1 d1
          cases r3 with
          | false =>
            go_wp2_with fail
            go_ret
            exact ⟨by rw [HR.out]; rfl, A4⟩
          | true =>
            go_wp2_with fail
            go_ret
            exact ⟨by rw [HR.out]; rfl, A4⟩
    · have h2i : ((n : Int) == 3) = false := beq_eq_false_iff_ne.2 (by omega)
      rw [decide_eq_false h2, Bool.false_and] at hR
      have HR := Lib.hid hR
      clear hpart hname hnum hinn hR hn h2
      go_enter Tryz.func49, Tryz.ntmps49
      go_wp2_with fail
      refine hhead.mono ?_
      rintro e w1 ⟨rfl, B1⟩
      have A1 := HA.out.trans B1
      clear hhead c0 c1
      have d1 : w1.cell? ⟨w.heap.size, 1, none⟩ = some (.slice (some ⟨b, 0, none⟩) n cap) := cell_of_heap (i := 1) (B1.heap HB.out)
      go_wp2_with fail
      go_ret
      exact ⟨by rw [HR.out] <;> rfl, A1⟩
  rw [if_neg h4] at hR
  by_cases h5 : x = Fm.wAll ∨ x = Fm.wEx
  · rw [if_pos h5] at hR
    clear h1 h3 h4
    rcases h5 with h5 | h5
    all_goals
      subst h5
      by_cases h2 : n = 4
      · obtain ⟨ao1, m1, q1, hp1⟩ := hpart 1 (by omega)
        have hN1 := hname 1 (by omega)
        obtain ⟨ao2, m2, q2, hp2⟩ := hpart 2 (by omega)
        have hM2 := hnum 2 (by omega)
        have hI2 := hinn 2
        obtain ⟨ao3, m3, q3, hp3⟩ := hpart 3 (by omega)
        rw [decide_eq_true h2, Bool.true_and] at hR
        clear hpart hname hnum hinn
        generalize Tm.nameOk (wordX ps 1) = r1 at *
        generalize numIn (wordX ps 2) = r2 at *
        generalize numI (wordX ps 2) = z2 at *
        generalize partX d Fm.isF ps 3 = r3 at *
        generalize wordX ps 1 = y1 at *
        generalize wordX ps 2 = y2 at *
        generalize wordX ps 3 = y3 at *
        subst h2
        have HP1 := Lib.hid hp1
        clear hp1
        have HN1 := Lib.hid hN1
        clear hN1
        have HP2 := Lib.hid hp2
        clear hp2
        have HM2 := Lib.hid hM2
        have HI2 := Lib.hid hI2
        clear hM2 hI2
        have HP3 := Lib.hid hp3
        clear hp3
        have HR := Lib.hid hR
        clear hR hn
        go_enter Tryz.func49, Tryz.ntmps49
        go_wp2_with fail
        refine hhead.mono ?_
        rintro e w1 ⟨rfl, B1⟩
        have A1 := HA.out.trans B1
        clear hhead c0 c1
        obtain ⟨p0, p1, _, _, _⟩ := HP1.out w1 A1
        have hcall := HN1.out w1
        have d1 : w1.cell? ⟨w.heap.size, 1, none⟩ = some (.slice (some ⟨b, 0, none⟩) 4 cap) := cell_of_heap (i := 1) (B1.heap HB.out)
        go_wp2_with fail
        refine hcall.mono ?_
        rintro e w2 ⟨rfl, rfl⟩
        clear hcall p0 p1 d1
        cases r1 with
        | false =>
          go_wp2_with fail
          go_ret
          exact ⟨by rw [HR.out]; rfl, A1⟩
        | true =>
          obtain ⟨p0, p1, _, _, _⟩ := HP2.out w1 A1
          have hcall := HM2.out w1
          have d1 : w1.cell? ⟨w.heap.size, 1, none⟩ = some (.slice (some ⟨b, 0, none⟩) 4 cap) := cell_of_heap (i := 1) (B1.heap HB.out)
          go_wp2_with fail
          refine hcall.mono ?_
          rintro e w2 ⟨rfl, rfl⟩
          clear hcall
          have hin := HI2.out w1
          go_wp2_with fail
          refine hin.mono ?_
          rintro e w2 ⟨rfl, rfl⟩
          clear hin p0 p1 d1
          cases r2 with
          | false =>
            go_wp2_with fail
            go_ret
            exact ⟨by rw [HR.out]; rfl, A1⟩
          | true =>
            obtain ⟨p0, p1, hE, hF, hS⟩ := HP3.out w1 A1
            have hcall := hF
            clear hE hF hS
            have d1 : w1.cell? ⟨w.heap.size, 1, none⟩ = some (.slice (some ⟨b, 0, none⟩) 4 cap) := cell_of_heap (i := 1) (B1.heap HB.out)
            go_wp2_with fail
            refine hcall.mono ?_
            rintro e w2 ⟨rfl, a2⟩
            have A2 := A1.trans a2
            have B2 := B1.trans a2
            clear hcall p0 p1 d1
            cases r3 with
            | false =>
              go_wp2_with fail
              go_ret
              exact ⟨by rw [HR.out]; rfl, A2⟩
            | true =>
              go_wp2_with fail
              go_ret
              exact ⟨by rw [HR.out]; rfl, A2⟩
      · have h2i : ((n : Int) == 4) = false := beq_eq_false_iff_ne.2 (by omega)
        rw [decide_eq_false h2, Bool.false_and] at hR
        have HR := Lib.hid hR
        clear hpart hname hnum hinn hR hn h2
        go_enter Tryz.func49, Tryz.ntmps49
        go_wp2_with fail
        refine hhead.mono ?_
        rintro e w1 ⟨rfl, B1⟩
        have A1 := HA.out.trans B1
        clear hhead c0 c1
        have d1 : w1.cell? ⟨w.heap.size, 1, none⟩ = some (.slice (some ⟨b, 0, none⟩) n cap) := cell_of_heap (i := 1) (B1.heap HB.out)
        go_wp2_with fail
        go_ret
        exact ⟨by rw [HR.out] <;> rfl, A1⟩
  rw [if_neg h5] at hR
  have e0 : (x == [101, 113]) = false := beq_eq_false_iff_ne.2 (h1)
  have e1 : (x == [97, 110, 100]) = false := beq_eq_false_iff_ne.2 (fun h => h3 (Or.inl h))
  have e2 : (x == [111, 114]) = false := beq_eq_false_iff_ne.2 (fun h => h3 (Or.inr h))
  have e3 : (x == [105, 109, 112]) = false := beq_eq_false_iff_ne.2 (h4)
  have e4 : (x == [97, 108, 108]) = false := beq_eq_false_iff_ne.2 (fun h => h5 (Or.inl h))
  have e5 : (x == [101, 120]) = false := beq_eq_false_iff_ne.2 (fun h => h5 (Or.inr h))
  have HR := Lib.hid hR
  clear hpart hname hnum hinn hR hn h1 h3 h4 h5
  go_enter Tryz.func49, Tryz.ntmps49
  go_wp2_with fail
  refine hhead.mono ?_
  rintro e w1 ⟨rfl, B1⟩
  have A1 := HA.out.trans B1
  clear hhead c0 c1
  have d1 : w1.cell? ⟨w.heap.size, 1, none⟩ = some (.slice (some ⟨b, 0, none⟩) n cap) := cell_of_heap (i := 1) (B1.heap HB.out)
  go_wp2_with fail
  go_ret
  exact ⟨by rw [HR.out] <;> rfl, A1⟩

theorem s_is_atom (w : World) (d : Nat) (a : List UInt8) (ha : a ≠ []) : Calls Tryz.prog 49 #[.agg #[str a, .slice none 0 0]] w fun e w' => e = .returned (.bool (Fm.isF (d + 1) (.atom a))) ∧ After w w' := by
  have hA := After.new w (.cells #[str a, .slice none 0 0] 35)
  have e0 : (a == []) = false := beq_eq_false_iff_ne.2 ha
  have e1 : (a != []) = true := by rw [bne, e0]; rfl
  show Calls _ _ _ _ fun e w' => e = .returned (.bool (decide (a = Fm.wTop ∨ a = Fm.wBot))) ∧ After w w'
  by_cases h1 : a = Fm.wTop
  · rw [decide_eq_true (Or.inl h1)]
    subst h1
    clear e0 e1 ha
    go_enter Tryz.func49, Tryz.ntmps49
    go_wp2_with fail
    go_ret
    exact ⟨rfl, hA⟩
  by_cases h2 : a = Fm.wBot
  · rw [decide_eq_true (Or.inr h2)]
    subst h2
    clear e0 e1 ha h1
    go_enter Tryz.func49, Tryz.ntmps49
    go_wp2_with fail
    go_ret
    exact ⟨rfl, hA⟩
  · rw [decide_eq_false (by rintro (h | h); exact h1 h; exact h2 h)]
    have e2 : (a == [116, 111, 112]) = false := beq_eq_false_iff_ne.2 h1
    have e3 : (a == [98, 111, 116]) = false := beq_eq_false_iff_ne.2 h2
    clear h1 h2 ha
    go_enter Tryz.func49, Tryz.ntmps49
    go_wp2_with fail
    go_ret
    exact ⟨rfl, hA⟩

theorem s_is : ∀ d, IsIH d
  | 0 => fun _ _ _ _ _ _ h => by omega
  | d + 1 => fun t w B v h hg hd => by
    cases t with
    | atom a =>
      simp only [SV] at h
      subst h
      exact s_is_atom w d a (by have := hg.1; simp only [Fm.sxOk] at this; exact this.1)
    | node ps => exact s_is_node d (s_is d) ps w B v h hg hd
end Go.Proofs.YtdjoafnohkmneaaGreatDoor

namespace Go.Proofs.YtdjoafnohkmneaaGreatDoor
open Go.RowKit

set_option maxHeartbeats 2000000
set_option maxRecDepth 100000

namespace Fm
/-- Nodes begin with an atom; behind all and ex a number stands third. -/
def wOk : Nat → SX → Prop
  | 0, _ => False
  | _ + 1, .atom _ => True
  | d + 1, .node ps => (∃ w r, ps = .atom w :: r ∧ (w = wAll ∨ w = wEx → ∃ x a r', r = x :: .atom a :: r')) ∧ ∀ p ∈ ps, wOk d p

theorem wOk_atom (d : Nat) (a : List UInt8) (h : 0 < d) : wOk d (.atom a) := by
  cases d with
  | zero => omega
  | succ d => trivial
theorem wOk_ex : ∀ (e : Ex) (d : Nat), sxDepth (exTree e) < d → wOk d (exTree e)
  | e, 0, h => by omega
  | .num n, d + 1, h => trivial
  | .var x, d + 1, h => trivial
  | .suc e, d + 1, h => by
    simp only [exTree, sxDepth, sxDepths] at h
    refine ⟨⟨_, _, rfl, fun h => absurd h (by decide)⟩, fun p hp => ?_⟩
    simp only [List.mem_cons, List.not_mem_nil, or_false] at hp
    rcases hp with rfl | rfl
    · exact wOk_atom d _ (by omega)
    · exact wOk_ex e d (by omega)
  | .add a b, d + 1, h => by
    simp only [exTree, sxDepth, sxDepths] at h
    refine ⟨⟨_, _, rfl, fun h => absurd h (by decide)⟩, fun p hp => ?_⟩
    simp only [List.mem_cons, List.not_mem_nil, or_false] at hp
    rcases hp with rfl | rfl | rfl
    · exact wOk_atom d _ (by omega)
    · exact wOk_ex a d (by omega)
    · exact wOk_ex b d (by omega)
  | .mul a b, d + 1, h => by
    simp only [exTree, sxDepth, sxDepths] at h
    refine ⟨⟨_, _, rfl, fun h => absurd h (by decide)⟩, fun p hp => ?_⟩
    simp only [List.mem_cons, List.not_mem_nil, or_false] at hp
    rcases hp with rfl | rfl | rfl
    · exact wOk_atom d _ (by omega)
    · exact wOk_ex a d (by omega)
    · exact wOk_ex b d (by omega)
theorem wOk_fo : ∀ (f : Fo) (d : Nat), sxDepth (tree f) < d → wOk d (tree f)
  | f, 0, h => by omega
  | .top, d + 1, h => trivial
  | .bot, d + 1, h => trivial
  | .eq a b, d + 1, h => by
    simp only [tree, sxDepth, sxDepths] at h
    refine ⟨⟨_, _, rfl, fun h => absurd h (by decide)⟩, fun p hp => ?_⟩
    simp only [List.mem_cons, List.not_mem_nil, or_false] at hp
    rcases hp with rfl | rfl | rfl
    · exact wOk_atom d _ (by omega)
    · exact wOk_ex a d (by omega)
    · exact wOk_ex b d (by omega)
  | .and f g, d + 1, h => by
    simp only [tree, sxDepth, sxDepths] at h
    refine ⟨⟨_, _, rfl, fun h => absurd h (by decide)⟩, fun p hp => ?_⟩
    simp only [List.mem_cons, List.not_mem_nil, or_false] at hp
    rcases hp with rfl | rfl | rfl
    · exact wOk_atom d _ (by omega)
    · exact wOk_fo f d (by omega)
    · exact wOk_fo g d (by omega)
  | .or f g, d + 1, h => by
    simp only [tree, sxDepth, sxDepths] at h
    refine ⟨⟨_, _, rfl, fun h => absurd h (by decide)⟩, fun p hp => ?_⟩
    simp only [List.mem_cons, List.not_mem_nil, or_false] at hp
    rcases hp with rfl | rfl | rfl
    · exact wOk_atom d _ (by omega)
    · exact wOk_fo f d (by omega)
    · exact wOk_fo g d (by omega)
  | .imp f g, d + 1, h => by
    simp only [tree, sxDepth, sxDepths] at h
    refine ⟨⟨_, _, rfl, fun h => absurd h (by decide)⟩, fun p hp => ?_⟩
    simp only [List.mem_cons, List.not_mem_nil, or_false] at hp
    rcases hp with rfl | rfl | rfl
    · exact wOk_atom d _ (by omega)
    · exact wOk_fo f d (by omega)
    · exact wOk_fo g d (by omega)
  | .all x n f, d + 1, h => by
    simp only [tree, sxDepth, sxDepths] at h
    refine ⟨⟨_, _, rfl, fun _ => ⟨_, _, _, rfl⟩⟩, fun p hp => ?_⟩
    simp only [List.mem_cons, List.not_mem_nil, or_false] at hp
    rcases hp with rfl | rfl | rfl | rfl
    · exact wOk_atom d _ (by omega)
    · exact wOk_atom d _ (by omega)
    · exact wOk_atom d _ (by omega)
    · exact wOk_fo f d (by omega)
  | .ex x n f, d + 1, h => by
    simp only [tree, sxDepth, sxDepths] at h
    refine ⟨⟨_, _, rfl, fun _ => ⟨_, _, _, rfl⟩⟩, fun p hp => ?_⟩
    simp only [List.mem_cons, List.not_mem_nil, or_false] at hp
    rcases hp with rfl | rfl | rfl | rfl
    · exact wOk_atom d _ (by omega)
    · exact wOk_atom d _ (by omega)
    · exact wOk_atom d _ (by omega)
    · exact wOk_fo f d (by omega)

theorem foldl_max_le {f : SX → Nat} {c : Nat} : ∀ (ps : List SX) (n : Nat), n ≤ c → (∀ p ∈ ps, f p ≤ c) → ps.foldl (fun n p => max n (f p)) n ≤ c
  | [], n, h, _ => h
  | p :: ps, n, h, hp => foldl_max_le ps _ (Nat.max_le.2 ⟨h, hp p (by simp)⟩) fun q hq => hp q (by simp [hq])
theorem wdS_le : ∀ (d : Nat) (t : SX), wdS d t ≤ 301
  | 0, _ => by simp [wdS]
  | d + 1, .atom _ => by simp [wdS]
  | d + 1, .node ps => by
    have h := foldl_max_le (f := wdS d) (c := 301) ps.tail 1 (by omega) fun p _ => wdS_le d p
    simp only [wdS]
    split
    · split
      · exact Nat.min_le_left _ _
      · exact h
    · exact h
end Fm
end Go.Proofs.YtdjoafnohkmneaaGreatDoor

namespace Go.Proofs.YtdjoafnohkmneaaGreatDoor
open Go.RowKit

set_option maxHeartbeats 400000
set_option maxRecDepth 100000

/-! ### nameValid -/

theorem nameOk_len (l : List UInt8) : Tm.nameOk l = (!l.isEmpty && decide (Tm.nameLen l 0 = l.length)) := by
  cases hl : l with
  | nil => rfl
  | cons c ds =>
    rw [← hl]
    have hne : l.isEmpty = false := by rw [hl]; rfl
    rw [hne, Bool.eq_iff_iff]
    simp only [Bool.not_false, Bool.true_and, decide_eq_true_eq]
    constructor
    · exact fun h => Tm.nameLen_of l l [] 0 (by simp) h (by simp)
    · intro h
      have := Tm.nameLen_sound l 0 (by rw [h, hl]; simp)
      rw [h] at this
      simpa using this.1

theorem nameValid_any (w : World) (l : List UInt8) (hl : l.length ≤ 1000000000) :
    Calls Tryz.prog 30 #[str l] w fun e w' => e = .returned (.bool (Tm.nameOk l)) ∧ w = w' := by
  have hnl := nameLength_any w l hl
  have hsz : (⟨l.toArray⟩ : ByteArray).size = l.length := by show l.toArray.size = _; simp
  have hok := nameOk_len l
  generalize Tm.nameLen l 0 = k at *
  cases hl0 : l.isEmpty with
  | true =>
    have hfin : Tm.nameOk l = false := by rw [hok, hl0]; rfl
    rw [hfin]
    clear hok hfin
    go_enter Tryz.func30, Tryz.ntmps30
    go_wp2_with (go_at_call 55; refine hnl.mono ?_; rintro e w' ⟨rfl, rfl⟩)
    go_ret
    exact ⟨by simp_all, rfl⟩
  | false =>
    by_cases hk : k = l.length
    · have hfin : Tm.nameOk l = true := by rw [hok, hl0]; simp [hk]
      rw [hfin]
      have he : ((k : Int) == (l.length : Int)) = true := by rw [beq_iff_eq]; omega
      clear hok hfin hk
      go_enter Tryz.func30, Tryz.ntmps30
      go_wp2_with (go_at_call 55; refine hnl.mono ?_; rintro e w' ⟨rfl, rfl⟩)
      go_ret
      exact ⟨by simp_all, rfl⟩
    · have hfin : Tm.nameOk l = false := by rw [hok, hl0]; simp [hk]
      rw [hfin]
      have he : ((k : Int) == (l.length : Int)) = false := by rw [beq_eq_false_iff_ne]; omega
      clear hok hfin hk
      go_enter Tryz.func30, Tryz.ntmps30
      go_wp2_with (go_at_call 55; refine hnl.mono ?_; rintro e w' ⟨rfl, rfl⟩)
      go_ret
      exact ⟨by simp_all, rfl⟩
end Go.Proofs.YtdjoafnohkmneaaGreatDoor

namespace Go.Proofs.YtdjoafnohkmneaaGreatDoor
open Go.RowKit

set_option maxHeartbeats 1000000
set_option maxRecDepth 100000

def MAtom (w : World) (b : Nat) (l : List UInt8) (i n : Nat) (e : Ending) (w' : World) : Prop :=
  e = .returned (.tuple #[str (FT.sl l i (Tm.atomEnd l i)), .bool (decide (n + 1 ≤ 60))]) ∧ w.grownBy w' (some b) ∧ MRd w' b l (Tm.atomEnd l i) (n + 1)

theorem matom_any (w : World) (b i n : Nat) (l : List UInt8) (h : MRd w b l i n) (hl : l.length ≤ 1000000000) (hi : i ≤ l.length) (hn : n ≤ 1000000000) :
    Calls Tryz.prog 69 #[.pointer (some ⟨b, 0, none⟩)] w (MAtom w b l i n) := by
  have c2 : w.cell? ⟨b, 2, none⟩ = some (.int .i64 (n : Nat)) := cell_of_heap h
  have f2 : w.frozen? ⟨b, 2, none⟩ = false := by unfold MRd at h; simp [World.frozen?, h]
  have H := Lib.hid h
  clear h
  unfold MAtom
  go_enter Tryz.func69, Tryz.ntmps69
  go_wp2_with fail
  have e1 : ((n : Int) + 1) = ((n + 1 : Nat) : Int) := by omega
  have H1 : MRd (w.setCell ⟨b, 2, none⟩ (.int .i64 ((n : Int) + 1))) b l i (n + 1) := by rw [e1]; exact H.out.set2 (n + 1)
  have hg1 : w.grownBy (w.setCell ⟨b, 2, none⟩ (.int .i64 ((n : Int) + 1))) (some b) := grown_setx _ _ _ _
  have he : decide ((n : Int) + 1 ≤ 60) = decide (n + 1 ≤ 60) := decide_eq_decide.2 (by omega)
  generalize w.setCell ⟨b, 2, none⟩ (.int .i64 ((n : Int) + 1)) = W at *
  have c2W : W.cell? ⟨b, 2, none⟩ = some (.int .i64 ((n : Int) + 1)) := by rw [e1]; exact cell_of_heap H1
  have HW := Lib.hid H1
  clear H1 H c2 f2 e1
  go_region_with (go_at_call 75; refine (mword_any _ b i (n + 1) l (by first | exact HW.out | exact (show MRd _ b l i (n + 1) from HW.out)) hl hi).mono ?_; rintro e w1 ⟨rfl, hgw, hmw⟩; have c2w : w1.cell? ⟨b, 2, none⟩ = some (.int .i64 ((n + 1 : Nat) : Int)) := cell_of_heap hmw; have HM := Lib.hid hmw; clear hmw)
  all_goals
    go_wp2_with fail
    go_ret2
    refine ⟨?_, grown_trans hg1 (grown_trans (after_grown b (After.refl W).drew) hgw), HM.out⟩
    rw [← he]
    simp
    exact ⟨rfl, Eq.trans (b := Value.bool (decide (n ≤ 59))) rfl (congrArg Value.bool (decide_eq_decide.2 (by omega)))⟩

end Go.Proofs.YtdjoafnohkmneaaGreatDoor

namespace Go.Proofs.YtdjoafnohkmneaaGreatDoor
open Go.RowKit

set_option maxHeartbeats 1000000
set_option maxRecDepth 100000

/-- Blocks from S on below E only. -/
def EVr (w : World) (S E : Nat) (t : Ex) (v : Value) : Prop := ∀ w'' : World, (∀ k, S ≤ k → k < E → w''.heap[k]? = w.heap[k]?) → EV w'' S t v
theorem EV.ranged {w : World} {S : Nat} {t : Ex} {v : Value} (h : EV w S t v) : EVr w S w.heap.size t v := fun _ hk => h.move (Nat.le_refl _) hk
theorem EVr.keep {w w' : World} {S E : Nat} {t : Ex} {v : Value} (h : EVr w S E t v) (hk : ∀ k, S ≤ k → k < E → w'.heap[k]? = w.heap[k]?) : EVr w' S E t v := fun w'' h2 => h w'' fun k h1 h3 => (h2 k h1 h3).trans (hk k h1 h3)
theorem EVr.ev {w : World} {S E : Nat} {t : Ex} {v : Value} (h : EVr w S E t v) : EV w S t v := h w fun _ _ _ => rfl

def RowX (w : World) (base : Nat) (sv : Value) (ps : List Ex) (xs : List Value) : Prop :=
  w.ownsRow base 55 1 sv ps.length xs ∧ ∀ j (h : j < ps.length), ∃ S E x, base ≤ S ∧ E ≤ w.heap.size ∧ (∀ g, sv.ownBlock = some g → g < S ∨ E ≤ g) ∧ xs[j]? = some x ∧ EVr w S E ps[j] x

theorem RowX.nil (w : World) (base : Nat) : RowX w base (.slice none 0 0) [] [] := ⟨World.ownsRow_nil w base _ _, fun j h => absurd h (by simp)⟩

theorem RowX.grown {w w' : World} {base b : Nat} {sv : Value} {ps : List Ex} {xs : List Value} (h : RowX w base sv ps xs) (hg : w.grownBy w' (some b)) (hb : b < base) : RowX w' base sv ps xs := by
  refine ⟨h.1.kept hg ?_, fun j hj => ?_⟩
  · cases hv : sv.ownBlock with
    | none => exact Or.inl rfl
    | some g => exact Or.inr (fun e => by injection e with e; have := (h.1.lt g hv).1; omega)
  · obtain ⟨S, E, x, h2, h3, h4, h5, h6⟩ := h.2 j hj
    exact ⟨S, E, x, h2, Nat.le_trans h3 hg.size, h4, h5, h6.keep fun k hk1 hk2 => hg.block k (by omega) (fun e => by injection e with e; omega)⟩

theorem RowX.push {w w' : World} {base S : Nat} {sv v' x : Value} {ps : List Ex} {xs : List Value} {t : Ex} (h : RowX w base sv ps xs) (hS : base ≤ S) (hgS : ∀ g, sv.ownBlock = some g → g < S) (ht : EV w S t x) (o : Obj)
    (ho : w'.ownsRow base 55 1 v' (ps.length + 1) (xs ++ [x])) (hg : (w.alloc o).grownBy w' sv.ownBlock) (hw : sv.ownBlock = v'.ownBlock ∨ v'.ownBlock = some (w.alloc o).heap.size) :
    RowX w' base v' (ps ++ [t]) (xs ++ [x]) := by
  have hxl : xs.length = ps.length := by have := h.1.1; omega
  have hsz : (w.alloc o).heap.size = w.heap.size + 1 := by simp
  have hkeep : ∀ k, k < w.heap.size → (∀ g, sv.ownBlock = some g → k ≠ g) → w'.heap[k]? = w.heap[k]? := fun k hk hne => by
    rw [hg.block k (by omega) (fun e => hne k e.symm rfl)]
    exact (below_new w o).block k hk
  refine ⟨by rw [List.length_append]; exact ho, fun j hj => ?_⟩
  by_cases hjl : j < ps.length
  · obtain ⟨S', E, x1, h2, h3, h4, e1, h5⟩ := h.2 j hjl
    refine ⟨S', E, x1, h2, by have := hg.size; omega, fun g hg' => ?_, ?_, ?_⟩
    · rcases hw with hw | hw
      · exact h4 g (hw.trans hg')
      · rw [hw] at hg'; injection hg' with hg'; right; omega
    · rw [List.getElem?_append_left (by omega)]; exact e1
    · rw [List.getElem_append_left hjl]
      exact h5.keep fun k hk1 hk2 => hkeep k (by omega) (fun g hg' e => by have := h4 g hg'; omega)
  · have hj' : j = ps.length := by rw [List.length_append, List.length_singleton] at hj; omega
    subst hj'
    refine ⟨S, w.heap.size, x, hS, by have := hg.size; omega, fun g hg' => ?_, ?_, ?_⟩
    · rcases hw with hw | hw
      · exact Or.inl (hgS g (hw.trans hg'))
      · rw [hw] at hg'; injection hg' with hg'; right; omega
    · rw [List.getElem?_append_right (by omega), hxl, Nat.sub_self]; rfl
    · simp only [List.getElem_concat_length]
      exact ht.ranged.keep fun k hk1 hk2 => hkeep k hk2 (fun g hg' e => by have := hgS g hg'; omega)

theorem RowX.at {w : World} {base : Nat} {sv : Value} {ps : List Ex} {xs : List Value} (h : RowX w base sv ps xs) (h0 : 0 < ps.length) : ∃ b cap cs fr, sv = .slice (some ⟨b, 0, none⟩) ps.length cap ∧ base ≤ b ∧ w.heap[b]? = some (.cells cs 55 fr) ∧
    ∀ j (hj : j < ps.length), ∃ x, cs[j]? = some x ∧ EV w base ps[j] x := by
  obtain ⟨ho, hc⟩ := h
  rcases ho.2 with ⟨h1, h2⟩ | ⟨g, cap, cur, hv, hb, hh, hle, _, hcs, hct⟩
  · omega
  · refine ⟨g, cap, cur, _, hv, hb, hh, fun j hj => ?_⟩
    obtain ⟨S, E, x, h2, _, _, e1, h5⟩ := hc j hj
    refine ⟨x, ?_, h5.ev.less h2⟩
    rw [← hct, List.getElem?_take, if_pos (by omega)] at e1
    simpa using e1

namespace Fm
def mkOp (w : List UInt8) : List Ex → Ex
  | [e] => .suc e
  | [a, b] => if w = wAdd then .add a b else .mul a b
  | _ => .num 0
def opCount (w : List UInt8) : Nat := if w = wSuc then 1 else if w = wAdd ∨ w = wMul then 2 else 0
/-- What is left of an operation: so many parts, and the closing parenthesis. -/
def rest (l w : List UInt8) (d : Nat) : Nat → List Ex → Nat → Nat → Option (Ex × Nat × Nat)
  | 0, ps, j, n => (sp l 41 j).map fun j => (mkOp w ps, j, n)
  | m + 1, ps, j, n => (sp l 32 j).bind fun j => (rdE l d j n).bind fun p => rest l w d m (ps ++ [p.1]) p.2.1 p.2.2
def rdOp (l w : List UInt8) (d j n : Nat) : Option (Ex × Nat × Nat) := if opCount w = 0 then none else rest l w d (opCount w) [] j n

theorem rdE_succ (l : List UInt8) (d i n : Nat) : rdE l (d + 1) i n = if 60 ≤ n then none else if l[i]? = some 40 then rdOp l (wd l (i + 1)) d (Tm.atomEnd l (i + 1)) (n + 1)
    else if Tm.nameOk (wd l i) = true then some (.var (wd l i), Tm.atomEnd l i, n + 1) else (numOf (wd l i) 0 60).map fun m => (.num m, Tm.atomEnd l i, n + 1) := by
  have hop : ∀ w j n, rdOp l w d j n = if w = wSuc then
        (sp l 32 j).bind fun j => (rdE l d j n).bind fun p => (sp l 41 p.2.1).map fun j => (.suc p.1, j, p.2.2)
      else if w = wAdd then
        (sp l 32 j).bind fun j => (rdE l d j n).bind fun p => (sp l 32 p.2.1).bind fun j => (rdE l d j p.2.2).bind fun q => (sp l 41 q.2.1).map fun j => (.add p.1 q.1, j, q.2.2)
      else if w = wMul then
        (sp l 32 j).bind fun j => (rdE l d j n).bind fun p => (sp l 32 p.2.1).bind fun j => (rdE l d j p.2.2).bind fun q => (sp l 41 q.2.1).map fun j => (.mul p.1 q.1, j, q.2.2)
      else none := by
    intro w j n
    by_cases h1 : w = wSuc
    · subst h1
      rfl
    by_cases h2 : w = wAdd
    · subst h2
      rfl
    by_cases h3 : w = wMul
    · subst h3
      rfl
    have : opCount w = 0 := by simp [opCount, h1, h2, h3]
    rw [rdOp, if_pos this, if_neg h1, if_neg h2, if_neg h3]
  simp only [rdE, hop]
end Fm
end Go.Proofs.YtdjoafnohkmneaaGreatDoor
