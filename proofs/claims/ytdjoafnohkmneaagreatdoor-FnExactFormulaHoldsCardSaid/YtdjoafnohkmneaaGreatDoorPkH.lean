/-
  The program's readExpression and readOperation.
-/
import Derived.Test.YtdjoafnohkmneaaGreatDoorPkG
import Derived.Deep.AppendLies
import Derived.Test.YtdjoafnohkmneaaGreatDoorPkE
import Derived.Test.YtdjoafnohkmneaaGreatDoorPkF
namespace Go.Proofs.YtdjoafnohkmneaaGreatDoor
open Go.RowKit

set_option maxHeartbeats 4000000
set_option maxRecDepth 100000

namespace Fm
theorem sp_lt {l : List UInt8} {c : UInt8} {j k : Nat} (h : sp l c j = some k) : k = j + 1 ∧ k ≤ l.length ∧ l[j]? = some c := by
  unfold sp at h
  split at h
  · rename_i hc
    obtain rfl := Option.some.inj h
    have := (List.getElem?_eq_some_iff.1 hc).1
    exact ⟨rfl, this, hc⟩
  · cases h

theorem rest_facts {l w : List UInt8} {d : Nat} (ih : ∀ i n ex j k, i ≤ l.length → rdE l d i n = some (ex, j, k) → j ≤ l.length ∧ n < k ∧ k ≤ 60) :
    ∀ m ps j n ex j' k', j ≤ l.length → n ≤ 60 → rest l w d m ps j n = some (ex, j', k') → j' ≤ l.length ∧ n ≤ k' ∧ k' ≤ 60
  | 0, ps, j, n, ex, j', k', hj, hn, h => by
    simp only [rest, Option.map_eq_some_iff] at h
    obtain ⟨a, h1, h2⟩ := h
    simp only [Prod.mk.injEq] at h2
    obtain ⟨_, rfl, rfl⟩ := h2
    exact ⟨(sp_lt h1).2.1, Nat.le_refl _, hn⟩
  | m + 1, ps, j, n, ex, j', k', hj, hn, h => by
    simp only [rest, Option.bind_eq_some_iff] at h
    obtain ⟨a, h1, ⟨e, j2, k2⟩, h2, h3⟩ := h
    obtain ⟨rfl, g1, _⟩ := sp_lt h1
    obtain ⟨q1, q2, q3⟩ := ih _ _ _ _ _ g1 h2
    obtain ⟨r1, r2, r3⟩ := rest_facts ih m _ _ _ _ _ _ q1 q3 h3
    exact ⟨r1, by omega, r3⟩

theorem rdE_facts (l : List UInt8) : ∀ d i n ex j k, i ≤ l.length → rdE l d i n = some (ex, j, k) → j ≤ l.length ∧ n < k ∧ k ≤ 60
  | 0, _, _, _, _, _, _, h => by simp [rdE] at h
  | d + 1, i, n, ex, j, k, hi, h => by
    rw [rdE_succ] at h
    split at h
    · cases h
    · rename_i hn
      split at h
      · rename_i h40
        have hil := (List.getElem?_eq_some_iff.1 h40).1
        unfold rdOp at h
        split at h
        · cases h
        · obtain ⟨r1, r2, r3⟩ := rest_facts (rdE_facts l d) _ _ _ _ _ _ _ (FT.atomEnd_le l (i + 1) hil) (by omega) h
          exact ⟨r1, by omega, r3⟩
      · split at h
        · simp only [Option.some.injEq, Prod.mk.injEq] at h
          obtain ⟨_, rfl, rfl⟩ := h
          exact ⟨FT.atomEnd_le l i hi, by omega, by omega⟩
        · simp only [Option.map_eq_some_iff, Prod.mk.injEq] at h
          obtain ⟨_, _, _, rfl, rfl⟩ := h
          exact ⟨FT.atomEnd_le l i hi, by omega, by omega⟩
theorem opCount_le (w : List UInt8) : opCount w ≤ 2 := by unfold opCount; split; omega; split <;> omega
end Fm

theorem EV.form {w : World} {B : Nat} {e : Ex} {v : Value} (h : EV w B e v) : ∃ T x, v = .iface T x := by
  cases e with
  | num n => exact ⟨_, _, h⟩
  | var x => exact ⟨_, _, h⟩
  | suc e => obtain ⟨b, cap, cs, fr, x, hv, _⟩ := h; exact ⟨_, _, hv⟩
  | add e f => obtain ⟨b, cap, cs, fr, x, y, hv, _⟩ := h; exact ⟨_, _, hv⟩
  | mul e f => obtain ⟨b, cap, cs, fr, x, y, hv, _⟩ := h; exact ⟨_, _, hv⟩

/-- An interface value, nil or not. -/
def Ifc (v : Value) : Prop := v = .nilIface ∨ ∃ T x, v = .iface T x

/-- What readExpression hands back. -/
def EPost (w : World) (b : Nat) (l : List UInt8) (o : Option (Ex × Nat × Nat)) (e : Ending) (w' : World) : Prop :=
  ∃ v, e = .returned (.tuple #[v, .bool o.isSome]) ∧ w.grownBy w' (some b) ∧ (∀ ex j k, o = some (ex, j, k) → EV w' w.heap.size ex v ∧ MRd w' b l j k) ∧ Ifc v

theorem EPost.no {w w' : World} {b : Nat} {l : List UInt8} {o : Option (Ex × Nat × Nat)} (ho : o = none) (h : w.grownBy w' (some b)) (v : Value) (hv : Ifc v := by first | exact Or.inl rfl | exact Or.inr ⟨_, _, rfl⟩) :
    EPost w b l o (.returned (.tuple #[v, .bool false])) w' :=
  ⟨v, by rw [ho]; rfl, h, (fun _ _ _ h => by rw [ho] at h; cases h), hv⟩

theorem beq_w (w z : List UInt8) : (w == z) = decide (w = z) := by
  by_cases h : w = z
  · rw [decide_eq_true h, h]; simp
  · rw [decide_eq_false h]; exact beq_eq_false_iff_ne.2 h

theorem count_any (W : World) (s : List UInt8) : Calls Tryz.prog 79 #[str s] W fun e w' => e = .returned (.int .i64 ((Fm.opCount s : Nat) : Int)) ∧ W = w' := by
  unfold Fm.opCount
  by_cases h1 : s = Fm.wSuc
  · subst h1
    go_enter Tryz.func79, Tryz.ntmps79
    go_wp2_with fail
    go_ret
    exact ⟨rfl, rfl⟩
  by_cases h2 : s = Fm.wAdd
  · subst h2
    go_enter Tryz.func79, Tryz.ntmps79
    go_wp2_with fail
    go_ret
    exact ⟨rfl, rfl⟩
  by_cases h3 : s = Fm.wMul
  · subst h3
    go_enter Tryz.func79, Tryz.ntmps79
    go_wp2_with fail
    go_ret
    exact ⟨rfl, rfl⟩
  · have e1 : (s == [115, 117, 99]) = false := beq_eq_false_iff_ne.2 h1
    have e2 : (s == [97, 100, 100]) = false := beq_eq_false_iff_ne.2 h2
    have e3 : (s == [109, 117, 108]) = false := beq_eq_false_iff_ne.2 h3
    rw [if_neg h1, if_neg (by rintro (h | h); exact h2 h; exact h3 h)]
    clear h1 h2 h3
    go_enter Tryz.func79, Tryz.ntmps79
    go_wp2_with fail
    go_ret
    exact ⟨rfl, rfl⟩

/-- What holds ahead of each round of readOperation's loop. -/
def OLoop (w : World) (b : Nat) (l s : List UInt8) (d C : Nat) (R : Option (Ex × Nat × Nat)) (k : Nat) (wr : World) : Prop :=
  ∃ ps xs ao n c j m, Fm.rest l s d (C - k) ps j m = R ∧ ps.length = k ∧ wr.heap[w.heap.size]? = some (.cells #[str s, .slice ao n c] 123 (0, 0)) ∧ RowX wr (w.heap.size + 1) (.slice ao n c) ps xs ∧ w.grownBy wr (some b) ∧ MRd wr b l j m ∧ j ≤ l.length ∧ m ≤ 60 ∧ 61 ≤ m + d

theorem x_cell {W w1 : World} {b q i : Nat} {v : Value} (h : W.cell? ⟨q, i, none⟩ = some v) (hne : q ≠ b) (hg : W.grownBy w1 (some b)) : w1.cell? ⟨q, i, none⟩ = some v := by
  have hlt : q < W.heap.size := by
    rcases Nat.lt_or_ge q W.heap.size with h1 | h1
    · exact h1
    · simp [World.cell?, Array.getElem?_eq_none h1] at h
  have := hg.block q hlt (fun e => by injection e with e; exact hne e)
  simp only [World.cell?, this] at h ⊢
  exact h

theorem x_slice_len {w : World} {base n size : Nat} {T : TypeId} {v : Value} {xs : List Value} (h : w.ownsRow base T size v n xs) : ∃ ao ac, v = .slice ao n ac := by
  rcases h.2 with ⟨rfl, rfl⟩ | ⟨g, cap, cur, rfl, _⟩
  · exact ⟨_, _, rfl⟩
  · exact ⟨_, _, rfl⟩

theorem OLoop.next {w w2 w3 : World} {b S' d C k j2 m2 g4 q4 n1 c1 : Nat} {l s : List UInt8} {R : Option (Ex × Nat × Nat)} {ps : List Ex} {xs : List Value} {ex : Ex} {x : Value} {o : Obj} {ao : Option Addr}
    (hb : b < w.heap.size) (hps : ps.length = k) (hR : Fm.rest l s d (C - (k + 1)) (ps ++ [ex]) j2 m2 = R)
    (hq : w2.heap[w.heap.size]? = some (.cells #[str s, .slice ao n1 c1] 123 (0, 0)))
    (hrow : RowX w2 (w.heap.size + 1) (.slice ao n1 c1) ps xs) (hgs : ∀ g, (Value.slice ao n1 c1).ownBlock = some g → g < S') (hS' : w.heap.size + 1 ≤ S') (hev : EV w2 S' ex x) (hgr : w.grownBy w2 (some b)) (hm : MRd w2 b l j2 m2) (hj : j2 ≤ l.length) (hm6 : m2 ≤ 60) (hmd : 61 ≤ m2 + d)
    (ho4 : w3.ownsRow (w.heap.size + 1) 55 1 (.slice (some ⟨g4, 0, none⟩) (ps.length + 1) q4) (ps.length + 1) (xs ++ [x])) (hg4 : (w2.alloc o).grownBy w3 (Value.slice ao n1 c1).ownBlock) (hw4 : (Value.slice ao n1 c1).ownBlock = some g4 ∨ g4 = (w2.alloc o).heap.size) :
    OLoop w b l s d C R (k + 1) (w3.setCell ⟨w.heap.size, 1, none⟩ (.slice (some ⟨g4, 0, none⟩) (ps.length + 1) q4)) ∧ w3.cell? ⟨w.heap.size, 1, none⟩ = some (.slice ao n1 c1) ∧ w3.frozen? ⟨w.heap.size, 1, none⟩ = false := by
  have hown : ∀ g, (Value.slice ao n1 c1).ownBlock = some g → w.heap.size + 1 ≤ g := fun g hg => (hrow.1.lt g hg).1
  have hqs := (Array.getElem?_eq_some_iff.1 hq).1
  have hsz : (w2.alloc o).heap.size = w2.heap.size + 1 := by simp
  have hq3 : w3.heap[w.heap.size]? = some (.cells #[str s, .slice ao n1 c1] 123 (0, 0)) := by
    rw [hg4.block _ (by omega) (fun e => by have := hown _ e.symm; omega), (below_new w2 o).block _ hqs]; exact hq
  refine ⟨?_, cell_of_heap (i := 1) hq3, by simp [World.frozen?, hq3]⟩
  have hbs := hm.lt
  have hb3 : MRd w3 b l j2 m2 := by
    unfold MRd at *
    rw [hg4.block _ (by omega) (fun e => by have := hown _ e.symm; omega), (below_new w2 o).block _ hbs]; exact hm
  have hrow3 : RowX w3 (w.heap.size + 1) (.slice (some ⟨g4, 0, none⟩) (ps.length + 1) q4) (ps ++ [ex]) (xs ++ [x]) := by
    refine RowX.push hrow hS' hgs hev o ho4 hg4 ?_
    rcases hw4 with h | h
    · exact Or.inl h
    · right; rw [h]; rfl
  have hset : w3.grownBy (w3.setCell ⟨w.heap.size, 1, none⟩ (.slice (some ⟨g4, 0, none⟩) (ps.length + 1) q4)) (some w.heap.size) := grown_setx _ _ _ _
  refine ⟨ps ++ [ex], xs ++ [x], some ⟨g4, 0, none⟩, ps.length + 1, q4, j2, m2, hR, by rw [List.length_append, hps]; rfl, ?_, hrow3.grown hset (by omega), ?_, ?_, hj, hm6, hmd⟩
  · simp [World.setCell, Array.getElem?_modify, hq3]
  · have h13 : w.grownBy w3 (some b) := by
      refine ⟨?_, ?_, ?_, ?_, fun k hk hne => ?_⟩
      · rw [hg4.os]; exact hgr.os
      · rw [hg4.tape]; exact hgr.tape
      · rw [hg4.output]; exact hgr.output
      · have := hgr.size; have := hg4.size; omega
      · rw [hg4.block k (by have := hgr.size; omega) (fun e => by have := hown _ e.symm; omega), (below_new w2 o).block k (by have := hgr.size; omega)]
        exact hgr.block k hk hne
    refine ⟨h13.os, h13.tape, h13.output, ?_, fun k hk hne => ?_⟩
    · have := h13.size; have := hset.size; omega
    · rw [hset.block k (by have := h13.size; omega) (fun e => by injection e with e; omega)]
      exact h13.block k hk hne
  · unfold MRd at *
    rw [hset.block b (by have := hg4.size; omega) (fun e => by injection e with e; omega)]
    exact hb3

/-- The operation itself, once its parts are read. -/
theorem RowX.ev {w : World} {B ao cap : Nat} {s : List UInt8} {oa : Option Addr} {ps : List Ex} {xs : List Value} (h : RowX w B (.slice oa ao cap) ps xs) (h0 : 0 < Fm.opCount s) (hl : ps.length = Fm.opCount s) :
    EV w B (Fm.mkOp s ps) (.iface 123 (.agg #[str s, .slice oa ao cap])) := by
  obtain ⟨b, cp, cs, fr, hv, hb, hh, he⟩ := h.at (by omega)
  injection hv with h1 h2 h3
  subst h1 h2 h3
  unfold Fm.opCount at h0 hl
  by_cases hs : s = Fm.wSuc
  · rw [if_pos hs] at hl
    obtain ⟨e, rfl⟩ : ∃ e, ps = [e] := List.length_eq_one_iff.1 hl
    obtain ⟨x, hx, hev⟩ := he 0 (by simp)
    exact ⟨b, cap, cs, fr, x, by rw [hs]; rfl, hb, hh, hx, hev⟩
  · rw [if_neg hs] at hl h0
    by_cases hs2 : s = Fm.wAdd ∨ s = Fm.wMul
    · rw [if_pos hs2] at hl
      obtain ⟨e, f, rfl⟩ : ∃ e f, ps = [e, f] := by
        match ps, hl with
        | [e, f], _ => exact ⟨e, f, rfl⟩
      obtain ⟨x, hx, hev⟩ := he 0 (by simp)
      obtain ⟨y, hy, hew⟩ := he 1 (by simp)
      show EV w B (if s = Fm.wAdd then Ex.add e f else Ex.mul e f) _
      by_cases ha : s = Fm.wAdd
      · rw [if_pos ha]
        exact ⟨b, cap, cs, fr, x, y, by rw [ha]; rfl, hb, hh, hx, hy, hev, hew⟩
      · rw [if_neg ha]
        exact ⟨b, cap, cs, fr, x, y, by rw [hs2.resolve_left ha]; rfl, hb, hh, hx, hy, hev, hew⟩
    · rw [if_neg hs2] at h0; omega

theorem op_end {w w1 : World} {b d i n j m B : Nat} {l s : List UInt8} {ps : List Ex} {R : Option (Ex × Nat × Nat)} {r : Bool} {v : Value} (hF : Fm.rdOp l s d i n = R) (hR : (Fm.sp l 41 j).map (fun j => (Fm.mkOp s ps, j, m)) = R) (hr : r = decide (l[j]? = some 41))
    (hg : w.grownBy w1 (some b)) (hm : MRd w1 b l (if r then j + 1 else j) m) (hev : EV w1 (w.heap.size + B) (Fm.mkOp s ps) v) : EPost w b l (Fm.rdOp l s d i n) (.returned (.tuple #[v, .bool r])) w1 := by
  by_cases h : l[j]? = some 41
  · have e : R = some (Fm.mkOp s ps, j + 1, m) := by rw [← hR, Fm.sp, if_pos h]; rfl
    rw [decide_eq_true h] at hr
    subst hr
    rw [hF, e]
    refine ⟨v, rfl, hg, fun ex j' k h => ?_, Or.inr hev.form⟩
    injection h with h
    injection h with h1 h
    injection h with h2 h3
    subst h1 h2 h3
    exact ⟨hev.less (by omega), hm⟩
  · have e : R = none := by rw [← hR, Fm.sp, if_neg h]; rfl
    rw [decide_eq_false h] at hr
    subst hr
    exact EPost.no (by rw [hF, e]) hg _ (Or.inr hev.form)

theorem op_any (l s : List UInt8) (hl : l.length ≤ 1000000000) (d S : Nat)
    (ih : ∀ (w : World) (b i n : Nat), MRd w b l i n → i ≤ l.length → n ≤ 60 → 61 ≤ n + d → LaidU w S → S ≤ b → S ≤ w.heap.size → Calls Tryz.prog 61 #[.pointer (some ⟨b, 0, none⟩)] w (EPost w b l (Fm.rdE l d i n)))
    (w : World) (b i n : Nat) (h : MRd w b l i n) (hi : i ≤ l.length) (hn : n ≤ 60) (hd : 61 ≤ n + d) (hS : LaidU w S) (hSb : S ≤ b) (hSw : S ≤ w.heap.size) :
    Calls Tryz.prog 71 #[.pointer (some ⟨b, 0, none⟩), str s] w (EPost w b l (Fm.rdOp l s d i n)) := by
  have hbl := h.lt
  have hcnt := fun W => count_any W s
  obtain ⟨C, hC⟩ : ∃ C, C = Fm.opCount s := ⟨_, rfl⟩
  have hC2 : C ≤ 2 := by rw [hC]; exact Fm.opCount_le s
  rw [← hC] at hcnt
  obtain ⟨R, hR⟩ : ∃ R, R = Fm.rest l s d C [] i n := ⟨_, rfl⟩
  have hfin : 0 < C → Fm.rdOp l s d i n = R := fun h0 => by rw [Fm.rdOp, if_neg (by omega), hR, hC]
  have hfin0 : C = 0 → Fm.rdOp l s d i n = none := fun h0 => by rw [Fm.rdOp, if_pos (by omega)]
  have hA := After.new w (.cells #[str s, .slice none 0 0] 123)
  have hbx := heap_new' w (.cells #[str s, .slice none 0 0] 123)
  have hstart : OLoop w b l s d C R 0 (w.alloc (.cells #[str s, .slice none 0 0] 123)) :=
    ⟨[], [], none, 0, 0, i, n, by rw [hR]; rfl, rfl, hbx, RowX.nil _ _, grown_alloc _ _ _, h.after hA, hi, hn, hd⟩
  have HST := Lib.hid hstart
  have HIH := Lib.hid ih
  have HFIN := Lib.hid hfin
  have HFIN0 := Lib.hid hfin0
  have HLS := Lib.hid hS
  have HC := Lib.hid hC
  clear hC ih hfin hfin0 hS h hR hA hbx hstart hd hi
  go_enter Tryz.func71, Tryz.ntmps71
  go_wp2_with (go_at_call 79; refine (hcnt _).mono ?_; rintro e w' ⟨rfl, rfl⟩)
  generalize w.alloc (.cells #[str s, .slice none 0 0] 123) = w0 at *
  clear hcnt
  go_loopw [13] (fun i wr => ∃ k : Nat, i = .int .i64 k ∧ k ≤ C ∧ Hid (OLoop w b l s d C R k wr)) (fun i _ => C - (intOf i).toNat)
  case atStart => exact ⟨0, rfl, Nat.zero_le _, HST⟩
  case round =>
    obtain ⟨k, rfl, hk, HO⟩ := hrel
    obtain ⟨ps, xs, ao, n1, c1, j, m, hP, hps, hq, hRow, hG, hM, hj, hm, hmd⟩ := HO.out
    have c0 : wr.cell? ⟨w.heap.size, 0, none⟩ = some (str s) := cell_of_heap (i := 0) hq
    have c1' : wr.cell? ⟨w.heap.size, 1, none⟩ = some (.slice ao n1 c1) := cell_of_heap (i := 1) hq
    have hn1 : n1 = ps.length := by obtain ⟨_, _, e⟩ := x_slice_len hRow.1; injection e
    subst hn1
    have hwz : w.heap.size < wr.heap.size := (Array.getElem?_eq_some_iff.1 hq).1
    have hLW := HLS.out.grown hG hSb hSw
    have hsk := fun (mm : Int) (c : UInt8) (hmm : mm = c.toNat) => skipM wr b j m l mm c hmm hM hl hj
    have HRow := Lib.hid hRow
    have HG := Lib.hid hG
    have HP := Lib.hid hP
    have HQ := Lib.hid hq
    have HPS := Lib.hid hps
    have HLW := Lib.hid hLW
    have HSK := Lib.hid hsk
    have HM := Lib.hid hM
    clear hRow hG hP hq HO hLW hsk hM hps
    by_cases hlt : k < C
    · have hlt' : (k : Int) < (C : Int) := by omega
      have hs32 := HSK.out 32 32 rfl
      obtain ⟨fu, hfu⟩ : ∃ fu, C - k = fu + 1 := ⟨C - k - 1, by omega⟩
      have hP := HP.out
      rw [hfu] at hP
      by_cases h32 : l[j]? = some 32
      · rw [decide_eq_true h32] at hs32
        have hj1 : j + 1 ≤ l.length := (List.getElem?_eq_some_iff.1 h32).1
        have hsp : Fm.sp l 32 j = some (j + 1) := by rw [Fm.sp, if_pos h32]
        simp only [Fm.rest, hsp, Option.bind_some] at hP
        clear c0 h32
        go_wp2_with fail
        refine hs32.mono ?_
        rintro e w1 ⟨rfl, hg1, hm1⟩
        simp only [if_true] at hm1
        have hLW1 := HLW.out.grown hg1 hSb (by omega)
        have hexp := HIH.out w1 b (j + 1) m hm1 hj1 (by omega) hmd hLW1 hSb (by have := hg1.size; omega)
        have HG1 := Lib.hid hg1
        clear hs32 hm1 hLW1 hg1
        unfold EPost at hexp
        cases hr : Fm.rdE l d (j + 1) m with
        | none =>
          rw [hr] at hexp
          have HF := Lib.hid (HFIN.out (by omega))
          have HRN : Hid (R = none) := by show _ = _; rw [← hP, hr]; rfl
          clear hP hr c1'
          go_wp2_with fail
          refine hexp.mono ?_
          rintro e w2 ⟨v, rfl, hg2, _⟩
          clear hexp
          go_wp2_with fail
          go_ret2
          exact EPost.no (by rw [HF.out, HRN.out]) (grown_trans (grown_trans HG.out HG1.out) hg2) _
        | some p =>
          obtain ⟨ex, j2, m2⟩ := p
          obtain ⟨f1, f2, f3⟩ := Fm.rdE_facts l d _ _ _ _ _ hj1 hr
          rw [hr] at hexp hP
          simp only [Option.bind_some] at hP
          have HP2 := Lib.hid hP
          clear hP hr c1'
          go_wp2_with fail
          refine hexp.mono ?_
          rintro e w2 ⟨v, rfl, hg2, hv⟩
          obtain ⟨hev, hmr⟩ := hv.1 ex j2 m2 rfl
          obtain ⟨T, x, rfl⟩ := hev.form
          have hqb : w.heap.size ≠ b := by omega
          have hq1 : w1.heap[w.heap.size]? = some (.cells #[str s, .slice ao ps.length c1] 123 (0, 0)) := by
            rw [HG1.out.block _ hwz (fun e => by injection e with e; exact hqb e)]; exact HQ.out
          have hq2 : w2.heap[w.heap.size]? = some (.cells #[str s, .slice ao ps.length c1] 123 (0, 0)) := by
            rw [hg2.block _ (Array.getElem?_eq_some_iff.1 hq1).1 (fun e => by injection e with e; exact hqb e)]; exact hq1
          have d0 : w2.cell? ⟨w.heap.size, 0, none⟩ = some (str s) := cell_of_heap (i := 0) hq2
          have d1 : w2.cell? ⟨w.heap.size, 1, none⟩ = some (.slice ao ps.length c1) := cell_of_heap (i := 1) hq2
          have g1 : w2.frozen? ⟨w.heap.size, 1, none⟩ = false := by simp [World.frozen?, hq2]
          have hRow2 := (HRow.out.grown HG1.out (by omega)).grown hg2 (by omega)
          have hgS : ∀ g, (Value.slice ao ps.length c1).ownBlock = some g → g < w1.heap.size := fun g hg => ((HRow.out.grown HG1.out (by omega)).1.lt g hg).2
          have HROW2 := Lib.hid hRow2
          have HGS := Lib.hid hgS
          have HEV := Lib.hid hev
          have HMR := Lib.hid hmr
          have HG2 := Lib.hid hg2
          have HQ2 := Lib.hid hq2
          obtain ⟨i0, hi0, hz0, hz1, hz2⟩ : ∃ i, (Tryz.prog).info? 55 = some i ∧ i.zero = some .nilIface ∧ i.size = 1 ∧ i.bytes = 16 := ⟨_, rfl, rfl, rfl, rfl⟩
          have hun : Tryz.prog.underlying 121 = some (.slice 55) := by kernel_rfl
          have hnw := After.new w2 (.cells #[.iface T x] 55)
          have hHO := World.ownsRow.alloc hRow2.1 (.cells #[.iface T x] 55)
          have hnews : ∀ (i : Nat) (u : Value), ([.iface T x] : List Value)[i]? = some u → (w2.alloc (.cells #[.iface T x] 55)).cell? ((⟨w2.heap.size, 0, none⟩ : Addr).add i) = some u := fun i u hu => by
            match i, hu with
            | 0, hu =>
              have e : Value.iface T x = u := by simpa using hu
              subst e
              simp [Addr.add]
          have hb5 : w.heap.size + 1 ≤ (w2.alloc (.cells #[.iface T x] 55)).heap.size := by have := hnw.size; have := HG1.out.size; have := hg2.size; omega
          have hpsk : ps.length ≤ 2 := by have := HPS.out; omega
          have hlast : ∀ (g4 q4 : Nat) (w3 : World), w3.ownsRow (w.heap.size + 1) 55 1 (.slice (some ⟨g4, 0, none⟩) (ps.length + 1) q4) (ps.length + 1) (xs ++ [.iface T x]) →
              (w2.alloc (.cells #[.iface T x] 55)).grownBy w3 (Value.slice ao ps.length c1).ownBlock → ((Value.slice ao ps.length c1).ownBlock = some g4 ∨ g4 = (w2.alloc (.cells #[.iface T x] 55)).heap.size) → _ := fun g4 q4 w3 ho4 hg4 hw4 =>
            OLoop.next (C := C) (R := R) hbl HPS.out (by rw [show C - (k + 1) = fu by omega]; exact HP2.out) HQ2.out HROW2.out HGS.out (by have := HG1.out.size; omega) HEV.out (grown_trans (grown_trans HG.out HG1.out) HG2.out) HMR.out f1 f3 (by omega) ho4 hg4 hw4
          have HLASTF := Lib.hid hlast
          have HHO := Lib.hid hHO
          have HNEWS := Lib.hid hnews
          have HB5 := Lib.hid hb5
          clear hexp hv hev hmr hg2 hq1 hq2 hRow2 hgS hnw hHO hnews hb5 hlast
          go_wp2_with (at_builtin; refine Go.wpList_append_lies _ (by rfl) _ _ 121 (by rfl) (w.heap.size + 1) 55 i0 .nilIface 1 16 hun hi0 hz0 hz1 hz2 rfl (by decide) _ _ _ (by rfl) HHO.out ⟨w2.heap.size, 0, none⟩ 1 1 [.iface T x] (by rfl) (by rfl) HNEWS.out (by simp [Value.oneCell']) (by omega) (by unfold maxLen; omega) (by omega) HB5.out _ rfl ?_; intro g4 q4 w3 ho4 hg4 hw4 hlt4; have hl3 := HLASTF.out g4 q4 w3 ho4 hg4 hw4; have HLAST := Lib.hid hl3.1; have e31 := hl3.2.1; have f31 := hl3.2.2; clear hl3 ho4 hg4 hw4)
          go_roundw
          case rel => exact ⟨k + 1, by go_num, by omega, HLAST⟩
          case measure => simp [intOf]; omega
      · rw [decide_eq_false h32] at hs32
        have hsp : Fm.sp l 32 j = none := by rw [Fm.sp, if_neg h32]
        have HF := Lib.hid (HFIN.out (by omega))
        have HRN : Hid (R = none) := by show _ = _; rw [← hP]; simp [Fm.rest, hsp]
        clear hP hsp h32 c0 c1'
        go_wp2_with fail
        refine hs32.mono ?_
        rintro e w1 ⟨rfl, hg1, _⟩
        clear hs32
        go_wp2_with fail
        go_ret2
        exact EPost.no (by rw [HF.out, HRN.out]) (grown_trans HG.out hg1) _
    · obtain rfl : k = C := by omega
      have hP := HP.out
      rw [Nat.sub_self] at hP
      have hRow := HRow.out
      have hPS := HPS.out
      rw [hPS] at c1' hRow HQ
      by_cases h0 : k = 0
      · subst h0
        have HF := Lib.hid (HFIN0.out rfl)
        clear hP hRow hPS HQ hC2 hlt
        go_wp2_with fail
        go_quiet (fail)
        go_wp2_with fail
        go_ret2
        refine EPost.no HF.out ?_ _
        exact grown_trans HG.out (grown_drawn _ _ _)
      · have h0' : 0 < (k : Int) := by omega
        have hRk : Fm.rest l s d 0 ps j m = R := hP
        simp only [Fm.rest] at hRk
        have hqb : w.heap.size ≠ b := by omega
        have HRK := Lib.hid hRk
        have HF := Lib.hid (HFIN.out (by omega))
        have hev0 := fun (W : World) (hW : RowX W (w.heap.size + 1) (.slice ao k c1) ps xs) => RowX.ev hW (by rw [← HC.out]; omega) (by rw [← HC.out]; exact hPS)
        have HEV0 := Lib.hid hev0
        have HROW := Lib.hid hRow
        obtain ⟨r, hr⟩ : ∃ r, r = decide (l[j]? = some 41) := ⟨_, rfl⟩
        have HR := Lib.hid hr
        have hk2 : k = 1 ∨ k = 2 := by omega
        clear hr hev0 hRk hP hRow hPS hlt h0 h0'
        obtain rfl | rfl := hk2
        all_goals
         go_wp2_with fail
         go_region_with (go_at_call 68; refine (skipM _ b j m l 41 41 rfl (by first | exact HM.out | exact (show MRd _ b l j m from HM.out)) hl hj).mono ?_; rintro e w1 ⟨rfl, hgw, hmw⟩; have d0 : w1.cell? ⟨w.heap.size, 0, none⟩ = some (str s) := x_cell (by exact c0) hqb hgw; have d1 : w1.cell? ⟨w.heap.size, 1, none⟩ = some (.slice ao _ c1) := x_cell (by exact c1') hqb hgw; have HMW := Lib.hid hmw; clear hmw)
         all_goals
           go_wp2_with fail
           go_ret2
           have hgg : wr.grownBy w1 (some b) := by
             first
               | exact grown_trans (grown_drawn _ _ _) hgw
               | exact hgw
               | exact grown_trans (after_grown b (After.refl wr).drew) hgw
           exact op_end HF.out HRK.out rfl (grown_trans HG.out hgg) HMW.out (HEV0.out w1 (HROW.out.grown hgg (by omega)))
end Go.Proofs.YtdjoafnohkmneaaGreatDoor

namespace Go.Proofs.YtdjoafnohkmneaaGreatDoor
open Go.RowKit

set_option maxHeartbeats 4000000
set_option maxRecDepth 100000

theorem numOf_le {w : List UInt8} {lo hi m : Nat} (h : Fm.numOf w lo hi = some m) : m ≤ hi := (Fm.numOf_some h).2.2

theorem EPost.from {w w1 w' : World} {b : Nat} {l : List UInt8} {o : Option (Ex × Nat × Nat)} {e : Ending} (hg : w.grownBy w1 (some b)) (h : EPost w1 b l o e w') : EPost w b l o e w' := by
  obtain ⟨v, h1, h2, h3⟩ := h
  exact ⟨v, h1, grown_trans hg h2, fun ex j k h => ⟨(h3.1 ex j k h).1.less hg.size, (h3.1 ex j k h).2⟩, h3.2⟩

theorem EPost.leaf {w w' : World} {b j k : Nat} {l : List UInt8} {v : Value} {ex : Ex} (hg : w.grownBy w' (some b)) (hv : EV w' w.heap.size ex v) (hm : MRd w' b l j k) : EPost w b l (some (ex, j, k)) (.returned (.tuple #[v, .bool true])) w' :=
  ⟨v, rfl, hg, (fun _ _ _ h => by injection h with h; injection h with h1 h; injection h with h2 h3; subst h1 h2 h3; exact ⟨hv, hm⟩), Or.inr hv.form⟩

theorem exp_step (l : List UInt8) (hl : l.length ≤ 1000000000) (d S : Nat)
    (ih : ∀ (w : World) (b i n : Nat), MRd w b l i n → i ≤ l.length → n ≤ 60 → 61 ≤ n + d → LaidU w S → S ≤ b → S ≤ w.heap.size → Calls Tryz.prog 61 #[.pointer (some ⟨b, 0, none⟩)] w (EPost w b l (Fm.rdE l d i n)))
    (w : World) (b i n : Nat) (h : MRd w b l i n) (hi : i ≤ l.length) (hn : n ≤ 60) (hd : 61 ≤ n + (d + 1)) (hS : LaidU w S) (hSb : S ≤ b) (hSw : S ≤ w.heap.size) :
    Calls Tryz.prog 61 #[.pointer (some ⟨b, 0, none⟩)] w (EPost w b l (Fm.rdE l (d + 1) i n)) := by
  have hskip := skipM w b i n l 40 40 rfl h hl hi
  have hbl := h.lt
  rw [Fm.rdE_succ]
  clear h
  by_cases h40 : l[i]? = some 40
  · have hi1 : i + 1 ≤ l.length := (List.getElem?_eq_some_iff.1 h40).1
    rw [decide_eq_true h40] at hskip
    have hatom := fun W (hW : MRd W b l (i + 1) n) => matom_any W b (i + 1) n l hW hl hi1 (by omega)
    have hop := fun (W : World) (hm : MRd W b l (Tm.atomEnd l (i + 1)) (n + 1)) (hW : w.grownBy W (some b)) (hn' : n + 1 ≤ 60) =>
      op_any l (Fm.wd l (i + 1)) hl d S ih W b _ (n + 1) hm (FT.atomEnd_le l (i + 1) hi1) hn' (by omega) (hS.grown hW hSb hSw) hSb (by have := hW.size; omega)
    rw [if_pos h40]
    have HATOM := Lib.hid hatom
    have HOP := Lib.hid hop
    clear hatom hop ih hS h40 hi1 hd hi
    by_cases h60 : n + 1 ≤ 60
    · rw [if_neg (by omega)]
      generalize Fm.rdOp l (Fm.wd l (i + 1)) d (Tm.atomEnd l (i + 1)) (n + 1) = o at *
      go_enter Tryz.func61, Tryz.ntmps61
      go_wp2_with fail
      refine hskip.mono ?_
      rintro e w1 ⟨rfl, hg1, hm1⟩
      have hatom := HATOM.out w1 hm1
      unfold MAtom at hatom
      rw [decide_eq_true h60] at hatom
      clear hskip
      go_wp2_with fail
      refine hatom.mono ?_
      rintro e w2 ⟨rfl, hg2, hm2⟩
      have hg12 := grown_trans hg1 hg2
      have hop := HOP.out w2 hm2 hg12 h60
      unfold EPost at hop
      clear hatom hm1 hm2
      rw [show FT.sl l (i + 1) (Tm.atomEnd l (i + 1)) = Fm.wd l (i + 1) from rfl]
      generalize Fm.wd l (i + 1) = s at *
      go_wp2_with fail
      refine hop.mono ?_
      rintro e w3 ⟨v, rfl, hr⟩
      clear hop
      go_wp2_with fail
      go_ret2
      exact EPost.from hg12 ⟨v, rfl, hr⟩
    · rw [if_pos (by omega)]
      go_enter Tryz.func61, Tryz.ntmps61
      go_wp2_with fail
      refine hskip.mono ?_
      rintro e w1 ⟨rfl, hg1, hm1⟩
      have hatom := HATOM.out w1 hm1
      unfold MAtom at hatom
      rw [decide_eq_false h60] at hatom
      clear hskip
      go_wp2_with fail
      refine hatom.mono ?_
      rintro e w2 ⟨rfl, hg2, hm2⟩
      clear hatom hm1 hm2
      go_wp2_with fail
      go_ret2
      exact EPost.no rfl (grown_trans hg1 hg2) _
  · rw [decide_eq_false h40] at hskip
    rw [if_neg h40]
    have hatom := fun W (hW : MRd W b l i n) => matom_any W b i n l hW hl hi (by omega)
    unfold MAtom at hatom
    rw [show FT.sl l i (Tm.atomEnd l i) = Fm.wd l i from rfl] at hatom
    have hlaid := fun W (hW : w.grownBy W (some b)) => (hS.grown hW hSb hSw).laid
    have hwl : (Fm.wd l i).length ≤ 1000000000 := by
      have : (Fm.wd l i).length ≤ l.length := by unfold Fm.wd FT.sl; simp; omega
      omega
    have hname := fun W => nameValid_any W (Fm.wd l i) hwl
    have hnum := fun W hW => readNumber_any W (Fm.wd l i) 0 60 hwl (by omega) hW
    clear hwl ih hS h40 hi hd
    generalize Fm.wd l i = s at *
    generalize Tm.atomEnd l i = ae at *
    generalize Fm.numOf s 0 60 = nv at *
    generalize Tm.nameOk s = ok at *
    have HATOM := Lib.hid hatom
    have HLAID := Lib.hid hlaid
    have HNUM := Lib.hid hnum
    have HNAME := Lib.hid hname
    clear hatom hlaid hnum hname
    by_cases h60 : n + 1 ≤ 60
    · rw [if_neg (by omega)]
      cases ok with
      | true =>
        rw [if_pos rfl]
        go_enter Tryz.func61, Tryz.ntmps61
        go_wp2_with fail
        refine hskip.mono ?_
        rintro e w1 ⟨rfl, hg1, hm1⟩
        have hatom := HATOM.out w1 hm1
        rw [decide_eq_true h60] at hatom
        clear hskip
        go_wp2_with fail
        refine hatom.mono ?_
        rintro e w2 ⟨rfl, hg2, hm2⟩
        have hg12 := grown_trans hg1 hg2
        have hnm := HNAME.out w2
        have HM2 := Lib.hid hm2
        clear hatom hm1 hm2 HNAME HNUM
        go_wp2_with fail
        refine hnm.mono ?_
        rintro e w3 ⟨rfl, rfl⟩
        clear hnm
        go_wp2_with fail
        go_ret2
        exact EPost.leaf (v := .iface 110 (str s)) (ex := .var s) hg12 rfl HM2.out
      | false =>
        rw [if_neg (by decide)]
        go_enter Tryz.func61, Tryz.ntmps61
        go_wp2_with fail
        refine hskip.mono ?_
        rintro e w1 ⟨rfl, hg1, hm1⟩
        have hatom := HATOM.out w1 hm1
        rw [decide_eq_true h60] at hatom
        clear hskip
        go_wp2_with fail
        refine hatom.mono ?_
        rintro e w2 ⟨rfl, hg2, hm2⟩
        have hg12 := grown_trans hg1 hg2
        have hnm := HNAME.out w2
        have hnr := HNUM.out w2 (HLAID.out w2 hg12)
        unfold NumPost at hnr
        have HM2 := Lib.hid hm2
        clear hatom hm1 hm2 HNAME HNUM
        go_wp2_with fail
        refine hnm.mono ?_
        rintro e w3 ⟨rfl, rfl⟩
        clear hnm
        go_wp2_with fail
        refine hnr.mono ?_
        rintro e w3 ⟨v, rfl, hv, ha⟩
        clear hnr
        cases nv with
        | none =>
          clear hv
          go_wp2_with fail
          go_ret2
          exact EPost.no rfl (grown_trans hg12 (after_grown b ha)) _
        | some m =>
          obtain rfl := hv m rfl
          clear hv
          go_wp2_with fail
          go_ret2
          exact EPost.leaf (v := .iface 47 (.int .i64 (m : Nat))) (ex := .num m) (grown_trans hg12 (after_grown b ha)) rfl (HM2.out.after ha)
    · rw [if_pos (by omega)]
      go_enter Tryz.func61, Tryz.ntmps61
      go_wp2_with fail
      refine hskip.mono ?_
      rintro e w1 ⟨rfl, hg1, hm1⟩
      have hatom := HATOM.out w1 hm1
      rw [decide_eq_false h60] at hatom
      clear hskip
      go_wp2_with fail
      refine hatom.mono ?_
      rintro e w2 ⟨rfl, hg2, hm2⟩
      clear hatom hm1 hm2
      go_wp2_with fail
      go_ret2
      exact EPost.no rfl (grown_trans hg1 hg2) _

theorem exp_any (l : List UInt8) (hl : l.length ≤ 1000000000) (S : Nat) : ∀ (d : Nat) (w : World) (b i n : Nat), MRd w b l i n → i ≤ l.length → n ≤ 60 → 61 ≤ n + d → LaidU w S → S ≤ b → S ≤ w.heap.size →
    Calls Tryz.prog 61 #[.pointer (some ⟨b, 0, none⟩)] w (EPost w b l (Fm.rdE l d i n)) := by
  intro d
  induction d with
  | zero => intro w b i n _ _ h1 h2; omega
  | succ d ih => exact fun w b i n h hi hn hd hS hSb hSw => exp_step l hl d S ih w b i n h hi hn hd hS hSb hSw
end Go.Proofs.YtdjoafnohkmneaaGreatDoor

namespace Go.Proofs.YtdjoafnohkmneaaGreatDoor
open Go.RowKit

set_option maxHeartbeats 4000000
set_option maxRecDepth 100000

/-- The value answers r when it is asked whether it is simple. -/
def SimOk (v : Value) (r : Bool) : Prop :=
  ∃ T x f y, v = .iface T x ∧ (∀ W, (method 335 T x "loop.example/realizers/impl.simple").run Tryz.prog W = .ok (f, y) W) ∧ (∀ args w', (callFunc f args).run Tryz.prog w' = .ok (.enter f args) w') ∧
    ∀ W, Calls Tryz.prog f #[y] W (fun e W' => e = .returned (.bool r) ∧ After W W')

theorem truth_simple (W : World) : Calls Tryz.prog 153 #[.agg #[]] W (fun e W' => e = .returned (.bool true) ∧ After W W') := by
  have hA := After.new W (.cells #[] 86)
  go_enter Tryz.func153, Tryz.ntmps153
  go_wp2_with fail
  go_ret
  exact ⟨rfl, hA⟩
theorem falsity_simple (W : World) : Calls Tryz.prog 186 #[.agg #[]] W (fun e W' => e = .returned (.bool true) ∧ After W W') := by
  have hA := After.new W (.cells #[] 107)
  go_enter Tryz.func186, Tryz.ntmps186
  go_wp2_with fail
  go_ret
  exact ⟨rfl, hA⟩
theorem equality_simple (W : World) (x y : Value) : Calls Tryz.prog 158 #[.agg #[x, y]] W (fun e W' => e = .returned (.bool true) ∧ After W W') := by
  have hA := After.new W (.cells #[x, y] 88)
  go_enter Tryz.func158, Tryz.ntmps158
  go_wp2_with fail
  go_ret
  exact ⟨rfl, hA⟩
theorem implication_simple (W : World) (x y : Value) : Calls Tryz.prog 170 #[.agg #[x, y]] W (fun e W' => e = .returned (.bool false) ∧ After W W') := by
  have hA := After.new W (.cells #[x, y] 94)
  go_enter Tryz.func170, Tryz.ntmps170
  go_wp2_with fail
  go_ret
  exact ⟨rfl, hA⟩
theorem universal_simple (W : World) (x y z : Value) : Calls Tryz.prog 177 #[.agg #[x, y, z]] W (fun e W' => e = .returned (.bool false) ∧ After W W') := by
  have hA := After.new W (.cells #[x, y, z] 98)
  go_enter Tryz.func177, Tryz.ntmps177
  go_wp2_with fail
  go_ret
  exact ⟨rfl, hA⟩

theorem bound_simple (W : World) (x y z : Value) (r : Bool) (h : SimOk z r) : Calls Tryz.prog 174 #[.agg #[x, y, z]] W (fun e W' => e = .returned (.bool r) ∧ After W W') := by
  obtain ⟨T1, x1, f1, y1, rfl, m1, n1, d1⟩ := h
  have hA := After.new W (.cells #[x, y, .iface T1 x1] 96)
  have hb := heap_new' W (.cells #[x, y, .iface T1 x1] 96)
  have c2 : (W.alloc (.cells #[x, y, .iface T1 x1] 96)).cell? ⟨W.heap.size, 2, none⟩ = some (.iface T1 x1) := cell_of_heap (i := 2) hb
  clear hb
  go_enter Tryz.func174, Tryz.ntmps174
  go_wp2_with fail
  refine (d1 _).mono ?_
  rintro e w1 ⟨rfl, ha⟩
  clear d1
  go_wp2_with fail
  go_ret
  exact ⟨rfl, hA.trans ha⟩

theorem joined_simple (W : World) (x y : Value) (r s : Bool) (h : SimOk x r) (g : SimOk y s) : Calls Tryz.prog 162 #[.agg #[x, y]] W (fun e W' => e = .returned (.bool (r && s)) ∧ After W W') := by
  obtain ⟨T1, x1, f1, y1, rfl, m1, n1, d1⟩ := h
  obtain ⟨T2, x2, f2, y2, rfl, m2, n2, d2⟩ := g
  have hA := After.new W (.cells #[.iface T1 x1, .iface T2 x2] 90)
  have hb := heap_new' W (.cells #[.iface T1 x1, .iface T2 x2] 90)
  have c0 : (W.alloc (.cells #[.iface T1 x1, .iface T2 x2] 90)).cell? ⟨W.heap.size, 0, none⟩ = some (.iface T1 x1) := cell_of_heap (i := 0) hb
  have HB := Lib.hid hb
  clear hb
  cases r with
  | false =>
    go_enter Tryz.func162, Tryz.ntmps162
    go_wp2_with fail
    refine (d1 _).mono ?_
    rintro e w1 ⟨rfl, ha⟩
    clear d1
    go_wp2_with fail
    go_ret
    exact ⟨rfl, hA.trans ha⟩
  | true =>
    rw [Bool.true_and]
    go_enter Tryz.func162, Tryz.ntmps162
    go_wp2_with fail
    refine (d1 _).mono ?_
    rintro e w1 ⟨rfl, ha⟩
    have c1 : w1.cell? ⟨W.heap.size, 1, none⟩ = some (.iface T2 x2) := cell_of_heap (i := 1) (ha.heap HB.out)
    clear d1 c0
    go_wp2_with fail
    refine (d2 _).mono ?_
    rintro e w2 ⟨rfl, hc⟩
    clear d2
    go_wp2_with fail
    go_ret
    exact ⟨rfl, (hA.trans ha).trans hc⟩

theorem FoV.simOk {w : World} {B : Nat} : ∀ {f : Fo} {v : Value}, FoV w B f v → SimOk v (Fm.simple f)
  | .top, _, h => ⟨_, _, 153, .agg #[], h, fun _ => by kernel_rfl, fun _ _ => by kernel_rfl, fun W => truth_simple W⟩
  | .bot, _, h => ⟨_, _, 186, .agg #[], h, fun _ => by kernel_rfl, fun _ _ => by kernel_rfl, fun W => falsity_simple W⟩
  | .eq _ _, _, ⟨x, y, h, _⟩ => ⟨_, _, 158, .agg #[x, y], h, fun _ => by kernel_rfl, fun _ _ => by kernel_rfl, fun W => equality_simple W x y⟩
  | .and f g, _, ⟨x, y, h, hf, hg⟩ => ⟨_, _, 162, .agg #[x, y], h, fun _ => by kernel_rfl, fun _ _ => by kernel_rfl, fun W => joined_simple W x y _ _ hf.simOk hg.simOk⟩
  | .or f g, _, ⟨x, y, h, hf, hg⟩ => ⟨_, _, 162, .agg #[x, y], h, fun _ => by kernel_rfl, fun _ _ => by kernel_rfl, fun W => joined_simple W x y _ _ hf.simOk hg.simOk⟩
  | .imp f g, _, ⟨x, y, h, _⟩ => ⟨_, _, 170, .agg #[x, y], h, fun _ => by kernel_rfl, fun _ _ => by kernel_rfl, fun W => implication_simple W x y⟩
  | .all x n f, _, ⟨y, h, _⟩ => ⟨_, _, 177, .agg #[str x, .int .i64 (n : Nat), y], h, fun _ => by kernel_rfl, fun _ _ => by kernel_rfl, fun W => universal_simple W _ _ y⟩
  | .ex x n f, _, ⟨y, h, hf⟩ => ⟨_, _, 174, .agg #[str x, .int .i64 (n : Nat), y], h, fun _ => by kernel_rfl, fun _ _ => by kernel_rfl, fun W => bound_simple W _ _ y _ hf.simOk⟩
end Go.Proofs.YtdjoafnohkmneaaGreatDoor

namespace Go.Proofs.YtdjoafnohkmneaaGreatDoor
open Go.RowKit

set_option maxHeartbeats 4000000
set_option maxRecDepth 100000

namespace Fm
def rdEq (l : List UInt8) (j n : Nat) : Option (Fo × Nat × Nat) :=
  (rdE l 61 j n).bind fun p => (sp l 32 p.2.1).bind fun j => (rdE l 61 j p.2.2).bind fun q => some (.eq p.1 q.1, q.2.1, q.2.2)
def rdJn (l w : List UInt8) (d r j n : Nat) : Option (Fo × Nat × Nat) :=
  (rdF l d r j n).bind fun p => (sp l 32 p.2.1).bind fun j => (rdF l d r j p.2.2).bind fun q =>
    if w = wImp ∧ simple p.1 = false then none else some (if w = wAnd then .and p.1 q.1 else if w = wOr then .or p.1 q.1 else .imp p.1 q.1, q.2.1, q.2.2)
def rdBd (l w : List UInt8) (d r j n : Nat) : Option (Fo × Nat × Nat) :=
  if 60 ≤ n ∨ Tm.nameOk (wd l j) = false then none else
  (sp l 32 (Tm.atomEnd l j)).bind fun k =>
  if 60 ≤ n + 1 then none else
  (numOf (wd l k) 1 6).bind fun m =>
  if 300 < r * m then none else
  (sp l 32 (Tm.atomEnd l k)).bind fun j' => (rdF l d (r * m) j' (n + 2)).bind fun p => some (if w = wAll then .all (wd l j) m p.1 else .ex (wd l j) m p.1, p.2.1, p.2.2)
def rdPt (l w : List UInt8) (d r j n : Nat) : Option (Fo × Nat × Nat) :=
  if w = wEq then rdEq l j n else if w = wAnd ∨ w = wOr ∨ w = wImp then rdJn l w d r j n else if w = wAll ∨ w = wEx then rdBd l w d r j n else none

theorem bind_sp {A : Type} {o : Option (A × Nat × Nat)} {l : List UInt8} {f : A → Fo} :
    (o.bind fun q => (sp l 41 q.2.1).map fun j => (f q.1, j, q.2.2)) = (o.bind fun q => some (f q.1, q.2.1, q.2.2)).bind fun p => (sp l 41 p.2.1).map fun j => (p.1, j, p.2.2) := by
  cases o <;> rfl

theorem rdF_succ (l : List UInt8) (d r i n : Nat) : rdF l (d + 1) r i n = if 60 ≤ n then none else if l[i]? = some 40 then
      (sp l 32 (Tm.atomEnd l (i + 1))).bind fun j => (rdPt l (wd l (i + 1)) d r j (n + 1)).bind fun p => (sp l 41 p.2.1).map fun j => (p.1, j, p.2.2)
    else if wd l i = wTop then some (.top, Tm.atomEnd l i, n + 1)
    else if wd l i = wBot then some (.bot, Tm.atomEnd l i, n + 1)
    else none := by
  rw [rdF]
  by_cases h60 : 60 ≤ n
  · rw [if_pos h60, if_pos h60]
  rw [if_neg h60, if_neg h60]
  by_cases h40 : l[i]? = some 40
  · rw [if_pos h40, if_pos h40]
    refine congrArg (Option.bind _) (funext fun j => ?_)
    unfold rdPt
    by_cases h1 : wd l (i + 1) = wEq
    · simp only [if_pos h1, rdEq]
      cases rdE l 61 j (n + 1) with
      | none => rfl
      | some p =>
        simp only [Option.bind_some]
        cases sp l 32 p.2.1 with
        | none => rfl
        | some j =>
          simp only [Option.bind_some]
          cases rdE l 61 j p.2.2 <;> rfl
    simp only [if_neg h1]
    by_cases h2 : wd l (i + 1) = wAnd ∨ wd l (i + 1) = wOr ∨ wd l (i + 1) = wImp
    · simp only [if_pos h2, rdJn]
      cases rdF l d r j (n + 1) with
      | none => rfl
      | some p =>
        simp only [Option.bind_some]
        cases sp l 32 p.2.1 with
        | none => rfl
        | some j =>
          simp only [Option.bind_some]
          cases rdF l d r j p.2.2 with
          | none => rfl
          | some q =>
            simp only [Option.bind_some]
            split <;> rfl
    simp only [if_neg h2]
    by_cases h3 : wd l (i + 1) = wAll ∨ wd l (i + 1) = wEx
    · simp only [if_pos h3, rdBd]
      split
      · rfl
      cases sp l 32 (Tm.atomEnd l j) with
      | none => rfl
      | some k =>
        simp only [Option.bind_some]
        rw [show n + 1 + 1 = n + 2 from rfl]
        split
        · rfl
        cases numOf (wd l k) 1 6 with
        | none => rfl
        | some m =>
          simp only [Option.bind_some]
          split
          · rfl
          cases sp l 32 (Tm.atomEnd l k) with
          | none => rfl
          | some j' =>
            simp only [Option.bind_some]
            rw [show n + 1 + 2 = n + 3 from rfl]
            cases rdF l d (r * m) j' (n + 3) <;> rfl
    simp only [if_neg h3]
    rfl
  · rw [if_neg h40, if_neg h40]

theorem pt_facts {l w : List UInt8} {d : Nat} (ih : ∀ r i n f j k, i ≤ l.length → rdF l d r i n = some (f, j, k) → j ≤ l.length ∧ n < k ∧ k ≤ 60) {r i n : Nat} {f : Fo} {j k : Nat} (hi : i ≤ l.length) (h : rdPt l w d r i n = some (f, j, k)) :
    j ≤ l.length ∧ n < k ∧ k ≤ 60 := by
  unfold rdPt at h
  split at h
  · simp only [rdEq, Option.bind_eq_some_iff, Option.some.injEq, Prod.mk.injEq] at h
    obtain ⟨⟨p, j1, k1⟩, h1, j2, h2, ⟨q, j3, k3⟩, h3, _, rfl, rfl⟩ := h
    obtain ⟨a1, a2, a3⟩ := rdE_facts _ _ _ _ _ _ _ hi h1
    obtain ⟨b1, b2, _⟩ := sp_lt h2
    obtain ⟨c1, c2, c3⟩ := rdE_facts _ _ _ _ _ _ _ b2 h3
    exact ⟨c1, by simp only at *; omega, c3⟩
  split at h
  · simp only [rdJn, Option.bind_eq_some_iff] at h
    obtain ⟨⟨p, j1, k1⟩, h1, j2, h2, ⟨q, j3, k3⟩, h3, h4⟩ := h
    obtain ⟨a1, a2, a3⟩ := ih _ _ _ _ _ _ hi h1
    obtain ⟨b1, b2, _⟩ := sp_lt h2
    obtain ⟨c1, c2, c3⟩ := ih _ _ _ _ _ _ b2 h3
    split at h4
    · cases h4
    simp only [Option.some.injEq, Prod.mk.injEq] at h4
    obtain ⟨_, rfl, rfl⟩ := h4
    exact ⟨c1, by simp only at *; omega, c3⟩
  split at h
  · unfold rdBd at h
    split at h
    · cases h
    rw [Option.bind_eq_some_iff] at h
    obtain ⟨j1, h1, h⟩ := h
    split at h
    · cases h
    rw [Option.bind_eq_some_iff] at h
    obtain ⟨m, h2, h⟩ := h
    split at h
    · cases h
    simp only [Option.bind_eq_some_iff, Option.some.injEq, Prod.mk.injEq] at h
    obtain ⟨j2, h3, ⟨p, j3, k3⟩, h4, _, rfl, rfl⟩ := h
    obtain ⟨b1, b2, _⟩ := sp_lt h3
    obtain ⟨c1, c2, c3⟩ := ih _ _ _ _ _ _ b2 h4
    exact ⟨c1, by simp only at *; omega, c3⟩
  · cases h

theorem rdF_facts (l : List UInt8) : ∀ d r i n f j k, i ≤ l.length → rdF l d r i n = some (f, j, k) → j ≤ l.length ∧ n < k ∧ k ≤ 60
  | 0, _, _, _, _, _, _, _, h => by simp [rdF] at h
  | d + 1, r, i, n, f, j, k, hi, h => by
    rw [rdF_succ] at h
    split at h
    · cases h
    split at h
    · simp only [Option.bind_eq_some_iff, Option.map_eq_some_iff, Prod.mk.injEq] at h
      obtain ⟨j1, h1, ⟨p, j2, k2⟩, h2, j3, h3, _, rfl, rfl⟩ := h
      obtain ⟨b1, b2, _⟩ := sp_lt h1
      obtain ⟨c1, c2, c3⟩ := pt_facts (rdF_facts l d) b2 h2
      obtain ⟨e1, e2, _⟩ := sp_lt h3
      exact ⟨e2, by simp only at *; omega, c3⟩
    · split at h
      · simp only [Option.some.injEq, Prod.mk.injEq] at h
        obtain ⟨_, rfl, rfl⟩ := h
        exact ⟨FT.atomEnd_le l i hi, by omega, by omega⟩
      · split at h
        · simp only [Option.some.injEq, Prod.mk.injEq] at h
          obtain ⟨_, rfl, rfl⟩ := h
          exact ⟨FT.atomEnd_le l i hi, by omega, by omega⟩
        · cases h
end Fm

theorem FoV.form {w : World} {B : Nat} {f : Fo} {v : Value} (h : FoV w B f v) : ∃ T x, v = .iface T x := by
  cases f with
  | top => exact ⟨_, _, h⟩
  | bot => exact ⟨_, _, h⟩
  | eq a b => obtain ⟨x, y, h, _⟩ := h; exact ⟨_, _, h⟩
  | and a b => obtain ⟨x, y, h, _⟩ := h; exact ⟨_, _, h⟩
  | or a b => obtain ⟨x, y, h, _⟩ := h; exact ⟨_, _, h⟩
  | imp a b => obtain ⟨x, y, h, _⟩ := h; exact ⟨_, _, h⟩
  | all x n f => obtain ⟨y, h, _⟩ := h; exact ⟨_, _, h⟩
  | ex x n f => obtain ⟨y, h, _⟩ := h; exact ⟨_, _, h⟩

/-- What readFormula hands back. -/
def FPost (w : World) (b : Nat) (l : List UInt8) (o : Option (Fo × Nat × Nat)) (e : Ending) (w' : World) : Prop :=
  ∃ v, e = .returned (.tuple #[v, .bool o.isSome]) ∧ w.grownBy w' (some b) ∧ (∀ f j k, o = some (f, j, k) → FoV w' w.heap.size f v ∧ MRd w' b l j k) ∧ Ifc v

theorem FPost.no {w w' : World} {b : Nat} {l : List UInt8} {o : Option (Fo × Nat × Nat)} (ho : o = none) (h : w.grownBy w' (some b)) (v : Value) (hv : Ifc v := by first | exact Or.inl rfl | exact Or.inr ⟨_, _, rfl⟩) :
    FPost w b l o (.returned (.tuple #[v, .bool false])) w' :=
  ⟨v, by rw [ho]; rfl, h, (fun _ _ _ h => by rw [ho] at h; cases h), hv⟩
theorem FPost.from {w w1 w' : World} {b : Nat} {l : List UInt8} {o : Option (Fo × Nat × Nat)} {e : Ending} (hg : w.grownBy w1 (some b)) (h : FPost w1 b l o e w') : FPost w b l o e w' := by
  obtain ⟨v, h1, h2, h3⟩ := h
  exact ⟨v, h1, grown_trans hg h2, fun ex j k h => ⟨(h3.1 ex j k h).1.less hg.size, (h3.1 ex j k h).2⟩, h3.2⟩
theorem FPost.leaf {w w' : World} {b j k : Nat} {l : List UInt8} {v : Value} {f : Fo} {o : Option (Fo × Nat × Nat)} (ho : o = some (f, j, k)) (hg : w.grownBy w' (some b)) (hv : FoV w' w.heap.size f v) (hm : MRd w' b l j k) : FPost w b l o (.returned (.tuple #[v, .bool true])) w' :=
  ⟨v, by rw [ho]; rfl, hg, (fun _ _ _ h => by rw [ho] at h; injection h with h; injection h with h1 h; injection h with h2 h3; subst h1 h2 h3; exact ⟨hv, hm⟩), Or.inr hv.form⟩

/-! ### readEquality -/

theorem eq_any (l : List UInt8) (hl : l.length ≤ 1000000000) (S : Nat) (w : World) (b i n : Nat) (h : MRd w b l i n) (hi : i ≤ l.length) (hn : n ≤ 60) (hS : LaidU w S) (hSb : S ≤ b) (hSw : S ≤ w.heap.size) :
    Calls Tryz.prog 76 #[.pointer (some ⟨b, 0, none⟩)] w (FPost w b l (Fm.rdEq l i n)) := by
  have hbl := h.lt
  have hexp := exp_any l hl S 61 w b i n h hi hn (by omega) hS hSb hSw
  unfold EPost at hexp
  unfold Fm.rdEq
  have HLS := Lib.hid hS
  clear h hS
  cases hr : Fm.rdE l 61 i n with
  | none =>
    rw [hr] at hexp
    clear hr
    go_enter Tryz.func76, Tryz.ntmps76
    go_wp2_with fail
    refine hexp.mono ?_
    rintro e w1 ⟨v, rfl, hg1, _⟩
    clear hexp
    go_wp2_with fail
    go_ret2
    exact FPost.no rfl hg1 _
  | some p =>
    obtain ⟨ex, j1, n1⟩ := p
    obtain ⟨f1, f2, f3⟩ := Fm.rdE_facts l _ _ _ _ _ _ hi hr
    rw [hr] at hexp
    clear hr
    simp only [Option.bind_some]
    by_cases h32 : l[j1]? = some 32
    · rw [show Fm.sp l 32 j1 = some (j1 + 1) by rw [Fm.sp, if_pos h32]]
      simp only [Option.bind_some]
      have hj2 : j1 + 1 ≤ l.length := (List.getElem?_eq_some_iff.1 h32).1
      obtain ⟨o2, ho2⟩ : ∃ o2, o2 = Fm.rdE l 61 (j1 + 1) n1 := ⟨_, rfl⟩
      rw [← ho2]
      have HO2 := Lib.hid ho2
      have H32 := Lib.hid h32
      clear ho2 h32
      go_enter Tryz.func76, Tryz.ntmps76
      go_wp2_with fail
      refine hexp.mono ?_
      rintro e w1 ⟨v, rfl, hg1, hv⟩
      obtain ⟨hev, hm1⟩ := hv.1 ex j1 n1 rfl
      have hsk := skipM w1 b j1 n1 l 32 32 rfl hm1 hl f1
      rw [decide_eq_true H32.out] at hsk
      obtain ⟨T1, x1, rfl⟩ := hev.form
      have HEV := Lib.hid hev
      clear hexp hv hev hm1
      go_wp2_with fail
      refine hsk.mono ?_
      rintro e w2 ⟨rfl, hg2, hm2⟩
      have hg12 := grown_trans hg1 hg2
      have hexp2 := exp_any l hl S 61 w2 b (j1 + 1) n1 hm2 hj2 f3 (by omega) (HLS.out.grown hg12 hSb hSw) hSb (by have := hg12.size; omega)
      rw [← HO2.out] at hexp2
      unfold EPost at hexp2
      have HEV2 := Lib.hid (HEV.out.grown hg2 hbl)
      clear hsk hm2 HEV
      go_wp2_with fail
      refine hexp2.mono ?_
      rintro e w3 ⟨v2, rfl, hg3, hv2, hi2⟩
      have HV2 := Lib.hid hv2
      clear hexp2 hv2
      cases o2 with
      | none =>
        rcases hi2 with rfl | ⟨T2, x2, rfl⟩
        all_goals
          go_wp2_with fail
          go_ret2
          exact FPost.no rfl (grown_trans hg12 hg3) _
      | some p =>
        obtain ⟨ex2, j3, n3⟩ := p
        obtain ⟨hev2, hm3⟩ := HV2.out ex2 j3 n3 rfl
        obtain ⟨T2, x2, rfl⟩ := hev2.form
        have hfin : FoV w3 w.heap.size (.eq ex ex2) (.iface 88 (.agg #[.iface T1 x1, .iface T2 x2])) :=
          ⟨_, _, rfl, HEV2.out.grown hg3 hbl, hev2.less hg12.size⟩
        have HFIN := Lib.hid hfin
        have HM3 := Lib.hid hm3
        clear hi2 hev2 hfin hm3
        go_wp2_with fail
        go_ret2
        exact FPost.leaf rfl (grown_trans hg12 hg3) HFIN.out HM3.out
    · rw [show Fm.sp l 32 j1 = none by rw [Fm.sp, if_neg h32]]
      have H32 := Lib.hid h32
      clear h32
      go_enter Tryz.func76, Tryz.ntmps76
      go_wp2_with fail
      refine hexp.mono ?_
      rintro e w1 ⟨v, rfl, hg1, hv⟩
      obtain ⟨hev, hm1⟩ := hv.1 ex j1 n1 rfl
      have hsk := skipM w1 b j1 n1 l 32 32 rfl hm1 hl f1
      rw [decide_eq_false H32.out] at hsk
      clear hexp hv hev hm1
      go_wp2_with fail
      refine hsk.mono ?_
      rintro e w2 ⟨rfl, hg2, _⟩
      clear hsk
      go_wp2_with fail
      go_ret2
      exact FPost.no rfl (grown_trans hg1 hg2) _
end Go.Proofs.YtdjoafnohkmneaaGreatDoor

namespace Go.Proofs.YtdjoafnohkmneaaGreatDoor
open Go.RowKit

set_option maxHeartbeats 4000000
set_option maxRecDepth 100000

/-- readFormula reads so deep. -/
def FoIH (l : List UInt8) (S d : Nat) : Prop := ∀ (w : World) (b i n r : Nat), MRd w b l i n → i ≤ l.length → n ≤ 60 → 61 ≤ n + d → r ≤ 300 → LaidU w S → S ≤ b → S ≤ w.heap.size →
  Calls Tryz.prog 53 #[.pointer (some ⟨b, 0, none⟩), .int .i64 (r : Nat)] w (FPost w b l (Fm.rdF l d r i n))

theorem jn_any (l s : List UInt8) (hl : l.length ≤ 1000000000) (S d : Nat) (ih : FoIH l S d) (hs : s = [97, 110, 100] ∨ s = [111, 114] ∨ s = [105, 109, 112])
    (w : World) (b i n r : Nat) (h : MRd w b l i n) (hi : i ≤ l.length) (hn : n ≤ 60) (hd : 61 ≤ n + d) (hr3 : r ≤ 300) (hS : LaidU w S) (hSb : S ≤ b) (hSw : S ≤ w.heap.size) :
    Calls Tryz.prog 77 #[.pointer (some ⟨b, 0, none⟩), str s, .int .i64 (r : Nat)] w (FPost w b l (Fm.rdJn l s d r i n)) := by
  have hbl := h.lt
  have hfo := ih w b i n r h hi hn hd hr3 hS hSb hSw
  unfold FPost at hfo
  obtain ⟨o, ho⟩ : ∃ o, o = Fm.rdJn l s d r i n := ⟨_, rfl⟩
  rw [← ho]
  unfold Fm.rdJn at ho
  have HLS := Lib.hid hS
  have HIH := Lib.hid ih
  clear h hS ih
  cases hr : Fm.rdF l d r i n with
  | none =>
    rw [hr] at hfo ho
    have HO := Lib.hid ho
    clear hr ho
    go_enter Tryz.func77, Tryz.ntmps77
    go_wp2_with fail
    refine hfo.mono ?_
    rintro e w1 ⟨v, rfl, hg1, _⟩
    clear hfo
    go_wp2_with fail
    go_ret2
    exact FPost.no HO.out hg1 _
  | some p =>
    obtain ⟨f1, j1, n1⟩ := p
    obtain ⟨q1, q2, q3⟩ := Fm.rdF_facts l _ _ _ _ _ _ _ hi hr
    rw [hr] at hfo ho
    clear hr
    simp only [Option.bind_some] at ho
    by_cases h32 : l[j1]? = some 32
    · rw [show Fm.sp l 32 j1 = some (j1 + 1) by rw [Fm.sp, if_pos h32]] at ho
      simp only [Option.bind_some] at ho
      have hj2 : j1 + 1 ≤ l.length := (List.getElem?_eq_some_iff.1 h32).1
      obtain ⟨o2, ho2⟩ : ∃ o2, o2 = Fm.rdF l d r (j1 + 1) n1 := ⟨_, rfl⟩
      rw [← ho2] at ho
      have HO := Lib.hid ho
      have HO2 := Lib.hid ho2
      have H32 := Lib.hid h32
      have HSW := Lib.hid hs
      clear ho2 h32 ho hs
      go_enter Tryz.func77, Tryz.ntmps77
      go_wp2_with fail
      refine hfo.mono ?_
      rintro e w1 ⟨v, rfl, hg1, hv⟩
      obtain ⟨hfv, hm1⟩ := hv.1 f1 j1 n1 rfl
      have hsk := skipM w1 b j1 n1 l 32 32 rfl hm1 hl q1
      rw [decide_eq_true H32.out] at hsk
      obtain ⟨T1, x1, f3, y3, rfl, m1, m2, m3⟩ := hfv.simOk
      have HFV := Lib.hid hfv
      have HM3' := Lib.hid m3
      have HM1' := Lib.hid m1
      have HM2' := Lib.hid m2
      clear hfo hv hfv hm1 m1 m2 m3
      go_wp2_with fail
      refine hsk.mono ?_
      rintro e w2 ⟨rfl, hg2, hm2⟩
      have hg12 := grown_trans hg1 hg2
      have hfo2 := HIH.out w2 b (j1 + 1) n1 r hm2 hj2 q3 (by omega) hr3 (HLS.out.grown hg12 hSb hSw) hSb (by have := hg12.size; omega)
      rw [← HO2.out] at hfo2
      unfold FPost at hfo2
      have HFV2 := Lib.hid (HFV.out.grown hg2 hbl)
      clear hsk hm2 HFV
      go_wp2_with fail
      refine hfo2.mono ?_
      rintro e w3 ⟨v2, rfl, hg3, hv2, hi2⟩
      have HV2 := Lib.hid hv2
      clear hfo2 hv2
      cases o2 with
      | none =>
        clear hi2
        go_wp2_with fail
        go_ret2
        exact FPost.no (by rw [HO.out]; rfl) (grown_trans hg12 hg3) _
      | some p =>
        obtain ⟨f2, j3, n3⟩ := p
        obtain ⟨hfv2, hm3⟩ := HV2.out f2 j3 n3 rfl
        obtain ⟨T2, x2, rfl⟩ := hfv2.form
        have hA := After.new w3 (.cells #[.iface T1 x1, .iface T2 x2] 90)
        have hbx := heap_new' w3 (.cells #[.iface T1 x1, .iface T2 x2] 90)
        have c0 : (w3.alloc (.cells #[.iface T1 x1, .iface T2 x2] 90)).cell? ⟨w3.heap.size, 0, none⟩ = some (.iface T1 x1) := cell_of_heap (i := 0) hbx
        have c1 : (w3.alloc (.cells #[.iface T1 x1, .iface T2 x2] 90)).cell? ⟨w3.heap.size, 1, none⟩ = some (.iface T2 x2) := cell_of_heap (i := 1) hbx
        have HBX := Lib.hid hbx
        have hgA := grown_trans (grown_trans hg12 hg3) (after_grown b hA)
        have HA1 := Lib.hid ((HFV2.out.grown hg3 hbl).after hA)
        have HA2 := Lib.hid ((hfv2.after hA).less hg12.size)
        have HM3 := Lib.hid (hm3.after hA)
        clear hi2 hfv2 hm3 hA hbx HFV2
        rcases HSW.out with hs | hs | hs
        · subst hs
          go_wp2_with fail
          go_ret2
          exact FPost.leaf (v := .iface 92 (.agg #[.iface T1 x1, .iface T2 x2])) (f := .and f1 f2) HO.out hgA ⟨_, _, rfl, HA1.out, HA2.out⟩ HM3.out
        · subst hs
          go_wp2_with fail
          go_ret2
          exact FPost.leaf (v := .iface 93 (.agg #[.iface T1 x1, .iface T2 x2])) (f := .or f1 f2) HO.out hgA ⟨_, _, rfl, HA1.out, HA2.out⟩ HM3.out
        · subst hs
          have m1 := HM1'.out
          have m2 := HM2'.out
          obtain ⟨sr, hsr⟩ : ∃ sr, sr = Fm.simple f1 := ⟨_, rfl⟩
          have m3 := HM3'.out
          rw [← hsr] at m3
          have HSR := Lib.hid hsr
          have HM4 := Lib.hid m3
          clear HM3' HM1' HM2' hsr m3
          go_wp2_with fail
          go_region_with (go_at_fn f3; refine (HM4.out _).mono ?_; rintro e w4 ⟨rfl, ha4⟩; have d0 : w4.cell? ⟨w3.heap.size, 0, none⟩ = some (.iface T1 x1) := cell_of_heap (i := 0) (ha4.heap (by exact HBX.out)); have d1 : w4.cell? ⟨w3.heap.size, 1, none⟩ = some (.iface T2 x2) := cell_of_heap (i := 1) (ha4.heap (by exact HBX.out)))
          all_goals
            go_wp2_with fail
            go_ret2
            have ha5 : After (w3.alloc (.cells #[.iface T1 x1, .iface T2 x2] 90)) w4 := by
              first
                | exact ha4
                | exact ((After.refl (w3.alloc (.cells #[.iface T1 x1, .iface T2 x2] 90))).drew).trans ha4
            have hO2 : o = if sr = false then none else some (.imp f1 f2, j3, n3) := by
              rw [HO.out]
              simp only [Option.bind_some]
              rw [← HSR.out]
              cases sr <;> simp [Fm.wImp, Fm.wAnd, Fm.wOr]
            have hg5 := grown_trans hgA (after_grown b ha5)
            cases sr with
            | false => exact FPost.no hO2 hg5 _
            | true => exact FPost.leaf (v := .iface 94 (.agg #[.iface T1 x1, .iface T2 x2])) (f := .imp f1 f2) hO2 hg5 ⟨_, _, rfl, HA1.out.after ha5, HA2.out.after ha5⟩ (HM3.out.after ha5)
    · rw [show Fm.sp l 32 j1 = none by rw [Fm.sp, if_neg h32]] at ho
      have HO := Lib.hid ho
      have H32 := Lib.hid h32
      clear h32 ho
      go_enter Tryz.func77, Tryz.ntmps77
      go_wp2_with fail
      refine hfo.mono ?_
      rintro e w1 ⟨v, rfl, hg1, hv⟩
      obtain ⟨hfv, hm1⟩ := hv.1 f1 j1 n1 rfl
      have hsk := skipM w1 b j1 n1 l 32 32 rfl hm1 hl q1
      rw [decide_eq_false H32.out] at hsk
      clear hfo hv hfv hm1
      go_wp2_with fail
      refine hsk.mono ?_
      rintro e w2 ⟨rfl, hg2, _⟩
      clear hsk
      go_wp2_with fail
      go_ret2
      exact FPost.no HO.out (grown_trans hg1 hg2) _
end Go.Proofs.YtdjoafnohkmneaaGreatDoor

namespace Go.Proofs.YtdjoafnohkmneaaGreatDoor
open Go.RowKit

set_option maxHeartbeats 4000000
set_option maxRecDepth 100000

theorem wd_len (l : List UInt8) (i : Nat) : (Fm.wd l i).length ≤ l.length := by unfold Fm.wd FT.sl; simp; omega

theorem mul_r {r m : Nat} (hr : r ≤ 300) (hm : m ≤ 6) : wrap64 ((r : Int) * (m : Int)) = ((r * m : Nat) : Int) := by
  have h : r * m ≤ 300 * 6 := Nat.mul_le_mul hr hm
  have e : ((r : Int) * (m : Int)) = ((r * m : Nat) : Int) := by simp
  rw [e]
  unfold wrap64
  omega

theorem bd_any (l s : List UInt8) (hl : l.length ≤ 1000000000) (S d : Nat) (ih : FoIH l S d) (hs : s = [97, 108, 108] ∨ s = [101, 120])
    (w : World) (b i n r : Nat) (h : MRd w b l i n) (hi : i ≤ l.length) (hn : n ≤ 60) (hd : 61 ≤ n + d) (hr3 : r ≤ 300) (hS : LaidU w S) (hSb : S ≤ b) (hSw : S ≤ w.heap.size) :
    Calls Tryz.prog 78 #[.pointer (some ⟨b, 0, none⟩), str s, .int .i64 (r : Nat)] w (FPost w b l (Fm.rdBd l s d r i n)) := by
  have hbl := h.lt
  have hatom := matom_any w b i n l h hl hi (by omega)
  unfold MAtom at hatom
  rw [show FT.sl l i (Tm.atomEnd l i) = Fm.wd l i from rfl] at hatom
  obtain ⟨o, ho⟩ : ∃ o, o = Fm.rdBd l s d r i n := ⟨_, rfl⟩
  rw [← ho]
  unfold Fm.rdBd at ho
  have ha1 := FT.atomEnd_le l i hi
  have hname := fun W => nameValid_any W (Fm.wd l i) (Nat.le_trans (wd_len l i) hl)
  have HLS := Lib.hid hS
  have HIH := Lib.hid ih
  clear h hS ih
  generalize Fm.wd l i = x at *
  generalize Tm.atomEnd l i = a1 at *
  generalize Tm.nameOk x = ok at *
  by_cases h60 : n + 1 ≤ 60
  · rw [decide_eq_true h60] at hatom
    cases ok with
    | false =>
      have HO : Hid (o = none) := by rw [ho, if_pos (Or.inr rfl)]; exact rfl
      clear ho
      go_enter Tryz.func78, Tryz.ntmps78
      go_wp2_with fail
      refine hatom.mono ?_
      rintro e w1 ⟨rfl, hg1, hm1⟩
      have hnm := hname w1
      clear hatom hname
      go_wp2_with fail
      refine hnm.mono ?_
      rintro e w2 ⟨rfl, rfl⟩
      clear hnm
      go_wp2_with fail
      go_ret2
      exact FPost.no HO.out hg1 _
    | true =>
      rw [if_neg (by rintro (h | h); omega; cases h)] at ho
      by_cases h32 : l[a1]? = some 32
      · have hj2 : a1 + 1 ≤ l.length := (List.getElem?_eq_some_iff.1 h32).1
        rw [show Fm.sp l 32 a1 = some (a1 + 1) by rw [Fm.sp, if_pos h32]] at ho
        simp only [Option.bind_some] at ho
        have H32 := Lib.hid h32
        have hwl := Nat.le_trans (wd_len l (a1 + 1)) hl
        have ha2 := FT.atomEnd_le l (a1 + 1) hj2
        have hatom2 := fun W (hW : MRd W b l (a1 + 1) (n + 1)) => matom_any W b (a1 + 1) (n + 1) l hW hl hj2 (by omega)
        unfold MAtom at hatom2
        rw [show FT.sl l (a1 + 1) (Tm.atomEnd l (a1 + 1)) = Fm.wd l (a1 + 1) from rfl] at hatom2
        have hnum := fun W hW => readNumber_any W (Fm.wd l (a1 + 1)) 1 6 hwl (by omega) hW
        unfold NumPost at hnum
        clear hwl
        generalize Fm.wd l (a1 + 1) = y at *
        generalize Tm.atomEnd l (a1 + 1) = a2 at *
        obtain ⟨on, hon⟩ : ∃ on, on = Fm.numOf y 1 6 := ⟨_, rfl⟩
        rw [← hon] at ho hnum
        have hle : ∀ m, on = some m → m ≤ 6 := fun m h => numOf_le (hon.symm.trans h)
        clear hon
        have HATOM2 := Lib.hid hatom2
        have HNUM := Lib.hid hnum
        clear h32 hatom2 hnum
        by_cases h61 : n + 2 ≤ 60
        · rw [if_neg (by omega)] at ho
          cases on with
          | none =>
            have HO : Hid (o = none) := ho
            clear ho hle
            go_enter Tryz.func78, Tryz.ntmps78
            go_wp2_with fail
            refine hatom.mono ?_
            rintro e w1 ⟨rfl, hg1, hm1⟩
            have hnm := hname w1
            have hsk := skipM w1 b a1 (n + 1) l 32 32 rfl hm1 hl ha1
            rw [decide_eq_true H32.out] at hsk
            clear hatom hname hm1
            go_wp2_with fail
            refine hnm.mono ?_
            rintro e w2 ⟨rfl, rfl⟩
            clear hnm
            go_wp2_with fail
            refine hsk.mono ?_
            rintro e w2 ⟨rfl, hg2, hm2⟩
            have hat := HATOM2.out w2 hm2
            rw [decide_eq_true h61] at hat
            clear hsk hm2
            go_wp2_with fail
            refine hat.mono ?_
            rintro e w3 ⟨rfl, hg3, hm3⟩
            have hg123 := grown_trans (grown_trans hg1 hg2) hg3
            have hnr := HNUM.out w3 (HLS.out.grown hg123 hSb hSw).laid
            clear hat hm3
            go_wp2_with fail
            refine hnr.mono ?_
            rintro e w4 ⟨v, rfl, _, ha⟩
            clear hnr
            go_wp2_with fail
            go_ret2
            exact FPost.no HO.out (grown_trans hg123 (after_grown b ha)) _
          | some m =>
            have hm6 := hle m rfl
            have hmul := mul_r hr3 hm6
            simp only [Option.bind_some] at ho
            clear hle
            by_cases hbig : 300 < r * m
            · rw [if_pos hbig] at ho
              have HO : Hid (o = none) := ho
              have hbig' : (300 : Int) < ((r * m : Nat) : Int) := by omega
              clear ho
              go_enter Tryz.func78, Tryz.ntmps78
              go_wp2_with fail
              refine hatom.mono ?_
              rintro e w1 ⟨rfl, hg1, hm1⟩
              have hnm := hname w1
              have hsk := skipM w1 b a1 (n + 1) l 32 32 rfl hm1 hl ha1
              rw [decide_eq_true H32.out] at hsk
              clear hatom hname hm1
              go_wp2_with fail
              refine hnm.mono ?_
              rintro e w2 ⟨rfl, rfl⟩
              clear hnm
              go_wp2_with fail
              refine hsk.mono ?_
              rintro e w2 ⟨rfl, hg2, hm2⟩
              have hat := HATOM2.out w2 hm2
              rw [decide_eq_true h61] at hat
              clear hsk hm2
              go_wp2_with fail
              refine hat.mono ?_
              rintro e w3 ⟨rfl, hg3, hm3⟩
              have hg123 := grown_trans (grown_trans hg1 hg2) hg3
              have hnr := HNUM.out w3 (HLS.out.grown hg123 hSb hSw).laid
              clear hat hm3
              go_wp2_with fail
              refine hnr.mono ?_
              rintro e w4 ⟨v, rfl, hv, ha⟩
              obtain rfl := hv m rfl
              clear hnr hv
              go_wp2_with fail
              go_ret2
              exact FPost.no HO.out (grown_trans hg123 (after_grown b ha)) _
            · rw [if_neg hbig] at ho
              have hsm : ((r * m : Nat) : Int) ≤ 300 := by omega
              have hrm : r * m ≤ 300 := by omega
              by_cases h33 : l[a2]? = some 32
              · have hj3 : a2 + 1 ≤ l.length := (List.getElem?_eq_some_iff.1 h33).1
                rw [show Fm.sp l 32 a2 = some (a2 + 1) by rw [Fm.sp, if_pos h33]] at ho
                simp only [Option.bind_some] at ho
                obtain ⟨o2, ho2⟩ : ∃ o2, o2 = Fm.rdF l d (r * m) (a2 + 1) (n + 2) := ⟨_, rfl⟩
                rw [← ho2] at ho
                have HO := Lib.hid ho
                have HO2 := Lib.hid ho2
                have H33 := Lib.hid h33
                have HSW := Lib.hid hs
                clear ho ho2 h33 hs hbig
                go_enter Tryz.func78, Tryz.ntmps78
                go_wp2_with fail
                refine hatom.mono ?_
                rintro e w1 ⟨rfl, hg1, hm1⟩
                have hnm := hname w1
                have hsk := skipM w1 b a1 (n + 1) l 32 32 rfl hm1 hl ha1
                rw [decide_eq_true H32.out] at hsk
                clear hatom hname hm1
                go_wp2_with fail
                refine hnm.mono ?_
                rintro e w2 ⟨rfl, rfl⟩
                clear hnm
                go_wp2_with fail
                refine hsk.mono ?_
                rintro e w2 ⟨rfl, hg2, hm2⟩
                have hat := HATOM2.out w2 hm2
                rw [decide_eq_true h61] at hat
                clear hsk hm2
                go_wp2_with fail
                refine hat.mono ?_
                rintro e w3 ⟨rfl, hg3, hm3⟩
                have hg123 := grown_trans (grown_trans hg1 hg2) hg3
                have hnr := HNUM.out w3 (HLS.out.grown hg123 hSb hSw).laid
                have HM3 := Lib.hid hm3
                clear hat hm3
                go_wp2_with fail
                refine hnr.mono ?_
                rintro e w4 ⟨v, rfl, hv, ha⟩
                obtain rfl := hv m rfl
                have hg4 := grown_trans hg123 (after_grown b ha)
                have hm4 := HM3.out.after ha
                have hsk3 := skipM w4 b a2 (n + 2) l 32 32 rfl hm4 hl ha2
                rw [decide_eq_true H33.out] at hsk3
                clear hnr hv hm4
                go_wp2_with fail
                refine hsk3.mono ?_
                rintro e w5 ⟨rfl, hg5, hm5⟩
                have hg45 := grown_trans hg4 hg5
                have hfo := HIH.out w5 b (a2 + 1) (n + 2) (r * m) hm5 hj3 h61 (by omega) hrm (HLS.out.grown hg45 hSb hSw) hSb (by have := hg45.size; omega)
                rw [← HO2.out] at hfo
                unfold FPost at hfo
                clear hsk3 hm5
                go_wp2_with fail
                refine hfo.mono ?_
                rintro e w6 ⟨v2, rfl, hg6, hv2, _⟩
                have HV2 := Lib.hid hv2
                clear hfo hv2
                cases o2 with
                | none =>
                  go_wp2_with fail
                  go_ret2
                  exact FPost.no (by rw [HO.out]; rfl) (grown_trans hg45 hg6) _
                | some p =>
                  obtain ⟨f2, j3, n3⟩ := p
                  obtain ⟨hfv2, hm6'⟩ := HV2.out f2 j3 n3 rfl
                  obtain ⟨T2, x2, rfl⟩ := hfv2.form
                  have hA := After.new w6 (.cells #[str x, .int .i64 (m : Nat), .iface T2 x2] 96)
                  have hbx := heap_new' w6 (.cells #[str x, .int .i64 (m : Nat), .iface T2 x2] 96)
                  have c0 : (w6.alloc (.cells #[str x, .int .i64 (m : Nat), .iface T2 x2] 96)).cell? ⟨w6.heap.size, 0, none⟩ = some (str x) := cell_of_heap (i := 0) hbx
                  have c1 : (w6.alloc (.cells #[str x, .int .i64 (m : Nat), .iface T2 x2] 96)).cell? ⟨w6.heap.size, 1, none⟩ = some (.int .i64 (m : Nat)) := cell_of_heap (i := 1) hbx
                  have c2 : (w6.alloc (.cells #[str x, .int .i64 (m : Nat), .iface T2 x2] 96)).cell? ⟨w6.heap.size, 2, none⟩ = some (.iface T2 x2) := cell_of_heap (i := 2) hbx
                  have hgA := grown_trans (grown_trans hg45 hg6) (after_grown b hA)
                  have HA2 := Lib.hid ((hfv2.after hA).less hg45.size)
                  have HM6 := Lib.hid (hm6'.after hA)
                  clear hfv2 hm6' hA hbx
                  rcases HSW.out with hs | hs
                  · subst hs
                    go_wp2_with fail
                    go_ret2
                    exact FPost.leaf (v := .iface 98 (.agg #[str x, .int .i64 (m : Nat), .iface T2 x2])) (f := .all x m f2) HO.out hgA ⟨_, rfl, HA2.out⟩ HM6.out
                  · subst hs
                    go_wp2_with fail
                    go_ret2
                    exact FPost.leaf (v := .iface 102 (.agg #[str x, .int .i64 (m : Nat), .iface T2 x2])) (f := .ex x m f2) HO.out hgA ⟨_, rfl, HA2.out⟩ HM6.out
              · rw [show Fm.sp l 32 a2 = none by rw [Fm.sp, if_neg h33]] at ho
                have HO : Hid (o = none) := ho
                have H33 := Lib.hid h33
                clear ho h33
                go_enter Tryz.func78, Tryz.ntmps78
                go_wp2_with fail
                refine hatom.mono ?_
                rintro e w1 ⟨rfl, hg1, hm1⟩
                have hnm := hname w1
                have hsk := skipM w1 b a1 (n + 1) l 32 32 rfl hm1 hl ha1
                rw [decide_eq_true H32.out] at hsk
                clear hatom hname hm1
                go_wp2_with fail
                refine hnm.mono ?_
                rintro e w2 ⟨rfl, rfl⟩
                clear hnm
                go_wp2_with fail
                refine hsk.mono ?_
                rintro e w2 ⟨rfl, hg2, hm2⟩
                have hat := HATOM2.out w2 hm2
                rw [decide_eq_true h61] at hat
                clear hsk hm2
                go_wp2_with fail
                refine hat.mono ?_
                rintro e w3 ⟨rfl, hg3, hm3⟩
                have hg123 := grown_trans (grown_trans hg1 hg2) hg3
                have hnr := HNUM.out w3 (HLS.out.grown hg123 hSb hSw).laid
                have HM3 := Lib.hid hm3
                clear hat hm3
                go_wp2_with fail
                refine hnr.mono ?_
                rintro e w4 ⟨v, rfl, hv, ha⟩
                obtain rfl := hv m rfl
                have hg4 := grown_trans hg123 (after_grown b ha)
                have hm4 := HM3.out.after ha
                have hsk3 := skipM w4 b a2 (n + 2) l 32 32 rfl hm4 hl ha2
                rw [decide_eq_false H33.out] at hsk3
                clear hnr hv hm4
                go_wp2_with fail
                refine hsk3.mono ?_
                rintro e w5 ⟨rfl, hg5, _⟩
                clear hsk3
                go_wp2_with fail
                go_ret2
                exact FPost.no HO.out (grown_trans hg4 hg5) _
        · have HO : Hid (o = none) := by rw [ho, if_pos (by omega)]; exact rfl
          rw [if_pos (by omega)] at ho
          clear ho hle
          go_enter Tryz.func78, Tryz.ntmps78
          go_wp2_with fail
          refine hatom.mono ?_
          rintro e w1 ⟨rfl, hg1, hm1⟩
          have hnm := hname w1
          have hsk := skipM w1 b a1 (n + 1) l 32 32 rfl hm1 hl ha1
          rw [decide_eq_true H32.out] at hsk
          clear hatom hname hm1
          go_wp2_with fail
          refine hnm.mono ?_
          rintro e w2 ⟨rfl, rfl⟩
          clear hnm
          go_wp2_with fail
          refine hsk.mono ?_
          rintro e w2 ⟨rfl, hg2, hm2⟩
          have hat := HATOM2.out w2 hm2
          rw [decide_eq_false h61] at hat
          clear hsk hm2
          go_wp2_with fail
          refine hat.mono ?_
          rintro e w3 ⟨rfl, hg3, hm3⟩
          clear hat hm3
          go_wp2_with fail
          go_ret2
          exact FPost.no HO.out (grown_trans (grown_trans hg1 hg2) hg3) _
      · rw [show Fm.sp l 32 a1 = none by rw [Fm.sp, if_neg h32]] at ho
        have HO : Hid (o = none) := ho
        have H32 := Lib.hid h32
        clear ho h32
        go_enter Tryz.func78, Tryz.ntmps78
        go_wp2_with fail
        refine hatom.mono ?_
        rintro e w1 ⟨rfl, hg1, hm1⟩
        have hnm := hname w1
        have hsk := skipM w1 b a1 (n + 1) l 32 32 rfl hm1 hl ha1
        rw [decide_eq_false H32.out] at hsk
        clear hatom hname hm1
        go_wp2_with fail
        refine hnm.mono ?_
        rintro e w2 ⟨rfl, rfl⟩
        clear hnm
        go_wp2_with fail
        refine hsk.mono ?_
        rintro e w2 ⟨rfl, hg2, _⟩
        clear hsk
        go_wp2_with fail
        go_ret2
        exact FPost.no HO.out (grown_trans hg1 hg2) _
  · rw [decide_eq_false h60] at hatom
    have HO : Hid (o = none) := by rw [ho, if_pos (Or.inl (by omega))]; exact rfl
    clear ho hname
    go_enter Tryz.func78, Tryz.ntmps78
    go_wp2_with fail
    refine hatom.mono ?_
    rintro e w1 ⟨rfl, hg1, hm1⟩
    clear hatom
    go_wp2_with fail
    go_ret2
    exact FPost.no HO.out hg1 _
end Go.Proofs.YtdjoafnohkmneaaGreatDoor

namespace Go.Proofs.YtdjoafnohkmneaaGreatDoor
open Go.RowKit

set_option maxHeartbeats 4000000
set_option maxRecDepth 100000

theorem FPost.fwd {w : World} {b : Nat} {l : List UInt8} {o : Option (Fo × Nat × Nat)} {w1 : World} {v : Value} (hr : w.grownBy w1 (some b) ∧ (∀ f j k, o = some (f, j, k) → FoV w1 w.heap.size f v ∧ MRd w1 b l j k) ∧ Ifc v) :
    FPost w b l o (.returned (.tuple #[v, .bool o.isSome])) w1 := ⟨v, rfl, hr⟩

theorem pt_any (l s : List UInt8) (hl : l.length ≤ 1000000000) (S d : Nat) (ih : FoIH l S d)
    (w : World) (b i n r : Nat) (h : MRd w b l i n) (hi : i ≤ l.length) (hn : n ≤ 60) (hd : 61 ≤ n + d) (hr3 : r ≤ 300) (hS : LaidU w S) (hSb : S ≤ b) (hSw : S ≤ w.heap.size) :
    Calls Tryz.prog 70 #[.pointer (some ⟨b, 0, none⟩), str s, .int .i64 (r : Nat)] w (FPost w b l (Fm.rdPt l s d r i n)) := by
  unfold Fm.rdPt
  by_cases h1 : s = Fm.wEq
  · rw [if_pos h1]
    have hc := eq_any l hl S w b i n h hi hn hS hSb hSw
    generalize Fm.rdEq l i n = o at *
    unfold FPost at hc
    subst h1
    clear h hS ih
    go_enter Tryz.func70, Tryz.ntmps70
    go_wp2_with fail
    refine hc.mono ?_
    rintro e w1 ⟨v, rfl, hr⟩
    clear hc
    go_wp2_with fail
    go_ret2
    exact FPost.fwd hr
  rw [if_neg h1]
  by_cases h2 : s = Fm.wAnd ∨ s = Fm.wOr ∨ s = Fm.wImp
  · rw [if_pos h2]
    have hc := jn_any l s hl S d ih h2 w b i n r h hi hn hd hr3 hS hSb hSw
    generalize Fm.rdJn l s d r i n = o at *
    unfold FPost at hc
    clear h hS ih h1
    rcases h2 with h2 | h2 | h2
    all_goals
      subst h2
      go_enter Tryz.func70, Tryz.ntmps70
      go_wp2_with fail
      refine hc.mono ?_
      rintro e w1 ⟨v, rfl, hr⟩
      clear hc
      go_wp2_with fail
      go_ret2
      exact FPost.fwd hr
  rw [if_neg h2]
  by_cases h3 : s = Fm.wAll ∨ s = Fm.wEx
  · rw [if_pos h3]
    have hc := bd_any l s hl S d ih h3 w b i n r h hi hn hd hr3 hS hSb hSw
    generalize Fm.rdBd l s d r i n = o at *
    unfold FPost at hc
    clear h hS ih h1 h2
    rcases h3 with h3 | h3
    all_goals
      subst h3
      go_enter Tryz.func70, Tryz.ntmps70
      go_wp2_with fail
      refine hc.mono ?_
      rintro e w1 ⟨v, rfl, hr⟩
      clear hc
      go_wp2_with fail
      go_ret2
      exact FPost.fwd hr
  · rw [if_neg h3]
    have e1 : (s == [101, 113]) = false := beq_eq_false_iff_ne.2 h1
    have e2 : (s == [97, 110, 100]) = false := beq_eq_false_iff_ne.2 (fun h => h2 (Or.inl h))
    have e3 : (s == [111, 114]) = false := beq_eq_false_iff_ne.2 (fun h => h2 (Or.inr (Or.inl h)))
    have e4 : (s == [105, 109, 112]) = false := beq_eq_false_iff_ne.2 (fun h => h2 (Or.inr (Or.inr h)))
    have e5 : (s == [97, 108, 108]) = false := beq_eq_false_iff_ne.2 (fun h => h3 (Or.inl h))
    have e6 : (s == [101, 120]) = false := beq_eq_false_iff_ne.2 (fun h => h3 (Or.inr h))
    have hg : w.grownBy w (some b) := after_grown b (After.refl w)
    clear h hS ih h1 h2 h3
    go_enter Tryz.func70, Tryz.ntmps70
    go_wp2_with fail
    go_ret2
    exact FPost.no rfl hg _

theorem fo_step (l : List UInt8) (hl : l.length ≤ 1000000000) (S d : Nat) (ih : FoIH l S d) : FoIH l S (d + 1) := by
  intro w b i n r h hi hn hd hr3 hS hSb hSw
  have hbl := h.lt
  have hskip := skipM w b i n l 40 40 rfl h hl hi
  obtain ⟨o, ho⟩ : ∃ o, o = Fm.rdF l (d + 1) r i n := ⟨_, rfl⟩
  rw [← ho]
  rw [Fm.rdF_succ] at ho
  have HLS := Lib.hid hS
  clear h hS
  by_cases h40 : l[i]? = some 40
  · have hi1 : i + 1 ≤ l.length := (List.getElem?_eq_some_iff.1 h40).1
    rw [decide_eq_true h40] at hskip
    rw [if_pos h40] at ho
    have ha1 := FT.atomEnd_le l (i + 1) hi1
    have hatom := fun W (hW : MRd W b l (i + 1) n) => matom_any W b (i + 1) n l hW hl hi1 (by omega)
    unfold MAtom at hatom
    rw [show FT.sl l (i + 1) (Tm.atomEnd l (i + 1)) = Fm.wd l (i + 1) from rfl] at hatom
    generalize Fm.wd l (i + 1) = x at *
    generalize Tm.atomEnd l (i + 1) = a1 at *
    have HATOM := Lib.hid hatom
    clear hatom h40
    by_cases h60 : n + 1 ≤ 60
    · rw [if_neg (by omega)] at ho
      by_cases h32 : l[a1]? = some 32
      · have hj2 : a1 + 1 ≤ l.length := (List.getElem?_eq_some_iff.1 h32).1
        rw [show Fm.sp l 32 a1 = some (a1 + 1) by rw [Fm.sp, if_pos h32]] at ho
        simp only [Option.bind_some] at ho
        obtain ⟨o2, ho2⟩ : ∃ o2, o2 = Fm.rdPt l x d r (a1 + 1) (n + 1) := ⟨_, rfl⟩
        rw [← ho2] at ho
        have hfacts : ∀ f j k, o2 = some (f, j, k) → j ≤ l.length := fun f j k h => (Fm.pt_facts (Fm.rdF_facts l d) hj2 (ho2.symm.trans h)).1
        have HO := Lib.hid ho
        have HO2 := Lib.hid ho2
        have H32 := Lib.hid h32
        have HF := Lib.hid hfacts
        have HIH := Lib.hid ih
        clear ho ho2 h32 hfacts ih
        go_enter Tryz.func53, Tryz.ntmps53
        go_wp2_with fail
        refine hskip.mono ?_
        rintro e w1 ⟨rfl, hg1, hm1⟩
        have hatom := HATOM.out w1 hm1
        rw [decide_eq_true h60] at hatom
        clear hskip hm1
        go_wp2_with fail
        refine hatom.mono ?_
        rintro e w2 ⟨rfl, hg2, hm2⟩
        have hg12 := grown_trans hg1 hg2
        have hsk := skipM w2 b a1 (n + 1) l 32 32 rfl hm2 hl ha1
        rw [decide_eq_true H32.out] at hsk
        clear hatom hm2
        go_wp2_with fail
        refine hsk.mono ?_
        rintro e w3 ⟨rfl, hg3, hm3⟩
        have hg123 := grown_trans hg12 hg3
        have hpt := pt_any l x hl S d HIH.out w3 b (a1 + 1) (n + 1) r hm3 hj2 h60 (by omega) hr3 (HLS.out.grown hg123 hSb hSw) hSb (by have := hg123.size; omega)
        rw [← HO2.out] at hpt
        unfold FPost at hpt
        clear hsk hm3
        go_wp2_with fail
        refine hpt.mono ?_
        rintro e w4 ⟨v, rfl, hg4, hv, hif⟩
        have HV := Lib.hid hv
        have HIF := Lib.hid hif
        have hg1234 := grown_trans hg123 hg4
        clear hpt hv hif
        cases o2 with
        | none =>
          go_wp2_with fail
          go_ret2
          exact FPost.no (by rw [HO.out]; rfl) hg1234 _ HIF.out
        | some p =>
          obtain ⟨f, j3, n3⟩ := p
          obtain ⟨hfv, hm4⟩ := HV.out f j3 n3 rfl
          have hsk4 := skipM w4 b j3 n3 l 41 41 rfl hm4 hl (HF.out f j3 n3 rfl)
          have HFV := Lib.hid hfv
          by_cases h41 : l[j3]? = some 41
          · rw [decide_eq_true h41] at hsk4
            have HO3 : Hid (o = some (f, j3 + 1, n3)) := by rw [HO.out]; simp only [Option.bind_some, Fm.sp, if_pos h41]; exact rfl
            clear hfv hm4 h41
            go_wp2_with fail
            refine hsk4.mono ?_
            rintro e w5 ⟨rfl, hg5, hm5⟩
            have HM5 := Lib.hid hm5
            clear hsk4 hm5
            go_wp2_with fail
            go_ret2
            exact FPost.leaf HO3.out (grown_trans hg1234 hg5) ((HFV.out.less hg123.size).grown hg5 hbl) HM5.out
          · rw [decide_eq_false h41] at hsk4
            have HO3 : Hid (o = none) := by rw [HO.out]; simp only [Option.bind_some, Fm.sp, if_neg h41]; exact rfl
            clear hfv hm4 h41
            go_wp2_with fail
            refine hsk4.mono ?_
            rintro e w5 ⟨rfl, hg5, _⟩
            clear hsk4
            go_wp2_with fail
            go_ret2
            exact FPost.no HO3.out (grown_trans hg1234 hg5) _ HIF.out
      · rw [show Fm.sp l 32 a1 = none by rw [Fm.sp, if_neg h32]] at ho
        have HO : Hid (o = none) := ho
        have H32 := Lib.hid h32
        clear ho h32 ih
        go_enter Tryz.func53, Tryz.ntmps53
        go_wp2_with fail
        refine hskip.mono ?_
        rintro e w1 ⟨rfl, hg1, hm1⟩
        have hatom := HATOM.out w1 hm1
        rw [decide_eq_true h60] at hatom
        clear hskip hm1
        go_wp2_with fail
        refine hatom.mono ?_
        rintro e w2 ⟨rfl, hg2, hm2⟩
        have hg12 := grown_trans hg1 hg2
        have hsk := skipM w2 b a1 (n + 1) l 32 32 rfl hm2 hl ha1
        rw [decide_eq_false H32.out] at hsk
        clear hatom hm2
        go_wp2_with fail
        refine hsk.mono ?_
        rintro e w3 ⟨rfl, hg3, _⟩
        clear hsk
        go_wp2_with fail
        go_ret2
        exact FPost.no HO.out (grown_trans hg12 hg3) _
    · rw [if_pos (by omega)] at ho
      have HO : Hid (o = none) := ho
      clear ho ih
      go_enter Tryz.func53, Tryz.ntmps53
      go_wp2_with fail
      refine hskip.mono ?_
      rintro e w1 ⟨rfl, hg1, hm1⟩
      have hatom := HATOM.out w1 hm1
      rw [decide_eq_false h60] at hatom
      clear hskip hm1
      go_wp2_with fail
      refine hatom.mono ?_
      rintro e w2 ⟨rfl, hg2, _⟩
      clear hatom
      go_wp2_with fail
      go_ret2
      exact FPost.no HO.out (grown_trans hg1 hg2) _
  · rw [decide_eq_false h40] at hskip
    rw [if_neg h40] at ho
    have hatom := fun W (hW : MRd W b l i n) => matom_any W b i n l hW hl hi (by omega)
    unfold MAtom at hatom
    rw [show FT.sl l i (Tm.atomEnd l i) = Fm.wd l i from rfl] at hatom
    generalize Fm.wd l i = x at *
    generalize Tm.atomEnd l i = a1 at *
    have HATOM := Lib.hid hatom
    clear hatom h40 ih
    by_cases h60 : n + 1 ≤ 60
    · rw [if_neg (by omega)] at ho
      by_cases h1 : x = Fm.wTop
      · rw [if_pos h1] at ho
        have HO := Lib.hid ho
        clear ho
        subst h1
        go_enter Tryz.func53, Tryz.ntmps53
        go_wp2_with fail
        refine hskip.mono ?_
        rintro e w1 ⟨rfl, hg1, hm1⟩
        have hatom := HATOM.out w1 hm1
        rw [decide_eq_true h60] at hatom
        clear hskip hm1
        go_wp2_with fail
        refine hatom.mono ?_
        rintro e w2 ⟨rfl, hg2, hm2⟩
        have HM2 := Lib.hid hm2
        clear hatom hm2
        go_wp2_with fail
        go_ret2
        exact FPost.leaf (v := .iface 86 (.agg #[])) (f := .top) HO.out (grown_trans hg1 hg2) rfl HM2.out
      by_cases h2 : x = Fm.wBot
      · rw [if_neg h1, if_pos h2] at ho
        have HO := Lib.hid ho
        clear ho h1
        subst h2
        go_enter Tryz.func53, Tryz.ntmps53
        go_wp2_with fail
        refine hskip.mono ?_
        rintro e w1 ⟨rfl, hg1, hm1⟩
        have hatom := HATOM.out w1 hm1
        rw [decide_eq_true h60] at hatom
        clear hskip hm1
        go_wp2_with fail
        refine hatom.mono ?_
        rintro e w2 ⟨rfl, hg2, hm2⟩
        have HM2 := Lib.hid hm2
        clear hatom hm2
        go_wp2_with fail
        go_ret2
        exact FPost.leaf (v := .iface 107 (.agg #[])) (f := .bot) HO.out (grown_trans hg1 hg2) rfl HM2.out
      · rw [if_neg h1, if_neg h2] at ho
        have HO := Lib.hid ho
        have e1 : (x == [116, 111, 112]) = false := beq_eq_false_iff_ne.2 h1
        have e2 : (x == [98, 111, 116]) = false := beq_eq_false_iff_ne.2 h2
        clear ho h1 h2
        go_enter Tryz.func53, Tryz.ntmps53
        go_wp2_with fail
        refine hskip.mono ?_
        rintro e w1 ⟨rfl, hg1, hm1⟩
        have hatom := HATOM.out w1 hm1
        rw [decide_eq_true h60] at hatom
        clear hskip hm1
        go_wp2_with fail
        refine hatom.mono ?_
        rintro e w2 ⟨rfl, hg2, _⟩
        clear hatom
        go_wp2_with fail
        go_ret2
        exact FPost.no HO.out (grown_trans hg1 hg2) _
    · rw [if_pos (by omega)] at ho
      have HO : Hid (o = none) := ho
      clear ho
      go_enter Tryz.func53, Tryz.ntmps53
      go_wp2_with fail
      refine hskip.mono ?_
      rintro e w1 ⟨rfl, hg1, hm1⟩
      have hatom := HATOM.out w1 hm1
      rw [decide_eq_false h60] at hatom
      clear hskip hm1
      go_wp2_with fail
      refine hatom.mono ?_
      rintro e w2 ⟨rfl, hg2, _⟩
      clear hatom
      go_wp2_with fail
      go_ret2
      exact FPost.no HO.out (grown_trans hg1 hg2) _

theorem fo_any (l : List UInt8) (hl : l.length ≤ 1000000000) (S : Nat) : ∀ d, FoIH l S d
  | 0 => fun _ _ _ _ _ _ _ h1 h2 => by omega
  | d + 1 => fo_step l hl S d (fo_any l hl S d)
end Go.Proofs.YtdjoafnohkmneaaGreatDoor

namespace Go.Proofs.YtdjoafnohkmneaaGreatDoor
open Go.RowKit

set_option maxHeartbeats 4000000
set_option maxRecDepth 100000

def RFPost (w : World) (o : Option Fo) (e : Ending) (w' : World) : Prop :=
  ∃ v, e = .returned (.tuple #[v, .bool o.isSome]) ∧ After w w' ∧ (∀ f, o = some f → FoV w' w.heap.size f v) ∧ Ifc v

theorem readFormula_any (w : World) (l : List UInt8) (hl : l.length ≤ 1000000000) (hS : LaidS w) :
    Calls Tryz.prog 29 #[str l] w (RFPost w (Fm.parse l)) := by
  obtain ⟨W1, hW1⟩ : ∃ W1, W1 = w.alloc (.cells #[str l, .int .i64 0, .int .i64 0] 76 (0, 0)) := ⟨_, rfl⟩
  have h1 : MRd W1 w.heap.size l 0 0 := by rw [hW1]; exact heap_top _ _
  have hA : After w W1 := by rw [hW1]; exact After.new _ _
  have hg : ∀ w', W1.grownBy w' (some w.heap.size) → After w w' := fun w' h => by rw [hW1] at h; exact after_own2 h
  have hL : LaidU W1 w.heap.size := fun W hs hb => hS.upto W (Nat.le_trans hA.size hs) fun b hb' => (hb b hb').trans (hA.block b hb')
  have k1 := fo_any l hl w.heap.size 61 W1 w.heap.size 0 0 1 h1 (Nat.zero_le _) (by omega) (by omega) (by omega) hL (Nat.le_refl _) hA.size
  obtain ⟨o, ho⟩ : ∃ o, o = Fm.rdF l 61 1 0 0 := ⟨_, rfl⟩
  have hf : ∀ f j k, o = some (f, j, k) → j ≤ l.length := fun f j k h => (Fm.rdF_facts l _ _ _ _ _ _ _ (Nat.zero_le _) (ho.symm.trans h)).1
  obtain ⟨R, hR⟩ : ∃ R, R = Fm.parse l := ⟨_, rfl⟩
  rw [← hR]
  unfold Fm.parse at hR
  rw [← ho] at k1 hR
  unfold FPost at k1
  have HW1 := Lib.hid hW1
  have HG := Lib.hid hg
  have HA := Lib.hid hA
  have HR := Lib.hid hR
  have HF := Lib.hid hf
  clear hW1 h1 hA hg hL hR hf ho hS
  cases o with
  | none =>
    go_enter Tryz.func29, Tryz.ntmps29
    go_wp2_with fail
    rw [← HW1.out]
    refine k1.mono ?_
    rintro e w2 ⟨v, rfl, g2, _, hi⟩
    have HI := Lib.hid hi
    clear k1 hi
    go_wp2_with fail
    go_ret2
    exact ⟨v, by rw [HR.out]; rfl, HG.out _ g2, (fun f h => by rw [HR.out] at h; cases h), HI.out⟩
  | some p =>
    obtain ⟨f, j, k⟩ := p
    have hR2 : R = if j = l.length then some f else none := HR.out
    have HR2 := Lib.hid hR2
    go_enter Tryz.func29, Tryz.ntmps29
    clear hR2
    go_wp2_with fail
    rw [← HW1.out]
    refine k1.mono ?_
    rintro e w2 ⟨v, rfl, g2, hv, hi⟩
    obtain ⟨hfv, hm⟩ := hv f j k rfl
    have k2 := ended_any w2 w.heap.size j l (cell_of_heap (i := 0) hm) (cell_of_heap (i := 1) hm) hl
    have HI := Lib.hid hi
    have HFV := Lib.hid hfv
    obtain ⟨r, hr⟩ : ∃ r, r = decide (j = l.length) := ⟨_, rfl⟩
    rw [← hr] at k2
    have HRR := Lib.hid hr
    clear k1 hi hv hfv hm hr
    go_wp2_with (go_at_call 54; refine k2.mono ?_; rintro e w3 ⟨rfl, q3, rfl⟩)
    go_ret2
    have hA2 := (HG.out _ g2).trans (below_drews (After.refl w2) q3)
    by_cases hj : j = l.length
    · have e : R = some f := by rw [HR2.out, if_pos hj]
      have e2 : r = true := by rw [HRR.out, decide_eq_true hj]
      subst e2
      rw [e]
      refine ⟨v, rfl, hA2, fun f' h => ?_, HI.out⟩
      obtain rfl := Option.some.inj h
      exact (HFV.out.less HA.out.size).after (below_drews (After.refl w2) _)
    · have e : R = none := by rw [HR2.out, if_neg hj]
      have e2 : r = false := by rw [HRR.out, decide_eq_false hj]
      subst e2
      rw [e]
      exact ⟨v, rfl, hA2, (fun f' h => by cases h), HI.out⟩

theorem impl_formulaValid (w : World) (l : List UInt8) (hl : l.length ≤ 1000000000) (hS : LaidS w) :
    Calls Tryz.prog 17 #[str l] w fun e w' => e = .returned (.bool (Fm.parse l).isSome) ∧ After w w' := by
  have k1 := readFormula_any w l hl hS
  generalize Fm.parse l = o at *
  unfold RFPost at k1
  clear hS
  go_enter Tryz.func17, Tryz.ntmps17
  go_wp2_with fail
  refine k1.mono ?_
  rintro e w2 ⟨v, rfl, hA, _, hi⟩
  clear k1
  go_wp2_with fail
  go_ret
  exact ⟨rfl, hA⟩
end Go.Proofs.YtdjoafnohkmneaaGreatDoor

namespace Go.Proofs.YtdjoafnohkmneaaGreatDoor
namespace Fm

def addN (ns : List (List UInt8)) (x : List UInt8) : List (List UInt8) := if x ∈ ns then ns else ns ++ [x]
def addA (ns l : List (List UInt8)) : List (List UInt8) := l.foldl addN ns

def occE : Ex → List (List UInt8)
  | .num _ => []
  | .var x => [x]
  | .suc e => occE e
  | .add a b => occE a ++ occE b
  | .mul a b => occE a ++ occE b
def occ : Fo → List (List UInt8)
  | .top => []
  | .bot => []
  | .eq a b => occE a ++ occE b
  | .and f g => occ f ++ occ g
  | .or f g => occ f ++ occ g
  | .imp f g => occ f ++ occ g
  | .all x _ f => (occ f).filter fun y => decide (y ≠ x)
  | .ex x _ f => (occ f).filter fun y => decide (y ≠ x)

theorem addA_app (ns a b : List (List UInt8)) : addA ns (a ++ b) = addA (addA ns a) b := List.foldl_append
theorem addA_one (ns : List (List UInt8)) (x : List UInt8) : addA ns [x] = addN ns x := rfl
theorem addA_nil (ns : List (List UInt8)) : addA ns [] = ns := rfl
theorem mem_addN (ns : List (List UInt8)) (x y : List UInt8) : y ∈ addN ns x ↔ y ∈ ns ∨ y = x := by
  unfold addN
  split
  · rename_i h
    constructor
    · exact Or.inl
    · rintro (h1 | rfl)
      · exact h1
      · exact h
  · simp
theorem mem_addA : ∀ (l ns : List (List UInt8)) (y : List UInt8), y ∈ addA ns l ↔ y ∈ ns ∨ y ∈ l
  | [], ns, y => by simp [addA]
  | x :: l, ns, y => by
    show y ∈ addA (addN ns x) l ↔ _
    rw [mem_addA l, mem_addN, List.mem_cons, or_assoc]
theorem addA_len : ∀ (l ns : List (List UInt8)), (addA ns l).length ≤ ns.length + l.length
  | [], ns => by simp [addA]
  | x :: l, ns => by
    show (addA (addN ns x) l).length ≤ _
    have := addA_len l (addN ns x)
    have h2 : (addN ns x).length ≤ ns.length + 1 := by unfold addN; split <;> simp
    simp only [List.length_cons]
    omega

theorem addN_old {ns : List (List UInt8)} {x : List UInt8} (h : x ∈ ns) : addN ns x = ns := if_pos h

theorem addA_filter (p : List UInt8 → Bool) (ns : List (List UInt8)) (l : List (List UInt8)) : addA ns ((addA [] l).filter p) = addA ns (l.filter p) := by
  have H : ∀ (n : Nat) (l : List (List UInt8)), l.length = n → addA ns ((addA [] l).filter p) = addA ns (l.filter p) := by
    intro n
    induction n with
    | zero => intro l h; rw [List.length_eq_zero_iff.1 h]; rfl
    | succ n ih =>
      intro l h
      have hne : l ≠ [] := fun e => by rw [e] at h; simp at h
      obtain ⟨m, y, rfl⟩ : ∃ m y, l = m ++ [y] := ⟨l.dropLast, l.getLast hne, (List.dropLast_concat_getLast hne).symm⟩
      have hm : m.length = n := by simp at h; omega
      have e := ih m hm
      rw [addA_app, addA_one, List.filter_append, addA_app, ← e]
      by_cases hy : y ∈ addA [] m
      · rw [addN_old hy]
        by_cases hp : p y = true
        · rw [show [y].filter p = [y] by simp [hp], addA_one, addN_old]
          rw [e, mem_addA]
          right
          rw [mem_addA] at hy
          rcases hy with hy | hy
          · simp at hy
          · exact List.mem_filter.2 ⟨hy, hp⟩
        · rw [show [y].filter p = [] by simp [hp], addA_nil]
      · rw [addN, if_neg hy, List.filter_append, addA_app]
  exact H _ l rfl

/-- What the program lists of a body and then leaves out. -/
theorem addA_body (ns : List (List UInt8)) (x : List UInt8) (f : Fo) : addA ns ((addA [] (occ f)).filter fun y => decide (y ≠ x)) = addA ns ((occ f).filter fun y => decide (y ≠ x)) := addA_filter _ _ _

def free (f : Fo) : List (List UInt8) := addA [] (occ f)
theorem free_nil (f : Fo) : free f = [] ↔ occ f = [] := by
  constructor
  · intro h
    cases ho : occ f with
    | nil => rfl
    | cons x l =>
      have : x ∈ free f := (mem_addA _ _ _).2 (Or.inr (by rw [ho]; simp))
      rw [h] at this
      simp at this
  · intro h
    unfold free
    rw [h]
    rfl

theorem occE_len : ∀ e : Ex, (occE e).length ≤ exAtoms e
  | .num _ => by simp [occE]
  | .var _ => by simp [occE, exAtoms]
  | .suc e => by have := occE_len e; simp only [occE, exAtoms]; omega
  | .add a b => by have := occE_len a; have := occE_len b; simp only [occE, exAtoms, List.length_append]; omega
  | .mul a b => by have := occE_len a; have := occE_len b; simp only [occE, exAtoms, List.length_append]; omega
theorem occ_len : ∀ f : Fo, (occ f).length ≤ atoms f
  | .top => by simp [occ]
  | .bot => by simp [occ]
  | .eq a b => by have := occE_len a; have := occE_len b; simp only [occ, atoms, List.length_append]; omega
  | .and f g => by have := occ_len f; have := occ_len g; simp only [occ, atoms, List.length_append]; omega
  | .or f g => by have := occ_len f; have := occ_len g; simp only [occ, atoms, List.length_append]; omega
  | .imp f g => by have := occ_len f; have := occ_len g; simp only [occ, atoms, List.length_append]; omega
  | .all x n f => by have := occ_len f; have := List.length_filter_le (fun y => decide (y ≠ x)) (occ f); simp only [occ, atoms]; omega
  | .ex x n f => by have := occ_len f; have := List.length_filter_le (fun y => decide (y ≠ x)) (occ f); simp only [occ, atoms]; omega

/-! ### with names that are bound around -/

def outOf (bd : List (List UInt8)) (l : List (List UInt8)) : List (List UInt8) := l.filter fun y => decide (y ∉ bd)
theorem outOf_nil (l : List (List UInt8)) : outOf [] l = l := by simp [outOf]
theorem outOf_app (bd a b : List (List UInt8)) : outOf bd (a ++ b) = outOf bd a ++ outOf bd b := by simp [outOf]
theorem outOf_bind (bd : List (List UInt8)) (x : List UInt8) (l : List (List UInt8)) : outOf (bd ++ [x]) l = outOf bd (l.filter fun y => decide (y ≠ x)) := by
  unfold outOf
  rw [List.filter_filter]
  congr 1
  funext y
  simp only [List.mem_append, List.mem_singleton, not_or, ne_eq]
  by_cases h1 : y ∈ bd <;> by_cases h2 : y = x <;> simp [h1, h2]
theorem outOf_one (bd : List (List UInt8)) (x : List UInt8) : outOf bd [x] = if x ∈ bd then [] else [x] := by
  unfold outOf
  by_cases h : x ∈ bd <;> simp [h]

theorem occE_ok : ∀ e : Ex, exOk e → ∀ y ∈ occE e, Tm.nameOk y = true
  | .num _, _ => by simp [occE]
  | .var x, h => by intro y hy; rw [occE, List.mem_singleton] at hy; rw [hy]; exact h
  | .suc e, h => occE_ok e h
  | .add a b, h => by intro y hy; rw [occE, List.mem_append] at hy; exact hy.elim (occE_ok a h.1 y) (occE_ok b h.2 y)
  | .mul a b, h => by intro y hy; rw [occE, List.mem_append] at hy; exact hy.elim (occE_ok a h.1 y) (occE_ok b h.2 y)
theorem occ_ok : ∀ f : Fo, okm f → ∀ y ∈ occ f, Tm.nameOk y = true
  | .top, _ => by simp [occ]
  | .bot, _ => by simp [occ]
  | .eq a b, h => by intro y hy; rw [occ, List.mem_append] at hy; exact hy.elim (occE_ok a h.1 y) (occE_ok b h.2 y)
  | .and f g, h => by intro y hy; rw [occ, List.mem_append] at hy; exact hy.elim (occ_ok f h.1 y) (occ_ok g h.2 y)
  | .or f g, h => by intro y hy; rw [occ, List.mem_append] at hy; exact hy.elim (occ_ok f h.1 y) (occ_ok g h.2 y)
  | .imp f g, h => by intro y hy; rw [occ, List.mem_append] at hy; exact hy.elim (occ_ok f h.1 y) (occ_ok g h.2.1 y)
  | .all x n f, h => by intro y hy; exact occ_ok f h.2.2.2 y (List.mem_filter.1 hy).1
  | .ex x n f, h => by intro y hy; exact occ_ok f h.2.2.2 y (List.mem_filter.1 hy).1

theorem mform_eq (l : List UInt8) : mform l = (parse l).map tree := by
  cases hp : parse l with
  | some f => exact (mform_iff l _).2 ⟨f, hp, rfl⟩
  | none =>
    cases hm : mform l with
    | none => rfl
    | some t =>
      obtain ⟨f, h, _⟩ := (mform_iff l t).1 hm
      rw [hp] at h
      cases h

/-- The closed formula of a text, as the model has it. -/
def mclosed (l : List UInt8) : Option SX := match parse l with
  | some f => if occ f = [] then some (tree f) else none
  | none => none
/-- The closed formula of a text, as the program has it. -/
def pclosed (l : List UInt8) : Option Fo := match parse l with
  | some f => if occ f = [] then some f else none
  | none => none
theorem mclosed_eq (l : List UInt8) : mclosed l = (pclosed l).map tree := by
  unfold mclosed pclosed
  cases parse l with
  | none => rfl
  | some f => by_cases h : occ f = [] <;> simp [h]
theorem closed_eq (l : List UInt8) : (mclosed l).isSome = (pclosed l).isSome := by rw [mclosed_eq]; cases pclosed l <;> rfl
theorem pclosed_iff {l : List UInt8} {f : Fo} : pclosed l = some f ↔ parse l = some f ∧ occ f = [] := by
  unfold pclosed
  cases parse l with
  | none => simp
  | some g =>
    by_cases h : occ g = []
    · simp only [h, if_true]
      constructor
      · intro e; obtain rfl := Option.some.inj e; exact ⟨rfl, h⟩
      · exact fun e => e.1
    · simp only [h, if_false]
      constructor
      · intro e; cases e
      · rintro ⟨e, h2⟩; obtain rfl := Option.some.inj e; exact absurd h2 h
theorem parse_okm {l : List UInt8} {f : Fo} (h : parse l = some f) : okm f ∧ atoms f ≤ 60 ∧ l = text f := by
  obtain ⟨hl, hok, hat⟩ := parse_iff.1 h
  exact ⟨((ok_iff f 1 (by omega) (by omega)).1 hok).1, hat, hl⟩
end Fm
end Go.Proofs.YtdjoafnohkmneaaGreatDoor

namespace Go.Proofs.YtdjoafnohkmneaaGreatDoor
open Go.RowKit

set_option maxHeartbeats 2000000
set_option maxRecDepth 100000

namespace Fm
def putE (x : List UInt8) (b : Ex) : Ex → Ex
  | .num n => .num n
  | .var y => if y = x then b else .var y
  | .suc e => .suc (putE x b e)
  | .add e f => .add (putE x b e) (putE x b f)
  | .mul e f => .mul (putE x b e) (putE x b f)
def putF (x : List UInt8) (b : Ex) : Fo → Fo
  | .top => .top
  | .bot => .bot
  | .eq e f => .eq (putE x b e) (putE x b f)
  | .and f g => .and (putF x b f) (putF x b g)
  | .or f g => .or (putF x b f) (putF x b g)
  | .imp f g => .imp (putF x b f) (putF x b g)
  | .all y n f => if x = y then .all y n f else .all y n (putF x b f)
  | .ex y n f => if x = y then .ex y n f else .ex y n (putF x b f)
end Fm

/-- What lies in blocks below N, and from S on below E. -/
def EVn (w : World) (N S E : Nat) (t : Ex) (v : Value) : Prop := ∀ w'' : World, (∀ k, (k < N ∨ (S ≤ k ∧ k < E)) → w''.heap[k]? = w.heap[k]?) → EV w'' 0 t v
def FVn (w : World) (N S E : Nat) (t : Fo) (v : Value) : Prop := ∀ w'' : World, (∀ k, (k < N ∨ (S ≤ k ∧ k < E)) → w''.heap[k]? = w.heap[k]?) → FoV w'' 0 t v
theorem EVn.ev {w : World} {N S E : Nat} {t : Ex} {v : Value} (h : EVn w N S E t v) : EV w 0 t v := h w fun _ _ => rfl
theorem FVn.fv {w : World} {N S E : Nat} {t : Fo} {v : Value} (h : FVn w N S E t v) : FoV w 0 t v := h w fun _ _ => rfl
theorem EVn.keep {w w' : World} {N S E S' E' : Nat} {t : Ex} {v : Value} (h : EVn w N S E t v) (hS : S' ≤ S) (hE : E ≤ E') (hk : ∀ k, (k < N ∨ (S ≤ k ∧ k < E)) → w'.heap[k]? = w.heap[k]?) : EVn w' N S' E' t v :=
  fun w'' h2 => h w'' fun k hkk => (h2 k (by omega)).trans (hk k hkk)
theorem FVn.keep {w w' : World} {N S E S' E' : Nat} {t : Fo} {v : Value} (h : FVn w N S E t v) (hS : S' ≤ S) (hE : E ≤ E') (hk : ∀ k, (k < N ∨ (S ≤ k ∧ k < E)) → w'.heap[k]? = w.heap[k]?) : FVn w' N S' E' t v :=
  fun w'' h2 => h w'' fun k hkk => (h2 k (by omega)).trans (hk k hkk)
theorem EVn.after {w w' : World} {N S S' : Nat} {t : Ex} {v : Value} (h : EVn w N S w.heap.size t v) (hS : S' ≤ S) (hN : N ≤ w.heap.size) (ha : After w w') : EVn w' N S' w'.heap.size t v :=
  h.keep hS ha.size fun k hk => ha.block k (by omega)
theorem FVn.after {w w' : World} {N S S' : Nat} {t : Fo} {v : Value} (h : FVn w N S w.heap.size t v) (hS : S' ≤ S) (hN : N ≤ w.heap.size) (ha : After w w') : FVn w' N S' w'.heap.size t v :=
  h.keep hS ha.size fun k hk => ha.block k (by omega)
/-- What lies in a world of N blocks. -/
theorem EV.old {w w' : World} {t : Ex} {v : Value} (h : EV w 0 t v) (ha : After w w') (S : Nat) : EVn w' w.heap.size S w'.heap.size t v := fun _ hk => h.move (Nat.le_refl _) fun b _ hl => (hk b (Or.inl hl)).trans (ha.block b hl)
theorem FoV.old {w w' : World} {t : Fo} {v : Value} (h : FoV w 0 t v) (ha : After w w') (S : Nat) : FVn w' w.heap.size S w'.heap.size t v := fun _ hk => h.move (Nat.le_refl _) fun b _ hl => (hk b (Or.inl hl)).trans (ha.block b hl)

def EPP (N : Nat) (W : World) (u : Ex) (e : Ending) (w' : World) : Prop := ∃ T y, e = .returned (.iface T y) ∧ After W w' ∧ EVn w' N W.heap.size w'.heap.size u (.iface T y)
def FPP (N : Nat) (W : World) (u : Fo) (e : Ending) (w' : World) : Prop := ∃ T y, e = .returned (.iface T y) ∧ After W w' ∧ FVn w' N W.heap.size w'.heap.size u (.iface T y)
/-- The value answers put: this expression comes of it. -/
def EPOk (w : World) (v : Value) (u : Ex) (name : List UInt8) (vb : Value) : Prop :=
  ∃ T x f y, v = .iface T x ∧ (∀ W, (method 335 T x "loop.example/realizers/impl.put").run Tryz.prog W = .ok (f, y) W) ∧ (∀ args w', (callFunc f args).run Tryz.prog w' = .ok (.enter f args) w') ∧
    ∀ W, After w W → Calls Tryz.prog f #[y, str name, vb] W (EPP w.heap.size W u)
def FPOk (w : World) (v : Value) (u : Fo) (name : List UInt8) (vb : Value) : Prop :=
  ∃ T x f y, v = .iface T x ∧ (∀ W, (method 335 T x "loop.example/realizers/impl.put").run Tryz.prog W = .ok (f, y) W) ∧ (∀ args w', (callFunc f args).run Tryz.prog w' = .ok (.enter f args) w') ∧
    ∀ W, After w W → Calls Tryz.prog f #[y, str name, vb] W (FPP w.heap.size W u)

theorem num_put (W : World) (n : Int) (p q : Value) : Calls Tryz.prog 144 #[.int .i64 n, p, q] W fun e w' => e = .returned (.iface 47 (.int .i64 n)) ∧ After W w' := by
  go_enter Tryz.func144, Tryz.ntmps144
  go_wp2_with fail
  go_ret
  exact ⟨rfl, by repeat (first | exact After.refl _ | refine After.alloc ?_ _)⟩
theorem top_put (W : World) (p q : Value) : Calls Tryz.prog 152 #[.agg #[], p, q] W fun e w' => e = .returned (.iface 86 (.agg #[])) ∧ After W w' := by
  go_enter Tryz.func152, Tryz.ntmps152
  go_wp2_with fail
  go_ret
  exact ⟨rfl, by repeat (first | exact After.refl _ | refine After.alloc ?_ _)⟩
theorem bot_put (W : World) (p q : Value) : Calls Tryz.prog 185 #[.agg #[], p, q] W fun e w' => e = .returned (.iface 107 (.agg #[])) ∧ After W w' := by
  go_enter Tryz.func185, Tryz.ntmps185
  go_wp2_with fail
  go_ret
  exact ⟨rfl, by repeat (first | exact After.refl _ | refine After.alloc ?_ _)⟩
theorem var_put (W : World) (x name : List UInt8) (q : Value) : Calls Tryz.prog 189 #[str x, str name, q] W fun e w' => e = .returned (if x = name then q else .iface 110 (str x)) ∧ After W w' := by
  by_cases h : x = name
  · subst h
    rw [if_pos rfl]
    go_enter Tryz.func189, Tryz.ntmps189
    go_wp2_with fail
    go_ret
    exact ⟨rfl, After.refl _⟩
  · have hb : (x == name) = false := beq_eq_false_iff_ne.2 h
    rw [if_neg h]
    clear h
    go_enter Tryz.func189, Tryz.ntmps189
    go_wp2_with fail
    go_ret
    exact ⟨rfl, After.refl _⟩
end Go.Proofs.YtdjoafnohkmneaaGreatDoor

namespace Go.Proofs.YtdjoafnohkmneaaGreatDoor

set_option maxRecDepth 100000

namespace Fm
def wordX : SX → List UInt8
  | .atom a => a
  | .node _ => []
/-- Whether the first part is the word all or ex. -/
def bindsX (ps : List SX) : Bool := match ps with
  | p :: _ => decide (wordX p = wAll ∨ wordX p = wEx)
  | [] => false
/-- What becomes of the part at an index behind the head. -/
def sputAt (f : SX → SX) (b : Bool) (i : Nat) (p : SX) : SX := if i = 0 then p else if i < 3 ∧ b = true then p else f p
def sput (x : List UInt8) (by' : SX) : Nat → SX → SX
  | 0, t => t
  | _ + 1, .atom a => if a = x then by' else .atom a
  | d + 1, .node ps => if bindsX ps = true ∧ (ps[1]?.map wordX).getD [] = x then .node ps else .node (ps.mapIdx (sputAt (sput x by' d) (bindsX ps)))

theorem name_no (x : List UInt8) (h : Tm.nameOk x = true) : x ≠ wTop ∧ x ≠ wBot ∧ ∀ m, m < 100 → dec m ≠ x := by
  refine ⟨?_, ?_, fun m hm e => ?_⟩
  · rintro rfl; revert h; decide
  · rintro rfl; revert h; decide
  · have := (dec_letters hm).2.1
    rw [e, h] at this
    cases this

theorem sput_ex (x : List UInt8) (n : Nat) (hx : Tm.nameOk x = true) : ∀ (e : Ex) (d : Nat), sxDepth (exTree e) < d → exOk e → sput x (.atom (dec n)) d (exTree e) = exTree (putE x (.num n) e)
  | .num m, d, hd, ho => by
    obtain ⟨d, rfl⟩ : ∃ d', d = d' + 1 := ⟨d - 1, by omega⟩
    have := (name_no x hx).2.2 m (by have : m ≤ 60 := ho; omega)
    simp [exTree, sput, putE, this]
  | .var y, d, hd, _ => by
    obtain ⟨d, rfl⟩ : ∃ d', d = d' + 1 := ⟨d - 1, by omega⟩
    simp only [exTree, sput, putE]
    split <;> rfl
  | .suc e, d, hd, ho => by
    obtain ⟨d, rfl⟩ : ∃ d', d = d' + 1 := ⟨d - 1, by omega⟩
    simp only [exTree, sxDepth, sxDepths] at hd
    have h1 := sput_ex x n hx e d (by omega) ho
    simp [exTree, sput, putE, bindsX, wordX, wSuc, wAll, wEx, sputAt, h1]
  | .add e f, d, hd, ho => by
    obtain ⟨d, rfl⟩ : ∃ d', d = d' + 1 := ⟨d - 1, by omega⟩
    simp only [exTree, sxDepth, sxDepths] at hd
    have h1 := sput_ex x n hx e d (by omega) ho.1
    have h2 := sput_ex x n hx f d (by omega) ho.2
    simp [exTree, sput, putE, bindsX, wordX, wAdd, wAll, wEx, sputAt, h1, h2]
  | .mul e f, d, hd, ho => by
    obtain ⟨d, rfl⟩ : ∃ d', d = d' + 1 := ⟨d - 1, by omega⟩
    simp only [exTree, sxDepth, sxDepths] at hd
    have h1 := sput_ex x n hx e d (by omega) ho.1
    have h2 := sput_ex x n hx f d (by omega) ho.2
    simp [exTree, sput, putE, bindsX, wordX, wMul, wAll, wEx, sputAt, h1, h2]

theorem sput_fo (x : List UInt8) (n : Nat) (hx : Tm.nameOk x = true) : ∀ (f : Fo) (d : Nat), sxDepth (tree f) < d → okm f → sput x (.atom (dec n)) d (tree f) = tree (putF x (.num n) f)
  | .top, d, hd, _ => by
    obtain ⟨d, rfl⟩ : ∃ d', d = d' + 1 := ⟨d - 1, by omega⟩
    simp [tree, sput, putF, Ne.symm (name_no x hx).1]
  | .bot, d, hd, _ => by
    obtain ⟨d, rfl⟩ : ∃ d', d = d' + 1 := ⟨d - 1, by omega⟩
    simp [tree, sput, putF, Ne.symm (name_no x hx).2.1]
  | .eq e f, d, hd, ho => by
    obtain ⟨d, rfl⟩ : ∃ d', d = d' + 1 := ⟨d - 1, by omega⟩
    simp only [tree, sxDepth, sxDepths] at hd
    have h1 := sput_ex x n hx e d (by omega) ho.1
    have h2 := sput_ex x n hx f d (by omega) ho.2
    simp [tree, sput, putF, bindsX, wordX, wEq, wAll, wEx, sputAt, h1, h2]
  | .and f g, d, hd, ho => by
    obtain ⟨d, rfl⟩ : ∃ d', d = d' + 1 := ⟨d - 1, by omega⟩
    simp only [tree, sxDepth, sxDepths] at hd
    have h1 := sput_fo x n hx f d (by omega) ho.1
    have h2 := sput_fo x n hx g d (by omega) ho.2
    simp [tree, sput, putF, bindsX, wordX, wAnd, wAll, wEx, sputAt, h1, h2]
  | .or f g, d, hd, ho => by
    obtain ⟨d, rfl⟩ : ∃ d', d = d' + 1 := ⟨d - 1, by omega⟩
    simp only [tree, sxDepth, sxDepths] at hd
    have h1 := sput_fo x n hx f d (by omega) ho.1
    have h2 := sput_fo x n hx g d (by omega) ho.2
    simp [tree, sput, putF, bindsX, wordX, wOr, wAll, wEx, sputAt, h1, h2]
  | .imp f g, d, hd, ho => by
    obtain ⟨d, rfl⟩ : ∃ d', d = d' + 1 := ⟨d - 1, by omega⟩
    simp only [tree, sxDepth, sxDepths] at hd
    have h1 := sput_fo x n hx f d (by omega) ho.1
    have h2 := sput_fo x n hx g d (by omega) ho.2.1
    simp [tree, sput, putF, bindsX, wordX, wImp, wAll, wEx, sputAt, h1, h2]
  | .all y m f, d, hd, ho => by
    obtain ⟨d, rfl⟩ : ∃ d', d = d' + 1 := ⟨d - 1, by omega⟩
    simp only [tree, sxDepth, sxDepths] at hd
    have h1 := sput_fo x n hx f d (by omega) ho.2.2.2
    by_cases hy : x = y
    · subst hy
      simp [tree, sput, putF, bindsX, wordX, wAll]
    · simp [tree, sput, putF, bindsX, wordX, wAll, sputAt, h1, hy, Ne.symm hy]
  | .ex y m f, d, hd, ho => by
    obtain ⟨d, rfl⟩ : ∃ d', d = d' + 1 := ⟨d - 1, by omega⟩
    simp only [tree, sxDepth, sxDepths] at hd
    have h1 := sput_fo x n hx f d (by omega) ho.2.2.2
    by_cases hy : x = y
    · subst hy
      simp [tree, sput, putF, bindsX, wordX, wEx]
    · simp [tree, sput, putF, bindsX, wordX, wEx, sputAt, h1, hy, Ne.symm hy]
end Fm
end Go.Proofs.YtdjoafnohkmneaaGreatDoor

namespace Go.Proofs.YtdjoafnohkmneaaGreatDoor
open Go.RowKit

set_option maxHeartbeats 2000000
set_option maxRecDepth 100000

/-- What lies in blocks below N, and from S on below E. -/
def SVn (w : World) (N S E : Nat) (t : SX) (v : Value) : Prop := ∀ w'' : World, (∀ k, (k < N ∨ (S ≤ k ∧ k < E)) → w''.heap[k]? = w.heap[k]?) → SV w'' 0 t v
theorem SVn.sv {w : World} {N S E : Nat} {t : SX} {v : Value} (h : SVn w N S E t v) : SV w 0 t v := h w fun _ _ => rfl
theorem SVn.keep {w w' : World} {N S E S' E' : Nat} {t : SX} {v : Value} (h : SVn w N S E t v) (hS : S' ≤ S) (hE : E ≤ E') (hk : ∀ k, (k < N ∨ (S ≤ k ∧ k < E)) → w'.heap[k]? = w.heap[k]?) : SVn w' N S' E' t v :=
  fun w'' h2 => h w'' fun k hkk => (h2 k (by omega)).trans (hk k hkk)
theorem SV.old {w w' : World} {t : SX} {v : Value} (h : SV w 0 t v) (ha : After w w') (S E : Nat) : SVn w' w.heap.size S E t v := fun _ hk => h.same fun b _ hl => (hk b (Or.inl hl)).trans (ha.block b hl)

def RowP (w : World) (N base base1 : Nat) (sv : Value) (ps : List SX) (xs : List Value) : Prop :=
  w.ownsRow base 35 2 sv ps.length xs ∧ ∀ j (h : j < ps.length), ∃ S E, base1 ≤ S ∧ E ≤ w.heap.size ∧ (∀ g, sv.ownBlock = some g → g < S ∨ E ≤ g) ∧ K2 (fun i => xs[i]?) j (SVn w N S E ps[j])

theorem RowP.grown {w w' : World} {N base base1 b : Nat} {sv : Value} {ps : List SX} {xs : List Value} (h : RowP w N base base1 sv ps xs) (hN : N ≤ b) (hNw : N ≤ w.heap.size) (hg : w.grownBy w' (some b)) (hb : b < base1) (hne : ∀ g, sv.ownBlock = some g → g ≠ b) : RowP w' N base base1 sv ps xs := by
  refine ⟨h.1.kept hg ?_, fun j hj => ?_⟩
  · cases hv : sv.ownBlock with
    | none => exact Or.inl rfl
    | some g => exact Or.inr (fun e => by injection e with e; exact hne g hv e)
  · obtain ⟨S, E, h2, h3, h4, h5⟩ := h.2 j hj
    exact ⟨S, E, h2, Nat.le_trans h3 hg.size, h4, h5.imp fun _ h => h.keep (Nat.le_refl _) (Nat.le_refl _) fun k hk => hg.block k (by omega) (fun e => by injection e with e; omega)⟩

theorem RowP.push {w w' : World} {N base base1 S : Nat} {sv v' x y : Value} {ps : List SX} {xs : List Value} {t : SX} (h : RowP w N base base1 sv ps xs) (hN : N ≤ base) (hNw : N ≤ w.heap.size) (hS : base1 ≤ S) (hgS : ∀ g, sv.ownBlock = some g → g < S) (ht : SVn w N S w.heap.size t (.agg #[x, y])) (o : Obj)
    (ho : w'.ownsRow base 35 2 v' (ps.length + 1) (xs ++ [x, y])) (hg : (w.alloc o).grownBy w' sv.ownBlock) (hw : v'.ownBlock = sv.ownBlock ∨ v'.ownBlock = some (w.alloc o).heap.size) :
    RowP w' N base base1 v' (ps ++ [t]) (xs ++ [x, y]) := by
  have hxl : xs.length = 2 * ps.length := by have := h.1.1; omega
  have hsz : (w.alloc o).heap.size = w.heap.size + 1 := by simp
  have hown : ∀ g, sv.ownBlock = some g → base ≤ g := fun g hg => (h.1.lt g hg).1
  have hkeep : ∀ k, k < w.heap.size → (∀ g, sv.ownBlock = some g → k ≠ g) → w'.heap[k]? = w.heap[k]? := fun k hk hne => by
    rw [hg.block k (by omega) (fun e => hne k e.symm rfl)]
    exact (below_new w o).block k hk
  refine ⟨by rw [List.length_append]; exact ho, fun j hj => ?_⟩
  by_cases hjl : j < ps.length
  · obtain ⟨S', E, h2, h3, h4, x1, y1, e1, e2, h5⟩ := h.2 j hjl
    refine ⟨S', E, h2, by have := hg.size; omega, fun g hg' => ?_, x1, y1, ?_, ?_, ?_⟩
    · rcases hw with hw | hw
      · exact h4 g (hw ▸ hg')
      · rw [hw] at hg'; injection hg' with hg'; right; omega
    · show (xs ++ [x, y])[2 * j]? = _
      rw [List.getElem?_append_left (by omega)]; exact e1
    · show (xs ++ [x, y])[2 * j + 1]? = _
      rw [List.getElem?_append_left (by omega)]; exact e2
    · rw [List.getElem_append_left hjl]
      exact h5.keep (Nat.le_refl _) (Nat.le_refl _) fun k hk => hkeep k (by omega) (fun g hg' e => by have := h4 g hg'; have := hown g hg'; omega)
  · have hj' : j = ps.length := by rw [List.length_append, List.length_singleton] at hj; omega
    subst hj'
    refine ⟨S, w.heap.size, hS, by have := hg.size; omega, fun g hg' => ?_, x, y, ?_, ?_, ?_⟩
    · rcases hw with hw | hw
      · exact Or.inl (hgS g (hw ▸ hg'))
      · rw [hw] at hg'; injection hg' with hg'; right; omega
    · show (xs ++ [x, y])[2 * ps.length]? = _
      rw [List.getElem?_append_right (by omega), hxl, Nat.sub_self]; rfl
    · show (xs ++ [x, y])[2 * ps.length + 1]? = _
      rw [List.getElem?_append_right (by omega), hxl, Nat.add_sub_cancel_left]; rfl
    · simp only [List.getElem_concat_length]
      exact ht.keep (Nat.le_refl _) (Nat.le_refl _) fun k hk => hkeep k (by omega) (fun g hg' e => by have := hgS g hg'; have := hown g hg'; omega)

/-- A node of the row's parts. -/
theorem RowP.node {w : World} {N base base1 : Nat} {sv : Value} {ps : List SX} {xs : List Value} (h : RowP w N base base1 sv ps xs) (h0 : 0 < ps.length) (hbb : base ≤ base1) : SVn w N base w.heap.size (.node ps) (.agg #[.string ⟨#[]⟩, sv]) := by
  obtain ⟨ho, hc⟩ := h
  rcases ho.2 with ⟨h1, h2⟩ | ⟨g, cap, cur, hv, hb, hh, hle, _, hcs, hct⟩
  · omega
  · intro w'' hk
    have hlt := (Array.getElem?_eq_some_iff.1 hh).1
    have hh' := (hk g (Or.inr ⟨hb, hlt⟩)).trans hh
    refine SV.mk (Or.inr ⟨g, cap, cur, _, by rintro rfl; simp at h0, hv, Nat.zero_le _, hh', fun j hj => ?_⟩) (by rintro rfl; simp at h0)
    obtain ⟨S, E, h2, h3, _, x, y, e1, e2, h5⟩ := hc j hj
    rw [← hct] at e1 e2
    simp only [List.getElem?_take] at e1 e2
    rw [if_pos (by omega)] at e1 e2
    exact ⟨x, y, by simpa using e1, by simpa using e2, (h5.keep (S' := base) (E' := w.heap.size) (by omega) h3 fun _ _ => rfl) w'' hk⟩
end Go.Proofs.YtdjoafnohkmneaaGreatDoor
