/-
  The program's values of expressions that have no names.
-/
import Derived.Test.YtdjoafnohkmneaaGreatDoorPkL
import Derived.Test.YtdjoafnohkmneaaGreatDoorPkE
import Derived.Test.YtdjoafnohkmneaaGreatDoorPkG
import Derived.Test.YtdjoafnohkmneaaGreatDoorPkK
namespace Go.Proofs.YtdjoafnohkmneaaGreatDoor
open Go.RowKit

set_option maxHeartbeats 4000000
set_option maxRecDepth 100000

/-- errors.errorType holds the type error. -/
def HandleS (w : World) : Prop := w.cell? ⟨0, 0, none⟩ = some (.iface 158 (.agg #[.pointer (some ⟨8, 59, none⟩)]))
theorem HandleS.after {w w' : World} (h : HandleS w) (ha : After w w') : HandleS w' := by
  unfold HandleS at *
  have hlt : 0 < w.heap.size := by
    rcases Nat.lt_or_ge 0 w.heap.size with h1 | h1
    · exact h1
    · simp [World.cell?, Array.getElem?_eq_none h1] at h
  rw [cell_aft ha hlt]
  exact h

def EVPost (W : World) (m : Nat) (e : Ending) (w' : World) : Prop :=
  After W w' ∧ ((m ≤ 1000000 ∧ e = .returned (.tuple #[.int .i64 m, .nilIface])) ∨
    (m = 1000001 ∧ ∃ (b : Nat) (s : List UInt8), e = .returned (.tuple #[.int .i64 0, .iface 125 (.pointer (some ⟨b, 0, none⟩))]) ∧ W.heap.size ≤ b ∧ w'.heap[b]? = some (.cells #[str s, .int .i64 1000000] 129 (0, 0))))
def EVOk (w : World) (v : Value) (m : Nat) : Prop :=
  ∃ T x f y, v = .iface T x ∧ (∀ W, (method 335 T x "loop.example/realizers/impl.value").run Tryz.prog W = .ok (f, y) W) ∧ (∀ args w', (callFunc f args).run Tryz.prog w' = .ok (.enter f args) w') ∧
    ∀ W, After w W → Calls Tryz.prog f #[y] W (EVPost W m)

theorem as_hit2 (e t : Addr) (old : Value) (w : World) (hg : HandleS w) (ht0 : w.cell? t = some old) (hf0 : w.frozen? t = false) :
    Calls Tryz.prog 82 #[.iface 125 (.pointer (some e)), .iface 127 (.pointer (some t))] w fun ev w' => ev = .returned (.bool true) ∧ w.grownBy w' (some t.block) ∧ w'.cell? t = some (.pointer (some e)) := by
  refine (as_hit e t old w hg ht0 hf0).mono ?_
  rintro ev w' ⟨rfl, rfl⟩
  obtain ⟨W4, hW4⟩ : ∃ W4, W4 = (((w.alloc (.cells #[.pointer (some t)] 127)).alloc (.cells #[.pointer (some ⟨8, 127, none⟩), .pointer (some ⟨w.heap.size, 0, none⟩), .int .u64 150] 135)).alloc (.cells #[.pointer (some ⟨8, 127, none⟩), .pointer (some ⟨w.heap.size, 0, none⟩), .int .u64 150] 135)).alloc (.cells #[.pointer (some e)] 125) := ⟨_, rfl⟩
  rw [← hW4]
  have hA : After w W4 := by rw [hW4]; exact ((((After.refl w).alloc _).alloc _).alloc _).alloc _
  have htl : t.block < w.heap.size := by
    rcases Nat.lt_or_ge t.block w.heap.size with h | h
    · exact h
    · simp [World.cell?, Array.getElem?_eq_none h] at ht0
  refine ⟨rfl, ⟨hA.os, hA.tape, hA.output, by simpa [World.setCell] using hA.size, fun k hk hne => ?_⟩, ?_⟩
  · have hne' : t.block ≠ k := fun e => hne (by rw [e])
    rw [← hA.block k hk]
    simp [World.setCell, Array.getElem?_modify, hne']
  · have ht4 : W4.cell? t = some old := by
      rw [← ht0]
      unfold World.cell?
      rw [hA.block t.block htl]
    exact World.cell?_setCell_same _ _ _ ht4

/-- What counts as the value. -/
theorem counted_any (w W : World) (v : Value) (m : Nat) (h : EVOk w v m) (hW : After w W) (hH : HandleS w) :
    Calls Tryz.prog 73 #[v] W fun e w' => e = .returned (.tuple #[.int .i64 m, .nilIface]) ∧ After W w' := by
  obtain ⟨T, x, f, y, rfl, m1, n1, d1⟩ := h
  have k1 := d1 W hW
  unfold EVPost at k1
  have HW := Lib.hid hW
  have HH := Lib.hid (hH.after hW)
  clear d1 hW hH
  go_enter Tryz.func73, Tryz.ntmps73
  go_wp2_with fail
  refine k1.mono ?_
  rintro e w2 ⟨ha2, h⟩
  have HA2 := Lib.hid ha2
  clear k1 ha2
  rcases h with ⟨hm, rfl⟩ | ⟨hm, b, s, rfl, hb, hh⟩
  · have HM := Lib.hid hm
    clear hm
    go_wp2_with fail
    refine (as_nil _ _).mono ?_
    rintro e w3 ⟨rfl, rfl⟩
    go_wp2_with fail
    go_ret2
    exact ⟨rfl, HA2.out.alloc _⟩
  · subst hm
    have HB := Lib.hid hb
    have hbl := (Array.getElem?_eq_some_iff.1 hh).1
    have hnew : (w2.alloc (.cells #[.pointer none] 125)).cell? ⟨w2.heap.size, 0, none⟩ = some (.pointer none) := cell_of_heap (i := 0) (heap_new' w2 _)
    have hfz : (w2.alloc (.cells #[.pointer none] 125)).frozen? ⟨w2.heap.size, 0, none⟩ = false := by unfold World.frozen?; rw [heap_new']; rfl
    have has := as_hit2 ⟨b, 0, none⟩ ⟨w2.heap.size, 0, none⟩ (.pointer none) _ (HH.out.after (HA2.out.alloc _)) hnew hfz
    have hh2 := (After.new w2 (.cells #[.pointer none] 125)).heap hh
    have HHB := Lib.hid hh2
    have HBL := Lib.hid hbl
    clear hb hh hnew hfz hh2 hbl
    go_wp2_with fail
    refine has.mono ?_
    rintro e w3 ⟨rfl, hg3, hc3⟩
    have hbb : w3.heap[b]? = some (.cells #[str s, .int .i64 1000000] 129 (0, 0)) := by
      rw [hg3.block b (by have := HBL.out; simp; omega) (fun e => by have := HBL.out; injection e with e; have e' : b = w2.heap.size := e; omega)]
      exact HHB.out
    have hb1 : w3.cell? ⟨b, 1, none⟩ = some (.int .i64 1000000) := cell_of_heap (i := 1) hbb
    have HG3 := Lib.hid hg3
    clear has hg3 hbb
    go_wp2_with fail
    go_ret2
    refine ⟨rfl, ?_⟩
    have h1 := HA2.out
    have h2 := HG3.out
    have hs := h1.size
    refine ⟨by rw [h2.os]; exact h1.os, by rw [h2.tape]; exact h1.tape, by rw [h2.output]; exact h1.output, by have := h2.size; simp at this; omega, fun j hj => ?_⟩
    rw [h2.block j (by simp; omega) (fun e => by injection e with e; have e' : j = w2.heap.size := e; omega), (below_new _ _).block j (by omega)]
    exact h1.block j hj

theorem num_value (W : World) (n : Nat) (hn : n ≤ 1000000) : Calls Tryz.prog 145 #[.int .i64 n] W (EVPost W n) := by
  have HN := Lib.hid hn
  clear hn
  go_enter Tryz.func145, Tryz.ntmps145
  go_wp2_with fail
  go_ret2
  exact ⟨by repeat (first | exact After.refl _ | refine After.alloc ?_ _), Or.inl ⟨HN.out, rfl⟩⟩

theorem row_aft {w w' : World} {base n size : Nat} {T : TypeId} {v : Value} {xs : List Value} (h : w.ownsRow base T size v n xs) (ha : After w w') : w'.ownsRow base T size v n xs := by
  refine h.kept (⟨ha.os, ha.tape, ha.output, ha.size, fun k hk _ => ha.block k hk⟩ : w.grownBy w' none) ?_
  cases hv : v.ownBlock with
  | none => exact Or.inl rfl
  | some g => exact Or.inr (by simp)
def intsV (ms : List Nat) : List Value := ms.map fun n => .int .i64 (n : Nat)
theorem ints_cell {w : World} {base g n c : Nat} {ms : List Nat} (h : w.ownsRow base 3 1 (.slice (some ⟨g, 0, none⟩) n c) n (intsV ms)) (j : Nat) (hj : j < ms.length) : w.cell? ⟨g, j, none⟩ = some (.int .i64 (ms.getD j 0 : Nat)) := by
  rcases h.2 with ⟨h1, _⟩ | ⟨g', cap, cur, hv, _, hg, hle, _, hcs, htake⟩
  · cases h1
  · simp only [Value.slice.injEq, Option.some.injEq, Addr.mk.injEq, and_true, true_and] at hv
    obtain ⟨rfl, rfl⟩ := hv
    have hl : (intsV ms).length = n * 1 := h.1
    have hml : ms.length = n := by simpa [intsV] using hl
    rw [cell_of_row w g j cur _ _ hg]
    have h2 : (cur.toList.take (n * 1))[j]? = (intsV ms)[j]? := by rw [htake]
    rw [List.getElem?_take, if_pos (by omega)] at h2
    have h3 : (intsV ms)[j]? = some (.int .i64 (ms.getD j 0 : Nat)) := by simp [intsV, hj, List.getD]
    rw [h3] at h2
    simpa using h2


theorem op_value_suc (w W : World) (b cap : Nat) (m0 : Nat) (h0 : m0 ≤ 1000001) (hW : After w W) (hH : HandleS w)
    (hx : ∀ j (h : j < ([m0] : List Nat).length), ∃ T x, W.cell? ⟨b, j, none⟩ = some (.iface T x) ∧ EVOk w (.iface T x) ([m0] : List Nat)[j]) :
    Calls Tryz.prog 194 #[.agg #[str Fm.wSuc, .slice (some ⟨b, 0, none⟩) 1 cap]] W (EVPost W (min 1000001 (m0 + 1))) := by
  obtain ⟨ms, hms⟩ : ∃ ms : List Nat, ms = [m0] := ⟨_, rfl⟩
  rw [← hms] at hx
  have hl : ms.length = 1 := by rw [hms]; rfl
  rw [show (.slice (some ⟨b, 0, none⟩) 1 cap : Value) = .slice (some ⟨b, 0, none⟩) ms.length cap by rw [hl]]
  have HL := Lib.hid hl
  obtain ⟨X, hX⟩ : ∃ X, X = W.alloc (.cells #[str Fm.wSuc, .slice (some ⟨b, 0, none⟩) ms.length cap] 123) := ⟨_, rfl⟩
  have hAX : After W X := by rw [hX]; exact After.new _ _
  have hXh : X.heap[W.heap.size]? = some (.cells #[str Fm.wSuc, .slice (some ⟨b, 0, none⟩) ms.length cap] 123 (0, 0)) := by rw [hX]; exact heap_new' _ _
  have p0 : ∀ V, After X V → V.cell? ⟨W.heap.size, 0, none⟩ = some (str Fm.wSuc) := fun V hV => cell_of_heap (i := 0) (hV.heap hXh)
  have p1 : X.cell? ⟨W.heap.size, 1, none⟩ = some (.slice (some ⟨b, 0, none⟩) ms.length cap) := cell_of_heap (i := 1) hXh
  have HW := Lib.hid hW
  have HX := Lib.hid hX
  have HAX := Lib.hid hAX
  have HXX := Lib.hid hx
  have HP0 := Lib.hid p0
  have HH := Lib.hid hH
  have HMS := Lib.hid hms
  have hl3 : ms.length ≤ 2 := by omega
  clear hXh hAX hx hW p0 hH hms hl
  unfold Fm.wSuc at *
  go_enter Tryz.func194, Tryz.ntmps194
  clear hX
  go_wp2_with fail
  try rw [← HX.out]
  go_loopw [4, 13] (fun p i wr => ∃ (k : Nat) (oa : Option Addr) (c : Nat), i = .int .i64 k ∧ p = .slice oa k c ∧ k ≤ ms.length ∧ After X wr ∧ Hid (wr.ownsRow X.heap.size 3 1 (.slice oa k c) k (intsV (ms.take k)))) (fun _ i _ => ms.length - (intOf i).toNat)
  case atStart => exact ⟨0, none, 0, rfl, rfl, Nat.zero_le _, After.refl _, Lib.hid ⟨rfl, Or.inl ⟨rfl, rfl⟩⟩⟩
  case round =>
    obtain ⟨k, oa, c, rfl, rfl, hk, hA, HR⟩ := hrel
    have HA := Lib.hid hA
    have q0 := HP0.out wr hA
    clear hA
    by_cases hlt : k < ms.length
    · have hlti : (k : Int) < (ms.length : Int) := by omega
      obtain ⟨T, z, hx0, hok⟩ := HXX.out k hlt
      have hx1 : wr.cell? ⟨b, k, none⟩ = some (.iface T z) := by
        have hbl : b < W.heap.size := by
          rcases Nat.lt_or_ge b W.heap.size with h1 | h1
          · exact h1
          · simp [World.cell?, Array.getElem?_eq_none h1] at hx0
        rw [cell_aft (HAX.out.trans HA.out) hbl]
        exact hx0
      have k1 := counted_any w wr _ _ hok ((HW.out.trans HAX.out).trans HA.out) HH.out
      have htk : ms.take (k + 1) = ms.take k ++ [ms[k]] := List.take_succ_eq_append_getElem hlt
      have HTK := Lib.hid htk
      generalize ms[k] = u at *
      generalize hps : ms.take k = ps at *
      have hk2 : k ≤ 2 := by omega
      clear hx0 hok q0 hps htk
      go_wp2_with fail
      refine k1.mono ?_
      rintro e w2 ⟨rfl, ha2⟩
      obtain ⟨i0, hi0, hz0, hz1, hz2⟩ : ∃ i, (Tryz.prog).info? 3 = some i ∧ i.zero = some (.int .i64 0) ∧ i.size = 1 ∧ i.bytes = 8 := ⟨_, rfl, rfl, rfl, rfl⟩
      have hun : Tryz.prog.underlying 220 = some (.slice 3) := by kernel_rfl
      have HA2 := Lib.hid ha2
      have hRow2 : w2.ownsRow X.heap.size 3 1 (.slice oa k c) k (intsV ps) := row_aft HR.out ha2
      have hHO := World.ownsRow.alloc hRow2 (.cells #[.int .i64 u] 3)
      have hb5 : X.heap.size ≤ (w2.alloc (.cells #[.int .i64 u] 3)).heap.size := by have := HA.out.size; have := ha2.size; simp; omega
      have HHO := Lib.hid hHO
      have HB5 := Lib.hid hb5
      clear k1 ha2 hRow2 hHO hb5
      go_wp2_with (at_builtin; refine Go.wpList_append_lies _ (by rfl) _ _ 220 (by rfl) X.heap.size 3 i0 (.int .i64 0) 1 8 hun hi0 hz0 hz1 hz2 rfl (by decide) _ _ _ (by rfl) HHO.out ⟨w2.heap.size, 0, none⟩ 1 1 [.int .i64 u] (by rfl) (by rfl) (World.news_of_block (heap_new' w2 _)) (by simp [Value.oneCell']) (by omega) (by unfold maxLen; omega) (by omega) HB5.out _ rfl ?_; intro g4 q4 w3 ho4 hg4 hw4 hlt4; have hAX3 : After X w3 := (HA.out.trans (HA2.out.alloc _)).grown hg4 (HA.out.trans (HA2.out.alloc _)).size (fun g hg => (HR.out.lt g hg).1); have HLA := Lib.hid hAX3; have HLR := Lib.hid ho4; clear hAX3 ho4 hg4 hw4)
      go_roundw
      case rel => exact ⟨k + 1, _, _, by go_num, rfl, by omega, HLA.out, Lib.hid (by rw [HTK.out]; simpa [intsV] using HLR.out)⟩
      case measure => simp [intOf]; omega
    · obtain rfl : k = ms.length := by omega
      have hR := HR.out
      rw [List.take_length] at hR
      obtain ⟨g, gc, hsl, hgb, hgl⟩ := hR.form (by have := HL.out; omega)
      simp only [Value.slice.injEq] at hsl
      obtain ⟨rfl, _, rfl⟩ := hsl
      have hc0 := ints_cell hR 0 (by have := HL.out; omega)
      rw [HMS.out] at hc0
      have hc0' : wr.cell? ⟨g, 0, none⟩ = some (.int .i64 (m0 : Nat)) := hc0
      have hli : (0 : Int) < (ms.length : Int) := by have := HL.out; omega

      have HA2 := HA
      clear hc0 hR hlt hk hl3
      obtain ⟨r, hr⟩ : ∃ r : Nat, r = m0 + 1 := ⟨_, rfl⟩
      rw [← hr]
      have HRR := Lib.hid hr
      by_cases hbig : 1000000 < r
      · have hb : (1000000 : Int) < (m0 : Int) + 1 := by omega
        have HBIG := Lib.hid hbig
        clear hbig hr
        go_wp2_with fail
        go_ret2
        have hrb := HBIG.out
        have hrr := HRR.out
        refine ⟨(HAX.out.trans HA.out).alloc _, Or.inr ⟨by omega, wr.heap.size, [97, 32, 118, 97, 108, 117, 101], rfl, (HAX.out.trans HA.out).size, heap_new' _ _⟩⟩
      · have hb : ¬ (1000000 : Int) < (m0 : Int) + 1 := by omega
        have HBIG := Lib.hid hbig
        clear hbig hr
        go_wp2_with fail
        go_ret2
        have hrb := HBIG.out
        have hrr := HRR.out
        refine ⟨HAX.out.trans HA.out, Or.inl ⟨by omega, ?_⟩⟩
        show Ending.returned (.tuple #[.int .i64 ((m0 : Int) + 1), .nilIface]) = _
        rw [show min 1000001 (m0 + 1) = m0 + 1 by omega]
        rfl

theorem op_value_add (w W : World) (b cap : Nat) (m0 m1 : Nat) (h0 : m0 ≤ 1000001) (h1 : m1 ≤ 1000001) (hW : After w W) (hH : HandleS w)
    (hx : ∀ j (h : j < ([m0, m1] : List Nat).length), ∃ T x, W.cell? ⟨b, j, none⟩ = some (.iface T x) ∧ EVOk w (.iface T x) ([m0, m1] : List Nat)[j]) :
    Calls Tryz.prog 194 #[.agg #[str Fm.wAdd, .slice (some ⟨b, 0, none⟩) 2 cap]] W (EVPost W (min 1000001 (m0 + m1))) := by
  obtain ⟨ms, hms⟩ : ∃ ms : List Nat, ms = [m0, m1] := ⟨_, rfl⟩
  rw [← hms] at hx
  have hl : ms.length = 2 := by rw [hms]; rfl
  rw [show (.slice (some ⟨b, 0, none⟩) 2 cap : Value) = .slice (some ⟨b, 0, none⟩) ms.length cap by rw [hl]]
  have HL := Lib.hid hl
  obtain ⟨X, hX⟩ : ∃ X, X = W.alloc (.cells #[str Fm.wAdd, .slice (some ⟨b, 0, none⟩) ms.length cap] 123) := ⟨_, rfl⟩
  have hAX : After W X := by rw [hX]; exact After.new _ _
  have hXh : X.heap[W.heap.size]? = some (.cells #[str Fm.wAdd, .slice (some ⟨b, 0, none⟩) ms.length cap] 123 (0, 0)) := by rw [hX]; exact heap_new' _ _
  have p0 : ∀ V, After X V → V.cell? ⟨W.heap.size, 0, none⟩ = some (str Fm.wAdd) := fun V hV => cell_of_heap (i := 0) (hV.heap hXh)
  have p1 : X.cell? ⟨W.heap.size, 1, none⟩ = some (.slice (some ⟨b, 0, none⟩) ms.length cap) := cell_of_heap (i := 1) hXh
  have HW := Lib.hid hW
  have HX := Lib.hid hX
  have HAX := Lib.hid hAX
  have HXX := Lib.hid hx
  have HP0 := Lib.hid p0
  have HH := Lib.hid hH
  have HMS := Lib.hid hms
  have hl3 : ms.length ≤ 2 := by omega
  clear hXh hAX hx hW p0 hH hms hl
  unfold Fm.wAdd at *
  go_enter Tryz.func194, Tryz.ntmps194
  clear hX
  go_wp2_with fail
  try rw [← HX.out]
  go_loopw [4, 13] (fun p i wr => ∃ (k : Nat) (oa : Option Addr) (c : Nat), i = .int .i64 k ∧ p = .slice oa k c ∧ k ≤ ms.length ∧ After X wr ∧ Hid (wr.ownsRow X.heap.size 3 1 (.slice oa k c) k (intsV (ms.take k)))) (fun _ i _ => ms.length - (intOf i).toNat)
  case atStart => exact ⟨0, none, 0, rfl, rfl, Nat.zero_le _, After.refl _, Lib.hid ⟨rfl, Or.inl ⟨rfl, rfl⟩⟩⟩
  case round =>
    obtain ⟨k, oa, c, rfl, rfl, hk, hA, HR⟩ := hrel
    have HA := Lib.hid hA
    have q0 := HP0.out wr hA
    clear hA
    by_cases hlt : k < ms.length
    · have hlti : (k : Int) < (ms.length : Int) := by omega
      obtain ⟨T, z, hx0, hok⟩ := HXX.out k hlt
      have hx1 : wr.cell? ⟨b, k, none⟩ = some (.iface T z) := by
        have hbl : b < W.heap.size := by
          rcases Nat.lt_or_ge b W.heap.size with h1 | h1
          · exact h1
          · simp [World.cell?, Array.getElem?_eq_none h1] at hx0
        rw [cell_aft (HAX.out.trans HA.out) hbl]
        exact hx0
      have k1 := counted_any w wr _ _ hok ((HW.out.trans HAX.out).trans HA.out) HH.out
      have htk : ms.take (k + 1) = ms.take k ++ [ms[k]] := List.take_succ_eq_append_getElem hlt
      have HTK := Lib.hid htk
      generalize ms[k] = u at *
      generalize hps : ms.take k = ps at *
      have hk2 : k ≤ 2 := by omega
      clear hx0 hok q0 hps htk
      go_wp2_with fail
      refine k1.mono ?_
      rintro e w2 ⟨rfl, ha2⟩
      obtain ⟨i0, hi0, hz0, hz1, hz2⟩ : ∃ i, (Tryz.prog).info? 3 = some i ∧ i.zero = some (.int .i64 0) ∧ i.size = 1 ∧ i.bytes = 8 := ⟨_, rfl, rfl, rfl, rfl⟩
      have hun : Tryz.prog.underlying 220 = some (.slice 3) := by kernel_rfl
      have HA2 := Lib.hid ha2
      have hRow2 : w2.ownsRow X.heap.size 3 1 (.slice oa k c) k (intsV ps) := row_aft HR.out ha2
      have hHO := World.ownsRow.alloc hRow2 (.cells #[.int .i64 u] 3)
      have hb5 : X.heap.size ≤ (w2.alloc (.cells #[.int .i64 u] 3)).heap.size := by have := HA.out.size; have := ha2.size; simp; omega
      have HHO := Lib.hid hHO
      have HB5 := Lib.hid hb5
      clear k1 ha2 hRow2 hHO hb5
      go_wp2_with (at_builtin; refine Go.wpList_append_lies _ (by rfl) _ _ 220 (by rfl) X.heap.size 3 i0 (.int .i64 0) 1 8 hun hi0 hz0 hz1 hz2 rfl (by decide) _ _ _ (by rfl) HHO.out ⟨w2.heap.size, 0, none⟩ 1 1 [.int .i64 u] (by rfl) (by rfl) (World.news_of_block (heap_new' w2 _)) (by simp [Value.oneCell']) (by omega) (by unfold maxLen; omega) (by omega) HB5.out _ rfl ?_; intro g4 q4 w3 ho4 hg4 hw4 hlt4; have hAX3 : After X w3 := (HA.out.trans (HA2.out.alloc _)).grown hg4 (HA.out.trans (HA2.out.alloc _)).size (fun g hg => (HR.out.lt g hg).1); have HLA := Lib.hid hAX3; have HLR := Lib.hid ho4; clear hAX3 ho4 hg4 hw4)
      go_roundw
      case rel => exact ⟨k + 1, _, _, by go_num, rfl, by omega, HLA.out, Lib.hid (by rw [HTK.out]; simpa [intsV] using HLR.out)⟩
      case measure => simp [intOf]; omega
    · obtain rfl : k = ms.length := by omega
      have hR := HR.out
      rw [List.take_length] at hR
      obtain ⟨g, gc, hsl, hgb, hgl⟩ := hR.form (by have := HL.out; omega)
      simp only [Value.slice.injEq] at hsl
      obtain ⟨rfl, _, rfl⟩ := hsl
      have hc0 := ints_cell hR 0 (by have := HL.out; omega)
      rw [HMS.out] at hc0
      have hc0' : wr.cell? ⟨g, 0, none⟩ = some (.int .i64 (m0 : Nat)) := hc0
      have hc1 := ints_cell hR 1 (by have := HL.out; omega)
      rw [HMS.out] at hc1
      have hc1' : wr.cell? ⟨g, 1, none⟩ = some (.int .i64 (m1 : Nat)) := hc1
      clear hc1
      have hli : (0 : Int) < (ms.length : Int) := by have := HL.out; omega
      have hli1 : (1 : Int) < (ms.length : Int) := by have := HL.out; omega
      have HA2 := HA
      clear hc0 hR hlt hk hl3
      obtain ⟨r, hr⟩ : ∃ r : Nat, r = m0 + m1 := ⟨_, rfl⟩
      rw [← hr]
      have HRR := Lib.hid hr
      by_cases hbig : 1000000 < r
      · have hb : (1000000 : Int) < (m0 : Int) + (m1 : Int) := by omega
        have HBIG := Lib.hid hbig
        clear hbig hr
        go_wp2_with fail
        go_ret2
        have hrb := HBIG.out
        have hrr := HRR.out
        refine ⟨(HAX.out.trans HA.out).alloc _, Or.inr ⟨by omega, wr.heap.size, [97, 32, 118, 97, 108, 117, 101], rfl, (HAX.out.trans HA.out).size, heap_new' _ _⟩⟩
      · have hb : ¬ (1000000 : Int) < (m0 : Int) + (m1 : Int) := by omega
        have HBIG := Lib.hid hbig
        clear hbig hr
        go_wp2_with fail
        go_ret2
        have hrb := HBIG.out
        have hrr := HRR.out
        refine ⟨HAX.out.trans HA.out, Or.inl ⟨by omega, ?_⟩⟩
        show Ending.returned (.tuple #[.int .i64 ((m0 : Int) + (m1 : Int)), .nilIface]) = _
        rw [show min 1000001 (m0 + m1) = m0 + m1 by omega]
        rfl

theorem op_value_mul (w W : World) (b cap : Nat) (m0 m1 : Nat) (h0 : m0 ≤ 1000001) (h1 : m1 ≤ 1000001) (hW : After w W) (hH : HandleS w)
    (hx : ∀ j (h : j < ([m0, m1] : List Nat).length), ∃ T x, W.cell? ⟨b, j, none⟩ = some (.iface T x) ∧ EVOk w (.iface T x) ([m0, m1] : List Nat)[j]) :
    Calls Tryz.prog 194 #[.agg #[str Fm.wMul, .slice (some ⟨b, 0, none⟩) 2 cap]] W (EVPost W (min 1000001 (m0 * m1))) := by
  obtain ⟨ms, hms⟩ : ∃ ms : List Nat, ms = [m0, m1] := ⟨_, rfl⟩
  rw [← hms] at hx
  have hl : ms.length = 2 := by rw [hms]; rfl
  rw [show (.slice (some ⟨b, 0, none⟩) 2 cap : Value) = .slice (some ⟨b, 0, none⟩) ms.length cap by rw [hl]]
  have HL := Lib.hid hl
  obtain ⟨X, hX⟩ : ∃ X, X = W.alloc (.cells #[str Fm.wMul, .slice (some ⟨b, 0, none⟩) ms.length cap] 123) := ⟨_, rfl⟩
  have hAX : After W X := by rw [hX]; exact After.new _ _
  have hXh : X.heap[W.heap.size]? = some (.cells #[str Fm.wMul, .slice (some ⟨b, 0, none⟩) ms.length cap] 123 (0, 0)) := by rw [hX]; exact heap_new' _ _
  have p0 : ∀ V, After X V → V.cell? ⟨W.heap.size, 0, none⟩ = some (str Fm.wMul) := fun V hV => cell_of_heap (i := 0) (hV.heap hXh)
  have p1 : X.cell? ⟨W.heap.size, 1, none⟩ = some (.slice (some ⟨b, 0, none⟩) ms.length cap) := cell_of_heap (i := 1) hXh
  have HW := Lib.hid hW
  have HX := Lib.hid hX
  have HAX := Lib.hid hAX
  have HXX := Lib.hid hx
  have HP0 := Lib.hid p0
  have HH := Lib.hid hH
  have HMS := Lib.hid hms
  have hl3 : ms.length ≤ 2 := by omega
  clear hXh hAX hx hW p0 hH hms hl
  unfold Fm.wMul at *
  go_enter Tryz.func194, Tryz.ntmps194
  clear hX
  go_wp2_with fail
  try rw [← HX.out]
  go_loopw [4, 13] (fun p i wr => ∃ (k : Nat) (oa : Option Addr) (c : Nat), i = .int .i64 k ∧ p = .slice oa k c ∧ k ≤ ms.length ∧ After X wr ∧ Hid (wr.ownsRow X.heap.size 3 1 (.slice oa k c) k (intsV (ms.take k)))) (fun _ i _ => ms.length - (intOf i).toNat)
  case atStart => exact ⟨0, none, 0, rfl, rfl, Nat.zero_le _, After.refl _, Lib.hid ⟨rfl, Or.inl ⟨rfl, rfl⟩⟩⟩
  case round =>
    obtain ⟨k, oa, c, rfl, rfl, hk, hA, HR⟩ := hrel
    have HA := Lib.hid hA
    have q0 := HP0.out wr hA
    clear hA
    by_cases hlt : k < ms.length
    · have hlti : (k : Int) < (ms.length : Int) := by omega
      obtain ⟨T, z, hx0, hok⟩ := HXX.out k hlt
      have hx1 : wr.cell? ⟨b, k, none⟩ = some (.iface T z) := by
        have hbl : b < W.heap.size := by
          rcases Nat.lt_or_ge b W.heap.size with h1 | h1
          · exact h1
          · simp [World.cell?, Array.getElem?_eq_none h1] at hx0
        rw [cell_aft (HAX.out.trans HA.out) hbl]
        exact hx0
      have k1 := counted_any w wr _ _ hok ((HW.out.trans HAX.out).trans HA.out) HH.out
      have htk : ms.take (k + 1) = ms.take k ++ [ms[k]] := List.take_succ_eq_append_getElem hlt
      have HTK := Lib.hid htk
      generalize ms[k] = u at *
      generalize hps : ms.take k = ps at *
      have hk2 : k ≤ 2 := by omega
      clear hx0 hok q0 hps htk
      go_wp2_with fail
      refine k1.mono ?_
      rintro e w2 ⟨rfl, ha2⟩
      obtain ⟨i0, hi0, hz0, hz1, hz2⟩ : ∃ i, (Tryz.prog).info? 3 = some i ∧ i.zero = some (.int .i64 0) ∧ i.size = 1 ∧ i.bytes = 8 := ⟨_, rfl, rfl, rfl, rfl⟩
      have hun : Tryz.prog.underlying 220 = some (.slice 3) := by kernel_rfl
      have HA2 := Lib.hid ha2
      have hRow2 : w2.ownsRow X.heap.size 3 1 (.slice oa k c) k (intsV ps) := row_aft HR.out ha2
      have hHO := World.ownsRow.alloc hRow2 (.cells #[.int .i64 u] 3)
      have hb5 : X.heap.size ≤ (w2.alloc (.cells #[.int .i64 u] 3)).heap.size := by have := HA.out.size; have := ha2.size; simp; omega
      have HHO := Lib.hid hHO
      have HB5 := Lib.hid hb5
      clear k1 ha2 hRow2 hHO hb5
      go_wp2_with (at_builtin; refine Go.wpList_append_lies _ (by rfl) _ _ 220 (by rfl) X.heap.size 3 i0 (.int .i64 0) 1 8 hun hi0 hz0 hz1 hz2 rfl (by decide) _ _ _ (by rfl) HHO.out ⟨w2.heap.size, 0, none⟩ 1 1 [.int .i64 u] (by rfl) (by rfl) (World.news_of_block (heap_new' w2 _)) (by simp [Value.oneCell']) (by omega) (by unfold maxLen; omega) (by omega) HB5.out _ rfl ?_; intro g4 q4 w3 ho4 hg4 hw4 hlt4; have hAX3 : After X w3 := (HA.out.trans (HA2.out.alloc _)).grown hg4 (HA.out.trans (HA2.out.alloc _)).size (fun g hg => (HR.out.lt g hg).1); have HLA := Lib.hid hAX3; have HLR := Lib.hid ho4; clear hAX3 ho4 hg4 hw4)
      go_roundw
      case rel => exact ⟨k + 1, _, _, by go_num, rfl, by omega, HLA.out, Lib.hid (by rw [HTK.out]; simpa [intsV] using HLR.out)⟩
      case measure => simp [intOf]; omega
    · obtain rfl : k = ms.length := by omega
      have hR := HR.out
      rw [List.take_length] at hR
      obtain ⟨g, gc, hsl, hgb, hgl⟩ := hR.form (by have := HL.out; omega)
      simp only [Value.slice.injEq] at hsl
      obtain ⟨rfl, _, rfl⟩ := hsl
      have hc0 := ints_cell hR 0 (by have := HL.out; omega)
      rw [HMS.out] at hc0
      have hc0' : wr.cell? ⟨g, 0, none⟩ = some (.int .i64 (m0 : Nat)) := hc0
      have hc1 := ints_cell hR 1 (by have := HL.out; omega)
      rw [HMS.out] at hc1
      have hc1' : wr.cell? ⟨g, 1, none⟩ = some (.int .i64 (m1 : Nat)) := hc1
      clear hc1
      have hli : (0 : Int) < (ms.length : Int) := by have := HL.out; omega
      have hli1 : (1 : Int) < (ms.length : Int) := by have := HL.out; omega
      have HA2 := HA
      clear hc0 hR hlt hk hl3
      obtain ⟨r, hr⟩ : ∃ r : Nat, r = m0 * m1 := ⟨_, rfl⟩
      rw [← hr]
      have hmul : wrap64 ((m0 : Int) * (m1 : Int)) = ((r : Nat) : Int) := by
        have h2 : m0 * m1 ≤ 1000001 * 1000001 := Nat.mul_le_mul h0 h1
        have e : ((m0 : Int) * (m1 : Int)) = ((m0 * m1 : Nat) : Int) := by simp
        rw [e, ← hr]
        unfold wrap64
        omega
      have HRR := Lib.hid hr
      by_cases hbig : 1000000 < r
      · have hb : (1000000 : Int) < (r : Int) := by omega
        have HBIG := Lib.hid hbig
        clear hbig hr
        go_wp2_with fail
        go_ret2
        have hrb := HBIG.out
        have hrr := HRR.out
        refine ⟨(HAX.out.trans HA.out).alloc _, Or.inr ⟨by omega, wr.heap.size, [97, 32, 118, 97, 108, 117, 101], rfl, (HAX.out.trans HA.out).size, heap_new' _ _⟩⟩
      · have hb : ¬ (1000000 : Int) < (r : Int) := by omega
        have HBIG := Lib.hid hbig
        clear hbig hr
        go_wp2_with fail
        go_ret2
        have hrb := HBIG.out
        have hrr := HRR.out
        refine ⟨HAX.out.trans HA.out, Or.inl ⟨by omega, ?_⟩⟩
        show Ending.returned (.tuple #[.int .i64 ((r : Nat) : Int), .nilIface]) = _
        rw [show min 1000001 (m0 * m1) = r by omega]


/-- Every expression without names answers value. -/
theorem EV.valOk {w : World} (hH : HandleS w) : ∀ {e : Ex} {v : Value}, EV w 0 e v → Fm.exOk e → Fm.occE e = [] → EVOk w v (Fm.valE e)
  | .num n, _, h, ho, _ => ⟨_, _, 145, .int .i64 (n : Nat), h, fun _ => by kernel_rfl, fun _ _ => by kernel_rfl, fun W _ => num_value W n (by have : n ≤ 60 := ho; omega)⟩
  | .var _, _, _, _, hn => by cases hn
  | .suc e, _, ⟨bl, cap, cs, fr, x, hv, _, hh, hx, he⟩, ho, hn => by
    have k1 := EV.valOk hH he ho hn
    obtain ⟨T1, x1, rfl⟩ := he.form
    refine ⟨_, _, 194, .agg #[str Fm.wSuc, .slice (some ⟨bl, 0, none⟩) 1 cap], hv, fun _ => by kernel_rfl, fun _ _ => by kernel_rfl, fun W hW => ?_⟩
    exact op_value_suc w W bl cap (Fm.valE e) (Fm.valE_le e ho) hW hH fun j hj => by
      obtain rfl : j = 0 := by simp at hj; omega
      exact ⟨_, _, cell_x hh hx hW, k1⟩
  | .add e f, _, ⟨bl, cap, cs, fr, x, y, hv, _, hh, hx, hy, he, hf⟩, ho, hn => by
    have hn := List.append_eq_nil_iff.1 hn
    have k1 := EV.valOk hH he ho.1 hn.1
    have k2 := EV.valOk hH hf ho.2 hn.2
    obtain ⟨T1, x1, rfl⟩ := he.form
    obtain ⟨T2, x2, rfl⟩ := hf.form
    refine ⟨_, _, 194, .agg #[str Fm.wAdd, .slice (some ⟨bl, 0, none⟩) 2 cap], hv, fun _ => by kernel_rfl, fun _ _ => by kernel_rfl, fun W hW => ?_⟩
    exact op_value_add w W bl cap (Fm.valE e) (Fm.valE f) (Fm.valE_le e ho.1) (Fm.valE_le f ho.2) hW hH fun j hj => by
      match j, hj with
      | 0, _ => exact ⟨_, _, cell_x hh hx hW, k1⟩
      | 1, _ => exact ⟨_, _, cell_x hh hy hW, k2⟩
      | j + 2, hj => exact absurd hj (by simp)
  | .mul e f, _, ⟨bl, cap, cs, fr, x, y, hv, _, hh, hx, hy, he, hf⟩, ho, hn => by
    have hn := List.append_eq_nil_iff.1 hn
    have k1 := EV.valOk hH he ho.1 hn.1
    have k2 := EV.valOk hH hf ho.2 hn.2
    obtain ⟨T1, x1, rfl⟩ := he.form
    obtain ⟨T2, x2, rfl⟩ := hf.form
    refine ⟨_, _, 194, .agg #[str Fm.wMul, .slice (some ⟨bl, 0, none⟩) 2 cap], hv, fun _ => by kernel_rfl, fun _ _ => by kernel_rfl, fun W hW => ?_⟩
    exact op_value_mul w W bl cap (Fm.valE e) (Fm.valE f) (Fm.valE_le e ho.1) (Fm.valE_le f ho.2) hW hH fun j hj => by
      match j, hj with
      | 0, _ => exact ⟨_, _, cell_x hh hx hW, k1⟩
      | 1, _ => exact ⟨_, _, cell_x hh hy hW, k2⟩
      | j + 2, hj => exact absurd hj (by simp)
end Go.Proofs.YtdjoafnohkmneaaGreatDoor

namespace Go.Proofs.YtdjoafnohkmneaaGreatDoor
open Go.ChangeShapes Go.WideShapes Go.ChangeAt Go.RowKit Go.Shelf

set_option maxRecDepth 100000

def laidListH : List (String × DataW Unit) := [("math/bits.deBruijn32tab", Rows.laid_math_bits_deBruijn32tab), ("math/bits.deBruijn64tab", Rows.laid_math_bits_deBruijn64tab), ("internal/strconv.uint64pow10", Rows.laid_internal_strconv_uint64pow10), ("errors.errorType", Rows.laid_errors_errorType), ("strconv.ErrRange", Rows.laid_strconv_ErrRange), ("strconv.ErrSyntax", Rows.laid_strconv_ErrSyntax)]

theorem laidH_none : laidListH.filter (fun x => x.2.handleName?.isNone) = laidList := by kernel_rfl
theorem laidH_some : laidListH.filter (fun x => x.2.handleName?.isSome) = [("errors.errorType", Rows.laid_errors_errorType)] := by kernel_rfl

theorem laidH_parts {W : World} (h : laidMetH Tryz.prog laidListH W) : laidMet Tryz.prog laidList W ∧ handlesMet Tryz.prog [("errors.errorType", Rows.laid_errors_errorType)] W := by
  unfold laidMetH at h
  rw [laidH_some, laidH_none] at h
  exact h
theorem laidS_ofH {W : World} (h : laidMetH Tryz.prog laidListH W) : LaidS W :=
  laidS_of (by rw [MakeChecks.laidMetH_plain _ _ _ (by kernel_rfl)]; exact (laidH_parts h).1)

theorem handleS_of {W : World} (h : laidMetH Tryz.prog laidListH W) : HandleS W := by
  obtain ⟨name, u, ty, e1, e2, e3, e4, e5⟩ := (laidH_parts h).2 _ (List.mem_singleton.2 rfl)
  have en : name = [101, 114, 114, 111, 114] := (Option.some.inj e1).symm
  subst en
  obtain rfl := Option.some.inj ((show (Tryz.prog.cutTypes.find? (·.1 == "internal/reflectlite.rtype")).map (·.2) = some 158 by kernel_rfl).symm.trans e2)
  have hm : ty ∈ (List.range Tryz.prog.types.size).filter fun t => Tryz.prog.rowNamed t [101, 114, 114, 111, 114] := List.mem_filter.2 ⟨List.mem_range.2 e3, e4⟩
  rw [show ((List.range Tryz.prog.types.size).filter fun t => Tryz.prog.rowNamed t [101, 114, 114, 111, 114]) = [59] by kernel_rfl] at hm
  obtain rfl := List.mem_singleton.1 hm
  have hh : typeHandle Tryz.prog 59 = .pointer (some ⟨8, 59, none⟩) := by kernel_rfl
  rw [hh] at e5
  have := World.var?_cell (show Tryz.prog.globalNamed "errors.errorType" = some 0 by kernel_rfl) e5 0
  unfold HandleS
  simpa using this

theorem door_metH (os : Os) (args : Array Value) : laidMetH Tryz.prog laidListH ((World.doorLaid Tryz.prog 400 os).forCall (fun _ _ => 0) ⟨#[], args, []⟩).memory :=
  laidMetH_of_parts3 (fuel := 8) (by rw [laidH_none]; exact laidMet_of_run' 8 (by kernel_rfl) (by kernel_rfl)) (by kernel_rfl) (by kernel_rfl)
end Go.Proofs.YtdjoafnohkmneaaGreatDoor

namespace Go.Proofs.YtdjoafnohkmneaaGreatDoor
open Go.RowKit

set_option maxHeartbeats 2000000
set_option maxRecDepth 100000

/-- A part of a node, and what a function answers there. -/
def PartC (w : World) (b j : Nat) (P : Value → World → Prop) : Prop := ∃ (s : List UInt8) (ao : Option Addr) (n c : Nat), ∀ W, After w W → W.cell? ⟨b, j * 2, none⟩ = some (str s) ∧ W.cell? ⟨b, j * 2 + 1, none⟩ = some (.slice ao n c) ∧ P (.agg #[str s, .slice ao n c]) W
def Vals (m : Nat) (v : Value) (W : World) : Prop := Calls Tryz.prog 36 #[v] W fun e w' => e = .returned (.int .i64 (m : Nat)) ∧ After W w'

theorem s_val_atom (w : World) (a : List UInt8) (ha : a ≠ []) (hl : a.length ≤ 1000000000) : Calls Tryz.prog 36 #[.agg #[str a, .slice none 0 0]] w fun e w' => e = .returned (.int .i64 (numI a)) ∧ After w w' := by
  have hA := After.new w (.cells #[str a, .slice none 0 0] 35)
  have hnum := s_num (w.alloc (.cells #[str a, .slice none 0 0] 35)) a hl
  have e0 : (a == []) = false := beq_eq_false_iff_ne.2 ha
  have e1 : (a != []) = true := by rw [bne, e0]; rfl
  clear ha hl
  go_enter Tryz.func36, Tryz.ntmps36
  go_wp2_with fail
  refine hnum.mono ?_
  rintro e w2 ⟨rfl, rfl⟩
  go_wp2_with fail
  go_ret
  exact ⟨rfl, hA⟩


theorem s_val_suc (w : World) (b cap n : Nat) (m0 : Nat) (h0 : m0 ≤ 1000001) (hn : 1 < n) (hhead : ∀ W, After w W → Calls Tryz.prog 58 #[.agg #[.string ⟨#[]⟩, .slice (some ⟨b, 0, none⟩) n cap]] W fun e w' => e = .returned (str Fm.wSuc) ∧ After W w')
    (c0 : PartC w b 1 (Vals m0))  : Calls Tryz.prog 36 #[.agg #[.string ⟨#[]⟩, .slice (some ⟨b, 0, none⟩) n cap]] w fun e w' => e = .returned (.int .i64 ((min 1000001 (m0 + 1) : Nat) : Int)) ∧ After w w' := by
  obtain ⟨s0, ao0, n0, k0, hc0⟩ := c0
  unfold Fm.wSuc at hhead
  unfold Vals at hc0
  have hA := After.new w (.cells #[.string ⟨#[]⟩, .slice (some ⟨b, 0, none⟩) n cap] 35)
  have hb := heap_new' w (.cells #[.string ⟨#[]⟩, .slice (some ⟨b, 0, none⟩) n cap] 35)
  obtain ⟨p0, p1, k⟩ := hc0 _ hA
  have HA := Lib.hid hA
  have HB := Lib.hid hb
  have HH := Lib.hid hhead
  
  have hi1 : (1 : Int) < (n : Int) := by omega
  
  obtain ⟨r, hr⟩ : ∃ r : Nat, r = m0 + 1 := ⟨_, rfl⟩
  rw [← hr]
  obtain ⟨q, hq⟩ : ∃ q : Nat, q = min 1000001 r := ⟨_, rfl⟩
  rw [← hq]
  have HR := Lib.hid hr
  have HQ := Lib.hid hq
  clear hr hq hA hb hhead hc0  hn
  go_enter Tryz.func36, Tryz.ntmps36
  go_wp2_with fail
  refine k.mono ?_
  rintro e w2 ⟨rfl, ha2⟩
  have d0 : w2.cell? ⟨w.heap.size, 0, none⟩ = some (.string ⟨#[]⟩) := cell_of_heap (i := 0) (ha2.heap HB.out)
  have d1 : w2.cell? ⟨w.heap.size, 1, none⟩ = some (.slice (some ⟨b, 0, none⟩) n cap) := cell_of_heap (i := 1) (ha2.heap HB.out)
  have hh := HH.out w2 (HA.out.trans ha2)
  have HA2 := Lib.hid ha2
  clear k ha2 p0 p1
  go_wp2_with fail
  refine hh.mono ?_
  rintro e w3 ⟨rfl, ha3⟩
  have f1 : w3.cell? ⟨w.heap.size, 1, none⟩ = some (.slice (some ⟨b, 0, none⟩) n cap) := cell_of_heap (i := 1) ((HA2.out.trans ha3).heap HB.out)
  have HA3 := Lib.hid ha3
  clear hh ha3 d0 d1
  go_wp2_with fail
  go_ret
  have hrr := HR.out
  have hqq := HQ.out
  refine ⟨congrArg (fun z => Ending.returned (Value.int .i64 z)) ?_, (HA.out.trans HA2.out).trans HA3.out⟩
  first | omega | (split <;> omega)

theorem s_val_add (w : World) (b cap n : Nat) (m0 m1 : Nat) (h0 : m0 ≤ 1000001) (h1 : m1 ≤ 1000001) (hn : 2 < n) (hhead : ∀ W, After w W → Calls Tryz.prog 58 #[.agg #[.string ⟨#[]⟩, .slice (some ⟨b, 0, none⟩) n cap]] W fun e w' => e = .returned (str Fm.wAdd) ∧ After W w')
    (c0 : PartC w b 1 (Vals m0)) (c1 : PartC w b 2 (Vals m1)) : Calls Tryz.prog 36 #[.agg #[.string ⟨#[]⟩, .slice (some ⟨b, 0, none⟩) n cap]] w fun e w' => e = .returned (.int .i64 ((min 1000001 (m0 + m1) : Nat) : Int)) ∧ After w w' := by
  obtain ⟨s0, ao0, n0, k0, hc0⟩ := c0
  obtain ⟨s1, ao1, n1, k1, hc1⟩ := c1
  unfold Fm.wAdd at hhead
  unfold Vals at hc0 hc1
  have hA := After.new w (.cells #[.string ⟨#[]⟩, .slice (some ⟨b, 0, none⟩) n cap] 35)
  have hb := heap_new' w (.cells #[.string ⟨#[]⟩, .slice (some ⟨b, 0, none⟩) n cap] 35)
  obtain ⟨p0, p1, k⟩ := hc0 _ hA
  have HA := Lib.hid hA
  have HB := Lib.hid hb
  have HH := Lib.hid hhead
  have HC1 := Lib.hid hc1
  have hi1 : (1 : Int) < (n : Int) := by omega
  have hi2 : (2 : Int) < (n : Int) := by omega
  obtain ⟨r, hr⟩ : ∃ r : Nat, r = m0 + m1 := ⟨_, rfl⟩
  rw [← hr]
  obtain ⟨q, hq⟩ : ∃ q : Nat, q = min 1000001 r := ⟨_, rfl⟩
  rw [← hq]
  have HR := Lib.hid hr
  have HQ := Lib.hid hq
  clear hr hq hA hb hhead hc0 hc1 hn
  go_enter Tryz.func36, Tryz.ntmps36
  go_wp2_with fail
  refine k.mono ?_
  rintro e w2 ⟨rfl, ha2⟩
  have d0 : w2.cell? ⟨w.heap.size, 0, none⟩ = some (.string ⟨#[]⟩) := cell_of_heap (i := 0) (ha2.heap HB.out)
  have d1 : w2.cell? ⟨w.heap.size, 1, none⟩ = some (.slice (some ⟨b, 0, none⟩) n cap) := cell_of_heap (i := 1) (ha2.heap HB.out)
  have hh := HH.out w2 (HA.out.trans ha2)
  have HA2 := Lib.hid ha2
  clear k ha2 p0 p1
  go_wp2_with fail
  refine hh.mono ?_
  rintro e w3 ⟨rfl, ha3⟩
  have f1 : w3.cell? ⟨w.heap.size, 1, none⟩ = some (.slice (some ⟨b, 0, none⟩) n cap) := cell_of_heap (i := 1) ((HA2.out.trans ha3).heap HB.out)
  obtain ⟨p2, p3, k2⟩ := HC1.out w3 ((HA.out.trans HA2.out).trans ha3)
  have HA3 := Lib.hid ha3
  clear hh ha3 d0 d1
  go_wp2_with fail
  refine k2.mono ?_
  rintro e w4 ⟨rfl, ha4⟩
  have HA4 := Lib.hid ha4
  clear k2 ha4 p2 p3
  go_wp2_with fail
  go_ret
  have hrr := HR.out
  have hqq := HQ.out
  refine ⟨congrArg (fun z => Ending.returned (Value.int .i64 z)) ?_, ((HA.out.trans HA2.out).trans HA3.out).trans HA4.out⟩
  first | omega | (split <;> omega)

theorem s_val_mul (w : World) (b cap n : Nat) (m0 m1 : Nat) (h0 : m0 ≤ 1000001) (h1 : m1 ≤ 1000001) (hn : 2 < n) (hhead : ∀ W, After w W → Calls Tryz.prog 58 #[.agg #[.string ⟨#[]⟩, .slice (some ⟨b, 0, none⟩) n cap]] W fun e w' => e = .returned (str Fm.wMul) ∧ After W w')
    (c0 : PartC w b 1 (Vals m0)) (c1 : PartC w b 2 (Vals m1)) : Calls Tryz.prog 36 #[.agg #[.string ⟨#[]⟩, .slice (some ⟨b, 0, none⟩) n cap]] w fun e w' => e = .returned (.int .i64 ((min 1000001 (m0 * m1) : Nat) : Int)) ∧ After w w' := by
  obtain ⟨s0, ao0, n0, k0, hc0⟩ := c0
  obtain ⟨s1, ao1, n1, k1, hc1⟩ := c1
  unfold Fm.wMul at hhead
  unfold Vals at hc0 hc1
  have hA := After.new w (.cells #[.string ⟨#[]⟩, .slice (some ⟨b, 0, none⟩) n cap] 35)
  have hb := heap_new' w (.cells #[.string ⟨#[]⟩, .slice (some ⟨b, 0, none⟩) n cap] 35)
  obtain ⟨p0, p1, k⟩ := hc0 _ hA
  have HA := Lib.hid hA
  have HB := Lib.hid hb
  have HH := Lib.hid hhead
  have HC1 := Lib.hid hc1
  have hi1 : (1 : Int) < (n : Int) := by omega
  have hi2 : (2 : Int) < (n : Int) := by omega
  obtain ⟨r, hr⟩ : ∃ r : Nat, r = m0 * m1 := ⟨_, rfl⟩
  rw [← hr]
  have hmul : wrap64 ((m0 : Int) * (m1 : Int)) = ((r : Nat) : Int) := by
    have h2 : m0 * m1 ≤ 1000001 * 1000001 := Nat.mul_le_mul h0 h1
    have e : ((m0 : Int) * (m1 : Int)) = ((m0 * m1 : Nat) : Int) := by simp
    rw [e, ← hr]
    unfold wrap64
    omega
  obtain ⟨q, hq⟩ : ∃ q : Nat, q = min 1000001 r := ⟨_, rfl⟩
  rw [← hq]
  have HR := Lib.hid hr
  have HQ := Lib.hid hq
  clear hr hq hA hb hhead hc0 hc1 hn
  go_enter Tryz.func36, Tryz.ntmps36
  go_wp2_with fail
  refine k.mono ?_
  rintro e w2 ⟨rfl, ha2⟩
  have d0 : w2.cell? ⟨w.heap.size, 0, none⟩ = some (.string ⟨#[]⟩) := cell_of_heap (i := 0) (ha2.heap HB.out)
  have d1 : w2.cell? ⟨w.heap.size, 1, none⟩ = some (.slice (some ⟨b, 0, none⟩) n cap) := cell_of_heap (i := 1) (ha2.heap HB.out)
  have hh := HH.out w2 (HA.out.trans ha2)
  have HA2 := Lib.hid ha2
  clear k ha2 p0 p1
  go_wp2_with fail
  refine hh.mono ?_
  rintro e w3 ⟨rfl, ha3⟩
  have f1 : w3.cell? ⟨w.heap.size, 1, none⟩ = some (.slice (some ⟨b, 0, none⟩) n cap) := cell_of_heap (i := 1) ((HA2.out.trans ha3).heap HB.out)
  obtain ⟨p2, p3, k2⟩ := HC1.out w3 ((HA.out.trans HA2.out).trans ha3)
  have HA3 := Lib.hid ha3
  clear hh ha3 d0 d1
  go_wp2_with fail
  refine k2.mono ?_
  rintro e w4 ⟨rfl, ha4⟩
  have HA4 := Lib.hid ha4
  clear k2 ha4 p2 p3
  go_wp2_with fail
  go_ret
  have hrr := HR.out
  have hqq := HQ.out
  refine ⟨congrArg (fun z => Ending.returned (Value.int .i64 z)) ?_, ((HA.out.trans HA2.out).trans HA3.out).trans HA4.out⟩
  first | omega | (split <;> omega)

theorem exTree_good (e : Ex) (h : Fm.exOk e) : Fm.sxOk (Fm.exTree e) := (Fm.exTree_ok e h).1
theorem part_c {w : World} {B b : Nat} {ps : List SX} {P : Value → World → Prop} (hp : ∀ j (hj : j < ps.length), ∃ ao c, (∀ W, After w W → W.cell? ⟨b, j * 2, none⟩ = some (str (atomX ps[j])) ∧ W.cell? ⟨b, j * 2 + 1, none⟩ = some (.slice ao (partsX ps[j]).length c)) ∧ SV w B ps[j] (.agg #[str (atomX ps[j]), .slice ao (partsX ps[j]).length c]))
    (j : Nat) (hj : j < ps.length) (h : ∀ v W, SV W B ps[j] v → P v W) : PartC w b j P := by
  obtain ⟨ao, c, hc, hs⟩ := hp j hj
  exact ⟨_, ao, _, c, fun W hW => ⟨(hc W hW).1, (hc W hW).2, h _ W (hs.after hW)⟩⟩
theorem numI_dec (n : Nat) (h : n ≤ 60) : numI (Fm.dec n) = (n : Nat) := by
  rw [numI_eq]
  unfold Fm.num6
  rw [Fm.numOf_dec (Nat.zero_le _) h (by decide)]
  rfl

theorem s_val : ∀ (e : Ex) (w : World) (B : Nat) (v : Value), SV w B (Fm.exTree e) v → Fm.exOk e → Fm.occE e = [] → Vals (Fm.valE e) v w
  | .num n, w, B, v, h, ho, _ => by
    simp only [Fm.exTree, SV] at h
    subst h
    have hn : n ≤ 60 := ho
    have hl := Fm.dec_len n
    have := s_val_atom w (Fm.dec n) (by intro e; rw [e] at hl; simp at hl) (by omega)
    rw [numI_dec n hn] at this
    exact this
  | .var _, _, _, _, _, _, hn => by cases hn
  | .suc e, w, B, v, h, ho, hn => by
    have hok := exTree_good (.suc e) ho
    have hsv := h
    obtain ⟨b, cap, rfl, hp⟩ := SV.part (ps := [.atom Fm.wSuc, Fm.exTree e]) h
    exact s_val_suc w b cap 2 (Fm.valE e) (Fm.valE_le e ho) (by decide) (fun W hW => s_head W B (Fm.exTree (.suc e)) _ (hsv.after hW) hok)
      (part_c hp 1 (by simp) fun v W hv => s_val e W B v hv ho hn)
  | .add e f, w, B, v, h, ho, hn => by
    have hok := exTree_good (.add e f) ho
    have hsv := h
    have hn := List.append_eq_nil_iff.1 hn
    obtain ⟨b, cap, rfl, hp⟩ := SV.part (ps := [.atom Fm.wAdd, Fm.exTree e, Fm.exTree f]) h
    exact s_val_add w b cap 3 (Fm.valE e) (Fm.valE f) (Fm.valE_le e ho.1) (Fm.valE_le f ho.2) (by decide) (fun W hW => s_head W B (Fm.exTree (.add e f)) _ (hsv.after hW) hok)
      (part_c hp 1 (by simp) fun v W hv => s_val e W B v hv ho.1 hn.1) (part_c hp 2 (by simp) fun v W hv => s_val f W B v hv ho.2 hn.2)
  | .mul e f, w, B, v, h, ho, hn => by
    have hok := exTree_good (.mul e f) ho
    have hsv := h
    have hn := List.append_eq_nil_iff.1 hn
    obtain ⟨b, cap, rfl, hp⟩ := SV.part (ps := [.atom Fm.wMul, Fm.exTree e, Fm.exTree f]) h
    exact s_val_mul w b cap 3 (Fm.valE e) (Fm.valE f) (Fm.valE_le e ho.1) (Fm.valE_le f ho.2) (by decide) (fun W hW => s_head W B (Fm.exTree (.mul e f)) _ (hsv.after hW) hok)
      (part_c hp 1 (by simp) fun v W hv => s_val e W B v hv ho.1 hn.1) (part_c hp 2 (by simp) fun v W hv => s_val f W B v hv ho.2 hn.2)
end Go.Proofs.YtdjoafnohkmneaaGreatDoor

namespace Go.Proofs.YtdjoafnohkmneaaGreatDoor
open Go.RowKit

set_option maxHeartbeats 4000000
set_option maxRecDepth 100000

def HoldS (r : Bool) (v : Value) (W : World) : Prop := Calls Tryz.prog 39 #[v] W fun e w' => e = .returned (.bool r) ∧ After W w'
theorem ru_eqlb {ops : Array Oper} {A : Act} {i : Nat} {w : World} {x y : Operand} {u u' : Value} {n m : Bool} (hop : (opAt ops i).op = .binOp .eql 4 x y 4) (hx : A.eval x = u) (hu : u = .bool n) (hy : A.eval y = u') (hu' : u' = .bool m) :
    (execOp A.eval (opAt ops i)).run Tryz.prog w = .ok (.value (.bool (n == m))) w := by
  subst hu hu'
  unfold execOp
  simp only [hop, hx, hy]
  simp [go_sem]

theorem s_hold_atom (w : World) (a : List UInt8) (r : Bool) (ha : a ≠ []) (hr : (a == Fm.wTop) = r) : HoldS r (.agg #[str a, .slice none 0 0]) w := by
  have hA := After.new w (.cells #[str a, .slice none 0 0] 35)
  have hb := heap_new' w (.cells #[str a, .slice none 0 0] 35)
  have c0 : (w.alloc (.cells #[str a, .slice none 0 0] 35)).cell? ⟨w.heap.size, 0, none⟩ = some (str a) := cell_of_heap (i := 0) hb
  have e0 : (a == []) = false := beq_eq_false_iff_ne.2 ha
  have e1 : (a != []) = true := by rw [bne, e0]; rfl
  unfold Fm.wTop at hr
  have hhd : ∀ W, After w W → Calls Tryz.prog 58 #[.agg #[str a, .slice none 0 0]] W fun e w' => e = .returned (.string ⟨#[]⟩) ∧ After W w' := fun W hW => by
    have hA := After.new W (.cells #[str a, .slice none 0 0] 35)
    go_enter Tryz.func58, Tryz.ntmps58
    go_wp2_with fail
    go_ret
    exact ⟨rfl, hA⟩
  have k1 := hhd _ hA
  have HA := Lib.hid hA
  have HB := Lib.hid hb
  unfold HoldS
  clear ha hA hb hhd
  go_enter Tryz.func39, Tryz.ntmps39
  go_wp2_with fail
  refine k1.mono ?_
  rintro e w2 ⟨rfl, ha2⟩
  have d0 : w2.cell? ⟨w.heap.size, 0, none⟩ = some (str a) := cell_of_heap (i := 0) (ha2.heap HB.out)
  have HA2 := Lib.hid ha2
  clear k1 ha2 c0
  go_wp2_with fail
  go_ret
  exact ⟨rfl, HA.out.trans HA2.out⟩

def eqL (A : Nat) (b : Nat) (n : Nat) (cap : Nat) (s0 : List UInt8) (ao0 : Option Addr) (n0 : Nat) (k0 : Nat) (m0 : Nat) (s1 : List UInt8) (ao1 : Option Addr) (n1 : Nat) (k1 : Nat) (m1 : Nat) (r : Bool) : List Yu :=
  [.lit (.pointer (some ⟨A, 1, none⟩)), .lit (.slice (some ⟨b, 0, none⟩) n cap), .lit (.pointer (some ⟨b, 2, none⟩)), .lit (.agg #[str s0, .slice ao0 n0 k0]), .lit (.int .i64 m0), .lit (.pointer (some ⟨A, 1, none⟩)), .lit (.slice (some ⟨b, 0, none⟩) n cap), .lit (.pointer (some ⟨b, 4, none⟩)), .lit (.agg #[str s1, .slice ao1 n1 k1]), .lit (.int .i64 m1), .lit (.bool r), .lit (.bool r)]
theorem eqL_keep {A : Nat} {b : Nat} {n : Nat} {cap : Nat} {s0 : List UInt8} {ao0 : Option Addr} {n0 : Nat} {k0 : Nat} {m0 : Nat} {s1 : List UInt8} {ao1 : Option Addr} {n1 : Nat} {k1 : Nat} {m1 : Nat} {r : Bool} : ∀ y ∈ eqL A b n cap s0 ao0 n0 k0 m0 s1 ao1 n1 k1 m1 r, keepsU (AfterN 0) y := by
  intro y hy
  simp only [eqL, List.mem_cons, List.not_mem_nil, or_false] at hy
  rcases hy with rfl | rfl | rfl | rfl | rfl | rfl | rfl | rfl | rfl | rfl | rfl | rfl
  all_goals exact trivial


theorem s_hold_eq (w : World) (b cap n m0 m1 : Nat) (hn : 2 < n) (hhead : ∀ W, After w W → Calls Tryz.prog 58 #[.agg #[.string ⟨#[]⟩, .slice (some ⟨b, 0, none⟩) n cap]] W fun e w' => e = .returned (str Fm.wEq) ∧ After W w')
    (c0 : PartC w b 1 (Vals m0)) (c1 : PartC w b 2 (Vals m1)) : HoldS (decide (m0 = m1)) (.agg #[.string ⟨#[]⟩, .slice (some ⟨b, 0, none⟩) n cap]) w := by
  obtain ⟨s0, ao0, n0, k0, hc0⟩ := c0
  obtain ⟨s1, ao1, n1, k1, hc1⟩ := c1
  unfold Vals at hc0 hc1
  obtain ⟨r, hr⟩ : ∃ r, r = decide (m0 = m1) := ⟨_, rfl⟩
  have hrb : ((m0 : Int) == (m1 : Int)) = r := by rw [hr]; by_cases e : m0 = m1 <;> simp [e]; omega
  rw [← hr]
  have hA := After.new w (.cells #[.string ⟨#[]⟩, .slice (some ⟨b, 0, none⟩) n cap] 35)
  have hb := heap_new' w (.cells #[.string ⟨#[]⟩, .slice (some ⟨b, 0, none⟩) n cap] 35)
  have k1' := hhead _ hA
  have c0 : (w.alloc (.cells #[.string ⟨#[]⟩, .slice (some ⟨b, 0, none⟩) n cap] 35)).cell? ⟨w.heap.size, 0, none⟩ = some (.string ⟨#[]⟩) := cell_of_heap (i := 0) hb
  have c1 : (w.alloc (.cells #[.string ⟨#[]⟩, .slice (some ⟨b, 0, none⟩) n cap] 35)).cell? ⟨w.heap.size, 1, none⟩ = some (.slice (some ⟨b, 0, none⟩) n cap) := cell_of_heap (i := 1) hb
  have HRB := Lib.hid hrb
  have HA := Lib.hid hA
  have HB := Lib.hid hb
  have HC0 := Lib.hid hc0
  have HC1 := Lib.hid hc1
  have HN2 := Lib.hid hn
  have HN1 : Hid (1 < n) := (by show _ < _; omega)
  unfold HoldS
  clear hA hb hhead hc0 hc1 hrb hr hn
  go_enter Tryz.func39, Tryz.ntmps39
  go_wp2_with fail
  refine k1'.mono ?_
  rintro e Y ⟨rfl, ha2⟩
  have HBX : Hid (Y.heap[w.heap.size]? = some (.cells #[.string ⟨#[]⟩, .slice (some ⟨b, 0, none⟩) n cap] 35 (0, 0))) := ha2.heap HB.out
  have HwX : Hid (After w Y) := HA.out.trans ha2
  clear k1' ha2 c0 c1
  go_wp2_with fail
  rename_i KK hKK
  have HL : Hid (∀ y ∈ (eqL w.heap.size b n cap s0 ao0 n0 k0 m0 s1 ao1 n1 k1 m1 r), keepsU (AfterN 0) y) := eqL_keep
  refine wp_region_use_tail (m := 12) (k := 0) (f := 16) (by kernel_rfl) (by kernel_rfl) (by kernel_rfl) (by kernel_rfl) (fun _ => none) (by kernel_rfl)
    99 (fun _ => True) (After Y) (yus (eqL w.heap.size b n cap s0 ao0 n0 k0 m0 s1 ao1 n1 k1 m1 r)) trivial (After.refl Y).drew (lt12 ?_ ?_ ?_ ?_ ?_ ?_ ?_ ?_ ?_ ?_ ?_ ?_) ?_
  · intro vs W1 hA1 _ hd K hK
    exact du_val (by kernel_rfl) (wantedq (by kernel_rfl)) (by kernel_rfl) hA1 rfl hK
  · intro vs W1 hA1 _ hd K hK
    exact du_val (by kernel_rfl) (wantedq (by kernel_rfl)) (ruf_lds (x := .tmp 9) (u := vs 0) (by kernel_rfl) (by kernel_rfl) (hd 0 (by kernel_rfl)) (cell_of_heap (i := 1) (hA1.heap HBX.out))) hA1 rfl hK
  · intro vs W1 hA1 _ hd K hK
    exact du_val (by kernel_rfl) (wantedq (by kernel_rfl)) (ruf_ix (x := .tmp 10) (u := vs 1) (k := 1) (by kernel_rfl) (by kernel_rfl) (hd 1 (by kernel_rfl)) HN1.out) hA1 rfl hK
  · intro vs W1 hA1 _ hd K hK
    have hcc := (And.intro (HC0.out W1 (HwX.out.trans hA1)).1 (HC0.out W1 (HwX.out.trans hA1)).2.1)
    exact du_val (by kernel_rfl) (wantedq (by kernel_rfl)) (rq_tree (x := .tmp 11) (u := vs 2) (b := b) (k := 2) (by kernel_rfl) (by kernel_rfl) (hd 2 (by kernel_rfl)) hcc.1 hcc.2) hA1 rfl hK
  · intro vs W1 hA1 _ hd K hK
    have hN1 : 0 ≤ W1.heap.size := Nat.zero_le _
    have e3 : vs 3 = .agg #[str s0, .slice ao0 n0 k0] := hd 3 (by kernel_rfl)
    refine op_call (f := 36) (args := #[vs 3]) (by kernel_rfl) (wantedq (by kernel_rfl)) (by kernel_rfl) ?_
    rw [e3]
    refine ((HC0.out W1 (HwX.out.trans hA1)).2.2).mono ?_
    rintro e W3 ⟨rfl, ha3⟩
    exact ⟨_, rfl, hK _ _ ⟨hA1.trans ha3, fun _ h => h, fun j v _ _ _ h => yus_keep HL.out ⟨hN1, ha3⟩ j v h⟩ rfl⟩
  · intro vs W1 hA1 _ hd K hK
    exact du_val (by kernel_rfl) (wantedq (by kernel_rfl)) (by kernel_rfl) hA1 rfl hK
  · intro vs W1 hA1 _ hd K hK
    exact du_val (by kernel_rfl) (wantedq (by kernel_rfl)) (ruf_lds (x := .tmp 14) (u := vs 5) (by kernel_rfl) (by kernel_rfl) (hd 5 (by kernel_rfl)) (cell_of_heap (i := 1) (hA1.heap HBX.out))) hA1 rfl hK
  · intro vs W1 hA1 _ hd K hK
    exact du_val (by kernel_rfl) (wantedq (by kernel_rfl)) (ruf_ix (x := .tmp 15) (u := vs 6) (k := 2) (by kernel_rfl) (by kernel_rfl) (hd 6 (by kernel_rfl)) HN2.out) hA1 rfl hK
  · intro vs W1 hA1 _ hd K hK
    have hcc := (And.intro (HC1.out W1 (HwX.out.trans hA1)).1 (HC1.out W1 (HwX.out.trans hA1)).2.1)
    exact du_val (by kernel_rfl) (wantedq (by kernel_rfl)) (rq_tree (x := .tmp 16) (u := vs 7) (b := b) (k := 4) (by kernel_rfl) (by kernel_rfl) (hd 7 (by kernel_rfl)) hcc.1 hcc.2) hA1 rfl hK
  · intro vs W1 hA1 _ hd K hK
    have hN1 : 0 ≤ W1.heap.size := Nat.zero_le _
    have e8 : vs 8 = .agg #[str s1, .slice ao1 n1 k1] := hd 8 (by kernel_rfl)
    refine op_call (f := 36) (args := #[vs 8]) (by kernel_rfl) (wantedq (by kernel_rfl)) (by kernel_rfl) ?_
    rw [e8]
    refine ((HC1.out W1 (HwX.out.trans hA1)).2.2).mono ?_
    rintro e W3 ⟨rfl, ha3⟩
    exact ⟨_, rfl, hK _ _ ⟨hA1.trans ha3, fun _ h => h, fun j v _ _ _ h => yus_keep HL.out ⟨hN1, ha3⟩ j v h⟩ rfl⟩
  · intro vs W1 hA1 _ hd K hK
    exact du_val (by kernel_rfl) (wantedq (by kernel_rfl)) (rq_eql (T := 3) (T' := 3) (x := .tmp 13) (y := .tmp 18) (u := vs 4) (u' := vs 9) (n := m0) (m := m1) (by kernel_rfl) (by kernel_rfl) (hd 4 (by kernel_rfl)) (by kernel_rfl) (hd 9 (by kernel_rfl)) HRB.out) hA1 rfl hK
  · intro vs W1 hA1 _ hd K hK
    exact du_val (u := vs 10) (by kernel_rfl) (wantedq (by kernel_rfl)) (by kernel_rfl) hA1 (hd 10 (by kernel_rfl)) hK
  intro vs W1 hA1 hd
  have e11 : vs 11 = .bool r := hd 11 (by decide) (fun c hc => by cases hc)
  refine hKK _ _ ?_
  refine wp_frame (⟨List.toArray ((.agg #[.string ⟨#[]⟩, .slice (some ⟨b, 0, none⟩) n cap]) :: (.pointer (some ⟨w.heap.size, 0, none⟩)) :: (vs 11) :: (undef) :: (undef) :: (.agg #[.string ⟨#[]⟩, .slice (some ⟨b, 0, none⟩) n cap]) :: (str Fm.wEq) :: (.bool true) :: (.bool true) :: (vs 0) :: (vs 1) :: (vs 2) :: (vs 3) :: (vs 4) :: (vs 5) :: (vs 6) :: (vs 7) :: (vs 8) :: (vs 9) :: (vs 10) :: (undef) :: (undef) :: (undef) :: (undef) :: (undef) :: (undef) :: (undef) :: (undef) :: (undef) :: (undef) :: (undef) :: (undef) :: (undef) :: (undef) :: (undef) :: (undef) :: (undef) :: (undef) :: (undef) :: (undef) :: (undef) :: (undef) :: (undef) :: (undef) :: (undef) :: (undef) :: (undef) :: (undef) :: (undef) :: (undef) :: (undef) :: (undef) :: (undef) :: (undef) :: (undef) :: (undef) :: (undef) :: (undef) :: (undef) :: (undef) :: (undef) :: (undef) :: (undef) :: (undef) :: (undef) :: (undef) :: (undef) :: (undef) :: (undef) :: (undef) :: (undef) :: (undef) :: (undef) :: (undef) :: (undef) :: (undef) :: (undef) :: (undef) :: (undef) :: (undef) :: (undef) :: (undef) :: (undef) :: (undef) :: (undef) :: (undef) :: (undef) :: (undef) :: (undef) :: (undef) :: (undef) :: (undef) :: (undef) :: (undef) :: (undef) :: (undef) :: (undef) :: (undef) :: (undef) :: []), []⟩ : Act) (by kernel_rfl) ?_
  rw [e11]
  have HA1 := Lib.hid hA1
  clear hd e11 hA1

  generalize vs 0 = y0 at *
  generalize vs 1 = y1 at *
  generalize vs 2 = y2 at *
  generalize vs 3 = y3 at *
  generalize vs 4 = y4 at *
  generalize vs 5 = y5 at *
  generalize vs 6 = y6 at *
  generalize vs 7 = y7 at *
  generalize vs 8 = y8 at *
  generalize vs 9 = y9 at *
  generalize vs 10 = y10 at *
  generalize vs 11 = y11 at *
  go_wp2_with fail
  go_ret
  exact ⟨rfl, HwX.out.trans HA1.out⟩


theorem s_hold_and (w : World) (b cap n : Nat) (r0 r1 : Bool) (hn : 2 < n) (hhead : ∀ W, After w W → Calls Tryz.prog 58 #[.agg #[.string ⟨#[]⟩, .slice (some ⟨b, 0, none⟩) n cap]] W fun e w' => e = .returned (str Fm.wAnd) ∧ After W w')
    (c0 : PartC w b 1 (HoldS r0)) (c1 : PartC w b 2 (HoldS r1)) : HoldS (r0 && r1) (.agg #[.string ⟨#[]⟩, .slice (some ⟨b, 0, none⟩) n cap]) w := by
  obtain ⟨s0, ao0, n0, k0, hc0⟩ := c0
  obtain ⟨s1, ao1, n1, k1, hc1⟩ := c1
  unfold HoldS at hc0 hc1
  have hA := After.new w (.cells #[.string ⟨#[]⟩, .slice (some ⟨b, 0, none⟩) n cap] 35)
  have hb := heap_new' w (.cells #[.string ⟨#[]⟩, .slice (some ⟨b, 0, none⟩) n cap] 35)
  have k1' := hhead _ hA
  have c0 : (w.alloc (.cells #[.string ⟨#[]⟩, .slice (some ⟨b, 0, none⟩) n cap] 35)).cell? ⟨w.heap.size, 0, none⟩ = some (.string ⟨#[]⟩) := cell_of_heap (i := 0) hb
  have c1 : (w.alloc (.cells #[.string ⟨#[]⟩, .slice (some ⟨b, 0, none⟩) n cap] 35)).cell? ⟨w.heap.size, 1, none⟩ = some (.slice (some ⟨b, 0, none⟩) n cap) := cell_of_heap (i := 1) hb
  have HA := Lib.hid hA
  have HB := Lib.hid hb
  have HC0 := Lib.hid hc0
  have HC1 := Lib.hid hc1
  have hi1 : (1 : Int) < (n : Int) := by omega
  have hi2 : (2 : Int) < (n : Int) := by omega
  unfold HoldS
  unfold Fm.wAnd at k1'
  clear hA hb hhead hc0 hc1 hn
  go_enter Tryz.func39, Tryz.ntmps39
  go_wp2_with fail
  refine k1'.mono ?_
  rintro e Y ⟨rfl, ha2⟩
  have HBX : Hid (Y.heap[w.heap.size]? = some (.cells #[.string ⟨#[]⟩, .slice (some ⟨b, 0, none⟩) n cap] 35 (0, 0))) := ha2.heap HB.out
  have HwX : Hid (After w Y) := HA.out.trans ha2
  have d1 : Y.cell? ⟨w.heap.size, 1, none⟩ = some (.slice (some ⟨b, 0, none⟩) n cap) := cell_of_heap (i := 1) HBX.out
  obtain ⟨p0, p1, q0⟩ := HC0.out Y HwX.out
  clear k1' ha2 c0 c1
  go_wp2_with fail
  refine q0.mono ?_
  rintro e W2 ⟨rfl, ha3⟩
  have d2 : W2.cell? ⟨w.heap.size, 1, none⟩ = some (.slice (some ⟨b, 0, none⟩) n cap) := cell_of_heap (i := 1) (ha3.heap HBX.out)
  obtain ⟨p2, p3, q1⟩ := HC1.out W2 (HwX.out.trans ha3)
  have HA3 := Lib.hid ha3
  clear q0 ha3 d1 p0 p1
  cases r0 with
  | true =>
    go_wp2_with fail
    refine q1.mono ?_
    rintro e W3 ⟨rfl, ha4⟩
    have HA4 := Lib.hid ha4
    clear q1 ha4 d2 p2 p3
    go_wp2_with fail
    go_ret
    exact ⟨by simp, (HwX.out.trans HA3.out).trans HA4.out⟩
  | false =>
    go_wp2_with fail
    go_ret
    exact ⟨by simp, HwX.out.trans HA3.out⟩

theorem s_hold_or (w : World) (b cap n : Nat) (r0 r1 : Bool) (hn : 2 < n) (hhead : ∀ W, After w W → Calls Tryz.prog 58 #[.agg #[.string ⟨#[]⟩, .slice (some ⟨b, 0, none⟩) n cap]] W fun e w' => e = .returned (str Fm.wOr) ∧ After W w')
    (c0 : PartC w b 1 (HoldS r0)) (c1 : PartC w b 2 (HoldS r1)) : HoldS (r0 || r1) (.agg #[.string ⟨#[]⟩, .slice (some ⟨b, 0, none⟩) n cap]) w := by
  obtain ⟨s0, ao0, n0, k0, hc0⟩ := c0
  obtain ⟨s1, ao1, n1, k1, hc1⟩ := c1
  unfold HoldS at hc0 hc1
  have hA := After.new w (.cells #[.string ⟨#[]⟩, .slice (some ⟨b, 0, none⟩) n cap] 35)
  have hb := heap_new' w (.cells #[.string ⟨#[]⟩, .slice (some ⟨b, 0, none⟩) n cap] 35)
  have k1' := hhead _ hA
  have c0 : (w.alloc (.cells #[.string ⟨#[]⟩, .slice (some ⟨b, 0, none⟩) n cap] 35)).cell? ⟨w.heap.size, 0, none⟩ = some (.string ⟨#[]⟩) := cell_of_heap (i := 0) hb
  have c1 : (w.alloc (.cells #[.string ⟨#[]⟩, .slice (some ⟨b, 0, none⟩) n cap] 35)).cell? ⟨w.heap.size, 1, none⟩ = some (.slice (some ⟨b, 0, none⟩) n cap) := cell_of_heap (i := 1) hb
  have HA := Lib.hid hA
  have HB := Lib.hid hb
  have HC0 := Lib.hid hc0
  have HC1 := Lib.hid hc1
  have hi1 : (1 : Int) < (n : Int) := by omega
  have hi2 : (2 : Int) < (n : Int) := by omega
  unfold HoldS
  unfold Fm.wOr at k1'
  clear hA hb hhead hc0 hc1 hn
  go_enter Tryz.func39, Tryz.ntmps39
  go_wp2_with fail
  refine k1'.mono ?_
  rintro e Y ⟨rfl, ha2⟩
  have HBX : Hid (Y.heap[w.heap.size]? = some (.cells #[.string ⟨#[]⟩, .slice (some ⟨b, 0, none⟩) n cap] 35 (0, 0))) := ha2.heap HB.out
  have HwX : Hid (After w Y) := HA.out.trans ha2
  have d1 : Y.cell? ⟨w.heap.size, 1, none⟩ = some (.slice (some ⟨b, 0, none⟩) n cap) := cell_of_heap (i := 1) HBX.out
  obtain ⟨p0, p1, q0⟩ := HC0.out Y HwX.out
  clear k1' ha2 c0 c1
  go_wp2_with fail
  refine q0.mono ?_
  rintro e W2 ⟨rfl, ha3⟩
  have d2 : W2.cell? ⟨w.heap.size, 1, none⟩ = some (.slice (some ⟨b, 0, none⟩) n cap) := cell_of_heap (i := 1) (ha3.heap HBX.out)
  obtain ⟨p2, p3, q1⟩ := HC1.out W2 (HwX.out.trans ha3)
  have HA3 := Lib.hid ha3
  clear q0 ha3 d1 p0 p1
  cases r0 with
  | false =>
    go_wp2_with fail
    refine q1.mono ?_
    rintro e W3 ⟨rfl, ha4⟩
    have HA4 := Lib.hid ha4
    clear q1 ha4 d2 p2 p3
    go_wp2_with fail
    go_ret
    exact ⟨by simp, (HwX.out.trans HA3.out).trans HA4.out⟩
  | true =>
    go_wp2_with fail
    go_ret
    exact ⟨by simp, HwX.out.trans HA3.out⟩

theorem s_hold_imp (w : World) (b cap n : Nat) (r0 r1 : Bool) (hn : 2 < n) (hhead : ∀ W, After w W → Calls Tryz.prog 58 #[.agg #[.string ⟨#[]⟩, .slice (some ⟨b, 0, none⟩) n cap]] W fun e w' => e = .returned (str Fm.wImp) ∧ After W w')
    (c0 : PartC w b 1 (HoldS r0)) (c1 : PartC w b 2 (HoldS r1)) : HoldS (!r0 || r1) (.agg #[.string ⟨#[]⟩, .slice (some ⟨b, 0, none⟩) n cap]) w := by
  obtain ⟨s0, ao0, n0, k0, hc0⟩ := c0
  obtain ⟨s1, ao1, n1, k1, hc1⟩ := c1
  unfold HoldS at hc0 hc1
  have hA := After.new w (.cells #[.string ⟨#[]⟩, .slice (some ⟨b, 0, none⟩) n cap] 35)
  have hb := heap_new' w (.cells #[.string ⟨#[]⟩, .slice (some ⟨b, 0, none⟩) n cap] 35)
  have k1' := hhead _ hA
  have c0 : (w.alloc (.cells #[.string ⟨#[]⟩, .slice (some ⟨b, 0, none⟩) n cap] 35)).cell? ⟨w.heap.size, 0, none⟩ = some (.string ⟨#[]⟩) := cell_of_heap (i := 0) hb
  have c1 : (w.alloc (.cells #[.string ⟨#[]⟩, .slice (some ⟨b, 0, none⟩) n cap] 35)).cell? ⟨w.heap.size, 1, none⟩ = some (.slice (some ⟨b, 0, none⟩) n cap) := cell_of_heap (i := 1) hb
  have HA := Lib.hid hA
  have HB := Lib.hid hb
  have HC0 := Lib.hid hc0
  have HC1 := Lib.hid hc1
  have hi1 : (1 : Int) < (n : Int) := by omega
  have hi2 : (2 : Int) < (n : Int) := by omega
  unfold HoldS
  unfold Fm.wImp at k1'
  clear hA hb hhead hc0 hc1 hn
  go_enter Tryz.func39, Tryz.ntmps39
  go_wp2_with fail
  refine k1'.mono ?_
  rintro e Y ⟨rfl, ha2⟩
  have HBX : Hid (Y.heap[w.heap.size]? = some (.cells #[.string ⟨#[]⟩, .slice (some ⟨b, 0, none⟩) n cap] 35 (0, 0))) := ha2.heap HB.out
  have HwX : Hid (After w Y) := HA.out.trans ha2
  have d1 : Y.cell? ⟨w.heap.size, 1, none⟩ = some (.slice (some ⟨b, 0, none⟩) n cap) := cell_of_heap (i := 1) HBX.out
  obtain ⟨p0, p1, q0⟩ := HC0.out Y HwX.out
  clear k1' ha2 c0 c1
  go_wp2_with fail
  refine q0.mono ?_
  rintro e W2 ⟨rfl, ha3⟩
  have d2 : W2.cell? ⟨w.heap.size, 1, none⟩ = some (.slice (some ⟨b, 0, none⟩) n cap) := cell_of_heap (i := 1) (ha3.heap HBX.out)
  obtain ⟨p2, p3, q1⟩ := HC1.out W2 (HwX.out.trans ha3)
  have HA3 := Lib.hid ha3
  clear q0 ha3 d1 p0 p1
  cases r0 with
  | true =>
    go_wp2_with fail
    refine q1.mono ?_
    rintro e W3 ⟨rfl, ha4⟩
    have HA4 := Lib.hid ha4
    clear q1 ha4 d2 p2 p3
    go_wp2_with fail
    go_ret
    exact ⟨by simp, (HwX.out.trans HA3.out).trans HA4.out⟩
  | false =>
    go_wp2_with fail
    go_ret
    exact ⟨by simp, HwX.out.trans HA3.out⟩
def bindHL (N : Nat) (A : Nat) (b : Nat) (n : Nat) (cap : Nat) (s3 : List UInt8) (ao3 : Option Addr) (n3 : Nat) (k3 : Nat) (x : List UInt8) (k : Nat) (u : SX) (q : Bool) (ex : Bool) : List Yu :=
  [.lit (.pointer (some ⟨A, 1, none⟩)), .lit (.slice (some ⟨b, 0, none⟩) n cap), .lit (.pointer (some ⟨b, 6, none⟩)), .lit (.agg #[str s3, .slice ao3 n3 k3]), .lit (.pointer (some ⟨A, 1, none⟩)), .lit (.slice (some ⟨b, 0, none⟩) n cap), .lit (.pointer (some ⟨b, 2, none⟩)), .lit (.pointer (some ⟨b, 2, none⟩)), .lit (str x), .lit (.int .i64 k), .pred (PutOut N 0 u), .lit (.bool q), .lit (.bool ex), .lit (.bool (q == ex))]
theorem bindHL_keep {N : Nat} {A : Nat} {b : Nat} {n : Nat} {cap : Nat} {s3 : List UInt8} {ao3 : Option Addr} {n3 : Nat} {k3 : Nat} {x : List UInt8} {k : Nat} {u : SX} {q : Bool} {ex : Bool} : ∀ y ∈ bindHL N A b n cap s3 ao3 n3 k3 x k u q ex, keepsU (AfterN N) y := by
  intro y hy
  simp only [bindHL, List.mem_cons, List.not_mem_nil, or_false] at hy
  rcases hy with rfl | rfl | rfl | rfl | rfl | rfl | rfl | rfl | rfl | rfl | rfl | rfl | rfl | rfl
  case inr.inr.inr.inr.inr.inr.inr.inr.inr.inr.inl => exact fun v w w' h k => PutOut.later k h.1 h.2
  all_goals exact trivial


theorem s_hold_ex (w : World) (b cap n m : Nat) (x a : List UInt8) (U : Nat → SX) (P : Nat → Bool) (hn : 3 < n) (hm : m ≤ 60) (ha : numI a = (m : Nat)) (hal : a.length ≤ 1000000000)
    (hhead : ∀ W, After w W → Calls Tryz.prog 58 #[.agg #[.string ⟨#[]⟩, .slice (some ⟨b, 0, none⟩) n cap]] W fun e w' => e = .returned (str Fm.wEx) ∧ After W w')
    (h1 : ∀ W, After w W → W.cell? ⟨b, 2, none⟩ = some (str x)) (h2 : ∀ W, After w W → W.cell? ⟨b, 4, none⟩ = some (str a))
    (s3 : List UInt8) (ao3 : Option Addr) (n3 k3 : Nat) (h3 : ∀ W, After w W → W.cell? ⟨b, 6, none⟩ = some (str s3) ∧ W.cell? ⟨b, 7, none⟩ = some (.slice ao3 n3 k3))
    (hwi : ∀ W, After w W → ∀ k, k < m → Calls Tryz.prog 28 #[.agg #[str s3, .slice ao3 n3 k3], str x, .int .i64 (k : Nat)] W (SPPost w.heap.size W (U k)))
    (hho : ∀ k, k < m → ∀ W v, SV W 0 (U k) v → HoldS (P k) v W) : HoldS ((List.range m).any P) (.agg #[.string ⟨#[]⟩, .slice (some ⟨b, 0, none⟩) n cap]) w := by
  have hnum := fun W => s_num W a hal
  rw [ha] at hnum
  have hA := After.new w (.cells #[.string ⟨#[]⟩, .slice (some ⟨b, 0, none⟩) n cap] 35)
  have hb := heap_new' w (.cells #[.string ⟨#[]⟩, .slice (some ⟨b, 0, none⟩) n cap] 35)
  have k1' := hhead _ hA
  have c0 : (w.alloc (.cells #[.string ⟨#[]⟩, .slice (some ⟨b, 0, none⟩) n cap] 35)).cell? ⟨w.heap.size, 0, none⟩ = some (.string ⟨#[]⟩) := cell_of_heap (i := 0) hb
  have c1 : (w.alloc (.cells #[.string ⟨#[]⟩, .slice (some ⟨b, 0, none⟩) n cap] 35)).cell? ⟨w.heap.size, 1, none⟩ = some (.slice (some ⟨b, 0, none⟩) n cap) := cell_of_heap (i := 1) hb
  have HA := Lib.hid hA
  have HB := Lib.hid hb
  have HH := Lib.hid hhead
  have HC1 := Lib.hid h1
  have HC2 := Lib.hid h2
  have HC3 := Lib.hid h3
  have HWI := Lib.hid hwi
  have HHO := Lib.hid hho
  have HNUM := Lib.hid hnum
  have HN3 := Lib.hid hn
  have HN1 : Hid (1 < n) := (by show _ < _; omega)
  have hi2 : (2 : Int) < (n : Int) := by omega
  unfold HoldS
  unfold Fm.wEx at k1'
  clear hA hb hhead h1 h2 h3 hwi hho hnum hn ha hal
  go_enter Tryz.func39, Tryz.ntmps39
  go_wp2_with fail
  refine k1'.mono ?_
  rintro e Y0 ⟨rfl, ha2⟩
  have d0 : Y0.cell? ⟨w.heap.size, 0, none⟩ = some (.string ⟨#[]⟩) := cell_of_heap (i := 0) (ha2.heap HB.out)
  have d1 : Y0.cell? ⟨w.heap.size, 1, none⟩ = some (.slice (some ⟨b, 0, none⟩) n cap) := cell_of_heap (i := 1) (ha2.heap HB.out)
  have hh2 := HH.out Y0 (HA.out.trans ha2)
  have HA2 := Lib.hid ha2
  unfold Fm.wEx at hh2
  clear k1' ha2 c0 c1
  go_wp2_with fail
  refine hh2.mono ?_
  rintro e X ⟨rfl, ha3⟩
  have HBX : Hid (X.heap[w.heap.size]? = some (.cells #[.string ⟨#[]⟩, .slice (some ⟨b, 0, none⟩) n cap] 35 (0, 0))) := (HA2.out.trans ha3).heap HB.out
  have HwX : Hid (After w X) := (HA.out.trans HA2.out).trans ha3
  clear hh2 ha3 d0 d1
  go_wp2_with fail
  go_loopw [4] (fun i wr => ∃ k : Nat, i = .int .i64 k ∧ k ≤ m ∧ Hid (∀ j, j < k → P j = false) ∧ Hid (After X wr)) (fun i _ => m - (intOf i).toNat)
  case atStart => exact ⟨0, rfl, Nat.zero_le _, Lib.hid (fun j hj => absurd hj (Nat.not_lt_zero j)), Lib.hid (After.refl _)⟩
  case round =>
    obtain ⟨k, rfl, hk, HALL, HX⟩ := hrel
    have d1 : wr.cell? ⟨w.heap.size, 1, none⟩ = some (.slice (some ⟨b, 0, none⟩) n cap) := cell_of_heap (i := 1) (HX.out.heap HBX.out)
    have f4 := HC2.out wr (HwX.out.trans HX.out)
    have hnm := HNUM.out wr
    by_cases hlt : k < m
    · have hlti : (k : Int) < (m : Int) := by omega
      have HKL := Lib.hid hlt
      obtain ⟨q, hq⟩ : ∃ q, P k = q := ⟨_, rfl⟩
      have HPK := Lib.hid hq
      clear hlt hq
      go_wp2_with fail
      refine hnm.mono ?_
      rintro e Y ⟨rfl, rfl⟩
      clear hnm d1 f4
      have HBY : Hid (∀ W1, After wr W1 → W1.heap[w.heap.size]? = some (.cells #[.string ⟨#[]⟩, .slice (some ⟨b, 0, none⟩) n cap] 35 (0, 0))) := fun W1 h => (HX.out.trans h).heap HBX.out
      have HwY : Hid (After w wr) := HwX.out.trans HX.out
      go_wp2_with fail
      rename_i KK hKK
      have HL : Hid (∀ y ∈ (bindHL w.heap.size w.heap.size b n cap s3 ao3 n3 k3 x k (U k) q true), keepsU (AfterN w.heap.size) y) := bindHL_keep
      refine wp_region_use_tail (m := 14) (k := 0) (f := 16) (by kernel_rfl) (by kernel_rfl) (by kernel_rfl) (by kernel_rfl) (fun _ => none) (by kernel_rfl)
        99 (fun _ => True) (After wr) (yus (bindHL w.heap.size w.heap.size b n cap s3 ao3 n3 k3 x k (U k) q true)) trivial (After.refl wr).drew (lt14 ?_ ?_ ?_ ?_ ?_ ?_ ?_ ?_ ?_ ?_ ?_ ?_ ?_ ?_) ?_
      · intro vs W1 hA1 _ hd K hK
        exact du_val (by kernel_rfl) (wantedq (by kernel_rfl)) (by kernel_rfl) hA1 rfl hK
      · intro vs W1 hA1 _ hd K hK
        exact du_val (by kernel_rfl) (wantedq (by kernel_rfl)) (ruf_lds (x := .tmp 79) (u := vs 0) (by kernel_rfl) (by kernel_rfl) (hd 0 (by kernel_rfl)) (cell_of_heap (i := 1) (HBY.out W1 hA1))) hA1 rfl hK
      · intro vs W1 hA1 _ hd K hK
        exact du_val (by kernel_rfl) (wantedq (by kernel_rfl)) (ruf_ix (x := .tmp 80) (u := vs 1) (k := 3) (by kernel_rfl) (by kernel_rfl) (hd 1 (by kernel_rfl)) HN3.out) hA1 rfl hK
      · intro vs W1 hA1 _ hd K hK
        have hcc := (HC3.out W1 (HwY.out.trans hA1))
        exact du_val (by kernel_rfl) (wantedq (by kernel_rfl)) (rq_tree (x := .tmp 81) (u := vs 2) (b := b) (k := 6) (by kernel_rfl) (by kernel_rfl) (hd 2 (by kernel_rfl)) hcc.1 hcc.2) hA1 rfl hK
      · intro vs W1 hA1 _ hd K hK
        exact du_val (by kernel_rfl) (wantedq (by kernel_rfl)) (by kernel_rfl) hA1 rfl hK
      · intro vs W1 hA1 _ hd K hK
        exact du_val (by kernel_rfl) (wantedq (by kernel_rfl)) (ruf_lds (x := .tmp 83) (u := vs 4) (by kernel_rfl) (by kernel_rfl) (hd 4 (by kernel_rfl)) (cell_of_heap (i := 1) (HBY.out W1 hA1))) hA1 rfl hK
      · intro vs W1 hA1 _ hd K hK
        exact du_val (by kernel_rfl) (wantedq (by kernel_rfl)) (ruf_ix (x := .tmp 84) (u := vs 5) (k := 1) (by kernel_rfl) (by kernel_rfl) (hd 5 (by kernel_rfl)) HN1.out) hA1 rfl hK
      · intro vs W1 hA1 _ hd K hK
        exact du_val (by kernel_rfl) (wantedq (by kernel_rfl)) (ruf_f0 (x := .tmp 85) (u := vs 6) (by kernel_rfl) (by kernel_rfl) (hd 6 (by kernel_rfl))) hA1 rfl hK
      · intro vs W1 hA1 _ hd K hK
        exact du_val (by kernel_rfl) (wantedq (by kernel_rfl)) (ruf_ldstr (x := .tmp 86) (u := vs 7) (by kernel_rfl) (by kernel_rfl) (hd 7 (by kernel_rfl)) (HC1.out W1 (HwY.out.trans hA1))) hA1 rfl hK
      · intro vs W1 hA1 _ hd K hK
        exact du_val (by kernel_rfl) (wantedq (by kernel_rfl)) (by kernel_rfl) hA1 rfl hK
      · intro vs W1 hA1 _ hd K hK
        have hN1 : w.heap.size ≤ W1.heap.size := (HwY.out.trans hA1).size
        have e3 : vs 3 = .agg #[str s3, .slice ao3 n3 k3] := hd 3 (by kernel_rfl)
        have e8 : vs 8 = str x := hd 8 (by kernel_rfl)
        have e9 : vs 9 = .int .i64 k := hd 9 (by kernel_rfl)
        refine op_call (f := 28) (args := #[vs 3, vs 8, vs 9]) (by kernel_rfl) (wantedq (by kernel_rfl)) (by kernel_rfl) ?_
        rw [e3, e8, e9]
        refine (HWI.out W1 (HwY.out.trans hA1) k HKL.out).mono ?_
        rintro e W3 ⟨s9, ao9, n9, k9, rfl, ha3, hv3⟩
        exact ⟨_, rfl, hK _ _ ⟨hA1.trans ha3, fun _ h => h, fun j v _ _ _ h => yus_keep HL.out ⟨hN1, ha3⟩ j v h⟩ ⟨s9, ao9, n9, k9, W1.heap.size, W3.heap.size, rfl, Nat.zero_le _, Nat.le_refl _, hv3⟩⟩
      · intro vs W1 hA1 _ hd K hK
        have hN1 : w.heap.size ≤ W1.heap.size := (HwY.out.trans hA1).size
        obtain ⟨s9, ao9, n9, k9, S, E, e10, _, _, hv9⟩ := hd 10 (by kernel_rfl)
        have hh9 := HHO.out k HKL.out W1 (vs 10) hv9.sv
        unfold HoldS at hh9
        refine op_call (f := 39) (args := #[vs 10]) (by kernel_rfl) (wantedq (by kernel_rfl)) (by kernel_rfl) ?_
        refine (HPK.out ▸ hh9).mono ?_
        rintro e W3 ⟨rfl, ha3⟩
        exact ⟨_, rfl, hK _ _ ⟨hA1.trans ha3, fun _ h => h, fun j v _ _ _ h => yus_keep HL.out ⟨hN1, ha3⟩ j v h⟩ rfl⟩
      · intro vs W1 hA1 _ hd K hK
        exact du_val (by kernel_rfl) (wantedq (by kernel_rfl)) (by kernel_rfl) hA1 rfl hK
      · intro vs W1 hA1 _ hd K hK
        exact du_val (by kernel_rfl) (wantedq (by kernel_rfl)) (ru_eqlb (x := .tmp 90) (y := .tmp 91) (u := vs 11) (u' := vs 12) (n := q) (m := true) (by kernel_rfl) (by kernel_rfl) (hd 11 (by kernel_rfl)) (by kernel_rfl) (hd 12 (by kernel_rfl))) hA1 rfl hK
      intro vs W1 hA1 hd
      have e13 : vs 13 = .bool (q == true) := hd 13 (by decide) (fun c hc => by cases hc)
      refine hKK _ _ ?_
      refine wp_frame (⟨List.toArray ((Value.agg #[Value.string { data := #[] }, Value.slice (some { block := b, off := 0 }) n cap]) :: (Value.pointer (some { block := w.heap.size, off := 0 })) :: (u2) :: (Value.bool true) :: (Value.int IntKind.i64 ↑k) :: (Value.agg #[Value.string { data := #[] }, Value.slice (some { block := b, off := 0 }) n cap]) :: (str [101, 120]) :: (Value.bool false) :: (Value.bool false) :: (undef) :: (undef) :: (undef) :: (undef) :: (undef) :: (undef) :: (undef) :: (undef) :: (undef) :: (undef) :: (undef) :: (Value.bool false) :: (Value.bool false) :: (undef) :: (undef) :: (undef) :: (undef) :: (undef) :: (undef) :: (undef) :: (undef) :: (undef) :: (undef) :: (undef) :: (undef) :: (Value.bool false) :: (Value.bool false) :: (undef) :: (undef) :: (undef) :: (undef) :: (undef) :: (undef) :: (undef) :: (undef) :: (undef) :: (undef) :: (undef) :: (undef) :: (Value.bool false) :: (Value.bool false) :: (undef) :: (undef) :: (undef) :: (undef) :: (undef) :: (undef) :: (undef) :: (undef) :: (undef) :: (undef) :: (undef) :: (undef) :: (undef) :: (Value.bool true) :: (Value.bool false) :: (Value.bool true) :: (Value.agg #[Value.string { data := #[] }, Value.slice (some { block := b, off := 0 }) n cap]) :: (str [101, 120]) :: (Value.bool true) :: (Value.int IntKind.i64 ↑k) :: (Value.pointer (some { block := w.heap.size, off := 1 })) :: (Value.slice (some { block := b, off := 0 }) n cap) :: (Value.pointer (some { block := b, off := 4 })) :: (Value.pointer (some { block := b, off := 4 })) :: (str a) :: (Value.int IntKind.i64 ↑m) :: (Value.bool true) :: (u77) :: (u78) :: (vs 0) :: (vs 1) :: (vs 2) :: (vs 3) :: (vs 4) :: (vs 5) :: (vs 6) :: (vs 7) :: (vs 8) :: (vs 9) :: (vs 10) :: (vs 11) :: (vs 12) :: (vs 13) :: (u93) :: (undef) :: (undef) :: (undef) :: (undef) :: (undef) :: []), []⟩ : Act) (by kernel_rfl) ?_
      rw [e13]
      have HA1 := Lib.hid hA1
      clear hd e13 hA1
      generalize vs 0 = y0 at *
      generalize vs 1 = y1 at *
      generalize vs 2 = y2 at *
      generalize vs 3 = y3 at *
      generalize vs 4 = y4 at *
      generalize vs 5 = y5 at *
      generalize vs 6 = y6 at *
      generalize vs 7 = y7 at *
      generalize vs 8 = y8 at *
      generalize vs 9 = y9 at *
      generalize vs 10 = y10 at *
      generalize vs 11 = y11 at *
      generalize vs 12 = y12 at *
      generalize vs 13 = y13 at *
      cases q with
      | true =>
        go_wp2_with fail
        go_ret
        refine ⟨?_, HwY.out.trans HA1.out⟩
        rw [show (List.range m).any P = true from List.any_eq_true.2 ⟨k, List.mem_range.2 HKL.out, HPK.out⟩]
        rfl
      | false =>
        go_wp2_with fail
        go_roundw
        case rel =>
          refine ⟨k + 1, by go_num, HKL.out, Lib.hid (fun j hj => ?_), Lib.hid (HX.out.trans HA1.out)⟩
          by_cases e : j = k
          · rw [e]; exact HPK.out
          · exact HALL.out j (by omega)
        case measure => have := HKL.out; simp [intOf]; omega
    · obtain rfl : k = m := by omega
      go_wp2_with fail
      refine hnm.mono ?_
      rintro e Y ⟨rfl, rfl⟩
      clear hnm d1 f4
      go_wp2_with fail
      go_ret
      refine ⟨?_, HwX.out.trans HX.out⟩
      rw [show (List.range k).any P = false from List.any_eq_false.2 fun j hj => by rw [HALL.out j (List.mem_range.1 hj)]; decide]
      rfl

theorem s_hold_all (w : World) (b cap n m : Nat) (x a : List UInt8) (U : Nat → SX) (P : Nat → Bool) (hn : 3 < n) (hm : m ≤ 60) (ha : numI a = (m : Nat)) (hal : a.length ≤ 1000000000)
    (hhead : ∀ W, After w W → Calls Tryz.prog 58 #[.agg #[.string ⟨#[]⟩, .slice (some ⟨b, 0, none⟩) n cap]] W fun e w' => e = .returned (str Fm.wAll) ∧ After W w')
    (h1 : ∀ W, After w W → W.cell? ⟨b, 2, none⟩ = some (str x)) (h2 : ∀ W, After w W → W.cell? ⟨b, 4, none⟩ = some (str a))
    (s3 : List UInt8) (ao3 : Option Addr) (n3 k3 : Nat) (h3 : ∀ W, After w W → W.cell? ⟨b, 6, none⟩ = some (str s3) ∧ W.cell? ⟨b, 7, none⟩ = some (.slice ao3 n3 k3))
    (hwi : ∀ W, After w W → ∀ k, k < m → Calls Tryz.prog 28 #[.agg #[str s3, .slice ao3 n3 k3], str x, .int .i64 (k : Nat)] W (SPPost w.heap.size W (U k)))
    (hho : ∀ k, k < m → ∀ W v, SV W 0 (U k) v → HoldS (P k) v W) : HoldS ((List.range m).all P) (.agg #[.string ⟨#[]⟩, .slice (some ⟨b, 0, none⟩) n cap]) w := by
  have hnum := fun W => s_num W a hal
  rw [ha] at hnum
  have hA := After.new w (.cells #[.string ⟨#[]⟩, .slice (some ⟨b, 0, none⟩) n cap] 35)
  have hb := heap_new' w (.cells #[.string ⟨#[]⟩, .slice (some ⟨b, 0, none⟩) n cap] 35)
  have k1' := hhead _ hA
  have c0 : (w.alloc (.cells #[.string ⟨#[]⟩, .slice (some ⟨b, 0, none⟩) n cap] 35)).cell? ⟨w.heap.size, 0, none⟩ = some (.string ⟨#[]⟩) := cell_of_heap (i := 0) hb
  have c1 : (w.alloc (.cells #[.string ⟨#[]⟩, .slice (some ⟨b, 0, none⟩) n cap] 35)).cell? ⟨w.heap.size, 1, none⟩ = some (.slice (some ⟨b, 0, none⟩) n cap) := cell_of_heap (i := 1) hb
  have HA := Lib.hid hA
  have HB := Lib.hid hb
  have HH := Lib.hid hhead
  have HC1 := Lib.hid h1
  have HC2 := Lib.hid h2
  have HC3 := Lib.hid h3
  have HWI := Lib.hid hwi
  have HHO := Lib.hid hho
  have HNUM := Lib.hid hnum
  have HN3 := Lib.hid hn
  have HN1 : Hid (1 < n) := (by show _ < _; omega)
  have hi2 : (2 : Int) < (n : Int) := by omega
  unfold HoldS
  unfold Fm.wAll at k1'
  clear hA hb hhead h1 h2 h3 hwi hho hnum hn ha hal
  go_enter Tryz.func39, Tryz.ntmps39
  go_wp2_with fail
  refine k1'.mono ?_
  rintro e Y0 ⟨rfl, ha2⟩
  have d0 : Y0.cell? ⟨w.heap.size, 0, none⟩ = some (.string ⟨#[]⟩) := cell_of_heap (i := 0) (ha2.heap HB.out)
  have d1 : Y0.cell? ⟨w.heap.size, 1, none⟩ = some (.slice (some ⟨b, 0, none⟩) n cap) := cell_of_heap (i := 1) (ha2.heap HB.out)
  have hh2 := HH.out Y0 (HA.out.trans ha2)
  have HA2 := Lib.hid ha2
  unfold Fm.wAll at hh2
  clear k1' ha2 c0 c1
  go_wp2_with fail
  refine hh2.mono ?_
  rintro e X ⟨rfl, ha3⟩
  have HBX : Hid (X.heap[w.heap.size]? = some (.cells #[.string ⟨#[]⟩, .slice (some ⟨b, 0, none⟩) n cap] 35 (0, 0))) := (HA2.out.trans ha3).heap HB.out
  have HwX : Hid (After w X) := (HA.out.trans HA2.out).trans ha3
  clear hh2 ha3 d0 d1
  go_wp2_with fail
  go_loopw [4] (fun i wr => ∃ k : Nat, i = .int .i64 k ∧ k ≤ m ∧ Hid (∀ j, j < k → P j = true) ∧ Hid (After X wr)) (fun i _ => m - (intOf i).toNat)
  case atStart => exact ⟨0, rfl, Nat.zero_le _, Lib.hid (fun j hj => absurd hj (Nat.not_lt_zero j)), Lib.hid (After.refl _)⟩
  case round =>
    obtain ⟨k, rfl, hk, HALL, HX⟩ := hrel
    have d1 : wr.cell? ⟨w.heap.size, 1, none⟩ = some (.slice (some ⟨b, 0, none⟩) n cap) := cell_of_heap (i := 1) (HX.out.heap HBX.out)
    have f4 := HC2.out wr (HwX.out.trans HX.out)
    have hnm := HNUM.out wr
    by_cases hlt : k < m
    · have hlti : (k : Int) < (m : Int) := by omega
      have HKL := Lib.hid hlt
      obtain ⟨q, hq⟩ : ∃ q, P k = q := ⟨_, rfl⟩
      have HPK := Lib.hid hq
      clear hlt hq
      go_wp2_with fail
      refine hnm.mono ?_
      rintro e Y ⟨rfl, rfl⟩
      clear hnm d1 f4
      have HBY : Hid (∀ W1, After wr W1 → W1.heap[w.heap.size]? = some (.cells #[.string ⟨#[]⟩, .slice (some ⟨b, 0, none⟩) n cap] 35 (0, 0))) := fun W1 h => (HX.out.trans h).heap HBX.out
      have HwY : Hid (After w wr) := HwX.out.trans HX.out
      go_wp2_with fail
      rename_i KK hKK
      have HL : Hid (∀ y ∈ (bindHL w.heap.size w.heap.size b n cap s3 ao3 n3 k3 x k (U k) q false), keepsU (AfterN w.heap.size) y) := bindHL_keep
      refine wp_region_use_tail (m := 14) (k := 0) (f := 16) (by kernel_rfl) (by kernel_rfl) (by kernel_rfl) (by kernel_rfl) (fun _ => none) (by kernel_rfl)
        99 (fun _ => True) (After wr) (yus (bindHL w.heap.size w.heap.size b n cap s3 ao3 n3 k3 x k (U k) q false)) trivial (After.refl wr).drew (lt14 ?_ ?_ ?_ ?_ ?_ ?_ ?_ ?_ ?_ ?_ ?_ ?_ ?_ ?_) ?_
      · intro vs W1 hA1 _ hd K hK
        exact du_val (by kernel_rfl) (wantedq (by kernel_rfl)) (by kernel_rfl) hA1 rfl hK
      · intro vs W1 hA1 _ hd K hK
        exact du_val (by kernel_rfl) (wantedq (by kernel_rfl)) (ruf_lds (x := .tmp 79) (u := vs 0) (by kernel_rfl) (by kernel_rfl) (hd 0 (by kernel_rfl)) (cell_of_heap (i := 1) (HBY.out W1 hA1))) hA1 rfl hK
      · intro vs W1 hA1 _ hd K hK
        exact du_val (by kernel_rfl) (wantedq (by kernel_rfl)) (ruf_ix (x := .tmp 80) (u := vs 1) (k := 3) (by kernel_rfl) (by kernel_rfl) (hd 1 (by kernel_rfl)) HN3.out) hA1 rfl hK
      · intro vs W1 hA1 _ hd K hK
        have hcc := (HC3.out W1 (HwY.out.trans hA1))
        exact du_val (by kernel_rfl) (wantedq (by kernel_rfl)) (rq_tree (x := .tmp 81) (u := vs 2) (b := b) (k := 6) (by kernel_rfl) (by kernel_rfl) (hd 2 (by kernel_rfl)) hcc.1 hcc.2) hA1 rfl hK
      · intro vs W1 hA1 _ hd K hK
        exact du_val (by kernel_rfl) (wantedq (by kernel_rfl)) (by kernel_rfl) hA1 rfl hK
      · intro vs W1 hA1 _ hd K hK
        exact du_val (by kernel_rfl) (wantedq (by kernel_rfl)) (ruf_lds (x := .tmp 83) (u := vs 4) (by kernel_rfl) (by kernel_rfl) (hd 4 (by kernel_rfl)) (cell_of_heap (i := 1) (HBY.out W1 hA1))) hA1 rfl hK
      · intro vs W1 hA1 _ hd K hK
        exact du_val (by kernel_rfl) (wantedq (by kernel_rfl)) (ruf_ix (x := .tmp 84) (u := vs 5) (k := 1) (by kernel_rfl) (by kernel_rfl) (hd 5 (by kernel_rfl)) HN1.out) hA1 rfl hK
      · intro vs W1 hA1 _ hd K hK
        exact du_val (by kernel_rfl) (wantedq (by kernel_rfl)) (ruf_f0 (x := .tmp 85) (u := vs 6) (by kernel_rfl) (by kernel_rfl) (hd 6 (by kernel_rfl))) hA1 rfl hK
      · intro vs W1 hA1 _ hd K hK
        exact du_val (by kernel_rfl) (wantedq (by kernel_rfl)) (ruf_ldstr (x := .tmp 86) (u := vs 7) (by kernel_rfl) (by kernel_rfl) (hd 7 (by kernel_rfl)) (HC1.out W1 (HwY.out.trans hA1))) hA1 rfl hK
      · intro vs W1 hA1 _ hd K hK
        exact du_val (by kernel_rfl) (wantedq (by kernel_rfl)) (by kernel_rfl) hA1 rfl hK
      · intro vs W1 hA1 _ hd K hK
        have hN1 : w.heap.size ≤ W1.heap.size := (HwY.out.trans hA1).size
        have e3 : vs 3 = .agg #[str s3, .slice ao3 n3 k3] := hd 3 (by kernel_rfl)
        have e8 : vs 8 = str x := hd 8 (by kernel_rfl)
        have e9 : vs 9 = .int .i64 k := hd 9 (by kernel_rfl)
        refine op_call (f := 28) (args := #[vs 3, vs 8, vs 9]) (by kernel_rfl) (wantedq (by kernel_rfl)) (by kernel_rfl) ?_
        rw [e3, e8, e9]
        refine (HWI.out W1 (HwY.out.trans hA1) k HKL.out).mono ?_
        rintro e W3 ⟨s9, ao9, n9, k9, rfl, ha3, hv3⟩
        exact ⟨_, rfl, hK _ _ ⟨hA1.trans ha3, fun _ h => h, fun j v _ _ _ h => yus_keep HL.out ⟨hN1, ha3⟩ j v h⟩ ⟨s9, ao9, n9, k9, W1.heap.size, W3.heap.size, rfl, Nat.zero_le _, Nat.le_refl _, hv3⟩⟩
      · intro vs W1 hA1 _ hd K hK
        have hN1 : w.heap.size ≤ W1.heap.size := (HwY.out.trans hA1).size
        obtain ⟨s9, ao9, n9, k9, S, E, e10, _, _, hv9⟩ := hd 10 (by kernel_rfl)
        have hh9 := HHO.out k HKL.out W1 (vs 10) hv9.sv
        unfold HoldS at hh9
        refine op_call (f := 39) (args := #[vs 10]) (by kernel_rfl) (wantedq (by kernel_rfl)) (by kernel_rfl) ?_
        refine (HPK.out ▸ hh9).mono ?_
        rintro e W3 ⟨rfl, ha3⟩
        exact ⟨_, rfl, hK _ _ ⟨hA1.trans ha3, fun _ h => h, fun j v _ _ _ h => yus_keep HL.out ⟨hN1, ha3⟩ j v h⟩ rfl⟩
      · intro vs W1 hA1 _ hd K hK
        exact du_val (by kernel_rfl) (wantedq (by kernel_rfl)) (by kernel_rfl) hA1 rfl hK
      · intro vs W1 hA1 _ hd K hK
        exact du_val (by kernel_rfl) (wantedq (by kernel_rfl)) (ru_eqlb (x := .tmp 90) (y := .tmp 91) (u := vs 11) (u' := vs 12) (n := q) (m := false) (by kernel_rfl) (by kernel_rfl) (hd 11 (by kernel_rfl)) (by kernel_rfl) (hd 12 (by kernel_rfl))) hA1 rfl hK
      intro vs W1 hA1 hd
      have e13 : vs 13 = .bool (q == false) := hd 13 (by decide) (fun c hc => by cases hc)
      refine hKK _ _ ?_
      refine wp_frame (⟨List.toArray ((Value.agg #[Value.string { data := #[] }, Value.slice (some { block := b, off := 0 }) n cap]) :: (Value.pointer (some { block := w.heap.size, off := 0 })) :: (u2) :: (Value.bool false) :: (Value.int IntKind.i64 ↑k) :: (Value.agg #[Value.string { data := #[] }, Value.slice (some { block := b, off := 0 }) n cap]) :: (str [97, 108, 108]) :: (Value.bool false) :: (Value.bool false) :: (undef) :: (undef) :: (undef) :: (undef) :: (undef) :: (undef) :: (undef) :: (undef) :: (undef) :: (undef) :: (undef) :: (Value.bool false) :: (Value.bool false) :: (undef) :: (undef) :: (undef) :: (undef) :: (undef) :: (undef) :: (undef) :: (undef) :: (undef) :: (undef) :: (undef) :: (undef) :: (Value.bool false) :: (Value.bool false) :: (undef) :: (undef) :: (undef) :: (undef) :: (undef) :: (undef) :: (undef) :: (undef) :: (undef) :: (undef) :: (undef) :: (undef) :: (Value.bool false) :: (Value.bool false) :: (undef) :: (undef) :: (undef) :: (undef) :: (undef) :: (undef) :: (undef) :: (undef) :: (undef) :: (undef) :: (undef) :: (undef) :: (undef) :: (Value.bool true) :: (Value.bool true) :: (undef) :: (Value.agg #[Value.string { data := #[] }, Value.slice (some { block := b, off := 0 }) n cap]) :: (str [97, 108, 108]) :: (Value.bool false) :: (Value.int IntKind.i64 ↑k) :: (Value.pointer (some { block := w.heap.size, off := 1 })) :: (Value.slice (some { block := b, off := 0 }) n cap) :: (Value.pointer (some { block := b, off := 4 })) :: (Value.pointer (some { block := b, off := 4 })) :: (str a) :: (Value.int IntKind.i64 ↑m) :: (Value.bool true) :: (u77) :: (u78) :: (vs 0) :: (vs 1) :: (vs 2) :: (vs 3) :: (vs 4) :: (vs 5) :: (vs 6) :: (vs 7) :: (vs 8) :: (vs 9) :: (vs 10) :: (vs 11) :: (vs 12) :: (vs 13) :: (u93) :: (undef) :: (undef) :: (undef) :: (undef) :: (undef) :: []), []⟩ : Act) (by kernel_rfl) ?_
      rw [e13]
      have HA1 := Lib.hid hA1
      clear hd e13 hA1
      generalize vs 0 = y0 at *
      generalize vs 1 = y1 at *
      generalize vs 2 = y2 at *
      generalize vs 3 = y3 at *
      generalize vs 4 = y4 at *
      generalize vs 5 = y5 at *
      generalize vs 6 = y6 at *
      generalize vs 7 = y7 at *
      generalize vs 8 = y8 at *
      generalize vs 9 = y9 at *
      generalize vs 10 = y10 at *
      generalize vs 11 = y11 at *
      generalize vs 12 = y12 at *
      generalize vs 13 = y13 at *
      cases q with
      | false =>
        go_wp2_with fail
        go_ret
        refine ⟨?_, HwY.out.trans HA1.out⟩
        rw [show (List.range m).all P = false from List.all_eq_false.2 ⟨k, List.mem_range.2 HKL.out, by rw [HPK.out]; decide⟩]
        rfl
      | true =>
        go_wp2_with fail
        go_roundw
        case rel =>
          refine ⟨k + 1, by go_num, HKL.out, Lib.hid (fun j hj => ?_), Lib.hid (HX.out.trans HA1.out)⟩
          by_cases e : j = k
          · rw [e]; exact HPK.out
          · exact HALL.out j (by omega)
        case measure => have := HKL.out; simp [intOf]; omega
    · obtain rfl : k = m := by omega
      go_wp2_with fail
      refine hnm.mono ?_
      rintro e Y ⟨rfl, rfl⟩
      clear hnm d1 f4
      go_wp2_with fail
      go_ret
      refine ⟨?_, HwX.out.trans HX.out⟩
      rw [show (List.range k).all P = true from List.all_eq_true.2 fun j hj => HALL.out j (List.mem_range.1 hj)]
      rfl
end Go.Proofs.YtdjoafnohkmneaaGreatDoor

namespace Go.Proofs.YtdjoafnohkmneaaGreatDoor
open Go.RowKit

set_option maxHeartbeats 2000000
set_option maxRecDepth 100000

theorem tree_sxOk (f : Fo) (h : Fm.okm f) : Fm.sxOk (Fm.tree f) := (Fm.tree_ok f h).1

theorem s_holds : ∀ (d : Nat), d ≤ 151 → ∀ (f : Fo) (w : World) (B : Nat) (v : Value), SV w B (Fm.tree f) v → Fm.okm f → Fm.occ f = [] → Fm.sxDepth (Fm.tree f) < d → Fm.atoms f ≤ 1000 → HoldS (Fm.holdsF d f) v w
  | 0, _, _, _, _, _, _, _, _, h, _ => absurd h (Nat.not_lt_zero _)
  | d + 1, hd1, f, w, B, v, h, ho, hc, hd, hat => by
    have ih := s_holds d (by omega)
    have hok := tree_sxOk f ho
    have hsv := h
    cases f with
    | top =>
      simp only [Fm.tree, SV] at h
      subst h
      exact s_hold_atom w Fm.wTop true (by decide) (by decide)
    | bot =>
      simp only [Fm.tree, SV] at h
      subst h
      exact s_hold_atom w Fm.wBot false (by decide) (by decide)
    | eq a b =>
      have hc := List.append_eq_nil_iff.1 hc
      obtain ⟨b', cap, rfl, hp⟩ := SV.part (ps := [.atom Fm.wEq, Fm.exTree a, Fm.exTree b]) h
      exact s_hold_eq w b' cap 3 (Fm.valE a) (Fm.valE b) (by decide) (fun W hW => s_head W B (Fm.tree (.eq a b)) _ (hsv.after hW) hok)
        (part_c hp 1 (by simp) fun v W hv => s_val a W B v hv ho.1 hc.1) (part_c hp 2 (by simp) fun v W hv => s_val b W B v hv ho.2 hc.2)
    | and f g =>
      have hc := List.append_eq_nil_iff.1 hc
      simp only [Fm.tree, Fm.sxDepth, Fm.sxDepths, Fm.atoms] at hd hat
      obtain ⟨b', cap, rfl, hp⟩ := SV.part (ps := [.atom Fm.wAnd, Fm.tree f, Fm.tree g]) h
      exact s_hold_and w b' cap 3 (Fm.holdsF d f) (Fm.holdsF d g) (by decide) (fun W hW => s_head W B (Fm.tree (.and f g)) _ (hsv.after hW) hok)
        (part_c hp 1 (by simp) fun v W hv => ih f W B v hv ho.1 hc.1 (by omega) (by omega)) (part_c hp 2 (by simp) fun v W hv => ih g W B v hv ho.2 hc.2 (by omega) (by omega))
    | or f g =>
      have hc := List.append_eq_nil_iff.1 hc
      simp only [Fm.tree, Fm.sxDepth, Fm.sxDepths, Fm.atoms] at hd hat
      obtain ⟨b', cap, rfl, hp⟩ := SV.part (ps := [.atom Fm.wOr, Fm.tree f, Fm.tree g]) h
      exact s_hold_or w b' cap 3 (Fm.holdsF d f) (Fm.holdsF d g) (by decide) (fun W hW => s_head W B (Fm.tree (.or f g)) _ (hsv.after hW) hok)
        (part_c hp 1 (by simp) fun v W hv => ih f W B v hv ho.1 hc.1 (by omega) (by omega)) (part_c hp 2 (by simp) fun v W hv => ih g W B v hv ho.2 hc.2 (by omega) (by omega))
    | imp f g =>
      have hc := List.append_eq_nil_iff.1 hc
      simp only [Fm.tree, Fm.sxDepth, Fm.sxDepths, Fm.atoms] at hd hat
      obtain ⟨b', cap, rfl, hp⟩ := SV.part (ps := [.atom Fm.wImp, Fm.tree f, Fm.tree g]) h
      exact s_hold_imp w b' cap 3 (Fm.holdsF d f) (Fm.holdsF d g) (by decide) (fun W hW => s_head W B (Fm.tree (.imp f g)) _ (hsv.after hW) hok)
        (part_c hp 1 (by simp) fun v W hv => ih f W B v hv ho.1 hc.1 (by omega) (by omega)) (part_c hp 2 (by simp) fun v W hv => ih g W B v hv ho.2.1 hc.2 (by omega) (by omega))
    | all x n f =>
      obtain ⟨hx, h1, h6, hof⟩ := ho
      simp only [Fm.tree, Fm.sxDepth, Fm.sxDepths, Fm.atoms] at hd hat
      have hcp : ∀ m, Fm.occ (Fm.putF x (.num m) f) = [] := fun m => by rw [Fm.occ_put]; exact hc
      obtain ⟨b', cap, rfl, hp⟩ := SV.part (ps := [.atom Fm.wAll, .atom x, .atom (Fm.dec n), Fm.tree f]) h
      obtain ⟨_, _, hc1, _⟩ := hp 1 (by simp)
      obtain ⟨_, _, hc2, _⟩ := hp 2 (by simp)
      obtain ⟨ao3, k3, hc3, hs3⟩ := hp 3 (by simp)
      have hdep : Fm.sxDepth (Fm.tree f) < d := by omega
      exact s_hold_all w b' cap 4 n x (Fm.dec n) (fun k => Fm.tree (Fm.putF x (.num k) f)) (fun k => Fm.holdsF d (Fm.putF x (.num k) f)) (by decide) (by omega) (numI_dec n (by omega)) (by have := Fm.dec_len n; omega)
        (fun W hW => s_head W B (Fm.tree (.all x n f)) _ (hsv.after hW) hok) (fun W hW => (hc1 W hW).1) (fun W hW => (hc2 W hW).1) _ ao3 _ k3 (fun W hW => hc3 W hW)
        (fun W hW k hk => by
          have := s_with w W (Fm.tree f) _ x k 151 (hs3.less (Nat.zero_le _)) (goodX_tree f hof (by omega)) (Fm.wOk_fo f 151 (by omega)) (by omega) hW
          rw [Fm.sput_fo x k hx f 151 (by omega) hof] at this
          exact this)
        (fun k hk W v hv => ih _ W 0 v hv (Fm.okm_put x k (by omega) f hof) (hcp k) (by rw [Fm.depth_put]; exact hdep) (by rw [Fm.atoms_put]; omega))
    | ex x n f =>
      obtain ⟨hx, h1, h6, hof⟩ := ho
      simp only [Fm.tree, Fm.sxDepth, Fm.sxDepths, Fm.atoms] at hd hat
      have hcp : ∀ m, Fm.occ (Fm.putF x (.num m) f) = [] := fun m => by rw [Fm.occ_put]; exact hc
      obtain ⟨b', cap, rfl, hp⟩ := SV.part (ps := [.atom Fm.wEx, .atom x, .atom (Fm.dec n), Fm.tree f]) h
      obtain ⟨_, _, hc1, _⟩ := hp 1 (by simp)
      obtain ⟨_, _, hc2, _⟩ := hp 2 (by simp)
      obtain ⟨ao3, k3, hc3, hs3⟩ := hp 3 (by simp)
      have hdep : Fm.sxDepth (Fm.tree f) < d := by omega
      exact s_hold_ex w b' cap 4 n x (Fm.dec n) (fun k => Fm.tree (Fm.putF x (.num k) f)) (fun k => Fm.holdsF d (Fm.putF x (.num k) f)) (by decide) (by omega) (numI_dec n (by omega)) (by have := Fm.dec_len n; omega)
        (fun W hW => s_head W B (Fm.tree (.ex x n f)) _ (hsv.after hW) hok) (fun W hW => (hc1 W hW).1) (fun W hW => (hc2 W hW).1) _ ao3 _ k3 (fun W hW => hc3 W hW)
        (fun W hW k hk => by
          have := s_with w W (Fm.tree f) _ x k 151 (hs3.less (Nat.zero_le _)) (goodX_tree f hof (by omega)) (Fm.wOk_fo f 151 (by omega)) (by omega) hW
          rw [Fm.sput_fo x k hx f 151 (by omega) hof] at this
          exact this)
        (fun k hk W v hv => ih _ W 0 v hv (Fm.okm_put x k (by omega) f hof) (hcp k) (by rw [Fm.depth_put]; exact hdep) (by rw [Fm.atoms_put]; omega))
end Go.Proofs.YtdjoafnohkmneaaGreatDoor
