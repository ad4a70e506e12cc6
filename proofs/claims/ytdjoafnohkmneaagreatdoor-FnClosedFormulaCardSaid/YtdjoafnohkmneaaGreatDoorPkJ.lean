/-
  The model's l6fFormula: the formula of a text.
-/
import Derived.Test.YtdjoafnohkmneaaGreatDoorPkI
import Derived.Test.YtdjoafnohkmneaaGreatDoorPkH
namespace Go.Proofs.YtdjoafnohkmneaaGreatDoor
open Go.RowKit

set_option maxHeartbeats 4000000
set_option maxRecDepth 100000

/-- What l6fFormula hands back. -/
def MFPost (w : World) (o : Option SX) (e : Ending) (w' : World) : Prop :=
  ∃ s ao n c, e = .returned (.tuple #[.agg #[str s, .slice ao n c], .bool o.isSome]) ∧ After w w' ∧ ∀ t, o = some t → SV w' w.heap.size t (.agg #[str s, .slice ao n c])

theorem s_form_long (w : World) (l : List UInt8) (h : 1000 < l.length) : Calls Tryz.prog 24 #[str l] w (MFPost w (Fm.mform l)) := by
  have e : Fm.mform l = none := by unfold Fm.mform; rw [if_pos h]
  have hsz : (⟨l.toArray⟩ : ByteArray).size = l.length := by show l.toArray.size = _; simp
  have hb : (1000 : Int) < (l.length : Int) := by omega
  rw [e]
  clear e h
  go_enter Tryz.func24, Tryz.ntmps24
  go_wp2_with fail
  exact bodyPost_ret (v := .tuple #[.agg #[.string ⟨#[]⟩, .slice none 0 0], .bool false]) (by simp [results, Tryz.results24, go_sem]) rfl
    ⟨[], none, 0, 0, rfl, by repeat (first | exact After.refl _ | refine After.alloc ?_ _ | refine Below.setCell ?_ (by first | exact Nat.le_refl _ | exact Nat.le_succ _) _), fun t h => by cases h⟩

theorem two_of {w : World} {q : Nat} {a b : Value} {T : TypeId} {fr : Nat × Nat} {x y : Value} (h : ∃ c, w.heap[q]? = some (.cells c T fr) ∧ (c = #[a, b] ∨ c = #[x, y])) : ∃ p0 p1, w.heap[q]? = some (.cells #[p0, p1] T fr) := by
  obtain ⟨c, hc, rfl | rfl⟩ := h
  · exact ⟨_, _, hc⟩
  · exact ⟨_, _, hc⟩

/-- Behind the region: what was read lies as it was; of the old blocks only the result's own was written. -/
theorem fin_form {w w1 W : World} {p ob : Obj} {o : Option SX} {v : Value} (ha : After (w.alloc p) w1) (hs : ∀ t, o = some t → SV w1 (w.heap.size + 1) t v) (hX : ExtQ w.heap.size ob w1 W) :
    After w W ∧ ∀ t, o = some t → SV W w.heap.size t v := by
  have hsz : (w.alloc p).heap.size = w.heap.size + 1 := by simp
  have h1 : w.heap.size + 1 ≤ w1.heap.size := by rw [← hsz]; exact ha.size
  have ha' : After w w1 := (After.new w p).trans ha
  refine ⟨⟨hX.1.os.trans ha'.os, hX.1.tape.trans ha'.tape, hX.1.output.trans ha'.output, Nat.le_trans ha'.size hX.1.size, fun b hb => ?_⟩, fun t ht => ?_⟩
  · rw [hX.1.block b (by omega) (fun e => by injection e with e; omega)]
    exact ha'.block b hb
  · refine ((hs t ht).same fun b hb hl => ?_).less (Nat.le_succ _)
    exact hX.1.block b hl (fun e => by injection e with e; omega)

/-- What is read of the text, and what the three checks answer of it. -/
def FormRead (w : World) (l : List UInt8) (o : Option SX) (e : Ending) (w' : World) : Prop :=
  ∃ (s : List UInt8) (ao : Option Addr) (n c : Nat) (z : Int) (b1 : Bool) (x y : Int), e = .returned (.tuple #[.agg #[str s, .slice ao n c], .int .i64 z]) ∧ After (w.alloc (.cells #[.string ⟨#[]⟩, .slice none 0 0] 35)) w' ∧
     (∀ t, o = some t → SV w' (w.heap.size + 1) t (.agg #[str s, .slice ao n c])) ∧
     (z = (l.length : Int) → ∀ W, ExtQ w.heap.size (.cells #[str s, .slice ao n c] 35 (0, 0)) w' W → Calls Tryz.prog 49 #[.agg #[str s, .slice ao n c]] W fun e w' => e = .returned (.bool b1) ∧ After W w') ∧
     (z = (l.length : Int) → b1 = true → ∀ W, ExtQ w.heap.size (.cells #[str s, .slice ao n c] 35 (0, 0)) w' W → Calls Tryz.prog 34 #[.agg #[str s, .slice ao n c]] W fun e w' => e = .returned (.int .i64 x) ∧ After W w') ∧
     (z = (l.length : Int) → b1 = true → x ≤ 60 → ∀ W, ExtQ w.heap.size (.cells #[str s, .slice ao n c] 35 (0, 0)) w' W → Calls Tryz.prog 50 #[.agg #[str s, .slice ao n c]] W fun e w' => e = .returned (.int .i64 y) ∧ After W w') ∧
     o.isSome = (decide (z = (l.length : Int)) && (b1 && (decide (x ≤ 60) && decide (y ≤ 300))))

theorem s_form_core (w : World) (l : List UInt8) (h : l.length ≤ 1000) (o : Option SX)
   (hr : Calls Tryz.prog 32 #[str l, .int .i64 0, .int .i64 0] (w.alloc (.cells #[.string ⟨#[]⟩, .slice none 0 0] 35)) (FormRead w l o)) : Calls Tryz.prog 24 #[str l] w (MFPost w o) := by
  have hsz : (⟨l.toArray⟩ : ByteArray).size = l.length := by show l.toArray.size = _; simp
  have hb : (l.length : Int) ≤ (1000 : Int) := by omega
  have hq : (w.alloc (.cells #[.string ⟨#[]⟩, .slice none 0 0] 35)).heap[w.heap.size]? = some (.cells #[str [], .slice none 0 0] 35 (0, 0)) := heap_top _ _
  clear h
  unfold FormRead at hr
  go_enter Tryz.func24, Tryz.ntmps24
  go_wp2_with fail
  refine hr.mono ?_
  rintro e w1 ⟨s, ao, n, c, z, b1, x, y, rfl, ha, hsv, hIs, hSz, hWd, ho⟩
  have HO := Lib.hid ho
  clear hr
  have HA := Lib.hid ha
  have HS := Lib.hid hsv
  have HQ0 := Lib.hid (ha.heap hq)
  have HI := Lib.hid hIs
  have HZ := Lib.hid hSz
  have HD := Lib.hid hWd
  have HNE : Hid (w1.heap.size ≠ w.heap.size) := by show _ ≠ _; have := (Array.getElem?_eq_some_iff.1 HQ0.out).1; omega
  clear ha hq hsv hIs hSz hWd ho
  go_wp2_with fail
  rename_i KK hKK
  obtain ⟨Y, hY⟩ : ∃ Y, Y = w1.alloc (.cells #[.string ⟨s.toArray⟩, .slice ao n c] 35) := ⟨_, rfl⟩
  rw [← hY]
  have HYA : Hid (After w1 Y) := by show After _ _; rw [hY]; exact After.new _ _
  have HT : Hid (Y.drew.heap[w1.heap.size]? = some (.cells #[str s, .slice ao n c] 35 (0, 0))) := by show Y.heap[_]? = _; rw [hY]; exact heap_top _ _
  have HQ : Hid (Y.drew.heap[w.heap.size]? = some (.cells #[str [], .slice none 0 0] 35 (0, 0))) := HYA.out.heap HQ0.out
  have HX : Hid (∀ W, ExtQ w.heap.size (.cells #[str s, .slice ao n c] 35 (0, 0)) Y.drew W → ExtQ w.heap.size (.cells #[str s, .slice ao n c] 35 (0, 0)) w1 W) := fun W hW => (ExtQ.of (HYA.out.trans (After.refl Y).drew)).trans _ _ _ hW
  clear hY
  by_cases hz : z = (l.length : Int)
  case neg =>
    have hz2 : (z == ((l.length : Nat) : Int)) = false := beq_eq_false_iff_ne.2 hz
    
    refine wp_region_regB (by kernel_rfl) (by kernel_rfl) (ExtQ w.heap.size (.cells #[str s, .slice ao n c] 35 (0, 0))) (fun w => (ExtQ.refl _ _ w)) ExtQ.trans
      (yqs [.lit (.agg #[str s, .slice ao n c]), .lit (.int .i64 z), .lit (str l), .lit (.int .i64 (l.length : Nat)), .lit (.bool false), .lit (.bool false), .free, .free, .lit (.bool false), .lit (.bool false), .free, .free, .free, .lit (.bool false), .lit (.bool false), .free, .free, .free, .lit (.bool false), .fact (fun W => W.heap[w.heap.size]? = some (.cells #[str s, .slice ao n c] 35 (0, 0))), .lit (.bool false)]) (yqs_later ?_) (lt21 ?_ ?_ ?_ ?_ ?_ ?_ ?_ ?_ ?_ ?_ ?_ ?_ ?_ ?_ ?_ ?_ ?_ ?_ ?_ ?_ ?_) ?_
    · intro y hy
      simp only [List.mem_cons, List.not_mem_nil, or_false] at hy
      rcases hy with rfl | rfl | rfl | rfl | rfl | rfl | rfl | rfl | rfl | rfl | rfl | rfl | rfl | rfl | rfl | rfl | rfl | rfl | rfl | rfl | rfl
      all_goals first | exact trivial | exact fun _ _ h k => ExtQ.kept h k
    · intro vs W hE hd K hK
      exact dq_val (u := .agg #[str s, .slice ao n c]) (v := .agg #[str s, .slice ao n c]) (ExtQ.refl _ _ _) (by kernel_rfl) (wantedq (by kernel_rfl)) (rq_tree (x := .tmp 4) (u := .pointer (some ⟨w1.heap.size, 0, none⟩)) (b := w1.heap.size) (k := 0) (by kernel_rfl) (by kernel_rfl) rfl (cell_of_heap (i := 0) (hE.heap HT.out HNE.out)) (cell_of_heap (i := 1) (hE.heap HT.out HNE.out))) rfl hK
    · intro vs W hE hd K hK
      exact dq_val (u := .int .i64 z) (v := .int .i64 z) (ExtQ.refl _ _ _) (by kernel_rfl) (wantedq (by kernel_rfl)) (by kernel_rfl) rfl hK
    · intro vs W hE hd K hK
      exact dq_val (u := str l) (v := str l) (ExtQ.refl _ _ _) (by kernel_rfl) (wantedq (by kernel_rfl)) (by kernel_rfl) rfl hK
    · intro vs W hE hd K hK
      exact dq_val (u := .int .i64 (l.length : Nat)) (v := .int .i64 (l.length : Nat)) (ExtQ.refl _ _ _) (by kernel_rfl) (wantedq (by kernel_rfl)) (rq_len (x := .tmp 17) (u := vs 2) (l := l) (by kernel_rfl) (by kernel_rfl) (hd 2 (by kernel_rfl))) rfl hK
    · intro vs W hE hd K hK
      exact dq_val (u := .bool false) (v := .bool false) (ExtQ.refl _ _ _) (by kernel_rfl) (wantedq (by kernel_rfl)) (rq_eql (T := 3) (T' := 3) (x := .tmp 16) (y := .tmp 18) (u := vs 1) (u' := vs 3) (n := z) (m := (l.length : Nat)) (by kernel_rfl) (by kernel_rfl) (hd 1 (by kernel_rfl)) (by kernel_rfl) (hd 3 (by kernel_rfl)) hz2) rfl hK
    · intro vs W hE hd K hK
      exact dq_val (u := vs 4) (v := .bool false) (ExtQ.refl _ _ _) (by kernel_rfl) (wantedq (by kernel_rfl)) (by kernel_rfl) (hd 4 (by kernel_rfl)) hK
    · intro vs W hE hd K hK
      exact dq_off (ExtQ.refl _ _ _) (by kernel_rfl) (wantedq_off (j := 5) (b := true) (c := false) (u := vs 5) (by kernel_rfl) (by kernel_rfl) (hd 5 (by kernel_rfl)) (by decide)) hK
    · intro vs W hE hd K hK
      exact dq_off (ExtQ.refl _ _ _) (by kernel_rfl) (wantedq_off (j := 5) (b := true) (c := false) (u := vs 5) (by kernel_rfl) (by kernel_rfl) (hd 5 (by kernel_rfl)) (by decide)) hK
    · intro vs W hE hd K hK
      exact dq_val (u := .bool false) (v := .bool false) (ExtQ.refl _ _ _) (by kernel_rfl) (wantedq (by kernel_rfl)) (rq_pick (c := .tmp 20) (x := .tmp 22) (y := .const (.bool false)) (u := vs 5) (p := false) (r := .bool false) (by kernel_rfl) (by kernel_rfl) (hd 5 (by kernel_rfl)) (by rw [if_neg (by decide)]; exact Eq.trans (by kernel_rfl : _ = .bool false) rfl)) rfl hK
    · intro vs W hE hd K hK
      exact dq_val (u := vs 8) (v := .bool false) (ExtQ.refl _ _ _) (by kernel_rfl) (wantedq (by kernel_rfl)) (by kernel_rfl) (hd 8 (by kernel_rfl)) hK
    · intro vs W hE hd K hK
      exact dq_off (ExtQ.refl _ _ _) (by kernel_rfl) (wantedq_off (j := 9) (b := true) (c := false) (u := vs 9) (by kernel_rfl) (by kernel_rfl) (hd 9 (by kernel_rfl)) (by decide)) hK
    · intro vs W hE hd K hK
      exact dq_off (ExtQ.refl _ _ _) (by kernel_rfl) (wantedq_off (j := 9) (b := true) (c := false) (u := vs 9) (by kernel_rfl) (by kernel_rfl) (hd 9 (by kernel_rfl)) (by decide)) hK
    · intro vs W hE hd K hK
      exact dq_off (ExtQ.refl _ _ _) (by kernel_rfl) (wantedq_off (j := 9) (b := true) (c := false) (u := vs 9) (by kernel_rfl) (by kernel_rfl) (hd 9 (by kernel_rfl)) (by decide)) hK
    · intro vs W hE hd K hK
      exact dq_val (u := .bool false) (v := .bool false) (ExtQ.refl _ _ _) (by kernel_rfl) (wantedq (by kernel_rfl)) (rq_pick (c := .tmp 24) (x := .tmp 27) (y := .const (.bool false)) (u := vs 9) (p := false) (r := .bool false) (by kernel_rfl) (by kernel_rfl) (hd 9 (by kernel_rfl)) (by rw [if_neg (by decide)]; exact Eq.trans (by kernel_rfl : _ = .bool false) rfl)) rfl hK
    · intro vs W hE hd K hK
      exact dq_val (u := vs 13) (v := .bool false) (ExtQ.refl _ _ _) (by kernel_rfl) (wantedq (by kernel_rfl)) (by kernel_rfl) (hd 13 (by kernel_rfl)) hK
    · intro vs W hE hd K hK
      exact dq_off (ExtQ.refl _ _ _) (by kernel_rfl) (wantedq_off (j := 14) (b := true) (c := false) (u := vs 14) (by kernel_rfl) (by kernel_rfl) (hd 14 (by kernel_rfl)) (by decide)) hK
    · intro vs W hE hd K hK
      exact dq_off (ExtQ.refl _ _ _) (by kernel_rfl) (wantedq_off (j := 14) (b := true) (c := false) (u := vs 14) (by kernel_rfl) (by kernel_rfl) (hd 14 (by kernel_rfl)) (by decide)) hK
    · intro vs W hE hd K hK
      exact dq_off (ExtQ.refl _ _ _) (by kernel_rfl) (wantedq_off (j := 14) (b := true) (c := false) (u := vs 14) (by kernel_rfl) (by kernel_rfl) (hd 14 (by kernel_rfl)) (by decide)) hK
    · intro vs W hE hd K hK
      exact dq_val (u := .bool false) (v := .bool false) (ExtQ.refl _ _ _) (by kernel_rfl) (wantedq (by kernel_rfl)) (rq_pick (c := .tmp 29) (x := .tmp 32) (y := .const (.bool false)) (u := vs 14) (p := false) (r := .bool false) (by kernel_rfl) (by kernel_rfl) (hd 14 (by kernel_rfl)) (by rw [if_neg (by decide)]; exact Eq.trans (by kernel_rfl : _ = .bool false) rfl)) rfl hK
    · intro vs W hE hd K hK
      have hp0 : ∃ p0 p1, W.heap[w.heap.size]? = some (.cells #[p0, p1] 35 (0, 0)) := two_of (hE.cells HQ.out)
      obtain ⟨p0, p1, hp⟩ := hp0
      obtain ⟨W', hrun, hext, hfin⟩ := rq_store (ops := _) (A := frame _ _ vs) (i := 19) (x := .tmp 2) (y := .tmp 15) (u := .pointer (some ⟨w.heap.size, 0, none⟩)) (v := vs 0) (b := w.heap.size) (by kernel_rfl) (by kernel_rfl) rfl (by kernel_rfl) (hd 0 (by kernel_rfl)) hp rfl rfl
      exact dq_skip hext (by kernel_rfl) (wantedq (by kernel_rfl)) hrun _ hfin hK
    · intro vs W hE hd K hK
      exact dq_val (u := vs 18) (v := .bool false) (ExtQ.refl _ _ _) (by kernel_rfl) (wantedq (by kernel_rfl)) (by kernel_rfl) (hd 18 (by kernel_rfl)) hK
    intro vs W hE hd
    have ev0 : vs 0 = .agg #[str s, .slice ao n c] := hd 0 (by decide)
    have ev1 : vs 1 = .int .i64 z := hd 1 (by decide)
    have ev2 : vs 2 = str l := hd 2 (by decide)
    have ev3 : vs 3 = .int .i64 (l.length : Nat) := hd 3 (by decide)
    have ev4 : vs 4 = .bool false := hd 4 (by decide)
    have ev5 : vs 5 = .bool false := hd 5 (by decide)
    have ev8 : vs 8 = .bool false := hd 8 (by decide)
    have ev9 : vs 9 = .bool false := hd 9 (by decide)
    have ev13 : vs 13 = .bool false := hd 13 (by decide)
    have ev14 : vs 14 = .bool false := hd 14 (by decide)
    have ev18 : vs 18 = .bool false := hd 18 (by decide)
    have hst19 : (fun W => W.heap[w.heap.size]? = some (.cells #[str s, .slice ao n c] 35 (0, 0))) W := hd 19 (by decide)
    have ev20 : vs 20 = .bool false := hd 20 (by decide)
    refine hKK _ _ ?_
    rw [frame_is (⟨#[str l, undef, .pointer (some ⟨w.heap.size, 0, none⟩), vs 20, .pointer (some ⟨w1.heap.size, 0, none⟩), .int .i64 z, str l, .int .i64 (l.length : Nat), .bool (decide (1000 < (l.length : Int))), undef, .tuple #[.agg #[str s, .slice ao n c], .int .i64 z], str l, .tuple #[.agg #[str s, .slice ao n c], .int .i64 z], .agg #[str s, .slice ao n c], .int .i64 z, vs 0, vs 1, vs 2, vs 3, vs 4, vs 5, vs 6, vs 7, vs 8, vs 9, vs 10, vs 11, vs 12, vs 13, vs 14, vs 15, vs 16, vs 17, vs 18], []⟩ : Act) (by kernel_rfl)]
    rw [ev0, ev1, ev2, ev3, ev4, ev5, ev8, ev9, ev13, ev14, ev18, ev20]
    clear hd ev0 ev1 ev2 ev3 ev4 ev5 ev8 ev9 ev13 ev14 ev18 ev20
    generalize vs 6 = y6 at *
    generalize vs 7 = y7 at *
    generalize vs 10 = y10 at *
    generalize vs 11 = y11 at *
    generalize vs 12 = y12 at *
    generalize vs 15 = y15 at *
    generalize vs 16 = y16 at *
    generalize vs 17 = y17 at *
    have HFIN : Hid (After w W ∧ ∀ t, o = some t → SV W w.heap.size t (.agg #[str s, .slice ao n c])) := fin_form HA.out HS.out (HX.out W hE)
    have k0 : W.cell? ⟨w.heap.size, 0, none⟩ = some (str s) := cell_of_heap (i := 0) hst19
    have k1 : W.cell? ⟨w.heap.size, 1, none⟩ = some (.slice ao n c) := cell_of_heap (i := 1) hst19
    clear hst19 hE
    go_wp2_with fail
    exact bodyPost_ret (v := .tuple #[.agg #[str s, .slice ao n c], .bool false]) (by simp [results, Tryz.results24, go_sem, k0, k1]) rfl
      ⟨s, ao, n, c, by rw [HO.out]; rw [decide_eq_false hz]; rfl, HFIN.out.1, HFIN.out.2⟩
  have hz2 : (z == ((l.length : Nat) : Int)) = true := by rw [hz]; simp
  have HZE := Lib.hid hz
  clear hz
  cases b1 with
  | false =>
    have hIs := fun W (hW : ExtQ w.heap.size (.cells #[str s, .slice ao n c] 35 (0, 0)) Y.drew W) => HI.out HZE.out W (HX.out W hW)
    refine wp_region_regB (by kernel_rfl) (by kernel_rfl) (ExtQ w.heap.size (.cells #[str s, .slice ao n c] 35 (0, 0))) (fun w => (ExtQ.refl _ _ w)) ExtQ.trans
      (yqs [.lit (.agg #[str s, .slice ao n c]), .lit (.int .i64 z), .lit (str l), .lit (.int .i64 (l.length : Nat)), .lit (.bool true), .lit (.bool true), .lit (.agg #[str s, .slice ao n c]), .lit (.bool false), .lit (.bool false), .lit (.bool false), .free, .free, .free, .lit (.bool false), .lit (.bool false), .free, .free, .free, .lit (.bool false), .fact (fun W => W.heap[w.heap.size]? = some (.cells #[str s, .slice ao n c] 35 (0, 0))), .lit (.bool false)]) (yqs_later ?_) (lt21 ?_ ?_ ?_ ?_ ?_ ?_ ?_ ?_ ?_ ?_ ?_ ?_ ?_ ?_ ?_ ?_ ?_ ?_ ?_ ?_ ?_) ?_
    · intro y hy
      simp only [List.mem_cons, List.not_mem_nil, or_false] at hy
      rcases hy with rfl | rfl | rfl | rfl | rfl | rfl | rfl | rfl | rfl | rfl | rfl | rfl | rfl | rfl | rfl | rfl | rfl | rfl | rfl | rfl | rfl
      all_goals first | exact trivial | exact fun _ _ h k => ExtQ.kept h k
    · intro vs W hE hd K hK
      exact dq_val (u := .agg #[str s, .slice ao n c]) (v := .agg #[str s, .slice ao n c]) (ExtQ.refl _ _ _) (by kernel_rfl) (wantedq (by kernel_rfl)) (rq_tree (x := .tmp 4) (u := .pointer (some ⟨w1.heap.size, 0, none⟩)) (b := w1.heap.size) (k := 0) (by kernel_rfl) (by kernel_rfl) rfl (cell_of_heap (i := 0) (hE.heap HT.out HNE.out)) (cell_of_heap (i := 1) (hE.heap HT.out HNE.out))) rfl hK
    · intro vs W hE hd K hK
      exact dq_val (u := .int .i64 z) (v := .int .i64 z) (ExtQ.refl _ _ _) (by kernel_rfl) (wantedq (by kernel_rfl)) (by kernel_rfl) rfl hK
    · intro vs W hE hd K hK
      exact dq_val (u := str l) (v := str l) (ExtQ.refl _ _ _) (by kernel_rfl) (wantedq (by kernel_rfl)) (by kernel_rfl) rfl hK
    · intro vs W hE hd K hK
      exact dq_val (u := .int .i64 (l.length : Nat)) (v := .int .i64 (l.length : Nat)) (ExtQ.refl _ _ _) (by kernel_rfl) (wantedq (by kernel_rfl)) (rq_len (x := .tmp 17) (u := vs 2) (l := l) (by kernel_rfl) (by kernel_rfl) (hd 2 (by kernel_rfl))) rfl hK
    · intro vs W hE hd K hK
      exact dq_val (u := .bool true) (v := .bool true) (ExtQ.refl _ _ _) (by kernel_rfl) (wantedq (by kernel_rfl)) (rq_eql (T := 3) (T' := 3) (x := .tmp 16) (y := .tmp 18) (u := vs 1) (u' := vs 3) (n := z) (m := (l.length : Nat)) (by kernel_rfl) (by kernel_rfl) (hd 1 (by kernel_rfl)) (by kernel_rfl) (hd 3 (by kernel_rfl)) hz2) rfl hK
    · intro vs W hE hd K hK
      exact dq_val (u := vs 4) (v := .bool true) (ExtQ.refl _ _ _) (by kernel_rfl) (wantedq (by kernel_rfl)) (by kernel_rfl) (hd 4 (by kernel_rfl)) hK
    · intro vs W hE hd K hK
      exact dq_val (u := .agg #[str s, .slice ao n c]) (v := .agg #[str s, .slice ao n c]) (ExtQ.refl _ _ _) (by kernel_rfl) (wantedq_on (j := 5) (b := true) (u := vs 5) (by kernel_rfl) (by kernel_rfl) (hd 5 (by kernel_rfl))) (rq_tree (x := .tmp 4) (u := .pointer (some ⟨w1.heap.size, 0, none⟩)) (b := w1.heap.size) (k := 0) (by kernel_rfl) (by kernel_rfl) rfl (cell_of_heap (i := 0) (hE.heap HT.out HNE.out)) (cell_of_heap (i := 1) (hE.heap HT.out HNE.out))) rfl hK
    · intro vs W hE hd K hK
      exact dq_call (v := .bool false) (f := 49) (args := #[vs 6]) (by kernel_rfl) (wantedq_on (j := 5) (b := true) (u := vs 5) (by kernel_rfl) (by kernel_rfl) (hd 5 (by kernel_rfl))) (by kernel_rfl) (by rw [show vs 6 = .agg #[str s, .slice ao n c] from hd 6 (by kernel_rfl)]; exact (hIs W hE).mono fun e w' h => ⟨h.1, ExtQ.of h.2⟩) hK
    · intro vs W hE hd K hK
      exact dq_val (u := .bool false) (v := .bool false) (ExtQ.refl _ _ _) (by kernel_rfl) (wantedq (by kernel_rfl)) (rq_pick (c := .tmp 20) (x := .tmp 22) (y := .const (.bool false)) (u := vs 5) (p := true) (r := .bool false) (by kernel_rfl) (by kernel_rfl) (hd 5 (by kernel_rfl)) (by rw [if_pos rfl]; exact Eq.trans (by kernel_rfl : _ = vs 7) (hd 7 (by kernel_rfl)))) rfl hK
    · intro vs W hE hd K hK
      exact dq_val (u := vs 8) (v := .bool false) (ExtQ.refl _ _ _) (by kernel_rfl) (wantedq (by kernel_rfl)) (by kernel_rfl) (hd 8 (by kernel_rfl)) hK
    · intro vs W hE hd K hK
      exact dq_off (ExtQ.refl _ _ _) (by kernel_rfl) (wantedq_off (j := 9) (b := true) (c := false) (u := vs 9) (by kernel_rfl) (by kernel_rfl) (hd 9 (by kernel_rfl)) (by decide)) hK
    · intro vs W hE hd K hK
      exact dq_off (ExtQ.refl _ _ _) (by kernel_rfl) (wantedq_off (j := 9) (b := true) (c := false) (u := vs 9) (by kernel_rfl) (by kernel_rfl) (hd 9 (by kernel_rfl)) (by decide)) hK
    · intro vs W hE hd K hK
      exact dq_off (ExtQ.refl _ _ _) (by kernel_rfl) (wantedq_off (j := 9) (b := true) (c := false) (u := vs 9) (by kernel_rfl) (by kernel_rfl) (hd 9 (by kernel_rfl)) (by decide)) hK
    · intro vs W hE hd K hK
      exact dq_val (u := .bool false) (v := .bool false) (ExtQ.refl _ _ _) (by kernel_rfl) (wantedq (by kernel_rfl)) (rq_pick (c := .tmp 24) (x := .tmp 27) (y := .const (.bool false)) (u := vs 9) (p := false) (r := .bool false) (by kernel_rfl) (by kernel_rfl) (hd 9 (by kernel_rfl)) (by rw [if_neg (by decide)]; exact Eq.trans (by kernel_rfl : _ = .bool false) rfl)) rfl hK
    · intro vs W hE hd K hK
      exact dq_val (u := vs 13) (v := .bool false) (ExtQ.refl _ _ _) (by kernel_rfl) (wantedq (by kernel_rfl)) (by kernel_rfl) (hd 13 (by kernel_rfl)) hK
    · intro vs W hE hd K hK
      exact dq_off (ExtQ.refl _ _ _) (by kernel_rfl) (wantedq_off (j := 14) (b := true) (c := false) (u := vs 14) (by kernel_rfl) (by kernel_rfl) (hd 14 (by kernel_rfl)) (by decide)) hK
    · intro vs W hE hd K hK
      exact dq_off (ExtQ.refl _ _ _) (by kernel_rfl) (wantedq_off (j := 14) (b := true) (c := false) (u := vs 14) (by kernel_rfl) (by kernel_rfl) (hd 14 (by kernel_rfl)) (by decide)) hK
    · intro vs W hE hd K hK
      exact dq_off (ExtQ.refl _ _ _) (by kernel_rfl) (wantedq_off (j := 14) (b := true) (c := false) (u := vs 14) (by kernel_rfl) (by kernel_rfl) (hd 14 (by kernel_rfl)) (by decide)) hK
    · intro vs W hE hd K hK
      exact dq_val (u := .bool false) (v := .bool false) (ExtQ.refl _ _ _) (by kernel_rfl) (wantedq (by kernel_rfl)) (rq_pick (c := .tmp 29) (x := .tmp 32) (y := .const (.bool false)) (u := vs 14) (p := false) (r := .bool false) (by kernel_rfl) (by kernel_rfl) (hd 14 (by kernel_rfl)) (by rw [if_neg (by decide)]; exact Eq.trans (by kernel_rfl : _ = .bool false) rfl)) rfl hK
    · intro vs W hE hd K hK
      have hp0 : ∃ p0 p1, W.heap[w.heap.size]? = some (.cells #[p0, p1] 35 (0, 0)) := two_of (hE.cells HQ.out)
      obtain ⟨p0, p1, hp⟩ := hp0
      obtain ⟨W', hrun, hext, hfin⟩ := rq_store (ops := _) (A := frame _ _ vs) (i := 19) (x := .tmp 2) (y := .tmp 15) (u := .pointer (some ⟨w.heap.size, 0, none⟩)) (v := vs 0) (b := w.heap.size) (by kernel_rfl) (by kernel_rfl) rfl (by kernel_rfl) (hd 0 (by kernel_rfl)) hp rfl rfl
      exact dq_skip hext (by kernel_rfl) (wantedq (by kernel_rfl)) hrun _ hfin hK
    · intro vs W hE hd K hK
      exact dq_val (u := vs 18) (v := .bool false) (ExtQ.refl _ _ _) (by kernel_rfl) (wantedq (by kernel_rfl)) (by kernel_rfl) (hd 18 (by kernel_rfl)) hK
    intro vs W hE hd
    have ev0 : vs 0 = .agg #[str s, .slice ao n c] := hd 0 (by decide)
    have ev1 : vs 1 = .int .i64 z := hd 1 (by decide)
    have ev2 : vs 2 = str l := hd 2 (by decide)
    have ev3 : vs 3 = .int .i64 (l.length : Nat) := hd 3 (by decide)
    have ev4 : vs 4 = .bool true := hd 4 (by decide)
    have ev5 : vs 5 = .bool true := hd 5 (by decide)
    have ev6 : vs 6 = .agg #[str s, .slice ao n c] := hd 6 (by decide)
    have ev7 : vs 7 = .bool false := hd 7 (by decide)
    have ev8 : vs 8 = .bool false := hd 8 (by decide)
    have ev9 : vs 9 = .bool false := hd 9 (by decide)
    have ev13 : vs 13 = .bool false := hd 13 (by decide)
    have ev14 : vs 14 = .bool false := hd 14 (by decide)
    have ev18 : vs 18 = .bool false := hd 18 (by decide)
    have hst19 : (fun W => W.heap[w.heap.size]? = some (.cells #[str s, .slice ao n c] 35 (0, 0))) W := hd 19 (by decide)
    have ev20 : vs 20 = .bool false := hd 20 (by decide)
    refine hKK _ _ ?_
    rw [frame_is (⟨#[str l, undef, .pointer (some ⟨w.heap.size, 0, none⟩), vs 20, .pointer (some ⟨w1.heap.size, 0, none⟩), .int .i64 z, str l, .int .i64 (l.length : Nat), .bool (decide (1000 < (l.length : Int))), undef, .tuple #[.agg #[str s, .slice ao n c], .int .i64 z], str l, .tuple #[.agg #[str s, .slice ao n c], .int .i64 z], .agg #[str s, .slice ao n c], .int .i64 z, vs 0, vs 1, vs 2, vs 3, vs 4, vs 5, vs 6, vs 7, vs 8, vs 9, vs 10, vs 11, vs 12, vs 13, vs 14, vs 15, vs 16, vs 17, vs 18], []⟩ : Act) (by kernel_rfl)]
    rw [ev0, ev1, ev2, ev3, ev4, ev5, ev6, ev7, ev8, ev9, ev13, ev14, ev18, ev20]
    clear hd ev0 ev1 ev2 ev3 ev4 ev5 ev6 ev7 ev8 ev9 ev13 ev14 ev18 ev20
    generalize vs 10 = y10 at *
    generalize vs 11 = y11 at *
    generalize vs 12 = y12 at *
    generalize vs 15 = y15 at *
    generalize vs 16 = y16 at *
    generalize vs 17 = y17 at *
    have HFIN : Hid (After w W ∧ ∀ t, o = some t → SV W w.heap.size t (.agg #[str s, .slice ao n c])) := fin_form HA.out HS.out (HX.out W hE)
    have k0 : W.cell? ⟨w.heap.size, 0, none⟩ = some (str s) := cell_of_heap (i := 0) hst19
    have k1 : W.cell? ⟨w.heap.size, 1, none⟩ = some (.slice ao n c) := cell_of_heap (i := 1) hst19
    clear hst19 hE
    go_wp2_with fail
    exact bodyPost_ret (v := .tuple #[.agg #[str s, .slice ao n c], .bool false]) (by simp [results, Tryz.results24, go_sem, k0, k1]) rfl
      ⟨s, ao, n, c, by rw [HO.out]; simp, HFIN.out.1, HFIN.out.2⟩
  | true =>
    by_cases hx : x ≤ 60
    case neg =>
      have hx2 : decide (x ≤ 60) = false := decide_eq_false hx
      have hIs := fun W (hW : ExtQ w.heap.size (.cells #[str s, .slice ao n c] 35 (0, 0)) Y.drew W) => HI.out HZE.out W (HX.out W hW)
      have hSz := fun W (hW : ExtQ w.heap.size (.cells #[str s, .slice ao n c] 35 (0, 0)) Y.drew W) => HZ.out HZE.out rfl W (HX.out W hW)
      refine wp_region_regB (by kernel_rfl) (by kernel_rfl) (ExtQ w.heap.size (.cells #[str s, .slice ao n c] 35 (0, 0))) (fun w => (ExtQ.refl _ _ w)) ExtQ.trans
        (yqs [.lit (.agg #[str s, .slice ao n c]), .lit (.int .i64 z), .lit (str l), .lit (.int .i64 (l.length : Nat)), .lit (.bool true), .lit (.bool true), .lit (.agg #[str s, .slice ao n c]), .lit (.bool true), .lit (.bool true), .lit (.bool true), .lit (.agg #[str s, .slice ao n c]), .lit (.int .i64 x), .lit (.bool false), .lit (.bool false), .lit (.bool false), .free, .free, .free, .lit (.bool false), .fact (fun W => W.heap[w.heap.size]? = some (.cells #[str s, .slice ao n c] 35 (0, 0))), .lit (.bool false)]) (yqs_later ?_) (lt21 ?_ ?_ ?_ ?_ ?_ ?_ ?_ ?_ ?_ ?_ ?_ ?_ ?_ ?_ ?_ ?_ ?_ ?_ ?_ ?_ ?_) ?_
      · intro y hy
        simp only [List.mem_cons, List.not_mem_nil, or_false] at hy
        rcases hy with rfl | rfl | rfl | rfl | rfl | rfl | rfl | rfl | rfl | rfl | rfl | rfl | rfl | rfl | rfl | rfl | rfl | rfl | rfl | rfl | rfl
        all_goals first | exact trivial | exact fun _ _ h k => ExtQ.kept h k
      · intro vs W hE hd K hK
        exact dq_val (u := .agg #[str s, .slice ao n c]) (v := .agg #[str s, .slice ao n c]) (ExtQ.refl _ _ _) (by kernel_rfl) (wantedq (by kernel_rfl)) (rq_tree (x := .tmp 4) (u := .pointer (some ⟨w1.heap.size, 0, none⟩)) (b := w1.heap.size) (k := 0) (by kernel_rfl) (by kernel_rfl) rfl (cell_of_heap (i := 0) (hE.heap HT.out HNE.out)) (cell_of_heap (i := 1) (hE.heap HT.out HNE.out))) rfl hK
      · intro vs W hE hd K hK
        exact dq_val (u := .int .i64 z) (v := .int .i64 z) (ExtQ.refl _ _ _) (by kernel_rfl) (wantedq (by kernel_rfl)) (by kernel_rfl) rfl hK
      · intro vs W hE hd K hK
        exact dq_val (u := str l) (v := str l) (ExtQ.refl _ _ _) (by kernel_rfl) (wantedq (by kernel_rfl)) (by kernel_rfl) rfl hK
      · intro vs W hE hd K hK
        exact dq_val (u := .int .i64 (l.length : Nat)) (v := .int .i64 (l.length : Nat)) (ExtQ.refl _ _ _) (by kernel_rfl) (wantedq (by kernel_rfl)) (rq_len (x := .tmp 17) (u := vs 2) (l := l) (by kernel_rfl) (by kernel_rfl) (hd 2 (by kernel_rfl))) rfl hK
      · intro vs W hE hd K hK
        exact dq_val (u := .bool true) (v := .bool true) (ExtQ.refl _ _ _) (by kernel_rfl) (wantedq (by kernel_rfl)) (rq_eql (T := 3) (T' := 3) (x := .tmp 16) (y := .tmp 18) (u := vs 1) (u' := vs 3) (n := z) (m := (l.length : Nat)) (by kernel_rfl) (by kernel_rfl) (hd 1 (by kernel_rfl)) (by kernel_rfl) (hd 3 (by kernel_rfl)) hz2) rfl hK
      · intro vs W hE hd K hK
        exact dq_val (u := vs 4) (v := .bool true) (ExtQ.refl _ _ _) (by kernel_rfl) (wantedq (by kernel_rfl)) (by kernel_rfl) (hd 4 (by kernel_rfl)) hK
      · intro vs W hE hd K hK
        exact dq_val (u := .agg #[str s, .slice ao n c]) (v := .agg #[str s, .slice ao n c]) (ExtQ.refl _ _ _) (by kernel_rfl) (wantedq_on (j := 5) (b := true) (u := vs 5) (by kernel_rfl) (by kernel_rfl) (hd 5 (by kernel_rfl))) (rq_tree (x := .tmp 4) (u := .pointer (some ⟨w1.heap.size, 0, none⟩)) (b := w1.heap.size) (k := 0) (by kernel_rfl) (by kernel_rfl) rfl (cell_of_heap (i := 0) (hE.heap HT.out HNE.out)) (cell_of_heap (i := 1) (hE.heap HT.out HNE.out))) rfl hK
      · intro vs W hE hd K hK
        exact dq_call (v := .bool true) (f := 49) (args := #[vs 6]) (by kernel_rfl) (wantedq_on (j := 5) (b := true) (u := vs 5) (by kernel_rfl) (by kernel_rfl) (hd 5 (by kernel_rfl))) (by kernel_rfl) (by rw [show vs 6 = .agg #[str s, .slice ao n c] from hd 6 (by kernel_rfl)]; exact (hIs W hE).mono fun e w' h => ⟨h.1, ExtQ.of h.2⟩) hK
      · intro vs W hE hd K hK
        exact dq_val (u := .bool true) (v := .bool true) (ExtQ.refl _ _ _) (by kernel_rfl) (wantedq (by kernel_rfl)) (rq_pick (c := .tmp 20) (x := .tmp 22) (y := .const (.bool false)) (u := vs 5) (p := true) (r := .bool true) (by kernel_rfl) (by kernel_rfl) (hd 5 (by kernel_rfl)) (by rw [if_pos rfl]; exact Eq.trans (by kernel_rfl : _ = vs 7) (hd 7 (by kernel_rfl)))) rfl hK
      · intro vs W hE hd K hK
        exact dq_val (u := vs 8) (v := .bool true) (ExtQ.refl _ _ _) (by kernel_rfl) (wantedq (by kernel_rfl)) (by kernel_rfl) (hd 8 (by kernel_rfl)) hK
      · intro vs W hE hd K hK
        exact dq_val (u := .agg #[str s, .slice ao n c]) (v := .agg #[str s, .slice ao n c]) (ExtQ.refl _ _ _) (by kernel_rfl) (wantedq_on (j := 9) (b := true) (u := vs 9) (by kernel_rfl) (by kernel_rfl) (hd 9 (by kernel_rfl))) (rq_tree (x := .tmp 4) (u := .pointer (some ⟨w1.heap.size, 0, none⟩)) (b := w1.heap.size) (k := 0) (by kernel_rfl) (by kernel_rfl) rfl (cell_of_heap (i := 0) (hE.heap HT.out HNE.out)) (cell_of_heap (i := 1) (hE.heap HT.out HNE.out))) rfl hK
      · intro vs W hE hd K hK
        exact dq_call (v := .int .i64 x) (f := 34) (args := #[vs 10]) (by kernel_rfl) (wantedq_on (j := 9) (b := true) (u := vs 9) (by kernel_rfl) (by kernel_rfl) (hd 9 (by kernel_rfl))) (by kernel_rfl) (by rw [show vs 10 = .agg #[str s, .slice ao n c] from hd 10 (by kernel_rfl)]; exact (hSz W hE).mono fun e w' h => ⟨h.1, ExtQ.of h.2⟩) hK
      · intro vs W hE hd K hK
        exact dq_val (u := .bool false) (v := .bool false) (ExtQ.refl _ _ _) (by kernel_rfl) (wantedq_on (j := 9) (b := true) (u := vs 9) (by kernel_rfl) (by kernel_rfl) (hd 9 (by kernel_rfl))) (rq_leq (T := 3) (T' := 3) (x := .tmp 26) (y := .const (.int .i64 60)) (u := vs 11) (u' := .int .i64 60) (n := x) (m := 60) (by kernel_rfl) (by kernel_rfl) (hd 11 (by kernel_rfl)) (by kernel_rfl) rfl hx2) rfl hK
      · intro vs W hE hd K hK
        exact dq_val (u := .bool false) (v := .bool false) (ExtQ.refl _ _ _) (by kernel_rfl) (wantedq (by kernel_rfl)) (rq_pick (c := .tmp 24) (x := .tmp 27) (y := .const (.bool false)) (u := vs 9) (p := true) (r := .bool false) (by kernel_rfl) (by kernel_rfl) (hd 9 (by kernel_rfl)) (by rw [if_pos rfl]; exact Eq.trans (by kernel_rfl : _ = vs 12) (hd 12 (by kernel_rfl)))) rfl hK
      · intro vs W hE hd K hK
        exact dq_val (u := vs 13) (v := .bool false) (ExtQ.refl _ _ _) (by kernel_rfl) (wantedq (by kernel_rfl)) (by kernel_rfl) (hd 13 (by kernel_rfl)) hK
      · intro vs W hE hd K hK
        exact dq_off (ExtQ.refl _ _ _) (by kernel_rfl) (wantedq_off (j := 14) (b := true) (c := false) (u := vs 14) (by kernel_rfl) (by kernel_rfl) (hd 14 (by kernel_rfl)) (by decide)) hK
      · intro vs W hE hd K hK
        exact dq_off (ExtQ.refl _ _ _) (by kernel_rfl) (wantedq_off (j := 14) (b := true) (c := false) (u := vs 14) (by kernel_rfl) (by kernel_rfl) (hd 14 (by kernel_rfl)) (by decide)) hK
      · intro vs W hE hd K hK
        exact dq_off (ExtQ.refl _ _ _) (by kernel_rfl) (wantedq_off (j := 14) (b := true) (c := false) (u := vs 14) (by kernel_rfl) (by kernel_rfl) (hd 14 (by kernel_rfl)) (by decide)) hK
      · intro vs W hE hd K hK
        exact dq_val (u := .bool false) (v := .bool false) (ExtQ.refl _ _ _) (by kernel_rfl) (wantedq (by kernel_rfl)) (rq_pick (c := .tmp 29) (x := .tmp 32) (y := .const (.bool false)) (u := vs 14) (p := false) (r := .bool false) (by kernel_rfl) (by kernel_rfl) (hd 14 (by kernel_rfl)) (by rw [if_neg (by decide)]; exact Eq.trans (by kernel_rfl : _ = .bool false) rfl)) rfl hK
      · intro vs W hE hd K hK
        have hp0 : ∃ p0 p1, W.heap[w.heap.size]? = some (.cells #[p0, p1] 35 (0, 0)) := two_of (hE.cells HQ.out)
        obtain ⟨p0, p1, hp⟩ := hp0
        obtain ⟨W', hrun, hext, hfin⟩ := rq_store (ops := _) (A := frame _ _ vs) (i := 19) (x := .tmp 2) (y := .tmp 15) (u := .pointer (some ⟨w.heap.size, 0, none⟩)) (v := vs 0) (b := w.heap.size) (by kernel_rfl) (by kernel_rfl) rfl (by kernel_rfl) (hd 0 (by kernel_rfl)) hp rfl rfl
        exact dq_skip hext (by kernel_rfl) (wantedq (by kernel_rfl)) hrun _ hfin hK
      · intro vs W hE hd K hK
        exact dq_val (u := vs 18) (v := .bool false) (ExtQ.refl _ _ _) (by kernel_rfl) (wantedq (by kernel_rfl)) (by kernel_rfl) (hd 18 (by kernel_rfl)) hK
      intro vs W hE hd
      have ev0 : vs 0 = .agg #[str s, .slice ao n c] := hd 0 (by decide)
      have ev1 : vs 1 = .int .i64 z := hd 1 (by decide)
      have ev2 : vs 2 = str l := hd 2 (by decide)
      have ev3 : vs 3 = .int .i64 (l.length : Nat) := hd 3 (by decide)
      have ev4 : vs 4 = .bool true := hd 4 (by decide)
      have ev5 : vs 5 = .bool true := hd 5 (by decide)
      have ev6 : vs 6 = .agg #[str s, .slice ao n c] := hd 6 (by decide)
      have ev7 : vs 7 = .bool true := hd 7 (by decide)
      have ev8 : vs 8 = .bool true := hd 8 (by decide)
      have ev9 : vs 9 = .bool true := hd 9 (by decide)
      have ev10 : vs 10 = .agg #[str s, .slice ao n c] := hd 10 (by decide)
      have ev11 : vs 11 = .int .i64 x := hd 11 (by decide)
      have ev12 : vs 12 = .bool false := hd 12 (by decide)
      have ev13 : vs 13 = .bool false := hd 13 (by decide)
      have ev14 : vs 14 = .bool false := hd 14 (by decide)
      have ev18 : vs 18 = .bool false := hd 18 (by decide)
      have hst19 : (fun W => W.heap[w.heap.size]? = some (.cells #[str s, .slice ao n c] 35 (0, 0))) W := hd 19 (by decide)
      have ev20 : vs 20 = .bool false := hd 20 (by decide)
      refine hKK _ _ ?_
      rw [frame_is (⟨#[str l, undef, .pointer (some ⟨w.heap.size, 0, none⟩), vs 20, .pointer (some ⟨w1.heap.size, 0, none⟩), .int .i64 z, str l, .int .i64 (l.length : Nat), .bool (decide (1000 < (l.length : Int))), undef, .tuple #[.agg #[str s, .slice ao n c], .int .i64 z], str l, .tuple #[.agg #[str s, .slice ao n c], .int .i64 z], .agg #[str s, .slice ao n c], .int .i64 z, vs 0, vs 1, vs 2, vs 3, vs 4, vs 5, vs 6, vs 7, vs 8, vs 9, vs 10, vs 11, vs 12, vs 13, vs 14, vs 15, vs 16, vs 17, vs 18], []⟩ : Act) (by kernel_rfl)]
      rw [ev0, ev1, ev2, ev3, ev4, ev5, ev6, ev7, ev8, ev9, ev10, ev11, ev12, ev13, ev14, ev18, ev20]
      clear hd ev0 ev1 ev2 ev3 ev4 ev5 ev6 ev7 ev8 ev9 ev10 ev11 ev12 ev13 ev14 ev18 ev20
      generalize vs 15 = y15 at *
      generalize vs 16 = y16 at *
      generalize vs 17 = y17 at *
      have HFIN : Hid (After w W ∧ ∀ t, o = some t → SV W w.heap.size t (.agg #[str s, .slice ao n c])) := fin_form HA.out HS.out (HX.out W hE)
      have k0 : W.cell? ⟨w.heap.size, 0, none⟩ = some (str s) := cell_of_heap (i := 0) hst19
      have k1 : W.cell? ⟨w.heap.size, 1, none⟩ = some (.slice ao n c) := cell_of_heap (i := 1) hst19
      clear hst19 hE
      go_wp2_with fail
      exact bodyPost_ret (v := .tuple #[.agg #[str s, .slice ao n c], .bool false]) (by simp [results, Tryz.results24, go_sem, k0, k1]) rfl
        ⟨s, ao, n, c, by rw [HO.out]; rw [hx2]; simp, HFIN.out.1, HFIN.out.2⟩
    have hx2 : decide (x ≤ 60) = true := decide_eq_true hx
    obtain ⟨b4, hb4⟩ : ∃ b4, b4 = decide (y ≤ 300) := ⟨_, rfl⟩
    have hy2 := hb4.symm
    clear hb4
    have hIs := fun W (hW : ExtQ w.heap.size (.cells #[str s, .slice ao n c] 35 (0, 0)) Y.drew W) => HI.out HZE.out W (HX.out W hW)
    have hSz := fun W (hW : ExtQ w.heap.size (.cells #[str s, .slice ao n c] 35 (0, 0)) Y.drew W) => HZ.out HZE.out rfl W (HX.out W hW)
    have hWd := fun W (hW : ExtQ w.heap.size (.cells #[str s, .slice ao n c] 35 (0, 0)) Y.drew W) => HD.out HZE.out rfl hx W (HX.out W hW)
    refine wp_region_regB (by kernel_rfl) (by kernel_rfl) (ExtQ w.heap.size (.cells #[str s, .slice ao n c] 35 (0, 0))) (fun w => (ExtQ.refl _ _ w)) ExtQ.trans
      (yqs [.lit (.agg #[str s, .slice ao n c]), .lit (.int .i64 z), .lit (str l), .lit (.int .i64 (l.length : Nat)), .lit (.bool true), .lit (.bool true), .lit (.agg #[str s, .slice ao n c]), .lit (.bool true), .lit (.bool true), .lit (.bool true), .lit (.agg #[str s, .slice ao n c]), .lit (.int .i64 x), .lit (.bool true), .lit (.bool true), .lit (.bool true), .lit (.agg #[str s, .slice ao n c]), .lit (.int .i64 y), .lit (.bool b4), .lit (.bool b4), .fact (fun W => W.heap[w.heap.size]? = some (.cells #[str s, .slice ao n c] 35 (0, 0))), .lit (.bool b4)]) (yqs_later ?_) (lt21 ?_ ?_ ?_ ?_ ?_ ?_ ?_ ?_ ?_ ?_ ?_ ?_ ?_ ?_ ?_ ?_ ?_ ?_ ?_ ?_ ?_) ?_
    · intro y hy
      simp only [List.mem_cons, List.not_mem_nil, or_false] at hy
      rcases hy with rfl | rfl | rfl | rfl | rfl | rfl | rfl | rfl | rfl | rfl | rfl | rfl | rfl | rfl | rfl | rfl | rfl | rfl | rfl | rfl | rfl
      all_goals first | exact trivial | exact fun _ _ h k => ExtQ.kept h k
    · intro vs W hE hd K hK
      exact dq_val (u := .agg #[str s, .slice ao n c]) (v := .agg #[str s, .slice ao n c]) (ExtQ.refl _ _ _) (by kernel_rfl) (wantedq (by kernel_rfl)) (rq_tree (x := .tmp 4) (u := .pointer (some ⟨w1.heap.size, 0, none⟩)) (b := w1.heap.size) (k := 0) (by kernel_rfl) (by kernel_rfl) rfl (cell_of_heap (i := 0) (hE.heap HT.out HNE.out)) (cell_of_heap (i := 1) (hE.heap HT.out HNE.out))) rfl hK
    · intro vs W hE hd K hK
      exact dq_val (u := .int .i64 z) (v := .int .i64 z) (ExtQ.refl _ _ _) (by kernel_rfl) (wantedq (by kernel_rfl)) (by kernel_rfl) rfl hK
    · intro vs W hE hd K hK
      exact dq_val (u := str l) (v := str l) (ExtQ.refl _ _ _) (by kernel_rfl) (wantedq (by kernel_rfl)) (by kernel_rfl) rfl hK
    · intro vs W hE hd K hK
      exact dq_val (u := .int .i64 (l.length : Nat)) (v := .int .i64 (l.length : Nat)) (ExtQ.refl _ _ _) (by kernel_rfl) (wantedq (by kernel_rfl)) (rq_len (x := .tmp 17) (u := vs 2) (l := l) (by kernel_rfl) (by kernel_rfl) (hd 2 (by kernel_rfl))) rfl hK
    · intro vs W hE hd K hK
      exact dq_val (u := .bool true) (v := .bool true) (ExtQ.refl _ _ _) (by kernel_rfl) (wantedq (by kernel_rfl)) (rq_eql (T := 3) (T' := 3) (x := .tmp 16) (y := .tmp 18) (u := vs 1) (u' := vs 3) (n := z) (m := (l.length : Nat)) (by kernel_rfl) (by kernel_rfl) (hd 1 (by kernel_rfl)) (by kernel_rfl) (hd 3 (by kernel_rfl)) hz2) rfl hK
    · intro vs W hE hd K hK
      exact dq_val (u := vs 4) (v := .bool true) (ExtQ.refl _ _ _) (by kernel_rfl) (wantedq (by kernel_rfl)) (by kernel_rfl) (hd 4 (by kernel_rfl)) hK
    · intro vs W hE hd K hK
      exact dq_val (u := .agg #[str s, .slice ao n c]) (v := .agg #[str s, .slice ao n c]) (ExtQ.refl _ _ _) (by kernel_rfl) (wantedq_on (j := 5) (b := true) (u := vs 5) (by kernel_rfl) (by kernel_rfl) (hd 5 (by kernel_rfl))) (rq_tree (x := .tmp 4) (u := .pointer (some ⟨w1.heap.size, 0, none⟩)) (b := w1.heap.size) (k := 0) (by kernel_rfl) (by kernel_rfl) rfl (cell_of_heap (i := 0) (hE.heap HT.out HNE.out)) (cell_of_heap (i := 1) (hE.heap HT.out HNE.out))) rfl hK
    · intro vs W hE hd K hK
      exact dq_call (v := .bool true) (f := 49) (args := #[vs 6]) (by kernel_rfl) (wantedq_on (j := 5) (b := true) (u := vs 5) (by kernel_rfl) (by kernel_rfl) (hd 5 (by kernel_rfl))) (by kernel_rfl) (by rw [show vs 6 = .agg #[str s, .slice ao n c] from hd 6 (by kernel_rfl)]; exact (hIs W hE).mono fun e w' h => ⟨h.1, ExtQ.of h.2⟩) hK
    · intro vs W hE hd K hK
      exact dq_val (u := .bool true) (v := .bool true) (ExtQ.refl _ _ _) (by kernel_rfl) (wantedq (by kernel_rfl)) (rq_pick (c := .tmp 20) (x := .tmp 22) (y := .const (.bool false)) (u := vs 5) (p := true) (r := .bool true) (by kernel_rfl) (by kernel_rfl) (hd 5 (by kernel_rfl)) (by rw [if_pos rfl]; exact Eq.trans (by kernel_rfl : _ = vs 7) (hd 7 (by kernel_rfl)))) rfl hK
    · intro vs W hE hd K hK
      exact dq_val (u := vs 8) (v := .bool true) (ExtQ.refl _ _ _) (by kernel_rfl) (wantedq (by kernel_rfl)) (by kernel_rfl) (hd 8 (by kernel_rfl)) hK
    · intro vs W hE hd K hK
      exact dq_val (u := .agg #[str s, .slice ao n c]) (v := .agg #[str s, .slice ao n c]) (ExtQ.refl _ _ _) (by kernel_rfl) (wantedq_on (j := 9) (b := true) (u := vs 9) (by kernel_rfl) (by kernel_rfl) (hd 9 (by kernel_rfl))) (rq_tree (x := .tmp 4) (u := .pointer (some ⟨w1.heap.size, 0, none⟩)) (b := w1.heap.size) (k := 0) (by kernel_rfl) (by kernel_rfl) rfl (cell_of_heap (i := 0) (hE.heap HT.out HNE.out)) (cell_of_heap (i := 1) (hE.heap HT.out HNE.out))) rfl hK
    · intro vs W hE hd K hK
      exact dq_call (v := .int .i64 x) (f := 34) (args := #[vs 10]) (by kernel_rfl) (wantedq_on (j := 9) (b := true) (u := vs 9) (by kernel_rfl) (by kernel_rfl) (hd 9 (by kernel_rfl))) (by kernel_rfl) (by rw [show vs 10 = .agg #[str s, .slice ao n c] from hd 10 (by kernel_rfl)]; exact (hSz W hE).mono fun e w' h => ⟨h.1, ExtQ.of h.2⟩) hK
    · intro vs W hE hd K hK
      exact dq_val (u := .bool true) (v := .bool true) (ExtQ.refl _ _ _) (by kernel_rfl) (wantedq_on (j := 9) (b := true) (u := vs 9) (by kernel_rfl) (by kernel_rfl) (hd 9 (by kernel_rfl))) (rq_leq (T := 3) (T' := 3) (x := .tmp 26) (y := .const (.int .i64 60)) (u := vs 11) (u' := .int .i64 60) (n := x) (m := 60) (by kernel_rfl) (by kernel_rfl) (hd 11 (by kernel_rfl)) (by kernel_rfl) rfl hx2) rfl hK
    · intro vs W hE hd K hK
      exact dq_val (u := .bool true) (v := .bool true) (ExtQ.refl _ _ _) (by kernel_rfl) (wantedq (by kernel_rfl)) (rq_pick (c := .tmp 24) (x := .tmp 27) (y := .const (.bool false)) (u := vs 9) (p := true) (r := .bool true) (by kernel_rfl) (by kernel_rfl) (hd 9 (by kernel_rfl)) (by rw [if_pos rfl]; exact Eq.trans (by kernel_rfl : _ = vs 12) (hd 12 (by kernel_rfl)))) rfl hK
    · intro vs W hE hd K hK
      exact dq_val (u := vs 13) (v := .bool true) (ExtQ.refl _ _ _) (by kernel_rfl) (wantedq (by kernel_rfl)) (by kernel_rfl) (hd 13 (by kernel_rfl)) hK
    · intro vs W hE hd K hK
      exact dq_val (u := .agg #[str s, .slice ao n c]) (v := .agg #[str s, .slice ao n c]) (ExtQ.refl _ _ _) (by kernel_rfl) (wantedq_on (j := 14) (b := true) (u := vs 14) (by kernel_rfl) (by kernel_rfl) (hd 14 (by kernel_rfl))) (rq_tree (x := .tmp 4) (u := .pointer (some ⟨w1.heap.size, 0, none⟩)) (b := w1.heap.size) (k := 0) (by kernel_rfl) (by kernel_rfl) rfl (cell_of_heap (i := 0) (hE.heap HT.out HNE.out)) (cell_of_heap (i := 1) (hE.heap HT.out HNE.out))) rfl hK
    · intro vs W hE hd K hK
      exact dq_call (v := .int .i64 y) (f := 50) (args := #[vs 15]) (by kernel_rfl) (wantedq_on (j := 14) (b := true) (u := vs 14) (by kernel_rfl) (by kernel_rfl) (hd 14 (by kernel_rfl))) (by kernel_rfl) (by rw [show vs 15 = .agg #[str s, .slice ao n c] from hd 15 (by kernel_rfl)]; exact (hWd W hE).mono fun e w' h => ⟨h.1, ExtQ.of h.2⟩) hK
    · intro vs W hE hd K hK
      exact dq_val (u := .bool b4) (v := .bool b4) (ExtQ.refl _ _ _) (by kernel_rfl) (wantedq_on (j := 14) (b := true) (u := vs 14) (by kernel_rfl) (by kernel_rfl) (hd 14 (by kernel_rfl))) (rq_leq (T := 3) (T' := 3) (x := .tmp 31) (y := .const (.int .i64 300)) (u := vs 16) (u' := .int .i64 300) (n := y) (m := 300) (by kernel_rfl) (by kernel_rfl) (hd 16 (by kernel_rfl)) (by kernel_rfl) rfl hy2) rfl hK
    · intro vs W hE hd K hK
      exact dq_val (u := .bool b4) (v := .bool b4) (ExtQ.refl _ _ _) (by kernel_rfl) (wantedq (by kernel_rfl)) (rq_pick (c := .tmp 29) (x := .tmp 32) (y := .const (.bool false)) (u := vs 14) (p := true) (r := .bool b4) (by kernel_rfl) (by kernel_rfl) (hd 14 (by kernel_rfl)) (by rw [if_pos rfl]; exact Eq.trans (by kernel_rfl : _ = vs 17) (hd 17 (by kernel_rfl)))) rfl hK
    · intro vs W hE hd K hK
      have hp0 : ∃ p0 p1, W.heap[w.heap.size]? = some (.cells #[p0, p1] 35 (0, 0)) := two_of (hE.cells HQ.out)
      obtain ⟨p0, p1, hp⟩ := hp0
      obtain ⟨W', hrun, hext, hfin⟩ := rq_store (ops := _) (A := frame _ _ vs) (i := 19) (x := .tmp 2) (y := .tmp 15) (u := .pointer (some ⟨w.heap.size, 0, none⟩)) (v := vs 0) (b := w.heap.size) (by kernel_rfl) (by kernel_rfl) rfl (by kernel_rfl) (hd 0 (by kernel_rfl)) hp rfl rfl
      exact dq_skip hext (by kernel_rfl) (wantedq (by kernel_rfl)) hrun _ hfin hK
    · intro vs W hE hd K hK
      exact dq_val (u := vs 18) (v := .bool b4) (ExtQ.refl _ _ _) (by kernel_rfl) (wantedq (by kernel_rfl)) (by kernel_rfl) (hd 18 (by kernel_rfl)) hK
    intro vs W hE hd
    have ev0 : vs 0 = .agg #[str s, .slice ao n c] := hd 0 (by decide)
    have ev1 : vs 1 = .int .i64 z := hd 1 (by decide)
    have ev2 : vs 2 = str l := hd 2 (by decide)
    have ev3 : vs 3 = .int .i64 (l.length : Nat) := hd 3 (by decide)
    have ev4 : vs 4 = .bool true := hd 4 (by decide)
    have ev5 : vs 5 = .bool true := hd 5 (by decide)
    have ev6 : vs 6 = .agg #[str s, .slice ao n c] := hd 6 (by decide)
    have ev7 : vs 7 = .bool true := hd 7 (by decide)
    have ev8 : vs 8 = .bool true := hd 8 (by decide)
    have ev9 : vs 9 = .bool true := hd 9 (by decide)
    have ev10 : vs 10 = .agg #[str s, .slice ao n c] := hd 10 (by decide)
    have ev11 : vs 11 = .int .i64 x := hd 11 (by decide)
    have ev12 : vs 12 = .bool true := hd 12 (by decide)
    have ev13 : vs 13 = .bool true := hd 13 (by decide)
    have ev14 : vs 14 = .bool true := hd 14 (by decide)
    have ev15 : vs 15 = .agg #[str s, .slice ao n c] := hd 15 (by decide)
    have ev16 : vs 16 = .int .i64 y := hd 16 (by decide)
    have ev17 : vs 17 = .bool b4 := hd 17 (by decide)
    have ev18 : vs 18 = .bool b4 := hd 18 (by decide)
    have hst19 : (fun W => W.heap[w.heap.size]? = some (.cells #[str s, .slice ao n c] 35 (0, 0))) W := hd 19 (by decide)
    have ev20 : vs 20 = .bool b4 := hd 20 (by decide)
    refine hKK _ _ ?_
    rw [frame_is (⟨#[str l, undef, .pointer (some ⟨w.heap.size, 0, none⟩), vs 20, .pointer (some ⟨w1.heap.size, 0, none⟩), .int .i64 z, str l, .int .i64 (l.length : Nat), .bool (decide (1000 < (l.length : Int))), undef, .tuple #[.agg #[str s, .slice ao n c], .int .i64 z], str l, .tuple #[.agg #[str s, .slice ao n c], .int .i64 z], .agg #[str s, .slice ao n c], .int .i64 z, vs 0, vs 1, vs 2, vs 3, vs 4, vs 5, vs 6, vs 7, vs 8, vs 9, vs 10, vs 11, vs 12, vs 13, vs 14, vs 15, vs 16, vs 17, vs 18], []⟩ : Act) (by kernel_rfl)]
    rw [ev0, ev1, ev2, ev3, ev4, ev5, ev6, ev7, ev8, ev9, ev10, ev11, ev12, ev13, ev14, ev15, ev16, ev17, ev18, ev20]
    clear hd ev0 ev1 ev2 ev3 ev4 ev5 ev6 ev7 ev8 ev9 ev10 ev11 ev12 ev13 ev14 ev15 ev16 ev17 ev18 ev20
    have HFIN : Hid (After w W ∧ ∀ t, o = some t → SV W w.heap.size t (.agg #[str s, .slice ao n c])) := fin_form HA.out HS.out (HX.out W hE)
    have k0 : W.cell? ⟨w.heap.size, 0, none⟩ = some (str s) := cell_of_heap (i := 0) hst19
    have k1 : W.cell? ⟨w.heap.size, 1, none⟩ = some (.slice ao n c) := cell_of_heap (i := 1) hst19
    clear hst19 hE
    go_wp2_with fail
    exact bodyPost_ret (v := .tuple #[.agg #[str s, .slice ao n c], .bool b4]) (by simp [results, Tryz.results24, go_sem, k0, k1]) rfl
      ⟨s, ao, n, c, by rw [HO.out]; rw [hx2, hy2, decide_eq_true HZE.out]; simp, HFIN.out.1, HFIN.out.2⟩

theorem s_form (w : World) (l : List UInt8) : Calls Tryz.prog 24 #[str l] w (MFPost w (Fm.mform l)) := by
  by_cases hl : 1000 < l.length
  · exact s_form_long w l hl
  have hl' : l.length ≤ 1000 := by omega
  refine s_form_core w l hl' _ ?_
  have hx := s_xread l hl' 151 0 0 (w.alloc (.cells #[.string ⟨#[]⟩, .slice none 0 0] 35)) rfl (Nat.le_refl _) (Nat.zero_le _)
  refine hx.mono ?_
  rintro e w1 ⟨s, ao, n, c, he, ha, hv⟩
  rw [show (w.alloc (.cells #[.string ⟨#[]⟩, .slice none 0 0] 35)).heap.size = w.heap.size + 1 by simp] at hv
  have hmf : Fm.mform l = match Fm.sread l 151 0 with
    | some (t, j) => if j = l.length ∧ Fm.isF 151 t = true ∧ Fm.szS 151 t ≤ 60 ∧ Fm.wdS 151 t ≤ 300 then some t else none
    | none => none := by
    unfold Fm.mform
    rw [if_neg hl]
    cases Fm.sread l 151 0 <;> rfl
  cases hr : Fm.sread l 151 0 with
  | none =>
    rw [hr] at he hmf
    refine ⟨s, ao, n, c, -1, false, 0, 0, he, ha, (fun t ht => by rw [hmf] at ht; cases ht), (fun h => by omega), (fun h => by omega), (fun h => by omega), ?_⟩
    rw [hmf, decide_eq_false (by omega)]
    rfl
  | some p =>
    obtain ⟨t, j⟩ := p
    rw [hr] at he hmf
    simp only at hmf
    obtain ⟨h1, h2, h3⟩ := Fm.sread_sound l _ _ _ _ hr
    have hsv := hv t j hr
    have hgood : j = l.length → GoodX t := fun e => by
      rw [e] at h1
      simp at h1
      exact ⟨h2, by rw [← h1]; omega⟩
    have later : ∀ W, ExtQ w.heap.size (.cells #[str s, .slice ao n c] 35 (0, 0)) w1 W → SV W (w.heap.size + 1) t (.agg #[str s, .slice ao n c]) := fun W hW => hsv.same fun b hb hlt => hW.1.block b hlt (fun e => by injection e with e; omega)
    refine ⟨s, ao, n, c, (j : Nat), Fm.isF 151 t, (Fm.szS 151 t : Nat), (Fm.wdS 151 t : Nat), he, ha, fun t' ht => ?_, fun hz W hW => ?_, fun hz hb W hW => ?_, fun hz hb hx W hW => ?_, ?_⟩
    · rw [hmf] at ht
      split at ht
      · obtain rfl := Option.some.inj ht
        exact hsv
      · cases ht
    · exact s_is 151 t W _ _ (later W hW) (hgood (by omega)) (by omega)
    · exact s_size 151 t W _ _ (later W hW) (hgood (by omega)) (by omega)
    · obtain ⟨f, rfl, _⟩ := (Fm.isF_iff 151 t (by omega)).1 hb
      exact s_wide 151 _ W _ _ (later W hW) (hgood (by omega)) (Fm.wOk_fo f 151 (by omega))
    · rw [hmf]
      by_cases c1 : j = l.length
      · rw [decide_eq_true (show ((j : Nat) : Int) = (l.length : Int) by omega)]
        by_cases c2 : Fm.isF 151 t = true
        · by_cases c3 : Fm.szS 151 t ≤ 60
          · by_cases c4 : Fm.wdS 151 t ≤ 300
            · rw [if_pos ⟨c1, c2, c3, c4⟩, c2, decide_eq_true (show ((Fm.szS 151 t : Nat) : Int) ≤ 60 by omega), decide_eq_true (show ((Fm.wdS 151 t : Nat) : Int) ≤ 300 by omega)]; rfl
            · rw [if_neg (fun h => c4 h.2.2.2), decide_eq_false (show ¬ ((Fm.wdS 151 t : Nat) : Int) ≤ 300 by omega)]; simp
          · rw [if_neg (fun h => c3 h.2.2.1), decide_eq_false (show ¬ ((Fm.szS 151 t : Nat) : Int) ≤ 60 by omega)]; simp
        · rw [if_neg (fun h => c2 h.2.1)]
          simp only [Bool.not_eq_true] at c2
          rw [c2]; rfl
      · rw [if_neg (fun h => c1 h.1), decide_eq_false (show ¬ ((j : Nat) : Int) = (l.length : Int) by omega)]; rfl
end Go.Proofs.YtdjoafnohkmneaaGreatDoor

namespace Go.Proofs.YtdjoafnohkmneaaGreatDoor
open Go.RowKit

set_option maxHeartbeats 4000000
set_option maxRecDepth 100000

/-- The slice value holds the names that are bound. -/
def BdOk (W : World) (bv : Value) (bd : List (List UInt8)) : Prop :=
  ∃ b cap, bv = .slice (some ⟨b, 0, none⟩) bd.length cap ∧ (bd = [] ∨ ∃ cs fr, W.heap[b]? = some (.cells cs 9 fr) ∧ ∀ j (h : j < bd.length), cs[j]? = some (str bd[j]))
theorem BdOk.strs {W : World} {bv : Value} {bd : List (List UInt8)} (h : BdOk W bv bd) : Strs W bv bd := by
  obtain ⟨b, cap, rfl, rfl | ⟨cs, fr, hh, hc⟩⟩ := h
  · exact Or.inr ⟨b, 0, cap, rfl, fun j hj => absurd hj (by simp)⟩
  refine Or.inr ⟨b, 0, cap, rfl, fun j hj => ?_⟩
  rw [Nat.zero_add]
  unfold World.cell?
  rw [hh]
  exact hc j hj
theorem BdOk.grown {W W' : World} {r : Option Nat} {bv : Value} {bd : List (List UInt8)} (h : BdOk W bv bd) (hg : W.grownBy W' r) (hr : bd = [] ∨ bv.ownBlock ≠ r) : BdOk W' bv bd := by
  obtain ⟨b, cap, rfl, rfl | ⟨cs, fr, hh, hc⟩⟩ := h
  · exact ⟨b, cap, rfl, Or.inl rfl⟩
  rcases hr with rfl | hr
  · exact ⟨b, cap, rfl, Or.inl rfl⟩
  exact ⟨b, cap, rfl, Or.inr ⟨cs, fr, grew_heap hg hh hr, hc⟩⟩
theorem BdOk.lt {W : World} {bv : Value} {bd : List (List UInt8)} (h : BdOk W bv bd) : bd = [] ∨ ∃ b, bv.ownBlock = some b ∧ b < W.heap.size := by
  obtain ⟨b, cap, rfl, rfl | ⟨cs, fr, hh, hc⟩⟩ := h
  · exact Or.inl rfl
  exact Or.inr ⟨b, rfl, (Array.getElem?_eq_some_iff.1 hh).1⟩

theorem bd_src {W : World} {bv : Value} {bd : List (List UInt8)} (h : BdOk W bv bd) : SrcOk W bv (bd.map str) := by
  obtain ⟨b, cap, rfl, rfl | ⟨cs, fr, hh, hc⟩⟩ := h
  · exact Or.inl ⟨rfl, _, _, rfl⟩
  by_cases h0 : bd = []
  · subst h0; exact Or.inl ⟨rfl, _, _, rfl⟩
  · refine Or.inr ⟨⟨b, 0, none⟩, bd.length, cap, rfl, List.length_pos_iff.2 h0, by simp, fun j u hu => ?_⟩
    rw [List.getElem?_map] at hu
    obtain ⟨y, hy, rfl⟩ := Option.map_eq_some_iff.1 hu
    obtain ⟨hj, rfl⟩ := List.getElem?_eq_some_iff.1 hy
    have hadd : (⟨b, 0, none⟩ : Addr).add j = ⟨b, 0 + j, none⟩ := by unfold Addr.add; split <;> simp_all
    rw [hadd, Nat.zero_add]
    unfold World.cell?
    rw [hh]
    exact hc j hj
theorem own_bd {W : World} {base : Nat} {v : Value} {xs : List (List UInt8)} (h : W.ownsRow base 9 1 v xs.length (xs.map str)) (h0 : xs ≠ []) : BdOk W v xs := by
  rcases h.2 with ⟨_, h1⟩ | ⟨g, cap, cur, rfl, hb, hh, hn, hc, hs, ht⟩
  · exact absurd (List.length_eq_zero_iff.1 h1) h0
  · refine ⟨g, cap, rfl, Or.inr ⟨cur, _, hh, fun j hj => ?_⟩⟩
    have h2 : (xs.map str)[j]? = some (str xs[j]) := by simp [hj]
    rw [← ht, List.getElem?_take, if_pos (by omega)] at h2
    simpa using h2

def FreeOk (w : World) (v : Value) (oc : List (List UInt8)) (N : Nat) : Prop :=
  oc.length ≤ N ∧
  ∀ W, After w W → ∀ bv bd, BdOk W bv bd → ∀ sv ns, W.ownsRow w.heap.size 9 1 sv ns.length (ns.map str) → bd = [] ∨ bv.ownBlock ≠ sv.ownBlock → ns.length + N ≤ 1000000 → bd.length + N ≤ 1000000 →
    Calls Tryz.prog 35 #[v, bv, sv] W (NamesP w.heap.size W sv (Fm.addA ns (Fm.outOf bd oc)))

theorem free_atom (w : World) (a : List UInt8) (ha : a ≠ []) (hl : a.length ≤ 1000000000) : FreeOk w (.agg #[str a, .slice none 0 0]) (if Tm.nameOk a = true then [a] else []) 1 := by
  refine ⟨by split <;> simp, ?_⟩
  intro W hW bv bd hb sv ns ho hne hlen hbl
  have e0 : (a == []) = false := beq_eq_false_iff_ne.2 ha
  have e1 : (a != []) = true := by rw [bne, e0]; rfl
  have hn := s_name (W.alloc (.cells #[str a, .slice none 0 0] 35)) a hl
  have hbd := s_has (W.alloc (.cells #[str a, .slice none 0 0] 35)) bv bd a (hb.grown (grew_alloc (grew_refl _ _) _) hne).strs (by omega)
  have hls := s_has (W.alloc (.cells #[str a, .slice none 0 0] 35)) sv ns a (ownsRow_strs (ho.alloc _)) (by omega)
  have HO := Lib.hid ho
  cases hk : Tm.nameOk a with
  | false =>
    rw [hk] at hn
    rw [if_neg (by simp), show Fm.addA ns (Fm.outOf bd []) = ns from rfl]
    clear hk hbd hls hb ho hne hW ha
    go_enter Tryz.func35, Tryz.ntmps35
    go_wp2_with (go_at_call 25; refine hn.mono ?_; rintro e w' ⟨rfl, rfl⟩)
    go_ret
    exact ⟨_, rfl, HO.out.alloc _, grew_alloc (grew_refl _ _) _, Or.inl rfl⟩
  | true =>
    rw [hk] at hn
    rw [if_pos rfl, Fm.outOf_one]
    by_cases hm : a ∈ bd
    · rw [if_pos hm, show Fm.addA ns [] = ns from rfl]
      rw [show decide (a ∈ bd) = true by simpa using hm] at hbd
      clear hk hls hb ho hne hm hW ha
      go_enter Tryz.func35, Tryz.ntmps35
      go_wp2_with (first
        | (go_at_call 25; refine hn.mono ?_; rintro e w' ⟨rfl, rfl⟩)
        | (go_at_call 59; refine hbd.mono ?_; rintro e w' ⟨rfl, rfl⟩))
      go_ret
      exact ⟨_, rfl, HO.out.alloc _, grew_alloc (grew_refl _ _) _, Or.inl rfl⟩
    rw [if_neg hm, Fm.addA_one]
    rw [show decide (a ∈ bd) = false by simpa using hm] at hbd
    by_cases hm2 : a ∈ ns
    · rw [Fm.addN_old hm2]
      rw [show decide (a ∈ ns) = true by simpa using hm2] at hls
      clear hk hb ho hne hm hm2 hW ha
      go_enter Tryz.func35, Tryz.ntmps35
      go_wp2_with (first
        | (go_at_call 25; refine hn.mono ?_; rintro e w' ⟨rfl, rfl⟩)
        | (go_at_call_of 59 bv; refine hbd.mono ?_; rintro e w' ⟨rfl, rfl⟩)
        | (go_at_call_of 59 sv; refine hls.mono ?_; rintro e w' ⟨rfl, rfl⟩))
      go_ret
      exact ⟨_, rfl, HO.out.alloc _, grew_alloc (grew_refl _ _) _, Or.inl rfl⟩
    · rw [show Fm.addN ns a = ns ++ [a] from if_neg hm2]
      rw [show decide (a ∈ ns) = false by simpa using hm2] at hls
      obtain ⟨i0, hi, hz0, hz1, hz2⟩ := info_parts sinfo_string
      have hun := Tryz.underlying52
      have hmax : ns.length + 1 ≤ maxLen := by unfold maxLen; omega
      have hm16 : (ns.length + 1) * 16 ≤ 140737488355328 := by omega
      have hone : ∀ u ∈ [str a], u.oneCell' = true := by simp [Value.oneCell']
      have hsz : w.heap.size ≤ ((W.alloc (.cells #[str a, .slice none 0 0] 35)).alloc (.cells #[str a] 9)).heap.size := by have := hW.size; simp; omega
      have hown := (ho.alloc (.cells #[str a, .slice none 0 0] 35)).alloc (.cells #[str a] 9)
      have hnews := cell_one_new (W.alloc (.cells #[str a, .slice none 0 0] 35)) (str a) 9
      rw [show (W.alloc (.cells #[str a, .slice none 0 0] 35)).heap.size = W.heap.size + 1 by simp] at hnews
      have HO2 := Lib.hid hown
      have HSZ := Lib.hid hsz
      clear hk hb ho hne hm hm2 hW ha hown hlen hsz
      go_enter Tryz.func35, Tryz.ntmps35
      go_wp2_with (first
        | (go_at_call 25; refine hn.mono ?_; rintro e w' ⟨rfl, rfl⟩)
        | (go_at_call_of 59 bv; refine hbd.mono ?_; rintro e w' ⟨rfl, rfl⟩)
        | (go_at_call_of 59 sv; refine hls.mono ?_; rintro e w' ⟨rfl, rfl⟩)
        | (at_builtin; refine wpList_append_own_at _ rfl _ _ 52 rfl w.heap.size 9 i0 (.string ⟨#[]⟩) 1 16 hun hi hz0 hz1 hz2 rfl (by decide) _ _ _ rfl HO2.out ⟨W.heap.size + 1, 0, none⟩ 1 1 [str a] rfl rfl hnews hone hmax hm16 HSZ.out ?_; intro v2 w2 ho2 hg2 hiff hor2; clear hiff; have HO3 := Lib.hid ho2; have HG2 := Lib.hid hg2; have HOR := Lib.hid hor2; clear ho2 hg2 hor2))
      go_ret
      refine ⟨_, rfl, by simpa using HO3.out, grew_trans (grew_alloc (grew_alloc (grew_refl W sv.ownBlock) _) _) HG2.out (Or.inl rfl), ?_⟩
      rcases HOR.out with h | h
      · exact Or.inl h
      · exact Or.inr ⟨_, h, by simp; omega⟩

theorem after_grown' {w W : World} (r : Option Nat) (h : After w W) : w.grownBy W r := ⟨h.os, h.tape, h.output, h.size, fun k hk _ => h.block k hk⟩

theorem row_after {w w' : World} {base n size : Nat} {T : TypeId} {v : Value} {xs : List Value} (h : w.ownsRow base T size v n xs) (hb : After w w') : w'.ownsRow base T size v n xs :=
  h.kept (after_grown' none hb) (by cases v.ownBlock with | none => exact Or.inl rfl | some k => exact Or.inr (by simp))

theorem flat_step (os : List (List (List UInt8))) (k : Nat) (h1 : 1 ≤ k) (h : k < os.length) : (os.tail.take (k + 1 - 1)).flatten = (os.tail.take (k - 1)).flatten ++ os[k] := by
  obtain ⟨i, rfl⟩ : ∃ i, k = i + 1 := ⟨k - 1, by omega⟩
  rw [show i + 1 + 1 - 1 = i + 1 by omega, show i + 1 - 1 = i by omega, List.take_succ_eq_append_getElem (by rw [List.length_tail]; omega), List.flatten_append, List.getElem_tail]
  simp
theorem flat_all (os : List (List (List UInt8))) : (os.tail.take (os.length - 1)).flatten = os.tail.flatten := by
  rw [List.take_of_length_le (by rw [List.length_tail]; omega)]
theorem flat_len : ∀ (os : List (List (List UInt8))) (Ns : List Nat), os.length = Ns.length → (∀ j (h : j < os.length) (h' : j < Ns.length), os[j].length ≤ Ns[j]) → os.flatten.length ≤ Ns.sum
  | [], [], _, _ => by simp
  | o :: os, n :: Ns, h, hj => by
    have h0 := hj 0 (by simp) (by simp)
    have h1 := flat_len os Ns (by simpa using h) (fun j h1 h2 => by have := hj (j + 1) (by simpa using h1) (by simpa using h2); simpa using this)
    simp only [List.flatten_cons, List.length_append, List.sum_cons]
    simp only [List.getElem_cons_zero] at h0
    omega
theorem flat_take (os : List (List (List UInt8))) (Ns : List Nat) (h : os.length = Ns.length) (hj : ∀ j (h : j < os.length) (h' : j < Ns.length), os[j].length ≤ Ns[j]) (k : Nat) : (os.tail.take k).flatten.length ≤ (Ns.tail.take k).sum := by
  refine flat_len _ _ (by simp [h]) (fun j h1 h2 => ?_)
  simp only [List.getElem_take, List.getElem_tail]
  exact hj _ (by simp at h1; omega) (by simp at h2; omega)
theorem sum_next (Ns : List Nat) (k : Nat) (h1 : 1 ≤ k) (h : k < Ns.length) : (Ns.tail.take (k - 1)).sum + Ns.getD k 0 ≤ Ns.tail.sum := by
  have hgd : Ns.getD k 0 = Ns[k] := by simp [List.getD, h]
  rw [hgd]
  clear hgd
  obtain ⟨i, rfl⟩ : ∃ i, k = i + 1 := ⟨k - 1, by omega⟩
  have h2 := sum_take_le Ns.tail (i + 1)
  rw [List.take_succ_eq_append_getElem (by rw [List.length_tail]; omega), List.sum_append, List.getElem_tail] at h2
  simpa using h2

theorem free_node (w : World) (B : Nat) (ps : List SX) (v : Value) (h : SV w B (.node ps) v) (hg : GoodX (.node ps)) (hx : ¬ (headX (.node ps) = Fm.wAll ∨ headX (.node ps) = Fm.wEx)) (os : List (List (List UInt8))) (Ns : List Nat) (hol : os.length = ps.length) (hNl : os.length = Ns.length) (h1 : 1 ≤ ps.length)
    (hoN : ∀ j (h : j < os.length) (h' : j < Ns.length), os[j].length ≤ Ns[j])
    (hk : ∀ j (hj : j < ps.length), 1 ≤ j → ∀ v, SV w B ps[j] v → FreeOk w v os[j] Ns[j]) : FreeOk w v os.tail.flatten Ns.tail.sum := by
  refine ⟨?_, ?_⟩
  · have := flat_take os Ns hNl hoN os.length
    rwa [List.take_of_length_le (by rw [List.length_tail]; omega), List.take_of_length_le (by rw [List.length_tail]; omega)] at this
  obtain ⟨b, cap, rfl, hp⟩ := h.part
  intro W hW bv bd hb sv ns ho hne hlen hbl
  have hbb := hb.lt
  have hrlt := ho.lt
  obtain ⟨r, hr⟩ : ∃ r, r = sv.ownBlock := ⟨_, rfl⟩
  rw [← hr] at hrlt hne
  obtain ⟨X, hX⟩ : ∃ X, X = W.alloc (.cells #[.string ⟨#[]⟩, .slice (some ⟨b, 0, none⟩) ps.length cap] 35) := ⟨_, rfl⟩
  have hXs : X.heap.size = W.heap.size + 1 := by rw [hX]; simp
  have hWX : W.grownBy X r := by rw [hX]; exact grew_alloc (grew_refl _ _) _
  have hbX : X.heap[W.heap.size]? = some (.cells #[.string ⟨#[]⟩, .slice (some ⟨b, 0, none⟩) ps.length cap] 35 (0, 0)) := by rw [hX]; exact heap_new' _ _
  have hwX : After w X := by rw [hX]; exact hW.alloc _
  have hXA : After W X := by rw [hX]; exact After.new _ _
  have hhead := s_head X B (.node ps) _ (h.after hwX) hg.1
  have hbd := fun W => s_binds W (headX (.node ps))
  rw [decide_eq_false hx] at hbd
  have hqn : ps.length ≤ 1000000000 := by
    have h1 := Fm.sxTexts_len ps
    have h2 := hg.2
    simp only [Fm.sxText, List.length_cons] at h2
    omega
  have hpart : ∀ j (hj : j < os.length), 1 ≤ j → ∃ (s : List UInt8) (ao : Option Addr) (n c : Nat), (∀ W, After w W → W.cell? ⟨b, j * 2, none⟩ = some (str s) ∧ W.cell? ⟨b, j * 2 + 1, none⟩ = some (.slice ao n c)) ∧ FreeOk w (.agg #[str s, .slice ao n c]) os[j] (Ns.getD j 0) := fun j hj h1 => by
    have hj' : j < ps.length := by omega
    obtain ⟨ao, c, hc, hs⟩ := hp j hj'
    have hgd : Ns.getD j 0 = Ns[j]'(hNl ▸ hj) := by simp [List.getD, show j < Ns.length from hNl ▸ hj]
    rw [hgd]
    exact ⟨_, ao, _, c, hc, hk j hj' h1 _ hs⟩
  rw [← hol] at hX hbX hqn h1 hhead ⊢
  have c0 : X.cell? ⟨W.heap.size, 0, none⟩ = some (.string ⟨#[]⟩) := cell_of_heap (i := 0) hbX
  have HP := Lib.hid hpart
  have HB := Lib.hid hbX
  have HR := Lib.hid hr
  have HWX := Lib.hid hWX
  have HwX := Lib.hid hwX
  have HXA := Lib.hid hXA
  have HO := Lib.hid ho
  have HBD := Lib.hid hb
  have HNE := Lib.hid hne
  have HRL := Lib.hid hrlt
  have HBB := Lib.hid hbb
  have HSZ := Lib.hid hXs
  have HLN := Lib.hid hlen
  have HBL := Lib.hid hbl
  have HWS := Lib.hid hW.size
  have HNL := Lib.hid hNl
  have HFT := Lib.hid (flat_take os Ns hNl hoN)
  generalize headX (.node ps) = x at *
  clear hpart hbX hr hWX hwX hXA ho hb hne hrlt hbb hXs hlen hbl hk hp h hg hx hW hol hoN hNl
  go_enter Tryz.func35, Tryz.ntmps35
  go_wp2_with fail
  rw [← hX]
  refine hhead.mono ?_
  rintro e W2 ⟨rfl, ha2⟩
  have HX2 : Hid (X.grownBy W2 r) := after_grown' r ha2
  have HA2 := Lib.hid ha2
  clear hhead c0 hX ha2
  go_wp2_with fail
  refine (hbd _).mono ?_
  rintro e w3 ⟨rfl, rfl⟩
  clear hbd
  go_wp2_with fail
  go_loopw [2, 7] (fun v2 i wr => ∃ (k : Nat) (lv : Value), lv = v2 ∧ i = .int .i64 k ∧ 1 ≤ k ∧ k ≤ os.length ∧ wr.ownsRow w.heap.size 9 1 lv (Fm.addA ns (Fm.outOf bd (os.tail.take (k - 1)).flatten)).length ((Fm.addA ns (Fm.outOf bd (os.tail.take (k - 1)).flatten)).map str) ∧ W.grownBy wr r ∧ X.grownBy wr r ∧ (lv.ownBlock = r ∨ ∃ q, lv.ownBlock = some q ∧ X.heap.size ≤ q)) (fun _ i _ => os.length - (intOf i).toNat)
  case atStart =>
    refine ⟨1, _, rfl, rfl, Nat.le_refl _, h1, ?_, grew_trans HWX.out HX2.out (Or.inl rfl), HX2.out, Or.inl HR.out.symm⟩
    exact row_after HO.out (HXA.out.trans HA2.out)
  case round =>
    obtain ⟨k, lv, rfl, rfl, hk1, hk, hrow, hgW, hgX, hown⟩ := hrel
    have hAw : After w wr := HwX.out.grown hgX (by have := HwX.out.size; omega) (fun q hq => by have := (HRL.out q hq).1; omega)
    have hbk : wr.heap[W.heap.size]? = some (.cells #[.string ⟨#[]⟩, .slice (some ⟨b, 0, none⟩) os.length cap] 35 (0, 0)) := grew_heap hgX HB.out (fun e => by have := (HRL.out _ e.symm).2; omega)
    have d1 : wr.cell? ⟨W.heap.size, 1, none⟩ = some (.slice (some ⟨b, 0, none⟩) os.length cap) := cell_of_heap (i := 1) hbk
    by_cases hlt : k < os.length
    · have hlti : (k : Int) < (os.length : Int) := by omega
      obtain ⟨s, ao, m, c, hc, hF⟩ := HP.out k hlt hk1
      obtain ⟨p0, p1⟩ := hc wr hAw
      have hbdr : BdOk wr bv bd := HBD.out.grown hgW HNE.out
      have hne2 : bd = [] ∨ bv.ownBlock ≠ lv.ownBlock := by
        rcases HNE.out with e0 | hne0
        · exact Or.inl e0
        rcases HBB.out with e0 | ⟨bb, e1, hlt1⟩
        · exact Or.inl e0
        right
        rcases hown with e | ⟨q, e, hq⟩
        · rw [e]; exact hne0
        · rw [e, e1]
          intro e2
          injection e2 with e2
          have := HSZ.out
          omega
      have hall := sum_next Ns k hk1 (HNL.out ▸ hlt)
      have hfl := HFT.out (k - 1)
      have hstep := flat_step os k hk1 hlt
      have hln1 := Fm.addA_len (Fm.outOf bd (os.tail.take (k - 1)).flatten) ns
      have hln2 : (Fm.outOf bd (os.tail.take (k - 1)).flatten).length ≤ (os.tail.take (k - 1)).flatten.length := List.length_filter_le _ _
      have hnext : Fm.addA (Fm.addA ns (Fm.outOf bd (os.tail.take (k - 1)).flatten)) (Fm.outOf bd os[k]) = Fm.addA ns (Fm.outOf bd (os.tail.take (k + 1 - 1)).flatten) := by rw [hstep, Fm.outOf_app, Fm.addA_app]
      have hcall := hF.2 wr hAw bv bd hbdr lv _ hrow hne2 (by have := HLN.out; omega) (by have := HBL.out; omega)
      rw [hnext] at hcall
      unfold NamesP at hcall
      generalize Fm.addA ns (Fm.outOf bd (os.tail.take (k - 1)).flatten) = n1 at *
      have HN2 : Hid (∃ n2, n2 = Fm.addA ns (Fm.outOf bd (os.tail.take (k + 1 - 1)).flatten)) := ⟨_, rfl⟩
      have HOW := Lib.hid hown
      clear hc hF hbdr hne2 hall hfl hstep hln1 hln2 hnext hown hbk
      go_wp2_with fail
      refine hcall.mono ?_
      rintro e w4 ⟨sv', rfl, ho4, hg4, hor4⟩
      clear hcall
      go_wp2_with fail
      go_roundw
      case rel =>
        have hr4 : lv.ownBlock = r ∨ ∃ q, lv.ownBlock = some q ∧ W.heap.size ≤ q := by
          rcases HOW.out with e | ⟨q, e, hq⟩
          · exact Or.inl e
          · exact Or.inr ⟨q, e, by have := HSZ.out; omega⟩
        have hr5 : lv.ownBlock = r ∨ ∃ q, lv.ownBlock = some q ∧ X.heap.size ≤ q := HOW.out
        refine ⟨k + 1, _, rfl, by go_num, by omega, by omega, ho4, grew_trans hgW hg4 hr4, grew_trans hgX hg4 hr5, ?_⟩
        rcases hor4 with e | ⟨q, e, hq⟩
        · rw [e]; exact HOW.out
        · exact Or.inr ⟨q, e, Nat.le_trans hgX.size hq⟩
      case measure => simp [intOf]; omega
    · obtain rfl : k = os.length := by omega
      rw [flat_all os] at hrow
      have HOW := Lib.hid hown
      clear hown hbk
      go_wp2_with fail
      go_ret
      refine ⟨lv, rfl, hrow, by rw [← HR.out]; exact hgW, ?_⟩
      rw [← HR.out]
      rcases HOW.out with e | ⟨q, e, hq⟩
      · exact Or.inl e
      · exact Or.inr ⟨q, e, by have := HSZ.out; omega⟩
end Go.Proofs.YtdjoafnohkmneaaGreatDoor

namespace Go.Proofs.YtdjoafnohkmneaaGreatDoor
open Go

section
variable {P : Program} {ops : Array Oper} {Q : Exit → Act → World → Prop}

/-- Whether operation i comes behind operation j, by edges at most f deep. -/
def reachF (ops : Array Oper) : Nat → Nat → Nat → Bool
  | 0, _, _ => false
  | f + 1, i, j => depsOn ops i j || (List.range i).any fun k => depsOn ops i k && reachF ops f k j
/-- The operations from m on come one behind the other, each behind all ahead of it. -/
def regTail (ops : Array Oper) (m f : Nat) : Bool := (List.range ops.size).all fun i => decide (i < m) || (List.range i).all fun j => reachF ops f i j

theorem reach_listed {listed : Array Bool} (hc : ∀ i, listed.getD i false = true → ∀ j, depsOn ops i j = true → listed.getD j false = true) : ∀ (f i j : Nat), (∀ j, depsOn ops i j = true → listed.getD j false = true) → reachF ops f i j = true → listed.getD j false = true
  | 0, _, _, _, h => by cases h
  | f + 1, i, j, hi, h => by
    rw [reachF, Bool.or_eq_true] at h
    rcases h with h | h
    · exact hi j h
    · rw [List.any_eq_true] at h
      obtain ⟨k, _, h⟩ := h
      rw [Bool.and_eq_true] at h
      exact reach_listed hc f k j (hc k (hi k h.1)) h.2

/-- The operations from i on, k of them, one behind the other. -/
def tailP (P : Program) (ops : Array Oper) (Q : Exit → Act → World → Prop) : Nat → Nat → Act → World → Prop
  | 0, _, a, w => Q .normal a w
  | k + 1, i, a, w => OpDo P ops Q a i w (tailP P ops Q k (i + 1))

theorem wp_region_tail {id m k f : Nat} {a0 : Act} {w0 : World} (hm : P.follows .mixedOrders = true) (hn : ops.size = m + k) (hok : regOk ops m = true) (htl : regTail ops m f = true)
    (Ext : World → World → Prop) (hrefl : ∀ w, Ext w w) (htrans : ∀ a b c, Ext a b → Ext b c → Ext a c)
    (R : Nat → Value → World → Prop) (hR : ∀ i v w w', Ext w0.drew w → R i v w → Ext w w' → R i v w')
    (hstep : ∀ i, i < m → ∀ (vs : Nat → Value) (w : World), Ext w0.drew w → (∀ j, depsOn ops i j = true → R j (vs j) w) →
      ∀ K : Act → World → Prop, (∀ v w', Ext w w' → R i v w' → K ((frame a0 ops vs).put (dstOf ops i) v) w') → OpDo P ops Q (frame a0 ops vs) i w K)
    (htail : ∀ (vs : Nat → Value) (w : World), Ext w0.drew w → (∀ i, i < m → R i (vs i) w) → tailP P ops Q k m (frame a0 ops vs) w) :
    (Code.region id ops true).wp P Q a0 w0 := by
  have getSet : ∀ (listed : Array Bool) (i j : Nat), (listed.setIfInBounds i true).getD j false = if j = i ∧ i < listed.size then true else listed.getD j false := fun listed i j => by
    simp only [Array.getD_eq_getD_getElem?, Array.getElem?_setIfInBounds]
    by_cases h : i = j
    · subst h
      by_cases hi : i < listed.size
      · simp [hi]
      · simp [hi]
    · have h' : ¬ j = i := fun e => h e.symm
      simp [h, h']
  refine wp_region_any hm ?_
  refine wpAny_inv (fun listed a w => listed.size = ops.size ∧ (∀ i, listed.getD i false = true → ∀ j, depsOn ops i j = true → listed.getD j false = true) ∧
    ((∃ vs, a = frame a0 ops vs ∧ Ext w0.drew w ∧ (∀ j, m ≤ j → listed.getD j false = false) ∧ ∀ j, listed.getD j false = true → R j (vs j) w) ∨
     (∃ t, t ≤ k ∧ (∀ j, j < m + t → listed.getD j false = true) ∧ (∀ j, m + t ≤ j → listed.getD j false = false) ∧ tailP P ops Q (k - t) (m + t) a w))) ?_ ?_ ops.size _ _ _ ?_ ⟨by simp, fun i hi => ?_, Or.inl ⟨_, (putAll_init a0 (dstOf ops) ops.size).symm, hrefl _, fun j _ => ?_, fun j hj => ?_⟩⟩
  · rintro listed a w ⟨hsz, hc, h⟩ hr
    have hall := all_listed hsz (regOk_back hok) hr
    rcases h with ⟨vs, rfl, hE, h1, h2⟩ | ⟨t, ht, h1, h2, hp⟩
    · have hk : k = 0 := by
        by_cases hk : k = 0
        · exact hk
        · have := hall m (by omega); rw [h1 m (Nat.le_refl _)] at this; cases this
      have := htail vs w hE (fun i hi => h2 i (hall i (by omega)))
      rw [hk] at this
      exact this
    · have hk : t = k := by
        by_cases hk : t = k
        · exact hk
        · have := hall (m + t) (by omega); rw [h2 _ (Nat.le_refl _)] at this; cases this
      rw [hk, Nat.sub_self] at hp
      exact hp
  · rintro listed a w i ⟨hsz, hc, h⟩ hi
    obtain ⟨hlt, hun, o, ho, hdeps⟩ := ready_open hi
    have hun' : listed.getD i false = false := by
      have hls : i < listed.size := by omega
      simp only [Array.getD, hls, dif_pos] at hun ⊢
      exact hun
    have hdep : ∀ j, depsOn ops i j = true → listed.getD j false = true := fun j hj => by
      unfold depsOn at hj
      rw [ho] at hj
      simp only at hj
      rw [Array.any_eq_true] at hj
      obtain ⟨k, hk, hb⟩ := hj
      simp only [Bool.and_eq_true, beq_iff_eq] at hb
      rw [← hb.2]
      exact hdeps _ (Array.getElem_mem hk) hb.1
    have fin : ∀ {A : Act} {K2 : Act → World → Prop}, (∀ K' : Act → World → Prop, (∀ a w, K2 a w → K' a w) → OpDo P ops Q A i w K') → wpOp P ops Q i K2 A w := fun {A K2} h => wpOp_step ho (fun K' hK => by
      have := (h K' hK).out
      rw [ho] at this
      exact this)
    have hsz' : (listed.setIfInBounds i true).size = ops.size := by simpa using hsz
    have hil : i < listed.size := by omega
    have same : ∀ j, listed.getD j false = true → (listed.setIfInBounds i true).getD j false = true := fun j hj => by rw [getSet]; split <;> simp [hj]
    have here : (listed.setIfInBounds i true).getD i false = true := by rw [getSet]; simp [hil]
    have other : ∀ j, j ≠ i → listed.getD j false = false → (listed.setIfInBounds i true).getD j false = false := fun j hne hj => by rw [getSet]; simp [hne, hj]
    have back : ∀ j, j ≠ i → (listed.setIfInBounds i true).getD j false = true → listed.getD j false = true := fun j hne hj => by rw [getSet, if_neg (fun h => hne h.1)] at hj; exact hj
    have hc' : ∀ q, (listed.setIfInBounds i true).getD q false = true → ∀ j, depsOn ops q j = true → (listed.setIfInBounds i true).getD j false = true := fun q hq j hj => by
      by_cases hqi : q = i
      · subst hqi; exact same j (hdep j hj)
      · exact same j (hc q (back q hqi hq) j hj)
    have hahead : m ≤ i → ∀ j, j < i → listed.getD j false = true := fun hmi j hj => by
      have := List.all_eq_true.1 htl i (List.mem_range.2 hlt)
      rw [Bool.or_eq_true] at this
      rcases this with h | h
      · rw [decide_eq_true_eq] at h; omega
      · exact reach_listed hc f i j hdep (List.all_eq_true.1 h j (List.mem_range.2 hj))
    have mono : ∀ {A : Act} {K1 K2 : Act → World → Prop}, (∀ a w, K1 a w → K2 a w) → OpDo P ops Q A i w K1 → ∀ K', (∀ a w, K2 a w → K' a w) → OpDo P ops Q A i w K' := fun {A K1 K2} h12 h K' hK => by
      refine ⟨?_⟩
      have := h.out
      rw [ho] at this ⊢
      simp only at this ⊢
      split
      · rename_i hw
        rw [if_pos hw] at this
        exact Oper.wp_mono (fun a w h => hK a w (h12 a w h)) this
      · rename_i hw
        rw [if_neg hw] at this
        exact hK _ _ (h12 _ _ this)
    rcases h with ⟨vs, rfl, hE, h1, h2⟩ | ⟨t, ht, h1, h2, hp⟩
    · by_cases him : i < m
      · refine fin (fun K' hK => hstep i him vs w hE (fun j hjd => h2 j (hdep j hjd)) K' (fun v w' he hr => hK _ _ ⟨hsz', hc', Or.inl ⟨fun j => if j = i then v else vs j, (putAll_upd a0 (dstOf ops) vs i v ops.size hlt (fun j hj' hne => regOk_dst hok i j him hj' hne)).symm, htrans _ _ _ hE he, fun j hj => other j (by omega) (h1 j hj), fun j hjl => ?_⟩⟩))
        by_cases hji : j = i
        · subst hji; simpa using hr
        · simp only [hji, if_false]
          exact hR j _ w w' hE (h2 j (back j hji hjl)) he
      · have him' : i = m := by
          by_cases he : i = m
          · exact he
          · have := hahead (by omega) m (by omega); rw [h1 m (Nat.le_refl _)] at this; cases this
        subst him'
        have := htail vs w hE (fun j hj => h2 j (hahead (Nat.le_refl _) j hj))
        obtain ⟨k', rfl⟩ : ∃ k', k = k' + 1 := ⟨k - 1, by omega⟩
        refine fin (mono (fun a' w' h' => ?_) this)
        refine ⟨hsz', hc', Or.inr ⟨1, by omega, fun j hj => ?_, fun j hj => other j (by omega) (h1 j (by omega)), ?_⟩⟩
        · by_cases hji : j = i
          · rw [hji]; exact here
          · exact same j (hahead (Nat.le_refl _) j (by omega))
        · rw [Nat.add_sub_cancel]; exact h'
    · have hi1 : i = m + t := by
        by_cases hlt' : i < m + t
        · have := h1 i hlt'; rw [hun'] at this; cases this
        · by_cases he : i = m + t
          · exact he
          · have := hahead (by omega) (m + t) (by omega); rw [h2 _ (Nat.le_refl _)] at this; cases this
      subst hi1
      obtain ⟨k', hk'⟩ : ∃ k', k - t = k' + 1 := ⟨k - t - 1, by omega⟩
      rw [hk'] at hp
      refine fin (mono (fun a' w' h' => ?_) hp)
      refine ⟨hsz', hc', Or.inr ⟨t + 1, by omega, fun j hj => ?_, fun j hj => other j (by omega) (h2 j (by omega)), ?_⟩⟩
      · by_cases hji : j = m + t
        · rw [hji]; exact here
        · exact same j (h1 j (by omega))
      · rw [show k - (t + 1) = k' by omega]; exact h'
  · have := List.countP_le_length (p := fun b : Bool => !b) (l := (Array.replicate ops.size false).toList)
    unfold openN
    simpa using this
  · rw [Array.getD_eq_getD_getElem?, Array.getElem?_replicate] at hi; split at hi <;> cases hi
  · rw [Array.getD_eq_getD_getElem?, Array.getElem?_replicate]; split <;> rfl
  · rw [Array.getD_eq_getD_getElem?, Array.getElem?_replicate] at hj; split at hj <;> cases hj
end
end Go.Proofs.YtdjoafnohkmneaaGreatDoor

namespace Go.Proofs.YtdjoafnohkmneaaGreatDoor
open Go

set_option maxRecDepth 100000

section
variable {P : Program} {ops : Array Oper} {Q : Exit → Act → World → Prop}

/-- What an operation's value is needed for alone. -/
def usesOk (ops : Array Oper) (m : Nat) (use : Nat → Option Nat) : Bool :=
  (List.range m).all fun i => (List.range ops.size).all fun j => !depsOn ops i j || (use j).isNone || (use j == some i)

theorem usesOk_dep {m : Nat} {use : Nat → Option Nat} (h : usesOk ops m use = true) {i j : Nat} (hi : i < m) (hj : j < ops.size) (hd : depsOn ops i j = true) : use j = none ∨ use j = some i := by
  have := List.all_eq_true.1 (List.all_eq_true.1 h i (List.mem_range.2 hi)) j (List.mem_range.2 hj)
  rw [hd] at this
  simp only [Bool.not_true, Bool.false_or, Bool.or_eq_true, Option.isNone_iff_eq_none, beq_iff_eq] at this
  exact this

/-- What stays behind operation i: all that is there and not used up. -/
def StepU (ops : Array Oper) (p : Nat) (C B : World → Prop) (R : Nat → Value → World → Prop) (use : Nat → Option Nat) (i : Nat) (w w' : World) : Prop :=
  B w' ∧ (i ≠ p → C w → C w') ∧ ∀ j v, j ≠ i → depsOn ops j i = false → (∀ c, use j = some c → c ≠ i ∧ depsOn ops i c = false) → R j v w → R j v w'

theorem all_listedB {listed : Array Bool} (hsz : listed.size = ops.size) (hback : ∀ (i : Nat) (o : Oper), ops[i]? = some o → ∀ e : Edge, e ∈ o.after → Region.binds .any e = true → e.on < i) (hr : Region.ready .any ops listed = []) : ∀ i, i < ops.size → listed.getD i false = true := by
  have hall : ∀ n i, i < n → i < ops.size → listed.getD i false = true := by
    intro n
    induction n with
    | zero => intro i h; omega
    | succ n ih =>
      intro i hin hi
      by_cases hl : listed.getD i true = false
      · exfalso
        have hmem : i ∈ Region.ready .any ops listed := by
          simp only [Region.ready, List.mem_filter, List.mem_range, Bool.and_eq_true, Bool.not_eq_true']
          refine ⟨hi, hl, ?_⟩
          have ho : ops[i]? = some ops[i] := Array.getElem?_eq_getElem hi
          rw [ho]
          simp only [Option.map_some, Option.getD_some, Array.all_eq_true_iff_forall_mem, Bool.or_eq_true, Bool.not_eq_true']
          intro e hm'
          cases hbd : Region.binds .any e with
          | false => exact Or.inl rfl
          | true =>
          right
          have := hback i _ ho e hm' hbd
          exact ih e.on (by omega) (by omega)
        rw [hr] at hmem
        cases hmem
      · have hlt : i < listed.size := by omega
        simp only [Array.getD, hlt, dif_pos] at hl ⊢
        simpa using hl
  exact fun i hi => hall (i + 1) i (by omega) hi

theorem wp_region_use_tail {id m k f : Nat} {a0 : Act} {w0 : World} (hm : P.follows .mixedOrders = true) (hn : ops.size = m + k) (hok : regOkB ops m = true) (htl : regTail ops m f = true) (use : Nat → Option Nat) (huse : usesOk ops m use = true)
    (p : Nat) (C B : World → Prop) (R : Nat → Value → World → Prop) (hC : C w0.drew) (hB : B w0.drew)
    (hstep : ∀ i, i < m → ∀ (vs : Nat → Value) (w : World), B w → (i = p ∨ depsOn ops p i = true → C w) → (∀ j, depsOn ops i j = true → R j (vs j) w) →
      ∀ K : Act → World → Prop, (∀ v w', StepU ops p C B R use i w w' → R i v w' → K ((frame a0 ops vs).put (dstOf ops i) v) w') → OpDo P ops Q (frame a0 ops vs) i w K)
    (htail : ∀ (vs : Nat → Value) (w : World), B w → (∀ i, i < m → (∀ c, use i = some c → m ≤ c) → R i (vs i) w) → tailP P ops Q k m (frame a0 ops vs) w) :
    (Code.region id ops true).wp P Q a0 w0 := by
  have getSet : ∀ (listed : Array Bool) (i j : Nat), (listed.setIfInBounds i true).getD j false = if j = i ∧ i < listed.size then true else listed.getD j false := fun listed i j => by
    simp only [Array.getD_eq_getD_getElem?, Array.getElem?_setIfInBounds]
    by_cases h : i = j
    · subst h
      by_cases hi : i < listed.size
      · simp [hi]
      · simp [hi]
    · have h' : ¬ j = i := fun e => h e.symm
      simp [h, h']
  refine wp_region_any hm ?_
  refine wpAny_inv (fun listed a w => listed.size = ops.size ∧ (∀ i, listed.getD i false = true → ∀ j, depsOn ops i j = true → listed.getD j false = true) ∧
    ((∃ vs, a = frame a0 ops vs ∧ B w ∧ (listed.getD p false = false → C w) ∧ (∀ j, m ≤ j → listed.getD j false = false) ∧ ∀ j, listed.getD j false = true → (∀ c, use j = some c → listed.getD c false = false) → R j (vs j) w) ∨
     (∃ t, t ≤ k ∧ (∀ j, j < m + t → listed.getD j false = true) ∧ (∀ j, m + t ≤ j → listed.getD j false = false) ∧ tailP P ops Q (k - t) (m + t) a w))) ?_ ?_ ops.size _ _ _ ?_ ⟨by simp, fun i hi => ?_, Or.inl ⟨_, (putAll_init a0 (dstOf ops) ops.size).symm, hB, fun _ => hC, fun j _ => ?_, fun j hj => ?_⟩⟩
  · rintro listed a w ⟨hsz, hc, h⟩ hr
    have hall := all_listedB hsz (regOkB_back hok) hr
    rcases h with ⟨vs, rfl, hE, hCw, h1, h2⟩ | ⟨t, ht, h1, h2, hp⟩
    · have hk : k = 0 := by
        by_cases hk : k = 0
        · exact hk
        · have := hall m (by omega); rw [h1 m (Nat.le_refl _)] at this; cases this
      have := htail vs w hE (fun i hi hu => h2 i (hall i (by omega)) (fun c hc => h1 c (hu c hc)))
      rw [hk] at this
      exact this
    · have hk : t = k := by
        by_cases hk : t = k
        · exact hk
        · have := hall (m + t) (by omega); rw [h2 _ (Nat.le_refl _)] at this; cases this
      rw [hk, Nat.sub_self] at hp
      exact hp
  · rintro listed a w i ⟨hsz, hc, h⟩ hi
    obtain ⟨hlt, hun, o, ho, hdeps⟩ := ready_open hi
    have hun' : listed.getD i false = false := by
      have hls : i < listed.size := by omega
      simp only [Array.getD, hls, dif_pos] at hun ⊢
      exact hun
    have hdep : ∀ j, depsOn ops i j = true → listed.getD j false = true := fun j hj => by
      unfold depsOn at hj
      rw [ho] at hj
      simp only at hj
      rw [Array.any_eq_true] at hj
      obtain ⟨k, hk, hb⟩ := hj
      simp only [Bool.and_eq_true, beq_iff_eq] at hb
      rw [← hb.2]
      exact hdeps _ (Array.getElem_mem hk) hb.1
    have fin : ∀ {A : Act} {K2 : Act → World → Prop}, (∀ K' : Act → World → Prop, (∀ a w, K2 a w → K' a w) → OpDo P ops Q A i w K') → wpOp P ops Q i K2 A w := fun {A K2} h => wpOp_step ho (fun K' hK => by
      have := (h K' hK).out
      rw [ho] at this
      exact this)
    have hsz' : (listed.setIfInBounds i true).size = ops.size := by simpa using hsz
    have hil : i < listed.size := by omega
    have same : ∀ j, listed.getD j false = true → (listed.setIfInBounds i true).getD j false = true := fun j hj => by rw [getSet]; split <;> simp [hj]
    have here : (listed.setIfInBounds i true).getD i false = true := by rw [getSet]; simp [hil]
    have other : ∀ j, j ≠ i → listed.getD j false = false → (listed.setIfInBounds i true).getD j false = false := fun j hne hj => by rw [getSet]; simp [hne, hj]
    have back : ∀ j, j ≠ i → (listed.setIfInBounds i true).getD j false = true → listed.getD j false = true := fun j hne hj => by rw [getSet, if_neg (fun h => hne h.1)] at hj; exact hj
    have hc' : ∀ q, (listed.setIfInBounds i true).getD q false = true → ∀ j, depsOn ops q j = true → (listed.setIfInBounds i true).getD j false = true := fun q hq j hj => by
      by_cases hqi : q = i
      · subst hqi; exact same j (hdep j hj)
      · exact same j (hc q (back q hqi hq) j hj)
    have hahead : m ≤ i → ∀ j, j < i → listed.getD j false = true := fun hmi j hj => by
      have := List.all_eq_true.1 htl i (List.mem_range.2 hlt)
      rw [Bool.or_eq_true] at this
      rcases this with h | h
      · rw [decide_eq_true_eq] at h; omega
      · exact reach_listed hc f i j hdep (List.all_eq_true.1 h j (List.mem_range.2 hj))
    have mono : ∀ {A : Act} {K1 K2 : Act → World → Prop}, (∀ a w, K1 a w → K2 a w) → OpDo P ops Q A i w K1 → ∀ K', (∀ a w, K2 a w → K' a w) → OpDo P ops Q A i w K' := fun {A K1 K2} h12 h K' hK => by
      refine ⟨?_⟩
      have := h.out
      rw [ho] at this ⊢
      simp only at this ⊢
      split
      · rename_i hw
        rw [if_pos hw] at this
        exact Oper.wp_mono (fun a w h => hK a w (h12 a w h)) this
      · rename_i hw
        rw [if_neg hw] at this
        exact hK _ _ (h12 _ _ this)
    rcases h with ⟨vs, rfl, hE, hCw, h1, h2⟩ | ⟨t, ht, h1, h2, hp⟩
    · by_cases him : i < m
      · refine fin (fun K' hK => hstep i him vs w hE (fun hp => hCw (by
          rcases hp with rfl | hp
          · exact hun'
          · cases hl : listed.getD p false with
            | false => rfl
            | true => have := hc p hl i hp; rw [hun'] at this; cases this)) (fun j hjd => h2 j (hdep j hjd) (fun c hc => by
          have hj : j < ops.size := by
            have h3 := hdep j hjd
            by_cases hj : j < listed.size
            · omega
            · simp [Array.getD, hj] at h3
          rcases usesOk_dep huse him hj hjd with e | e
          · rw [e] at hc; cases hc
          · rw [e] at hc; obtain rfl := Option.some.inj hc; exact hun')) K' (fun v w' he hr => hK _ _ ⟨hsz', hc', Or.inl ⟨fun j => if j = i then v else vs j, (putAll_upd a0 (dstOf ops) vs i v ops.size hlt (fun j hj' hne => regOkB_dst hok i j him hj' hne)).symm, he.1, fun hp => ?_, fun j hj => other j (by omega) (h1 j hj), fun j hjl hju => ?_⟩⟩))
        · by_cases hip : i = p
          · subst hip; rw [here] at hp; cases hp
          · refine he.2.1 hip (hCw ?_)
            rw [getSet, if_neg (fun h => hip h.1.symm)] at hp
            exact hp
        by_cases hji : j = i
        · subst hji; simpa using hr
        · simp only [hji, if_false]
          have hcl : ∀ c, use j = some c → c ≠ i ∧ listed.getD c false = false := fun c hu => by
            have := hju c hu
            by_cases hci : c = i
            · subst hci; rw [here] at this; cases this
            · rw [getSet, if_neg (fun h => hci h.1)] at this; exact ⟨hci, this⟩
          refine he.2.2 j _ hji ?_ (fun c hu => ⟨(hcl c hu).1, ?_⟩) (h2 j (back j hji hjl) (fun c hc => (hcl c hc).2))
          · cases hd : depsOn ops j i with
            | false => rfl
            | true => have := hc j (back j hji hjl) i hd; rw [hun'] at this; cases this
          · cases hd : depsOn ops i c with
            | false => rfl
            | true => have := hdep c hd; rw [(hcl c hu).2] at this; cases this
      · have him' : i = m := by
          by_cases he : i = m
          · exact he
          · have := hahead (by omega) m (by omega); rw [h1 m (Nat.le_refl _)] at this; cases this
        subst him'
        have := htail vs w hE (fun j hj hu => h2 j (hahead (Nat.le_refl _) j hj) (fun c hc => h1 c (hu c hc)))
        obtain ⟨k', rfl⟩ : ∃ k', k = k' + 1 := ⟨k - 1, by omega⟩
        refine fin (mono (fun a' w' h' => ?_) this)
        refine ⟨hsz', hc', Or.inr ⟨1, by omega, fun j hj => ?_, fun j hj => other j (by omega) (h1 j (by omega)), ?_⟩⟩
        · by_cases hji : j = i
          · rw [hji]; exact here
          · exact same j (hahead (Nat.le_refl _) j (by omega))
        · rw [Nat.add_sub_cancel]; exact h'
    · have hi1 : i = m + t := by
        by_cases hlt' : i < m + t
        · have := h1 i hlt'; rw [hun'] at this; cases this
        · by_cases he : i = m + t
          · exact he
          · have := hahead (by omega) (m + t) (by omega); rw [h2 _ (Nat.le_refl _)] at this; cases this
      subst hi1
      obtain ⟨k', hk'⟩ : ∃ k', k - t = k' + 1 := ⟨k - t - 1, by omega⟩
      rw [hk'] at hp
      refine fin (mono (fun a' w' h' => ?_) hp)
      refine ⟨hsz', hc', Or.inr ⟨t + 1, by omega, fun j hj => ?_, fun j hj => other j (by omega) (h2 j (by omega)), ?_⟩⟩
      · by_cases hji : j = m + t
        · rw [hji]; exact here
        · exact same j (h1 j (by omega))
      · rw [show k - (t + 1) = k' by omega]; exact h'
  · have := List.countP_le_length (p := fun b : Bool => !b) (l := (Array.replicate ops.size false).toList)
    unfold openN
    simpa using this
  · rw [Array.getD_eq_getD_getElem?, Array.getElem?_replicate] at hi; split at hi <;> cases hi
  · rw [Array.getD_eq_getD_getElem?, Array.getElem?_replicate]; split <;> rfl
  · rw [Array.getD_eq_getD_getElem?, Array.getElem?_replicate] at hj; split at hj <;> cases hj
end

/-- What an operation yields, here: a value, nothing, or something said of the value and the world. -/
inductive Yu where
  | lit (v : Value)
  | free
  | pred (F : Value → World → Prop)
def Yu.holds : Yu → Value → World → Prop
  | .lit u, v, _ => v = u
  | .free, _, _ => True
  | .pred F, v, w => F v w
def yus (L : List Yu) (i : Nat) (v : Value) (w : World) : Prop := (L.getD i .free).holds v w
def keepsU (E : World → World → Prop) : Yu → Prop
  | .pred F => ∀ v w w', E w w' → F v w → F v w'
  | _ => True
theorem yus_keep {L : List Yu} {E : World → World → Prop} (hL : ∀ y ∈ L, keepsU E y) {w w' : World} (hE : E w w') (j : Nat) (v : Value) (h : yus L j v w) : yus L j v w' := by
  unfold yus at *
  by_cases hi : j < L.length
  · have hm : L.getD j .free ∈ L := by rw [List.getD_eq_getElem?_getD, List.getElem?_eq_getElem hi]; exact List.getElem_mem hi
    have hk := hL _ hm
    cases hy : L.getD j .free with
    | lit u => rw [hy] at h; exact h
    | free => trivial
    | pred F => rw [hy] at h hk; exact hk v w w' hE h
  · rw [List.getD_eq_getElem?_getD, List.getElem?_eq_none (by omega)]
    trivial

section
variable {P : Program} {ops : Array Oper} {Q : Exit → Act → World → Prop} {A : Act} {i : Nat} {w : World} {K : Act → World → Prop} {p : Nat} {C B : World → Prop} {R : Nat → Value → World → Prop} {use : Nat → Option Nat}

theorem du_val {u : Value} (hs : (ops[i]?).isSome = true) (hw : Region.wanted (opAt ops i) (yielded ops A.tmps) = true) (hr : (execOp A.eval (opAt ops i)).run P w = .ok (.value u) w) (hB : B w) (hy : R i u w)
    (hK : ∀ v w', StepU ops p C B R use i w w' → R i v w' → K (A.put (dstOf ops i) v) w') : OpDo P ops Q A i w K :=
  op_val hs hw hr (hK _ _ ⟨hB, fun _ h => h, fun _ _ _ _ _ h => h⟩ hy)
theorem du_new {u : Value} {w' : World} (hs : (ops[i]?).isSome = true) (hw : Region.wanted (opAt ops i) (yielded ops A.tmps) = true) (hr : (execOp A.eval (opAt ops i)).run P w = .ok (.value u) w') (hst : StepU ops p C B R use i w w') (hy : R i u w')
    (hK : ∀ v w', StepU ops p C B R use i w w' → R i v w' → K (A.put (dstOf ops i) v) w') : OpDo P ops Q A i w K :=
  op_val hs hw hr (hK _ _ hst hy)
theorem ru_app {s x : Operand} {t : TypeId} {v sv v' : Value} {w' : World} (hop : (opAt ops i).op = .call { callee := .builtin .append, args := #[s, x], argTypes := #[t, t] }) (hs : A.eval s = v) (hx : A.eval x = sv)
    (h : (Builtin.append_ #[t, t] (opAt ops i).type #[v, sv]).run P w = .ok v' w') : (execOp A.eval (opAt ops i)).run P w = .ok (.value v') w' := by
  unfold execOp
  simp only [hop, resolve, invoke, builtin, Sem.run_bind, Sem.run_pure, Result.andThen_ok, List.map_toArray, List.map_cons, List.map_nil, hs, hx, h]
end
end Go.Proofs.YtdjoafnohkmneaaGreatDoor

namespace Go.Proofs.YtdjoafnohkmneaaGreatDoor
open Go.RowKit

set_option maxHeartbeats 4000000
set_option maxRecDepth 100000

section
variable {ops : Array Oper} {A : Act} {i : Nat} {w : World}
theorem ruf_lds {x : Operand} {u v : Value} {p : Addr} (hop : (opAt ops i).op = .load 33 x) (hx : A.eval x = u) (hu : u = .pointer (some p)) (hc : w.cell? p = some v) :
    (execOp A.eval (opAt ops i)).run Tryz.prog w = .ok (.value v) w := by
  subst hu
  unfold execOp
  simp only [hop, hx]
  simp [go_sem, hc]
theorem ruf_ldstr {x : Operand} {u v : Value} {p : Addr} (hop : (opAt ops i).op = .load 9 x) (hx : A.eval x = u) (hu : u = .pointer (some p)) (hc : w.cell? p = some v) :
    (execOp A.eval (opAt ops i)).run Tryz.prog w = .ok (.value v) w := by
  subst hu
  unfold execOp
  simp only [hop, hx]
  simp [go_sem, hc]
theorem ruf_ix {x : Operand} {u : Value} {b n cap k : Nat} (hop : (opAt ops i).op = .indexAddr 33 x (.const (.int .i64 k))) (hx : A.eval x = u) (hu : u = .slice (some ⟨b, 0, none⟩) n cap) (hk : k < n) :
    (execOp A.eval (opAt ops i)).run Tryz.prog w = .ok (.value (.pointer (some ⟨b, k * 2, none⟩))) w := by
  subst hu
  have hk' : (k : Int) < (n : Int) := by omega
  have hc : A.eval (.const (.int .i64 k)) = .int .i64 k := rfl
  unfold execOp
  generalize A.eval = E at *
  simp only [hop]
  simp [go_sem, hx, hc, hk']
theorem ruf_f0 {x : Operand} {u : Value} {b k : Nat} (hop : (opAt ops i).op = .fieldAddr 35 x 0) (hx : A.eval x = u) (hu : u = .pointer (some ⟨b, k, none⟩)) :
    (execOp A.eval (opAt ops i)).run Tryz.prog w = .ok (.value (.pointer (some ⟨b, k, none⟩))) w := by
  subst hu
  unfold execOp
  simp only [hop, hx]
  kernel_rfl
theorem ruf_row0 (hop : (opAt ops i).op = .buildSlice 52 0 #[]) :
    (execOp A.eval (opAt ops i)).run Tryz.prog w = .ok (.value (.slice (some ⟨w.heap.size, 0, none⟩) 0 0)) (w.alloc (.cells #[] 9)) := by
  unfold execOp
  simp only [hop]
  kernel_rfl
theorem ruf_row1 {x : Operand} {u : Value} {s : List UInt8} (hop : (opAt ops i).op = .buildSlice 52 1 #[(0, x)]) (hx : A.eval x = u) (hu : u = str s) :
    (execOp A.eval (opAt ops i)).run Tryz.prog w = .ok (.value (.slice (some ⟨w.heap.size, 0, none⟩) 1 1)) (w.alloc (.cells #[str s] 9)) := by
  subst hu
  unfold execOp
  generalize A.eval = E at *
  simp only [hop]
  simp [go_sem, hx]
end

/-- What the operations of the region yield. -/
def bindL (Y W : World) (b cap : Nat) (s3 x : List UInt8) (ao3 : Option Addr) (n3 c3 : Nat) (bv sv : Value) (bd : List (List UInt8)) : List Yu :=
  [.lit (.pointer (some ⟨W.heap.size, 1, none⟩)), .lit (.slice (some ⟨b, 0, none⟩) 4 cap), .lit (.pointer (some ⟨b, 6, none⟩)), .lit (.agg #[str s3, .slice ao3 n3 c3]), .pred (fun v w => ∃ g, v = .slice (some ⟨g, 0, none⟩) 0 0 ∧ Y.heap.size ≤ g ∧ w.heap[g]? = some (.cells #[] 9 (0, 0))), .lit bv, .pred (fun v w => w.ownsRow Y.heap.size 9 1 v bd.length (bd.map str)), .lit (.pointer (some ⟨W.heap.size, 1, none⟩)), .lit (.slice (some ⟨b, 0, none⟩) 4 cap), .lit (.pointer (some ⟨b, 2, none⟩)), .lit (.pointer (some ⟨b, 2, none⟩)), .lit (str x), .pred (fun v w => ∃ g, v = .slice (some ⟨g, 0, none⟩) 1 1 ∧ Y.heap.size ≤ g ∧ w.heap[g]? = some (.cells #[str x] 9 (0, 0))), .pred (fun v w => w.ownsRow Y.heap.size 9 1 v (bd ++ [x]).length ((bd ++ [x]).map str)), .lit sv]

theorem bindL_keep {Y W : World} {b cap : Nat} {s3 x : List UInt8} {ao3 : Option Addr} {n3 c3 : Nat} {bv sv : Value} {bd : List (List UInt8)} : ∀ y ∈ bindL Y W b cap s3 x ao3 n3 c3 bv sv bd, keepsU After y := by
  intro y hy
  simp only [bindL, List.mem_cons, List.not_mem_nil, or_false] at hy
  rcases hy with rfl | rfl | rfl | rfl | rfl | rfl | rfl | rfl | rfl | rfl | rfl | rfl | rfl | rfl | rfl
  case inr.inr.inr.inr.inl => exact fun v w w' h ⟨g, e, hg, hh⟩ => ⟨g, e, hg, h.heap hh⟩
  case inr.inr.inr.inr.inr.inr.inl => exact fun v w w' h k => row_after k h
  case inr.inr.inr.inr.inr.inr.inr.inr.inr.inr.inr.inr.inl => exact fun v w w' h ⟨g, e, hg, hh⟩ => ⟨g, e, hg, h.heap hh⟩
  case inr.inr.inr.inr.inr.inr.inr.inr.inr.inr.inr.inr.inr.inl => exact fun v w w' h k => row_after k h
  all_goals exact trivial

theorem keep6 {Y W w w' : World} {b cap : Nat} {s3 x : List UInt8} {ao3 : Option Addr} {n3 c3 : Nat} {bv sv : Value} {bd : List (List UInt8)} {g : Nat} {j : Nat} {v : Value}
    (hg : w.grownBy w' (some g)) (hh : w.heap[g]? = some (.cells #[] 9 (0, 0))) (hj : j ≠ 6) (hj4 : j ≠ 4) (h : yus (bindL Y W b cap s3 x ao3 n3 c3 bv sv bd) j v w) : yus (bindL Y W b cap s3 x ao3 n3 c3 bv sv bd) j v w' := by
  match j, hj, hj4 with
  | 0, _, _ => exact h
  | 1, _, _ => exact h
  | 2, _, _ => exact h
  | 3, _, _ => exact h
  | 5, _, _ => exact h
  | 7, _, _ => exact h
  | 8, _, _ => exact h
  | 9, _, _ => exact h
  | 10, _, _ => exact h
  | 11, _, _ => exact h
  | 12, _, _ =>
    obtain ⟨q, e, hq, hqq⟩ := h
    exact ⟨q, e, hq, grew_heap hg hqq (fun e2 => by injection e2 with e2; rw [e2, hh] at hqq; simp at hqq)⟩
  | 13, _, _ =>
    have h' : w.ownsRow Y.heap.size 9 1 v (bd ++ [x]).length ((bd ++ [x]).map str) := h
    refine h'.kept hg ?_
    rcases h'.2 with ⟨rfl, _⟩ | ⟨q, c, cur, rfl, _, hqq, hn, _, hsz, _⟩
    · exact Or.inl rfl
    · right
      intro e2
      injection e2 with e2
      have e3 : q = g := e2
      rw [e3, hh] at hqq
      have e4 : (#[] : Array Value) = cur := by simpa using hqq
      rw [← e4] at hsz
      simp at hsz hn
      omega
  | 14, _, _ => exact h
  | j + 15, _, _ => exact h

theorem keep13 {Y W w w' : World} {b cap : Nat} {s3 x : List UInt8} {ao3 : Option Addr} {n3 c3 : Nat} {bv sv : Value} {bd : List (List UInt8)} {j : Nat} {v : Value}
    (hu : ¬ (j = 4 ∨ j = 6 ∨ j = 12)) (hj : j ≠ 13) (h : yus (bindL Y W b cap s3 x ao3 n3 c3 bv sv bd) j v w) : yus (bindL Y W b cap s3 x ao3 n3 c3 bv sv bd) j v w' := by
  match j, hu, hj with
  | 0, _, _ => exact h
  | 1, _, _ => exact h
  | 2, _, _ => exact h
  | 3, _, _ => exact h
  | 5, _, _ => exact h
  | 7, _, _ => exact h
  | 8, _, _ => exact h
  | 9, _, _ => exact h
  | 10, _, _ => exact h
  | 11, _, _ => exact h
  | 4, hu, _ => exact absurd (Or.inl rfl) hu
  | 6, hu, _ => exact absurd (Or.inr (Or.inl rfl)) hu
  | 12, hu, _ => exact absurd (Or.inr (Or.inr rfl)) hu
  | 14, _, _ => exact h
  | j + 15, _, _ => exact h

/-- What each value is needed for alone. -/
def bindU : Nat → Option Nat
  | 4 => some 6
  | 6 => some 13
  | 12 => some 13
  | _ => none

theorem wp_frame {P : Program} {c : Code} {Q : Exit → Act → World → Prop} {A : Act} {w : World} (A' : Act) (h : A = A') (hw : Code.wp P c Q A' w) : Code.wp P c Q A w := h ▸ hw

theorem free_bind (w : World) (B : Nat) (q x n : List UInt8) (p : SX) (v : Value) (h : SV w B (.node [.atom q, .atom x, .atom n, p]) v) (hg : GoodX (.node [.atom q, .atom x, .atom n, p])) (hq : q = Fm.wAll ∨ q = Fm.wEx) (oc : List (List UInt8)) (N : Nat)
    (hk : ∀ v, SV w B p v → FreeOk w v oc N) (hoN : oc.length ≤ N) : FreeOk w v (oc.filter fun y => decide (y ≠ x)) (N + 1) := by
  refine ⟨Nat.le_trans (List.length_filter_le _ _) (Nat.le_succ_of_le hoN), ?_⟩
  obtain ⟨b, cap, rfl, hp⟩ := h.part
  intro W hW bv bd hb sv ns ho hne hlen hbl
  rw [← Fm.outOf_bind]
  have hrlt := ho.lt
  obtain ⟨r, hr⟩ : ∃ r, r = sv.ownBlock := ⟨_, rfl⟩
  rw [← hr] at hrlt hne
  obtain ⟨X, hX⟩ : ∃ X, X = W.alloc (.cells #[.string ⟨#[]⟩, .slice (some ⟨b, 0, none⟩) 4 cap] 35) := ⟨_, rfl⟩
  have hXs : X.heap.size = W.heap.size + 1 := by rw [hX]; simp
  have hbX : X.heap[W.heap.size]? = some (.cells #[.string ⟨#[]⟩, .slice (some ⟨b, 0, none⟩) 4 cap] 35 (0, 0)) := by rw [hX]; exact heap_new' _ _
  have hwX : After w X := by rw [hX]; exact hW.alloc _
  have hXA : After W X := by rw [hX]; exact After.new _ _
  have hhead := s_head X B (.node [.atom q, .atom x, .atom n, p]) _ (h.after hwX) hg.1
  have hhq : headX (.node [.atom q, .atom x, .atom n, p]) = q := rfl
  rw [hhq] at hhead
  have hbd := fun W => s_binds W q
  rw [decide_eq_true hq] at hbd
  obtain ⟨a1, e1, hc1, hs1⟩ := hp 1 (by simp)
  obtain ⟨ao3, c3, hc3, hs3⟩ := hp 3 (by simp)
  have hx : atomX [SX.atom q, .atom x, .atom n, p][1] = x := rfl
  have hp3 : [SX.atom q, .atom x, .atom n, p][3] = p := rfl
  rw [hx] at hc1
  rw [hp3] at hc3 hs3
  have hfree := hk _ hs3
  generalize atomX p = s3 at *
  generalize (partsX p).length = n3 at *
  have c0 : X.cell? ⟨W.heap.size, 0, none⟩ = some (.string ⟨#[]⟩) := cell_of_heap (i := 0) hbX
  obtain ⟨i0, hi0, hz0, hz1, hz2⟩ := info_parts sinfo_string
  have hun := Tryz.underlying52
  have hone : ∀ u ∈ bd.map str, u.oneCell' = true := fun u hu => by obtain ⟨y, _, rfl⟩ := List.mem_map.1 hu; rfl
  have honx : ∀ u ∈ [str x], u.oneCell' = true := by simp [Value.oneCell']
  have m1 : 0 + (bd.map str).length ≤ maxLen := by unfold maxLen; simp; omega
  have m2 : (0 + (bd.map str).length) * 16 ≤ 140737488355328 := by simp; omega
  have m3 : bd.length + 1 ≤ maxLen := by unfold maxLen; omega
  have m4 : (bd.length + 1) * 16 ≤ 140737488355328 := by omega
  have HONE := Lib.hid hone
  have HONX := Lib.hid honx
  have HM1 := Lib.hid m1
  have HM2 := Lib.hid m2
  have HM3 := Lib.hid m3
  have HM4 := Lib.hid m4
  have HC1w := Lib.hid hc1
  have HC3w := Lib.hid hc3
  have HF := Lib.hid hfree
  have HB := Lib.hid hbX
  have HR := Lib.hid hr
  have HwX := Lib.hid hwX
  have HXA := Lib.hid hXA
  have HO := Lib.hid ho
  have HBD := Lib.hid hb
  have HNE := Lib.hid hne
  have HRL := Lib.hid hrlt
  have HSZ := Lib.hid hXs
  have HLN := Lib.hid hlen
  have HBL := Lib.hid hbl
  have HWS := Lib.hid hW.size
  clear hbX hr hwX hXA ho hb hne hrlt hXs hlen hbl hk hp h hg hq hW hc1 hc3 hs1 hs3 hfree hone honx m1 m2 m3 m4 hhq hx hp3 hoN
  go_enter Tryz.func35, Tryz.ntmps35
  go_wp2_with fail
  rw [← hX]
  refine hhead.mono ?_
  rintro e Y ⟨rfl, ha2⟩
  have HA2 := Lib.hid ha2
  clear hhead c0 hX ha2
  go_wp2_with fail
  refine (hbd _).mono ?_
  rintro e w3 ⟨rfl, rfl⟩
  clear hbd
  go_wp2_with fail
  rename_i KK hKK
  have HBY : Hid (Y.heap[W.heap.size]? = some (.cells #[.string ⟨#[]⟩, .slice (some ⟨b, 0, none⟩) 4 cap] 35 (0, 0))) := HA2.out.heap HB.out
  have HwY : Hid (After w Y) := HwX.out.trans HA2.out
  have HC1 : Hid (∀ W1, After Y W1 → W1.cell? ⟨W.heap.size, 1, none⟩ = some (.slice (some ⟨b, 0, none⟩) 4 cap)) := fun W1 h => cell_of_heap (i := 1) (h.heap HBY.out)
  have HC2 : Hid (∀ W1, After Y W1 → W1.cell? ⟨b, 2, none⟩ = some (str x)) := fun W1 h => (HC1w.out W1 (HwY.out.trans h)).1
  have HC6 : Hid (∀ W1, After Y W1 → W1.cell? ⟨b, 6, none⟩ = some (str s3)) := fun W1 h => (HC3w.out W1 (HwY.out.trans h)).1
  have HC7 : Hid (∀ W1, After Y W1 → W1.cell? ⟨b, 7, none⟩ = some (.slice ao3 n3 c3)) := fun W1 h => (HC3w.out W1 (HwY.out.trans h)).2
  have HAW : Hid (After W Y) := HXA.out.trans HA2.out
  have HSRC : Hid (∀ W1, After Y W1 → SrcOk W1 bv (bd.map str)) := fun W1 h => bd_src (HBD.out.grown (after_grown' r (HAW.out.trans h)) HNE.out)
  have HL : Hid (∀ y ∈ bindL Y W b cap s3 x ao3 n3 c3 bv sv bd, keepsU After y) := bindL_keep
  refine wp_region_use_tail (m := 15) (k := 2) (f := 12) (by kernel_rfl) (by kernel_rfl) (by kernel_rfl) (by kernel_rfl) bindU (by kernel_rfl)
    99 (fun _ => True) (After Y) (yus (bindL Y W b cap s3 x ao3 n3 c3 bv sv bd)) trivial (After.refl Y).drew (lt15 ?_ ?_ ?_ ?_ ?_ ?_ ?_ ?_ ?_ ?_ ?_ ?_ ?_ ?_ ?_) ?_
  · intro vs W1 hB _ hd K hK
    exact du_val (by kernel_rfl) (wantedq (by kernel_rfl)) (by kernel_rfl) hB rfl hK
  · intro vs W1 hB _ hd K hK
    exact du_val (by kernel_rfl) (wantedq (by kernel_rfl)) (ruf_lds (x := .tmp 37) (u := vs 0) (by kernel_rfl) (by kernel_rfl) (hd 0 (by kernel_rfl)) (HC1.out W1 hB)) hB rfl hK
  · intro vs W1 hB _ hd K hK
    exact du_val (by kernel_rfl) (wantedq (by kernel_rfl)) (ruf_ix (x := .tmp 38) (u := vs 1) (k := 3) (by kernel_rfl) (by kernel_rfl) (hd 1 (by kernel_rfl)) (by decide)) hB rfl hK
  · intro vs W1 hB _ hd K hK
    exact du_val (by kernel_rfl) (wantedq (by kernel_rfl)) (rq_tree (x := .tmp 39) (u := vs 2) (b := b) (k := 6) (by kernel_rfl) (by kernel_rfl) (hd 2 (by kernel_rfl)) (HC6.out W1 hB) (HC7.out W1 hB)) hB rfl hK
  · intro vs W1 hB _ hd K hK
    exact du_new (by kernel_rfl) (wantedq (by kernel_rfl)) (ruf_row0 (by kernel_rfl)) ⟨hB.alloc _, fun _ _ => trivial, fun j v _ _ _ h => yus_keep HL.out (After.new W1 _) j v h⟩ ⟨_, rfl, hB.size, heap_top _ _⟩ hK
  · intro vs W1 hB _ hd K hK
    exact du_val (by kernel_rfl) (wantedq (by kernel_rfl)) (by kernel_rfl) hB rfl hK
  · intro vs W1 hB _ hd K hK
    obtain ⟨g, e4, hg4, hh4⟩ := (hd 4 (by kernel_rfl))
    have h5 : vs 5 = bv := (hd 5 (by kernel_rfl))
    have hown0 : W1.ownsRow Y.heap.size 9 1 (vs 4) 0 [] := by rw [e4]; exact ⟨rfl, Or.inr ⟨g, 0, #[], rfl, hg4, hh4, Nat.le_refl _, Nat.zero_le _, rfl, rfl⟩⟩
    obtain ⟨v', w', hrun, ho6, hgr⟩ := run_app (P := Tryz.prog) W1 (t := 52) (ty := 52) (base := Y.heap.size) hun hi0 hz0 hz1 hz2 rfl hown0 (HSRC.out W1 hB) HONE.out (by simpa using HM1.out) (by simpa using HM2.out) hB.size
    rw [e4] at hgr
    have hgr2 : W1.grownBy w' (some g) := hgr
    have hB2 : After Y w' := hB.grown hgr2 hB.size (fun k hk => by obtain rfl := Option.some.inj hk; exact hg4)
    refine du_new (u := v') (by kernel_rfl) (wantedq (by kernel_rfl)) (ru_app (s := .tmp 41) (x := .tmp 42) (v := vs 4) (sv := bv) (by kernel_rfl) (by kernel_rfl) (Eq.trans (by kernel_rfl : _ = vs 5) h5) hrun) ⟨hB2, fun _ _ => trivial, fun j v hj hdj hu h => ?_⟩ (by show w'.ownsRow _ _ _ v' _ _; simpa using ho6) hK
    refine keep6 hgr2 hh4 hj (fun e => (hu 6 (by rw [e]; rfl)).1 rfl) h
  · intro vs W1 hB _ hd K hK
    exact du_val (by kernel_rfl) (wantedq (by kernel_rfl)) (by kernel_rfl) hB rfl hK
  · intro vs W1 hB _ hd K hK
    exact du_val (by kernel_rfl) (wantedq (by kernel_rfl)) (ruf_lds (x := .tmp 44) (u := vs 7) (by kernel_rfl) (by kernel_rfl) (hd 7 (by kernel_rfl)) (HC1.out W1 hB)) hB rfl hK
  · intro vs W1 hB _ hd K hK
    exact du_val (by kernel_rfl) (wantedq (by kernel_rfl)) (ruf_ix (x := .tmp 45) (u := vs 8) (k := 1) (by kernel_rfl) (by kernel_rfl) (hd 8 (by kernel_rfl)) (by decide)) hB rfl hK
  · intro vs W1 hB _ hd K hK
    exact du_val (by kernel_rfl) (wantedq (by kernel_rfl)) (ruf_f0 (x := .tmp 46) (u := vs 9) (by kernel_rfl) (by kernel_rfl) (hd 9 (by kernel_rfl))) hB rfl hK
  · intro vs W1 hB _ hd K hK
    exact du_val (by kernel_rfl) (wantedq (by kernel_rfl)) (ruf_ldstr (x := .tmp 47) (u := vs 10) (by kernel_rfl) (by kernel_rfl) (hd 10 (by kernel_rfl)) (HC2.out W1 hB)) hB rfl hK
  · intro vs W1 hB _ hd K hK
    exact du_new (by kernel_rfl) (wantedq (by kernel_rfl)) (ruf_row1 (x := .tmp 48) (u := vs 11) (by kernel_rfl) (by kernel_rfl) (hd 11 (by kernel_rfl))) ⟨hB.alloc _, fun _ _ => trivial, fun j v _ _ _ h => yus_keep HL.out (After.new W1 _) j v h⟩ ⟨_, rfl, hB.size, heap_top _ _⟩ hK
  · intro vs W1 hB _ hd K hK
    have ho6 : W1.ownsRow Y.heap.size 9 1 (vs 6) bd.length (bd.map str) := (hd 6 (by kernel_rfl))
    obtain ⟨g, e12, hg12, hh12⟩ := (hd 12 (by kernel_rfl))
    have hnews : ∀ j u, ([str x] : List Value)[j]? = some u → W1.cell? ((⟨g, 0, none⟩ : Addr).add j) = some u := fun j u hj => by
      obtain ⟨rfl, rfl⟩ : j = 0 ∧ u = str x := by
        cases j with
        | zero => simpa using hj.symm
        | succ j => simp at hj
      exact cell_of_heap (i := 0) hh12
    obtain ⟨v', w', hrun, ho13, hgr, _⟩ := run_append_own (P := Tryz.prog) W1 Y.heap.size 52 52 9 i0 (.string ⟨#[]⟩) 1 16 hun hi0 hz0 hz1 hz2 rfl (by decide) (vs 6) bd.length (bd.map str) ho6 ⟨g, 0, none⟩ 1 1 [str x] rfl hnews HONX.out HM3.out HM4.out hB.size
    have hB2 : After Y w' := hB.grown hgr hB.size (fun k hk => (ho6.lt k hk).1)
    refine du_new (u := v') (by kernel_rfl) (wantedq (by kernel_rfl)) (ru_app (s := .tmp 43) (x := .tmp 49) (v := vs 6) (sv := .slice (some ⟨g, 0, none⟩) 1 1) (by kernel_rfl) (by kernel_rfl) (Eq.trans (by kernel_rfl : _ = vs 12) e12) hrun) ⟨hB2, fun _ _ => trivial, fun j v hj hdj hu h => ?_⟩ (by show w'.ownsRow _ _ _ v' _ _; simpa using ho13) hK
    refine keep13 (fun e => ?_) hj h
    rcases e with rfl | rfl | rfl
    · have h3 := (hu 6 rfl).2; exact absurd h3 (by rw [show depsOn _ 13 6 = true by kernel_rfl]; decide)
    · exact absurd rfl (hu 13 rfl).1
    · exact absurd rfl (hu 13 rfl).1
  · intro vs W1 hB _ hd K hK
    exact du_val (by kernel_rfl) (wantedq (by kernel_rfl)) (by kernel_rfl) hB rfl hK
  intro vs W1 hB hd
  have h13 : W1.ownsRow Y.heap.size 9 1 (vs 13) (bd ++ [x]).length ((bd ++ [x]).map str) := hd 13 (by decide) (fun c hc => by cases hc)
  have e3 : vs 3 = .agg #[str s3, .slice ao3 n3 c3] := hd 3 (by decide) (fun c hc => by cases hc)
  have e14 : vs 14 = sv := hd 14 (by decide) (fun c hc => by cases hc)
  have hbd1 : BdOk W1 (vs 13) (bd ++ [x]) := own_bd h13 (by simp)
  have hrow1 : W1.ownsRow w.heap.size 9 1 sv ns.length (ns.map str) := row_after HO.out (HAW.out.trans hB)
  have hne1 : bd ++ [x] = [] ∨ (vs 13).ownBlock ≠ sv.ownBlock := by
    right
    obtain ⟨q1, e1, _⟩ := hbd1.lt.resolve_left (by simp)
    have h1 := (h13.lt q1 e1).1
    have h2 := HAW.out.size
    rw [e1]
    intro e2
    have h3 := (HO.out.lt q1 e2.symm).2
    omega
  have hcall := HF.out.2 W1 (HwY.out.trans hB) (vs 13) (bd ++ [x]) hbd1 sv ns hrow1 hne1 (by have := HLN.out; omega) (by have := HBL.out; simp; omega)
  unfold NamesP at hcall
  clear h13 hbd1 hrow1 hne1
  have HG1 : Hid (W.grownBy W1 r) := after_grown' r (HAW.out.trans hB)
  have HS1 : Hid (W.heap.size ≤ W1.heap.size) := (HAW.out.trans hB).size
  refine op_call (i := 15) (by kernel_rfl) (wantedq (by kernel_rfl)) (f := 35) (args := #[vs 3, vs 13, vs 14]) (by kernel_rfl) ?_
  rw [e3, e14]
  refine hcall.mono ?_
  rintro e w4 ⟨sv', rfl, ho4, hg4, hor4⟩
  refine ⟨_, rfl, ?_⟩
  refine op_val (i := 16) (w := w4) (w' := w4) (v := sv') (by kernel_rfl) (wantedq (by kernel_rfl)) (by kernel_rfl) ?_
  have HO4 := Lib.hid ho4
  have HG4 := Lib.hid hg4
  have HOR4 := Lib.hid hor4
  clear hcall ho4 hg4 hor4 hd e3 e14
  refine hKK _ _ ?_
  refine wp_frame (⟨#[.agg #[.string ⟨#[]⟩, .slice (some ⟨b, 0, none⟩) 4 cap], bv, sv, .pointer (some ⟨W.heap.size, 0, none⟩), undef, undef, sv', undef, .pointer (some ⟨W.heap.size, 0, none⟩), .string ⟨#[]⟩, .bool false, undef, undef, undef, undef, undef, undef, undef, undef, undef, undef, undef, undef, undef, undef, undef, undef, undef, undef, undef, undef, undef, undef, undef, .agg #[.string ⟨#[]⟩, .slice (some ⟨b, 0, none⟩) 4 cap], str q, .bool true, vs 0, vs 1, vs 2, vs 3, vs 4, vs 5, vs 6, vs 7, vs 8, vs 9, vs 10, vs 11, vs 12, vs 13, vs 14, sv', undef, undef, undef, undef, undef, undef, undef, undef, undef, undef, undef, undef, undef, undef, undef, undef], []⟩ : Act) (by kernel_rfl) ?_
  go_wp2_with fail
  go_ret
  refine ⟨sv', rfl, HO4.out, by rw [← HR.out]; exact grew_trans HG1.out HG4.out (Or.inl HR.out.symm), ?_⟩
  rw [← HR.out]
  rcases HOR4.out with e | ⟨k, e, hk⟩
  · exact Or.inl (e.trans HR.out.symm)
  · exact Or.inr ⟨k, e, Nat.le_trans HS1.out hk⟩
end Go.Proofs.YtdjoafnohkmneaaGreatDoor
