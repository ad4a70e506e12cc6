/-
  The program's bodies of what binds, the library's searches over rows of formulas, and which formulas hold.
-/
import Derived.Test.YtdjoafnohkmneaaGreatDoorPkM
import Derived.Test.YtdjoafnohkmneaaGreatDoorPkG
import Derived.Maps.OwnSet
import Derived.Test.YtdjoafnohkmneaaGreatDoorPkH
import Derived.Maps.AppendAt
import Derived.Test.YtdjoafnohkmneaaGreatDoorPkI
import Derived.Test.YtdjoafnohkmneaaGreatDoorPkJ
namespace Go.Proofs.YtdjoafnohkmneaaGreatDoor
open Go.RowKit

set_option maxHeartbeats 4000000
set_option maxRecDepth 100000

def RowB (w : World) (N base : Nat) (sv : Value) (ps : List Fo) (xs : List Value) : Prop :=
  w.ownsRow base 42 1 sv ps.length xs ∧ ∀ j (h : j < ps.length), ∃ S E x, base ≤ S ∧ E ≤ w.heap.size ∧ (∀ g, sv.ownBlock = some g → g < S ∨ E ≤ g) ∧ xs[j]? = some x ∧ FVn w N S E ps[j] x

theorem RowB.nil (w : World) (N base : Nat) : RowB w N base (.slice none 0 0) [] [] := ⟨World.ownsRow_nil w base _ _, fun j h => absurd h (by simp)⟩

theorem RowB.later {w w' : World} {N base : Nat} {sv : Value} {ps : List Fo} {xs : List Value} (h : RowB w N base sv ps xs) (hN : N ≤ base) (hb : base ≤ w.heap.size) (ha : After w w') : RowB w' N base sv ps xs := by
  have hg : w.grownBy w' none := ⟨ha.os, ha.tape, ha.output, ha.size, fun k hk _ => ha.block k hk⟩
  refine ⟨h.1.kept hg ?_, fun j hj => ?_⟩
  · cases hv : sv.ownBlock with
    | none => exact Or.inl rfl
    | some g => exact Or.inr (by simp)
  · obtain ⟨S, E, x, h2, h3, h4, h5, h6⟩ := h.2 j hj
    exact ⟨S, E, x, h2, Nat.le_trans h3 ha.size, h4, h5, h6.keep (Nat.le_refl _) (Nat.le_refl _) fun k hk => ha.block k (by omega)⟩

theorem RowB.push {w w' : World} {N base S : Nat} {sv v' x : Value} {ps : List Fo} {xs : List Value} {t : Fo} (h : RowB w N base sv ps xs) (hN : N ≤ base) (hNw : N ≤ w.heap.size) (hS : base ≤ S) (hgS : ∀ g, sv.ownBlock = some g → g < S) (ht : FVn w N S w.heap.size t x) (o : Obj)
    (ho : w'.ownsRow base 42 1 v' (ps.length + 1) (xs ++ [x])) (hg : (w.alloc o).grownBy w' sv.ownBlock) (hw : sv.ownBlock = v'.ownBlock ∨ v'.ownBlock = some (w.alloc o).heap.size) :
    RowB w' N base v' (ps ++ [t]) (xs ++ [x]) := by
  have hxl : xs.length = ps.length := by have := h.1.1; omega
  have hsz : (w.alloc o).heap.size = w.heap.size + 1 := by simp
  have hown : ∀ g, sv.ownBlock = some g → base ≤ g := fun g hg => (h.1.lt g hg).1
  have hkeep : ∀ k, k < w.heap.size → (∀ g, sv.ownBlock = some g → k ≠ g) → w'.heap[k]? = w.heap[k]? := fun k hk hne => by
    rw [hg.block k (by omega) (fun e => hne k e.symm rfl)]
    exact (below_new w o).block k hk
  refine ⟨by rw [List.length_append]; exact ho, fun j hj => ?_⟩
  by_cases hjl : j < ps.length
  · obtain ⟨S', E, x1, h2, h3, h4, e1, h5⟩ := h.2 j hjl
    refine ⟨S', E, x1, h2, by have := hg.size; omega, fun g hg' => ?_, ?_, ?_⟩
    · rcases hw with hw | hw
      · exact h4 g (hw.trans hg')
      · rw [hw] at hg'; injection hg' with hg'; right; omega
    · rw [List.getElem?_append_left (by omega)]; exact e1
    · rw [List.getElem_append_left hjl]
      exact h5.keep (Nat.le_refl _) (Nat.le_refl _) fun k hk => hkeep k (by omega) (fun g hg' e => by have := h4 g hg'; have := hown g hg'; omega)
  · have hj' : j = ps.length := by rw [List.length_append, List.length_singleton] at hj; omega
    subst hj'
    refine ⟨S, w.heap.size, x, hS, by have := hg.size; omega, fun g hg' => ?_, ?_, ?_⟩
    · rcases hw with hw | hw
      · exact Or.inl (hgS g (hw.trans hg'))
      · rw [hw] at hg'; injection hg' with hg'; right; omega
    · rw [List.getElem?_append_right (by omega), hxl, Nat.sub_self]; rfl
    · simp only [List.getElem_concat_length]
      exact ht.keep (Nat.le_refl _) (Nat.le_refl _) fun k hk => hkeep k (by omega) (fun g hg' e => by have := hgS g hg'; have := hown g hg'; omega)

theorem RowB.at {w : World} {N base : Nat} {sv : Value} {ps : List Fo} {xs : List Value} (h : RowB w N base sv ps xs) (h0 : 0 < ps.length) : ∃ b cap cs fr, sv = .slice (some ⟨b, 0, none⟩) ps.length cap ∧ base ≤ b ∧ w.heap[b]? = some (.cells cs 42 fr) ∧
    ∀ j (hj : j < ps.length), ∃ x, cs[j]? = some x ∧ FVn w N base w.heap.size ps[j] x := by
  obtain ⟨ho, hc⟩ := h
  rcases ho.2 with ⟨h1, h2⟩ | ⟨g, cap, cur, hv, hb, hh, hle, _, hcs, hct⟩
  · omega
  · refine ⟨g, cap, cur, _, hv, hb, hh, fun j hj => ?_⟩
    obtain ⟨S, E, x, h2, h3, _, e1, h5⟩ := hc j hj
    refine ⟨x, ?_, h5.keep h2 h3 fun _ _ => rfl⟩
    rw [← hct, List.getElem?_take, if_pos (by omega)] at e1
    simpa using e1

theorem RowB.next {X w1 w2 w3 : World} {N g4 q4 k : Nat} {ps : List Fo} {xs : List Value} {ex : Fo} {x : Value} {o : Obj} {ao : Option Addr} {c1 : Nat} (hN : N ≤ X.heap.size) (hA1 : After X w1) (hA2 : After w1 w2)
    (hrow : RowB w1 N X.heap.size (.slice ao k c1) ps xs) (hpl : ps.length = k) (hev : FVn w2 N w1.heap.size w2.heap.size ex x)
    (ho4 : w3.ownsRow X.heap.size 42 1 (.slice (some ⟨g4, 0, none⟩) (k + 1) q4) (k + 1) (xs ++ [x])) (hg4 : (w2.alloc o).grownBy w3 (Value.slice ao k c1).ownBlock) (hw4 : (Value.slice ao k c1).ownBlock = some g4 ∨ g4 = (w2.alloc o).heap.size) :
    After X w3 ∧ RowB w3 N X.heap.size (.slice (some ⟨g4, 0, none⟩) (k + 1) q4) (ps ++ [ex]) (xs ++ [x]) := by
  subst hpl
  have hown : ∀ g, (Value.slice ao ps.length c1).ownBlock = some g → X.heap.size ≤ g := fun g hg => (hrow.1.lt g hg).1
  have hgs : ∀ g, (Value.slice ao ps.length c1).ownBlock = some g → g < w1.heap.size := fun g hg => (hrow.1.lt g hg).2
  have hrow2 := hrow.later hN hA1.size hA2
  have hsz : (w2.alloc o).heap.size = w2.heap.size + 1 := by simp
  have hA := hA1.trans hA2
  have h1 := hA1.size
  have h2 := hA2.size
  refine ⟨⟨?_, ?_, ?_, ?_, fun k hk => ?_⟩, hrow2.push hN (by omega) h1 hgs hev o ho4 hg4 ?_⟩
  · rw [hg4.os]; exact hA.os
  · rw [hg4.tape]; exact hA.tape
  · rw [hg4.output]; exact hA.output
  · have := hg4.size; omega
  · rw [hg4.block k (by omega) (fun e => by have := hown _ e.symm; omega), (below_new w2 o).block k (by omega)]
    exact hA.block k hk
  · rcases hw4 with h | h
    · exact Or.inl h
    · right; rw [h]; rfl



theorem bodies_any (w W : World) (x : List UInt8) (n : Nat) (T : TypeId) (y : Value) (f : Fo) (hf : FoV w 0 f (.iface T y)) (hW : After w W) (h1 : 1 ≤ n) (hn : n ≤ 6) :
    Calls Tryz.prog 65 #[.agg #[str x, .int .i64 (n : Nat), .iface T y]] W fun e w' =>
      ∃ g c, e = .returned (.slice (some ⟨g, 0, none⟩) n c) ∧ After W w' ∧ ∀ j, j < n → ∃ T x', w'.cell? ⟨g, j, none⟩ = some (.iface T x') ∧ FoV w' 0 (Fm.putF x (.num j) f) (.iface T x') := by
  obtain ⟨us, hus⟩ : ∃ us : List Fo, us = (List.range n).map fun m => Fm.putF x (.num m) f := ⟨_, rfl⟩
  have hul : us.length = n := by rw [hus]; simp
  have hug : ∀ k (h : k < us.length), us[k] = Fm.putF x (.num k) f := fun k h => by subst hus; simp
  have hput : ∀ k : Nat, FPOk w (.iface T y) (Fm.putF x (.num k) f) x (.iface 47 (.int .i64 (k : Nat))) := fun k => FoV.putOk (w := w) (b := .num k) rfl hf
  obtain ⟨X, hX⟩ : ∃ X, X = W.alloc (.cells #[str x, .int .i64 (n : Nat), .iface T y] 96) := ⟨_, rfl⟩
  have hAX : After W X := by rw [hX]; exact After.new _ _
  have hXh : X.heap[W.heap.size]? = some (.cells #[str x, .int .i64 (n : Nat), .iface T y] 96 (0, 0)) := by rw [hX]; exact heap_new' _ _
  have p1 : X.cell? ⟨W.heap.size, 1, none⟩ = some (.int .i64 (n : Nat)) := cell_of_heap (i := 1) hXh
  have HXH := Lib.hid hXh
  have HW := Lib.hid hW
  have HX := Lib.hid hX
  have HAX := Lib.hid hAX
  have HPUT := Lib.hid hput
  have HUL := Lib.hid hul
  have HUG := Lib.hid hug
  have H1 := Lib.hid h1
  clear hXh hAX hW hput hf hul hug hus h1
  go_enter Tryz.func65, Tryz.ntmps65
  clear hX
  go_wp2_with fail
  try rw [← HX.out]
  go_loopw [3, 7] (fun p i wr => ∃ (k : Nat) (oa : Option Addr) (c : Nat) (xs : List Value), i = .int .i64 k ∧ p = .slice oa k c ∧ k ≤ n ∧ After X wr ∧ Hid (RowB wr w.heap.size X.heap.size (.slice oa k c) (us.take k) xs)) (fun _ i _ => n - (intOf i).toNat)
  case atStart => exact ⟨0, none, 0, [], rfl, rfl, Nat.zero_le _, After.refl _, RowB.nil _ _ _⟩
  case round =>
    obtain ⟨k, oa, c, xs, rfl, rfl, hk, hA, HR⟩ := hrel
    have HA := Lib.hid hA
    have q0 : wr.cell? ⟨W.heap.size, 0, none⟩ = some (str x) := cell_of_heap (i := 0) (hA.heap HXH.out)
    have q2 : wr.cell? ⟨W.heap.size, 2, none⟩ = some (.iface T y) := cell_of_heap (i := 2) (hA.heap HXH.out)
    clear hA
    by_cases hlt : k < n
    · have hlti : (k : Int) < (n : Int) := by omega
      obtain ⟨T0, z, f0, y0, e0, m1, n1, d1⟩ := HPUT.out k
      obtain ⟨rfl, rfl⟩ : T = T0 ∧ y = z := by injection e0 with a b; exact ⟨a, b⟩
      have k1 := d1 wr ((HW.out.trans HAX.out).trans HA.out)
      unfold FPP at k1
      have hpl : (us.take k).length = k := by rw [List.length_take, HUL.out]; omega
      have htk : us.take (k + 1) = us.take k ++ [Fm.putF x (.num k) f] := by rw [List.take_succ_eq_append_getElem (by rw [HUL.out]; exact hlt), HUG.out]
      have HTK := Lib.hid htk
      have HPL := Lib.hid hpl
      generalize Fm.putF x (.num k) f = u at *
      generalize hps : us.take k = ps at *
      have hk2 : k ≤ 6 := by omega
      clear d1 hps hpl htk e0
      go_wp2_with fail
      refine k1.mono ?_
      rintro e w2 ⟨T2, y2, rfl, ha2, hev2⟩
      obtain ⟨i0, hi0, hz0, hz1, hz2⟩ : ∃ i, (Tryz.prog).info? 42 = some i ∧ i.zero = some .nilIface ∧ i.size = 1 ∧ i.bytes = 16 := ⟨_, rfl, rfl, rfl, rfl⟩
      have hun : Tryz.prog.underlying 100 = some (.slice 42) := by kernel_rfl
      have hRow2 := (HR.out.later (by have := HW.out.size; have := HAX.out.size; omega) HA.out.size ha2).1
      rw [HPL.out] at hRow2
      have hHO := World.ownsRow.alloc hRow2 (.cells #[.iface T2 y2] 42)
      have hb5 : X.heap.size ≤ (w2.alloc (.cells #[.iface T2 y2] 42)).heap.size := by have := HA.out.size; have := ha2.size; simp; omega
      have hlast : ∀ (g4 q4 : Nat) (w3 : World), w3.ownsRow X.heap.size 42 1 (.slice (some ⟨g4, 0, none⟩) (k + 1) q4) (k + 1) (xs ++ [.iface T2 y2]) →
          (w2.alloc (.cells #[.iface T2 y2] 42)).grownBy w3 (Value.slice oa k c).ownBlock → ((Value.slice oa k c).ownBlock = some g4 ∨ g4 = (w2.alloc (.cells #[.iface T2 y2] 42)).heap.size) → _ := fun g4 q4 w3 ho4 hg4 hw4 =>
        RowB.next (by have := HW.out.size; have := HAX.out.size; omega) HA.out ha2 HR.out HPL.out hev2 ho4 hg4 hw4
      have HLASTF := Lib.hid hlast
      have HHO := Lib.hid hHO
      have HB5 := Lib.hid hb5
      clear k1 hev2 ha2 hRow2 hHO hb5 hlast
      go_wp2_with (at_builtin; refine Go.wpList_append_lies _ (by rfl) _ _ 100 (by rfl) X.heap.size 42 i0 .nilIface 1 16 hun hi0 hz0 hz1 hz2 rfl (by decide) _ _ _ (by rfl) HHO.out ⟨w2.heap.size, 0, none⟩ 1 1 [.iface T2 y2] (by rfl) (by rfl) (World.news_of_block (heap_new' w2 _)) (by simp [Value.oneCell']) (by omega) (by unfold maxLen; omega) (by omega) HB5.out _ rfl ?_; intro g4 q4 w3 ho4 hg4 hw4 hlt4; have hl3 := HLASTF.out g4 q4 w3 ho4 hg4 hw4; have HLA := Lib.hid hl3.1; have HLR := Lib.hid hl3.2; clear hl3 ho4 hg4 hw4)
      go_roundw
      case rel => exact ⟨k + 1, _, _, _, by go_num, rfl, by omega, HLA.out, Lib.hid (by rw [HTK.out]; exact HLR.out)⟩
      case measure => simp [intOf]; omega
    · obtain rfl : k = n := by omega
      have hR := HR.out
      rw [List.take_of_length_le (by rw [HUL.out]; exact Nat.le_refl _)] at hR
      obtain ⟨b, cap, cs, fr, hsl, hbb, hbh, hat⟩ := hR.at (by rw [HUL.out]; exact H1.out)
      have hsl2 : oa = some ⟨b, 0, none⟩ := by injection hsl
      subst hsl2
      have HBH := Lib.hid hbh
      have HAT := Lib.hid hat
      clear hR hlt hsl hbh hat hbb
      go_wp2_with fail
      go_ret
      refine ⟨b, c, rfl, HAX.out.trans HA.out, fun j hj => ?_⟩
      obtain ⟨x', hx', hv'⟩ := HAT.out j (by rw [HUL.out]; exact hj)
      rw [HUG.out] at hv'
      have hv2 := hv'.fv
      obtain ⟨T', y', rfl⟩ := hv2.form
      refine ⟨T', y', ?_, hv2⟩
      unfold World.cell?
      rw [HBH.out]
      exact hx'


theorem index_holds (w : World) (g cap n : Nat) (P : Nat → Bool) (hn : n ≤ 1000)
    (hcall : ∀ j, j < n → ∃ T x, w.cell? ⟨g, j, none⟩ = some (.iface T x) ∧ ∀ W, After w W → Calls Tryz.prog 41 #[.iface T x] W fun e w' => e = .returned (.bool (P j)) ∧ After W w') :
    Calls Tryz.prog 74 #[.slice (some ⟨g, 0, none⟩) n cap, .func (.func 41) #[] #[]] w fun e w' =>
      ∃ i : Int, e = .returned (.int .i64 i) ∧ decide (i ≥ 0) = (List.range n).any P ∧ After w w' := by
  have HCALL := Lib.hid hcall
  clear hcall
  go_enter Tryz.func74, Tryz.ntmps74
  go_wp2_with fail
  go_loopw [8] (fun i wr => ∃ k : Nat, i = .int .i64 k ∧ k ≤ n ∧ Hid (∀ j, j < k → P j = false) ∧ After w wr) (fun i _ => n - (intOf i).toNat)
  case atStart => exact ⟨0, rfl, Nat.zero_le _, by show ∀ j, _; exact fun j hj => absurd hj (Nat.not_lt_zero j), After.refl _⟩
  case round =>
    obtain ⟨k, rfl, hk, hall, hA⟩ := hrel
    by_cases hlt : k < n
    · obtain ⟨T, x, hc0, hcall⟩ := HCALL.out k hlt
      have h1 := hA.cell hc0
      have hcall := hcall wr hA
      have hlt' : (k : Int) < (n : Int) := by omega
      obtain ⟨b, hb⟩ : ∃ b, b = P k := ⟨_, rfl⟩
      rw [← hb] at hcall
      have HB : Hid (P k = b) := by show _ = _; rw [hb]
      clear hb hc0
      cases b with
      | true =>
        go_wp2_with fail
        refine hcall.mono ?_
        rintro e w1 ⟨rfl, hb1⟩
        go_wp2_with fail
        go_ret
        refine ⟨k, rfl, ?_, hA.trans hb1⟩
        rw [show (List.range n).any P = true from List.any_eq_true.2 ⟨k, List.mem_range.2 hlt, HB.out⟩]
        exact decide_eq_true (by omega)
      | false =>
        go_wp2_with fail
        refine hcall.mono ?_
        rintro e w1 ⟨rfl, hb1⟩
        go_wp2_with fail
        go_roundw
        case rel =>
          refine ⟨k + 1, by go_num, by omega, ?_, hA.trans hb1⟩
          show ∀ j, _
          intro j hj
          by_cases e : j = k
          · rw [e]; exact HB.out
          · exact hall.out j (by omega)
        case measure => simp [intOf]; omega
    · obtain rfl : k = n := by omega
      go_wp2_with fail
      go_ret
      refine ⟨-1, rfl, ?_, hA⟩
      rw [show (List.range k).any P = false from List.any_eq_false.2 fun j hj => by rw [hall.out j (List.mem_range.1 hj)]; decide]
      rfl
theorem contains_holds (w : World) (g cap n : Nat) (P : Nat → Bool) (hn : n ≤ 1000)
    (hcall : ∀ j, j < n → ∃ T x, w.cell? ⟨g, j, none⟩ = some (.iface T x) ∧ ∀ W, After w W → Calls Tryz.prog 41 #[.iface T x] W fun e w' => e = .returned (.bool (P j)) ∧ After W w') :
    Calls Tryz.prog 64 #[.slice (some ⟨g, 0, none⟩) n cap, .func (.func 41) #[] #[]] w fun e w' => e = .returned (.bool ((List.range n).any P)) ∧ After w w' := by
  have hidx := index_holds w g cap n P hn hcall
  clear hcall
  generalize (List.range n).any P = r at *
  go_enter Tryz.func64, Tryz.ntmps64
  go_wp2_with fail
  refine hidx.mono ?_
  rintro e w1 ⟨i, rfl, hir, hb1⟩
  have HI := Lib.hid hir
  clear hir hidx
  go_wp2_with fail
  go_ret
  exact ⟨by rw [← HI.out]; rfl, hb1⟩


theorem index_not (w : World) (g cap n : Nat) (P : Nat → Bool) (hn : n ≤ 1000)
    (hcall : ∀ j, j < n → ∃ T x, w.cell? ⟨g, j, none⟩ = some (.iface T x) ∧ ∀ W, After w W → Calls Tryz.prog 66 #[.iface T x] W fun e w' => e = .returned (.bool (P j)) ∧ After W w') :
    Calls Tryz.prog 74 #[.slice (some ⟨g, 0, none⟩) n cap, .func (.func 66) #[] #[]] w fun e w' =>
      ∃ i : Int, e = .returned (.int .i64 i) ∧ decide (i ≥ 0) = (List.range n).any P ∧ After w w' := by
  have HCALL := Lib.hid hcall
  clear hcall
  go_enter Tryz.func74, Tryz.ntmps74
  go_wp2_with fail
  go_loopw [8] (fun i wr => ∃ k : Nat, i = .int .i64 k ∧ k ≤ n ∧ Hid (∀ j, j < k → P j = false) ∧ After w wr) (fun i _ => n - (intOf i).toNat)
  case atStart => exact ⟨0, rfl, Nat.zero_le _, by show ∀ j, _; exact fun j hj => absurd hj (Nat.not_lt_zero j), After.refl _⟩
  case round =>
    obtain ⟨k, rfl, hk, hall, hA⟩ := hrel
    by_cases hlt : k < n
    · obtain ⟨T, x, hc0, hcall⟩ := HCALL.out k hlt
      have h1 := hA.cell hc0
      have hcall := hcall wr hA
      have hlt' : (k : Int) < (n : Int) := by omega
      obtain ⟨b, hb⟩ : ∃ b, b = P k := ⟨_, rfl⟩
      rw [← hb] at hcall
      have HB : Hid (P k = b) := by show _ = _; rw [hb]
      clear hb hc0
      cases b with
      | true =>
        go_wp2_with fail
        refine hcall.mono ?_
        rintro e w1 ⟨rfl, hb1⟩
        go_wp2_with fail
        go_ret
        refine ⟨k, rfl, ?_, hA.trans hb1⟩
        rw [show (List.range n).any P = true from List.any_eq_true.2 ⟨k, List.mem_range.2 hlt, HB.out⟩]
        exact decide_eq_true (by omega)
      | false =>
        go_wp2_with fail
        refine hcall.mono ?_
        rintro e w1 ⟨rfl, hb1⟩
        go_wp2_with fail
        go_roundw
        case rel =>
          refine ⟨k + 1, by go_num, by omega, ?_, hA.trans hb1⟩
          show ∀ j, _
          intro j hj
          by_cases e : j = k
          · rw [e]; exact HB.out
          · exact hall.out j (by omega)
        case measure => simp [intOf]; omega
    · obtain rfl : k = n := by omega
      go_wp2_with fail
      go_ret
      refine ⟨-1, rfl, ?_, hA⟩
      rw [show (List.range k).any P = false from List.any_eq_false.2 fun j hj => by rw [hall.out j (List.mem_range.1 hj)]; decide]
      rfl
theorem contains_not (w : World) (g cap n : Nat) (P : Nat → Bool) (hn : n ≤ 1000)
    (hcall : ∀ j, j < n → ∃ T x, w.cell? ⟨g, j, none⟩ = some (.iface T x) ∧ ∀ W, After w W → Calls Tryz.prog 66 #[.iface T x] W fun e w' => e = .returned (.bool (P j)) ∧ After W w') :
    Calls Tryz.prog 64 #[.slice (some ⟨g, 0, none⟩) n cap, .func (.func 66) #[] #[]] w fun e w' => e = .returned (.bool ((List.range n).any P)) ∧ After w w' := by
  have hidx := index_not w g cap n P hn hcall
  clear hcall
  generalize (List.range n).any P = r at *
  go_enter Tryz.func64, Tryz.ntmps64
  go_wp2_with fail
  refine hidx.mono ?_
  rintro e w1 ⟨i, rfl, hir, hb1⟩
  have HI := Lib.hid hir
  clear hir hidx
  go_wp2_with fail
  go_ret
  exact ⟨by rw [← HI.out]; rfl, hb1⟩


def HoldIH (d : Nat) : Prop := ∀ (f : Fo) (w W : World) (v : Value), FoV w 0 f v → Fm.okm f → Fm.occ f = [] → Fm.sxDepth (Fm.tree f) < d → HandleS w → After w W →
  Calls Tryz.prog 41 #[v] W fun e w' => e = .returned (.bool (Fm.holdsF d f)) ∧ After W w'

theorem not_holds (w W : World) (v : Value) (r : Bool) (h : ∀ V, After w V → Calls Tryz.prog 41 #[v] V fun e w' => e = .returned (.bool r) ∧ After V w') (hW : After w W) :
    Calls Tryz.prog 66 #[v] W fun e w' => e = .returned (.bool (!r)) ∧ After W w' := by
  have k1 := h W hW
  clear h hW
  go_enter Tryz.func66, Tryz.ntmps66
  go_wp2_with fail
  refine k1.mono ?_
  rintro e w1 ⟨rfl, hb1⟩
  go_wp2_with fail
  go_ret
  exact ⟨rfl, hb1⟩

theorem eq_holds (w W : World) (v1 v2 : Value) (m1 m2 : Nat) (h1 : EVOk w v1 m1) (h2 : EVOk w v2 m2) (hW : After w W) (hH : HandleS w) :
    Calls Tryz.prog 63 #[.agg #[v1, v2]] W fun e w' => e = .returned (.bool (decide (m1 = m2))) ∧ After W w' := by
  have c1 := fun V hV => counted_any w V v1 m1 h1 hV hH
  have c2 := fun V hV => counted_any w V v2 m2 h2 hV hH
  obtain ⟨T1, x1, _, _, rfl, _⟩ := h1
  obtain ⟨T2, x2, _, _, rfl, _⟩ := h2
  obtain ⟨r, hr⟩ : ∃ r, r = decide (m1 = m2) := ⟨_, rfl⟩
  have hr2 : ((m1 : Int) == (m2 : Int)) = r := by rw [hr]; by_cases e : m1 = m2 <;> simp [e]; omega
  rw [← hr]
  have hA := After.new W (.cells #[.iface T1 x1, .iface T2 x2] 88)
  have hb := heap_new' W (.cells #[.iface T1 x1, .iface T2 x2] 88)
  have k1 := c1 _ (hW.trans hA)
  have HA := Lib.hid hA
  have HB := Lib.hid hb
  have HW := Lib.hid hW
  have HC2 := Lib.hid c2
  have HR2 := Lib.hid hr2
  clear c1 c2 hA hb hW hr2 hr
  go_enter Tryz.func63, Tryz.ntmps63
  go_wp2_with fail
  refine k1.mono ?_
  rintro e w2 ⟨rfl, ha2⟩
  have k2 := HC2.out w2 ((HW.out.trans HA.out).trans ha2)
  have q1 : w2.cell? ⟨W.heap.size, 1, none⟩ = some (.iface T2 x2) := cell_of_heap (i := 1) (ha2.heap HB.out)
  have HA2 := Lib.hid ha2
  clear k1 ha2
  go_wp2_with fail
  refine k2.mono ?_
  rintro e w3 ⟨rfl, ha3⟩
  have HA3 := Lib.hid ha3
  have hr2 := HR2.out
  clear k2 ha3
  go_wp2_with fail
  go_ret
  exact ⟨rfl, (HA.out.trans HA2.out).trans HA3.out⟩

theorem ta_truth_truth (W : World) : (Instr.typeAssert (.iface 86 (.agg #[])) 42 86 true).run Tryz.prog W = .ok (.tuple #[.agg #[], .bool true]) W := by kernel_rfl
theorem ta_equality_truth (W : World) (x y : Value) : (Instr.typeAssert (.iface 88 (.agg #[x, y])) 42 86 true).run Tryz.prog W = .ok (.tuple #[.agg #[], .bool false]) W := by kernel_rfl
theorem ta_equality_equality (W : World) (x y : Value) : (Instr.typeAssert (.iface 88 (.agg #[x, y])) 42 88 true).run Tryz.prog W = .ok (.tuple #[.agg #[x, y], .bool true]) W := by kernel_rfl
theorem ta_conjunction_truth (W : World) (x y : Value) : (Instr.typeAssert (.iface 92 (.agg #[x, y])) 42 86 true).run Tryz.prog W = .ok (.tuple #[.agg #[], .bool false]) W := by kernel_rfl
theorem ta_conjunction_equality (W : World) (x y : Value) : (Instr.typeAssert (.iface 92 (.agg #[x, y])) 42 88 true).run Tryz.prog W = .ok (.tuple #[.agg #[.nilIface, .nilIface], .bool false]) W := by kernel_rfl
theorem ta_conjunction_conjunction (W : World) (x y : Value) : (Instr.typeAssert (.iface 92 (.agg #[x, y])) 42 92 true).run Tryz.prog W = .ok (.tuple #[.agg #[x, y], .bool true]) W := by kernel_rfl
theorem ta_disjunction_truth (W : World) (x y : Value) : (Instr.typeAssert (.iface 93 (.agg #[x, y])) 42 86 true).run Tryz.prog W = .ok (.tuple #[.agg #[], .bool false]) W := by kernel_rfl
theorem ta_disjunction_equality (W : World) (x y : Value) : (Instr.typeAssert (.iface 93 (.agg #[x, y])) 42 88 true).run Tryz.prog W = .ok (.tuple #[.agg #[.nilIface, .nilIface], .bool false]) W := by kernel_rfl
theorem ta_disjunction_conjunction (W : World) (x y : Value) : (Instr.typeAssert (.iface 93 (.agg #[x, y])) 42 92 true).run Tryz.prog W = .ok (.tuple #[.agg #[.nilIface, .nilIface], .bool false]) W := by kernel_rfl
theorem ta_disjunction_disjunction (W : World) (x y : Value) : (Instr.typeAssert (.iface 93 (.agg #[x, y])) 42 93 true).run Tryz.prog W = .ok (.tuple #[.agg #[x, y], .bool true]) W := by kernel_rfl
theorem ta_implication_truth (W : World) (x y : Value) : (Instr.typeAssert (.iface 94 (.agg #[x, y])) 42 86 true).run Tryz.prog W = .ok (.tuple #[.agg #[], .bool false]) W := by kernel_rfl
theorem ta_implication_equality (W : World) (x y : Value) : (Instr.typeAssert (.iface 94 (.agg #[x, y])) 42 88 true).run Tryz.prog W = .ok (.tuple #[.agg #[.nilIface, .nilIface], .bool false]) W := by kernel_rfl
theorem ta_implication_conjunction (W : World) (x y : Value) : (Instr.typeAssert (.iface 94 (.agg #[x, y])) 42 92 true).run Tryz.prog W = .ok (.tuple #[.agg #[.nilIface, .nilIface], .bool false]) W := by kernel_rfl
theorem ta_implication_disjunction (W : World) (x y : Value) : (Instr.typeAssert (.iface 94 (.agg #[x, y])) 42 93 true).run Tryz.prog W = .ok (.tuple #[.agg #[.nilIface, .nilIface], .bool false]) W := by kernel_rfl
theorem ta_implication_implication (W : World) (x y : Value) : (Instr.typeAssert (.iface 94 (.agg #[x, y])) 42 94 true).run Tryz.prog W = .ok (.tuple #[.agg #[x, y], .bool true]) W := by kernel_rfl
theorem ta_universal_truth (W : World) (x y z : Value) : (Instr.typeAssert (.iface 98 (.agg #[x, y, z])) 42 86 true).run Tryz.prog W = .ok (.tuple #[.agg #[], .bool false]) W := by kernel_rfl
theorem ta_universal_equality (W : World) (x y z : Value) : (Instr.typeAssert (.iface 98 (.agg #[x, y, z])) 42 88 true).run Tryz.prog W = .ok (.tuple #[.agg #[.nilIface, .nilIface], .bool false]) W := by kernel_rfl
theorem ta_universal_conjunction (W : World) (x y z : Value) : (Instr.typeAssert (.iface 98 (.agg #[x, y, z])) 42 92 true).run Tryz.prog W = .ok (.tuple #[.agg #[.nilIface, .nilIface], .bool false]) W := by kernel_rfl
theorem ta_universal_disjunction (W : World) (x y z : Value) : (Instr.typeAssert (.iface 98 (.agg #[x, y, z])) 42 93 true).run Tryz.prog W = .ok (.tuple #[.agg #[.nilIface, .nilIface], .bool false]) W := by kernel_rfl
theorem ta_universal_implication (W : World) (x y z : Value) : (Instr.typeAssert (.iface 98 (.agg #[x, y, z])) 42 94 true).run Tryz.prog W = .ok (.tuple #[.agg #[.nilIface, .nilIface], .bool false]) W := by kernel_rfl
theorem ta_universal_universal (W : World) (x y z : Value) : (Instr.typeAssert (.iface 98 (.agg #[x, y, z])) 42 98 true).run Tryz.prog W = .ok (.tuple #[.agg #[x, y, z], .bool true]) W := by kernel_rfl
theorem ta_existential_truth (W : World) (x y z : Value) : (Instr.typeAssert (.iface 102 (.agg #[x, y, z])) 42 86 true).run Tryz.prog W = .ok (.tuple #[.agg #[], .bool false]) W := by kernel_rfl
theorem ta_existential_equality (W : World) (x y z : Value) : (Instr.typeAssert (.iface 102 (.agg #[x, y, z])) 42 88 true).run Tryz.prog W = .ok (.tuple #[.agg #[.nilIface, .nilIface], .bool false]) W := by kernel_rfl
theorem ta_existential_conjunction (W : World) (x y z : Value) : (Instr.typeAssert (.iface 102 (.agg #[x, y, z])) 42 92 true).run Tryz.prog W = .ok (.tuple #[.agg #[.nilIface, .nilIface], .bool false]) W := by kernel_rfl
theorem ta_existential_disjunction (W : World) (x y z : Value) : (Instr.typeAssert (.iface 102 (.agg #[x, y, z])) 42 93 true).run Tryz.prog W = .ok (.tuple #[.agg #[.nilIface, .nilIface], .bool false]) W := by kernel_rfl
theorem ta_existential_implication (W : World) (x y z : Value) : (Instr.typeAssert (.iface 102 (.agg #[x, y, z])) 42 94 true).run Tryz.prog W = .ok (.tuple #[.agg #[.nilIface, .nilIface], .bool false]) W := by kernel_rfl
theorem ta_existential_universal (W : World) (x y z : Value) : (Instr.typeAssert (.iface 102 (.agg #[x, y, z])) 42 98 true).run Tryz.prog W = .ok (.tuple #[.agg #[.string ⟨#[]⟩, .int .i64 0, .nilIface], .bool false]) W := by kernel_rfl
theorem ta_existential_existential (W : World) (x y z : Value) : (Instr.typeAssert (.iface 102 (.agg #[x, y, z])) 42 102 true).run Tryz.prog W = .ok (.tuple #[.agg #[x, y, z], .bool true]) W := by kernel_rfl
theorem ta_falsity_truth (W : World) : (Instr.typeAssert (.iface 107 (.agg #[])) 42 86 true).run Tryz.prog W = .ok (.tuple #[.agg #[], .bool false]) W := by kernel_rfl
theorem ta_falsity_equality (W : World) : (Instr.typeAssert (.iface 107 (.agg #[])) 42 88 true).run Tryz.prog W = .ok (.tuple #[.agg #[.nilIface, .nilIface], .bool false]) W := by kernel_rfl
theorem ta_falsity_conjunction (W : World) : (Instr.typeAssert (.iface 107 (.agg #[])) 42 92 true).run Tryz.prog W = .ok (.tuple #[.agg #[.nilIface, .nilIface], .bool false]) W := by kernel_rfl
theorem ta_falsity_disjunction (W : World) : (Instr.typeAssert (.iface 107 (.agg #[])) 42 93 true).run Tryz.prog W = .ok (.tuple #[.agg #[.nilIface, .nilIface], .bool false]) W := by kernel_rfl
theorem ta_falsity_implication (W : World) : (Instr.typeAssert (.iface 107 (.agg #[])) 42 94 true).run Tryz.prog W = .ok (.tuple #[.agg #[.nilIface, .nilIface], .bool false]) W := by kernel_rfl
theorem ta_falsity_universal (W : World) : (Instr.typeAssert (.iface 107 (.agg #[])) 42 98 true).run Tryz.prog W = .ok (.tuple #[.agg #[.string ⟨#[]⟩, .int .i64 0, .nilIface], .bool false]) W := by kernel_rfl
theorem ta_falsity_existential (W : World) : (Instr.typeAssert (.iface 107 (.agg #[])) 42 102 true).run Tryz.prog W = .ok (.tuple #[.agg #[.string ⟨#[]⟩, .int .i64 0, .nilIface], .bool false]) W := by kernel_rfl

theorem holds_top (W : World) : Calls Tryz.prog 41 #[.iface 86 (.agg #[])] W fun e w' => e = .returned (.bool true) ∧ After W w' := by
  have ta_truth := fun W => ta_truth_truth W
  go_enter Tryz.func41, Tryz.ntmps41
  go_wp2_with fail
  go_ret
  exact ⟨rfl, by repeat (first | exact After.refl _ | refine After.alloc ?_ _)⟩
theorem holds_bot (W : World) : Calls Tryz.prog 41 #[.iface 107 (.agg #[])] W fun e w' => e = .returned (.bool false) ∧ After W w' := by
  have ta_truth := fun W => ta_falsity_truth W
  have ta_equality := fun W => ta_falsity_equality W
  have ta_conjunction := fun W => ta_falsity_conjunction W
  have ta_disjunction := fun W => ta_falsity_disjunction W
  have ta_implication := fun W => ta_falsity_implication W
  have ta_universal := fun W => ta_falsity_universal W
  have ta_existential := fun W => ta_falsity_existential W
  go_enter Tryz.func41, Tryz.ntmps41
  go_wp2_with fail
  go_ret
  exact ⟨rfl, by repeat (first | exact After.refl _ | refine After.alloc ?_ _)⟩
theorem holds_eq (W : World) (T1 T2 : TypeId) (x1 x2 : Value) (r : Bool) (h : ∀ V, After W V → Calls Tryz.prog 63 #[.agg #[.iface T1 x1, .iface T2 x2]] V fun e w' => e = .returned (.bool r) ∧ After V w') :
    Calls Tryz.prog 41 #[.iface 88 (.agg #[.iface T1 x1, .iface T2 x2])] W fun e w' => e = .returned (.bool r) ∧ After W w' := by
  have ta_truth := fun W => ta_equality_truth W (.iface T1 x1) (.iface T2 x2)
  have ta_equality := fun W => ta_equality_equality W (.iface T1 x1) (.iface T2 x2)
  have hA := After.new W (.cells #[.iface T1 x1, .iface T2 x2] 88)
  have k1 := h _ hA
  have HA := Lib.hid hA
  clear h hA
  go_enter Tryz.func41, Tryz.ntmps41
  go_wp2_with fail
  refine k1.mono ?_
  rintro e w2 ⟨rfl, ha2⟩
  have HA2 := Lib.hid ha2
  clear k1 ha2
  go_wp2_with fail
  go_ret
  exact ⟨rfl, HA.out.trans HA2.out⟩

theorem holds_and (W : World) (T1 T2 : TypeId) (y1 y2 : Value) (b1 b2 : Bool) (h1 : ∀ V, After W V → Calls Tryz.prog 41 #[.iface T1 y1] V fun e w' => e = .returned (.bool b1) ∧ After V w') (h2 : ∀ V, After W V → Calls Tryz.prog 41 #[.iface T2 y2] V fun e w' => e = .returned (.bool b2) ∧ After V w') :
    Calls Tryz.prog 41 #[.iface 92 (.agg #[.iface T1 y1, .iface T2 y2])] W fun e w' => e = .returned (.bool (b1 && b2)) ∧ After W w' := by
  have ta_truth := fun W => ta_conjunction_truth W (.iface T1 y1) (.iface T2 y2)
  have ta_equality := fun W => ta_conjunction_equality W (.iface T1 y1) (.iface T2 y2)
  have ta_conjunction := fun W => ta_conjunction_conjunction W (.iface T1 y1) (.iface T2 y2)
  have hA := After.new W (.cells #[.iface T1 y1, .iface T2 y2] 92)
  have hb := heap_new' W (.cells #[.iface T1 y1, .iface T2 y2] 92)
  have k1 := h1 _ hA
  have HA := Lib.hid hA
  have HB := Lib.hid hb
  have HH2 := Lib.hid h2
  clear h1 h2 hA hb
  go_enter Tryz.func41, Tryz.ntmps41
  go_wp2_with fail
  refine k1.mono ?_
  rintro e w2 ⟨rfl, ha2⟩
  have q1 : w2.cell? ⟨W.heap.size, 1, none⟩ = some (.iface T2 y2) := cell_of_heap (i := 1) (ha2.heap HB.out)
  have k2 := HH2.out w2 (HA.out.trans ha2)
  have HA2 := Lib.hid ha2
  clear k1 ha2
  cases b1 with
  | true =>
    go_wp2_with fail
    refine k2.mono ?_
    rintro e w3 ⟨rfl, ha3⟩
    have HA3 := Lib.hid ha3
    clear k2 ha3
    go_wp2_with fail
    go_ret
    exact ⟨by simp, (HA.out.trans HA2.out).trans HA3.out⟩
  | false =>
    go_wp2_with fail
    go_ret
    exact ⟨by simp, HA.out.trans HA2.out⟩

theorem holds_or (W : World) (T1 T2 : TypeId) (y1 y2 : Value) (b1 b2 : Bool) (h1 : ∀ V, After W V → Calls Tryz.prog 41 #[.iface T1 y1] V fun e w' => e = .returned (.bool b1) ∧ After V w') (h2 : ∀ V, After W V → Calls Tryz.prog 41 #[.iface T2 y2] V fun e w' => e = .returned (.bool b2) ∧ After V w') :
    Calls Tryz.prog 41 #[.iface 93 (.agg #[.iface T1 y1, .iface T2 y2])] W fun e w' => e = .returned (.bool (b1 || b2)) ∧ After W w' := by
  have ta_truth := fun W => ta_disjunction_truth W (.iface T1 y1) (.iface T2 y2)
  have ta_equality := fun W => ta_disjunction_equality W (.iface T1 y1) (.iface T2 y2)
  have ta_conjunction := fun W => ta_disjunction_conjunction W (.iface T1 y1) (.iface T2 y2)
  have ta_disjunction := fun W => ta_disjunction_disjunction W (.iface T1 y1) (.iface T2 y2)
  have hA := After.new W (.cells #[.iface T1 y1, .iface T2 y2] 93)
  have hb := heap_new' W (.cells #[.iface T1 y1, .iface T2 y2] 93)
  have k1 := h1 _ hA
  have HA := Lib.hid hA
  have HB := Lib.hid hb
  have HH2 := Lib.hid h2
  clear h1 h2 hA hb
  go_enter Tryz.func41, Tryz.ntmps41
  go_wp2_with fail
  refine k1.mono ?_
  rintro e w2 ⟨rfl, ha2⟩
  have q1 : w2.cell? ⟨W.heap.size, 1, none⟩ = some (.iface T2 y2) := cell_of_heap (i := 1) (ha2.heap HB.out)
  have k2 := HH2.out w2 (HA.out.trans ha2)
  have HA2 := Lib.hid ha2
  clear k1 ha2
  cases b1 with
  | false =>
    go_wp2_with fail
    refine k2.mono ?_
    rintro e w3 ⟨rfl, ha3⟩
    have HA3 := Lib.hid ha3
    clear k2 ha3
    go_wp2_with fail
    go_ret
    exact ⟨by simp, (HA.out.trans HA2.out).trans HA3.out⟩
  | true =>
    go_wp2_with fail
    go_ret
    exact ⟨by simp, HA.out.trans HA2.out⟩

theorem holds_imp (W : World) (T1 T2 : TypeId) (y1 y2 : Value) (b1 b2 : Bool) (h1 : ∀ V, After W V → Calls Tryz.prog 41 #[.iface T1 y1] V fun e w' => e = .returned (.bool b1) ∧ After V w') (h2 : ∀ V, After W V → Calls Tryz.prog 41 #[.iface T2 y2] V fun e w' => e = .returned (.bool b2) ∧ After V w') :
    Calls Tryz.prog 41 #[.iface 94 (.agg #[.iface T1 y1, .iface T2 y2])] W fun e w' => e = .returned (.bool (!b1 || b2)) ∧ After W w' := by
  have ta_truth := fun W => ta_implication_truth W (.iface T1 y1) (.iface T2 y2)
  have ta_equality := fun W => ta_implication_equality W (.iface T1 y1) (.iface T2 y2)
  have ta_conjunction := fun W => ta_implication_conjunction W (.iface T1 y1) (.iface T2 y2)
  have ta_disjunction := fun W => ta_implication_disjunction W (.iface T1 y1) (.iface T2 y2)
  have ta_implication := fun W => ta_implication_implication W (.iface T1 y1) (.iface T2 y2)
  have hA := After.new W (.cells #[.iface T1 y1, .iface T2 y2] 94)
  have hb := heap_new' W (.cells #[.iface T1 y1, .iface T2 y2] 94)
  have k1 := h1 _ hA
  have HA := Lib.hid hA
  have HB := Lib.hid hb
  have HH2 := Lib.hid h2
  clear h1 h2 hA hb
  go_enter Tryz.func41, Tryz.ntmps41
  go_wp2_with fail
  refine k1.mono ?_
  rintro e w2 ⟨rfl, ha2⟩
  have q1 : w2.cell? ⟨W.heap.size, 1, none⟩ = some (.iface T2 y2) := cell_of_heap (i := 1) (ha2.heap HB.out)
  have k2 := HH2.out w2 (HA.out.trans ha2)
  have HA2 := Lib.hid ha2
  clear k1 ha2
  cases b1 with
  | true =>
    go_wp2_with fail
    refine k2.mono ?_
    rintro e w3 ⟨rfl, ha3⟩
    have HA3 := Lib.hid ha3
    clear k2 ha3
    go_wp2_with fail
    go_ret
    exact ⟨by simp, (HA.out.trans HA2.out).trans HA3.out⟩
  | false =>
    go_wp2_with fail
    go_ret
    exact ⟨by simp, HA.out.trans HA2.out⟩

theorem holds_all (W : World) (x : List UInt8) (n : Nat) (T : TypeId) (y : Value) (P : Nat → Bool) (hn : n ≤ 6)
    (hb : ∀ V, After W V → Calls Tryz.prog 65 #[.agg #[str x, .int .i64 (n : Nat), .iface T y]] V fun e w' =>
      ∃ g c, e = .returned (.slice (some ⟨g, 0, none⟩) n c) ∧ After V w' ∧ ∀ j, j < n → ∃ T x', w'.cell? ⟨g, j, none⟩ = some (.iface T x') ∧ ∀ U, After w' U → Calls Tryz.prog 41 #[.iface T x'] U fun e w' => e = .returned (.bool (P j)) ∧ After U w') :
    Calls Tryz.prog 41 #[.iface 98 (.agg #[str x, .int .i64 (n : Nat), .iface T y])] W fun e w' => e = .returned (.bool ((List.range n).all P)) ∧ After W w' := by
  have ta_truth := fun W => ta_universal_truth W (str x) (.int .i64 (n : Nat)) (.iface T y)
  have ta_equality := fun W => ta_universal_equality W (str x) (.int .i64 (n : Nat)) (.iface T y)
  have ta_conjunction := fun W => ta_universal_conjunction W (str x) (.int .i64 (n : Nat)) (.iface T y)
  have ta_disjunction := fun W => ta_universal_disjunction W (str x) (.int .i64 (n : Nat)) (.iface T y)
  have ta_implication := fun W => ta_universal_implication W (str x) (.int .i64 (n : Nat)) (.iface T y)
  have ta_universal := fun W => ta_universal_universal W (str x) (.int .i64 (n : Nat)) (.iface T y)
  have hA := After.new W (.cells #[str x, .int .i64 (n : Nat), .iface T y] 98)
  have k1 := hb _ hA
  have HA := Lib.hid hA
  obtain ⟨r, hr⟩ : ∃ r, r = (List.range n).any (fun j => !P j) := ⟨_, rfl⟩
  rw [show (List.range n).all P = !r by rw [hr]; simp [List.all_eq_not_any_not]]
  have HR := Lib.hid hr
  clear hb hA hr
  go_enter Tryz.func41, Tryz.ntmps41
  go_wp2_with fail
  refine k1.mono ?_
  rintro e w2 ⟨g, c, rfl, ha2, hj⟩
  have k2 := contains_not w2 g c n (fun j => !P j) (by omega) (fun j hlt => by
    obtain ⟨T', x', hc, hcall⟩ := hj j hlt
    exact ⟨T', x', hc, fun U hU => not_holds w2 U _ _ hcall hU⟩)
  rw [← HR.out] at k2
  have HA2 := Lib.hid ha2
  clear k1 ha2 hj
  go_wp2_with fail
  refine k2.mono ?_
  rintro e w3 ⟨rfl, ha3⟩
  have HA3 := Lib.hid ha3
  clear k2 ha3
  go_wp2_with fail
  go_ret
  exact ⟨rfl, (HA.out.trans HA2.out).trans HA3.out⟩

theorem holds_ex (W : World) (x : List UInt8) (n : Nat) (T : TypeId) (y : Value) (P : Nat → Bool) (hn : n ≤ 6)
    (hb : ∀ V, After W V → Calls Tryz.prog 65 #[.agg #[str x, .int .i64 (n : Nat), .iface T y]] V fun e w' =>
      ∃ g c, e = .returned (.slice (some ⟨g, 0, none⟩) n c) ∧ After V w' ∧ ∀ j, j < n → ∃ T x', w'.cell? ⟨g, j, none⟩ = some (.iface T x') ∧ ∀ U, After w' U → Calls Tryz.prog 41 #[.iface T x'] U fun e w' => e = .returned (.bool (P j)) ∧ After U w') :
    Calls Tryz.prog 41 #[.iface 102 (.agg #[str x, .int .i64 (n : Nat), .iface T y])] W fun e w' => e = .returned (.bool ((List.range n).any P)) ∧ After W w' := by
  have ta_truth := fun W => ta_existential_truth W (str x) (.int .i64 (n : Nat)) (.iface T y)
  have ta_equality := fun W => ta_existential_equality W (str x) (.int .i64 (n : Nat)) (.iface T y)
  have ta_conjunction := fun W => ta_existential_conjunction W (str x) (.int .i64 (n : Nat)) (.iface T y)
  have ta_disjunction := fun W => ta_existential_disjunction W (str x) (.int .i64 (n : Nat)) (.iface T y)
  have ta_implication := fun W => ta_existential_implication W (str x) (.int .i64 (n : Nat)) (.iface T y)
  have ta_universal := fun W => ta_existential_universal W (str x) (.int .i64 (n : Nat)) (.iface T y)
  have ta_existential := fun W => ta_existential_existential W (str x) (.int .i64 (n : Nat)) (.iface T y)
  have hA := After.new W (.cells #[str x, .int .i64 (n : Nat), .iface T y] 102)
  have k1 := hb _ hA
  have HA := Lib.hid hA
  obtain ⟨r, hr⟩ : ∃ r, r = (List.range n).any (P) := ⟨_, rfl⟩
  rw [← hr]
  have HR := Lib.hid hr
  clear hb hA hr
  go_enter Tryz.func41, Tryz.ntmps41
  go_wp2_with fail
  refine k1.mono ?_
  rintro e w2 ⟨g, c, rfl, ha2, hj⟩
  have k2 := contains_holds w2 g c n (P) (by omega) (fun j hlt => by
    obtain ⟨T', x', hc, hcall⟩ := hj j hlt
    exact ⟨T', x', hc, hcall⟩)
  rw [← HR.out] at k2
  have HA2 := Lib.hid ha2
  clear k1 ha2 hj
  go_wp2_with fail
  refine k2.mono ?_
  rintro e w3 ⟨rfl, ha3⟩
  have HA3 := Lib.hid ha3
  clear k2 ha3
  go_wp2_with fail
  go_ret
  exact ⟨rfl, (HA.out.trans HA2.out).trans HA3.out⟩

theorem holds_any : ∀ d, HoldIH d
  | 0 => fun f w W v _ _ _ h _ _ => absurd h (Nat.not_lt_zero _)
  | d + 1 => by
    have ih := holds_any d
    intro f w W v hf ho hc hd hH hW
    cases f with
    | top => simp only [FoV] at hf; subst hf; exact holds_top W
    | bot => simp only [FoV] at hf; subst hf; exact holds_bot W
    | eq a b =>
      obtain ⟨x, y, rfl, ha, hb⟩ := hf
      have hc := List.append_eq_nil_iff.1 hc
      have k1 := ha.valOk hH ho.1 hc.1
      have k2 := hb.valOk hH ho.2 hc.2
      obtain ⟨T1, x1, rfl⟩ := ha.form
      obtain ⟨T2, x2, rfl⟩ := hb.form
      exact holds_eq W _ _ _ _ _ fun V hV => eq_holds w V _ _ _ _ k1 k2 (hW.trans hV) hH
    | and f g =>
      obtain ⟨x, y, rfl, hf, hg⟩ := hf
      have hc := List.append_eq_nil_iff.1 hc
      simp only [Fm.tree, Fm.sxDepth, Fm.sxDepths] at hd
      obtain ⟨T1, x1, rfl⟩ := hf.form
      obtain ⟨T2, x2, rfl⟩ := hg.form
      exact holds_and W _ _ _ _ _ _ (fun V hV => ih f w V _ hf ho.1 hc.1 (by omega) hH (hW.trans hV)) (fun V hV => ih g w V _ hg ho.2 hc.2 (by omega) hH (hW.trans hV))
    | or f g =>
      obtain ⟨x, y, rfl, hf, hg⟩ := hf
      have hc := List.append_eq_nil_iff.1 hc
      simp only [Fm.tree, Fm.sxDepth, Fm.sxDepths] at hd
      obtain ⟨T1, x1, rfl⟩ := hf.form
      obtain ⟨T2, x2, rfl⟩ := hg.form
      exact holds_or W _ _ _ _ _ _ (fun V hV => ih f w V _ hf ho.1 hc.1 (by omega) hH (hW.trans hV)) (fun V hV => ih g w V _ hg ho.2 hc.2 (by omega) hH (hW.trans hV))
    | imp f g =>
      obtain ⟨x, y, rfl, hf, hg⟩ := hf
      have hc := List.append_eq_nil_iff.1 hc
      simp only [Fm.tree, Fm.sxDepth, Fm.sxDepths] at hd
      obtain ⟨T1, x1, rfl⟩ := hf.form
      obtain ⟨T2, x2, rfl⟩ := hg.form
      exact holds_imp W _ _ _ _ _ _ (fun V hV => ih f w V _ hf ho.1 hc.1 (by omega) hH (hW.trans hV)) (fun V hV => ih g w V _ hg ho.2.1 hc.2 (by omega) hH (hW.trans hV))
    | all x n f =>
      obtain ⟨y, rfl, hf⟩ := hf
      obtain ⟨T1, x1, rfl⟩ := hf.form
      simp only [Fm.tree, Fm.sxDepth, Fm.sxDepths] at hd
      have hcp : ∀ m, Fm.occ (Fm.putF x (.num m) f) = [] := fun m => by rw [Fm.occ_put]; exact hc
      refine holds_all W x n T1 x1 (fun m => Fm.holdsF d (Fm.putF x (.num m) f)) ho.2.2.1 fun V hV => (bodies_any w V x n T1 x1 f hf (hW.trans hV) ho.2.1 ho.2.2.1).mono ?_
      rintro e w' ⟨g, c, rfl, ha, hj⟩
      refine ⟨g, c, rfl, ha, fun j hlt => ?_⟩
      obtain ⟨T', x', hc', hv'⟩ := hj j hlt
      have hn6 := ho.2.2.1
      exact ⟨T', x', hc', fun U hU => ih _ w' U _ hv' (Fm.okm_put x j (by omega) f ho.2.2.2) (hcp j) (by rw [Fm.depth_put]; omega) (hH.after ((hW.trans hV).trans ha)) hU⟩
    | ex x n f =>
      obtain ⟨y, rfl, hf⟩ := hf
      obtain ⟨T1, x1, rfl⟩ := hf.form
      simp only [Fm.tree, Fm.sxDepth, Fm.sxDepths] at hd
      have hcp : ∀ m, Fm.occ (Fm.putF x (.num m) f) = [] := fun m => by rw [Fm.occ_put]; exact hc
      refine holds_ex W x n T1 x1 (fun m => Fm.holdsF d (Fm.putF x (.num m) f)) ho.2.2.1 fun V hV => (bodies_any w V x n T1 x1 f hf (hW.trans hV) ho.2.1 ho.2.2.1).mono ?_
      rintro e w' ⟨g, c, rfl, ha, hj⟩
      refine ⟨g, c, rfl, ha, fun j hlt => ?_⟩
      obtain ⟨T', x', hc', hv'⟩ := hj j hlt
      have hn6 := ho.2.2.1
      exact ⟨T', x', hc', fun U hU => ih _ w' U _ hv' (Fm.okm_put x j (by omega) f ho.2.2.2) (hcp j) (by rw [Fm.depth_put]; omega) (hH.after ((hW.trans hV).trans ha)) hU⟩
end Go.Proofs.YtdjoafnohkmneaaGreatDoor

namespace Go.Proofs.YtdjoafnohkmneaaGreatDoor
open Go.RowKit Go.WideMaps Go.Maps

set_option maxHeartbeats 400000
set_option maxRecDepth 100000

theorem law_key : Keyed Tryz.prog 9 := string_keyed Tryz.underlying9
theorem zero_bool (w : World) : (zeroValue 4).run Tryz.prog w = .ok (.bool false) w := by kernel_rfl
theorem info_string : (Tryz.prog.info? 9).map (fun i => (i.zero, i.size, i.bytes)) = some (some (.string ⟨#[]⟩), 1, 16) := by kernel_rfl

/-- The list lies in the blocks from mb on: the map, the list's own block, the row of names. -/
def NL (w : World) (mb : Nat) (ns : List (List UInt8)) : Prop :=
  ∃ sv, w.heap[mb + 1]? = some (.cells #[sv, .map (some mb)] 115 (0, 0)) ∧ w.ownsRow (mb + 2) 9 1 sv ns.length (ns.map str) ∧
    ∃ D : DataW Unit, w.ownsMap Tryz.prog 9 (plainElem Tryz.prog 4) mb ns.length D ∧ ∀ x, D.atKey (.string x) (.lit (.bool false)) = .lit (.bool (decide (x ∈ ns)))

theorem NL.lt {w : World} {mb : Nat} {ns : List (List UInt8)} (h : NL w mb ns) : mb + 2 ≤ w.heap.size := by
  obtain ⟨sv, h, _⟩ := h
  exact (Array.getElem?_eq_some_iff.1 h).1

theorem key_str (n : List UInt8) (h : n.length ≤ maxLen) : keyOf Tryz.prog 9 (str n) = some (.string n) := by
  have := keyOf_string_mk Tryz.underlying9 (s := ⟨n.toArray⟩) (by show n.toArray.size ≤ _; simpa using h)
  simpa using this

theorem look_run {w : World} {mb k : Nat} {D : DataW Unit} {ns : List (List UInt8)} (ho : w.ownsMap Tryz.prog 9 (plainElem Tryz.prog 4) mb k D) (hD : ∀ x, D.atKey (.string x) (.lit (.bool false)) = .lit (.bool (decide (x ∈ ns)))) (n : List UInt8) (h : n.length ≤ maxLen) :
    (Instr.lookup 113 (.map (some mb)) (str n) false).run Tryz.prog w = .ok (.bool (decide (n ∈ ns))) w := by
  obtain ⟨v, ps, hrun, hv⟩ := ho.lookup law_key Tryz.underlying113 (zero_bool w) (plainElem_bool Tryz.underlying4 false) (key_str n h)
  rw [hD] at hv
  unfold plainElem at hv
  rw [Tryz.underlying4] at hv
  cases v <;> simp at hv
  obtain ⟨rfl, _⟩ := hv
  exact hrun

theorem add_old (w : World) (mb : Nat) (ns : List (List UInt8)) (n : List UInt8) (h : NL w mb ns) (hn : n ∈ ns) (hl : n.length ≤ maxLen) :
    Calls Tryz.prog 175 #[.pointer (some ⟨mb + 1, 0, none⟩), str n] w fun e w' => e = .returned (.tuple #[]) ∧ w = w' := by
  obtain ⟨sv, h0, hr, D, hm, hD⟩ := h
  have c1 : w.cell? ⟨mb + 1, 1, none⟩ = some (.map (some mb)) := cell_of_heap h0
  have hrun := look_run hm hD n hl
  rw [show decide (n ∈ ns) = true by simpa using hn] at hrun
  clear hD hm hr hn
  go_enter Tryz.func175, Tryz.ntmps175
  go_wp2_with fail
  go_end0
  exact ⟨rfl, rfl⟩

theorem list_kept {w1 w2 : World} {mb : Nat} {sv : Value} {k : Nat} {xs : List Value} {o : Obj} (h : w1.heap[mb + 1]? = some (.cells #[sv, .map (some mb)] 115 (0, 0))) (hr : w1.ownsRow (mb + 2) 9 1 sv k xs) (hg : (w1.alloc o).grownBy w2 sv.ownBlock) :
    w2.heap[mb + 1]? = some (.cells #[sv, .map (some mb)] 115 (0, 0)) := by
  have hlt := (Array.getElem?_eq_some_iff.1 h).1
  rw [hg.block _ (by simp; omega) (fun e => by have := (hr.lt _ e.symm).1; omega), Below.heap_alloc _ _ _ hlt]
  exact h

theorem list_free {w : World} {mb : Nat} {cs : Array Value} {T : TypeId} (h : w.heap[mb + 1]? = some (.cells cs T (0, 0))) : w.frozen? ⟨mb + 1, 0, none⟩ = false := by
  simp [World.frozen?, h]

theorem own_slice {w : World} {base n size : Nat} {T : TypeId} {v : Value} {xs : List Value} (h : w.ownsRow base T size v n xs) : ∃ ao an ac, v = .slice ao an ac := by
  rcases h.2 with ⟨rfl, _⟩ | ⟨g, cap, cur, rfl, _⟩
  · exact ⟨_, _, _, rfl⟩
  · exact ⟨_, _, _, rfl⟩

theorem own_slice_len {w : World} {base n size : Nat} {T : TypeId} {v : Value} {xs : List Value} (h : w.ownsRow base T size v n xs) : ∃ ao ac, v = .slice ao n ac := by
  rcases h.2 with ⟨rfl, rfl⟩ | ⟨g, cap, cur, rfl, _⟩
  · exact ⟨_, _, rfl⟩
  · exact ⟨_, _, rfl⟩

theorem add_new (w : World) (mb : Nat) (ns : List (List UInt8)) (n : List UInt8) (h : NL w mb ns) (hn : n ∉ ns) (hl : n.length ≤ maxLen) (hk : ns.length ≤ 1000000) :
    Calls Tryz.prog 175 #[.pointer (some ⟨mb + 1, 0, none⟩), str n] w fun e w' => e = .returned (.tuple #[]) ∧ NL w' mb (ns ++ [n]) ∧ Below mb w w' := by
  obtain ⟨sv, h0, hr, D, hm, hD⟩ := h
  have c1 : w.cell? ⟨mb + 1, 1, none⟩ = some (.map (some mb)) := cell_of_heap h0
  have c0 : w.cell? ⟨mb + 1, 0, none⟩ = some sv := cell_of_heap h0
  have hrun := look_run hm hD n hl
  rw [show decide (n ∈ ns) = false by simpa using hn] at hrun
  obtain ⟨i0, hi, hz0, hz1, hz2⟩ := info_parts info_string
  have hun := Tryz.underlying52
  have hkey := key_str n hl
  have hmax : ns.length < maxLen := by unfold maxLen; omega
  have HMI := hm.isMap
  have HD := Lib.hid hD
  have H0 := Lib.hid h0
  have hlt0 := (Array.getElem?_eq_some_iff.1 h0).1
  clear hD h0
  go_enter Tryz.func175, Tryz.ntmps175
  go_wp2_with (at_mapUpdate; refine wpList_mapUpdate_own _ rfl _ _ _ 113 rfl 9 4 law_key Tryz.underlying113 _ mb _ _ rfl hm hmax _ _ _ rfl rfl hkey _ [] (plainElem_bool Tryz.underlying4 true) ?_)
  intro w1 hm1 hg1
  have h1 : w1.heap[mb + 1]? = some (.cells #[sv, .map (some mb)] 115 (0, 0)) := by
    rw [hg1.block _ (Array.getElem?_eq_some_iff.1 H0.out).1 (fun e => by injection e with e; omega)]; exact H0.out
  have d0 : w1.cell? ⟨mb + 1, 0, none⟩ = some sv := cell_of_heap h1
  have H1 := Lib.hid h1
  have hr1 := hr.kept hg1 (by
    cases hv : sv.ownBlock with
    | none => exact Or.inl rfl
    | some k => right; intro e; injection e with e; have := (hr.lt k hv).1; omega)
  have hsz : mb + 2 ≤ (w1.alloc (.cells #[str n] 9)).heap.size := by
    have := (Array.getElem?_eq_some_iff.1 h1).1
    simp; omega
  have hone : ∀ u ∈ [str n], u.oneCell' = true := by simp [Value.oneCell']
  have hm16 : (ns.length + 1) * 16 ≤ 140737488355328 := by omega
  have HR := Lib.hid hr1
  have HM := Lib.hid hm1
  have HG := Lib.hid hg1
  clear h1 hrun c0 c1 hr hr1 hm hm1 hg1
  go_wp2_with (at_builtin; refine wpList_append_own _ rfl _ _ 52 rfl (mb + 2) 9 i0 (.string ⟨#[]⟩) 1 16 hun hi hz0 hz1 hz2 rfl (by decide) _ _ _ rfl (World.ownsRow.alloc HR.out _) ⟨w1.heap.size, 0, none⟩ 1 1 [str n] rfl rfl (cell_one_new _ _ _) hone hmax hm16 hsz ?_; intro v2 w2 ho2 hg2 hiff; clear hiff; obtain ⟨ao, an, ac, rfl⟩ := own_slice ho2; have H2 := Lib.hid (list_kept H1.out HR.out hg2); have f0 := list_free H2.out; have e0 : w2.cell? ⟨mb + 1, 0, none⟩ = some sv := cell_of_heap H2.out; have HG2 : Hid ((w1.alloc (.cells #[str n] 9)).grownBy w2 sv.ownBlock) := Lib.hid hg2; have HO2 : Hid (w2.ownsRow (mb + 2) 9 1 (.slice ao an ac) (ns.length + 1) (ns.map str ++ [str n])) := Lib.hid ho2; clear hg2 ho2)
  go_end0
  have hs1 := HG.out.size
  refine ⟨rfl, ⟨.slice ao an ac, ?_, ?_, D.put (.string n) (.lit (.bool true)), ?_, ?_⟩, ?_⟩
  · simp [World.setCell, Array.getElem?_modify, H2.out]
  · have := ownsRow_setCell_below HO2.out (a := ⟨mb + 1, 0, none⟩) (by simp) (.slice ao an ac)
    simpa using this
  · have h1 := (HM.out.alloc (.cells #[str n] 9)).kept HG2.out (by
      cases hv : sv.ownBlock with
      | none => simp
      | some k => intro e; injection e with e; have := (HR.out.lt k hv).1; omega)
    have := h1.setCell (a := ⟨mb + 1, 0, none⟩) (by simp) (.slice ao an ac)
    simpa using this
  · intro x
    by_cases hx : x = n
    · subst hx
      rw [atKey_put_same HMI (by trivial)]
      simp
    · rw [atKey_put_other (by intro e; injection e with e; exact hx e), HD.out]
      simp [hx]
  · exact ((((Below.refl mb w).grown HG.out (by omega) (fun k hk => by injection hk with hk; omega)).alloc (by omega) _).grown HG2.out (by omega) (fun k hk => by have := (HR.out.lt k hk).1; omega)).setCell (by simp) _

/-! ### listNames -/

def ListPost (mb : Nat) (w : World) (ns : List (List UInt8)) (e : Ending) (w' : World) : Prop := e = .returned (.tuple #[]) ∧ NL w' mb ns ∧ Below mb w w'

/-- The method listNames of v, a term in blocks below mb. -/
def ListOk (w : World) (mb : Nat) (v : Value) (t : Tm) : Prop :=
  ∃ T x f y, v = .iface T x ∧ (∀ W, Below mb w W → (method 335 T x "loop.example/realizers/impl.listNames").run Tryz.prog W = .ok (f, y) W) ∧ (∀ args w', (callFunc f args).run Tryz.prog w' = .ok (.enter f args) w') ∧
    ∀ W, Below mb w W → ∀ ns, NL W mb ns → ns.length + t.size ≤ 1000000 → Calls Tryz.prog f #[y, .pointer (some ⟨mb + 1, 0, none⟩)] W (ListPost mb W (t.names ns))

theorem NL.alloc {w : World} {mb : Nat} {ns : List (List UInt8)} (h : NL w mb ns) (o : Obj) : NL (w.alloc o) mb ns := by
  obtain ⟨sv, h0, hr, D, hm, hD⟩ := h
  exact ⟨sv, by rw [Below.heap_alloc _ _ _ (Array.getElem?_eq_some_iff.1 h0).1]; exact h0, hr.alloc _, D, hm.alloc _, hD⟩

theorem cell_mb {w : World} {mb b i : Nat} {v : Value} (h : w.cell? ⟨b, i, none⟩ = some v) (hb : b < mb) : ∀ W, Below mb w W → W.cell? ⟨b, i, none⟩ = some v := fun W hW => by rw [hW.cell (p := ⟨b, i, none⟩) hb]; exact h

theorem heap_mb {w W : World} {mb b : Nat} {o : Obj} (h : w.heap[b]? = some o) (hb : b < mb) (hW : Below mb w W) : W.heap[b]? = some o := by rw [hW.block b hb]; exact h

/-! ### namesOf -/

def NamesPost (w : World) (t : Tm) (e : Ending) (w' : World) : Prop :=
  ∃ sv, e = .returned sv ∧ Below w.heap.size w w' ∧ w'.ownsRow w.heap.size 9 1 sv (t.names []).length ((t.names []).map str)

theorem ownsRow_base {w : World} {B B' n size : Nat} {T : TypeId} {v : Value} {xs : List Value} (h : w.ownsRow B T size v n xs) (hB : B' ≤ B) : w.ownsRow B' T size v n xs := by
  obtain ⟨h1, h2⟩ := h
  refine ⟨h1, ?_⟩
  rcases h2 with h2 | ⟨g, cap, cur, hv, hg, r⟩
  · exact Or.inl h2
  · exact Or.inr ⟨g, cap, cur, hv, Nat.le_trans hB hg, r⟩

theorem NL.start (w : World) : NL ((w.alloc (.map #[] 0)).alloc (.cells #[.slice none 0 0, .map (some w.heap.size)] 115)) w.heap.size [] := by
  refine ⟨.slice none 0 0, ?_, World.ownsRow_nil _ _ _ _, .map [], (World.ownsMap_made w _ _ _).alloc _, fun x => by simp [DataW.atKey]⟩
  have := heap_new (w.alloc (.map #[] 0)) (.cells #[.slice none 0 0, .map (some w.heap.size)] 115)
  simpa using this

end Go.Proofs.YtdjoafnohkmneaaGreatDoor

namespace Go.Proofs.YtdjoafnohkmneaaGreatDoor
open Go.RowKit Go.WideMaps Go.Maps

set_option maxHeartbeats 400000
set_option maxRecDepth 100000

/-- The block b does not hold the row of the list at mb. -/
def NotRow (w : World) (mb b : Nat) : Prop := ∀ sv m T fr, w.heap[mb + 1]? = some (.cells #[sv, m] T fr) → sv.ownBlock ≠ some b
def ListPost2 (mb : Nat) (w : World) (ns : List (List UInt8)) (e : Ending) (w' : World) : Prop :=
  e = .returned (.tuple #[]) ∧ NL w' mb ns ∧ Below mb w w' ∧ ∀ b, mb + 2 ≤ b → b < w.heap.size → NotRow w mb b → NotRow w' mb b ∧ w'.heap[b]? = w.heap[b]?

theorem NL.notRow {w : World} {mb : Nat} {ns : List (List UInt8)} (h : NL w mb ns) {b : Nat} (hb : w.heap.size ≤ b) : NotRow w mb b := by
  obtain ⟨sv, h0, hr, _⟩ := h
  intro sv' m T fr hs e
  rw [h0] at hs
  injection hs with hs
  injection hs with hs _ _
  have hs' : sv = sv' := by
    have := congrArg (·[0]?) hs
    simpa using this
  rw [← hs'] at e
  have := (hr.lt b e).2
  omega

theorem add_new2 (w : World) (mb : Nat) (ns : List (List UInt8)) (n : List UInt8) (h : NL w mb ns) (hn : n ∉ ns) (hl : n.length ≤ maxLen) (hk : ns.length ≤ 1000000) :
    Calls Tryz.prog 175 #[.pointer (some ⟨mb + 1, 0, none⟩), str n] w fun e w' => ListPost2 mb w (ns ++ [n]) e w' := by
  obtain ⟨sv, h0, hr, D, hm, hD⟩ := h
  have c1 : w.cell? ⟨mb + 1, 1, none⟩ = some (.map (some mb)) := cell_of_heap h0
  have c0 : w.cell? ⟨mb + 1, 0, none⟩ = some sv := cell_of_heap h0
  have hrun := look_run hm hD n hl
  rw [show decide (n ∈ ns) = false by simpa using hn] at hrun
  obtain ⟨i0, hi, hz0, hz1, hz2⟩ := info_parts info_string
  have hun := Tryz.underlying52
  have hkey := key_str n hl
  have hmax : ns.length < maxLen := by unfold maxLen; omega
  have HMI := hm.isMap
  have HD := Lib.hid hD
  have H0 := Lib.hid h0
  have hlt0 := (Array.getElem?_eq_some_iff.1 h0).1
  clear hD h0
  go_enter Tryz.func175, Tryz.ntmps175
  go_wp2_with (at_mapUpdate; refine wpList_mapUpdate_own _ rfl _ _ _ 113 rfl 9 4 law_key Tryz.underlying113 _ mb _ _ rfl hm hmax _ _ _ rfl rfl hkey _ [] (plainElem_bool Tryz.underlying4 true) ?_)
  intro w1 hm1 hg1
  have h1 : w1.heap[mb + 1]? = some (.cells #[sv, .map (some mb)] 115 (0, 0)) := by
    rw [hg1.block _ (Array.getElem?_eq_some_iff.1 H0.out).1 (fun e => by injection e with e; omega)]; exact H0.out
  have d0 : w1.cell? ⟨mb + 1, 0, none⟩ = some sv := cell_of_heap h1
  have H1 := Lib.hid h1
  have hr1 := hr.kept hg1 (by
    cases hv : sv.ownBlock with
    | none => exact Or.inl rfl
    | some k => right; intro e; injection e with e; have := (hr.lt k hv).1; omega)
  have hsz : mb + 2 ≤ (w1.alloc (.cells #[str n] 9)).heap.size := by
    have := (Array.getElem?_eq_some_iff.1 h1).1
    simp; omega
  have hone : ∀ u ∈ [str n], u.oneCell' = true := by simp [Value.oneCell']
  have hm16 : (ns.length + 1) * 16 ≤ 140737488355328 := by omega
  have HR := Lib.hid hr1
  have HM := Lib.hid hm1
  have HG := Lib.hid hg1
  clear h1 hrun c0 c1 hr hr1 hm hm1 hg1
  go_wp2_with (at_builtin; refine wpList_append_own_at _ rfl _ _ 52 rfl (mb + 2) 9 i0 (.string ⟨#[]⟩) 1 16 hun hi hz0 hz1 hz2 rfl (by decide) _ _ _ rfl (World.ownsRow.alloc HR.out _) ⟨w1.heap.size, 0, none⟩ 1 1 [str n] rfl rfl (cell_one_new _ _ _) hone hmax hm16 hsz ?_; intro v2 w2 ho2 hg2 hiff hor2; clear hiff; have HOR := Lib.hid hor2; clear hor2; obtain ⟨ao, an, ac, rfl⟩ := own_slice ho2; have H2 := Lib.hid (list_kept H1.out HR.out hg2); have f0 := list_free H2.out; have e0 : w2.cell? ⟨mb + 1, 0, none⟩ = some sv := cell_of_heap H2.out; have HG2 : Hid ((w1.alloc (.cells #[str n] 9)).grownBy w2 sv.ownBlock) := Lib.hid hg2; have HO2 : Hid (w2.ownsRow (mb + 2) 9 1 (.slice ao an ac) (ns.length + 1) (ns.map str ++ [str n])) := Lib.hid ho2; clear hg2 ho2)
  go_end0
  have hs1 := HG.out.size
  refine ⟨rfl, ⟨.slice ao an ac, ?_, ?_, D.put (.string n) (.lit (.bool true)), ?_, ?_⟩, ?_, fun b hb1 hb2 hnr => ?_⟩
  · simp [World.setCell, Array.getElem?_modify, H2.out]
  · have := ownsRow_setCell_below HO2.out (a := ⟨mb + 1, 0, none⟩) (by simp) (.slice ao an ac)
    simpa using this
  · have h1 := (HM.out.alloc (.cells #[str n] 9)).kept HG2.out (by
      cases hv : sv.ownBlock with
      | none => simp
      | some k => intro e; injection e with e; have := (HR.out.lt k hv).1; omega)
    have := h1.setCell (a := ⟨mb + 1, 0, none⟩) (by simp) (.slice ao an ac)
    simpa using this
  · intro x
    by_cases hx : x = n
    · subst hx
      rw [atKey_put_same HMI (by trivial)]
      simp
    · rw [atKey_put_other (by intro e; injection e with e; exact hx e), HD.out]
      simp [hx]
  · exact ((((Below.refl mb w).grown HG.out (by omega) (fun k hk => by injection hk with hk; omega)).alloc (by omega) _).grown HG2.out (by omega) (fun k hk => by have := (HR.out.lt k hk).1; omega)).setCell (by simp) _
  · have hsb : sv.ownBlock ≠ some b := hnr sv _ _ _ H0.out
    have hh : (w2.setCell ⟨mb + 1, 0, none⟩ (.slice ao an ac)).heap[b]? = w.heap[b]? := by
      have e0 : mb + 1 ≠ b := by omega
      have h2 : w2.heap[b]? = (w1.alloc (.cells #[str n] 9)).heap[b]? := HG2.out.block b (by simp; omega) (fun e => hsb e.symm)
      rw [Below.heap_alloc _ _ _ (by omega), HG.out.block b hb2 (fun e => by injection e with e; omega)] at h2
      simp [World.setCell, Array.getElem?_modify, e0, h2]
    refine ⟨fun sv' m T fr hs e => ?_, hh⟩
    have h3 : (w2.setCell ⟨mb + 1, 0, none⟩ (.slice ao an ac)).heap[mb + 1]? = some (.cells #[.slice ao an ac, .map (some mb)] 115 (0, 0)) := by simp [World.setCell, Array.getElem?_modify, H2.out]
    rw [h3] at hs
    injection hs with hs
    injection hs with hs _ _
    have hs' : Value.slice ao an ac = sv' := by
      have := congrArg (·[0]?) hs
      simpa using this
    rw [← hs'] at e
    rcases HOR.out with h | h
    · exact hsb (h.symm.trans e)
    · rw [e] at h
      injection h with h
      simp at h
      omega

theorem add_any (w : World) (mb : Nat) (ns : List (List UInt8)) (n : List UInt8) (h : NL w mb ns) (hl : n.length ≤ maxLen) (hk : ns.length ≤ 1000000) :
    Calls Tryz.prog 175 #[.pointer (some ⟨mb + 1, 0, none⟩), str n] w (ListPost2 mb w (Fm.addN ns n)) := by
  by_cases hn : n ∈ ns
  · rw [Fm.addN_old hn]
    refine (add_old w mb ns n h hn hl).mono ?_
    rintro e w' ⟨rfl, rfl⟩
    exact ⟨rfl, h, Below.refl _ _, fun b _ _ hnr => ⟨hnr, rfl⟩⟩
  · rw [show Fm.addN ns n = ns ++ [n] from if_neg hn]
    exact add_new2 w mb ns n h hn hl hk
end Go.Proofs.YtdjoafnohkmneaaGreatDoor

namespace Go.Proofs.YtdjoafnohkmneaaGreatDoor
open Go.RowKit

set_option maxHeartbeats 2000000
set_option maxRecDepth 100000

theorem NL.box {w : World} {mb : Nat} {ns : List (List UInt8)} (h : NL w mb ns) (o : Obj) : NotRow (w.alloc o) mb w.heap.size := by
  have hlt := h.lt
  have := h.notRow (Nat.le_refl w.heap.size)
  intro sv m T fr hs
  rw [(below_new w o).block (mb + 1) (by omega)] at hs
  exact this sv m T fr hs
theorem NL.after {w w' : World} {mb : Nat} {ns : List (List UInt8)} (h : NL w mb ns) (ha : After w w') : NL w' mb ns := by
  obtain ⟨sv, h0, hr, D, hm, hD⟩ := h
  have hg : w.grownBy w' none := ⟨ha.os, ha.tape, ha.output, ha.size, fun k hk _ => ha.block k hk⟩
  exact ⟨sv, ha.heap h0, hr.kept hg (by cases sv.ownBlock with | none => exact Or.inl rfl | some k => exact Or.inr (by simp)), D, hm.kept hg (by simp), hD⟩

theorem below_less {n m : Nat} {w w' : World} (h : Below n w w') (hm : m ≤ n) : Below m w w' := ⟨h.os, h.tape, h.output, h.size, fun b hb => h.block b (by omega)⟩

/-- The value answers the method m of lists: it adds these names. -/
def LFOk (m : String) (w : World) (mb : Nat) (v : Value) (oc : List (List UInt8)) (N : Nat) : Prop :=
  ∃ T x f y, v = .iface T x ∧ (∀ W, (method 335 T x m).run Tryz.prog W = .ok (f, y) W) ∧ (∀ args w', (callFunc f args).run Tryz.prog w' = .ok (.enter f args) w') ∧
    ∀ W, Below mb w W → ∀ ns, NL W mb ns → ns.length + N ≤ 1000000 → Calls Tryz.prog f #[y, .pointer (some ⟨mb + 1, 0, none⟩)] W (ListPost2 mb W (Fm.addA ns oc))

theorem post_same {w : World} {mb : Nat} {ns : List (List UInt8)} (h : NL w mb ns) {w' : World} (ha : After w w') (hlt : mb ≤ w.heap.size) : ListPost2 mb w (Fm.addA ns []) (.returned (.tuple #[])) w' :=
  ⟨rfl, h.after ha, below_less ha hlt, fun b _ hb hnr => ⟨fun sv m T fr hs => by
    have := h.lt
    rw [ha.block (mb + 1) (by omega)] at hs
    exact hnr sv m T fr hs, ha.block b hb⟩⟩

theorem num_list (W : World) (n : Int) (p : Value) : Calls Tryz.prog 143 #[.int .i64 n, p] W fun e w' => e = .returned (.tuple #[]) ∧ After W w' := by
  go_enter Tryz.func143, Tryz.ntmps143
  go_wp2_with fail
  go_end0
  exact ⟨rfl, by repeat (first | exact After.refl _ | refine After.alloc ?_ _)⟩
theorem top_list (W : World) (p : Value) : Calls Tryz.prog 151 #[.agg #[], p] W fun e w' => e = .returned (.tuple #[]) ∧ After W w' := by
  go_enter Tryz.func151, Tryz.ntmps151
  go_wp2_with fail
  go_end0
  exact ⟨rfl, by repeat (first | exact After.refl _ | refine After.alloc ?_ _)⟩
theorem bot_list (W : World) (p : Value) : Calls Tryz.prog 184 #[.agg #[], p] W fun e w' => e = .returned (.tuple #[]) ∧ After W w' := by
  go_enter Tryz.func184, Tryz.ntmps184
  go_wp2_with fail
  go_end0
  exact ⟨rfl, by repeat (first | exact After.refl _ | refine After.alloc ?_ _)⟩
theorem var_list (W : World) (mb : Nat) (x : List UInt8) (ns : List (List UInt8)) (h : NL W mb ns) (hl : x.length ≤ maxLen) (hk : ns.length ≤ 1000000) :
    Calls Tryz.prog 188 #[str x, .pointer (some ⟨mb + 1, 0, none⟩)] W (ListPost2 mb W (Fm.addA ns [x])) := by
  have k := add_any W mb ns x h hl hk
  rw [Fm.addA_one]
  unfold ListPost2 at *
  clear h
  go_enter Tryz.func188, Tryz.ntmps188
  go_wp2_with fail
  refine k.mono ?_
  rintro e w' ⟨rfl, h1, h2, h3⟩
  have H1 := Lib.hid h1
  have H3 := Lib.hid h3
  clear k h1 h3
  go_wp2_with fail
  go_end0
  exact ⟨rfl, H1.out, h2, H3.out⟩

theorem equality_list (w W : World) (mb : Nat) (T1 T2 : TypeId) (x1 x2 : Value) (oc od : List (List UInt8)) (N M : Nat) (ns : List (List UInt8)) (hW : Below mb w W) (h1 : LFOk "loop.example/realizers/impl.listNames" w mb (.iface T1 x1) oc N) (h2 : LFOk "loop.example/realizers/impl.listNames" w mb (.iface T2 x2) od M)
    (hn : NL W mb ns) (hl : ns.length + (N + M) ≤ 1000000) (hN : oc.length ≤ N) :
    Calls Tryz.prog 156 #[.agg #[.iface T1 x1, .iface T2 x2], .pointer (some ⟨mb + 1, 0, none⟩)] W (ListPost2 mb W (Fm.addA ns (oc ++ od))) := by
  rw [Fm.addA_app]
  obtain ⟨_, _, f1, y1, e0, m1, n1, d1⟩ := h1
  injection e0 with ea eb
  subst ea; subst eb
  obtain ⟨_, _, f2, y2, e0, m2, n2, d2⟩ := h2
  injection e0 with ea eb
  subst ea; subst eb
  obtain ⟨X, hX⟩ : ∃ X, X = W.alloc (.cells #[.iface T1 x1, .iface T2 x2] 88) := ⟨_, rfl⟩
  have hlt := hn.lt
  have hXn : NL X mb ns := by rw [hX]; exact hn.alloc _
  have hXb : Below mb w X := by rw [hX]; exact hW.alloc (by have := hn.lt; omega) _
  have hXW : Below mb W X := by rw [hX]; exact (Below.refl _ _).alloc (by omega) _
  have hXh : X.heap[W.heap.size]? = some (.cells #[.iface T1 x1, .iface T2 x2] 88 (0, 0)) := by rw [hX]; exact heap_new' _ _
  have hXs : X.heap.size = W.heap.size + 1 := by rw [hX]; simp
  have hXr : NotRow X mb W.heap.size := by rw [hX]; exact hn.box _
  have hXo : ∀ b, b < W.heap.size → X.heap[b]? = W.heap[b]? := fun b hb => by rw [hX]; exact (below_new W _).block b hb
  have hlen := Fm.addA_len oc ns
  have c0 : X.cell? ⟨W.heap.size, 0, none⟩ = some (.iface T1 x1) := cell_of_heap (i := 0) hXh
  have k1 := d1 X hXb ns hXn (by omega)
  unfold ListPost2 at k1
  generalize Fm.addA ns oc = n1' at *
  have HW := Lib.hid hXW
  have HB := Lib.hid hXb
  have HH := Lib.hid hXh
  have HS := Lib.hid hXs
  have HR := Lib.hid hXr
  have HO := Lib.hid hXo
  have HX := Lib.hid hX
  clear hXn hXb hXW hXh hXs hXr hXo d1 hn hW
  go_enter Tryz.func156, Tryz.ntmps156
  clear hX
  go_wp2_with fail
  rw [← HX.out]
  refine k1.mono ?_
  rintro e w2 ⟨rfl, hn2, hb2, hk2⟩
  obtain ⟨hr2, hh2⟩ := hk2 W.heap.size (by omega) (by rw [HS.out]; omega) HR.out
  have c1 : w2.cell? ⟨W.heap.size, 1, none⟩ = some (.iface T2 x2) := cell_of_heap (i := 1) (hh2.trans HH.out)
  have k2 := d2 w2 (HB.out.trans hb2) n1' hn2 (by omega)
  unfold ListPost2 at k2
  have HK2 := Lib.hid hk2
  have HB2 := Lib.hid hb2
  clear k1 hk2 hb2 hr2 hh2 hn2 d2
  go_wp2_with fail
  refine k2.mono ?_
  rintro e w3 ⟨rfl, hn3, hb3, hk3⟩
  have HN3 := Lib.hid hn3
  have HB3 := Lib.hid hb3
  have HK3 := Lib.hid hk3
  clear k2 hk3 hb3 hn3
  go_wp2_with fail
  go_end0
  refine ⟨rfl, HN3.out, (HW.out.trans HB2.out).trans HB3.out, fun b hb1 hb2 hnr => ?_⟩
  have hX1 : NotRow X mb b := fun sv m T fr hs => hnr sv m T fr ((HO.out (mb + 1) (by omega)).symm.trans hs)
  have hX2 : b < X.heap.size := by rw [HS.out]; omega
  obtain ⟨q1, q2⟩ := HK2.out b hb1 hX2 hX1
  have hlt2 : b < w2.heap.size := Nat.lt_of_lt_of_le hX2 HB2.out.size
  obtain ⟨q3, q4⟩ := HK3.out b hb1 hlt2 q1
  exact ⟨q3, q4.trans (q2.trans (HO.out b hb2))⟩

theorem joined_list (w W : World) (mb : Nat) (T1 T2 : TypeId) (x1 x2 : Value) (oc od : List (List UInt8)) (N M : Nat) (ns : List (List UInt8)) (hW : Below mb w W) (h1 : LFOk "loop.example/realizers/impl.listFree" w mb (.iface T1 x1) oc N) (h2 : LFOk "loop.example/realizers/impl.listFree" w mb (.iface T2 x2) od M)
    (hn : NL W mb ns) (hl : ns.length + (N + M) ≤ 1000000) (hN : oc.length ≤ N) :
    Calls Tryz.prog 161 #[.agg #[.iface T1 x1, .iface T2 x2], .pointer (some ⟨mb + 1, 0, none⟩)] W (ListPost2 mb W (Fm.addA ns (oc ++ od))) := by
  rw [Fm.addA_app]
  obtain ⟨_, _, f1, y1, e0, m1, n1, d1⟩ := h1
  injection e0 with ea eb
  subst ea; subst eb
  obtain ⟨_, _, f2, y2, e0, m2, n2, d2⟩ := h2
  injection e0 with ea eb
  subst ea; subst eb
  obtain ⟨X, hX⟩ : ∃ X, X = W.alloc (.cells #[.iface T1 x1, .iface T2 x2] 90) := ⟨_, rfl⟩
  have hlt := hn.lt
  have hXn : NL X mb ns := by rw [hX]; exact hn.alloc _
  have hXb : Below mb w X := by rw [hX]; exact hW.alloc (by have := hn.lt; omega) _
  have hXW : Below mb W X := by rw [hX]; exact (Below.refl _ _).alloc (by omega) _
  have hXh : X.heap[W.heap.size]? = some (.cells #[.iface T1 x1, .iface T2 x2] 90 (0, 0)) := by rw [hX]; exact heap_new' _ _
  have hXs : X.heap.size = W.heap.size + 1 := by rw [hX]; simp
  have hXr : NotRow X mb W.heap.size := by rw [hX]; exact hn.box _
  have hXo : ∀ b, b < W.heap.size → X.heap[b]? = W.heap[b]? := fun b hb => by rw [hX]; exact (below_new W _).block b hb
  have hlen := Fm.addA_len oc ns
  have c0 : X.cell? ⟨W.heap.size, 0, none⟩ = some (.iface T1 x1) := cell_of_heap (i := 0) hXh
  have k1 := d1 X hXb ns hXn (by omega)
  unfold ListPost2 at k1
  generalize Fm.addA ns oc = n1' at *
  have HW := Lib.hid hXW
  have HB := Lib.hid hXb
  have HH := Lib.hid hXh
  have HS := Lib.hid hXs
  have HR := Lib.hid hXr
  have HO := Lib.hid hXo
  have HX := Lib.hid hX
  clear hXn hXb hXW hXh hXs hXr hXo d1 hn hW
  go_enter Tryz.func161, Tryz.ntmps161
  clear hX
  go_wp2_with fail
  rw [← HX.out]
  refine k1.mono ?_
  rintro e w2 ⟨rfl, hn2, hb2, hk2⟩
  obtain ⟨hr2, hh2⟩ := hk2 W.heap.size (by omega) (by rw [HS.out]; omega) HR.out
  have c1 : w2.cell? ⟨W.heap.size, 1, none⟩ = some (.iface T2 x2) := cell_of_heap (i := 1) (hh2.trans HH.out)
  have k2 := d2 w2 (HB.out.trans hb2) n1' hn2 (by omega)
  unfold ListPost2 at k2
  have HK2 := Lib.hid hk2
  have HB2 := Lib.hid hb2
  clear k1 hk2 hb2 hr2 hh2 hn2 d2
  go_wp2_with fail
  refine k2.mono ?_
  rintro e w3 ⟨rfl, hn3, hb3, hk3⟩
  have HN3 := Lib.hid hn3
  have HB3 := Lib.hid hb3
  have HK3 := Lib.hid hk3
  clear k2 hk3 hb3 hn3
  go_wp2_with fail
  go_end0
  refine ⟨rfl, HN3.out, (HW.out.trans HB2.out).trans HB3.out, fun b hb1 hb2 hnr => ?_⟩
  have hX1 : NotRow X mb b := fun sv m T fr hs => hnr sv m T fr ((HO.out (mb + 1) (by omega)).symm.trans hs)
  have hX2 : b < X.heap.size := by rw [HS.out]; omega
  obtain ⟨q1, q2⟩ := HK2.out b hb1 hX2 hX1
  have hlt2 : b < w2.heap.size := Nat.lt_of_lt_of_le hX2 HB2.out.size
  obtain ⟨q3, q4⟩ := HK3.out b hb1 hlt2 q1
  exact ⟨q3, q4.trans (q2.trans (HO.out b hb2))⟩

theorem cell_of_heap2 {w w' : World} {b i : Nat} {cs : Array Value} {T : TypeId} {fr : Nat × Nat} {v : Value} (hs : w'.heap[b]? = w.heap[b]?) (hh : w.heap[b]? = some (.cells cs T fr)) (hc : cs[i]? = some v) : w'.cell? ⟨b, i, none⟩ = some v := by
  unfold World.cell?
  rw [hs, hh]
  exact hc

/-- An operation lists its parts one after the other. -/
theorem op_list (w W : World) (mb : Nat) (wd : List UInt8) (b K cap : Nat) (cs : Array Value) (fr : Nat × Nat) (ocs : List (List (List UInt8))) (Ns : List Nat) (ns : List (List UInt8)) (hW : Below mb w W) (hn : NL W mb ns)
    (hb : b < mb) (hh : w.heap[b]? = some (.cells cs 55 fr)) (hK : ocs.length = K) (hK2 : K ≤ 1000)
    (hx : ∀ j, j < K → ∃ T x, cs[j]? = some (.iface T x) ∧ LFOk "loop.example/realizers/impl.listNames" w mb (.iface T x) (ocs.getD j []) (Ns.getD j 0))
    (hl : ∀ j, j < K → ns.length + (ocs.take j).flatten.length + Ns.getD j 0 ≤ 1000000) :
    Calls Tryz.prog 192 #[.agg #[str wd, .slice (some ⟨b, 0, none⟩) K cap], .pointer (some ⟨mb + 1, 0, none⟩)] W (ListPost2 mb W (Fm.addA ns ocs.flatten)) := by
  obtain ⟨X, hX⟩ : ∃ X, X = W.alloc (.cells #[str wd, .slice (some ⟨b, 0, none⟩) K cap] 123) := ⟨_, rfl⟩
  have hlt := hn.lt
  have hXn : NL X mb ns := by rw [hX]; exact hn.alloc _
  have hXW : Below mb W X := by rw [hX]; exact (Below.refl _ _).alloc (by omega) _
  have hXh : X.heap[W.heap.size]? = some (.cells #[str wd, .slice (some ⟨b, 0, none⟩) K cap] 123 (0, 0)) := by rw [hX]; exact heap_new' _ _
  have hXs : X.heap.size = W.heap.size + 1 := by rw [hX]; simp
  have hXo : ∀ b, b < W.heap.size → X.heap[b]? = W.heap[b]? := fun b hb => by rw [hX]; exact (below_new W _).block b hb
  have c1 : X.cell? ⟨W.heap.size, 1, none⟩ = some (.slice (some ⟨b, 0, none⟩) K cap) := cell_of_heap (i := 1) hXh
  have HW := Lib.hid hXW
  have HWW := Lib.hid hW
  have HN := Lib.hid hXn
  have HS := Lib.hid hXs
  have HO := Lib.hid hXo
  have HX := Lib.hid hX
  have HH := Lib.hid hh
  have HP := Lib.hid hx
  have HL := Lib.hid hl
  have HKE := Lib.hid hK
  clear hXn hXW hXh hXs hXo hn hW hh hx hl hK
  go_enter Tryz.func192, Tryz.ntmps192
  clear hX
  go_wp2_with fail
  rw [← HX.out]
  clear c1
  go_loopw [9] (fun i wr => ∃ k : Nat, i = .int .i64 k ∧ k ≤ K ∧ NL wr mb (Fm.addA ns (ocs.take k).flatten) ∧ Below mb X wr ∧ ∀ b, mb + 2 ≤ b → b < X.heap.size → NotRow X mb b → NotRow wr mb b ∧ wr.heap[b]? = X.heap[b]?) (fun i _ => K - (intOf i).toNat)
  case atStart => exact ⟨0, rfl, Nat.zero_le _, HN.out, Below.refl _ _, fun b _ _ h => ⟨h, rfl⟩⟩
  case round =>
    obtain ⟨k, rfl, hk, hn, hB, hkeep⟩ := hrel
    have hXl : W.heap.size < X.heap.size := by rw [HS.out]; omega
    by_cases hlt : k < K
    · have hlti : (k : Int) < (K : Int) := by omega
      obtain ⟨T, x, hc, hok⟩ := HP.out k hlt
      obtain ⟨_, _, f1, y1, e0, m1, n1, d1⟩ := hok
      injection e0 with ea eb
      subst ea; subst eb
      have p0 : wr.cell? ⟨b, k, none⟩ = some (.iface T x) := cell_of_heap2 (((HWW.out.trans HW.out).trans hB).block b hb) HH.out hc
      have hlen := Fm.addA_len (ocs.take k).flatten ns
      have hcall := d1 wr ((HWW.out.trans HW.out).trans hB) _ hn (by have := HL.out k hlt; omega)
      have hnext : Fm.addA (Fm.addA ns (ocs.take k).flatten) (ocs.getD k []) = Fm.addA ns (ocs.take (k + 1)).flatten := by
        have hk' : k < ocs.length := by rw [HKE.out]; exact hlt
        rw [List.take_succ_eq_append_getElem hk', List.flatten_append, Fm.addA_app]
        simp [List.getD, hk']
      rw [hnext] at hcall
      unfold ListPost2 at hcall
      have HKP := Lib.hid hkeep
      clear hlen hnext hn hkeep hc d1
      go_wp2_with fail
      refine hcall.mono ?_
      rintro e w4 ⟨rfl, hn4, hb4, hk4⟩
      have HN4 := Lib.hid hn4
      have HK4 := Lib.hid hk4
      clear hcall hn4 hk4
      go_wp2_with fail
      go_roundw
      case rel =>
        refine ⟨k + 1, by go_num, by omega, HN4.out, hB.trans hb4, fun b h1 h2 h3 => ?_⟩
        obtain ⟨q1, q2⟩ := HKP.out b h1 h2 h3
        obtain ⟨q3, q4⟩ := HK4.out b h1 (Nat.lt_of_lt_of_le h2 hB.size) q1
        exact ⟨q3, q4.trans q2⟩
      case measure => simp [intOf]; omega
    · obtain rfl : k = K := by omega
      have hall : ocs.take k = ocs := List.take_of_length_le (by rw [HKE.out]; omega)
      rw [hall] at hn
      have HNN := Lib.hid hn
      have HKP := Lib.hid hkeep
      clear hn hkeep
      go_wp2_with fail
      go_end0
      refine ⟨rfl, HNN.out, HW.out.trans hB, fun b h1 h2 h3 => ?_⟩
      have hX1 : NotRow X mb b := fun sv m T fr hs => h3 sv m T fr ((HO.out (mb + 1) (by omega)).symm.trans hs)
      obtain ⟨q1, q2⟩ := HKP.out b h1 (by rw [HS.out]; omega) hX1
      exact ⟨q1, q2.trans (HO.out b h2)⟩

theorem EV.lf {w : World} {B mb : Nat} (hmb : w.heap.size ≤ mb) : ∀ {e : Ex} {v : Value}, EV w B e v → Fm.exOk e → Fm.exAtoms e ≤ 1000 → LFOk "loop.example/realizers/impl.listNames" w mb v (Fm.occE e) (Fm.exAtoms e)
  | .num n, _, h, _, _ => ⟨_, _, 143, .int .i64 (n : Nat), h, fun _ => by kernel_rfl, fun _ _ => by kernel_rfl, fun W hW ns hn _ => (num_list W n _).mono fun e w' h => by
      rw [h.1]; exact post_same hn h.2 (by have := hn.lt; omega)⟩
  | .var x, _, h, ho, _ => ⟨_, _, 188, str x, h, fun _ => by kernel_rfl, fun _ _ => by kernel_rfl, fun W hW ns hn hl => var_list W mb x ns hn (by have := (Fm.name_len4 (x := x) ho).1; unfold maxLen; omega) (by simp only [Fm.exAtoms] at hl; omega)⟩
  | .suc e, _, ⟨b, cap, cs, fr, x, h, hB, hh, k0, h0⟩, ho, ha => by
    have he := EV.lf hmb h0 ho (by simp only [Fm.exAtoms] at ha; omega)
    have hbl := (Array.getElem?_eq_some_iff.1 hh).1
    obtain ⟨T, x', rfl⟩ := h0.form
    refine ⟨_, _, 192, .agg #[str Fm.wSuc, .slice (some ⟨b, 0, none⟩) 1 cap], h, fun _ => by kernel_rfl, fun _ _ => by kernel_rfl, fun W hW ns hn hl => ?_⟩
    have := op_list w W mb Fm.wSuc b 1 cap cs fr [Fm.occE e] [Fm.exAtoms e] ns hW hn (by omega) hh rfl (by omega) (fun j hj => by
      obtain rfl : j = 0 := by omega
      exact ⟨_, _, k0, he⟩) (fun j hj => by
      obtain rfl : j = 0 := by omega
      simp only [Fm.exAtoms] at hl
      simp; omega)
    simpa [Fm.occE] using this
  | .add a c, _, ⟨b, cap, cs, fr, x, y, h, hB, hh, k0, k1, h0, h1⟩, ho, ha => by
    have he := EV.lf hmb h0 ho.1 (by simp only [Fm.exAtoms] at ha; omega)
    have hf := EV.lf hmb h1 ho.2 (by simp only [Fm.exAtoms] at ha; omega)
    have hbl := (Array.getElem?_eq_some_iff.1 hh).1
    obtain ⟨T, x', rfl⟩ := h0.form
    obtain ⟨T2, x2', rfl⟩ := h1.form
    refine ⟨_, _, 192, .agg #[str Fm.wAdd, .slice (some ⟨b, 0, none⟩) 2 cap], h, fun _ => by kernel_rfl, fun _ _ => by kernel_rfl, fun W hW ns hn hl => ?_⟩
    have := op_list w W mb Fm.wAdd b 2 cap cs fr [Fm.occE a, Fm.occE c] [Fm.exAtoms a, Fm.exAtoms c] ns hW hn (by omega) hh rfl (by omega) (fun j hj => by
      match j, hj with
      | 0, _ => exact ⟨_, _, k0, he⟩
      | 1, _ => exact ⟨_, _, k1, hf⟩) (fun j hj => by
      have := Fm.occE_len a
      simp only [Fm.exAtoms] at hl
      match j, hj with
      | 0, _ => simp; omega
      | 1, _ => simp; omega)
    simpa [Fm.occE] using this
  | .mul a c, _, ⟨b, cap, cs, fr, x, y, h, hB, hh, k0, k1, h0, h1⟩, ho, ha => by
    have he := EV.lf hmb h0 ho.1 (by simp only [Fm.exAtoms] at ha; omega)
    have hf := EV.lf hmb h1 ho.2 (by simp only [Fm.exAtoms] at ha; omega)
    have hbl := (Array.getElem?_eq_some_iff.1 hh).1
    obtain ⟨T, x', rfl⟩ := h0.form
    obtain ⟨T2, x2', rfl⟩ := h1.form
    refine ⟨_, _, 192, .agg #[str Fm.wMul, .slice (some ⟨b, 0, none⟩) 2 cap], h, fun _ => by kernel_rfl, fun _ _ => by kernel_rfl, fun W hW ns hn hl => ?_⟩
    have := op_list w W mb Fm.wMul b 2 cap cs fr [Fm.occE a, Fm.occE c] [Fm.exAtoms a, Fm.exAtoms c] ns hW hn (by omega) hh rfl (by omega) (fun j hj => by
      match j, hj with
      | 0, _ => exact ⟨_, _, k0, he⟩
      | 1, _ => exact ⟨_, _, k1, hf⟩) (fun j hj => by
      have := Fm.occE_len a
      simp only [Fm.exAtoms] at hl
      match j, hj with
      | 0, _ => simp; omega
      | 1, _ => simp; omega)
    simpa [Fm.occE] using this
end Go.Proofs.YtdjoafnohkmneaaGreatDoor

namespace Go.Proofs.YtdjoafnohkmneaaGreatDoor
open Go.RowKit

set_option maxHeartbeats 2000000
set_option maxRecDepth 100000

/-- What freeNames hands back. -/
def FNPost (w : World) (oc : List (List UInt8)) (e : Ending) (w' : World) : Prop :=
  ∃ sv, e = .returned sv ∧ After w w' ∧ w'.ownsRow w.heap.size 9 1 sv (Fm.addA [] oc).length ((Fm.addA [] oc).map str)

theorem freeNames_of (w : World) (v : Value) (oc : List (List UInt8)) (N : Nat) (h : LFOk "loop.example/realizers/impl.listFree" w w.heap.size v oc N) (hN : N ≤ 1000) :
    Calls Tryz.prog 62 #[v] w (FNPost w oc) := by
  obtain ⟨T1, x1, f1, y1, rfl, m1, n1, c1⟩ := h
  have hmm := @run_makeMap Tryz.prog
  have hst := NL.start w
  have hb1 : Below w.heap.size w ((w.alloc (.map #[] 0)).alloc (.cells #[.slice none 0 0, .map (some w.heap.size)] 115)) := ((Below.refl _ _).alloc (Nat.le_refl _) _).alloc (by simp) _
  have HS := Lib.hid hst
  clear hst
  go_enter Tryz.func62, Tryz.ntmps62
  go_wp2_with fail
  refine (c1 _ hb1 _ HS.out (by simp; omega)).mono ?_
  rintro e w1 ⟨rfl, hn1, hb2, _⟩
  obtain ⟨sv, h0, hr, _⟩ := hn1
  obtain ⟨ao, an, ac, rfl⟩ := own_slice hr
  have d0 : w1.cell? ⟨w.heap.size + 1, 0, none⟩ = some (.slice ao an ac) := cell_of_heap h0
  have HR := Lib.hid (ownsRow_base hr (B' := w.heap.size) (by omega))
  clear hr h0
  go_wp2_with fail
  go_ret
  exact ⟨_, rfl, hb1.trans hb2, HR.out⟩

theorem filt_next (L : List (List UInt8)) (x : List UInt8) (k : Nat) (hk : k < L.length) : (L.take (k + 1)).filter (fun y => decide (y ≠ x)) = (L.take k).filter (fun y => decide (y ≠ x)) ++ (if L[k] = x then [] else [L[k]]) := by
  rw [List.take_succ_eq_append_getElem hk, List.filter_append]
  congr 1
  by_cases h : L[k] = x <;> simp [h]

theorem row_at {w : World} {mb : Nat} {ns : List (List UInt8)} (h : NL w mb ns) (o : Obj) : ∀ sv m T fr, (w.alloc o).heap[mb + 1]? = some (.cells #[sv, m] T fr) → ∀ b, sv.ownBlock = some b → b < w.heap.size := by
  intro sv m T fr hs b e
  by_cases hb : b < w.heap.size
  · exact hb
  · have hlt := h.lt
    rw [(below_new w o).block (mb + 1) (by omega)] at hs
    exact absurd e (h.notRow (b := b) (by omega) sv m T fr hs)

/-- all and ex list what their body lists, but for the name that they bind. -/
theorem bound_list (w W : World) (mb : Nat) (x : List UInt8) (m : Int) (T : TypeId) (z : Value) (oc : List (List UInt8)) (ns : List (List UInt8)) (hW : Below mb w W) (hn : NL W mb ns)
    (hf : ∀ W, Below mb w W → mb ≤ W.heap.size → Calls Tryz.prog 62 #[.iface T z] W (FNPost W oc)) (hok : ∀ y ∈ oc, Tm.nameOk y = true) (hl : ns.length + oc.length ≤ 1000000) :
    Calls Tryz.prog 173 #[.agg #[str x, .int .i64 m, .iface T z], .pointer (some ⟨mb + 1, 0, none⟩)] W (ListPost2 mb W (Fm.addA ns (oc.filter fun y => decide (y ≠ x)))) := by
  obtain ⟨X, hX⟩ : ∃ X, X = W.alloc (.cells #[str x, .int .i64 m, .iface T z] 96) := ⟨_, rfl⟩
  have hlt := hn.lt
  have hrow0 : ∀ sv m T fr, X.heap[mb + 1]? = some (.cells #[sv, m] T fr) → ∀ b, sv.ownBlock = some b → b < W.heap.size := by
    rw [hX]
    exact row_at hn _
  have hXn : NL X mb ns := by rw [hX]; exact hn.alloc _
  have hXb : Below mb w X := by rw [hX]; exact hW.alloc (by omega) _
  have hXW : Below mb W X := by rw [hX]; exact (Below.refl _ _).alloc (by omega) _
  have hXh : X.heap[W.heap.size]? = some (.cells #[str x, .int .i64 m, .iface T z] 96 (0, 0)) := by rw [hX]; exact heap_new' _ _
  have hXs : X.heap.size = W.heap.size + 1 := by rw [hX]; simp
  have hXo : ∀ b, b < W.heap.size → X.heap[b]? = W.heap[b]? := fun b hb => by rw [hX]; exact (below_new W _).block b hb
  have c2 : X.cell? ⟨W.heap.size, 2, none⟩ = some (.iface T z) := cell_of_heap (i := 2) hXh
  have k1 := hf X hXb (by rw [hXs]; omega)
  unfold FNPost at k1
  obtain ⟨L, hL⟩ : ∃ L, L = Fm.addA [] oc := ⟨_, rfl⟩
  have hres : Fm.addA ns (oc.filter fun y => decide (y ≠ x)) = Fm.addA ns (L.filter fun y => decide (y ≠ x)) := by rw [hL]; exact (Fm.addA_filter _ _ _).symm
  have hLok : ∀ y ∈ L, Tm.nameOk y = true := fun y hy => by rw [hL, Fm.mem_addA] at hy; exact hok y (hy.resolve_left (by simp))
  have hLl : L.length ≤ oc.length := by rw [hL]; have := Fm.addA_len oc []; simpa using this
  rw [← hL] at k1
  rw [hres]
  have HW := Lib.hid hXW
  have HN := Lib.hid hXn
  have HS := Lib.hid hXs
  have HO := Lib.hid hXo
  have HX := Lib.hid hX
  have HH := Lib.hid hXh
  have HOK := Lib.hid hLok
  have HLL := Lib.hid hLl
  have HRW := Lib.hid hrow0
  clear hXn hXb hXW hXh hXs hXo hn hW hf hok hL hres hLok hLl hrow0
  go_enter Tryz.func173, Tryz.ntmps173
  clear hX
  go_wp2_with fail
  rw [← HX.out]
  refine k1.mono ?_
  rintro e w2 ⟨sv, rfl, ha2, ho2⟩
  clear k1 c2
  have hn2 : NL w2 mb ns := HN.out.after ha2
  have hstr := ownsRow_strs ho2
  obtain ⟨ao, cap, rfl⟩ := own_slice_len ho2
  have HA2 := Lib.hid ha2
  have HN2 := Lib.hid hn2
  have HO2 := Lib.hid ho2
  have HST := Lib.hid hstr
  have HX2 : Hid (w2.heap[W.heap.size]? = some (.cells #[str x, .int .i64 m, .iface T z] 96 (0, 0))) := ha2.heap HH.out
  have HNR : Hid (∀ b, W.heap.size ≤ b → NotRow w2 mb b) := fun b hb sv m' T fr hs => by
    rw [ha2.block (mb + 1) (by rw [HS.out]; omega)] at hs
    exact fun e => by have := HRW.out sv m' T fr hs b e; omega
  clear hn2 ho2 hstr ha2
  go_wp2_with fail
  go_loopw [10] (fun i wr => ∃ k : Nat, i = .int .i64 k ∧ k ≤ L.length ∧ NL wr mb (Fm.addA ns ((L.take k).filter fun y => decide (y ≠ x))) ∧ Below mb w2 wr ∧ ∀ b, mb + 2 ≤ b → b < w2.heap.size → NotRow w2 mb b → NotRow wr mb b ∧ wr.heap[b]? = w2.heap[b]?) (fun i _ => L.length - (intOf i).toNat)
  case atStart => exact ⟨0, rfl, Nat.zero_le _, HN2.out, Below.refl _ _, fun b _ _ h => ⟨h, rfl⟩⟩
  case round =>
    obtain ⟨k, rfl, hk, hn, hB, hkeep⟩ := hrel
    have hLb : L.length ≤ 1000000 := by have := HLL.out; omega
    by_cases hlt2 : k < L.length
    · have hlti : (k : Int) < (L.length : Int) := by omega
      rcases HST.out with ⟨e, e0⟩ | ⟨b, off, cap', e, hc⟩
      · rw [e0] at hlt2; simp at hlt2
      injection e with e1 e2 e3
      subst e1
      subst e3
      clear e2
      have hg := HO2.out.lt b rfl
      obtain ⟨q1, q2⟩ := hkeep b (by have := HS.out; omega) hg.2 (HNR.out b (by have := HS.out; omega))
      have p0 : wr.cell? ⟨b, off + k, none⟩ = some (str L[k]) := by
        have := hc k hlt2
        unfold World.cell? at this ⊢
        rw [q2]
        exact this
      obtain ⟨q3, q4⟩ := hkeep W.heap.size (by omega) (by have := HA2.out.size; have := HS.out; omega) (HNR.out _ (Nat.le_refl _))
      have p1 : wr.cell? ⟨W.heap.size, 0, none⟩ = some (str x) := cell_of_heap (i := 0) (q4.trans HX2.out)
      have hnext := filt_next L x k hlt2
      have hlen := Fm.addA_len ((L.take k).filter fun y => decide (y ≠ x)) ns
      have hlen2 : ((L.take k).filter fun y => decide (y ≠ x)).length ≤ k := by
        have h1 := List.length_filter_le (fun y => decide (y ≠ x)) (L.take k)
        have h2 := List.length_take_le k L
        omega
      have hyok := HOK.out L[k] (List.getElem_mem hlt2)
      have HNX := Lib.hid hnext
      have HKP := Lib.hid hkeep
      clear hnext hc q1 q2 q3 q4 hkeep
      generalize L[k] = y at *
      by_cases hy : y = x
      · subst hy
        have HNN : Hid (NL wr mb (Fm.addA ns ((L.take (k + 1)).filter fun y' => decide (y' ≠ y)))) := by
          show NL _ _ _
          rw [HNX.out, if_pos rfl, List.append_nil]
          exact hn
        clear hn hlen hlen2
        go_wp2_with fail
        go_roundw
        case rel => exact ⟨k + 1, by go_num, by omega, HNN.out, hB, HKP.out⟩
        case measure => simp [intOf]; omega
      · have hne : (y == x) = false := beq_eq_false_iff_ne.2 hy
        have hadd := add_any wr mb _ y hn (by have := (Fm.name_len4 (x := y) hyok).1; unfold maxLen; omega) (by have := HLL.out; omega)
        have hnx : Fm.addN (Fm.addA ns ((L.take k).filter fun y => decide (y ≠ x))) y = Fm.addA ns ((L.take (k + 1)).filter fun y => decide (y ≠ x)) := by
          rw [HNX.out, if_neg hy, Fm.addA_app, Fm.addA_one]
        rw [hnx] at hadd
        unfold ListPost2 at hadd
        clear hn hlen hlen2 hy hnx
        go_wp2_with fail
        refine hadd.mono ?_
        rintro e w4 ⟨rfl, hn4, hb4, hk4⟩
        have HN4 := Lib.hid hn4
        have HK4 := Lib.hid hk4
        clear hadd hn4 hk4
        go_wp2_with fail
        go_roundw
        case rel =>
          refine ⟨k + 1, by go_num, by omega, HN4.out, hB.trans hb4, fun b h1 h2 h3 => ?_⟩
          obtain ⟨q1, q2⟩ := HKP.out b h1 h2 h3
          obtain ⟨q3, q4⟩ := HK4.out b h1 (Nat.lt_of_lt_of_le h2 hB.size) q1
          exact ⟨q3, q4.trans q2⟩
        case measure => simp [intOf]; omega
    · obtain rfl : k = L.length := by omega
      rw [List.take_length] at hn
      have HNN := Lib.hid hn
      have HKP := Lib.hid hkeep
      clear hn hkeep
      go_wp2_with fail
      go_end0
      refine ⟨rfl, HNN.out, (HW.out.trans (below_less HA2.out (by have := HS.out; omega))).trans hB, fun b h1 h2 h3 => ?_⟩
      have hlt3 : b < X.heap.size := by rw [HS.out]; omega
      have hX1 : NotRow w2 mb b := fun sv m T fr hs => by
        rw [HA2.out.block (mb + 1) (by rw [HS.out]; omega), HO.out (mb + 1) (by omega)] at hs
        exact h3 sv m T fr hs
      obtain ⟨q1, q2⟩ := HKP.out b h1 (Nat.lt_of_lt_of_le hlt3 HA2.out.size) hX1
      exact ⟨q1, q2.trans ((HA2.out.block b hlt3).trans (HO.out b h2))⟩
end Go.Proofs.YtdjoafnohkmneaaGreatDoor

namespace Go.Proofs.YtdjoafnohkmneaaGreatDoor
open Go.RowKit

set_option maxHeartbeats 1000000
set_option maxRecDepth 100000

theorem FreeOk.more {w : World} {v : Value} {oc : List (List UInt8)} {N N' : Nat} (h : FreeOk w v oc N) (hN : N ≤ N') : FreeOk w v oc N' :=
  ⟨Nat.le_trans h.1 hN, fun W hW bv bd hb sv ns ho hne h1 h2 => h.2 W hW bv bd hb sv ns ho hne (by omega) (by omega)⟩

theorem free_two (w : World) (B : Nat) (q : List UInt8) (t : SX) (v : Value) (h : SV w B (.node [.atom q, t]) v) (hg : GoodX (.node [.atom q, t])) (hx : ¬ (q = Fm.wAll ∨ q = Fm.wEx)) (oc : List (List UInt8)) (N : Nat) (hN : oc.length ≤ N)
    (hk : ∀ v, SV w B t v → FreeOk w v oc N) : FreeOk w v oc (1 + N) := by
  have := free_node w B _ v h hg hx [[], oc] [0, N] rfl rfl (by simp) (fun j h1 h2 => by
    match j, h1 with
    | 0, _ => simp
    | 1, _ => exact hN) (fun j hj h1 => by
    match j, hj, h1 with
    | 1, _, _ => exact hk)
  simp only [List.tail_cons, List.flatten_cons, List.flatten_nil, List.append_nil, List.sum_cons, List.sum_nil, Nat.add_zero] at this
  exact this.more (by omega)
theorem free_three (w : World) (B : Nat) (q : List UInt8) (t u : SX) (v : Value) (h : SV w B (.node [.atom q, t, u]) v) (hg : GoodX (.node [.atom q, t, u])) (hx : ¬ (q = Fm.wAll ∨ q = Fm.wEx)) (oc od : List (List UInt8)) (N M : Nat) (hN : oc.length ≤ N) (hM : od.length ≤ M)
    (hk : ∀ v, SV w B t v → FreeOk w v oc N) (hk2 : ∀ v, SV w B u v → FreeOk w v od M) : FreeOk w v (oc ++ od) (1 + N + M) := by
  have := free_node w B _ v h hg hx [[], oc, od] [0, N, M] rfl rfl (by simp) (fun j h1 h2 => by
    match j, h1 with
    | 0, _ => simp
    | 1, _ => exact hN
    | 2, _ => exact hM) (fun j hj h1 => by
    match j, hj, h1 with
    | 1, _, _ => exact hk
    | 2, _, _ => exact hk2)
  simp only [List.tail_cons, List.flatten_cons, List.flatten_nil, List.append_nil, List.sum_cons, List.sum_nil, Nat.add_zero] at this
  exact this.more (by omega)

theorem free_ex {w : World} {B : Nat} : ∀ (e : Ex), Fm.exOk e → GoodX (Fm.exTree e) → ∀ v, SV w B (Fm.exTree e) v → FreeOk w v (Fm.occE e) (Fm.exAtoms e)
  | .num n, h, hg, v, hv => by
    simp only [Fm.exTree, SV] at hv
    subst hv
    have hg1 := hg.1
    have hg2 := hg.2
    simp only [Fm.exTree, Fm.sxOk, Fm.sxText] at hg1 hg2
    have hn : n ≤ 60 := h
    have := free_atom w (Fm.dec n) hg1.1 hg2
    rw [if_neg (by rw [(Fm.dec_letters (m := n) (by omega)).2.1]; simp)] at this
    exact this
  | .var x, h, hg, v, hv => by
    simp only [Fm.exTree, SV] at hv
    subst hv
    have hg1 := hg.1
    have hg2 := hg.2
    simp only [Fm.exTree, Fm.sxOk, Fm.sxText] at hg1 hg2
    have hx : Tm.nameOk x = true := h
    have := free_atom w x hg1.1 hg2
    rw [if_pos hx] at this
    exact this
  | .suc e, h, hg, v, hv => free_two w B _ _ v hv hg (by decide) _ _ (Fm.occE_len e) (free_ex e h (hg.part (by simp)))
  | .add a b, h, hg, v, hv => free_three w B _ _ _ v hv hg (by decide) _ _ _ _ (Fm.occE_len a) (Fm.occE_len b) (free_ex a h.1 (hg.part (by simp))) (free_ex b h.2 (hg.part (by simp)))
  | .mul a b, h, hg, v, hv => free_three w B _ _ _ v hv hg (by decide) _ _ _ _ (Fm.occE_len a) (Fm.occE_len b) (free_ex a h.1 (hg.part (by simp))) (free_ex b h.2 (hg.part (by simp)))

theorem free_fo {w : World} {B : Nat} : ∀ (f : Fo), Fm.okm f → GoodX (Fm.tree f) → ∀ v, SV w B (Fm.tree f) v → FreeOk w v (Fm.occ f) (Fm.atoms f)
  | .top, _, hg, v, hv => by
    simp only [Fm.tree, SV] at hv
    subst hv
    exact free_atom w Fm.wTop (by decide) (by decide)
  | .bot, _, hg, v, hv => by
    simp only [Fm.tree, SV] at hv
    subst hv
    exact free_atom w Fm.wBot (by decide) (by decide)
  | .eq a b, h, hg, v, hv => free_three w B _ _ _ v hv hg (by decide) _ _ _ _ (Fm.occE_len a) (Fm.occE_len b) (free_ex a h.1 (hg.part (by simp))) (free_ex b h.2 (hg.part (by simp)))
  | .and f g, h, hg, v, hv => free_three w B _ _ _ v hv hg (by decide) _ _ _ _ (Fm.occ_len f) (Fm.occ_len g) (free_fo f h.1 (hg.part (by simp))) (free_fo g h.2 (hg.part (by simp)))
  | .or f g, h, hg, v, hv => free_three w B _ _ _ v hv hg (by decide) _ _ _ _ (Fm.occ_len f) (Fm.occ_len g) (free_fo f h.1 (hg.part (by simp))) (free_fo g h.2 (hg.part (by simp)))
  | .imp f g, h, hg, v, hv => free_three w B _ _ _ v hv hg (by decide) _ _ _ _ (Fm.occ_len f) (Fm.occ_len g) (free_fo f h.1 (hg.part (by simp))) (free_fo g h.2.1 (hg.part (by simp)))
  | .all x n f, h, hg, v, hv => (free_bind w B _ x _ _ v hv hg (Or.inl rfl) _ _ (free_fo f h.2.2.2 (hg.part (by simp))) (Fm.occ_len f)).more (by simp only [Fm.atoms]; omega)
  | .ex x n f, h, hg, v, hv => (free_bind w B _ x _ _ v hv hg (Or.inr rfl) _ _ (free_fo f h.2.2.2 (hg.part (by simp))) (Fm.occ_len f)).more (by simp only [Fm.atoms]; omega)
end Go.Proofs.YtdjoafnohkmneaaGreatDoor

namespace Go.Proofs.YtdjoafnohkmneaaGreatDoor
open Go.RowKit

set_option maxHeartbeats 4000000
set_option maxRecDepth 100000

section
variable {ops : Array Oper} {A : Act} {i : Nat} {w : World}
/-- The length of a row of texts. -/
theorem ruf_len {x : Operand} {ao : Option Addr} {n c : Nat} (hop : (opAt ops i).op = .call { callee := .builtin .len, args := #[x], argTypes := #[52] }) (hx : A.eval x = .slice ao n c) :
    (execOp A.eval (opAt ops i)).run Tryz.prog w = .ok (.value (.int .i64 n)) w := by
  have h : (Builtin.len_ #[52] (opAt ops i).type #[.slice ao n c]).run Tryz.prog w = .ok (.int .i64 n) w := by kernel_rfl
  unfold execOp
  generalize A.eval = E at *
  simp only [hop]
  simp [go_sem, hx, h]
end

theorem du_off {P : Program} {ops : Array Oper} {Q : Exit → Act → World → Prop} {A : Act} {i : Nat} {w : World} {K : Act → World → Prop} {p : Nat} {C B : World → Prop} {R : Nat → Value → World → Prop} {use : Nat → Option Nat}
    (hs : (ops[i]?).isSome = true) (hw : Region.wanted (opAt ops i) (yielded ops A.tmps) = false) (hB : B w) (hy : R i undef w) (hK : ∀ v w', StepU ops p C B R use i w w' → R i v w' → K (A.put (dstOf ops i) v) w') : OpDo P ops Q A i w K :=
  op_off hs hw (hK _ _ ⟨hB, fun _ h => h, fun _ _ _ _ _ h => h⟩ hy)

theorem grow_ext {q g : Nat} {o : Obj} {Y W W2 : World} (h : ExtQ q o Y W) (hg : W.grownBy W2 (some g)) (hgY : Y.heap.size ≤ g) (hq : q < Y.heap.size) : ExtQ q o Y W2 := by
  refine ⟨⟨hg.os.trans h.1.os, hg.tape.trans h.1.tape, hg.output.trans h.1.output, Nat.le_trans h.1.size hg.size, fun k hk hne => ?_⟩, fun _ => ?_⟩
  · rw [hg.block k (Nat.lt_of_lt_of_le hk h.1.size) (fun e => by injection e with e; omega)]
    exact h.1.block k hk hne
  · rw [hg.block q (Nat.lt_of_lt_of_le hq h.1.size) (fun e => by injection e with e; omega)]
    exact h.2 hq

theorem own_form2 {w : World} {base : Nat} {v : Value} {xs : List (List UInt8)} {T : TypeId} (h : w.ownsRow base T 1 v xs.length (xs.map str)) : ∃ ao cap, v = .slice ao xs.length cap := by
  rcases h.2 with ⟨rfl, h1⟩ | ⟨g, cap, cur, rfl, _⟩
  · exact ⟨none, 0, by rw [h1]⟩
  · exact ⟨_, _, rfl⟩

def clT (Y : World) (q : Nat) (s : List UInt8) (ao : Option Addr) (n c L : Nat) (b0 : Bool) : List Yu := [.lit (.agg #[str s, .slice ao n c]), .lit (.bool true), .lit (.bool true), .lit (.agg #[str s, .slice ao n c]), .pred (fun v _ => ∃ g, v = .slice (some ⟨g, 0, none⟩) 0 0), .pred (fun v w => ∃ g, v = .slice (some ⟨g, 0, none⟩) 0 0 ∧ Y.heap.size ≤ g ∧ w.ownsRow Y.heap.size 9 1 v 0 []), .pred (fun v _ => ∃ ao cap, v = .slice ao L cap), .lit (.int .i64 (L : Nat)), .lit (.bool b0), .lit (.bool b0), .pred (fun _ w => w.heap[q]? = some (.cells #[str s, .slice ao n c] 35 (0, 0))), .lit (.bool b0)]
def clF (q : Nat) (s : List UInt8) (ao : Option Addr) (n c : Nat) : List Yu := [.lit (.agg #[str s, .slice ao n c]), .lit (.bool false), .lit (.bool false), .free, .free, .free, .free, .free, .free, .lit (.bool false), .pred (fun _ w => w.heap[q]? = some (.cells #[str s, .slice ao n c] 35 (0, 0))), .lit (.bool false)]
def clU : Nat → Option Nat
  | 5 => some 6
  | _ => none

theorem clT_keep {Y : World} {q : Nat} {s : List UInt8} {ao : Option Addr} {n c L : Nat} {b0 : Bool} : ∀ y ∈ clT Y q s ao n c L b0, keepsU After y := by
  intro y hy
  simp only [clT, List.mem_cons, List.not_mem_nil, or_false] at hy
  rcases hy with rfl | rfl | rfl | rfl | rfl | rfl | rfl | rfl | rfl | rfl | rfl | rfl
  case inr.inr.inr.inr.inr.inl => exact fun v w w' h ⟨g, e, hg, hh⟩ => ⟨g, e, hg, row_after hh h⟩
  case inr.inr.inr.inr.inr.inr.inr.inr.inr.inr.inl => exact fun v w w' h k => h.heap k
  all_goals first | exact trivial | exact fun v w w' h k => k

theorem clKeep6 {Y w w' : World} {q : Nat} {s : List UInt8} {ao : Option Addr} {n c L : Nat} {b0 : Bool} {j : Nat} {v : Value} (h5 : j ≠ 5) (h10 : j ≠ 10) (h : yus (clT Y q s ao n c L b0) j v w) : yus (clT Y q s ao n c L b0) j v w' := by
  match j, h5, h10 with
  | 0, _, _ => exact h
  | 1, _, _ => exact h
  | 2, _, _ => exact h
  | 3, _, _ => exact h
  | 4, _, _ => exact h
  | 6, _, _ => exact h
  | 7, _, _ => exact h
  | 8, _, _ => exact h
  | 9, _, _ => exact h
  | 11, _, _ => exact h
  | j + 12, _, _ => exact h
theorem clKeep10 {Y w w' : World} {q : Nat} {s : List UInt8} {ao : Option Addr} {n c L : Nat} {b0 : Bool} {j : Nat} {v : Value} (h5 : j ≠ 5) (h10 : j ≠ 10) (h : yus (clT Y q s ao n c L b0) j v w) : yus (clT Y q s ao n c L b0) j v w' := clKeep6 h5 h10 h
theorem clKeep10n {w w' : World} {q : Nat} {s : List UInt8} {ao : Option Addr} {n c : Nat} {j : Nat} {v : Value} (h10 : j ≠ 10) (h : yus (clF q s ao n c) j v w) : yus (clF q s ao n c) j v w' := by
  match j, h10 with
  | 0, _ => exact h
  | 1, _ => exact h
  | 2, _ => exact h
  | 3, _ => exact h
  | 4, _ => exact h
  | 5, _ => exact h
  | 6, _ => exact h
  | 7, _ => exact h
  | 8, _ => exact h
  | 9, _ => exact h
  | 11, _ => exact h
  | j + 12, _ => exact h

theorem wp_frame2 : True := trivial

/-- What l6fFormula answers, and what l6fFree does behind it. -/
def ClRead (w : World) (o : Option SX) (e : Ending) (w1 : World) : Prop :=
  ∃ (s : List UInt8) (ao : Option Addr) (n c : Nat) (b1 : Bool) (L : Nat), e = .returned (.tuple #[.agg #[str s, .slice ao n c], .bool b1]) ∧ After (w.alloc (.cells #[.string ⟨#[]⟩, .slice none 0 0] 35)) w1 ∧
    (∀ t, o = some t → SV w1 (w.heap.size + 1) t (.agg #[str s, .slice ao n c])) ∧ o.isSome = (b1 && decide (L = 0)) ∧
    (b1 = true → ∀ Y, After w1 Y → ∀ W, After Y W → ∀ g4 v5, W.ownsRow Y.heap.size 9 1 v5 0 [] → Calls Tryz.prog 35 #[.agg #[str s, .slice ao n c], .slice (some ⟨g4, 0, none⟩) 0 0, v5] W fun e W' => ∃ (v' : Value) (xs : List (List UInt8)), e = .returned v' ∧ xs.length = L ∧ W'.ownsRow Y.heap.size 9 1 v' xs.length (xs.map str) ∧ W.grownBy W' v5.ownBlock)

theorem s_closed_core (w : World) (l : List UInt8) (o : Option SX)
   (hr : Calls Tryz.prog 24 #[str l] (w.alloc (.cells #[.string ⟨#[]⟩, .slice none 0 0] 35)) (ClRead w o)) : Calls Tryz.prog 38 #[str l] w (MFPost w o) := by
  have hq : (w.alloc (.cells #[.string ⟨#[]⟩, .slice none 0 0] 35)).heap[w.heap.size]? = some (.cells #[str [], .slice none 0 0] 35 (0, 0)) := heap_top _ _
  unfold ClRead at hr
  go_enter Tryz.func38, Tryz.ntmps38
  go_wp2_with fail
  refine hr.mono ?_
  rintro e w1 ⟨s, ao, n, c, b1, L, rfl, ha, hsv, ho, hfr⟩
  have HO := Lib.hid ho
  have HA := Lib.hid ha
  have HS := Lib.hid hsv
  have HQ0 := Lib.hid (ha.heap hq)
  have HF0 := Lib.hid hfr
  have HNE : Hid (w1.heap.size ≠ w.heap.size) := by show _ ≠ _; have := (Array.getElem?_eq_some_iff.1 HQ0.out).1; omega
  have HQ1 : Hid (w.heap.size < w1.heap.size) := (Array.getElem?_eq_some_iff.1 HQ0.out).1
  clear hr ha hq hsv ho hfr
  go_wp2_with fail
  rename_i KK hKK
  obtain ⟨Y, hY⟩ : ∃ Y, Y = w1.alloc (.cells #[.string ⟨s.toArray⟩, .slice ao n c] 35) := ⟨_, rfl⟩
  rw [← hY]
  have HYA : Hid (After w1 Y) := by show After _ _; rw [hY]; exact After.new _ _
  have HT : Hid (Y.drew.heap[w1.heap.size]? = some (.cells #[str s, .slice ao n c] 35 (0, 0))) := by show Y.heap[_]? = _; rw [hY]; exact heap_top _ _
  have HQ : Hid (Y.drew.heap[w.heap.size]? = some (.cells #[str [], .slice none 0 0] 35 (0, 0))) := HYA.out.heap HQ0.out
  have HQL : Hid (w.heap.size < Y.drew.heap.size) := Nat.lt_of_lt_of_le HQ1.out HYA.out.size
  have HX : Hid (∀ W, ExtQ w.heap.size (.cells #[str s, .slice ao n c] 35 (0, 0)) Y.drew W → ExtQ w.heap.size (.cells #[str s, .slice ao n c] 35 (0, 0)) w1 W) := fun W hW => (ExtQ.of (HYA.out.trans (After.refl Y).drew)).trans _ _ _ hW
  clear hY
  cases b1 with
  | false =>
    refine wp_region_use_tail (m := 11) (k := 1) (f := 12) (by kernel_rfl) (by kernel_rfl) (by kernel_rfl) (by kernel_rfl) (fun _ => none) (by kernel_rfl)
      10 (After Y.drew) (ExtQ w.heap.size (.cells #[str s, .slice ao n c] 35 (0, 0)) Y.drew) (yus (clF w.heap.size s ao n c)) (After.refl _) (ExtQ.refl _ _ _) (lt11 ?_ ?_ ?_ ?_ ?_ ?_ ?_ ?_ ?_ ?_ ?_) ?_
    · intro vs W hB hC hd K hK
      exact du_val (by kernel_rfl) (wantedq (by kernel_rfl)) (rq_tree (x := .tmp 4) (u := .pointer (some ⟨w1.heap.size, 0, none⟩)) (b := w1.heap.size) (k := 0) (by kernel_rfl) (by kernel_rfl) rfl (cell_of_heap (i := 0) (hB.heap HT.out HNE.out)) (cell_of_heap (i := 1) (hB.heap HT.out HNE.out))) hB rfl hK
    · intro vs W hB hC hd K hK
      exact du_val (by kernel_rfl) (wantedq (by kernel_rfl)) (by kernel_rfl) hB rfl hK
    · intro vs W hB hC hd K hK
      exact du_val (u := vs 1) (by kernel_rfl) (wantedq (by kernel_rfl)) (by kernel_rfl) hB (hd 1 (by kernel_rfl)) hK
    · intro vs W hB hC hd K hK
      exact du_off (by kernel_rfl) (wantedq_off (j := 2) (b := true) (c := false) (u := vs 2) (by kernel_rfl) (by kernel_rfl) (hd 2 (by kernel_rfl)) (by decide)) hB trivial hK
    · intro vs W hB hC hd K hK
      exact du_off (by kernel_rfl) (wantedq_off (j := 2) (b := true) (c := false) (u := vs 2) (by kernel_rfl) (by kernel_rfl) (hd 2 (by kernel_rfl)) (by decide)) hB trivial hK
    · intro vs W hB hC hd K hK
      exact du_off (by kernel_rfl) (wantedq_off (j := 2) (b := true) (c := false) (u := vs 2) (by kernel_rfl) (by kernel_rfl) (hd 2 (by kernel_rfl)) (by decide)) hB trivial hK
    · intro vs W hB hC hd K hK
      exact du_off (by kernel_rfl) (wantedq_off (j := 2) (b := true) (c := false) (u := vs 2) (by kernel_rfl) (by kernel_rfl) (hd 2 (by kernel_rfl)) (by decide)) hB trivial hK
    · intro vs W hB hC hd K hK
      exact du_off (by kernel_rfl) (wantedq_off (j := 2) (b := true) (c := false) (u := vs 2) (by kernel_rfl) (by kernel_rfl) (hd 2 (by kernel_rfl)) (by decide)) hB trivial hK
    · intro vs W hB hC hd K hK
      exact du_off (by kernel_rfl) (wantedq_off (j := 2) (b := true) (c := false) (u := vs 2) (by kernel_rfl) (by kernel_rfl) (hd 2 (by kernel_rfl)) (by decide)) hB trivial hK
    · intro vs W hB hC hd K hK
      exact du_val (by kernel_rfl) (wantedq (by kernel_rfl)) (rq_pick (c := .tmp 13) (x := .tmp 19) (y := .const (.bool false)) (u := vs 2) (p := false) (r := .bool false) (by kernel_rfl) (by kernel_rfl) (hd 2 (by kernel_rfl)) (by rw [if_neg (by decide)]; rfl)) hB rfl hK
    · intro vs W hB hC hd K hK
      obtain ⟨p0, p1, hp⟩ := two_of (hB.cells HQ.out)
      have e0 : vs 0 = .agg #[str s, .slice ao n c] := (hd 0 (by kernel_rfl))
      obtain ⟨W2, hrun, hext, hfin⟩ := rq_store (ops := _) (A := frame _ _ vs) (i := 10) (x := .tmp 2) (y := .tmp 11) (u := .pointer (some ⟨w.heap.size, 0, none⟩)) (v := vs 0) (b := w.heap.size) (by kernel_rfl) (by kernel_rfl) rfl (by kernel_rfl) e0 hp rfl rfl
      refine op_skip (by kernel_rfl) (wantedq (by kernel_rfl)) hrun (hK _ _ ⟨hB.trans _ _ _ hext, fun h => absurd rfl h, fun j v hj hdj hu h => ?_⟩ hfin)
      exact clKeep10n hj h
    intro vs W hB hd
    have e9 : vs 9 = .bool false := hd 9 (by decide) (fun c hc => by cases hc)
    have hst : W.heap[w.heap.size]? = some (.cells #[str s, .slice ao n c] 35 (0, 0)) := hd 10 (by decide) (fun c hc => by cases hc)
    refine op_val (i := 11) (w := W) (w' := W) (v := vs 9) (by kernel_rfl) (wantedq (by kernel_rfl)) (by kernel_rfl) ?_
    refine hKK _ _ ?_
    refine wp_frame (⟨#[str l, undef, .pointer (some ⟨w.heap.size, 0, none⟩), vs 9, .pointer (some ⟨w1.heap.size, 0, none⟩), .bool false, .tuple #[.agg #[str s, .slice ao n c], .bool false], str l, .tuple #[.agg #[str s, .slice ao n c], .bool false], .agg #[str s, .slice ao n c], .bool false, vs 0, vs 1, vs 2, vs 3, vs 4, vs 5, vs 6, vs 7, vs 8, vs 9], []⟩ : Act) (by kernel_rfl) ?_
    rw [e9]
    have HFIN : Hid (After w W ∧ ∀ t, o = some t → SV W w.heap.size t (.agg #[str s, .slice ao n c])) := fin_form HA.out HS.out (HX.out W hB)
    have k0 : W.cell? ⟨w.heap.size, 0, none⟩ = some (str s) := cell_of_heap (i := 0) hst
    have k1 : W.cell? ⟨w.heap.size, 1, none⟩ = some (.slice ao n c) := cell_of_heap (i := 1) hst
    clear hst hB hd e9
    go_wp2_with fail
    exact bodyPost_ret (v := .tuple #[.agg #[str s, .slice ao n c], .bool false]) (by simp [results, Tryz.results38, go_sem, k0, k1]) rfl
      ⟨s, ao, n, c, by rw [HO.out]; rfl, HFIN.out.1, HFIN.out.2⟩
  | true =>
    obtain ⟨b0, hb0⟩ : ∃ b0 : Bool, (((L : Nat) : Int) == 0) = b0 := ⟨_, rfl⟩
    have HB0 : Hid (decide (L = 0) = b0) := by show _ = _; rw [← hb0]; by_cases h : L = 0 <;> simp [h]
    have HFR : Hid (∀ W, After Y.drew W → ∀ g4 v5, W.ownsRow Y.heap.size 9 1 v5 0 [] → Calls Tryz.prog 35 #[.agg #[str s, .slice ao n c], .slice (some ⟨g4, 0, none⟩) 0 0, v5] W fun e W' => ∃ (v' : Value) (xs : List (List UInt8)), e = .returned v' ∧ xs.length = L ∧ W'.ownsRow Y.heap.size 9 1 v' xs.length (xs.map str) ∧ W.grownBy W' v5.ownBlock) := fun W hW => HF0.out rfl Y HYA.out W ((After.refl Y).drew.trans hW)
    have HL : Hid (∀ y ∈ clT Y w.heap.size s ao n c L b0, keepsU After y) := clT_keep
    clear HF0
    refine wp_region_use_tail (m := 11) (k := 1) (f := 12) (by kernel_rfl) (by kernel_rfl) (by kernel_rfl) (by kernel_rfl) clU (by kernel_rfl)
      10 (After Y.drew) (ExtQ w.heap.size (.cells #[str s, .slice ao n c] 35 (0, 0)) Y.drew) (yus (clT Y w.heap.size s ao n c L b0)) (After.refl _) (ExtQ.refl _ _ _) (lt11 ?_ ?_ ?_ ?_ ?_ ?_ ?_ ?_ ?_ ?_ ?_) ?_
    · intro vs W hB hC hd K hK
      exact du_val (by kernel_rfl) (wantedq (by kernel_rfl)) (rq_tree (x := .tmp 4) (u := .pointer (some ⟨w1.heap.size, 0, none⟩)) (b := w1.heap.size) (k := 0) (by kernel_rfl) (by kernel_rfl) rfl (cell_of_heap (i := 0) (hB.heap HT.out HNE.out)) (cell_of_heap (i := 1) (hB.heap HT.out HNE.out))) hB rfl hK
    · intro vs W hB hC hd K hK
      exact du_val (by kernel_rfl) (wantedq (by kernel_rfl)) (by kernel_rfl) hB rfl hK
    · intro vs W hB hC hd K hK
      exact du_val (u := vs 1) (by kernel_rfl) (wantedq (by kernel_rfl)) (by kernel_rfl) hB (hd 1 (by kernel_rfl)) hK
    · intro vs W hB hC hd K hK
      exact du_val (by kernel_rfl) (wantedq_on (j := 2) (b := true) (u := vs 2) (by kernel_rfl) (by kernel_rfl) (hd 2 (by kernel_rfl))) (rq_tree (x := .tmp 4) (u := .pointer (some ⟨w1.heap.size, 0, none⟩)) (b := w1.heap.size) (k := 0) (by kernel_rfl) (by kernel_rfl) rfl (cell_of_heap (i := 0) (hB.heap HT.out HNE.out)) (cell_of_heap (i := 1) (hB.heap HT.out HNE.out))) hB rfl hK
    · intro vs W hB hC hd K hK
      exact du_new (by kernel_rfl) (wantedq_on (j := 2) (b := true) (u := vs 2) (by kernel_rfl) (by kernel_rfl) (hd 2 (by kernel_rfl))) (ruf_row0 (by kernel_rfl)) ⟨hB.trans _ _ _ (ExtQ.of (After.new W _)), fun _ h => h.alloc _, fun j v _ _ _ h => yus_keep HL.out (After.new W _) j v h⟩ ⟨_, rfl⟩ hK
    · intro vs W hB hC hd K hK
      exact du_new (by kernel_rfl) (wantedq_on (j := 2) (b := true) (u := vs 2) (by kernel_rfl) (by kernel_rfl) (hd 2 (by kernel_rfl))) (ruf_row0 (by kernel_rfl)) ⟨hB.trans _ _ _ (ExtQ.of (After.new W _)), fun _ h => h.alloc _, fun j v _ _ _ h => yus_keep HL.out (After.new W _) j v h⟩ ⟨_, rfl, hB.1.size, rfl, Or.inr ⟨W.heap.size, 0, #[], rfl, hB.1.size, heap_top _ _, Nat.le_refl _, Nat.zero_le _, rfl, rfl⟩⟩ hK
    · intro vs W hB hC hd K hK
      have hcW := hC (Or.inr (by kernel_rfl))
      have e3 : vs 3 = .agg #[str s, .slice ao n c] := (hd 3 (by kernel_rfl))
      obtain ⟨g4, e4⟩ := (hd 4 (by kernel_rfl))
      obtain ⟨g5, e5, hg5, ho5⟩ := (hd 5 (by kernel_rfl))
      have hcall := HFR.out W hcW g4 (vs 5) ho5
      refine op_call (f := 35) (args := #[vs 3, vs 4, vs 5]) (by kernel_rfl) (wantedq_on (j := 2) (b := true) (u := vs 2) (by kernel_rfl) (by kernel_rfl) (hd 2 (by kernel_rfl))) (by kernel_rfl) ?_
      rw [e3, e4]
      refine hcall.mono ?_
      rintro e W2 ⟨v2, xs, rfl, hxs, ho2, hg2⟩
      rw [e5] at hg2
      have hg3 : W.grownBy W2 (some g5) := hg2
      refine ⟨v2, rfl, hK _ _ ⟨grow_ext hB hg3 hg5 HQL.out, fun _ h => h.grown hg3 h.size (fun k hk => by obtain rfl := Option.some.inj hk; exact hg5), fun j v hj hdj hu h => ?_⟩ (by rw [← hxs]; exact own_form2 ho2)⟩
      exact clKeep6 (fun e => by rw [e] at hu; exact (hu 6 rfl).1 rfl) (fun e => by rw [e] at hdj; rw [show depsOn _ 10 6 = true by kernel_rfl] at hdj; cases hdj) h
    · intro vs W hB hC hd K hK
      obtain ⟨ao6, cap6, e6⟩ := (hd 6 (by kernel_rfl))
      exact du_val (by kernel_rfl) (wantedq_on (j := 2) (b := true) (u := vs 2) (by kernel_rfl) (by kernel_rfl) (hd 2 (by kernel_rfl))) (ruf_len (x := .tmp 17) (by kernel_rfl) (Eq.trans (by kernel_rfl : _ = vs 6) e6)) hB rfl hK
    · intro vs W hB hC hd K hK
      exact du_val (by kernel_rfl) (wantedq_on (j := 2) (b := true) (u := vs 2) (by kernel_rfl) (by kernel_rfl) (hd 2 (by kernel_rfl))) (rq_eql (T := 3) (T' := 3) (x := .tmp 18) (y := .const (.int .i64 0)) (u := vs 7) (u' := .int .i64 0) (n := (L : Nat)) (m := 0) (by kernel_rfl) (by kernel_rfl) (hd 7 (by kernel_rfl)) (by kernel_rfl) rfl hb0) hB rfl hK
    · intro vs W hB hC hd K hK
      exact du_val (by kernel_rfl) (wantedq (by kernel_rfl)) (rq_pick (c := .tmp 13) (x := .tmp 19) (y := .const (.bool false)) (u := vs 2) (p := true) (r := .bool b0) (by kernel_rfl) (by kernel_rfl) (hd 2 (by kernel_rfl)) (by rw [if_pos rfl]; exact Eq.trans (by kernel_rfl : _ = vs 8) (hd 8 (by kernel_rfl)))) hB rfl hK
    · intro vs W hB hC hd K hK
      obtain ⟨p0, p1, hp⟩ := two_of (hB.cells HQ.out)
      have e0 : vs 0 = .agg #[str s, .slice ao n c] := (hd 0 (by kernel_rfl))
      obtain ⟨W2, hrun, hext, hfin⟩ := rq_store (ops := _) (A := frame _ _ vs) (i := 10) (x := .tmp 2) (y := .tmp 11) (u := .pointer (some ⟨w.heap.size, 0, none⟩)) (v := vs 0) (b := w.heap.size) (by kernel_rfl) (by kernel_rfl) rfl (by kernel_rfl) e0 hp rfl rfl
      refine op_skip (by kernel_rfl) (wantedq (by kernel_rfl)) hrun (hK _ _ ⟨hB.trans _ _ _ hext, fun h => absurd rfl h, fun j v hj hdj hu h => ?_⟩ hfin)
      exact clKeep10 (fun e => by rw [e] at hu; have h3 := (hu 6 rfl).2; exact absurd h3 (by rw [show depsOn _ 10 6 = true by kernel_rfl]; decide)) hj h
    intro vs W hB hd
    have e9 : vs 9 = .bool b0 := hd 9 (by decide) (fun c hc => by cases hc)
    have hst : W.heap[w.heap.size]? = some (.cells #[str s, .slice ao n c] 35 (0, 0)) := hd 10 (by decide) (fun c hc => by cases hc)
    refine op_val (i := 11) (w := W) (w' := W) (v := vs 9) (by kernel_rfl) (wantedq (by kernel_rfl)) (by kernel_rfl) ?_
    refine hKK _ _ ?_
    refine wp_frame (⟨#[str l, undef, .pointer (some ⟨w.heap.size, 0, none⟩), vs 9, .pointer (some ⟨w1.heap.size, 0, none⟩), .bool true, .tuple #[.agg #[str s, .slice ao n c], .bool true], str l, .tuple #[.agg #[str s, .slice ao n c], .bool true], .agg #[str s, .slice ao n c], .bool true, vs 0, vs 1, vs 2, vs 3, vs 4, vs 5, vs 6, vs 7, vs 8, vs 9], []⟩ : Act) (by kernel_rfl) ?_
    rw [e9]
    have HFIN : Hid (After w W ∧ ∀ t, o = some t → SV W w.heap.size t (.agg #[str s, .slice ao n c])) := fin_form HA.out HS.out (HX.out W hB)
    have k0 : W.cell? ⟨w.heap.size, 0, none⟩ = some (str s) := cell_of_heap (i := 0) hst
    have k1 : W.cell? ⟨w.heap.size, 1, none⟩ = some (.slice ao n c) := cell_of_heap (i := 1) hst
    clear hst hB hd e9
    go_wp2_with fail
    exact bodyPost_ret (v := .tuple #[.agg #[str s, .slice ao n c], .bool b0]) (by simp [results, Tryz.results38, go_sem, k0, k1]) rfl
      ⟨s, ao, n, c, by rw [HO.out, HB0.out]; rfl, HFIN.out.1, HFIN.out.2⟩

theorem s_closedf (w : World) (l : List UInt8) : Calls Tryz.prog 38 #[str l] w (MFPost w (Fm.mclosed l)) := by
  refine s_closed_core w l _ ((s_form (w.alloc (.cells #[.string ⟨#[]⟩, .slice none 0 0] 35)) l).mono ?_)
  rintro e w1 ⟨s, ao, n, c, rfl, ha, hv⟩
  rw [show (w.alloc (.cells #[.string ⟨#[]⟩, .slice none 0 0] 35)).heap.size = w.heap.size + 1 by simp] at hv
  cases hp : Fm.parse l with
  | none =>
    have hc : Fm.mclosed l = none := by unfold Fm.mclosed; rw [hp]
    rw [hc]
    have hm : Fm.mform l = none := by rw [Fm.mform_eq, hp]; rfl
    refine ⟨s, ao, n, c, false, 0, by rw [hm]; rfl, ha, (fun t ht => by cases ht), rfl, (fun h => by cases h)⟩
  | some f =>
    have hc : Fm.mclosed l = if Fm.occ f = [] then some (Fm.tree f) else none := by unfold Fm.mclosed; rw [hp]
    rw [hc]
    have hm : Fm.mform l = some (Fm.tree f) := by rw [Fm.mform_eq, hp]; rfl
    have hsv := hv _ hm
    obtain ⟨hl, hok, hat⟩ := Fm.parse_iff.1 hp
    obtain ⟨hom, _⟩ := (Fm.ok_iff f 1 (by omega) (by omega)).1 hok
    obtain ⟨t1, t2, t3⟩ := Fm.tree_ok f hom
    have hgood : GoodX (Fm.tree f) := ⟨t1, by rw [Fm.tree_text]; omega⟩
    refine ⟨s, ao, n, c, true, (Fm.free f).length, by rw [hm]; rfl, ha, fun t ht => ?_, ?_, fun _ Y hY W hW g4 v5 ho5 => ?_⟩
    · split at ht
      · obtain rfl := Option.some.inj ht; exact hsv
      · cases ht
    · by_cases h0 : Fm.occ f = []
      · rw [if_pos h0, (Fm.free_nil f).2 h0]; rfl
      · rw [if_neg h0]
        have : (Fm.free f).length ≠ 0 := fun e => h0 ((Fm.free_nil f).1 (List.length_eq_zero_iff.1 e))
        simp [this]
    · have hfree := free_fo (w := Y) f hom hgood _ ((hsv.after hY))
      refine (hfree.2 W hW _ [] ⟨g4, 0, rfl, Or.inl rfl⟩ v5 [] ho5 (Or.inl rfl) (by simp; omega) (by simp; omega)).mono ?_
      rintro e W' ⟨v', rfl, h1, h2, _⟩
      rw [Fm.outOf_nil] at h1
      exact ⟨v', _, rfl, rfl, h1, h2⟩
end Go.Proofs.YtdjoafnohkmneaaGreatDoor
