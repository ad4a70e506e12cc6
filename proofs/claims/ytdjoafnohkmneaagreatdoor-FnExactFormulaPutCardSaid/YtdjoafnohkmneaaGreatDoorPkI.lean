/-
  The model's l6fPut.
-/
import Derived.Test.YtdjoafnohkmneaaGreatDoorPkH
import Derived.Test.YtdjoafnohkmneaaGreatDoorPkG
import Derived.Deep.AppendLies
import Derived.OwnWalk
import Derived.Laws.AppendOwn
import Derived.RegionTactic
import Derived.Test.YtdjoafnohkmneaaGreatDoorPkC
import Derived.Maps.AppendAt
import Derived.Test.YtdjoafnohkmneaaGreatDoorPkD
import Derived.Deep.MidRow
namespace Go.Proofs.YtdjoafnohkmneaaGreatDoor
open Go.RowKit

set_option maxHeartbeats 2000000
set_option maxRecDepth 100000

/-- What l6fPut hands back. -/
def SPPost (N : Nat) (W : World) (t : SX) (e : Ending) (w' : World) : Prop :=
  ∃ (s : List UInt8) (ao : Option Addr) (n c : Nat), e = .returned (.agg #[str s, .slice ao n c]) ∧ After W w' ∧ SVn w' N W.heap.size w'.heap.size t (.agg #[str s, .slice ao n c])
def SPutIH (x : List UInt8) (by' : SX) (d : Nat) : Prop := ∀ (t : SX) (w W : World) (v vb : Value), SV w 0 t v → SV w 0 by' vb → GoodX t → GoodX by' → Fm.sxDepth t < d → After w W →
  Calls Tryz.prog 51 #[v, str x, vb] W (SPPost w.heap.size W (Fm.sput x by' d t))

theorem s_put_atom (w W : World) (x a : List UInt8) (by' : SX) (d : Nat) (vb : Value) (ha : a ≠ []) (hb : SV w 0 by' vb) (hgb : GoodX by') (hW : After w W) :
    Calls Tryz.prog 51 #[.agg #[str a, .slice none 0 0], str x, vb] W (SPPost w.heap.size W (Fm.sput x by' (d + 1) (.atom a))) := by
  obtain ⟨sv, rfl, hk⟩ := hb.kids (fun ps e => by subst e; have := hgb.1; simp only [Fm.sxOk] at this; exact this.1)
  obtain ⟨ao, cap, rfl⟩ := hk.form
  have e0 : (a == []) = false := beq_eq_false_iff_ne.2 ha
  have e1 : (a != []) = true := by rw [bne, e0]; rfl
  have HB := Lib.hid hb
  clear ha hk hb
  generalize atomX by' = sb at *
  generalize (partsX by').length = nb at *
  by_cases hx : a = x
  · subst hx
    have HP := Lib.hid (show Fm.sput a by' (d + 1) (.atom a) = by' from if_pos rfl)
    go_enter Tryz.func51, Tryz.ntmps51
    go_wp2_with fail
    refine bodyPost_ret (v := .agg #[str sb, .slice ao nb cap]) (by simp [results, Tryz.results51, go_sem]) rfl ?_
    have hA : ∀ Z, After W Z → SPPost w.heap.size W (Fm.sput a by' (d + 1) (.atom a)) (.returned (.agg #[str sb, .slice ao nb cap])) Z := fun Z hZ => ⟨_, _, _, _, rfl, hZ, by rw [HP.out]; exact HB.out.old (hW.trans hZ) _ _⟩
    exact hA _ (by repeat (first | exact After.refl _ | refine After.alloc ?_ _ | refine Below.setCell ?_ (by first | exact Nat.le_refl _ | exact Nat.le_succ _ | exact Nat.le_add_right _ _) _))
  · have hne : (a == x) = false := beq_eq_false_iff_ne.2 hx
    have HP := Lib.hid (show Fm.sput x by' (d + 1) (.atom a) = .atom a from if_neg hx)
    clear hx
    go_enter Tryz.func51, Tryz.ntmps51
    go_wp2_with fail
    refine bodyPost_ret (v := .agg #[str a, .slice none 0 0]) (by simp [results, Tryz.results51, go_sem]) rfl ?_
    have hA : ∀ Z, After W Z → SPPost w.heap.size W (Fm.sput x by' (d + 1) (.atom a)) (.returned (.agg #[str a, .slice none 0 0])) Z := fun Z hZ => ⟨_, _, _, _, rfl, hZ, by rw [HP.out]; exact fun w'' _ => by simp only [SV]⟩
    exact hA _ (by repeat (first | exact After.refl _ | refine After.alloc ?_ _ | refine Below.setCell ?_ (by first | exact Nat.le_refl _ | exact Nat.le_succ _ | exact Nat.le_add_right _ _) _))
end Go.Proofs.YtdjoafnohkmneaaGreatDoor

namespace Go.Proofs.YtdjoafnohkmneaaGreatDoor
open Go.RowKit

set_option maxHeartbeats 2000000
set_option maxRecDepth 100000

def RowN (w : World) (N base : Nat) (sv : Value) (ps : List Ex) (xs : List Value) : Prop :=
  w.ownsRow base 55 1 sv ps.length xs ∧ ∀ j (h : j < ps.length), ∃ S E x, base ≤ S ∧ E ≤ w.heap.size ∧ (∀ g, sv.ownBlock = some g → g < S ∨ E ≤ g) ∧ xs[j]? = some x ∧ EVn w N S E ps[j] x

theorem RowN.nil (w : World) (N base : Nat) : RowN w N base (.slice none 0 0) [] [] := ⟨World.ownsRow_nil w base _ _, fun j h => absurd h (by simp)⟩

theorem RowN.later {w w' : World} {N base : Nat} {sv : Value} {ps : List Ex} {xs : List Value} (h : RowN w N base sv ps xs) (hN : N ≤ base) (hb : base ≤ w.heap.size) (ha : After w w') : RowN w' N base sv ps xs := by
  have hg : w.grownBy w' none := ⟨ha.os, ha.tape, ha.output, ha.size, fun k hk _ => ha.block k hk⟩
  refine ⟨h.1.kept hg ?_, fun j hj => ?_⟩
  · cases hv : sv.ownBlock with
    | none => exact Or.inl rfl
    | some g => exact Or.inr (by simp)
  · obtain ⟨S, E, x, h2, h3, h4, h5, h6⟩ := h.2 j hj
    exact ⟨S, E, x, h2, Nat.le_trans h3 ha.size, h4, h5, h6.keep (Nat.le_refl _) (Nat.le_refl _) fun k hk => ha.block k (by omega)⟩

theorem RowN.push {w w' : World} {N base S : Nat} {sv v' x : Value} {ps : List Ex} {xs : List Value} {t : Ex} (h : RowN w N base sv ps xs) (hN : N ≤ base) (hNw : N ≤ w.heap.size) (hS : base ≤ S) (hgS : ∀ g, sv.ownBlock = some g → g < S) (ht : EVn w N S w.heap.size t x) (o : Obj)
    (ho : w'.ownsRow base 55 1 v' (ps.length + 1) (xs ++ [x])) (hg : (w.alloc o).grownBy w' sv.ownBlock) (hw : sv.ownBlock = v'.ownBlock ∨ v'.ownBlock = some (w.alloc o).heap.size) :
    RowN w' N base v' (ps ++ [t]) (xs ++ [x]) := by
  have hxl : xs.length = ps.length := by have := h.1.1; omega
  have hsz : (w.alloc o).heap.size = w.heap.size + 1 := by simp
  have hown : ∀ g, sv.ownBlock = some g → base ≤ g := fun g hg => (h.1.lt g hg).1
  have hkeep : ∀ k, k < w.heap.size → (∀ g, sv.ownBlock = some g → k ≠ g) → w'.heap[k]? = w.heap[k]? := fun k hk hne => by
    rw [hg.block k (by omega) (fun e => hne k e.symm rfl)]
    exact (below_new w o).block k hk
  refine ⟨by rw [List.length_append]; exact ho, fun j hj => ?_⟩
  by_cases hjl : j < ps.length
  · obtain ⟨S', E, x1, h2, h3, h4, e1, h5⟩ := h.2 j hjl
    refine ⟨S', E, x1, h2, by have := hg.size; omega, fun g hg' => ?_, ?_, ?_⟩
    · rcases hw with hw | hw
      · exact h4 g (hw.trans hg')
      · rw [hw] at hg'; injection hg' with hg'; right; omega
    · rw [List.getElem?_append_left (by omega)]; exact e1
    · rw [List.getElem_append_left hjl]
      exact h5.keep (Nat.le_refl _) (Nat.le_refl _) fun k hk => hkeep k (by omega) (fun g hg' e => by have := h4 g hg'; have := hown g hg'; omega)
  · have hj' : j = ps.length := by rw [List.length_append, List.length_singleton] at hj; omega
    subst hj'
    refine ⟨S, w.heap.size, x, hS, by have := hg.size; omega, fun g hg' => ?_, ?_, ?_⟩
    · rcases hw with hw | hw
      · exact Or.inl (hgS g (hw.trans hg'))
      · rw [hw] at hg'; injection hg' with hg'; right; omega
    · rw [List.getElem?_append_right (by omega), hxl, Nat.sub_self]; rfl
    · simp only [List.getElem_concat_length]
      exact ht.keep (Nat.le_refl _) (Nat.le_refl _) fun k hk => hkeep k (by omega) (fun g hg' e => by have := hgS g hg'; have := hown g hg'; omega)

theorem RowN.at {w : World} {N base : Nat} {sv : Value} {ps : List Ex} {xs : List Value} (h : RowN w N base sv ps xs) (h0 : 0 < ps.length) : ∃ b cap cs fr, sv = .slice (some ⟨b, 0, none⟩) ps.length cap ∧ base ≤ b ∧ w.heap[b]? = some (.cells cs 55 fr) ∧
    ∀ j (hj : j < ps.length), ∃ x, cs[j]? = some x ∧ EVn w N base w.heap.size ps[j] x := by
  obtain ⟨ho, hc⟩ := h
  rcases ho.2 with ⟨h1, h2⟩ | ⟨g, cap, cur, hv, hb, hh, hle, _, hcs, hct⟩
  · omega
  · refine ⟨g, cap, cur, _, hv, hb, hh, fun j hj => ?_⟩
    obtain ⟨S, E, x, h2, h3, _, e1, h5⟩ := hc j hj
    refine ⟨x, ?_, h5.keep h2 h3 fun _ _ => rfl⟩
    rw [← hct, List.getElem?_take, if_pos (by omega)] at e1
    simpa using e1

/-- The operation itself, once its parts are made. -/
theorem RowN.ev {w : World} {N base ao cap : Nat} {s : List UInt8} {oa : Option Addr} {ps : List Ex} {xs : List Value} (h : RowN w N base (.slice oa ao cap) ps xs) (h0 : 0 < Fm.opCount s) (hl : ps.length = Fm.opCount s) :
    EVn w N base w.heap.size (Fm.mkOp s ps) (.iface 123 (.agg #[str s, .slice oa ao cap])) := by
  obtain ⟨b, cp, cs, fr, hv, hb, hh, he⟩ := h.at (by omega)
  injection hv with h1 h2 h3
  subst h1 h2 h3
  intro w'' hk
  have hlt := (Array.getElem?_eq_some_iff.1 hh).1
  have hh' := (hk b (Or.inr ⟨hb, hlt⟩)).trans hh
  unfold Fm.opCount at h0 hl
  by_cases hs : s = Fm.wSuc
  · rw [if_pos hs] at hl
    obtain ⟨e, rfl⟩ : ∃ e, ps = [e] := List.length_eq_one_iff.1 hl
    obtain ⟨x, hx, hev⟩ := he 0 (by simp)
    exact ⟨b, cap, cs, fr, x, by rw [hs]; rfl, Nat.zero_le _, hh', hx, hev w'' hk⟩
  · rw [if_neg hs] at hl h0
    by_cases hs2 : s = Fm.wAdd ∨ s = Fm.wMul
    · rw [if_pos hs2] at hl
      obtain ⟨e, f, rfl⟩ : ∃ e f, ps = [e, f] := by
        match ps, hl with
        | [e, f], _ => exact ⟨e, f, rfl⟩
      obtain ⟨x, hx, hev⟩ := he 0 (by simp)
      obtain ⟨y, hy, hew⟩ := he 1 (by simp)
      show EV w'' 0 (if s = Fm.wAdd then Ex.add e f else Ex.mul e f) _
      by_cases ha : s = Fm.wAdd
      · rw [if_pos ha]
        exact ⟨b, cap, cs, fr, x, y, by rw [ha]; rfl, Nat.zero_le _, hh', hx, hy, hev w'' hk, hew w'' hk⟩
      · rw [if_neg ha]
        exact ⟨b, cap, cs, fr, x, y, by rw [hs2.resolve_left ha]; rfl, Nat.zero_le _, hh', hx, hy, hev w'' hk, hew w'' hk⟩
    · rw [if_neg hs2] at h0; omega

theorem cell_aft {w w' : World} {b i : Nat} (h : After w w') (hb : b < w.heap.size) : w'.cell? ⟨b, i, none⟩ = w.cell? ⟨b, i, none⟩ := by
  unfold World.cell?
  rw [h.block b hb]

theorem RowN.next {X w1 w2 w3 : World} {N g4 q4 k : Nat} {ps : List Ex} {xs : List Value} {ex : Ex} {x : Value} {o : Obj} {ao : Option Addr} {c1 : Nat} (hN : N ≤ X.heap.size) (hA1 : After X w1) (hA2 : After w1 w2)
    (hrow : RowN w1 N X.heap.size (.slice ao k c1) ps xs) (hpl : ps.length = k) (hev : EVn w2 N w1.heap.size w2.heap.size ex x)
    (ho4 : w3.ownsRow X.heap.size 55 1 (.slice (some ⟨g4, 0, none⟩) (k + 1) q4) (k + 1) (xs ++ [x])) (hg4 : (w2.alloc o).grownBy w3 (Value.slice ao k c1).ownBlock) (hw4 : (Value.slice ao k c1).ownBlock = some g4 ∨ g4 = (w2.alloc o).heap.size) :
    After X w3 ∧ RowN w3 N X.heap.size (.slice (some ⟨g4, 0, none⟩) (k + 1) q4) (ps ++ [ex]) (xs ++ [x]) := by
  subst hpl
  have hown : ∀ g, (Value.slice ao ps.length c1).ownBlock = some g → X.heap.size ≤ g := fun g hg => (hrow.1.lt g hg).1
  have hgs : ∀ g, (Value.slice ao ps.length c1).ownBlock = some g → g < w1.heap.size := fun g hg => (hrow.1.lt g hg).2
  have hrow2 := hrow.later hN hA1.size hA2
  have hsz : (w2.alloc o).heap.size = w2.heap.size + 1 := by simp
  have hA := hA1.trans hA2
  have h1 := hA1.size
  have h2 := hA2.size
  refine ⟨⟨?_, ?_, ?_, ?_, fun k hk => ?_⟩, hrow2.push hN (by omega) h1 hgs hev o ho4 hg4 ?_⟩
  · rw [hg4.os]; exact hA.os
  · rw [hg4.tape]; exact hA.tape
  · rw [hg4.output]; exact hA.output
  · have := hg4.size; omega
  · rw [hg4.block k (by omega) (fun e => by have := hown _ e.symm; omega), (below_new w2 o).block k (by omega)]
    exact hA.block k hk
  · rcases hw4 with h | h
    · exact Or.inl h
    · right; rw [h]; rfl

theorem op_put (w W : World) (s name : List UInt8) (vb : Value) (b cap n : Nat) (us : List Ex) (_xs : List Value) (hW : After w W) (hn : n = us.length) (hn2 : n ≤ 2) (h0 : 0 < Fm.opCount s) (hc : us.length = Fm.opCount s)
    (hx : ∀ j (h : j < us.length), ∃ x, W.cell? ⟨b, j, none⟩ = some x ∧ EPOk w x us[j] name vb) :
    Calls Tryz.prog 193 #[.agg #[str s, .slice (some ⟨b, 0, none⟩) n cap], str name, vb] W (EPP w.heap.size W (Fm.mkOp s us)) := by
  subst hn
  obtain ⟨X, hX⟩ : ∃ X, X = W.alloc (.cells #[str s, .slice (some ⟨b, 0, none⟩) us.length cap] 123) := ⟨_, rfl⟩
  have hAX : After W X := by rw [hX]; exact After.new _ _
  have hsz : X.heap.size = W.heap.size + 1 := by rw [hX]; simp
  have hXh : X.heap[W.heap.size]? = some (.cells #[str s, .slice (some ⟨b, 0, none⟩) us.length cap] 123 (0, 0)) := by rw [hX]; exact heap_new' _ _
  have p0 : ∀ V, After X V → V.cell? ⟨W.heap.size, 0, none⟩ = some (str s) := fun V hV => cell_of_heap (i := 0) (hV.heap hXh)
  have p1 : X.cell? ⟨W.heap.size, 1, none⟩ = some (.slice (some ⟨b, 0, none⟩) us.length cap) := cell_of_heap (i := 1) hXh
  have hNW : w.heap.size ≤ W.heap.size := hW.size
  have HW := Lib.hid hW
  have HX := Lib.hid hX
  have HAX := Lib.hid hAX
  have HSZ := Lib.hid hsz
  have HXX := Lib.hid hx
  have HP0 := Lib.hid p0
  have HC := Lib.hid hc
  have H0 := Lib.hid h0
  clear hXh hAX hsz hx hW p0 hc h0
  go_enter Tryz.func193, Tryz.ntmps193
  clear hX
  go_wp2_with fail
  try rw [← HX.out]
  go_loopw [7, 13] (fun p i wr => ∃ (k : Nat) (oa : Option Addr) (c : Nat) (xs : List Value), i = .int .i64 k ∧ p = .slice oa k c ∧ k ≤ us.length ∧ After X wr ∧ Hid (RowN wr w.heap.size X.heap.size (.slice oa k c) (us.take k) xs)) (fun _ i _ => us.length - (intOf i).toNat)
  case atStart => exact ⟨0, none, 0, [], rfl, rfl, Nat.zero_le _, After.refl _, RowN.nil _ _ _⟩
  case round =>
    obtain ⟨k, oa, c, xs, rfl, rfl, hk, hA, HR⟩ := hrel
    have HA := Lib.hid hA
    have q0 := HP0.out wr hA
    clear hA
    by_cases hlt : k < us.length
    · have hlti : (k : Int) < (us.length : Int) := by omega
      obtain ⟨x, hx0, T, z, f, y, rfl, m1, n1, d1⟩ := HXX.out k hlt
      have hx1 : wr.cell? ⟨b, k, none⟩ = some (.iface T z) := by
        have hbl : b < W.heap.size := by
          rcases Nat.lt_or_ge b W.heap.size with h1 | h1
          · exact h1
          · simp [World.cell?, Array.getElem?_eq_none h1] at hx0
        rw [cell_aft (HAX.out.trans HA.out) hbl]
        exact hx0
      have k1 := d1 wr ((HW.out.trans HAX.out).trans HA.out)
      unfold EPP at k1
      have hpl : (us.take k).length = k := by rw [List.length_take]; omega
      have htk : us.take (k + 1) = us.take k ++ [us[k]] := List.take_succ_eq_append_getElem hlt
      have HTK := Lib.hid htk
      have HPL := Lib.hid hpl
      generalize us[k] = u at *
      generalize hps : us.take k = ps at *
      have hk2 : k ≤ 2 := by omega
      clear hx0 d1 q0 hps hpl htk
      go_wp2_with fail
      refine k1.mono ?_
      rintro e w2 ⟨T2, y2, rfl, ha2, hev2⟩
      obtain ⟨i0, hi0, hz0, hz1, hz2⟩ : ∃ i, (Tryz.prog).info? 55 = some i ∧ i.zero = some .nilIface ∧ i.size = 1 ∧ i.bytes = 16 := ⟨_, rfl, rfl, rfl, rfl⟩
      have hun : Tryz.prog.underlying 121 = some (.slice 55) := by kernel_rfl
      have hnw := After.new w2 (.cells #[.iface T2 y2] 55)
      have hRow2 := (HR.out.later (by have := HAX.out.size; omega) HA.out.size ha2).1
      rw [HPL.out] at hRow2
      have hHO := World.ownsRow.alloc hRow2 (.cells #[.iface T2 y2] 55)
      have hnews : ∀ (i : Nat) (u : Value), ([.iface T2 y2] : List Value)[i]? = some u → (w2.alloc (.cells #[.iface T2 y2] 55)).cell? ((⟨w2.heap.size, 0, none⟩ : Addr).add i) = some u := fun i u hu => by
        match i, hu with
        | 0, hu =>
          have e : Value.iface T2 y2 = u := by simpa using hu
          subst e
          simp [Addr.add]
      have hb5 : X.heap.size ≤ (w2.alloc (.cells #[.iface T2 y2] 55)).heap.size := by have := hnw.size; have := HA.out.size; have := ha2.size; omega
      have hlast : ∀ (g4 q4 : Nat) (w3 : World), w3.ownsRow X.heap.size 55 1 (.slice (some ⟨g4, 0, none⟩) (k + 1) q4) (k + 1) (xs ++ [.iface T2 y2]) →
          (w2.alloc (.cells #[.iface T2 y2] 55)).grownBy w3 (Value.slice oa k c).ownBlock → ((Value.slice oa k c).ownBlock = some g4 ∨ g4 = (w2.alloc (.cells #[.iface T2 y2] 55)).heap.size) → _ := fun g4 q4 w3 ho4 hg4 hw4 =>
        RowN.next (by have := HAX.out.size; omega) HA.out ha2 HR.out HPL.out hev2 ho4 hg4 hw4
      have HLASTF := Lib.hid hlast
      have HHO := Lib.hid hHO
      have HNEWS := Lib.hid hnews
      have HB5 := Lib.hid hb5
      clear k1 hev2 ha2 hnw hRow2 hHO hnews hb5 hlast
      go_wp2_with (at_builtin; refine Go.wpList_append_lies _ (by rfl) _ _ 121 (by rfl) X.heap.size 55 i0 .nilIface 1 16 hun hi0 hz0 hz1 hz2 rfl (by decide) _ _ _ (by rfl) HHO.out ⟨w2.heap.size, 0, none⟩ 1 1 [.iface T2 y2] (by rfl) (by rfl) HNEWS.out (by simp [Value.oneCell']) (by omega) (by unfold maxLen; omega) (by omega) HB5.out _ rfl ?_; intro g4 q4 w3 ho4 hg4 hw4 hlt4; have hl3 := HLASTF.out g4 q4 w3 ho4 hg4 hw4; have HLA := Lib.hid hl3.1; have HLR := Lib.hid hl3.2; clear hl3 ho4 hg4 hw4)
      go_roundw
      case rel => exact ⟨k + 1, _, _, _, by go_num, rfl, by omega, HLA.out, Lib.hid (by rw [HTK.out]; exact HLR.out)⟩
      case measure => simp [intOf]; omega
    · obtain rfl : k = us.length := by omega
      have hR := HR.out
      rw [List.take_length] at hR
      have HRR := Lib.hid hR
      clear hR hlt
      go_wp2_with fail
      go_ret
      exact ⟨_, _, rfl, HAX.out.trans HA.out, (HRR.out.ev H0.out HC.out).keep (by rw [HSZ.out]; omega) (Nat.le_refl _) fun _ _ => rfl⟩
end Go.Proofs.YtdjoafnohkmneaaGreatDoor

namespace Go.Proofs.YtdjoafnohkmneaaGreatDoor
open Go.RowKit

set_option maxHeartbeats 2000000
set_option maxRecDepth 100000

theorem two_set {w : World} {b : Nat} {u v : Value} {T : TypeId} (h : w.heap[b]? = some (.cells #[u, v] T (0, 0))) (x y : Value) :
    w.grownBy ((w.setCell ⟨b, 0, none⟩ x).setCell ⟨b, 1, none⟩ y) (some b) ∧ ((w.setCell ⟨b, 0, none⟩ x).setCell ⟨b, 1, none⟩ y).heap[b]? = some (.cells #[x, y] T (0, 0)) :=
  ⟨grown_trans (grown_setx _ _ _ _) (grown_setx _ _ _ _), by simp [World.setCell, Array.getElem?_modify, h]⟩
theorem three_set {w : World} {b : Nat} {u v t : Value} {T : TypeId} (h : w.heap[b]? = some (.cells #[u, v, t] T (0, 0))) (x y z : Value) :
    w.grownBy (((w.setCell ⟨b, 0, none⟩ x).setCell ⟨b, 1, none⟩ y).setCell ⟨b, 2, none⟩ z) (some b) ∧ (((w.setCell ⟨b, 0, none⟩ x).setCell ⟨b, 1, none⟩ y).setCell ⟨b, 2, none⟩ z).heap[b]? = some (.cells #[x, y, z] T (0, 0)) :=
  ⟨grown_trans (grown_trans (grown_setx _ _ _ _) (grown_setx _ _ _ _)) (grown_setx _ _ _ _), by simp [World.setCell, Array.getElem?_modify, h]⟩
theorem after_but {w w1 w2 : World} {b : Nat} (h : After w w1) (hg : w1.grownBy w2 (some b)) (hb : w.heap.size ≤ b) : After w w2 := by
  have h1 := h.size
  have h2 := hg.size
  refine ⟨hg.os.trans h.os, hg.tape.trans h.tape, hg.output.trans h.output, by omega, fun k hk => ?_⟩
  exact (hg.block k (by omega) (fun e => by injection e with e; omega)).trans (h.block k hk)

theorem equality_put (w W : World) (name : List UInt8) (vb : Value) (T1 T2 : TypeId) (x1 x2 : Value) (a b : Ex) (hW : After w W) (h1 : EPOk w (.iface T1 x1) a name vb) (h2 : EPOk w (.iface T2 x2) b name vb) :
    Calls Tryz.prog 157 #[.agg #[.iface T1 x1, .iface T2 x2], str name, vb] W (FPP w.heap.size W (.eq a b)) := by
  obtain ⟨_, _, f1, y1, e0, m1, n1, d1⟩ := h1
  injection e0 with ea eb
  subst ea; subst eb
  obtain ⟨_, _, f2, y2, e0, m2, n2, d2⟩ := h2
  injection e0 with ea eb
  subst ea; subst eb
  obtain ⟨X, hX⟩ : ∃ X, X = W.alloc (.cells #[.iface T1 x1, .iface T2 x2] 88) := ⟨_, rfl⟩
  have hAX : After W X := by rw [hX]; exact After.new _ _
  have hXh : X.heap[W.heap.size]? = some (.cells #[.iface T1 x1, .iface T2 x2] 88 (0, 0)) := by rw [hX]; exact heap_new' _ _
  have p0 : ∀ V, After X V → V.cell? ⟨W.heap.size, 0, none⟩ = some (.iface T1 x1) := fun V hV => cell_of_heap (i := 0) (hV.heap hXh)
  have p1 : ∀ V, After X V → V.cell? ⟨W.heap.size, 1, none⟩ = some (.iface T2 x2) := fun V hV => cell_of_heap (i := 1) (hV.heap hXh)
  have hNW := hW.size
  have hWX := hW.trans hAX
  have hself := After.refl X
  have HX := Lib.hid hX
  have HAX := Lib.hid hAX
  clear hXh hW hAX
  unfold EPP at d1 d2
  go_enter Tryz.func157, Tryz.ntmps157
  clear hX
  go_wp2_with fail
  try rw [← HX.out]
  go_region_held3 (fun W' => After X W') (first | assumption | exact hself.drew | go_keep)
    (first
      | (go_at_fn f1; refine (d1 _ (by exact hWX.trans (by assumption))).mono ?_; rintro e w1 ⟨S1, r1, rfl, ha1, hv1⟩; have hx1 : After X w1 := (by exact After.trans (by assumption) ha1))
      | (go_at_fn f2; refine (d2 _ (by exact hWX.trans (by assumption))).mono ?_; rintro e w2 ⟨S2, r2, rfl, ha2, hv2⟩; have hx2 : After X w2 := (by exact After.trans (by assumption) ha2)))
  have hsd : X.drew.heap.size = X.heap.size := rfl
  have hs1 := HAX.out.size
  have hs2 := hx1.size
  have hs3 := ha2.size
  have g1 := hv1.after (S' := W.heap.size) (by omega) (by omega) ha2
  have g2 := hv2.keep (S' := W.heap.size) (E' := w2.heap.size) (by omega) (Nat.le_refl _) fun _ _ => rfl
  have G1 := Lib.hid g1
  have G2 := Lib.hid g2
  have HX2 := Lib.hid hx2
  clear g1 g2 hv1 hv2 d1 d2
  go_wp2_with fail
  go_ret
  exact ⟨_, _, rfl, HAX.out.trans HX2.out, fun w'' hk => ⟨_, _, rfl, G1.out w'' hk, G2.out w'' hk⟩⟩

/-- What putInBoth makes. -/
def JPP (N : Nat) (W : World) (f g : Fo) (e : Ending) (w' : World) : Prop := ∃ T y S z, e = .returned (.agg #[.iface T y, .iface S z]) ∧ After W w' ∧ FVn w' N W.heap.size w'.heap.size f (.iface T y) ∧ FVn w' N W.heap.size w'.heap.size g (.iface S z)

theorem joined_put (w W : World) (name : List UInt8) (vb : Value) (T1 T2 : TypeId) (x1 x2 : Value) (a b : Fo) (hW : After w W) (h1 : FPOk w (.iface T1 x1) a name vb) (h2 : FPOk w (.iface T2 x2) b name vb) :
    Calls Tryz.prog 165 #[.agg #[.iface T1 x1, .iface T2 x2], str name, vb] W (JPP w.heap.size W a b) := by
  obtain ⟨_, _, f1, y1, e0, m1, n1, d1⟩ := h1
  injection e0 with ea eb
  subst ea; subst eb
  obtain ⟨_, _, f2, y2, e0, m2, n2, d2⟩ := h2
  injection e0 with ea eb
  subst ea; subst eb
  obtain ⟨X, hX⟩ : ∃ X, X = (W.alloc (.cells #[.iface T1 x1, .iface T2 x2] 90)).alloc (.cells #[.nilIface, .nilIface] 90) := ⟨_, rfl⟩
  have hAX : After W X := by rw [hX]; exact (After.new _ _).alloc _
  have hsz : X.heap.size = W.heap.size + 2 := by rw [hX]; simp
  have hXh : X.heap[W.heap.size]? = some (.cells #[.iface T1 x1, .iface T2 x2] 90 (0, 0)) := by rw [hX]; exact heap_below2 _ _ _
  have hXr : X.heap[W.heap.size + 1]? = some (.cells #[.nilIface, .nilIface] 90 (0, 0)) := by rw [hX]; exact heap_top2 _ _ _
  have p0 : ∀ V, After X V → V.cell? ⟨W.heap.size, 0, none⟩ = some (.iface T1 x1) := fun V hV => cell_of_heap (i := 0) (hV.heap hXh)
  have p1 : ∀ V, After X V → V.cell? ⟨W.heap.size, 1, none⟩ = some (.iface T2 x2) := fun V hV => cell_of_heap (i := 1) (hV.heap hXh)
  have q0 : ∀ V, After X V → V.heap[W.heap.size + 1]? = some (.cells #[.nilIface, .nilIface] 90 (0, 0)) := fun V hV => hV.heap hXr
  have hNW := hW.size
  have hWX := hW.trans hAX
  have hself := After.refl X
  have HX := Lib.hid hX
  have HAX := Lib.hid hAX
  have HSZ := Lib.hid hsz
  have HQ0 := Lib.hid q0
  clear hXh hXr hW hAX hsz q0
  unfold FPP at d1 d2
  go_enter Tryz.func165, Tryz.ntmps165
  clear hX
  go_wp2_with fail
  try rw [← HX.out]
  go_region_with (first
      | (go_at_fn f1; refine (d1 _ (by exact hWX.trans (by first | exact hself | exact hself.drew))).mono ?_; rintro e w1 ⟨S1, r1, rfl, ha1, hv1⟩; have hx1 : After X w1 := (by exact After.trans (by first | exact hself | exact hself.drew) ha1); have HQ1 := p1 _ hx1)
      | (go_at_fn f2; refine (d2 _ (by exact hWX.trans hx1)).mono ?_; rintro e w2 ⟨S2, r2, rfl, ha2, hv2⟩; have hx2 : After X w2 := hx1.trans ha2; have hq := cell_of_heap (i := 0) (HQ0.out _ hx2); have hq1 := cell_of_heap (i := 1) (HQ0.out _ hx2); have hqf : w2.frozen? ⟨W.heap.size + 1, 0, none⟩ = false := (by simp [World.frozen?, HQ0.out _ hx2]); have hqg : w2.frozen? ⟨W.heap.size + 1, 1, none⟩ = false := (by simp [World.frozen?, HQ0.out _ hx2])))
  all_goals
    have hqq := HQ0.out _ hx2
    have hsd : X.drew.heap.size = X.heap.size := rfl
    have hs0 := HSZ.out
    have hs2 := hx1.size
    have hs3 := ha2.size
    have hZ := two_set hqq (.iface S1 r1) (.iface S2 r2)
    generalize (w2.setCell ⟨W.heap.size + 1, 0, none⟩ (.iface S1 r1)).setCell ⟨W.heap.size + 1, 1, none⟩ (.iface S2 r2) = Z at *
    obtain ⟨hg, hzh⟩ := hZ
    have hAZ : After W Z := after_but (HAX.out.trans hx2) hg (by omega)
    have hzs := hg.size
    have g1 := hv1.keep (w' := Z) (S' := W.heap.size) (E' := Z.heap.size) (by omega) (by omega) fun k hk => (hg.block k (by omega) (fun e => by injection e with e; omega)).trans (ha2.block k (by omega))
    have g2 := hv2.keep (w' := Z) (S' := W.heap.size) (E' := Z.heap.size) (by omega) (by omega) fun k hk => hg.block k (by omega) (fun e => by injection e with e; omega)
    have z0 : Z.cell? ⟨W.heap.size + 1, 0, none⟩ = some (.iface S1 r1) := cell_of_heap (i := 0) hzh
    have z1 : Z.cell? ⟨W.heap.size + 1, 1, none⟩ = some (.iface S2 r2) := cell_of_heap (i := 1) hzh
    have G1 := Lib.hid g1
    have G2 := Lib.hid g2
    have HAZ := Lib.hid hAZ
    clear g1 g2 hv1 hv2 d1 d2 hq hq1 hqf hqg hqq hg hzh hAZ hzs p0 p1
    go_wp2_with fail
    exact bodyPost_ret (v := .agg #[.iface S1 r1, .iface S2 r2]) (by simp [results, Tryz.results165, go_sem, z0, z1]) rfl ⟨_, _, _, _, rfl, HAZ.out, G1.out, G2.out⟩

theorem bound_put_eq (W : World) (x : List UInt8) (vb : Value) (m : Int) (T : TypeId) (z : Value) :
    Calls Tryz.prog 179 #[.agg #[str x, .int .i64 m, .iface T z], str x, vb] W fun e w' => e = .returned (.agg #[str x, .int .i64 m, .iface T z]) ∧ After W w' := by
  go_enter Tryz.func179, Tryz.ntmps179
  go_wp2_with fail
  exact bodyPost_ret (v := .agg #[str x, .int .i64 m, .iface T z]) (by simp [results, Tryz.results179, go_sem]) rfl ⟨rfl, by repeat (first | exact After.refl _ | refine After.alloc ?_ _ | refine Below.setCell ?_ (by first | exact Nat.le_refl _ | exact Nat.le_succ _) _)⟩

/-- What putInBody makes. -/
def BPP (N : Nat) (W : World) (x : List UInt8) (m : Int) (f : Fo) (e : Ending) (w' : World) : Prop := ∃ T y, e = .returned (.agg #[str x, .int .i64 m, .iface T y]) ∧ After W w' ∧ FVn w' N W.heap.size w'.heap.size f (.iface T y)

theorem bound_put_ne (w W : World) (name x : List UInt8) (vb : Value) (m : Int) (T1 : TypeId) (x1 : Value) (a : Fo) (hne : name ≠ x) (hW : After w W) (h1 : FPOk w (.iface T1 x1) a name vb) :
    Calls Tryz.prog 179 #[.agg #[str x, .int .i64 m, .iface T1 x1], str name, vb] W (BPP w.heap.size W x m a) := by
  have hb : (name == x) = false := beq_eq_false_iff_ne.2 hne
  obtain ⟨_, _, f1, y1, e0, m1, n1, d1⟩ := h1
  injection e0 with ea eb
  subst ea; subst eb
  obtain ⟨X, hX⟩ : ∃ X, X = (W.alloc (.cells #[str x, .int .i64 m, .iface T1 x1] 96)).alloc (.cells #[str [], .int .i64 0, .nilIface] 96) := ⟨_, rfl⟩
  have hAX : After W X := by rw [hX]; exact (After.new _ _).alloc _
  have hsz : X.heap.size = W.heap.size + 2 := by rw [hX]; simp
  have hXh : X.heap[W.heap.size]? = some (.cells #[str x, .int .i64 m, .iface T1 x1] 96 (0, 0)) := by rw [hX]; exact heap_below2 _ _ _
  have hXr : X.heap[W.heap.size + 1]? = some (.cells #[str [], .int .i64 0, .nilIface] 96 (0, 0)) := by rw [hX]; exact heap_top2 _ _ _
  have p0 : ∀ V, After X V → V.cell? ⟨W.heap.size, 0, none⟩ = some (str x) := fun V hV => cell_of_heap (i := 0) (hV.heap hXh)
  have p1 : ∀ V, After X V → V.cell? ⟨W.heap.size, 1, none⟩ = some (.int .i64 m) := fun V hV => cell_of_heap (i := 1) (hV.heap hXh)
  have p2 : ∀ V, After X V → V.cell? ⟨W.heap.size, 2, none⟩ = some (.iface T1 x1) := fun V hV => cell_of_heap (i := 2) (hV.heap hXh)
  have q0 : ∀ V, After X V → V.heap[W.heap.size + 1]? = some (.cells #[str [], .int .i64 0, .nilIface] 96 (0, 0)) := fun V hV => hV.heap hXr
  have hNW := hW.size
  have hWX := hW.trans hAX
  have hself := After.refl X
  have r0 := p0 X hself
  have r1 := p1 X hself
  have r2 := p2 X hself
  have HP0 := Lib.hid p0
  have HP1 := Lib.hid p1
  have HX := Lib.hid hX
  have HAX := Lib.hid hAX
  have HSZ := Lib.hid hsz
  have HQ0 := Lib.hid q0
  clear hXh hXr hW hAX hsz q0 hne p0 p1 p2
  unfold FPP at d1
  go_enter Tryz.func179, Tryz.ntmps179
  clear hX
  go_wp2_with fail
  try rw [← HX.out]
  go_region_with (go_at_fn f1; refine (d1 _ (by exact hWX.trans (by first | exact hself | exact hself.drew))).mono ?_; rintro e w1 ⟨S1, y2, rfl, ha1, hv1⟩; have hx1 : After X w1 := (by exact After.trans (by first | exact hself | exact hself.drew) ha1); have s0 := HP0.out _ hx1; have s1 := HP1.out _ hx1; have hq := cell_of_heap (i := 0) (HQ0.out _ hx1); have hq1 := cell_of_heap (i := 1) (HQ0.out _ hx1); have hq2 := cell_of_heap (i := 2) (HQ0.out _ hx1); have hqf : w1.frozen? ⟨W.heap.size + 1, 0, none⟩ = false := (by simp [World.frozen?, HQ0.out _ hx1]); have hqg : w1.frozen? ⟨W.heap.size + 1, 1, none⟩ = false := (by simp [World.frozen?, HQ0.out _ hx1]); have hqh : w1.frozen? ⟨W.heap.size + 1, 2, none⟩ = false := (by simp [World.frozen?, HQ0.out _ hx1]))
  all_goals
    have hqq := HQ0.out _ hx1
    have hsd : X.drew.heap.size = X.heap.size := rfl
    have hs0 := HSZ.out
    have hs2 := hx1.size
    have hZ := three_set hqq (str x) (.int .i64 m) (.iface S1 y2)
    unfold str at hZ
    generalize ((w1.setCell ⟨W.heap.size + 1, 0, none⟩ (.string ⟨x.toArray⟩)).setCell ⟨W.heap.size + 1, 1, none⟩ (.int .i64 m)).setCell ⟨W.heap.size + 1, 2, none⟩ (.iface S1 y2) = Z at *
    obtain ⟨hg, hzh⟩ := hZ
    have hAZ : After W Z := after_but (HAX.out.trans hx1) hg (by omega)
    have hzs := hg.size
    have g1 := hv1.keep (w' := Z) (S' := W.heap.size) (E' := Z.heap.size) (by omega) (by omega) fun k hk => hg.block k (by omega) (fun e => by injection e with e; omega)
    have z0 : Z.cell? ⟨W.heap.size + 1, 0, none⟩ = some (str x) := cell_of_heap (i := 0) hzh
    have z1 : Z.cell? ⟨W.heap.size + 1, 1, none⟩ = some (.int .i64 m) := cell_of_heap (i := 1) hzh
    have z2 : Z.cell? ⟨W.heap.size + 1, 2, none⟩ = some (.iface S1 y2) := cell_of_heap (i := 2) hzh
    have G1 := Lib.hid g1
    have HAZ := Lib.hid hAZ
    clear g1 hv1 d1 hq hq1 hq2 hqf hqg hqh hqq hg hzh hAZ hzs s0 s1 r0 r1 r2
    go_wp2_with fail
    exact bodyPost_ret (v := .agg #[str x, .int .i64 m, .iface S1 y2]) (by simp [results, Tryz.results179, go_sem, z0, z1, z2]) rfl ⟨_, _, rfl, HAZ.out, G1.out⟩
end Go.Proofs.YtdjoafnohkmneaaGreatDoor

namespace Go.Proofs.YtdjoafnohkmneaaGreatDoor
open Go.RowKit

set_option maxHeartbeats 1000000
set_option maxRecDepth 100000

theorem s_binds (w : World) (x : List UInt8) : Calls Tryz.prog 60 #[str x] w fun e w' => e = .returned (.bool (decide (x = Fm.wAll ∨ x = Fm.wEx))) ∧ w = w' := by
  by_cases h1 : x = Fm.wAll
  · rw [decide_eq_true (Or.inl h1)]
    subst h1
    go_enter Tryz.func60, Tryz.ntmps60
    go_wp2_with fail
    go_ret
    exact ⟨rfl, rfl⟩
  by_cases h2 : x = Fm.wEx
  · rw [decide_eq_true (Or.inr h2)]
    subst h2
    clear h1
    go_enter Tryz.func60, Tryz.ntmps60
    go_wp2_with fail
    go_ret
    exact ⟨rfl, rfl⟩
  · rw [decide_eq_false (by rintro (h | h); exact h1 h; exact h2 h)]
    have e1 : (x == [97, 108, 108]) = false := beq_eq_false_iff_ne.2 h1
    have e2 : (x == [101, 120]) = false := beq_eq_false_iff_ne.2 h2
    clear h1 h2
    go_enter Tryz.func60, Tryz.ntmps60
    go_wp2_with fail
    go_ret
    exact ⟨rfl, rfl⟩

def WideIH (d : Nat) : Prop := ∀ (t : SX) (w : World) (B : Nat) (v : Value), SV w B t v → GoodX t → Fm.wOk d t → Calls Tryz.prog 50 #[v] w fun e w' => e = .returned (.int .i64 (Fm.wdS d t : Nat)) ∧ After w w'

def foldW (qs : List Nat) (k : Nat) : Nat := (qs.tail.take (k - 1)).foldl max 1
theorem foldW_le (qs : List Nat) (k : Nat) (h : ∀ q ∈ qs, q ≤ 301) : foldW qs k ≤ 301 := by
  unfold foldW
  have hg : ∀ (l : List Nat) (n : Nat), n ≤ 301 → (∀ q ∈ l, q ≤ 301) → l.foldl max n ≤ 301 := by
    intro l
    induction l with
    | nil => intro n h _; exact h
    | cons q l ih => intro n h1 h2; exact ih _ (Nat.max_le.2 ⟨h1, h2 q (by simp)⟩) fun q' hq => h2 q' (by simp [hq])
  exact hg _ _ (by omega) fun q hq => h q (List.mem_of_mem_tail (List.mem_of_mem_take hq))
theorem foldW_snoc (qs : List Nat) (k : Nat) (h1 : 1 ≤ k) (h : k < qs.length) : foldW qs (k + 1) = max (foldW qs k) qs[k] := by
  unfold foldW
  obtain ⟨i, rfl⟩ : ∃ i, k = i + 1 := ⟨k - 1, by omega⟩
  rw [show i + 1 + 1 - 1 = i + 1 by omega, show i + 1 - 1 = i by omega, List.take_succ_eq_append_getElem (by rw [List.length_tail]; omega), List.foldl_append, List.getElem_tail]
  rfl

theorem foldW_all (d : Nat) (ps : List SX) : ps.tail.foldl (fun n p => max n (Fm.wdS d p)) 1 = foldW (ps.map (Fm.wdS d)) (ps.map (Fm.wdS d)).length := by
  unfold foldW
  rw [List.take_of_length_le (by rw [List.length_tail]; omega), ← List.map_tail, List.foldl_map]

theorem wide_res {d : Nat} {ps : List SX} (h : Fm.wOk (d + 1) (.node ps)) :
    (¬ (headX (.node ps) = Fm.wAll ∨ headX (.node ps) = Fm.wEx) ∧ Fm.wdS (d + 1) (.node ps) = foldW (ps.map (Fm.wdS d)) (ps.map (Fm.wdS d)).length) ∨
    ((headX (.node ps) = Fm.wAll ∨ headX (.node ps) = Fm.wEx) ∧ 3 ≤ ps.length ∧ ∃ m : Nat, m ≤ 60 ∧ (numI (wordX ps 2) = m ∨ (numI (wordX ps 2) = -1 ∧ m = 0)) ∧ Fm.wdS (d + 1) (.node ps) = min 301 (foldW (ps.map (Fm.wdS d)) (ps.map (Fm.wdS d)).length * max 1 m)) := by
  rw [← foldW_all]
  obtain ⟨⟨w, r, rfl, hx⟩, _⟩ := h
  by_cases hw : w = Fm.wAll ∨ w = Fm.wEx
  · obtain ⟨x, a, r', rfl⟩ := hx hw
    refine Or.inr ⟨hw, by simp, ((Fm.num6 a).getD 0), ?_, ?_, ?_⟩
    · cases h : Fm.num6 a with
      | none => simp
      | some m => simpa using (Fm.numOf_some h).2.2
    · show numI a = _ ∨ (numI a = _ ∧ _)
      rw [numI_eq]
      cases Fm.num6 a with
      | none => exact Or.inr ⟨rfl, rfl⟩
      | some m => exact Or.inl rfl
    · simp only [Fm.wdS, if_pos hw]
  · refine Or.inl ⟨hw, ?_⟩
    simp only [Fm.wdS]
    split
    · rename_i h
      injection h with h1 h2
      injection h1 with h1
      subst h1
      rw [if_neg hw]
    · rfl

theorem s_wide_node (d : Nat) (ih : WideIH d) (ps : List SX) (w : World) (B : Nat) (v : Value) (h : SV w B (.node ps) v) (hg : GoodX (.node ps)) (hd : Fm.wOk (d + 1) (.node ps)) :
    Calls Tryz.prog 50 #[v] w fun e w' => e = .returned (.int .i64 (Fm.wdS (d + 1) (.node ps) : Nat)) ∧ After w w' := by
  obtain ⟨b, cap, rfl, hp⟩ := h.part
  have hA := After.new w (.cells #[.string ⟨#[]⟩, .slice (some ⟨b, 0, none⟩) ps.length cap] 35)
  have hb := heap_new' w (.cells #[.string ⟨#[]⟩, .slice (some ⟨b, 0, none⟩) ps.length cap] 35)
  have hhead := fun W (hW : After w W) => s_head _ B (.node ps) _ (h.after hW) hg.1
  have hn1 : 1 ≤ ps.length := by
    obtain ⟨⟨x, r, e, _⟩, _⟩ := hd
    rw [e]; simp
  have hpart : ∀ j (hj : j < ps.length), ∃ (ao : Option Addr) (n c : Nat), ∀ W, After w W → W.cell? ⟨b, j * 2, none⟩ = some (str (wordX ps j)) ∧ W.cell? ⟨b, j * 2 + 1, none⟩ = some (.slice ao n c) ∧
      Calls Tryz.prog 50 #[.agg #[str (wordX ps j), .slice ao n c]] W fun e w' => e = .returned (.int .i64 (Fm.wdS d ps[j] : Nat)) ∧ After W w' := fun j hj => by
    obtain ⟨ao, c, hc, hs⟩ := hp j hj
    rw [wordX_of hj]
    exact ⟨ao, _, c, fun W hW => ⟨(hc W hW).1, (hc W hW).2, ih _ _ _ _ (hs.after hW) (hg.part (List.getElem_mem hj)) (hd.2 _ (List.getElem_mem hj))⟩⟩
  have hqn : ps.length ≤ 1000000000 := by
    have h1 := Fm.sxTexts_len ps
    have h2 := hg.2
    simp only [Fm.sxText, List.length_cons] at h2
    omega
  obtain ⟨qs, hqs⟩ : ∃ qs, qs = ps.map (Fm.wdS d) := ⟨_, rfl⟩
  have hql : qs.length = ps.length := by rw [hqs]; simp
  have hq3 : ∀ q ∈ qs, q ≤ 301 := fun q hq => by
    rw [hqs] at hq
    obtain ⟨p, _, rfl⟩ := List.mem_map.1 hq
    exact Fm.wdS_le d p
  have hpart2 : ∀ j (hj : j < qs.length), ∃ (ao : Option Addr) (n c : Nat), ∀ W, After w W → W.cell? ⟨b, j * 2, none⟩ = some (str (wordX ps j)) ∧ W.cell? ⟨b, j * 2 + 1, none⟩ = some (.slice ao n c) ∧
      Calls Tryz.prog 50 #[.agg #[str (wordX ps j), .slice ao n c]] W fun e w' => e = .returned (.int .i64 (qs[j] : Nat)) ∧ After W w' := fun j hj => by
    subst hqs
    have := hpart j (by simpa using hj)
    simpa using this
  obtain ⟨R, hR⟩ : ∃ R, R = Fm.wdS (d + 1) (.node ps) := ⟨_, rfl⟩
  have hwr := wide_res hd
  rw [← hR, ← hqs] at hwr
  rw [← hR]
  have hbd := fun W => s_binds W (headX (.node ps))
  have hnum : 2 < ps.length → ∀ W, Calls Tryz.prog 57 #[str (wordX ps 2)] W fun e w' => e = .returned (.int .i64 (numI (wordX ps 2))) ∧ W = w' := fun hj W => s_num W _ (by
    rw [wordX_of hj]
    have := (hg.part (List.getElem_mem hj)).2
    cases hpj : ps[2] with
    | atom a => rw [hpj] at this; simpa only [Fm.sxText, atomX] using this
    | node qs => simp [atomX])
  generalize headX (.node ps) = x at *
  rw [← hql] at hwr hnum
  have HWR := Lib.hid hwr
  have HBD := Lib.hid hbd
  have HNUM := Lib.hid hnum
  clear hwr hbd hnum hR
  have HP := Lib.hid hpart2
  have HQ := Lib.hid hq3
  rw [← hql] at hhead
  have HH := Lib.hid hhead
  rw [← hql] at hA hb hn1 hqn ⊢
  have c1 : (w.alloc (.cells #[.string ⟨#[]⟩, .slice (some ⟨b, 0, none⟩) qs.length cap] 35)).cell? ⟨w.heap.size, 1, none⟩ = some (.slice (some ⟨b, 0, none⟩) qs.length cap) := cell_of_heap (i := 1) hb
  have HB := Lib.hid hb
  have HA := Lib.hid hA
  clear hpart hpart2 hqs hp h hg hd ih hb hA hhead hq3 hql
  go_enter Tryz.func50, Tryz.ntmps50
  go_wp2_with fail
  clear c1
  generalize hW0 : w.alloc (.cells #[.string ⟨#[]⟩, .slice (some ⟨b, 0, none⟩) qs.length cap] 35) = W0 at *
  clear hW0
  go_loopw [3, 4] (fun v i wr => ∃ k : Nat, i = .int .i64 k ∧ 1 ≤ k ∧ k ≤ qs.length ∧ v = .int .i64 (foldW qs k : Nat) ∧ After W0 wr) (fun _ i _ => qs.length - (intOf i).toNat)
  case atStart => exact ⟨1, rfl, Nat.le_refl _, hn1, rfl, After.refl _⟩
  case round =>
    obtain ⟨k, rfl, hk1, hk, rfl, ha⟩ := hrel
    have d1 : wr.cell? ⟨w.heap.size, 1, none⟩ = some (.slice (some ⟨b, 0, none⟩) qs.length cap) := cell_of_heap (i := 1) (ha.heap HB.out)
    by_cases hlt : k < qs.length
    · have hlti : (k : Int) < (qs.length : Int) := by omega
      obtain ⟨ao, m, c, hc⟩ := HP.out k hlt
      obtain ⟨p0, p1, hcall⟩ := hc wr (HA.out.trans ha)
      have HN := Lib.hid (foldW_snoc qs k hk1 hlt)
      have hV := foldW_le qs k HQ.out
      have hz := HQ.out qs[k] (List.getElem_mem hlt)
      clear hc
      generalize foldW qs k = V at *
      generalize qs[k] = z at *
      go_wp2_with fail
      refine hcall.mono ?_
      rintro e w2 ⟨rfl, ha2⟩
      clear hcall
      go_wp2_with fail
      go_roundw
      case rel => exact ⟨k + 1, by go_num, by omega, by omega, by rw [HN.out]; exact congrArg (Value.int .i64) (by omega), ha.trans ha2⟩
      case measure => simp [intOf]; omega
    · obtain rfl : k = qs.length := by omega
      have hV := foldW_le qs qs.length HQ.out
      have hh := HH.out wr (HA.out.trans ha)
      have d0 : wr.cell? ⟨w.heap.size, 0, none⟩ = some (.string ⟨#[]⟩) := cell_of_heap (i := 0) (ha.heap HB.out)
      rcases HWR.out with ⟨hx, hres⟩ | ⟨hx, h3, m, hm, hnm, hres⟩
      · have HRS := Lib.hid hres
        have hbd := fun W => HBD.out W
        rw [decide_eq_false hx] at hbd
        clear hres hx
        go_wp2_with fail
        refine hh.mono ?_
        rintro e w2 ⟨rfl, ha2⟩
        clear hh d0 d1
        go_wp2_with fail
        refine (hbd _).mono ?_
        rintro e w3 ⟨rfl, rfl⟩
        clear hbd
        go_wp2_with fail
        go_ret
        exact ⟨by rw [HRS.out]; rfl, (HA.out.trans ha).trans ha2⟩
      · have HRS := Lib.hid hres
        have hbd := fun W => HBD.out W
        rw [decide_eq_true hx] at hbd
        have hnu := HNUM.out h3
        obtain ⟨ao, m', c, hc⟩ := HP.out 2 h3
        clear hres hx
        generalize foldW qs qs.length = V at *
        go_wp2_with fail
        refine hh.mono ?_
        rintro e w2 ⟨rfl, ha2⟩
        have d1' : w2.cell? ⟨w.heap.size, 1, none⟩ = some (.slice (some ⟨b, 0, none⟩) qs.length cap) := cell_of_heap (i := 1) ((ha.trans ha2).heap HB.out)
        obtain ⟨p0, _, _⟩ := hc w2 ((HA.out.trans ha).trans ha2)
        clear hh d0 d1 hc
        go_wp2_with fail
        refine (hbd _).mono ?_
        rintro e w3 ⟨rfl, rfl⟩
        clear hbd
        go_wp2_with fail
        refine (hnu _).mono ?_
        rintro e w3 ⟨rfl, rfl⟩
        clear hnu
        generalize numI (wordX ps 2) = z at *
        have hzm : max 1 z = ((max 1 m : Nat) : Int) := by omega
        have hM : max 1 m ≤ 60 := by omega
        clear hnm hm
        generalize max 1 m = M at *
        have hmul : V * M ≤ 301 * 60 := Nat.mul_le_mul hV hM
        have hcast : (V : Int) * (M : Int) = ((V * M : Nat) : Int) := by simp
        generalize hP : V * M = P at *
        have hw : wrap64 (P : Int) = (P : Int) := by unfold wrap64; omega
        have hmin : ((min 301 P : Nat) : Int) = min 301 (P : Int) := by omega
        have HRS2 : Hid ((R : Int) = min 301 (P : Int)) := by show _ = _; rw [HRS.out, hmin]
        clear hP hmin HRS
        go_wp2_with fail
        go_ret
        exact ⟨by rw [HRS2.out]; rfl, (HA.out.trans ha).trans ha2⟩

theorem s_wide_atom (w : World) (B d : Nat) (a : List UInt8) (v : Value) (h : SV w B (.atom a) v) (hg : GoodX (.atom a)) : Calls Tryz.prog 50 #[v] w fun e w' => e = .returned (.int .i64 (Fm.wdS (d + 1) (.atom a) : Nat)) ∧ After w w' := by
  have hh := fun W (hW : After w W) => s_head W B (.atom a) _ (h.after hW) hg.1
  simp only [SV] at h
  subst h
  have hA := After.new w (.cells #[str a, .slice none 0 0] 35)
  have hb := heap_new' w (.cells #[str a, .slice none 0 0] 35)
  have hcall := hh _ hA
  rw [show headX (.atom a) = [] from rfl] at hcall
  have hbd := fun W => s_binds W []
  rw [show decide (([] : List UInt8) = Fm.wAll ∨ [] = Fm.wEx) = false from rfl] at hbd
  have c0 : (w.alloc (.cells #[str a, .slice none 0 0] 35)).cell? ⟨w.heap.size, 0, none⟩ = some (str a) := cell_of_heap (i := 0) hb
  have c1 : (w.alloc (.cells #[str a, .slice none 0 0] 35)).cell? ⟨w.heap.size, 1, none⟩ = some (.slice none 0 0) := cell_of_heap (i := 1) hb
  have HA := Lib.hid hA
  clear hh hA hb
  go_enter Tryz.func50, Tryz.ntmps50
  go_wp2_with fail
  generalize hW0 : w.alloc (.cells #[str a, .slice none 0 0] 35) = W0 at *
  clear hW0
  go_loopw [3, 4] (fun v i wr => v = .int .i64 1 ∧ i = .int .i64 1 ∧ W0 = wr) (fun _ i _ => 0)
  case atStart => exact ⟨rfl, rfl, rfl⟩
  case round =>
    obtain ⟨rfl, rfl, rfl⟩ := hrel
    go_wp2_with fail
    refine hcall.mono ?_
    rintro e w1 ⟨rfl, ha⟩
    clear hcall c0 c1
    go_wp2_with fail
    refine (hbd _).mono ?_
    rintro e w2 ⟨rfl, rfl⟩
    clear hbd
    go_wp2_with fail
    go_ret
    exact ⟨rfl, HA.out.trans ha⟩

theorem s_wide : ∀ d, WideIH d
  | 0 => fun _ _ _ _ _ _ h => absurd h (by simp [Fm.wOk])
  | d + 1 => fun t w B v h hg hd => by
    cases t with
    | atom a => exact s_wide_atom w B d a v h hg
    | node ps => exact s_wide_node d (s_wide d) ps w B v h hg hd
end Go.Proofs.YtdjoafnohkmneaaGreatDoor

namespace Go.Proofs.YtdjoafnohkmneaaGreatDoor
open Go.RowKit

set_option maxHeartbeats 4000000
set_option maxRecDepth 100000

theorem RowP.later {w w' : World} {N base base1 : Nat} {sv : Value} {ps : List SX} {xs : List Value} (h : RowP w N base base1 sv ps xs) (hN : N ≤ w.heap.size) (ha : After w w') : RowP w' N base base1 sv ps xs := by
  have hg : w.grownBy w' none := ⟨ha.os, ha.tape, ha.output, ha.size, fun k hk _ => ha.block k hk⟩
  refine ⟨h.1.kept hg ?_, fun j hj => ?_⟩
  · cases hv : sv.ownBlock with
    | none => exact Or.inl rfl
    | some g => exact Or.inr (by simp)
  · obtain ⟨S, E, h2, h3, h4, h5⟩ := h.2 j hj
    exact ⟨S, E, h2, Nat.le_trans h3 ha.size, h4, h5.imp fun _ h => h.keep (Nat.le_refl _) (Nat.le_refl _) fun k hk => ha.block k (by omega)⟩

theorem RowP.next {X wr W3 W4 : World} {N q g4 q4 k : Nat} {ps : List SX} {xs : List Value} {t : SX} {s : List UInt8} {sl : Value} {o : Obj} {ao : Option Addr} {c : Nat} (hN : N ≤ X.heap.size) (hqX : X.heap.size ≤ q) (hA : After X wr) (hA3 : After wr W3)
    (hq : wr.heap[q]? = some (.cells #[.string ⟨#[]⟩, .slice ao k c] 35 (0, 0))) (hrow : RowP wr N X.heap.size (q + 1) (.slice ao k c) ps xs) (hpl : ps.length = k) (hne : ∀ g, (Value.slice ao k c).ownBlock = some g → g ≠ q) (hev : SVn W3 N wr.heap.size W3.heap.size t (.agg #[str s, sl]))
    (ho4 : W4.ownsRow X.heap.size 35 2 (.slice (some ⟨g4, 0, none⟩) (k + 1) q4) (k + 1) (xs ++ [str s, sl])) (hg4 : (W3.alloc o).grownBy W4 (Value.slice ao k c).ownBlock) (hw4 : (Value.slice ao k c).ownBlock = some g4 ∨ g4 = (W3.alloc o).heap.size) :
    (After X (W4.setCell ⟨q, 1, none⟩ (.slice (some ⟨g4, 0, none⟩) (k + 1) q4)) ∧ (W4.setCell ⟨q, 1, none⟩ (.slice (some ⟨g4, 0, none⟩) (k + 1) q4)).heap[q]? = some (.cells #[.string ⟨#[]⟩, .slice (some ⟨g4, 0, none⟩) (k + 1) q4] 35 (0, 0)) ∧
      RowP (W4.setCell ⟨q, 1, none⟩ (.slice (some ⟨g4, 0, none⟩) (k + 1) q4)) N X.heap.size (q + 1) (.slice (some ⟨g4, 0, none⟩) (k + 1) q4) (ps ++ [t]) (xs ++ [str s, sl]) ∧ ∀ g, (Value.slice (some ⟨g4, 0, none⟩) (k + 1) q4).ownBlock = some g → g ≠ q) ∧
    W4.cell? ⟨q, 1, none⟩ = some (.slice ao k c) ∧ W4.frozen? ⟨q, 1, none⟩ = false ∧ After X W4 := by
  subst hpl
  have hown : ∀ g, (Value.slice ao ps.length c).ownBlock = some g → X.heap.size ≤ g ∧ g < wr.heap.size := fun g hg => hrow.1.lt g hg
  have hqw := (Array.getElem?_eq_some_iff.1 hq).1
  have h1 := hA.size
  have h2 := hA3.size
  have hsz : (W3.alloc o).heap.size = W3.heap.size + 1 := by simp
  have h4 := hg4.size
  have hq4 : W4.heap[q]? = some (.cells #[.string ⟨#[]⟩, .slice ao ps.length c] 35 (0, 0)) := by
    rw [hg4.block q (by omega) (fun e => hne q e.symm rfl), (below_new W3 o).block q (by omega), hA3.block q hqw]
    exact hq
  have hset := grown_setx W4 q 1 (.slice (some ⟨g4, 0, none⟩) (ps.length + 1) q4)
  have hneq : ∀ g, (Value.slice (some ⟨g4, 0, none⟩) (ps.length + 1) q4).ownBlock = some g → g ≠ q := fun g hg => by
    have e : g4 = g := by simpa [Value.ownBlock] using hg
    subst e
    rcases hw4 with h | h
    · exact hne _ h
    · omega
  have hpush := (hrow.later (by omega) hA3).push (hN := hN) (hNw := by omega) (S := wr.heap.size) (by omega) (fun g hg => (hown g hg).2) hev o ho4 hg4 (by
    rcases hw4 with h | h
    · left; rw [h]; rfl
    · right; rw [h]; rfl)
  have hX4 : After X W4 := by
    have hX3 := hA.trans hA3
    refine ⟨by rw [hg4.os]; exact hX3.os, by rw [hg4.tape]; exact hX3.tape, by rw [hg4.output]; exact hX3.output, by omega, fun j hj => ?_⟩
    rw [hg4.block j (by omega) (fun e => by have := hown _ e.symm; omega), (below_new W3 o).block j (by omega)]
    exact hX3.block j hj
  refine ⟨⟨after_but hX4 hset hqX, ?_, hpush.grown (by omega) (by omega) hset (by omega) hneq, hneq⟩, cell_of_heap (i := 1) hq4, by simp [World.frozen?, hq4], hX4⟩
  simp [World.setCell, Array.getElem?_modify, hq4]

/-- What the walk of a round reads stays. -/
structure SOut (X : World) (q : Nat) (sl : Value) (V : World) : Prop where
  a : After X V
  c : V.cell? ⟨q, 1, none⟩ = some sl
theorem SOut.drew {X V : World} {q : Nat} {sl : Value} (h : SOut X q sl V) : SOut X q sl V.drew := ⟨h.a.drew, h.c⟩
theorem SOut.on {X V V' : World} {q : Nat} {sl : Value} (h : SOut X q sl V) (ha : After V V') : SOut X q sl V' := ⟨h.a.trans ha, by
  have hlt : q < V.heap.size := by
    rcases Nat.lt_or_ge q V.heap.size with h1 | h1
    · exact h1
    · have := h.c; simp [World.cell?, Array.getElem?_eq_none h1] at this
  have h2 := h.c
  unfold World.cell? at h2 ⊢
  rw [ha.block q hlt]
  exact h2⟩
theorem SOut.alloc {X V : World} {q : Nat} {sl : Value} (h : SOut X q sl V) (o : Obj) : SOut X q sl (V.alloc o) := h.on (After.new V o)

/-- A call of a Go function, as a step of a region that draws its order. -/
theorem step_call {ops : Array Oper} {o : Oper} {a : Act} {w : World} {K : Act → World → Prop} {Q : Exit → Act → World → Prop} {E : Prop} (hgd : o.guard = none) {f : FuncId} {args : Array Value} (hr : (execOp a.eval o).run Tryz.prog w = .ok (.enter f args) w)
    (hc : Calls Tryz.prog f args w fun e w' => ∃ v, e = .returned v ∧ K (a.put o.dst v) w') : if Region.wanted o (yielded ops a.tmps) = true then Oper.wp Tryz.prog o a w K Q else E := by
  have hw : Region.wanted o (yielded ops a.tmps) = true := by simp [Region.wanted, hgd]
  rw [if_pos hw]
  unfold Oper.wp
  rw [hr]
  refine hc.mono ?_
  rintro e w' ⟨v, rfl, hk⟩
  exact hk

end Go.Proofs.YtdjoafnohkmneaaGreatDoor

namespace Go.Proofs.YtdjoafnohkmneaaGreatDoor
open Go

section
variable {P : Program} (w : World)

/-- What is appended: nothing, or cells that lie there. -/
def SrcOk (w : World) (sv : Value) (news : List Value) : Prop :=
  (news = [] ∧ ∃ ao cap, sv = .slice ao 0 cap) ∨ ∃ ad m c, sv = .slice (some ad) m c ∧ 0 < m ∧ news.length = m ∧ ∀ j u, news[j]? = some u → w.cell? (ad.add j) = some u

theorem run_app {t ty e : TypeId} {i : TypeInfo} {z : Value} {base bytes : Nat} (ht : P.underlying t = some (.slice e)) (hi : P.info? e = some i) (hz : i.zero = some z)
    (hsize : i.size = 1) (hby : i.bytes = bytes) (hzs : z.cells.size = 1)
    {v : Value} {n : Nat} {xs : List Value} (hown : w.ownsRow base e 1 v n xs) {sv : Value} {news : List Value} (hsrc : SrcOk w sv news) (h1 : ∀ u ∈ news, u.oneCell' = true)
    (h63 : n + news.length ≤ maxLen) (hbytes : (n + news.length) * bytes ≤ 140737488355328) (hbase : base ≤ w.heap.size) :
    ∃ v' w', (Builtin.append_ #[t, t] ty #[v, sv]).run P w = .ok v' w' ∧ w'.ownsRow base e 1 v' (n + news.length) (xs ++ news) ∧ w.grownBy w' v.ownBlock := by
  rcases hsrc with ⟨rfl, ao, cap, rfl⟩ | ⟨ad, m, c, rfl, hm, hl, hc⟩
  · refine ⟨v, w, ?_, by simpa using hown, World.grownBy.refl _ _⟩
    rcases hown.2 with ⟨rfl, rfl⟩ | ⟨g, cap', cur, rfl, _, _, hnc, _⟩
    · cases ao <;> simp [Builtin.append_, run_underlying ht, sizeOf, typeInfo, hi, Builtin.lenOf, Builtin.firstCells, loadCells, loadCellsFrom]
    · cases ao <;> simp [Builtin.append_, run_underlying ht, sizeOf, typeInfo, hi, Builtin.lenOf, Builtin.firstCells, loadCells, loadCellsFrom, hnc, storeCells]
  · subst hl
    obtain ⟨v', w', h2, h3, h4, _⟩ := run_append_own (P := P) w base t ty e i z 1 bytes ht hi hz hsize hby hzs (by decide) v n xs hown ad news.length c news (by omega) hc h1 h63 hbytes hbase
    exact ⟨v', w', h2, h3, h4⟩

theorem wp_app {o : Oper} {a : Act} {K : Act → World → Prop} {Q : Exit → Act → World → Prop} (s x : Operand) (t : TypeId)
    (ho : o.op = .call { callee := .builtin .append, args := #[s, x], argTypes := #[t, t] })
    (base : Nat) (e : TypeId) (i : TypeInfo) (z : Value) (bytes : Nat) (ht : P.underlying t = some (.slice e)) (hi : P.info? e = some i) (hz : i.zero = some z)
    (hsize : i.size = 1) (hby : i.bytes = bytes) (hzs : z.cells.size = 1)
    (v : Value) (n : Nat) (xs : List Value) (hs : a.eval s = v) (hown : w.ownsRow base e 1 v n xs) (sv : Value) (news : List Value) (hx : a.eval x = sv) (hsrc : SrcOk w sv news) (h1 : ∀ u ∈ news, u.oneCell' = true)
    (h63 : n + news.length ≤ maxLen) (hbytes : (n + news.length) * bytes ≤ 140737488355328) (hbase : base ≤ w.heap.size)
    (h : ∀ v' w', w'.ownsRow base e 1 v' (n + news.length) (xs ++ news) → w.grownBy w' v.ownBlock → K (a.put o.dst v') w') : o.wp P a w K Q := by
  obtain ⟨v', w', hr, h2, h3⟩ := run_app (P := P) w (t := t) (ty := o.type) ht hi hz hsize hby hzs hown hsrc h1 h63 hbytes hbase
  unfold Oper.wp execOp
  simp only [ho, resolve, invoke, builtin, Sem.run_bind, Sem.run_pure, Result.andThen_ok, List.map_toArray, List.map_cons, List.map_nil, hs, hx, hr]
  exact h v' w' h2 h3

theorem wpList_app {ops : Array Oper} {rest : List Oper} {o : Oper} {a : Act} {Q : Exit → Act → World → Prop} (hgd : o.guard = none) (s x : Operand) (t : TypeId)
    (ho : o.op = .call { callee := .builtin .append, args := #[s, x], argTypes := #[t, t] })
    (base : Nat) (e : TypeId) (i : TypeInfo) (z : Value) (bytes : Nat) (ht : P.underlying t = some (.slice e)) (hi : P.info? e = some i) (hz : i.zero = some z)
    (hsize : i.size = 1) (hby : i.bytes = bytes) (hzs : z.cells.size = 1)
    (v : Value) (n : Nat) (xs : List Value) (hs : a.eval s = v) (hown : w.ownsRow base e 1 v n xs) (sv : Value) (news : List Value) (hx : a.eval x = sv) (hsrc : SrcOk w sv news) (h1 : ∀ u ∈ news, u.oneCell' = true)
    (h63 : n + news.length ≤ maxLen) (hbytes : (n + news.length) * bytes ≤ 140737488355328) (hbase : base ≤ w.heap.size)
    (h : ∀ v' w', w'.ownsRow base e 1 v' (n + news.length) (xs ++ news) → w.grownBy w' v.ownBlock → wpList P ops Q rest (a.put o.dst v') w') : wpList P ops Q (o :: rest) a w :=
  wpList_plain hgd fun _ hK => wp_app w s x t ho base e i z bytes ht hi hz hsize hby hzs v n xs hs hown sv news hx hsrc h1 h63 hbytes hbase fun v' w' h2 h3 => hK _ _ (h v' w' h2 h3)

theorem step_app {ops : Array Oper} {o : Oper} {a : Act} {K : Act → World → Prop} {Q : Exit → Act → World → Prop} {E : Prop} (hgd : o.guard = none) (s x : Operand) (t : TypeId)
    (ho : o.op = .call { callee := .builtin .append, args := #[s, x], argTypes := #[t, t] })
    (base : Nat) (e : TypeId) (i : TypeInfo) (z : Value) (bytes : Nat) (ht : P.underlying t = some (.slice e)) (hi : P.info? e = some i) (hz : i.zero = some z)
    (hsize : i.size = 1) (hby : i.bytes = bytes) (hzs : z.cells.size = 1)
    (v : Value) (n : Nat) (xs : List Value) (hs : a.eval s = v) (hown : w.ownsRow base e 1 v n xs) (sv : Value) (news : List Value) (hx : a.eval x = sv) (hsrc : SrcOk w sv news) (h1 : ∀ u ∈ news, u.oneCell' = true)
    (h63 : n + news.length ≤ maxLen) (hbytes : (n + news.length) * bytes ≤ 140737488355328) (hbase : base ≤ w.heap.size)
    (h : ∀ v' w', w'.ownsRow base e 1 v' (n + news.length) (xs ++ news) → w.grownBy w' v.ownBlock → K (a.put o.dst v') w') :
    if Region.wanted o (yielded ops a.tmps) = true then Oper.wp P o a w K Q else E := by
  have hw : Region.wanted o (yielded ops a.tmps) = true := by simp [Region.wanted, hgd]
  rw [if_pos hw]
  exact wp_app w s x t ho base e i z bytes ht hi hz hsize hby hzs v n xs hs hown sv news hx hsrc h1 h63 hbytes hbase h
end
end Go.Proofs.YtdjoafnohkmneaaGreatDoor

namespace Go.Proofs.YtdjoafnohkmneaaGreatDoor
open Go

section
variable {P : Program} {ops : Array Oper} {Q : Exit → Act → World → Prop} {md : Region.Mode}

/-- How many are not listed. -/
def openN (listed : Array Bool) : Nat := listed.toList.countP fun b => !b

theorem openN_set {listed : Array Bool} {i : Nat} (h : listed.getD i true = false) : openN (listed.setIfInBounds i true) + 1 = openN listed := by
  obtain ⟨l⟩ := listed
  have hi : i < l.length := by
    by_cases hi : i < l.length
    · exact hi
    · simp [Array.getD, hi] at h
  have hf : l[i] = false := by simpa [Array.getD, hi] using h
  show (((⟨l⟩ : Array Bool).setIfInBounds i true).toList.countP fun b => !b) + 1 = l.countP fun b => !b
  have e : ((⟨l⟩ : Array Bool).setIfInBounds i true).toList = l.set i true := by simp
  rw [e]
  clear e h
  induction l generalizing i with
  | nil => simp at hi
  | cons b l ih =>
    cases i with
    | zero =>
      simp only [List.getElem_cons_zero] at hf
      subst hf
      simp
    | succ i =>
      simp only [List.set_cons_succ, List.countP_cons]
      have := ih (i := i) (by simpa using hi) (by simpa using hf)
      omega

theorem ready_open {listed : Array Bool} {i : Nat} (h : i ∈ Region.ready md ops listed) : i < ops.size ∧ listed.getD i true = false ∧ ∃ o, ops[i]? = some o ∧ ∀ e ∈ o.after, Region.binds md e = true → listed.getD e.on false = true := by
  simp only [Region.ready, List.mem_filter, List.mem_range, Bool.and_eq_true, Bool.not_eq_true'] at h
  obtain ⟨h1, h2, h3⟩ := h
  refine ⟨h1, h2, ?_⟩
  cases ho : ops[i]? with
  | none => rw [ho] at h3; simp at h3
  | some o =>
    rw [ho] at h3
    simp only [Option.map_some, Option.getD_some, Array.all_eq_true_iff_forall_mem, Bool.or_eq_true, Bool.not_eq_true'] at h3
    refine ⟨o, rfl, fun e he hb => ?_⟩
    rcases h3 e he with h | h
    · rw [hb] at h; cases h
    · exact h

theorem wpAny_inv (I : Array Bool → Act → World → Prop)
    (hend : ∀ listed a w, I listed a w → Region.ready md ops listed = [] → Q .normal a w)
    (hstep : ∀ listed a w i, I listed a w → i ∈ Region.ready md ops listed → wpOp P ops Q i (fun a' w' => I (listed.setIfInBounds i true) a' w') a w) :
    ∀ (fuel : Nat) (listed : Array Bool) (a : Act) (w : World), openN listed ≤ fuel → I listed a w → wpAny P md ops Q fuel listed a w
  | 0, listed, a, w, hn, hI => by
    have hr : Region.ready md ops listed = [] := by
      cases hc : Region.ready md ops listed with
      | nil => rfl
      | cons i l =>
        have := openN_set (ready_open (md := md) (ops := ops) (listed := listed) (i := i) (by rw [hc]; simp)).2.1
        omega
    exact ⟨hr, hend _ _ _ hI hr⟩
  | fuel + 1, listed, a, w, hn, hI => by
    refine ⟨fun hr => hend _ _ _ hI hr, fun i hi => ?_⟩
    have hs := openN_set (ready_open hi).2.1
    exact wpOp_mono (fun a' w' h' => wpAny_inv I hend hstep fuel _ a' w' (by omega) h') (hstep listed a w i hI hi)

/-- The values of a region's operations, put into the frame in which it began. -/
def putAll (a : Act) (dst : Nat → Option Tmp) (vs : Nat → Value) : Nat → Act
  | 0 => a
  | n + 1 => (putAll a dst vs n).put (dst n) (vs n)

theorem put_comm' (a : Act) (d e : Option Tmp) (v u : Value) (h : d ≠ e ∨ d = none) : (a.put d v).put e u = (a.put e u).put d v := by
  cases d with
  | none => rfl
  | some d =>
    cases e with
    | none => rfl
    | some e =>
      have hne : d ≠ e := by
        rcases h with h | h
        · exact fun e' => h (by rw [e'])
        · cases h
      simp [Act.put, Array.setIfInBounds_comm _ _ hne]

theorem put_put' (a : Act) (d : Option Tmp) (v u : Value) : (a.put d v).put d u = a.put d u := by
  cases d with
  | none => rfl
  | some d => simp [Act.put]

theorem putAll_same (a : Act) (dst : Nat → Option Tmp) {vs us : Nat → Value} : ∀ n, (∀ j, j < n → vs j = us j) → putAll a dst vs n = putAll a dst us n
  | 0, _ => rfl
  | n + 1, h => by simp only [putAll]; rw [putAll_same a dst n (fun j hj => h j (by omega)), h n (by omega)]

theorem putAll_upd (a : Act) (dst : Nat → Option Tmp) (vs : Nat → Value) (i : Nat) (v : Value) : ∀ n, i < n → (∀ j, j < n → j ≠ i → dst j ≠ dst i ∨ dst j = none) → putAll a dst (fun j => if j = i then v else vs j) n = (putAll a dst vs n).put (dst i) v
  | 0, h, _ => by omega
  | n + 1, h, hd => by
    by_cases hn : i = n
    · subst hn
      simp only [putAll, if_true]
      rw [putAll_same a dst (us := vs) i (fun j hj => by simp [show j ≠ i by omega]), put_put']
    · simp only [putAll]
      rw [putAll_upd a dst vs i v n (by omega) (fun j hj => hd j (by omega)), if_neg (fun e => hn e.symm)]
      exact (put_comm' _ _ _ _ _ (hd n (by omega) (fun e => hn e.symm))).symm

theorem wp_region_mono {id : Nat} {a0 : Act} {w0 : World} (hm : P.follows .mixedOrders = true)
    (S : World → Prop) (Ext : World → World → Prop) (hrefl : ∀ w, Ext w w) (htrans : ∀ a b c, Ext a b → Ext b c → Ext a c)
    (R : Nat → Value → World → Prop) (hR : ∀ i v w w', S w → R i v w → Ext w w' → R i v w')
    (dst : Nat → Option Tmp) (_hdst : ∀ i o, ops[i]? = some o → o.dst = dst i) (hdd : ∀ i j, i < ops.size → j < ops.size → j ≠ i → dst j ≠ dst i ∨ dst j = none)
    (hback : ∀ (i : Nat) (o : Oper), ops[i]? = some o → ∀ e : Edge, e ∈ o.after → e.on < i) (init : Nat → Value) (hinit : putAll a0 dst init ops.size = a0) (hS : S w0.drew)
    (hstep : ∀ i o, ops[i]? = some o → ∀ (vs : Nat → Value) (w : World), S w → Ext w0.drew w → (∀ j, (o.after.any fun e => Region.binds .any e && e.on == j) = true → R j (vs j) w) →
      ∀ K : Act → World → Prop, (∀ v w', S w' → Ext w w' → R i v w' → K ((putAll a0 dst vs ops.size).put (dst i) v) w') →
        if Region.wanted o (yielded ops (putAll a0 dst vs ops.size).tmps) = true then Oper.wp P o (putAll a0 dst vs ops.size) w K Q else K ((putAll a0 dst vs ops.size).put o.dst undef) w)
    (hend : ∀ (vs : Nat → Value) (w : World), S w → Ext w0.drew w → (∀ i, i < ops.size → R i (vs i) w) → Q .normal (putAll a0 dst vs ops.size) w) : (Code.region id ops true).wp P Q a0 w0 := by
  refine wp_region_any hm ?_
  refine wpAny_inv (fun listed a w => listed.size = ops.size ∧ ∃ vs, a = putAll a0 dst vs ops.size ∧ S w ∧ Ext w0.drew w ∧ ∀ j, listed.getD j false = true → R j (vs j) w) ?_ ?_ ops.size _ _ _ ?_ ⟨by simp, init, hinit.symm, hS, hrefl _, fun j hj => ?_⟩
  · rintro listed a w ⟨hsz, vs, rfl, hs, he, hj⟩ hr
    refine hend vs w hs he (fun i hi => hj i ?_)
    have hall : ∀ n i, i < n → i < ops.size → listed.getD i false = true := by
      intro n
      induction n with
      | zero => intro i h; omega
      | succ n ih =>
        intro i hin hi
        by_cases hl : listed.getD i true = false
        · exfalso
          have hmem : i ∈ Region.ready .any ops listed := by
            simp only [Region.ready, List.mem_filter, List.mem_range, Bool.and_eq_true, Bool.not_eq_true']
            refine ⟨hi, hl, ?_⟩
            have ho : ops[i]? = some ops[i] := Array.getElem?_eq_getElem hi
            rw [ho]
            simp only [Option.map_some, Option.getD_some, Array.all_eq_true_iff_forall_mem, Bool.or_eq_true, Bool.not_eq_true']
            intro e hm'
            right
            have := hback i _ ho e hm'
            exact ih e.on (by omega) (by omega)
          rw [hr] at hmem
          cases hmem
        · have hlt : i < listed.size := by omega
          simp only [Array.getD, hlt, dif_pos] at hl ⊢
          simpa using hl
    exact hall (i + 1) i (by omega) hi
  · rintro listed a w i ⟨hsz, vs, rfl, hs, he, hj⟩ hi
    obtain ⟨hlt, hun, o, ho, hdeps⟩ := ready_open hi
    refine wpOp_step ho (fun K' hK => hstep i o ho vs w hs he (fun j hjd => ?_) K' (fun v w' hs' he' hr' => hK _ _ ⟨by simpa using hsz, fun j => if j = i then v else vs j, ?_, hs', htrans _ _ _ he he', fun j hjl => ?_⟩))
    · rw [Array.any_eq_true] at hjd
      obtain ⟨k, hk, hb⟩ := hjd
      simp only [Bool.and_eq_true, beq_iff_eq] at hb
      exact hj j (by rw [← hb.2]; exact hdeps _ (Array.getElem_mem hk) hb.1)
    · exact (putAll_upd a0 dst vs i v ops.size hlt (fun j hj' hne => hdd i j hlt hj' hne)).symm
    · by_cases hji : j = i
      · subst hji; simpa using hr'
      · simp only [hji, if_false]
        refine hR j _ w w' hs (hj j ?_) he'
        have e : (listed.setIfInBounds i true).getD j false = listed.getD j false := by
          simp only [Array.getD_eq_getD_getElem?, Array.getElem?_setIfInBounds]
          rw [if_neg (fun e => hji e.symm)]
        rw [← e]
        exact hjl
  · have := List.countP_le_length (p := fun b : Bool => !b) (l := (Array.replicate ops.size false).toList)
    unfold openN
    simpa using this
  · simp [Array.getD] at hj

theorem all_listed {listed : Array Bool} (hsz : listed.size = ops.size) (hback : ∀ (i : Nat) (o : Oper), ops[i]? = some o → ∀ e : Edge, e ∈ o.after → e.on < i) (hr : Region.ready .any ops listed = []) : ∀ i, i < ops.size → listed.getD i false = true := by
  have hall : ∀ n i, i < n → i < ops.size → listed.getD i false = true := by
    intro n
    induction n with
    | zero => intro i h; omega
    | succ n ih =>
      intro i hin hi
      by_cases hl : listed.getD i true = false
      · exfalso
        have hmem : i ∈ Region.ready .any ops listed := by
          simp only [Region.ready, List.mem_filter, List.mem_range, Bool.and_eq_true, Bool.not_eq_true']
          refine ⟨hi, hl, ?_⟩
          have ho : ops[i]? = some ops[i] := Array.getElem?_eq_getElem hi
          rw [ho]
          simp only [Option.map_some, Option.getD_some, Array.all_eq_true_iff_forall_mem, Bool.or_eq_true, Bool.not_eq_true']
          intro e hm'
          right
          have := hback i _ ho e hm'
          exact ih e.on (by omega) (by omega)
        rw [hr] at hmem
        cases hmem
      · have hlt : i < listed.size := by omega
        simp only [Array.getD, hlt, dif_pos] at hl ⊢
        simpa using hl
  exact fun i hi => hall (i + 1) i (by omega) hi

/-- The same, the last operation (a store) by itself: it comes when all others have come. -/
theorem wp_region_mono1 {id n : Nat} {a0 : Act} {w0 : World} (hm : P.follows .mixedOrders = true) (hn : ops.size = n + 1)
    (Ext : World → World → Prop) (hrefl : ∀ w, Ext w w) (htrans : ∀ a b c, Ext a b → Ext b c → Ext a c)
    (R : Nat → Value → World → Prop) (hR : ∀ i v w w', Ext w0.drew w → R i v w → Ext w w' → R i v w')
    (dst : Nat → Option Tmp) (hdd : ∀ i j, i < n → j < ops.size → j ≠ i → dst j ≠ dst i ∨ dst j = none)
    (hback : ∀ (i : Nat) (o : Oper), ops[i]? = some o → ∀ e : Edge, e ∈ o.after → e.on < i)
    (hall : ∀ o, ops[n]? = some o → ∀ j, j < n → (o.after.any fun e => Region.binds .any e && e.on == j) = true) (init : Nat → Value) (hinit : putAll a0 dst init ops.size = a0)
    (hstep : ∀ i o, i < n → ops[i]? = some o → ∀ (vs : Nat → Value) (w : World), Ext w0.drew w → (∀ j, (o.after.any fun e => Region.binds .any e && e.on == j) = true → R j (vs j) w) →
      ∀ K : Act → World → Prop, (∀ v w', Ext w w' → R i v w' → K ((putAll a0 dst vs ops.size).put (dst i) v) w') →
        if Region.wanted o (yielded ops (putAll a0 dst vs ops.size).tmps) = true then Oper.wp P o (putAll a0 dst vs ops.size) w K Q else K ((putAll a0 dst vs ops.size).put o.dst undef) w)
    (hlast : ∀ o, ops[n]? = some o → ∀ (vs : Nat → Value) (w : World), Ext w0.drew w → (∀ i, i < n → R i (vs i) w) → ∀ K : Act → World → Prop, (∀ a w, Q .normal a w → K a w) →
        if Region.wanted o (yielded ops (putAll a0 dst vs ops.size).tmps) = true then Oper.wp P o (putAll a0 dst vs ops.size) w K Q else K ((putAll a0 dst vs ops.size).put o.dst undef) w) : (Code.region id ops true).wp P Q a0 w0 := by
  refine wp_region_any hm ?_
  refine wpAny_inv (fun listed a w => listed.size = ops.size ∧ (((∀ j, j < ops.size → listed.getD j false = true) ∧ Q .normal a w) ∨ ∃ vs, a = putAll a0 dst vs ops.size ∧ Ext w0.drew w ∧ listed.getD n false = false ∧ ∀ j, listed.getD j false = true → R j (vs j) w)) ?_ ?_ ops.size _ _ _ ?_ ⟨by simp, Or.inr ⟨init, hinit.symm, hrefl _, ?_, fun j hj => ?_⟩⟩
  · rintro listed a w ⟨hsz, ⟨_, hq⟩ | ⟨vs, rfl, he, hl, hj⟩⟩ hr
    · exact hq
    · have := all_listed hsz hback hr n (by omega)
      rw [hl] at this
      cases this
  · rintro listed a w i ⟨hsz, ⟨hl, hq⟩ | ⟨vs, rfl, he, hl, hj⟩⟩ hi
    · -- behind the last nothing comes
      exfalso
      obtain ⟨hlt, hun, o, ho, hdeps⟩ := ready_open hi
      have := hl i hlt
      have hls : i < listed.size := by omega
      simp only [Array.getD, hls, dif_pos] at hun this
      rw [hun] at this
      cases this
    · obtain ⟨hlt, hun, o, ho, hdeps⟩ := ready_open hi
      by_cases hin : i = n
      · subst hin
        have hdone : ∀ j, j < i → listed.getD j false = true := fun j hjn => by
          have := hall o ho j hjn
          rw [Array.any_eq_true] at this
          obtain ⟨k, hk, hb⟩ := this
          simp only [Bool.and_eq_true, beq_iff_eq] at hb
          rw [← hb.2]
          exact hdeps _ (Array.getElem_mem hk) hb.1
        refine wpOp_step ho (fun K' hK => hlast o ho vs w he (fun j hjn => hj j (hdone j hjn)) K' (fun a w' hq => hK _ _ ⟨by simpa using hsz, Or.inl ⟨fun j hjs => ?_, hq⟩⟩))
        by_cases hji : j = i
        · subst hji
          simp [Array.getD_eq_getD_getElem?, show j < listed.size by omega]
        · have e : (listed.setIfInBounds i true).getD j false = listed.getD j false := by
            simp only [Array.getD_eq_getD_getElem?, Array.getElem?_setIfInBounds]
            rw [if_neg (fun e => hji e.symm)]
          rw [e]
          exact hdone j (by omega)
      · refine wpOp_step ho (fun K' hK => hstep i o (by omega) ho vs w he (fun j hjd => ?_) K' (fun v w' he' hr' => hK _ _ ⟨by simpa using hsz, Or.inr ⟨fun j => if j = i then v else vs j, ?_, htrans _ _ _ he he', ?_, fun j hjl => ?_⟩⟩))
        · rw [Array.any_eq_true] at hjd
          obtain ⟨k, hk, hb⟩ := hjd
          simp only [Bool.and_eq_true, beq_iff_eq] at hb
          exact hj j (by rw [← hb.2]; exact hdeps _ (Array.getElem_mem hk) hb.1)
        · exact (putAll_upd a0 dst vs i v ops.size hlt (fun j hj' hne => hdd i j (by omega) hj' hne)).symm
        · simp only [Array.getD_eq_getD_getElem?, Array.getElem?_setIfInBounds] at hl ⊢
          rw [if_neg hin]
          exact hl
        · by_cases hji : j = i
          · subst hji; simpa using hr'
          · simp only [hji, if_false]
            refine hR j _ w w' he (hj j ?_) he'
            have e : (listed.setIfInBounds i true).getD j false = listed.getD j false := by
              simp only [Array.getD_eq_getD_getElem?, Array.getElem?_setIfInBounds]
              rw [if_neg (fun e => hji e.symm)]
            rw [← e]
            exact hjl
  · have := List.countP_le_length (p := fun b : Bool => !b) (l := (Array.replicate ops.size false).toList)
    unfold openN
    simpa using this
  · rw [Array.getD_eq_getD_getElem?, Array.getElem?_replicate]; split <;> rfl
  · simp [Array.getD] at hj
end
end Go.Proofs.YtdjoafnohkmneaaGreatDoor

namespace Go.Proofs.YtdjoafnohkmneaaGreatDoor
open Go

set_option maxRecDepth 100000

section
variable {P : Program} {ops : Array Oper} {Q : Exit → Act → World → Prop}

def dstOf (ops : Array Oper) (i : Nat) : Option Tmp := (ops[i]?).bind (·.dst)
def depsOn (ops : Array Oper) (i j : Nat) : Bool := match ops[i]? with
  | some o => o.after.any fun e => Region.binds .any e && e.on == j
  | none => false
/-- What of a region is seen by reckoning: no slot twice, nothing waits for a later one. -/
def regOk (ops : Array Oper) (n : Nat) : Bool :=
  (List.range n).all (fun i => (List.range ops.size).all fun j => j == i || (dstOf ops j).isNone || !((dstOf ops j) == (dstOf ops i))) &&
  (List.range ops.size).all (fun i => match ops[i]? with | none => true | some o => o.after.all fun e => decide (e.on < i))
def regLast (ops : Array Oper) (n : Nat) : Bool := (List.range n).all fun j => depsOn ops n j

theorem regOk_dst {n : Nat} (h : regOk ops n = true) : ∀ i j, i < n → j < ops.size → j ≠ i → dstOf ops j ≠ dstOf ops i ∨ dstOf ops j = none := by
  intro i j hi hj hne
  simp only [regOk, Bool.and_eq_true, List.all_eq_true, List.mem_range, Bool.or_eq_true, beq_iff_eq, Bool.not_eq_true'] at h
  rcases h.1 i hi j hj with (h1 | h1) | h1
  · exact absurd h1 hne
  · exact Or.inr (Option.isNone_iff_eq_none.1 h1)
  · exact Or.inl (by simpa using h1)

theorem regOk_back {n : Nat} (h : regOk ops n = true) : ∀ (i : Nat) (o : Oper), ops[i]? = some o → ∀ e : Edge, e ∈ o.after → e.on < i := by
  intro i o ho e he
  have hi : i < ops.size := (Array.getElem?_eq_some_iff.1 ho).1
  simp only [regOk, Bool.and_eq_true, List.all_eq_true, List.mem_range] at h
  have := h.2 i hi
  rw [ho] at this
  simp only [Array.all_eq_true_iff_forall_mem] at this
  simpa using this e he

theorem putAll_init (a : Act) (dst : Nat → Option Tmp) : ∀ n, putAll a dst (fun i => match dst i with | some d => a.tmps.getD d undef | none => undef) n = a
  | 0 => rfl
  | n + 1 => by
    simp only [putAll]
    rw [putAll_init a dst n]
    cases hd : dst n with
    | none => rfl
    | some d =>
      have : a.tmps.setIfInBounds d (a.tmps.getD d undef) = a.tmps := by
        by_cases h : d < a.tmps.size
        · apply Array.ext
          · simp
          · intro i h1 h2
            rw [Array.getElem_setIfInBounds (hj := by simpa using h1)]
            split
            · rename_i e; subst e; simp
            · rfl
        · exact Array.setIfInBounds_eq_of_size_le (Nat.le_of_not_lt h)
      show (a.put (some d) (a.tmps.getD d undef)) = a
      unfold Act.put
      simp only [this]

/-- The frame of a region whose operations yield vs. -/
def frame (a : Act) (ops : Array Oper) (vs : Nat → Value) : Act := putAll a (dstOf ops) vs ops.size

/-- What is to be shown of an operation. -/
structure OpDo (P : Program) (ops : Array Oper) (Q : Exit → Act → World → Prop) (A : Act) (i : Nat) (w : World) (K : Act → World → Prop) : Prop where
  out : match ops[i]? with
    | some o => if Region.wanted o (yielded ops A.tmps) = true then Oper.wp P o A w K Q else K (A.put o.dst undef) w
    | none => False

theorem wp_region_reg1 {id n : Nat} {a0 : Act} {w0 : World} (hm : P.follows .mixedOrders = true) (hn : ops.size = n + 1) (hok : regOk ops n = true) (hl : regLast ops n = true)
    (Ext : World → World → Prop) (hrefl : ∀ w, Ext w w) (htrans : ∀ a b c, Ext a b → Ext b c → Ext a c)
    (R : Nat → Value → World → Prop) (hR : ∀ i v w w', Ext w0.drew w → R i v w → Ext w w' → R i v w')
    (hstep : ∀ i, i < n → ∀ (vs : Nat → Value) (w : World), Ext w0.drew w → (∀ j, depsOn ops i j = true → R j (vs j) w) →
      ∀ K : Act → World → Prop, (∀ v w', Ext w w' → R i v w' → K ((frame a0 ops vs).put (dstOf ops i) v) w') → OpDo P ops Q (frame a0 ops vs) i w K)
    (hlast : ∀ (vs : Nat → Value) (w : World), Ext w0.drew w → (∀ i, i < n → R i (vs i) w) → ∀ K : Act → World → Prop, (∀ a w, Q .normal a w → K a w) → OpDo P ops Q (frame a0 ops vs) n w K) : (Code.region id ops true).wp P Q a0 w0 := by
  refine wp_region_mono1 hm hn Ext hrefl htrans R hR (dstOf ops) (regOk_dst hok) (regOk_back hok) ?_ _ (putAll_init a0 _ _) ?_ ?_
  · intro o ho j hj
    have := List.all_eq_true.1 hl j (List.mem_range.2 hj)
    simpa [depsOn, ho] using this
  · intro i o hi ho vs w hE hd K hK
    have := hstep i hi vs w hE (fun j hj => hd j (by simpa [depsOn, ho] using hj)) K hK
    have this := this.out
    rw [ho] at this
    exact this
  · intro o ho vs w hE hd K hK
    have := hlast vs w hE hd K hK
    have this := this.out
    rw [ho] at this
    exact this

theorem wp_region_reg {id : Nat} {a0 : Act} {w0 : World} (hm : P.follows .mixedOrders = true) (hok : regOk ops ops.size = true)
    (Ext : World → World → Prop) (hrefl : ∀ w, Ext w w) (htrans : ∀ a b c, Ext a b → Ext b c → Ext a c)
    (R : Nat → Value → World → Prop) (hR : ∀ i v w w', Ext w0.drew w → R i v w → Ext w w' → R i v w')
    (hstep : ∀ i, i < ops.size → ∀ (vs : Nat → Value) (w : World), Ext w0.drew w → (∀ j, depsOn ops i j = true → R j (vs j) w) →
      ∀ K : Act → World → Prop, (∀ v w', Ext w w' → R i v w' → K ((frame a0 ops vs).put (dstOf ops i) v) w') → OpDo P ops Q (frame a0 ops vs) i w K)
    (hend : ∀ (vs : Nat → Value) (w : World), Ext w0.drew w → (∀ i, i < ops.size → R i (vs i) w) → Q .normal (frame a0 ops vs) w) : (Code.region id ops true).wp P Q a0 w0 := by
  refine wp_region_mono hm (fun w => Ext w0.drew w) Ext hrefl htrans R (fun i v w w' h1 h2 h3 => hR i v w w' h1 h2 h3) (dstOf ops) ?_ (fun i j hi hj hne => regOk_dst hok i j hi hj hne) (regOk_back hok) _ (putAll_init a0 _ _) (hrefl _) ?_ (fun vs w hS _ hr => hend vs w hS hr)
  · intro i o ho; simp [dstOf, ho]
  · intro i o ho vs w hS hE hd K hK
    have hi : i < ops.size := (Array.getElem?_eq_some_iff.1 ho).1
    have := hstep i hi vs w hE (fun j hj => hd j (by simpa [depsOn, ho] using hj)) K (fun v w' h1 h2 => hK v w' (htrans _ _ _ hS h1) h1 h2)
    have this := this.out
    rw [ho] at this
    exact this

/-- The same, where what binds points back: other edges may point forward. -/
def regOkB (ops : Array Oper) (n : Nat) : Bool :=
  (List.range n).all (fun i => (List.range ops.size).all fun j => j == i || (dstOf ops j).isNone || !((dstOf ops j) == (dstOf ops i))) &&
  (List.range ops.size).all (fun i => match ops[i]? with | none => true | some o => o.after.all fun e => !(Region.binds .any e) || decide (e.on < i))

theorem regOkB_dst {n : Nat} (h : regOkB ops n = true) : ∀ i j, i < n → j < ops.size → j ≠ i → dstOf ops j ≠ dstOf ops i ∨ dstOf ops j = none := by
  intro i j hi hj hne
  simp only [regOkB, Bool.and_eq_true, List.all_eq_true, List.mem_range, Bool.or_eq_true, beq_iff_eq, Bool.not_eq_true'] at h
  rcases h.1 i hi j hj with (h1 | h1) | h1
  · exact absurd h1 hne
  · exact Or.inr (Option.isNone_iff_eq_none.1 h1)
  · exact Or.inl (by simpa using h1)

theorem regOkB_back {n : Nat} (h : regOkB ops n = true) : ∀ (i : Nat) (o : Oper), ops[i]? = some o → ∀ e : Edge, e ∈ o.after → Region.binds .any e = true → e.on < i := by
  intro i o ho e he hb
  have hi : i < ops.size := (Array.getElem?_eq_some_iff.1 ho).1
  simp only [regOkB, Bool.and_eq_true, List.all_eq_true, List.mem_range] at h
  have := h.2 i hi
  rw [ho] at this
  simp only [Array.all_eq_true_iff_forall_mem] at this
  have h2 := this e he
  rw [hb] at h2
  simpa using h2

theorem wp_region_monoB {id : Nat} {a0 : Act} {w0 : World} (hm : P.follows .mixedOrders = true)
    (S : World → Prop) (Ext : World → World → Prop) (hrefl : ∀ w, Ext w w) (htrans : ∀ a b c, Ext a b → Ext b c → Ext a c)
    (R : Nat → Value → World → Prop) (hR : ∀ i v w w', S w → R i v w → Ext w w' → R i v w')
    (dst : Nat → Option Tmp) (_hdst : ∀ i o, ops[i]? = some o → o.dst = dst i) (hdd : ∀ i j, i < ops.size → j < ops.size → j ≠ i → dst j ≠ dst i ∨ dst j = none)
    (hback : ∀ (i : Nat) (o : Oper), ops[i]? = some o → ∀ e : Edge, e ∈ o.after → Region.binds .any e = true → e.on < i) (init : Nat → Value) (hinit : putAll a0 dst init ops.size = a0) (hS : S w0.drew)
    (hstep : ∀ i o, ops[i]? = some o → ∀ (vs : Nat → Value) (w : World), S w → Ext w0.drew w → (∀ j, (o.after.any fun e => Region.binds .any e && e.on == j) = true → R j (vs j) w) →
      ∀ K : Act → World → Prop, (∀ v w', S w' → Ext w w' → R i v w' → K ((putAll a0 dst vs ops.size).put (dst i) v) w') →
        if Region.wanted o (yielded ops (putAll a0 dst vs ops.size).tmps) = true then Oper.wp P o (putAll a0 dst vs ops.size) w K Q else K ((putAll a0 dst vs ops.size).put o.dst undef) w)
    (hend : ∀ (vs : Nat → Value) (w : World), S w → Ext w0.drew w → (∀ i, i < ops.size → R i (vs i) w) → Q .normal (putAll a0 dst vs ops.size) w) : (Code.region id ops true).wp P Q a0 w0 := by
  refine wp_region_any hm ?_
  refine wpAny_inv (fun listed a w => listed.size = ops.size ∧ ∃ vs, a = putAll a0 dst vs ops.size ∧ S w ∧ Ext w0.drew w ∧ ∀ j, listed.getD j false = true → R j (vs j) w) ?_ ?_ ops.size _ _ _ ?_ ⟨by simp, init, hinit.symm, hS, hrefl _, fun j hj => ?_⟩
  · rintro listed a w ⟨hsz, vs, rfl, hs, he, hj⟩ hr
    refine hend vs w hs he (fun i hi => hj i ?_)
    have hall : ∀ n i, i < n → i < ops.size → listed.getD i false = true := by
      intro n
      induction n with
      | zero => intro i h; omega
      | succ n ih =>
        intro i hin hi
        by_cases hl : listed.getD i true = false
        · exfalso
          have hmem : i ∈ Region.ready .any ops listed := by
            simp only [Region.ready, List.mem_filter, List.mem_range, Bool.and_eq_true, Bool.not_eq_true']
            refine ⟨hi, hl, ?_⟩
            have ho : ops[i]? = some ops[i] := Array.getElem?_eq_getElem hi
            rw [ho]
            simp only [Option.map_some, Option.getD_some, Array.all_eq_true_iff_forall_mem, Bool.or_eq_true, Bool.not_eq_true']
            intro e hm'
            cases hbd : Region.binds .any e with
            | false => exact Or.inl rfl
            | true =>
            right
            have := hback i _ ho e hm' hbd
            exact ih e.on (by omega) (by omega)
          rw [hr] at hmem
          cases hmem
        · have hlt : i < listed.size := by omega
          simp only [Array.getD, hlt, dif_pos] at hl ⊢
          simpa using hl
    exact hall (i + 1) i (by omega) hi
  · rintro listed a w i ⟨hsz, vs, rfl, hs, he, hj⟩ hi
    obtain ⟨hlt, hun, o, ho, hdeps⟩ := ready_open hi
    refine wpOp_step ho (fun K' hK => hstep i o ho vs w hs he (fun j hjd => ?_) K' (fun v w' hs' he' hr' => hK _ _ ⟨by simpa using hsz, fun j => if j = i then v else vs j, ?_, hs', htrans _ _ _ he he', fun j hjl => ?_⟩))
    · rw [Array.any_eq_true] at hjd
      obtain ⟨k, hk, hb⟩ := hjd
      simp only [Bool.and_eq_true, beq_iff_eq] at hb
      exact hj j (by rw [← hb.2]; exact hdeps _ (Array.getElem_mem hk) hb.1)
    · exact (putAll_upd a0 dst vs i v ops.size hlt (fun j hj' hne => hdd i j hlt hj' hne)).symm
    · by_cases hji : j = i
      · subst hji; simpa using hr'
      · simp only [hji, if_false]
        refine hR j _ w w' hs (hj j ?_) he'
        have e : (listed.setIfInBounds i true).getD j false = listed.getD j false := by
          simp only [Array.getD_eq_getD_getElem?, Array.getElem?_setIfInBounds]
          rw [if_neg (fun e => hji e.symm)]
        rw [← e]
        exact hjl
  · have := List.countP_le_length (p := fun b : Bool => !b) (l := (Array.replicate ops.size false).toList)
    unfold openN
    simpa using this
  · simp [Array.getD] at hj

theorem wp_region_regB {id : Nat} {a0 : Act} {w0 : World} (hm : P.follows .mixedOrders = true) (hok : regOkB ops ops.size = true)
    (Ext : World → World → Prop) (hrefl : ∀ w, Ext w w) (htrans : ∀ a b c, Ext a b → Ext b c → Ext a c)
    (R : Nat → Value → World → Prop) (hR : ∀ i v w w', Ext w0.drew w → R i v w → Ext w w' → R i v w')
    (hstep : ∀ i, i < ops.size → ∀ (vs : Nat → Value) (w : World), Ext w0.drew w → (∀ j, depsOn ops i j = true → R j (vs j) w) →
      ∀ K : Act → World → Prop, (∀ v w', Ext w w' → R i v w' → K ((frame a0 ops vs).put (dstOf ops i) v) w') → OpDo P ops Q (frame a0 ops vs) i w K)
    (hend : ∀ (vs : Nat → Value) (w : World), Ext w0.drew w → (∀ i, i < ops.size → R i (vs i) w) → Q .normal (frame a0 ops vs) w) : (Code.region id ops true).wp P Q a0 w0 := by
  refine wp_region_monoB hm (fun w => Ext w0.drew w) Ext hrefl htrans R (fun i v w w' h1 h2 h3 => hR i v w w' h1 h2 h3) (dstOf ops) ?_ (fun i j hi hj hne => regOkB_dst hok i j hi hj hne) (regOkB_back hok) _ (putAll_init a0 _ _) (hrefl _) ?_ (fun vs w hS _ hr => hend vs w hS hr)
  · intro i o ho; simp [dstOf, ho]
  · intro i o ho vs w hS hE hd K hK
    have hi : i < ops.size := (Array.getElem?_eq_some_iff.1 ho).1
    have := hstep i hi vs w hE (fun j hj => hd j (by simpa [depsOn, ho] using hj)) K (fun v w' h1 h2 => hK v w' (htrans _ _ _ hS h1) h1 h2)
    have this := this.out
    rw [ho] at this
    exact this

def opAt (ops : Array Oper) (i : Nat) : Oper := (ops[i]?).getD default
theorem opAt_of {i : Nat} (h : (ops[i]?).isSome = true) : ops[i]? = some (opAt ops i) := by
  unfold opAt
  cases ho : ops[i]? with
  | none => rw [ho] at h; cases h
  | some o => rfl
theorem opAt_dst {i : Nat} (h : (ops[i]?).isSome = true) : (opAt ops i).dst = dstOf ops i := by
  unfold dstOf
  rw [opAt_of h]
  rfl

/-- An operation that is on and hands back a value at once. -/
theorem op_val {A : Act} {i : Nat} {w w' : World} {K : Act → World → Prop} {v : Value} (hs : (ops[i]?).isSome = true) (hg : Region.wanted (opAt ops i) (yielded ops A.tmps) = true) (hr : (execOp A.eval (opAt ops i)).run P w = .ok (.value v) w') (hK : K (A.put (dstOf ops i) v) w') : OpDo P ops Q A i w K := by
  constructor
  rw [opAt_of hs]
  simp only [hg, if_true]
  unfold Oper.wp
  rw [hr]
  rw [← opAt_dst hs] at hK
  exact hK
/-- An operation that is off. -/
theorem op_off {A : Act} {i : Nat} {w : World} {K : Act → World → Prop} (hs : (ops[i]?).isSome = true) (hg : Region.wanted (opAt ops i) (yielded ops A.tmps) = false) (hK : K (A.put (dstOf ops i) undef) w) : OpDo P ops Q A i w K := by
  constructor
  rw [opAt_of hs]
  simp only [hg, Bool.false_eq_true, if_false]
  rw [← opAt_dst hs] at hK
  exact hK
/-- A call. -/
theorem op_call {A : Act} {i : Nat} {w : World} {K : Act → World → Prop} {f : FuncId} {args : Array Value} (hs : (ops[i]?).isSome = true) (hg : Region.wanted (opAt ops i) (yielded ops A.tmps) = true) (hr : (execOp A.eval (opAt ops i)).run P w = .ok (.enter f args) w)
    (hK : Calls P f args w fun e w' => ∃ v, e = .returned v ∧ K (A.put (dstOf ops i) v) w') : OpDo P ops Q A i w K := by
  constructor
  rw [opAt_of hs]
  simp only [hg, if_true]
  unfold Oper.wp
  rw [hr]
  refine hK.mono ?_
  rintro e w' ⟨v, rfl, h⟩
  rw [← opAt_dst hs] at h
  exact h
end

/-! ### one after the other -/
theorem lt1 {p : Nat → Prop} (h0 : p 0) : ∀ i, i < 1 → p i := fun i hi => by
  obtain rfl : i = 0 := by omega
  exact h0
theorem lt2 {p : Nat → Prop} (h0 : p 0) (h1 : p 1) : ∀ i, i < 2 → p i := fun i hi => by
  rcases Nat.lt_succ_iff_lt_or_eq.1 hi with h | h
  · exact lt1 h0 i h
  · subst h; exact h1
theorem lt3 {p : Nat → Prop} (h0 : p 0) (h1 : p 1) (h2 : p 2) : ∀ i, i < 3 → p i := fun i hi => by
  rcases Nat.lt_succ_iff_lt_or_eq.1 hi with h | h
  · exact lt2 h0 h1 i h
  · subst h; exact h2
theorem lt4 {p : Nat → Prop} (h0 : p 0) (h1 : p 1) (h2 : p 2) (h3 : p 3) : ∀ i, i < 4 → p i := fun i hi => by
  rcases Nat.lt_succ_iff_lt_or_eq.1 hi with h | h
  · exact lt3 h0 h1 h2 i h
  · subst h; exact h3
theorem lt5 {p : Nat → Prop} (h0 : p 0) (h1 : p 1) (h2 : p 2) (h3 : p 3) (h4 : p 4) : ∀ i, i < 5 → p i := fun i hi => by
  rcases Nat.lt_succ_iff_lt_or_eq.1 hi with h | h
  · exact lt4 h0 h1 h2 h3 i h
  · subst h; exact h4
theorem lt6 {p : Nat → Prop} (h0 : p 0) (h1 : p 1) (h2 : p 2) (h3 : p 3) (h4 : p 4) (h5 : p 5) : ∀ i, i < 6 → p i := fun i hi => by
  rcases Nat.lt_succ_iff_lt_or_eq.1 hi with h | h
  · exact lt5 h0 h1 h2 h3 h4 i h
  · subst h; exact h5
theorem lt7 {p : Nat → Prop} (h0 : p 0) (h1 : p 1) (h2 : p 2) (h3 : p 3) (h4 : p 4) (h5 : p 5) (h6 : p 6) : ∀ i, i < 7 → p i := fun i hi => by
  rcases Nat.lt_succ_iff_lt_or_eq.1 hi with h | h
  · exact lt6 h0 h1 h2 h3 h4 h5 i h
  · subst h; exact h6
theorem lt8 {p : Nat → Prop} (h0 : p 0) (h1 : p 1) (h2 : p 2) (h3 : p 3) (h4 : p 4) (h5 : p 5) (h6 : p 6) (h7 : p 7) : ∀ i, i < 8 → p i := fun i hi => by
  rcases Nat.lt_succ_iff_lt_or_eq.1 hi with h | h
  · exact lt7 h0 h1 h2 h3 h4 h5 h6 i h
  · subst h; exact h7
theorem lt9 {p : Nat → Prop} (h0 : p 0) (h1 : p 1) (h2 : p 2) (h3 : p 3) (h4 : p 4) (h5 : p 5) (h6 : p 6) (h7 : p 7) (h8 : p 8) : ∀ i, i < 9 → p i := fun i hi => by
  rcases Nat.lt_succ_iff_lt_or_eq.1 hi with h | h
  · exact lt8 h0 h1 h2 h3 h4 h5 h6 h7 i h
  · subst h; exact h8
theorem lt10 {p : Nat → Prop} (h0 : p 0) (h1 : p 1) (h2 : p 2) (h3 : p 3) (h4 : p 4) (h5 : p 5) (h6 : p 6) (h7 : p 7) (h8 : p 8) (h9 : p 9) : ∀ i, i < 10 → p i := fun i hi => by
  rcases Nat.lt_succ_iff_lt_or_eq.1 hi with h | h
  · exact lt9 h0 h1 h2 h3 h4 h5 h6 h7 h8 i h
  · subst h; exact h9
theorem lt11 {p : Nat → Prop} (h0 : p 0) (h1 : p 1) (h2 : p 2) (h3 : p 3) (h4 : p 4) (h5 : p 5) (h6 : p 6) (h7 : p 7) (h8 : p 8) (h9 : p 9) (h10 : p 10) : ∀ i, i < 11 → p i := fun i hi => by
  rcases Nat.lt_succ_iff_lt_or_eq.1 hi with h | h
  · exact lt10 h0 h1 h2 h3 h4 h5 h6 h7 h8 h9 i h
  · subst h; exact h10
theorem lt12 {p : Nat → Prop} (h0 : p 0) (h1 : p 1) (h2 : p 2) (h3 : p 3) (h4 : p 4) (h5 : p 5) (h6 : p 6) (h7 : p 7) (h8 : p 8) (h9 : p 9) (h10 : p 10) (h11 : p 11) : ∀ i, i < 12 → p i := fun i hi => by
  rcases Nat.lt_succ_iff_lt_or_eq.1 hi with h | h
  · exact lt11 h0 h1 h2 h3 h4 h5 h6 h7 h8 h9 h10 i h
  · subst h; exact h11
theorem lt13 {p : Nat → Prop} (h0 : p 0) (h1 : p 1) (h2 : p 2) (h3 : p 3) (h4 : p 4) (h5 : p 5) (h6 : p 6) (h7 : p 7) (h8 : p 8) (h9 : p 9) (h10 : p 10) (h11 : p 11) (h12 : p 12) : ∀ i, i < 13 → p i := fun i hi => by
  rcases Nat.lt_succ_iff_lt_or_eq.1 hi with h | h
  · exact lt12 h0 h1 h2 h3 h4 h5 h6 h7 h8 h9 h10 h11 i h
  · subst h; exact h12
theorem lt14 {p : Nat → Prop} (h0 : p 0) (h1 : p 1) (h2 : p 2) (h3 : p 3) (h4 : p 4) (h5 : p 5) (h6 : p 6) (h7 : p 7) (h8 : p 8) (h9 : p 9) (h10 : p 10) (h11 : p 11) (h12 : p 12) (h13 : p 13) : ∀ i, i < 14 → p i := fun i hi => by
  rcases Nat.lt_succ_iff_lt_or_eq.1 hi with h | h
  · exact lt13 h0 h1 h2 h3 h4 h5 h6 h7 h8 h9 h10 h11 h12 i h
  · subst h; exact h13
theorem lt15 {p : Nat → Prop} (h0 : p 0) (h1 : p 1) (h2 : p 2) (h3 : p 3) (h4 : p 4) (h5 : p 5) (h6 : p 6) (h7 : p 7) (h8 : p 8) (h9 : p 9) (h10 : p 10) (h11 : p 11) (h12 : p 12) (h13 : p 13) (h14 : p 14) : ∀ i, i < 15 → p i := fun i hi => by
  rcases Nat.lt_succ_iff_lt_or_eq.1 hi with h | h
  · exact lt14 h0 h1 h2 h3 h4 h5 h6 h7 h8 h9 h10 h11 h12 h13 i h
  · subst h; exact h14
theorem lt16 {p : Nat → Prop} (h0 : p 0) (h1 : p 1) (h2 : p 2) (h3 : p 3) (h4 : p 4) (h5 : p 5) (h6 : p 6) (h7 : p 7) (h8 : p 8) (h9 : p 9) (h10 : p 10) (h11 : p 11) (h12 : p 12) (h13 : p 13) (h14 : p 14) (h15 : p 15) : ∀ i, i < 16 → p i := fun i hi => by
  rcases Nat.lt_succ_iff_lt_or_eq.1 hi with h | h
  · exact lt15 h0 h1 h2 h3 h4 h5 h6 h7 h8 h9 h10 h11 h12 h13 h14 i h
  · subst h; exact h15
theorem lt17 {p : Nat → Prop} (h0 : p 0) (h1 : p 1) (h2 : p 2) (h3 : p 3) (h4 : p 4) (h5 : p 5) (h6 : p 6) (h7 : p 7) (h8 : p 8) (h9 : p 9) (h10 : p 10) (h11 : p 11) (h12 : p 12) (h13 : p 13) (h14 : p 14) (h15 : p 15) (h16 : p 16) : ∀ i, i < 17 → p i := fun i hi => by
  rcases Nat.lt_succ_iff_lt_or_eq.1 hi with h | h
  · exact lt16 h0 h1 h2 h3 h4 h5 h6 h7 h8 h9 h10 h11 h12 h13 h14 h15 i h
  · subst h; exact h16
theorem lt18 {p : Nat → Prop} (h0 : p 0) (h1 : p 1) (h2 : p 2) (h3 : p 3) (h4 : p 4) (h5 : p 5) (h6 : p 6) (h7 : p 7) (h8 : p 8) (h9 : p 9) (h10 : p 10) (h11 : p 11) (h12 : p 12) (h13 : p 13) (h14 : p 14) (h15 : p 15) (h16 : p 16) (h17 : p 17) : ∀ i, i < 18 → p i := fun i hi => by
  rcases Nat.lt_succ_iff_lt_or_eq.1 hi with h | h
  · exact lt17 h0 h1 h2 h3 h4 h5 h6 h7 h8 h9 h10 h11 h12 h13 h14 h15 h16 i h
  · subst h; exact h17
theorem lt19 {p : Nat → Prop} (h0 : p 0) (h1 : p 1) (h2 : p 2) (h3 : p 3) (h4 : p 4) (h5 : p 5) (h6 : p 6) (h7 : p 7) (h8 : p 8) (h9 : p 9) (h10 : p 10) (h11 : p 11) (h12 : p 12) (h13 : p 13) (h14 : p 14) (h15 : p 15) (h16 : p 16) (h17 : p 17) (h18 : p 18) : ∀ i, i < 19 → p i := fun i hi => by
  rcases Nat.lt_succ_iff_lt_or_eq.1 hi with h | h
  · exact lt18 h0 h1 h2 h3 h4 h5 h6 h7 h8 h9 h10 h11 h12 h13 h14 h15 h16 h17 i h
  · subst h; exact h18
theorem lt20 {p : Nat → Prop} (h0 : p 0) (h1 : p 1) (h2 : p 2) (h3 : p 3) (h4 : p 4) (h5 : p 5) (h6 : p 6) (h7 : p 7) (h8 : p 8) (h9 : p 9) (h10 : p 10) (h11 : p 11) (h12 : p 12) (h13 : p 13) (h14 : p 14) (h15 : p 15) (h16 : p 16) (h17 : p 17) (h18 : p 18) (h19 : p 19) : ∀ i, i < 20 → p i := fun i hi => by
  rcases Nat.lt_succ_iff_lt_or_eq.1 hi with h | h
  · exact lt19 h0 h1 h2 h3 h4 h5 h6 h7 h8 h9 h10 h11 h12 h13 h14 h15 h16 h17 h18 i h
  · subst h; exact h19
theorem lt21 {p : Nat → Prop} (h0 : p 0) (h1 : p 1) (h2 : p 2) (h3 : p 3) (h4 : p 4) (h5 : p 5) (h6 : p 6) (h7 : p 7) (h8 : p 8) (h9 : p 9) (h10 : p 10) (h11 : p 11) (h12 : p 12) (h13 : p 13) (h14 : p 14) (h15 : p 15) (h16 : p 16) (h17 : p 17) (h18 : p 18) (h19 : p 19) (h20 : p 20) : ∀ i, i < 21 → p i := fun i hi => by
  rcases Nat.lt_succ_iff_lt_or_eq.1 hi with h | h
  · exact lt20 h0 h1 h2 h3 h4 h5 h6 h7 h8 h9 h10 h11 h12 h13 h14 h15 h16 h17 h18 h19 i h
  · subst h; exact h20
theorem lt22 {p : Nat → Prop} (h0 : p 0) (h1 : p 1) (h2 : p 2) (h3 : p 3) (h4 : p 4) (h5 : p 5) (h6 : p 6) (h7 : p 7) (h8 : p 8) (h9 : p 9) (h10 : p 10) (h11 : p 11) (h12 : p 12) (h13 : p 13) (h14 : p 14) (h15 : p 15) (h16 : p 16) (h17 : p 17) (h18 : p 18) (h19 : p 19) (h20 : p 20) (h21 : p 21) : ∀ i, i < 22 → p i := fun i hi => by
  rcases Nat.lt_succ_iff_lt_or_eq.1 hi with h | h
  · exact lt21 h0 h1 h2 h3 h4 h5 h6 h7 h8 h9 h10 h11 h12 h13 h14 h15 h16 h17 h18 h19 h20 i h
  · subst h; exact h21
theorem lt23 {p : Nat → Prop} (h0 : p 0) (h1 : p 1) (h2 : p 2) (h3 : p 3) (h4 : p 4) (h5 : p 5) (h6 : p 6) (h7 : p 7) (h8 : p 8) (h9 : p 9) (h10 : p 10) (h11 : p 11) (h12 : p 12) (h13 : p 13) (h14 : p 14) (h15 : p 15) (h16 : p 16) (h17 : p 17) (h18 : p 18) (h19 : p 19) (h20 : p 20) (h21 : p 21) (h22 : p 22) : ∀ i, i < 23 → p i := fun i hi => by
  rcases Nat.lt_succ_iff_lt_or_eq.1 hi with h | h
  · exact lt22 h0 h1 h2 h3 h4 h5 h6 h7 h8 h9 h10 h11 h12 h13 h14 h15 h16 h17 h18 h19 h20 h21 i h
  · subst h; exact h22
theorem lt24 {p : Nat → Prop} (h0 : p 0) (h1 : p 1) (h2 : p 2) (h3 : p 3) (h4 : p 4) (h5 : p 5) (h6 : p 6) (h7 : p 7) (h8 : p 8) (h9 : p 9) (h10 : p 10) (h11 : p 11) (h12 : p 12) (h13 : p 13) (h14 : p 14) (h15 : p 15) (h16 : p 16) (h17 : p 17) (h18 : p 18) (h19 : p 19) (h20 : p 20) (h21 : p 21) (h22 : p 22) (h23 : p 23) : ∀ i, i < 24 → p i := fun i hi => by
  rcases Nat.lt_succ_iff_lt_or_eq.1 hi with h | h
  · exact lt23 h0 h1 h2 h3 h4 h5 h6 h7 h8 h9 h10 h11 h12 h13 h14 h15 h16 h17 h18 h19 h20 h21 h22 i h
  · subst h; exact h23
end Go.Proofs.YtdjoafnohkmneaaGreatDoor

namespace Go.Proofs.YtdjoafnohkmneaaGreatDoor
open Go.RowKit

set_option maxHeartbeats 1000000
set_option maxRecDepth 100000

/-- The slice value holds these texts. -/
def Strs (w : World) (sv : Value) (ns : List (List UInt8)) : Prop :=
  (sv = .slice none 0 0 ∧ ns = []) ∨ ∃ b off cap, sv = .slice (some ⟨b, off, none⟩) ns.length cap ∧ ∀ j (h : j < ns.length), w.cell? ⟨b, off + j, none⟩ = some (str ns[j])

theorem ownsRow_strs {w : World} {base : Nat} {T : TypeId} {sv : Value} {ns : List (List UInt8)} (h : w.ownsRow base T 1 sv ns.length (ns.map str)) : Strs w sv ns := by
  rcases h.2 with ⟨rfl, h0⟩ | ⟨g, cap, cur, rfl, hb, hh, hn, hc, hs, ht⟩
  · exact Or.inl ⟨rfl, List.length_eq_zero_iff.1 h0⟩
  · refine Or.inr ⟨g, 0, cap, rfl, fun j hj => ?_⟩
    have := h.cells (g := g) rfl j (str ns[j]) (by simp [hj])
    have hadd : (⟨g, 0, none⟩ : Addr).add j = ⟨g, 0 + j, none⟩ := by unfold Addr.add; split <;> simp_all
    rw [hadd] at this
    exact this

theorem s_has (w : World) (sv : Value) (ns : List (List UInt8)) (x : List UInt8) (h : Strs w sv ns) (hn : ns.length ≤ 1000000000) :
    Calls Tryz.prog 59 #[sv, str x] w fun e w' => e = .returned (.bool (decide (x ∈ ns))) ∧ w = w' := by
  rcases h with ⟨rfl, rfl⟩ | ⟨b, off, cap, rfl, hc⟩
  · go_enter Tryz.func59, Tryz.ntmps59
    go_wp2_with fail
    go_loop [5] (fun i => i = .int .i64 0) (fun _ => 0)
    case atStart => rfl
    case round =>
      obtain rfl := hrel
      go_wp2_with fail
      go_ret
      exact ⟨by simp, rfl⟩
  · obtain ⟨r, hr⟩ : ∃ r, r = decide (x ∈ ns) := ⟨_, rfl⟩
    rw [← hr]
    have hstart : Hid (r = decide (x ∈ ns.drop 0)) := by show _ = _; rw [hr]; simp
    have HC := Lib.hid hc
    clear hr hc
    go_enter Tryz.func59, Tryz.ntmps59
    go_wp2_with fail
    go_loop [5] (fun i => ∃ k : Nat, i = .int .i64 k ∧ k ≤ ns.length ∧ Hid (r = decide (x ∈ ns.drop k))) (fun i => ns.length - (intOf i).toNat)
    case atStart => exact ⟨0, rfl, Nat.zero_le _, hstart⟩
    case round =>
      obtain ⟨k, rfl, hk, hr⟩ := hrel
      clear hstart
      by_cases hlt : k < ns.length
      · have hck := HC.out k hlt
        have hd := List.drop_eq_getElem_cons hlt
        rw [hd] at hr
        clear hd
        generalize ns[k] = y at hck hr
        by_cases he : y = x
        · subst he
          have HS : Hid (r = true) := by show _ = _; rw [hr.out]; simp
          clear hr
          go_wp2_with fail
          go_ret
          exact ⟨by rw [HS.out]; rfl, rfl⟩
        · have heq : (y == x) = false := beq_eq_false_iff_ne.2 he
          have HS : Hid (r = decide (x ∈ ns.drop (k + 1))) := by show _ = _; rw [hr.out]; simp [Ne.symm he]
          clear hr he
          go_wp2_with fail
          go_round
          case rel => exact ⟨k + 1, by go_num, by omega, HS⟩
          case measure => simp [intOf]; omega
      · have HS : Hid (r = false) := by show _ = _; rw [hr.out, List.drop_eq_nil_of_le (by omega)]; simp
        clear hr
        go_wp2_with fail
        go_ret
        exact ⟨by rw [HS.out]; rfl, rfl⟩

/-! ### growing -/

theorem grew_drew {a b : World} {r : Option Nat} (h : a.grownBy b r) : a.grownBy b.drew r := ⟨h.os, h.tape, h.output, h.size, h.block⟩
theorem grew_refl (a : World) (r : Option Nat) : a.grownBy a r := ⟨rfl, rfl, rfl, Nat.le_refl _, fun _ _ _ => rfl⟩
theorem grew_alloc {a b : World} {r : Option Nat} (h : a.grownBy b r) (o : Obj) : a.grownBy (b.alloc o) r :=
  ⟨h.os, h.tape, h.output, by simp; have := h.size; omega, fun k hk hr => by rw [Below.heap_alloc _ _ _ (Nat.lt_of_lt_of_le hk h.size)]; exact h.block k hk hr⟩
theorem grew_trans {a b c : World} {r r2 : Option Nat} (h1 : a.grownBy b r) (h2 : b.grownBy c r2) (hr : r2 = r ∨ ∃ k, r2 = some k ∧ a.heap.size ≤ k) : a.grownBy c r := by
  refine ⟨h2.os.trans h1.os, h2.tape.trans h1.tape, h2.output.trans h1.output, Nat.le_trans h1.size h2.size, fun k hk hne => ?_⟩
  rw [h2.block k (Nat.lt_of_lt_of_le hk h1.size) ?_]
  · exact h1.block k hk hne
  · rcases hr with rfl | ⟨k', rfl, hk'⟩
    · exact hne
    · intro e; injection e with e; omega

theorem grew_heap {a b : World} {r : Option Nat} (h : a.grownBy b r) {k : Nat} {o : Obj} (hk : a.heap[k]? = some o) (hr : some k ≠ r) : b.heap[k]? = some o := by
  rw [h.block k (Array.getElem?_eq_some_iff.1 hk).1 hr]; exact hk

def NamesP (mb : Nat) (w : World) (sv : Value) (ns : List (List UInt8)) (e : Ending) (w' : World) : Prop :=
  ∃ sv', e = .returned sv' ∧ w'.ownsRow mb 9 1 sv' ns.length (ns.map str) ∧ w.grownBy w' sv.ownBlock ∧ (sv'.ownBlock = sv.ownBlock ∨ ∃ k, sv'.ownBlock = some k ∧ w.heap.size ≤ k)

theorem name_ne {n : List UInt8} (h : Tm.nameOk n = true) : n.isEmpty = false ∧ (n == [107]) = false ∧ (n == [115]) = false := by
  refine ⟨?_, ?_, ?_⟩
  · cases n with
    | nil => simp [Tm.nameOk] at h
    | cons => rfl
  · rw [beq_eq_false_iff_ne]; rintro rfl; revert h; decide
  · rw [beq_eq_false_iff_ne]; rintro rfl; revert h; decide

theorem sinfo_string : (Tryz.prog.info? 9).map (fun i => (i.zero, i.size, i.bytes)) = some (some (.string ⟨#[]⟩), 1, 16) := by kernel_rfl

end Go.Proofs.YtdjoafnohkmneaaGreatDoor

namespace Go.Proofs.YtdjoafnohkmneaaGreatDoor
open Go Go.RowKit

set_option maxHeartbeats 1000000
set_option maxRecDepth 100000

/-- The world grows; of its old blocks the block q alone may change, to o. -/
def ExtQ (q : Nat) (o : Obj) (w w' : World) : Prop := w.grownBy w' (some q) ∧ (q < w.heap.size → w'.heap[q]? = w.heap[q]? ∨ w'.heap[q]? = some o)
theorem ExtQ.refl (q : Nat) (o : Obj) (w : World) : ExtQ q o w w := ⟨grew_refl w _, fun _ => Or.inl rfl⟩
theorem ExtQ.trans {q : Nat} {o : Obj} (a b c : World) (h : ExtQ q o a b) (g : ExtQ q o b c) : ExtQ q o a c := by
  refine ⟨grew_trans h.1 g.1 (Or.inl rfl), fun hq => ?_⟩
  rcases g.2 (Nat.lt_of_lt_of_le hq h.1.size) with e | e
  · rw [e]; exact h.2 hq
  · exact Or.inr e
theorem ExtQ.of {q : Nat} {o : Obj} {w w' : World} (h : After w w') : ExtQ q o w w' := ⟨after_grown q h, fun hq => Or.inl (h.block q hq)⟩
theorem ExtQ.heap {q : Nat} {o p : Obj} {k : Nat} {w w' : World} (h : ExtQ q o w w') (hk : w.heap[k]? = some p) (hne : k ≠ q) : w'.heap[k]? = some p := grew_heap h.1 hk (fun e => hne (by injection e))
theorem ExtQ.kept {q : Nat} {o : Obj} {w w' : World} (h : ExtQ q o w w') (hk : w.heap[q]? = some o) : w'.heap[q]? = some o := by
  rcases h.2 (Array.getElem?_eq_some_iff.1 hk).1 with e | e
  · rw [e, hk]
  · exact e
theorem ExtQ.cells {q : Nat} {cs cs' : Array Value} {T : TypeId} {f : Nat × Nat} {w w' : World} (h : ExtQ q (.cells cs' T f) w w') (hk : w.heap[q]? = some (.cells cs T f)) : ∃ c, w'.heap[q]? = some (.cells c T f) ∧ (c = cs ∨ c = cs') := by
  rcases h.2 (Array.getElem?_eq_some_iff.1 hk).1 with e | e
  · exact ⟨cs, by rw [e, hk], Or.inl rfl⟩
  · exact ⟨cs', e, Or.inr rfl⟩

/-- What an operation yields: a value, nothing, or a fact of the world that stays. -/
inductive Yq where
  | lit (v : Value)
  | free
  | fact (F : World → Prop)
def Yq.holds : Yq → Value → World → Prop
  | .lit u, v, _ => v = u
  | .free, _, _ => True
  | .fact F, _, w => F w
def yqs (L : List Yq) (i : Nat) (v : Value) (w : World) : Prop := (L.getD i .free).holds v w
def keepsQ (E : World → World → Prop) : Yq → Prop
  | .fact F => ∀ w w', E w w' → F w → F w'
  | _ => True
theorem yqs_later {L : List Yq} {E : World → World → Prop} (hL : ∀ y ∈ L, keepsQ E y) {w0 : World} : ∀ i v w w', E w0 w → yqs L i v w → E w w' → yqs L i v w' := by
  intro i v w w' _ h g
  unfold yqs at *
  by_cases hi : i < L.length
  · have hm : L.getD i .free ∈ L := by rw [List.getD_eq_getElem?_getD, List.getElem?_eq_getElem hi]; exact List.getElem_mem hi
    have hk := hL _ hm
    cases hy : L.getD i .free with
    | lit u => rw [hy] at h; exact h
    | free => trivial
    | fact F => rw [hy] at h hk; exact hk w w' g h
  · rw [List.getD_eq_getElem?_getD, List.getElem?_eq_none (by omega)]
    trivial

theorem frame_is {a : Act} {ops : Array Oper} {vs : Nat → Value} (A : Act) (h : frame a ops vs = A) : frame a ops vs = A := h

section
variable {P : Program} {ops : Array Oper} {Q : Exit → Act → World → Prop} {A : Act} {i : Nat} {w : World} {K : Act → World → Prop} {E : World → World → Prop}

theorem yieldedq_at {j : Nat} {v : Value} {b : Bool} (hj : ((ops[j]?).bind (·.dst)).bind (A.tmps[·]?) = some v) (hv : v = .bool b) : yielded ops A.tmps j = some b := by
  subst hv
  unfold yielded
  rw [hj]
theorem wantedq {o : Oper} {y : Nat → Option Bool} (hg : o.guard = none) : Region.wanted o y = true := by unfold Region.wanted; rw [hg]
theorem wantedq_on {j : Nat} {u : Value} {b : Bool} (hg : (opAt ops i).guard = some (j, b)) (hj : ((ops[j]?).bind (·.dst)).bind (A.tmps[·]?) = some u) (hu : u = .bool b) : Region.wanted (opAt ops i) (yielded ops A.tmps) = true := by
  unfold Region.wanted; rw [hg]; simp [yieldedq_at hj hu]
theorem wantedq_off {j : Nat} {u : Value} {b c : Bool} (hg : (opAt ops i).guard = some (j, b)) (hj : ((ops[j]?).bind (·.dst)).bind (A.tmps[·]?) = some u) (hu : u = .bool c) (hne : c ≠ b) : Region.wanted (opAt ops i) (yielded ops A.tmps) = false := by
  unfold Region.wanted; rw [hg]; simp [yieldedq_at hj hu, hne]

theorem dq_val {u v : Value} (hE : E w w) (hs : (ops[i]?).isSome = true) (hw : Region.wanted (opAt ops i) (yielded ops A.tmps) = true) (hr : (execOp A.eval (opAt ops i)).run P w = .ok (.value u) w) (hy : u = v)
    (hK : ∀ v' w', E w w' → (Yq.lit v).holds v' w' → K (A.put (dstOf ops i) v') w') : OpDo P ops Q A i w K :=
  op_val hs hw hr (hK _ _ hE hy)
theorem dq_new {v : Value} {w' : World} (hE : E w w') (hs : (ops[i]?).isSome = true) (hw : Region.wanted (opAt ops i) (yielded ops A.tmps) = true) (hr : (execOp A.eval (opAt ops i)).run P w = .ok (.value v) w')
    (y : Yq) (hy : y.holds v w') (hK : ∀ v' w', E w w' → y.holds v' w' → K (A.put (dstOf ops i) v') w') : OpDo P ops Q A i w K :=
  op_val hs hw hr (hK _ _ hE hy)
theorem dq_off (hE : E w w) (hs : (ops[i]?).isSome = true) (hw : Region.wanted (opAt ops i) (yielded ops A.tmps) = false)
    (hK : ∀ v' w', E w w' → Yq.free.holds v' w' → K (A.put (dstOf ops i) v') w') : OpDo P ops Q A i w K :=
  op_off hs hw (hK _ _ hE trivial)
theorem op_skip {w' : World} (hs : (ops[i]?).isSome = true) (hg : Region.wanted (opAt ops i) (yielded ops A.tmps) = true) (hr : (execOp A.eval (opAt ops i)).run P w = .ok .skip w') (hK : K (A.put (dstOf ops i) undef) w') : OpDo P ops Q A i w K := by
  constructor
  rw [opAt_of hs]
  simp only [hg, if_true]
  unfold Oper.wp
  rw [hr]
  rw [← opAt_dst hs] at hK
  exact hK
theorem dq_skip {w' : World} (hE : E w w') (hs : (ops[i]?).isSome = true) (hw : Region.wanted (opAt ops i) (yielded ops A.tmps) = true) (hr : (execOp A.eval (opAt ops i)).run P w = .ok .skip w') (F : World → Prop) (hF : F w')
    (hK : ∀ v' w', E w w' → (Yq.fact F).holds v' w' → K (A.put (dstOf ops i) v') w') : OpDo P ops Q A i w K := op_skip hs hw hr (hK undef w' hE hF)
theorem dq_call {f : FuncId} {args : Array Value} {v : Value} (hs : (ops[i]?).isSome = true) (hw : Region.wanted (opAt ops i) (yielded ops A.tmps) = true) (hr : (execOp A.eval (opAt ops i)).run P w = .ok (.enter f args) w)
    (hc : Calls P f args w fun e w' => e = .returned v ∧ E w w')
    (hK : ∀ v' w', E w w' → (Yq.lit v).holds v' w' → K (A.put (dstOf ops i) v') w') : OpDo P ops Q A i w K := by
  refine op_call hs hw hr (hc.mono ?_)
  rintro e w' ⟨rfl, ha⟩
  exact ⟨_, rfl, hK _ _ ha rfl⟩
end

section
variable {ops : Array Oper} {A : Act} {i : Nat} {w : World}
theorem rq_pick {c x y : Operand} {u : Value} {p : Bool} {r : Value} (hop : (opAt ops i).op = .pick c x y) (hc : A.eval c = u) (hu : u = .bool p) (hr : (if p = true then A.eval x else A.eval y) = r) : (execOp A.eval (opAt ops i)).run Tryz.prog w = .ok (.value r) w := by
  subst hu
  unfold execOp
  simp only [hop, hc]
  subst hr
  cases p <;> kernel_rfl
theorem rq_not {x : Operand} {T : TypeId} {u : Value} {b : Bool} (hop : (opAt ops i).op = .unOp .not T x) (hx : A.eval x = u) (hu : u = .bool b) : (execOp A.eval (opAt ops i)).run Tryz.prog w = .ok (.value (.bool !b)) w := by
  subst hu
  unfold execOp
  simp only [hop, hx]
  cases b <;> kernel_rfl
theorem rq_eql {x y : Operand} {T T' : TypeId} {u u' : Value} {n m : Int} {r : Bool} (hop : (opAt ops i).op = .binOp .eql T x y T') (hx : A.eval x = u) (hu : u = .int .i64 n) (hy : A.eval y = u') (hu' : u' = .int .i64 m) (hr : (n == m) = r) :
    (execOp A.eval (opAt ops i)).run Tryz.prog w = .ok (.value (.bool r)) w := by
  subst hu hu' hr
  unfold execOp
  simp only [hop, hx, hy]
  simp [go_sem]
theorem rq_leq {x y : Operand} {T T' : TypeId} {u u' : Value} {n m : Int} {r : Bool} (hop : (opAt ops i).op = .binOp .leq T x y T') (hx : A.eval x = u) (hu : u = .int .i64 n) (hy : A.eval y = u') (hu' : u' = .int .i64 m) (hr : decide (n ≤ m) = r) :
    (execOp A.eval (opAt ops i)).run Tryz.prog w = .ok (.value (.bool r)) w := by
  subst hu hu' hr
  unfold execOp
  simp only [hop, hx, hy]
  simp [go_sem]
theorem rq_gtr {x y : Operand} {T T' : TypeId} {u u' : Value} {n m : Int} {r : Bool} (hop : (opAt ops i).op = .binOp .gtr T x y T') (hx : A.eval x = u) (hu : u = .int .i64 n) (hy : A.eval y = u') (hu' : u' = .int .i64 m) (hr : decide (n > m) = r) :
    (execOp A.eval (opAt ops i)).run Tryz.prog w = .ok (.value (.bool r)) w := by
  subst hu hu' hr
  unfold execOp
  simp only [hop, hx, hy]
  simp [go_sem]
/-- The length of a text. -/
theorem rq_len {x : Operand} {u : Value} {l : List UInt8} (hop : (opAt ops i).op = .call { callee := .builtin .len, args := #[x], argTypes := #[9] }) (hx : A.eval x = u) (hu : u = str l) :
    (execOp A.eval (opAt ops i)).run Tryz.prog w = .ok (.value (.int .i64 l.length)) w := by
  subst hu
  unfold execOp
  generalize A.eval = E at *
  simp only [hop]
  have h : (Builtin.len_ #[9] (opAt ops i).type #[str l]).run Tryz.prog w = .ok (.int .i64 l.length) w := by
    have : (Builtin.len_ #[9] (opAt ops i).type #[str l]).run Tryz.prog w = .ok (.int .i64 ((⟨l.toArray⟩ : ByteArray).size : Nat)) w := by kernel_rfl
    rw [this]
    rfl
  simp [go_sem, hx, h]
/-- A tree is loaded whole. -/
theorem rq_tree {x : Operand} {u c0 c1 : Value} {b k : Nat} (hop : (opAt ops i).op = .load 35 x) (hx : A.eval x = u) (hu : u = .pointer (some ⟨b, k, none⟩)) (h0 : w.cell? ⟨b, k, none⟩ = some c0) (h1 : w.cell? ⟨b, k + 1, none⟩ = some c1) :
    (execOp A.eval (opAt ops i)).run Tryz.prog w = .ok (.value (.agg #[c0, c1])) w := by
  subst hu
  obtain ⟨d, hd, hr⟩ : ∃ d, Tryz.prog.underlying 35 = some d ∧ d.isRow = true := ⟨_, rfl, rfl⟩
  have hl := run_loadAt_mid w b k 35 [c0, c1] d (fun j v hj => by
    match j, hj with
    | 0, hj => simp at hj; subst hj; exact h0
    | 1, hj => simp at hj; subst hj; exact h1) hd hr (by kernel_rfl)
  unfold execOp
  simp only [hop, hx, Sem.run_bind, hl, Result.andThen_ok, Sem.run_pure]
/-- A tree is stored whole. -/
theorem rq_store {x y : Operand} {u v c0 c1 p0 p1 : Value} {b : Nat} (hop : (opAt ops i).op = .store 35 x y) (hx : A.eval x = u) (hu : u = .pointer (some ⟨b, 0, none⟩)) (hy : A.eval y = v) (hv : v = .agg #[c0, c1])
    (hb : w.heap[b]? = some (.cells #[p0, p1] 35 (0, 0))) (h0 : c0.oneCell' = true) (h1 : c1.oneCell' = true) :
    ∃ w', (execOp A.eval (opAt ops i)).run Tryz.prog w = .ok .skip w' ∧ ExtQ b (.cells #[c0, c1] 35 (0, 0)) w w' ∧ w'.heap[b]? = some (.cells #[c0, c1] 35 (0, 0)) := by
  subst hu hv
  have hth : w.there b 0 2 := fun j hj => by
    rw [Nat.zero_add]
    refine ⟨?_, by simp [World.frozen?, hb]⟩
    match j, hj with
    | 0, _ => rw [cell_of_heap (i := 0) hb]; rfl
    | 1, _ => rw [cell_of_heap (i := 1) hb]; rfl
  have hst : (Instr.storeAt 35 (.pointer (some ⟨b, 0, none⟩)) (.agg #[c0, c1])).run Tryz.prog w = .ok () (w.setCells b 0 [c0, c1]) := run_storeAt_mid w b 0 35 #[c0, c1] hth (by kernel_rfl) (by simp [h0, h1])
  have hfin : (w.setCells b 0 [c0, c1]).heap[b]? = some (.cells #[c0, c1] 35 (0, 0)) := by
    simp [World.setCells, World.setCell, Array.getElem?_modify, hb]
  have hrun : (execOp A.eval (opAt ops i)).run Tryz.prog w = .ok .skip (w.setCells b 0 [c0, c1]) := by
    unfold execOp
    simp only [hop, hx, hy, Sem.run_bind, hst, Result.andThen_ok, Sem.run_pure]
  refine ⟨w.setCells b 0 [c0, c1], hrun, ⟨⟨rfl, rfl, rfl, by simp [World.setCells], fun k hk hne => ?_⟩, fun _ => Or.inr hfin⟩, hfin⟩
  have hkb : b ≠ k := fun e => hne (by rw [e])
  simp [World.setCells, World.setCell, Array.getElem?_modify, hkb]
end
end Go.Proofs.YtdjoafnohkmneaaGreatDoor
