/-
  The drawing of inputs: realizers of assemblies: whatever the code, some text.
-/
import Derived.Test.YtidpkmkhcomcdaaGreatPkK
import Derived.Test.YtidpkmkhcomcdaaGreatPkH
import Derived.Test.YtidpkmkhcomcdaaGreatPkI
import Derived.Test.YtidpkmkhcomcdaaGreatPkC
import Derived.BigQuiet
import Derived.Deep.QuietTactic
import Derived.Laws.OwnMore
import Derived.Test.YtidpkmkhcomcdaaGreatPkG
namespace Go.Proofs.YtidpkmkhcomcdaaGreat
open Go.RowKit

set_option maxHeartbeats 1000000
set_option maxRecDepth 100000

theorem grown_aft {w W : World} {b : Nat} (h : After w W) : w.grownBy W (some b) := ⟨h.os, h.tape, h.output, h.size, fun k hk _ => h.block k hk⟩

theorem realizer_any (w : World) (rb p : Nat) (h : Dr w rb p) (hp : p ≤ 900000) :
    Calls Tryz.prog 71 #[.pointer (some ⟨rb, 0, none⟩)] w (StrPost w rb p 21000 48) := by
  have hc := closed_any 2 w rb p 2 h (by omega) (by omega) (by omega) (by omega)
  clear h
  go_enter Tryz.func71, Tryz.ntmps71
  go_wp2_with fail
  refine hc.mono ?_
  rintro e w1 ⟨s, q, rfl, hs, hq, hg, hd⟩
  obtain ⟨l, rfl⟩ : ∃ l : List UInt8, s = ⟨l.toArray⟩ := ⟨s.data.toList, by simp⟩
  rw [ssize] at hs
  have hn := spec_norm w1 l (by omega)
  unfold SNum at hn
  have hx : ((Tm.pNorm l).map Prod.fst).getD [] |>.length |> (· ≤ 21000) := by
    show (((Tm.pNorm l).map Prod.fst).getD []).length ≤ 21000
    cases hb : Tm.pNorm l with
    | none => simp
    | some r =>
      obtain ⟨x, m⟩ := r
      exact (Tm.normof_facts hb).2.2.2
  have hx : (((Tm.pNorm l).map Prod.fst).getD []).length ≤ 21000 := hx
  generalize (((Tm.pNorm l).map Prod.fst).getD []) = x at *
  generalize (((Tm.pNorm l).map Prod.snd).getD 0 : Nat) = m at *
  generalize (Tm.pNorm l).isSome = b at *
  have hsz := fun W => spec_size W x (by omega)
  have zx := ssize x
  generalize Tm.pSize x = z at *
  have HX : Hid ((⟨x.toArray⟩ : ByteArray).size ≤ 21000) := by show _ ≤ _; omega
  have HQ : Hid (q ≤ p + 48) := by show _ ≤ _; omega
  have HG := Lib.hid hg
  have HD := Lib.hid hd
  clear hc hq hs hg hd zx
  go_wp2_with fail
  refine hn.mono ?_
  rintro e w2 ⟨rfl, hb2⟩
  have HD2 := Lib.hid (HD.out.after hb2)
  have HG2 := Lib.hid (grown_trans HG.out (grown_aft hb2))
  clear hn hb2
  cases b with
  | false =>
    go_wp2_with fail
    go_ret
    exact ⟨_, q, rfl, by decide, HQ.out, HG2.out, HD2.out⟩
  | true =>
    by_cases hz : (60 : Int) < z
    · go_wp2_with (go_at_call 48; refine (hsz _).mono ?_; rintro e w3 ⟨rfl, hb3⟩)
      go_ret
      exact ⟨_, q, rfl, by decide, HQ.out, grown_trans HG2.out (grown_aft hb3), HD2.out.after hb3⟩
    · go_wp2_with (go_at_call 48; refine (hsz _).mono ?_; rintro e w3 ⟨rfl, hb3⟩)
      go_ret
      exact ⟨_, q, rfl, HX.out, HQ.out, grown_trans HG2.out (grown_aft hb3), HD2.out.after hb3⟩
end Go.Proofs.YtidpkmkhcomcdaaGreat

namespace Go.Proofs.YtidpkmkhcomcdaaGreat
open Go.RowKit

set_option maxHeartbeats 1000000
set_option maxRecDepth 100000

/-- A pick that keeps the code. -/
def PickV (w : World) (rb p m : Nat) (v : Value) (e : Ending) (w' : World) : Prop :=
  ∃ k : Nat, k < m ∧ e = .returned (.int .i64 k) ∧ w.grownBy w' (some rb) ∧ DR w' rb v (p + 1) ∧ CodeOk w' rb v

theorem pickv_none (w : World) (rb p : Nat) (a0 : Option Addr) (cap m : Nat) (h : DR w rb (.slice a0 0 cap) p) (hp : p ≤ 1000000) (hm : 1 ≤ m) :
    Calls Tryz.prog 27 #[.pointer (some ⟨rb, 0, none⟩), .int .i64 m] w (PickV w rb p m (.slice a0 0 cap)) := by
  have c0 : w.cell? ⟨rb, 0, none⟩ = some (.slice a0 0 cap) := cell_of_heap h
  have c1 : w.cell? ⟨rb, 1, none⟩ = some (.int .i64 (p : Nat)) := cell_of_heap h
  have f1 : w.frozen? ⟨rb, 1, none⟩ = false := by unfold DR at h; simp [World.frozen?, h]
  have H := Lib.hid h
  clear h
  go_enter Tryz.func27, Tryz.ntmps27
  go_wp2_with fail
  go_ret
  exact ⟨0, by omega, rfl, grown_set1 _ _ _ _, H.out.set (p + 1), Or.inl ⟨_, _, rfl⟩⟩
theorem pickv_in (w : World) (rb p : Nat) (b o n cap m : Nat) (z : Nat → Nat) (h : DR w rb (.slice (some ⟨b, o, none⟩) n cap) p) (hn : n ≤ 2000) (hne : b ≠ rb) (hz : ∀ i, i < n → w.cell? ⟨b, o + i, none⟩ = some (.int .u8 (z i)) ∧ z i ≤ 255) (hp : p < n) (hm : 1 ≤ m) (hm2 : m ≤ 1000) :
    Calls Tryz.prog 27 #[.pointer (some ⟨rb, 0, none⟩), .int .i64 m] w (PickV w rb p m (.slice (some ⟨b, o, none⟩) n cap)) := by
  have c0 : w.cell? ⟨rb, 0, none⟩ = some (.slice (some ⟨b, o, none⟩) n cap) := cell_of_heap h
  have c1 : w.cell? ⟨rb, 1, none⟩ = some (.int .i64 (p : Nat)) := cell_of_heap h
  have f1 : w.frozen? ⟨rb, 1, none⟩ = false := by unfold DR at h; simp [World.frozen?, h]
  have H := Lib.hid h
  obtain ⟨hz1, hz2⟩ := hz p hp
  have hz3 := fun v => (cell_set_other (w := w) (i := o + p) hne v).trans hz1
  have HZ := Lib.hid hz
  have hp' : (p : Int) < (n : Int) := by omega
  have hm' : (1 : Int) ≤ (m : Int) := by omega
  have hn' : ((n : Int) == 0) = false := by rw [beq_eq_false_iff_ne]; omega
  clear h hz
  go_enter Tryz.func27, Tryz.ntmps27
  go_wp2_with fail
  go_ret
  refine ⟨z p % m, Nat.mod_lt _ (by omega), ?_, grown_set1 _ _ _ _, H.out.set (p + 1), Or.inr ⟨b, o, n, cap, by omega, hn, rfl, hne, z, fun i hi => ?_⟩⟩
  · show Ending.returned (.int .i64 _) = _; rfl
  · rw [cell_set_other hne]; exact HZ.out i hi

theorem pickv_past (w : World) (rb p : Nat) (b o n cap m : Nat) (z : Nat → Nat) (h : DR w rb (.slice (some ⟨b, o, none⟩) n cap) p) (hn : n ≤ 2000) (hne : b ≠ rb) (hz : ∀ i, i < n → w.cell? ⟨b, o + i, none⟩ = some (.int .u8 (z i)) ∧ z i ≤ 255) (hp : n ≤ p) (hp2 : p ≤ 1000000) (hn0 : 0 < n) (hm : 1 ≤ m) (hm2 : m ≤ 1000) :
    Calls Tryz.prog 27 #[.pointer (some ⟨rb, 0, none⟩), .int .i64 m] w (PickV w rb p m (.slice (some ⟨b, o, none⟩) n cap)) := by
  have c0 : w.cell? ⟨rb, 0, none⟩ = some (.slice (some ⟨b, o, none⟩) n cap) := cell_of_heap h
  have c1 : w.cell? ⟨rb, 1, none⟩ = some (.int .i64 (p : Nat)) := cell_of_heap h
  have f1 : w.frozen? ⟨rb, 1, none⟩ = false := by unfold DR at h; simp [World.frozen?, h]
  have H := Lib.hid h
  have l1 : p % n < n := Nat.mod_lt _ hn0
  have l2 : (p * 7 + 3) % n < n := Nat.mod_lt _ hn0
  obtain ⟨hz1, hz2⟩ := hz _ l1
  obtain ⟨hy1, hy2⟩ := hz _ l2
  have hz3 := fun v => (cell_set_other (w := w) (i := o + p % n) hne v).trans hz1
  have hy3 := fun v => (cell_set_other (w := w) (i := o + (p * 7 + 3) % n) hne v).trans hy1
  obtain ⟨k, hk, he⟩ := mix_range p n m (z (p % n)) (z ((p * 7 + 3) % n)) hp2 hz2 hy2 hm
  have HE := Lib.hid he
  clear he
  have HZ := Lib.hid hz
  have hp' : ¬ (p : Int) < (n : Int) := by omega
  have hm' : (1 : Int) ≤ (m : Int) := by omega
  have hn' : ((n : Int) == 0) = false := by rw [beq_eq_false_iff_ne]; omega
  have hn1 : ¬ n = 0 := by omega
  have hn2 : (0 : Int) < (n : Int) := by omega
  have q0 : 0 ≤ (p : Int) % (n : Int) := Int.emod_nonneg _ (by omega)
  have q1 : (p : Int) % (n : Int) < (n : Int) := Int.emod_lt_of_pos _ hn2
  have q2 : ((p : Int) % (n : Int)).toNat = p % n := by rw [← Int.natCast_emod]; rfl
  have r0 : 0 ≤ ((p : Int) * 7 + 3) % (n : Int) := Int.emod_nonneg _ (by omega)
  have r1 : ((p : Int) * 7 + 3) % (n : Int) < (n : Int) := Int.emod_lt_of_pos _ hn2
  have r2 : (((p : Int) * 7 + 3) % (n : Int)).toNat = (p * 7 + 3) % n := by
    rw [show ((p : Int) * 7 + 3) = ((p * 7 + 3 : Nat) : Int) by omega, ← Int.natCast_emod]; rfl
  have ht2 : ((p : Int) * 7 + 3).tmod (n : Int) = ((p : Int) * 7 + 3) % (n : Int) := Int.tmod_eq_emod_of_nonneg (by omega)
  clear h hz
  go_enter Tryz.func27, Tryz.ntmps27
  go_wp2_with fail
  go_quiet (fail)
  go_wp2_with fail
  go_ret
  refine ⟨k, hk, ?_, grown_trans (grown_set1 _ _ _ _) (grown_drawn _ rb _), H.out.set (p + 1), Or.inr ⟨b, o, n, cap, by omega, hn, rfl, hne, z, fun i hi => ?_⟩⟩
  · exact congrArg (fun x => Ending.returned (.int .i64 x)) HE.out
  · exact (cell_set_other hne _).trans (HZ.out i hi).1 |> fun h => ⟨h, (HZ.out i hi).2⟩

theorem pickv_any (w : World) (rb p m : Nat) (v : Value) (h : DR w rb v p) (hc : CodeOk w rb v) (hp : p ≤ 1000000) (hm : 1 ≤ m) (hm2 : m ≤ 1000) :
    Calls Tryz.prog 27 #[.pointer (some ⟨rb, 0, none⟩), .int .i64 m] w (PickV w rb p m v) := by
  rcases hc with ⟨a0, cap, rfl⟩ | ⟨b, o, n, cap, hn0, hn, rfl, hne, z, hz⟩
  · exact pickv_none w rb p a0 cap m h hp hm
  · by_cases hlt : p < n
    · exact pickv_in w rb p b o n cap m z h hn hne hz hlt hm hm2
    · exact pickv_past w rb p b o n cap m z h hn hne hz (by omega) hp hn0 hm hm2

theorem CodeOk.grown {w W : World} {rb : Nat} {v : Value} (h : CodeOk w rb v) (hg : w.grownBy W (some rb)) : CodeOk W rb v := by
  rcases h with h | ⟨b, o, n, cap, hn0, hn, rfl, hne, z, hz⟩
  · exact Or.inl h
  · exact Or.inr ⟨b, o, n, cap, hn0, hn, rfl, hne, z, fun i hi => ⟨grown_cell (hz i hi).1 hne hg, (hz i hi).2⟩⟩

/-- The reader of a code, with the code. -/
def DrV (v : Value) (w : World) (rb p : Nat) : Prop := DR w rb v p ∧ CodeOk w rb v
theorem DrV.dr {v : Value} {w : World} {rb p : Nat} (h : DrV v w rb p) : Dr w rb p := ⟨v, h⟩
theorem DrV.lt {v : Value} {w : World} {rb p : Nat} (h : DrV v w rb p) : rb < w.heap.size := h.dr.lt
theorem DrV.after {v : Value} {w W : World} {rb p : Nat} (h : DrV v w rb p) (hw : Below w.heap.size w W) : DrV v W rb p := ⟨heap_later h.1 hw, h.2.after hw⟩
def OfPostV (v : Value) (w : World) (rb p : Nat) (L : List (List UInt8)) (e : Ending) (w' : World) : Prop :=
  ∃ s, s ∈ L ∧ e = .returned (str s) ∧ w.grownBy w' (some rb) ∧ DrV v w' rb (p + 1)
def StrPostV (v : Value) (w : World) (rb p b c : Nat) (e : Ending) (w' : World) : Prop :=
  ∃ (s : ByteArray) (q : Nat), e = .returned (.string s) ∧ s.size ≤ b ∧ q ≤ p + c ∧ w.grownBy w' (some rb) ∧ DrV v w' rb q
def PickPostV (v : Value) (w : World) (rb p m : Nat) (e : Ending) (w' : World) : Prop :=
  ∃ k : Nat, k < m ∧ e = .returned (.int .i64 k) ∧ w.grownBy w' (some rb) ∧ DrV v w' rb (p + 1)
theorem pickV_any (v : Value) (w : World) (rb p m : Nat) (h : DrV v w rb p) (hp : p ≤ 1000000) (hm : 1 ≤ m) (hm2 : m ≤ 1000) :
    Calls Tryz.prog 27 #[.pointer (some ⟨rb, 0, none⟩), .int .i64 m] w (PickPostV v w rb p m) := by
  refine (pickv_any w rb p m v h.1 h.2 hp hm hm2).mono ?_
  rintro e w' ⟨k, h1, h2, h3, h4, h5⟩
  exact ⟨k, h1, h2, h3, h4, h5⟩

theorem ofV_any (v : Value) (w : World) (rb p g : Nat) (fr : Nat × Nat) (L : List (List UInt8)) (hL : w.heap[g]? = some (.cells (L.map str).toArray 9 fr)) (h0 : 0 < L.length) (h1 : L.length ≤ 1000) (hne : g ≠ rb) (h : DrV v w rb p) (hp : p ≤ 1000000) :
    Calls Tryz.prog 109 #[.pointer (some ⟨rb, 0, none⟩), .slice (some ⟨g, 0, none⟩) L.length L.length] w (OfPostV v w rb p L) := by
  have hpick := pickV_any v w rb p L.length h hp (by omega) h1
  have hcell : ∀ k, k < L.length → w.cell? ⟨g, k, none⟩ = some (str (L.getD k [])) := fun k hk => by
    rw [cell_of_heap hL]
    simp [List.getD_eq_getElem?_getD, List.getElem?_eq_getElem hk]
  obtain ⟨N, hN⟩ : ∃ N, N = L.length := ⟨_, rfl⟩
  rw [← hN] at hpick h0 h1 hcell ⊢
  have HN := Lib.hid hN
  clear hN hL h
  go_enter Tryz.func109, Tryz.ntmps109
  go_wp2_with fail
  refine hpick.mono ?_
  rintro e w1 ⟨k, hk, rfl, hg1, hd1⟩
  have hc := grown_cell (hcell k hk) hne hg1
  have hk' : (k : Int) < (N : Int) := by omega
  have HD := Lib.hid hd1
  clear hd1 hpick hcell
  go_wp2_with fail
  go_ret
  refine ⟨L.getD k [], ?_, rfl, hg1, HD.out⟩
  have := HN.out
  rw [List.getD_eq_getElem?_getD, List.getElem?_eq_getElem (by omega)]
  exact List.getElem_mem _

theorem closedV_leaf (v : Value) (w : World) (rb p : Nat) (d : Int) (h : DrV v w rb p) (hp : p ≤ 1000000) (hd : d ≤ 0) :
    Calls Tryz.prog 94 #[.pointer (some ⟨rb, 0, none⟩), .int .i64 d] w (StrPostV v w rb p 13 3) := by
  have hlt := h.lt
  have hof := ofV_any v (w.alloc (.cells (closedL.map str).toArray 9)) rb p w.heap.size (0, 0) closedL (heap_top w _) (by decide) (by decide) (by omega) (h.after (below_new w _)) hp
  have hlen : ∀ s ∈ closedL, s.length ≤ 13 := by decide
  have HL := Lib.hid hlen
  clear h hlen
  go_enter Tryz.func94, Tryz.ntmps94
  go_wp2_with fail
  refine hof.mono ?_
  rintro e w1 ⟨s, hs, rfl, hg1, hd1⟩
  have HD := Lib.hid hd1
  have HS := Lib.hid hs
  clear hd1 hof hs
  go_wp2_with fail
  go_ret
  exact ⟨⟨s.toArray⟩, p + 1, rfl, by rw [ssize]; exact HL.out s HS.out, by omega, grown_new hg1 hlt, HD.out⟩

theorem closedV_any (v : Value) : ∀ (n : Nat) (w : World) (rb p : Nat) (d : Int), DrV v w rb p → p + 3 * 4 ^ n ≤ 1000000 → d ≤ n → -100 ≤ d → n ≤ 10 →
    Calls Tryz.prog 94 #[.pointer (some ⟨rb, 0, none⟩), .int .i64 d] w (StrPostV v w rb p (13 * 4 ^ n) (3 * 4 ^ n)) := by
  intro n
  induction n with
  | zero =>
    intro w rb p d h hp hd _ _
    exact closedV_leaf v w rb p d h (by omega) (by omega)
  | succ n ih =>
    intro w rb p d h hp hd hd2 hn
    have hpw := pow_pos4 n
    have hpn : 4 ^ n ≤ 1048576 := Nat.pow_le_pow_right (by decide) (show n ≤ 10 by omega)
    rw [Nat.pow_succ] at hp ⊢
    by_cases hd0 : d ≤ 0
    · refine (closedV_leaf v w rb p d h (by omega) hd0).mono ?_
      rintro e w' ⟨s, q, rfl, hs, hq, hg, hd⟩
      exact ⟨s, q, rfl, by omega, by omega, hg, hd⟩
    · have hp1 := pickV_any v w rb p 5 h (by omega) (by decide) (by decide)
      generalize 4 ^ n = P at *
      have HIH := Lib.hid ih
      clear ih h
      go_enter Tryz.func94, Tryz.ntmps94
      go_wp2_with fail
      refine hp1.mono ?_
      rintro e w1 ⟨k, hk, rfl, hg1, hd1⟩
      have hlt := hd1.lt
      by_cases hk0 : k = 0
      · subst hk0
        have hof := ofV_any v (w1.alloc (.cells (closedL.map str).toArray 9)) rb (p + 1) w1.heap.size (0, 0) closedL (heap_top w1 _) (by decide) (by decide) (by omega) (hd1.after (below_new w1 _)) (by omega)
        have hlen : ∀ s ∈ closedL, s.length ≤ 13 := by decide
        have HL := Lib.hid hlen
        clear hlen hd1 hp1
        go_wp2_with fail
        refine hof.mono ?_
        rintro e w2 ⟨s, hs, rfl, hg2, hd2⟩
        have HD := Lib.hid hd2
        have HS := Lib.hid hs
        clear hd2 hof hs
        go_wp2_with fail
        go_ret
        exact ⟨⟨s.toArray⟩, p + 1 + 1, rfl, by rw [ssize]; have := HL.out s HS.out; omega, by omega, grown_trans hg1 (grown_new hg2 hlt), HD.out⟩
      · have hk1 : ((k : Int) == 0) = false := by rw [beq_eq_false_iff_ne]; omega
        have hp2 := pickV_any v w1 rb (p + 1) 4 hd1 (by omega) (by decide) (by decide)
        clear hd1 hp1
        go_wp2_with fail
        refine hp2.mono ?_
        rintro e w2 ⟨j, hj, rfl, hg2, hd2'⟩
        have HD2 := Lib.hid hd2'
        clear hd2' hp2
        by_cases hj0 : j = 0
        · subst hj0
          go_wp2_with fail
          refine (HIH.out w2 rb (p + 1 + 1) (d - 1) HD2.out (by omega) (by omega) (by omega) (by omega)).mono ?_
          rintro e w3 ⟨s1, q1, rfl, hz1, hq1, hg3, hd3⟩
          obtain ⟨t1, z1, e1⟩ := cat2 ⟨#[40, 40, 107, 32]⟩ s1 (by have : (⟨#[40, 40, 107, 32]⟩ : ByteArray).size = 4 := rfl; omega)
          obtain ⟨t2, z2, e2⟩ := cat2 t1 ⟨#[41, 32]⟩ (by have : (⟨#[40, 40, 107, 32]⟩ : ByteArray).size = 4 := rfl; have : (⟨#[41, 32]⟩ : ByteArray).size = 2 := rfl; omega)
          have HD3 := Lib.hid hd3
          have Z1 := Lib.hid z1
          have Z2 := Lib.hid z2
          clear hd3 z1 z2
          go_wp2_with fail
          refine (HIH.out w3 rb q1 (d - 1) HD3.out (by omega) (by omega) (by omega) (by omega)).mono ?_
          rintro e w4 ⟨s2, q2, rfl, hz2, hq2, hg4, hd4⟩
          have l1 : (⟨#[40, 40, 107, 32]⟩ : ByteArray).size = 4 := rfl
          have l2 : (⟨#[41, 32]⟩ : ByteArray).size = 2 := rfl
          have l3 : (⟨#[41]⟩ : ByteArray).size = 1 := rfl
          have y1 := Z1.out
          have y2 := Z2.out
          obtain ⟨t3, z3, e3⟩ := cat2 t2 s2 (by omega)
          obtain ⟨t4, z4, e4⟩ := cat2 t3 ⟨#[41]⟩ (by omega)
          have hfin : t4.size ≤ 13 * (P * 4) := by omega
          have HD4 := Lib.hid hd4
          clear hd4 l1 l2 l3 y1 y2 z3 z4
          go_wp2_with fail
          go_ret
          exact ⟨t4, q2, rfl, hfin, by omega, grown_trans (grown_trans hg1 hg2) (grown_trans hg3 hg4), HD4.out⟩
        · have hj1 : ((j : Int) == 0) = false := by rw [beq_eq_false_iff_ne]; omega
          go_wp2_with fail
          refine (HIH.out w2 rb (p + 1 + 1) (d - 1) HD2.out (by omega) (by omega) (by omega) (by omega)).mono ?_
          rintro e w3 ⟨s1, q1, rfl, hz1, hq1, hg3, hd3⟩
          obtain ⟨t1, z1, e1⟩ := cat2 ⟨#[40]⟩ s1 (by have : (⟨#[40]⟩ : ByteArray).size = 1 := rfl; omega)
          obtain ⟨t2, z2, e2⟩ := cat2 t1 ⟨#[32]⟩ (by have : (⟨#[40]⟩ : ByteArray).size = 1 := rfl; have : (⟨#[32]⟩ : ByteArray).size = 1 := rfl; omega)
          have HD3 := Lib.hid hd3
          have Z1 := Lib.hid z1
          have Z2 := Lib.hid z2
          clear hd3 z1 z2
          go_wp2_with fail
          refine (HIH.out w3 rb q1 (d - 1) HD3.out (by omega) (by omega) (by omega) (by omega)).mono ?_
          rintro e w4 ⟨s2, q2, rfl, hz2, hq2, hg4, hd4⟩
          have l1 : (⟨#[40]⟩ : ByteArray).size = 1 := rfl
          have l2 : (⟨#[32]⟩ : ByteArray).size = 1 := rfl
          have l3 : (⟨#[41]⟩ : ByteArray).size = 1 := rfl
          have y1 := Z1.out
          have y2 := Z2.out
          obtain ⟨t3, z3, e3⟩ := cat2 t2 s2 (by omega)
          obtain ⟨t4, z4, e4⟩ := cat2 t3 ⟨#[41]⟩ (by omega)
          have hfin : t4.size ≤ 13 * (P * 4) := by omega
          have HD4 := Lib.hid hd4
          clear hd4 l1 l2 l3 y1 y2 z3 z4
          go_wp2_with fail
          go_ret
          exact ⟨t4, q2, rfl, hfin, by omega, grown_trans (grown_trans hg1 hg2) (grown_trans hg3 hg4), HD4.out⟩

theorem realizerV_any (v : Value) (w : World) (rb p : Nat) (h : DrV v w rb p) (hp : p ≤ 900000) :
    Calls Tryz.prog 71 #[.pointer (some ⟨rb, 0, none⟩)] w (StrPostV v w rb p 21000 48) := by
  have hc := closedV_any v 2 w rb p 2 h (by omega) (by omega) (by omega) (by omega)
  clear h
  go_enter Tryz.func71, Tryz.ntmps71
  go_wp2_with fail
  refine hc.mono ?_
  rintro e w1 ⟨s, q, rfl, hs, hq, hg, hd⟩
  obtain ⟨l, rfl⟩ : ∃ l : List UInt8, s = ⟨l.toArray⟩ := ⟨s.data.toList, by simp⟩
  rw [ssize] at hs
  have hn := spec_norm w1 l (by omega)
  unfold SNum at hn
  have hx : ((Tm.pNorm l).map Prod.fst).getD [] |>.length |> (· ≤ 21000) := by
    show (((Tm.pNorm l).map Prod.fst).getD []).length ≤ 21000
    cases hb : Tm.pNorm l with
    | none => simp
    | some r =>
      obtain ⟨x, m⟩ := r
      exact (Tm.normof_facts hb).2.2.2
  have hx : (((Tm.pNorm l).map Prod.fst).getD []).length ≤ 21000 := hx
  generalize (((Tm.pNorm l).map Prod.fst).getD []) = x at *
  generalize (((Tm.pNorm l).map Prod.snd).getD 0 : Nat) = m at *
  generalize (Tm.pNorm l).isSome = b at *
  have hsz := fun W => spec_size W x (by omega)
  have zx := ssize x
  generalize Tm.pSize x = z at *
  have HX : Hid ((⟨x.toArray⟩ : ByteArray).size ≤ 21000) := by show _ ≤ _; omega
  have HQ : Hid (q ≤ p + 48) := by show _ ≤ _; omega
  have HG := Lib.hid hg
  have HD := Lib.hid hd
  clear hc hq hs hg hd zx
  go_wp2_with fail
  refine hn.mono ?_
  rintro e w2 ⟨rfl, hb2⟩
  have HD2 := Lib.hid (HD.out.after hb2)
  have HG2 := Lib.hid (grown_trans HG.out (grown_aft hb2))
  clear hn hb2
  cases b with
  | false =>
    go_wp2_with fail
    go_ret
    exact ⟨_, q, rfl, by decide, HQ.out, HG2.out, HD2.out⟩
  | true =>
    by_cases hz : (60 : Int) < z
    · go_wp2_with (go_at_call 48; refine (hsz _).mono ?_; rintro e w3 ⟨rfl, hb3⟩)
      go_ret
      exact ⟨_, q, rfl, by decide, HQ.out, grown_trans HG2.out (grown_aft hb3), HD2.out.after hb3⟩
    · go_wp2_with (go_at_call 48; refine (hsz _).mono ?_; rintro e w3 ⟨rfl, hb3⟩)
      go_ret
      exact ⟨_, q, rfl, HX.out, HQ.out, grown_trans HG2.out (grown_aft hb3), HD2.out.after hb3⟩
end Go.Proofs.YtidpkmkhcomcdaaGreat

namespace Go.Proofs.YtidpkmkhcomcdaaGreat
open Go.RowKit

set_option maxHeartbeats 2000000
set_option maxRecDepth 100000


theorem OwnSS.empty {w : World} {base g : Nat} (h : w.heap[g]? = some (.cells #[] 40 (0, 0))) (hb : base ≤ g) : OwnSS w base (.slice (some ⟨g, 0, none⟩) 0 0) [] :=
  ⟨[], ⟨rfl, Or.inr ⟨g, 0, #[], rfl, hb, h, Nat.le_refl _, Nat.zero_le _, rfl, rfl⟩⟩, fun j h => absurd h (Nat.not_lt_zero j), fun i j ri rj _ h => by simp at h⟩

theorem spec_nums (w : World) (n : Int) : Calls Tryz.prog 10 #[.int .i64 n] w (AsmOwn w (pNums n)) := by
  have hA1 := After.new w (.cells #[.slice none 0 0] 26)
  by_cases hn : 1 ≤ n ∧ n ≤ 6
  · obtain ⟨N, rfl⟩ : ∃ N : Nat, n = N := ⟨n.toNat, by omega⟩
    have hin := fun W => s_in W N 1 6 true (by rw [decide_eq_true_eq]; exact hn)
    rw [show pNums (N : Int) = some (numsA N) by unfold pNums; rw [if_pos hn, Int.toNat_natCast]]
    have hN6 : N ≤ 6 := by omega
    have hok := nums_ok N (by omega) (by omega)
    have hlens := nums_lens N (by omega)
    have hval := fun W sv (h : SSU 0 W sv (numsA N)) => s_asmValid W sv (numsA N) h ⟨by have := hlens.1; omega, fun ns hs => ⟨by have := (hlens.2 ns hs).1; omega, fun s h => by have := (hlens.2 ns hs).2 s h; omega⟩⟩
    rw [hok] at hval
    obtain ⟨os, hos⟩ : ∃ os : List Obj, os = [.cells #[.slice none 0 0] 26, .cells #[] 40, .cells #[.slice (some ⟨w.heap.size + 1, 0, none⟩) 0 0] 26] := ⟨_, rfl⟩
    have hX : allocL w os = ((w.alloc (.cells #[.slice none 0 0] 26)).alloc (.cells #[] 40)).alloc (.cells #[.slice (some ⟨w.heap.size + 1, 0, none⟩) 0 0] 26) := by rw [hos]; rfl
    have hA0 : After w (allocL w os) := allocL_below w os
    have hr0 : (allocL w os).heap[w.heap.size]? = some (.cells #[.slice none 0 0] 26 (0, 0)) := by have := allocL_heap w os 0 (by rw [hos]; simp); simpa [hos] using this
    have he0 : (allocL w os).heap[w.heap.size + 1]? = some (.cells #[] 40 (0, 0)) := by have := allocL_heap w os 1 (by rw [hos]; simp); simpa [hos] using this
    have hb0 : (allocL w os).heap[w.heap.size + 1 + 1]? = some (.cells #[.slice (some ⟨w.heap.size + 1, 0, none⟩) 0 0] 26 (0, 0)) := by have := allocL_heap w os 2 (by rw [hos]; simp); simpa [hos] using this
    have ho0 := OwnSS.empty (base := w.heap.size + 1) he0 (Nat.le_refl _)
    rw [hX] at hA0 hr0 hb0 ho0
    have HVAL := Lib.hid hval
    have HA0 := Lib.hid hA0
    have HR0 := Lib.hid hr0
    have HB0 := Lib.hid hb0
    have HO0 := Lib.hid ho0
    clear hok hlens hval hA0 hr0 hb0 ho0 he0 hX hos
    go_enter Tryz.func10, Tryz.ntmps10
    go_wp2_with (go_at_call 31; refine (hin _).mono ?_; rintro e w1 ⟨rfl, rfl⟩)
    obtain ⟨base, hbs⟩ : ∃ base, base = w.heap.size + 1 := ⟨_, rfl⟩
    obtain ⟨q, hq⟩ : ∃ q, q = base + 1 := ⟨_, rfl⟩
    simp only [← hbs, ← hq] at HB0 HO0 HR0 HA0 ⊢
    have HBS := Lib.hid hbs
    have HQ := Lib.hid hq
    clear hbs hq
    generalize (((w.alloc (.cells #[.slice none 0 0] 26)).alloc (.cells #[] 40)).alloc (.cells #[.slice (some ⟨base, 0, none⟩) 0 0] 26)) = w0 at *
    go_loopw [5] (fun i wr => ∃ (k : Nat) (sv : Value), i = .int .i64 k ∧ k ≤ N ∧ Hid (wr.heap[q]? = some (.cells #[sv] 26 (0, 0))) ∧ Hid (OwnSS wr base sv (numsA k)) ∧ Hid (wr.heap[w.heap.size]? = some (.cells #[.slice none 0 0] 26 (0, 0))) ∧ Hid (After w wr)) (fun i _ => N - (intOf i).toNat)
    case atStart => exact ⟨0, _, rfl, Nat.zero_le _, HB0, HO0, HR0, HA0⟩
    case round =>
      obtain ⟨k, sv, rfl, hk, HBOX, HOWN, HRES, HAW⟩ := hrel
      by_cases hlt : k < N
      · have hlt' : (k : Int) < (N : Int) := by omega
        have hself := (After.refl wr).drew
        have HSM := Lib.hid (num_small k (by omega))
        obtain ⟨z, hz⟩ : ∃ z, z = (Tm.num k).text := ⟨_, rfl⟩
        have HZ := Lib.hid hz
        have HLN : Hid ((numsA k).length ≤ 1000000) := by show _ ≤ _; rw [numsA_len]; omega
        have HBQ : Hid (base ≤ q) := by show _ ≤ _; rw [HQ.out]; omega
        have HQS : Hid (base ≤ wr.heap.size) := by show _ ≤ _; have := (Array.getElem?_eq_some_iff.1 HBOX.out).1; have := HBQ.out; omega
        clear hz
        have hA := HAW.out
        go_wp2_with fail
        rename_i KK hKK
        refine wp_region_tail (m := 7) (k := 3) (f := 12) (by kernel_rfl) (by kernel_rfl) (by kernel_rfl) (by kernel_rfl) After After.refl (fun _ _ _ h g => h.trans g)
          (rl [Sp.lit (.pointer (some ⟨q, 0, none⟩)), Sp.lit sv, Sp.lit (.int .i64 k), Sp.tree (Tm.num k), Sp.lit (str z), Sp.row wr.heap.size [z], Sp.rows wr.heap.size [z]]) rl_later (lt7 ?_ ?_ ?_ ?_ ?_ ?_ ?_) ?_
        · intro vs W hE hd K hK
          have hE' : After wr W := hself.trans hE
          exact do_rp (v := .pointer (some ⟨q, 0, none⟩)) (Sp.lit (.pointer (some ⟨q, 0, none⟩))).p (by kernel_rfl) (wanted_of (by kernel_rfl)) (by kernel_rfl) (After.refl W) rfl hK
        · intro vs W hE hd K hK
          have hE' : After wr W := hself.trans hE
          exact do_rp (v := sv) (Sp.lit sv).p (by kernel_rfl) (wanted_of (by kernel_rfl)) (run_ld_ss (x := .tmp 17) (u := vs 0) (by kernel_rfl) (by kernel_rfl) (hd 0 (by kernel_rfl)) (cell_of_heap (i := 0) (hE'.heap HBOX.out))) (After.refl W) rfl hK
        · intro vs W hE hd K hK
          have hE' : After wr W := hself.trans hE
          exact do_rp (v := .int .i64 k) (Sp.lit (.int .i64 k)).p (by kernel_rfl) (wanted_of (by kernel_rfl)) (by kernel_rfl) (After.refl W) rfl hK
        · intro vs W hE hd K hK
          have hE' : After wr W := hself.trans hE
          exact do_cp (Sp.tree (Tm.num k)).p (by kernel_rfl) (wanted_of (by kernel_rfl)) (f := 33) (args := #[vs 2]) (by kernel_rfl) (by rw [show vs 2 = .int .i64 k from hd 2 (by kernel_rfl)]; exact (s_number W k (by omega)).mono fun e w' ⟨s, ao, n, c, he, ha, ht⟩ => ⟨_, he, ha, ht⟩) hK
        · intro vs W hE hd K hK
          have hE' : After wr W := hself.trans hE
          exact do_cp (Sp.lit (str z)).p (by kernel_rfl) (wanted_of (by kernel_rfl)) (f := 32) (args := #[vs 3]) (by kernel_rfl) ((ST.text (show ST W (Tm.num k) (vs 3) from hd 3 (by kernel_rfl)) HSM.out.1 (by have := HSM.out.2.2; omega)).mono fun e w' h => ⟨_, h.1, h.2, by rw [HZ.out]; rfl⟩) hK
        · intro vs W hE hd K hK
          have hE' : After wr W := hself.trans hE
          exact do_rp (Sp.row wr.heap.size [z]).p (by kernel_rfl) (wanted_of (by kernel_rfl)) (run_row1 (x := .tmp 21) (u := vs 4) (by kernel_rfl) (by kernel_rfl) (hd 4 (by kernel_rfl))) (After.new _ _) (own_one W _ hE'.size z) hK
        · intro vs W hE hd K hK
          have hE' : After wr W := hself.trans hE
          have h5 : W.ownsRow wr.heap.size 9 1 (vs 5) ([z] : List (List UInt8)).length ([z].map str) := hd 5 (by kernel_rfl)
          obtain ⟨g5, c5, e5, _⟩ := h5.form (by simp)
          exact do_rp (Sp.rows wr.heap.size [z]).p (by kernel_rfl) (wanted_of (by kernel_rfl)) (run_rows1 (x := .tmp 22) (u := vs 5) (by kernel_rfl) (by kernel_rfl) e5) (After.new _ _) ⟨_, _, rfl, heap_new' _ _, rfl, by rw [← e5]; exact own_later h5 (After.new _ _)⟩ hK
        intro vs W hE hd
        have hE' : After wr W := hself.trans hE
        obtain ⟨b2, rv, eb2, hb2, _, hrow⟩ := hd 6 (by decide)
        refine tail_push2 (wr := wr) (m := 7) (q := q) (base := base) (b2 := b2) (sv := sv) (s := .tmp 18) (x := .tmp 23) (t := .tmp 4) (y := .tmp 25) (z := .tmp 24) (d7 := 24) (d8 := 25) (rv := rv)
          (by kernel_rfl) (by kernel_rfl) (by kernel_rfl) (by kernel_rfl) (by kernel_rfl) (by kernel_rfl) (by kernel_rfl) (by kernel_rfl) (by kernel_rfl) (by kernel_rfl) (by kernel_rfl) (by kernel_rfl)
          (Eq.trans (by kernel_rfl : _ = vs 1) (hd 1 (by decide))) (Eq.trans (by kernel_rfl : _ = vs 6) eb2) (fun v => by kernel_rfl) (fun v => by kernel_rfl) (fun v => by kernel_rfl) HOWN.out hE' HQS.out HLN.out HBQ.out HBOX.out hrow hb2 (fun g cap w9 hown9 hbox9 hb9 => ?_)
        refine hKK _ _ ?_
        rw [frame_from 17 9 (by kernel_rfl) (by kernel_rfl) (by kernel_rfl), lit2_31_17_9]
        clear hd eb2 hb2 hrow
        generalize vs 0 = y0 at *
        generalize vs 1 = y1 at *
        generalize vs 2 = y2 at *
        generalize vs 3 = y3 at *
        generalize vs 4 = y4 at *
        generalize vs 5 = y5 at *
        generalize vs 6 = y6 at *
        go_wp2_with fail
        go_roundw
        case rel =>
          refine ⟨k + 1, _, by go_num, by omega, hbox9, ?_, ?_, ?_⟩
          · show OwnSS _ _ _ _
            rw [numsA_succ, ← HZ.out]
            exact hown9
          · show _ = _
            rw [hb9.block _ (by rw [HBS.out]; omega)]
            exact HRES.out
          · show After _ _
            exact Below.trans HAW.out (hb9.mono (by rw [HBS.out]; omega))
        case measure => simp [intOf]; omega
      · obtain rfl : k = N := by omega
        have hv := HVAL.out wr sv (HOWN.out.ssu (Nat.zero_le _))
        obtain ⟨ao, cap, rfl⟩ := HOWN.out.form
        obtain ⟨p0, p1, p2⟩ := one_facts HBOX.out (After.refl _)
        generalize (numsA k).length = L at *
        go_wp2_with fail
        refine hv.mono ?_
        rintro e w1 ⟨rfl, hb1⟩
        obtain ⟨r0, r1, r2⟩ := one_facts HRES.out hb1
        obtain ⟨s0, s1, s2⟩ := one_facts HBOX.out hb1
        clear p0 p1 p2
        go_wp2_with fail
        refine bodyPost_ret (v := .tuple #[.agg #[.slice ao L cap], .bool true]) (by simp [results, Tryz.results10, go_sem, r0]) rfl ⟨_, rfl, ?_, ?_⟩
        · refine OwnSS.less (base := base) ((HOWN.out.later hb1).keptT fun b cs T fr hT hb => ?_) (by rw [HBS.out]; omega)
          rw [Below.heap_setCell _ _ _ _ (fun e => by have e' : b = w.heap.size := e; subst e'; rw [hb1.heap HRES.out] at hb; injection hb with hb; injection hb with _ hb _; exact hT hb.symm)]
          exact hb
        · exact Below.setCell (Below.trans HAW.out (hb1.mono (Nat.le_trans (Nat.le_refl _) HAW.out.size))) (Nat.le_refl _) _
  · rw [show pNums n = none by unfold pNums; rw [if_neg hn]]
    have hin := fun W => s_in W n 1 6 false (by rw [decide_eq_false_iff_not]; exact hn)
    obtain ⟨r0, r1, r2⟩ := one_facts (heap_new' w (.cells #[.slice none 0 0] 26)) (After.refl _)
    have hfin : AsmOwn w none (.returned (.tuple #[.agg #[.slice none 0 0], .bool false])) (w.alloc (.cells #[.slice none 0 0] 26)) := ⟨_, rfl, OwnSS.nil _ _, hA1⟩
    go_enter Tryz.func10, Tryz.ntmps10
    go_wp2_with (go_at_call 31; refine (hin _).mono ?_; rintro e w1 ⟨rfl, rfl⟩)
    exact bodyPost_ret (v := .tuple #[.agg #[.slice none 0 0], .bool false]) (by simp [results, Tryz.results10, go_sem, r0]) rfl hfin
end Go.Proofs.YtidpkmkhcomcdaaGreat

namespace Go.Proofs.YtidpkmkhcomcdaaGreat
open Go.RowKit

set_option maxHeartbeats 1000000
set_option maxRecDepth 100000

/-- The digits of a number before what is there. -/
def dig10 : Nat → Nat → List UInt8 → List UInt8
  | 0, _, acc => acc
  | f + 1, k, acc => if k = 0 then acc else dig10 f (k / 10) (UInt8.ofNat (48 + k % 10) :: acc)

def markT (k : Nat) : List UInt8 := 109 :: dig10 k k []

theorem dig10_step (f k : Nat) (acc : List UInt8) (hk : 0 < k) (hf : k ≤ f) : dig10 f k acc = dig10 (f - 1) (k / 10) (UInt8.ofNat (48 + k % 10) :: acc) := by
  obtain ⟨g, rfl⟩ : ∃ g, f = g + 1 := ⟨f - 1, by omega⟩
  simp only [dig10, if_neg (show ¬ k = 0 by omega), Nat.add_sub_cancel]

/-! ### lists that are alike -/

/-! ### marks -/

def marks (k0 n : Nat) : List (List UInt8) := (List.range n).map fun i => markT (k0 + i)

theorem marks_len (k0 n : Nat) : (marks k0 n).length = n := by simp [marks]
theorem marks_at (k0 n j : Nat) (h : j < (marks k0 n).length) : (marks k0 n)[j] = markT (k0 + j) := by simp [marks]
theorem marks_succ (k0 n : Nat) : marks k0 (n + 1) = marks k0 n ++ [markT (k0 + n)] := by simp [marks, List.range_succ]

theorem marks_set (k0 j : Nat) (ns : List (List UInt8)) (hj : j < ns.length) : ((marks k0 j ++ ns.drop j).map str).set j (str (markT (k0 + j))) = (marks k0 (j + 1) ++ ns.drop (j + 1)).map str := by
  rw [List.drop_eq_getElem_cons hj, marks_succ, List.map_append, List.set_append_right _ _ (by simp [marks_len]), List.map_cons, List.length_map, marks_len, Nat.sub_self, List.set_cons_zero]
  simp

theorem grew_after {a b : World} (h : After a b) : a.grownBy b none := ⟨h.os, h.tape, h.output, h.size, fun k hk _ => h.block k hk⟩

end Go.Proofs.YtidpkmkhcomcdaaGreat

namespace Go.Proofs.YtidpkmkhcomcdaaGreat
open Go.RowKit

set_option maxHeartbeats 1000000
set_option maxRecDepth 100000

/-- How many texts stand ahead of row j. -/
def offA (a : List (List (List UInt8))) (j : Nat) : Nat := ((List.range j).map fun i => (a.getD i []).length).sum
theorem offA_succ (a : List (List (List UInt8))) (j : Nat) : offA a (j + 1) = offA a j + (a.getD j []).length := by simp [offA, List.range_succ]
theorem offA_mono (a : List (List (List UInt8))) {i j : Nat} (h : i ≤ j) : offA a i ≤ offA a j := by
  induction h with
  | refl => exact Nat.le_refl _
  | step _ ih => rw [offA_succ]; omega

/-- The first i rows marked. -/
def mixA (k0 : Nat) (a : List (List (List UInt8))) (i : Nat) : List (List (List UInt8)) := (List.range a.length).map fun j => if j < i then marks (k0 + offA a j) (a.getD j []).length else a.getD j []
theorem mixA_len (k0 : Nat) (a : List (List (List UInt8))) (i : Nat) : (mixA k0 a i).length = a.length := by simp [mixA]
theorem mixA_at (k0 : Nat) (a : List (List (List UInt8))) (i j : Nat) (h : j < a.length) : (mixA k0 a i).getD j [] = if j < i then marks (k0 + offA a j) (a.getD j []).length else a.getD j [] := by simp [mixA, List.getD, h]
theorem mixA_zero (k0 : Nat) (a : List (List (List UInt8))) : mixA k0 a 0 = a := by
  apply List.ext_getElem?
  intro i
  by_cases h : i < a.length
  · simp [mixA, h, List.getD]
  · simp [mixA, h]

/-- One row is written anew. -/
theorem OwnSS.setRow {w w' : World} {base : Nat} {sv rv : Value} {a a' : List (List (List UInt8))} {xs : List (List UInt8)} {j : Nat} {cs : List Value} (ho : w.ownsRow base 40 1 sv a.length cs)
    (hc : ∀ j, j < a.length → ∃ rv, cs[j]? = some rv ∧ w.ownsRow base 9 1 rv (a.getD j []).length ((a.getD j []).map str)) (hd : ∀ (i j : Nat) (ri rj : Value), i < j → cs[i]? = some ri → cs[j]? = some rj → ri.ownBlock = none ∨ ri.ownBlock ≠ rj.ownBlock)
    (hj : j < a.length) (hrv : cs[j]? = some rv) (hx : w'.ownsRow base 9 1 rv xs.length (xs.map str)) (hg : w.grownBy w' rv.ownBlock) (hl : a'.length = a.length) (hat : a'.getD j [] = xs) (hne : ∀ i, i ≠ j → i < a.length → a'.getD i [] = a.getD i []) : OwnSS w' base sv a' := by
  obtain ⟨rv0, h1, hrow⟩ := hc j hj
  rw [hrv] at h1
  injection h1 with h1
  subst h1
  refine ⟨cs, by rw [hl]; exact own_keptT ho fun b cs fr hb => row_keeps hrow hg b cs _ fr (by decide) hb, fun i hi => ?_, hd⟩
  rw [hl] at hi
  by_cases hij : i = j
  · subst hij
    rw [hat]
    exact ⟨rv, hrv, hx⟩
  · rw [hne i hij hi]
    obtain ⟨ri, h1, h2⟩ := hc i hi
    refine ⟨ri, h1, h2.kept hg ?_⟩
    rcases Nat.lt_or_ge i j with h | h
    · exact hd i j ri rv h h1 hrv
    · rcases hd j i rv ri (by omega) hrv h1 with h | h
      · cases hri : ri.ownBlock with
        | none => exact Or.inl rfl
        | some k => right; rw [h]; simp
      · exact Or.inr (fun e => h e.symm)

/-- All but texts stays. -/
def KeptS (w w' : World) : Prop := ∀ (b : Nat) (cs : Array Value) (T : TypeId) (fr : Nat × Nat), T ≠ 9 → w.heap[b]? = some (.cells cs T fr) → w'.heap[b]? = some (.cells cs T fr)
theorem KeptS.refl (w : World) : KeptS w w := fun _ _ _ _ _ h => h
theorem KeptS.trans {a b c : World} (h : KeptS a b) (g : KeptS b c) : KeptS a c := fun q cs T fr hT hq => g q cs T fr hT (h q cs T fr hT hq)

/-- What lies from hi on stays. -/
def FrameHi (hi : Nat) (w w' : World) : Prop := ∀ b, hi ≤ b → b < w.heap.size → w'.heap[b]? = w.heap[b]?
/-- The rows lie below hi. -/
def RowsLo (hi : Nat) (w : World) (base : Nat) (sv : Value) (n : Nat) : Prop := ∀ cs : List Value, w.ownsRow base 40 1 sv n cs → ∀ (j : Nat) (rv : Value) (k : Nat), cs[j]? = some rv → rv.ownBlock = some k → k < hi
theorem OwnSS.lo {w : World} {base : Nat} {sv : Value} {a : List (List (List UInt8))} (h : OwnSS w base sv a) : RowsLo w.heap.size w base sv a.length := by
  intro cs' hcs' j rv k hj hk
  obtain ⟨cs, ho, hc, _⟩ := h
  obtain rfl := own_unique hcs' ho
  have hjl : j < a.length := by have := (List.getElem?_eq_some_iff.1 hj).1; have := ho.1; omega
  obtain ⟨rv', h1, h2⟩ := hc j hjl
  rw [hj] at h1
  injection h1 with h1
  subst h1
  exact (h2.lt k hk).2
theorem RowsLo.later {hi : Nat} {w W : World} {base : Nat} {sv : Value} {a : List (List (List UInt8))} (h : RowsLo hi w base sv a.length) (hown : OwnSS w base sv a) (hA : After w W) : RowsLo hi W base sv a.length := by
  intro cs' hcs'
  obtain ⟨cs, ho, _⟩ := hown
  obtain rfl := own_unique hcs' (own_later ho hA)
  exact h _ ho

end Go.Proofs.YtidpkmkhcomcdaaGreat

namespace Go.Proofs.YtidpkmkhcomcdaaGreat
open Go.RowKit

set_option maxHeartbeats 2000000
set_option maxRecDepth 100000

def AsmDraw (v : Value) (w : World) (rb p : Nat) (e : Ending) (w' : World) : Prop :=
  ∃ (sv : Value) (a : List (List (List UInt8))) (q : Nat), e = .returned (.agg #[sv]) ∧ SSU w.heap.size w' sv a ∧ Lens 21000 a ∧ q ≤ p + 1000 ∧ w.grownBy w' (some rb) ∧ DrV v w' rb q

theorem grown_heap {w w' : World} {rb b : Nat} {o : Obj} (hg : w.grownBy w' (some rb)) (hb : w.heap[b]? = some o) (hne : b ≠ rb) : w'.heap[b]? = some o := by
  rw [hg.block b (Array.getElem?_eq_some_iff.1 hb).1 (fun e => by injection e with e; exact hne e)]
  exact hb

theorem DrV.typed {v : Value} {w : World} {rb p b : Nat} (h : DrV v w rb p) {cs : Array Value} {T : TypeId} {fr : Nat × Nat} (hT : T ≠ 84) (hb : w.heap[b]? = some (.cells cs T fr)) : b ≠ rb := by
  rintro rfl
  have h1 := h.1
  unfold DR at h1
  rw [h1] at hb
  injection hb with hb
  injection hb with _ hb _
  exact hT hb.symm

theorem OwnSS.drawn {w W : World} {rb p base : Nat} {v sv : Value} {a : List (List (List UInt8))} (h : OwnSS w base sv a) (hd : DrV v w rb p) (hg : w.grownBy W (some rb)) : OwnSS W base sv a := by
  obtain ⟨cs, ho, hc, hdd⟩ := h
  refine ⟨cs, own_keptT ho fun _ _ _ hb => grown_heap hg hb (hd.typed (by decide) hb), fun j hj => ?_, hdd⟩
  obtain ⟨rv, h1, h2⟩ := hc j hj
  exact ⟨rv, h1, own_keptT h2 fun _ _ _ hb => grown_heap hg hb (hd.typed (by decide) hb)⟩
theorem own_drawn {w W : World} {rb p base n : Nat} {E : TypeId} {v sv : Value} {xs : List Value} (h : w.ownsRow base E 1 sv n xs) (hE : E ≠ 84) (hd : DrV v w rb p) (hg : w.grownBy W (some rb)) : W.ownsRow base E 1 sv n xs :=
  own_keptT h fun _ _ _ hb => grown_heap hg hb (hd.typed hE hb)

theorem ssu_of {w : World} {base B : Nat} {sv : Value} {a : List (List (List UInt8))} {cs : List Value} (ho : w.ownsRow base 40 1 sv a.length cs)
    (hc : ∀ j, j < a.length → ∃ rv, cs[j]? = some rv ∧ w.ownsRow base 9 1 rv (a.getD j []).length ((a.getD j []).map str)) (hB : B ≤ base) : SSU B w sv a := by
  refine ⟨fun j => cs.getD j undef, ?_, fun j hj => ?_⟩
  · rcases ho.2 with ⟨rfl, h0⟩ | ⟨g, cap, cur, rfl, hb, hh, hle, hcap, _⟩
    · exact ⟨none, 0, by rw [h0], fun j hj => absurd hj (by omega)⟩
    · refine ⟨some ⟨g, 0, none⟩, cap, rfl, fun j hj => ⟨g, 0, rfl, ⟨by omega, hle, by unfold maxLen at hcap; omega⟩, ?_⟩⟩
      rw [Nat.zero_add]
      obtain ⟨rv, h1, _⟩ := hc j hj
      exact (ho.cellAt j (by omega)).trans (by rw [h1]; show some rv = some (cs.getD j undef); rw [List.getD, h1]; rfl)
  · obtain ⟨rv, h1, h2⟩ := hc j hj
    show StrsU B w (cs.getD j undef) _
    rw [List.getD, h1]
    exact own_strsU h2 hB

theorem set_typed {w : World} {q b i : Nat} {x : Value} {cs cs0 : Array Value} {T T0 : TypeId} {fr fr0 : Nat × Nat} (h0 : w.heap[q]? = some (.cells cs0 T0 fr0)) (hT : T ≠ T0) (hb : w.heap[b]? = some (.cells cs T fr)) : (w.setCell ⟨q, i, none⟩ x).heap[b]? = some (.cells cs T fr) := by
  rw [Below.heap_setCell _ _ _ _ (fun e => by have e' : b = q := e; subst e'; rw [h0] at hb; injection hb with hb; injection hb with _ hb _; exact hT hb.symm)]
  exact hb

/-- What stands at the start of a round. -/
structure Rnd (w wr : World) (rb q E Q : Nat) (v sv : Value) (a : List (List (List UInt8))) : Prop where
  grown : w.grownBy wr (some rb)
  dr : DrV v wr rb q
  own : OwnSS wr E sv a
  box : wr.heap[Q]? = some (.cells #[sv] 26 (0, 0))
  res : wr.heap[w.heap.size]? = some (.cells #[.slice none 0 0] 26 (0, 0))
  hE : w.heap.size < E
  hQ : E ≤ Q
  hEr : E ≤ wr.heap.size
  hrb : rb < w.heap.size
  code : CodeOk w rb v

theorem Rnd.drawn {w wr W : World} {rb q q2 E Q : Nat} {v sv : Value} {a : List (List (List UInt8))} (h : Rnd w wr rb q E Q v sv a) (hg : wr.grownBy W (some rb)) (hd : DrV v W rb q2) : Rnd w W rb q2 E Q v sv a where
  grown := grown_trans h.grown hg
  dr := hd
  own := h.own.drawn h.dr hg
  box := grown_heap hg h.box (h.dr.typed (by decide) h.box)
  res := grown_heap hg h.res (h.dr.typed (by decide) h.res)
  hE := h.hE
  hQ := h.hQ
  hEr := Nat.le_trans h.hEr hg.size
  hrb := h.hrb
  code := h.code

theorem grown_row {wr W w6 : World} {rb n : Nat} {E : TypeId} {sv : Value} {vs : List Value} (hg : wr.grownBy W (some rb)) (ho : W.ownsRow wr.heap.size E 1 sv n vs) (hg6 : W.grownBy w6 sv.ownBlock) : wr.grownBy w6 (some rb) :=
  ⟨hg6.os.trans hg.os, hg6.tape.trans hg.tape, hg6.output.trans hg.output, Nat.le_trans hg.size hg6.size, fun k hk hne => by
    rw [hg6.block k (Nat.lt_of_lt_of_le hk hg.size) (fun e => by have := (ho.lt k e.symm).1; omega)]
    exact hg.block k hk hne⟩
theorem DrV.row {w W w6 : World} {rb q base n : Nat} {E : TypeId} {v sv : Value} {vs : List Value} (h : DrV v W rb q) (ho : W.ownsRow base E 1 sv n vs) (hE : 84 ≠ E) (hg6 : W.grownBy w6 sv.ownBlock) (hc : CodeOk w rb v) (hg : w.grownBy w6 (some rb)) : DrV v w6 rb q :=
  ⟨row_keeps ho hg6 _ _ _ _ hE h.1, hc.grown hg⟩

theorem Rnd.push {w wr W w5 : World} {rb q q2 E Q g4 q4 n : Nat} {v sv rv : Value} {a : List (List (List UInt8))} {xs : List (List UInt8)} {cs : List Value} (h : Rnd w wr rb q E Q v sv a) (hg : wr.grownBy W (some rb)) (hd : DrV v W rb q2) (hn : n = a.length)
    (ho : W.ownsRow E 40 1 sv n cs) (hrow : W.ownsRow wr.heap.size 9 1 rv xs.length (xs.map str))
    (ho4 : w5.ownsRow E 40 1 (.slice (some ⟨g4, 0, none⟩) (n + 1) q4) (n + 1) (cs ++ [rv])) (hg4 : (W.alloc (.cells #[rv] 40)).grownBy w5 sv.ownBlock) :
    w5.heap[Q]? = some (.cells #[sv] 26 (0, 0)) ∧ Rnd w (w5.setCell ⟨Q, 0, none⟩ (.slice (some ⟨g4, 0, none⟩) (n + 1) q4)) rb q2 E Q v (.slice (some ⟨g4, 0, none⟩) (n + 1) q4) (a ++ [xs]) := by
  subst hn
  have hW := h.drawn hg hd
  have hnw := After.new W (.cells #[rv] 40)
  have hHO := own_later ho hnw
  have hbox1 := After.heap hnw hW.box
  have hbox5 : w5.heap[Q]? = some (.cells #[sv] 26 (0, 0)) := row_keeps hHO hg4 _ _ _ _ (by decide) hbox1
  have hres5 : w5.heap[w.heap.size]? = some (.cells #[.slice none 0 0] 26 (0, 0)) := row_keeps hHO hg4 _ _ _ _ (by decide) (After.heap hnw hW.res)
  have hown5 : OwnSS w5 E (.slice (some ⟨g4, 0, none⟩) (a.length + 1) q4) (a ++ [xs]) := by
    obtain ⟨cs', ho', hc', hd'⟩ := h.own
    have e := own_unique ho (own_drawn ho' (by decide) h.dr hg)
    subst e
    refine OwnSS.push hHO (fun j hj => ?_) hd' ho4 hg4 (own_mono (own_later hrow hnw) h.hEr) ?_
    · obtain ⟨r, h1, h2⟩ := hc' j hj
      exact ⟨r, h1, own_later (own_drawn h2 (by decide) h.dr hg) hnw⟩
    · intro j u hu
      have hj : j < a.length := by
        have := (List.getElem?_eq_some_iff.1 hu).1
        have := ho'.1
        omega
      obtain ⟨rv', h1, h2⟩ := hc' j hj
      rw [hu] at h1
      injection h1 with h1
      subst h1
      cases hu' : u.ownBlock with
      | none => exact Or.inl rfl
      | some k =>
        right
        intro e
        have hk := (h2.lt k hu').2
        have := (hrow.lt k e.symm).1
        omega
  have hgw : w.grownBy (w5.setCell ⟨Q, 0, none⟩ (.slice (some ⟨g4, 0, none⟩) (a.length + 1) q4)) (some rb) := by
    have h1 := hW.grown
    refine ⟨hg4.os.trans h1.os, hg4.tape.trans h1.tape, hg4.output.trans h1.output, ?_, fun k hk hne => ?_⟩
    · have e1 := h1.size
      have e2 := hnw.size
      have e3 := hg4.size
      simp [World.setCell]
      omega
    · have hE := h.hE
      have hQ := h.hQ
      rw [Below.heap_setCell _ _ _ _ (by show k ≠ Q; omega), hg4.block k (Nat.lt_of_lt_of_le hk (Nat.le_trans h1.size hnw.size)) (fun e => by have := (hHO.lt k e.symm).1; omega), hnw.block k (Nat.lt_of_lt_of_le hk h1.size)]
      exact h1.block k hk hne
  refine ⟨hbox5, hgw, ⟨?_, h.code.grown hgw⟩, hown5.keptT fun b cs T fr hT hb => set_typed hbox5 hT hb, by simp [World.setCell, Array.getElem?_modify, hbox5], ?_, h.hE, h.hQ, ?_, h.hrb, h.code⟩
  · have hE := h.hE
    have hQ := h.hQ
    have hrb := h.hrb
    have h1 := hd.1
    unfold DR at h1 ⊢
    have hdr1 := After.heap hnw h1
    have hdr5 := row_keeps hHO hg4 _ _ _ _ (by decide) hdr1
    rw [Below.heap_setCell _ _ _ _ (by show rb ≠ Q; omega)]
    exact hdr5
  · have hE := h.hE
    have hQ := h.hQ
    rw [Below.heap_setCell _ _ _ _ (by show w.heap.size ≠ Q; omega)]
    exact hres5
  · have e1 := hW.hEr
    have e2 := hnw.size
    have e3 := hg4.size
    simp [World.setCell]
    omega


def Rws (a : List (List (List UInt8))) : Prop := ∀ ns ∈ a, 1 ≤ ns.length ∧ ns.length ≤ 2 ∧ ∀ s ∈ ns, s.length ≤ 21000
theorem Rws.snoc {a : List (List (List UInt8))} (h : Rws a) (xs : List (List UInt8)) (hx : 1 ≤ xs.length ∧ xs.length ≤ 2 ∧ ∀ s ∈ xs, s.length ≤ 21000) : Rws (a ++ [xs]) := by
  intro ns hn
  rcases List.mem_append.1 hn with h1 | h1
  · exact h ns h1
  · obtain rfl := List.mem_singleton.1 h1
    exact hx
theorem Rws.lens {a : List (List (List UInt8))} (h : Rws a) (hl : a.length ≤ 21000) : Lens 21000 a := ⟨hl, fun ns hn => ⟨by have := (h ns hn).2.1; omega, (h ns hn).2.2⟩⟩

def OwnW (w : World) (base : Nat) (sv : Value) (a : List (List (List UInt8))) : Prop :=
  ∃ cs : List Value, w.ownsRow base 40 1 sv a.length cs ∧ ∀ j, j < a.length → ∃ rv, cs[j]? = some rv ∧ w.ownsRow base 9 1 rv (a.getD j []).length ((a.getD j []).map str)
theorem OwnSS.w {w : World} {base : Nat} {sv : Value} {a : List (List (List UInt8))} (h : OwnSS w base sv a) : OwnW w base sv a := by
  obtain ⟨cs, h1, h2, _⟩ := h
  exact ⟨cs, h1, h2⟩
theorem set_get {α : Type} (a : List α) (x d : α) (j : Nat) (hj : j < a.length) : (a.set 0 x).getD j d = if j = 0 then x else a.getD j d := by
  cases a with
  | nil => simp at hj
  | cons y a =>
    cases j with
    | zero => simp [List.getD]
    | succ j => simp [List.getD]

/-- The end: the result is stored. -/
theorem fin_draw {w W : World} {rb q base : Nat} {v sv x : Value} {a : List (List (List UInt8))} (hgw : w.grownBy W (some rb)) (hd : DrV v W rb q) (hres : W.heap[w.heap.size]? = some (.cells #[x] 26 (0, 0))) (hown : OwnW W base sv a) (hrb : rb < w.heap.size) (hcode : CodeOk w rb v) (hB : w.heap.size ≤ base) :
    SSU w.heap.size (W.setCell ⟨w.heap.size, 0, none⟩ sv) sv a ∧ w.grownBy (W.setCell ⟨w.heap.size, 0, none⟩ sv) (some rb) ∧ DrV v (W.setCell ⟨w.heap.size, 0, none⟩ sv) rb q ∧ (W.setCell ⟨w.heap.size, 0, none⟩ sv).heap[w.heap.size]? = some (.cells #[sv] 26 (0, 0)) := by
  have hg : w.grownBy (W.setCell ⟨w.heap.size, 0, none⟩ sv) (some rb) := by
    refine ⟨hgw.os, hgw.tape, hgw.output, by have := hgw.size; simp [World.setCell]; omega, fun k hk hne => ?_⟩
    rw [Below.heap_setCell _ _ _ _ (by show k ≠ w.heap.size; omega)]
    exact hgw.block k hk hne
  obtain ⟨cs, h1, h2⟩ := hown
  refine ⟨ssu_of (base := base) (cs := cs) (own_keptT h1 fun _ _ _ hb => set_typed hres (by decide) hb) (fun j hj => ?_) hB, hg, ⟨?_, hcode.grown hg⟩, by simp [World.setCell, Array.getElem?_modify, hres]⟩
  · obtain ⟨rv, e1, e2⟩ := h2 j hj
    exact ⟨rv, e1, own_keptT e2 fun _ _ _ hb => set_typed hres (by decide) hb⟩
  · have h3 := hd.1
    unfold DR at h3 ⊢
    rw [Below.heap_setCell _ _ _ _ (by show rb ≠ w.heap.size; omega)]
    exact h3

/-- The first row is emptied. -/
theorem Rnd.emptied {w wr : World} {rb q E Q g k c : Nat} {v : Value} {a : List (List (List UInt8))} (h : Rnd w wr rb q E Q v (.slice (some ⟨g, 0, none⟩) k c) a) (hk : k = a.length) :
    let W := (wr.alloc (.cells #[] 9)).setCell ⟨g, 0, none⟩ (.slice (some ⟨wr.heap.size, 0, none⟩) 0 0)
    OwnW W E (.slice (some ⟨g, 0, none⟩) k c) (a.set 0 []) ∧ w.grownBy W (some rb) ∧ DrV v W rb q ∧ W.heap[Q]? = some (.cells #[.slice (some ⟨g, 0, none⟩) k c] 26 (0, 0)) ∧ W.heap[w.heap.size]? = some (.cells #[.slice none 0 0] 26 (0, 0)) := by
  subst hk
  intro W
  have hnw := After.new wr (.cells #[] 9)
  obtain ⟨cs, ho, hc, _⟩ := h.own
  have ho1 := own_later ho hnw
  have hnew := heap_new' wr (.cells #[] 9)
  have hgb : ∃ cur fr, (wr.alloc (.cells #[] 9)).heap[g]? = some (.cells cur 40 fr) ∧ E ≤ g := by
    rcases ho1.2 with ⟨e, _⟩ | ⟨g', cap', cur, e, hb, hg, _⟩
    · cases e
    · simp only [Value.slice.injEq, Option.some.injEq, Addr.mk.injEq, and_true, true_and] at e
      obtain ⟨rfl, _⟩ := e
      exact ⟨cur, _, hg, hb⟩
  obtain ⟨cur, fr, hg, hEg⟩ := hgb
  have hgw : w.grownBy W (some rb) := by
    have h1 := h.grown
    refine ⟨h1.os, h1.tape, h1.output, by have := h1.size; have := hnw.size; simp [W, World.setCell] at *; omega, fun k hk hne => ?_⟩
    have hE := h.hE
    rw [Below.heap_setCell _ _ _ _ (by show k ≠ g; omega), hnw.block k (Nat.lt_of_lt_of_le hk h1.size)]
    exact h1.block k hk hne
  have hst := (ho1.stored 0 (.slice (some ⟨wr.heap.size, 0, none⟩) 0 0)).1
  refine ⟨⟨_, by rw [List.length_set]; exact hst, fun j hj => ?_⟩, hgw, ⟨?_, h.code.grown hgw⟩, set_typed hg (by decide) (hnw.heap h.box), set_typed hg (by decide) (hnw.heap h.res)⟩
  · rw [List.length_set] at hj
    rw [set_get a [] [] j hj]
    by_cases h0 : j = 0
    · subst h0
      have hcl : 0 < cs.length := by have := ho.1; omega
      refine ⟨.slice (some ⟨wr.heap.size, 0, none⟩) 0 0, by simp [hcl], ?_⟩
      rw [if_pos rfl]
      exact ⟨rfl, Or.inr ⟨wr.heap.size, 0, #[], rfl, h.hEr, set_typed hg (by decide) hnew, Nat.le_refl _, Nat.zero_le _, rfl, rfl⟩⟩
    · rw [if_neg h0]
      obtain ⟨rv, e1, e2⟩ := hc j hj
      exact ⟨rv, by rw [List.getElem?_set_ne (fun e => h0 e.symm)]; exact e1, own_keptT (own_later e2 hnw) fun _ _ _ hb => set_typed hg (by decide) hb⟩
  · have h3 := DrV.after h.dr hnw
    exact set_typed hg (by decide) h3.1

/-- The first text of the first row is another one. -/
theorem Rnd.changed {w wr : World} {rb q E Q g k c h m c2 : Nat} {v : Value} {a : List (List (List UInt8))} {cs : List Value} (y : List UInt8) (hR : Rnd w wr rb q E Q v (.slice (some ⟨g, 0, none⟩) k c) a) (hk : k = a.length) (hk0 : 0 < k)
    (ho : wr.ownsRow E 40 1 (.slice (some ⟨g, 0, none⟩) k c) k cs) (h0 : cs[0]? = some (.slice (some ⟨h, 0, none⟩) m c2)) :
    let W := wr.setCell ⟨h, 0, none⟩ (str y)
    OwnW W E (.slice (some ⟨g, 0, none⟩) k c) (a.set 0 ((a.getD 0 []).set 0 y)) ∧ w.grownBy W (some rb) ∧ DrV v W rb q ∧ W.heap[Q]? = some (.cells #[.slice (some ⟨g, 0, none⟩) k c] 26 (0, 0)) ∧ W.heap[w.heap.size]? = some (.cells #[.slice none 0 0] 26 (0, 0)) := by
  subst hk
  intro W
  obtain ⟨cs', ho', hc, hdd⟩ := hR.own
  obtain rfl := own_unique ho ho'
  obtain ⟨rv, e1, hrow⟩ := hc 0 hk0
  rw [h0] at e1
  injection e1 with e1
  subst e1
  obtain ⟨ao', c', ef⟩ := own_slice_len hrow
  have hm : m = (a.getD 0 []).length := by injection ef
  subst hm
  have hgb : ∃ cur fr, wr.heap[h]? = some (.cells cur 9 fr) ∧ E ≤ h := by
    rcases hrow.2 with ⟨e, _⟩ | ⟨g', cap', cur, e, hb, hg, _⟩
    · cases e
    · simp only [Value.slice.injEq, Option.some.injEq, Addr.mk.injEq, and_true, true_and] at e
      obtain ⟨rfl, _⟩ := e
      exact ⟨cur, _, hg, hb⟩
  obtain ⟨cur, fr, hg, hEg⟩ := hgb
  have hgw : w.grownBy W (some rb) := by
    have h1 := hR.grown
    refine ⟨h1.os, h1.tape, h1.output, by have := h1.size; simp [W, World.setCell]; omega, fun k hk hne => ?_⟩
    have hE := hR.hE
    rw [Below.heap_setCell _ _ _ _ (by show k ≠ h; omega)]
    exact h1.block k hk hne
  have hst := (hrow.stored 0 (str y)).1
  refine ⟨⟨cs, by rw [List.length_set]; exact own_keptT ho fun _ _ _ hb => set_typed hg (by decide) hb, fun j hj => ?_⟩, hgw, ⟨set_typed hg (by decide) hR.dr.1, hR.code.grown hgw⟩, set_typed hg (by decide) hR.box, set_typed hg (by decide) hR.res⟩
  rw [List.length_set] at hj
  rw [set_get a _ [] j hj]
  by_cases hj0 : j = 0
  · subst hj0
    rw [if_pos rfl]
    refine ⟨_, h0, ?_⟩
    rw [List.length_set, List.map_set]
    exact hst
  · rw [if_neg hj0]
    obtain ⟨rj, e1, e2⟩ := hc j hj
    refine ⟨rj, e1, ownsRow_setCell_other e2 ?_ _⟩
    intro e
    rcases hdd 0 j _ rj (by omega) h0 e1 with h1 | h1
    · cases h1
    · exact h1 e.symm

theorem lens_set {a : List (List (List UInt8))} (h : Rws a) (hl : a.length ≤ 21000) (r : List (List UInt8)) (hr : r.length ≤ 21000 ∧ ∀ s ∈ r, s.length ≤ 21000) : Lens 21000 (a.set 0 r) := by
  refine ⟨by rw [List.length_set]; exact hl, fun ns hn => ?_⟩
  rcases List.mem_or_eq_of_mem_set hn with h1 | h1
  · exact (h.lens hl).2 ns h1
  · rw [h1]; exact hr

theorem asm_any (v : Value) (w : World) (rb p m : Nat) (h : DrV v w rb p) (hp : p ≤ 800000) (hm : 1 ≤ m) (hm2 : m ≤ 4) :
    Calls Tryz.prog 41 #[.pointer (some ⟨rb, 0, none⟩), .int .i64 m] w (AsmDraw v w rb p) := by
  have hlt := h.lt
  have hcode := h.2
  have hA0 := After.new w (.cells #[.slice none 0 0] 26)
  have hres0 := heap_new' w (.cells #[.slice none 0 0] 26)
  have hd0 := h.after hA0
  have hp1 := pickV_any v _ rb p 2 hd0 (by omega) (by decide) (by decide)
  have hsz0 : (w.alloc (.cells #[.slice none 0 0] 26)).heap.size = w.heap.size + 1 := by simp
  have HLT := Lib.hid hlt
  have HCODE := Lib.hid hcode
  have HRES0 := Lib.hid hres0
  have HG0 : Hid (w.grownBy (w.alloc (.cells #[.slice none 0 0] 26)) (some rb)) := grown_aft hA0
  have HD0 := Lib.hid hd0
  have HSZ0 := Lib.hid hsz0
  clear h hlt hcode hA0 hres0 hd0 hsz0
  go_enter Tryz.func41, Tryz.ntmps41
  go_wp2_with fail
  generalize w.alloc (.cells #[.slice none 0 0] 26) = w0 at *
  refine hp1.mono ?_
  rintro e w1 ⟨k0, hk0, rfl, hg1, hd1⟩
  have HD1 := Lib.hid hd1
  have HG1 : Hid (w.grownBy w1 (some rb)) := grown_trans HG0.out hg1
  have HRES1 : Hid (w1.heap[w.heap.size]? = some (.cells #[.slice none 0 0] 26 (0, 0))) := grown_heap hg1 HRES0.out (HD0.out.typed (by decide) HRES0.out)
  have HSZ1 : Hid (w.heap.size < w1.heap.size) := by show _ < _; have := hg1.size; have := HSZ0.out; omega
  have hp2 := fun W q (hd : DrV v W rb q) (hq : q ≤ 900000) => pickV_any v W rb q m hd (by omega) (by omega) (by omega)
  have HP2 := Lib.hid hp2
  clear hp1 hg1 hd1 hp2
  by_cases hk : k0 = 0
  · subst hk
    have hpp := HP2.out w1 (p + 1) HD1.out (by omega)
    go_wp2_with fail
    refine hpp.mono ?_
    rintro e w2 ⟨k2, hk2, rfl, hg2, hd2⟩
    have hn := spec_nums w2 (1 + (k2 : Int))
    unfold AsmOwn at hn
    have hlens := nums_lens' (1 + (k2 : Int))
    generalize (pNums (1 + (k2 : Int))).isSome = b at *
    generalize (pNums (1 + (k2 : Int))).getD [] = a at *
    have HD2 := Lib.hid hd2
    have HG2 : Hid (w.grownBy w2 (some rb)) := grown_trans HG1.out hg2
    have HRES2 : Hid (w2.heap[w.heap.size]? = some (.cells #[.slice none 0 0] 26 (0, 0))) := grown_heap hg2 HRES1.out (HD1.out.typed (by decide) HRES1.out)
    have HLENS := Lib.hid hlens
    clear hpp hg2 hd2 hlens
    go_wp2_with fail
    refine hn.mono ?_
    rintro e w3 ⟨sv, rfl, ho, hb3⟩
    obtain ⟨ao, c, e0⟩ := ho.form
    generalize hL : a.length = L at e0
    subst e0
    have hnw := After.new w3 (.cells #[.slice ao L c] 26)
    have hbx := heap_new' w3 (.cells #[.slice ao L c] 26)
    have hA4 := After.trans hb3 hnw
    have hres4 := After.heap hA4 HRES2.out
    obtain ⟨p0, p1, p2⟩ := one_facts hbx (After.refl _)
    obtain ⟨r0, r1, r2⟩ := one_facts hres4 (After.refl _)
    have HO := Lib.hid (ho.later hnw)
    have HD4 := Lib.hid (HD2.out.after hA4)
    have HG4 : Hid (w.grownBy _ (some rb)) := grown_trans HG2.out (grown_aft hA4)
    have HRES4 := Lib.hid hres4
    clear hn ho hb3 hnw hbx hA4 hres4 hL
    go_wp2_with fail
    generalize w3.alloc (.cells #[.slice ao L c] 26) = w4 at *
    have hset : (w4.setCell ⟨w.heap.size, 0, none⟩ (.slice ao L c)).heap[w.heap.size]? = some (.cells #[.slice ao L c] 26 (0, 0)) := by simp [World.setCell, Array.getElem?_modify, HRES4.out]
    obtain ⟨s0, s1, s2⟩ := one_facts hset (After.refl _)
    refine bodyPost_ret (v := .agg #[.slice ao L c]) (by simp [results, Tryz.results41, go_sem, s0]) rfl ⟨_, a, p + 1 + 1, rfl, ?_, ?_, by omega, ?_, ?_⟩
    · refine OwnSS.ssu (base := w2.heap.size) (HO.out.keptT fun b cs T fr hT hb => set_typed HRES4.out hT hb) HG2.out.size
    · have := HLENS.out
      exact ⟨by have := this.1; omega, fun ns hs => ⟨by have := (this.2 ns hs).1; omega, fun s h => by have := (this.2 ns hs).2 s h; omega⟩⟩
    · have h1 := HG4.out
      refine ⟨h1.os, h1.tape, h1.output, by have := h1.size; simp [World.setCell]; omega, fun k hk hne => ?_⟩
      rw [Below.heap_setCell _ _ _ _ (by show k ≠ w.heap.size; omega)]
      exact h1.block k hk hne
    · have hne : rb ≠ w.heap.size := by have := HLT.out; omega
      refine ⟨?_, ?_⟩
      · have h1 := HD4.out.1
        unfold DR at h1 ⊢
        rw [Below.heap_setCell _ _ _ _ hne]
        exact h1
      · refine HCODE.out.grown ?_
        have h1 := HG4.out
        refine ⟨h1.os, h1.tape, h1.output, by have := h1.size; simp [World.setCell]; omega, fun k hk hne => ?_⟩
        rw [Below.heap_setCell _ _ _ _ (by show k ≠ w.heap.size; omega)]
        exact h1.block k hk hne
  · have hk1 : ((k0 : Int) == 0) = false := by rw [beq_eq_false_iff_ne]; omega
    have hA1 := (After.new w1 (.cells #[] 40)).alloc (.cells #[.slice (some ⟨w1.heap.size, 0, none⟩) 0 0] 26)
    have he1 := heap_old2 w1 (.cells #[] 40) (.cells #[.slice (some ⟨w1.heap.size, 0, none⟩) 0 0] 26)
    have hq1 := heap_new2 w1 w1.heap.size (.cells #[] 40) (.cells #[.slice (some ⟨w1.heap.size, 0, none⟩) 0 0] 26) rfl
    have hR1 : Rnd w ((w1.alloc (.cells #[] 40)).alloc (.cells #[.slice (some ⟨w1.heap.size, 0, none⟩) 0 0] 26)) rb (p + 1) w1.heap.size (w1.heap.size + 1) v (.slice (some ⟨w1.heap.size, 0, none⟩) 0 0) [] :=
      ⟨grown_trans HG1.out (grown_aft hA1), HD1.out.after hA1, OwnSS.empty he1 (Nat.le_refl _), hq1, After.heap hA1 HRES1.out, HSZ1.out, Nat.le_succ _, hA1.size, HLT.out, HCODE.out⟩
    have HR1 := Lib.hid hR1
    have hpp := HP2.out _ (p + 1) hR1.dr (by omega)
    clear hA1 he1 hq1 hR1
    go_wp2_with fail
    generalize ((w1.alloc (.cells #[] 40)).alloc (.cells #[.slice (some ⟨w1.heap.size, 0, none⟩) 0 0] 26)) = W1 at *
    obtain ⟨E, hE⟩ : ∃ E, E = w1.heap.size := ⟨_, rfl⟩
    obtain ⟨Q, hQ⟩ : ∃ Q, Q = E + 1 := ⟨_, rfl⟩
    simp only [← hE, ← hQ] at HR1 ⊢
    have HE := Lib.hid hE
    have HQ := Lib.hid hQ
    clear hE hQ
    refine hpp.mono ?_
    rintro e w2 ⟨k2, hk2, rfl, hg2, hd2⟩
    have HR2 := Lib.hid (HR1.out.drawn hg2 hd2)
    clear hpp hg2 hd2
    go_wp2_with fail
    obtain ⟨N, hN⟩ : ∃ N : Nat, N = 1 + k2 := ⟨_, rfl⟩
    have hN' : (1 : Int) + (k2 : Int) = (N : Int) := by omega
    have HI2 : Hid (∃ i, (Tryz.prog).info? 40 = some i ∧ i.zero = some (.slice none 0 0) ∧ i.size = 1 ∧ i.bytes = 24) := ⟨_, rfl, rfl, rfl, rfl⟩
    have HUN2 : Hid (Tryz.prog.underlying 24 = some (.slice 40)) := by show _ = _; kernel_rfl
    have HI : Hid (∃ i, (Tryz.prog).info? 9 = some i ∧ i.zero = some (.string ⟨#[]⟩) ∧ i.size = 1 ∧ i.bytes = 16) := ⟨_, rfl, rfl, rfl, rfl⟩
    have HUN : Hid (Tryz.prog.underlying 40 = some (.slice 9)) := by show _ = _; kernel_rfl
    have hN1 : 1 ≤ N := by omega
    have hN4 : N ≤ 4 := by omega
    simp only [hN']
    clear hN hN' hk2
    go_loopw [9] (fun i wr => ∃ (k : Nat) (sv : Value) (a : List (List (List UInt8))) (q : Nat), i = .int .i64 k ∧ k ≤ N ∧ Hid (k = a.length) ∧ Hid (Rnd w wr rb q E Q v sv a) ∧ q ≤ p + 2 + 100 * k ∧ Hid (Rws a)) (fun i _ => N - (intOf i).toNat)
    case atStart => exact ⟨0, _, [], p + 1 + 1, rfl, Nat.zero_le _, rfl, HR2, by omega, by show Rws _; intro ns hn; cases hn⟩
    case round =>
      obtain ⟨k, sv, a, q, rfl, hkN, HK, HR, hq, HL⟩ := hrel
      obtain ⟨ao, cap, e0⟩ := HR.out.own.form
      rw [← HK.out] at e0
      subst e0
      by_cases hltk : k < N
      · have hlt' : (k : Int) < (N : Int) := by omega
        have hr1 := realizerV_any v wr rb q HR.out.dr (by omega)
        go_wp2_with fail
        refine hr1.mono ?_
        rintro e w3 ⟨s1, q1, rfl, hz1, hq1, hg3, hd3⟩
        obtain ⟨x1, rfl⟩ : ∃ l : List UInt8, s1 = ⟨l.toArray⟩ := ⟨s1.data.toList, by simp⟩
        rw [ssize] at hz1
        have hnw3 := After.new w3 (.cells #[str x1] 9)
        have HROW3 := Lib.hid (own_one w3 wr.heap.size hg3.size x1)
        have HG3 : Hid (wr.grownBy (w3.alloc (.cells #[str x1] 9)) (some rb)) := grown_trans hg3 (grown_aft hnw3)
        have HD3 := Lib.hid (hd3.after hnw3)
        have hp3 := pickV_any v _ rb q1 3 (hd3.after hnw3) (by omega) (by decide) (by decide)
        have HZ1 := Lib.hid hz1
        clear hr1 hg3 hd3 hnw3 hz1
        go_wp2_with fail
        refine hp3.mono ?_
        rintro e w4 ⟨k3, hk3, rfl, hg4, hd4⟩
        have HG4 : Hid (wr.grownBy w4 (some rb)) := grown_trans HG3.out hg4
        have HD4 := Lib.hid hd4
        have HROW4 := Lib.hid (own_drawn HROW3.out (by decide) HD3.out hg4)
        obtain ⟨g3, hg3e⟩ : ∃ g, g = w3.heap.size := ⟨_, rfl⟩
        rw [← hg3e] at HROW4
        rw [← hg3e]
        clear hp3 hg4 hd4 hg3e HROW3 HG3 HD3
        by_cases hk30 : k3 = 0
        · subst hk30
          have hr2 := realizerV_any v w4 rb (q1 + 1) HD4.out (by omega)
          go_wp2_with fail
          refine hr2.mono ?_
          rintro e w5 ⟨s2, q2, rfl, hz2, hq2, hg5, hd5⟩
          obtain ⟨x2, rfl⟩ : ∃ l : List UInt8, s2 = ⟨l.toArray⟩ := ⟨s2.data.toList, by simp⟩
          rw [ssize] at hz2
          have HG5 : Hid (wr.grownBy w5 (some rb)) := grown_trans HG4.out hg5
          have HD5 := Lib.hid hd5
          have HROW5 := Lib.hid (own_drawn HROW4.out (by decide) HD4.out hg5)
          have HZ2 := Lib.hid hz2
          have hcell : w5.cell? ⟨g3, 0, none⟩ = some (str x1) := HROW5.out.cellAt 0 (by simp)
          clear hr2 hg5 hd5 hz2 HROW4 HG4 HD4
          have HQX0 : Hid (q2 ≤ p + 2 + 100 * (k + 1)) := by show _ ≤ _; omega
          by_cases hx : x2 = x1
          · subst hx
            obtain ⟨WX, hWX⟩ : ∃ W, W = w5 := ⟨_, rfl⟩
            obtain ⟨QX, hQX⟩ : ∃ q, q = q2 := ⟨_, rfl⟩
            rw [← hWX] at HG5 HROW5 HD5 hcell
            rw [← hQX] at HQX0 HD5
            rw [← hWX]
            have HGX := HG5
            have HDX := HD5
            have HROWX := HROW5
            have HQX := HQX0
            clear hWX hQX
            obtain ⟨cs, ho0, _, _⟩ := HR.out.own
            rw [← HK.out] at ho0
            have ho1 := own_drawn ho0 (by decide) HR.out.dr HGX.out
            have hnw := After.new WX (.cells #[.slice (some ⟨g3, 0, none⟩) 1 1] 40)
            have hHO := own_later ho1 hnw
            have hnews : ∀ (j : Nat) (u : Value), ([.slice (some ⟨g3, 0, none⟩) 1 1] : List Value)[j]? = some u → (WX.alloc (.cells #[.slice (some ⟨g3, 0, none⟩) 1 1] 40)).cell? ((⟨WX.heap.size, 0, none⟩ : Addr).add j) = some u := fun j u hu => by
              match j, hu with
              | 0, hu =>
                have e : Value.slice (some ⟨g3, 0, none⟩) 1 1 = u := by simpa using hu
                subst e
                simp [Addr.add]
            have hb5 : E ≤ (WX.alloc (.cells #[.slice (some ⟨g3, 0, none⟩) 1 1] 40)).heap.size := Nat.le_trans HR.out.hEr (Nat.le_trans HGX.out.size hnw.size)
            have hRX := HR.out.drawn HGX.out HDX.out
            obtain ⟨p0, p1, p2⟩ := one_facts hRX.box hnw
            obtain ⟨p0', p1', p2'⟩ := one_facts hRX.box (After.refl _)
            have HO1 := Lib.hid ho1
            have HHO := Lib.hid hHO
            have HNEWS := Lib.hid hnews
            have HB5 := Lib.hid hb5
            obtain ⟨i1, hj0, hy0, hy1, hy2⟩ := HI2.out
            clear ho0 ho1 hnw hHO hnews hRX hb5
            go_wp2_with (at_builtin; refine wpList_append_lies _ (by rfl) _ _ 24 (by rfl) E 40 i1 (.slice none 0 0) 1 24 HUN2.out hj0 hy0 hy1 hy2 rfl (by decide) _ _ _ (by rfl) HHO.out ⟨WX.heap.size, 0, none⟩ 1 1 [.slice (some ⟨g3, 0, none⟩) 1 1] (by rfl) (by rfl) HNEWS.out (by simp [Value.oneCell']) (by omega) (by unfold maxLen; omega) (by omega) HB5.out _ rfl ?_; intro g4 q4 w7 ho4 hg4 _ hlt4; obtain ⟨hbx5, hR5⟩ := HR.out.push HGX.out HDX.out HK.out HO1.out HROWX.out ho4 hg4; obtain ⟨s0, s1, s2⟩ := one_facts hbx5 (After.refl _); have HR5 := Lib.hid hR5; clear ho4 hg4 hR5 hbx5)
            go_roundw
            case rel =>
              refine ⟨k + 1, .slice (some ⟨g4, 0, none⟩) (k + 1) q4, a ++ [[x2]], QX, by go_num, by omega, ?_, ?_, ?_, ?_⟩
              · show _ = _
                rw [List.length_append, ← HK.out]
                rfl
              · exact HR5
              · have := HQX.out
                omega
              · show Rws _
                exact HL.out.snoc _ ⟨by simp, by simp, fun s hs => by obtain rfl := List.mem_singleton.1 hs; exact HZ1.out⟩
            case measure => simp [intOf]; omega
          · have hne : (x2 == x1) = false := beq_eq_false_iff_ne.2 hx
            obtain ⟨i0, hi0, hz0, hzs, hz4⟩ := HI.out
            have hnw6 := After.new w5 (.cells #[str x2] 9)
            have HO6 := Lib.hid (own_later HROW5.out hnw6)
            have hlit := own_one w5 w5.heap.size (Nat.le_refl _) x2
            have HNEW6 := Lib.hid (hlit.cells (g := w5.heap.size) rfl)
            have HG6 : Hid (wr.grownBy (w5.alloc (.cells #[str x2] 9)) (some rb)) := grown_trans HG5.out (grown_aft hnw6)
            have HD6 := Lib.hid (HD5.out.after hnw6)
            have HB6 : Hid (wr.heap.size ≤ (w5.alloc (.cells #[str x2] 9)).heap.size) := HG6.out.size
            have HF1 : Hid True := trivial
            obtain ⟨QX, hQX⟩ : ∃ q, q = q2 := ⟨_, rfl⟩
            rw [← hQX] at HQX0 HD6
            have HQX := HQX0
            clear hlit hnw6 hQX
            go_wp2_with (first
              | (at_builtin
                 clear HF1
                 refine wpList_append_lies _ (by rfl) _ _ 40 (by rfl) wr.heap.size 9 i0 (.string ⟨#[]⟩) 1 16 HUN.out hi0 hz0 hzs hz4 rfl (by decide) _ _ _ (by rfl) HO6.out ⟨w5.heap.size, 0, none⟩ 1 1 [str x2] (by rfl) (by rfl) HNEW6.out (by simp [Value.oneCell']) (by omega) (by unfold maxLen; simp) (by simp) HB6.out _ rfl ?_
                 intro g6 c6 WX ho6 hg6 _ hlt6
                 have HGX : Hid (wr.grownBy WX (some rb)) := grown_row HG6.out HO6.out hg6
                 have HDX : Hid (DrV v WX rb QX) := HD6.out.row HO6.out (by decide) hg6 HR.out.code (grown_trans HR.out.grown HGX.out)
                 have HROWX : Hid (WX.ownsRow wr.heap.size 9 1 (.slice (some ⟨g6, 0, none⟩) 2 c6) ([x1, x2] : List (List UInt8)).length (([x1, x2] : List (List UInt8)).map str)) := ho6
                 clear ho6 hg6 hlt6
                 obtain ⟨cs, ho0, _, _⟩ := HR.out.own
                 rw [← HK.out] at ho0
                 have ho1 := own_drawn ho0 (by decide) HR.out.dr HGX.out
                 have hnw := After.new WX (.cells #[.slice (some ⟨g6, 0, none⟩) 2 c6] 40)
                 have hHO := own_later ho1 hnw
                 have hnews : ∀ (j : Nat) (u : Value), ([.slice (some ⟨g6, 0, none⟩) 2 c6] : List Value)[j]? = some u → (WX.alloc (.cells #[.slice (some ⟨g6, 0, none⟩) 2 c6] 40)).cell? ((⟨WX.heap.size, 0, none⟩ : Addr).add j) = some u := fun j u hu => by
                   match j, hu with
                   | 0, hu =>
                     have e : Value.slice (some ⟨g6, 0, none⟩) 2 c6 = u := by simpa using hu
                     subst e
                     simp [Addr.add]
                 have hb5 : E ≤ (WX.alloc (.cells #[.slice (some ⟨g6, 0, none⟩) 2 c6] 40)).heap.size := Nat.le_trans HR.out.hEr (Nat.le_trans HGX.out.size hnw.size)
                 have hRX := HR.out.drawn HGX.out HDX.out
                 obtain ⟨p0, p1, p2⟩ := one_facts hRX.box hnw
                 obtain ⟨p0', p1', p2'⟩ := one_facts hRX.box (After.refl _)
                 have HO1 := Lib.hid ho1
                 have HHO := Lib.hid hHO
                 have HNEWS := Lib.hid hnews
                 have HB5 := Lib.hid hb5
                 obtain ⟨i1, hj0, hy0, hy1, hy2⟩ := HI2.out
                 clear ho0 ho1 hnw hHO hnews hRX hb5)
              | (at_builtin; refine wpList_append_lies _ (by rfl) _ _ 24 (by rfl) E 40 i1 (.slice none 0 0) 1 24 HUN2.out hj0 hy0 hy1 hy2 rfl (by decide) _ _ _ (by rfl) HHO.out ⟨WX.heap.size, 0, none⟩ 1 1 [.slice (some ⟨g6, 0, none⟩) 2 c6] (by rfl) (by rfl) HNEWS.out (by simp [Value.oneCell']) (by omega) (by unfold maxLen; omega) (by omega) HB5.out _ rfl ?_; intro g4 q4 w7 ho4 hg4 _ hlt4; obtain ⟨hbx5, hR5⟩ := HR.out.push HGX.out HDX.out HK.out HO1.out HROWX.out ho4 hg4; obtain ⟨s0, s1, s2⟩ := one_facts hbx5 (After.refl _); have HR5 := Lib.hid hR5; clear ho4 hg4 hR5 hbx5))
            go_roundw
            case rel =>
              refine ⟨k + 1, .slice (some ⟨g4, 0, none⟩) (k + 1) q4, a ++ [[x1, x2]], QX, by go_num, by omega, ?_, ?_, ?_, ?_⟩
              · show _ = _
                rw [List.length_append, ← HK.out]
                rfl
              · exact HR5
              · have := HQX.out
                omega
              · show Rws _
                exact HL.out.snoc _ ⟨by simp, by simp, fun s hs => by rcases List.mem_cons.1 hs with rfl | hs; exact HZ1.out; obtain rfl := List.mem_singleton.1 hs; exact HZ2.out⟩
            case measure => simp [intOf]; omega
        · have hk31 : ((k3 : Int) == 0) = false := by rw [beq_eq_false_iff_ne]; omega
          obtain ⟨WX, hWX⟩ : ∃ W, W = w4 := ⟨_, rfl⟩
          obtain ⟨QX, hQX⟩ : ∃ q, q = q1 + 1 := ⟨_, rfl⟩
          rw [← hWX, ← hQX] at HD4
          rw [← hWX] at HG4 HROW4
          rw [← hWX]
          have HGX := HG4
          have HDX := HD4
          have HROWX := HROW4
          have HQX : Hid (QX ≤ p + 2 + 100 * (k + 1)) := by show _ ≤ _; omega
          clear hWX hQX
          obtain ⟨cs, ho0, _, _⟩ := HR.out.own
          rw [← HK.out] at ho0
          have ho1 := own_drawn ho0 (by decide) HR.out.dr HGX.out
          have hnw := After.new WX (.cells #[.slice (some ⟨g3, 0, none⟩) 1 1] 40)
          have hHO := own_later ho1 hnw
          have hnews : ∀ (j : Nat) (u : Value), ([.slice (some ⟨g3, 0, none⟩) 1 1] : List Value)[j]? = some u → (WX.alloc (.cells #[.slice (some ⟨g3, 0, none⟩) 1 1] 40)).cell? ((⟨WX.heap.size, 0, none⟩ : Addr).add j) = some u := fun j u hu => by
            match j, hu with
            | 0, hu =>
              have e : Value.slice (some ⟨g3, 0, none⟩) 1 1 = u := by simpa using hu
              subst e
              simp [Addr.add]
          have hb5 : E ≤ (WX.alloc (.cells #[.slice (some ⟨g3, 0, none⟩) 1 1] 40)).heap.size := Nat.le_trans HR.out.hEr (Nat.le_trans HGX.out.size hnw.size)
          have hRX := HR.out.drawn HGX.out HDX.out
          obtain ⟨p0, p1, p2⟩ := one_facts hRX.box hnw
          obtain ⟨p0', p1', p2'⟩ := one_facts hRX.box (After.refl _)
          have HO1 := Lib.hid ho1
          have HHO := Lib.hid hHO
          have HNEWS := Lib.hid hnews
          have HB5 := Lib.hid hb5
          obtain ⟨i1, hj0, hy0, hy1, hy2⟩ := HI2.out
          clear ho0 ho1 hnw hHO hnews hRX hb5
          go_wp2_with (at_builtin; refine wpList_append_lies _ (by rfl) _ _ 24 (by rfl) E 40 i1 (.slice none 0 0) 1 24 HUN2.out hj0 hy0 hy1 hy2 rfl (by decide) _ _ _ (by rfl) HHO.out ⟨WX.heap.size, 0, none⟩ 1 1 [.slice (some ⟨g3, 0, none⟩) 1 1] (by rfl) (by rfl) HNEWS.out (by simp [Value.oneCell']) (by omega) (by unfold maxLen; omega) (by omega) HB5.out _ rfl ?_; intro g4 q4 w7 ho4 hg4 _ hlt4; obtain ⟨hbx5, hR5⟩ := HR.out.push HGX.out HDX.out HK.out HO1.out HROWX.out ho4 hg4; obtain ⟨s0, s1, s2⟩ := one_facts hbx5 (After.refl _); have HR5 := Lib.hid hR5; clear ho4 hg4 hR5 hbx5)
          go_roundw
          case rel =>
            refine ⟨k + 1, .slice (some ⟨g4, 0, none⟩) (k + 1) q4, a ++ [[x1]], QX, by go_num, by omega, ?_, ?_, ?_, ?_⟩
            · show _ = _
              rw [List.length_append, ← HK.out]
              rfl
            · exact HR5
            · have := HQX.out
              omega
            · show Rws _
              exact HL.out.snoc _ ⟨by simp, by simp, fun s hs => by obtain rfl := List.mem_singleton.1 hs; exact HZ1.out⟩
          case measure => simp [intOf]; omega
      · obtain rfl : k = N := by omega
        have hkb : k ≤ 4 := hN4
        have hp3 := pickV_any v wr rb q 30 HR.out.dr (by omega) (by decide) (by decide)
        go_wp2_with fail
        refine hp3.mono ?_
        rintro e w3 ⟨k3, hk3, rfl, hg3, hd3⟩
        have HR3 := Lib.hid (HR.out.drawn hg3 hd3)
        have hlen : a.length ≤ 21000 := by have := HK.out; omega
        obtain ⟨cs, ho, hc, hdd⟩ := HR3.out.own
        rw [← HK.out] at ho
        obtain ⟨g, cap', efo, hEg, hgl⟩ := ho.form (by omega)
        injection efo with efo _ efc
        subst efo
        subst efc
        have HO3 := Lib.hid ho
        have HQE : Hid (q + 1 ≤ p + 1000) := by show _ ≤ _; omega
        clear hp3 hg3 hd3
        by_cases hk30 : k3 = 0
        · subst hk30
          obtain ⟨f1, f2, f3, f4, f5⟩ := HR3.out.emptied HK.out
          obtain ⟨z1, z2, z3, z4⟩ := fin_draw f2 f3 f5 f1 HLT.out HCODE.out (Nat.le_of_lt HR3.out.hE)
          have hnw := After.new w3 (.cells #[] 9)
          have ho1 := own_later ho hnw
          obtain ⟨rv, hrv⟩ : ∃ rv, (w3.alloc (.cells #[] 9)).cell? ⟨g, 0, none⟩ = some rv := by
            obtain ⟨rv, h1, _⟩ := hc 0 (by have := HK.out; omega)
            exact ⟨rv, (ho1.cellAt 0 (by omega)).trans h1⟩
          have hfz := ho1.frozenAt 0
          obtain ⟨p0, p1, p2⟩ := one_facts HR3.out.box hnw
          obtain ⟨p0', p1', p2'⟩ := one_facts HR3.out.box (After.refl _)
          obtain ⟨r0, r1, r2⟩ := one_facts f4 (After.refl _)
          obtain ⟨s0, s1, s2⟩ := one_facts f5 (After.refl _)
          obtain ⟨t0, t1, t2⟩ := one_facts z4 (After.refl _)
          have HZ := Lib.hid (And.intro z1 (And.intro z2 z3))
          have HLN := Lib.hid (lens_set HL.out hlen [] ⟨by simp, fun s h => by cases h⟩)
          clear f1 f2 f3 f4 f5 z1 z2 z3 z4 ho ho1 hc hdd hnw p2 p2' r2 s2 t2 hgl
          go_wp2_with fail
          exact bodyPost_ret (v := .agg #[.slice (some ⟨g, 0, none⟩) k cap]) (by simp [results, Tryz.results41, go_sem, t0]) rfl ⟨_, _, q + 1, rfl, HZ.out.1, HLN.out, HQE.out, HZ.out.2.1, HZ.out.2.2⟩
        · have hk31 : ((k3 : Int) == 0) = false := by rw [beq_eq_false_iff_ne]; omega
          by_cases hk3a : k3 = 1
          · subst hk3a
            obtain ⟨rv, e1, hrow⟩ := hc 0 (by have := HK.out; omega)
            have hr0 : 1 ≤ (a.getD 0 []).length ∧ (a.getD 0 []).length ≤ 2 ∧ ∀ s ∈ a.getD 0 [], s.length ≤ 21000 := HL.out _ (gd_mem (by have := HK.out; omega))
            obtain ⟨h, c2, eh, hEh, hhl⟩ := hrow.form (by omega)
            subst eh
            obtain ⟨m, hm⟩ : ∃ m, m = (a.getD 0 []).length := ⟨_, rfl⟩
            have hm1 : 0 < m := by omega
            rw [← hm] at e1 hrow
            obtain ⟨f1, f2, f3, f4, f5⟩ := HR3.out.changed [40, 40, 107, 32, 107, 41, 32, 107, 41] HK.out (by omega) ho e1
            obtain ⟨z1, z2, z3, z4⟩ := fin_draw f2 f3 f5 f1 HLT.out HCODE.out (Nat.le_of_lt HR3.out.hE)
            have hcell : w3.cell? ⟨g, 0, none⟩ = some (.slice (some ⟨h, 0, none⟩) m c2) := (ho.cellAt 0 (by omega)).trans e1
            obtain ⟨sx, hsx⟩ : ∃ sx, w3.cell? ⟨h, 0, none⟩ = some sx := by
              have := hrow.cellAt 0 (by omega)
              exact ⟨_, this.trans (by rw [List.getElem?_map, List.getElem?_eq_getElem (by omega)]; rfl)⟩
            have hfz := hrow.frozenAt 0
            obtain ⟨p0', p1', p2'⟩ := one_facts HR3.out.box (After.refl _)
            obtain ⟨r0, r1, r2⟩ := one_facts f4 (After.refl _)
            obtain ⟨s0, s1, s2⟩ := one_facts f5 (After.refl _)
            obtain ⟨t0, t1, t2⟩ := one_facts z4 (After.refl _)
            have HZ := Lib.hid (And.intro z1 (And.intro z2 z3))
            have HLN := Lib.hid (lens_set HL.out hlen ((a.getD 0 []).set 0 [40, 40, 107, 32, 107, 41, 32, 107, 41]) ⟨by rw [List.length_set]; omega, fun s hs => by
              rcases List.mem_or_eq_of_mem_set hs with h1 | h1
              · exact hr0.2.2 s h1
              · rw [h1]; simp⟩)
            clear f1 f2 f3 f4 f5 z1 z2 z3 z4 ho hc hdd hr0 hm e1 hrow
            go_wp2_with fail
            exact bodyPost_ret (v := .agg #[.slice (some ⟨g, 0, none⟩) k cap]) (by simp [results, Tryz.results41, go_sem, t0]) rfl ⟨_, _, q + 1, rfl, HZ.out.1, HLN.out, HQE.out, HZ.out.2.1, HZ.out.2.2⟩
          · have hk32 : ((k3 : Int) == 1) = false := by rw [beq_eq_false_iff_ne]; omega
            obtain ⟨z1, z2, z3, z4⟩ := fin_draw HR3.out.grown HR3.out.dr HR3.out.res HR3.out.own.w HLT.out HCODE.out (Nat.le_of_lt HR3.out.hE)
            obtain ⟨p0', p1', p2'⟩ := one_facts HR3.out.box (After.refl _)
            obtain ⟨s0, s1, s2⟩ := one_facts HR3.out.res (After.refl _)
            obtain ⟨t0, t1, t2⟩ := one_facts z4 (After.refl _)
            have HZ := Lib.hid (And.intro z1 (And.intro z2 z3))
            have HLN := Lib.hid (HL.out.lens hlen)
            clear z1 z2 z3 z4 ho hc hdd
            go_wp2_with fail
            exact bodyPost_ret (v := .agg #[.slice (some ⟨g, 0, none⟩) k cap]) (by simp [results, Tryz.results41, go_sem, t0]) rfl ⟨_, _, q + 1, rfl, HZ.out.1, HLN.out, HQE.out, HZ.out.2.1, HZ.out.2.2⟩
end Go.Proofs.YtidpkmkhcomcdaaGreat

namespace Go.Proofs.YtidpkmkhcomcdaaGreat
open Go.RowKit

set_option maxHeartbeats 2000000
set_option maxRecDepth 100000

theorem code_later {w W : World} {v : Value} {n : Nat} (h : CodeArg w v n) (hA : After w W) : CodeArg W v n := by
  rcases h with h | ⟨b, o, cap, h1, h2, h3, rfl, z, hz⟩
  · exact Or.inl h
  · exact Or.inr ⟨b, o, cap, h1, h2, h3, rfl, z, fun i hi => ⟨hA.cell (hz i hi).1, (hz i hi).2⟩⟩

def OneAsm (w : World) (e : Ending) (w' : World) : Prop :=
  ∃ (sv : Value) (a : List (List (List UInt8))), e = .returned (.agg #[sv]) ∧ SSU 0 w' sv a ∧ Lens 21000 a ∧ After w w'
def TwoAsm (w : World) (e : Ending) (w' : World) : Prop :=
  ∃ (s1 s2 : Value) (a b : List (List (List UInt8))), e = .returned (.tuple #[.agg #[s1], .agg #[s2]]) ∧ SSU w.heap.size w' s1 a ∧ SSU w.heap.size w' s2 b ∧ Lens 21000 a ∧ Lens 21000 b ∧ After w w'

theorem ssu_set {w : World} {B q : Nat} {sv x : Value} {a : List (List (List UInt8))} (h : SSU B w sv a) (hq : q < B) : SSU B (w.setCell ⟨q, 0, none⟩ x) sv a :=
  h.same fun b hb _ => by rw [Below.heap_setCell _ _ _ _ (by show b ≠ q; omega)]
theorem ssu_grown {w W : World} {B rb : Nat} {sv : Value} {a : List (List (List UInt8))} (h : SSU B w sv a) (hq : rb < B) (hg : w.grownBy W (some rb)) : SSU B W sv a :=
  h.same fun b hb hl => by rw [hg.block b hl (fun e => by injection e with e; omega)]

theorem draw_av (w : World) (v : Value) (n : Nat) (h : CodeArg w v n) : Calls Tryz.prog 18 #[v] w (OneAsm w) := by
  have hA0 := After.new w (.cells #[.slice none 0 0] 26)
  have hres0 := heap_new' w (.cells #[.slice none 0 0] 26)
  have hopen := open_any _ v n (code_later h hA0)
  have hsz : (w.alloc (.cells #[.slice none 0 0] 26)).heap.size = w.heap.size + 1 := by simp
  have HA0 := Lib.hid hA0
  have HRES0 := Lib.hid hres0
  have HSZ := Lib.hid hsz
  clear h hA0 hres0 hsz
  go_enter Tryz.func18, Tryz.ntmps18
  go_wp2_with fail
  generalize w.alloc (.cells #[.slice none 0 0] 26) = w0 at *
  refine hopen.mono ?_
  rintro e w1 ⟨rb, rfl, hr, ha, cv, hd⟩
  have hd' : DrV cv w1 rb 0 := hd
  have hs := asm_any cv w1 rb 0 4 hd' (by omega) (by omega) (by omega)
  have HA1 := Lib.hid (After.trans HA0.out ha)
  have HRES1 := Lib.hid (ha.heap HRES0.out)
  have HR : Hid (w.heap.size < rb ∧ w0.heap.size ≤ rb) := by have := HSZ.out; exact ⟨by omega, hr⟩
  have HW1 : Hid (w.heap.size < w1.heap.size ∧ w0.heap.size ≤ w1.heap.size) := by have := HSZ.out; have := ha.size; exact ⟨by omega, by omega⟩
  have HA01 := Lib.hid ha
  clear hopen hd hd' ha hr
  go_wp2_with fail
  refine hs.mono ?_
  rintro e w2 ⟨sv, a, q, rfl, hss, hlens, hq, hg, hdd⟩
  have hres2 : w2.heap[w.heap.size]? = some (.cells #[.slice none 0 0] 26 (0, 0)) := grown_heap hg HRES1.out (by have := HR.out.1; omega)
  obtain ⟨ao, cap, e0⟩ := hss.form
  generalize hL : a.length = L at e0
  subst e0
  obtain ⟨r0, r1, r2⟩ := one_facts hres2 (After.refl _)
  have hset : (w2.setCell ⟨w.heap.size, 0, none⟩ (.slice ao L cap)).heap[w.heap.size]? = some (.cells #[.slice ao L cap] 26 (0, 0)) := by simp [World.setCell, Array.getElem?_modify, hres2]
  obtain ⟨s0, s1, s2⟩ := one_facts hset (After.refl _)
  have HSS := Lib.hid (ssu_set (x := .slice ao L cap) hss HW1.out.1)
  have HLN := Lib.hid hlens
  have HG := Lib.hid hg
  clear hs hss hlens hg hdd hset hL hres2 r2 s2
  go_wp2_with fail
  refine bodyPost_ret (v := .agg #[.slice ao L cap]) (by simp [results, Tryz.results18, go_sem, s0]) rfl ⟨_, a, rfl, HSS.out.mono (Nat.zero_le _), HLN.out, ?_⟩
  have hA2 : After w w2 := Below.trans HA0.out (Below.mono (after_open HA01.out HG.out HR.out.2) HA0.out.size)
  exact Below.setCell hA2 (Nat.le_refl _) _

theorem draw_am (w : World) (v : Value) (n : Nat) (h : CodeArg w v n) : Calls Tryz.prog 21 #[v] w (OneAsm w) := by
  have hA0 := After.new w (.cells #[.slice none 0 0] 26)
  have hres0 := heap_new' w (.cells #[.slice none 0 0] 26)
  have hopen := open_any _ v n (code_later h hA0)
  have hsz : (w.alloc (.cells #[.slice none 0 0] 26)).heap.size = w.heap.size + 1 := by simp
  have HA0 := Lib.hid hA0
  have HRES0 := Lib.hid hres0
  have HSZ := Lib.hid hsz
  clear h hA0 hres0 hsz
  go_enter Tryz.func21, Tryz.ntmps21
  go_wp2_with fail
  generalize w.alloc (.cells #[.slice none 0 0] 26) = w0 at *
  refine hopen.mono ?_
  rintro e w1 ⟨rb, rfl, hr, ha, cv, hd⟩
  have hd' : DrV cv w1 rb 0 := hd
  have hs := asm_any cv w1 rb 0 3 hd' (by omega) (by omega) (by omega)
  have HA1 := Lib.hid (After.trans HA0.out ha)
  have HRES1 := Lib.hid (ha.heap HRES0.out)
  have HR : Hid (w.heap.size < rb ∧ w0.heap.size ≤ rb) := by have := HSZ.out; exact ⟨by omega, hr⟩
  have HW1 : Hid (w.heap.size < w1.heap.size ∧ w0.heap.size ≤ w1.heap.size) := by have := HSZ.out; have := ha.size; exact ⟨by omega, by omega⟩
  have HA01 := Lib.hid ha
  clear hopen hd hd' ha hr
  go_wp2_with fail
  refine hs.mono ?_
  rintro e w2 ⟨sv, a, q, rfl, hss, hlens, hq, hg, hdd⟩
  have hres2 : w2.heap[w.heap.size]? = some (.cells #[.slice none 0 0] 26 (0, 0)) := grown_heap hg HRES1.out (by have := HR.out.1; omega)
  obtain ⟨ao, cap, e0⟩ := hss.form
  generalize hL : a.length = L at e0
  subst e0
  obtain ⟨r0, r1, r2⟩ := one_facts hres2 (After.refl _)
  have hset : (w2.setCell ⟨w.heap.size, 0, none⟩ (.slice ao L cap)).heap[w.heap.size]? = some (.cells #[.slice ao L cap] 26 (0, 0)) := by simp [World.setCell, Array.getElem?_modify, hres2]
  obtain ⟨s0, s1, s2⟩ := one_facts hset (After.refl _)
  have HSS := Lib.hid (ssu_set (x := .slice ao L cap) hss HW1.out.1)
  have HLN := Lib.hid hlens
  have HG := Lib.hid hg
  clear hs hss hlens hg hdd hset hL hres2 r2 s2
  go_wp2_with fail
  refine bodyPost_ret (v := .agg #[.slice ao L cap]) (by simp [results, Tryz.results21, go_sem, s0]) rfl ⟨_, a, rfl, HSS.out.mono (Nat.zero_le _), HLN.out, ?_⟩
  have hA2 : After w w2 := Below.trans HA0.out (Below.mono (after_open HA01.out HG.out HR.out.2) HA0.out.size)
  exact Below.setCell hA2 (Nat.le_refl _) _

end Go.Proofs.YtidpkmkhcomcdaaGreat

namespace Go.Proofs.YtidpkmkhcomcdaaGreat
open Go.RowKit

set_option maxHeartbeats 4000000
set_option maxRecDepth 100000

theorem draw_ap (w : World) (v : Value) (n : Nat) (h : CodeArg w v n) : Calls Tryz.prog 15 #[v] w (TwoAsm w) := by
  have hA0 := (After.new w (.cells #[.slice none 0 0] 26)).alloc (.cells #[.slice none 0 0] 26)
  have hres0 := heap_old2 w (.cells #[.slice none 0 0] 26) (.cells #[.slice none 0 0] 26)
  have hres1 := heap_new2 w w.heap.size (.cells #[.slice none 0 0] 26) (.cells #[.slice none 0 0] 26) rfl
  have hopen := open_any _ v n (code_later h hA0)
  have hsz : ((w.alloc (.cells #[.slice none 0 0] 26)).alloc (.cells #[.slice none 0 0] 26)).heap.size = w.heap.size + 2 := by simp
  have HA0 := Lib.hid hA0
  have HRES0 := Lib.hid hres0
  have HRES1 := Lib.hid hres1
  have HSZ := Lib.hid hsz
  clear h hA0 hres0 hres1 hsz
  go_enter Tryz.func15, Tryz.ntmps15
  go_wp2_with fail
  generalize ((w.alloc (.cells #[.slice none 0 0] 26)).alloc (.cells #[.slice none 0 0] 26)) = w0 at *
  refine hopen.mono ?_
  rintro e w1 ⟨rb, rfl, hr, ha, cv, hd⟩
  have hd' : DrV cv w1 rb 0 := hd
  have hs := asm_any cv w1 rb 0 2 hd' (by omega) (by omega) (by omega)
  have HA1 := Lib.hid (After.trans HA0.out ha)
  have HR0 := Lib.hid (ha.heap HRES0.out)
  have HR1 := Lib.hid (ha.heap HRES1.out)
  have HR : Hid (w.heap.size + 1 < rb ∧ w0.heap.size ≤ rb) := by have := HSZ.out; exact ⟨by omega, hr⟩
  have HW1 : Hid (w.heap.size + 1 < w1.heap.size ∧ w0.heap.size ≤ w1.heap.size) := by have := HSZ.out; have := ha.size; exact ⟨by omega, by omega⟩
  have HA01 := Lib.hid ha
  have HRBL := Lib.hid hd'.lt
  clear hopen hd hd' ha hr
  go_wp2_with fail
  refine hs.mono ?_
  rintro e w2 ⟨sv, a, q, rfl, hss, hlens, hq, hg, hdd⟩
  obtain ⟨ao, cap, e0⟩ := hss.form
  generalize hL : a.length = L at e0
  subst e0
  have hnw := After.new w2 (.cells #[.slice ao L cap] 26)
  have hbx := heap_new' w2 (.cells #[.slice ao L cap] 26)
  have hs2 := fun W (hW : DrV cv W rb q) => asm_any cv W rb q 3 hW (by omega) (by omega) (by omega)
  obtain ⟨p0, p1, p2⟩ := one_facts hbx (After.refl _)
  have HNW := Lib.hid hnw
  have HBX := Lib.hid hbx
  have HSS := Lib.hid hss
  have HLN := Lib.hid hlens
  have HG := Lib.hid hg
  have HDD := Lib.hid (hdd.after hnw)
  have HS2 := Lib.hid hs2
  have HL := Lib.hid hL
  have HQ := Lib.hid hq
  clear hs2 hnw hbx hss hlens hg hdd hL hq hs
  go_wp2_with fail
  generalize hW2 : w2.alloc (.cells #[.slice ao L cap] 26) = W2 at *
  have HW2 := Lib.hid hW2
  have hr0 : W2.heap[w.heap.size]? = some (.cells #[.slice none 0 0] 26 (0, 0)) := After.heap HNW.out (grown_heap HG.out HR0.out (by have := HR.out.1; omega))
  have hr1 : W2.heap[w.heap.size + 1]? = some (.cells #[.slice none 0 0] 26 (0, 0)) := After.heap HNW.out (grown_heap HG.out HR1.out (by have := HR.out.1; omega))
  have HRA := Lib.hid hr0
  have HRB := Lib.hid hr1
  clear hW2 hr0 hr1
  go_region_with (go_at_call 41
                  refine (HS2.out _ (by exact HDD.out)).mono ?_
                  rintro e w3 ⟨sv2, b, q2, rfl, hss2, hlens2, hq2, hg2, hdd2⟩
                  have hg2' : W2.grownBy w3 (some rb) := grown_trans (grown_aft (After.refl W2).drew) hg2
                  have hss2' : SSU W2.heap.size w3 sv2 b := hss2
                  obtain ⟨ao2, cap2, e2⟩ := hss2'.form
                  generalize hL2 : b.length = L2 at e2
                  subst e2
                  have hbx3 := grown_heap hg2' HBX.out (HDD.out.typed (by decide) HBX.out)
                  have hra3 := grown_heap hg2' HRA.out (HDD.out.typed (by decide) HRA.out)
                  have hrb3 := grown_heap hg2' HRB.out (HDD.out.typed (by decide) HRB.out)
                  obtain ⟨b0, b1, b2⟩ := one_facts hbx3 (After.refl _)
                  obtain ⟨c0, c1, c2⟩ := one_facts hra3 (After.refl _)
                  obtain ⟨d0, d1, d2⟩ := one_facts hrb3 (After.refl _)
                  have HSS2 := Lib.hid hss2'
                  have HLN2 := Lib.hid hlens2
                  have HG2 := Lib.hid hg2'
                  have HRA3 := Lib.hid hra3
                  have HRB3 := Lib.hid hrb3
                  clear hss2 hss2' hlens2 hg2 hg2' hdd2 hbx3 hra3 hrb3 hL2)
  all_goals
    have hset1 : ((w3.setCell ⟨w.heap.size, 0, none⟩ (.slice ao L cap)).setCell ⟨w.heap.size + 1, 0, none⟩ (.slice ao2 L2 cap2)).heap[w.heap.size]? = some (.cells #[.slice ao L cap] 26 (0, 0)) := by
      rw [Below.heap_setCell _ _ _ _ (by show w.heap.size ≠ w.heap.size + 1; omega)]
      simp [World.setCell, Array.getElem?_modify, HRA3.out]
    have hset2 : ((w3.setCell ⟨w.heap.size, 0, none⟩ (.slice ao L cap)).setCell ⟨w.heap.size + 1, 0, none⟩ (.slice ao2 L2 cap2)).heap[w.heap.size + 1]? = some (.cells #[.slice ao2 L2 cap2] 26 (0, 0)) := by
      have h1 : (w3.setCell ⟨w.heap.size, 0, none⟩ (.slice ao L cap)).heap[w.heap.size + 1]? = some (.cells #[.slice none 0 0] 26 (0, 0)) := by
        rw [Below.heap_setCell _ _ _ _ (by show w.heap.size + 1 ≠ w.heap.size; omega)]
        exact HRB3.out
      generalize w3.setCell ⟨w.heap.size, 0, none⟩ (.slice ao L cap) = wz at *
      simp [World.setCell, Array.getElem?_modify, h1]
    obtain ⟨s0, s1, s2⟩ := one_facts hset1 (After.refl _)
    obtain ⟨t0, t1, t2⟩ := one_facts hset2 (After.refl _)
    have hw1 := HW1.out
    have hsz2 := HG.out.size
    have hszn := HNW.out.size
    have hr := HR.out
    have hA2 : After w W2 := After.trans (After.trans HA0.out (after_open HA01.out HG.out HR.out.2)) HNW.out
    have hA3 : After w w3 := after_open hA2 HG2.out (by omega)
    have hA4 : After w ((w3.setCell ⟨w.heap.size, 0, none⟩ (.slice ao L cap)).setCell ⟨w.heap.size + 1, 0, none⟩ (.slice ao2 L2 cap2)) := Below.setCell (p := ⟨w.heap.size + 1, 0, none⟩) (Below.setCell (p := ⟨w.heap.size, 0, none⟩) hA3 (Nat.le_refl _) _) (Nat.le_succ _) _
    have hsA := ssu_set (q := w.heap.size + 1) (x := .slice ao2 L2 cap2) (ssu_set (q := w.heap.size) (x := .slice ao L cap) (ssu_grown (HSS.out.later HNW.out) HRBL.out HG2.out) (by omega)) (by omega)
    have hsB := ssu_set (q := w.heap.size + 1) (x := .slice ao2 L2 cap2) (ssu_set (q := w.heap.size) (x := .slice ao L cap) HSS2.out (by omega)) (by omega)
    have HF := Lib.hid (And.intro hA4 (And.intro (hsA.mono (C := w.heap.size) (by omega)) (hsB.mono (C := w.heap.size) (by omega))))
    clear hset1 hset2 hA2 hA3 hA4 hsA hsB hw1 hsz2 hszn hr
    go_wp2_with fail
    exact bodyPost_ret (v := .tuple #[.agg #[.slice ao L cap], .agg #[.slice ao2 L2 cap2]]) (by simp [results, Tryz.results15, go_sem, s0, t0]) rfl ⟨_, _, a, b, rfl, HF.out.2.1, HF.out.2.2, HLN.out, HLN2.out, HF.out.1⟩

theorem draw_as (w : World) (v : Value) (n : Nat) (h : CodeArg w v n) : Calls Tryz.prog 23 #[v] w (TwoAsm w) := by
  have hA0 := (After.new w (.cells #[.slice none 0 0] 26)).alloc (.cells #[.slice none 0 0] 26)
  have hres0 := heap_old2 w (.cells #[.slice none 0 0] 26) (.cells #[.slice none 0 0] 26)
  have hres1 := heap_new2 w w.heap.size (.cells #[.slice none 0 0] 26) (.cells #[.slice none 0 0] 26) rfl
  have hcall := draw_ap _ v n (code_later h hA0)
  have HA0 := Lib.hid hA0
  have HRES0 := Lib.hid hres0
  have HRES1 := Lib.hid hres1
  clear h hA0 hres0 hres1
  go_enter Tryz.func23, Tryz.ntmps23
  go_wp2_with fail
  generalize ((w.alloc (.cells #[.slice none 0 0] 26)).alloc (.cells #[.slice none 0 0] 26)) = w0 at *
  refine hcall.mono ?_
  rintro e w3 ⟨s1, s2, a, b, rfl, hs1, hs2, hl1, hl2, hA⟩
  obtain ⟨ao, cap, e1⟩ := hs1.form
  obtain ⟨ao2, cap2, e2⟩ := hs2.form
  generalize hL : a.length = L at e1
  generalize hL2 : b.length = L2 at e2
  subst e1
  subst e2
  have hra3 := After.heap hA HRES0.out
  have hrb3 := After.heap hA HRES1.out
  obtain ⟨c0, c1, c2⟩ := one_facts hra3 (After.refl _)
  obtain ⟨d0, d1, d2⟩ := one_facts hrb3 (After.refl _)
  have hset1 : ((w3.setCell ⟨w.heap.size, 0, none⟩ (.slice ao L cap)).setCell ⟨w.heap.size + 1, 0, none⟩ (.slice ao2 L2 cap2)).heap[w.heap.size]? = some (.cells #[.slice ao L cap] 26 (0, 0)) := by
    rw [Below.heap_setCell _ _ _ _ (by show w.heap.size ≠ w.heap.size + 1; omega)]
    simp [World.setCell, Array.getElem?_modify, hra3]
  have hset2 : ((w3.setCell ⟨w.heap.size, 0, none⟩ (.slice ao L cap)).setCell ⟨w.heap.size + 1, 0, none⟩ (.slice ao2 L2 cap2)).heap[w.heap.size + 1]? = some (.cells #[.slice ao2 L2 cap2] 26 (0, 0)) := by
    have h1 : (w3.setCell ⟨w.heap.size, 0, none⟩ (.slice ao L cap)).heap[w.heap.size + 1]? = some (.cells #[.slice none 0 0] 26 (0, 0)) := by
      rw [Below.heap_setCell _ _ _ _ (by show w.heap.size + 1 ≠ w.heap.size; omega)]
      exact hrb3
    generalize w3.setCell ⟨w.heap.size, 0, none⟩ (.slice ao L cap) = wz at *
    simp [World.setCell, Array.getElem?_modify, h1]
  obtain ⟨s0, s1, s2⟩ := one_facts hset1 (After.refl _)
  obtain ⟨t0, t1, t2⟩ := one_facts hset2 (After.refl _)
  have hlt : w.heap.size + 1 < w0.heap.size := (Array.getElem?_eq_some_iff.1 HRES1.out).1
  have hA3 : After w w3 := After.trans HA0.out hA
  have hA4 : After w ((w3.setCell ⟨w.heap.size, 0, none⟩ (.slice ao L cap)).setCell ⟨w.heap.size + 1, 0, none⟩ (.slice ao2 L2 cap2)) := Below.setCell (p := ⟨w.heap.size + 1, 0, none⟩) (Below.setCell (p := ⟨w.heap.size, 0, none⟩) hA3 (Nat.le_refl _) _) (Nat.le_succ _) _
  have hsA := ssu_set (q := w.heap.size + 1) (x := .slice ao2 L2 cap2) (ssu_set (q := w.heap.size) (x := .slice ao L cap) hs1 (by omega)) (by omega)
  have hsB := ssu_set (q := w.heap.size + 1) (x := .slice ao2 L2 cap2) (ssu_set (q := w.heap.size) (x := .slice ao L cap) hs2 (by omega)) (by omega)
  have HF := Lib.hid (And.intro hA4 (And.intro (hsA.mono (C := w.heap.size) (by omega)) (hsB.mono (C := w.heap.size) (by omega))))
  have HLN := Lib.hid (And.intro hl1 hl2)
  clear hset1 hset2 hA hA3 hA4 hsA hsB hra3 hrb3 hs1 hs2 hl1 hl2 hL hL2 hlt c2 d2 s2 t2
  go_wp2_with fail
  exact bodyPost_ret (v := .tuple #[.agg #[.slice ao L cap], .agg #[.slice ao2 L2 cap2]]) (by simp [results, Tryz.results23, go_sem, s0, t0]) rfl ⟨_, _, a, b, rfl, HF.out.2.1, HF.out.2.2, HLN.out.1, HLN.out.2, HF.out.1⟩
end Go.Proofs.YtidpkmkhcomcdaaGreat
