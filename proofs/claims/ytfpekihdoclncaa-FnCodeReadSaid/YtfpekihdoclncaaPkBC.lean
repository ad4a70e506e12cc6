/-
  The drawing of inputs: one of a list; terms, closed terms, odd texts: whatever the code, some text.
-/
import Derived.Test.YtfpekihdoclncaaPkBB
import Derived.Test.YtfpekihdoclncaaPkAK
namespace Go.Proofs.Ytfpekihdoclncaa
open Go.RowKit

set_option maxHeartbeats 1000000
set_option maxRecDepth 100000

theorem Dr.lt {w : World} {rb p : Nat} (h : Dr w rb p) : rb < w.heap.size := by obtain ⟨v, h, _⟩ := h; exact (Array.getElem?_eq_some_iff.1 h).1

theorem CodeOk.after {w W : World} {rb : Nat} {v : Value} (h : CodeOk w rb v) (hw : Below w.heap.size w W) : CodeOk W rb v := by
  rcases h with h | ⟨b, o, n, cap, hn0, hn, rfl, hne, z, hz⟩
  · exact Or.inl h
  · exact Or.inr ⟨b, o, n, cap, hn0, hn, rfl, hne, z, fun i hi => ⟨cell_later' (hz i hi).1 W hw, (hz i hi).2⟩⟩

theorem Dr.after {w W : World} {rb p : Nat} (h : Dr w rb p) (hw : Below w.heap.size w W) : Dr W rb p := by
  obtain ⟨v, h, hc⟩ := h
  exact ⟨v, heap_later h hw, hc.after hw⟩

def OfPost (w : World) (rb p : Nat) (L : List (List UInt8)) (e : Ending) (w' : World) : Prop :=
  ∃ s, s ∈ L ∧ e = .returned (str s) ∧ w.grownBy w' (some rb) ∧ Dr w' rb (p + 1)

theorem grown_cell {w w' : World} {g rb i : Nat} {v : Value} (h : w.cell? ⟨g, i, none⟩ = some v) (hne : g ≠ rb) (hg : w.grownBy w' (some rb)) : w'.cell? ⟨g, i, none⟩ = some v := by
  have hb := hg.block g (World.block_lt_of_cell? _ _ h) (fun e => by injection e with e; exact hne e)
  simp only [World.cell?] at *
  rw [hb]
  exact h

theorem of_any (w : World) (rb p g : Nat) (fr : Nat × Nat) (L : List (List UInt8)) (hL : w.heap[g]? = some (.cells (L.map str).toArray 9 fr)) (h0 : 0 < L.length) (h1 : L.length ≤ 1000) (hne : g ≠ rb) (h : Dr w rb p) (hp : p ≤ 1000000) :
    Calls Try.prog 91 #[.pointer (some ⟨rb, 0, none⟩), .slice (some ⟨g, 0, none⟩) L.length L.length] w (OfPost w rb p L) := by
  have hpick := pick_any w rb p L.length h hp (by omega) h1
  have hcell : ∀ k, k < L.length → w.cell? ⟨g, k, none⟩ = some (str (L.getD k [])) := fun k hk => by
    rw [cell_of_heap hL]
    simp [List.getD_eq_getElem?_getD, List.getElem?_eq_getElem hk]
  obtain ⟨N, hN⟩ : ∃ N, N = L.length := ⟨_, rfl⟩
  rw [← hN] at hpick h0 h1 hcell ⊢
  have HN := Lib.hid hN
  clear hN hL h
  go_enter Try.func91, Try.ntmps91
  go_wp2_with fail
  refine hpick.mono ?_
  rintro e w1 ⟨k, hk, rfl, hg1, hd1⟩
  have hc := grown_cell (hcell k hk) hne hg1
  have hk' : (k : Int) < (N : Int) := by omega
  have HD := Lib.hid hd1
  clear hd1 hpick hcell
  go_wp2_with fail
  go_ret
  refine ⟨L.getD k [], ?_, rfl, hg1, HD.out⟩
  have := HN.out
  rw [List.getD_eq_getElem?_getD, List.getElem?_eq_getElem (by omega)]
  exact List.getElem_mem _

/-- Some text of at most b bytes, behind at most c draws. -/
def StrPost (w : World) (rb p b c : Nat) (e : Ending) (w' : World) : Prop :=
  ∃ (s : ByteArray) (q : Nat), e = .returned (.string s) ∧ s.size ≤ b ∧ q ≤ p + c ∧ w.grownBy w' (some rb) ∧ Dr w' rb q

theorem cat2 (a b : ByteArray) (h : a.size + b.size ≤ 1000000000000) : ∃ c : ByteArray, c.size = a.size + b.size ∧ ∀ W, (Op.stringOp .add a b).run Try.prog W = .ok (.string c) W :=
  ⟨a ++ b, by simp, fun W => run_string_add_sum W a b (by omega)⟩

theorem ssize (l : List UInt8) : (⟨l.toArray⟩ : ByteArray).size = l.length := by show l.toArray.size = _; simp

def termL : List (List UInt8) := [[107], [115], [107], [120], [121], [115], [122, 49], [40, 40, 115, 32, 107, 41, 32, 107, 41]]

theorem grown_new {w w' : World} {o : Obj} {rb : Nat} (hg : (w.alloc o).grownBy w' (some rb)) (_h : rb < w.heap.size) : w.grownBy w' (some rb) := by
  have hb := below_new w o
  refine ⟨hg.os.trans hb.os, hg.tape.trans hb.tape, hg.output.trans hb.output, Nat.le_trans hb.size hg.size, fun k hk hne => ?_⟩
  rw [hg.block k (Nat.lt_of_lt_of_le hk hb.size) hne]
  exact hb.block k hk

/-- The first way of l91Term: one of the list. -/
theorem term_leaf (w : World) (rb p : Nat) (d : Int) (h : Dr w rb p) (hp : p ≤ 1000000) (hd : d ≤ 0) :
    Calls Try.prog 92 #[.pointer (some ⟨rb, 0, none⟩), .int .i64 d] w (StrPost w rb p 12 3) := by
  have hlt := h.lt
  have hof := of_any (w.alloc (.cells (termL.map str).toArray 9)) rb p w.heap.size (0, 0) termL (heap_top w _) (by decide) (by decide) (by omega) (h.after (below_new w _)) hp
  have hlen : ∀ s ∈ termL, s.length ≤ 12 := by decide
  have HL := Lib.hid hlen
  clear h hlen
  go_enter Try.func92, Try.ntmps92
  go_wp2_with fail
  refine hof.mono ?_
  rintro e w1 ⟨s, hs, rfl, hg1, hd1⟩
  have HD := Lib.hid hd1
  have HS := Lib.hid hs
  clear hd1 hof hs
  go_wp2_with fail
  go_ret
  exact ⟨⟨s.toArray⟩, p + 1, rfl, by rw [ssize]; exact HL.out s HS.out, by omega, grown_new hg1 hlt, HD.out⟩

theorem pow_pos4 (n : Nat) : 1 ≤ 4 ^ n := by have := Nat.pow_le_pow_right (n := 4) (by decide) (Nat.zero_le n); simpa using this

theorem term_any : ∀ (n : Nat) (w : World) (rb p : Nat) (d : Int), Dr w rb p → p + 3 * 4 ^ n ≤ 1000000 → d ≤ n → -100 ≤ d → n ≤ 10 →
    Calls Try.prog 92 #[.pointer (some ⟨rb, 0, none⟩), .int .i64 d] w (StrPost w rb p (12 * 4 ^ n) (3 * 4 ^ n)) := by
  intro n
  induction n with
  | zero =>
    intro w rb p d h hp hd _ _
    exact term_leaf w rb p d h (by omega) (by omega)
  | succ n ih =>
    intro w rb p d h hp hd hd2 hn
    have hpw := pow_pos4 n
    have hpn : 4 ^ n ≤ 1048576 := Nat.pow_le_pow_right (by decide) (show n ≤ 10 by omega)
    rw [Nat.pow_succ] at hp ⊢
    by_cases hd0 : d ≤ 0
    · refine (term_leaf w rb p d h (by omega) hd0).mono ?_
      rintro e w' ⟨s, q, rfl, hs, hq, hg, hd⟩
      exact ⟨s, q, rfl, by omega, by omega, hg, hd⟩
    · have hp1 := pick_any w rb p 5 h (by omega) (by decide) (by decide)
      generalize 4 ^ n = P at *
      have HIH := Lib.hid ih
      clear ih h
      go_enter Try.func92, Try.ntmps92
      go_wp2_with fail
      refine hp1.mono ?_
      rintro e w1 ⟨k, hk, rfl, hg1, hd1⟩
      have hlt := hd1.lt
      by_cases hk0 : k = 0
      · subst hk0
        have hof := of_any (w1.alloc (.cells (termL.map str).toArray 9)) rb (p + 1) w1.heap.size (0, 0) termL (heap_top w1 _) (by decide) (by decide) (by omega) (hd1.after (below_new w1 _)) (by omega)
        have hlen : ∀ s ∈ termL, s.length ≤ 12 := by decide
        have HL := Lib.hid hlen
        clear hlen hd1 hp1
        go_wp2_with fail
        refine hof.mono ?_
        rintro e w2 ⟨s, hs, rfl, hg2, hd2⟩
        have HD := Lib.hid hd2
        have HS := Lib.hid hs
        clear hd2 hof hs
        go_wp2_with fail
        go_ret
        exact ⟨⟨s.toArray⟩, p + 1 + 1, rfl, by rw [ssize]; have := HL.out s HS.out; omega, by omega, grown_trans hg1 (grown_new hg2 hlt), HD.out⟩
      · have hk1 : ((k : Int) == 0) = false := by rw [beq_eq_false_iff_ne]; omega
        have hp2 := pick_any w1 rb (p + 1) 5 hd1 (by omega) (by decide) (by decide)
        clear hd1 hp1
        go_wp2_with fail
        refine hp2.mono ?_
        rintro e w2 ⟨j, hj, rfl, hg2, hd2'⟩
        have HD2 := Lib.hid hd2'
        clear hd2' hp2
        by_cases hj0 : j = 0
        · subst hj0
          go_wp2_with fail
          refine (HIH.out w2 rb (p + 1 + 1) (d - 1) HD2.out (by omega) (by omega) (by omega) (by omega)).mono ?_
          rintro e w3 ⟨s1, q1, rfl, hz1, hq1, hg3, hd3⟩
          obtain ⟨t1, z1, e1⟩ := cat2 ⟨#[40, 40, 107, 32]⟩ s1 (by have : (⟨#[40, 40, 107, 32]⟩ : ByteArray).size = 4 := rfl; omega)
          obtain ⟨t2, z2, e2⟩ := cat2 t1 ⟨#[41, 32]⟩ (by have : (⟨#[40, 40, 107, 32]⟩ : ByteArray).size = 4 := rfl; have : (⟨#[41, 32]⟩ : ByteArray).size = 2 := rfl; omega)
          have HD3 := Lib.hid hd3
          have Z1 := Lib.hid z1
          have Z2 := Lib.hid z2
          clear hd3 z1 z2
          go_wp2_with fail
          refine (HIH.out w3 rb q1 (d - 1) HD3.out (by omega) (by omega) (by omega) (by omega)).mono ?_
          rintro e w4 ⟨s2, q2, rfl, hz2, hq2, hg4, hd4⟩
          have l1 : (⟨#[40, 40, 107, 32]⟩ : ByteArray).size = 4 := rfl
          have l2 : (⟨#[41, 32]⟩ : ByteArray).size = 2 := rfl
          have l3 : (⟨#[41]⟩ : ByteArray).size = 1 := rfl
          have y1 := Z1.out
          have y2 := Z2.out
          obtain ⟨t3, z3, e3⟩ := cat2 t2 s2 (by omega)
          obtain ⟨t4, z4, e4⟩ := cat2 t3 ⟨#[41]⟩ (by omega)
          have hfin : t4.size ≤ 12 * (P * 4) := by omega
          have HD4 := Lib.hid hd4
          clear hd4 l1 l2 l3 y1 y2 z3 z4
          go_wp2_with fail
          go_ret
          exact ⟨t4, q2, rfl, hfin, by omega, grown_trans (grown_trans hg1 hg2) (grown_trans hg3 hg4), HD4.out⟩
        · have hj1 : ((j : Int) == 0) = false := by rw [beq_eq_false_iff_ne]; omega
          by_cases hj2 : j = 1
          · subst hj2
            go_wp2_with fail
            refine (HIH.out w2 rb (p + 1 + 1) (d - 1) HD2.out (by omega) (by omega) (by omega) (by omega)).mono ?_
            rintro e w3 ⟨s1, q1, rfl, hz1, hq1, hg3, hd3⟩
            obtain ⟨t1, z1, e1⟩ := cat2 ⟨#[40, 40, 40, 115, 32]⟩ s1 (by have : (⟨#[40, 40, 40, 115, 32]⟩ : ByteArray).size = 5 := rfl; omega)
            obtain ⟨t2, z2, e2⟩ := cat2 t1 ⟨#[41, 32]⟩ (by have : (⟨#[40, 40, 40, 115, 32]⟩ : ByteArray).size = 5 := rfl; have : (⟨#[41, 32]⟩ : ByteArray).size = 2 := rfl; omega)
            have HD3 := Lib.hid hd3
            have Z1 := Lib.hid z1
            have Z2 := Lib.hid z2
            clear hd3 z1 z2
            go_wp2_with fail
            refine (HIH.out w3 rb q1 (d - 1) HD3.out (by omega) (by omega) (by omega) (by omega)).mono ?_
            rintro e w4 ⟨s2, q2, rfl, hz2, hq2, hg4, hd4⟩
            have l1 : (⟨#[40, 40, 40, 115, 32]⟩ : ByteArray).size = 5 := rfl
            have l2 : (⟨#[41, 32]⟩ : ByteArray).size = 2 := rfl
            have l3 : (⟨#[41]⟩ : ByteArray).size = 1 := rfl
            have y1 := Z1.out
            have y2 := Z2.out
            obtain ⟨t3, z3, e3⟩ := cat2 t2 s2 (by omega)
            obtain ⟨t4, z4, e4⟩ := cat2 t3 ⟨#[41, 32]⟩ (by omega)
            have hmid : t4.size ≤ 24 * P + 9 := by omega
            have HM := Lib.hid hmid
            have HD4 := Lib.hid hd4
            clear hd4 l1 l2 l3 y1 y2 z3 z4 hmid
            go_wp2_with fail
            refine (HIH.out w4 rb q2 (d - 2) HD4.out (by omega) (by omega) (by omega) (by omega)).mono ?_
            rintro e w5 ⟨s3, q3, rfl, hz3, hq3, hg5, hd5⟩
            have l3 : (⟨#[41]⟩ : ByteArray).size = 1 := rfl
            have y1 := HM.out
            obtain ⟨t5, z5, e5⟩ := cat2 t4 s3 (by omega)
            obtain ⟨t6, z6, e6⟩ := cat2 t5 ⟨#[41]⟩ (by omega)
            have hfin : t6.size ≤ 12 * (P * 4) := by omega
            have HD5 := Lib.hid hd5
            clear hd5 l3 y1 z5 z6
            go_wp2_with fail
            go_ret
            exact ⟨t6, q3, rfl, hfin, by omega, grown_trans (grown_trans (grown_trans hg1 hg2) (grown_trans hg3 hg4)) hg5, HD5.out⟩
          · have hj3 : ((j : Int) == 1) = false := by rw [beq_eq_false_iff_ne]; omega
            go_wp2_with fail
            refine (HIH.out w2 rb (p + 1 + 1) (d - 1) HD2.out (by omega) (by omega) (by omega) (by omega)).mono ?_
            rintro e w3 ⟨s1, q1, rfl, hz1, hq1, hg3, hd3⟩
            obtain ⟨t1, z1, e1⟩ := cat2 ⟨#[40]⟩ s1 (by have : (⟨#[40]⟩ : ByteArray).size = 1 := rfl; omega)
            obtain ⟨t2, z2, e2⟩ := cat2 t1 ⟨#[32]⟩ (by have : (⟨#[40]⟩ : ByteArray).size = 1 := rfl; have : (⟨#[32]⟩ : ByteArray).size = 1 := rfl; omega)
            have HD3 := Lib.hid hd3
            have Z1 := Lib.hid z1
            have Z2 := Lib.hid z2
            clear hd3 z1 z2
            go_wp2_with fail
            refine (HIH.out w3 rb q1 (d - 1) HD3.out (by omega) (by omega) (by omega) (by omega)).mono ?_
            rintro e w4 ⟨s2, q2, rfl, hz2, hq2, hg4, hd4⟩
            have l1 : (⟨#[40]⟩ : ByteArray).size = 1 := rfl
            have l2 : (⟨#[32]⟩ : ByteArray).size = 1 := rfl
            have l3 : (⟨#[41]⟩ : ByteArray).size = 1 := rfl
            have y1 := Z1.out
            have y2 := Z2.out
            obtain ⟨t3, z3, e3⟩ := cat2 t2 s2 (by omega)
            obtain ⟨t4, z4, e4⟩ := cat2 t3 ⟨#[41]⟩ (by omega)
            have hfin : t4.size ≤ 12 * (P * 4) := by omega
            have HD4 := Lib.hid hd4
            clear hd4 l1 l2 l3 y1 y2 z3 z4
            go_wp2_with fail
            go_ret
            exact ⟨t4, q2, rfl, hfin, by omega, grown_trans (grown_trans hg1 hg2) (grown_trans hg3 hg4), HD4.out⟩
end Go.Proofs.Ytfpekihdoclncaa

namespace Go.Proofs.Ytfpekihdoclncaa
open Go.RowKit

set_option maxHeartbeats 1000000
set_option maxRecDepth 100000

def closedL : List (List UInt8) := [[107], [115], [107], [40, 40, 115, 32, 107, 41, 32, 107, 41], [40, 107, 32, 40, 40, 115, 32, 107, 41, 32, 107, 41, 41]]

theorem closed_leaf (w : World) (rb p : Nat) (d : Int) (h : Dr w rb p) (hp : p ≤ 1000000) (hd : d ≤ 0) :
    Calls Try.prog 72 #[.pointer (some ⟨rb, 0, none⟩), .int .i64 d] w (StrPost w rb p 13 3) := by
  have hlt := h.lt
  have hof := of_any (w.alloc (.cells (closedL.map str).toArray 9)) rb p w.heap.size (0, 0) closedL (heap_top w _) (by decide) (by decide) (by omega) (h.after (below_new w _)) hp
  have hlen : ∀ s ∈ closedL, s.length ≤ 13 := by decide
  have HL := Lib.hid hlen
  clear h hlen
  go_enter Try.func72, Try.ntmps72
  go_wp2_with fail
  refine hof.mono ?_
  rintro e w1 ⟨s, hs, rfl, hg1, hd1⟩
  have HD := Lib.hid hd1
  have HS := Lib.hid hs
  clear hd1 hof hs
  go_wp2_with fail
  go_ret
  exact ⟨⟨s.toArray⟩, p + 1, rfl, by rw [ssize]; exact HL.out s HS.out, by omega, grown_new hg1 hlt, HD.out⟩

theorem closed_any : ∀ (n : Nat) (w : World) (rb p : Nat) (d : Int), Dr w rb p → p + 3 * 4 ^ n ≤ 1000000 → d ≤ n → -100 ≤ d → n ≤ 10 →
    Calls Try.prog 72 #[.pointer (some ⟨rb, 0, none⟩), .int .i64 d] w (StrPost w rb p (13 * 4 ^ n) (3 * 4 ^ n)) := by
  intro n
  induction n with
  | zero =>
    intro w rb p d h hp hd _ _
    exact closed_leaf w rb p d h (by omega) (by omega)
  | succ n ih =>
    intro w rb p d h hp hd hd2 hn
    have hpw := pow_pos4 n
    have hpn : 4 ^ n ≤ 1048576 := Nat.pow_le_pow_right (by decide) (show n ≤ 10 by omega)
    rw [Nat.pow_succ] at hp ⊢
    by_cases hd0 : d ≤ 0
    · refine (closed_leaf w rb p d h (by omega) hd0).mono ?_
      rintro e w' ⟨s, q, rfl, hs, hq, hg, hd⟩
      exact ⟨s, q, rfl, by omega, by omega, hg, hd⟩
    · have hp1 := pick_any w rb p 5 h (by omega) (by decide) (by decide)
      generalize 4 ^ n = P at *
      have HIH := Lib.hid ih
      clear ih h
      go_enter Try.func72, Try.ntmps72
      go_wp2_with fail
      refine hp1.mono ?_
      rintro e w1 ⟨k, hk, rfl, hg1, hd1⟩
      have hlt := hd1.lt
      by_cases hk0 : k = 0
      · subst hk0
        have hof := of_any (w1.alloc (.cells (closedL.map str).toArray 9)) rb (p + 1) w1.heap.size (0, 0) closedL (heap_top w1 _) (by decide) (by decide) (by omega) (hd1.after (below_new w1 _)) (by omega)
        have hlen : ∀ s ∈ closedL, s.length ≤ 13 := by decide
        have HL := Lib.hid hlen
        clear hlen hd1 hp1
        go_wp2_with fail
        refine hof.mono ?_
        rintro e w2 ⟨s, hs, rfl, hg2, hd2⟩
        have HD := Lib.hid hd2
        have HS := Lib.hid hs
        clear hd2 hof hs
        go_wp2_with fail
        go_ret
        exact ⟨⟨s.toArray⟩, p + 1 + 1, rfl, by rw [ssize]; have := HL.out s HS.out; omega, by omega, grown_trans hg1 (grown_new hg2 hlt), HD.out⟩
      · have hk1 : ((k : Int) == 0) = false := by rw [beq_eq_false_iff_ne]; omega
        have hp2 := pick_any w1 rb (p + 1) 4 hd1 (by omega) (by decide) (by decide)
        clear hd1 hp1
        go_wp2_with fail
        refine hp2.mono ?_
        rintro e w2 ⟨j, hj, rfl, hg2, hd2'⟩
        have HD2 := Lib.hid hd2'
        clear hd2' hp2
        by_cases hj0 : j = 0
        · subst hj0
          go_wp2_with fail
          refine (HIH.out w2 rb (p + 1 + 1) (d - 1) HD2.out (by omega) (by omega) (by omega) (by omega)).mono ?_
          rintro e w3 ⟨s1, q1, rfl, hz1, hq1, hg3, hd3⟩
          obtain ⟨t1, z1, e1⟩ := cat2 ⟨#[40, 40, 107, 32]⟩ s1 (by have : (⟨#[40, 40, 107, 32]⟩ : ByteArray).size = 4 := rfl; omega)
          obtain ⟨t2, z2, e2⟩ := cat2 t1 ⟨#[41, 32]⟩ (by have : (⟨#[40, 40, 107, 32]⟩ : ByteArray).size = 4 := rfl; have : (⟨#[41, 32]⟩ : ByteArray).size = 2 := rfl; omega)
          have HD3 := Lib.hid hd3
          have Z1 := Lib.hid z1
          have Z2 := Lib.hid z2
          clear hd3 z1 z2
          go_wp2_with fail
          refine (HIH.out w3 rb q1 (d - 1) HD3.out (by omega) (by omega) (by omega) (by omega)).mono ?_
          rintro e w4 ⟨s2, q2, rfl, hz2, hq2, hg4, hd4⟩
          have l1 : (⟨#[40, 40, 107, 32]⟩ : ByteArray).size = 4 := rfl
          have l2 : (⟨#[41, 32]⟩ : ByteArray).size = 2 := rfl
          have l3 : (⟨#[41]⟩ : ByteArray).size = 1 := rfl
          have y1 := Z1.out
          have y2 := Z2.out
          obtain ⟨t3, z3, e3⟩ := cat2 t2 s2 (by omega)
          obtain ⟨t4, z4, e4⟩ := cat2 t3 ⟨#[41]⟩ (by omega)
          have hfin : t4.size ≤ 13 * (P * 4) := by omega
          have HD4 := Lib.hid hd4
          clear hd4 l1 l2 l3 y1 y2 z3 z4
          go_wp2_with fail
          go_ret
          exact ⟨t4, q2, rfl, hfin, by omega, grown_trans (grown_trans hg1 hg2) (grown_trans hg3 hg4), HD4.out⟩
        · have hj1 : ((j : Int) == 0) = false := by rw [beq_eq_false_iff_ne]; omega
          go_wp2_with fail
          refine (HIH.out w2 rb (p + 1 + 1) (d - 1) HD2.out (by omega) (by omega) (by omega) (by omega)).mono ?_
          rintro e w3 ⟨s1, q1, rfl, hz1, hq1, hg3, hd3⟩
          obtain ⟨t1, z1, e1⟩ := cat2 ⟨#[40]⟩ s1 (by have : (⟨#[40]⟩ : ByteArray).size = 1 := rfl; omega)
          obtain ⟨t2, z2, e2⟩ := cat2 t1 ⟨#[32]⟩ (by have : (⟨#[40]⟩ : ByteArray).size = 1 := rfl; have : (⟨#[32]⟩ : ByteArray).size = 1 := rfl; omega)
          have HD3 := Lib.hid hd3
          have Z1 := Lib.hid z1
          have Z2 := Lib.hid z2
          clear hd3 z1 z2
          go_wp2_with fail
          refine (HIH.out w3 rb q1 (d - 1) HD3.out (by omega) (by omega) (by omega) (by omega)).mono ?_
          rintro e w4 ⟨s2, q2, rfl, hz2, hq2, hg4, hd4⟩
          have l1 : (⟨#[40]⟩ : ByteArray).size = 1 := rfl
          have l2 : (⟨#[32]⟩ : ByteArray).size = 1 := rfl
          have l3 : (⟨#[41]⟩ : ByteArray).size = 1 := rfl
          have y1 := Z1.out
          have y2 := Z2.out
          obtain ⟨t3, z3, e3⟩ := cat2 t2 s2 (by omega)
          obtain ⟨t4, z4, e4⟩ := cat2 t3 ⟨#[41]⟩ (by omega)
          have hfin : t4.size ≤ 13 * (P * 4) := by omega
          have HD4 := Lib.hid hd4
          clear hd4 l1 l2 l3 y1 y2 z3 z4
          go_wp2_with fail
          go_ret
          exact ⟨t4, q2, rfl, hfin, by omega, grown_trans (grown_trans hg1 hg2) (grown_trans hg3 hg4), HD4.out⟩

def oddL : List (List UInt8) := [[], [97], [40, 107, 41], [40, 107, 32, 115, 32, 107, 41], [107, 32], [40, 107, 32, 32, 115, 41], [120, 48, 48, 48, 48], [40, 40, 115, 32, 107, 41, 107, 41]]
def bigL : List (List UInt8) := [[40, 40, 40, 40, 115, 32, 40, 40, 115, 32, 107, 41, 32, 107, 41, 41, 32, 40, 40, 115, 32, 107, 41, 32, 107, 41, 41, 41, 32, 40, 40, 40, 115, 32, 40, 40, 115, 32, 107, 41, 32, 107, 41, 41, 32, 40, 40, 115, 32, 107, 41, 32, 107, 41, 41, 41, 41], [40, 40, 40, 115, 32, 40, 40, 115, 32, 107, 41, 32, 107, 41, 41, 32, 40, 40, 115, 32, 107, 41, 32, 107, 41, 41, 32, 40, 40, 115, 32, 40, 40, 115, 32, 107, 41, 32, 107, 41, 41, 32, 40, 40, 115, 32, 107, 41, 32, 107, 41, 41, 41], [40, 40, 40, 115, 32, 115, 41, 32, 107, 41, 32, 120, 41]]

theorem odd_any (w : World) (rb p : Nat) (h : Dr w rb p) (hp : p ≤ 900000) :
    Calls Try.prog 71 #[.pointer (some ⟨rb, 0, none⟩)] w (StrPost w rb p 1000 200) := by
  have hp1 := pick_any w rb p 16 h (by omega) (by decide) (by decide)
  clear h
  go_enter Try.func71, Try.ntmps71
  go_wp2_with fail
  refine hp1.mono ?_
  rintro e w1 ⟨k, hk, rfl, hg1, hd1⟩
  have hlt := hd1.lt
  have HD1 := Lib.hid hd1
  clear hd1 hp1
  by_cases hk0 : k = 0
  · subst hk0
    have hof := of_any (w1.alloc (.cells (oddL.map str).toArray 9)) rb (p + 1) w1.heap.size (0, 0) oddL (heap_top w1 _) (by decide) (by decide) (by omega) (HD1.out.after (below_new w1 _)) (by omega)
    have HL := Lib.hid (show ∀ s ∈ oddL, s.length ≤ 1000 by decide)
    go_wp2_with fail
    refine hof.mono ?_
    rintro e w2 ⟨s, hs, rfl, hg2, hd2⟩
    have HD := Lib.hid hd2
    have HS := Lib.hid hs
    clear hd2 hof hs
    go_wp2_with fail
    go_ret
    exact ⟨⟨s.toArray⟩, p + 1 + 1, rfl, by rw [ssize]; exact HL.out s HS.out, by omega, grown_trans hg1 (grown_new hg2 hlt), HD.out⟩
  · have hk1 : ((k : Int) == 0) = false := by rw [beq_eq_false_iff_ne]; omega
    by_cases hk2 : k = 1
    · subst hk2
      have hof := of_any (w1.alloc (.cells (bigL.map str).toArray 9)) rb (p + 1) w1.heap.size (0, 0) bigL (heap_top w1 _) (by decide) (by decide) (by omega) (HD1.out.after (below_new w1 _)) (by omega)
      have HL := Lib.hid (show ∀ s ∈ bigL, s.length ≤ 1000 by decide)
      go_wp2_with fail
      refine hof.mono ?_
      rintro e w2 ⟨s, hs, rfl, hg2, hd2⟩
      have HD := Lib.hid hd2
      have HS := Lib.hid hs
      clear hd2 hof hs
      go_wp2_with fail
      go_ret
      exact ⟨⟨s.toArray⟩, p + 1 + 1, rfl, by rw [ssize]; exact HL.out s HS.out, by omega, grown_trans hg1 (grown_new hg2 hlt), HD.out⟩
    · have hk3 : ((k : Int) == 1) = false := by rw [beq_eq_false_iff_ne]; omega
      have ht := term_any 3 w1 rb (p + 1) 3 HD1.out (by omega) (by omega) (by omega) (by omega)
      go_wp2_with fail
      refine ht.mono ?_
      rintro e w2 ⟨s, q, rfl, hs, hq, hg2, hd2⟩
      have HD := Lib.hid hd2
      clear hd2 ht
      go_wp2_with fail
      go_ret
      exact ⟨s, q, rfl, by omega, by omega, grown_trans hg1 hg2, HD.out⟩

/-- A code as it comes in. -/
def CodeArg (w : World) (v : Value) (n : Nat) : Prop :=
  (∃ a0 cap, v = .slice a0 0 cap ∧ n = 0) ∨ ∃ b o cap, 0 < n ∧ n ≤ cap ∧ cap ≤ 9223372036854775807 ∧ v = .slice (some ⟨b, o, none⟩) n cap ∧
    ∃ z : Nat → Nat, ∀ i, i < n → w.cell? ⟨b, o + i, none⟩ = some (.int .u8 (z i)) ∧ z i ≤ 255

def OpenPost (w : World) (e : Ending) (w' : World) : Prop := ∃ rb, e = .returned (.pointer (some ⟨rb, 0, none⟩)) ∧ w.heap.size ≤ rb ∧ After w w' ∧ Dr w' rb 0

theorem open_any (w : World) (v : Value) (n : Nat) (h : CodeArg w v n) :
    Calls Try.prog 45 #[v] w (OpenPost w) := by
  rcases h with ⟨a0, cap, rfl, rfl⟩ | ⟨b, o, cap, hn0, hnc, hcm, rfl, z, hz⟩
  · go_enter Try.func45, Try.ntmps45
    go_wp2_with fail
    go_ret
    exact ⟨_, rfl, Nat.le_refl _, After.new _ _, _, heap_top _ _, Or.inl ⟨_, _, rfl⟩⟩
  · have hb : b < w.heap.size := World.block_lt_of_cell? _ _ (hz 0 hn0).1
    by_cases hbig : 2000 < n
    · have hbig' : (2000 : Int) < (n : Int) := by omega
      have hc : (2000 : Int) ≤ (cap : Int) := by omega
      have HZ := Lib.hid hz
      clear hz
      go_enter Try.func45, Try.ntmps45
      go_wp2_with fail
      go_ret
      exact ⟨_, rfl, Nat.le_refl _, After.new _ _, _, heap_top _ _, Or.inr ⟨b, o, 2000, cap, by omega, by omega, rfl, by omega, z, fun i hi => ⟨cell_later' (HZ.out i (by omega)).1 _ (below_new w _), (HZ.out i (by omega)).2⟩⟩⟩
    · have hbig' : ¬ (2000 : Int) < (n : Int) := by omega
      have HZ := Lib.hid hz
      clear hz
      go_enter Try.func45, Try.ntmps45
      go_wp2_with fail
      go_ret
      exact ⟨_, rfl, Nat.le_refl _, After.new _ _, _, heap_top _ _, Or.inr ⟨b, o, n, cap, hn0, by omega, rfl, by omega, z, fun i hi => ⟨cell_later' (HZ.out i hi).1 _ (below_new w _), (HZ.out i hi).2⟩⟩⟩

/-- Some text. -/
def DrawPost (w : World) (e : Ending) (w' : World) : Prop := ∃ s : ByteArray, e = .returned (.string s) ∧ s.size ≤ 100000 ∧ After w w'

theorem after_open {w W w' : World} {rb : Nat} (h : After w W) (g : W.grownBy w' (some rb)) (hr : w.heap.size ≤ rb) : After w w' :=
  ⟨g.os.trans h.os, g.tape.trans h.tape, g.output.trans h.output, Nat.le_trans h.size g.size, fun k hk => by
    rw [g.block k (Nat.lt_of_lt_of_le hk h.size) (fun e => by injection e with e; omega)]; exact h.block k hk⟩

def wordL : List (List UInt8) := [[105], [116, 114, 117, 101], [102, 97, 108, 115, 101], [112, 97, 105, 114], [102, 105, 114, 115, 116], [115, 101, 99, 111, 110, 100], [122, 101, 114, 111], [115, 117, 99, 99], [112, 114, 101, 100], [102, 105, 120], [], [80, 97, 105, 114]]

end Go.Proofs.Ytfpekihdoclncaa

namespace Go.Proofs.Ytfpekihdoclncaa
open Go.RowKit

set_option maxHeartbeats 1000000
set_option maxRecDepth 100000

theorem small_any (w : World) (rb p : Nat) (h : Dr w rb p) (hp : p ≤ 890000) :
    Calls Try.prog 46 #[.pointer (some ⟨rb, 0, none⟩)] w (StrPost w rb p 1000 201) := by
  have hpk := pick_any w rb p 8 h (by omega) (by decide) (by decide)
  clear h
  go_enter Try.func46, Try.ntmps46
  go_wp2_with fail
  refine hpk.mono ?_
  rintro e w1 ⟨k, hk, rfl, hg1, hd1⟩
  have HD := Lib.hid hd1
  clear hpk hd1
  by_cases hk0 : k = 0
  · subst hk0
    have hodd := odd_any w1 rb (p + 1) HD.out (by omega)
    go_wp2_with fail
    refine hodd.mono ?_
    rintro e w2 ⟨s, q, rfl, hs, hq, hg, hd⟩
    have HD2 := Lib.hid hd
    clear hodd hd
    go_wp2_with fail
    go_ret
    exact ⟨s, q, rfl, hs, by omega, grown_trans hg1 hg, HD2.out⟩
  · have hk1 : ¬ (k : Int) = 0 := by omega
    have hk2 : ((k : Int) == 0) = false := beq_eq_false_iff_ne.2 hk1
    have hp3 := pick_any w1 rb (p + 1) 3 HD.out (by omega) (by decide) (by decide)
    go_wp2_with fail
    refine hp3.mono ?_
    rintro e w2 ⟨d, hd3, rfl, hg2, hd2⟩
    have hc := closed_any 2 w2 rb (p + 1 + 1) (d : Nat) hd2 (by omega) (by omega) (by omega) (by omega)
    clear hp3 hd2
    go_wp2_with fail
    refine hc.mono ?_
    rintro e w3 ⟨s, q, rfl, hs, hq, hg, hd⟩
    have HD3 := Lib.hid hd
    clear hc hd
    go_wp2_with fail
    go_ret
    exact ⟨s, q, rfl, by omega, by omega, grown_trans (grown_trans hg1 hg2) hg, HD3.out⟩

end Go.Proofs.Ytfpekihdoclncaa
