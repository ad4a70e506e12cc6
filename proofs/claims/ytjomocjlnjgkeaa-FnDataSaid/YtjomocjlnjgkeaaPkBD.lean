/-
  The drawing of inputs: closed terms, odd texts, the opening of a code, the functions that draw.
-/
import Derived.Test.YtjomocjlnjgkeaaPkBC
import Derived.Test.YtjomocjlnjgkeaaPkAS
import Derived.Test.YtjomocjlnjgkeaaPkAP
namespace Go.Proofs.Ytjomocjlnjgkeaa
open Go.RowKit

set_option maxHeartbeats 1000000
set_option maxRecDepth 100000

def closedL : List (List UInt8) := [[107], [115], [107], [40, 40, 115, 32, 107, 41, 32, 107, 41], [40, 107, 32, 40, 40, 115, 32, 107, 41, 32, 107, 41, 41]]

theorem closed_leaf (w : World) (rb p : Nat) (d : Int) (h : Dr w rb p) (hp : p ≤ 1000000) (hd : d ≤ 0) :
    Calls Try.prog 38 #[.pointer (some ⟨rb, 0, none⟩), .int .i64 d] w (StrPost w rb p 13 3) := by
  have hlt := h.lt
  have hof := of_any (w.alloc (.cells (closedL.map str).toArray 9)) rb p w.heap.size (0, 0) closedL (heap_top w _) (by decide) (by decide) (by omega) (h.after (below_new w _)) hp
  have hlen : ∀ s ∈ closedL, s.length ≤ 13 := by decide
  have HL := Lib.hid hlen
  clear h hlen
  go_enter Try.func38, Try.ntmps38
  go_wp2_with fail
  refine hof.mono ?_
  rintro e w1 ⟨s, hs, rfl, hg1, hd1⟩
  have HD := Lib.hid hd1
  have HS := Lib.hid hs
  clear hd1 hof hs
  go_wp2_with fail
  go_ret
  exact ⟨⟨s.toArray⟩, p + 1, rfl, by rw [ssize]; exact HL.out s HS.out, by omega, grown_new hg1 hlt, HD.out⟩

theorem closed_any : ∀ (n : Nat) (w : World) (rb p : Nat) (d : Int), Dr w rb p → p + 3 * 4 ^ n ≤ 1000000 → d ≤ n → -100 ≤ d → n ≤ 10 →
    Calls Try.prog 38 #[.pointer (some ⟨rb, 0, none⟩), .int .i64 d] w (StrPost w rb p (13 * 4 ^ n) (3 * 4 ^ n)) := by
  intro n
  induction n with
  | zero =>
    intro w rb p d h hp hd _ _
    exact closed_leaf w rb p d h (by omega) (by omega)
  | succ n ih =>
    intro w rb p d h hp hd hd2 hn
    have hpw := pow_pos4 n
    have hpn : 4 ^ n ≤ 1048576 := Nat.pow_le_pow_right (by decide) (show n ≤ 10 by omega)
    rw [Nat.pow_succ] at hp ⊢
    by_cases hd0 : d ≤ 0
    · refine (closed_leaf w rb p d h (by omega) hd0).mono ?_
      rintro e w' ⟨s, q, rfl, hs, hq, hg, hd⟩
      exact ⟨s, q, rfl, by omega, by omega, hg, hd⟩
    · have hp1 := pick_any w rb p 5 h (by omega) (by decide) (by decide)
      generalize 4 ^ n = P at *
      have HIH := Lib.hid ih
      clear ih h
      go_enter Try.func38, Try.ntmps38
      go_wp2_with fail
      refine hp1.mono ?_
      rintro e w1 ⟨k, hk, rfl, hg1, hd1⟩
      have hlt := hd1.lt
      by_cases hk0 : k = 0
      · subst hk0
        have hof := of_any (w1.alloc (.cells (closedL.map str).toArray 9)) rb (p + 1) w1.heap.size (0, 0) closedL (heap_top w1 _) (by decide) (by decide) (by omega) (hd1.after (below_new w1 _)) (by omega)
        have hlen : ∀ s ∈ closedL, s.length ≤ 13 := by decide
        have HL := Lib.hid hlen
        clear hlen hd1 hp1
        go_wp2_with fail
        refine hof.mono ?_
        rintro e w2 ⟨s, hs, rfl, hg2, hd2⟩
        have HD := Lib.hid hd2
        have HS := Lib.hid hs
        clear hd2 hof hs
        go_wp2_with fail
        go_ret
        exact ⟨⟨s.toArray⟩, p + 1 + 1, rfl, by rw [ssize]; have := HL.out s HS.out; omega, by omega, grown_trans hg1 (grown_new hg2 hlt), HD.out⟩
      · have hk1 : ((k : Int) == 0) = false := by rw [beq_eq_false_iff_ne]; omega
        have hp2 := pick_any w1 rb (p + 1) 4 hd1 (by omega) (by decide) (by decide)
        clear hd1 hp1
        go_wp2_with fail
        refine hp2.mono ?_
        rintro e w2 ⟨j, hj, rfl, hg2, hd2'⟩
        have HD2 := Lib.hid hd2'
        clear hd2' hp2
        by_cases hj0 : j = 0
        · subst hj0
          go_wp2_with fail
          refine (HIH.out w2 rb (p + 1 + 1) (d - 1) HD2.out (by omega) (by omega) (by omega) (by omega)).mono ?_
          rintro e w3 ⟨s1, q1, rfl, hz1, hq1, hg3, hd3⟩
          obtain ⟨t1, z1, e1⟩ := cat2 ⟨#[40, 40, 107, 32]⟩ s1 (by have : (⟨#[40, 40, 107, 32]⟩ : ByteArray).size = 4 := rfl; omega)
          obtain ⟨t2, z2, e2⟩ := cat2 t1 ⟨#[41, 32]⟩ (by have : (⟨#[40, 40, 107, 32]⟩ : ByteArray).size = 4 := rfl; have : (⟨#[41, 32]⟩ : ByteArray).size = 2 := rfl; omega)
          have HD3 := Lib.hid hd3
          have Z1 := Lib.hid z1
          have Z2 := Lib.hid z2
          clear hd3 z1 z2
          go_wp2_with fail
          refine (HIH.out w3 rb q1 (d - 1) HD3.out (by omega) (by omega) (by omega) (by omega)).mono ?_
          rintro e w4 ⟨s2, q2, rfl, hz2, hq2, hg4, hd4⟩
          have l1 : (⟨#[40, 40, 107, 32]⟩ : ByteArray).size = 4 := rfl
          have l2 : (⟨#[41, 32]⟩ : ByteArray).size = 2 := rfl
          have l3 : (⟨#[41]⟩ : ByteArray).size = 1 := rfl
          have y1 := Z1.out
          have y2 := Z2.out
          obtain ⟨t3, z3, e3⟩ := cat2 t2 s2 (by omega)
          obtain ⟨t4, z4, e4⟩ := cat2 t3 ⟨#[41]⟩ (by omega)
          have hfin : t4.size ≤ 13 * (P * 4) := by omega
          have HD4 := Lib.hid hd4
          clear hd4 l1 l2 l3 y1 y2 z3 z4
          go_wp2_with fail
          go_ret
          exact ⟨t4, q2, rfl, hfin, by omega, grown_trans (grown_trans hg1 hg2) (grown_trans hg3 hg4), HD4.out⟩
        · have hj1 : ((j : Int) == 0) = false := by rw [beq_eq_false_iff_ne]; omega
          go_wp2_with fail
          refine (HIH.out w2 rb (p + 1 + 1) (d - 1) HD2.out (by omega) (by omega) (by omega) (by omega)).mono ?_
          rintro e w3 ⟨s1, q1, rfl, hz1, hq1, hg3, hd3⟩
          obtain ⟨t1, z1, e1⟩ := cat2 ⟨#[40]⟩ s1 (by have : (⟨#[40]⟩ : ByteArray).size = 1 := rfl; omega)
          obtain ⟨t2, z2, e2⟩ := cat2 t1 ⟨#[32]⟩ (by have : (⟨#[40]⟩ : ByteArray).size = 1 := rfl; have : (⟨#[32]⟩ : ByteArray).size = 1 := rfl; omega)
          have HD3 := Lib.hid hd3
          have Z1 := Lib.hid z1
          have Z2 := Lib.hid z2
          clear hd3 z1 z2
          go_wp2_with fail
          refine (HIH.out w3 rb q1 (d - 1) HD3.out (by omega) (by omega) (by omega) (by omega)).mono ?_
          rintro e w4 ⟨s2, q2, rfl, hz2, hq2, hg4, hd4⟩
          have l1 : (⟨#[40]⟩ : ByteArray).size = 1 := rfl
          have l2 : (⟨#[32]⟩ : ByteArray).size = 1 := rfl
          have l3 : (⟨#[41]⟩ : ByteArray).size = 1 := rfl
          have y1 := Z1.out
          have y2 := Z2.out
          obtain ⟨t3, z3, e3⟩ := cat2 t2 s2 (by omega)
          obtain ⟨t4, z4, e4⟩ := cat2 t3 ⟨#[41]⟩ (by omega)
          have hfin : t4.size ≤ 13 * (P * 4) := by omega
          have HD4 := Lib.hid hd4
          clear hd4 l1 l2 l3 y1 y2 z3 z4
          go_wp2_with fail
          go_ret
          exact ⟨t4, q2, rfl, hfin, by omega, grown_trans (grown_trans hg1 hg2) (grown_trans hg3 hg4), HD4.out⟩

def oddL : List (List UInt8) := [[], [97], [40, 107, 41], [40, 107, 32, 115, 32, 107, 41], [107, 32], [40, 107, 32, 32, 115, 41], [120, 48, 48, 48, 48], [40, 40, 115, 32, 107, 41, 107, 41]]
def bigL : List (List UInt8) := [[40, 40, 40, 40, 115, 32, 40, 40, 115, 32, 107, 41, 32, 107, 41, 41, 32, 40, 40, 115, 32, 107, 41, 32, 107, 41, 41, 41, 32, 40, 40, 40, 115, 32, 40, 40, 115, 32, 107, 41, 32, 107, 41, 41, 32, 40, 40, 115, 32, 107, 41, 32, 107, 41, 41, 41, 41], [40, 40, 40, 115, 32, 40, 40, 115, 32, 107, 41, 32, 107, 41, 41, 32, 40, 40, 115, 32, 107, 41, 32, 107, 41, 41, 32, 40, 40, 115, 32, 40, 40, 115, 32, 107, 41, 32, 107, 41, 41, 32, 40, 40, 115, 32, 107, 41, 32, 107, 41, 41, 41], [40, 40, 40, 115, 32, 115, 41, 32, 107, 41, 32, 120, 41]]

theorem odd_any (w : World) (rb p : Nat) (h : Dr w rb p) (hp : p ≤ 900000) :
    Calls Try.prog 39 #[.pointer (some ⟨rb, 0, none⟩)] w (StrPost w rb p 1000 200) := by
  have hp1 := pick_any w rb p 16 h (by omega) (by decide) (by decide)
  clear h
  go_enter Try.func39, Try.ntmps39
  go_wp2_with fail
  refine hp1.mono ?_
  rintro e w1 ⟨k, hk, rfl, hg1, hd1⟩
  have hlt := hd1.lt
  have HD1 := Lib.hid hd1
  clear hd1 hp1
  by_cases hk0 : k = 0
  · subst hk0
    have hof := of_any (w1.alloc (.cells (oddL.map str).toArray 9)) rb (p + 1) w1.heap.size (0, 0) oddL (heap_top w1 _) (by decide) (by decide) (by omega) (HD1.out.after (below_new w1 _)) (by omega)
    have HL := Lib.hid (show ∀ s ∈ oddL, s.length ≤ 1000 by decide)
    go_wp2_with fail
    refine hof.mono ?_
    rintro e w2 ⟨s, hs, rfl, hg2, hd2⟩
    have HD := Lib.hid hd2
    have HS := Lib.hid hs
    clear hd2 hof hs
    go_wp2_with fail
    go_ret
    exact ⟨⟨s.toArray⟩, p + 1 + 1, rfl, by rw [ssize]; exact HL.out s HS.out, by omega, grown_trans hg1 (grown_new hg2 hlt), HD.out⟩
  · have hk1 : ((k : Int) == 0) = false := by rw [beq_eq_false_iff_ne]; omega
    by_cases hk2 : k = 1
    · subst hk2
      have hof := of_any (w1.alloc (.cells (bigL.map str).toArray 9)) rb (p + 1) w1.heap.size (0, 0) bigL (heap_top w1 _) (by decide) (by decide) (by omega) (HD1.out.after (below_new w1 _)) (by omega)
      have HL := Lib.hid (show ∀ s ∈ bigL, s.length ≤ 1000 by decide)
      go_wp2_with fail
      refine hof.mono ?_
      rintro e w2 ⟨s, hs, rfl, hg2, hd2⟩
      have HD := Lib.hid hd2
      have HS := Lib.hid hs
      clear hd2 hof hs
      go_wp2_with fail
      go_ret
      exact ⟨⟨s.toArray⟩, p + 1 + 1, rfl, by rw [ssize]; exact HL.out s HS.out, by omega, grown_trans hg1 (grown_new hg2 hlt), HD.out⟩
    · have hk3 : ((k : Int) == 1) = false := by rw [beq_eq_false_iff_ne]; omega
      have ht := term_any 3 w1 rb (p + 1) 3 HD1.out (by omega) (by omega) (by omega) (by omega)
      go_wp2_with fail
      refine ht.mono ?_
      rintro e w2 ⟨s, q, rfl, hs, hq, hg2, hd2⟩
      have HD := Lib.hid hd2
      clear hd2 ht
      go_wp2_with fail
      go_ret
      exact ⟨s, q, rfl, by omega, by omega, grown_trans hg1 hg2, HD.out⟩

/-- A code as it comes in. -/
def CodeArg (w : World) (v : Value) (n : Nat) : Prop :=
  (∃ a0 cap, v = .slice a0 0 cap ∧ n = 0) ∨ ∃ b o cap, 0 < n ∧ n ≤ cap ∧ cap ≤ 9223372036854775807 ∧ v = .slice (some ⟨b, o, none⟩) n cap ∧
    ∃ z : Nat → Nat, ∀ i, i < n → w.cell? ⟨b, o + i, none⟩ = some (.int .u8 (z i)) ∧ z i ≤ 255

def OpenPost (w : World) (e : Ending) (w' : World) : Prop := ∃ rb, e = .returned (.pointer (some ⟨rb, 0, none⟩)) ∧ w.heap.size ≤ rb ∧ After w w' ∧ Dr w' rb 0

theorem open_any (w : World) (v : Value) (n : Nat) (h : CodeArg w v n) :
    Calls Try.prog 36 #[v] w (OpenPost w) := by
  rcases h with ⟨a0, cap, rfl, rfl⟩ | ⟨b, o, cap, hn0, hnc, hcm, rfl, z, hz⟩
  · go_enter Try.func36, Try.ntmps36
    go_wp2_with fail
    go_ret
    exact ⟨_, rfl, Nat.le_refl _, After.new _ _, _, heap_top _ _, Or.inl ⟨_, _, rfl⟩⟩
  · have hb : b < w.heap.size := World.block_lt_of_cell? _ _ (hz 0 hn0).1
    by_cases hbig : 2000 < n
    · have hbig' : (2000 : Int) < (n : Int) := by omega
      have hc : (2000 : Int) ≤ (cap : Int) := by omega
      have HZ := Lib.hid hz
      clear hz
      go_enter Try.func36, Try.ntmps36
      go_wp2_with fail
      go_ret
      exact ⟨_, rfl, Nat.le_refl _, After.new _ _, _, heap_top _ _, Or.inr ⟨b, o, 2000, cap, by omega, by omega, rfl, by omega, z, fun i hi => ⟨cell_later' (HZ.out i (by omega)).1 _ (below_new w _), (HZ.out i (by omega)).2⟩⟩⟩
    · have hbig' : ¬ (2000 : Int) < (n : Int) := by omega
      have HZ := Lib.hid hz
      clear hz
      go_enter Try.func36, Try.ntmps36
      go_wp2_with fail
      go_ret
      exact ⟨_, rfl, Nat.le_refl _, After.new _ _, _, heap_top _ _, Or.inr ⟨b, o, n, cap, hn0, by omega, rfl, by omega, z, fun i hi => ⟨cell_later' (HZ.out i hi).1 _ (below_new w _), (HZ.out i hi).2⟩⟩⟩

/-- Some text. -/
def DrawPost (w : World) (e : Ending) (w' : World) : Prop := ∃ s : ByteArray, e = .returned (.string s) ∧ s.size ≤ 100000 ∧ After w w'

theorem after_open {w W w' : World} {rb : Nat} (h : After w W) (g : W.grownBy w' (some rb)) (hr : w.heap.size ≤ rb) : After w w' :=
  ⟨g.os.trans h.os, g.tape.trans h.tape, g.output.trans h.output, Nat.le_trans h.size g.size, fun k hk => by
    rw [g.block k (Nat.lt_of_lt_of_le hk h.size) (fun e => by injection e with e; omega)]; exact h.block k hk⟩

theorem draw_closed (w : World) (v : Value) (n : Nat) (h : CodeArg w v n) : Calls Try.prog 15 #[v] w (DrawPost w) := by
  have hopen := open_any w v n h
  clear h
  go_enter Try.func15, Try.ntmps15
  go_wp2_with fail
  refine hopen.mono ?_
  rintro e w1 ⟨rb, rfl, hr, ha, hd⟩
  have hp := pick_any w1 rb 0 2 hd (by omega) (by decide) (by decide)
  clear hopen hd
  go_wp2_with fail
  refine hp.mono ?_
  rintro e w2 ⟨k, hk, rfl, hg2, hd2⟩
  have HD2 := Lib.hid hd2
  clear hp hd2
  by_cases hk0 : k = 0
  · subst hk0
    have hc := closed_any 3 w2 rb (0 + 1) 3 HD2.out (by omega) (by omega) (by omega) (by omega)
    go_wp2_with fail
    refine hc.mono ?_
    rintro e w3 ⟨s, q, rfl, hs, hq, hg, hd⟩
    clear hc hd
    go_wp2_with fail
    go_ret
    exact ⟨s, rfl, by omega, after_open ha (grown_trans hg2 hg) hr⟩
  · have hk1 : ((k : Int) == 0) = false := by rw [beq_eq_false_iff_ne]; omega
    have hodd := odd_any w2 rb (0 + 1) HD2.out (by omega)
    go_wp2_with fail
    refine hodd.mono ?_
    rintro e w3 ⟨s, q, rfl, hs, hq, hg, hd⟩
    clear hodd hd
    go_wp2_with fail
    go_ret
    exact ⟨s, rfl, by omega, after_open ha (grown_trans hg2 hg) hr⟩

def wordL : List (List UInt8) := [[105], [116, 114, 117, 101], [102, 97, 108, 115, 101], [112, 97, 105, 114], [102, 105, 114, 115, 116], [115, 101, 99, 111, 110, 100], [122, 101, 114, 111], [115, 117, 99, 99], [112, 114, 101, 100], [102, 105, 120], [], [80, 97, 105, 114]]

theorem draw_data (w : World) (v : Value) (n : Nat) (h : CodeArg w v n) : Calls Try.prog 18 #[v] w (DrawPost w) := by
  have hopen := open_any w v n h
  clear h
  go_enter Try.func18, Try.ntmps18
  go_wp2_with fail
  refine hopen.mono ?_
  rintro e w1 ⟨rb, rfl, hr, ha, hd⟩
  have hlt := hd.lt
  have hof := of_any (w1.alloc (.cells (wordL.map str).toArray 9)) rb 0 w1.heap.size (0, 0) wordL (heap_top w1 _) (by decide) (by decide) (by omega) (hd.after (below_new w1 _)) (by omega)
  have HL := Lib.hid (show ∀ s ∈ wordL, s.length ≤ 1000 by decide)
  clear hopen hd
  go_wp2_with fail
  refine hof.mono ?_
  rintro e w2 ⟨s, hs, rfl, hg, hd⟩
  have HS := Lib.hid hs
  clear hof hd hs
  go_wp2_with fail
  go_ret
  exact ⟨⟨s.toArray⟩, rfl, by rw [ssize]; have := HL.out s HS.out; omega, after_open ha (grown_new hg hlt) hr⟩
end Go.Proofs.Ytjomocjlnjgkeaa

namespace Go.Proofs.Ytjomocjlnjgkeaa
namespace Tm

theorem text_inj {t u : Tm} (ht : t.good = true) (hu : u.good = true) (h : t.text = u.text) : t = u := by
  have h1 := read_of (l := t.text) (t := t) (d := max t.depth u.depth + 1) (i := 0) (r := []) (by simp) ht (by omega) (Or.inl rfl)
  have h2 := read_of (l := t.text) (t := u) (d := max t.depth u.depth + 1) (i := 0) (r := []) (by simp [h]) hu (by omega) (Or.inl rfl)
  rw [h1] at h2
  simp only [Option.some.injEq, Prod.mk.injEq] at h2
  exact h2.1


/-- What is read of the text of a term is that term. -/
theorem parse_of_text {t u : Tm} (hg : t.good = true) (h : parse t.text = some u) : u = t ∧ t.fits = true := by
  obtain ⟨h1, h2, h3⟩ := parse_iff.1 h
  have := text_inj h2 hg h1
  subst this
  exact ⟨rfl, h3⟩

theorem text_app (f a : Tm) : (app f a).text = 40 :: (f.text ++ 32 :: (a.text ++ [41])) := rfl

/-! ### names -/

theorem uses_has (x : List UInt8) : ∀ t : Tm, has x t = false ↔ uses x t = 0
  | nm n => by simp [has, uses]
  | app f a => by simp [has, uses, uses_has x f, uses_has x a]
  | k => by simp [has, uses]
  | s => by simp [has, uses]

theorem put_unused (x : List UInt8) (b : Tm) : ∀ {t : Tm}, uses x t = 0 → put t x b = t
  | nm n, h => by
    simp only [uses] at h
    split at h
    · simp at h
    · rename_i hn; simp [put, hn]
  | app f a, h => by simp only [uses] at h; simp [put, put_unused x b (t := f) (by omega), put_unused x b (t := a) (by omega)]
  | k, _ => rfl
  | s, _ => rfl

/-! ### abstractions applied -/

theorem star_k (m n : Tm) : Star (app (app k m) n) m := Star.one (.k n (.refl m))
theorem star_s (m n p : Tm) : Star (app (app (app s m) n) p) (app (app m p) (app n p)) := Star.one (.s (.refl m) (.refl n) (.refl p))
theorem star_i (a : Tm) : Star (app I a) a := (star_s k k a).trans (star_k a _)

theorem abs_star (x : List UInt8) (a : Tm) : ∀ t : Tm, Star (app (abs x t) a) (put t x a)
  | k => star_k _ _
  | s => star_k _ _
  | nm n => by
    by_cases hn : n = x
    · subst hn; simp only [abs, put, if_true]; exact star_i a
    · simp only [abs, put, hn, if_false]; exact star_k _ _
  | app f g => by
    simp only [abs]
    split
    · rename_i h; rw [put_unused x a h]; exact star_k _ _
    · split
      · rename_i h
        obtain ⟨h1, h2⟩ := h
        cases g with
        | nm n =>
          simp only [isNm, beq_iff_eq] at h1
          subst h1
          simp only [put, if_true, put_unused n a h2]
          exact .refl _
        | k => simp [isNm] at h1
        | s => simp [isNm] at h1
        | app _ _ => simp [isNm] at h1
      · exact (star_s _ _ _).trans ((abs_star x a f).app (abs_star x a g))

theorem pair_star (m n p : Tm) : Star (app (pair m n) p) (app (app p m) n) :=
  (star_s _ _ _).trans (((star_s _ _ _).trans ((star_i p).app (star_k m p))).app (star_k n p))

/-! ### numerals -/

theorem num_inj : ∀ {m n : Nat}, num m = num n → m = n := fun {m n} h => by
  have := congrArg size h
  rw [size_num, size_num] at this
  omega

theorem pair_normal {m n : Tm} (hm : step m = none) (hn : step n = none) : step (pair m n) = none := by
  simp [pair, step, redex, I, hm, hn]

theorem num_normal : ∀ n : Nat, step (num n) = none
  | 0 => by decide +kernel
  | n + 1 => pair_normal (by decide +kernel) (num_normal n)

theorem succ_star (n : Nat) : Star (app succ (num n)) (num (n + 1)) := abs_star [120] (num n) (pair no X)

theorem pred_star (n : Nat) : Star (app pred (num (n + 1))) (num n) := by
  have h := abs_star [120] (num (n + 1)) (app (app (app X .k) I) (app X no))
  have e : put (app (app (app X .k) I) (app X no)) [120] (num (n + 1)) = app (app (app (num (n + 1)) .k) I) (app (num (n + 1)) no) := rfl
  rw [e] at h
  have h1 : Star (app (num (n + 1)) k) no := (pair_star no (num n) k).trans (star_k _ _)
  have h2 : Star (app (num (n + 1)) no) (num n) := (pair_star no (num n) no).trans (((star_k I no).app (.refl _)).trans (star_i _))
  exact h.trans ((((h1.app (.refl I)).trans (star_k I I)).app h2).trans (star_i _))

theorem norm_unique {t u v : Tm} {n : Nat} (h : norm t = some (u, n)) (g : Star t v) (hv : step v = none) : u = v := by
  obtain ⟨h1, h2⟩ := norm_star h
  exact normal_one h1 g h2 hv

end Tm
end Go.Proofs.Ytjomocjlnjgkeaa
