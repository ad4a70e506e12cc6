/-
  The program's argumentBehind and pairParts; PairParts.
-/
import Derived.Test.YtmkmladlpgfniaaPkNum
import Derived.Test.YtmkmladlpgfniaaPkRead
namespace Go.Proofs.Ytmkmladlpgfniaa
open Go.RowKit

set_option maxHeartbeats 1000000
set_option maxRecDepth 100000

namespace Tm
def behind (F : List UInt8) : Tm → Option Tm
  | app f a => if text f = F then some a else none
  | _ => none
def parts : Tm → Option (Tm × Tm)
  | app x y => match behind [107] y with
    | none => none
    | some n => match behind [115] x with
      | none => none
      | some left => match behind [40, 115, 32, 40, 40, 115, 32, 107, 41, 32, 107, 41, 41] left with
        | none => none
        | some front => match behind [107] front with
          | none => none
          | some m => some (m, n)
  | _ => none
theorem behind_good {F : List UInt8} {t a : Tm} (h : behind F t = some a) (hg : good t = true) : good a = true ∧ a.size < t.size := by
  cases t with
  | app f b =>
    simp only [behind] at h
    split at h
    · obtain rfl := Option.some.inj h
      simp only [good, Bool.and_eq_true] at hg
      exact ⟨hg.2, by simp only [size]; have := size_pos f; omega⟩
    · simp at h
  | _ => simp [behind] at h
end Tm

def BehindPost (w : World) (B : Nat) (r : Option Tm) (e : Ending) (w' : World) : Prop :=
  ∃ v, e = .returned (.tuple #[v, .bool r.isSome]) ∧ Below w.heap.size w w' ∧ ∀ a, r = some a → TV w' B a v

theorem assert_app (W : World) (x : Value) : (Instr.typeAssert (.iface 110 x) 41 110 true).run Try.prog W = .ok (.tuple #[x, .bool true]) W := by kernel_rfl
theorem assert_k (W : World) (x : Value) : (Instr.typeAssert (.iface 131 x) 41 110 true).run Try.prog W = .ok (.tuple #[.pointer none, .bool false]) W := by kernel_rfl
theorem assert_s (W : World) (x : Value) : (Instr.typeAssert (.iface 134 x) 41 110 true).run Try.prog W = .ok (.tuple #[.pointer none, .bool false]) W := by kernel_rfl
theorem assert_n (W : World) (x : Value) : (Instr.typeAssert (.iface 93 x) 41 110 true).run Try.prog W = .ok (.tuple #[.pointer none, .bool false]) W := by kernel_rfl

theorem behind_leaf (w : World) (B : Nat) (F : List UInt8) (T : TypeId) (b : Nat) (hT : T = 131 ∨ T = 134 ∨ T = 93) :
    Calls Try.prog 87 #[str F, .iface T (.pointer (some ⟨b, 0, none⟩))] w (BehindPost w B none) := by
  have ha1 := assert_k w (.pointer (some ⟨b, 0, none⟩))
  have ha2 := assert_s w (.pointer (some ⟨b, 0, none⟩))
  have ha3 := assert_n w (.pointer (some ⟨b, 0, none⟩))
  rcases hT with rfl | rfl | rfl
  all_goals
    go_enter Try.func87, Try.ntmps87
    go_wp2_with fail
    go_ret2
    exact ⟨_, rfl, Below.refl _ _, fun a h => by cases h⟩

theorem behind_any (w : World) (B : Nat) (F : List UInt8) (t : Tm) (v : Value) (h : TV w B t v) (hg : t.good = true) (hz : t.size ≤ 3000) :
    Calls Try.prog 87 #[str F, v] w (BehindPost w B (t.behind F)) := by
  cases t with
  | k => obtain ⟨b, fr, rfl, _⟩ := h; exact behind_leaf w B F _ b (Or.inl rfl)
  | s => obtain ⟨b, fr, rfl, _⟩ := h; exact behind_leaf w B F _ b (Or.inr (Or.inl rfl))
  | nm n => obtain ⟨b, fr, rfl, _⟩ := h; exact behind_leaf w B F _ b (Or.inr (Or.inr rfl))
  | app f a =>
    obtain ⟨b, fr, vf, va, rfl, hb, hh, hf, ha⟩ := h
    simp only [Tm.good, Bool.and_eq_true] at hg
    simp only [Tm.size] at hz
    have has := assert_app w (.pointer (some ⟨b, 0, none⟩))
    have htl := Tm.text_le f hg.1
    have hd := Tm.depth_lt f
    have htext := textOf_any w B f vf hf hg.1 (by omega)
    have HA := Lib.hid ha
    obtain ⟨T1, x1, rfl, _⟩ := hf.asks
    obtain ⟨T2, x2, rfl, _⟩ := ha.asks
    have c0 : w.cell? ⟨b, 0, none⟩ = some (.iface T1 x1) := cell_of_heap hh
    have hc1 := cell_later' (cell_of_heap (i := 1) hh)
    have HC1 : Hid (∀ W, Below w.heap.size w W → W.cell? ⟨b, 1, none⟩ = some (.iface T2 x2)) := Lib.hid hc1
    obtain ⟨q, hq⟩ : ∃ q, q = (f.text == F) := ⟨_, rfl⟩
    have hr : (Tm.app f a).behind F = if q = true then some a else none := by
      simp only [Tm.behind, hq, beq_iff_eq]
    rw [hr]
    generalize f.text = x at htext hq
    have hq' : (x == F) = q := hq.symm
    clear hh hf ha hc1 hr hq
    cases q
    · simp only [Bool.false_eq_true, if_false]
      go_enter Try.func87, Try.ntmps87
      go_wp2_with (go_at_call 42; refine htext.mono ?_; rintro e w1 ⟨rfl, hb1⟩)
      go_ret2
      exact ⟨_, rfl, hb1, fun a h => by cases h⟩
    · simp only [if_true]
      simp only [beq_iff_eq] at hq'
      subst hq'
      go_enter Try.func87, Try.ntmps87
      go_wp2_with fail
      refine htext.mono ?_
      rintro e w1 ⟨rfl, hb1⟩
      have c1 := HC1.out w1 hb1
      go_wp2_with fail
      go_ret2
      exact ⟨_, rfl, hb1, fun a' h => by obtain rfl := Option.some.inj h; exact HA.out.below hb1⟩

def PartsPost (w : World) (B : Nat) (r : Option (Tm × Tm)) (e : Ending) (w' : World) : Prop :=
  ∃ v1 v2, e = .returned (.tuple #[v1, v2, .bool r.isSome]) ∧ Below w.heap.size w w' ∧ ∀ m n, r = some (m, n) → TV w' B m v1 ∧ TV w' B n v2

theorem parts_leaf (w : World) (B : Nat) (T : TypeId) (b : Nat) (hT : T = 131 ∨ T = 134 ∨ T = 93) :
    Calls Try.prog 50 #[.iface T (.pointer (some ⟨b, 0, none⟩))] w (PartsPost w B none) := by
  have ha1 := assert_k w (.pointer (some ⟨b, 0, none⟩))
  have ha2 := assert_s w (.pointer (some ⟨b, 0, none⟩))
  have ha3 := assert_n w (.pointer (some ⟨b, 0, none⟩))
  rcases hT with rfl | rfl | rfl
  all_goals
    go_enter Try.func50, Try.ntmps50
    go_wp2_with fail
    go_ret3
    exact ⟨_, _, rfl, Below.refl _ _, fun m n h => by cases h⟩

theorem parts_any (w : World) (B : Nat) (t : Tm) (v : Value) (h : TV w B t v) (hg : t.good = true) (hz : t.size ≤ 3000) :
    Calls Try.prog 50 #[v] w (PartsPost w B t.parts) := by
  cases t with
  | k => obtain ⟨b, fr, rfl, _⟩ := h; exact parts_leaf w B _ b (Or.inl rfl)
  | s => obtain ⟨b, fr, rfl, _⟩ := h; exact parts_leaf w B _ b (Or.inr (Or.inl rfl))
  | nm n => obtain ⟨b, fr, rfl, _⟩ := h; exact parts_leaf w B _ b (Or.inr (Or.inr rfl))
  | app x y =>
    obtain ⟨b, fr, vf, va, rfl, hb, hh, hf, ha⟩ := h
    have hg' := hg
    simp only [Tm.good, Bool.and_eq_true] at hg
    simp only [Tm.size] at hz
    have has := assert_app w (.pointer (some ⟨b, 0, none⟩))
    obtain ⟨T1, x1, rfl, _⟩ := hf.asks
    obtain ⟨T2, x2, rfl, _⟩ := ha.asks
    have c1 : w.cell? ⟨b, 1, none⟩ = some (.iface T2 x2) := cell_of_heap hh
    have HC0 : Hid (∀ W, Below w.heap.size w W → W.cell? ⟨b, 0, none⟩ = some (.iface T1 x1)) := Lib.hid (cell_later' (cell_of_heap (i := 0) hh))
    have b1 := behind_any w B [107] y _ ha hg.2 (by omega)
    have b2 := fun W (hW : Below w.heap.size w W) => behind_any W B [115] x _ (hf.below hW) hg.1 (by omega)
    have g1 := fun a h => Tm.behind_good (F := [107]) (t := y) (a := a) h hg.2
    have g2 := fun a h => Tm.behind_good (F := [115]) (t := x) (a := a) h hg.1
    unfold BehindPost at b1 b2
    clear hh hf ha
    cases e1 : Tm.behind [107] y with
    | none =>
      rw [show (Tm.app x y).parts = none by simp only [Tm.parts, e1]]
      rw [e1] at b1
      clear b2 g1 g2 e1
      go_enter Try.func50, Try.ntmps50
      go_wp2_with (go_at_call 87; refine b1.mono ?_; rintro e w1 ⟨v1, rfl, hb1, hv1⟩; clear hv1)
      go_ret3
      exact ⟨_, _, rfl, hb1, fun m n h => by cases h⟩
    | some n =>
      rw [e1] at b1
      cases e2 : Tm.behind [115] x with
      | none =>
        rw [show (Tm.app x y).parts = none by simp only [Tm.parts, e1, e2]]
        rw [e2] at b2
        clear g1 g2 e1 e2
        go_enter Try.func50, Try.ntmps50
        go_wp2_with fail
        refine b1.mono ?_
        rintro e w1 ⟨v1, rfl, hb1, hv1⟩
        have c0 := HC0.out w1 hb1
        have b2' := b2 w1 hb1
        clear hv1 b1 b2
        go_wp2_with (go_at_call 87; refine b2'.mono ?_; rintro e w2 ⟨v2, rfl, hb2, hv2⟩; clear hv2)
        go_ret3
        exact ⟨_, _, rfl, below_trans hb1 hb2, fun m n h => by cases h⟩
      | some left =>
        rw [e2] at b2
        obtain ⟨hgl, hzl⟩ := g2 left e2
        have b3 := fun W v (hv : TV W B left v) => behind_any W B [40, 115, 32, 40, 40, 115, 32, 107, 41, 32, 107, 41, 41] left v hv hgl (by omega)
        have g3 := fun a h => Tm.behind_good (F := [40, 115, 32, 40, 40, 115, 32, 107, 41, 32, 107, 41, 41]) (t := left) (a := a) h hgl
        unfold BehindPost at b3
        cases e3 : Tm.behind [40, 115, 32, 40, 40, 115, 32, 107, 41, 32, 107, 41, 41] left with
        | none =>
          rw [show (Tm.app x y).parts = none by simp only [Tm.parts, e1, e2, e3]]
          rw [e3] at b3
          clear g1 g2 g3 e1 e2 e3
          go_enter Try.func50, Try.ntmps50
          go_wp2_with fail
          refine b1.mono ?_
          rintro e w1 ⟨v1, rfl, hb1, hv1⟩
          have c0 := HC0.out w1 hb1
          have b2' := b2 w1 hb1
          clear hv1 b1 b2
          go_wp2_with fail
          refine b2'.mono ?_
          rintro e w2 ⟨v2, rfl, hb2, hv2⟩
          have b3' := b3 w2 v2 (hv2 left rfl)
          clear hv2 b2' b3
          go_wp2_with (go_at_call 87; refine b3'.mono ?_; rintro e w3 ⟨v3, rfl, hb3, hv3⟩; clear hv3)
          go_ret3
          exact ⟨_, _, rfl, below_trans (below_trans hb1 hb2) hb3, fun m n h => by cases h⟩
        | some front =>
          rw [e3] at b3
          obtain ⟨hgf, hzf⟩ := g3 front e3
          have b4 := fun W v (hv : TV W B front v) => behind_any W B [107] front v hv hgf (by omega)
          unfold BehindPost at b4
          have hfin : (Tm.app x y).parts = (Tm.behind [107] front).map fun m => (m, n) := by simp only [Tm.parts, e1, e2, e3]; cases Tm.behind [107] front <;> rfl
          rw [hfin]
          generalize Tm.behind [107] front = r at b4 ⊢
          clear g1 g2 g3 e1 e2 e3 hfin
          cases r
          all_goals
            go_enter Try.func50, Try.ntmps50
            go_wp2_with fail
            refine b1.mono ?_
            rintro e w1 ⟨v1, rfl, hb1, hv1⟩
            have c0 := HC0.out w1 hb1
            have b2' := b2 w1 hb1
            have HV1 := Lib.hid (hv1 n rfl)
            clear hv1 b1 b2
            go_wp2_with fail
            refine b2'.mono ?_
            rintro e w2 ⟨v2, rfl, hb2, hv2⟩
            have b3' := b3 w2 v2 (hv2 left rfl)
            clear hv2 b2' b3
            go_wp2_with fail
            refine b3'.mono ?_
            rintro e w3 ⟨v3, rfl, hb3, hv3⟩
            have b4' := b4 w3 v3 (hv3 front rfl)
            clear hv3 b3' b4
            go_wp2_with (go_at_call 87; refine b4'.mono ?_; rintro e w4 ⟨v4, rfl, hb4, hv4⟩; have HV4 := Lib.hid hv4; clear hv4)
            go_ret3
            refine ⟨_, _, rfl, below_trans (below_trans hb1 hb2) (below_trans hb3 hb4), fun m' n' h => ?_⟩
            first
              | (cases h; done)
              | (obtain ⟨rfl, rfl⟩ : _ = m' ∧ n = n' := by simpa using h
                 exact ⟨HV4.out _ rfl, HV1.out.below (below_trans hb2 (below_trans hb3 hb4))⟩)

/-- What PairParts answers. -/
def pParts (l : List UInt8) : Option (List UInt8 × List UInt8) := match Tm.parse l with
  | some t => t.parts.map fun p => (p.1.text, p.2.text)
  | none => none

def TwoRes (w : World) (r : Option (List UInt8 × List UInt8)) (e : Ending) (w' : World) : Prop :=
  e = .returned (.tuple #[str ((r.map Prod.fst).getD []), str ((r.map Prod.snd).getD []), .bool r.isSome]) ∧ Below w.heap.size w w'

theorem parts_good {t m n : Tm} (h : t.parts = some (m, n)) (hg : t.good = true) : m.good = true ∧ n.good = true ∧ m.size < t.size ∧ n.size < t.size := by
  cases t with
  | app x y =>
    simp only [Tm.good, Bool.and_eq_true] at hg
    simp only [Tm.parts] at h
    split at h
    · simp at h
    · rename_i n' e1
      split at h
      · simp at h
      · rename_i left e2
        split at h
        · simp at h
        · rename_i front e3
          split at h
          · simp at h
          · rename_i m' e4
            simp only [Option.some.injEq, Prod.mk.injEq] at h
            obtain ⟨rfl, rfl⟩ := h
            have g1 := Tm.behind_good e1 hg.2
            have g2 := Tm.behind_good e2 hg.1
            have g3 := Tm.behind_good e3 g2.1
            have g4 := Tm.behind_good e4 g3.1
            simp only [Tm.size]
            exact ⟨g4.1, g1.1, by omega, by omega⟩
  | _ => simp [Tm.parts] at h

theorem impl_parts (w : World) (l : List UInt8) (hl : l.length ≤ 1000000000) : Calls Try.prog 22 #[str l] w (TwoRes w (pParts l)) := by
  have hread := readTerm_any w 0 l (Nat.zero_le _) hl
  unfold ParsePost at hread
  unfold pParts
  cases hp : Tm.parse l with
  | none =>
    rw [hp] at hread
    clear hp
    go_enter Try.func22, Try.ntmps22
    go_wp2_with (go_at_call 33; refine hread.mono ?_; rintro e w1 ⟨v1, rfl, hb1, hv1⟩; clear hv1)
    go_ret3
    exact ⟨rfl, hb1⟩
  | some t =>
    obtain ⟨hg, hf, hs, _, _⟩ := Tm.parse_facts hp
    rw [hp] at hread
    clear hp
    have hparts := fun W v (h : TV W 0 t v) => parts_any W 0 t v h hg hs
    unfold PartsPost at hparts
    simp only
    cases hpt : t.parts with
    | none =>
      rw [hpt] at hparts
      clear hpt
      go_enter Try.func22, Try.ntmps22
      go_wp2_with fail
      refine hread.mono ?_
      rintro e w1 ⟨v1, rfl, hb1, hv1⟩
      have hcall := hparts w1 v1 (hv1 t rfl)
      clear hv1 hread hparts
      go_wp2_with (go_at_call 50; refine hcall.mono ?_; rintro e w2 ⟨v2, v3, rfl, hb2, hv2⟩; clear hv2)
      go_ret3
      exact ⟨rfl, below_trans hb1 hb2⟩
    | some p =>
      obtain ⟨m, n⟩ := p
      obtain ⟨hgm, hgn, hzm, hzn⟩ := parts_good hpt hg
      have htm := Tm.text_le m hgm
      have htn := Tm.text_le n hgn
      rw [hpt] at hparts
      clear hpt
      go_enter Try.func22, Try.ntmps22
      go_wp2_with fail
      refine hread.mono ?_
      rintro e w1 ⟨v1, rfl, hb1, hv1⟩
      have hcall := hparts w1 v1 (hv1 t rfl)
      clear hv1 hread hparts
      go_wp2_with fail
      refine hcall.mono ?_
      rintro e w2 ⟨v2, v3, rfl, hb2, hv2⟩
      obtain ⟨hm2, hn2⟩ := hv2 m n rfl
      have t1 := textOf_any w2 0 m v2 hm2 hgm (by omega)
      have t2 := fun W (hW : Below w2.heap.size w2 W) => textOf_any W 0 n v3 (hn2.below hW) hgn (by omega)
      clear hv2 hcall
      go_wp2_with fail
      refine t1.mono ?_
      rintro e w3 ⟨rfl, hb3⟩
      have t2' := t2 w3 hb3
      clear t1 t2
      go_wp2_with (go_at_call 42; refine t2'.mono ?_; rintro e w4 ⟨rfl, hb4⟩)
      go_ret3
      exact ⟨rfl, below_trans (below_trans hb1 hb2) (below_trans hb3 hb4)⟩
end Go.Proofs.Ytmkmladlpgfniaa
