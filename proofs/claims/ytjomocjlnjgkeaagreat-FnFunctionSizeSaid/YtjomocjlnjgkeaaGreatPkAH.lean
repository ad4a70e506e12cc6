/-
  What the functions of chapter 1 answer, in plain mathematics.
-/
import Derived.Test.YtjomocjlnjgkeaaGreatPkAA
import Derived.Test.YtjomocjlnjgkeaaGreatPkAG
import Derived.Test.YtjomocjlnjgkeaaGreatPkAC
import Derived.Test.YtjomocjlnjgkeaaGreatPkAE
namespace Go.Proofs.YtjomocjlnjgkeaaGreat
namespace Tm

theorem parse_facts {l : List UInt8} {t : Tm} (h : parse l = some t) : good t = true ∧ fits t = true ∧ size t ≤ 3000 ∧ depth t ≤ 1500 ∧ t.text.length ≤ 21000 := by
  obtain ⟨_, h2, h3⟩ := parse_iff.1 h
  have h4 := h3
  simp only [fits, Bool.and_eq_true, decide_eq_true_eq] at h4
  have := text_le t h2
  exact ⟨h2, h3, h4.1, h4.2, by omega⟩

def pSize (l : List UInt8) : Int := match parse l with | some t => (size t : Nat) | none => -1
def pNames (l : List UInt8) : Option (List (List UInt8)) := (parse l).map (names [])
def pClosed (l : List UInt8) : Bool := match parse l with | some t => (names [] t).isEmpty | none => false
def pPut (l n b : List UInt8) : Option (List UInt8) := match parse l, parse b with
  | some t, some u => if nameOk n && fits (put t n u) then some (text (put t n u)) else none
  | _, _ => none
def pStep (l : List UInt8) : Option (List UInt8) := match parse l with
  | some t => (stepFit t).map text
  | none => none
def pMany (l : List UInt8) (n : Int) : Option (List UInt8 × Nat) := match parse l with
  | some t => if 0 ≤ n ∧ n ≤ 6000 then some (text (many n.toNat t).1, (many n.toNat t).2) else none
  | none => none
def pNormal (l : List UInt8) : Bool := match parse l with | some t => (step t).isNone | none => false
def pNorm (l : List UInt8) : Option (List UInt8 × Nat) := match parse l with
  | some t => (norm t).map fun p => (text p.1, p.2)
  | none => none
def pApply (l m : List UInt8) : Option (List UInt8) := match parse l, parse m with
  | some t, some u => if fits (app t u) then (norm (app t u)).map fun p => text p.1 else none
  | _, _ => none
def pEqual (l m : List UInt8) : Bool := match pNorm l, pNorm m with
  | some p, some q => decide (p.1 = q.1)
  | _, _ => false

end Tm
end Go.Proofs.YtjomocjlnjgkeaaGreat

namespace Go.Proofs.YtjomocjlnjgkeaaGreat
open Go.RowKit

set_option maxHeartbeats 1000000
set_option maxRecDepth 100000

theorem AbsOk.later {w W : World} {B : Nat} {v : Value} {t : Tm} (h : AbsOk w B v t) (hb : Below w.heap.size w W) : AbsOk W B v t := by
  obtain ⟨T, x, f, y, hv, hm, hc, hd⟩ := h
  exact ⟨T, x, f, y, hv, hm, hc, fun W' hW' => hd W' (below_trans hb hW')⟩

theorem BV.absOk {w : World} {B : Nat} (hB : B ≤ w.heap.size) : ∀ {b : Bd} {v : Value}, BV w B b v → b.term.size ≤ 999999999 → AbsOk w B v b.term
  | .itself, _, h, _ => ⟨_, _, _, _, h, meth_itself, fun _ _ => by kernel_rfl, fun W hW => itself_abs W B (Nat.le_trans hB hW.size)⟩
  | .without t, _, ⟨x, hv, h⟩, hz => ⟨_, _, _, _, hv, fun W => meth_without W x, fun _ _ => by kernel_rfl, fun W hW => without_abs W B t x (h.below hW) (Nat.le_trans hB hW.size) (by simp only [Bd.term, Tm.size] at hz; omega)⟩
  | .atEnd t, _, ⟨x, hv, h⟩, hz => ⟨_, _, _, _, hv, fun W => meth_atEnd W x, fun _ _ => by kernel_rfl, fun W hW => atEnd_abs W B t x (h.below hW)⟩
  | .inside f a, _, ⟨x, y, hv, hf, ha⟩, hz => by
    simp only [Bd.term, Tm.size] at hz
    have sf := BV.absOk hB hf (by omega)
    have sa := BV.absOk hB ha (by omega)
    exact ⟨_, _, _, _, hv, fun W => meth_inside W x y, fun _ _ => by kernel_rfl, fun W hW => inside_abs W B _ _ x y (sf.later hW) (sa.later hW) (Nat.le_trans hB hW.size) (by omega)⟩

theorem pair_any (w : World) (B : Nat) (m n : Tm) (v1 v2 : Value) (h1 : TV w B m v1) (h2 : TV w B n v2) (hB : B ≤ w.heap.size) (hz : m.size + n.size ≤ 100000000) :
    Calls Tryz.prog 83 #[v1, v2] w (TermPost w B (Tm.pair m n)) := by
  have hx := BV.absOk (b := .inside .itself (.without m)) (v := .iface 162 (.agg #[.iface 156 (.agg #[]), .iface 158 (.agg #[v1])])) hB ⟨_, _, rfl, rfl, _, rfl, h1⟩ (by simp [Bd.term, Tm.I, Tm.size]; omega)
  have hy := BV.absOk (b := .without n) (v := .iface 158 (.agg #[v2])) hB ⟨_, rfl, h2⟩ (by simp [Bd.term, Tm.size]; omega)
  have hcall := inside_abs w B _ _ _ _ hx hy hB (by simp [Bd.term, Tm.I, Tm.size]; omega)
  obtain ⟨T1, x1, rfl, _⟩ := h1.asks
  obtain ⟨T2, x2, rfl, _⟩ := h2.asks
  have hfin : (Tm.app (.app .s (Bd.term (.inside .itself (.without m)))) (Bd.term (.without n))) = Tm.pair m n := rfl
  rw [hfin] at hcall
  unfold TermPost at hcall
  clear hx hy h1 h2 hfin
  go_enter Tryz.func83, Tryz.ntmps83
  go_wp2_with fail
  refine hcall.mono ?_
  rintro e w1 ⟨v3, rfl, hb1, ht1⟩
  have HT := Lib.hid ht1
  clear ht1 hcall
  go_wp2_with fail
  go_ret
  exact ⟨_, rfl, hb1, HT.out⟩

theorem numeral_any (w : World) (B n : Nat) (hB : B ≤ w.heap.size) (hn : n ≤ 1000000) :
    Calls Tryz.prog 48 #[.int .i64 n] w (TermPost w B (Tm.num n)) := by
  have hI := identity_any w B hB
  unfold TermPost at hI
  go_enter Tryz.func48, Tryz.ntmps48
  go_wp2_with fail
  refine hI.mono ?_
  rintro e w1 ⟨v1, rfl, hb1, ht1⟩
  have hstart : Hid (TV w1 B (Tm.num 0) v1) := ht1
  clear ht1 hI
  go_wp2_with fail
  go_loopw [3, 6] (fun v i wr => ∃ k : Nat, i = .int .i64 k ∧ k ≤ n ∧ Hid (TV wr B (Tm.num k) v) ∧ Below w.heap.size w wr) (fun _ i _ => n - (intOf i).toNat)
  case atStart => exact ⟨0, rfl, Nat.zero_le _, hstart, hb1⟩
  case round =>
    clear hstart
    obtain ⟨k, rfl, hk, ht, hb⟩ := hrel
    by_cases hlt : k < n
    · have hbit := bit_any wr B false (Nat.le_trans hB hb.size)
      unfold TermPost at hbit
      simp only [Bool.false_eq_true, if_false] at hbit
      go_wp2_with fail
      refine hbit.mono ?_
      rintro e w2 ⟨v2, rfl, hb2, ht2⟩
      have hz := Tm.size_num k
      have hcall := pair_any w2 B Tm.no (Tm.num k) v2 _ ht2 (ht.out.below hb2) (Nat.le_trans hB (below_trans hb hb2).size) (by rw [hz]; simp [Tm.no, Tm.I, Tm.size]; omega)
      rw [show Tm.pair Tm.no (Tm.num k) = Tm.num (k + 1) from rfl] at hcall
      unfold TermPost at hcall
      clear ht2 hbit hz
      go_wp2_with fail
      refine hcall.mono ?_
      rintro e w3 ⟨v3, rfl, hb3, ht3⟩
      have HT3 := Lib.hid ht3
      clear ht3 hcall
      go_wp2_with fail
      go_roundw
      case rel => exact ⟨k + 1, by go_num, by omega, HT3, below_trans (below_trans hb hb2) hb3⟩
      case measure => simp [intOf]; omega
    · obtain rfl : k = n := by omega
      go_wp2_with fail
      go_ret
      exact ⟨_, rfl, hb, ht.out⟩

/-- What NumberOf answers. -/
def pNumber (n : Int) : Option (List UInt8) := if 0 ≤ n ∧ n ≤ 60 then some (Tm.num n.toNat).text else none

def NumOne (w : World) (r : Option (List UInt8)) (e : Ending) (w' : World) : Prop :=
  e = .returned (.tuple #[str (r.getD []), .bool r.isSome]) ∧ Below w.heap.size w w'

end Go.Proofs.YtjomocjlnjgkeaaGreat

namespace Go.Proofs.YtjomocjlnjgkeaaGreat
open Go.RowKit

set_option maxHeartbeats 1000000
set_option maxRecDepth 100000

namespace Tm
def behind (F : List UInt8) : Tm → Option Tm
  | app f a => if text f = F then some a else none
  | _ => none
def parts : Tm → Option (Tm × Tm)
  | app x y => match behind [107] y with
    | none => none
    | some n => match behind [115] x with
      | none => none
      | some left => match behind [40, 115, 32, 40, 40, 115, 32, 107, 41, 32, 107, 41, 41] left with
        | none => none
        | some front => match behind [107] front with
          | none => none
          | some m => some (m, n)
  | _ => none
theorem behind_good {F : List UInt8} {t a : Tm} (h : behind F t = some a) (hg : good t = true) : good a = true ∧ a.size < t.size := by
  cases t with
  | app f b =>
    simp only [behind] at h
    split at h
    · obtain rfl := Option.some.inj h
      simp only [good, Bool.and_eq_true] at hg
      exact ⟨hg.2, by simp only [size]; have := size_pos f; omega⟩
    · simp at h
  | _ => simp [behind] at h
end Tm

def BehindPost (w : World) (B : Nat) (r : Option Tm) (e : Ending) (w' : World) : Prop :=
  ∃ v, e = .returned (.tuple #[v, .bool r.isSome]) ∧ Below w.heap.size w w' ∧ ∀ a, r = some a → TV w' B a v

theorem assert_app (W : World) (x : Value) : (Instr.typeAssert (.iface 129 x) 43 129 true).run Tryz.prog W = .ok (.tuple #[x, .bool true]) W := by kernel_rfl
theorem assert_k (W : World) (x : Value) : (Instr.typeAssert (.iface 134 x) 43 129 true).run Tryz.prog W = .ok (.tuple #[.pointer none, .bool false]) W := by kernel_rfl
theorem assert_s (W : World) (x : Value) : (Instr.typeAssert (.iface 139 x) 43 129 true).run Tryz.prog W = .ok (.tuple #[.pointer none, .bool false]) W := by kernel_rfl
theorem assert_n (W : World) (x : Value) : (Instr.typeAssert (.iface 96 x) 43 129 true).run Tryz.prog W = .ok (.tuple #[.pointer none, .bool false]) W := by kernel_rfl

theorem behind_leaf (w : World) (B : Nat) (F : List UInt8) (T : TypeId) (b : Nat) (hT : T = 134 ∨ T = 139 ∨ T = 96) :
    Calls Tryz.prog 84 #[str F, .iface T (.pointer (some ⟨b, 0, none⟩))] w (BehindPost w B none) := by
  have ha1 := assert_k w (.pointer (some ⟨b, 0, none⟩))
  have ha2 := assert_s w (.pointer (some ⟨b, 0, none⟩))
  have ha3 := assert_n w (.pointer (some ⟨b, 0, none⟩))
  rcases hT with rfl | rfl | rfl
  all_goals
    go_enter Tryz.func84, Tryz.ntmps84
    go_wp2_with fail
    go_ret2
    exact ⟨_, rfl, Below.refl _ _, fun a h => by cases h⟩

theorem behind_any (w : World) (B : Nat) (F : List UInt8) (t : Tm) (v : Value) (h : TV w B t v) (hg : t.good = true) (hz : t.size ≤ 3000) :
    Calls Tryz.prog 84 #[str F, v] w (BehindPost w B (t.behind F)) := by
  cases t with
  | k => obtain ⟨b, fr, rfl, _⟩ := h; exact behind_leaf w B F _ b (Or.inl rfl)
  | s => obtain ⟨b, fr, rfl, _⟩ := h; exact behind_leaf w B F _ b (Or.inr (Or.inl rfl))
  | nm n => obtain ⟨b, fr, rfl, _⟩ := h; exact behind_leaf w B F _ b (Or.inr (Or.inr rfl))
  | app f a =>
    obtain ⟨b, fr, vf, va, rfl, hb, hh, hf, ha⟩ := h
    simp only [Tm.good, Bool.and_eq_true] at hg
    simp only [Tm.size] at hz
    have has := assert_app w (.pointer (some ⟨b, 0, none⟩))
    have htl := Tm.text_le f hg.1
    have hd := Tm.depth_lt f
    have htext := textOf_any w B f vf hf hg.1 (by omega)
    have HA := Lib.hid ha
    obtain ⟨T1, x1, rfl, _⟩ := hf.asks
    obtain ⟨T2, x2, rfl, _⟩ := ha.asks
    have c0 : w.cell? ⟨b, 0, none⟩ = some (.iface T1 x1) := cell_of_heap hh
    have hc1 := cell_later' (cell_of_heap (i := 1) hh)
    have HC1 : Hid (∀ W, Below w.heap.size w W → W.cell? ⟨b, 1, none⟩ = some (.iface T2 x2)) := Lib.hid hc1
    obtain ⟨q, hq⟩ : ∃ q, q = (f.text == F) := ⟨_, rfl⟩
    have hr : (Tm.app f a).behind F = if q = true then some a else none := by
      simp only [Tm.behind, hq, beq_iff_eq]
    rw [hr]
    generalize f.text = x at htext hq
    have hq' : (x == F) = q := hq.symm
    clear hh hf ha hc1 hr hq
    cases q
    · simp only [Bool.false_eq_true, if_false]
      go_enter Tryz.func84, Tryz.ntmps84
      go_wp2_with (go_at_call 32; refine htext.mono ?_; rintro e w1 ⟨rfl, hb1⟩)
      go_ret2
      exact ⟨_, rfl, hb1, fun a h => by cases h⟩
    · simp only [if_true]
      simp only [beq_iff_eq] at hq'
      subst hq'
      go_enter Tryz.func84, Tryz.ntmps84
      go_wp2_with fail
      refine htext.mono ?_
      rintro e w1 ⟨rfl, hb1⟩
      have c1 := HC1.out w1 hb1
      go_wp2_with fail
      go_ret2
      exact ⟨_, rfl, hb1, fun a' h => by obtain rfl := Option.some.inj h; exact HA.out.below hb1⟩

def PartsPost (w : World) (B : Nat) (r : Option (Tm × Tm)) (e : Ending) (w' : World) : Prop :=
  ∃ v1 v2, e = .returned (.tuple #[v1, v2, .bool r.isSome]) ∧ Below w.heap.size w w' ∧ ∀ m n, r = some (m, n) → TV w' B m v1 ∧ TV w' B n v2

theorem parts_leaf (w : World) (B : Nat) (T : TypeId) (b : Nat) (hT : T = 134 ∨ T = 139 ∨ T = 96) :
    Calls Tryz.prog 49 #[.iface T (.pointer (some ⟨b, 0, none⟩))] w (PartsPost w B none) := by
  have ha1 := assert_k w (.pointer (some ⟨b, 0, none⟩))
  have ha2 := assert_s w (.pointer (some ⟨b, 0, none⟩))
  have ha3 := assert_n w (.pointer (some ⟨b, 0, none⟩))
  rcases hT with rfl | rfl | rfl
  all_goals
    go_enter Tryz.func49, Tryz.ntmps49
    go_wp2_with fail
    go_ret3
    exact ⟨_, _, rfl, Below.refl _ _, fun m n h => by cases h⟩

theorem parts_any (w : World) (B : Nat) (t : Tm) (v : Value) (h : TV w B t v) (hg : t.good = true) (hz : t.size ≤ 3000) :
    Calls Tryz.prog 49 #[v] w (PartsPost w B t.parts) := by
  cases t with
  | k => obtain ⟨b, fr, rfl, _⟩ := h; exact parts_leaf w B _ b (Or.inl rfl)
  | s => obtain ⟨b, fr, rfl, _⟩ := h; exact parts_leaf w B _ b (Or.inr (Or.inl rfl))
  | nm n => obtain ⟨b, fr, rfl, _⟩ := h; exact parts_leaf w B _ b (Or.inr (Or.inr rfl))
  | app x y =>
    obtain ⟨b, fr, vf, va, rfl, hb, hh, hf, ha⟩ := h
    have hg' := hg
    simp only [Tm.good, Bool.and_eq_true] at hg
    simp only [Tm.size] at hz
    have has := assert_app w (.pointer (some ⟨b, 0, none⟩))
    obtain ⟨T1, x1, rfl, _⟩ := hf.asks
    obtain ⟨T2, x2, rfl, _⟩ := ha.asks
    have c1 : w.cell? ⟨b, 1, none⟩ = some (.iface T2 x2) := cell_of_heap hh
    have HC0 : Hid (∀ W, Below w.heap.size w W → W.cell? ⟨b, 0, none⟩ = some (.iface T1 x1)) := Lib.hid (cell_later' (cell_of_heap (i := 0) hh))
    have b1 := behind_any w B [107] y _ ha hg.2 (by omega)
    have b2 := fun W (hW : Below w.heap.size w W) => behind_any W B [115] x _ (hf.below hW) hg.1 (by omega)
    have g1 := fun a h => Tm.behind_good (F := [107]) (t := y) (a := a) h hg.2
    have g2 := fun a h => Tm.behind_good (F := [115]) (t := x) (a := a) h hg.1
    unfold BehindPost at b1 b2
    clear hh hf ha
    cases e1 : Tm.behind [107] y with
    | none =>
      rw [show (Tm.app x y).parts = none by simp only [Tm.parts, e1]]
      rw [e1] at b1
      clear b2 g1 g2 e1
      go_enter Tryz.func49, Tryz.ntmps49
      go_wp2_with (go_at_call 84; refine b1.mono ?_; rintro e w1 ⟨v1, rfl, hb1, hv1⟩; clear hv1)
      go_ret3
      exact ⟨_, _, rfl, hb1, fun m n h => by cases h⟩
    | some n =>
      rw [e1] at b1
      cases e2 : Tm.behind [115] x with
      | none =>
        rw [show (Tm.app x y).parts = none by simp only [Tm.parts, e1, e2]]
        rw [e2] at b2
        clear g1 g2 e1 e2
        go_enter Tryz.func49, Tryz.ntmps49
        go_wp2_with fail
        refine b1.mono ?_
        rintro e w1 ⟨v1, rfl, hb1, hv1⟩
        have c0 := HC0.out w1 hb1
        have b2' := b2 w1 hb1
        clear hv1 b1 b2
        go_wp2_with (go_at_call 84; refine b2'.mono ?_; rintro e w2 ⟨v2, rfl, hb2, hv2⟩; clear hv2)
        go_ret3
        exact ⟨_, _, rfl, below_trans hb1 hb2, fun m n h => by cases h⟩
      | some left =>
        rw [e2] at b2
        obtain ⟨hgl, hzl⟩ := g2 left e2
        have b3 := fun W v (hv : TV W B left v) => behind_any W B [40, 115, 32, 40, 40, 115, 32, 107, 41, 32, 107, 41, 41] left v hv hgl (by omega)
        have g3 := fun a h => Tm.behind_good (F := [40, 115, 32, 40, 40, 115, 32, 107, 41, 32, 107, 41, 41]) (t := left) (a := a) h hgl
        unfold BehindPost at b3
        cases e3 : Tm.behind [40, 115, 32, 40, 40, 115, 32, 107, 41, 32, 107, 41, 41] left with
        | none =>
          rw [show (Tm.app x y).parts = none by simp only [Tm.parts, e1, e2, e3]]
          rw [e3] at b3
          clear g1 g2 g3 e1 e2 e3
          go_enter Tryz.func49, Tryz.ntmps49
          go_wp2_with fail
          refine b1.mono ?_
          rintro e w1 ⟨v1, rfl, hb1, hv1⟩
          have c0 := HC0.out w1 hb1
          have b2' := b2 w1 hb1
          clear hv1 b1 b2
          go_wp2_with fail
          refine b2'.mono ?_
          rintro e w2 ⟨v2, rfl, hb2, hv2⟩
          have b3' := b3 w2 v2 (hv2 left rfl)
          clear hv2 b2' b3
          go_wp2_with (go_at_call 84; refine b3'.mono ?_; rintro e w3 ⟨v3, rfl, hb3, hv3⟩; clear hv3)
          go_ret3
          exact ⟨_, _, rfl, below_trans (below_trans hb1 hb2) hb3, fun m n h => by cases h⟩
        | some front =>
          rw [e3] at b3
          obtain ⟨hgf, hzf⟩ := g3 front e3
          have b4 := fun W v (hv : TV W B front v) => behind_any W B [107] front v hv hgf (by omega)
          unfold BehindPost at b4
          have hfin : (Tm.app x y).parts = (Tm.behind [107] front).map fun m => (m, n) := by simp only [Tm.parts, e1, e2, e3]; cases Tm.behind [107] front <;> rfl
          rw [hfin]
          generalize Tm.behind [107] front = r at b4 ⊢
          clear g1 g2 g3 e1 e2 e3 hfin
          cases r
          all_goals
            go_enter Tryz.func49, Tryz.ntmps49
            go_wp2_with fail
            refine b1.mono ?_
            rintro e w1 ⟨v1, rfl, hb1, hv1⟩
            have c0 := HC0.out w1 hb1
            have b2' := b2 w1 hb1
            have HV1 := Lib.hid (hv1 n rfl)
            clear hv1 b1 b2
            go_wp2_with fail
            refine b2'.mono ?_
            rintro e w2 ⟨v2, rfl, hb2, hv2⟩
            have b3' := b3 w2 v2 (hv2 left rfl)
            clear hv2 b2' b3
            go_wp2_with fail
            refine b3'.mono ?_
            rintro e w3 ⟨v3, rfl, hb3, hv3⟩
            have b4' := b4 w3 v3 (hv3 front rfl)
            clear hv3 b3' b4
            go_wp2_with (go_at_call 84; refine b4'.mono ?_; rintro e w4 ⟨v4, rfl, hb4, hv4⟩; have HV4 := Lib.hid hv4; clear hv4)
            go_ret3
            refine ⟨_, _, rfl, below_trans (below_trans hb1 hb2) (below_trans hb3 hb4), fun m' n' h => ?_⟩
            first
              | (cases h; done)
              | (obtain ⟨rfl, rfl⟩ : _ = m' ∧ n = n' := by simpa using h
                 exact ⟨HV4.out _ rfl, HV1.out.below (below_trans hb2 (below_trans hb3 hb4))⟩)

/-- What PairParts answers. -/
def pParts (l : List UInt8) : Option (List UInt8 × List UInt8) := match Tm.parse l with
  | some t => t.parts.map fun p => (p.1.text, p.2.text)
  | none => none

def TwoRes (w : World) (r : Option (List UInt8 × List UInt8)) (e : Ending) (w' : World) : Prop :=
  e = .returned (.tuple #[str ((r.map Prod.fst).getD []), str ((r.map Prod.snd).getD []), .bool r.isSome]) ∧ Below w.heap.size w w'

theorem parts_good {t m n : Tm} (h : t.parts = some (m, n)) (hg : t.good = true) : m.good = true ∧ n.good = true ∧ m.size < t.size ∧ n.size < t.size := by
  cases t with
  | app x y =>
    simp only [Tm.good, Bool.and_eq_true] at hg
    simp only [Tm.parts] at h
    split at h
    · simp at h
    · rename_i n' e1
      split at h
      · simp at h
      · rename_i left e2
        split at h
        · simp at h
        · rename_i front e3
          split at h
          · simp at h
          · rename_i m' e4
            simp only [Option.some.injEq, Prod.mk.injEq] at h
            obtain ⟨rfl, rfl⟩ := h
            have g1 := Tm.behind_good e1 hg.2
            have g2 := Tm.behind_good e2 hg.1
            have g3 := Tm.behind_good e3 g2.1
            have g4 := Tm.behind_good e4 g3.1
            simp only [Tm.size]
            exact ⟨g4.1, g1.1, by omega, by omega⟩
  | _ => simp [Tm.parts] at h

end Go.Proofs.YtjomocjlnjgkeaaGreat
