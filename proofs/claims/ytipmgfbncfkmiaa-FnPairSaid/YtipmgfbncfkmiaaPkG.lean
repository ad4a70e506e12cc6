/-
  The program's readNormal; what BitRead answers.
-/
import Derived.Test.YtipmgfbncfkmiaaPkU
import Derived.Test.YtipmgfbncfkmiaaPkA
import Derived.Test.YtipmgfbncfkmiaaPkB
import Derived.Test.YtipmgfbncfkmiaaPkF
namespace Go.Proofs.Ytipmgfbncfkmiaa
open Go.RowKit

set_option maxHeartbeats 400000
set_option maxRecDepth 100000

namespace Tm
/-- The normal term of a text. -/
def normOf (l : List UInt8) : Option Tm := match parse l with | some t => (norm t).map Prod.fst | none => none

theorem norm_normal (t : Tm) : norm t = if (many 6000 t).1.normal = true then some (many 6000 t) else none := by
  unfold norm
  simp only [normal_step]

theorem normOf_good {l : List UInt8} {u : Tm} (h : normOf l = some u) : good u = true ∧ fits u = true := by
  unfold normOf at h
  cases hp : parse l with
  | none => rw [hp] at h; simp at h
  | some t =>
    rw [hp] at h
    obtain ⟨hg, hf, _⟩ := parse_facts hp
    obtain ⟨p, hp1, hp2⟩ := Option.map_eq_some_iff.1 h
    obtain ⟨x, n⟩ := p
    exact hp2 ▸ norm_good hp1 hg hf
end Tm

def ReadNPost (w : World) (B : Nat) (l : List UInt8) (e : Ending) (w' : World) : Prop :=
  ∃ v, e = .returned (.tuple #[v, .bool (Tm.normOf l).isSome]) ∧ Below w.heap.size w w' ∧ ∀ u, Tm.normOf l = some u → TV w' B u v

theorem readNormal_any (w : World) (B : Nat) (l : List UInt8) (hB : B ≤ w.heap.size) (hl : l.length ≤ 1000000000) :
    Calls Try.prog 99 #[str l] w (ReadNPost w B l) := by
  have hread := readTerm_any w B l hB hl
  unfold ParsePost at hread
  unfold ReadNPost
  cases hp : Tm.parse l with
  | none =>
    have hfin : Tm.normOf l = none := by simp [Tm.normOf, hp]
    rw [hfin]
    rw [hp] at hread
    clear hp hfin
    go_enter Try.func99, Try.ntmps99
    go_wp2_with (go_at_call 64; refine hread.mono ?_; rintro e w1 ⟨v1, rfl, hb1, hv1⟩; clear hv1)
    go_ret2
    exact ⟨_, rfl, hb1, fun u h => by cases h⟩
  | some t =>
    obtain ⟨hg, hf, hs, _, _⟩ := Tm.parse_facts hp
    have hfin : Tm.normOf l = if (t.many 6000).1.normal = true then some (t.many 6000).1 else none := by
      simp only [Tm.normOf, hp, Tm.norm_normal]
      split <;> rfl
    rw [hfin]
    rw [hp] at hread
    clear hp hfin
    have hnorm := fun W v h hB => normalTerm_any W B t v h hB hf
    unfold NormPost at hnorm
    generalize t.many 6000 = m at *
    obtain ⟨u, c⟩ := m
    simp only at hnorm ⊢
    generalize u.normal = b at *
    obtain ⟨r, hr⟩ : ∃ r, r = if b = true then some u else none := ⟨_, rfl⟩
    rw [← hr]
    have HR := Lib.hid hr
    clear hr
    go_enter Try.func99, Try.ntmps99
    go_wp2_with fail
    refine hread.mono ?_
    rintro e w1 ⟨v1, rfl, hb1, hv1⟩
    have hcall := hnorm w1 v1 (hv1 t rfl) (Nat.le_trans hB hb1.size)
    clear hv1 hread hnorm
    go_wp2_with (go_at_call 80; refine hcall.mono ?_; rintro e w2 ⟨v2, rfl, hb2, hv2⟩; have HV := Lib.hid hv2; clear hv2)
    go_ret2
    refine ⟨_, by rw [HR.out]; cases b <;> rfl, below_trans hb1 hb2, fun u' h => ?_⟩
    rw [HR.out] at h
    cases b
    · simp at h
    · simp at h; rw [← h]; exact HV.out
end Go.Proofs.Ytipmgfbncfkmiaa

namespace Go.Proofs.Ytipmgfbncfkmiaa
open Go.RowKit

set_option maxHeartbeats 1000000
set_option maxRecDepth 100000

/-- The number of a numeral, in at most f looks. -/
def Tm.rd : Nat → Tm → Option Nat
  | 0, _ => none
  | f + 1, t => if t.text = Tm.text Tm.I then some 0 else match t.parts with
    | some (m, r) => if m.text = Tm.text Tm.no then (Tm.rd f r).map (· + 1) else none
    | none => none

def IntRes (w : World) (r : Option Nat) (e : Ending) (w' : World) : Prop := e = .returned (.tuple #[.int .i64 ((r.getD 0 : Nat) : Int), .bool r.isSome]) ∧ Below w.heap.size w w'

theorem numtext_I (W : World) (v : Value) (h : TV W 0 (Tm.num 0) v) : Calls Try.prog 71 #[v] W fun e w' => e = .returned (str (Tm.text Tm.I)) ∧ Below W.heap.size W w' := textOf_any W 0 Tm.I v h rfl (by decide)
theorem numtext_no (W : World) (v : Value) (h : TV W 0 Tm.no v) : Calls Try.prog 71 #[v] W fun e w' => e = .returned (str (Tm.text Tm.no)) ∧ Below W.heap.size W w' := textOf_any W 0 Tm.no v h rfl (by decide)

theorem numberOf_any (w : World) (t : Tm) (v : Value) (h : TV w 0 t v) (hg : t.good = true) (hz : t.size ≤ 3000) :
    Calls Try.prog 100 #[v] w (IntRes w (Tm.rd 61 t)) := by
  have hstart : ∃ (k : Nat) (u : Tm), Value.int .i64 0 = .int .i64 k ∧ k ≤ 61 ∧ Hid (TV w 0 u v) ∧ u.good = true ∧ u.size ≤ 3000 ∧ Below w.heap.size w w ∧ Hid (Tm.rd 61 t = (Tm.rd (61 - k) u).map (· + k)) :=
    ⟨0, t, rfl, by omega, h, hg, hz, Below.refl _ _, by show _ = _; simp⟩
  generalize hR : Tm.rd 61 t = R at *
  clear hR h hg hz
  go_enter Try.func100, Try.ntmps100
  go_wp2_with fail
  go_loopw [0, 8] (fun v i wr => ∃ (k : Nat) (u : Tm), i = .int .i64 k ∧ k ≤ 61 ∧ Hid (TV wr 0 u v) ∧ u.good = true ∧ u.size ≤ 3000 ∧ Below w.heap.size w wr ∧ Hid (R = (Tm.rd (61 - k) u).map (· + k))) (fun _ i _ => 61 - (intOf i).toNat)
  case atStart => exact hstart
  case round =>
    clear hstart
    obtain ⟨k, u, rfl, hk, hu, hg, hz, hb, hR⟩ := hrel
    by_cases hlt : k < 61
    · have htl := Tm.text_le u hg
      have h1 := textOf_any wr 0 u _ hu.out hg (by omega)
      have h2 := fun W => numeral_any W 0 0 (Nat.zero_le _) (by omega)
      have h3 := numtext_I
      have h4 := fun W => bit_any W 0 false (Nat.zero_le _)
      have h5 := numtext_no
      unfold TermPost at h2 h4
      simp only [Bool.false_eq_true, if_false] at h4
      have hrd : Tm.rd (61 - k) u = if u.text = Tm.text Tm.I then some 0 else match u.parts with
          | some (m, r) => if m.text = Tm.text Tm.no then (Tm.rd (61 - (k + 1)) r).map (· + 1) else none
          | none => none := by
        rw [show 61 - k = (61 - (k + 1)) + 1 by omega]; rfl
      rw [hrd] at hR
      clear hrd
      by_cases hI : u.text = Tm.text Tm.I
      · rw [if_pos hI] at hR
        have HR : Hid (R = some k) := by show _ = _; rw [hR.out]; simp
        rw [hI] at h1
        generalize Tm.text Tm.I = xi at *
        clear hR hI h4 h5
        go_wp2_with fail
        refine h1.mono ?_
        rintro e w1 ⟨rfl, hb1⟩
        go_wp2_with fail
        refine (h2 _).mono ?_
        rintro e w2 ⟨v2, rfl, hb2, ht2⟩
        have h3' := h3 _ _ ht2
        clear ht2
        go_wp2_with (go_at_call 71; refine h3'.mono ?_; rintro e w3 ⟨rfl, hb3⟩)
        go_ret2
        exact ⟨by rw [HR.out]; rfl, below_trans hb (below_trans (below_trans hb1 hb2) hb3)⟩
      · rw [if_neg hI] at hR
        have hne : (u.text == Tm.text Tm.I) = false := beq_eq_false_iff_ne.2 hI
        have hparts := fun W (hW : Below wr.heap.size wr W) => parts_any W 0 u _ (hu.out.below hW) hg hz
        unfold PartsPost at hparts
        cases hpt : u.parts with
        | none =>
          rw [hpt] at hparts hR
          have HR : Hid (R = none) := by show _ = _; rw [hR.out]; rfl
          generalize Tm.text Tm.I = xi at *
          generalize u.text = xu at *
          clear hR hI h4 h5 hpt
          go_wp2_with fail
          refine h1.mono ?_
          rintro e w1 ⟨rfl, hb1⟩
          go_wp2_with fail
          refine (h2 _).mono ?_
          rintro e w2 ⟨v2, rfl, hb2, ht2⟩
          have h3' := h3 _ _ ht2
          clear ht2
          go_wp2_with fail
          refine h3'.mono ?_
          rintro e w3 ⟨rfl, hb3⟩
          have hb13 := below_trans (below_trans hb1 hb2) hb3
          have h6 := hparts w3 hb13
          clear hparts h3'
          go_wp2_with (go_at_call 95; refine h6.mono ?_; rintro e w4 ⟨v4, v5, rfl, hb4, hv4⟩; clear hv4)
          go_ret2
          exact ⟨by rw [HR.out]; rfl, below_trans hb (below_trans hb13 hb4)⟩
        | some p =>
          obtain ⟨m, r⟩ := p
          obtain ⟨hgm, hgr, hzm, hzr⟩ := parts_good hpt hg
          have htm := Tm.text_le m hgm
          have h7 := fun W v (h : TV W 0 m v) => textOf_any W 0 m v h hgm (by omega)
          rw [hpt] at hparts hR
          simp only at hR
          clear hpt
          obtain ⟨q, hq⟩ : ∃ q, q = (m.text == Tm.text Tm.no) := ⟨_, rfl⟩
          have hR2 : Hid (R = if q = true then ((Tm.rd (61 - (k + 1)) r).map (· + 1)).map (· + k) else none) := by
            show _ = _
            rw [hR.out, hq]
            by_cases h : m.text = Tm.text Tm.no <;> simp [h]
          have hq' := hq.symm
          generalize Tm.text Tm.I = xi at *
          generalize u.text = xu at *
          generalize Tm.text Tm.no = xn at *
          generalize m.text = xm at *
          clear hR hI hq
          cases q
          · have HR : Hid (R = none) := by show _ = _; rw [hR2.out]; rfl
            clear hR2
            go_wp2_with fail
            refine h1.mono ?_
            rintro e w1 ⟨rfl, hb1⟩
            go_wp2_with fail
            refine (h2 _).mono ?_
            rintro e w2 ⟨v2, rfl, hb2, ht2⟩
            have h3' := h3 _ _ ht2
            clear ht2
            go_wp2_with fail
            refine h3'.mono ?_
            rintro e w3 ⟨rfl, hb3⟩
            have hb13 := below_trans (below_trans hb1 hb2) hb3
            have h6 := hparts w3 hb13
            clear hparts h3'
            go_wp2_with fail
            refine h6.mono ?_
            rintro e w4 ⟨v4, v5, rfl, hb4, hv4⟩
            have h8 := h7 w4 v4 (hv4 m r rfl).1
            clear hv4 h6
            go_wp2_with fail
            refine h8.mono ?_
            rintro e w5 ⟨rfl, hb5⟩
            go_wp2_with fail
            refine (h4 _).mono ?_
            rintro e w6 ⟨v6, rfl, hb6, ht6⟩
            have h9 := h5 _ _ ht6
            clear ht6 h8
            go_wp2_with fail
            refine h9.mono ?_
            rintro e w7 ⟨rfl, hb7⟩
            go_wp2_with fail
            go_ret2
            exact ⟨by rw [HR.out]; rfl, below_trans hb (below_trans (below_trans hb13 hb4) (below_trans (below_trans hb5 hb6) hb7))⟩
          · have HR : Hid (R = (Tm.rd (61 - (k + 1)) r).map (· + (k + 1))) := by
              show _ = _
              rw [hR2.out, if_pos rfl, Option.map_map]
              congr 1
              funext i
              simp only [Function.comp]
              omega
            simp only [beq_iff_eq] at hq'
            subst hq'
            clear hR2
            go_wp2_with fail
            refine h1.mono ?_
            rintro e w1 ⟨rfl, hb1⟩
            go_wp2_with fail
            refine (h2 _).mono ?_
            rintro e w2 ⟨v2, rfl, hb2, ht2⟩
            have h3' := h3 _ _ ht2
            clear ht2
            go_wp2_with fail
            refine h3'.mono ?_
            rintro e w3 ⟨rfl, hb3⟩
            have hb13 := below_trans (below_trans hb1 hb2) hb3
            have h6 := hparts w3 hb13
            clear hparts h3'
            go_wp2_with fail
            refine h6.mono ?_
            rintro e w4 ⟨v4, v5, rfl, hb4, hv4⟩
            have h8 := h7 w4 v4 (hv4 m r rfl).1
            have HV5 := Lib.hid (hv4 m r rfl).2
            clear hv4 h6
            go_wp2_with fail
            refine h8.mono ?_
            rintro e w5 ⟨rfl, hb5⟩
            go_wp2_with fail
            refine (h4 _).mono ?_
            rintro e w6 ⟨v6, rfl, hb6, ht6⟩
            have h9 := h5 _ _ ht6
            clear ht6 h8
            go_wp2_with fail
            refine h9.mono ?_
            rintro e w7 ⟨rfl, hb7⟩
            go_wp2_with fail
            go_roundw
            case rel => exact ⟨k + 1, r, by go_num, by omega, HV5.out.below (below_trans (below_trans hb5 hb6) hb7), hgr, by omega, below_trans hb (below_trans (below_trans hb13 hb4) (below_trans (below_trans hb5 hb6) hb7)), HR⟩
            case measure => simp [intOf]; omega
    · obtain rfl : k = 61 := by omega
      have HR : Hid (R = none) := by show _ = _; rw [hR.out]; rfl
      clear hR
      go_wp2_with fail
      go_ret2
      exact ⟨by rw [HR.out]; rfl, hb⟩

def pNumRead (l : List UInt8) : Option Nat := (Tm.normOf l).bind (Tm.rd 61)

theorem impl_numread (w : World) (l : List UInt8) (hl : l.length ≤ 1000000000) : Calls Try.prog 53 #[str l] w (IntRes w (pNumRead l)) := by
  have hread := readNormal_any w 0 l (Nat.zero_le _) hl
  unfold ReadNPost at hread
  unfold pNumRead
  cases hp : Tm.normOf l with
  | none =>
    rw [hp] at hread
    clear hp
    go_enter Try.func53, Try.ntmps53
    go_wp2_with (go_at_call 99; refine hread.mono ?_; rintro e w1 ⟨v1, rfl, hb1, hv1⟩; clear hv1)
    go_ret2
    exact ⟨rfl, hb1⟩
  | some u =>
    obtain ⟨hg, hf⟩ := Tm.normOf_good hp
    have hs := fits_size hf
    rw [hp] at hread
    clear hp
    have hnum := fun W v h => numberOf_any W u v h hg (by omega)
    unfold IntRes at hnum
    simp only [Option.bind_some]
    generalize Tm.rd 61 u = r at *
    go_enter Try.func53, Try.ntmps53
    go_wp2_with fail
    refine hread.mono ?_
    rintro e w1 ⟨v1, rfl, hb1, hv1⟩
    have hcall := hnum w1 v1 (hv1 u rfl)
    clear hv1 hread hnum
    go_wp2_with (go_at_call 100; refine hcall.mono ?_; rintro e w2 ⟨rfl, hb2⟩)
    go_ret2
    exact ⟨rfl, below_trans hb1 hb2⟩
end Go.Proofs.Ytipmgfbncfkmiaa

namespace Go.Proofs.Ytipmgfbncfkmiaa
open Go.RowKit

set_option maxHeartbeats 2000000
set_option maxRecDepth 100000

def numI : Option Nat → Int
  | some n => (n : Int)
  | none => -1

theorem snumtext_I (W : World) (v : Value) (h : ST W Tm.I v) : Calls Try.prog 79 #[v] W fun e w' => e = .returned (str (Tm.text Tm.I)) ∧ After W w' := h.text rfl (by decide)
theorem snumtext_no (W : World) (v : Value) (h : ST W Tm.no v) : Calls Try.prog 79 #[v] W fun e w' => e = .returned (str (Tm.text Tm.no)) ∧ After W w' := h.text rfl (by decide)

def SInt (w : World) (r : Option Nat) (e : Ending) (w' : World) : Prop := e = .returned (.tuple #[.int .i64 ((r.getD 0 : Nat) : Int), .bool r.isSome]) ∧ After w w'

end Go.Proofs.Ytipmgfbncfkmiaa

namespace Go.Proofs.Ytipmgfbncfkmiaa
open Go.RowKit

set_option maxHeartbeats 1000000
set_option maxRecDepth 100000

def bitX (x : List UInt8) : Option Nat := if x = Tm.text .k then some 1 else if x = Tm.text Tm.no then some 0 else none
def pBit (l : List UInt8) : Option Nat := match Tm.pNorm l with | some (x, _) => bitX x | none => none

def BitRes (w : World) (r : Option Nat) (e : Ending) (w' : World) : Prop := e = .returned (.tuple #[.int .i64 ((r.getD 0 : Nat) : Int), .bool r.isSome]) ∧ Below w.heap.size w w'

theorem text_k (W : World) (v : Value) (h : TV W 0 .k v) : Calls Try.prog 71 #[v] W fun e w' => e = .returned (str (Tm.text .k)) ∧ Below W.heap.size W w' := textOf_any W 0 .k v h rfl (by decide)
theorem text_no (W : World) (v : Value) (h : TV W 0 Tm.no v) : Calls Try.prog 71 #[v] W fun e w' => e = .returned (str (Tm.text Tm.no)) ∧ Below W.heap.size W w' := textOf_any W 0 Tm.no v h rfl (by decide)

theorem bitOf_any (w : World) (t : Tm) (v : Value) (h : TV w 0 t v) (hg : t.good = true) (hl : t.text.length ≤ 1000000) :
    Calls Try.prog 101 #[v] w (BitRes w (bitX t.text)) := by
  have h1 := textOf_any w 0 t v h hg hl
  have h2 := fun W => bit_any W 0 true (Nat.zero_le _)
  have h3 := fun W => bit_any W 0 false (Nat.zero_le _)
  have h4 := text_k
  have h5 := text_no
  unfold TermPost at h2 h3
  simp only [if_true, Bool.false_eq_true, if_false] at h2 h3
  unfold bitX
  generalize t.text = x at *
  generalize Tm.text .k = a at *
  generalize Tm.text Tm.no = b at *
  clear hg hl h
  by_cases hx : x = a
  · subst hx
    simp only [if_true]
    go_enter Try.func101, Try.ntmps101
    go_wp2_with fail
    refine h1.mono ?_
    rintro e w1 ⟨rfl, hb1⟩
    go_wp2_with fail
    refine (h2 _).mono ?_
    rintro e w2 ⟨v2, rfl, hb2, ht2⟩
    have h6 := h4 _ _ ht2
    go_wp2_with (go_at_call 71; refine h6.mono ?_; rintro e w3 ⟨rfl, hb3⟩)
    go_ret2
    exact ⟨rfl, below_trans (below_trans hb1 hb2) hb3⟩
  · have hxa : (x == a) = false := beq_eq_false_iff_ne.2 hx
    simp only [if_neg hx]
    by_cases hy : x = b
    · subst hy
      simp only [if_true]
      clear hx
      go_enter Try.func101, Try.ntmps101
      go_wp2_with fail
      refine h1.mono ?_
      rintro e w1 ⟨rfl, hb1⟩
      go_wp2_with fail
      refine (h2 _).mono ?_
      rintro e w2 ⟨v2, rfl, hb2, ht2⟩
      have h6 := h4 _ _ ht2
      clear ht2
      go_wp2_with fail
      refine h6.mono ?_
      rintro e w3 ⟨rfl, hb3⟩
      go_wp2_with fail
      refine (h3 _).mono ?_
      rintro e w4 ⟨v4, rfl, hb4, ht4⟩
      have h7 := h5 _ _ ht4
      clear ht4
      go_wp2_with fail
      refine h7.mono ?_
      rintro e w5 ⟨rfl, hb5⟩
      go_wp2_with fail
      go_ret2
      exact ⟨rfl, below_trans (below_trans (below_trans hb1 hb2) (below_trans hb3 hb4)) hb5⟩
    · have hxb : (x == b) = false := beq_eq_false_iff_ne.2 hy
      simp only [if_neg hy]
      clear hx hy
      go_enter Try.func101, Try.ntmps101
      go_wp2_with fail
      refine h1.mono ?_
      rintro e w1 ⟨rfl, hb1⟩
      go_wp2_with fail
      refine (h2 _).mono ?_
      rintro e w2 ⟨v2, rfl, hb2, ht2⟩
      have h6 := h4 _ _ ht2
      clear ht2
      go_wp2_with fail
      refine h6.mono ?_
      rintro e w3 ⟨rfl, hb3⟩
      go_wp2_with fail
      refine (h3 _).mono ?_
      rintro e w4 ⟨v4, rfl, hb4, ht4⟩
      have h7 := h5 _ _ ht4
      clear ht4
      go_wp2_with fail
      refine h7.mono ?_
      rintro e w5 ⟨rfl, hb5⟩
      go_wp2_with fail
      go_ret2
      exact ⟨rfl, below_trans (below_trans (below_trans hb1 hb2) (below_trans hb3 hb4)) hb5⟩

theorem pBit_norm (l : List UInt8) : pBit l = (Tm.normOf l).bind fun u => bitX u.text := by
  unfold pBit Tm.pNorm Tm.normOf
  cases Tm.parse l with
  | none => rfl
  | some t =>
    simp only
    cases t.norm with
    | none => rfl
    | some p => rfl

theorem impl_bit (w : World) (l : List UInt8) (hl : l.length ≤ 1000000000) : Calls Try.prog 54 #[str l] w (BitRes w (pBit l)) := by
  have hread := readNormal_any w 0 l (Nat.zero_le _) hl
  unfold ReadNPost at hread
  rw [pBit_norm]
  cases hp : Tm.normOf l with
  | none =>
    rw [hp] at hread
    clear hp
    go_enter Try.func54, Try.ntmps54
    go_wp2_with (go_at_call 99; refine hread.mono ?_; rintro e w1 ⟨v1, rfl, hb1, hv1⟩; clear hv1)
    go_ret2
    exact ⟨rfl, hb1⟩
  | some u =>
    obtain ⟨hg, hf⟩ := Tm.normOf_good hp
    have hs := fits_size hf
    have htl := Tm.text_le u hg
    rw [hp] at hread
    clear hp
    have hbit := fun W v h => bitOf_any W u v h hg (by omega)
    unfold BitRes at hbit
    simp only [Option.bind_some]
    generalize bitX u.text = r at *
    go_enter Try.func54, Try.ntmps54
    go_wp2_with fail
    refine hread.mono ?_
    rintro e w1 ⟨v1, rfl, hb1, hv1⟩
    have hcall := hbit w1 v1 (hv1 u rfl)
    clear hv1 hread hbit
    go_wp2_with (go_at_call 101; refine hcall.mono ?_; rintro e w2 ⟨rfl, hb2⟩)
    go_ret2
    exact ⟨rfl, below_trans hb1 hb2⟩

def SBit (w : World) (r : Option Nat) (e : Ending) (w' : World) : Prop := e = .returned (.tuple #[.int .i64 ((r.getD 0 : Nat) : Int), .bool r.isSome]) ∧ After w w'

theorem stext_k (W : World) (v : Value) (h : ST W .k v) : Calls Try.prog 79 #[v] W fun e w' => e = .returned (str (Tm.text .k)) ∧ After W w' := h.text rfl (by decide)
theorem stext_no (W : World) (v : Value) (h : ST W Tm.no v) : Calls Try.prog 79 #[v] W fun e w' => e = .returned (str (Tm.text Tm.no)) ∧ After W w' := h.text rfl (by decide)

end Go.Proofs.Ytipmgfbncfkmiaa
