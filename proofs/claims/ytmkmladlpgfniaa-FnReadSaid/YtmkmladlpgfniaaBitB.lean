/-
  BitRead of the program and of the model, and the law.
-/
import Derived.Test.YtmkmladlpgfniaaBit
import Derived.Test.YtmkmladlpgfniaaSDat
import Derived.Test.YtmkmladlpgfniaaSFnD
namespace Go.Proofs.Ytmkmladlpgfniaa
open Go.RowKit

set_option maxHeartbeats 1000000
set_option maxRecDepth 100000

def bitX (x : List UInt8) : Option Nat := if x = Tm.text .k then some 1 else if x = Tm.text Tm.no then some 0 else none
def pBit (l : List UInt8) : Option Nat := match Tm.pNorm l with | some (x, _) => bitX x | none => none

def BitRes (w : World) (r : Option Nat) (e : Ending) (w' : World) : Prop := e = .returned (.tuple #[.int .i64 ((r.getD 0 : Nat) : Int), .bool r.isSome]) ∧ Below w.heap.size w w'

theorem text_k (W : World) (v : Value) (h : TV W 0 .k v) : Calls Try.prog 42 #[v] W fun e w' => e = .returned (str (Tm.text .k)) ∧ Below W.heap.size W w' := textOf_any W 0 .k v h rfl (by decide)
theorem text_no (W : World) (v : Value) (h : TV W 0 Tm.no v) : Calls Try.prog 42 #[v] W fun e w' => e = .returned (str (Tm.text Tm.no)) ∧ Below W.heap.size W w' := textOf_any W 0 Tm.no v h rfl (by decide)

theorem bitOf_any (w : World) (t : Tm) (v : Value) (h : TV w 0 t v) (hg : t.good = true) (hl : t.text.length ≤ 1000000) :
    Calls Try.prog 58 #[v] w (BitRes w (bitX t.text)) := by
  have h1 := textOf_any w 0 t v h hg hl
  have h2 := fun W => bit_any W 0 true (Nat.zero_le _)
  have h3 := fun W => bit_any W 0 false (Nat.zero_le _)
  have h4 := text_k
  have h5 := text_no
  unfold TermPost at h2 h3
  simp only [if_true, Bool.false_eq_true, if_false] at h2 h3
  unfold bitX
  generalize t.text = x at *
  generalize Tm.text .k = a at *
  generalize Tm.text Tm.no = b at *
  clear hg hl h
  by_cases hx : x = a
  · subst hx
    simp only [if_true]
    go_enter Try.func58, Try.ntmps58
    go_wp2_with fail
    refine h1.mono ?_
    rintro e w1 ⟨rfl, hb1⟩
    go_wp2_with fail
    refine (h2 _).mono ?_
    rintro e w2 ⟨v2, rfl, hb2, ht2⟩
    have h6 := h4 _ _ ht2
    go_wp2_with (go_at_call 42; refine h6.mono ?_; rintro e w3 ⟨rfl, hb3⟩)
    go_ret2
    exact ⟨rfl, below_trans (below_trans hb1 hb2) hb3⟩
  · have hxa : (x == a) = false := beq_eq_false_iff_ne.2 hx
    simp only [if_neg hx]
    by_cases hy : x = b
    · subst hy
      simp only [if_true]
      clear hx
      go_enter Try.func58, Try.ntmps58
      go_wp2_with fail
      refine h1.mono ?_
      rintro e w1 ⟨rfl, hb1⟩
      go_wp2_with fail
      refine (h2 _).mono ?_
      rintro e w2 ⟨v2, rfl, hb2, ht2⟩
      have h6 := h4 _ _ ht2
      clear ht2
      go_wp2_with fail
      refine h6.mono ?_
      rintro e w3 ⟨rfl, hb3⟩
      go_wp2_with fail
      refine (h3 _).mono ?_
      rintro e w4 ⟨v4, rfl, hb4, ht4⟩
      have h7 := h5 _ _ ht4
      clear ht4
      go_wp2_with fail
      refine h7.mono ?_
      rintro e w5 ⟨rfl, hb5⟩
      go_wp2_with fail
      go_ret2
      exact ⟨rfl, below_trans (below_trans (below_trans hb1 hb2) (below_trans hb3 hb4)) hb5⟩
    · have hxb : (x == b) = false := beq_eq_false_iff_ne.2 hy
      simp only [if_neg hy]
      clear hx hy
      go_enter Try.func58, Try.ntmps58
      go_wp2_with fail
      refine h1.mono ?_
      rintro e w1 ⟨rfl, hb1⟩
      go_wp2_with fail
      refine (h2 _).mono ?_
      rintro e w2 ⟨v2, rfl, hb2, ht2⟩
      have h6 := h4 _ _ ht2
      clear ht2
      go_wp2_with fail
      refine h6.mono ?_
      rintro e w3 ⟨rfl, hb3⟩
      go_wp2_with fail
      refine (h3 _).mono ?_
      rintro e w4 ⟨v4, rfl, hb4, ht4⟩
      have h7 := h5 _ _ ht4
      clear ht4
      go_wp2_with fail
      refine h7.mono ?_
      rintro e w5 ⟨rfl, hb5⟩
      go_wp2_with fail
      go_ret2
      exact ⟨rfl, below_trans (below_trans (below_trans hb1 hb2) (below_trans hb3 hb4)) hb5⟩

theorem pBit_norm (l : List UInt8) : pBit l = (Tm.normOf l).bind fun u => bitX u.text := by
  unfold pBit Tm.pNorm Tm.normOf
  cases Tm.parse l with
  | none => rfl
  | some t =>
    simp only
    cases t.norm with
    | none => rfl
    | some p => rfl

theorem impl_bit (w : World) (l : List UInt8) (hl : l.length ≤ 1000000000) : Calls Try.prog 29 #[str l] w (BitRes w (pBit l)) := by
  have hread := readNormal_any w 0 l (Nat.zero_le _) hl
  unfold ReadNPost at hread
  rw [pBit_norm]
  cases hp : Tm.normOf l with
  | none =>
    rw [hp] at hread
    clear hp
    go_enter Try.func29, Try.ntmps29
    go_wp2_with (go_at_call 54; refine hread.mono ?_; rintro e w1 ⟨v1, rfl, hb1, hv1⟩; clear hv1)
    go_ret2
    exact ⟨rfl, hb1⟩
  | some u =>
    obtain ⟨hg, hf⟩ := Tm.normOf_good hp
    have hs := fits_size hf
    have htl := Tm.text_le u hg
    rw [hp] at hread
    clear hp
    have hbit := fun W v h => bitOf_any W u v h hg (by omega)
    unfold BitRes at hbit
    simp only [Option.bind_some]
    generalize bitX u.text = r at *
    go_enter Try.func29, Try.ntmps29
    go_wp2_with fail
    refine hread.mono ?_
    rintro e w1 ⟨v1, rfl, hb1, hv1⟩
    have hcall := hbit w1 v1 (hv1 u rfl)
    clear hv1 hread hbit
    go_wp2_with (go_at_call 58; refine hcall.mono ?_; rintro e w2 ⟨rfl, hb2⟩)
    go_ret2
    exact ⟨rfl, below_trans hb1 hb2⟩

def SBit (w : World) (r : Option Nat) (e : Ending) (w' : World) : Prop := e = .returned (.tuple #[.int .i64 ((r.getD 0 : Nat) : Int), .bool r.isSome]) ∧ After w w'

theorem stext_k (W : World) (v : Value) (h : ST W .k v) : Calls Try.prog 47 #[v] W fun e w' => e = .returned (str (Tm.text .k)) ∧ After W w' := h.text rfl (by decide)
theorem stext_no (W : World) (v : Value) (h : ST W Tm.no v) : Calls Try.prog 47 #[v] W fun e w' => e = .returned (str (Tm.text Tm.no)) ∧ After W w' := h.text rfl (by decide)

theorem spec_bit (w : World) (l : List UInt8) (hl : l.length ≤ 1000000000) : Calls Try.prog 30 #[str l] w (SBit w (pBit l)) := by
  have h1 := spec_norm w l hl
  have h2 := s_true
  have h3 := s_false
  have h4 := stext_k
  have h5 := stext_no
  unfold SNum at h1
  unfold TreePost at h2 h3
  unfold pBit bitX
  cases hp : Tm.pNorm l with
  | none =>
    rw [hp] at h1
    clear hp
    go_enter Try.func30, Try.ntmps30
    go_wp2_with (go_at_call 59; refine h1.mono ?_; rintro e w1 ⟨rfl, hb1⟩)
    go_ret2
    exact ⟨rfl, hb1⟩
  | some p =>
    obtain ⟨x, i⟩ := p
    rw [hp] at h1
    simp only [Option.map_some, Option.getD_some, Option.isSome_some] at h1 ⊢
    generalize Tm.text .k = a at *
    generalize Tm.text Tm.no = b at *
    clear hp
    by_cases hx : x = a
    · subst hx
      simp only [if_true]
      go_enter Try.func30, Try.ntmps30
      go_wp2_with fail
      refine h1.mono ?_
      rintro e w1 ⟨rfl, hb1⟩
      go_wp2_with fail
      refine (h2 _).mono ?_
      rintro e w2 ⟨s2, ao2, n2, c2, rfl, hb2, ht2⟩
      have h6 := h4 _ _ ht2
      clear ht2
      go_wp2_with (go_at_call 47; refine h6.mono ?_; rintro e w3 ⟨rfl, hb3⟩)
      go_ret2
      exact ⟨rfl, (hb1.trans hb2).trans hb3⟩
    · have hxa : (x == a) = false := beq_eq_false_iff_ne.2 hx
      simp only [if_neg hx]
      obtain ⟨q, hq⟩ : ∃ q, q = (x == b) := ⟨_, rfl⟩
      obtain ⟨r, hr⟩ : ∃ r, r = (if x = b then some 0 else none : Option Nat) := ⟨_, rfl⟩
      rw [← hr]
      have hrq : Hid (r = if q = true then some 0 else none) := by
        show _ = _
        rw [hr, hq]
        by_cases h : x = b <;> simp [h]
      have hxb : (x == b) = q := hq.symm
      clear hx hr hq
      cases q
      all_goals
        try simp only [beq_iff_eq] at hxb
        try subst hxb
        go_enter Try.func30, Try.ntmps30
        go_wp2_with fail
        refine h1.mono ?_
        rintro e w1 ⟨rfl, hb1⟩
        go_wp2_with fail
        refine (h2 _).mono ?_
        rintro e w2 ⟨s2, ao2, n2, c2, rfl, hb2, ht2⟩
        have h6 := h4 _ _ ht2
        clear ht2
        go_wp2_with fail
        refine h6.mono ?_
        rintro e w3 ⟨rfl, hb3⟩
        go_wp2_with fail
        refine (h3 _).mono ?_
        rintro e w4 ⟨s4, ao4, n4, c4, rfl, hb4, ht4⟩
        have h7 := h5 _ _ ht4
        clear ht4
        go_wp2_with fail
        refine h7.mono ?_
        rintro e w5 ⟨rfl, hb5⟩
        go_wp2_with fail
        go_ret2
        exact ⟨by rw [hrq.out]; rfl, ((hb1.trans hb2).trans (hb3.trans hb4)).trans hb5⟩

end Go.Proofs.Ytmkmladlpgfniaa
