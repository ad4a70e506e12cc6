/-
  The program's readNormal; what BitRead answers.
-/
import Derived.Test.YtjomocjlnjgkeaaGreatPkAN
import Derived.Test.YtjomocjlnjgkeaaGreatPkAF
import Derived.Test.YtjomocjlnjgkeaaGreatPkAE
import Derived.Test.YtjomocjlnjgkeaaGreatPkAH
import Derived.Test.YtjomocjlnjgkeaaGreatPkAV
namespace Go.Proofs.YtjomocjlnjgkeaaGreat
open Go.RowKit

set_option maxHeartbeats 400000
set_option maxRecDepth 100000

namespace Tm
/-- The normal term of a text. -/
def normOf (l : List UInt8) : Option Tm := match parse l with | some t => (norm t).map Prod.fst | none => none

theorem norm_normal (t : Tm) : norm t = if (many 6000 t).1.normal = true then some (many 6000 t) else none := by
  unfold norm
  simp only [normal_step]

theorem normOf_good {l : List UInt8} {u : Tm} (h : normOf l = some u) : good u = true ∧ fits u = true := by
  unfold normOf at h
  cases hp : parse l with
  | none => rw [hp] at h; simp at h
  | some t =>
    rw [hp] at h
    obtain ⟨hg, hf, _⟩ := parse_facts hp
    obtain ⟨p, hp1, hp2⟩ := Option.map_eq_some_iff.1 h
    obtain ⟨x, n⟩ := p
    exact hp2 ▸ norm_good hp1 hg hf
end Tm

def ReadNPost (w : World) (B : Nat) (l : List UInt8) (e : Ending) (w' : World) : Prop :=
  ∃ v, e = .returned (.tuple #[v, .bool (Tm.normOf l).isSome]) ∧ Below w.heap.size w w' ∧ ∀ u, Tm.normOf l = some u → TV w' B u v

theorem readNormal_any (w : World) (B : Nat) (l : List UInt8) (hB : B ≤ w.heap.size) (hl : l.length ≤ 1000000000) :
    Calls Tryz.prog 26 #[str l] w (ReadNPost w B l) := by
  have hread := readTerm_any w B l hB hl
  unfold ParsePost at hread
  unfold ReadNPost
  cases hp : Tm.parse l with
  | none =>
    have hfin : Tm.normOf l = none := by simp [Tm.normOf, hp]
    rw [hfin]
    rw [hp] at hread
    clear hp hfin
    go_enter Tryz.func26, Tryz.ntmps26
    go_wp2_with (go_at_call 46; refine hread.mono ?_; rintro e w1 ⟨v1, rfl, hb1, hv1⟩; clear hv1)
    go_ret2
    exact ⟨_, rfl, hb1, fun u h => by cases h⟩
  | some t =>
    obtain ⟨hg, hf, hs, _, _⟩ := Tm.parse_facts hp
    have hfin : Tm.normOf l = if (t.many 6000).1.normal = true then some (t.many 6000).1 else none := by
      simp only [Tm.normOf, hp, Tm.norm_normal]
      split <;> rfl
    rw [hfin]
    rw [hp] at hread
    clear hp hfin
    have hnorm := fun W v h hB => normalTerm_any W B t v h hB hf
    unfold NormPost at hnorm
    generalize t.many 6000 = m at *
    obtain ⟨u, c⟩ := m
    simp only at hnorm ⊢
    generalize u.normal = b at *
    obtain ⟨r, hr⟩ : ∃ r, r = if b = true then some u else none := ⟨_, rfl⟩
    rw [← hr]
    have HR := Lib.hid hr
    clear hr
    go_enter Tryz.func26, Tryz.ntmps26
    go_wp2_with fail
    refine hread.mono ?_
    rintro e w1 ⟨v1, rfl, hb1, hv1⟩
    have hcall := hnorm w1 v1 (hv1 t rfl) (Nat.le_trans hB hb1.size)
    clear hv1 hread hnorm
    go_wp2_with (go_at_call 47; refine hcall.mono ?_; rintro e w2 ⟨v2, rfl, hb2, hv2⟩; have HV := Lib.hid hv2; clear hv2)
    go_ret2
    refine ⟨_, by rw [HR.out]; cases b <;> rfl, below_trans hb1 hb2, fun u' h => ?_⟩
    rw [HR.out] at h
    cases b
    · simp at h
    · simp at h; rw [← h]; exact HV.out
end Go.Proofs.YtjomocjlnjgkeaaGreat

namespace Go.Proofs.YtjomocjlnjgkeaaGreat
open Go.RowKit

set_option maxHeartbeats 1000000
set_option maxRecDepth 100000

/-- The number of a numeral, in at most f looks. -/
def Tm.rd : Nat → Tm → Option Nat
  | 0, _ => none
  | f + 1, t => if t.text = Tm.text Tm.I then some 0 else match t.parts with
    | some (m, r) => if m.text = Tm.text Tm.no then (Tm.rd f r).map (· + 1) else none
    | none => none

def IntRes (w : World) (r : Option Nat) (e : Ending) (w' : World) : Prop := e = .returned (.tuple #[.int .i64 ((r.getD 0 : Nat) : Int), .bool r.isSome]) ∧ Below w.heap.size w w'

theorem numtext_I (W : World) (v : Value) (h : TV W 0 (Tm.num 0) v) : Calls Tryz.prog 32 #[v] W fun e w' => e = .returned (str (Tm.text Tm.I)) ∧ Below W.heap.size W w' := textOf_any W 0 Tm.I v h rfl (by decide)
theorem numtext_no (W : World) (v : Value) (h : TV W 0 Tm.no v) : Calls Tryz.prog 32 #[v] W fun e w' => e = .returned (str (Tm.text Tm.no)) ∧ Below W.heap.size W w' := textOf_any W 0 Tm.no v h rfl (by decide)

theorem numberOf_any (w : World) (t : Tm) (v : Value) (h : TV w 0 t v) (hg : t.good = true) (hz : t.size ≤ 3000) :
    Calls Tryz.prog 27 #[v] w (IntRes w (Tm.rd 61 t)) := by
  have hstart : ∃ (k : Nat) (u : Tm), Value.int .i64 0 = .int .i64 k ∧ k ≤ 61 ∧ Hid (TV w 0 u v) ∧ u.good = true ∧ u.size ≤ 3000 ∧ Below w.heap.size w w ∧ Hid (Tm.rd 61 t = (Tm.rd (61 - k) u).map (· + k)) :=
    ⟨0, t, rfl, by omega, h, hg, hz, Below.refl _ _, by show _ = _; simp⟩
  generalize hR : Tm.rd 61 t = R at *
  clear hR h hg hz
  go_enter Tryz.func27, Tryz.ntmps27
  go_wp2_with fail
  go_loopw [0, 8] (fun v i wr => ∃ (k : Nat) (u : Tm), i = .int .i64 k ∧ k ≤ 61 ∧ Hid (TV wr 0 u v) ∧ u.good = true ∧ u.size ≤ 3000 ∧ Below w.heap.size w wr ∧ Hid (R = (Tm.rd (61 - k) u).map (· + k))) (fun _ i _ => 61 - (intOf i).toNat)
  case atStart => exact hstart
  case round =>
    clear hstart
    obtain ⟨k, u, rfl, hk, hu, hg, hz, hb, hR⟩ := hrel
    by_cases hlt : k < 61
    · have htl := Tm.text_le u hg
      have h1 := textOf_any wr 0 u _ hu.out hg (by omega)
      have h2 := fun W => numeral_any W 0 0 (Nat.zero_le _) (by omega)
      have h3 := numtext_I
      have h4 := fun W => bit_any W 0 false (Nat.zero_le _)
      have h5 := numtext_no
      unfold TermPost at h2 h4
      simp only [Bool.false_eq_true, if_false] at h4
      have hrd : Tm.rd (61 - k) u = if u.text = Tm.text Tm.I then some 0 else match u.parts with
          | some (m, r) => if m.text = Tm.text Tm.no then (Tm.rd (61 - (k + 1)) r).map (· + 1) else none
          | none => none := by
        rw [show 61 - k = (61 - (k + 1)) + 1 by omega]; rfl
      rw [hrd] at hR
      clear hrd
      by_cases hI : u.text = Tm.text Tm.I
      · rw [if_pos hI] at hR
        have HR : Hid (R = some k) := by show _ = _; rw [hR.out]; simp
        rw [hI] at h1
        generalize Tm.text Tm.I = xi at *
        clear hR hI h4 h5
        go_wp2_with fail
        refine h1.mono ?_
        rintro e w1 ⟨rfl, hb1⟩
        go_wp2_with fail
        refine (h2 _).mono ?_
        rintro e w2 ⟨v2, rfl, hb2, ht2⟩
        have h3' := h3 _ _ ht2
        clear ht2
        go_wp2_with (go_at_call 32; refine h3'.mono ?_; rintro e w3 ⟨rfl, hb3⟩)
        go_ret2
        exact ⟨by rw [HR.out]; rfl, below_trans hb (below_trans (below_trans hb1 hb2) hb3)⟩
      · rw [if_neg hI] at hR
        have hne : (u.text == Tm.text Tm.I) = false := beq_eq_false_iff_ne.2 hI
        have hparts := fun W (hW : Below wr.heap.size wr W) => parts_any W 0 u _ (hu.out.below hW) hg hz
        unfold PartsPost at hparts
        cases hpt : u.parts with
        | none =>
          rw [hpt] at hparts hR
          have HR : Hid (R = none) := by show _ = _; rw [hR.out]; rfl
          generalize Tm.text Tm.I = xi at *
          generalize u.text = xu at *
          clear hR hI h4 h5 hpt
          go_wp2_with fail
          refine h1.mono ?_
          rintro e w1 ⟨rfl, hb1⟩
          go_wp2_with fail
          refine (h2 _).mono ?_
          rintro e w2 ⟨v2, rfl, hb2, ht2⟩
          have h3' := h3 _ _ ht2
          clear ht2
          go_wp2_with fail
          refine h3'.mono ?_
          rintro e w3 ⟨rfl, hb3⟩
          have hb13 := below_trans (below_trans hb1 hb2) hb3
          have h6 := hparts w3 hb13
          clear hparts h3'
          go_wp2_with (go_at_call 49; refine h6.mono ?_; rintro e w4 ⟨v4, v5, rfl, hb4, hv4⟩; clear hv4)
          go_ret2
          exact ⟨by rw [HR.out]; rfl, below_trans hb (below_trans hb13 hb4)⟩
        | some p =>
          obtain ⟨m, r⟩ := p
          obtain ⟨hgm, hgr, hzm, hzr⟩ := parts_good hpt hg
          have htm := Tm.text_le m hgm
          have h7 := fun W v (h : TV W 0 m v) => textOf_any W 0 m v h hgm (by omega)
          rw [hpt] at hparts hR
          simp only at hR
          clear hpt
          obtain ⟨q, hq⟩ : ∃ q, q = (m.text == Tm.text Tm.no) := ⟨_, rfl⟩
          have hR2 : Hid (R = if q = true then ((Tm.rd (61 - (k + 1)) r).map (· + 1)).map (· + k) else none) := by
            show _ = _
            rw [hR.out, hq]
            by_cases h : m.text = Tm.text Tm.no <;> simp [h]
          have hq' := hq.symm
          generalize Tm.text Tm.I = xi at *
          generalize u.text = xu at *
          generalize Tm.text Tm.no = xn at *
          generalize m.text = xm at *
          clear hR hI hq
          cases q
          · have HR : Hid (R = none) := by show _ = _; rw [hR2.out]; rfl
            clear hR2
            go_wp2_with fail
            refine h1.mono ?_
            rintro e w1 ⟨rfl, hb1⟩
            go_wp2_with fail
            refine (h2 _).mono ?_
            rintro e w2 ⟨v2, rfl, hb2, ht2⟩
            have h3' := h3 _ _ ht2
            clear ht2
            go_wp2_with fail
            refine h3'.mono ?_
            rintro e w3 ⟨rfl, hb3⟩
            have hb13 := below_trans (below_trans hb1 hb2) hb3
            have h6 := hparts w3 hb13
            clear hparts h3'
            go_wp2_with fail
            refine h6.mono ?_
            rintro e w4 ⟨v4, v5, rfl, hb4, hv4⟩
            have h8 := h7 w4 v4 (hv4 m r rfl).1
            clear hv4 h6
            go_wp2_with fail
            refine h8.mono ?_
            rintro e w5 ⟨rfl, hb5⟩
            go_wp2_with fail
            refine (h4 _).mono ?_
            rintro e w6 ⟨v6, rfl, hb6, ht6⟩
            have h9 := h5 _ _ ht6
            clear ht6 h8
            go_wp2_with fail
            refine h9.mono ?_
            rintro e w7 ⟨rfl, hb7⟩
            go_wp2_with fail
            go_ret2
            exact ⟨by rw [HR.out]; rfl, below_trans hb (below_trans (below_trans hb13 hb4) (below_trans (below_trans hb5 hb6) hb7))⟩
          · have HR : Hid (R = (Tm.rd (61 - (k + 1)) r).map (· + (k + 1))) := by
              show _ = _
              rw [hR2.out, if_pos rfl, Option.map_map]
              congr 1
              funext i
              simp only [Function.comp]
              omega
            simp only [beq_iff_eq] at hq'
            subst hq'
            clear hR2
            go_wp2_with fail
            refine h1.mono ?_
            rintro e w1 ⟨rfl, hb1⟩
            go_wp2_with fail
            refine (h2 _).mono ?_
            rintro e w2 ⟨v2, rfl, hb2, ht2⟩
            have h3' := h3 _ _ ht2
            clear ht2
            go_wp2_with fail
            refine h3'.mono ?_
            rintro e w3 ⟨rfl, hb3⟩
            have hb13 := below_trans (below_trans hb1 hb2) hb3
            have h6 := hparts w3 hb13
            clear hparts h3'
            go_wp2_with fail
            refine h6.mono ?_
            rintro e w4 ⟨v4, v5, rfl, hb4, hv4⟩
            have h8 := h7 w4 v4 (hv4 m r rfl).1
            have HV5 := Lib.hid (hv4 m r rfl).2
            clear hv4 h6
            go_wp2_with fail
            refine h8.mono ?_
            rintro e w5 ⟨rfl, hb5⟩
            go_wp2_with fail
            refine (h4 _).mono ?_
            rintro e w6 ⟨v6, rfl, hb6, ht6⟩
            have h9 := h5 _ _ ht6
            clear ht6 h8
            go_wp2_with fail
            refine h9.mono ?_
            rintro e w7 ⟨rfl, hb7⟩
            go_wp2_with fail
            go_roundw
            case rel => exact ⟨k + 1, r, by go_num, by omega, HV5.out.below (below_trans (below_trans hb5 hb6) hb7), hgr, by omega, below_trans hb (below_trans (below_trans hb13 hb4) (below_trans (below_trans hb5 hb6) hb7)), HR⟩
            case measure => simp [intOf]; omega
    · obtain rfl : k = 61 := by omega
      have HR : Hid (R = none) := by show _ = _; rw [hR.out]; rfl
      clear hR
      go_wp2_with fail
      go_ret2
      exact ⟨by rw [HR.out]; rfl, hb⟩

def pNumRead (l : List UInt8) : Option Nat := (Tm.normOf l).bind (Tm.rd 61)

theorem impl_numread (w : World) (l : List UInt8) (hl : l.length ≤ 1000000000) : Calls Tryz.prog 8 #[str l] w (IntRes w (pNumRead l)) := by
  have hread := readNormal_any w 0 l (Nat.zero_le _) hl
  unfold ReadNPost at hread
  unfold pNumRead
  cases hp : Tm.normOf l with
  | none =>
    rw [hp] at hread
    clear hp
    go_enter Tryz.func8, Tryz.ntmps8
    go_wp2_with (go_at_call 26; refine hread.mono ?_; rintro e w1 ⟨v1, rfl, hb1, hv1⟩; clear hv1)
    go_ret2
    exact ⟨rfl, hb1⟩
  | some u =>
    obtain ⟨hg, hf⟩ := Tm.normOf_good hp
    have hs := fits_size hf
    rw [hp] at hread
    clear hp
    have hnum := fun W v h => numberOf_any W u v h hg (by omega)
    unfold IntRes at hnum
    simp only [Option.bind_some]
    generalize Tm.rd 61 u = r at *
    go_enter Tryz.func8, Tryz.ntmps8
    go_wp2_with fail
    refine hread.mono ?_
    rintro e w1 ⟨v1, rfl, hb1, hv1⟩
    have hcall := hnum w1 v1 (hv1 u rfl)
    clear hv1 hread hnum
    go_wp2_with (go_at_call 27; refine hcall.mono ?_; rintro e w2 ⟨rfl, hb2⟩)
    go_ret2
    exact ⟨rfl, below_trans hb1 hb2⟩
end Go.Proofs.YtjomocjlnjgkeaaGreat

namespace Go.Proofs.YtjomocjlnjgkeaaGreat
open Go.RowKit

set_option maxHeartbeats 2000000
set_option maxRecDepth 100000

def numI : Option Nat → Int
  | some n => (n : Int)
  | none => -1

theorem snumtext_I (W : World) (v : Value) (h : ST W Tm.I v) : Calls Tryz.prog 42 #[v] W fun e w' => e = .returned (str (Tm.text Tm.I)) ∧ After W w' := h.text rfl (by decide)
theorem snumtext_no (W : World) (v : Value) (h : ST W Tm.no v) : Calls Tryz.prog 42 #[v] W fun e w' => e = .returned (str (Tm.text Tm.no)) ∧ After W w' := h.text rfl (by decide)

theorem s_rdnum (w : World) (t : Tm) (s : List UInt8) (ao : Option Addr) (m c : Nat) (h : ST w t (.agg #[str s, .slice ao m c])) (hg : t.good = true) (hz : t.size ≤ 3000) :
    Calls Tryz.prog 30 #[.agg #[str s, .slice ao m c]] w fun e w' => e = .returned (.int .i64 (numI (Tm.rd 61 t))) ∧ After w w' := by
  have hA := After.new w (.cells #[str s, .slice ao m c] 49)
  have hstart : ∃ (k : Nat) (u : Tm) (s' : List UInt8) (ao' : Option Addr) (m' c' : Nat), Value.int .i64 0 = .int .i64 k ∧ k ≤ 60 ∧ Hid ((w.alloc (.cells #[str s, .slice ao m c] 49)).heap[w.heap.size]? = some (.cells #[str s', .slice ao' m' c'] 49 (0, 0))) ∧ Hid (ST (w.alloc (.cells #[str s, .slice ao m c] 49)) u (.agg #[str s', .slice ao' m' c'])) ∧ u.good = true ∧ u.size ≤ 3000 ∧ After w (w.alloc (.cells #[str s, .slice ao m c] 49)) ∧ Hid (Tm.rd 61 t = (Tm.rd (61 - k) u).map (· + k)) :=
    ⟨0, t, s, ao, m, c, rfl, by omega, heap_new' _ _, h.later hA, hg, hz, hA, by show _ = _; simp⟩
  generalize hR : Tm.rd 61 t = R at *
  clear hR h hg hz hA
  go_enter Tryz.func30, Tryz.ntmps30
  go_wp2_with fail
  go_loopw [3] (fun i wr => ∃ (k : Nat) (u : Tm) (s : List UInt8) (ao : Option Addr) (m c : Nat), i = .int .i64 k ∧ k ≤ 60 ∧ Hid (wr.heap[w.heap.size]? = some (.cells #[str s, .slice ao m c] 49 (0, 0))) ∧ Hid (ST wr u (.agg #[str s, .slice ao m c])) ∧ u.good = true ∧ u.size ≤ 3000 ∧ After w wr ∧ Hid (R = (Tm.rd (61 - k) u).map (· + k))) (fun i _ => 60 - (intOf i).toNat)
  case atStart => exact hstart
  case round =>
    clear hstart
    obtain ⟨k, u, s, ao, m, c, rfl, hk, hbox, hu, hg, hz, hA, hR⟩ := hrel
    obtain ⟨k0, k1, _, _, l1⟩ := pair_facts hbox.out (After.refl _)
    have htl := Tm.text_le u hg
    have h1 := hu.out.text hg (by omega)
    have h2 := s_i
    have h3 := snumtext_I
    have h4 := s_false
    have h5 := snumtext_no
    unfold TreePost at h2 h4
    have hrd : Tm.rd (61 - k) u = if u.text = Tm.text Tm.I then some 0 else match u.parts with
        | some (m, r) => if m.text = Tm.text Tm.no then (Tm.rd (61 - (k + 1)) r).map (· + 1) else none
        | none => none := by
      rw [show 61 - k = (61 - (k + 1)) + 1 by omega]; rfl
    rw [hrd] at hR
    clear hrd
    by_cases hI : u.text = Tm.text Tm.I
    · rw [if_pos hI] at hR
      have HR : Hid (R = some k) := by show _ = _; rw [hR.out]; simp
      rw [hI] at h1
      generalize Tm.text Tm.I = xi at *
      clear hR hI h4 h5
      go_wp2_with fail
      refine h1.mono ?_
      rintro e w1 ⟨rfl, hb1⟩
      go_wp2_with fail
      refine (h2 _).mono ?_
      rintro e w2 ⟨s2, ao2, n2, c2, rfl, hb2, ht2⟩
      have h3' := h3 _ _ ht2
      clear ht2
      go_wp2_with (go_at_call 42; refine h3'.mono ?_; rintro e w3 ⟨rfl, hb3⟩)
      go_ret
      exact ⟨by rw [HR.out]; rfl, hA.trans ((hb1.trans hb2).trans hb3)⟩
    · rw [if_neg hI] at hR
      have hne : (u.text == Tm.text Tm.I) = false := beq_eq_false_iff_ne.2 hI
      have hparts := fun W (hW : After wr W) => s_parts W u _ (hu.out.later hW) hg hz
      unfold SPartsPost at hparts
      cases hpt : u.parts with
      | none =>
        rw [hpt] at hparts hR
        have HR : Hid (R = none) := by show _ = _; rw [hR.out]; rfl
        generalize Tm.text Tm.I = xi at *
        generalize u.text = xu at *
        clear hR hI h4 h5 hpt
        go_wp2_with fail
        refine h1.mono ?_
        rintro e w1 ⟨rfl, hb1⟩
        go_wp2_with fail
        refine (h2 _).mono ?_
        rintro e w2 ⟨s2, ao2, n2, c2, rfl, hb2, ht2⟩
        have h3' := h3 _ _ ht2
        clear ht2
        go_wp2_with fail
        refine h3'.mono ?_
        rintro e w3 ⟨rfl, hb3⟩
        have hb13 := (After.trans hb1 hb2).trans hb3
        have h6 := hparts w3 hb13
        clear hparts h3' k0 k1 l1
        obtain ⟨k0, k1, _, _, l1⟩ := pair_facts hbox.out hb13
        go_wp2_with (go_at_call 56; refine h6.mono ?_; rintro e w4 ⟨s4, ao4, n4, c4, s5, ao5, n5, c5, rfl, hb4, ht4⟩; clear ht4)
        go_ret
        exact ⟨by rw [HR.out]; rfl, hA.trans (((hb13.trans hb4).alloc _).alloc _)⟩
      | some p =>
        obtain ⟨mm, r⟩ := p
        obtain ⟨hgm, hgr, hzm, hzr⟩ := parts_good hpt hg
        have htm := Tm.text_le mm hgm
        have h7 := fun W v (h : ST W mm v) => h.text hgm (by omega)
        rw [hpt] at hparts hR
        simp only at hR
        clear hpt
        obtain ⟨q, hq⟩ : ∃ q, q = (mm.text == Tm.text Tm.no) := ⟨_, rfl⟩
        have hR2 : Hid (R = if q = true then ((Tm.rd (61 - (k + 1)) r).map (· + 1)).map (· + k) else none) := by
          show _ = _
          rw [hR.out, hq]
          by_cases h : mm.text = Tm.text Tm.no <;> simp [h]
        have hq' := hq.symm
        generalize Tm.text Tm.I = xi at *
        generalize u.text = xu at *
        generalize Tm.text Tm.no = xn at *
        generalize mm.text = xm at *
        clear hR hI hq
        by_cases hkq : q = true ∧ k < 60
        · obtain ⟨rfl, hk60⟩ := hkq
          have HR : Hid (R = (Tm.rd (61 - (k + 1)) r).map (· + (k + 1))) := by
            show _ = _
            rw [hR2.out, if_pos rfl, Option.map_map]
            congr 1
            funext i
            simp only [Function.comp]
            omega
          simp only [beq_iff_eq] at hq'
          subst hq'
          clear hR2
          go_wp2_with fail
          refine h1.mono ?_
          rintro e w1 ⟨rfl, hb1⟩
          go_wp2_with fail
          refine (h2 _).mono ?_
          rintro e w2 ⟨s2, ao2, n2, c2, rfl, hb2, ht2⟩
          have h3' := h3 _ _ ht2
          clear ht2
          go_wp2_with fail
          refine h3'.mono ?_
          rintro e w3 ⟨rfl, hb3⟩
          have hb13 := (After.trans hb1 hb2).trans hb3
          have h6 := hparts w3 hb13
          clear hparts h3' k0 k1 l1
          obtain ⟨k0, k1, _, _, l1⟩ := pair_facts hbox.out hb13
          go_wp2_with fail
          refine h6.mono ?_
          rintro e w4 ⟨s4, ao4, n4, c4, s5, ao5, n5, c5, rfl, hb4, ht4⟩
          obtain ⟨hm4, hr4⟩ := ht4 mm r rfl
          have hX := (After.new w4 (.cells #[str s4, .slice ao4 n4 c4] 49)).alloc (.cells #[str s5, .slice ao5 n5 c5] 49)
          have HB5 := Lib.hid (heap_new2 w4 _ (.cells #[str s4, .slice ao4 n4 c4] 49) (.cells #[str s5, .slice ao5 n5 c5] 49) rfl)
          have h8 := h7 _ _ (hm4.later hX)
          have HR4 := Lib.hid (hr4.later hX)
          have hwX := (hb13.trans hb4).trans hX
          clear ht4 h6 hm4 hr4 k0 k1 l1
          go_wp2_with fail
          refine h8.mono ?_
          rintro e w5 ⟨rfl, hb5⟩
          go_wp2_with fail
          refine (h4 _).mono ?_
          rintro e w6 ⟨s6, ao6, n6, c6, rfl, hb6, ht6⟩
          have h9 := h5 _ _ ht6
          clear ht6 h8
          go_wp2_with fail
          refine h9.mono ?_
          rintro e w7 ⟨rfl, hb7⟩
          have hb57 := (After.trans hb5 hb6).trans hb7
          have hw7 := hwX.trans hb57
          obtain ⟨k0, k1, z2, z3, l1⟩ := pair_facts hbox.out hw7
          obtain ⟨b0, b1, _, _, l5⟩ := pair_facts HB5.out hb57
          clear h9
          go_wp2_with fail
          go_roundw
          case rel =>
            have hbox7 := hw7.heap hbox.out
            exact ⟨k + 1, r, s5, ao5, n5, c5, by go_num, by omega, heap_sets2 hbox7, (HR4.out.later hb57).sets2 hbox7, hgr, by omega, Below.setCell (Below.setCell (hA.trans hw7) (by simp) _) (by simp) _, HR⟩
          case measure => simp [intOf]; omega
        · have HR : Hid (R = none) := by
            show _ = _
            rw [hR2.out]
            cases q
            · rfl
            · rw [if_pos rfl, show 61 - (k + 1) = 0 by have : ¬ k < 60 := fun h => hkq ⟨rfl, h⟩; omega]; rfl
          have hkq' : q = true → ¬ (k : Int) < 60 := fun h h' => hkq ⟨h, by omega⟩
          clear hR2 hkq
          cases q
          · clear hkq'
            go_wp2_with fail
            refine h1.mono ?_
            rintro e w1 ⟨rfl, hb1⟩
            go_wp2_with fail
            refine (h2 _).mono ?_
            rintro e w2 ⟨s2, ao2, n2, c2, rfl, hb2, ht2⟩
            have h3' := h3 _ _ ht2
            clear ht2
            go_wp2_with fail
            refine h3'.mono ?_
            rintro e w3 ⟨rfl, hb3⟩
            have hb13 := (After.trans hb1 hb2).trans hb3
            have h6 := hparts w3 hb13
            clear hparts h3' k0 k1 l1
            obtain ⟨k0, k1, _, _, l1⟩ := pair_facts hbox.out hb13
            go_wp2_with fail
            refine h6.mono ?_
            rintro e w4 ⟨s4, ao4, n4, c4, s5, ao5, n5, c5, rfl, hb4, ht4⟩
            obtain ⟨hm4, hr4⟩ := ht4 mm r rfl
            have hX := (After.new w4 (.cells #[str s4, .slice ao4 n4 c4] 49)).alloc (.cells #[str s5, .slice ao5 n5 c5] 49)
            have h8 := h7 _ _ (hm4.later hX)
            have hwX := (hb13.trans hb4).trans hX
            clear ht4 h6 hm4 hr4 k0 k1 l1
            go_wp2_with fail
            refine h8.mono ?_
            rintro e w5 ⟨rfl, hb5⟩
            go_wp2_with fail
            refine (h4 _).mono ?_
            rintro e w6 ⟨s6, ao6, n6, c6, rfl, hb6, ht6⟩
            have h9 := h5 _ _ ht6
            clear ht6 h8
            go_wp2_with (go_at_call 42; refine h9.mono ?_; rintro e w7 ⟨rfl, hb7⟩)
            go_ret
            exact ⟨by rw [HR.out]; rfl, hA.trans (hwX.trans ((After.trans hb5 hb6).trans hb7))⟩
          · simp only [beq_iff_eq] at hq'
            subst hq'
            obtain rfl : k = 60 := by have := hkq' rfl; omega
            clear hkq'
            go_wp2_with fail
            refine h1.mono ?_
            rintro e w1 ⟨rfl, hb1⟩
            go_wp2_with fail
            refine (h2 _).mono ?_
            rintro e w2 ⟨s2, ao2, n2, c2, rfl, hb2, ht2⟩
            have h3' := h3 _ _ ht2
            clear ht2
            go_wp2_with fail
            refine h3'.mono ?_
            rintro e w3 ⟨rfl, hb3⟩
            have hb13 := (After.trans hb1 hb2).trans hb3
            have h6 := hparts w3 hb13
            clear hparts h3' k0 k1 l1
            obtain ⟨k0, k1, _, _, l1⟩ := pair_facts hbox.out hb13
            go_wp2_with fail
            refine h6.mono ?_
            rintro e w4 ⟨s4, ao4, n4, c4, s5, ao5, n5, c5, rfl, hb4, ht4⟩
            obtain ⟨hm4, hr4⟩ := ht4 mm r rfl
            have hX := (After.new w4 (.cells #[str s4, .slice ao4 n4 c4] 49)).alloc (.cells #[str s5, .slice ao5 n5 c5] 49)
            have h8 := h7 _ _ (hm4.later hX)
            have hwX := (hb13.trans hb4).trans hX
            clear ht4 h6 hm4 hr4 k0 k1 l1
            go_wp2_with fail
            refine h8.mono ?_
            rintro e w5 ⟨rfl, hb5⟩
            go_wp2_with fail
            refine (h4 _).mono ?_
            rintro e w6 ⟨s6, ao6, n6, c6, rfl, hb6, ht6⟩
            have h9 := h5 _ _ ht6
            clear ht6 h8
            go_wp2_with (go_at_call 42; refine h9.mono ?_; rintro e w7 ⟨rfl, hb7⟩)
            go_ret
            exact ⟨by rw [HR.out]; rfl, hA.trans (hwX.trans ((After.trans hb5 hb6).trans hb7))⟩

def SInt (w : World) (r : Option Nat) (e : Ending) (w' : World) : Prop := e = .returned (.tuple #[.int .i64 ((r.getD 0 : Nat) : Int), .bool r.isSome]) ∧ After w w'

theorem spec_numread (w : World) (l : List UInt8) (hl : l.length ≤ 1000000000) : Calls Tryz.prog 9 #[str l] w (SInt w (pNumRead l)) := by
  have hterm := s_term w l hl
  unfold STermPost at hterm
  unfold pNumRead
  cases hp : Tm.parse l with
  | none =>
    have hfin : Tm.normOf l = none := by simp [Tm.normOf, hp]
    rw [hfin]
    rw [hp] at hterm
    clear hp hfin
    go_enter Tryz.func9, Tryz.ntmps9
    go_wp2_with (go_at_call 28; refine hterm.mono ?_; rintro e w1 ⟨s1, ao1, n1, c1, rfl, hb1, ht1⟩; clear ht1)
    go_ret2
    exact ⟨rfl, After.alloc hb1 _⟩
  | some t =>
    obtain ⟨hg, hf, hs, _, _⟩ := Tm.parse_facts hp
    rw [hp] at hterm
    obtain ⟨hgm, hfm⟩ := Tm.many_good 6000 t hg hf
    have hsm := fits_size hfm
    have hnorm := fun W s ao m c h => s_normal W t s ao m c h hg hf
    have hfin : Tm.normOf l = if (t.many 6000).1.step.isNone = true then some (t.many 6000).1 else none := by
      simp only [Tm.normOf, hp, Tm.norm]
      cases (t.many 6000).1.step <;> simp
    rw [hfin]
    clear hp hfin
    unfold SNormPost at hnorm
    generalize (t.many 6000).1 = u at *
    generalize u.step.isNone = b at *
    have hread := fun W s ao m c h => s_rdnum W u s ao m c h hgm (by omega)
    obtain ⟨r, hr⟩ : ∃ r, r = Tm.rd 61 u := ⟨_, rfl⟩
    rw [← hr] at hread
    obtain ⟨z, hz⟩ : ∃ z, z = ((if b = true then some u else none).bind (Tm.rd 61)) := ⟨_, rfl⟩
    rw [← hz]
    have HZ : Hid (z = if b = true then r else none) := by show _ = _; rw [hz, hr]; cases b <;> rfl
    clear hz hr
    have hcases : (∃ n : Nat, r = some n) ∨ r = none := by cases r with
      | none => exact Or.inr rfl
      | some n => exact Or.inl ⟨n, rfl⟩
    rcases hcases with ⟨n, rfl⟩ | rfl
    all_goals
      simp only [numI] at hread
      cases b
      all_goals
        go_enter Tryz.func9, Tryz.ntmps9
        go_wp2_with fail
        refine hterm.mono ?_
        rintro e w1 ⟨s1, ao1, n1, c1, rfl, hb1, ht1⟩
        have hcall := hnorm _ _ _ _ _ ((ht1 t rfl).later (After.new w1 (.cells #[str s1, .slice ao1 n1 c1] 49)))
        have hw1 := After.alloc hb1 (.cells #[str s1, .slice ao1 n1 c1] 49)
        clear ht1 hterm hnorm
        go_wp2_with fail
        refine hcall.mono ?_
        rintro e w2 ⟨s2, ao2, n2, c2, rfl, hb2, ht2⟩
        have hcall2 := hread _ _ _ _ _ (ht2.later (After.new w2 (.cells #[str s2, .slice ao2 n2 c2] 49)))
        have hw2 := After.alloc (hw1.trans hb2) (.cells #[str s2, .slice ao2 n2 c2] 49)
        clear ht2 hcall hread
        go_wp2_with (go_at_call 30; refine hcall2.mono ?_; rintro e w3 ⟨rfl, hb3⟩)
        go_ret2
        exact ⟨by rw [HZ.out]; rfl, hw2.trans hb3⟩

end Go.Proofs.YtjomocjlnjgkeaaGreat
