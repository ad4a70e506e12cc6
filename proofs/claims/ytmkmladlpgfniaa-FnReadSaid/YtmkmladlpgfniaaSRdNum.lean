/-
  NumberRead of the model, and the law.
-/
import Derived.Test.YtmkmladlpgfniaaPkSParts
import Derived.Test.YtmkmladlpgfniaaRdNum
namespace Go.Proofs.Ytmkmladlpgfniaa
open Go.RowKit

set_option maxHeartbeats 2000000
set_option maxRecDepth 100000

def numI : Option Nat → Int
  | some n => (n : Int)
  | none => -1

theorem snumtext_I (W : World) (v : Value) (h : ST W Tm.I v) : Calls Try.prog 47 #[v] W fun e w' => e = .returned (str (Tm.text Tm.I)) ∧ After W w' := h.text rfl (by decide)
theorem snumtext_no (W : World) (v : Value) (h : ST W Tm.no v) : Calls Try.prog 47 #[v] W fun e w' => e = .returned (str (Tm.text Tm.no)) ∧ After W w' := h.text rfl (by decide)

theorem s_rdnum (w : World) (t : Tm) (s : List UInt8) (ao : Option Addr) (m c : Nat) (h : ST w t (.agg #[str s, .slice ao m c])) (hg : t.good = true) (hz : t.size ≤ 3000) :
    Calls Try.prog 57 #[.agg #[str s, .slice ao m c]] w fun e w' => e = .returned (.int .i64 (numI (Tm.rd 61 t))) ∧ After w w' := by
  have hA := After.new w (.cells #[str s, .slice ao m c] 46)
  have hstart : ∃ (k : Nat) (u : Tm) (s' : List UInt8) (ao' : Option Addr) (m' c' : Nat), Value.int .i64 0 = .int .i64 k ∧ k ≤ 60 ∧ Hid ((w.alloc (.cells #[str s, .slice ao m c] 46)).heap[w.heap.size]? = some (.cells #[str s', .slice ao' m' c'] 46 (0, 0))) ∧ Hid (ST (w.alloc (.cells #[str s, .slice ao m c] 46)) u (.agg #[str s', .slice ao' m' c'])) ∧ u.good = true ∧ u.size ≤ 3000 ∧ After w (w.alloc (.cells #[str s, .slice ao m c] 46)) ∧ Hid (Tm.rd 61 t = (Tm.rd (61 - k) u).map (· + k)) :=
    ⟨0, t, s, ao, m, c, rfl, by omega, heap_new' _ _, h.later hA, hg, hz, hA, by show _ = _; simp⟩
  generalize hR : Tm.rd 61 t = R at *
  clear hR h hg hz hA
  go_enter Try.func57, Try.ntmps57
  go_wp2_with fail
  go_loopw [3] (fun i wr => ∃ (k : Nat) (u : Tm) (s : List UInt8) (ao : Option Addr) (m c : Nat), i = .int .i64 k ∧ k ≤ 60 ∧ Hid (wr.heap[w.heap.size]? = some (.cells #[str s, .slice ao m c] 46 (0, 0))) ∧ Hid (ST wr u (.agg #[str s, .slice ao m c])) ∧ u.good = true ∧ u.size ≤ 3000 ∧ After w wr ∧ Hid (R = (Tm.rd (61 - k) u).map (· + k))) (fun i _ => 60 - (intOf i).toNat)
  case atStart => exact hstart
  case round =>
    clear hstart
    obtain ⟨k, u, s, ao, m, c, rfl, hk, hbox, hu, hg, hz, hA, hR⟩ := hrel
    obtain ⟨k0, k1, _, _, l1⟩ := pair_facts hbox.out (After.refl _)
    have htl := Tm.text_le u hg
    have h1 := hu.out.text hg (by omega)
    have h2 := s_i
    have h3 := snumtext_I
    have h4 := s_false
    have h5 := snumtext_no
    unfold TreePost at h2 h4
    have hrd : Tm.rd (61 - k) u = if u.text = Tm.text Tm.I then some 0 else match u.parts with
        | some (m, r) => if m.text = Tm.text Tm.no then (Tm.rd (61 - (k + 1)) r).map (· + 1) else none
        | none => none := by
      rw [show 61 - k = (61 - (k + 1)) + 1 by omega]; rfl
    rw [hrd] at hR
    clear hrd
    by_cases hI : u.text = Tm.text Tm.I
    · rw [if_pos hI] at hR
      have HR : Hid (R = some k) := by show _ = _; rw [hR.out]; simp
      rw [hI] at h1
      generalize Tm.text Tm.I = xi at *
      clear hR hI h4 h5
      go_wp2_with fail
      refine h1.mono ?_
      rintro e w1 ⟨rfl, hb1⟩
      go_wp2_with fail
      refine (h2 _).mono ?_
      rintro e w2 ⟨s2, ao2, n2, c2, rfl, hb2, ht2⟩
      have h3' := h3 _ _ ht2
      clear ht2
      go_wp2_with (go_at_call 47; refine h3'.mono ?_; rintro e w3 ⟨rfl, hb3⟩)
      go_ret
      exact ⟨by rw [HR.out]; rfl, hA.trans ((hb1.trans hb2).trans hb3)⟩
    · rw [if_neg hI] at hR
      have hne : (u.text == Tm.text Tm.I) = false := beq_eq_false_iff_ne.2 hI
      have hparts := fun W (hW : After wr W) => s_parts W u _ (hu.out.later hW) hg hz
      unfold SPartsPost at hparts
      cases hpt : u.parts with
      | none =>
        rw [hpt] at hparts hR
        have HR : Hid (R = none) := by show _ = _; rw [hR.out]; rfl
        generalize Tm.text Tm.I = xi at *
        generalize u.text = xu at *
        clear hR hI h4 h5 hpt
        go_wp2_with fail
        refine h1.mono ?_
        rintro e w1 ⟨rfl, hb1⟩
        go_wp2_with fail
        refine (h2 _).mono ?_
        rintro e w2 ⟨s2, ao2, n2, c2, rfl, hb2, ht2⟩
        have h3' := h3 _ _ ht2
        clear ht2
        go_wp2_with fail
        refine h3'.mono ?_
        rintro e w3 ⟨rfl, hb3⟩
        have hb13 := (After.trans hb1 hb2).trans hb3
        have h6 := hparts w3 hb13
        clear hparts h3' k0 k1 l1
        obtain ⟨k0, k1, _, _, l1⟩ := pair_facts hbox.out hb13
        go_wp2_with (go_at_call 51; refine h6.mono ?_; rintro e w4 ⟨s4, ao4, n4, c4, s5, ao5, n5, c5, rfl, hb4, ht4⟩; clear ht4)
        go_ret
        exact ⟨by rw [HR.out]; rfl, hA.trans (((hb13.trans hb4).alloc _).alloc _)⟩
      | some p =>
        obtain ⟨mm, r⟩ := p
        obtain ⟨hgm, hgr, hzm, hzr⟩ := parts_good hpt hg
        have htm := Tm.text_le mm hgm
        have h7 := fun W v (h : ST W mm v) => h.text hgm (by omega)
        rw [hpt] at hparts hR
        simp only at hR
        clear hpt
        obtain ⟨q, hq⟩ : ∃ q, q = (mm.text == Tm.text Tm.no) := ⟨_, rfl⟩
        have hR2 : Hid (R = if q = true then ((Tm.rd (61 - (k + 1)) r).map (· + 1)).map (· + k) else none) := by
          show _ = _
          rw [hR.out, hq]
          by_cases h : mm.text = Tm.text Tm.no <;> simp [h]
        have hq' := hq.symm
        generalize Tm.text Tm.I = xi at *
        generalize u.text = xu at *
        generalize Tm.text Tm.no = xn at *
        generalize mm.text = xm at *
        clear hR hI hq
        by_cases hkq : q = true ∧ k < 60
        · obtain ⟨rfl, hk60⟩ := hkq
          have HR : Hid (R = (Tm.rd (61 - (k + 1)) r).map (· + (k + 1))) := by
            show _ = _
            rw [hR2.out, if_pos rfl, Option.map_map]
            congr 1
            funext i
            simp only [Function.comp]
            omega
          simp only [beq_iff_eq] at hq'
          subst hq'
          clear hR2
          go_wp2_with fail
          refine h1.mono ?_
          rintro e w1 ⟨rfl, hb1⟩
          go_wp2_with fail
          refine (h2 _).mono ?_
          rintro e w2 ⟨s2, ao2, n2, c2, rfl, hb2, ht2⟩
          have h3' := h3 _ _ ht2
          clear ht2
          go_wp2_with fail
          refine h3'.mono ?_
          rintro e w3 ⟨rfl, hb3⟩
          have hb13 := (After.trans hb1 hb2).trans hb3
          have h6 := hparts w3 hb13
          clear hparts h3' k0 k1 l1
          obtain ⟨k0, k1, _, _, l1⟩ := pair_facts hbox.out hb13
          go_wp2_with fail
          refine h6.mono ?_
          rintro e w4 ⟨s4, ao4, n4, c4, s5, ao5, n5, c5, rfl, hb4, ht4⟩
          obtain ⟨hm4, hr4⟩ := ht4 mm r rfl
          have hX := (After.new w4 (.cells #[str s4, .slice ao4 n4 c4] 46)).alloc (.cells #[str s5, .slice ao5 n5 c5] 46)
          have HB5 := Lib.hid (heap_new2 w4 _ (.cells #[str s4, .slice ao4 n4 c4] 46) (.cells #[str s5, .slice ao5 n5 c5] 46) rfl)
          have h8 := h7 _ _ (hm4.later hX)
          have HR4 := Lib.hid (hr4.later hX)
          have hwX := (hb13.trans hb4).trans hX
          clear ht4 h6 hm4 hr4 k0 k1 l1
          go_wp2_with fail
          refine h8.mono ?_
          rintro e w5 ⟨rfl, hb5⟩
          go_wp2_with fail
          refine (h4 _).mono ?_
          rintro e w6 ⟨s6, ao6, n6, c6, rfl, hb6, ht6⟩
          have h9 := h5 _ _ ht6
          clear ht6 h8
          go_wp2_with fail
          refine h9.mono ?_
          rintro e w7 ⟨rfl, hb7⟩
          have hb57 := (After.trans hb5 hb6).trans hb7
          have hw7 := hwX.trans hb57
          obtain ⟨k0, k1, z2, z3, l1⟩ := pair_facts hbox.out hw7
          obtain ⟨b0, b1, _, _, l5⟩ := pair_facts HB5.out hb57
          clear h9
          go_wp2_with fail
          go_roundw
          case rel =>
            have hbox7 := hw7.heap hbox.out
            exact ⟨k + 1, r, s5, ao5, n5, c5, by go_num, by omega, heap_sets2 hbox7, (HR4.out.later hb57).sets2 hbox7, hgr, by omega, Below.setCell (Below.setCell (hA.trans hw7) (by simp) _) (by simp) _, HR⟩
          case measure => simp [intOf]; omega
        · have HR : Hid (R = none) := by
            show _ = _
            rw [hR2.out]
            cases q
            · rfl
            · rw [if_pos rfl, show 61 - (k + 1) = 0 by have : ¬ k < 60 := fun h => hkq ⟨rfl, h⟩; omega]; rfl
          have hkq' : q = true → ¬ (k : Int) < 60 := fun h h' => hkq ⟨h, by omega⟩
          clear hR2 hkq
          cases q
          · clear hkq'
            go_wp2_with fail
            refine h1.mono ?_
            rintro e w1 ⟨rfl, hb1⟩
            go_wp2_with fail
            refine (h2 _).mono ?_
            rintro e w2 ⟨s2, ao2, n2, c2, rfl, hb2, ht2⟩
            have h3' := h3 _ _ ht2
            clear ht2
            go_wp2_with fail
            refine h3'.mono ?_
            rintro e w3 ⟨rfl, hb3⟩
            have hb13 := (After.trans hb1 hb2).trans hb3
            have h6 := hparts w3 hb13
            clear hparts h3' k0 k1 l1
            obtain ⟨k0, k1, _, _, l1⟩ := pair_facts hbox.out hb13
            go_wp2_with fail
            refine h6.mono ?_
            rintro e w4 ⟨s4, ao4, n4, c4, s5, ao5, n5, c5, rfl, hb4, ht4⟩
            obtain ⟨hm4, hr4⟩ := ht4 mm r rfl
            have hX := (After.new w4 (.cells #[str s4, .slice ao4 n4 c4] 46)).alloc (.cells #[str s5, .slice ao5 n5 c5] 46)
            have h8 := h7 _ _ (hm4.later hX)
            have hwX := (hb13.trans hb4).trans hX
            clear ht4 h6 hm4 hr4 k0 k1 l1
            go_wp2_with fail
            refine h8.mono ?_
            rintro e w5 ⟨rfl, hb5⟩
            go_wp2_with fail
            refine (h4 _).mono ?_
            rintro e w6 ⟨s6, ao6, n6, c6, rfl, hb6, ht6⟩
            have h9 := h5 _ _ ht6
            clear ht6 h8
            go_wp2_with (go_at_call 47; refine h9.mono ?_; rintro e w7 ⟨rfl, hb7⟩)
            go_ret
            exact ⟨by rw [HR.out]; rfl, hA.trans (hwX.trans ((After.trans hb5 hb6).trans hb7))⟩
          · simp only [beq_iff_eq] at hq'
            subst hq'
            obtain rfl : k = 60 := by have := hkq' rfl; omega
            clear hkq'
            go_wp2_with fail
            refine h1.mono ?_
            rintro e w1 ⟨rfl, hb1⟩
            go_wp2_with fail
            refine (h2 _).mono ?_
            rintro e w2 ⟨s2, ao2, n2, c2, rfl, hb2, ht2⟩
            have h3' := h3 _ _ ht2
            clear ht2
            go_wp2_with fail
            refine h3'.mono ?_
            rintro e w3 ⟨rfl, hb3⟩
            have hb13 := (After.trans hb1 hb2).trans hb3
            have h6 := hparts w3 hb13
            clear hparts h3' k0 k1 l1
            obtain ⟨k0, k1, _, _, l1⟩ := pair_facts hbox.out hb13
            go_wp2_with fail
            refine h6.mono ?_
            rintro e w4 ⟨s4, ao4, n4, c4, s5, ao5, n5, c5, rfl, hb4, ht4⟩
            obtain ⟨hm4, hr4⟩ := ht4 mm r rfl
            have hX := (After.new w4 (.cells #[str s4, .slice ao4 n4 c4] 46)).alloc (.cells #[str s5, .slice ao5 n5 c5] 46)
            have h8 := h7 _ _ (hm4.later hX)
            have hwX := (hb13.trans hb4).trans hX
            clear ht4 h6 hm4 hr4 k0 k1 l1
            go_wp2_with fail
            refine h8.mono ?_
            rintro e w5 ⟨rfl, hb5⟩
            go_wp2_with fail
            refine (h4 _).mono ?_
            rintro e w6 ⟨s6, ao6, n6, c6, rfl, hb6, ht6⟩
            have h9 := h5 _ _ ht6
            clear ht6 h8
            go_wp2_with (go_at_call 47; refine h9.mono ?_; rintro e w7 ⟨rfl, hb7⟩)
            go_ret
            exact ⟨by rw [HR.out]; rfl, hA.trans (hwX.trans ((After.trans hb5 hb6).trans hb7))⟩

def SInt (w : World) (r : Option Nat) (e : Ending) (w' : World) : Prop := e = .returned (.tuple #[.int .i64 ((r.getD 0 : Nat) : Int), .bool r.isSome]) ∧ After w w'

theorem spec_numread (w : World) (l : List UInt8) (hl : l.length ≤ 1000000000) : Calls Try.prog 27 #[str l] w (SInt w (pNumRead l)) := by
  have hterm := s_term w l hl
  unfold STermPost at hterm
  unfold pNumRead
  cases hp : Tm.parse l with
  | none =>
    have hfin : Tm.normOf l = none := by simp [Tm.normOf, hp]
    rw [hfin]
    rw [hp] at hterm
    clear hp hfin
    go_enter Try.func27, Try.ntmps27
    go_wp2_with (go_at_call 34; refine hterm.mono ?_; rintro e w1 ⟨s1, ao1, n1, c1, rfl, hb1, ht1⟩; clear ht1)
    go_ret2
    exact ⟨rfl, After.alloc hb1 _⟩
  | some t =>
    obtain ⟨hg, hf, hs, _, _⟩ := Tm.parse_facts hp
    rw [hp] at hterm
    obtain ⟨hgm, hfm⟩ := Tm.many_good 6000 t hg hf
    have hsm := fits_size hfm
    have hnorm := fun W s ao m c h => s_normal W t s ao m c h hg hf
    have hfin : Tm.normOf l = if (t.many 6000).1.step.isNone = true then some (t.many 6000).1 else none := by
      simp only [Tm.normOf, hp, Tm.norm]
      cases (t.many 6000).1.step <;> simp
    rw [hfin]
    clear hp hfin
    unfold SNormPost at hnorm
    generalize (t.many 6000).1 = u at *
    generalize u.step.isNone = b at *
    have hread := fun W s ao m c h => s_rdnum W u s ao m c h hgm (by omega)
    obtain ⟨r, hr⟩ : ∃ r, r = Tm.rd 61 u := ⟨_, rfl⟩
    rw [← hr] at hread
    obtain ⟨z, hz⟩ : ∃ z, z = ((if b = true then some u else none).bind (Tm.rd 61)) := ⟨_, rfl⟩
    rw [← hz]
    have HZ : Hid (z = if b = true then r else none) := by show _ = _; rw [hz, hr]; cases b <;> rfl
    clear hz hr
    have hcases : (∃ n : Nat, r = some n) ∨ r = none := by cases r with
      | none => exact Or.inr rfl
      | some n => exact Or.inl ⟨n, rfl⟩
    rcases hcases with ⟨n, rfl⟩ | rfl
    all_goals
      simp only [numI] at hread
      cases b
      all_goals
        go_enter Try.func27, Try.ntmps27
        go_wp2_with fail
        refine hterm.mono ?_
        rintro e w1 ⟨s1, ao1, n1, c1, rfl, hb1, ht1⟩
        have hcall := hnorm _ _ _ _ _ ((ht1 t rfl).later (After.new w1 (.cells #[str s1, .slice ao1 n1 c1] 46)))
        have hw1 := After.alloc hb1 (.cells #[str s1, .slice ao1 n1 c1] 46)
        clear ht1 hterm hnorm
        go_wp2_with fail
        refine hcall.mono ?_
        rintro e w2 ⟨s2, ao2, n2, c2, rfl, hb2, ht2⟩
        have hcall2 := hread _ _ _ _ _ (ht2.later (After.new w2 (.cells #[str s2, .slice ao2 n2 c2] 46)))
        have hw2 := After.alloc (hw1.trans hb2) (.cells #[str s2, .slice ao2 n2 c2] 46)
        clear ht2 hcall hread
        go_wp2_with (go_at_call 57; refine hcall2.mono ?_; rintro e w3 ⟨rfl, hb3⟩)
        go_ret2
        exact ⟨by rw [HZ.out]; rfl, hw2.trans hb3⟩

end Go.Proofs.Ytmkmladlpgfniaa
