/-
  Many steps of the model: l1Many, l1Normal.
-/
import Derived.Test.YtfpekihdoclncaaPkAF
import Derived.Test.YtfpekihdoclncaaPkAD
import Derived.Test.YtfpekihdoclncaaPkAA
import Derived.Test.YtfpekihdoclncaaPkAE
namespace Go.Proofs.Ytfpekihdoclncaa
open Go.RowKit

set_option maxHeartbeats 1000000
set_option maxRecDepth 100000

theorem heap_sets2 {W : World} {b : Nat} {x y u u' : Value} {T : TypeId} {fr : Nat × Nat} (hh : W.heap[b]? = some (.cells #[x, y] T fr)) : ((W.setCell ⟨b, 0, none⟩ u).setCell ⟨b, 1, none⟩ u').heap[b]? = some (.cells #[u, u'] T fr) := by
  simp [World.setCell, Array.getElem?_modify, hh]

theorem heap_sets2_ne {W : World} {b c i j : Nat} {u u' : Value} (hne : c ≠ b) : ((W.setCell ⟨b, i, none⟩ u).setCell ⟨b, j, none⟩ u').heap[c]? = W.heap[c]? := by
  rw [Below.heap_setCell _ _ _ _ hne, Below.heap_setCell _ _ _ _ hne]

theorem pair_facts {W : World} {b : Nat} {x y : Value} {T : TypeId} (h : W.heap[b]? = some (.cells #[x, y] T (0, 0))) {W' : World} (hW : After W W') :
    W'.cell? ⟨b, 0, none⟩ = some x ∧ W'.cell? ⟨b, 1, none⟩ = some y ∧ W'.frozen? ⟨b, 0, none⟩ = false ∧ W'.frozen? ⟨b, 1, none⟩ = false ∧ b < W'.heap.size := by
  have hh := hW.heap h
  exact ⟨cell_of_heap hh, cell_of_heap hh, by simp [World.frozen?, hh], by simp [World.frozen?, hh], (Array.getElem?_eq_some_iff.1 hh).1⟩

def SManyPost (w : World) (t : Tm) (n : Nat) (e : Ending) (w' : World) : Prop :=
  ∃ s ao m c, e = .returned (.tuple #[.agg #[str s, .slice ao m c], .int .i64 (((t.many n).2 : Nat) : Int), .bool (t.many n).1.step.isNone]) ∧ After w w' ∧ ST w' (t.many n).1 (.agg #[str s, .slice ao m c])

/-- After k rounds. -/
def SRounds (w : World) (n : Nat) (t : Tm) (i : Value) (wr : World) : Prop :=
  ∃ (k : Nat) (u : Tm) (s : List UInt8) (ao : Option Addr) (m c : Nat), i = .int .i64 k ∧ k ≤ n ∧ wr.heap[w.heap.size]? = some (.cells #[str s, .slice ao m c] 32 (0, 0)) ∧ wr.heap[w.heap.size + 1]? = some (.cells #[.string ⟨#[]⟩, .slice none 0 0] 32 (0, 0)) ∧
    ST wr u (.agg #[str s, .slice ao m c]) ∧ u.good = true ∧ u.fits = true ∧ After w wr ∧ Hid (t.many n = ((u.many (n - k)).1, (u.many (n - k)).2 + k))

theorem s_many (w : World) (n : Nat) (t : Tm) (s : List UInt8) (ao : Option Addr) (m c : Nat) (h : ST w t (.agg #[str s, .slice ao m c])) (hg : t.good = true) (hz : t.fits = true) (hn : n ≤ 1000000) :
    Calls Try.prog 56 #[.agg #[str s, .slice ao m c], .int .i64 n] w (SManyPost w t n) := by
  have hstart : SRounds w n t (.int .i64 0) ((w.alloc (.cells #[str s, .slice ao m c] 32)).alloc (.cells #[.string ⟨#[]⟩, .slice none 0 0] 32)) :=
    ⟨0, t, s, ao, m, c, rfl, Nat.zero_le _, heap_old2 _ _ _, heap_new2 _ _ _ _ rfl, h.later ((After.new _ _).alloc _), hg, hz, (After.new _ _).alloc _, by simp [Hid]⟩
  go_enter Try.func56, Try.ntmps56
  go_wp2_with fail
  go_loopw [7] (fun i wr => SRounds w n t i wr) (fun i _ => n - (intOf i).toNat)
  case atStart => exact hstart
  case round =>
    clear hstart h hg hz
    obtain ⟨k, u, s, ao, m, c, rfl, hk, hbox, hres, hu, hg, hf, hA, hm⟩ := hrel
    have hfz := fits_size hf
    have hstep := s_step hu hg
    unfold SStepPost at hstep
    obtain ⟨k0, k1, _, _, l1⟩ := pair_facts hbox (After.refl _)
    have HU := Lib.hid hu
    by_cases hlt : k < n
    · cases hst : u.step with
      | none =>
        have hfin : t.many n = (u, k) := by
          rw [hm.out, show n - k = (n - k - 1) + 1 by omega, Tm.many_normal _ _ hst]; simp
        have H := Lib.hid hfin
        have HST := Lib.hid hst
        rw [hst] at hstep
        clear hst hfin hm hu
        go_wp2_with fail
        refine hstep.mono ?_
        rintro e w1 ⟨s1, ao1, m1, c1, rfl, hb1, ht1⟩
        clear ht1 k0 k1
        obtain ⟨k0, k1, _, _, l1⟩ := pair_facts hbox (After.alloc hb1 (.cells #[str s1, .slice ao1 m1 c1] 32))
        obtain ⟨z0, z1, z2, z3, l2⟩ := pair_facts hres (After.alloc hb1 (.cells #[str s1, .slice ao1 m1 c1] 32))
        go_wp2_with fail
        refine bodyPost_ret (v := .tuple #[.agg #[str s, .slice ao m c], .int .i64 k, .bool true]) (by simp [results, Try.results56, go_sem, z0, z1]) rfl
          ⟨s, ao, m, c, by rw [H.out]; simp [HST.out], Below.setCell (Below.setCell (hA.trans (After.alloc hb1 _)) (by simp) _) (by simp) _, ?_⟩
        rw [H.out]
        exact (HU.out.later (After.alloc hb1 _)).sets2 ((After.alloc hb1 _).heap hres)
      | some u1 =>
        have hg1 := Tm.step_good hst hg
        have hs1 := step_size hst
        have HST := Lib.hid hst
        rw [hst] at hstep
        simp only [Option.isSome_some, Option.getD_some] at hstep
        cases hf1 : u1.fits with
        | false =>
          have hfin : t.many n = (u, k) := by
            rw [hm.out, show n - k = (n - k - 1) + 1 by omega]; simp [Tm.many, hst, hf1]
          have H := Lib.hid hfin
          clear hst hfin hm hu
          go_wp2_with fail
          refine hstep.mono ?_
          rintro e w1 ⟨s1, ao1, m1, c1, rfl, hb1, ht1⟩
          have hfine := (ht1.later (After.new w1 (.cells #[str s1, .slice ao1 m1 c1] 32))).fine hg1 (by omega)
          rw [hf1] at hfine
          have hw1 := After.alloc hb1 (.cells #[str s1, .slice ao1 m1 c1] 32)
          clear ht1 k0 k1 hstep
          go_wp2_with fail
          refine hfine.mono ?_
          rintro e w2 ⟨rfl, hb2⟩
          obtain ⟨k0, k1, _, _, l1⟩ := pair_facts hbox (hw1.trans hb2)
          obtain ⟨z0, z1, z2, z3, l2⟩ := pair_facts hres (hw1.trans hb2)
          go_wp2_with fail
          refine bodyPost_ret (v := .tuple #[.agg #[str s, .slice ao m c], .int .i64 k, .bool false]) (by simp [results, Try.results56, go_sem, z0, z1]) rfl
            ⟨s, ao, m, c, by rw [H.out]; simp [HST.out], Below.setCell (Below.setCell (hA.trans (hw1.trans hb2)) (by simp) _) (by simp) _, ?_⟩
          rw [H.out]
          exact (HU.out.later (hw1.trans hb2)).sets2 ((hw1.trans hb2).heap hres)
        | true =>
          have hfin : t.many n = ((u1.many (n - (k + 1))).1, (u1.many (n - (k + 1))).2 + (k + 1)) := by
            rw [hm.out, show n - k = (n - (k + 1)) + 1 by omega]; simp [Tm.many, hst, hf1]; omega
          have H := Lib.hid hfin
          clear hst hfin hm hu
          go_wp2_with fail
          refine hstep.mono ?_
          rintro e w1 ⟨s1, ao1, m1, c1, rfl, hb1, ht1⟩
          have hT1 := ht1.later (After.new w1 (.cells #[str s1, .slice ao1 m1 c1] 32))
          have hfine := hT1.fine hg1 (by omega)
          rw [hf1] at hfine
          have hw1 := After.alloc hb1 (.cells #[str s1, .slice ao1 m1 c1] 32)
          clear ht1 k0 k1 hstep
          go_wp2_with fail
          refine hfine.mono ?_
          rintro e w2 ⟨rfl, hb2⟩
          obtain ⟨k0, k1, f0, f1, l1⟩ := pair_facts hbox (hw1.trans hb2)
          obtain ⟨n0, n1, _, _, l3⟩ := pair_facts (hb2.heap (heap_new' w1 (.cells #[str s1, .slice ao1 m1 c1] 32))) (After.refl _)
          have hbox2 := (hw1.trans hb2).heap hbox
          have hres2 := (hw1.trans hb2).heap hres
          have HT2 := Lib.hid (hT1.later hb2)
          clear hT1
          go_wp2_with fail
          go_roundw
          case rel =>
            exact ⟨k + 1, u1, s1, ao1, m1, c1, by go_num, by omega, heap_sets2 hbox2, by rw [heap_sets2_ne (by omega)]; exact hres2, HT2.out.sets2 hbox2, hg1, hf1,
              Below.setCell (Below.setCell (hA.trans (hw1.trans hb2)) (by simp) _) (by simp) _, H⟩
          case measure => simp [intOf]; omega
    · have hkn : k = n := by omega
      subst hkn
      have hfin : t.many k = (u, k) := by rw [hm.out]; simp [Tm.many]
      have H := Lib.hid hfin
      obtain ⟨b, hb⟩ : ∃ b, b = u.step.isSome := ⟨_, rfl⟩
      rw [← hb] at hstep
      have HB := Lib.hid hb
      clear hfin hm hu hb
      go_wp2_with fail
      refine hstep.mono ?_
      rintro e w1 ⟨s1, ao1, m1, c1, rfl, hb1, ht1⟩
      clear ht1 k0 k1
      obtain ⟨k0, k1, _, _, l1⟩ := pair_facts hbox (After.alloc hb1 (.cells #[str s1, .slice ao1 m1 c1] 32))
      obtain ⟨z0, z1, z2, z3, l2⟩ := pair_facts hres (After.alloc hb1 (.cells #[str s1, .slice ao1 m1 c1] 32))
      go_wp2_with fail
      refine bodyPost_ret (v := .tuple #[.agg #[str s, .slice ao m c], .int .i64 k, .bool (!b)]) (by simp [results, Try.results56, go_sem, z0, z1]) rfl
        ⟨s, ao, m, c, by rw [H.out, HB.out]; cases u.step <;> rfl, Below.setCell (Below.setCell (hA.trans (After.alloc hb1 _)) (by simp) _) (by simp) _, ?_⟩
      rw [H.out]
      exact (HU.out.later (After.alloc hb1 _)).sets2 ((After.alloc hb1 _).heap hres)

def SNormPost (w : World) (t : Tm) (b : Bool) (e : Ending) (w' : World) : Prop :=
  ∃ s ao m c, e = .returned (.tuple #[.agg #[str s, .slice ao m c], .bool b]) ∧ After w w' ∧ ST w' t (.agg #[str s, .slice ao m c])

theorem s_normal_no (w : World) (t : Tm) (s : List UInt8) (ao : Option Addr) (m c : Nat) (h : ST w t (.agg #[str s, .slice ao m c])) (hg : t.good = true) (hz : t.size ≤ 1000000) (hf : t.fits = false) :
    Calls Try.prog 27 #[.agg #[str s, .slice ao m c]] w (SNormPost w t false) := by
  obtain ⟨X, hX⟩ : ∃ X, X = (w.alloc (.cells #[str s, .slice ao m c] 32)).alloc (.cells #[.string ⟨#[]⟩, .slice none 0 0] 32) := ⟨_, rfl⟩
  have hAX : After w X := by rw [hX]; exact (After.new _ _).alloc _
  have hbox : X.heap[w.heap.size]? = some (.cells #[str s, .slice ao m c] 32 (0, 0)) := by rw [hX]; exact heap_old2 _ _ _
  have hres : X.heap[w.heap.size + 1]? = some (.cells #[.string ⟨#[]⟩, .slice none 0 0] 32 (0, 0)) := by rw [hX]; exact heap_new2 _ _ _ _ rfl
  have hfine := (h.later hAX).fine hg (by omega)
  rw [hf] at hfine
  have HT := Lib.hid (h.later hAX)
  obtain ⟨k0, k1, _, _, l1⟩ := pair_facts hbox (After.refl _)
  clear h
  go_enter Try.func27, Try.ntmps27
  go_wp2_with fail
  rw [← hX]
  clear hX
  go_wp2_with fail
  refine hfine.mono ?_
  rintro e w1 ⟨rfl, hb1⟩
  clear k0 k1
  obtain ⟨k0, k1, _, _, l1⟩ := pair_facts hbox hb1
  obtain ⟨z0, z1, z2, z3, l2⟩ := pair_facts hres hb1
  go_wp2_with fail
  refine bodyPost_ret (v := .tuple #[.agg #[str s, .slice ao m c], .bool false]) (by simp [results, Try.results27, go_sem, z0, z1]) rfl
    ⟨s, ao, m, c, rfl, Below.setCell (Below.setCell (hAX.trans hb1) (by simp) _) (by simp) _, ?_⟩
  exact (HT.out.later hb1).sets2 (hb1.heap hres)

theorem s_normal (w : World) (t : Tm) (s : List UInt8) (ao : Option Addr) (m c : Nat) (h : ST w t (.agg #[str s, .slice ao m c])) (hg : t.good = true) (hf : t.fits = true) :
    Calls Try.prog 27 #[.agg #[str s, .slice ao m c]] w (SNormPost w (t.many 6000).1 (t.many 6000).1.step.isNone) := by
  obtain ⟨X, hX⟩ : ∃ X, X = (w.alloc (.cells #[str s, .slice ao m c] 32)).alloc (.cells #[.string ⟨#[]⟩, .slice none 0 0] 32) := ⟨_, rfl⟩
  have hAX : After w X := by rw [hX]; exact (After.new _ _).alloc _
  have hbox : X.heap[w.heap.size]? = some (.cells #[str s, .slice ao m c] 32 (0, 0)) := by rw [hX]; exact heap_old2 _ _ _
  have hres : X.heap[w.heap.size + 1]? = some (.cells #[.string ⟨#[]⟩, .slice none 0 0] 32 (0, 0)) := by rw [hX]; exact heap_new2 _ _ _ _ rfl
  have hfz := fits_size hf
  have hfine := (h.later hAX).fine hg (by omega)
  rw [hf] at hfine
  have hmany := fun W (hW : After X W) => s_many W 6000 t s ao m c ((h.later hAX).later hW) hg hf (by omega)
  unfold SManyPost at hmany
  generalize hmm : t.many 6000 = mm at *
  obtain ⟨u, i⟩ := mm
  simp only at hmany ⊢
  generalize hb : u.step.isNone = b at *
  obtain ⟨k0, k1, _, _, l1⟩ := pair_facts hbox (After.refl _)
  clear h hmm hb
  go_enter Try.func27, Try.ntmps27
  go_wp2_with fail
  rw [← hX]
  clear hX
  go_wp2_with fail
  refine hfine.mono ?_
  rintro e w1 ⟨rfl, hb1⟩
  have hcall := hmany w1 hb1
  clear k0 k1 hmany hfine
  obtain ⟨k0, k1, _, _, l1⟩ := pair_facts hbox hb1
  go_wp2_with fail
  refine hcall.mono ?_
  rintro e w2 ⟨s2, ao2, m2, c2, rfl, hb2, ht2⟩
  have HT2 := Lib.hid ht2
  have hw2 := After.alloc (hb1.trans hb2) (.cells #[str s2, .slice ao2 m2 c2] 32)
  clear ht2 k0 k1
  obtain ⟨z0, z1, z2, z3, l2⟩ := pair_facts hres hw2
  have hne : w2.heap.size ≠ w.heap.size + 1 := by have := (Array.getElem?_eq_some_iff.1 ((hb1.trans hb2).heap hres)).1; omega
  go_wp2_with fail
  refine bodyPost_ret (v := .tuple #[.agg #[str s2, .slice ao2 m2 c2], .bool b]) (by simp [results, Try.results27, go_sem, z0, z1]) rfl
    ⟨s2, ao2, m2, c2, rfl, Below.setCell (Below.setCell (hAX.trans hw2) (by simp) _) (by simp) _, ?_⟩
  exact (HT2.out.later (After.new w2 _)).sets2 (hw2.heap hres)
end Go.Proofs.Ytfpekihdoclncaa

namespace Go.Proofs.Ytfpekihdoclncaa
namespace Tm

theorem parse_facts {l : List UInt8} {t : Tm} (h : parse l = some t) : good t = true ∧ fits t = true ∧ size t ≤ 3000 ∧ depth t ≤ 1500 ∧ t.text.length ≤ 21000 := by
  obtain ⟨_, h2, h3⟩ := parse_iff.1 h
  have h4 := h3
  simp only [fits, Bool.and_eq_true, decide_eq_true_eq] at h4
  have := text_le t h2
  exact ⟨h2, h3, h4.1, h4.2, by omega⟩

def pSize (l : List UInt8) : Int := match parse l with | some t => (size t : Nat) | none => -1
def pNames (l : List UInt8) : Option (List (List UInt8)) := (parse l).map (names [])
def pClosed (l : List UInt8) : Bool := match parse l with | some t => (names [] t).isEmpty | none => false
def pPut (l n b : List UInt8) : Option (List UInt8) := match parse l, parse b with
  | some t, some u => if nameOk n && fits (put t n u) then some (text (put t n u)) else none
  | _, _ => none
def pStep (l : List UInt8) : Option (List UInt8) := match parse l with
  | some t => (stepFit t).map text
  | none => none
def pMany (l : List UInt8) (n : Int) : Option (List UInt8 × Nat) := match parse l with
  | some t => if 0 ≤ n ∧ n ≤ 6000 then some (text (many n.toNat t).1, (many n.toNat t).2) else none
  | none => none
def pNormal (l : List UInt8) : Bool := match parse l with | some t => (step t).isNone | none => false
def pNorm (l : List UInt8) : Option (List UInt8 × Nat) := match parse l with
  | some t => (norm t).map fun p => (text p.1, p.2)
  | none => none
def pApply (l m : List UInt8) : Option (List UInt8) := match parse l, parse m with
  | some t, some u => if fits (app t u) then (norm (app t u)).map fun p => text p.1 else none
  | _, _ => none
def pEqual (l m : List UInt8) : Bool := match pNorm l, pNorm m with
  | some p, some q => decide (p.1 = q.1)
  | _, _ => false

end Tm
end Go.Proofs.Ytfpekihdoclncaa

namespace Go.Proofs.Ytfpekihdoclncaa
open Go.RowKit

set_option maxHeartbeats 4000000
set_option maxRecDepth 100000

/-- What l1Term hands back: a tree, and whether it is a term. -/
def STermPost (w : World) (l : List UInt8) (e : Ending) (w' : World) : Prop :=
  ∃ s ao n c, e = .returned (.tuple #[.agg #[str s, .slice ao n c], .bool (Tm.parse l).isSome]) ∧ After w w' ∧ ∀ t, Tm.parse l = some t → ST w' t (.agg #[str s, .slice ao n c])

theorem mread_parse {l : List UInt8} (h : l.length ≤ 24000) : Tm.parse l = match Tm.mread l 1501 0 with
    | some (t, j) => if j = l.length ∧ t.size ≤ 3000 then some t else none
    | none => none := by
  rw [← Tm.mparse_eq]
  unfold Tm.mparse
  rw [if_neg (by omega)]
  rfl

theorem s_term (w : World) (l : List UInt8) (hl : l.length ≤ 1000000000) :
    Calls Try.prog 26 #[str l] w (STermPost w l) := by
  have hsz : (⟨l.toArray⟩ : ByteArray).size = l.length := by show l.toArray.size = _; simp
  by_cases hbig : 24000 < l.length
  · have hfin : Tm.parse l = none := by rw [← Tm.mparse_eq]; unfold Tm.mparse; rw [if_pos hbig]
    have H := Lib.hid hfin
    clear hfin
    go_enter Try.func26, Try.ntmps26
    go_wp2_with fail
    exact bodyPost_ret (v := .tuple #[.agg #[.string ⟨#[]⟩, .slice none 0 0], .bool false]) (by simp [results, Try.results26, go_sem]) rfl
      ⟨[], none, 0, 0, by rw [H.out]; rfl, After.new _ _, fun t he => by rw [H.out] at he; simp at he⟩
  · have hp := mread_parse (l := l) (by omega)
    have hcall : ∀ W, Calls Try.prog 53 #[str l, .int .i64 0, .int .i64 0] W (SReadPost W (Tm.mread l 1501 0)) := fun W => s_read l hl 1501 0 0 0 W rfl (Nat.zero_le _) (by omega) (by omega)
    cases hq : Tm.mread l 1501 0 with
    | none =>
      have H := Lib.hid (show Tm.parse l = none by rw [hp, hq])
      have hpl : place none = -1 := rfl
      rw [hq] at hcall
      have hne : ((-1 : Int) == (l.length : Int)) = false := by rw [beq_eq_false_iff_ne]; omega
      clear hp hq
      go_enter Try.func26, Try.ntmps26
      go_wp2_with fail
      refine (hcall _).mono ?_
      rintro e w1 ⟨s1, ao1, n1, c1, rfl, hb1, ht1⟩
      clear ht1 hcall
      obtain ⟨r0, r1, f0, f1, hz⟩ := box2 hb1
      go_wp2_with fail
      go_region
      go_wp2_with fail
      exact bodyPost_ret (v := .tuple #[.agg #[str s1, .slice ao1 n1 c1], .bool false]) (by simp [results, Try.results26, go_sem, r0, r1, hz]) rfl
        ⟨s1, ao1, n1, c1, by rw [H.out]; rfl, After.drew (After.alloc (After.set2 hb1) _), fun t he => by rw [H.out] at he; simp at he⟩
    | some p =>
      obtain ⟨t, j⟩ := p
      obtain ⟨zt, hj⟩ := reads_size (Tm.mread_sound hq)
      have hgd := (Tm.mread_sound hq).2.2.2.1
      have hpl : place (some (t, j)) = (j : Int) := rfl
      rw [hq] at hcall hp
      simp only at hp
      by_cases hjl : j = l.length
      · subst hjl
        by_cases h3 : t.size ≤ 3000
        · have H := Lib.hid (show Tm.parse l = some t by rw [hp]; simp [h3])
          have h3' : (t.size : Int) ≤ 3000 := by omega
          clear hp hq
          go_enter Try.func26, Try.ntmps26
          go_wp2_with fail
          refine (hcall _).mono ?_
          rintro e w1 ⟨s1, ao1, n1, c1, rfl, hb1, ht1⟩
          have hst := Lib.hid (ht1 t _ rfl)
          clear ht1 hcall
          obtain ⟨r0, r1, f0, f1, hz⟩ := box2 hb1
          have hal := After.new w1 (.cells #[str s1, .slice ao1 n1 c1] 32)
          go_wp2_with fail
          go_region_with (go_at_call 54; refine ((ST.later hal.drew hst.out).size hgd (by omega)).mono ?_; rintro e w2 ⟨rfl, hb2⟩; have hb3 := (hb1.trans hal.drew).trans hb2; obtain ⟨p0, p1, p2, p3, p4⟩ := box2 hb3; obtain ⟨q0, q1, q2, q3, q4⟩ := box2 ((After.refl (w1.alloc (.cells #[str s1, .slice ao1 n1 c1] 32))).drew.trans hb2); have hne : w1.heap.size ≠ w.heap.size := by omega)
          all_goals
            go_wp2_with fail
            exact bodyPost_ret (v := .tuple #[.agg #[str s1, .slice ao1 n1 c1], .bool true]) (by simp [results, Try.results26, go_sem, p0, p1]) rfl
              ⟨s1, ao1, n1, c1, by rw [H.out]; rfl, After.set2 hb3, fun t' he => by rw [H.out] at he; obtain rfl := Option.some.inj he; exact (ST.later (hal.drew.trans hb2) hst.out).sets (i := 0) (j := 1) hb3⟩
        · have H := Lib.hid (show Tm.parse l = none by rw [hp]; simp [h3])
          have h3' : (3000 : Int) < (t.size : Int) := by omega
          clear hp hq
          go_enter Try.func26, Try.ntmps26
          go_wp2_with fail
          refine (hcall _).mono ?_
          rintro e w1 ⟨s1, ao1, n1, c1, rfl, hb1, ht1⟩
          have hst := Lib.hid (ht1 t _ rfl)
          clear ht1 hcall
          obtain ⟨r0, r1, f0, f1, hz⟩ := box2 hb1
          have hal := After.new w1 (.cells #[str s1, .slice ao1 n1 c1] 32)
          go_wp2_with fail
          go_region_with (go_at_call 54; refine ((ST.later hal.drew hst.out).size hgd (by omega)).mono ?_; rintro e w2 ⟨rfl, hb2⟩; have hb3 := (hb1.trans hal.drew).trans hb2; obtain ⟨p0, p1, p2, p3, p4⟩ := box2 hb3; obtain ⟨q0, q1, q2, q3, q4⟩ := box2 ((After.refl (w1.alloc (.cells #[str s1, .slice ao1 n1 c1] 32))).drew.trans hb2); have hne : w1.heap.size ≠ w.heap.size := by omega)
          all_goals
            go_wp2_with fail
            exact bodyPost_ret (v := .tuple #[.agg #[str s1, .slice ao1 n1 c1], .bool false]) (by simp [results, Try.results26, go_sem, p0, p1]; exact h3') rfl
              ⟨s1, ao1, n1, c1, by rw [H.out]; rfl, After.set2 hb3, fun t' he => by rw [H.out] at he; simp at he⟩
      · have H := Lib.hid (show Tm.parse l = none by rw [hp]; simp [hjl])
        have hne : ((j : Int) == (l.length : Int)) = false := by rw [beq_eq_false_iff_ne]; omega
        clear hp hq
        go_enter Try.func26, Try.ntmps26
        go_wp2_with fail
        refine (hcall _).mono ?_
        rintro e w1 ⟨s1, ao1, n1, c1, rfl, hb1, ht1⟩
        clear ht1 hcall
        obtain ⟨r0, r1, f0, f1, hz⟩ := box2 hb1
        go_wp2_with fail
        go_region
        go_wp2_with fail
        exact bodyPost_ret (v := .tuple #[.agg #[str s1, .slice ao1 n1 c1], .bool false]) (by simp [results, Try.results26, go_sem, r0, r1, hz]) rfl
          ⟨s1, ao1, n1, c1, by rw [H.out]; rfl, After.drew (After.alloc (After.set2 hb1) _), fun t he => by rw [H.out] at he; simp at he⟩
end Go.Proofs.Ytfpekihdoclncaa
