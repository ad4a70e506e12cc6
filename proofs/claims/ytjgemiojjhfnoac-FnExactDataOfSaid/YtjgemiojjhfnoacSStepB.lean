/-
  The model's redexes, gathered; its steps.
-/
import Derived.Test.YtjgemiojjhfnoacSStep
namespace Go.Proofs.Ytjgemiojjhfnoac
open Go.RowKit

set_option maxHeartbeats 4000000
set_option maxRecDepth 100000

theorem name_not {n : List UInt8} (h : Tm.nameOk n = true) : n ≠ [] ∧ n ≠ [107] ∧ n ≠ [115] := by
  refine ⟨?_, ?_, ?_⟩ <;> (rintro rfl; revert h; decide)

theorem parts_form {w : World} {t : Tm} {x y : Value} (h : ST w t (.agg #[x, y])) : ∃ s ao n c, x = str s ∧ y = .slice ao n c := by
  obtain ⟨s, ao, n, c, e⟩ := h.form
  simp only [Value.agg.injEq, Array.mk.injEq, List.cons.injEq, and_true] at e
  exact ⟨s, ao, n, c, e.1, e.2⟩

theorem atom_form {w : World} {t : Tm} {s : List UInt8} {y : Value} (h : ST w t (.agg #[str s, y])) (hd : t.depth = 0) : s = t.text := by
  cases t with
  | app f a => simp [Tm.depth] at hd
  | k => simp only [ST, Value.agg.injEq, Array.mk.injEq, List.cons.injEq, and_true, Value.string.injEq, ByteArray.mk.injEq] at h; simpa using h.1
  | s => simp only [ST, Value.agg.injEq, Array.mk.injEq, List.cons.injEq, and_true, Value.string.injEq, ByteArray.mk.injEq] at h; simpa using h.1
  | nm n => simp only [ST, Value.agg.injEq, Array.mk.injEq, List.cons.injEq, and_true, Value.string.injEq, ByteArray.mk.injEq] at h; simpa using h.1

theorem app_form {w : World} {f a : Tm} {s : List UInt8} {y : Value} (h : ST w (f.app a) (.agg #[str s, y])) : s = [] ∧ ∃ g q fr s0 p0 s1 p1, y = .slice (some ⟨g, 0, none⟩) 2 q ∧ w.heap[g]? = some (.cells #[s0, p0, s1, p1] 41 fr) ∧ ST w f (.agg #[s0, p0]) ∧ ST w a (.agg #[s1, p1]) := by
  obtain ⟨g, q, fr, s0, p0, s1, p1, e, hh, hf, ha⟩ := h
  simp only [Value.agg.injEq, Array.mk.injEq, List.cons.injEq, and_true, Value.string.injEq, ByteArray.mk.injEq] at e
  exact ⟨by simpa using e.1, g, q, fr, s0, p0, s1, p1, e.2, hh, hf, ha⟩

theorem s_redex {w : World} {t : Tm} {v : Value} (h : ST w t v) (hg : t.good = true) : Calls Try.prog 87 #[v] w (RedexPost w t.redex) := by
  cases t with
  | k => simp only [ST] at h; subst h; exact redex_atom w _ _ _ _ (by simp [Tm.text])
  | s => simp only [ST] at h; subst h; exact redex_atom w _ _ _ _ (by simp [Tm.text])
  | nm n => simp only [ST] at h; subst h; exact redex_atom w _ _ _ _ (Tm.text_ne _ hg)
  | app f a =>
    obtain ⟨g1, q1, fr1, s0, p0, s1, p1, rfl, hh, hf, ha⟩ := h
    obtain ⟨x1, a1, n1, c1, rfl, rfl⟩ := parts_form hf
    obtain ⟨y1, b1, m1, d1, rfl, rfl⟩ := parts_form ha
    have hlt := (Array.getElem?_eq_some_iff.1 hh).1
    simp only [Tm.good, Bool.and_eq_true] at hg
    cases f with
    | k => exact redex_atom2 w g1 q1 x1 (cell_of_heap hh) hlt (by rw [atom_form hf rfl]; simp [Tm.text])
    | s => exact redex_atom2 w g1 q1 x1 (cell_of_heap hh) hlt (by rw [atom_form hf rfl]; simp [Tm.text])
    | nm n => exact redex_atom2 w g1 q1 x1 (cell_of_heap hh) hlt (by rw [atom_form hf rfl]; exact Tm.text_ne _ hg.1)
    | app g m =>
      obtain ⟨rfl, g2, q2, fr2, s2, p2, s3, p3, e2, hh2, hg2, hm⟩ := app_form hf
      injection e2 with e3 e4 e5
      subst e3; subst e4; subst e5
      obtain ⟨x2, a2, n2, c2, rfl, rfl⟩ := parts_form hg2
      obtain ⟨y2, b2, m2, d2, rfl, rfl⟩ := parts_form hm
      have hlt2 := (Array.getElem?_eq_some_iff.1 hh2).1
      have hgg := hg.1
      simp only [Tm.good, Bool.and_eq_true] at hgg
      cases g with
      | k => exact redex_k w g1 q1 g2 _ y1 x2 y2 b1 a2 b2 m1 d1 n2 m2 c2 d2 (cell_of_heap hh) (cell_of_heap hh) (cell_of_heap hh) (cell_of_heap hh) hlt (cell_of_heap hh2) (cell_of_heap hh2) (cell_of_heap hh2) (cell_of_heap hh2) hlt2 (atom_form hg2 rfl) m hm
      | s => exact redex_atom3 w g1 q1 g2 _ y1 x2 y2 b1 a2 b2 m1 d1 n2 m2 c2 d2 (cell_of_heap hh) (cell_of_heap hh) (cell_of_heap hh) (cell_of_heap hh) hlt (cell_of_heap hh2) (cell_of_heap hh2) (cell_of_heap hh2) (cell_of_heap hh2) hlt2 (by rw [atom_form hg2 rfl]; simp [Tm.text]) (by rw [atom_form hg2 rfl]; simp [Tm.text])
      | nm n =>
        have hn := name_not hgg.1
        exact redex_atom3 w g1 q1 g2 _ y1 x2 y2 b1 a2 b2 m1 d1 n2 m2 c2 d2 (cell_of_heap hh) (cell_of_heap hh) (cell_of_heap hh) (cell_of_heap hh) hlt (cell_of_heap hh2) (cell_of_heap hh2) (cell_of_heap hh2) (cell_of_heap hh2) hlt2 (by rw [atom_form hg2 rfl]; exact hn.1) (by rw [atom_form hg2 rfl]; exact hn.2.1)
      | app h x =>
        obtain ⟨rfl, g3, q3, fr3, s4, p4, s5, p5, e2, hh3, hh4, hx⟩ := app_form hg2
        injection e2 with e3 e4 e5
        subst e3; subst e4; subst e5
        obtain ⟨x3, a3, n3, c3, rfl, rfl⟩ := parts_form hh4
        obtain ⟨y3, b3, m3, d3, rfl, rfl⟩ := parts_form hx
        have hlt3 := (Array.getElem?_eq_some_iff.1 hh3).1
        have hggg := hgg.1
        simp only [Tm.good, Bool.and_eq_true] at hggg
        have deep : x3 ≠ [115] → Calls Try.prog 87 #[.agg #[str [], .slice (some ⟨g1, 0, none⟩) 2 q1]] w (RedexPost w none) := fun hne =>
          redex_deep w g1 q1 g2 _ g3 _ y1 y2 x3 y3 b1 b2 a3 b3 m1 d1 m2 d2 n3 c3 m3 d3 (cell_of_heap hh) (cell_of_heap hh) (cell_of_heap hh) (cell_of_heap hh) hlt (cell_of_heap hh2) (cell_of_heap hh2) (cell_of_heap hh2) (cell_of_heap hh2) hlt2 (cell_of_heap hh3) (cell_of_heap hh3) (cell_of_heap hh3) (cell_of_heap hh3) hlt3 hne
        cases h with
        | k => exact deep (by rw [atom_form hh4 rfl]; simp [Tm.text])
        | nm n => exact deep (by rw [atom_form hh4 rfl]; exact (name_not hggg.1).2.2)
        | app h1 h2 => obtain ⟨rfl, _⟩ := app_form hh4; exact deep (by simp)
        | s => exact redex_s w g1 q1 g2 _ g3 _ y1 y2 x3 y3 b1 b2 a3 b3 m1 d1 m2 d2 n3 c3 m3 d3 (cell_of_heap hh) (cell_of_heap hh) (cell_of_heap hh) (cell_of_heap hh) hlt (cell_of_heap hh2) (cell_of_heap hh2) (cell_of_heap hh2) (cell_of_heap hh2) hlt2 (cell_of_heap hh3) (cell_of_heap hh3) (cell_of_heap hh3) (cell_of_heap hh3) hlt3 (atom_form hh4 rfl) x m a hx hm ha

def SStepPost (w : World) (t : Tm) (e : Ending) (w' : World) : Prop :=
  ∃ s ao n c, e = .returned (.tuple #[.agg #[str s, .slice ao n c], .bool t.step.isSome]) ∧ After w w' ∧ ST w' (t.step.getD t) (.agg #[str s, .slice ao n c])

theorem box_facts (w : World) (x y : Value) (o : Obj) : ∀ W, After ((w.alloc (.cells #[x, y] 41)).alloc o) W → W.cell? ⟨w.heap.size, 0, none⟩ = some x ∧ W.cell? ⟨w.heap.size, 1, none⟩ = some y ∧ W.frozen? ⟨w.heap.size, 0, none⟩ = false ∧ W.frozen? ⟨w.heap.size, 1, none⟩ = false ∧ w.heap.size + 1 < W.heap.size := fun W hW => by
  have hh := hW.heap (heap_old2 w (.cells #[x, y] 41) o)
  have h2 := hW.heap (heap_new2 w w.heap.size (.cells #[x, y] 41) o rfl)
  exact ⟨cell_of_heap hh, cell_of_heap hh, by simp [World.frozen?, hh], by simp [World.frozen?, hh], (Array.getElem?_eq_some_iff.1 h2).1⟩

theorem box_facts2 (w : World) (x y : Value) (o : Obj) : ∀ W, After ((w.alloc o).alloc (.cells #[x, y] 41)) W → W.heap[w.heap.size + 1]? = some (.cells #[x, y] 41 (0, 0)) ∧ W.cell? ⟨w.heap.size + 1, 0, none⟩ = some x ∧ W.cell? ⟨w.heap.size + 1, 1, none⟩ = some y ∧ W.frozen? ⟨w.heap.size + 1, 0, none⟩ = false ∧ W.frozen? ⟨w.heap.size + 1, 1, none⟩ = false := fun W hW => by
  have hh := hW.heap (heap_new2 w w.heap.size o (.cells #[x, y] 41) rfl)
  exact ⟨hh, cell_of_heap hh, cell_of_heap hh, by simp [World.frozen?, hh], by simp [World.frozen?, hh]⟩

theorem step_redex (w : World) (t u : Tm) (x : List UInt8) (ao : Option Addr) (n c : Nat) (h : ST w t (.agg #[str x, .slice ao n c])) (hg : t.good = true) (hu : t.redex = some u) (hs : t.step = some u) :
    Calls Try.prog 84 #[.agg #[str x, .slice ao n c]] w (SStepPost w t) := by
  have hX : After w ((w.alloc (.cells #[str x, .slice ao n c] 41)).alloc (.cells #[.string ⟨#[]⟩, .slice none 0 0] 41)) := (After.new _ _).alloc _
  have hcall := s_redex (h.later hX) hg
  rw [hu] at hcall
  have H := Lib.hid hs
  have HX := Lib.hid hX
  clear hs hu h hX
  go_enter Try.func84, Try.ntmps84
  go_wp2_with fail
  refine hcall.mono ?_
  rintro e w1 ⟨s1, ao1, n1, c1, rfl, hb1, ht1⟩
  have HT := Lib.hid (ht1 u rfl)
  clear ht1 hcall
  obtain ⟨hr, r0, r1, f0, f1⟩ := box_facts2 w _ _ _ w1 hb1
  have hz := (Array.getElem?_eq_some_iff.1 hr).1
  have HR := Lib.hid hr
  clear hr
  go_wp2_with fail
  refine bodyPost_ret (v := .tuple #[.agg #[str s1, .slice ao1 n1 c1], .bool true]) (by simp [results, Try.results84, go_sem, r0, r1, hz]) rfl ⟨s1, ao1, n1, c1, by rw [H.out]; rfl, After.alloc (Below.setCell (Below.setCell (HX.out.trans hb1) (by simp) _) (by simp) _) _, ?_⟩
  rw [H.out]
  exact (HT.out.sets2 HR.out).later (After.new _ _)

theorem step_atom (w : World) (t : Tm) (x : List UInt8) (ao : Option Addr) (n c : Nat) (h : ST w t (.agg #[str x, .slice ao n c])) (hg : t.good = true) (hd : t.depth = 0) :
    Calls Try.prog 84 #[.agg #[str x, .slice ao n c]] w (SStepPost w t) := by
  have hX : After w ((w.alloc (.cells #[str x, .slice ao n c] 41)).alloc (.cells #[.string ⟨#[]⟩, .slice none 0 0] 41)) := (After.new _ _).alloc _
  have hcall := s_redex (h.later hX) hg
  have hu : t.redex = none := by cases t with
    | app f a => simp [Tm.depth] at hd
    | _ => rfl
  have hs : t.step = none := by cases t with
    | app f a => simp [Tm.depth] at hd
    | _ => rfl
  have hx : x.isEmpty = false := by
    have := Tm.text_ne t hg
    rw [← atom_form h hd] at this
    cases x with
    | nil => exact absurd rfl this
    | cons => rfl
  rw [hu] at hcall
  have H := Lib.hid hs
  have HX := Lib.hid hX
  have HT := Lib.hid h
  clear hs hu h hX
  go_enter Try.func84, Try.ntmps84
  go_wp2_with fail
  refine hcall.mono ?_
  rintro e w1 ⟨s1, ao1, n1, c1, rfl, hb1, ht1⟩
  clear ht1 hcall
  obtain ⟨hr, r0, r1, f0, f1⟩ := box_facts2 w _ _ _ w1 hb1
  obtain ⟨p0, p1, _, _, _⟩ := box_facts w _ _ _ w1 hb1
  have hz := (Array.getElem?_eq_some_iff.1 hr).1
  have hz2 : w.heap.size < w1.heap.size := by omega
  have HR := Lib.hid hr
  clear hr
  go_wp2_with fail
  refine bodyPost_ret (v := .tuple #[.agg #[str x, .slice ao n c], .bool false]) (by simp [results, Try.results84, go_sem, r0, r1, hz]) rfl ⟨x, ao, n, c, by rw [H.out]; rfl, After.alloc (Below.setCell (Below.setCell (HX.out.trans hb1) (by simp) _) (by simp) _) _, ?_⟩
  rw [H.out]
  exact ((HT.out.later (HX.out.trans hb1)).sets2 HR.out).later (After.new _ _)
end Go.Proofs.Ytjgemiojjhfnoac
