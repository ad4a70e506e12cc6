/-
  The model's redexes, gathered; its steps.
-/
import Derived.Test.YtfpekihdoclncaaGreatPkAI
import Derived.Test.YtfpekihdoclncaaGreatPkAC
namespace Go.Proofs.YtfpekihdoclncaaGreat
open Go.RowKit

set_option maxHeartbeats 4000000
set_option maxRecDepth 100000

theorem name_not {n : List UInt8} (h : Tm.nameOk n = true) : n ≠ [] ∧ n ≠ [107] ∧ n ≠ [115] := by
  refine ⟨?_, ?_, ?_⟩ <;> (rintro rfl; revert h; decide)

theorem parts_form {w : World} {t : Tm} {x y : Value} (h : ST w t (.agg #[x, y])) : ∃ s ao n c, x = str s ∧ y = .slice ao n c := by
  obtain ⟨s, ao, n, c, e⟩ := h.form
  simp only [Value.agg.injEq, Array.mk.injEq, List.cons.injEq, and_true] at e
  exact ⟨s, ao, n, c, e.1, e.2⟩

theorem atom_form {w : World} {t : Tm} {s : List UInt8} {y : Value} (h : ST w t (.agg #[str s, y])) (hd : t.depth = 0) : s = t.text := by
  cases t with
  | app f a => simp [Tm.depth] at hd
  | k => simp only [ST, Value.agg.injEq, Array.mk.injEq, List.cons.injEq, and_true, Value.string.injEq, ByteArray.mk.injEq] at h; simpa using h.1
  | s => simp only [ST, Value.agg.injEq, Array.mk.injEq, List.cons.injEq, and_true, Value.string.injEq, ByteArray.mk.injEq] at h; simpa using h.1
  | nm n => simp only [ST, Value.agg.injEq, Array.mk.injEq, List.cons.injEq, and_true, Value.string.injEq, ByteArray.mk.injEq] at h; simpa using h.1

theorem app_form {w : World} {f a : Tm} {s : List UInt8} {y : Value} (h : ST w (f.app a) (.agg #[str s, y])) : s = [] ∧ ∃ g q fr s0 p0 s1 p1, y = .slice (some ⟨g, 0, none⟩) 2 q ∧ w.heap[g]? = some (.cells #[s0, p0, s1, p1] 42 fr) ∧ ST w f (.agg #[s0, p0]) ∧ ST w a (.agg #[s1, p1]) := by
  obtain ⟨g, q, fr, s0, p0, s1, p1, e, hh, hf, ha⟩ := h
  simp only [Value.agg.injEq, Array.mk.injEq, List.cons.injEq, and_true, Value.string.injEq, ByteArray.mk.injEq] at e
  exact ⟨by simpa using e.1, g, q, fr, s0, p0, s1, p1, e.2, hh, hf, ha⟩

theorem s_redex {w : World} {t : Tm} {v : Value} (h : ST w t v) (hg : t.good = true) : Calls Tryz.prog 79 #[v] w (RedexPost w t.redex) := by
  cases t with
  | k => simp only [ST] at h; subst h; exact redex_atom w _ _ _ _ (by simp [Tm.text])
  | s => simp only [ST] at h; subst h; exact redex_atom w _ _ _ _ (by simp [Tm.text])
  | nm n => simp only [ST] at h; subst h; exact redex_atom w _ _ _ _ (Tm.text_ne _ hg)
  | app f a =>
    obtain ⟨g1, q1, fr1, s0, p0, s1, p1, rfl, hh, hf, ha⟩ := h
    obtain ⟨x1, a1, n1, c1, rfl, rfl⟩ := parts_form hf
    obtain ⟨y1, b1, m1, d1, rfl, rfl⟩ := parts_form ha
    have hlt := (Array.getElem?_eq_some_iff.1 hh).1
    simp only [Tm.good, Bool.and_eq_true] at hg
    cases f with
    | k => exact redex_atom2 w g1 q1 x1 (cell_of_heap hh) hlt (by rw [atom_form hf rfl]; simp [Tm.text])
    | s => exact redex_atom2 w g1 q1 x1 (cell_of_heap hh) hlt (by rw [atom_form hf rfl]; simp [Tm.text])
    | nm n => exact redex_atom2 w g1 q1 x1 (cell_of_heap hh) hlt (by rw [atom_form hf rfl]; exact Tm.text_ne _ hg.1)
    | app g m =>
      obtain ⟨rfl, g2, q2, fr2, s2, p2, s3, p3, e2, hh2, hg2, hm⟩ := app_form hf
      injection e2 with e3 e4 e5
      subst e3; subst e4; subst e5
      obtain ⟨x2, a2, n2, c2, rfl, rfl⟩ := parts_form hg2
      obtain ⟨y2, b2, m2, d2, rfl, rfl⟩ := parts_form hm
      have hlt2 := (Array.getElem?_eq_some_iff.1 hh2).1
      have hgg := hg.1
      simp only [Tm.good, Bool.and_eq_true] at hgg
      cases g with
      | k => exact redex_k w g1 q1 g2 _ y1 x2 y2 b1 a2 b2 m1 d1 n2 m2 c2 d2 (cell_of_heap hh) (cell_of_heap hh) (cell_of_heap hh) (cell_of_heap hh) hlt (cell_of_heap hh2) (cell_of_heap hh2) (cell_of_heap hh2) (cell_of_heap hh2) hlt2 (atom_form hg2 rfl) m hm
      | s => exact redex_atom3 w g1 q1 g2 _ y1 x2 y2 b1 a2 b2 m1 d1 n2 m2 c2 d2 (cell_of_heap hh) (cell_of_heap hh) (cell_of_heap hh) (cell_of_heap hh) hlt (cell_of_heap hh2) (cell_of_heap hh2) (cell_of_heap hh2) (cell_of_heap hh2) hlt2 (by rw [atom_form hg2 rfl]; simp [Tm.text]) (by rw [atom_form hg2 rfl]; simp [Tm.text])
      | nm n =>
        have hn := name_not hgg.1
        exact redex_atom3 w g1 q1 g2 _ y1 x2 y2 b1 a2 b2 m1 d1 n2 m2 c2 d2 (cell_of_heap hh) (cell_of_heap hh) (cell_of_heap hh) (cell_of_heap hh) hlt (cell_of_heap hh2) (cell_of_heap hh2) (cell_of_heap hh2) (cell_of_heap hh2) hlt2 (by rw [atom_form hg2 rfl]; exact hn.1) (by rw [atom_form hg2 rfl]; exact hn.2.1)
      | app h x =>
        obtain ⟨rfl, g3, q3, fr3, s4, p4, s5, p5, e2, hh3, hh4, hx⟩ := app_form hg2
        injection e2 with e3 e4 e5
        subst e3; subst e4; subst e5
        obtain ⟨x3, a3, n3, c3, rfl, rfl⟩ := parts_form hh4
        obtain ⟨y3, b3, m3, d3, rfl, rfl⟩ := parts_form hx
        have hlt3 := (Array.getElem?_eq_some_iff.1 hh3).1
        have hggg := hgg.1
        simp only [Tm.good, Bool.and_eq_true] at hggg
        have deep : x3 ≠ [115] → Calls Tryz.prog 79 #[.agg #[str [], .slice (some ⟨g1, 0, none⟩) 2 q1]] w (RedexPost w none) := fun hne =>
          redex_deep w g1 q1 g2 _ g3 _ y1 y2 x3 y3 b1 b2 a3 b3 m1 d1 m2 d2 n3 c3 m3 d3 (cell_of_heap hh) (cell_of_heap hh) (cell_of_heap hh) (cell_of_heap hh) hlt (cell_of_heap hh2) (cell_of_heap hh2) (cell_of_heap hh2) (cell_of_heap hh2) hlt2 (cell_of_heap hh3) (cell_of_heap hh3) (cell_of_heap hh3) (cell_of_heap hh3) hlt3 hne
        cases h with
        | k => exact deep (by rw [atom_form hh4 rfl]; simp [Tm.text])
        | nm n => exact deep (by rw [atom_form hh4 rfl]; exact (name_not hggg.1).2.2)
        | app h1 h2 => obtain ⟨rfl, _⟩ := app_form hh4; exact deep (by simp)
        | s => exact redex_s w g1 q1 g2 _ g3 _ y1 y2 x3 y3 b1 b2 a3 b3 m1 d1 m2 d2 n3 c3 m3 d3 (cell_of_heap hh) (cell_of_heap hh) (cell_of_heap hh) (cell_of_heap hh) hlt (cell_of_heap hh2) (cell_of_heap hh2) (cell_of_heap hh2) (cell_of_heap hh2) hlt2 (cell_of_heap hh3) (cell_of_heap hh3) (cell_of_heap hh3) (cell_of_heap hh3) hlt3 (atom_form hh4 rfl) x m a hx hm ha

def SStepPost (w : World) (t : Tm) (e : Ending) (w' : World) : Prop :=
  ∃ s ao n c, e = .returned (.tuple #[.agg #[str s, .slice ao n c], .bool t.step.isSome]) ∧ After w w' ∧ ST w' (t.step.getD t) (.agg #[str s, .slice ao n c])

theorem box_facts (w : World) (x y : Value) (o : Obj) : ∀ W, After ((w.alloc (.cells #[x, y] 42)).alloc o) W → W.cell? ⟨w.heap.size, 0, none⟩ = some x ∧ W.cell? ⟨w.heap.size, 1, none⟩ = some y ∧ W.frozen? ⟨w.heap.size, 0, none⟩ = false ∧ W.frozen? ⟨w.heap.size, 1, none⟩ = false ∧ w.heap.size + 1 < W.heap.size := fun W hW => by
  have hh := hW.heap (heap_old2 w (.cells #[x, y] 42) o)
  have h2 := hW.heap (heap_new2 w w.heap.size (.cells #[x, y] 42) o rfl)
  exact ⟨cell_of_heap hh, cell_of_heap hh, by simp [World.frozen?, hh], by simp [World.frozen?, hh], (Array.getElem?_eq_some_iff.1 h2).1⟩

theorem box_facts2 (w : World) (x y : Value) (o : Obj) : ∀ W, After ((w.alloc o).alloc (.cells #[x, y] 42)) W → W.heap[w.heap.size + 1]? = some (.cells #[x, y] 42 (0, 0)) ∧ W.cell? ⟨w.heap.size + 1, 0, none⟩ = some x ∧ W.cell? ⟨w.heap.size + 1, 1, none⟩ = some y ∧ W.frozen? ⟨w.heap.size + 1, 0, none⟩ = false ∧ W.frozen? ⟨w.heap.size + 1, 1, none⟩ = false := fun W hW => by
  have hh := hW.heap (heap_new2 w w.heap.size o (.cells #[x, y] 42) rfl)
  exact ⟨hh, cell_of_heap hh, cell_of_heap hh, by simp [World.frozen?, hh], by simp [World.frozen?, hh]⟩

theorem step_redex (w : World) (t u : Tm) (x : List UInt8) (ao : Option Addr) (n c : Nat) (h : ST w t (.agg #[str x, .slice ao n c])) (hg : t.good = true) (hu : t.redex = some u) (hs : t.step = some u) :
    Calls Tryz.prog 72 #[.agg #[str x, .slice ao n c]] w (SStepPost w t) := by
  have hX : After w ((w.alloc (.cells #[str x, .slice ao n c] 42)).alloc (.cells #[.string ⟨#[]⟩, .slice none 0 0] 42)) := (After.new _ _).alloc _
  have hcall := s_redex (h.later hX) hg
  rw [hu] at hcall
  have H := Lib.hid hs
  have HX := Lib.hid hX
  clear hs hu h hX
  go_enter Tryz.func72, Tryz.ntmps72
  go_wp2_with fail
  refine hcall.mono ?_
  rintro e w1 ⟨s1, ao1, n1, c1, rfl, hb1, ht1⟩
  have HT := Lib.hid (ht1 u rfl)
  clear ht1 hcall
  obtain ⟨hr, r0, r1, f0, f1⟩ := box_facts2 w _ _ _ w1 hb1
  have hz := (Array.getElem?_eq_some_iff.1 hr).1
  have HR := Lib.hid hr
  clear hr
  go_wp2_with fail
  refine bodyPost_ret (v := .tuple #[.agg #[str s1, .slice ao1 n1 c1], .bool true]) (by simp [results, Tryz.results72, go_sem, r0, r1, hz]) rfl ⟨s1, ao1, n1, c1, by rw [H.out]; rfl, After.alloc (Below.setCell (Below.setCell (HX.out.trans hb1) (by simp) _) (by simp) _) _, ?_⟩
  rw [H.out]
  exact (HT.out.sets2 HR.out).later (After.new _ _)

theorem step_atom (w : World) (t : Tm) (x : List UInt8) (ao : Option Addr) (n c : Nat) (h : ST w t (.agg #[str x, .slice ao n c])) (hg : t.good = true) (hd : t.depth = 0) :
    Calls Tryz.prog 72 #[.agg #[str x, .slice ao n c]] w (SStepPost w t) := by
  have hX : After w ((w.alloc (.cells #[str x, .slice ao n c] 42)).alloc (.cells #[.string ⟨#[]⟩, .slice none 0 0] 42)) := (After.new _ _).alloc _
  have hcall := s_redex (h.later hX) hg
  have hu : t.redex = none := by cases t with
    | app f a => simp [Tm.depth] at hd
    | _ => rfl
  have hs : t.step = none := by cases t with
    | app f a => simp [Tm.depth] at hd
    | _ => rfl
  have hx : x.isEmpty = false := by
    have := Tm.text_ne t hg
    rw [← atom_form h hd] at this
    cases x with
    | nil => exact absurd rfl this
    | cons => rfl
  rw [hu] at hcall
  have H := Lib.hid hs
  have HX := Lib.hid hX
  have HT := Lib.hid h
  clear hs hu h hX
  go_enter Tryz.func72, Tryz.ntmps72
  go_wp2_with fail
  refine hcall.mono ?_
  rintro e w1 ⟨s1, ao1, n1, c1, rfl, hb1, ht1⟩
  clear ht1 hcall
  obtain ⟨hr, r0, r1, f0, f1⟩ := box_facts2 w _ _ _ w1 hb1
  obtain ⟨p0, p1, _, _, _⟩ := box_facts w _ _ _ w1 hb1
  have hz := (Array.getElem?_eq_some_iff.1 hr).1
  have hz2 : w.heap.size < w1.heap.size := by omega
  have HR := Lib.hid hr
  clear hr
  go_wp2_with fail
  refine bodyPost_ret (v := .tuple #[.agg #[str x, .slice ao n c], .bool false]) (by simp [results, Tryz.results72, go_sem, r0, r1, hz]) rfl ⟨x, ao, n, c, by rw [H.out]; rfl, After.alloc (Below.setCell (Below.setCell (HX.out.trans hb1) (by simp) _) (by simp) _) _, ?_⟩
  rw [H.out]
  exact ((HT.out.later (HX.out.trans hb1)).sets2 HR.out).later (After.new _ _)
end Go.Proofs.YtfpekihdoclncaaGreat

namespace Go.Proofs.YtfpekihdoclncaaGreat
open Go.RowKit

set_option maxHeartbeats 4000000
set_option maxRecDepth 100000

theorem step_fun (w : World) (f a : Tm) (g1 q1 : Nat) (x1 y1 : List UInt8) (a1 b1 : Option Addr) (n1 c1 m1 d1 : Nat) (fr : Nat × Nat) (hh : w.heap[g1]? = some (.cells #[str x1, .slice a1 n1 c1, str y1, .slice b1 m1 d1] 42 fr))
    (hf : ST w f (.agg #[str x1, .slice a1 n1 c1])) (ha : ST w a (.agg #[str y1, .slice b1 m1 d1])) (hg : (f.app a).good = true) (hr : (f.app a).redex = none)
    (ihf : ∀ W, After w W → Calls Tryz.prog 72 #[.agg #[str x1, .slice a1 n1 c1]] W (SStepPost W f)) (u : Tm) (hu : f.step = some u) :
    Calls Tryz.prog 72 #[.agg #[str [], .slice (some ⟨g1, 0, none⟩) 2 q1]] w (SStepPost w (f.app a)) := by
  have hs : (f.app a).step = some (u.app a) := by simp [Tm.step, hr, hu]
  have H := Lib.hid hs
  have HU := Lib.hid hu
  have hsome : f.step.isSome = true := by rw [hu]; rfl
  clear hs hu
  have hX : After w ((w.alloc (.cells #[str [], .slice (some ⟨g1, 0, none⟩) 2 q1] 42)).alloc (.cells #[.string ⟨#[]⟩, .slice none 0 0] 42)) := (After.new _ _).alloc _
  have htree : ST w (f.app a) (.agg #[str [], .slice (some ⟨g1, 0, none⟩) 2 q1]) := ⟨g1, q1, fr, _, _, _, _, rfl, hh, hf, ha⟩
  have hcall := s_redex (htree.later hX) hg
  rw [hr] at hcall
  have HX := Lib.hid hX
  have HF := Lib.hid hf
  have HA := Lib.hid ha
  have HH := Lib.hid hh
  have hlt := (Array.getElem?_eq_some_iff.1 hh).1
  clear hr hX htree hf ha
  go_enter Tryz.func72, Tryz.ntmps72
  go_wp2_with fail
  refine hcall.mono ?_
  rintro e w1 ⟨s1, ao1, nn1, cc1, rfl, hb1, ht1⟩
  clear ht1 hcall
  obtain ⟨p0, p1, _, _, hz⟩ := box_facts w _ _ _ w1 hb1
  have hz2 : w.heap.size < w1.heap.size := by omega
  have hw1 := HX.out.trans hb1
  have k0 : w1.cell? ⟨g1, 0, none⟩ = some (str x1) := cell_of_heap (hw1.heap hh)
  have k1 : w1.cell? ⟨g1, 1, none⟩ = some (.slice a1 n1 c1) := cell_of_heap (hw1.heap hh)
  have hlt1 : g1 < w1.heap.size := by omega
  clear hh
  go_wp2_with fail
  refine (ihf _ (hw1.alloc _)).mono ?_
  rintro e w2 ⟨s2, ao2, nn2, cc2, rfl, hb2, ht2⟩
  have HT2 := Lib.hid ht2
  have hb12 := (After.alloc hb1 (.cells #[str s1, .slice ao1 nn1 cc1] 42)).trans hb2
  have hw2 := HX.out.trans hb12
  clear ht2 p0 p1 hz2 k0 k1 hlt1 hz
  obtain ⟨p0, p1, _, _, hz⟩ := box_facts w _ _ _ w2 hb12
  have hz2 : w.heap.size < w2.heap.size := by omega
  go_wp2_with fail
  obtain ⟨X, hX⟩ : ∃ X, X = w2.alloc (.cells #[str s2, .slice ao2 nn2 cc2] 42) := ⟨_, rfl⟩
  have h2X : After w2 X := by rw [hX]; exact After.new _ _
  have hwX := hw2.trans h2X
  have hRX := (box_facts2 w _ _ _ X (hb12.trans h2X)).1
  have hBX : X.heap[w2.heap.size]? = some (.cells #[str s2, .slice ao2 nn2 cc2] 42 (0, 0)) := by rw [hX]; exact heap_new' _ _
  have hTX := (box_facts w _ _ _ X (hb12.trans h2X))
  have hne : w2.heap.size ≠ w.heap.size + 1 := by omega
  have hne2 : g1 ≠ w.heap.size + 1 := by omega
  have o1 : ∀ W, ButFor X (w.heap.size + 1) W → W.cell? ⟨w2.heap.size, 0, none⟩ = some (str s2) := fun W hW => hW.cell hne (cell_of_heap hBX)
  have o2 : ∀ W, ButFor X (w.heap.size + 1) W → W.cell? ⟨w2.heap.size, 1, none⟩ = some (.slice ao2 nn2 cc2) := fun W hW => hW.cell hne (cell_of_heap hBX)
  have o3 : ∀ W, ButFor X (w.heap.size + 1) W → W.cell? ⟨w.heap.size, 1, none⟩ = some (.slice (some ⟨g1, 0, none⟩) 2 q1) := fun W hW => hW.cell (by omega) hTX.2.1
  have o4 : ∀ W, ButFor X (w.heap.size + 1) W → W.cell? ⟨g1, 2, none⟩ = some (str y1) := fun W hW => hW.cell hne2 (cell_of_heap (hwX.heap HH.out))
  have o5 : ∀ W, ButFor X (w.heap.size + 1) W → W.cell? ⟨g1, 3, none⟩ = some (.slice b1 m1 d1) := fun W hW => hW.cell hne2 (cell_of_heap (hwX.heap HH.out))
  have hself := After.refl X
  have hbf : ButFor X (w.heap.size + 1) X.drew := ⟨Nat.le_refl _, fun _ _ _ => rfl⟩
  have hres : ∀ W, After X W → W.cell? ⟨w.heap.size + 1, 0, none⟩ = some (.string ⟨#[]⟩) ∧ W.cell? ⟨w.heap.size + 1, 1, none⟩ = some (.slice none 0 0) ∧ W.frozen? ⟨w.heap.size + 1, 0, none⟩ = false ∧ W.frozen? ⟨w.heap.size + 1, 1, none⟩ = false := fun W hW => by
    have hh := hW.heap hRX
    exact ⟨cell_of_heap hh, cell_of_heap hh, by simp [World.frozen?, hh], by simp [World.frozen?, hh]⟩
  rw [← hX]
  have HUX : Hid (ST X u (.agg #[str s2, .slice ao2 nn2 cc2])) := by
    have := HT2.out.later h2X
    rw [HU.out] at this
    exact this
  have HAX := Lib.hid (HA.out.later hwX)
  have HRES := Lib.hid hres
  have HWX := Lib.hid hwX
  have HRX := Lib.hid hRX
  clear hres hRX hBX hTX hwX hX p0 p1 hz hz2 hw1 hw2 hb12 h2X hb1 hb2
  go_region_held3 (fun W' => ButFor X (w.heap.size + 1) W') (first | assumption | exact hbf | exact After.butFor (by assumption) | exact ButFor.alloc (by assumption) _ | exact ButFor.set (ButFor.set (by assumption) _ _) _ _ | go_keep)
    (first | (go_at_call 19; refine (s_app _ u a s2 y1 ao2 b1 nn2 cc2 m1 d1 _ (0, 0) ?_ ?_ ?_).mono ?_; exact HUX.out.later (hself.alloc _).drew; exact HAX.out.later (hself.alloc _).drew; exact heap_new' _ _; rintro e w3 ⟨t3, ao3, nn3, cc3, rfl, hb3, hs3⟩; have hA3 := After.trans (hself.alloc _).drew hb3; obtain ⟨q0, q1, q2, q3⟩ := HRES.out _ hA3))
  all_goals
    go_wp2_with fail
    refine bodyPost_ret (v := .tuple #[.agg #[str t3, .slice ao3 nn3 cc3], .bool true]) (by simp [results, Tryz.results72, go_sem, q0, q1]) rfl ⟨t3, ao3, nn3, cc3, by rw [H.out]; rfl, Below.setCell (Below.setCell (HWX.out.trans hA3) (by simp) _) (by simp) _, ?_⟩
    rw [H.out]
    exact hs3.sets2 (hA3.heap HRX.out)

theorem step_arg (w : World) (f a : Tm) (g1 q1 : Nat) (x1 y1 : List UInt8) (a1 b1 : Option Addr) (n1 c1 m1 d1 : Nat) (fr : Nat × Nat) (hh : w.heap[g1]? = some (.cells #[str x1, .slice a1 n1 c1, str y1, .slice b1 m1 d1] 42 fr))
    (hf : ST w f (.agg #[str x1, .slice a1 n1 c1])) (ha : ST w a (.agg #[str y1, .slice b1 m1 d1])) (hg : (f.app a).good = true) (hr : (f.app a).redex = none)
    (ihf : ∀ W, After w W → Calls Tryz.prog 72 #[.agg #[str x1, .slice a1 n1 c1]] W (SStepPost W f)) (hu : f.step = none) (iha : ∀ W, After w W → Calls Tryz.prog 72 #[.agg #[str y1, .slice b1 m1 d1]] W (SStepPost W a)) :
    Calls Tryz.prog 72 #[.agg #[str [], .slice (some ⟨g1, 0, none⟩) 2 q1]] w (SStepPost w (f.app a)) := by
  have hs1 : (f.app a).step.isSome = a.step.isSome := by cases h : a.step <;> simp [Tm.step, hr, hu, h]
  have hs2 : (f.app a).step.getD (f.app a) = f.app (a.step.getD a) := by cases h : a.step <;> simp [Tm.step, hr, hu, h]
  have H1 := Lib.hid hs1
  have H2 := Lib.hid hs2
  have hsome : f.step.isSome = false := by rw [hu]; rfl
  clear hs1 hs2 hu
  have hX : After w ((w.alloc (.cells #[str [], .slice (some ⟨g1, 0, none⟩) 2 q1] 42)).alloc (.cells #[.string ⟨#[]⟩, .slice none 0 0] 42)) := (After.new _ _).alloc _
  have htree : ST w (f.app a) (.agg #[str [], .slice (some ⟨g1, 0, none⟩) 2 q1]) := ⟨g1, q1, fr, _, _, _, _, rfl, hh, hf, ha⟩
  have hcall := s_redex (htree.later hX) hg
  rw [hr] at hcall
  have HX := Lib.hid hX
  have HF := Lib.hid hf
  have HA := Lib.hid ha
  have HH := Lib.hid hh
  have hlt := (Array.getElem?_eq_some_iff.1 hh).1
  clear hr hX htree hf ha
  go_enter Tryz.func72, Tryz.ntmps72
  go_wp2_with fail
  refine hcall.mono ?_
  rintro e w1 ⟨s1, ao1, nn1, cc1, rfl, hb1, ht1⟩
  clear ht1 hcall
  obtain ⟨p0, p1, _, _, hz⟩ := box_facts w _ _ _ w1 hb1
  have hz2 : w.heap.size < w1.heap.size := by omega
  have hw1 := HX.out.trans hb1
  have k0 : w1.cell? ⟨g1, 0, none⟩ = some (str x1) := cell_of_heap (hw1.heap hh)
  have k1 : w1.cell? ⟨g1, 1, none⟩ = some (.slice a1 n1 c1) := cell_of_heap (hw1.heap hh)
  have hlt1 : g1 < w1.heap.size := by omega
  clear hh
  go_wp2_with fail
  refine (ihf _ (hw1.alloc _)).mono ?_
  rintro e w2 ⟨s2, ao2, nn2, cc2, rfl, hb2, ht2⟩
  have HT2 := Lib.hid ht2
  have hb12 := (After.alloc hb1 (.cells #[str s1, .slice ao1 nn1 cc1] 42)).trans hb2
  have hw2 := HX.out.trans hb12
  clear ht2 p0 p1 hz2 k0 k1 hlt1 hz
  clear HT2
  obtain ⟨p0, p1, _, _, hz⟩ := box_facts w _ _ _ w2 hb12
  have hz2 : w.heap.size < w2.heap.size := by omega
  have k2 : w2.cell? ⟨g1, 2, none⟩ = some (str y1) := cell_of_heap (hw2.heap HH.out)
  have k3 : w2.cell? ⟨g1, 3, none⟩ = some (.slice b1 m1 d1) := cell_of_heap (hw2.heap HH.out)
  have hlt1 : g1 < w2.heap.size := by omega
  go_wp2_with fail
  refine (iha _ (hw2.alloc _)).mono ?_
  rintro e w3 ⟨s3, ao3, nn3, cc3, rfl, hb3, ht3⟩
  have HT3 := Lib.hid ht3
  have hb13 := (After.alloc hb12 (.cells #[str s2, .slice ao2 nn2 cc2] 42)).trans hb3
  have hw3 := HX.out.trans hb13
  clear ht3 p0 p1 hz2 k2 k3 hlt1 hz
  obtain ⟨p0, p1, _, _, hz⟩ := box_facts w _ _ _ w3 hb13
  have hz2 : w.heap.size < w3.heap.size := by omega
  obtain ⟨gd, hgd⟩ : ∃ b, b = a.step.isSome := ⟨_, rfl⟩
  rw [← hgd]
  have HGD := Lib.hid hgd
  clear hgd
  go_wp2_with fail
  obtain ⟨X, hX⟩ : ∃ X, X = w3.alloc (.cells #[str s3, .slice ao3 nn3 cc3] 42) := ⟨_, rfl⟩
  have h3X : After w3 X := by rw [hX]; exact After.new _ _
  have hwX := hw3.trans h3X
  have hRX := (box_facts2 w _ _ _ X (hb13.trans h3X)).1
  have hBX : X.heap[w3.heap.size]? = some (.cells #[str s3, .slice ao3 nn3 cc3] 42 (0, 0)) := by rw [hX]; exact heap_new' _ _
  have hTX := (box_facts w _ _ _ X (hb13.trans h3X))
  have hne : w3.heap.size ≠ w.heap.size + 1 := by omega
  have hne2 : g1 ≠ w.heap.size + 1 := by omega
  have o1 : ∀ W, ButFor X (w.heap.size + 1) W → W.cell? ⟨w3.heap.size, 0, none⟩ = some (str s3) := fun W hW => hW.cell hne (cell_of_heap hBX)
  have o2 : ∀ W, ButFor X (w.heap.size + 1) W → W.cell? ⟨w3.heap.size, 1, none⟩ = some (.slice ao3 nn3 cc3) := fun W hW => hW.cell hne (cell_of_heap hBX)
  have o3 : ∀ W, ButFor X (w.heap.size + 1) W → W.cell? ⟨w.heap.size, 1, none⟩ = some (.slice (some ⟨g1, 0, none⟩) 2 q1) := fun W hW => hW.cell (by omega) hTX.2.1
  have o4 : ∀ W, ButFor X (w.heap.size + 1) W → W.cell? ⟨g1, 0, none⟩ = some (str x1) := fun W hW => hW.cell hne2 (cell_of_heap (hwX.heap HH.out))
  have o5 : ∀ W, ButFor X (w.heap.size + 1) W → W.cell? ⟨g1, 1, none⟩ = some (.slice a1 n1 c1) := fun W hW => hW.cell hne2 (cell_of_heap (hwX.heap HH.out))
  have hself := After.refl X
  have hbf : ButFor X (w.heap.size + 1) X.drew := ⟨Nat.le_refl _, fun _ _ _ => rfl⟩
  have hres : ∀ W, After X W → W.cell? ⟨w.heap.size + 1, 0, none⟩ = some (.string ⟨#[]⟩) ∧ W.cell? ⟨w.heap.size + 1, 1, none⟩ = some (.slice none 0 0) ∧ W.frozen? ⟨w.heap.size + 1, 0, none⟩ = false ∧ W.frozen? ⟨w.heap.size + 1, 1, none⟩ = false := fun W hW => by
    have hh := hW.heap hRX
    exact ⟨cell_of_heap hh, cell_of_heap hh, by simp [World.frozen?, hh], by simp [World.frozen?, hh]⟩
  rw [← hX]
  have HUX := Lib.hid (HT3.out.later h3X)
  have HFX := Lib.hid (HF.out.later hwX)
  have HRES := Lib.hid hres
  have HWX := Lib.hid hwX
  have HRX := Lib.hid hRX
  clear hres hRX hBX hTX hwX hX p0 p1 hz hz2 hw1 hw2 hw3 hb12 hb13 h3X hb1 hb2 hb3
  go_region_held3 (fun W' => ButFor X (w.heap.size + 1) W') (first | assumption | exact hbf | exact After.butFor (by assumption) | exact ButFor.alloc (by assumption) _ | exact ButFor.set (ButFor.set (by assumption) _ _) _ _ | go_keep)
    (first | (go_at_call 19; refine (s_app _ f (a.step.getD a) x1 s3 a1 ao3 n1 c1 nn3 cc3 _ (0, 0) ?_ ?_ ?_).mono ?_; exact HFX.out.later (hself.alloc _).drew; exact HUX.out.later (hself.alloc _).drew; exact heap_new' _ _; rintro e w4 ⟨t4, ao4, nn4, cc4, rfl, hb4, hs4⟩; have hA4 := After.trans (hself.alloc _).drew hb4; obtain ⟨q0, q1, q2, q3⟩ := HRES.out _ hA4))
  all_goals
    go_wp2_with fail
    refine bodyPost_ret (v := .tuple #[.agg #[str t4, .slice ao4 nn4 cc4], .bool gd]) (by simp [results, Tryz.results72, go_sem, q0, q1]) rfl ⟨t4, ao4, nn4, cc4, by rw [H1.out, HGD.out], Below.setCell (Below.setCell (HWX.out.trans hA4) (by simp) _) (by simp) _, ?_⟩
    rw [H2.out]
    exact hs4.sets2 (hA4.heap HRX.out)

theorem s_step {t : Tm} : ∀ {w : World} {v : Value}, ST w t v → t.good = true → Calls Tryz.prog 72 #[v] w (SStepPost w t) := by
  induction t with
  | k => intro w v h hg; obtain ⟨x, ao, n, c, rfl⟩ := h.form; exact step_atom w _ x ao n c h hg rfl
  | s => intro w v h hg; obtain ⟨x, ao, n, c, rfl⟩ := h.form; exact step_atom w _ x ao n c h hg rfl
  | nm m => intro w v h hg; obtain ⟨x, ao, n, c, rfl⟩ := h.form; exact step_atom w _ x ao n c h hg rfl
  | app f a ihf iha =>
    intro w v h hg
    cases hr : (f.app a).redex with
    | some u =>
      obtain ⟨x, ao, n, c, rfl⟩ := h.form
      exact step_redex w _ u x ao n c h hg hr (by simp [Tm.step, hr])
    | none =>
      obtain ⟨g1, q1, fr, s0, p0, s1, p1, rfl, hh, hf, ha⟩ := h
      obtain ⟨x1, a1, n1, c1, rfl, rfl⟩ := parts_form hf
      obtain ⟨y1, b1, m1, d1, rfl, rfl⟩ := parts_form ha
      have hg' := hg
      simp only [Tm.good, Bool.and_eq_true] at hg'
      cases hfs : f.step with
      | some u => exact step_fun w f a g1 q1 x1 y1 a1 b1 n1 c1 m1 d1 fr hh hf ha hg hr (fun W hW => ihf (hf.later hW) hg'.1) u hfs
      | none => exact step_arg w f a g1 q1 x1 y1 a1 b1 n1 c1 m1 d1 fr hh hf ha hg hr (fun W hW => ihf (hf.later hW) hg'.1) hfs (fun W hW => iha (ha.later hW) hg'.2)
end Go.Proofs.YtfpekihdoclncaaGreat

namespace Go.Proofs.YtfpekihdoclncaaGreat
open Go.RowKit

set_option maxHeartbeats 1000000
set_option maxRecDepth 100000

theorem heap_sets2 {W : World} {b : Nat} {x y u u' : Value} {T : TypeId} {fr : Nat × Nat} (hh : W.heap[b]? = some (.cells #[x, y] T fr)) : ((W.setCell ⟨b, 0, none⟩ u).setCell ⟨b, 1, none⟩ u').heap[b]? = some (.cells #[u, u'] T fr) := by
  simp [World.setCell, Array.getElem?_modify, hh]

theorem heap_sets2_ne {W : World} {b c i j : Nat} {u u' : Value} (hne : c ≠ b) : ((W.setCell ⟨b, i, none⟩ u).setCell ⟨b, j, none⟩ u').heap[c]? = W.heap[c]? := by
  rw [Below.heap_setCell _ _ _ _ hne, Below.heap_setCell _ _ _ _ hne]

theorem pair_facts {W : World} {b : Nat} {x y : Value} {T : TypeId} (h : W.heap[b]? = some (.cells #[x, y] T (0, 0))) {W' : World} (hW : After W W') :
    W'.cell? ⟨b, 0, none⟩ = some x ∧ W'.cell? ⟨b, 1, none⟩ = some y ∧ W'.frozen? ⟨b, 0, none⟩ = false ∧ W'.frozen? ⟨b, 1, none⟩ = false ∧ b < W'.heap.size := by
  have hh := hW.heap h
  exact ⟨cell_of_heap hh, cell_of_heap hh, by simp [World.frozen?, hh], by simp [World.frozen?, hh], (Array.getElem?_eq_some_iff.1 hh).1⟩

def SManyPost (w : World) (t : Tm) (n : Nat) (e : Ending) (w' : World) : Prop :=
  ∃ s ao m c, e = .returned (.tuple #[.agg #[str s, .slice ao m c], .int .i64 (((t.many n).2 : Nat) : Int), .bool (t.many n).1.step.isNone]) ∧ After w w' ∧ ST w' (t.many n).1 (.agg #[str s, .slice ao m c])

/-- After k rounds. -/
def SRounds (w : World) (n : Nat) (t : Tm) (i : Value) (wr : World) : Prop :=
  ∃ (k : Nat) (u : Tm) (s : List UInt8) (ao : Option Addr) (m c : Nat), i = .int .i64 k ∧ k ≤ n ∧ wr.heap[w.heap.size]? = some (.cells #[str s, .slice ao m c] 42 (0, 0)) ∧ wr.heap[w.heap.size + 1]? = some (.cells #[.string ⟨#[]⟩, .slice none 0 0] 42 (0, 0)) ∧
    ST wr u (.agg #[str s, .slice ao m c]) ∧ u.good = true ∧ u.fits = true ∧ After w wr ∧ Hid (t.many n = ((u.many (n - k)).1, (u.many (n - k)).2 + k))

theorem s_many (w : World) (n : Nat) (t : Tm) (s : List UInt8) (ao : Option Addr) (m c : Nat) (h : ST w t (.agg #[str s, .slice ao m c])) (hg : t.good = true) (hz : t.fits = true) (hn : n ≤ 1000000) :
    Calls Tryz.prog 59 #[.agg #[str s, .slice ao m c], .int .i64 n] w (SManyPost w t n) := by
  have hstart : SRounds w n t (.int .i64 0) ((w.alloc (.cells #[str s, .slice ao m c] 42)).alloc (.cells #[.string ⟨#[]⟩, .slice none 0 0] 42)) :=
    ⟨0, t, s, ao, m, c, rfl, Nat.zero_le _, heap_old2 _ _ _, heap_new2 _ _ _ _ rfl, h.later ((After.new _ _).alloc _), hg, hz, (After.new _ _).alloc _, by simp [Hid]⟩
  go_enter Tryz.func59, Tryz.ntmps59
  go_wp2_with fail
  go_loopw [7] (fun i wr => SRounds w n t i wr) (fun i _ => n - (intOf i).toNat)
  case atStart => exact hstart
  case round =>
    clear hstart h hg hz
    obtain ⟨k, u, s, ao, m, c, rfl, hk, hbox, hres, hu, hg, hf, hA, hm⟩ := hrel
    have hfz := fits_size hf
    have hstep := s_step hu hg
    unfold SStepPost at hstep
    obtain ⟨k0, k1, _, _, l1⟩ := pair_facts hbox (After.refl _)
    have HU := Lib.hid hu
    by_cases hlt : k < n
    · cases hst : u.step with
      | none =>
        have hfin : t.many n = (u, k) := by
          rw [hm.out, show n - k = (n - k - 1) + 1 by omega, Tm.many_normal _ _ hst]; simp
        have H := Lib.hid hfin
        have HST := Lib.hid hst
        rw [hst] at hstep
        clear hst hfin hm hu
        go_wp2_with fail
        refine hstep.mono ?_
        rintro e w1 ⟨s1, ao1, m1, c1, rfl, hb1, ht1⟩
        clear ht1 k0 k1
        obtain ⟨k0, k1, _, _, l1⟩ := pair_facts hbox (After.alloc hb1 (.cells #[str s1, .slice ao1 m1 c1] 42))
        obtain ⟨z0, z1, z2, z3, l2⟩ := pair_facts hres (After.alloc hb1 (.cells #[str s1, .slice ao1 m1 c1] 42))
        go_wp2_with fail
        refine bodyPost_ret (v := .tuple #[.agg #[str s, .slice ao m c], .int .i64 k, .bool true]) (by simp [results, Tryz.results59, go_sem, z0, z1]) rfl
          ⟨s, ao, m, c, by rw [H.out]; simp [HST.out], Below.setCell (Below.setCell (hA.trans (After.alloc hb1 _)) (by simp) _) (by simp) _, ?_⟩
        rw [H.out]
        exact (HU.out.later (After.alloc hb1 _)).sets2 ((After.alloc hb1 _).heap hres)
      | some u1 =>
        have hg1 := Tm.step_good hst hg
        have hs1 := step_size hst
        have HST := Lib.hid hst
        rw [hst] at hstep
        simp only [Option.isSome_some, Option.getD_some] at hstep
        cases hf1 : u1.fits with
        | false =>
          have hfin : t.many n = (u, k) := by
            rw [hm.out, show n - k = (n - k - 1) + 1 by omega]; simp [Tm.many, hst, hf1]
          have H := Lib.hid hfin
          clear hst hfin hm hu
          go_wp2_with fail
          refine hstep.mono ?_
          rintro e w1 ⟨s1, ao1, m1, c1, rfl, hb1, ht1⟩
          have hfine := (ht1.later (After.new w1 (.cells #[str s1, .slice ao1 m1 c1] 42))).fine hg1 (by omega)
          rw [hf1] at hfine
          have hw1 := After.alloc hb1 (.cells #[str s1, .slice ao1 m1 c1] 42)
          clear ht1 k0 k1 hstep
          go_wp2_with fail
          refine hfine.mono ?_
          rintro e w2 ⟨rfl, hb2⟩
          obtain ⟨k0, k1, _, _, l1⟩ := pair_facts hbox (hw1.trans hb2)
          obtain ⟨z0, z1, z2, z3, l2⟩ := pair_facts hres (hw1.trans hb2)
          go_wp2_with fail
          refine bodyPost_ret (v := .tuple #[.agg #[str s, .slice ao m c], .int .i64 k, .bool false]) (by simp [results, Tryz.results59, go_sem, z0, z1]) rfl
            ⟨s, ao, m, c, by rw [H.out]; simp [HST.out], Below.setCell (Below.setCell (hA.trans (hw1.trans hb2)) (by simp) _) (by simp) _, ?_⟩
          rw [H.out]
          exact (HU.out.later (hw1.trans hb2)).sets2 ((hw1.trans hb2).heap hres)
        | true =>
          have hfin : t.many n = ((u1.many (n - (k + 1))).1, (u1.many (n - (k + 1))).2 + (k + 1)) := by
            rw [hm.out, show n - k = (n - (k + 1)) + 1 by omega]; simp [Tm.many, hst, hf1]; omega
          have H := Lib.hid hfin
          clear hst hfin hm hu
          go_wp2_with fail
          refine hstep.mono ?_
          rintro e w1 ⟨s1, ao1, m1, c1, rfl, hb1, ht1⟩
          have hT1 := ht1.later (After.new w1 (.cells #[str s1, .slice ao1 m1 c1] 42))
          have hfine := hT1.fine hg1 (by omega)
          rw [hf1] at hfine
          have hw1 := After.alloc hb1 (.cells #[str s1, .slice ao1 m1 c1] 42)
          clear ht1 k0 k1 hstep
          go_wp2_with fail
          refine hfine.mono ?_
          rintro e w2 ⟨rfl, hb2⟩
          obtain ⟨k0, k1, f0, f1, l1⟩ := pair_facts hbox (hw1.trans hb2)
          obtain ⟨n0, n1, _, _, l3⟩ := pair_facts (hb2.heap (heap_new' w1 (.cells #[str s1, .slice ao1 m1 c1] 42))) (After.refl _)
          have hbox2 := (hw1.trans hb2).heap hbox
          have hres2 := (hw1.trans hb2).heap hres
          have HT2 := Lib.hid (hT1.later hb2)
          clear hT1
          go_wp2_with fail
          go_roundw
          case rel =>
            exact ⟨k + 1, u1, s1, ao1, m1, c1, by go_num, by omega, heap_sets2 hbox2, by rw [heap_sets2_ne (by omega)]; exact hres2, HT2.out.sets2 hbox2, hg1, hf1,
              Below.setCell (Below.setCell (hA.trans (hw1.trans hb2)) (by simp) _) (by simp) _, H⟩
          case measure => simp [intOf]; omega
    · have hkn : k = n := by omega
      subst hkn
      have hfin : t.many k = (u, k) := by rw [hm.out]; simp [Tm.many]
      have H := Lib.hid hfin
      obtain ⟨b, hb⟩ : ∃ b, b = u.step.isSome := ⟨_, rfl⟩
      rw [← hb] at hstep
      have HB := Lib.hid hb
      clear hfin hm hu hb
      go_wp2_with fail
      refine hstep.mono ?_
      rintro e w1 ⟨s1, ao1, m1, c1, rfl, hb1, ht1⟩
      clear ht1 k0 k1
      obtain ⟨k0, k1, _, _, l1⟩ := pair_facts hbox (After.alloc hb1 (.cells #[str s1, .slice ao1 m1 c1] 42))
      obtain ⟨z0, z1, z2, z3, l2⟩ := pair_facts hres (After.alloc hb1 (.cells #[str s1, .slice ao1 m1 c1] 42))
      go_wp2_with fail
      refine bodyPost_ret (v := .tuple #[.agg #[str s, .slice ao m c], .int .i64 k, .bool (!b)]) (by simp [results, Tryz.results59, go_sem, z0, z1]) rfl
        ⟨s, ao, m, c, by rw [H.out, HB.out]; cases u.step <;> rfl, Below.setCell (Below.setCell (hA.trans (After.alloc hb1 _)) (by simp) _) (by simp) _, ?_⟩
      rw [H.out]
      exact (HU.out.later (After.alloc hb1 _)).sets2 ((After.alloc hb1 _).heap hres)

def SNormPost (w : World) (t : Tm) (b : Bool) (e : Ending) (w' : World) : Prop :=
  ∃ s ao m c, e = .returned (.tuple #[.agg #[str s, .slice ao m c], .bool b]) ∧ After w w' ∧ ST w' t (.agg #[str s, .slice ao m c])

theorem s_normal_no (w : World) (t : Tm) (s : List UInt8) (ao : Option Addr) (m c : Nat) (h : ST w t (.agg #[str s, .slice ao m c])) (hg : t.good = true) (hz : t.size ≤ 1000000) (hf : t.fits = false) :
    Calls Tryz.prog 38 #[.agg #[str s, .slice ao m c]] w (SNormPost w t false) := by
  obtain ⟨X, hX⟩ : ∃ X, X = (w.alloc (.cells #[str s, .slice ao m c] 42)).alloc (.cells #[.string ⟨#[]⟩, .slice none 0 0] 42) := ⟨_, rfl⟩
  have hAX : After w X := by rw [hX]; exact (After.new _ _).alloc _
  have hbox : X.heap[w.heap.size]? = some (.cells #[str s, .slice ao m c] 42 (0, 0)) := by rw [hX]; exact heap_old2 _ _ _
  have hres : X.heap[w.heap.size + 1]? = some (.cells #[.string ⟨#[]⟩, .slice none 0 0] 42 (0, 0)) := by rw [hX]; exact heap_new2 _ _ _ _ rfl
  have hfine := (h.later hAX).fine hg (by omega)
  rw [hf] at hfine
  have HT := Lib.hid (h.later hAX)
  obtain ⟨k0, k1, _, _, l1⟩ := pair_facts hbox (After.refl _)
  clear h
  go_enter Tryz.func38, Tryz.ntmps38
  go_wp2_with fail
  rw [← hX]
  clear hX
  go_wp2_with fail
  refine hfine.mono ?_
  rintro e w1 ⟨rfl, hb1⟩
  clear k0 k1
  obtain ⟨k0, k1, _, _, l1⟩ := pair_facts hbox hb1
  obtain ⟨z0, z1, z2, z3, l2⟩ := pair_facts hres hb1
  go_wp2_with fail
  refine bodyPost_ret (v := .tuple #[.agg #[str s, .slice ao m c], .bool false]) (by simp [results, Tryz.results38, go_sem, z0, z1]) rfl
    ⟨s, ao, m, c, rfl, Below.setCell (Below.setCell (hAX.trans hb1) (by simp) _) (by simp) _, ?_⟩
  exact (HT.out.later hb1).sets2 (hb1.heap hres)

theorem s_normal (w : World) (t : Tm) (s : List UInt8) (ao : Option Addr) (m c : Nat) (h : ST w t (.agg #[str s, .slice ao m c])) (hg : t.good = true) (hf : t.fits = true) :
    Calls Tryz.prog 38 #[.agg #[str s, .slice ao m c]] w (SNormPost w (t.many 6000).1 (t.many 6000).1.step.isNone) := by
  obtain ⟨X, hX⟩ : ∃ X, X = (w.alloc (.cells #[str s, .slice ao m c] 42)).alloc (.cells #[.string ⟨#[]⟩, .slice none 0 0] 42) := ⟨_, rfl⟩
  have hAX : After w X := by rw [hX]; exact (After.new _ _).alloc _
  have hbox : X.heap[w.heap.size]? = some (.cells #[str s, .slice ao m c] 42 (0, 0)) := by rw [hX]; exact heap_old2 _ _ _
  have hres : X.heap[w.heap.size + 1]? = some (.cells #[.string ⟨#[]⟩, .slice none 0 0] 42 (0, 0)) := by rw [hX]; exact heap_new2 _ _ _ _ rfl
  have hfz := fits_size hf
  have hfine := (h.later hAX).fine hg (by omega)
  rw [hf] at hfine
  have hmany := fun W (hW : After X W) => s_many W 6000 t s ao m c ((h.later hAX).later hW) hg hf (by omega)
  unfold SManyPost at hmany
  generalize hmm : t.many 6000 = mm at *
  obtain ⟨u, i⟩ := mm
  simp only at hmany ⊢
  generalize hb : u.step.isNone = b at *
  obtain ⟨k0, k1, _, _, l1⟩ := pair_facts hbox (After.refl _)
  clear h hmm hb
  go_enter Tryz.func38, Tryz.ntmps38
  go_wp2_with fail
  rw [← hX]
  clear hX
  go_wp2_with fail
  refine hfine.mono ?_
  rintro e w1 ⟨rfl, hb1⟩
  have hcall := hmany w1 hb1
  clear k0 k1 hmany hfine
  obtain ⟨k0, k1, _, _, l1⟩ := pair_facts hbox hb1
  go_wp2_with fail
  refine hcall.mono ?_
  rintro e w2 ⟨s2, ao2, m2, c2, rfl, hb2, ht2⟩
  have HT2 := Lib.hid ht2
  have hw2 := After.alloc (hb1.trans hb2) (.cells #[str s2, .slice ao2 m2 c2] 42)
  clear ht2 k0 k1
  obtain ⟨z0, z1, z2, z3, l2⟩ := pair_facts hres hw2
  have hne : w2.heap.size ≠ w.heap.size + 1 := by have := (Array.getElem?_eq_some_iff.1 ((hb1.trans hb2).heap hres)).1; omega
  go_wp2_with fail
  refine bodyPost_ret (v := .tuple #[.agg #[str s2, .slice ao2 m2 c2], .bool b]) (by simp [results, Tryz.results38, go_sem, z0, z1]) rfl
    ⟨s2, ao2, m2, c2, rfl, Below.setCell (Below.setCell (hAX.trans hw2) (by simp) _) (by simp) _, ?_⟩
  exact (HT2.out.later (After.new w2 _)).sets2 (hw2.heap hres)
end Go.Proofs.YtfpekihdoclncaaGreat
