/-
  PairOf of the program.
-/
import Derived.Test.YtfpekihdoclncaaGreatPkAH
import Derived.Test.YtfpekihdoclncaaGreatPkAM
import Derived.Test.YtfpekihdoclncaaGreatPkAE
import Derived.Test.YtfpekihdoclncaaGreatPkAV
namespace Go.Proofs.YtfpekihdoclncaaGreat
open Go.RowKit

set_option maxHeartbeats 400000
set_option maxRecDepth 100000

/-- What PairOf answers. -/
def pPair (l m : List UInt8) : Option (List UInt8) := match Tm.parse l, Tm.parse m with
  | some t, some u => if (Tm.pair t u).fits = true then some (Tm.pair t u).text else none
  | _, _ => none

end Go.Proofs.YtfpekihdoclncaaGreat

namespace Go.Proofs.YtfpekihdoclncaaGreat
open Go.RowKit

set_option maxHeartbeats 4000000
set_option maxRecDepth 100000

/-- What l1Term hands back: a tree, and whether it is a term. -/
def STermPost (w : World) (l : List UInt8) (e : Ending) (w' : World) : Prop :=
  ∃ s ao n c, e = .returned (.tuple #[.agg #[str s, .slice ao n c], .bool (Tm.parse l).isSome]) ∧ After w w' ∧ ∀ t, Tm.parse l = some t → ST w' t (.agg #[str s, .slice ao n c])

theorem mread_parse {l : List UInt8} (h : l.length ≤ 24000) : Tm.parse l = match Tm.mread l 1501 0 with
    | some (t, j) => if j = l.length ∧ t.size ≤ 3000 then some t else none
    | none => none := by
  rw [← Tm.mparse_eq]
  unfold Tm.mparse
  rw [if_neg (by omega)]
  rfl

theorem s_term (w : World) (l : List UInt8) (hl : l.length ≤ 1000000000) :
    Calls Tryz.prog 33 #[str l] w (STermPost w l) := by
  have hsz : (⟨l.toArray⟩ : ByteArray).size = l.length := by show l.toArray.size = _; simp
  by_cases hbig : 24000 < l.length
  · have hfin : Tm.parse l = none := by rw [← Tm.mparse_eq]; unfold Tm.mparse; rw [if_pos hbig]
    have H := Lib.hid hfin
    clear hfin
    go_enter Tryz.func33, Tryz.ntmps33
    go_wp2_with fail
    exact bodyPost_ret (v := .tuple #[.agg #[.string ⟨#[]⟩, .slice none 0 0], .bool false]) (by simp [results, Tryz.results33, go_sem]) rfl
      ⟨[], none, 0, 0, by rw [H.out]; rfl, After.new _ _, fun t he => by rw [H.out] at he; simp at he⟩
  · have hp := mread_parse (l := l) (by omega)
    have hcall : ∀ W, Calls Tryz.prog 55 #[str l, .int .i64 0, .int .i64 0] W (SReadPost W (Tm.mread l 1501 0)) := fun W => s_read l hl 1501 0 0 0 W rfl (Nat.zero_le _) (by omega) (by omega)
    cases hq : Tm.mread l 1501 0 with
    | none =>
      have H := Lib.hid (show Tm.parse l = none by rw [hp, hq])
      have hpl : place none = -1 := rfl
      rw [hq] at hcall
      have hne : ((-1 : Int) == (l.length : Int)) = false := by rw [beq_eq_false_iff_ne]; omega
      clear hp hq
      go_enter Tryz.func33, Tryz.ntmps33
      go_wp2_with fail
      refine (hcall _).mono ?_
      rintro e w1 ⟨s1, ao1, n1, c1, rfl, hb1, ht1⟩
      clear ht1 hcall
      obtain ⟨r0, r1, f0, f1, hz⟩ := box2 hb1
      go_wp2_with fail
      go_region
      go_wp2_with fail
      exact bodyPost_ret (v := .tuple #[.agg #[str s1, .slice ao1 n1 c1], .bool false]) (by simp [results, Tryz.results33, go_sem, r0, r1, hz]) rfl
        ⟨s1, ao1, n1, c1, by rw [H.out]; rfl, After.drew (After.alloc (After.set2 hb1) _), fun t he => by rw [H.out] at he; simp at he⟩
    | some p =>
      obtain ⟨t, j⟩ := p
      obtain ⟨zt, hj⟩ := reads_size (Tm.mread_sound hq)
      have hgd := (Tm.mread_sound hq).2.2.2.1
      have hpl : place (some (t, j)) = (j : Int) := rfl
      rw [hq] at hcall hp
      simp only at hp
      by_cases hjl : j = l.length
      · subst hjl
        by_cases h3 : t.size ≤ 3000
        · have H := Lib.hid (show Tm.parse l = some t by rw [hp]; simp [h3])
          have h3' : (t.size : Int) ≤ 3000 := by omega
          clear hp hq
          go_enter Tryz.func33, Tryz.ntmps33
          go_wp2_with fail
          refine (hcall _).mono ?_
          rintro e w1 ⟨s1, ao1, n1, c1, rfl, hb1, ht1⟩
          have hst := Lib.hid (ht1 t _ rfl)
          clear ht1 hcall
          obtain ⟨r0, r1, f0, f1, hz⟩ := box2 hb1
          have hal := After.new w1 (.cells #[str s1, .slice ao1 n1 c1] 42)
          go_wp2_with fail
          go_region_with (go_at_call 35; refine ((ST.later hal.drew hst.out).size hgd (by omega)).mono ?_; rintro e w2 ⟨rfl, hb2⟩; have hb3 := (hb1.trans hal.drew).trans hb2; obtain ⟨p0, p1, p2, p3, p4⟩ := box2 hb3; obtain ⟨q0, q1, q2, q3, q4⟩ := box2 ((After.refl (w1.alloc (.cells #[str s1, .slice ao1 n1 c1] 42))).drew.trans hb2); have hne : w1.heap.size ≠ w.heap.size := by omega)
          all_goals
            go_wp2_with fail
            exact bodyPost_ret (v := .tuple #[.agg #[str s1, .slice ao1 n1 c1], .bool true]) (by simp [results, Tryz.results33, go_sem, p0, p1]) rfl
              ⟨s1, ao1, n1, c1, by rw [H.out]; rfl, After.set2 hb3, fun t' he => by rw [H.out] at he; obtain rfl := Option.some.inj he; exact (ST.later (hal.drew.trans hb2) hst.out).sets (i := 0) (j := 1) hb3⟩
        · have H := Lib.hid (show Tm.parse l = none by rw [hp]; simp [h3])
          have h3' : (3000 : Int) < (t.size : Int) := by omega
          clear hp hq
          go_enter Tryz.func33, Tryz.ntmps33
          go_wp2_with fail
          refine (hcall _).mono ?_
          rintro e w1 ⟨s1, ao1, n1, c1, rfl, hb1, ht1⟩
          have hst := Lib.hid (ht1 t _ rfl)
          clear ht1 hcall
          obtain ⟨r0, r1, f0, f1, hz⟩ := box2 hb1
          have hal := After.new w1 (.cells #[str s1, .slice ao1 n1 c1] 42)
          go_wp2_with fail
          go_region_with (go_at_call 35; refine ((ST.later hal.drew hst.out).size hgd (by omega)).mono ?_; rintro e w2 ⟨rfl, hb2⟩; have hb3 := (hb1.trans hal.drew).trans hb2; obtain ⟨p0, p1, p2, p3, p4⟩ := box2 hb3; obtain ⟨q0, q1, q2, q3, q4⟩ := box2 ((After.refl (w1.alloc (.cells #[str s1, .slice ao1 n1 c1] 42))).drew.trans hb2); have hne : w1.heap.size ≠ w.heap.size := by omega)
          all_goals
            go_wp2_with fail
            exact bodyPost_ret (v := .tuple #[.agg #[str s1, .slice ao1 n1 c1], .bool false]) (by simp [results, Tryz.results33, go_sem, p0, p1]; exact h3') rfl
              ⟨s1, ao1, n1, c1, by rw [H.out]; rfl, After.set2 hb3, fun t' he => by rw [H.out] at he; simp at he⟩
      · have H := Lib.hid (show Tm.parse l = none by rw [hp]; simp [hjl])
        have hne : ((j : Int) == (l.length : Int)) = false := by rw [beq_eq_false_iff_ne]; omega
        clear hp hq
        go_enter Tryz.func33, Tryz.ntmps33
        go_wp2_with fail
        refine (hcall _).mono ?_
        rintro e w1 ⟨s1, ao1, n1, c1, rfl, hb1, ht1⟩
        clear ht1 hcall
        obtain ⟨r0, r1, f0, f1, hz⟩ := box2 hb1
        go_wp2_with fail
        go_region
        go_wp2_with fail
        exact bodyPost_ret (v := .tuple #[.agg #[str s1, .slice ao1 n1 c1], .bool false]) (by simp [results, Tryz.results33, go_sem, r0, r1, hz]) rfl
          ⟨s1, ao1, n1, c1, by rw [H.out]; rfl, After.drew (After.alloc (After.set2 hb1) _), fun t he => by rw [H.out] at he; simp at he⟩
end Go.Proofs.YtfpekihdoclncaaGreat

namespace Go.Proofs.YtfpekihdoclncaaGreat
open Go.RowKit

set_option maxHeartbeats 2000000
set_option maxRecDepth 100000

theorem heap_newD (w : World) (o : Obj) : ((w.alloc o).drew).heap[w.heap.size]? = some o := heap_new' w o
theorem heap_old2D (w : World) (o p : Obj) : (((w.alloc o).alloc p).drew).heap[w.heap.size]? = some o := heap_old2 w o p
theorem heap_new2D (w : World) (o p : Obj) : (((w.alloc o).alloc p).drew).heap[w.heap.size + 1]? = some p := heap_new2 w _ o p rfl

theorem after_sets2 {X W : World} {G : Nat} {o : Obj} (h : After X W) (_hG : W.heap[G]? = some o) (hle : X.heap.size ≤ G) (u u' : Value) : After X ((W.setCell ⟨G, 0, none⟩ u).setCell ⟨G, 1, none⟩ u') :=
  Below.setCell (p := ⟨G, 1, none⟩) (Below.setCell (p := ⟨G, 0, none⟩) h hle _) hle _

end Go.Proofs.YtfpekihdoclncaaGreat
