/-
  The model's l1Term.
-/
import Derived.Test.YtjomocjlnjgkeaaGreatPkAE
import Derived.Test.YtjomocjlnjgkeaaGreatPkAH
import Derived.Test.YtjomocjlnjgkeaaGreatPkAJ
import Derived.Maps.AppendAt
namespace Go.Proofs.YtjomocjlnjgkeaaGreat
open Go.RowKit

set_option maxHeartbeats 4000000
set_option maxRecDepth 100000

/-- What l1Term hands back: a tree, and whether it is a term. -/
def STermPost (w : World) (l : List UInt8) (e : Ending) (w' : World) : Prop :=
  ∃ s ao n c, e = .returned (.tuple #[.agg #[str s, .slice ao n c], .bool (Tm.parse l).isSome]) ∧ After w w' ∧ ∀ t, Tm.parse l = some t → ST w' t (.agg #[str s, .slice ao n c])

theorem mread_parse {l : List UInt8} (h : l.length ≤ 24000) : Tm.parse l = match Tm.mread l 1501 0 with
    | some (t, j) => if j = l.length ∧ t.size ≤ 3000 then some t else none
    | none => none := by
  rw [← Tm.mparse_eq]
  unfold Tm.mparse
  rw [if_neg (by omega)]
  rfl

theorem s_term (w : World) (l : List UInt8) (hl : l.length ≤ 1000000000) :
    Calls Tryz.prog 28 #[str l] w (STermPost w l) := by
  have hsz : (⟨l.toArray⟩ : ByteArray).size = l.length := by show l.toArray.size = _; simp
  by_cases hbig : 24000 < l.length
  · have hfin : Tm.parse l = none := by rw [← Tm.mparse_eq]; unfold Tm.mparse; rw [if_pos hbig]
    have H := Lib.hid hfin
    clear hfin
    go_enter Tryz.func28, Tryz.ntmps28
    go_wp2_with fail
    exact bodyPost_ret (v := .tuple #[.agg #[.string ⟨#[]⟩, .slice none 0 0], .bool false]) (by simp [results, Tryz.results28, go_sem]) rfl
      ⟨[], none, 0, 0, by rw [H.out]; rfl, After.new _ _, fun t he => by rw [H.out] at he; simp at he⟩
  · have hp := mread_parse (l := l) (by omega)
    have hcall : ∀ W, Calls Tryz.prog 51 #[str l, .int .i64 0, .int .i64 0] W (SReadPost W (Tm.mread l 1501 0)) := fun W => s_read l hl 1501 0 0 0 W rfl (Nat.zero_le _) (by omega) (by omega)
    cases hq : Tm.mread l 1501 0 with
    | none =>
      have H := Lib.hid (show Tm.parse l = none by rw [hp, hq])
      have hpl : place none = -1 := rfl
      rw [hq] at hcall
      have hne : ((-1 : Int) == (l.length : Int)) = false := by rw [beq_eq_false_iff_ne]; omega
      clear hp hq
      go_enter Tryz.func28, Tryz.ntmps28
      go_wp2_with fail
      refine (hcall _).mono ?_
      rintro e w1 ⟨s1, ao1, n1, c1, rfl, hb1, ht1⟩
      clear ht1 hcall
      obtain ⟨r0, r1, f0, f1, hz⟩ := box2 hb1
      go_wp2_with fail
      go_region
      go_wp2_with fail
      exact bodyPost_ret (v := .tuple #[.agg #[str s1, .slice ao1 n1 c1], .bool false]) (by simp [results, Tryz.results28, go_sem, r0, r1, hz]) rfl
        ⟨s1, ao1, n1, c1, by rw [H.out]; rfl, After.drew (After.alloc (After.set2 hb1) _), fun t he => by rw [H.out] at he; simp at he⟩
    | some p =>
      obtain ⟨t, j⟩ := p
      obtain ⟨zt, hj⟩ := reads_size (Tm.mread_sound hq)
      have hgd := (Tm.mread_sound hq).2.2.2.1
      have hpl : place (some (t, j)) = (j : Int) := rfl
      rw [hq] at hcall hp
      simp only at hp
      by_cases hjl : j = l.length
      · subst hjl
        by_cases h3 : t.size ≤ 3000
        · have H := Lib.hid (show Tm.parse l = some t by rw [hp]; simp [h3])
          have h3' : (t.size : Int) ≤ 3000 := by omega
          clear hp hq
          go_enter Tryz.func28, Tryz.ntmps28
          go_wp2_with fail
          refine (hcall _).mono ?_
          rintro e w1 ⟨s1, ao1, n1, c1, rfl, hb1, ht1⟩
          have hst := Lib.hid (ht1 t _ rfl)
          clear ht1 hcall
          obtain ⟨r0, r1, f0, f1, hz⟩ := box2 hb1
          have hal := After.new w1 (.cells #[str s1, .slice ao1 n1 c1] 49)
          go_wp2_with fail
          go_region_with (go_at_call 52; refine ((ST.later hal.drew hst.out).size hgd (by omega)).mono ?_; rintro e w2 ⟨rfl, hb2⟩; have hb3 := (hb1.trans hal.drew).trans hb2; obtain ⟨p0, p1, p2, p3, p4⟩ := box2 hb3; obtain ⟨q0, q1, q2, q3, q4⟩ := box2 ((After.refl (w1.alloc (.cells #[str s1, .slice ao1 n1 c1] 49))).drew.trans hb2); have hne : w1.heap.size ≠ w.heap.size := by omega)
          all_goals
            go_wp2_with fail
            exact bodyPost_ret (v := .tuple #[.agg #[str s1, .slice ao1 n1 c1], .bool true]) (by simp [results, Tryz.results28, go_sem, p0, p1]) rfl
              ⟨s1, ao1, n1, c1, by rw [H.out]; rfl, After.set2 hb3, fun t' he => by rw [H.out] at he; obtain rfl := Option.some.inj he; exact (ST.later (hal.drew.trans hb2) hst.out).sets (i := 0) (j := 1) hb3⟩
        · have H := Lib.hid (show Tm.parse l = none by rw [hp]; simp [h3])
          have h3' : (3000 : Int) < (t.size : Int) := by omega
          clear hp hq
          go_enter Tryz.func28, Tryz.ntmps28
          go_wp2_with fail
          refine (hcall _).mono ?_
          rintro e w1 ⟨s1, ao1, n1, c1, rfl, hb1, ht1⟩
          have hst := Lib.hid (ht1 t _ rfl)
          clear ht1 hcall
          obtain ⟨r0, r1, f0, f1, hz⟩ := box2 hb1
          have hal := After.new w1 (.cells #[str s1, .slice ao1 n1 c1] 49)
          go_wp2_with fail
          go_region_with (go_at_call 52; refine ((ST.later hal.drew hst.out).size hgd (by omega)).mono ?_; rintro e w2 ⟨rfl, hb2⟩; have hb3 := (hb1.trans hal.drew).trans hb2; obtain ⟨p0, p1, p2, p3, p4⟩ := box2 hb3; obtain ⟨q0, q1, q2, q3, q4⟩ := box2 ((After.refl (w1.alloc (.cells #[str s1, .slice ao1 n1 c1] 49))).drew.trans hb2); have hne : w1.heap.size ≠ w.heap.size := by omega)
          all_goals
            go_wp2_with fail
            exact bodyPost_ret (v := .tuple #[.agg #[str s1, .slice ao1 n1 c1], .bool false]) (by simp [results, Tryz.results28, go_sem, p0, p1]; exact h3') rfl
              ⟨s1, ao1, n1, c1, by rw [H.out]; rfl, After.set2 hb3, fun t' he => by rw [H.out] at he; simp at he⟩
      · have H := Lib.hid (show Tm.parse l = none by rw [hp]; simp [hjl])
        have hne : ((j : Int) == (l.length : Int)) = false := by rw [beq_eq_false_iff_ne]; omega
        clear hp hq
        go_enter Tryz.func28, Tryz.ntmps28
        go_wp2_with fail
        refine (hcall _).mono ?_
        rintro e w1 ⟨s1, ao1, n1, c1, rfl, hb1, ht1⟩
        clear ht1 hcall
        obtain ⟨r0, r1, f0, f1, hz⟩ := box2 hb1
        go_wp2_with fail
        go_region
        go_wp2_with fail
        exact bodyPost_ret (v := .tuple #[.agg #[str s1, .slice ao1 n1 c1], .bool false]) (by simp [results, Tryz.results28, go_sem, r0, r1, hz]) rfl
          ⟨s1, ao1, n1, c1, by rw [H.out]; rfl, After.drew (After.alloc (After.set2 hb1) _), fun t he => by rw [H.out] at he; simp at he⟩
end Go.Proofs.YtjomocjlnjgkeaaGreat

namespace Go.Proofs.YtjomocjlnjgkeaaGreat
open Go.RowKit

set_option maxHeartbeats 1000000
set_option maxRecDepth 100000

end Go.Proofs.YtjomocjlnjgkeaaGreat

namespace Go.Proofs.YtjomocjlnjgkeaaGreat
open Go.RowKit

set_option maxHeartbeats 1000000
set_option maxRecDepth 100000

/-- The slice value holds these texts. -/
def Strs (w : World) (sv : Value) (ns : List (List UInt8)) : Prop :=
  (sv = .slice none 0 0 ∧ ns = []) ∨ ∃ b off cap, sv = .slice (some ⟨b, off, none⟩) ns.length cap ∧ ∀ j (h : j < ns.length), w.cell? ⟨b, off + j, none⟩ = some (str ns[j])

theorem ownsRow_strs {w : World} {base : Nat} {T : TypeId} {sv : Value} {ns : List (List UInt8)} (h : w.ownsRow base T 1 sv ns.length (ns.map str)) : Strs w sv ns := by
  rcases h.2 with ⟨rfl, h0⟩ | ⟨g, cap, cur, rfl, hb, hh, hn, hc, hs, ht⟩
  · exact Or.inl ⟨rfl, List.length_eq_zero_iff.1 h0⟩
  · refine Or.inr ⟨g, 0, cap, rfl, fun j hj => ?_⟩
    have := h.cells (g := g) rfl j (str ns[j]) (by simp [hj])
    have hadd : (⟨g, 0, none⟩ : Addr).add j = ⟨g, 0 + j, none⟩ := by unfold Addr.add; split <;> simp_all
    rw [hadd] at this
    exact this

/-! ### growing -/

theorem grew_drew {a b : World} {r : Option Nat} (h : a.grownBy b r) : a.grownBy b.drew r := ⟨h.os, h.tape, h.output, h.size, h.block⟩
theorem grew_refl (a : World) (r : Option Nat) : a.grownBy a r := ⟨rfl, rfl, rfl, Nat.le_refl _, fun _ _ _ => rfl⟩
theorem grew_alloc {a b : World} {r : Option Nat} (h : a.grownBy b r) (o : Obj) : a.grownBy (b.alloc o) r :=
  ⟨h.os, h.tape, h.output, by simp; have := h.size; omega, fun k hk hr => by rw [Below.heap_alloc _ _ _ (Nat.lt_of_lt_of_le hk h.size)]; exact h.block k hk hr⟩
theorem grew_trans {a b c : World} {r r2 : Option Nat} (h1 : a.grownBy b r) (h2 : b.grownBy c r2) (hr : r2 = r ∨ ∃ k, r2 = some k ∧ a.heap.size ≤ k) : a.grownBy c r := by
  refine ⟨h2.os.trans h1.os, h2.tape.trans h1.tape, h2.output.trans h1.output, Nat.le_trans h1.size h2.size, fun k hk hne => ?_⟩
  rw [h2.block k (Nat.lt_of_lt_of_le hk h1.size) ?_]
  · exact h1.block k hk hne
  · rcases hr with rfl | ⟨k', rfl, hk'⟩
    · exact hne
    · intro e; injection e with e; omega

theorem grew_heap {a b : World} {r : Option Nat} (h : a.grownBy b r) {k : Nat} {o : Obj} (hk : a.heap[k]? = some o) (hr : some k ≠ r) : b.heap[k]? = some o := by
  rw [h.block k (Array.getElem?_eq_some_iff.1 hk).1 hr]; exact hk

def NamesP (mb : Nat) (w : World) (sv : Value) (ns : List (List UInt8)) (e : Ending) (w' : World) : Prop :=
  ∃ sv', e = .returned sv' ∧ w'.ownsRow mb 9 1 sv' ns.length (ns.map str) ∧ w.grownBy w' sv.ownBlock ∧ (sv'.ownBlock = sv.ownBlock ∨ ∃ k, sv'.ownBlock = some k ∧ w.heap.size ≤ k)

theorem name_ne {n : List UInt8} (h : Tm.nameOk n = true) : n.isEmpty = false ∧ (n == [107]) = false ∧ (n == [115]) = false := by
  refine ⟨?_, ?_, ?_⟩
  · cases n with
    | nil => simp [Tm.nameOk] at h
    | cons => rfl
  · rw [beq_eq_false_iff_ne]; rintro rfl; revert h; decide
  · rw [beq_eq_false_iff_ne]; rintro rfl; revert h; decide

theorem sinfo_string : (Tryz.prog.info? 9).map (fun i => (i.zero, i.size, i.bytes)) = some (some (.string ⟨#[]⟩), 1, 16) := by kernel_rfl

end Go.Proofs.YtjomocjlnjgkeaaGreat
