/-
  The program's exported functions TermValid, TermSize, TermNames, TermStep against the plain mathematics.
-/
import Derived.Test.YtfpekihdoclncaaGreatPkAP
import Derived.Test.YtfpekihdoclncaaGreatPkBA
import Derived.Test.YtfpekihdoclncaaGreatPkAF
import Derived.Test.YtfpekihdoclncaaGreatPkAH
import Derived.Test.YtfpekihdoclncaaGreatPkAW
import Derived.Laws.OwnMore
import Derived.Test.YtfpekihdoclncaaGreatPkAJ
import Derived.Test.YtfpekihdoclncaaGreatPkAN
namespace Go.Proofs.YtfpekihdoclncaaGreat
open Go.RowKit

set_option maxHeartbeats 400000
set_option maxRecDepth 100000

/-- A list of names handed back, or nothing. -/
def NamesRes (w : World) (r : Option (List (List UInt8))) (e : Ending) (w' : World) : Prop :=
  ∃ sv, e = .returned (.tuple #[sv, .bool r.isSome]) ∧ Below w.heap.size w w' ∧ w'.ownsRow w.heap.size 9 1 sv (r.getD []).length ((r.getD []).map str)

/-- A text handed back, or nothing. -/
def TextRes (w : World) (r : Option (List UInt8)) (e : Ending) (w' : World) : Prop :=
  e = .returned (.tuple #[str (r.getD []), .bool r.isSome]) ∧ Below w.heap.size w w'

end Go.Proofs.YtfpekihdoclncaaGreat

namespace Go.Proofs.YtfpekihdoclncaaGreat
open Go.RowKit

set_option maxHeartbeats 1000000
set_option maxRecDepth 100000

def SNamesRes (w : World) (r : Option (List (List UInt8))) (e : Ending) (w' : World) : Prop :=
  ∃ sv, e = .returned (.tuple #[sv, .bool r.isSome]) ∧ After w w' ∧ w'.ownsRow w.heap.size 9 1 sv (r.getD []).length ((r.getD []).map str)

theorem own_empty (w : World) : (w.alloc (.cells #[] 9)).ownsRow w.heap.size 9 1 (.slice (some ⟨w.heap.size, 0, none⟩) 0 0) ([] : List (List UInt8)).length (([] : List (List UInt8)).map str) := by
  have := World.ownsRow_lit (base := w.heap.size) (e := 9) (size := 1) w #[] 0 (Nat.le_refl _) (by simp) (by simp)
  simpa using this

/-- The call of l1Names behind the reader. -/
theorem names_call (w1 : World) (t : Tm) (s1 : List UInt8) (ao1 : Option Addr) (n1 c1 : Nat) (h : ST w1 t (.agg #[str s1, .slice ao1 n1 c1])) (hg : t.good = true) (hs : t.size ≤ 3000) :
    Calls Tryz.prog 34 #[.agg #[str s1, .slice ao1 n1 c1], .slice (some ⟨w1.heap.size + 1, 0, none⟩) 0 0] ((w1.alloc (.cells #[str s1, .slice ao1 n1 c1] 42)).alloc (.cells #[] 9)) fun e w' =>
      ∃ sv, e = .returned sv ∧ After w1 w' ∧ w'.ownsRow w1.heap.size 9 1 sv (t.names []).length ((t.names []).map str) := by
  have hX := After.new w1 (.cells #[str s1, .slice ao1 n1 c1] 42)
  have hsz : (w1.alloc (.cells #[str s1, .slice ao1 n1 c1] 42)).heap.size = w1.heap.size + 1 := by simp
  have hown := own_empty (w1.alloc (.cells #[str s1, .slice ao1 n1 c1] 42))
  have hnames := ST.names (h.later hX) hg _ (After.new _ (.cells #[] 9)) _ [] hown (by simp; omega)
  rw [hsz] at hnames
  refine hnames.mono ?_
  rintro e w2 ⟨sv, he, ho, hgr, hor⟩
  refine ⟨sv, he, ?_, ownsRow_base ho (by omega)⟩
  exact (hX.alloc (.cells #[] 9)).grown hgr (by simp; omega) (fun k hk => by simp [Value.ownBlock] at hk; omega)

end Go.Proofs.YtfpekihdoclncaaGreat

namespace Go.Proofs.YtfpekihdoclncaaGreat
open Go.RowKit

set_option maxHeartbeats 2000000
set_option maxRecDepth 100000

/-- A tree and whether it is a closed term. -/
def SClosedPost (w : World) (l : List UInt8) (e : Ending) (w' : World) : Prop :=
  ∃ s ao n c, e = .returned (.tuple #[.agg #[str s, .slice ao n c], .bool (Tm.closedOf l).isSome]) ∧ After w w' ∧ ∀ t, Tm.closedOf l = some t → ST w' t (.agg #[str s, .slice ao n c])

theorem names_call' (X : World) (t : Tm) (v : Value) (g : Nat) (hg' : g = X.heap.size) (h : ST X t v) (hg : t.good = true) (hs : t.size ≤ 3000) :
    Calls Tryz.prog 34 #[v, .slice (some ⟨g, 0, none⟩) 0 0] (X.alloc (.cells #[] 9)) fun e w' =>
      ∃ sv, e = .returned sv ∧ After X w' ∧ w'.ownsRow X.heap.size 9 1 sv (t.names []).length ((t.names []).map str) := by
  subst hg'
  have hown := own_empty X
  have hnames := ST.names h hg _ (After.new _ (.cells #[] 9)) _ [] hown (by simp; omega)
  refine hnames.mono ?_
  rintro e w2 ⟨sv, he, ho, hgr, hor⟩
  refine ⟨sv, he, ?_, ho⟩
  exact (After.new X (.cells #[] 9)).grown hgr (by simp) (fun k hk => by simp [Value.ownBlock] at hk; omega)

theorem s_closed4 (w : World) (l : List UInt8) (hl : l.length ≤ 1000000000) :
    Calls Tryz.prog 16 #[str l] w (SClosedPost w l) := by
  have hterm := fun W => s_term W l hl
  unfold STermPost at hterm
  cases hp : Tm.parse l with
  | none =>
    have H := Lib.hid (show Tm.closedOf l = none by simp [Tm.closedOf, hp])
    simp only [hp] at hterm
    clear hp
    go_enter Tryz.func16, Tryz.ntmps16
    go_wp2_with fail
    refine (hterm _).mono ?_
    rintro e w1 ⟨s1, ao1, n1, c1, rfl, hb1, ht1⟩
    clear ht1 hterm
    obtain ⟨r0, r1, f0, f1, hz⟩ := box2 hb1
    go_wp2_with fail
    go_region
    go_wp2_with fail
    exact bodyPost_ret (v := .tuple #[.agg #[str s1, .slice ao1 n1 c1], .bool false]) (by simp [results, Tryz.results16, go_sem, r0, r1, hz]) rfl
      ⟨s1, ao1, n1, c1, by rw [H.out]; rfl, After.drew (After.alloc (After.set2 hb1) _), fun t he => by rw [H.out] at he; simp at he⟩
  | some t =>
    obtain ⟨hg, hf, hs, _, _⟩ := Tm.parse_facts hp
    obtain ⟨k, hk⟩ : ∃ k, k = (t.names []).length := ⟨_, rfl⟩
    have hfin : Tm.closedOf l = if k = 0 then some t else none := by
      unfold Tm.closedOf
      rw [hp, hk]
      by_cases h0 : t.names [] = []
      · simp [h0]
      · have : ¬ (t.names []).length = 0 := fun e => h0 (List.length_eq_zero_iff.1 e)
        have h0' : (t.names []).isEmpty = false := by simpa using h0
        simp [h0', this]
    have HK := Lib.hid hk
    have H := Lib.hid hfin
    simp only [hp] at hterm
    clear hp hfin hk
    obtain ⟨b, hb⟩ : ∃ b, b = decide (k = 0) := ⟨_, rfl⟩
    have hkb : ((k : Int) == 0) = b := by rw [hb, Bool.eq_iff_iff, beq_iff_eq, decide_eq_true_eq]; omega
    have hsome : b = (Tm.closedOf l).isSome := by
      rw [H.out, hb]
      by_cases h0 : k = 0 <;> simp [h0]
    have hok : ∀ t', Tm.closedOf l = some t' → t' = t := fun t' h => by
      rw [H.out] at h
      split at h
      · exact (Option.some.inj h).symm
      · cases h
    have HS := Lib.hid hsome
    have HOK := Lib.hid hok
    clear hb hsome hok H
    cases b with
    | true =>
      obtain rfl : k = 0 := by simpa using hkb
      go_enter Tryz.func16, Tryz.ntmps16
      go_wp2_with fail
      refine (hterm _).mono ?_
      rintro e w1 ⟨s1, ao1, n1, c1, rfl, hb1, ht1⟩
      have hst := Lib.hid (ht1 t rfl)
      clear ht1 hterm
      obtain ⟨r0, r1, f0, f1, hz⟩ := box2 hb1
      have hal := After.new w1 (.cells #[str s1, .slice ao1 n1 c1] 42)
      have hsz1 : w.heap.size < w1.heap.size := hz
      obtain ⟨Y, hY⟩ : ∃ Y, Y = w1.alloc (.cells #[str s1, .slice ao1 n1 c1] 42) := ⟨_, rfl⟩
      have hGt : Y.heap[w1.heap.size]? = some (.cells #[str s1, .slice ao1 n1 c1] 42 (0, 0)) := by rw [hY]; exact heap_new' _ _
      have hYs : Y.heap.size = w1.heap.size + 1 := by rw [hY]; simp
      rw [← hY] at hal
      have HST := Lib.hid (hst.out.later hal)
      have HYS := Lib.hid hYs
      have hself := After.refl Y
      have hbf : ButFor Y w.heap.size Y.drew := ⟨Nat.le_refl _, fun _ _ _ => rfl⟩
      have o0 : ∀ W, ButFor Y w.heap.size W → W.cell? ⟨w1.heap.size, 0, none⟩ = some (str s1) := fun W hW => hW.cell (by omega) (cell_of_heap (i := 0) hGt)
      have o1 : ∀ W, ButFor Y w.heap.size W → W.cell? ⟨w1.heap.size, 1, none⟩ = some (.slice ao1 n1 c1) := fun W hW => hW.cell (by omega) (cell_of_heap (i := 1) hGt)
      clear hst hGt hYs
      go_wp2_with fail
      rw [← hY]
      clear hY
      go_region_held3 (fun W' => ButFor Y w.heap.size W') (first | assumption | exact hbf | exact ButFor.alloc (by assumption) _ | exact hbf.alloc _ | exact ButFor.set (by assumption) _ _ | exact ButFor.set (ButFor.set (by assumption) _ _) _ _)
        (first
          | (go_at_call 34
             refine (names_call' Y.drew t _ _ ?_ (HST.out.later hself.drew) hg hs).mono ?_
             · (first | rfl | (simp; done) | (have := HYS.out; simp; omega))
             rintro e w2 ⟨sv, rfl, hb2, ho2⟩
             rw [← HK.out] at ho2
             obtain ⟨ao, ac, rfl⟩ := own_slice_len ho2
             clear ho2
             have hS2 : ButFor Y w.heap.size w2 := After.butFor (hself.drew.trans hb2)
             have hb3 := (hb1.trans hal).trans (hself.drew.trans hb2)
             obtain ⟨p0, p1, p2, p3, p4⟩ := box2 hb3))
      all_goals
        go_wp2_with fail
        exact bodyPost_ret (v := .tuple #[.agg #[str s1, .slice ao1 n1 c1], .bool true]) (by simp [results, Tryz.results16, go_sem, p0, p1]) rfl ⟨s1, ao1, n1, c1, by rw [← HS.out], After.set2 hb3, fun t' he => by obtain rfl := HOK.out t' he; exact (HST.out.later (hself.drew.trans hb2)).sets (i := 0) (j := 1) hb3⟩
    | false =>
      go_enter Tryz.func16, Tryz.ntmps16
      go_wp2_with fail
      refine (hterm _).mono ?_
      rintro e w1 ⟨s1, ao1, n1, c1, rfl, hb1, ht1⟩
      have hst := Lib.hid (ht1 t rfl)
      clear ht1 hterm
      obtain ⟨r0, r1, f0, f1, hz⟩ := box2 hb1
      have hal := After.new w1 (.cells #[str s1, .slice ao1 n1 c1] 42)
      have hsz1 : w.heap.size < w1.heap.size := hz
      obtain ⟨Y, hY⟩ : ∃ Y, Y = w1.alloc (.cells #[str s1, .slice ao1 n1 c1] 42) := ⟨_, rfl⟩
      have hGt : Y.heap[w1.heap.size]? = some (.cells #[str s1, .slice ao1 n1 c1] 42 (0, 0)) := by rw [hY]; exact heap_new' _ _
      have hYs : Y.heap.size = w1.heap.size + 1 := by rw [hY]; simp
      rw [← hY] at hal
      have HST := Lib.hid (hst.out.later hal)
      have HYS := Lib.hid hYs
      have hself := After.refl Y
      have hbf : ButFor Y w.heap.size Y.drew := ⟨Nat.le_refl _, fun _ _ _ => rfl⟩
      have o0 : ∀ W, ButFor Y w.heap.size W → W.cell? ⟨w1.heap.size, 0, none⟩ = some (str s1) := fun W hW => hW.cell (by omega) (cell_of_heap (i := 0) hGt)
      have o1 : ∀ W, ButFor Y w.heap.size W → W.cell? ⟨w1.heap.size, 1, none⟩ = some (.slice ao1 n1 c1) := fun W hW => hW.cell (by omega) (cell_of_heap (i := 1) hGt)
      clear hst hGt hYs
      go_wp2_with fail
      rw [← hY]
      clear hY
      go_region_held3 (fun W' => ButFor Y w.heap.size W') (first | assumption | exact hbf | exact ButFor.alloc (by assumption) _ | exact hbf.alloc _ | exact ButFor.set (by assumption) _ _ | exact ButFor.set (ButFor.set (by assumption) _ _) _ _)
        (first
          | (go_at_call 34
             refine (names_call' Y.drew t _ _ ?_ (HST.out.later hself.drew) hg hs).mono ?_
             · (first | rfl | (simp; done) | (have := HYS.out; simp; omega))
             rintro e w2 ⟨sv, rfl, hb2, ho2⟩
             rw [← HK.out] at ho2
             obtain ⟨ao, ac, rfl⟩ := own_slice_len ho2
             clear ho2
             have hS2 : ButFor Y w.heap.size w2 := After.butFor (hself.drew.trans hb2)
             have hb3 := (hb1.trans hal).trans (hself.drew.trans hb2)
             obtain ⟨p0, p1, p2, p3, p4⟩ := box2 hb3))
      all_goals
        go_wp2_with fail
        exact bodyPost_ret (v := .tuple #[.agg #[str s1, .slice ao1 n1 c1], .bool false]) (by simp [results, Tryz.results16, go_sem, p0, p1]) rfl ⟨s1, ao1, n1, c1, by rw [← HS.out], After.set2 hb3, fun t' he => by obtain rfl := HOK.out t' he; exact (HST.out.later (hself.drew.trans hb2)).sets (i := 0) (j := 1) hb3⟩

end Go.Proofs.YtfpekihdoclncaaGreat
