/-
  The program's exported functions ApplyOf, TermEqual, over applyNormal.
-/
import Derived.Test.YtfpekihdoclncaaGreatPkAR
import Derived.Test.YtfpekihdoclncaaGreatPkAM
import Derived.Test.YtfpekihdoclncaaGreatPkAN
import Derived.Test.YtfpekihdoclncaaGreatPkAS
namespace Go.Proofs.YtfpekihdoclncaaGreat
open Go.RowKit

set_option maxHeartbeats 1000000
set_option maxRecDepth 100000

/-- A text handed back, or nothing. -/
def TextRes' (w : World) (r : Option (List UInt8)) (e : Ending) (w' : World) : Prop :=
  e = .returned (.tuple #[str (r.getD []), .bool r.isSome]) ∧ Below w.heap.size w w'

theorem text_small {t : Tm} (hg : t.good = true) (hf : t.fits = true) : t.text.length ≤ 1000000 := by
  have htm := Tm.text_le _ hg
  have hsm := fits_size hf
  omega

/-- What an end is written as. -/
theorem end_small {t u : Tm} (h : Tm.endOf t = some u) (hg : t.good = true) : u.good = true ∧ u.text.length ≤ 1000000 :=
  ⟨(Tm.endOf_facts h hg).1, text_small (Tm.endOf_facts h hg).1 (Tm.endOf_facts h hg).2⟩

theorem pApply_end (l m : List UInt8) : Tm.pApply l m = match Tm.parse l, Tm.parse m with
  | some t, some u => (Tm.endOf (.app t u)).map Tm.text
  | _, _ => none := by
  unfold Tm.pApply Tm.endOf
  split
  · rename_i t u h1 h2
    simp only [h1, h2]
    split
    · cases ((t.app u).norm) <;> rfl
    · rfl
  · rename_i h
    split
    · rename_i t u h1 h2; exact absurd h2 (h t u h1)
    · rfl

end Go.Proofs.YtfpekihdoclncaaGreat

namespace Go.Proofs.YtfpekihdoclncaaGreat
open Go.RowKit

set_option maxHeartbeats 1000000
set_option maxRecDepth 100000

theorem impl_codeOf (w : World) (l : List UInt8) (hl : l.length ≤ 1000000000) :
    Calls Tryz.prog 7 #[str l] w (TextRes' w (Tm.pCodeOf l)) := by
  have hc := codeOfText_any w w.heap.size l (Nat.le_refl _) hl
  unfold DataPost at hc
  unfold Tm.pCodeOf
  cases hp : Tm.codeT l with
  | none =>
    rw [hp] at hc
    clear hp
    go_enter Tryz.func7, Tryz.ntmps7
    go_wp2_with fail
    refine hc.mono ?_
    rintro e w1 ⟨v1, rfl, hb1, hv1⟩
    clear hv1 hc
    go_wp2_with fail
    go_ret2
    exact ⟨rfl, hb1⟩
  | some c =>
    obtain ⟨hf, hg⟩ : c.fits = true ∧ c.good = true := by obtain ⟨_, _, _, hf, hg⟩ := Tm.codeT_facts hp; exact ⟨hf, hg⟩
    have htx := text_small hg hf
    rw [hp] at hc
    clear hp
    go_enter Tryz.func7, Tryz.ntmps7
    go_wp2_with fail
    refine hc.mono ?_
    rintro e w1 ⟨v1, rfl, hb1, hv1⟩
    have htext := textOf_any w1 _ c v1 (hv1 c rfl) hg htx
    clear hv1 hc
    go_wp2_with (go_at_call 15; refine htext.mono ?_; rintro e w2 ⟨rfl, hb2⟩)
    go_ret2
    exact ⟨rfl, below_trans hb1 hb2⟩

end Go.Proofs.YtfpekihdoclncaaGreat

namespace Go.Proofs.YtfpekihdoclncaaGreat
open Go.RowKit

set_option maxHeartbeats 2000000
set_option maxRecDepth 100000

namespace Tm
theorem mt_app_inv {f a t : Tm} {l : List Tm} (h : mt (app f a) t = some l) : ∃ g b xs ys, t = app g b ∧ mt f g = some xs ∧ mt a b = some ys ∧ l = xs ++ ys := by
  cases t with
  | app g b =>
    simp only [mt, Option.bind_eq_some_iff] at h
    obtain ⟨xs, h1, ys, h2, h3⟩ := h
    exact ⟨g, b, xs, ys, rfl, h1, h2, (Option.some.inj h3).symm⟩
  | k => simp [mt] at h
  | s => simp [mt] at h
  | nm n => simp [mt] at h
theorem mt_closed : ∀ (u t : Tm) (l : List Tm), (∀ n, has n u = false) → mt u t = some l → t = u ∧ l = []
  | .k, t, l, _, h => by cases t <;> simp [mt] at h; exact ⟨rfl, h⟩
  | .s, t, l, _, h => by cases t <;> simp [mt] at h; exact ⟨rfl, h⟩
  | .nm n, _, _, hn, _ => by have := hn n; simp [has] at this
  | .app f a, t, l, hn, h => by
    obtain ⟨g, b, xs, ys, rfl, h1, h2, rfl⟩ := mt_app_inv h
    have hf := mt_closed f g xs (fun n => by have := hn n; simp [has] at this; exact this.1) h1
    have ha := mt_closed a b ys (fun n => by have := hn n; simp [has] at this; exact this.2) h2
    rw [hf.1, ha.1, hf.2, ha.2]
    exact ⟨rfl, rfl⟩
theorem mt_self : ∀ (u : Tm), (∀ n, has n u = false) → mt u u = some []
  | .k, _ => rfl
  | .s, _ => rfl
  | .nm n, hn => by have := hn n; simp [has] at this
  | .app f a, hn => by
    simp only [mt, mt_self f (fun n => by have := hn n; simp [has] at this; exact this.1), mt_self a (fun n => by have := hn n; simp [has] at this; exact this.2)]
    rfl
theorem has_none {t : Tm} (h : names [] t = []) (n : List UInt8) : has n t = false := by
  cases hh : has n t with
  | false => rfl
  | true =>
    have := (mem_names n t []).2 (Or.inr hh)
    rw [h] at this
    cases this
theorem kC_has : ∀ n, has n kC = false := has_none (by kernel_rfl)
theorem sC_has : ∀ n, has n sC = false := has_none (by kernel_rfl)
theorem mt_appC {t : Tm} {l : List Tm} (h : mt (appC X Y) t = some l) : ∃ c d, l = [c, d] ∧ t = appC c d := by
  unfold appC pair at h
  obtain ⟨g1, b1, x1, y1, rfl, h1, h2, rfl⟩ := mt_app_inv h
  obtain ⟨g2, b2, x2, y2, rfl, h3, h4, rfl⟩ := mt_app_inv h2
  obtain ⟨g3, b3, x3, y3, rfl, h5, h6, rfl⟩ := mt_app_inv h4
  obtain ⟨g4, b4, x4, y4, rfl, h7, h8, rfl⟩ := mt_app_inv h5
  obtain ⟨g5, b5, x5, y5, rfl, h9, h10, rfl⟩ := mt_app_inv h6
  obtain ⟨g6, b6, x6, y6, rfl, h11, h12, rfl⟩ := mt_app_inv h8
  obtain ⟨g7, b7, x7, y7, rfl, h13, h14, rfl⟩ := mt_app_inv h11
  obtain ⟨g8, b8, x8, y8, rfl, h15, h16, rfl⟩ := mt_app_inv h12
  have k0 : ∀ n, has n .k = false := fun _ => rfl
  have s0 : ∀ n, has n .s = false := fun _ => rfl
  have i0 : ∀ n, has n I = false := fun _ => rfl
  obtain ⟨rfl, rfl⟩ := mt_closed _ _ _ k0 h1
  obtain ⟨rfl, rfl⟩ := mt_closed _ _ _ k0 h3
  obtain ⟨rfl, rfl⟩ := mt_closed _ _ _ s0 h7
  obtain ⟨rfl, rfl⟩ := mt_closed _ _ _ k0 h9
  obtain ⟨rfl, rfl⟩ := mt_closed _ _ _ s0 h13
  obtain ⟨rfl, rfl⟩ := mt_closed _ _ _ i0 h14
  obtain ⟨rfl, rfl⟩ := mt_closed _ _ _ k0 h15
  simp only [X, Y, mt] at h10 h16
  obtain rfl := Option.some.inj h10
  obtain rfl := Option.some.inj h16
  exact ⟨b8, b5, rfl, rfl⟩
theorem mt_appC_self (c d : Tm) : mt (appC X Y) (appC c d) = some [c, d] := rfl

/-- The term whose code a term is; n is enough steps. -/
def back : Nat → Tm → Option Tm
  | 0, _ => none
  | n + 1, t => if (mt kC t).isSome = true then some k else if (mt sC t).isSome = true then some s else match mt (appC X Y) t with
    | some [c, d] => (back n c).bind fun x => (back n d).bind fun y => some (app x y)
    | _ => none
theorem size_appC (c d : Tm) : (appC c d).size = c.size + d.size + 9 := by simp only [appC, size, size_pair]; omega
theorem back_facts : ∀ (n : Nat) (t u : Tm), back n t = some u → code u = t ∧ u.size ≤ t.size ∧ u.good = true ∧ ∀ m, has m u = false
  | 0, _, _, h => by cases h
  | n + 1, t, u, h => by
    simp only [back] at h
    split at h
    · rename_i hk
      obtain rfl := Option.some.inj h
      obtain ⟨l, hl⟩ := Option.isSome_iff_exists.1 hk
      exact ⟨(mt_closed _ _ _ kC_has hl).1.symm, size_pos t, rfl, fun _ => rfl⟩
    · split at h
      · rename_i hs
        obtain rfl := Option.some.inj h
        obtain ⟨l, hl⟩ := Option.isSome_iff_exists.1 hs
        exact ⟨(mt_closed _ _ _ sC_has hl).1.symm, size_pos t, rfl, fun _ => rfl⟩
      · split at h
        · rename_i c d hcd
          obtain ⟨c', d', e, rfl⟩ := mt_appC hcd
          simp only [List.cons.injEq, and_true] at e
          obtain ⟨rfl, rfl⟩ := e
          simp only [Option.bind_eq_some_iff] at h
          obtain ⟨x, hx, y, hy, h⟩ := h
          obtain rfl := Option.some.inj h
          obtain ⟨a1, a2, a3, a4⟩ := back_facts n _ _ hx
          obtain ⟨b1, b2, b3, b4⟩ := back_facts n _ _ hy
          refine ⟨by simp [code, a1, b1], by rw [size_appC]; simp only [size]; omega, by simp [good, a3, b3], fun m => by simp [has, a4 m, b4 m]⟩
        · cases h
def pCodeRead (l : List UInt8) : Option (List UInt8) := (parse l).bind fun t => (back t.size t).map text
end Tm

/-- A value is the reader of codes. -/
def RV (w : World) (r : Value) : Prop := ∃ b fr p1 p2 p3, r = .pointer (some ⟨b, 0, none⟩) ∧ w.heap[b]? = some (.cells #[p1, p2, p3] 93 fr) ∧ PV w Tm.kC p1 ∧ PV w Tm.sC p2 ∧ PV w (Tm.appC Tm.X Tm.Y) p3
theorem RV.below {w W : World} {r : Value} (h : RV w r) (hb : Below w.heap.size w W) : RV W r := by
  obtain ⟨b, fr, p1, p2, p3, e, hh, h1, h2, h3⟩ := h
  exact ⟨b, fr, p1, p2, p3, e, heap_later hh hb, h1.below hb, h2.below hb, h3.below hb⟩

theorem newReader_any (w : World) : Calls Tryz.prog 22 #[] w fun e w' => ∃ r, e = .returned r ∧ Below w.heap.size w w' ∧ RV w' r := by
  have hA1 : Below w.heap.size w (w.alloc (.cells #[] 89)) := below_alloc (Below.refl _ _) _
  have t1 : TV (w.alloc (.cells #[] 89)) w.heap.size .k (.iface 87 (.pointer (some ⟨w.heap.size, 0, none⟩))) := ⟨_, _, rfl, Nat.le_refl _, heap_top w _⟩
  have k1 := codeOf_any t1 hA1.size (by decide)
  unfold TermPost at k1
  rw [show Tm.code .k = Tm.kC from rfl] at k1
  clear t1
  go_enter Tryz.func22, Tryz.ntmps22
  go_wp2_with fail
  refine k1.mono ?_
  rintro e w1 ⟨v1, rfl, hb1, ht1⟩
  have hb01 := below_trans hA1 hb1
  have k2 := patternOf_any ht1 (by decide +kernel)
  unfold PatPost at k2
  clear ht1 k1
  go_wp2_with fail
  refine k2.mono ?_
  rintro e w2 ⟨p1, rfl, hb2, hp1⟩
  obtain ⟨q1, rfl⟩ := hp1.form
  have hb02 := below_trans hb01 hb2
  have hA2 : Below w2.heap.size w2 (w2.alloc (.cells #[] 91)) := below_alloc (Below.refl _ _) _
  have hb03 := below_trans hb02 hA2
  have t2 : TV (w2.alloc (.cells #[] 91)) w.heap.size .s (.iface 90 (.pointer (some ⟨w2.heap.size, 0, none⟩))) := ⟨_, _, rfl, hb02.size, heap_top w2 _⟩
  have k3 := codeOf_any t2 hb03.size (by decide)
  unfold TermPost at k3
  rw [show Tm.code .s = Tm.sC from rfl] at k3
  have HP1 := Lib.hid (hp1.below hA2)
  clear t2 hp1 k2
  go_wp2_with fail
  refine k3.mono ?_
  rintro e w3 ⟨v3, rfl, hb3, ht3⟩
  have hb04 := below_trans hb03 hb3
  have k4 := patternOf_any ht3 (by decide +kernel)
  unfold PatPost at k4
  clear ht3 k3
  go_wp2_with fail
  refine k4.mono ?_
  rintro e w4 ⟨p2, rfl, hb4, hp2⟩
  obtain ⟨q2, rfl⟩ := hp2.form
  have hb05 := below_trans hb04 hb4
  obtain ⟨os, hos⟩ : ∃ os : List Obj, os = [.cells #[str [120]] 67, .cells #[str [121]] 67] := ⟨_, rfl⟩
  have hX : allocL w4 os = (w4.alloc (.cells #[str [120]] 67)).alloc (.cells #[str [121]] 67) := by rw [hos]; rfl
  have hA := allocL_below w4 os
  have g0 : (allocL w4 os).heap[w4.heap.size]? = some (.cells #[str [120]] 67 (0, 0)) := by have := allocL_heap w4 os 0 (by rw [hos]; simp); simpa [hos] using this
  have g1 : (allocL w4 os).heap[w4.heap.size + 1]? = some (.cells #[str [121]] 67 (0, 0)) := by have := allocL_heap w4 os 1 (by rw [hos]; simp); simpa [hos] using this
  have hb06 := below_trans hb05 hA
  have hbs := hb05.size
  have k5 := apply_any (allocL w4 os) w.heap.size Tm.X Tm.Y _ _ (nm_val g0 hbs) (nm_val g1 (by omega)) hb06.size (by decide)
  have HP1' := Lib.hid (((HP1.out.below hb3).below hb4).below hA)
  have HP2 := Lib.hid (hp2.below hA)
  rw [hX] at k5 hb06 HP1' HP2
  clear g0 g1 hX hos hp2 k4 HP1 hA
  go_wp2_with fail
  refine k5.mono ?_
  rintro e w5 ⟨v5, rfl, hb5, ht5⟩
  have hb07 := below_trans hb06 hb5
  have k6 := codeOf_any ht5 hb07.size (by decide)
  unfold TermPost at k6
  rw [show Tm.code (.app Tm.X Tm.Y) = Tm.appC Tm.X Tm.Y from rfl] at k6
  clear ht5 k5
  go_wp2_with fail
  refine k6.mono ?_
  rintro e w6 ⟨v6, rfl, hb6, ht6⟩
  have hb08 := below_trans hb07 hb6
  have k7 := patternOf_any ht6 (by decide +kernel)
  unfold PatPost at k7
  clear ht6 k6
  go_wp2_with fail
  refine k7.mono ?_
  rintro e w7 ⟨p3, rfl, hb7, hp3⟩
  obtain ⟨q3, rfl⟩ := hp3.form
  have hb09 := below_trans hb08 hb7
  have hn := below_new w7 (.cells #[.pointer (some ⟨q1, 0, none⟩), .pointer (some ⟨q2, 0, none⟩), .pointer (some ⟨q3, 0, none⟩)] 93)
  have hh := heap_top w7 (.cells #[.pointer (some ⟨q1, 0, none⟩), .pointer (some ⟨q2, 0, none⟩), .pointer (some ⟨q3, 0, none⟩)] 93)
  have b57 := below_trans (below_trans hb5 hb6) hb7
  have HR := Lib.hid (show RV (w7.alloc (.cells #[.pointer (some ⟨q1, 0, none⟩), .pointer (some ⟨q2, 0, none⟩), .pointer (some ⟨q3, 0, none⟩)] 93)) (.pointer (some ⟨w7.heap.size, 0, none⟩)) from ⟨_, _, _, _, _, rfl, hh, (HP1'.out.below b57).below hn, (HP2.out.below b57).below hn, hp3.below hn⟩)
  clear hh hp3 k7
  go_wp2_with fail
  go_ret
  exact ⟨_, rfl, below_trans hb09 hn, HR.out⟩
end Go.Proofs.YtfpekihdoclncaaGreat
