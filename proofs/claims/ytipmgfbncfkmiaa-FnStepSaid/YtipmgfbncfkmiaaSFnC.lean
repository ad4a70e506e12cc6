/-
  The model's exported function TermPut.
-/
import Derived.Test.YtipmgfbncfkmiaaSPut
import Derived.Test.YtipmgfbncfkmiaaPkU
import Derived.BigQuiet
import Derived.Deep.QuietTactic
namespace Go.Proofs.Ytipmgfbncfkmiaa
open Go.RowKit

set_option maxHeartbeats 2000000
set_option maxRecDepth 100000

def SOne (w : World) (r : Option (List UInt8)) (e : Ending) (w' : World) : Prop :=
  e = .returned (.tuple #[str (r.getD []), .bool r.isSome]) ∧ After w w'

theorem After.drews {a b : World} (h : After a b) : ∀ n, After a (b.drewN n) := fun _ => ⟨h.os, h.tape, h.output, h.size, h.block⟩

theorem put_none1 (w : World) (l n m : List UInt8) (hl : l.length ≤ 1000000000) (hm : m.length ≤ 1000000000) (hp : Tm.parse l = none) :
    Calls Try.prog 26 #[str l, str n, str m] w (SOne w none) := by
  have h1 := s_term w l hl
  have h2 := fun W => s_term W m hm
  unfold STermPost at h1 h2
  rw [hp] at h1
  generalize (Tm.parse m).isSome = b at h2
  clear hp
  go_enter Try.func26, Try.ntmps26
  go_wp2_with fail
  refine h1.mono ?_
  rintro e w1 ⟨s1, ao1, n1, c1, rfl, hb1, ht1⟩
  clear ht1
  go_wp2_with fail
  refine (h2 _).mono ?_
  rintro e w2 ⟨s2, ao2, n2, c2, rfl, hb2, ht2⟩
  clear ht2 h2 h1
  have hb3 := (After.alloc ((After.alloc hb1 (.cells #[str s1, .slice ao1 n1 c1] 74)).trans hb2) (.cells #[str s2, .slice ao2 n2 c2] 74))
  go_wp2_with fail
  go_quiet (fail)
  go_wp2_with fail
  go_ret2
  exact ⟨rfl, hb3.drews _⟩

theorem put_none2 (w : World) (l n m : List UInt8) (hl : l.length ≤ 1000000000) (hm : m.length ≤ 1000000000) (hp : (Tm.parse l).isSome = true) (hq : Tm.parse m = none) :
    Calls Try.prog 26 #[str l, str n, str m] w (SOne w none) := by
  have h1 := s_term w l hl
  have h2 := fun W => s_term W m hm
  unfold STermPost at h1 h2
  rw [hp] at h1
  rw [hq] at h2
  clear hp hq
  go_enter Try.func26, Try.ntmps26
  go_wp2_with fail
  refine h1.mono ?_
  rintro e w1 ⟨s1, ao1, n1, c1, rfl, hb1, ht1⟩
  clear ht1
  go_wp2_with fail
  refine (h2 _).mono ?_
  rintro e w2 ⟨s2, ao2, n2, c2, rfl, hb2, ht2⟩
  clear ht2 h2 h1
  have hb3 := (After.alloc ((After.alloc hb1 (.cells #[str s1, .slice ao1 n1 c1] 74)).trans hb2) (.cells #[str s2, .slice ao2 n2 c2] 74))
  go_wp2_with fail
  go_quiet (fail)
  go_wp2_with fail
  go_ret2
  exact ⟨rfl, hb3.drews _⟩

theorem put_name (w : World) (l n m : List UInt8) (hl : l.length ≤ 1000000000) (hn : n.length ≤ 1000000000) (hm : m.length ≤ 1000000000) (hp : (Tm.parse l).isSome = true) (hq : (Tm.parse m).isSome = true) (hok : Tm.nameOk n = false) :
    Calls Try.prog 26 #[str l, str n, str m] w (SOne w none) := by
  have h1 := s_term w l hl
  have h2 := fun W => s_term W m hm
  have h3 := fun W => s_name W n hn
  unfold STermPost at h1 h2
  rw [hp] at h1
  rw [hq] at h2
  rw [hok] at h3
  clear hp hq hok
  go_enter Try.func26, Try.ntmps26
  go_wp2_with fail
  refine h1.mono ?_
  rintro e w1 ⟨s1, ao1, n1, c1, rfl, hb1, ht1⟩
  clear ht1
  go_wp2_with fail
  refine (h2 _).mono ?_
  rintro e w2 ⟨s2, ao2, n2, c2, rfl, hb2, ht2⟩
  clear ht2 h2 h1
  have hb3 := (After.alloc ((After.alloc hb1 (.cells #[str s1, .slice ao1 n1 c1] 74)).trans hb2) (.cells #[str s2, .slice ao2 n2 c2] 74))
  go_wp2_with fail
  go_quiet ((go_at_call 75; refine Calls.quiet_of_same ((h3 _).mono fun e w' ⟨a, b⟩ => ⟨a, b.symm⟩)))
  go_wp2_with fail
  go_ret2
  exact ⟨rfl, hb3.drews _⟩

/-- Both terms are read, the name is one, the result is too large. -/
theorem put_over (w : World) (l n m : List UInt8) (t u : Tm) (hl : l.length ≤ 1000000000) (hn : n.length ≤ 1000000000) (hm : m.length ≤ 1000000000) (hp : Tm.parse l = some t) (hq : Tm.parse m = some u) (hok : Tm.nameOk n = true) (hbig : 3000 < (t.put n u).size) :
    Calls Try.prog 26 #[str l, str n, str m] w (SOne w none) := by
  have h1 := s_term w l hl
  have h2 := fun W => s_term W m hm
  have h3 := fun W => s_name W n hn
  unfold STermPost at h1 h2
  obtain ⟨hg, hf, hs, _, _⟩ := Tm.parse_facts hp
  obtain ⟨hgu, hfu, hsu, _, _⟩ := Tm.parse_facts hq
  rw [hp] at h1
  rw [hq] at h2
  rw [hok] at h3
  have hus := Tm.uses_le n t
  have hsp := Tm.size_put n u t
  have hmul : t.uses n * u.size ≤ 3000 * 3000 := Nat.mul_le_mul (by omega) hsu
  obtain ⟨p, hpe⟩ : ∃ p, p = t.uses n * u.size := ⟨_, rfl⟩
  rw [← hpe] at hsp hmul
  have e1 : IntKind.i64.wrap ((u.size : Int) - 1) = (u.size : Int) - 1 := IntWalk.i64_in _ (by omega)
  have hmi : (t.uses n : Int) * ((u.size : Int) - 1) = (p : Int) - (t.uses n : Int) := by rw [hpe]; push_cast; rw [Int.mul_sub, Int.mul_one]
  have e2 : IntKind.i64.wrap ((t.uses n : Int) * ((u.size : Int) - 1)) = (p : Int) - (t.uses n : Int) := by rw [hmi]; exact IntWalk.i64_in _ (by omega)
  have e3 : IntKind.i64.wrap ((t.size : Int) + ((p : Int) - (t.uses n : Int))) = (t.size : Int) + ((p : Int) - (t.uses n : Int)) := IntWalk.i64_in _ (by omega)
  have e4 : decide ((3000 : Int) < (t.size : Int) + ((p : Int) - (t.uses n : Int))) = true := by rw [decide_eq_true_eq]; omega
  have HOK := Lib.hid hok
  clear hp hq hok hbig hsp hmul hmi hpe
  go_enter Try.func26, Try.ntmps26
  go_wp2_with fail
  refine h1.mono ?_
  rintro e w1 ⟨s1, ao1, n1, c1, rfl, hb1, ht1⟩
  have HT1 := Lib.hid (ht1 t rfl)
  clear ht1
  go_wp2_with fail
  refine (h2 _).mono ?_
  rintro e w2 ⟨s2, ao2, n2, c2, rfl, hb2, ht2⟩
  have HT2 := Lib.hid (ht2 u rfl)
  clear ht2 h2 h1
  obtain ⟨X, hX⟩ : ∃ X, X = w2.alloc (.cells #[str s2, .slice ao2 n2 c2] 74) := ⟨_, rfl⟩
  have h2X : After w2 X := by rw [hX]; exact After.new _ _
  have hA1 : After (w1.alloc (.cells #[str s1, .slice ao1 n1 c1] 74)) X := hb2.trans h2X
  have hAX : After w X := (After.alloc hb1 _).trans hA1
  have hT1 := HT1.out.later ((After.new w1 (.cells #[str s1, .slice ao1 n1 c1] 74)).trans hA1)
  have hT2 := HT2.out.later h2X
  have hbox1 := hA1.heap (heap_new' w1 (.cells #[str s1, .slice ao1 n1 c1] 74))
  have hbox2 : X.heap[w2.heap.size]? = some (.cells #[str s2, .slice ao2 n2 c2] 74 (0, 0)) := by rw [hX]; exact heap_new' _ _
  have k0 : ∀ W, After X W → W.cell? ⟨w1.heap.size, 0, none⟩ = some (str s1) := fun W hW => hW.cell (cell_of_heap hbox1)
  have k1 : ∀ W, After X W → W.cell? ⟨w1.heap.size, 1, none⟩ = some (.slice ao1 n1 c1) := fun W hW => hW.cell (cell_of_heap hbox1)
  have k2 : ∀ W, After X W → W.cell? ⟨w2.heap.size, 0, none⟩ = some (str s2) := fun W hW => hW.cell (cell_of_heap hbox2)
  have k3 : ∀ W, After X W → W.cell? ⟨w2.heap.size, 1, none⟩ = some (.slice ao2 n2 c2) := fun W hW => hW.cell (cell_of_heap hbox2)
  have hsize1 := fun W (hW : After X W) => (hT1.later hW).size hg (by omega)
  have hsize2 := fun W (hW : After X W) => (hT2.later hW).size hgu (by omega)
  have huses := fun W (hW : After X W) => (hT1.later hW).uses n HOK.out hg (by omega)
  have hself := After.refl X
  go_wp2_with fail
  rw [← hX]
  have HAX := Lib.hid hAX
  clear hX h2X hA1 hAX hT1 hT2 hbox1 hbox2 hus HT1 HT2 hb1 hb2
  go_region_held3 (fun W' => After X W') (first | assumption | exact hself.drew | go_keep)
    (first
      | (go_at_call 75; refine (h3 _).mono ?_; rintro e w3 ⟨rfl, rfl⟩)
      | (go_at_call 76; refine (huses _ (by assumption)).mono ?_; rintro e w4 ⟨rfl, hb4⟩; have hb4' := After.trans (by assumption) hb4)
      | (go_at_call_of 66 ao1; refine (hsize1 _ (by first | assumption | exact hself.drew)).mono ?_; rintro e w5 ⟨rfl, hb5⟩; have hb5' := After.trans (by first | assumption | exact hself.drew) hb5)
      | (go_at_call_of 66 ao2; refine (hsize2 _ (by assumption)).mono ?_; rintro e w6 ⟨rfl, hb6⟩; have hb6' := After.trans (by assumption) hb6))
  go_wp2_with fail
  go_ret2
  exact ⟨rfl, HAX.out.trans hb6'⟩
/-- Both terms are read, the name is one, the result is put together. -/
theorem put_on (w : World) (l n m : List UInt8) (t u : Tm) (hl : l.length ≤ 1000000000) (hn : n.length ≤ 1000000000) (hm : m.length ≤ 1000000000) (hp : Tm.parse l = some t) (hq : Tm.parse m = some u) (hok : Tm.nameOk n = true) (hle : (t.put n u).size ≤ 3000) :
    Calls Try.prog 26 #[str l, str n, str m] w (SOne w (if (t.put n u).fits then some (t.put n u).text else none)) := by
  have h1 := s_term w l hl
  have h2 := fun W => s_term W m hm
  have h3 := fun W => s_name W n hn
  unfold STermPost at h1 h2
  obtain ⟨hg, hf, hs, _, _⟩ := Tm.parse_facts hp
  obtain ⟨hgu, hfu, hsu, _, _⟩ := Tm.parse_facts hq
  rw [hp] at h1
  rw [hq] at h2
  rw [hok] at h3
  have hus := Tm.uses_le n t
  have hsp := Tm.size_put n u t
  have hmul : t.uses n * u.size ≤ 3000 * 3000 := Nat.mul_le_mul (by omega) hsu
  obtain ⟨p, hpe⟩ : ∃ p, p = t.uses n * u.size := ⟨_, rfl⟩
  rw [← hpe] at hsp hmul
  have e1 : IntKind.i64.wrap ((u.size : Int) - 1) = (u.size : Int) - 1 := IntWalk.i64_in _ (by omega)
  have hmi : (t.uses n : Int) * ((u.size : Int) - 1) = (p : Int) - (t.uses n : Int) := by rw [hpe]; push_cast; rw [Int.mul_sub, Int.mul_one]
  have e2 : IntKind.i64.wrap ((t.uses n : Int) * ((u.size : Int) - 1)) = (p : Int) - (t.uses n : Int) := by rw [hmi]; exact IntWalk.i64_in _ (by omega)
  have e3 : IntKind.i64.wrap ((t.size : Int) + ((p : Int) - (t.uses n : Int))) = (t.size : Int) + ((p : Int) - (t.uses n : Int)) := IntWalk.i64_in _ (by omega)
  have e4 : decide ((3000 : Int) < (t.size : Int) + ((p : Int) - (t.uses n : Int))) = false := by rw [decide_eq_false_iff_not]; omega
  have hgp := Tm.good_put n u t hgu hg
  have htp := Tm.text_le _ hgp
  obtain ⟨b, hb⟩ : ∃ b, b = (t.put n u).fits := ⟨_, rfl⟩
  rw [← hb]
  obtain ⟨r, hr⟩ : ∃ r, r = if b = true then some (t.put n u).text else none := ⟨_, rfl⟩
  rw [← hr]
  have HB := Lib.hid hb
  have HR := Lib.hid hr
  have HOK := Lib.hid hok
  clear hp hq hok hsp hmul hmi hpe hb hr
  go_enter Try.func26, Try.ntmps26
  go_wp2_with fail
  refine h1.mono ?_
  rintro e w1 ⟨s1, ao1, n1, c1, rfl, hb1, ht1⟩
  have HT1 := Lib.hid (ht1 t rfl)
  clear ht1
  go_wp2_with fail
  refine (h2 _).mono ?_
  rintro e w2 ⟨s2, ao2, n2, c2, rfl, hb2, ht2⟩
  have HT2 := Lib.hid (ht2 u rfl)
  clear ht2 h2 h1
  obtain ⟨X, hX⟩ : ∃ X, X = w2.alloc (.cells #[str s2, .slice ao2 n2 c2] 74) := ⟨_, rfl⟩
  have h2X : After w2 X := by rw [hX]; exact After.new _ _
  have hA1 : After (w1.alloc (.cells #[str s1, .slice ao1 n1 c1] 74)) X := hb2.trans h2X
  have hAX : After w X := (After.alloc hb1 _).trans hA1
  have hT1 := HT1.out.later ((After.new w1 (.cells #[str s1, .slice ao1 n1 c1] 74)).trans hA1)
  have hT2 := HT2.out.later h2X
  have hbox1 := hA1.heap (heap_new' w1 (.cells #[str s1, .slice ao1 n1 c1] 74))
  have hbox2 : X.heap[w2.heap.size]? = some (.cells #[str s2, .slice ao2 n2 c2] 74 (0, 0)) := by rw [hX]; exact heap_new' _ _
  have k0 : ∀ W, After X W → W.cell? ⟨w1.heap.size, 0, none⟩ = some (str s1) := fun W hW => hW.cell (cell_of_heap hbox1)
  have k1 : ∀ W, After X W → W.cell? ⟨w1.heap.size, 1, none⟩ = some (.slice ao1 n1 c1) := fun W hW => hW.cell (cell_of_heap hbox1)
  have k2 : ∀ W, After X W → W.cell? ⟨w2.heap.size, 0, none⟩ = some (str s2) := fun W hW => hW.cell (cell_of_heap hbox2)
  have k3 : ∀ W, After X W → W.cell? ⟨w2.heap.size, 1, none⟩ = some (.slice ao2 n2 c2) := fun W hW => hW.cell (cell_of_heap hbox2)
  have hsize1 := fun W (hW : After X W) => (hT1.later hW).size hg (by omega)
  have hsize2 := fun W (hW : After X W) => (hT2.later hW).size hgu (by omega)
  have huses := fun W (hW : After X W) => (hT1.later hW).uses n HOK.out hg (by omega)
  have hself := After.refl X
  go_wp2_with fail
  rw [← hX]
  have HAX := Lib.hid hAX
  have HT1' := Lib.hid hT1
  have HT2' := Lib.hid hT2
  clear hX h2X hA1 hAX hT1 hT2 hbox1 hbox2 hus HT1 HT2 hb1 hb2
  go_region_held3 (fun W' => After X W') (first | assumption | exact hself.drew | go_keep)
    (first
      | (go_at_call 75; refine (h3 _).mono ?_; rintro e w3 ⟨rfl, rfl⟩)
      | (go_at_call 76; refine (huses _ (by assumption)).mono ?_; rintro e w4 ⟨rfl, hb4⟩; have hb4' := After.trans (by assumption) hb4)
      | (go_at_call_of 66 ao1; refine (hsize1 _ (by first | assumption | exact hself.drew)).mono ?_; rintro e w5 ⟨rfl, hb5⟩; have hb5' := After.trans (by first | assumption | exact hself.drew) hb5)
      | (go_at_call_of 66 ao2; refine (hsize2 _ (by assumption)).mono ?_; rintro e w6 ⟨rfl, hb6⟩; have hb6' := After.trans (by assumption) hb6))
  clear hsize1 hsize2 huses hself h3 e1 e2 e3 e4
  go_wp2_with fail
  refine ((HT1'.out.later hb6').put n s2 ao2 n2 c2 HOK.out (HT2'.out.later hb6') hg).mono ?_
  rintro e w7 ⟨s7, ao7, n7, c7, rfl, hb7, ht7⟩
  have HT7 := Lib.hid (show ST w7 (t.put n u) _ from ht7)
  clear ht7
  have hA7 := (HAX.out.trans hb6').trans hb7
  have hfine := (HT7.out.later (After.new w7 (.cells #[str s7, .slice ao7 n7 c7] 74))).fine hgp (by omega)
  rw [← HB.out] at hfine
  clear k0 k1 k2 k3
  cases b
  · go_wp2_with (go_at_call 78; refine hfine.mono ?_; rintro e w8 ⟨rfl, hb8⟩)
    go_ret2
    exact ⟨by rw [HR.out]; rfl, (hA7.alloc _).trans hb8⟩
  · go_wp2_with fail
    refine hfine.mono ?_
    rintro e w8 ⟨rfl, hb8⟩
    have htext := (HT7.out.later ((After.new w7 (.cells #[str s7, .slice ao7 n7 c7] 74)).trans hb8)).text hgp (by omega)
    have hbox : w8.heap[w7.heap.size]? = some (.cells #[str s7, .slice ao7 n7 c7] 74 (0, 0)) := hb8.heap (heap_new' w7 _)
    have k0 : w8.cell? ⟨w7.heap.size, 0, none⟩ = some (str s7) := cell_of_heap hbox
    have k1 : w8.cell? ⟨w7.heap.size, 1, none⟩ = some (.slice ao7 n7 c7) := cell_of_heap hbox
    go_wp2_with (go_at_call 79; refine htext.mono ?_; rintro e w9 ⟨rfl, hb9⟩)
    go_ret2
    exact ⟨by rw [HR.out]; rfl, ((hA7.alloc _).trans hb8).trans hb9⟩

theorem spec_put (w : World) (l n m : List UInt8) (hl : l.length ≤ 1000000000) (hn : n.length ≤ 1000000000) (hm : m.length ≤ 1000000000) :
    Calls Try.prog 26 #[str l, str n, str m] w (SOne w (Tm.pPut l n m)) := by
  cases hp : Tm.parse l with
  | none =>
    rw [show Tm.pPut l n m = none by simp [Tm.pPut, hp]]
    exact put_none1 w l n m hl hm hp
  | some t =>
    cases hq : Tm.parse m with
    | none =>
      rw [show Tm.pPut l n m = none by simp [Tm.pPut, hp, hq]]
      exact put_none2 w l n m hl hm (by rw [hp]; rfl) hq
    | some u =>
      cases hok : Tm.nameOk n with
      | false =>
        rw [show Tm.pPut l n m = none by simp [Tm.pPut, hp, hq, hok]]
        exact put_name w l n m hl hn hm (by rw [hp]; rfl) (by rw [hq]; rfl) hok
      | true =>
        rw [show Tm.pPut l n m = (if (t.put n u).fits then some (t.put n u).text else none) by simp [Tm.pPut, hp, hq, hok]]
        by_cases hz : (t.put n u).size ≤ 3000
        · exact put_on w l n m t u hl hn hm hp hq hok hz
        · have : (t.put n u).fits = false := by simp [Tm.fits, hz]
          rw [this]
          exact put_over w l n m t u hl hn hm hp hq hok (by omega)
end Go.Proofs.Ytipmgfbncfkmiaa
