/-
  The realizers of function texts: closed, and small: all abstractions on the way are terms. No program is named here.
-/
import Derived.Test.YtidpkmkhcomcdaaGreatPkF
import Derived.Test.YtidpkmkhcomcdaaGreatPkA
import Derived.Test.YtidpkmkhcomcdaaGreatPkB
import Derived.Test.YtidpkmkhcomcdaaGreatPkE
import Derived.Lib.SliceRun
import Derived.Test.YtidpkmkhcomcdaaGreatPkD
import Derived.Test.YtidpkmkhcomcdaaGreatPkC
namespace Go.Proofs.YtidpkmkhcomcdaaGreat

theorem uses_abs (y x : List UInt8) : ∀ t : Tm, Tm.uses y (Tm.abs x t) = if y = x then 0 else Tm.uses y t
  | .k => by simp [Tm.abs, Tm.uses]
  | .s => by simp [Tm.abs, Tm.uses]
  | .nm n => by
    by_cases hn : n = x
    · subst hn
      by_cases hy : y = n
      · simp [Tm.abs, Tm.uses, Tm.I, hy]
      · have : ¬ n = y := fun e => hy e.symm
        simp [Tm.abs, Tm.uses, Tm.I, hy, this]
    · by_cases hy : y = x
      · subst hy; simp [Tm.abs, Tm.uses, hn]
      · simp [Tm.abs, Tm.uses, hn, hy]
  | .app f a => by
    have hf := uses_abs y x f
    have ha := uses_abs y x a
    rw [Tm.abs]
    split
    · rename_i h
      by_cases hy : y = x
      · subst hy; rw [if_pos rfl]; simpa [Tm.uses] using h
      · rw [if_neg hy]; simp [Tm.uses]
    · split
      · rename_i h
        obtain ⟨h1, h2⟩ := h
        cases a with
        | nm n =>
          simp only [Tm.isNm, beq_iff_eq] at h1
          subst h1
          by_cases hy : y = n
          · subst hy; rw [if_pos rfl]; exact h2
          · have : ¬ n = y := fun e => hy e.symm
            rw [if_neg hy]; simp [Tm.uses, this]
        | k => simp [Tm.isNm] at h1
        | s => simp [Tm.isNm] at h1
        | app _ _ => simp [Tm.isNm] at h1
      · simp only [Tm.uses, hf, ha]
        split <;> simp

theorem abs_ge (x : List UInt8) : ∀ t : Tm, t.size ≤ (Tm.abs x t).size + 1 ∧ t.depth ≤ (Tm.abs x t).depth + 1
  | .k => by simp [Tm.abs, Tm.size, Tm.depth]
  | .s => by simp [Tm.abs, Tm.size, Tm.depth]
  | .nm n => by simp [Tm.size, Tm.depth]
  | .app f a => by
    obtain ⟨f1, f2⟩ := abs_ge x f
    obtain ⟨a1, a2⟩ := abs_ge x a
    rw [Tm.abs]
    split
    · simp only [Tm.size, Tm.depth]; omega
    · split
      · rename_i h
        obtain ⟨h1, h2⟩ := h
        cases a with
        | nm n => simp only [Tm.size, Tm.depth]; omega
        | k => simp [Tm.isNm] at h1
        | s => simp [Tm.isNm] at h1
        | app _ _ => simp [Tm.isNm] at h1
      · simp only [Tm.size, Tm.depth]; omega

/-- The abstraction of names, the first of the list first. -/
def absR : List (List UInt8) → Tm → Tm
  | [], t => t
  | x :: xs, t => absR xs (Tm.abs x t)

theorem uses_absR (y : List UInt8) : ∀ (xs : List (List UInt8)) (t : Tm), Tm.uses y (absR xs t) = if y ∈ xs then 0 else Tm.uses y t
  | [], t => by simp [absR]
  | x :: xs, t => by
    rw [absR, uses_absR y xs, uses_abs]
    by_cases h : y = x <;> by_cases g : y ∈ xs <;> simp [h, g]

theorem absR_ge : ∀ (xs : List (List UInt8)) (t : Tm), t.size ≤ (absR xs t).size + xs.length ∧ t.depth ≤ (absR xs t).depth + xs.length
  | [], t => by simp [absR]
  | x :: xs, t => by
    obtain ⟨h1, h2⟩ := absR_ge xs (Tm.abs x t)
    obtain ⟨g1, g2⟩ := abs_ge x t
    simp only [absR, List.length_cons]
    omega

theorem absR_good : ∀ (xs : List (List UInt8)) {t : Tm}, t.good = true → (absR xs t).good = true
  | [], _, h => h
  | x :: xs, _, h => absR_good xs (abs_good x h)

theorem lastL_absR : ∀ (xs : List (List UInt8)) (t : Tm), (absR xs t).size + xs.length ≤ 3000 → (absR xs t).depth + xs.length ≤ 1500 → lastL xs t = absR xs t
  | [], _, _, _ => rfl
  | x :: xs, t, h1, h2 => by
    simp only [absR, List.length_cons] at h1 h2
    obtain ⟨g1, g2⟩ := absR_ge xs (Tm.abs x t)
    have hf : (Tm.abs x t).fits = true := by simp [Tm.fits]; omega
    rw [lastL, if_pos hf, absR]
    exact lastL_absR xs _ (by omega) (by omega)

/-- Without names. -/
def Closed (t : Tm) : Prop := ∀ y, Tm.uses y t = 0

theorem abs_closed {t : Tm} (h : Closed t) (x : List UInt8) : Tm.abs x t = .app .k t := Tm.abs_none x t (h x)

namespace FT
open Tm (X Y Z I no succ fix)

def U : Tm := .nm [117]
def V : Tm := .nm [118]
def ns (a : Nat) : List (List UInt8) := [[120], [121], [122]].take a
def vs (a : Nat) : List Tm := [X, Y, Z].take a
/-- The abstraction of a list of names, the last of the list first. -/
def absAll (xs : List (List UInt8)) (t : Tm) : Tm := absR xs.reverse t
def appL (f : Tm) (us : List Tm) : Tm := us.foldl Tm.app f

def comp1 (F G : Tm) (a : Nat) : Tm := Tm.app F (appL G (vs a))
def comp2 (F G H : Tm) (a : Nat) : Tm := Tm.app (Tm.app F (appL G (vs a))) (appL H (vs a))
def comp3 (F G H J : Tm) (a : Nat) : Tm := Tm.app (Tm.app (Tm.app F (appL G (vs a))) (appL H (vs a))) (appL J (vs a))
def less : Tm := Tm.app V no
def recB (F G : Tm) (a : Nat) : Tm := Tm.app (Tm.app (Tm.app V .k) (appL F (vs a))) (appL (Tm.app (Tm.app G less) (appL (Tm.app U less) (vs a))) (vs a))
def seaB (F : Tm) (a : Nat) : Tm := Tm.app (Tm.app (Tm.app (appL (Tm.app F V) (vs a)) .k) V) (Tm.app U (Tm.app succ V))
def recT (F G : Tm) (a : Nat) : Tm := Tm.app fix (absAll ([117] :: [118] :: ns a) (recB F G a))
def seaT (F : Tm) (a : Nat) : Tm := absAll (ns a) (Tm.app (Tm.app fix (absAll [[117], [118]] (seaB F a))) I)

def real : FT → Tm
  | z a => absAll (ns a) I
  | inc => succ
  | p i a => absAll (ns a) ((vs a).getD i .k)
  | c1 f g => absAll (ns (arity g)) (comp1 (real f) (real g) (arity g))
  | c2 f g h => absAll (ns (arity g)) (comp2 (real f) (real g) (real h) (arity g))
  | c3 f g h i => absAll (ns (arity g)) (comp3 (real f) (real g) (real h) (real i) (arity g))
  | r f g => recT (real f) (real g) (arity f)
  | m f => seaT (real f) (arity f - 1)

/-- How far a term may be from 63 for each atom. -/
def off : Nat → Int
  | 0 => 16
  | 1 => 21
  | 2 => 2
  | _ => -57

theorem closed_fix : Closed fix := fun y => by
  by_cases h1 : y = [120]
  · subst h1; decide +kernel
  · by_cases h2 : y = [121]
    · subst h2; decide +kernel
    · have e : ∀ t : Tm, Tm.uses y (Tm.abs [120] (Tm.abs [121] t)) = Tm.uses y t := fun t => by rw [uses_abs, if_neg h1, uses_abs, if_neg h2]
      have h3 : ¬ ([120] : List UInt8) = y := fun e => h1 e.symm
      have h4 : ¬ ([121] : List UInt8) = y := fun e => h2 e.symm
      simp [Tm.fix, Tm.half, Tm.uses, e, X, Y, h3, h4]
theorem closed_succ : Closed succ := fun y => by
  by_cases h1 : y = [120]
  · subst h1; decide +kernel
  · have h3 : ¬ ([120] : List UInt8) = y := fun e => h1 e.symm
    simp [Tm.succ, uses_abs, h1, Tm.pair, Tm.uses, Tm.I, Tm.no, X, h3]

theorem size_fix : fix.size = 26 := by decide +kernel
theorem depth_fix : fix.depth = 7 := by decide +kernel
theorem size_succ : succ.size = 13 := by decide +kernel
theorem depth_succ : succ.depth = 9 := by decide +kernel

theorem three {P : Nat → Prop} (h0 : P 0) (h1 : P 1) (h2 : P 2) (h3 : P 3) : ∀ a, a ≤ 3 → P a
  | 0, _ => h0
  | 1, _ => h1
  | 2, _ => h2
  | 3, _ => h3

set_option maxRecDepth 10000

theorem comp1_facts {F G : Tm} (hF : Closed F) (hG : Closed G) : ∀ a, a ≤ 3 → (absAll (ns a) (comp1 F G a)).size ≤ F.size + G.size + (2 * a) ∧ (absAll (ns a) (comp1 F G a)).depth ≤ max F.depth G.depth + 27 := by
  have e : ∀ x, Tm.uses x F = 0 := hF
  have e' : ∀ x, Tm.uses x G = 0 := hG
  refine three ?_ ?_ ?_ ?_ <;>
    simp [absAll, absR, ns, vs, comp1, appL, Tm.abs, abs_closed hF, Tm.uses, e, e', Tm.isNm, X, Y, Z, Tm.size, Tm.depth] <;> omega

theorem comp2_facts {F G H : Tm} (hF : Closed F) (hG : Closed G) (hH : Closed H) : ∀ a, a ≤ 3 → (absAll (ns a) (comp2 F G H a)).size ≤ F.size + G.size + H.size + [0, 3, 8, 15].getD a 0 ∧ (absAll (ns a) (comp2 F G H a)).depth ≤ max (max F.depth G.depth) H.depth + 27 := by
  have e : ∀ x, Tm.uses x F = 0 := hF
  have e' : ∀ x, Tm.uses x G = 0 := hG
  have e'' : ∀ x, Tm.uses x H = 0 := hH
  refine three ?_ ?_ ?_ ?_ <;>
    simp [absAll, absR, ns, vs, comp2, appL, Tm.abs, abs_closed hF, Tm.uses, e, e', e'', Tm.isNm, X, Y, Z, Tm.size, Tm.depth] <;> omega

theorem comp3_facts {F G H J : Tm} (hF : Closed F) (hG : Closed G) (hH : Closed H) (hJ : Closed J) : ∀ a, a ≤ 3 → (absAll (ns a) (comp3 F G H J a)).size ≤ F.size + G.size + H.size + J.size + [0, 4, 12, 24].getD a 0 ∧ (absAll (ns a) (comp3 F G H J a)).depth ≤ max (max (max F.depth G.depth) H.depth) J.depth + 27 := by
  have e : ∀ x, Tm.uses x F = 0 := hF
  have e' : ∀ x, Tm.uses x G = 0 := hG
  have e'' : ∀ x, Tm.uses x H = 0 := hH
  have e3 : ∀ x, Tm.uses x J = 0 := hJ
  refine three ?_ ?_ ?_ ?_ <;>
    simp [absAll, absR, ns, vs, comp3, appL, Tm.abs, abs_closed hF, Tm.uses, e, e', e'', e3, Tm.isNm, X, Y, Z, Tm.size, Tm.depth] <;> omega

theorem rec_facts {F G : Tm} (hF : Closed F) (hG : Closed G) (a : Nat) (ha : a ≤ 1) : (recT F G a).size ≤ F.size + G.size + [66, 95].getD a 0 ∧ (recT F G a).depth ≤ max F.depth G.depth + 27 := by
  have e : ∀ x, Tm.uses x F = 0 := hF
  have e' : ∀ x, Tm.uses x G = 0 := hG
  have s1 := size_fix
  have s2 := depth_fix
  match a, ha with
  | 0, _ =>
    simp [recT, recB, less, absAll, absR, ns, vs, appL, Tm.abs, abs_closed hF, abs_closed hG, Tm.uses, e, e', Tm.isNm, X, Y, Z, U, V, Tm.size, Tm.depth, I, no, s1, s2]
    omega
  | 1, _ =>
    simp [recT, recB, less, absAll, absR, ns, vs, appL, Tm.abs, abs_closed hF, abs_closed hG, Tm.uses, e, e', Tm.isNm, X, Y, Z, U, V, Tm.size, Tm.depth, I, no, s1, s2]
    omega

theorem sea_facts {F : Tm} (hF : Closed F) (a : Nat) (ha : a ≤ 2) : (seaT F a).size ≤ F.size + [58, 82, 122].getD a 0 ∧ (seaT F a).depth ≤ F.depth + 27 := by
  have e : ∀ x, Tm.uses x F = 0 := hF
  have s1 := size_fix
  have s2 := depth_fix
  have s3 := size_succ
  have s4 := depth_succ
  have e1 : ∀ x, Tm.uses x succ = 0 := closed_succ
  have e2 : ∀ x, Tm.uses x fix = 0 := closed_fix
  match a, ha with
  | 0, _ =>
    simp [seaT, seaB, absAll, absR, ns, vs, appL, Tm.abs, abs_closed closed_succ, Tm.uses, e, e1, Tm.isNm, X, Y, Z, U, V, Tm.size, Tm.depth, I, s1, s2, s3, s4]
    omega
  | 1, _ =>
    simp [seaT, seaB, absAll, absR, ns, vs, appL, Tm.abs, abs_closed closed_fix, abs_closed closed_succ, Tm.uses, e, e1, e2, Tm.isNm, X, Y, Z, U, V, Tm.size, Tm.depth, I, s1, s2, s3, s4]
    omega
  | 2, _ =>
    simp [seaT, seaB, absAll, absR, ns, vs, appL, Tm.abs, abs_closed closed_fix, abs_closed closed_succ, Tm.uses, e, e1, e2, Tm.isNm, X, Y, Z, U, V, Tm.size, Tm.depth, I, s1, s2, s3, s4]
    omega

theorem uses_appL (y : List UInt8) (f : Tm) (us : List Tm) : Tm.uses y (appL f us) = Tm.uses y f + (us.map (Tm.uses y)).sum := by
  unfold appL
  induction us generalizing f with
  | nil => simp
  | cons u us ih => rw [List.foldl_cons, ih]; simp [Tm.uses]; omega

theorem good_appL (f : Tm) (us : List Tm) (hf : f.good = true) (hu : ∀ u ∈ us, u.good = true) : (appL f us).good = true := by
  unfold appL
  induction us generalizing f with
  | nil => exact hf
  | cons u us ih => rw [List.foldl_cons]; exact ih _ (by simp [Tm.good, hf, hu u (by simp)]) (fun v hv => hu v (by simp [hv]))

theorem good_vs (a : Nat) : ∀ u ∈ vs a, u.good = true := by
  intro u hu
  have := List.mem_of_mem_take hu
  simp at this
  rcases this with rfl | rfl | rfl <;> decide

theorem nm_ne {y n : List UInt8} (h : y ≠ n) : Tm.uses y (.nm n) = 0 := by simp only [Tm.uses]; rw [if_neg (fun e => h e.symm)]

theorem uses_vs1 {y : List UInt8} : ∀ a, y ∉ ns a → ∀ u ∈ vs a, Tm.uses y u = 0
  | 0, _, u, hu => by simp [vs] at hu
  | 1, h, u, hu => by
    simp only [vs, ns, List.take_succ_cons, List.take_zero, List.mem_cons, List.not_mem_nil, or_false] at hu h
    subst hu
    exact nm_ne h
  | 2, h, u, hu => by
    simp only [vs, ns, List.take_succ_cons, List.take_zero, List.mem_cons, List.not_mem_nil, or_false, not_or] at hu h
    rcases hu with rfl | rfl
    · exact nm_ne h.1
    · exact nm_ne h.2
  | a + 3, h, u, hu => by
    simp only [vs, ns, List.take_succ_cons, List.take_nil, List.mem_cons, List.not_mem_nil, or_false, not_or] at hu h
    rcases hu with rfl | rfl | rfl
    · exact nm_ne h.1
    · exact nm_ne h.2.1
    · exact nm_ne h.2.2

theorem sum_zero : ∀ {l : List Nat}, (∀ x ∈ l, x = 0) → l.sum = 0
  | [], _ => rfl
  | x :: l, h => by rw [List.sum_cons, h x (by simp), sum_zero fun y hy => h y (by simp [hy])]

theorem uses_vs {y : List UInt8} {a : Nat} (h : y ∉ ns a) : ((vs a).map (Tm.uses y)).sum = 0 := sum_zero fun n hn => by
  obtain ⟨u, hu, rfl⟩ := List.mem_map.1 hn
  exact uses_vs1 a h u hu

theorem absAll_closed {xs : List (List UInt8)} {t : Tm} (h : ∀ y, y ∉ xs → Tm.uses y t = 0) : Closed (absAll xs t) := fun y => by
  unfold absAll
  rw [uses_absR]
  split
  · rfl
  · rename_i hy; exact h y (fun e => hy (List.mem_reverse.2 e))

theorem real_closed : ∀ {t : FT}, ok t → Closed (real t)
  | z a, _ => absAll_closed fun y _ => by simp [I, Tm.uses]
  | inc, _ => closed_succ
  | p i a, h => absAll_closed fun y hy => by
    have hl : (vs a)[i]? = some ((vs a).getD i .k) := by
      have : i < (vs a).length := by simp [vs]; have := h.1; have := h.2; omega
      simp [List.getD_eq_getElem?_getD, List.getElem?_eq_getElem this]
    exact uses_vs1 a hy _ (List.mem_of_getElem? hl)
  | c1 f g, h => absAll_closed fun y hy => by simp [comp1, Tm.uses, uses_appL, uses_vs hy, real_closed h.1 y, real_closed h.2.1 y]
  | c2 f g k, h => absAll_closed fun y hy => by simp [comp2, Tm.uses, uses_appL, uses_vs hy, real_closed h.1 y, real_closed h.2.1 y, real_closed h.2.2.1 y]
  | c3 f g k l, h => absAll_closed fun y hy => by simp [comp3, Tm.uses, uses_appL, uses_vs hy, real_closed h.1 y, real_closed h.2.1 y, real_closed h.2.2.1 y, real_closed h.2.2.2.1 y]
  | r f g, h => fun y => by
    have : Closed (absAll ([117] :: [118] :: ns (arity f)) (recB (real f) (real g) (arity f))) := absAll_closed fun y hy => by
      simp only [List.mem_cons, not_or] at hy
      simp [recB, less, Tm.uses, uses_appL, uses_vs hy.2.2, real_closed h.1 y, real_closed h.2.1 y, U, V, no, I]
      simp [Ne.symm hy.1, Ne.symm hy.2.1]
    simp [real, recT, Tm.uses, closed_fix y, this y]
  | m f, h => absAll_closed fun y hy => by
    have : Tm.uses y (absAll [[117], [118]] (seaB (real f) (arity f - 1))) = 0 := by
      unfold absAll
      rw [uses_absR]
      split
      · rfl
      · rename_i hn
        simp only [List.reverse_cons, List.reverse_nil, List.nil_append, List.cons_append, List.mem_cons, List.not_mem_nil, or_false, not_or] at hn
        simp [seaB, Tm.uses, uses_appL, uses_vs hy, real_closed h.1 y, U, V, closed_succ y]
        simp [Ne.symm hn.1, Ne.symm hn.2]
    simp [Tm.uses, closed_fix y, this, I]

theorem real_good : ∀ {t : FT}, ok t → (real t).good = true
  | z a, _ => absR_good _ rfl
  | inc, _ => by decide +kernel
  | p i a, h => absR_good _ (by
    have : i < (vs a).length := by simp [vs]; have := h.1; have := h.2; omega
    rw [List.getD_eq_getElem?_getD, List.getElem?_eq_getElem this]
    exact good_vs a _ (List.getElem_mem this))
  | c1 f g, h => absR_good _ (by simp [comp1, Tm.good, real_good h.1, good_appL _ _ (real_good h.2.1) (good_vs _)])
  | c2 f g k, h => absR_good _ (by simp [comp2, Tm.good, real_good h.1, good_appL _ _ (real_good h.2.1) (good_vs _), good_appL _ _ (real_good h.2.2.1) (good_vs _)])
  | c3 f g k l, h => absR_good _ (by simp [comp3, Tm.good, real_good h.1, good_appL _ _ (real_good h.2.1) (good_vs _), good_appL _ _ (real_good h.2.2.1) (good_vs _), good_appL _ _ (real_good h.2.2.2.1) (good_vs _)])
  | r f g, h => by
    have hl : (Tm.app U less).good = true := by decide +kernel
    have hl' : less.good = true := by decide +kernel
    have : (recB (real f) (real g) (arity f)).good = true := by
      simp [recB, Tm.good, good_appL _ _ (real_good h.1) (good_vs _), good_appL (Tm.app (Tm.app (real g) less) (appL (Tm.app U less) (vs (arity f)))) _ (by simp [Tm.good, real_good h.2.1, hl', good_appL _ _ hl (good_vs _)]) (good_vs _)]
      decide +kernel
    have hf : fix.good = true := by decide +kernel
    have ha : (absAll ([117] :: [118] :: ns (arity f)) (recB (real f) (real g) (arity f))).good = true := absR_good _ this
    simp [real, recT, Tm.good, hf, ha]
  | m f, h => absR_good _ (by
    have hf : fix.good = true := by decide +kernel
    have hs : succ.good = true := by decide +kernel
    have hv : V.good = true := by decide +kernel
    have hu : U.good = true := by decide +kernel
    have : (seaB (real f) (arity f - 1)).good = true := by simp [seaB, Tm.good, good_appL (Tm.app (real f) V) _ (by simp [Tm.good, real_good h.1, hv]) (good_vs _), hs, hv, hu]
    have ha : (absAll [[117], [118]] (seaB (real f) (arity f - 1))).good = true := absR_good _ this
    simp [Tm.good, hf, ha, I])

/-- How large a realizer is. -/
def Small (t : FT) : Prop := ((real t).size : Int) ≤ 63 * size t + off (arity t) ∧ (real t).depth ≤ 27 * size t

theorem word_small (a : Nat) (ha : a ≤ 3) : (absAll (ns a) I).size = 3 + a ∧ (absAll (ns a) I).depth = 2 + a := by
  revert ha; revert a
  exact three (by decide +kernel) (by decide +kernel) (by decide +kernel) (by decide +kernel)

theorem small_r {F G : Tm} {a m n : Nat} (hF : Closed F) (hG : Closed G) (ha : a ≤ 1) (f1 : (F.size : Int) ≤ 63 * m + off a) (f2 : F.depth ≤ 27 * m) (g1 : (G.size : Int) ≤ 63 * n + off (a + 2)) (g2 : G.depth ≤ 27 * n) :
    ((recT F G a).size : Int) ≤ 63 * ((1 + (m + n) : Nat) : Int) + off (a + 1) ∧ (recT F G a).depth ≤ 27 * (1 + (m + n)) := by
  obtain ⟨q1, q2⟩ := rec_facts hF hG a ha
  generalize recT F G a = T at *
  obtain rfl | rfl : a = 0 ∨ a = 1 := by omega
  · have e0 : off 0 = 16 := rfl
    have e1 : off (0 + 1) = 21 := rfl
    have e2 : off (0 + 2) = 2 := rfl
    have q : [66, 95].getD 0 0 = 66 := rfl
    rw [q] at q1
    rw [e0] at f1
    rw [e2] at g1
    rw [e1]
    omega
  · have e0 : off 1 = 21 := rfl
    have e1 : off (1 + 1) = 2 := rfl
    have e2 : off (1 + 2) = -57 := rfl
    have q : [66, 95].getD 1 0 = 95 := rfl
    rw [q] at q1
    rw [e0] at f1
    rw [e2] at g1
    rw [e1]
    omega

theorem small_m {F : Tm} {a m : Nat} (hF : Closed F) (h0 : 0 < a) (ha : a ≤ 3) (f1 : (F.size : Int) ≤ 63 * m + off a) (f2 : F.depth ≤ 27 * m) :
    ((seaT F (a - 1)).size : Int) ≤ 63 * ((1 + m : Nat) : Int) + off (a - 1) ∧ (seaT F (a - 1)).depth ≤ 27 * (1 + m) := by
  obtain ⟨q1, q2⟩ := sea_facts hF (a - 1) (by omega)
  generalize seaT F (a - 1) = T at *
  obtain rfl | rfl | rfl : a = 1 ∨ a = 2 ∨ a = 3 := by omega
  · have e0 : off 1 = 21 := rfl
    have e1 : off (1 - 1) = 16 := rfl
    have q : [58, 82, 122].getD (1 - 1) 0 = 58 := rfl
    rw [q] at q1
    rw [e0] at f1
    rw [e1]
    omega
  · have e0 : off 2 = 2 := rfl
    have e1 : off (2 - 1) = 21 := rfl
    have q : [58, 82, 122].getD (2 - 1) 0 = 82 := rfl
    rw [q] at q1
    rw [e0] at f1
    rw [e1]
    omega
  · have e0 : off 3 = -57 := rfl
    have e1 : off (3 - 1) = 2 := rfl
    have q : [58, 82, 122].getD (3 - 1) 0 = 122 := rfl
    rw [q] at q1
    rw [e0] at f1
    rw [e1]
    omega

theorem real_small {t : FT} : ok t → Small t := by
  induction t with
  | z a =>
    intro h
    obtain ⟨h1, h2⟩ := word_small a h
    simp only [Small, real, size, arity, h1, h2]
    have h : a ≤ 3 := h
    match a, h with
    | 0, _ => simp [off]
    | 1, _ => simp [off]
    | 2, _ => simp [off]
    | 3, _ => simp [off]
  | inc =>
    intro _
    have := size_succ
    have := depth_succ
    simp only [Small, real, size, arity, off]
    omega
  | p i a =>
    intro h
    obtain ⟨h1, h2⟩ := h
    simp only [Small, real, size, arity]
    match a, h2 with
    | 0, _ => omega
    | 1, _ => match i, h1 with | 0, _ => decide +kernel
    | 2, _ => match i, h1 with
      | 0, _ => decide +kernel
      | 1, _ => decide +kernel
    | 3, _ => match i, h1 with
      | 0, _ => decide +kernel
      | 1, _ => decide +kernel
      | 2, _ => decide +kernel
  | c1 f g ihf ihg =>
    intro h
    obtain ⟨h1, h2, h3⟩ := h
    obtain ⟨f1, f2⟩ := ihf h1
    obtain ⟨g1, g2⟩ := ihg h2
    have ha := arity_le h2
    obtain ⟨q1, q2⟩ := comp1_facts (real_closed h1) (real_closed h2) _ ha
    rw [h3] at f1
    simp only [Small, real, size, arity, off] at *
    omega
  | c2 f g k ihf ihg ihk =>
    intro h
    obtain ⟨h1, h2, h3, h4, h5⟩ := h
    obtain ⟨f1, f2⟩ := ihf h1
    obtain ⟨g1, g2⟩ := ihg h2
    obtain ⟨k1, k2⟩ := ihk h3
    have ha := arity_le h2
    obtain ⟨q1, q2⟩ := comp2_facts (real_closed h1) (real_closed h2) (real_closed h3) _ ha
    rw [h4] at f1
    rw [h5] at k1
    simp only [Small, real, size, arity] at *
    generalize arity g = a at *
    match a, ha with
    | 0, _ => simp [off] at *; omega
    | 1, _ => simp [off] at *; omega
    | 2, _ => simp [off] at *; omega
    | 3, _ => simp [off] at *; omega
  | c3 f g k l ihf ihg ihk ihl =>
    intro h
    obtain ⟨h1, h2, h3, h4, h5, h6, h7⟩ := h
    obtain ⟨f1, f2⟩ := ihf h1
    obtain ⟨g1, g2⟩ := ihg h2
    obtain ⟨k1, k2⟩ := ihk h3
    obtain ⟨l1, l2⟩ := ihl h4
    have ha := arity_le h2
    obtain ⟨q1, q2⟩ := comp3_facts (real_closed h1) (real_closed h2) (real_closed h3) (real_closed h4) _ ha
    rw [h5] at f1
    rw [h6] at k1
    rw [h7] at l1
    simp only [Small, real, size, arity] at *
    generalize arity g = a at *
    match a, ha with
    | 0, _ => simp [off] at *; omega
    | 1, _ => simp [off] at *; omega
    | 2, _ => simp [off] at *; omega
    | 3, _ => simp [off] at *; omega
  | r f g ihf ihg =>
    intro h
    obtain ⟨h1, h2, h3⟩ := h
    obtain ⟨f1, f2⟩ := ihf h1
    obtain ⟨g1, g2⟩ := ihg h2
    have ha : arity f ≤ 1 := by have := arity_le h2; omega
    exact small_r (real_closed h1) (real_closed h2) ha f1 f2 (by rw [h3] at g1; exact g1) g2
  | m f ihf =>
    intro h
    obtain ⟨h1, h2⟩ := h
    obtain ⟨f1, f2⟩ := ihf h1
    exact small_m (real_closed h1) h2 (arity_le h1) f1 f2

theorem real_fits {t : FT} (h : ok t) (hs : size t ≤ 40) : (real t).size ≤ 2541 ∧ (real t).depth ≤ 1080 ∧ (real t).fits = true := by
  obtain ⟨h1, h2⟩ := real_small h
  have ho : off (arity t) ≤ 21 := by
    have := arity_le h
    generalize arity t = a at *
    match a, this with
    | 0, _ => simp [off]
    | 1, _ => simp [off]
    | 2, _ => simp [off]
    | 3, _ => simp [off]
  have e1 : (real t).size ≤ 2541 := by omega
  have e2 : (real t).depth ≤ 1080 := by omega
  exact ⟨e1, e2, by simp [Tm.fits]; omega⟩

end FT
end Go.Proofs.YtidpkmkhcomcdaaGreat

namespace Go.Proofs.YtidpkmkhcomcdaaGreat
open Go.RowKit

theorem after_grown {w W : World} (b : Nat) (h : After w W) : w.grownBy W (some b) := ⟨h.os, h.tape, h.output, h.size, fun k hk _ => h.block k hk⟩
theorem grown_setx (w : World) (b i : Nat) (v : Value) : w.grownBy (w.setCell ⟨b, i, none⟩ v) (some b) := by
  refine ⟨rfl, rfl, rfl, by simp [World.setCell], fun k hk hne => ?_⟩
  have : b ≠ k := fun e => hne (e ▸ rfl)
  simp [World.setCell, Array.getElem?_modify, this]

theorem after_own {w w3 wr : World} {b : Nat} (ha : After w w3) (hb : w.heap.size ≤ b) (hg : w3.grownBy wr (some b)) : After w wr :=
  ⟨hg.os.trans ha.os, hg.tape.trans ha.tape, hg.output.trans ha.output, Nat.le_trans ha.size hg.size, fun q hq => by
    rw [hg.block q (Nat.lt_of_lt_of_le hq ha.size) (fun e => by injection e with e; omega)]
    exact ha.block q hq⟩

end Go.Proofs.YtidpkmkhcomcdaaGreat

namespace Go.Proofs.YtidpkmkhcomcdaaGreat
open Go.RowKit

set_option maxHeartbeats 2000000
set_option maxRecDepth 100000

/-- A row of trees. -/
def ArgsST (w : World) (sv : Value) (us : List Tm) : Prop :=
  (us = [] ∧ ∃ ao cap, sv = .slice ao 0 cap) ∨ ∃ g o cap, sv = .slice (some ⟨g, o, none⟩) us.length cap ∧ g < w.heap.size ∧ ∀ j (h : j < us.length), ∃ s ao n c, w.cell? ⟨g, o + j * 2, none⟩ = some (str s) ∧ w.cell? ⟨g, o + j * 2 + 1, none⟩ = some (.slice ao n c) ∧ ST w us[j] (.agg #[str s, .slice ao n c])

theorem ArgsST.after {w W : World} {sv : Value} {us : List Tm} (h : ArgsST w sv us) (ha : After w W) : ArgsST W sv us := by
  rcases h with h | ⟨g, o, cap, hv, hg, hc⟩
  · exact Or.inl h
  · refine Or.inr ⟨g, o, cap, hv, Nat.lt_of_lt_of_le hg ha.size, fun j hj => ?_⟩
    obtain ⟨s, ao, n, c, h1, h2, h3⟩ := hc j hj
    exact ⟨s, ao, n, c, ha.cell h1, ha.cell h2, h3.later ha⟩
theorem ArgsST.form {w : World} {sv : Value} {us : List Tm} (h : ArgsST w sv us) : ∃ ao cap, sv = .slice ao us.length cap := by
  rcases h with ⟨rfl, ao, cap, rfl⟩ | ⟨g, o, cap, rfl, _⟩
  · exact ⟨_, _, rfl⟩
  · exact ⟨_, _, rfl⟩
theorem ArgsST.at {w : World} {sv : Value} {us : List Tm} (h : ArgsST w sv us) (j : Nat) (hj : j < us.length) : ∃ g o cap s ao n c, sv = .slice (some ⟨g, o, none⟩) us.length cap ∧ g < w.heap.size ∧ w.cell? ⟨g, o + j * 2, none⟩ = some (str s) ∧ w.cell? ⟨g, o + j * 2 + 1, none⟩ = some (.slice ao n c) ∧ ST w us[j] (.agg #[str s, .slice ao n c]) := by
  rcases h with ⟨h, _⟩ | ⟨g, o, cap, hv, hg, hc⟩
  · rw [h] at hj; simp at hj
  · obtain ⟨s, ao, n, c, h1, h2, h3⟩ := hc j hj
    exact ⟨g, o, cap, s, ao, n, c, hv, hg, h1, h2, h3⟩

theorem appL_snoc (f : Tm) (us : List Tm) (u : Tm) : FT.appL f (us ++ [u]) = .app (FT.appL f us) u := by simp [FT.appL, List.foldl_append]

/-- The application of a term to a list of terms. -/
theorem s_appL (w : World) (f : Tm) (us : List Tm) (s0 : List UInt8) (a0 : Option Addr) (n0 c0 : Nat) (sv : Value) (hf : ST w f (.agg #[str s0, .slice a0 n0 c0])) (hu : ArgsST w sv us) (hn : us.length ≤ 1000) :
    Calls Tryz.prog 78 #[.agg #[str s0, .slice a0 n0 c0], sv] w (TreePost w (FT.appL f us)) := by
  obtain ⟨ao, cap, rfl⟩ := hu.form
  obtain ⟨N, hN⟩ : ∃ N, N = us.length := ⟨_, rfl⟩
  rw [← hN] at hn ⊢
  obtain ⟨W1, hW1⟩ : ∃ W1, W1 = (w.alloc (.cells #[str s0, .slice a0 n0 c0] 53)).alloc (.cells #[.string ⟨#[]⟩, .slice none 0 0] 53) := ⟨_, rfl⟩
  have a1 : After w W1 := by rw [hW1]; exact (After.new _ _).alloc _
  have hq : W1.heap[w.heap.size]? = some (.cells #[str s0, .slice a0 n0 c0] 53 (0, 0)) := by rw [hW1]; exact heap_old2 _ _ _
  have hr : W1.heap[w.heap.size + 1]? = some (.cells #[.string ⟨#[]⟩, .slice none 0 0] 53 (0, 0)) := by rw [hW1]; exact heap_new2 w _ _ _ rfl
  have HN := Lib.hid hN
  have HW1 := Lib.hid hW1
  have HU := Lib.hid hu
  have HA1 := Lib.hid a1
  have HQ := Lib.hid hq
  have HR := Lib.hid hr
  have HF := Lib.hid (hf.later a1)
  obtain ⟨R, hR⟩ : ∃ R, R = FT.appL f us := ⟨_, rfl⟩
  rw [← hR]
  have HRR := Lib.hid hR
  clear hN hW1 hu hq hr hf hR a1
  go_enter Tryz.func78, Tryz.ntmps78
  go_wp2_with fail
  rw [← HW1.out]
  go_loopw [5] (fun i wr => ∃ (k : Nat) (s : List UInt8) (b : Option Addr) (n c : Nat), i = .int .i64 (k : Nat) ∧ k ≤ N ∧ Hid (wr.heap[w.heap.size]? = some (.cells #[str s, .slice b n c] 53 (0, 0))) ∧ Hid (ST wr (FT.appL f (us.take k)) (.agg #[str s, .slice b n c])) ∧ Hid (W1.grownBy wr (some w.heap.size))) (fun i _ => N - (intOf i).toNat)
  case atStart => exact ⟨0, s0, a0, n0, c0, rfl, Nat.zero_le _, HQ.out, HF.out, World.grownBy.refl _ _⟩
  case round =>
    obtain ⟨k, s, b, n, c, rfl, hk, HB, HT, HG⟩ := hrel
    have b0 : wr.cell? ⟨w.heap.size, 0, none⟩ = some (str s) := cell_of_heap (i := 0) HB.out
    have b1 : wr.cell? ⟨w.heap.size, 1, none⟩ = some (.slice b n c) := cell_of_heap (i := 1) HB.out
    have f0 : ∀ i, wr.frozen? ⟨w.heap.size, i, none⟩ = false := fun i => by have := HB.out; simp [World.frozen?, this]
    have hres : wr.heap[w.heap.size + 1]? = some (.cells #[.string ⟨#[]⟩, .slice none 0 0] 53 (0, 0)) := by
      rw [HG.out.block (w.heap.size + 1) (Array.getElem?_eq_some_iff.1 HR.out).1 (fun e => by injection e with e; omega)]
      exact HR.out
    have r0 : wr.cell? ⟨w.heap.size + 1, 0, none⟩ = some (.string ⟨#[]⟩) := cell_of_heap (i := 0) hres
    have r1 : wr.cell? ⟨w.heap.size + 1, 1, none⟩ = some (.slice none 0 0) := cell_of_heap (i := 1) hres
    have f1 : ∀ i, wr.frozen? ⟨w.heap.size + 1, i, none⟩ = false := fun i => by simp [World.frozen?, hres]
    have HRES := Lib.hid hres
    clear hres
    by_cases hlt : k < N
    · have hkl : k < us.length := by rw [← HN.out]; exact hlt
      obtain ⟨g, o, cap', s1, ao1, n1, c1, hsv, hg, h1, h2, h3⟩ := HU.out.at k hkl
      injection hsv with e1 e2 e3
      subst e1
      clear e2 e3
      have hAw : After w wr := after_own HA1.out (Nat.le_refl _) HG.out
      have x1 := hAw.cell h1
      have x2 := hAw.cell h2
      have HX := Lib.hid (h3.later hAw)
      have hgq : g ≠ w.heap.size := by omega
      have hltI : (k : Int) < (N : Int) := by omega
      have hqw : w.heap.size < wr.heap.size := (Array.getElem?_eq_some_iff.1 HB.out).1
      have hnext : FT.appL f (us.take (k + 1)) = .app (FT.appL f (us.take k)) us[k] := by rw [List.take_succ_eq_append_getElem hkl, appL_snoc]
      have HNX := Lib.hid hnext
      clear h1 h2 h3 hnext
      go_wp2_with fail
      go_region
      all_goals
        go_wp2_with fail
        go_roundw
        case measure => simp [intOf]; omega
        case rel =>
          have hX : ((wr.setCell ⟨w.heap.size, 0, none⟩ (.string ⟨#[]⟩)).setCell ⟨w.heap.size, 1, none⟩ (.slice (some ⟨wr.heap.size, 0, none⟩) 2 2)).heap[w.heap.size]? = some (.cells #[str [], .slice (some ⟨wr.heap.size, 0, none⟩) 2 2] 53 (0, 0)) := by
            have := HB.out
            simp [World.setCell, Array.getElem?_modify, this]
          have hXs : ((wr.setCell ⟨w.heap.size, 0, none⟩ (.string ⟨#[]⟩)).setCell ⟨w.heap.size, 1, none⟩ (.slice (some ⟨wr.heap.size, 0, none⟩) 2 2)).heap.size = wr.heap.size := by simp [World.setCell]
          have hT2 := HT.out.sets2 HB.out (i := 0) (j := 1) (u := .string ⟨#[]⟩) (u' := .slice (some ⟨wr.heap.size, 0, none⟩) 2 2)
          have hX2 := HX.out.sets2 HB.out (i := 0) (j := 1) (u := .string ⟨#[]⟩) (u' := .slice (some ⟨wr.heap.size, 0, none⟩) 2 2)
          have hGX : W1.grownBy ((wr.setCell ⟨w.heap.size, 0, none⟩ (.string ⟨#[]⟩)).setCell ⟨w.heap.size, 1, none⟩ (.slice (some ⟨wr.heap.size, 0, none⟩) 2 2)) (some w.heap.size) := grown_trans (grown_trans HG.out (grown_setx _ _ _ _)) (grown_setx _ _ _ _)
          generalize (wr.setCell ⟨w.heap.size, 0, none⟩ (.string ⟨#[]⟩)).setCell ⟨w.heap.size, 1, none⟩ (.slice (some ⟨wr.heap.size, 0, none⟩) 2 2) = X at *
          have hn4 := heap_new' X (.cells #[str s, .slice b n c, str s1, .slice ao1 n1 c1] 53)
          rw [hXs] at hn4
          have ha4 := After.new X (.cells #[str s, .slice b n c, str s1, .slice ao1 n1 c1] 53)
          refine ⟨k + 1, [], some ⟨wr.heap.size, 0, none⟩, 2, 2, by go_num, by omega, ha4.heap hX, ?_, grown_trans hGX (after_grown _ (After.drew ha4))⟩
          rw [HNX.out]
          exact ⟨wr.heap.size, 2, (0, 0), _, _, _, _, rfl, hn4, hT2.later (After.drew ha4), hX2.later (After.drew ha4)⟩
    · obtain rfl : k = N := by omega
      have HF' := Lib.hid (show FT.appL f (us.take k) = R by rw [HRR.out, HN.out, List.take_length])
      have z0 := after_own HA1.out (Nat.le_refl _) HG.out
      go_wp2_with fail
      refine bodyPost_ret (v := .agg #[str s, .slice b n c]) (by have := HRES.out; simp [results, Tryz.results78, go_sem, World.setCell, World.cell?, Array.getElem?_modify, this]) rfl
        ⟨s, b, n, c, rfl, Below.setCell (p := ⟨w.heap.size + 1, 1, none⟩) (Below.setCell (p := ⟨w.heap.size + 1, 0, none⟩) z0 (Nat.le_succ _) _) (Nat.le_succ _) _, ?_⟩
      have h := HT.out
      rw [HF'.out] at h
      exact h.sets2 HRES.out

/-- A row of values that look like trees. -/
def RawRow (w : World) (sv : Value) (n : Nat) : Prop := ∃ g o cap, sv = .slice (some ⟨g, o, none⟩) n cap ∧ g < w.heap.size ∧ ∀ j, j < n → ∃ s ao m c, w.cell? ⟨g, o + j * 2, none⟩ = some (str s) ∧ w.cell? ⟨g, o + j * 2 + 1, none⟩ = some (.slice ao m c)
theorem RawRow.after {w W : World} {sv : Value} {n : Nat} (h : RawRow w sv n) (ha : After w W) : RawRow W sv n := by
  obtain ⟨g, o, cap, hv, hg, hc⟩ := h
  refine ⟨g, o, cap, hv, Nat.lt_of_lt_of_le hg ha.size, fun j hj => ?_⟩
  obtain ⟨s, ao, n, c, h1, h2⟩ := hc j hj
  exact ⟨s, ao, n, c, ha.cell h1, ha.cell h2⟩

/-- An application of what only looks like trees. -/
theorem s_appR (w : World) (s0 : List UInt8) (a0 : Option Addr) (n0 c0 N : Nat) (sv : Value) (hu : RawRow w sv N) (hn : N ≤ 1000) :
    Calls Tryz.prog 78 #[.agg #[str s0, .slice a0 n0 c0], sv] w fun e w' => ∃ s ao n c, e = .returned (.agg #[str s, .slice ao n c]) ∧ After w w' := by
  obtain ⟨g, o, cap, rfl, hg, hc⟩ := hu
  obtain ⟨W1, hW1⟩ : ∃ W1, W1 = (w.alloc (.cells #[str s0, .slice a0 n0 c0] 53)).alloc (.cells #[.string ⟨#[]⟩, .slice none 0 0] 53) := ⟨_, rfl⟩
  have a1 : After w W1 := by rw [hW1]; exact (After.new _ _).alloc _
  have hq : W1.heap[w.heap.size]? = some (.cells #[str s0, .slice a0 n0 c0] 53 (0, 0)) := by rw [hW1]; exact heap_old2 _ _ _
  have hr : W1.heap[w.heap.size + 1]? = some (.cells #[.string ⟨#[]⟩, .slice none 0 0] 53 (0, 0)) := by rw [hW1]; exact heap_new2 w _ _ _ rfl
  have HW1 := Lib.hid hW1
  have HU := Lib.hid hc
  have HA1 := Lib.hid a1
  have HQ := Lib.hid hq
  have HR := Lib.hid hr
  clear hW1 hc hq hr a1
  go_enter Tryz.func78, Tryz.ntmps78
  go_wp2_with fail
  rw [← HW1.out]
  go_loopw [5] (fun i wr => ∃ (k : Nat) (s : List UInt8) (b : Option Addr) (n c : Nat), i = .int .i64 (k : Nat) ∧ k ≤ N ∧ Hid (wr.heap[w.heap.size]? = some (.cells #[str s, .slice b n c] 53 (0, 0))) ∧ Hid (W1.grownBy wr (some w.heap.size))) (fun i _ => N - (intOf i).toNat)
  case atStart => exact ⟨0, s0, a0, n0, c0, rfl, Nat.zero_le _, HQ.out, World.grownBy.refl _ _⟩
  case round =>
    obtain ⟨k, s, b, n, c, rfl, hk, HB, HG⟩ := hrel
    have b0 : wr.cell? ⟨w.heap.size, 0, none⟩ = some (str s) := cell_of_heap (i := 0) HB.out
    have b1 : wr.cell? ⟨w.heap.size, 1, none⟩ = some (.slice b n c) := cell_of_heap (i := 1) HB.out
    have f0 : ∀ i, wr.frozen? ⟨w.heap.size, i, none⟩ = false := fun i => by have := HB.out; simp [World.frozen?, this]
    have hres : wr.heap[w.heap.size + 1]? = some (.cells #[.string ⟨#[]⟩, .slice none 0 0] 53 (0, 0)) := by
      rw [HG.out.block (w.heap.size + 1) (Array.getElem?_eq_some_iff.1 HR.out).1 (fun e => by injection e with e; omega)]
      exact HR.out
    have r0 : wr.cell? ⟨w.heap.size + 1, 0, none⟩ = some (.string ⟨#[]⟩) := cell_of_heap (i := 0) hres
    have r1 : wr.cell? ⟨w.heap.size + 1, 1, none⟩ = some (.slice none 0 0) := cell_of_heap (i := 1) hres
    have f1 : ∀ i, wr.frozen? ⟨w.heap.size + 1, i, none⟩ = false := fun i => by simp [World.frozen?, hres]
    have HRES := Lib.hid hres
    clear hres
    by_cases hlt : k < N
    · obtain ⟨s1, ao1, n1, c1, h1, h2⟩ := HU.out k hlt
      have hAw : After w wr := after_own HA1.out (Nat.le_refl _) HG.out
      have x1 := hAw.cell h1
      have x2 := hAw.cell h2
      have hgq : g ≠ w.heap.size := by omega
      have hltI : (k : Int) < (N : Int) := by omega
      have hqw : w.heap.size < wr.heap.size := (Array.getElem?_eq_some_iff.1 HB.out).1
      clear h1 h2
      go_wp2_with fail
      go_region
      all_goals
        go_wp2_with fail
        go_roundw
        case measure => simp [intOf]; omega
        case rel =>
          have hX : ((wr.setCell ⟨w.heap.size, 0, none⟩ (.string ⟨#[]⟩)).setCell ⟨w.heap.size, 1, none⟩ (.slice (some ⟨wr.heap.size, 0, none⟩) 2 2)).heap[w.heap.size]? = some (.cells #[str [], .slice (some ⟨wr.heap.size, 0, none⟩) 2 2] 53 (0, 0)) := by
            have := HB.out
            simp [World.setCell, Array.getElem?_modify, this]
          have hXs : ((wr.setCell ⟨w.heap.size, 0, none⟩ (.string ⟨#[]⟩)).setCell ⟨w.heap.size, 1, none⟩ (.slice (some ⟨wr.heap.size, 0, none⟩) 2 2)).heap.size = wr.heap.size := by simp [World.setCell]
          have hGX : W1.grownBy ((wr.setCell ⟨w.heap.size, 0, none⟩ (.string ⟨#[]⟩)).setCell ⟨w.heap.size, 1, none⟩ (.slice (some ⟨wr.heap.size, 0, none⟩) 2 2)) (some w.heap.size) := grown_trans (grown_trans HG.out (grown_setx _ _ _ _)) (grown_setx _ _ _ _)
          generalize (wr.setCell ⟨w.heap.size, 0, none⟩ (.string ⟨#[]⟩)).setCell ⟨w.heap.size, 1, none⟩ (.slice (some ⟨wr.heap.size, 0, none⟩) 2 2) = X at *
          have hn4 := heap_new' X (.cells #[str s, .slice b n c, str s1, .slice ao1 n1 c1] 53)
          rw [hXs] at hn4
          have ha4 := After.new X (.cells #[str s, .slice b n c, str s1, .slice ao1 n1 c1] 53)
          refine ⟨k + 1, [], some ⟨wr.heap.size, 0, none⟩, 2, 2, by go_num, by omega, ha4.heap hX, grown_trans hGX (after_grown _ (After.drew ha4))⟩
    · obtain rfl : k = N := by omega
      have z0 := after_own HA1.out (Nat.le_refl _) HG.out
      go_wp2_with fail
      refine bodyPost_ret (v := .agg #[str s, .slice b n c]) (by have := HRES.out; simp [results, Tryz.results78, go_sem, World.setCell, World.cell?, Array.getElem?_modify, this]) rfl
        ⟨s, b, n, c, rfl, Below.setCell (p := ⟨w.heap.size + 1, 1, none⟩) (Below.setCell (p := ⟨w.heap.size + 1, 0, none⟩) z0 (Nat.le_succ _) _) (Nat.le_succ _) _⟩

end Go.Proofs.YtidpkmkhcomcdaaGreat

namespace Go.Proofs.YtidpkmkhcomcdaaGreat
open Go Go.RowKit

set_option maxRecDepth 100000

/-- What an operation yields. -/
inductive Yd where
  | lit (v : Value)
  | tree (t : Tm)
  | raw
  | row (ts : List Tm)
  | names (xs : List (List UInt8))
  | cell (base : Nat)
  | rraw (n : Nat)
  | free

def Yd.holds : Yd → Value → World → Prop
  | .lit u, v, _ => v = u
  | .tree t, v, W => ∃ s ao n c, v = .agg #[str s, .slice ao n c] ∧ ST W t v
  | .raw, v, _ => ∃ s ao n c, v = .agg #[str s, .slice ao n c]
  | .row ts, v, W => ArgsST W v ts
  | .names xs, v, W => ∃ g, v = .slice (some ⟨g, 0, none⟩) xs.length xs.length ∧ W.heap[g]? = some (.cells (xs.map str).toArray 9 (0, 0))
  | .cell base, v, W => ∃ g x y, v = .pointer (some ⟨g, 0, none⟩) ∧ base ≤ g ∧ W.heap[g]? = some (.cells #[x, y] 53 (0, 0))
  | .rraw n, v, W => RawRow W v n
  | .free, _, _ => True

theorem Yd.later {W W' : World} (hW : After W W') : ∀ {y : Yd} {v : Value}, y.holds v W → y.holds v W'
  | .lit _, _, h => h
  | .tree _, _, ⟨s, ao, n, c, e, h⟩ => ⟨s, ao, n, c, e, h.later hW⟩
  | .raw, _, h => h
  | .row _, _, h => ArgsST.after h hW
  | .names _, _, ⟨g, e, h⟩ => ⟨g, e, hW.heap h⟩
  | .cell _, _, ⟨g, x, y, e, hb, h⟩ => ⟨g, x, y, e, hb, hW.heap h⟩
  | .rraw _, _, h => RawRow.after h hW
  | .free, _, _ => trivial

/-- The yields of a region, one after the other. -/
def yds (L : List Yd) (i : Nat) (v : Value) (W : World) : Prop := (L.getD i .free).holds v W
theorem yds_later {L : List Yd} {w0 : World} : ∀ i v w w', After w0 w → yds L i v w → After w w' → yds L i v w' := fun _ _ _ _ _ h hW => Yd.later hW h

/-! ### one after the other -/
theorem lt1 {p : Nat → Prop} (h0 : p 0) : ∀ i, i < 1 → p i := fun i hi => by
  obtain rfl : i = 0 := by omega
  exact h0
theorem lt2 {p : Nat → Prop} (h0 : p 0) (h1 : p 1) : ∀ i, i < 2 → p i := fun i hi => by
  rcases Nat.lt_succ_iff_lt_or_eq.1 hi with h | h
  · exact lt1 h0 i h
  · subst h; exact h1
theorem lt3 {p : Nat → Prop} (h0 : p 0) (h1 : p 1) (h2 : p 2) : ∀ i, i < 3 → p i := fun i hi => by
  rcases Nat.lt_succ_iff_lt_or_eq.1 hi with h | h
  · exact lt2 h0 h1 i h
  · subst h; exact h2
theorem lt4 {p : Nat → Prop} (h0 : p 0) (h1 : p 1) (h2 : p 2) (h3 : p 3) : ∀ i, i < 4 → p i := fun i hi => by
  rcases Nat.lt_succ_iff_lt_or_eq.1 hi with h | h
  · exact lt3 h0 h1 h2 i h
  · subst h; exact h3
theorem lt5 {p : Nat → Prop} (h0 : p 0) (h1 : p 1) (h2 : p 2) (h3 : p 3) (h4 : p 4) : ∀ i, i < 5 → p i := fun i hi => by
  rcases Nat.lt_succ_iff_lt_or_eq.1 hi with h | h
  · exact lt4 h0 h1 h2 h3 i h
  · subst h; exact h4
theorem lt6 {p : Nat → Prop} (h0 : p 0) (h1 : p 1) (h2 : p 2) (h3 : p 3) (h4 : p 4) (h5 : p 5) : ∀ i, i < 6 → p i := fun i hi => by
  rcases Nat.lt_succ_iff_lt_or_eq.1 hi with h | h
  · exact lt5 h0 h1 h2 h3 h4 i h
  · subst h; exact h5
theorem lt7 {p : Nat → Prop} (h0 : p 0) (h1 : p 1) (h2 : p 2) (h3 : p 3) (h4 : p 4) (h5 : p 5) (h6 : p 6) : ∀ i, i < 7 → p i := fun i hi => by
  rcases Nat.lt_succ_iff_lt_or_eq.1 hi with h | h
  · exact lt6 h0 h1 h2 h3 h4 h5 i h
  · subst h; exact h6
theorem lt8 {p : Nat → Prop} (h0 : p 0) (h1 : p 1) (h2 : p 2) (h3 : p 3) (h4 : p 4) (h5 : p 5) (h6 : p 6) (h7 : p 7) : ∀ i, i < 8 → p i := fun i hi => by
  rcases Nat.lt_succ_iff_lt_or_eq.1 hi with h | h
  · exact lt7 h0 h1 h2 h3 h4 h5 h6 i h
  · subst h; exact h7
theorem lt9 {p : Nat → Prop} (h0 : p 0) (h1 : p 1) (h2 : p 2) (h3 : p 3) (h4 : p 4) (h5 : p 5) (h6 : p 6) (h7 : p 7) (h8 : p 8) : ∀ i, i < 9 → p i := fun i hi => by
  rcases Nat.lt_succ_iff_lt_or_eq.1 hi with h | h
  · exact lt8 h0 h1 h2 h3 h4 h5 h6 h7 i h
  · subst h; exact h8
theorem lt10 {p : Nat → Prop} (h0 : p 0) (h1 : p 1) (h2 : p 2) (h3 : p 3) (h4 : p 4) (h5 : p 5) (h6 : p 6) (h7 : p 7) (h8 : p 8) (h9 : p 9) : ∀ i, i < 10 → p i := fun i hi => by
  rcases Nat.lt_succ_iff_lt_or_eq.1 hi with h | h
  · exact lt9 h0 h1 h2 h3 h4 h5 h6 h7 h8 i h
  · subst h; exact h9
theorem lt11 {p : Nat → Prop} (h0 : p 0) (h1 : p 1) (h2 : p 2) (h3 : p 3) (h4 : p 4) (h5 : p 5) (h6 : p 6) (h7 : p 7) (h8 : p 8) (h9 : p 9) (h10 : p 10) : ∀ i, i < 11 → p i := fun i hi => by
  rcases Nat.lt_succ_iff_lt_or_eq.1 hi with h | h
  · exact lt10 h0 h1 h2 h3 h4 h5 h6 h7 h8 h9 i h
  · subst h; exact h10
theorem lt12 {p : Nat → Prop} (h0 : p 0) (h1 : p 1) (h2 : p 2) (h3 : p 3) (h4 : p 4) (h5 : p 5) (h6 : p 6) (h7 : p 7) (h8 : p 8) (h9 : p 9) (h10 : p 10) (h11 : p 11) : ∀ i, i < 12 → p i := fun i hi => by
  rcases Nat.lt_succ_iff_lt_or_eq.1 hi with h | h
  · exact lt11 h0 h1 h2 h3 h4 h5 h6 h7 h8 h9 h10 i h
  · subst h; exact h11
theorem lt13 {p : Nat → Prop} (h0 : p 0) (h1 : p 1) (h2 : p 2) (h3 : p 3) (h4 : p 4) (h5 : p 5) (h6 : p 6) (h7 : p 7) (h8 : p 8) (h9 : p 9) (h10 : p 10) (h11 : p 11) (h12 : p 12) : ∀ i, i < 13 → p i := fun i hi => by
  rcases Nat.lt_succ_iff_lt_or_eq.1 hi with h | h
  · exact lt12 h0 h1 h2 h3 h4 h5 h6 h7 h8 h9 h10 h11 i h
  · subst h; exact h12
theorem lt14 {p : Nat → Prop} (h0 : p 0) (h1 : p 1) (h2 : p 2) (h3 : p 3) (h4 : p 4) (h5 : p 5) (h6 : p 6) (h7 : p 7) (h8 : p 8) (h9 : p 9) (h10 : p 10) (h11 : p 11) (h12 : p 12) (h13 : p 13) : ∀ i, i < 14 → p i := fun i hi => by
  rcases Nat.lt_succ_iff_lt_or_eq.1 hi with h | h
  · exact lt13 h0 h1 h2 h3 h4 h5 h6 h7 h8 h9 h10 h11 h12 i h
  · subst h; exact h13
theorem lt15 {p : Nat → Prop} (h0 : p 0) (h1 : p 1) (h2 : p 2) (h3 : p 3) (h4 : p 4) (h5 : p 5) (h6 : p 6) (h7 : p 7) (h8 : p 8) (h9 : p 9) (h10 : p 10) (h11 : p 11) (h12 : p 12) (h13 : p 13) (h14 : p 14) : ∀ i, i < 15 → p i := fun i hi => by
  rcases Nat.lt_succ_iff_lt_or_eq.1 hi with h | h
  · exact lt14 h0 h1 h2 h3 h4 h5 h6 h7 h8 h9 h10 h11 h12 h13 i h
  · subst h; exact h14
theorem lt16 {p : Nat → Prop} (h0 : p 0) (h1 : p 1) (h2 : p 2) (h3 : p 3) (h4 : p 4) (h5 : p 5) (h6 : p 6) (h7 : p 7) (h8 : p 8) (h9 : p 9) (h10 : p 10) (h11 : p 11) (h12 : p 12) (h13 : p 13) (h14 : p 14) (h15 : p 15) : ∀ i, i < 16 → p i := fun i hi => by
  rcases Nat.lt_succ_iff_lt_or_eq.1 hi with h | h
  · exact lt15 h0 h1 h2 h3 h4 h5 h6 h7 h8 h9 h10 h11 h12 h13 h14 i h
  · subst h; exact h15
theorem lt17 {p : Nat → Prop} (h0 : p 0) (h1 : p 1) (h2 : p 2) (h3 : p 3) (h4 : p 4) (h5 : p 5) (h6 : p 6) (h7 : p 7) (h8 : p 8) (h9 : p 9) (h10 : p 10) (h11 : p 11) (h12 : p 12) (h13 : p 13) (h14 : p 14) (h15 : p 15) (h16 : p 16) : ∀ i, i < 17 → p i := fun i hi => by
  rcases Nat.lt_succ_iff_lt_or_eq.1 hi with h | h
  · exact lt16 h0 h1 h2 h3 h4 h5 h6 h7 h8 h9 h10 h11 h12 h13 h14 h15 i h
  · subst h; exact h16
theorem lt18 {p : Nat → Prop} (h0 : p 0) (h1 : p 1) (h2 : p 2) (h3 : p 3) (h4 : p 4) (h5 : p 5) (h6 : p 6) (h7 : p 7) (h8 : p 8) (h9 : p 9) (h10 : p 10) (h11 : p 11) (h12 : p 12) (h13 : p 13) (h14 : p 14) (h15 : p 15) (h16 : p 16) (h17 : p 17) : ∀ i, i < 18 → p i := fun i hi => by
  rcases Nat.lt_succ_iff_lt_or_eq.1 hi with h | h
  · exact lt17 h0 h1 h2 h3 h4 h5 h6 h7 h8 h9 h10 h11 h12 h13 h14 h15 h16 i h
  · subst h; exact h17
theorem lt19 {p : Nat → Prop} (h0 : p 0) (h1 : p 1) (h2 : p 2) (h3 : p 3) (h4 : p 4) (h5 : p 5) (h6 : p 6) (h7 : p 7) (h8 : p 8) (h9 : p 9) (h10 : p 10) (h11 : p 11) (h12 : p 12) (h13 : p 13) (h14 : p 14) (h15 : p 15) (h16 : p 16) (h17 : p 17) (h18 : p 18) : ∀ i, i < 19 → p i := fun i hi => by
  rcases Nat.lt_succ_iff_lt_or_eq.1 hi with h | h
  · exact lt18 h0 h1 h2 h3 h4 h5 h6 h7 h8 h9 h10 h11 h12 h13 h14 h15 h16 h17 i h
  · subst h; exact h18
theorem lt20 {p : Nat → Prop} (h0 : p 0) (h1 : p 1) (h2 : p 2) (h3 : p 3) (h4 : p 4) (h5 : p 5) (h6 : p 6) (h7 : p 7) (h8 : p 8) (h9 : p 9) (h10 : p 10) (h11 : p 11) (h12 : p 12) (h13 : p 13) (h14 : p 14) (h15 : p 15) (h16 : p 16) (h17 : p 17) (h18 : p 18) (h19 : p 19) : ∀ i, i < 20 → p i := fun i hi => by
  rcases Nat.lt_succ_iff_lt_or_eq.1 hi with h | h
  · exact lt19 h0 h1 h2 h3 h4 h5 h6 h7 h8 h9 h10 h11 h12 h13 h14 h15 h16 h17 h18 i h
  · subst h; exact h19
theorem lt21 {p : Nat → Prop} (h0 : p 0) (h1 : p 1) (h2 : p 2) (h3 : p 3) (h4 : p 4) (h5 : p 5) (h6 : p 6) (h7 : p 7) (h8 : p 8) (h9 : p 9) (h10 : p 10) (h11 : p 11) (h12 : p 12) (h13 : p 13) (h14 : p 14) (h15 : p 15) (h16 : p 16) (h17 : p 17) (h18 : p 18) (h19 : p 19) (h20 : p 20) : ∀ i, i < 21 → p i := fun i hi => by
  rcases Nat.lt_succ_iff_lt_or_eq.1 hi with h | h
  · exact lt20 h0 h1 h2 h3 h4 h5 h6 h7 h8 h9 h10 h11 h12 h13 h14 h15 h16 h17 h18 h19 i h
  · subst h; exact h20
theorem lt22 {p : Nat → Prop} (h0 : p 0) (h1 : p 1) (h2 : p 2) (h3 : p 3) (h4 : p 4) (h5 : p 5) (h6 : p 6) (h7 : p 7) (h8 : p 8) (h9 : p 9) (h10 : p 10) (h11 : p 11) (h12 : p 12) (h13 : p 13) (h14 : p 14) (h15 : p 15) (h16 : p 16) (h17 : p 17) (h18 : p 18) (h19 : p 19) (h20 : p 20) (h21 : p 21) : ∀ i, i < 22 → p i := fun i hi => by
  rcases Nat.lt_succ_iff_lt_or_eq.1 hi with h | h
  · exact lt21 h0 h1 h2 h3 h4 h5 h6 h7 h8 h9 h10 h11 h12 h13 h14 h15 h16 h17 h18 h19 h20 i h
  · subst h; exact h21
theorem lt23 {p : Nat → Prop} (h0 : p 0) (h1 : p 1) (h2 : p 2) (h3 : p 3) (h4 : p 4) (h5 : p 5) (h6 : p 6) (h7 : p 7) (h8 : p 8) (h9 : p 9) (h10 : p 10) (h11 : p 11) (h12 : p 12) (h13 : p 13) (h14 : p 14) (h15 : p 15) (h16 : p 16) (h17 : p 17) (h18 : p 18) (h19 : p 19) (h20 : p 20) (h21 : p 21) (h22 : p 22) : ∀ i, i < 23 → p i := fun i hi => by
  rcases Nat.lt_succ_iff_lt_or_eq.1 hi with h | h
  · exact lt22 h0 h1 h2 h3 h4 h5 h6 h7 h8 h9 h10 h11 h12 h13 h14 h15 h16 h17 h18 h19 h20 h21 i h
  · subst h; exact h22
theorem lt24 {p : Nat → Prop} (h0 : p 0) (h1 : p 1) (h2 : p 2) (h3 : p 3) (h4 : p 4) (h5 : p 5) (h6 : p 6) (h7 : p 7) (h8 : p 8) (h9 : p 9) (h10 : p 10) (h11 : p 11) (h12 : p 12) (h13 : p 13) (h14 : p 14) (h15 : p 15) (h16 : p 16) (h17 : p 17) (h18 : p 18) (h19 : p 19) (h20 : p 20) (h21 : p 21) (h22 : p 22) (h23 : p 23) : ∀ i, i < 24 → p i := fun i hi => by
  rcases Nat.lt_succ_iff_lt_or_eq.1 hi with h | h
  · exact lt23 h0 h1 h2 h3 h4 h5 h6 h7 h8 h9 h10 h11 h12 h13 h14 h15 h16 h17 h18 h19 h20 h21 h22 i h
  · subst h; exact h23

section
variable {ops : Array Oper} {Q : Exit → Act → World → Prop} {A : Act} {i : Nat} {w : World} {K : Act → World → Prop}

/-- The operation hands back a value that is known; the world is not touched. -/
theorem do_val {v : Value} (hs : (ops[i]?).isSome = true) (hg : (opAt ops i).guard = none) (hr : (execOp A.eval (opAt ops i)).run Tryz.prog w = .ok (.value v) w) (hK : ∀ w', After w w' → K (A.put (dstOf ops i) v) w') : OpDo Tryz.prog ops Q A i w K :=
  op_val hs (by unfold Region.wanted; rw [hg]) hr (hK w (After.refl w))

theorem wanted_of {o : Oper} {y : Nat → Option Bool} (hg : o.guard = none) : Region.wanted o y = true := by unfold Region.wanted; rw [hg]

theorem do_load {x : Operand} {b k : Nat} {c0 c1 : Value} (y : Yd) (hs : (ops[i]?).isSome = true) (hop : (opAt ops i).op = .load 53 x) (hg : (opAt ops i).guard = none) (hx : A.eval x = .pointer (some ⟨b, k, none⟩))
    (h0 : w.cell? ⟨b, k, none⟩ = some c0) (h1 : w.cell? ⟨b, k + 1, none⟩ = some c1) (hy : y.holds (.agg #[c0, c1]) w) (hK : ∀ v w', After w w' → y.holds v w' → K (A.put (dstOf ops i) v) w') : OpDo Tryz.prog ops Q A i w K :=
  op_load hs hop hg hx h0 h1 (hK _ _ (After.refl _) hy)

theorem do_call {f : FuncId} {args : Array Value} (t : Tm) (hs : (ops[i]?).isSome = true) (hg : (opAt ops i).guard = none) (hr : (execOp A.eval (opAt ops i)).run Tryz.prog w = .ok (.enter f args) w) (hc : Calls Tryz.prog f args w (TreePost w t))
    (hK : ∀ v w', After w w' → (Yd.tree t).holds v w' → K (A.put (dstOf ops i) v) w') : OpDo Tryz.prog ops Q A i w K := by
  refine op_call hs (wanted_of hg) hr (hc.mono ?_)
  rintro e w' ⟨s, ao, n, c, rfl, ha, ht⟩
  exact ⟨_, rfl, hK _ _ ha ⟨s, ao, n, c, rfl, ht⟩⟩

theorem do_name {x : List UInt8} (hs : (ops[i]?).isSome = true) (hg : (opAt ops i).guard = none) (hr : (execOp A.eval (opAt ops i)).run Tryz.prog w = .ok (.enter 81 #[str x]) w)
    (hK : ∀ v w', After w w' → (Yd.tree (.nm x)).holds v w' → K (A.put (dstOf ops i) v) w') : OpDo Tryz.prog ops Q A i w K := by
  refine op_call hs (wanted_of hg) hr ((s_nm w x).mono ?_)
  rintro e w' ⟨rfl, ha⟩
  exact ⟨_, rfl, hK _ _ ha ⟨x, none, 0, 0, rfl, rfl⟩⟩

theorem do_app {u1 u2 : Value} {f : Tm} {us : List Tm} (hs : (ops[i]?).isSome = true) (hg : (opAt ops i).guard = none) (hr : (execOp A.eval (opAt ops i)).run Tryz.prog w = .ok (.enter 78 #[u1, u2]) w) (h1 : (Yd.tree f).holds u1 w) (h2 : (Yd.row us).holds u2 w) (hn : us.length ≤ 1000)
    (hK : ∀ v w', After w w' → (Yd.tree (FT.appL f us)).holds v w' → K (A.put (dstOf ops i) v) w') : OpDo Tryz.prog ops Q A i w K := by
  obtain ⟨s, ao, n, c, rfl, h⟩ := h1
  exact do_call _ hs hg hr (s_appL w f us s ao n c u2 h h2 hn) hK

theorem do_names {xs : List (List UInt8)} (hs : (ops[i]?).isSome = true) (hg : (opAt ops i).guard = none) (hr : (execOp A.eval (opAt ops i)).run Tryz.prog w = .ok (.value (.slice (some ⟨w.heap.size, 0, none⟩) xs.length xs.length)) (w.alloc (.cells (xs.map str).toArray 9)))
    (hK : ∀ v w', After w w' → (Yd.names xs).holds v w' → K (A.put (dstOf ops i) v) w') : OpDo Tryz.prog ops Q A i w K :=
  op_val hs (wanted_of hg) hr (hK _ _ (After.new w _) ⟨_, rfl, heap_new' w _⟩)

theorem do_cell {base : Nat} (hs : (ops[i]?).isSome = true) (hg : (opAt ops i).guard = none) (hb : base ≤ w.heap.size) (hr : (execOp A.eval (opAt ops i)).run Tryz.prog w = .ok (.value (.pointer (some ⟨w.heap.size, 0, none⟩))) (w.alloc (.cells #[.string ⟨#[]⟩, .slice none 0 0] 53)))
    (hK : ∀ v w', After w w' → (Yd.cell base).holds v w' → K (A.put (dstOf ops i) v) w') : OpDo Tryz.prog ops Q A i w K :=
  op_val hs (wanted_of hg) hr (hK _ _ (After.new w _) ⟨_, _, _, rfl, hb, heap_new' w _⟩)

theorem row1 (w : World) (s : List UInt8) (ao : Option Addr) (n c : Nat) : (Instr.buildSlice 51 1 #[(0, .agg #[str s, .slice ao n c])]).run Tryz.prog w = .ok (.slice (some ⟨w.heap.size, 0, none⟩) 1 1) (w.alloc (.cells #[str s, .slice ao n c] 53)) := by kernel_rfl
theorem row2 (w : World) (s : List UInt8) (ao : Option Addr) (n c : Nat) (s' : List UInt8) (ao' : Option Addr) (n' c' : Nat) : (Instr.buildSlice 51 2 #[(0, .agg #[str s, .slice ao n c]), (1, .agg #[str s', .slice ao' n' c'])]).run Tryz.prog w = .ok (.slice (some ⟨w.heap.size, 0, none⟩) 2 2) (w.alloc (.cells #[str s, .slice ao n c, str s', .slice ao' n' c'] 53)) := by kernel_rfl
theorem row3 (w : World) (s : List UInt8) (ao : Option Addr) (n c : Nat) (s' : List UInt8) (ao' : Option Addr) (n' c' : Nat) (s'' : List UInt8) (ao'' : Option Addr) (n'' c'' : Nat) : (Instr.buildSlice 51 3 #[(0, .agg #[str s, .slice ao n c]), (1, .agg #[str s', .slice ao' n' c']), (2, .agg #[str s'', .slice ao'' n'' c''])]).run Tryz.prog w = .ok (.slice (some ⟨w.heap.size, 0, none⟩) 3 3) (w.alloc (.cells #[str s, .slice ao n c, str s', .slice ao' n' c', str s'', .slice ao'' n'' c''] 53)) := by kernel_rfl

theorem do_row1 {x : Operand} {a : Tm} {u : Value} (hs : (ops[i]?).isSome = true) (hop : (opAt ops i).op = .buildSlice 51 1 #[(0, x)]) (hg : (opAt ops i).guard = none) (hx : A.eval x = u) (hu : (Yd.tree a).holds u w)
    (hK : ∀ v w', After w w' → (Yd.row [a]).holds v w' → K (A.put (dstOf ops i) v) w') : OpDo Tryz.prog ops Q A i w K := by
  obtain ⟨s, ao, n, c, rfl, h⟩ := hu
  have hA := After.new w (.cells #[str s, .slice ao n c] 53)
  have hh := heap_new' w (.cells #[str s, .slice ao n c] 53)
  refine op_val hs (wanted_of hg) (v := .slice (some ⟨w.heap.size, 0, none⟩) 1 1) (w' := w.alloc (.cells #[str s, .slice ao n c] 53)) ?_ (hK _ _ hA (Or.inr ⟨_, _, _, rfl, by simp, fun j hj => ?_⟩))
  · unfold execOp
    simp only [hop, List.map_toArray, List.map_cons, List.map_nil, hx, Sem.run_bind, row1, Result.andThen_ok, Sem.run_pure]
  · match j, hj with
    | 0, _ => exact ⟨s, ao, n, c, cell_of_heap (i := 0) hh, cell_of_heap (i := 1) hh, h.later hA⟩

theorem do_row2 {x y : Operand} {a b : Tm} {u v : Value} (hs : (ops[i]?).isSome = true) (hop : (opAt ops i).op = .buildSlice 51 2 #[(0, x), (1, y)]) (hg : (opAt ops i).guard = none) (hx : A.eval x = u) (hy : A.eval y = v) (hu : (Yd.tree a).holds u w) (hv : (Yd.tree b).holds v w)
    (hK : ∀ v w', After w w' → (Yd.row [a, b]).holds v w' → K (A.put (dstOf ops i) v) w') : OpDo Tryz.prog ops Q A i w K := by
  obtain ⟨s, ao, n, c, rfl, h⟩ := hu
  obtain ⟨s', ao', n', c', rfl, h'⟩ := hv
  have hA := After.new w (.cells #[str s, .slice ao n c, str s', .slice ao' n' c'] 53)
  have hh := heap_new' w (.cells #[str s, .slice ao n c, str s', .slice ao' n' c'] 53)
  refine op_val hs (wanted_of hg) (v := .slice (some ⟨w.heap.size, 0, none⟩) 2 2) (w' := w.alloc (.cells #[str s, .slice ao n c, str s', .slice ao' n' c'] 53)) ?_ (hK _ _ hA (Or.inr ⟨_, _, _, rfl, by simp, fun j hj => ?_⟩))
  · unfold execOp
    simp only [hop, List.map_toArray, List.map_cons, List.map_nil, hx, hy, Sem.run_bind, row2, Result.andThen_ok, Sem.run_pure]
  · match j, hj with
    | 0, _ => exact ⟨s, ao, n, c, cell_of_heap (i := 0) hh, cell_of_heap (i := 1) hh, h.later hA⟩
    | 1, _ => exact ⟨s', ao', n', c', cell_of_heap (i := 2) hh, cell_of_heap (i := 3) hh, h'.later hA⟩

theorem do_row3 {x y z : Operand} {a b d : Tm} {u v q : Value} (hs : (ops[i]?).isSome = true) (hop : (opAt ops i).op = .buildSlice 51 3 #[(0, x), (1, y), (2, z)]) (hg : (opAt ops i).guard = none) (hx : A.eval x = u) (hy : A.eval y = v) (hz : A.eval z = q) (hu : (Yd.tree a).holds u w) (hv : (Yd.tree b).holds v w) (hq : (Yd.tree d).holds q w)
    (hK : ∀ v w', After w w' → (Yd.row [a, b, d]).holds v w' → K (A.put (dstOf ops i) v) w') : OpDo Tryz.prog ops Q A i w K := by
  obtain ⟨s, ao, n, c, rfl, h⟩ := hu
  obtain ⟨s', ao', n', c', rfl, h'⟩ := hv
  obtain ⟨s2, ao2, n2, c2, rfl, h2⟩ := hq
  have hA := After.new w (.cells #[str s, .slice ao n c, str s', .slice ao' n' c', str s2, .slice ao2 n2 c2] 53)
  have hh := heap_new' w (.cells #[str s, .slice ao n c, str s', .slice ao' n' c', str s2, .slice ao2 n2 c2] 53)
  refine op_val hs (wanted_of hg) (v := .slice (some ⟨w.heap.size, 0, none⟩) 3 3) (w' := w.alloc (.cells #[str s, .slice ao n c, str s', .slice ao' n' c', str s2, .slice ao2 n2 c2] 53)) ?_ (hK _ _ hA (Or.inr ⟨_, _, _, rfl, by simp, fun j hj => ?_⟩))
  · unfold execOp
    simp only [hop, List.map_toArray, List.map_cons, List.map_nil, hx, hy, hz, Sem.run_bind, row3, Result.andThen_ok, Sem.run_pure]
  · match j, hj with
    | 0, _ => exact ⟨s, ao, n, c, cell_of_heap (i := 0) hh, cell_of_heap (i := 1) hh, h.later hA⟩
    | 1, _ => exact ⟨s', ao', n', c', cell_of_heap (i := 2) hh, cell_of_heap (i := 3) hh, h'.later hA⟩
    | 2, _ => exact ⟨s2, ao2, n2, c2, cell_of_heap (i := 4) hh, cell_of_heap (i := 5) hh, h2.later hA⟩

/-- A value that is there at once. -/
theorem do_pure {v : Value} (y : Yd) (hs : (ops[i]?).isSome = true) (hg : (opAt ops i).guard = none) (hr : (execOp A.eval (opAt ops i)).run Tryz.prog w = .ok (.value v) w) (hy : y.holds v w) (hK : ∀ v w', After w w' → y.holds v w' → K (A.put (dstOf ops i) v) w') : OpDo Tryz.prog ops Q A i w K :=
  op_val hs (wanted_of hg) hr (hK _ _ (After.refl w) hy)

/-- The last: a tree is stored into a cell. -/
theorem do_store {x y : Operand} {b : Nat} {p q v : Value} (t : Tm) (hs : (ops[i]?).isSome = true) (hop : (opAt ops i).op = .store 53 x y) (hg : (opAt ops i).guard = none) (hd : dstOf ops i = none) (hx : A.eval x = .pointer (some ⟨b, 0, none⟩)) (hv : A.eval y = v) (hy : (Yd.tree t).holds v w) (hb : w.heap[b]? = some (.cells #[p, q] 53 (0, 0)))
    (hK : ∀ s ao n c, ST ((w.setCell ⟨b, 0, none⟩ (str s)).setCell ⟨b, 1, none⟩ (.slice ao n c)) t (.agg #[str s, .slice ao n c]) → K A ((w.setCell ⟨b, 0, none⟩ (str s)).setCell ⟨b, 1, none⟩ (.slice ao n c))) : OpDo Tryz.prog ops Q A i w K := by
  obtain ⟨s, ao, n, c, rfl, h⟩ := hy
  have hth : w.there b 0 2 := fun j hj => by
    rw [Nat.zero_add]
    refine ⟨?_, by simp [World.frozen?, hb]⟩
    match j, hj with
    | 0, _ => rw [cell_of_heap (i := 0) hb]; rfl
    | 1, _ => rw [cell_of_heap (i := 1) hb]; rfl
  have hst : (Instr.storeAt 53 (.pointer (some ⟨b, 0, none⟩)) (.agg #[str s, .slice ao n c])).run Tryz.prog w = .ok () (w.setCells b 0 [str s, .slice ao n c]) := run_storeAt_mid w b 0 53 #[str s, .slice ao n c] hth (by kernel_rfl) (by kernel_rfl)
  constructor
  rw [opAt_of hs]
  simp only [wanted_of hg, if_true]
  unfold Oper.wp execOp
  simp only [hop, hx, hv, Sem.run_bind, hst, Result.andThen_ok, Sem.run_pure, Oper.upon_skip]
  rw [opAt_dst hs, hd]
  exact hK s ao n c (h.sets2 hb)

theorem do_store_at {x y : Operand} {b : Nat} {p q u v : Value} (t : Tm) (hs : (ops[i]?).isSome = true) (hop : (opAt ops i).op = .store 53 x y) (hg : (opAt ops i).guard = none) (hd : (dstOf ops i) = none) (hx : A.eval x = u) (hu : u = .pointer (some ⟨b, 0, none⟩)) (hv : A.eval y = v) (hy : (Yd.tree t).holds v w) (hb : w.heap[b]? = some (.cells #[p, q] 53 (0, 0)))
    (hK : ∀ s ao n c, ST ((w.setCell ⟨b, 0, none⟩ (str s)).setCell ⟨b, 1, none⟩ (.slice ao n c)) t (.agg #[str s, .slice ao n c]) → K A ((w.setCell ⟨b, 0, none⟩ (str s)).setCell ⟨b, 1, none⟩ (.slice ao n c))) : OpDo Tryz.prog ops Q A i w K :=
  do_store t hs hop hg hd (hx.trans hu) hv hy hb hK

theorem do_loadu {x : Operand} {b k : Nat} {u c0 c1 : Value} (y : Yd) (hs : (ops[i]?).isSome = true) (hop : (opAt ops i).op = .load 53 x) (hg : (opAt ops i).guard = none) (hx : A.eval x = u) (hu : u = .pointer (some ⟨b, k, none⟩))
    (h0 : w.cell? ⟨b, k, none⟩ = some c0) (h1 : w.cell? ⟨b, k + 1, none⟩ = some c1) (hy : y.holds (.agg #[c0, c1]) w) (hK : ∀ v w', After w w' → y.holds v w' → K (A.put (dstOf ops i) v) w') : OpDo Tryz.prog ops Q A i w K :=
  do_load y hs hop hg (hx.trans hu) h0 h1 hy hK

theorem run_load_slice {w : World} {p : Addr} {v : Value} (h : w.cell? p = some v) : (Instr.loadAt 51 (.pointer (some p))).run Tryz.prog w = .ok v w := by
  obtain ⟨d, hd, hr⟩ : ∃ d, Tryz.prog.underlying 51 = some d ∧ d.isRow = false := ⟨_, rfl, rfl⟩
  have hagg : (isAgg 51).run Tryz.prog w = .ok false w := by
    unfold isAgg
    rw [Sem.run_bind, run_underlying hd w]
    cases d <;> simp_all
  simp [Instr.loadAt, Instr.sureAddr, loadVar, Sem.run_bind, hagg, go_sem, h]

theorem do_load1 {x : Operand} {p : Addr} {u c : Value} (y : Yd) (hs : (ops[i]?).isSome = true) (hop : (opAt ops i).op = .load 51 x) (hg : (opAt ops i).guard = none) (hx : A.eval x = u) (hu : u = .pointer (some p))
    (h0 : w.cell? p = some c) (hy : y.holds c w) (hK : ∀ v w', After w w' → y.holds v w' → K (A.put (dstOf ops i) v) w') : OpDo Tryz.prog ops Q A i w K := by
  subst hu
  refine op_val hs (wanted_of hg) ?_ (hK _ _ (After.refl _) hy)
  unfold execOp
  simp only [hop, hx, Sem.run_bind, run_load_slice h0, Result.andThen_ok, Sem.run_pure]

theorem run_index0 (w : World) (g cap : Nat) : (Instr.indexAt 51 (.slice (some ⟨g, 0, none⟩) 2 cap) (.int .i64 0)).run Tryz.prog w = .ok (.pointer (some ⟨g, 0, none⟩)) w := by kernel_rfl
theorem run_index1 (w : World) (g cap : Nat) : (Instr.indexAt 51 (.slice (some ⟨g, 0, none⟩) 2 cap) (.int .i64 1)).run Tryz.prog w = .ok (.pointer (some ⟨g, 2, none⟩)) w := by kernel_rfl

theorem do_index0 {x : Operand} {g cap : Nat} {u : Value} (hs : (ops[i]?).isSome = true) (hop : (opAt ops i).op = .indexAddr 51 x (.const (.int .i64 0))) (hg : (opAt ops i).guard = none) (hx : A.eval x = u) (hu : u = .slice (some ⟨g, 0, none⟩) 2 cap)
    (hK : ∀ v w', After w w' → (Yd.lit (.pointer (some ⟨g, 0, none⟩))).holds v w' → K (A.put (dstOf ops i) v) w') : OpDo Tryz.prog ops Q A i w K := by
  subst hu
  refine op_val hs (wanted_of hg) ?_ (hK _ _ (After.refl _) rfl)
  unfold execOp
  simp only [hop, hx, show A.eval (.const (.int .i64 0)) = .int .i64 0 from rfl, Sem.run_bind, run_index0, Result.andThen_ok, Sem.run_pure]
theorem do_index1 {x : Operand} {g cap : Nat} {u : Value} (hs : (ops[i]?).isSome = true) (hop : (opAt ops i).op = .indexAddr 51 x (.const (.int .i64 1))) (hg : (opAt ops i).guard = none) (hx : A.eval x = u) (hu : u = .slice (some ⟨g, 0, none⟩) 2 cap)
    (hK : ∀ v w', After w w' → (Yd.lit (.pointer (some ⟨g, 2, none⟩))).holds v w' → K (A.put (dstOf ops i) v) w') : OpDo Tryz.prog ops Q A i w K := by
  subst hu
  refine op_val hs (wanted_of hg) ?_ (hK _ _ (After.refl _) rfl)
  unfold execOp
  simp only [hop, hx, show A.eval (.const (.int .i64 1)) = .int .i64 1 from rfl, Sem.run_bind, run_index1, Result.andThen_ok, Sem.run_pure]

theorem treeOf {t : Tm} {v : Value} (h : ST w t v) : (Yd.tree t).holds v w := by
  cases t with
  | k => exact ⟨_, _, _, _, h, h⟩
  | s => exact ⟨_, _, _, _, h, h⟩
  | nm n => exact ⟨_, _, _, _, h, h⟩
  | app f a =>
    obtain ⟨g, cap, fr, s0, p0, s1, p1, rfl, hh⟩ := id h
    exact ⟨_, _, _, _, rfl, h⟩
theorem stOf {t : Tm} {v : Value} (h : (Yd.tree t).holds v w) : ST w t v := let ⟨_, _, _, _, _, h⟩ := h; h

theorem rawOf {t : Tm} {v : Value} (h : (Yd.tree t).holds v w) : Yd.raw.holds v w := let ⟨s, ao, n, c, e, _⟩ := h; ⟨s, ao, n, c, e⟩

theorem do_calllit {f : FuncId} {args : Array Value} {v : Value} (hs : (ops[i]?).isSome = true) (hg : (opAt ops i).guard = none) (hr : (execOp A.eval (opAt ops i)).run Tryz.prog w = .ok (.enter f args) w) (hc : Calls Tryz.prog f args w fun e w' => e = .returned v ∧ After w w')
    (hK : ∀ v' w', After w w' → (Yd.lit v).holds v' w' → K (A.put (dstOf ops i) v') w') : OpDo Tryz.prog ops Q A i w K := by
  refine op_call hs (wanted_of hg) hr (hc.mono ?_)
  rintro e w' ⟨rfl, ha⟩
  exact ⟨_, rfl, hK _ _ ha rfl⟩

theorem do_extract0 {x : Operand} {u a b : Value} (hs : (ops[i]?).isSome = true) (hop : (opAt ops i).op = .extract x 0) (hg : (opAt ops i).guard = none) (hx : A.eval x = u) (hu : u = .tuple #[a, b])
    (hK : ∀ v w', After w w' → (Yd.lit a).holds v w' → K (A.put (dstOf ops i) v) w') : OpDo Tryz.prog ops Q A i w K := by
  subst hu
  refine op_val hs (wanted_of hg) (v := a) ?_ (hK _ _ (After.refl _) rfl)
  unfold execOp
  simp only [hop, hx]
  kernel_rfl
theorem do_extract1 {x : Operand} {u a b : Value} (hs : (ops[i]?).isSome = true) (hop : (opAt ops i).op = .extract x 1) (hg : (opAt ops i).guard = none) (hx : A.eval x = u) (hu : u = .tuple #[a, b])
    (hK : ∀ v w', After w w' → (Yd.lit b).holds v w' → K (A.put (dstOf ops i) v) w') : OpDo Tryz.prog ops Q A i w K := by
  subst hu
  refine op_val hs (wanted_of hg) (v := b) ?_ (hK _ _ (After.refl _) rfl)
  unfold execOp
  simp only [hop, hx]
  kernel_rfl

theorem do_pick {c x y : Operand} {u : Value} {p : Bool} {r : Value} (hs : (ops[i]?).isSome = true) (hop : (opAt ops i).op = .pick c x y) (hg : (opAt ops i).guard = none) (hc : A.eval c = u) (hu : u = .bool p) (hr : (if p = true then A.eval x else A.eval y) = r)
    (hK : ∀ v w', After w w' → (Yd.lit r).holds v w' → K (A.put (dstOf ops i) v) w') : OpDo Tryz.prog ops Q A i w K := by
  subst hu
  refine op_val hs (wanted_of hg) (v := r) ?_ (hK _ _ (After.refl _) rfl)
  unfold execOp
  simp only [hop, hc]
  subst hr
  cases p <;> kernel_rfl

/-- What an operation has yielded, as guards see it. -/
theorem yielded_at {j : Nat} {v : Value} {b : Bool} (hj : ((ops[j]?).bind (·.dst)).bind (A.tmps[·]?) = some v) (hv : v = .bool b) : yielded ops A.tmps j = some b := by
  subst hv
  unfold yielded
  rw [hj]

theorem do_on {j : Nat} {u v : Value} {b : Bool} (y : Yd) (hs : (ops[i]?).isSome = true) (hg : (opAt ops i).guard = some (j, b)) (hj : ((ops[j]?).bind (·.dst)).bind (A.tmps[·]?) = some u) (hu : u = .bool b) (hr : (execOp A.eval (opAt ops i)).run Tryz.prog w = .ok (.value v) w) (hy : y.holds v w)
    (hK : ∀ v w', After w w' → y.holds v w' → K (A.put (dstOf ops i) v) w') : OpDo Tryz.prog ops Q A i w K :=
  op_val hs (by unfold Region.wanted; rw [hg]; simp [yielded_at hj hu]) hr (hK _ _ (After.refl w) hy)

theorem do_offg {j : Nat} {u : Value} {b c : Bool} (hs : (ops[i]?).isSome = true) (hg : (opAt ops i).guard = some (j, b)) (hj : ((ops[j]?).bind (·.dst)).bind (A.tmps[·]?) = some u) (hu : u = .bool c) (hne : c ≠ b)
    (hK : ∀ v w', After w w' → Yd.free.holds v w' → K (A.put (dstOf ops i) v) w') : OpDo Tryz.prog ops Q A i w K :=
  op_off hs (by unfold Region.wanted; rw [hg]; simp [yielded_at hj hu, hne]) (hK _ _ (After.refl w) trivial)

theorem do_rraw1 {x : Operand} {u : Value} (hs : (ops[i]?).isSome = true) (hop : (opAt ops i).op = .buildSlice 51 1 #[(0, x)]) (hg : (opAt ops i).guard = none) (hx : A.eval x = u) (hu : Yd.raw.holds u w)
    (hK : ∀ v w', After w w' → (Yd.rraw 1).holds v w' → K (A.put (dstOf ops i) v) w') : OpDo Tryz.prog ops Q A i w K := by
  obtain ⟨s, ao, n, c, rfl⟩ := hu
  have hA := After.new w (.cells #[str s, .slice ao n c] 53)
  have hh := heap_new' w (.cells #[str s, .slice ao n c] 53)
  refine op_val hs (wanted_of hg) (v := .slice (some ⟨w.heap.size, 0, none⟩) 1 1) (w' := w.alloc (.cells #[str s, .slice ao n c] 53)) ?_ (hK _ _ hA ⟨_, _, _, rfl, by simp, fun j hj => ?_⟩)
  · unfold execOp
    simp only [hop, List.map_toArray, List.map_cons, List.map_nil, hx, Sem.run_bind, row1, Result.andThen_ok, Sem.run_pure]
  · match j, hj with
    | 0, _ => exact ⟨s, ao, n, c, cell_of_heap (i := 0) hh, cell_of_heap (i := 1) hh⟩

theorem do_rraw2 {x y : Operand} {u v : Value} (hs : (ops[i]?).isSome = true) (hop : (opAt ops i).op = .buildSlice 51 2 #[(0, x), (1, y)]) (hg : (opAt ops i).guard = none) (hx : A.eval x = u) (hy : A.eval y = v) (hu : Yd.raw.holds u w) (hv : Yd.raw.holds v w)
    (hK : ∀ v w', After w w' → (Yd.rraw 2).holds v w' → K (A.put (dstOf ops i) v) w') : OpDo Tryz.prog ops Q A i w K := by
  obtain ⟨s, ao, n, c, rfl⟩ := hu
  obtain ⟨s', ao', n', c', rfl⟩ := hv
  have hA := After.new w (.cells #[str s, .slice ao n c, str s', .slice ao' n' c'] 53)
  have hh := heap_new' w (.cells #[str s, .slice ao n c, str s', .slice ao' n' c'] 53)
  refine op_val hs (wanted_of hg) (v := .slice (some ⟨w.heap.size, 0, none⟩) 2 2) (w' := w.alloc (.cells #[str s, .slice ao n c, str s', .slice ao' n' c'] 53)) ?_ (hK _ _ hA ⟨_, _, _, rfl, by simp, fun j hj => ?_⟩)
  · unfold execOp
    simp only [hop, List.map_toArray, List.map_cons, List.map_nil, hx, hy, Sem.run_bind, row2, Result.andThen_ok, Sem.run_pure]
  · match j, hj with
    | 0, _ => exact ⟨s, ao, n, c, cell_of_heap (i := 0) hh, cell_of_heap (i := 1) hh⟩
    | 1, _ => exact ⟨s', ao', n', c', cell_of_heap (i := 2) hh, cell_of_heap (i := 3) hh⟩

theorem do_appraw {u1 u2 : Value} {n : Nat} (hs : (ops[i]?).isSome = true) (hg : (opAt ops i).guard = none) (hr : (execOp A.eval (opAt ops i)).run Tryz.prog w = .ok (.enter 78 #[u1, u2]) w) (h1 : Yd.raw.holds u1 w) (h2 : (Yd.rraw n).holds u2 w) (hn : n ≤ 1000)
    (hK : ∀ v w', After w w' → Yd.raw.holds v w' → K (A.put (dstOf ops i) v) w') : OpDo Tryz.prog ops Q A i w K := by
  obtain ⟨s, ao, m, c, rfl⟩ := h1
  refine op_call hs (wanted_of hg) hr ((s_appR w s ao m c n u2 h2 hn).mono ?_)
  rintro e w' ⟨s1, a1, n1, c1, rfl, ha⟩
  exact ⟨_, rfl, hK _ _ ha ⟨_, _, _, _, rfl⟩⟩

/-- The last: what looks like a tree is stored into a cell. -/
theorem do_store_raw {x y : Operand} {b : Nat} {p q u v : Value} (hs : (ops[i]?).isSome = true) (hop : (opAt ops i).op = .store 53 x y) (hg : (opAt ops i).guard = none) (hd : (dstOf ops i) = none) (hx : A.eval x = u) (hu : u = .pointer (some ⟨b, 0, none⟩)) (hv : A.eval y = v) (hy : Yd.raw.holds v w) (hb : w.heap[b]? = some (.cells #[p, q] 53 (0, 0)))
    (hK : ∀ s ao n c, v = .agg #[str s, .slice ao n c] → K A ((w.setCell ⟨b, 0, none⟩ (str s)).setCell ⟨b, 1, none⟩ (.slice ao n c))) : OpDo Tryz.prog ops Q A i w K := by
  obtain ⟨s, ao, n, c, rfl⟩ := hy
  have hth : w.there b 0 2 := fun j hj => by
    rw [Nat.zero_add]
    refine ⟨?_, by simp [World.frozen?, hb]⟩
    match j, hj with
    | 0, _ => rw [cell_of_heap (i := 0) hb]; rfl
    | 1, _ => rw [cell_of_heap (i := 1) hb]; rfl
  have hst : (Instr.storeAt 53 (.pointer (some ⟨b, 0, none⟩)) (.agg #[str s, .slice ao n c])).run Tryz.prog w = .ok () (w.setCells b 0 [str s, .slice ao n c]) := run_storeAt_mid w b 0 53 #[str s, .slice ao n c] hth (by kernel_rfl) (by kernel_rfl)
  constructor
  rw [opAt_of hs]
  simp only [wanted_of hg, if_true]
  unfold Oper.wp execOp
  simp only [hop, hx.trans hu, hv, Sem.run_bind, hst, Result.andThen_ok, Sem.run_pure, Oper.upon_skip]
  rw [opAt_dst hs, hd]
  exact hK s ao n c rfl
end
end Go.Proofs.YtidpkmkhcomcdaaGreat

namespace Go.Proofs.YtidpkmkhcomcdaaGreat
open Go Go.RowKit

set_option maxRecDepth 100000

/-- Values put into slots s, s + 1, .. -/
def putFrom (a : Act) (s : Nat) (vs : Nat → Value) : Nat → Act
  | 0 => a
  | n + 1 => (putFrom a s vs n).put (some (s + n)) (vs n)
def regFrom (ops : Array Oper) (s n : Nat) : Bool := (List.range n).all fun i => dstOf ops i == some (s + i)

theorem putFrom_eq {a : Act} {ops : Array Oper} {vs : Nat → Value} {s n : Nat} (h : regFrom ops s n = true) : ∀ m, m ≤ n → putAll a (dstOf ops) vs m = putFrom a s vs m
  | 0, _ => rfl
  | m + 1, hm => by
    have := List.all_eq_true.1 h m (List.mem_range.2 (by omega))
    simp only [beq_iff_eq] at this
    simp only [putAll, putFrom]
    rw [putFrom_eq h m (by omega), this]

theorem frame_from {a : Act} {ops : Array Oper} {vs : Nat → Value} (s n : Nat) (h : regFrom ops s n = true) (hs : ops.size = n + 1) (hl : dstOf ops n = none) : frame a ops vs = putFrom a s vs n := by
  unfold frame
  rw [hs]
  simp only [putAll]
  rw [hl, putFrom_eq h n (Nat.le_refl n)]
  rfl

theorem lit_24_9_15 {x0 x1 x2 x3 x4 x5 x6 x7 x8 x9 x10 x11 x12 x13 x14 x15 x16 x17 x18 x19 x20 x21 x22 x23 : Value} {d : List Deferred} {vs : Nat → Value} : putFrom ⟨#[x0, x1, x2, x3, x4, x5, x6, x7, x8, x9, x10, x11, x12, x13, x14, x15, x16, x17, x18, x19, x20, x21, x22, x23], d⟩ 9 vs 15 = ⟨#[x0, x1, x2, x3, x4, x5, x6, x7, x8, vs 0, vs 1, vs 2, vs 3, vs 4, vs 5, vs 6, vs 7, vs 8, vs 9, vs 10, vs 11, vs 12, vs 13, vs 14], d⟩ := by kernel_rfl
theorem lit_100_67_11 {x0 x1 x2 x3 x4 x5 x6 x7 x8 x9 x10 x11 x12 x13 x14 x15 x16 x17 x18 x19 x20 x21 x22 x23 x24 x25 x26 x27 x28 x29 x30 x31 x32 x33 x34 x35 x36 x37 x38 x39 x40 x41 x42 x43 x44 x45 x46 x47 x48 x49 x50 x51 x52 x53 x54 x55 x56 x57 x58 x59 x60 x61 x62 x63 x64 x65 x66 x67 x68 x69 x70 x71 x72 x73 x74 x75 x76 x77 x78 x79 x80 x81 x82 x83 x84 x85 x86 x87 x88 x89 x90 x91 x92 x93 x94 x95 x96 x97 x98 x99 : Value} {d : List Deferred} {vs : Nat → Value} : putFrom ⟨#[x0, x1, x2, x3, x4, x5, x6, x7, x8, x9, x10, x11, x12, x13, x14, x15, x16, x17, x18, x19, x20, x21, x22, x23, x24, x25, x26, x27, x28, x29, x30, x31, x32, x33, x34, x35, x36, x37, x38, x39, x40, x41, x42, x43, x44, x45, x46, x47, x48, x49, x50, x51, x52, x53, x54, x55, x56, x57, x58, x59, x60, x61, x62, x63, x64, x65, x66, x67, x68, x69, x70, x71, x72, x73, x74, x75, x76, x77, x78, x79, x80, x81, x82, x83, x84, x85, x86, x87, x88, x89, x90, x91, x92, x93, x94, x95, x96, x97, x98, x99], d⟩ 67 vs 11 = ⟨#[x0, x1, x2, x3, x4, x5, x6, x7, x8, x9, x10, x11, x12, x13, x14, x15, x16, x17, x18, x19, x20, x21, x22, x23, x24, x25, x26, x27, x28, x29, x30, x31, x32, x33, x34, x35, x36, x37, x38, x39, x40, x41, x42, x43, x44, x45, x46, x47, x48, x49, x50, x51, x52, x53, x54, x55, x56, x57, x58, x59, x60, x61, x62, x63, x64, x65, x66, vs 0, vs 1, vs 2, vs 3, vs 4, vs 5, vs 6, vs 7, vs 8, vs 9, vs 10, x78, x79, x80, x81, x82, x83, x84, x85, x86, x87, x88, x89, x90, x91, x92, x93, x94, x95, x96, x97, x98, x99], d⟩ := by kernel_rfl
end Go.Proofs.YtidpkmkhcomcdaaGreat

namespace Go.Proofs.YtidpkmkhcomcdaaGreat
open Go

section
variable {P : Program} {ops : Array Oper} {Q : Exit → Act → World → Prop}

/-- Whether operation i comes behind operation j, by edges at most f deep. -/
def reachF (ops : Array Oper) : Nat → Nat → Nat → Bool
  | 0, _, _ => false
  | f + 1, i, j => depsOn ops i j || (List.range i).any fun k => depsOn ops i k && reachF ops f k j
/-- The operations from m on come one behind the other, each behind all ahead of it. -/
def regTail (ops : Array Oper) (m f : Nat) : Bool := (List.range ops.size).all fun i => decide (i < m) || (List.range i).all fun j => reachF ops f i j

theorem reach_listed {listed : Array Bool} (hc : ∀ i, listed.getD i false = true → ∀ j, depsOn ops i j = true → listed.getD j false = true) : ∀ (f i j : Nat), (∀ j, depsOn ops i j = true → listed.getD j false = true) → reachF ops f i j = true → listed.getD j false = true
  | 0, _, _, _, h => by cases h
  | f + 1, i, j, hi, h => by
    rw [reachF, Bool.or_eq_true] at h
    rcases h with h | h
    · exact hi j h
    · rw [List.any_eq_true] at h
      obtain ⟨k, _, h⟩ := h
      rw [Bool.and_eq_true] at h
      exact reach_listed hc f k j (hc k (hi k h.1)) h.2

/-- The operations from i on, k of them, one behind the other. -/
def tailP (P : Program) (ops : Array Oper) (Q : Exit → Act → World → Prop) : Nat → Nat → Act → World → Prop
  | 0, _, a, w => Q .normal a w
  | k + 1, i, a, w => OpDo P ops Q a i w (tailP P ops Q k (i + 1))

theorem wp_region_tail {id m k f : Nat} {a0 : Act} {w0 : World} (hm : P.follows .mixedOrders = true) (hn : ops.size = m + k) (hok : regOk ops m = true) (htl : regTail ops m f = true)
    (Ext : World → World → Prop) (hrefl : ∀ w, Ext w w) (htrans : ∀ a b c, Ext a b → Ext b c → Ext a c)
    (R : Nat → Value → World → Prop) (hR : ∀ i v w w', Ext w0.drew w → R i v w → Ext w w' → R i v w')
    (hstep : ∀ i, i < m → ∀ (vs : Nat → Value) (w : World), Ext w0.drew w → (∀ j, depsOn ops i j = true → R j (vs j) w) →
      ∀ K : Act → World → Prop, (∀ v w', Ext w w' → R i v w' → K ((frame a0 ops vs).put (dstOf ops i) v) w') → OpDo P ops Q (frame a0 ops vs) i w K)
    (htail : ∀ (vs : Nat → Value) (w : World), Ext w0.drew w → (∀ i, i < m → R i (vs i) w) → tailP P ops Q k m (frame a0 ops vs) w) :
    (Code.region id ops true).wp P Q a0 w0 := by
  have getSet : ∀ (listed : Array Bool) (i j : Nat), (listed.setIfInBounds i true).getD j false = if j = i ∧ i < listed.size then true else listed.getD j false := fun listed i j => by
    simp only [Array.getD_eq_getD_getElem?, Array.getElem?_setIfInBounds]
    by_cases h : i = j
    · subst h
      by_cases hi : i < listed.size
      · simp [hi]
      · simp [hi]
    · have h' : ¬ j = i := fun e => h e.symm
      simp [h, h']
  refine wp_region_any hm ?_
  refine wpAny_inv (fun listed a w => listed.size = ops.size ∧ (∀ i, listed.getD i false = true → ∀ j, depsOn ops i j = true → listed.getD j false = true) ∧
    ((∃ vs, a = frame a0 ops vs ∧ Ext w0.drew w ∧ (∀ j, m ≤ j → listed.getD j false = false) ∧ ∀ j, listed.getD j false = true → R j (vs j) w) ∨
     (∃ t, t ≤ k ∧ (∀ j, j < m + t → listed.getD j false = true) ∧ (∀ j, m + t ≤ j → listed.getD j false = false) ∧ tailP P ops Q (k - t) (m + t) a w))) ?_ ?_ ops.size _ _ _ ?_ ⟨by simp, fun i hi => ?_, Or.inl ⟨_, (putAll_init a0 (dstOf ops) ops.size).symm, hrefl _, fun j _ => ?_, fun j hj => ?_⟩⟩
  · rintro listed a w ⟨hsz, hc, h⟩ hr
    have hall := all_listed hsz (regOk_back hok) hr
    rcases h with ⟨vs, rfl, hE, h1, h2⟩ | ⟨t, ht, h1, h2, hp⟩
    · have hk : k = 0 := by
        by_cases hk : k = 0
        · exact hk
        · have := hall m (by omega); rw [h1 m (Nat.le_refl _)] at this; cases this
      have := htail vs w hE (fun i hi => h2 i (hall i (by omega)))
      rw [hk] at this
      exact this
    · have hk : t = k := by
        by_cases hk : t = k
        · exact hk
        · have := hall (m + t) (by omega); rw [h2 _ (Nat.le_refl _)] at this; cases this
      rw [hk, Nat.sub_self] at hp
      exact hp
  · rintro listed a w i ⟨hsz, hc, h⟩ hi
    obtain ⟨hlt, hun, o, ho, hdeps⟩ := ready_open hi
    have hun' : listed.getD i false = false := by
      have hls : i < listed.size := by omega
      simp only [Array.getD, hls, dif_pos] at hun ⊢
      exact hun
    have hdep : ∀ j, depsOn ops i j = true → listed.getD j false = true := fun j hj => by
      unfold depsOn at hj
      rw [ho] at hj
      simp only at hj
      rw [Array.any_eq_true] at hj
      obtain ⟨k, hk, hb⟩ := hj
      simp only [Bool.and_eq_true, beq_iff_eq] at hb
      rw [← hb.2]
      exact hdeps _ (Array.getElem_mem hk) hb.1
    have fin : ∀ {A : Act} {K2 : Act → World → Prop}, (∀ K' : Act → World → Prop, (∀ a w, K2 a w → K' a w) → OpDo P ops Q A i w K') → wpOp P ops Q i K2 A w := fun {A K2} h => wpOp_step ho (fun K' hK => by
      have := (h K' hK).out
      rw [ho] at this
      exact this)
    have hsz' : (listed.setIfInBounds i true).size = ops.size := by simpa using hsz
    have hil : i < listed.size := by omega
    have same : ∀ j, listed.getD j false = true → (listed.setIfInBounds i true).getD j false = true := fun j hj => by rw [getSet]; split <;> simp [hj]
    have here : (listed.setIfInBounds i true).getD i false = true := by rw [getSet]; simp [hil]
    have other : ∀ j, j ≠ i → listed.getD j false = false → (listed.setIfInBounds i true).getD j false = false := fun j hne hj => by rw [getSet]; simp [hne, hj]
    have back : ∀ j, j ≠ i → (listed.setIfInBounds i true).getD j false = true → listed.getD j false = true := fun j hne hj => by rw [getSet, if_neg (fun h => hne h.1)] at hj; exact hj
    have hc' : ∀ q, (listed.setIfInBounds i true).getD q false = true → ∀ j, depsOn ops q j = true → (listed.setIfInBounds i true).getD j false = true := fun q hq j hj => by
      by_cases hqi : q = i
      · subst hqi; exact same j (hdep j hj)
      · exact same j (hc q (back q hqi hq) j hj)
    have hahead : m ≤ i → ∀ j, j < i → listed.getD j false = true := fun hmi j hj => by
      have := List.all_eq_true.1 htl i (List.mem_range.2 hlt)
      rw [Bool.or_eq_true] at this
      rcases this with h | h
      · rw [decide_eq_true_eq] at h; omega
      · exact reach_listed hc f i j hdep (List.all_eq_true.1 h j (List.mem_range.2 hj))
    have mono : ∀ {A : Act} {K1 K2 : Act → World → Prop}, (∀ a w, K1 a w → K2 a w) → OpDo P ops Q A i w K1 → ∀ K', (∀ a w, K2 a w → K' a w) → OpDo P ops Q A i w K' := fun {A K1 K2} h12 h K' hK => by
      refine ⟨?_⟩
      have := h.out
      rw [ho] at this ⊢
      simp only at this ⊢
      split
      · rename_i hw
        rw [if_pos hw] at this
        exact Oper.wp_mono (fun a w h => hK a w (h12 a w h)) this
      · rename_i hw
        rw [if_neg hw] at this
        exact hK _ _ (h12 _ _ this)
    rcases h with ⟨vs, rfl, hE, h1, h2⟩ | ⟨t, ht, h1, h2, hp⟩
    · by_cases him : i < m
      · refine fin (fun K' hK => hstep i him vs w hE (fun j hjd => h2 j (hdep j hjd)) K' (fun v w' he hr => hK _ _ ⟨hsz', hc', Or.inl ⟨fun j => if j = i then v else vs j, (putAll_upd a0 (dstOf ops) vs i v ops.size hlt (fun j hj' hne => regOk_dst hok i j him hj' hne)).symm, htrans _ _ _ hE he, fun j hj => other j (by omega) (h1 j hj), fun j hjl => ?_⟩⟩))
        by_cases hji : j = i
        · subst hji; simpa using hr
        · simp only [hji, if_false]
          exact hR j _ w w' hE (h2 j (back j hji hjl)) he
      · have him' : i = m := by
          by_cases he : i = m
          · exact he
          · have := hahead (by omega) m (by omega); rw [h1 m (Nat.le_refl _)] at this; cases this
        subst him'
        have := htail vs w hE (fun j hj => h2 j (hahead (Nat.le_refl _) j hj))
        obtain ⟨k', rfl⟩ : ∃ k', k = k' + 1 := ⟨k - 1, by omega⟩
        refine fin (mono (fun a' w' h' => ?_) this)
        refine ⟨hsz', hc', Or.inr ⟨1, by omega, fun j hj => ?_, fun j hj => other j (by omega) (h1 j (by omega)), ?_⟩⟩
        · by_cases hji : j = i
          · rw [hji]; exact here
          · exact same j (hahead (Nat.le_refl _) j (by omega))
        · rw [Nat.add_sub_cancel]; exact h'
    · have hi1 : i = m + t := by
        by_cases hlt' : i < m + t
        · have := h1 i hlt'; rw [hun'] at this; cases this
        · by_cases he : i = m + t
          · exact he
          · have := hahead (by omega) (m + t) (by omega); rw [h2 _ (Nat.le_refl _)] at this; cases this
      subst hi1
      obtain ⟨k', hk'⟩ : ∃ k', k - t = k' + 1 := ⟨k - t - 1, by omega⟩
      rw [hk'] at hp
      refine fin (mono (fun a' w' h' => ?_) hp)
      refine ⟨hsz', hc', Or.inr ⟨t + 1, by omega, fun j hj => ?_, fun j hj => other j (by omega) (h2 j (by omega)), ?_⟩⟩
      · by_cases hji : j = m + t
        · rw [hji]; exact here
        · exact same j (h1 j (by omega))
      · rw [show k - (t + 1) = k' by omega]; exact h'
  · have := List.countP_le_length (p := fun b : Bool => !b) (l := (Array.replicate ops.size false).toList)
    unfold openN
    simpa using this
  · rw [Array.getD_eq_getD_getElem?, Array.getElem?_replicate] at hi; split at hi <;> cases hi
  · rw [Array.getD_eq_getD_getElem?, Array.getElem?_replicate]; split <;> rfl
  · rw [Array.getD_eq_getD_getElem?, Array.getElem?_replicate] at hj; split at hj <;> cases hj
end
end Go.Proofs.YtidpkmkhcomcdaaGreat

namespace Go.Proofs.YtidpkmkhcomcdaaGreat
open Go.RowKit

set_option maxHeartbeats 1000000
set_option maxRecDepth 100000

/-- A row of rows of texts, all of the call's own, no two rows in one block. -/
def OwnSS (w : World) (base : Nat) (sv : Value) (a : List (List (List UInt8))) : Prop :=
  ∃ cs : List Value, w.ownsRow base 40 1 sv a.length cs ∧ (∀ j, j < a.length → ∃ rv, cs[j]? = some rv ∧ w.ownsRow base 9 1 rv (a.getD j []).length ((a.getD j []).map str)) ∧
    ∀ (i j : Nat) (ri rj : Value), i < j → cs[i]? = some ri → cs[j]? = some rj → ri.ownBlock = none ∨ ri.ownBlock ≠ rj.ownBlock

theorem OwnSS.nil (w : World) (base : Nat) : OwnSS w base (.slice none 0 0) [] := ⟨[], World.ownsRow_nil w base _ _, fun j h => absurd h (Nat.not_lt_zero j), fun i j ri rj _ h => by simp at h⟩

theorem own_keptT {w W : World} {base n size : Nat} {E : TypeId} {sv : Value} {vs : List Value} (h : w.ownsRow base E size sv n vs) (hk : ∀ (b : Nat) (cs : Array Value) (fr : Nat × Nat), w.heap[b]? = some (.cells cs E fr) → W.heap[b]? = some (.cells cs E fr)) : W.ownsRow base E size sv n vs := by
  refine ⟨h.1, ?_⟩
  rcases h.2 with h | ⟨g, cap, cur, h1, h2, h3, h4⟩
  · exact Or.inl h
  · exact Or.inr ⟨g, cap, cur, h1, h2, hk _ _ _ h3, h4⟩

theorem OwnSS.keptT {w W : World} {base : Nat} {sv : Value} {a : List (List (List UInt8))} (h : OwnSS w base sv a)
    (hk : ∀ (b : Nat) (cs : Array Value) (T : TypeId) (fr : Nat × Nat), T ≠ 26 → w.heap[b]? = some (.cells cs T fr) → W.heap[b]? = some (.cells cs T fr)) : OwnSS W base sv a := by
  obtain ⟨cs, ho, hc, hd⟩ := h
  refine ⟨cs, own_keptT ho fun b cs fr hb => hk b cs _ fr (by decide) hb, fun j hj => ?_, hd⟩
  obtain ⟨rv, h1, h2⟩ := hc j hj
  exact ⟨rv, h1, own_keptT h2 fun b cs fr hb => hk b cs _ fr (by decide) hb⟩

theorem OwnSS.later {w W : World} {base : Nat} {sv : Value} {a : List (List (List UInt8))} (h : OwnSS w base sv a) (hA : After w W) : OwnSS W base sv a :=
  h.keptT fun _ _ _ _ _ hb => hA.heap hb

theorem OwnSS.form {w : World} {base : Nat} {sv : Value} {a : List (List (List UInt8))} (h : OwnSS w base sv a) : ∃ ao cap, sv = .slice ao a.length cap := by
  obtain ⟨cs, ho, _⟩ := h
  rcases ho.2 with ⟨rfl, h0⟩ | ⟨g, cap, cur, rfl, _⟩
  · exact ⟨_, _, by rw [h0]⟩
  · exact ⟨_, _, rfl⟩

theorem own_strsU {w : World} {base B : Nat} {sv : Value} {ns : List (List UInt8)} (h : w.ownsRow base 9 1 sv ns.length (ns.map str)) (hB : B ≤ base) : StrsU B w sv ns := by
  rcases h.2 with ⟨rfl, h0⟩ | ⟨g, cap, cur, rfl, hb, hh, hle, hcap, _⟩
  · exact ⟨none, 0, by rw [h0], fun j hj => absurd hj (by omega)⟩
  · refine ⟨some ⟨g, 0, none⟩, cap, rfl, fun j hj => ⟨g, 0, rfl, ⟨by omega, hle, by unfold maxLen at hcap; omega⟩, ?_⟩⟩
    rw [Nat.zero_add]
    exact (h.cellAt j (by omega)).trans (by simp [List.getD, hj])

theorem OwnSS.ssu {w : World} {base B : Nat} {sv : Value} {a : List (List (List UInt8))} (h : OwnSS w base sv a) (hB : B ≤ base) : SSU B w sv a := by
  obtain ⟨cs, ho, hc, _⟩ := h
  refine ⟨fun j => cs.getD j undef, ?_, fun j hj => ?_⟩
  · rcases ho.2 with ⟨rfl, h0⟩ | ⟨g, cap, cur, rfl, hb, hh, hle, hcap, _⟩
    · exact ⟨none, 0, by rw [h0], fun j hj => absurd hj (by omega)⟩
    · refine ⟨some ⟨g, 0, none⟩, cap, rfl, fun j hj => ⟨g, 0, rfl, ⟨by omega, hle, by unfold maxLen at hcap; omega⟩, ?_⟩⟩
      rw [Nat.zero_add]
      obtain ⟨rv, h1, _⟩ := hc j hj
      exact (ho.cellAt j (by omega)).trans (by rw [h1]; show some rv = some (cs.getD j undef); rw [List.getD, h1]; rfl)
  · obtain ⟨rv, h1, h2⟩ := hc j hj
    show StrsU B w (cs.getD j undef) _
    rw [List.getD, h1]
    exact own_strsU h2 hB

theorem OwnSS.push {w w' : World} {base g cap : Nat} {sv rv : Value} {a : List (List (List UInt8))} {xs : List (List UInt8)} {cs : List Value} (ho : w.ownsRow base 40 1 sv a.length cs)
    (hc : ∀ j, j < a.length → ∃ rv, cs[j]? = some rv ∧ w.ownsRow base 9 1 rv (a.getD j []).length ((a.getD j []).map str)) (hd : ∀ (i j : Nat) (ri rj : Value), i < j → cs[i]? = some ri → cs[j]? = some rj → ri.ownBlock = none ∨ ri.ownBlock ≠ rj.ownBlock)
    (ho' : w'.ownsRow base 40 1 (.slice (some ⟨g, 0, none⟩) (a.length + 1) cap) (a.length + 1) (cs ++ [rv])) (hg : w.grownBy w' sv.ownBlock)
    (hx : w.ownsRow base 9 1 rv xs.length (xs.map str)) (hnew : ∀ (j : Nat) (u : Value), cs[j]? = some u → u.ownBlock = none ∨ u.ownBlock ≠ rv.ownBlock) : OwnSS w' base (.slice (some ⟨g, 0, none⟩) (a.length + 1) cap) (a ++ [xs]) := by
  have hcl : cs.length = a.length := by have := ho.1; omega
  have hk : ∀ {v : Value} {ys : List (List UInt8)}, w.ownsRow base 9 1 v ys.length (ys.map str) → w'.ownsRow base 9 1 v ys.length (ys.map str) := fun h => own_keptT h fun b cs fr hb => row_keeps ho hg b cs _ fr (by decide) hb
  refine ⟨_, by rw [List.length_append]; exact ho', fun j hj => ?_, fun i j ri rj hij hi hj => ?_⟩
  · by_cases hjl : j < a.length
    · obtain ⟨rv', h1, h2⟩ := hc j hjl
      have hgd : (a ++ [xs]).getD j [] = a.getD j [] := by simp [List.getD, List.getElem?_append_left hjl]
      rw [hgd]
      exact ⟨rv', by rw [List.getElem?_append_left (by omega)]; exact h1, hk h2⟩
    · have hj' : j = a.length := by rw [List.length_append, List.length_singleton] at hj; omega
      subst hj'
      have hgd : (a ++ [xs]).getD a.length [] = xs := by simp [List.getD]
      rw [hgd]
      exact ⟨rv, by rw [List.getElem?_append_right (by omega), hcl, Nat.sub_self]; rfl, hk hx⟩
  · by_cases hjl : j < cs.length
    · rw [List.getElem?_append_left (by omega)] at hi
      rw [List.getElem?_append_left hjl] at hj
      exact hd i j ri rj hij hi hj
    · have hj2 : j < (cs ++ [rv]).length := (List.getElem?_eq_some_iff.1 hj).1
      have hj' : j = cs.length := by rw [List.length_append, List.length_singleton] at hj2; omega
      subst hj'
      rw [List.getElem?_append_left hij] at hi
      rw [List.getElem?_append_right (Nat.le_refl _), Nat.sub_self] at hj
      have e : rv = rj := by simpa using hj
      rw [← e]
      exact hnew i ri hi

section
variable {ops : Array Oper} {Q : Exit → Act → World → Prop} {A : Act} {i : Nat} {w : World} {K : Act → World → Prop}

theorem do_rp {v : Value} {w' : World} (p : Value → World → Prop) (hs : (ops[i]?).isSome = true) (hw : Region.wanted (opAt ops i) (yielded ops A.tmps) = true) (hr : (execOp A.eval (opAt ops i)).run Tryz.prog w = .ok (.value v) w') (ha : After w w') (hp : p v w')
    (hK : ∀ v w', After w w' → p v w' → K (A.put (dstOf ops i) v) w') : OpDo Tryz.prog ops Q A i w K :=
  op_val hs hw hr (hK _ _ ha hp)

theorem do_cp {f : FuncId} {args : Array Value} (p : Value → World → Prop) (hs : (ops[i]?).isSome = true) (hw : Region.wanted (opAt ops i) (yielded ops A.tmps) = true) (hr : (execOp A.eval (opAt ops i)).run Tryz.prog w = .ok (.enter f args) w)
    (hc : Calls Tryz.prog f args w fun e w' => ∃ v, e = .returned v ∧ After w w' ∧ p v w') (hK : ∀ v w', After w w' → p v w' → K (A.put (dstOf ops i) v) w') : OpDo Tryz.prog ops Q A i w K := by
  refine op_call hs hw hr (hc.mono ?_)
  rintro e w' ⟨v, rfl, ha, h⟩
  exact ⟨_, rfl, hK _ _ ha h⟩

theorem run_ld_ss {x : Operand} {u : Value} {p : Addr} {v : Value} (hop : (opAt ops i).op = .load 24 x) (hx : A.eval x = u) (hu : u = .pointer (some p)) (hc : w.cell? p = some v) :
    (execOp A.eval (opAt ops i)).run Tryz.prog w = .ok (.value v) w := by
  subst hu
  unfold execOp
  simp only [hop, hx]
  simp [go_sem, hc]

/-- A new row of one text. -/
theorem run_row1 {x : Operand} {u : Value} {s : List UInt8} (hop : (opAt ops i).op = .buildSlice 40 1 #[(0, x)]) (hx : A.eval x = u) (hu : u = str s) :
    (execOp A.eval (opAt ops i)).run Tryz.prog w = .ok (.value (.slice (some ⟨w.heap.size, 0, none⟩) 1 1)) (w.alloc (.cells #[str s] 9)) := by
  subst hu
  unfold execOp
  generalize A.eval = E at *
  simp only [hop]
  simp [go_sem, hx]

theorem run_rows1 {x : Operand} {u : Value} {ao : Option Addr} {n c : Nat} (hop : (opAt ops i).op = .buildSlice 24 1 #[(0, x)]) (hx : A.eval x = u) (hu : u = .slice ao n c) :
    (execOp A.eval (opAt ops i)).run Tryz.prog w = .ok (.value (.slice (some ⟨w.heap.size, 0, none⟩) 1 1)) (w.alloc (.cells #[.slice ao n c] 40)) := by
  subst hu
  unfold execOp
  generalize A.eval = E at *
  simp only [hop]
  simp [go_sem, hx]

/-- The end of a region 'x.f = append(x.f, row)': the append, the field's address, the store. -/
theorem tail_push {ops : Array Oper} {Q : Exit → Act → World → Prop} {A : Act} {w : World} {m q base b2 : Nat} {sv : Value} {s x t y z : Operand} {d7 d8 : Tmp} {a : List (List (List UInt8))} {xs : List (List UInt8)} {rv : Value}
    (hs0 : (ops[m]?).isSome = true) (hg0 : (opAt ops m).guard = none) (ho0 : (opAt ops m).op = .call { callee := .builtin .append, args := #[s, x], argTypes := #[24, 24] }) (hd0 : dstOf ops m = some d7)
    (hs1 : (ops[m + 1]?).isSome = true) (hg1 : (opAt ops (m + 1)).guard = none) (ho1 : (opAt ops (m + 1)).op = .fieldAddr 26 t 0) (hd1 : dstOf ops (m + 1) = some d8)
    (hs2 : (ops[m + 2]?).isSome = true) (hg2 : (opAt ops (m + 2)).guard = none) (ho2 : (opAt ops (m + 2)).op = .store 24 y z) (hd2 : dstOf ops (m + 2) = none)
    (e0 : A.eval s = sv) (e1 : A.eval x = .slice (some ⟨b2, 0, none⟩) 1 1) (e2 : ∀ v, (A.put (some d7) v).eval t = .pointer (some ⟨q, 0, none⟩))
    (e3 : ∀ v, ((A.put (some d7) v).put (some d8) (.pointer (some ⟨q, 0, none⟩))).eval y = .pointer (some ⟨q, 0, none⟩)) (e4 : ∀ v, ((A.put (some d7) v).put (some d8) (.pointer (some ⟨q, 0, none⟩))).eval z = v)
    (hown : OwnSS w base sv a) (hbase : base ≤ w.heap.size) (hlen : a.length ≤ 1000000) (hq : base ≤ q) (hbox : w.heap[q]? = some (.cells #[sv] 26 (0, 0)))
    (hrow : w.ownsRow base 9 1 rv xs.length (xs.map str)) (hb2 : w.heap[b2]? = some (.cells #[rv] 40 (0, 0))) (hone : rv.oneCell' = true)
    (hnew : ∀ (cs : List Value), w.ownsRow base 40 1 sv a.length cs → (∀ j, j < a.length → ∃ rv, cs[j]? = some rv ∧ w.ownsRow base 9 1 rv (a.getD j []).length ((a.getD j []).map str)) → ∀ (j : Nat) (u : Value), cs[j]? = some u → u.ownBlock = none ∨ u.ownBlock ≠ rv.ownBlock)
    (hQ : ∀ g cap w', OwnSS w' base (.slice (some ⟨g, 0, none⟩) (a.length + 1) cap) (a ++ [xs]) → w'.heap[q]? = some (.cells #[.slice (some ⟨g, 0, none⟩) (a.length + 1) cap] 26 (0, 0)) → Below base w w' →
      Q .normal ((A.put (some d7) (.slice (some ⟨g, 0, none⟩) (a.length + 1) cap)).put (some d8) (.pointer (some ⟨q, 0, none⟩))) w') : tailP Tryz.prog ops Q 3 m A w := by
  have hi : ∃ i, (Tryz.prog).info? 40 = some i ∧ i.zero = some (.slice none 0 0) ∧ i.size = 1 ∧ i.bytes = 24 := ⟨_, rfl, rfl, rfl, rfl⟩
  obtain ⟨i0, hi0, hz0, hz1, hz2⟩ := hi
  have hun : Tryz.prog.underlying 24 = some (.slice 40) := by kernel_rfl
  obtain ⟨cs, ho, hc, hd⟩ := id hown
  obtain ⟨g, cap, w5, hr, hown5, hg5, hwhere, hlt⟩ := run_append_lies (P := Tryz.prog) w 24 (opAt ops m).type base 40 i0 (.slice none 0 0) 1 24 hun hi0 hz0 hz1 hz2 rfl (by decide) sv a.length cs ho ⟨b2, 0, none⟩ 1 1 [rv] rfl
    (fun j u hu => by
      match j, hu with
      | 0, hu =>
        have e : rv = u := by simpa using hu
        subst e
        have := cell_of_heap (i := 0) hb2
        simpa [Addr.add] using this) (by simpa using hone) (by decide) (by unfold maxLen; omega) (by omega) hbase _ rfl
  have hpush := OwnSS.push ho hc hd hown5 hg5 hrow (hnew cs ho hc)
  have hbq : w5.heap[q]? = some (.cells #[sv] 26 (0, 0)) := row_keeps ho hg5 _ _ _ _ (by decide) hbox
  have hb5 : Below base w w5 := (Below.refl base w).grown hg5 hbase (fun k hk => (ho.lt k hk).1)
  show OpDo _ _ _ _ _ _ _
  refine op_val (v := .slice (some ⟨g, 0, none⟩) (a.length + 1) cap) (w' := w5) hs0 (wanted_of hg0) ?_ ?_
  · unfold execOp
    simp only [ho0, resolve, invoke, builtin, Sem.run_bind, Sem.run_pure, Result.andThen_ok, List.map_toArray, List.map_cons, List.map_nil, e0, e1, hr]
  · rw [hd0]
    show OpDo _ _ _ _ _ _ _
    refine op_val (v := .pointer (some ⟨q, 0, none⟩)) (w' := w5) hs1 (wanted_of hg1) ?_ ?_
    · have e2' := e2 (.slice (some ⟨g, 0, none⟩) (a.length + 1) cap)
      unfold execOp
      simp only [ho1, e2']
      first | rfl | simp [go_sem]
    · rw [hd1]
      show OpDo _ _ _ _ _ _ _
      have e3' := e3 (.slice (some ⟨g, 0, none⟩) (a.length + 1) cap)
      have e4' := e4 (.slice (some ⟨g, 0, none⟩) (a.length + 1) cap)
      have r0 : w5.cell? ⟨q, 0, none⟩ = some sv := cell_of_heap hbq
      have f0 : w5.frozen? ⟨q, 0, none⟩ = false := by simp [World.frozen?, hbq]
      have hst : (Instr.storeAt 24 (.pointer (some ⟨q, 0, none⟩)) (.slice (some ⟨g, 0, none⟩) (a.length + 1) cap)).run Tryz.prog w5 = .ok () (w5.setCell ⟨q, 0, none⟩ (.slice (some ⟨g, 0, none⟩) (a.length + 1) cap)) := by
        simp [go_sem, r0, f0]
      constructor
      rw [opAt_of hs2]
      simp only [wanted_of hg2, if_true]
      unfold Oper.wp execOp
      simp only [ho2, e3', e4', Sem.run_bind, hst, Result.andThen_ok, Sem.run_pure, Oper.upon_skip]
      rw [opAt_dst hs2, hd2]
      show Q .normal _ _
      refine hQ g cap _ (hpush.keptT fun b cs T fr hT hb => ?_) ?_ (hb5.setCell hq _)
      · rw [Below.heap_setCell _ _ _ _ (fun e => by have : b = q := e; subst this; rw [hbq] at hb; injection hb with hb; injection hb with _ hb _; exact hT hb.symm)]
        exact hb
      · simp [World.setCell, Array.getElem?_modify, hbq]
end
end Go.Proofs.YtidpkmkhcomcdaaGreat

namespace Go.Proofs.YtidpkmkhcomcdaaGreat
open Go.RowKit

set_option maxHeartbeats 1000000
set_option maxRecDepth 100000

/-- A fact of a value that stays true while the world grows. -/
structure Sp where
  p : Value → World → Prop
  st : ∀ v w w', p v w → After w w' → p v w'
def Sp.lit (v : Value) : Sp := ⟨fun u _ => u = v, fun _ _ _ h _ => h⟩
def Sp.free : Sp := ⟨fun _ _ => True, fun _ _ _ h _ => h⟩
def Sp.tv (B : Nat) (t : Tm) : Sp := ⟨fun v w => TV w B t v, fun _ _ _ h ha => h.below ha⟩
def Sp.tree (t : Tm) : Sp := ⟨fun v w => ST w t v, fun _ _ _ h ha => h.later ha⟩
theorem own_later {w W : World} {base n size : Nat} {E : TypeId} {sv : Value} {vs : List Value} (h : w.ownsRow base E size sv n vs) (ha : After w W) : W.ownsRow base E size sv n vs := own_keptT h fun _ _ _ hb => ha.heap hb
/-- A new row of texts. -/
def Sp.row (C : Nat) (xs : List (List UInt8)) : Sp := ⟨fun v w => w.ownsRow C 9 1 v xs.length (xs.map str), fun _ _ _ h ha => own_later h ha⟩
/-- A new row of one row of texts. -/
def Sp.rows (C : Nat) (xs : List (List UInt8)) : Sp := ⟨fun v w => ∃ b2 rv, v = .slice (some ⟨b2, 0, none⟩) 1 1 ∧ w.heap[b2]? = some (.cells #[rv] 40 (0, 0)) ∧ rv.oneCell' = true ∧ w.ownsRow C 9 1 rv xs.length (xs.map str),
  fun _ _ _ ⟨b2, rv, e, hh, h1, h⟩ ha => ⟨b2, rv, e, ha.heap hh, h1, own_later h ha⟩⟩
/-- A row of one text, in its own block. -/
def rl (ps : List Sp) (i : Nat) (v : Value) (w : World) : Prop := (ps.getD i Sp.free).p v w
theorem rl_later {ps : List Sp} {w0 : World} : ∀ i v w w', After w0 w → rl ps i v w → After w w' → rl ps i v w' := fun _ _ _ _ _ h ha => Sp.st _ _ _ _ h ha

theorem own_unique {w : World} {base base' n size : Nat} {E : TypeId} {sv : Value} {xs ys : List Value} (h : w.ownsRow base E size sv n xs) (g : w.ownsRow base' E size sv n ys) : xs = ys := by
  rcases h.2 with ⟨rfl, h0⟩ | ⟨b, cap, cur, rfl, _, hh, _, _, _, ht⟩
  · have h1 := h.1
    have g1 := g.1
    rw [h0, Nat.zero_mul] at h1 g1
    rw [List.length_eq_zero_iff.1 h1, List.length_eq_zero_iff.1 g1]
  · rcases g.2 with ⟨e, _⟩ | ⟨b', cap', cur', e, _, hh', _, _, _, ht'⟩
    · cases e
    · injection e with e
      injection e with e
      injection e with e
      subst e
      rw [hh] at hh'
      injection hh' with hh'
      injection hh' with hh'
      subst hh'
      rw [← ht, ← ht']

theorem own_mono {w : World} {base base' n size : Nat} {E : TypeId} {sv : Value} {xs : List Value} (h : w.ownsRow base E size sv n xs) (hB : base' ≤ base) : w.ownsRow base' E size sv n xs := by
  refine ⟨h.1, ?_⟩
  rcases h.2 with h | ⟨g, cap, cur, h1, h2, h3⟩
  · exact Or.inl h
  · exact Or.inr ⟨g, cap, cur, h1, Nat.le_trans hB h2, h3⟩

theorem own_one (w : World) (C : Nat) (hC : C ≤ w.heap.size) (s : List UInt8) : (w.alloc (.cells #[str s] 9)).ownsRow C 9 1 (.slice (some ⟨w.heap.size, 0, none⟩) 1 1) ([s] : List (List UInt8)).length ([s].map str) :=
  World.ownsRow_lit (base := C) (e := 9) (size := 1) w #[str s] 1 hC (by decide) (by simp)

theorem own_oneCell {w : World} {base n size : Nat} {E : TypeId} {sv : Value} {xs : List Value} (h : w.ownsRow base E size sv n xs) : sv.oneCell' = true := by
  rcases h.2 with ⟨rfl, _⟩ | ⟨g, cap, cur, rfl, _⟩ <;> rfl

theorem tail_push2 {ops : Array Oper} {Q : Exit → Act → World → Prop} {A : Act} {wr w : World} {m q base b2 : Nat} {sv : Value} {s x t y z : Operand} {d7 d8 : Tmp} {a : List (List (List UInt8))} {xs : List (List UInt8)} {rv : Value}
    (hs0 : (ops[m]?).isSome = true) (hg0 : (opAt ops m).guard = none) (ho0 : (opAt ops m).op = .call { callee := .builtin .append, args := #[s, x], argTypes := #[24, 24] }) (hd0 : dstOf ops m = some d7)
    (hs1 : (ops[m + 1]?).isSome = true) (hg1 : (opAt ops (m + 1)).guard = none) (ho1 : (opAt ops (m + 1)).op = .fieldAddr 26 t 0) (hd1 : dstOf ops (m + 1) = some d8)
    (hs2 : (ops[m + 2]?).isSome = true) (hg2 : (opAt ops (m + 2)).guard = none) (ho2 : (opAt ops (m + 2)).op = .store 24 y z) (hd2 : dstOf ops (m + 2) = none)
    (e0 : A.eval s = sv) (e1 : A.eval x = .slice (some ⟨b2, 0, none⟩) 1 1) (e2 : ∀ v, (A.put (some d7) v).eval t = .pointer (some ⟨q, 0, none⟩))
    (e3 : ∀ v, ((A.put (some d7) v).put (some d8) (.pointer (some ⟨q, 0, none⟩))).eval y = .pointer (some ⟨q, 0, none⟩)) (e4 : ∀ v, ((A.put (some d7) v).put (some d8) (.pointer (some ⟨q, 0, none⟩))).eval z = v)
    (hown : OwnSS wr base sv a) (hA : After wr w) (hbase : base ≤ wr.heap.size) (hlen : a.length ≤ 1000000) (hq : base ≤ q) (hbox : wr.heap[q]? = some (.cells #[sv] 26 (0, 0)))
    (hrow : w.ownsRow wr.heap.size 9 1 rv xs.length (xs.map str)) (hb2 : w.heap[b2]? = some (.cells #[rv] 40 (0, 0)))
    (hQ : ∀ g cap w', OwnSS w' base (.slice (some ⟨g, 0, none⟩) (a.length + 1) cap) (a ++ [xs]) → w'.heap[q]? = some (.cells #[.slice (some ⟨g, 0, none⟩) (a.length + 1) cap] 26 (0, 0)) → Below base wr w' →
      Q .normal ((A.put (some d7) (.slice (some ⟨g, 0, none⟩) (a.length + 1) cap)).put (some d8) (.pointer (some ⟨q, 0, none⟩))) w') : tailP Tryz.prog ops Q 3 m A w := by
  refine tail_push (base := base) (a := a) (xs := xs) hs0 hg0 ho0 hd0 hs1 hg1 ho1 hd1 hs2 hg2 ho2 hd2 e0 e1 e2 e3 e4 (hown.later hA) (Nat.le_trans hbase hA.size) hlen hq (hA.heap hbox) (own_mono hrow hbase) hb2 (own_oneCell hrow) ?_ (fun g cap w' h1 h2 h3 => hQ g cap w' h1 h2 ?_)
  · intro cs hcs hc j u hu
    obtain ⟨cs', ho', hc', _⟩ := hown
    obtain rfl := own_unique hcs (own_later ho' hA)
    have hj : j < a.length := by
      have := (List.getElem?_eq_some_iff.1 hu).1
      have := ho'.1
      omega
    obtain ⟨rv', h1, h2⟩ := hc' j hj
    rw [hu] at h1
    injection h1 with h1
    subst h1
    cases hu' : u.ownBlock with
    | none => exact Or.inl rfl
    | some k =>
      right
      intro e
      have hk := (h2.lt k hu').2
      have := (hrow.lt k e.symm).1
      omega
  · exact (hA.mono hbase).trans h3
end Go.Proofs.YtidpkmkhcomcdaaGreat

namespace Go.Proofs.YtidpkmkhcomcdaaGreat
open Go.RowKit

set_option maxHeartbeats 2000000
set_option maxRecDepth 100000

theorem grown_after {w W : World} {row : Option Nat} (h : After w W) : w.grownBy W row := ⟨h.os, h.tape, h.output, h.size, fun k hk _ => h.block k hk⟩
theorem ints_at {xs : List Nat} {j : Nat} (hj : j < xs.length) : (ints xs)[j]? = some (.int .i64 ((xs.getD j 0 : Nat) : Int)) := by
  have : xs.getD j 0 = xs[j] := by simp [List.getD, hj]
  rw [ints, List.getElem?_map, List.getElem?_eq_getElem hj, this]
  rfl

theorem del_any (w : World) (base g cap : Nat) (xs : List Nat) (P : Nat → Bool) (qa qt : Nat) (hn : xs.length ≤ 1000000) (hown : w.ownsRow base 3 1 (.slice (some ⟨g, 0, none⟩) xs.length cap) xs.length (ints xs))
    (hcall : ∀ W, w.grownBy W (some g) → ∀ j, j < xs.length → Calls Tryz.prog 92 #[.int .i64 ((xs.getD j 0 : Nat) : Int), .pointer (some ⟨qa, 0, none⟩), .pointer (some ⟨qt, 0, none⟩)] W fun e w' => e = .returned (.bool (P (xs.getD j 0))) ∧ After W w') :
    Calls Tryz.prog 91 #[.slice (some ⟨g, 0, none⟩) xs.length cap, .func (.func 92) #[] #[.pointer (some ⟨qa, 0, none⟩), .pointer (some ⟨qt, 0, none⟩)]] w fun e w' =>
      e = .returned (.slice (some ⟨g, 0, none⟩) (kept P xs).length cap) ∧ w'.ownsRow base 3 1 (.slice (some ⟨g, 0, none⟩) (kept P xs).length cap) (kept P xs).length (ints (kept P xs)) ∧ w.grownBy w' (some g) := by
  have hcap : xs.length ≤ cap ∧ cap ≤ 9223372036854775807 := by
    rcases hown.2 with ⟨h, _⟩ | ⟨g', cp, cur, h, _, _, h1, h2, _⟩
    · cases h
    · simp only [Value.slice.injEq, Option.some.injEq, Addr.mk.injEq, and_true, true_and] at h
      obtain ⟨_, rfl⟩ := h
      unfold maxLen at h2
      exact ⟨h1, h2⟩
  have hidx := index_int w g cap xs P qa qt hn (fun j hj => (hown.cellAt j (by omega)).trans (ints_at hj)) (fun W hW j hj => hcall W (grown_after hW) j hj)
  have hks := fun j (hj : j < xs.length) => kept_succ (P := P) hj
  have hkl := kept_le P xs
  have hkf : kept P (xs.take xs.length) = kept P xs := by rw [List.take_length]
  have hkn := kept_none (P := P) (xs := xs)
  have hkt : ∀ i, i ≤ xs.length → (∀ j, j < i → P (xs.getD j 0) = false) → kept P (xs.take i) = xs.take i := fun i hi h => kept_none (fun j hj => by
    have hj' : j < i := by rw [List.length_take] at hj; omega
    have e : (xs.take i).getD j 0 = xs.getD j 0 := by simp [List.getD, hj']
    rw [e]
    exact h j hj')
  have hat : ∀ j, j < xs.length → (ints xs)[j]? = some (.int .i64 ((xs.getD j 0 : Nat) : Int)) := fun j hj => ints_at hj
  have htl : ∀ i, i ≤ xs.length → (xs.take i).length = i := fun i hi => by rw [List.length_take]; omega
  obtain ⟨n, hnn⟩ : ∃ n, n = xs.length := ⟨_, rfl⟩
  have hpre : ∀ i, i ≤ xs.length → (ints xs).take i = ints (xs.take i) := fun i _ => by rw [ints, ints, List.map_take]
  rw [← hnn] at hn hcap hidx hcall hks hkf hkn hkt hat htl hpre hown ⊢
  have HCALL := Lib.hid hcall
  have HKS := Lib.hid hks
  have HKL := Lib.hid hkl
  have HKF := Lib.hid hkf
  have HKN := Lib.hid hkn
  have HKT := Lib.hid hkt
  have HAT := Lib.hid hat
  have HTL := Lib.hid htl
  have HPRE := Lib.hid hpre
  have HOWN := Lib.hid hown
  have HNN := Lib.hid hnn
  clear hcall hks hkl hkf hkn hkt hat htl hpre hown hnn
  obtain ⟨hcap1, hcap2⟩ := hcap
  go_enter Tryz.func91, Tryz.ntmps91
  go_wp2_with fail
  refine hidx.mono ?_
  rintro e w1 ⟨⟨r, rfl, hr⟩, hb1⟩
  clear hidx
  rcases hr with ⟨rfl, hall⟩ | ⟨i, rfl, hi, hpi, hall⟩
  · have HALL : Hid (kept P xs = xs) := HKN.out hall
    clear hall
    go_wp2_with fail
    go_ret
    rw [HALL.out, ← HNN.out]
    exact ⟨rfl, own_later HOWN.out hb1, grown_after hb1⟩
  · have hk1 : kept P (xs.take (i + 1)) = xs.take i := by rw [HKS.out i hi, if_pos hpi, List.append_nil, HKT.out i (by omega) hall]
    have hk1l : (kept P (xs.take (i + 1))).length = i := by rw [hk1, HTL.out i (by omega)]
    have HST1 : Hid (i = (kept P (xs.take (i + 1))).length) := hk1l.symm
    have HST2 : Hid ((ints xs).take i = ints (kept P (xs.take (i + 1)))) := by show _ = _; rw [hk1]; exact HPRE.out i (by omega)
    have HO1 := Lib.hid (own_later HOWN.out hb1)
    have HG1 : Hid (w.grownBy w1 (some g)) := grown_after hb1
    have hi1 : ((i : Int) == -1) = false := by rw [beq_eq_false_iff_ne]; omega
    clear hk1 hk1l hpi hall hb1
    go_wp2_with fail
    go_loopw [5, 6] (fun i j wr => ∃ (jj k : Nat) (vs : List Value), i = .int .i64 k ∧ j = .int .i64 jj ∧ jj ≤ n ∧ k < jj ∧ Hid (k = (kept P (xs.take jj)).length) ∧ Hid (wr.ownsRow base 3 1 (.slice (some ⟨g, 0, none⟩) n cap) n vs) ∧ Hid (vs.take k = ints (kept P (xs.take jj))) ∧ Hid (∀ t, jj ≤ t → t < n → vs[t]? = some (.int .i64 ((xs.getD t 0 : Nat) : Int))) ∧ Hid (w.grownBy wr (some g))) (fun _ j _ => n - (intOf j).toNat)
    case atStart => exact ⟨i + 1, i, ints xs, rfl, by go_num, by omega, by omega, HST1, HO1, HST2, by show ∀ t, _; exact fun t _ ht => HAT.out t ht, HG1⟩
    case round =>
      obtain ⟨j, k, vs, rfl, rfl, hj, hkj, hk, hrow, hpre, hsuf, hgr⟩ := hrel
      clear HST1 HST2 HO1 HG1
      by_cases hlt : j < n
      · have h1 : wr.cell? ⟨g, j, none⟩ = _ := (hrow.out.cellAt j (by omega)).trans (hsuf.out j (Nat.le_refl _) hlt)
        have hcall := HCALL.out wr hgr.out j hlt
        have hks := HKS.out j hlt
        have hlt' : (j : Int) < (n : Int) := by omega
        obtain ⟨x, hx⟩ : ∃ x, x = xs.getD j 0 := ⟨_, rfl⟩
        obtain ⟨b, hb⟩ : ∃ b, b = P x := ⟨_, rfl⟩
        rw [← hx] at h1 hcall hks
        rw [← hb] at hcall hks
        have HKS2 := Lib.hid hks
        clear hx hb hks
        cases b with
        | true =>
          go_wp2_with fail
          refine hcall.mono ?_
          rintro e w2 ⟨rfl, hb2⟩
          clear hcall h1
          go_wp2_with fail
          go_roundw
          case rel =>
            have e : kept P (xs.take (j + 1)) = kept P (xs.take j) := by rw [HKS2.out]; simp
            exact ⟨j + 1, k, vs, rfl, by go_num, by omega, by omega, by show _ = _; rw [e]; exact hk.out, by show World.ownsRow _ _ _ _ _ _ _; exact own_later hrow.out hb2, by show _ = _; rw [e]; exact hpre.out, by show ∀ t, _; exact fun t ht => hsuf.out t (by omega), by show World.grownBy _ _ _; exact grown_trans hgr.out (grown_after hb2)⟩
          case measure => simp [intOf]; omega
        | false =>
          go_wp2_with fail
          refine hcall.mono ?_
          rintro e w2 ⟨rfl, hb2⟩
          have hrow2 := own_later hrow.out hb2
          have hvl : vs.length = n := by have := hrow2.1; omega
          obtain ⟨old, hold⟩ : ∃ old, vs[k]? = some old := ⟨_, List.getElem?_eq_getElem (by omega)⟩
          have h2 := (hrow2.cellAt k (by omega)).trans hold
          have h3 := hrow2.frozenAt k
          have hkn' : (k : Int) < (n : Int) := by omega
          have hst := hrow2.stored k (.int .i64 ((x : Nat) : Int))
          have HR2 := Lib.hid hst.1
          have HG2 := Lib.hid (grown_trans (grown_trans hgr.out (grown_after hb2)) hst.2)
          have HVL := Lib.hid hvl
          clear hcall h1 hst hrow2 hold hvl
          go_wp2_with fail
          go_roundw
          case rel =>
            have e : kept P (xs.take (j + 1)) = kept P (xs.take j) ++ [x] := by rw [HKS2.out]; simp
            refine ⟨j + 1, k + 1, vs.set k (.int .i64 ((x : Nat) : Int)), by go_num, by go_num, by omega, by omega, ?_, HR2, ?_, ?_, HG2⟩
            · show _ = _
              rw [e, List.length_append, ← hk.out]; rfl
            · show _ = _
              have hvl := HVL.out
              rw [e, ints, List.map_append, ← ints, ← hpre.out, List.take_succ_eq_append_getElem (by rw [List.length_set]; omega), List.take_set_of_le (Nat.le_refl _)]
              simp
            · show ∀ t, _
              intro t ht1 ht2
              rw [List.getElem?_set_ne (by omega)]
              exact hsuf.out t (by omega) ht2
          case measure => simp [intOf]; omega
      · obtain rfl : j = n := by omega
        have hkz : (k : Int) ≤ (j : Int) := by omega
        have hrw := hrow.out
        have hvl : vs.length = j := by have := hrw.1; omega
        have hcl : ∀ ty, (Builtin.clear_ #[30] ty #[.slice (some ⟨g, k, none⟩) (j - k) (cap - k)]).run Tryz.prog wr = .ok (.tuple #[]) (wr.setCells g k (List.replicate (j - k) (.int .i64 0))) :=
          fun ty => Lib.run_clear_slice wr _ _ ty _ Tryz.underlying30 (fun w => by kernel_rfl) rfl rfl g k _ _ (by omega) (fun q hq => by rw [hrw.cellAt (k + q) (by omega), List.getElem?_eq_getElem (by omega)]; rfl) (fun q hq => hrw.frozenAt (k + q))
        obtain ⟨vs', h1, h2, h3⟩ := own_cells (.int .i64 0) (j - k) k hrw
        have HO := Lib.hid (own_cut h1 (k := k) (by omega))
        have HT := Lib.hid (h2.trans hpre.out)
        have HG := Lib.hid (grown_trans hgr.out h3)
        have HKk : Hid ((kept P xs).length = k) := by show _ = _; rw [← HKF.out]; exact hk.out.symm
        clear hrw hvl h1 h2 h3 hsuf
        go_wp2_with fail
        go_ret
        rw [HKk.out]
        refine ⟨rfl, ?_, HG.out⟩
        have := HO.out
        rw [HT.out, HKF.out] at this
        exact this
end Go.Proofs.YtidpkmkhcomcdaaGreat

namespace Go.Proofs.YtidpkmkhcomcdaaGreat
open Go.RowKit

set_option maxHeartbeats 1000000
set_option maxRecDepth 100000

namespace Tm
theorem abs_good' (x : List UInt8) : ∀ {t : Tm}, t.good = true → (Tm.abs x t).good = true
  | .k, _ => by simp [abs, good]
  | .s, _ => by simp [abs, good]
  | .nm n, h => by
    by_cases hn : n = x
    · simp [abs, hn]; decide +kernel
    · simp [abs, hn, good] at h ⊢; exact h
  | .app f a, h => by
    simp only [good, Bool.and_eq_true] at h
    have hf := abs_good' x h.1
    have ha := abs_good' x h.2
    rw [abs]
    split
    · simp [good, h.1, h.2]
    · split
      · exact h.1
      · simp [good, hf, ha]

/-- One after the other. -/
def afterT (t u : Tm) : Tm := abs [120] (app u (app t (nm [120])))
def pAfter (l m : List UInt8) : Option (List UInt8) := (closedOf l).bind fun t => (closedOf m).bind fun u => if (afterT t u).fits = true then some (afterT t u).text else none

theorem text_fits {t : Tm} (hg : t.good = true) (hf : t.fits = true) : t.text.length ≤ 1000000 := by
  have htm := Tm.text_le _ hg
  have hsm := fits_size hf
  omega

theorem after_facts {l m : List UInt8} {t u : Tm} (h : closedOf l = some t) (g : closedOf m = some u) :
    (afterT t u).good = true ∧ (afterT t u).size ≤ 30000 ∧ (app u (app t (nm [120]))).good = true ∧ (app u (app t (nm [120]))).size ≤ 7000 := by
  obtain ⟨hg, hf, hs, _, _⟩ := parse_facts (closed_facts h).1
  obtain ⟨hgu, hfu, hsu, _, _⟩ := parse_facts (closed_facts g).1
  have hx : (nm [120]).good = true := by decide +kernel
  have hi : (app u (app t (nm [120]))).good = true := by simp [good, hg, hgu]; exact hx
  have hz : (app u (app t (nm [120]))).size ≤ 7000 := by simp only [size]; omega
  have := abs_size [120] (app u (app t (nm [120])))
  exact ⟨abs_good' _ hi, by unfold afterT; omega, hi, hz⟩
end Tm

/-- A text handed back, or nothing. -/
def ARes (w : World) (r : Option (List UInt8)) (e : Ending) (w' : World) : Prop :=
  e = .returned (.tuple #[str (r.getD []), .bool r.isSome]) ∧ After w w'

end Go.Proofs.YtidpkmkhcomcdaaGreat
