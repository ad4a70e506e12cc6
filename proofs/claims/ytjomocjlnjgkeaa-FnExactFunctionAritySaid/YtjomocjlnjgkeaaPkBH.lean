/-
  The realizers of function texts: closed, and small: all abstractions on the way are terms. No program is named here.
-/
import Derived.Test.YtjomocjlnjgkeaaPkBG
import Derived.Test.YtjomocjlnjgkeaaPkAR
namespace Go.Proofs.Ytjomocjlnjgkeaa

theorem uses_abs (y x : List UInt8) : ∀ t : Tm, Tm.uses y (Tm.abs x t) = if y = x then 0 else Tm.uses y t
  | .k => by simp [Tm.abs, Tm.uses]
  | .s => by simp [Tm.abs, Tm.uses]
  | .nm n => by
    by_cases hn : n = x
    · subst hn
      by_cases hy : y = n
      · simp [Tm.abs, Tm.uses, Tm.I, hy]
      · have : ¬ n = y := fun e => hy e.symm
        simp [Tm.abs, Tm.uses, Tm.I, hy, this]
    · by_cases hy : y = x
      · subst hy; simp [Tm.abs, Tm.uses, hn]
      · simp [Tm.abs, Tm.uses, hn, hy]
  | .app f a => by
    have hf := uses_abs y x f
    have ha := uses_abs y x a
    rw [Tm.abs]
    split
    · rename_i h
      by_cases hy : y = x
      · subst hy; rw [if_pos rfl]; simpa [Tm.uses] using h
      · rw [if_neg hy]; simp [Tm.uses]
    · split
      · rename_i h
        obtain ⟨h1, h2⟩ := h
        cases a with
        | nm n =>
          simp only [Tm.isNm, beq_iff_eq] at h1
          subst h1
          by_cases hy : y = n
          · subst hy; rw [if_pos rfl]; exact h2
          · have : ¬ n = y := fun e => hy e.symm
            rw [if_neg hy]; simp [Tm.uses, this]
        | k => simp [Tm.isNm] at h1
        | s => simp [Tm.isNm] at h1
        | app _ _ => simp [Tm.isNm] at h1
      · simp only [Tm.uses, hf, ha]
        split <;> simp

theorem abs_ge (x : List UInt8) : ∀ t : Tm, t.size ≤ (Tm.abs x t).size + 1 ∧ t.depth ≤ (Tm.abs x t).depth + 1
  | .k => by simp [Tm.abs, Tm.size, Tm.depth]
  | .s => by simp [Tm.abs, Tm.size, Tm.depth]
  | .nm n => by simp [Tm.size, Tm.depth]
  | .app f a => by
    obtain ⟨f1, f2⟩ := abs_ge x f
    obtain ⟨a1, a2⟩ := abs_ge x a
    rw [Tm.abs]
    split
    · simp only [Tm.size, Tm.depth]; omega
    · split
      · rename_i h
        obtain ⟨h1, h2⟩ := h
        cases a with
        | nm n => simp only [Tm.size, Tm.depth]; omega
        | k => simp [Tm.isNm] at h1
        | s => simp [Tm.isNm] at h1
        | app _ _ => simp [Tm.isNm] at h1
      · simp only [Tm.size, Tm.depth]; omega

/-- The abstraction of names, the first of the list first. -/
def absR : List (List UInt8) → Tm → Tm
  | [], t => t
  | x :: xs, t => absR xs (Tm.abs x t)

theorem uses_absR (y : List UInt8) : ∀ (xs : List (List UInt8)) (t : Tm), Tm.uses y (absR xs t) = if y ∈ xs then 0 else Tm.uses y t
  | [], t => by simp [absR]
  | x :: xs, t => by
    rw [absR, uses_absR y xs, uses_abs]
    by_cases h : y = x <;> by_cases g : y ∈ xs <;> simp [h, g]

theorem absR_ge : ∀ (xs : List (List UInt8)) (t : Tm), t.size ≤ (absR xs t).size + xs.length ∧ t.depth ≤ (absR xs t).depth + xs.length
  | [], t => by simp [absR]
  | x :: xs, t => by
    obtain ⟨h1, h2⟩ := absR_ge xs (Tm.abs x t)
    obtain ⟨g1, g2⟩ := abs_ge x t
    simp only [absR, List.length_cons]
    omega

theorem absR_good : ∀ (xs : List (List UInt8)) {t : Tm}, t.good = true → (absR xs t).good = true
  | [], _, h => h
  | x :: xs, _, h => absR_good xs (abs_good x h)

theorem lastL_absR : ∀ (xs : List (List UInt8)) (t : Tm), (absR xs t).size + xs.length ≤ 3000 → (absR xs t).depth + xs.length ≤ 1500 → lastL xs t = absR xs t
  | [], _, _, _ => rfl
  | x :: xs, t, h1, h2 => by
    simp only [absR, List.length_cons] at h1 h2
    obtain ⟨g1, g2⟩ := absR_ge xs (Tm.abs x t)
    have hf : (Tm.abs x t).fits = true := by simp [Tm.fits]; omega
    rw [lastL, if_pos hf, absR]
    exact lastL_absR xs _ (by omega) (by omega)

/-- Without names. -/
def Closed (t : Tm) : Prop := ∀ y, Tm.uses y t = 0

theorem abs_closed {t : Tm} (h : Closed t) (x : List UInt8) : Tm.abs x t = .app .k t := Tm.abs_none x t (h x)

namespace FT
open Tm (X Y Z I no succ fix)

def U : Tm := .nm [117]
def V : Tm := .nm [118]
def ns (a : Nat) : List (List UInt8) := [[120], [121], [122]].take a
def vs (a : Nat) : List Tm := [X, Y, Z].take a
/-- The abstraction of a list of names, the last of the list first. -/
def absAll (xs : List (List UInt8)) (t : Tm) : Tm := absR xs.reverse t
def appL (f : Tm) (us : List Tm) : Tm := us.foldl Tm.app f

def comp1 (F G : Tm) (a : Nat) : Tm := Tm.app F (appL G (vs a))
def comp2 (F G H : Tm) (a : Nat) : Tm := Tm.app (Tm.app F (appL G (vs a))) (appL H (vs a))
def comp3 (F G H J : Tm) (a : Nat) : Tm := Tm.app (Tm.app (Tm.app F (appL G (vs a))) (appL H (vs a))) (appL J (vs a))
def less : Tm := Tm.app V no
def recB (F G : Tm) (a : Nat) : Tm := Tm.app (Tm.app (Tm.app V .k) (appL F (vs a))) (appL (Tm.app (Tm.app G less) (appL (Tm.app U less) (vs a))) (vs a))
def seaB (F : Tm) (a : Nat) : Tm := Tm.app (Tm.app (Tm.app (appL (Tm.app F V) (vs a)) .k) V) (Tm.app U (Tm.app succ V))
def recT (F G : Tm) (a : Nat) : Tm := Tm.app fix (absAll ([117] :: [118] :: ns a) (recB F G a))
def seaT (F : Tm) (a : Nat) : Tm := absAll (ns a) (Tm.app (Tm.app fix (absAll [[117], [118]] (seaB F a))) I)

def real : FT → Tm
  | z a => absAll (ns a) I
  | inc => succ
  | p i a => absAll (ns a) ((vs a).getD i .k)
  | c1 f g => absAll (ns (arity g)) (comp1 (real f) (real g) (arity g))
  | c2 f g h => absAll (ns (arity g)) (comp2 (real f) (real g) (real h) (arity g))
  | c3 f g h i => absAll (ns (arity g)) (comp3 (real f) (real g) (real h) (real i) (arity g))
  | r f g => recT (real f) (real g) (arity f)
  | m f => seaT (real f) (arity f - 1)

/-- How far a term may be from 63 for each atom. -/
def off : Nat → Int
  | 0 => 16
  | 1 => 21
  | 2 => 2
  | _ => -57

theorem closed_fix : Closed fix := fun y => by
  by_cases h1 : y = [120]
  · subst h1; decide +kernel
  · by_cases h2 : y = [121]
    · subst h2; decide +kernel
    · have e : ∀ t : Tm, Tm.uses y (Tm.abs [120] (Tm.abs [121] t)) = Tm.uses y t := fun t => by rw [uses_abs, if_neg h1, uses_abs, if_neg h2]
      have h3 : ¬ ([120] : List UInt8) = y := fun e => h1 e.symm
      have h4 : ¬ ([121] : List UInt8) = y := fun e => h2 e.symm
      simp [Tm.fix, Tm.half, Tm.uses, e, X, Y, h3, h4]
theorem closed_succ : Closed succ := fun y => by
  by_cases h1 : y = [120]
  · subst h1; decide +kernel
  · have h3 : ¬ ([120] : List UInt8) = y := fun e => h1 e.symm
    simp [Tm.succ, uses_abs, h1, Tm.pair, Tm.uses, Tm.I, Tm.no, X, h3]

theorem size_fix : fix.size = 26 := by decide +kernel
theorem depth_fix : fix.depth = 7 := by decide +kernel
theorem size_succ : succ.size = 13 := by decide +kernel
theorem depth_succ : succ.depth = 9 := by decide +kernel

theorem three {P : Nat → Prop} (h0 : P 0) (h1 : P 1) (h2 : P 2) (h3 : P 3) : ∀ a, a ≤ 3 → P a
  | 0, _ => h0
  | 1, _ => h1
  | 2, _ => h2
  | 3, _ => h3

set_option maxRecDepth 10000

theorem comp1_facts {F G : Tm} (hF : Closed F) (hG : Closed G) : ∀ a, a ≤ 3 → (absAll (ns a) (comp1 F G a)).size ≤ F.size + G.size + (2 * a) ∧ (absAll (ns a) (comp1 F G a)).depth ≤ max F.depth G.depth + 27 := by
  have e : ∀ x, Tm.uses x F = 0 := hF
  have e' : ∀ x, Tm.uses x G = 0 := hG
  refine three ?_ ?_ ?_ ?_ <;>
    simp [absAll, absR, ns, vs, comp1, appL, Tm.abs, abs_closed hF, Tm.uses, e, e', Tm.isNm, X, Y, Z, Tm.size, Tm.depth] <;> omega

theorem comp2_facts {F G H : Tm} (hF : Closed F) (hG : Closed G) (hH : Closed H) : ∀ a, a ≤ 3 → (absAll (ns a) (comp2 F G H a)).size ≤ F.size + G.size + H.size + [0, 3, 8, 15].getD a 0 ∧ (absAll (ns a) (comp2 F G H a)).depth ≤ max (max F.depth G.depth) H.depth + 27 := by
  have e : ∀ x, Tm.uses x F = 0 := hF
  have e' : ∀ x, Tm.uses x G = 0 := hG
  have e'' : ∀ x, Tm.uses x H = 0 := hH
  refine three ?_ ?_ ?_ ?_ <;>
    simp [absAll, absR, ns, vs, comp2, appL, Tm.abs, abs_closed hF, Tm.uses, e, e', e'', Tm.isNm, X, Y, Z, Tm.size, Tm.depth] <;> omega

theorem comp3_facts {F G H J : Tm} (hF : Closed F) (hG : Closed G) (hH : Closed H) (hJ : Closed J) : ∀ a, a ≤ 3 → (absAll (ns a) (comp3 F G H J a)).size ≤ F.size + G.size + H.size + J.size + [0, 4, 12, 24].getD a 0 ∧ (absAll (ns a) (comp3 F G H J a)).depth ≤ max (max (max F.depth G.depth) H.depth) J.depth + 27 := by
  have e : ∀ x, Tm.uses x F = 0 := hF
  have e' : ∀ x, Tm.uses x G = 0 := hG
  have e'' : ∀ x, Tm.uses x H = 0 := hH
  have e3 : ∀ x, Tm.uses x J = 0 := hJ
  refine three ?_ ?_ ?_ ?_ <;>
    simp [absAll, absR, ns, vs, comp3, appL, Tm.abs, abs_closed hF, Tm.uses, e, e', e'', e3, Tm.isNm, X, Y, Z, Tm.size, Tm.depth] <;> omega

theorem rec_facts {F G : Tm} (hF : Closed F) (hG : Closed G) (a : Nat) (ha : a ≤ 1) : (recT F G a).size ≤ F.size + G.size + [66, 95].getD a 0 ∧ (recT F G a).depth ≤ max F.depth G.depth + 27 := by
  have e : ∀ x, Tm.uses x F = 0 := hF
  have e' : ∀ x, Tm.uses x G = 0 := hG
  have s1 := size_fix
  have s2 := depth_fix
  match a, ha with
  | 0, _ =>
    simp [recT, recB, less, absAll, absR, ns, vs, appL, Tm.abs, abs_closed hF, abs_closed hG, Tm.uses, e, e', Tm.isNm, X, Y, Z, U, V, Tm.size, Tm.depth, I, no, s1, s2]
    omega
  | 1, _ =>
    simp [recT, recB, less, absAll, absR, ns, vs, appL, Tm.abs, abs_closed hF, abs_closed hG, Tm.uses, e, e', Tm.isNm, X, Y, Z, U, V, Tm.size, Tm.depth, I, no, s1, s2]
    omega

theorem sea_facts {F : Tm} (hF : Closed F) (a : Nat) (ha : a ≤ 2) : (seaT F a).size ≤ F.size + [58, 82, 122].getD a 0 ∧ (seaT F a).depth ≤ F.depth + 27 := by
  have e : ∀ x, Tm.uses x F = 0 := hF
  have s1 := size_fix
  have s2 := depth_fix
  have s3 := size_succ
  have s4 := depth_succ
  have e1 : ∀ x, Tm.uses x succ = 0 := closed_succ
  have e2 : ∀ x, Tm.uses x fix = 0 := closed_fix
  match a, ha with
  | 0, _ =>
    simp [seaT, seaB, absAll, absR, ns, vs, appL, Tm.abs, abs_closed closed_succ, Tm.uses, e, e1, Tm.isNm, X, Y, Z, U, V, Tm.size, Tm.depth, I, s1, s2, s3, s4]
    omega
  | 1, _ =>
    simp [seaT, seaB, absAll, absR, ns, vs, appL, Tm.abs, abs_closed closed_fix, abs_closed closed_succ, Tm.uses, e, e1, e2, Tm.isNm, X, Y, Z, U, V, Tm.size, Tm.depth, I, s1, s2, s3, s4]
    omega
  | 2, _ =>
    simp [seaT, seaB, absAll, absR, ns, vs, appL, Tm.abs, abs_closed closed_fix, abs_closed closed_succ, Tm.uses, e, e1, e2, Tm.isNm, X, Y, Z, U, V, Tm.size, Tm.depth, I, s1, s2, s3, s4]
    omega

theorem uses_appL (y : List UInt8) (f : Tm) (us : List Tm) : Tm.uses y (appL f us) = Tm.uses y f + (us.map (Tm.uses y)).sum := by
  unfold appL
  induction us generalizing f with
  | nil => simp
  | cons u us ih => rw [List.foldl_cons, ih]; simp [Tm.uses]; omega

theorem good_appL (f : Tm) (us : List Tm) (hf : f.good = true) (hu : ∀ u ∈ us, u.good = true) : (appL f us).good = true := by
  unfold appL
  induction us generalizing f with
  | nil => exact hf
  | cons u us ih => rw [List.foldl_cons]; exact ih _ (by simp [Tm.good, hf, hu u (by simp)]) (fun v hv => hu v (by simp [hv]))

theorem good_vs (a : Nat) : ∀ u ∈ vs a, u.good = true := by
  intro u hu
  have := List.mem_of_mem_take hu
  simp at this
  rcases this with rfl | rfl | rfl <;> decide

theorem nm_ne {y n : List UInt8} (h : y ≠ n) : Tm.uses y (.nm n) = 0 := by simp only [Tm.uses]; rw [if_neg (fun e => h e.symm)]

theorem uses_vs1 {y : List UInt8} : ∀ a, y ∉ ns a → ∀ u ∈ vs a, Tm.uses y u = 0
  | 0, _, u, hu => by simp [vs] at hu
  | 1, h, u, hu => by
    simp only [vs, ns, List.take_succ_cons, List.take_zero, List.mem_cons, List.not_mem_nil, or_false] at hu h
    subst hu
    exact nm_ne h
  | 2, h, u, hu => by
    simp only [vs, ns, List.take_succ_cons, List.take_zero, List.mem_cons, List.not_mem_nil, or_false, not_or] at hu h
    rcases hu with rfl | rfl
    · exact nm_ne h.1
    · exact nm_ne h.2
  | a + 3, h, u, hu => by
    simp only [vs, ns, List.take_succ_cons, List.take_nil, List.mem_cons, List.not_mem_nil, or_false, not_or] at hu h
    rcases hu with rfl | rfl | rfl
    · exact nm_ne h.1
    · exact nm_ne h.2.1
    · exact nm_ne h.2.2

theorem sum_zero : ∀ {l : List Nat}, (∀ x ∈ l, x = 0) → l.sum = 0
  | [], _ => rfl
  | x :: l, h => by rw [List.sum_cons, h x (by simp), sum_zero fun y hy => h y (by simp [hy])]

theorem uses_vs {y : List UInt8} {a : Nat} (h : y ∉ ns a) : ((vs a).map (Tm.uses y)).sum = 0 := sum_zero fun n hn => by
  obtain ⟨u, hu, rfl⟩ := List.mem_map.1 hn
  exact uses_vs1 a h u hu

theorem absAll_closed {xs : List (List UInt8)} {t : Tm} (h : ∀ y, y ∉ xs → Tm.uses y t = 0) : Closed (absAll xs t) := fun y => by
  unfold absAll
  rw [uses_absR]
  split
  · rfl
  · rename_i hy; exact h y (fun e => hy (List.mem_reverse.2 e))

theorem real_closed : ∀ {t : FT}, ok t → Closed (real t)
  | z a, _ => absAll_closed fun y _ => by simp [I, Tm.uses]
  | inc, _ => closed_succ
  | p i a, h => absAll_closed fun y hy => by
    have hl : (vs a)[i]? = some ((vs a).getD i .k) := by
      have : i < (vs a).length := by simp [vs]; have := h.1; have := h.2; omega
      simp [List.getD_eq_getElem?_getD, List.getElem?_eq_getElem this]
    exact uses_vs1 a hy _ (List.mem_of_getElem? hl)
  | c1 f g, h => absAll_closed fun y hy => by simp [comp1, Tm.uses, uses_appL, uses_vs hy, real_closed h.1 y, real_closed h.2.1 y]
  | c2 f g k, h => absAll_closed fun y hy => by simp [comp2, Tm.uses, uses_appL, uses_vs hy, real_closed h.1 y, real_closed h.2.1 y, real_closed h.2.2.1 y]
  | c3 f g k l, h => absAll_closed fun y hy => by simp [comp3, Tm.uses, uses_appL, uses_vs hy, real_closed h.1 y, real_closed h.2.1 y, real_closed h.2.2.1 y, real_closed h.2.2.2.1 y]
  | r f g, h => fun y => by
    have : Closed (absAll ([117] :: [118] :: ns (arity f)) (recB (real f) (real g) (arity f))) := absAll_closed fun y hy => by
      simp only [List.mem_cons, not_or] at hy
      simp [recB, less, Tm.uses, uses_appL, uses_vs hy.2.2, real_closed h.1 y, real_closed h.2.1 y, U, V, no, I]
      simp [Ne.symm hy.1, Ne.symm hy.2.1]
    simp [real, recT, Tm.uses, closed_fix y, this y]
  | m f, h => absAll_closed fun y hy => by
    have : Tm.uses y (absAll [[117], [118]] (seaB (real f) (arity f - 1))) = 0 := by
      unfold absAll
      rw [uses_absR]
      split
      · rfl
      · rename_i hn
        simp only [List.reverse_cons, List.reverse_nil, List.nil_append, List.cons_append, List.mem_cons, List.not_mem_nil, or_false, not_or] at hn
        simp [seaB, Tm.uses, uses_appL, uses_vs hy, real_closed h.1 y, U, V, closed_succ y]
        simp [Ne.symm hn.1, Ne.symm hn.2]
    simp [Tm.uses, closed_fix y, this, I]

theorem real_good : ∀ {t : FT}, ok t → (real t).good = true
  | z a, _ => absR_good _ rfl
  | inc, _ => by decide +kernel
  | p i a, h => absR_good _ (by
    have : i < (vs a).length := by simp [vs]; have := h.1; have := h.2; omega
    rw [List.getD_eq_getElem?_getD, List.getElem?_eq_getElem this]
    exact good_vs a _ (List.getElem_mem this))
  | c1 f g, h => absR_good _ (by simp [comp1, Tm.good, real_good h.1, good_appL _ _ (real_good h.2.1) (good_vs _)])
  | c2 f g k, h => absR_good _ (by simp [comp2, Tm.good, real_good h.1, good_appL _ _ (real_good h.2.1) (good_vs _), good_appL _ _ (real_good h.2.2.1) (good_vs _)])
  | c3 f g k l, h => absR_good _ (by simp [comp3, Tm.good, real_good h.1, good_appL _ _ (real_good h.2.1) (good_vs _), good_appL _ _ (real_good h.2.2.1) (good_vs _), good_appL _ _ (real_good h.2.2.2.1) (good_vs _)])
  | r f g, h => by
    have hl : (Tm.app U less).good = true := by decide +kernel
    have hl' : less.good = true := by decide +kernel
    have : (recB (real f) (real g) (arity f)).good = true := by
      simp [recB, Tm.good, good_appL _ _ (real_good h.1) (good_vs _), good_appL (Tm.app (Tm.app (real g) less) (appL (Tm.app U less) (vs (arity f)))) _ (by simp [Tm.good, real_good h.2.1, hl', good_appL _ _ hl (good_vs _)]) (good_vs _)]
      decide +kernel
    have hf : fix.good = true := by decide +kernel
    have ha : (absAll ([117] :: [118] :: ns (arity f)) (recB (real f) (real g) (arity f))).good = true := absR_good _ this
    simp [real, recT, Tm.good, hf, ha]
  | m f, h => absR_good _ (by
    have hf : fix.good = true := by decide +kernel
    have hs : succ.good = true := by decide +kernel
    have hv : V.good = true := by decide +kernel
    have hu : U.good = true := by decide +kernel
    have : (seaB (real f) (arity f - 1)).good = true := by simp [seaB, Tm.good, good_appL (Tm.app (real f) V) _ (by simp [Tm.good, real_good h.1, hv]) (good_vs _), hs, hv, hu]
    have ha : (absAll [[117], [118]] (seaB (real f) (arity f - 1))).good = true := absR_good _ this
    simp [Tm.good, hf, ha, I])

/-- How large a realizer is. -/
def Small (t : FT) : Prop := ((real t).size : Int) ≤ 63 * size t + off (arity t) ∧ (real t).depth ≤ 27 * size t

theorem word_small (a : Nat) (ha : a ≤ 3) : (absAll (ns a) I).size = 3 + a ∧ (absAll (ns a) I).depth = 2 + a := by
  revert ha; revert a
  exact three (by decide +kernel) (by decide +kernel) (by decide +kernel) (by decide +kernel)

theorem small_r {F G : Tm} {a m n : Nat} (hF : Closed F) (hG : Closed G) (ha : a ≤ 1) (f1 : (F.size : Int) ≤ 63 * m + off a) (f2 : F.depth ≤ 27 * m) (g1 : (G.size : Int) ≤ 63 * n + off (a + 2)) (g2 : G.depth ≤ 27 * n) :
    ((recT F G a).size : Int) ≤ 63 * ((1 + (m + n) : Nat) : Int) + off (a + 1) ∧ (recT F G a).depth ≤ 27 * (1 + (m + n)) := by
  obtain ⟨q1, q2⟩ := rec_facts hF hG a ha
  generalize recT F G a = T at *
  obtain rfl | rfl : a = 0 ∨ a = 1 := by omega
  · have e0 : off 0 = 16 := rfl
    have e1 : off (0 + 1) = 21 := rfl
    have e2 : off (0 + 2) = 2 := rfl
    have q : [66, 95].getD 0 0 = 66 := rfl
    rw [q] at q1
    rw [e0] at f1
    rw [e2] at g1
    rw [e1]
    omega
  · have e0 : off 1 = 21 := rfl
    have e1 : off (1 + 1) = 2 := rfl
    have e2 : off (1 + 2) = -57 := rfl
    have q : [66, 95].getD 1 0 = 95 := rfl
    rw [q] at q1
    rw [e0] at f1
    rw [e2] at g1
    rw [e1]
    omega

theorem small_m {F : Tm} {a m : Nat} (hF : Closed F) (h0 : 0 < a) (ha : a ≤ 3) (f1 : (F.size : Int) ≤ 63 * m + off a) (f2 : F.depth ≤ 27 * m) :
    ((seaT F (a - 1)).size : Int) ≤ 63 * ((1 + m : Nat) : Int) + off (a - 1) ∧ (seaT F (a - 1)).depth ≤ 27 * (1 + m) := by
  obtain ⟨q1, q2⟩ := sea_facts hF (a - 1) (by omega)
  generalize seaT F (a - 1) = T at *
  obtain rfl | rfl | rfl : a = 1 ∨ a = 2 ∨ a = 3 := by omega
  · have e0 : off 1 = 21 := rfl
    have e1 : off (1 - 1) = 16 := rfl
    have q : [58, 82, 122].getD (1 - 1) 0 = 58 := rfl
    rw [q] at q1
    rw [e0] at f1
    rw [e1]
    omega
  · have e0 : off 2 = 2 := rfl
    have e1 : off (2 - 1) = 21 := rfl
    have q : [58, 82, 122].getD (2 - 1) 0 = 82 := rfl
    rw [q] at q1
    rw [e0] at f1
    rw [e1]
    omega
  · have e0 : off 3 = -57 := rfl
    have e1 : off (3 - 1) = 2 := rfl
    have q : [58, 82, 122].getD (3 - 1) 0 = 122 := rfl
    rw [q] at q1
    rw [e0] at f1
    rw [e1]
    omega

theorem real_small {t : FT} : ok t → Small t := by
  induction t with
  | z a =>
    intro h
    obtain ⟨h1, h2⟩ := word_small a h
    simp only [Small, real, size, arity, h1, h2]
    have h : a ≤ 3 := h
    match a, h with
    | 0, _ => simp [off]
    | 1, _ => simp [off]
    | 2, _ => simp [off]
    | 3, _ => simp [off]
  | inc =>
    intro _
    have := size_succ
    have := depth_succ
    simp only [Small, real, size, arity, off]
    omega
  | p i a =>
    intro h
    obtain ⟨h1, h2⟩ := h
    simp only [Small, real, size, arity]
    match a, h2 with
    | 0, _ => omega
    | 1, _ => match i, h1 with | 0, _ => decide +kernel
    | 2, _ => match i, h1 with
      | 0, _ => decide +kernel
      | 1, _ => decide +kernel
    | 3, _ => match i, h1 with
      | 0, _ => decide +kernel
      | 1, _ => decide +kernel
      | 2, _ => decide +kernel
  | c1 f g ihf ihg =>
    intro h
    obtain ⟨h1, h2, h3⟩ := h
    obtain ⟨f1, f2⟩ := ihf h1
    obtain ⟨g1, g2⟩ := ihg h2
    have ha := arity_le h2
    obtain ⟨q1, q2⟩ := comp1_facts (real_closed h1) (real_closed h2) _ ha
    rw [h3] at f1
    simp only [Small, real, size, arity, off] at *
    omega
  | c2 f g k ihf ihg ihk =>
    intro h
    obtain ⟨h1, h2, h3, h4, h5⟩ := h
    obtain ⟨f1, f2⟩ := ihf h1
    obtain ⟨g1, g2⟩ := ihg h2
    obtain ⟨k1, k2⟩ := ihk h3
    have ha := arity_le h2
    obtain ⟨q1, q2⟩ := comp2_facts (real_closed h1) (real_closed h2) (real_closed h3) _ ha
    rw [h4] at f1
    rw [h5] at k1
    simp only [Small, real, size, arity] at *
    generalize arity g = a at *
    match a, ha with
    | 0, _ => simp [off] at *; omega
    | 1, _ => simp [off] at *; omega
    | 2, _ => simp [off] at *; omega
    | 3, _ => simp [off] at *; omega
  | c3 f g k l ihf ihg ihk ihl =>
    intro h
    obtain ⟨h1, h2, h3, h4, h5, h6, h7⟩ := h
    obtain ⟨f1, f2⟩ := ihf h1
    obtain ⟨g1, g2⟩ := ihg h2
    obtain ⟨k1, k2⟩ := ihk h3
    obtain ⟨l1, l2⟩ := ihl h4
    have ha := arity_le h2
    obtain ⟨q1, q2⟩ := comp3_facts (real_closed h1) (real_closed h2) (real_closed h3) (real_closed h4) _ ha
    rw [h5] at f1
    rw [h6] at k1
    rw [h7] at l1
    simp only [Small, real, size, arity] at *
    generalize arity g = a at *
    match a, ha with
    | 0, _ => simp [off] at *; omega
    | 1, _ => simp [off] at *; omega
    | 2, _ => simp [off] at *; omega
    | 3, _ => simp [off] at *; omega
  | r f g ihf ihg =>
    intro h
    obtain ⟨h1, h2, h3⟩ := h
    obtain ⟨f1, f2⟩ := ihf h1
    obtain ⟨g1, g2⟩ := ihg h2
    have ha : arity f ≤ 1 := by have := arity_le h2; omega
    exact small_r (real_closed h1) (real_closed h2) ha f1 f2 (by rw [h3] at g1; exact g1) g2
  | m f ihf =>
    intro h
    obtain ⟨h1, h2⟩ := h
    obtain ⟨f1, f2⟩ := ihf h1
    exact small_m (real_closed h1) h2 (arity_le h1) f1 f2

theorem real_fits {t : FT} (h : ok t) (hs : size t ≤ 40) : (real t).size ≤ 2541 ∧ (real t).depth ≤ 1080 ∧ (real t).fits = true := by
  obtain ⟨h1, h2⟩ := real_small h
  have ho : off (arity t) ≤ 21 := by
    have := arity_le h
    generalize arity t = a at *
    match a, this with
    | 0, _ => simp [off]
    | 1, _ => simp [off]
    | 2, _ => simp [off]
    | 3, _ => simp [off]
  have e1 : (real t).size ≤ 2541 := by omega
  have e2 : (real t).depth ≤ 1080 := by omega
  exact ⟨e1, e2, by simp [Tm.fits]; omega⟩

end FT
end Go.Proofs.Ytjomocjlnjgkeaa

namespace Go.Proofs.Ytjomocjlnjgkeaa
open Go.RowKit Go.Shelf

attribute [local go_sem] Oper.semAt_some

theorem absR_snoc (x : List UInt8) : ∀ (xs : List (List UInt8)) (t : Tm), absR (xs ++ [x]) t = Tm.abs x (absR xs t)
  | [], _ => rfl
  | y :: ys, t => by simp only [List.cons_append, absR]; exact absR_snoc x ys _

theorem absR_size : ∀ (xs : List (List UInt8)) (t : Tm), (absR xs t).size ≤ 4 ^ xs.length * t.size
  | [], t => by simp [absR]
  | x :: xs, t => by
    have h1 := absR_size xs (Tm.abs x t)
    have h2 := abs_size x t
    simp only [absR, List.length_cons, Nat.pow_succ]
    calc (absR xs (Tm.abs x t)).size ≤ 4 ^ xs.length * (Tm.abs x t).size := h1
      _ ≤ 4 ^ xs.length * (4 * t.size) := Nat.mul_le_mul_left _ (by omega)
      _ = 4 ^ xs.length * 4 * t.size := by rw [Nat.mul_assoc]

theorem absR_small (xs : List (List UInt8)) (t : Tm) (h5 : xs.length < 5) (hz : t.size ≤ 3900) : (absR xs t).size ≤ 1000000 := by
  have h1 := absR_size xs t
  have h3 : 4 ^ xs.length ≤ 4 ^ 4 := Nat.pow_le_pow_right (by decide) (by omega)
  have h4 : 4 ^ xs.length * t.size ≤ 256 * 3900 := Nat.mul_le_mul h3 hz
  omega

set_option maxRecDepth 100000 in
set_option maxHeartbeats 2000000 in
theorem absAll_any (w : World) (B : Nat) (names : List (List UInt8)) (sv : Value) (t : Tm) (v : Value) (hI : StrsB w.heap.size w sv names) (hT : TV w B t v) (hB : B ≤ w.heap.size) (hlen : names.length ≤ 5) (hz : t.size ≤ 3900) :
    Calls Try.prog 118 #[sv, v] w (TermPost w B (FT.absAll names t)) := by
  obtain ⟨T, x, rfl, _⟩ := hT.asks
  obtain ⟨ao, cap, rfl⟩ : ∃ ao cap, sv = .slice ao names.length cap := by
    rcases hI with ⟨ao, cap, rfl, rfl⟩ | ⟨b, off, cap, rfl, _⟩
    · exact ⟨_, _, rfl⟩
    · exact ⟨_, _, rfl⟩
  refine (callsIn_wide (n := 3)).1 ?_
  refine callsIn_of_wp_marks Try.func118 rfl trivial ?_ rfl
  simp only [Try.ntmps118, List.size_toArray, List.length_cons, List.length_nil, Nat.reduceAdd, Nat.reduceSub, Array.replicate_succ, Array.replicate_zero, List.push_toArray, List.append_toArray, List.nil_append, List.cons_append]
  gi_wp2_with (refine ⟨trivial, ?_⟩; gi_at_call 90; refine (back_in Fence.wide 2 trivial rfl _ _ _ _).mono ?_; rintro e w' ⟨rfl, rfl⟩)
  have b0 := Boxed.new w 46 (.iface T x)
  have b3 := Boxed.new (w.alloc (.cells #[.iface T x] 46)) 43 (.slice ao names.length cap)
  simp only [World.size_alloc] at b3
  have hB0 : Below w.heap.size w ((w.alloc (.cells #[.iface T x] 46)).alloc (.cells #[.slice ao names.length cap] 43)) := below_alloc (below_alloc (Below.refl _ _) _) _
  have hI' : StrsB w.heap.size ((w.alloc (.cells #[.iface T x] 46)).alloc (.cells #[.slice ao names.length cap] 43)) (.slice ao names.length cap) names := by
    rcases hI with h | ⟨b, off, cap', e, hb, hc⟩
    · exact Or.inl h
    · exact Or.inr ⟨b, off, cap', e, hb, fun j hj => cell_later' (hc j hj) _ hB0⟩
  refine wpIn_rangeFunc_ownG rfl (by omega) (gf := 104) (lb := #[.pointer (some ⟨w.heap.size + 1, 0, none⟩)]) rfl trivial (enters_of Try.func104 (by kernel_rfl) rfl)
    (back_stops Fence.wide 2 trivial rfl (by omega) (w.heap.size + 1) w.heap.size _ names (by omega) _ (by simp) (by simp; omega) b3.cell hI') KeepB.trans (keepB_b (by simp; omega) (by simp)) (Below.refl _ _) (fun _ => rfl)
    (fun pre W => (∃ u vu, absR (pre.map Prod.snd) t = u ∧ TV W B u vu ∧ Boxed W w.heap.size 46 vu ∧ w.heap.size + 1 < W.heap.size) ∧ Below w.heap.size w W)
    (fun _ _ _ => False)
    (OwnFrom.and (Own.from (fun s A C row hs hg hr => by
      obtain ⟨u, vu, h1, h3, h4, h7⟩ := hs
      exact ⟨u, vu, h1, h3.grownCells hg hr, box_kept h4 hg hr, Nat.lt_of_lt_of_le h7 hg.size⟩) _) (ownFrom_below (Nat.le_refl _) (by simp; omega)))
    (fun c => Own.from (fun s A C row hs hg hr => hs) _)
    ⟨⟨t, .iface T x, rfl, hT.below hB0, b0.alloc _, by simp⟩, hB0⟩
    (fun p => { tmps := #[.slice ao names.length cap, .iface T x, undef, .pointer (some ⟨w.heap.size, 0, none⟩), .nilIface, undef, str p.2, .slice ao names.length cap, .func (.func 104) #[] #[.pointer (some ⟨w.heap.size + 1, 0, none⟩)], .int .i64 (p.1 : Int), str p.2, undef, undef, undef, undef], defers := [] }) ?assign ?body ?done ?stop
  case assign =>
    intro l p W K hK
    gi_wp2
    exact hK
  case body =>
    rintro l pre p W ⟨⟨u, vu, h1, h3, h4, h7⟩, hBw⟩ hlt
    obtain ⟨T', x', rfl, _⟩ := h3.asks
    have c0 := h4.cell
    have hus : u.size ≤ 1000000 := by
      rw [← h1]
      exact absR_small _ _ (by rw [List.length_map]; omega) hz
    have hBW := Nat.le_trans hB hBw.size
    have hcall := abstraction_any W B p.2 u _ h3 hBW hus
    unfold TermPost at hcall
    gi_wp2_with (refine ⟨trivial, ?_⟩; gi_at_call 91; refine (CallsIn.inRound l (callsIn_wide.2 hcall)).mono ?_; rintro e w1 ⟨v1, rfl, hb1, ht1⟩; obtain ⟨T1, x1, rfl, _⟩ := ht1.asks; have g4 := box_later h4 hb1; have gc := g4.cell; have gf := g4.frozen; clear c0)
    have ht2 := TV.boxSet (u := .iface T1 x1) ht1 g4
    have e0 := Boxed.set (.iface T1 x1) g4
    have hs1 := hb1.size
    have hnext : absR ((pre ++ [p]).map Prod.snd) t = Tm.abs p.2 u := by
      rw [List.map_append, List.map_singleton, absR_snoc, h1]
    refine ⟨((keepsOthers_below hb1).trans (KeepsOthers.setCell _ _ _)).from _, (keepB_below hb1 (by omega) (by omega)).trans (keepB_set _ (Nat.le_refl _) (by omega)), ⟨Tm.abs p.2 u, .iface T1 x1, hnext, ht2, e0, by simp [World.setCell]; omega⟩, ?_⟩
    exact (hBw.trans (hb1.mono hBw.size)).trans ((Below.refl w.heap.size w1).setCell (p := ⟨w.heap.size, 0, none⟩) (Nat.le_refl _) _)
  case done =>
    rintro D ys W hD rfl ⟨⟨u, vu, h1, h3, h4, h7⟩, hBw⟩ hK
    rw [back_take _ _ (Nat.le_refl _), List.take_of_length_le (by simp)] at h1
    obtain ⟨T', x', rfl, _⟩ := h3.asks
    have c4 := h4.cell
    have HN := Lib.hid h1
    clear h1
    gi_wp2
    refine ⟨by simp, .inl ⟨_, _, rfl, run_takeDeferred hK, ?_⟩⟩
    have ht := TV.grownCells h3 (grownBy_putObj' _ D (.deferred none)) (fun r e => by cases e; exact ⟨_, hK, rfl⟩)
    refine ⟨.iface T' x', ?_, .iface T' x', rfl, ?_, ?_⟩
    · simp [results, Try.results118, go_sem]
    · exact hBw.trans (belowK_b (w := w) (Nat.le_refl _) _ D _ _ (by simp at hD; omega) hK rfl rfl)
    · unfold FT.absAll
      rw [HN.out]
      exact ht
  case stop => rintro D c pre W hD ⟨k, hk, rfl⟩ h hK; exact h.elim
end Go.Proofs.Ytjomocjlnjgkeaa
