/-
  Which trees are expressions and formulas, as the model asks; that both readers take the same texts. No program is named here.
-/
import Derived.Test.YtdjoafnohkmneaaGreatDoorPkD
import Derived.Test.YtdjoafnohkmneaaGreatDoorPkA
import Derived.Test.YtdjoafnohkmneaaGreatDoorTie
import Derived.LaidMore
import Derived.LaidHandle
import Derived.MakeChecks
import Derived.Stop.LaidErr
import Derived.Lib.LaidTab
import Derived.Test.YtdjoafnohkmneaaGreatDoorPkC
import Derived.OwnWalk
import Derived.Laws.OwnMore
import Derived.Lib.OwnKind
import Derived.Lib.SmallJoins
namespace Go.Proofs.YtdjoafnohkmneaaGreatDoor
namespace Fm

def exTree : Ex → SX
  | .num n => .atom (dec n)
  | .var x => .atom x
  | .suc e => .node [.atom wSuc, exTree e]
  | .add a b => .node [.atom wAdd, exTree a, exTree b]
  | .mul a b => .node [.atom wMul, exTree a, exTree b]
def tree : Fo → SX
  | .top => .atom wTop
  | .bot => .atom wBot
  | .eq a b => .node [.atom wEq, exTree a, exTree b]
  | .and f g => .node [.atom wAnd, tree f, tree g]
  | .or f g => .node [.atom wOr, tree f, tree g]
  | .imp f g => .node [.atom wImp, tree f, tree g]
  | .all x n f => .node [.atom wAll, .atom x, .atom (dec n), tree f]
  | .ex x n f => .node [.atom wEx, .atom x, .atom (dec n), tree f]

theorem exTree_text : ∀ e : Ex, sxText (exTree e) = exText e
  | .num _ => rfl
  | .var _ => rfl
  | .suc e => by simp [exTree, exText, sxText, sxTexts, exTree_text e]
  | .add a b => by simp [exTree, exText, sxText, sxTexts, exTree_text a, exTree_text b]
  | .mul a b => by simp [exTree, exText, sxText, sxTexts, exTree_text a, exTree_text b]
theorem tree_text : ∀ f : Fo, sxText (tree f) = text f
  | .top => rfl
  | .bot => rfl
  | .eq a b => by simp [tree, text, sxText, sxTexts, exTree_text]
  | .and f g => by simp [tree, text, sxText, sxTexts, tree_text f, tree_text g]
  | .or f g => by simp [tree, text, sxText, sxTexts, tree_text f, tree_text g]
  | .imp f g => by simp [tree, text, sxText, sxTexts, tree_text f, tree_text g]
  | .all x n f => by simp [tree, text, sxText, sxTexts, tree_text f]
  | .ex x n f => by simp [tree, text, sxText, sxTexts, tree_text f]

/-- What the model asks of the atoms and the form: no bound of atoms, none of what numbers multiply to. -/
def okm : Fo → Prop
  | .top => True
  | .bot => True
  | .eq a b => exOk a ∧ exOk b
  | .and f g => okm f ∧ okm g
  | .or f g => okm f ∧ okm g
  | .imp f g => okm f ∧ okm g ∧ simple f = true
  | .all x n f => Tm.nameOk x = true ∧ 1 ≤ n ∧ n ≤ 6 ∧ okm f
  | .ex x n f => Tm.nameOk x = true ∧ 1 ≤ n ∧ n ≤ 6 ∧ okm f

/-- What the numbers within each other multiply to, at most 301. -/
def wide : Fo → Nat
  | .and f g => max (wide f) (wide g)
  | .or f g => max (wide f) (wide g)
  | .imp f g => max (wide f) (wide g)
  | .all _ n f => min 301 (wide f * n)
  | .ex _ n f => min 301 (wide f * n)
  | _ => 1

theorem wide_pos : ∀ f : Fo, okm f → 1 ≤ wide f
  | .top, _ => Nat.le_refl _
  | .bot, _ => Nat.le_refl _
  | .eq _ _, _ => Nat.le_refl _
  | .and f g, h => by have := wide_pos f h.1; simp only [wide]; omega
  | .or f g, h => by have := wide_pos f h.1; simp only [wide]; omega
  | .imp f g, h => by have := wide_pos f h.1; simp only [wide]; omega
  | .all _ n f, h => by
    have h1 := wide_pos f h.2.2.2
    have : 1 * 1 ≤ wide f * n := Nat.mul_le_mul h1 h.2.1
    simp only [wide]; omega
  | .ex _ n f, h => by
    have h1 := wide_pos f h.2.2.2
    have : 1 * 1 ≤ wide f * n := Nat.mul_le_mul h1 h.2.1
    simp only [wide]; omega

theorem wide_bind {r n w : Nat} (hr : 1 ≤ r) (hw : 1 ≤ w) : (r * n ≤ 300 ∧ r * n * w ≤ 300) ↔ r * min 301 (w * n) ≤ 300 := by
  have e : r * n * w = r * (w * n) := by rw [Nat.mul_assoc, Nat.mul_comm n w]
  by_cases h : w * n ≤ 301
  · rw [Nat.min_eq_right h, ← e]
    constructor
    · exact fun x => x.2
    · intro x
      refine ⟨?_, x⟩
      have : r * n * 1 ≤ r * n * w := Nat.mul_le_mul (Nat.le_refl _) hw
      omega
  · rw [Nat.min_eq_left (by omega)]
    constructor
    · rintro ⟨_, x⟩
      rw [e] at x
      have : 1 * (w * n) ≤ r * (w * n) := Nat.mul_le_mul hr (Nat.le_refl _)
      omega
    · intro x
      have : 1 * 301 ≤ r * 301 := Nat.mul_le_mul hr (Nat.le_refl _)
      omega

theorem ok_iff : ∀ (f : Fo) (r : Nat), 1 ≤ r → r ≤ 300 → (ok r f ↔ okm f ∧ r * wide f ≤ 300)
  | .top, r, h, h2 => by simp [ok, okm, wide]; omega
  | .bot, r, h, h2 => by simp [ok, okm, wide]; omega
  | .eq a b, r, h, h2 => by simp [ok, okm, wide]; omega
  | .and f g, r, h, h2 => by
    have e : r * max (wide f) (wide g) ≤ 300 ↔ r * wide f ≤ 300 ∧ r * wide g ≤ 300 := by
      rcases Nat.le_total (wide f) (wide g) with c | c
      · rw [Nat.max_eq_right c]; exact ⟨fun x => ⟨Nat.le_trans (Nat.mul_le_mul (Nat.le_refl _) c) x, x⟩, fun x => x.2⟩
      · rw [Nat.max_eq_left c]; exact ⟨fun x => ⟨x, Nat.le_trans (Nat.mul_le_mul (Nat.le_refl _) c) x⟩, fun x => x.1⟩
    simp only [ok, okm, wide, ok_iff f r h h2, ok_iff g r h h2, e]
    exact ⟨fun ⟨⟨a, b⟩, c, d⟩ => ⟨⟨a, c⟩, b, d⟩, fun ⟨⟨a, c⟩, b, d⟩ => ⟨⟨a, b⟩, c, d⟩⟩
  | .or f g, r, h, h2 => by
    have e : r * max (wide f) (wide g) ≤ 300 ↔ r * wide f ≤ 300 ∧ r * wide g ≤ 300 := by
      rcases Nat.le_total (wide f) (wide g) with c | c
      · rw [Nat.max_eq_right c]; exact ⟨fun x => ⟨Nat.le_trans (Nat.mul_le_mul (Nat.le_refl _) c) x, x⟩, fun x => x.2⟩
      · rw [Nat.max_eq_left c]; exact ⟨fun x => ⟨x, Nat.le_trans (Nat.mul_le_mul (Nat.le_refl _) c) x⟩, fun x => x.1⟩
    simp only [ok, okm, wide, ok_iff f r h h2, ok_iff g r h h2, e]
    exact ⟨fun ⟨⟨a, b⟩, c, d⟩ => ⟨⟨a, c⟩, b, d⟩, fun ⟨⟨a, c⟩, b, d⟩ => ⟨⟨a, b⟩, c, d⟩⟩
  | .imp f g, r, h, h2 => by
    have e : r * max (wide f) (wide g) ≤ 300 ↔ r * wide f ≤ 300 ∧ r * wide g ≤ 300 := by
      rcases Nat.le_total (wide f) (wide g) with c | c
      · rw [Nat.max_eq_right c]; exact ⟨fun x => ⟨Nat.le_trans (Nat.mul_le_mul (Nat.le_refl _) c) x, x⟩, fun x => x.2⟩
      · rw [Nat.max_eq_left c]; exact ⟨fun x => ⟨x, Nat.le_trans (Nat.mul_le_mul (Nat.le_refl _) c) x⟩, fun x => x.1⟩
    simp only [ok, okm, wide, ok_iff f r h h2, ok_iff g r h h2, e]
    exact ⟨fun ⟨⟨a, b⟩, ⟨c, d⟩, s⟩ => ⟨⟨a, c, s⟩, b, d⟩, fun ⟨⟨a, c, s⟩, b, d⟩ => ⟨⟨a, b⟩, ⟨c, d⟩, s⟩⟩
  | .all x n f, r, h, h2 => by
    simp only [ok, okm, wide]
    constructor
    · rintro ⟨a, b, c, d, e⟩
      have h3 : 1 ≤ r * n := Nat.mul_le_mul h b
      obtain ⟨o, p⟩ := (ok_iff f (r * n) h3 d).1 e
      exact ⟨⟨a, b, c, o⟩, (wide_bind h (wide_pos f o)).1 ⟨d, p⟩⟩
    · rintro ⟨⟨a, b, c, o⟩, p⟩
      obtain ⟨d, q⟩ := (wide_bind h (wide_pos f o)).2 p
      exact ⟨a, b, c, d, (ok_iff f (r * n) (Nat.mul_le_mul h b) d).2 ⟨o, q⟩⟩
  | .ex x n f, r, h, h2 => by
    simp only [ok, okm, wide]
    constructor
    · rintro ⟨a, b, c, d, e⟩
      have h3 : 1 ≤ r * n := Nat.mul_le_mul h b
      obtain ⟨o, p⟩ := (ok_iff f (r * n) h3 d).1 e
      exact ⟨⟨a, b, c, o⟩, (wide_bind h (wide_pos f o)).1 ⟨d, p⟩⟩
    · rintro ⟨⟨a, b, c, o⟩, p⟩
      obtain ⟨d, q⟩ := (wide_bind h (wide_pos f o)).2 p
      exact ⟨a, b, c, d, (ok_iff f (r * n) (Nat.mul_le_mul h b) d).2 ⟨o, q⟩⟩

/-! ### the trees are well made, not deep, not long -/

theorem exTree_ok : ∀ e : Ex, exOk e → sxOk (exTree e) ∧ sxDepth (exTree e) ≤ exAtoms e ∧ (exText e).length ≤ 8 * exAtoms e
  | .num n, h => by
    have hn : n ≤ 60 := h
    obtain ⟨f1, _, _, _, f5⟩ := dec_letters (m := n) (by omega)
    refine ⟨⟨fun e => by rw [e] at f5; simp at f5, f1⟩, by simp [exTree, sxDepth], ?_⟩
    simp only [exText, exAtoms, dec]
    split <;> simp
  | .var x, h => by
    have hx : Tm.nameOk x = true := h
    have hx0 : x ≠ [] := fun e => by
      rw [e] at hx
      cases hx
    refine ⟨⟨hx0, name_letters hx⟩, by simp [exTree, sxDepth], ?_⟩
    cases x with
    | nil => simp [exText, exAtoms]
    | cons c ds =>
      simp only [Tm.nameOk, Bool.and_eq_true, decide_eq_true_eq] at hx
      simp only [exText, exAtoms, List.length_cons]
      omega
  | .suc e, h => by
    obtain ⟨a1, a2, a3⟩ := exTree_ok e h
    refine ⟨⟨by simp, ⟨by decide, by decide⟩, a1, trivial⟩, by simp only [exTree, sxDepth, sxDepths, exAtoms]; omega, ?_⟩
    simp only [exText, exAtoms, wSuc, List.length_cons, List.length_append, List.length_nil]
    omega
  | .add a b, h => by
    obtain ⟨a1, a2, a3⟩ := exTree_ok a h.1
    obtain ⟨b1, b2, b3⟩ := exTree_ok b h.2
    refine ⟨⟨by simp, ⟨by decide, by decide⟩, a1, b1, trivial⟩, by simp only [exTree, sxDepth, sxDepths, exAtoms]; omega, ?_⟩
    simp only [exText, exAtoms, wAdd, List.length_cons, List.length_append, List.length_nil]
    omega
  | .mul a b, h => by
    obtain ⟨a1, a2, a3⟩ := exTree_ok a h.1
    obtain ⟨b1, b2, b3⟩ := exTree_ok b h.2
    refine ⟨⟨by simp, ⟨by decide, by decide⟩, a1, b1, trivial⟩, by simp only [exTree, sxDepth, sxDepths, exAtoms]; omega, ?_⟩
    simp only [exText, exAtoms, wMul, List.length_cons, List.length_append, List.length_nil]
    omega

theorem name_len4 {x : List UInt8} (h : Tm.nameOk x = true) : x.length ≤ 4 ∧ x ≠ [] := by
  cases x with
  | nil => cases h
  | cons c ds =>
    simp only [Tm.nameOk, Bool.and_eq_true, decide_eq_true_eq] at h
    exact ⟨by simp only [List.length_cons]; omega, by simp⟩
theorem dec_len (n : Nat) : 1 ≤ (dec n).length ∧ (dec n).length ≤ 2 := by unfold dec; split <;> simp

theorem tree_ok : ∀ f : Fo, okm f → sxOk (tree f) ∧ sxDepth (tree f) ≤ atoms f ∧ (text f).length ≤ 8 * atoms f
  | .top, _ => ⟨⟨by decide, by decide⟩, by simp [tree, sxDepth], by simp [text, wTop, atoms]⟩
  | .bot, _ => ⟨⟨by decide, by decide⟩, by simp [tree, sxDepth], by simp [text, wBot, atoms]⟩
  | .eq a b, h => by
    obtain ⟨a1, a2, a3⟩ := exTree_ok a h.1
    obtain ⟨b1, b2, b3⟩ := exTree_ok b h.2
    refine ⟨⟨by simp, ⟨by decide, by decide⟩, a1, b1, trivial⟩, by simp only [tree, sxDepth, sxDepths, atoms]; omega, ?_⟩
    simp only [text, atoms, wEq, List.length_cons, List.length_append, List.length_nil]
    omega
  | .and f g, h => by
    obtain ⟨a1, a2, a3⟩ := tree_ok f h.1
    obtain ⟨b1, b2, b3⟩ := tree_ok g h.2
    refine ⟨⟨by simp, ⟨by decide, by decide⟩, a1, b1, trivial⟩, by simp only [tree, sxDepth, sxDepths, atoms]; omega, ?_⟩
    simp only [text, atoms, wAnd, List.length_cons, List.length_append, List.length_nil]
    omega
  | .or f g, h => by
    obtain ⟨a1, a2, a3⟩ := tree_ok f h.1
    obtain ⟨b1, b2, b3⟩ := tree_ok g h.2
    refine ⟨⟨by simp, ⟨by decide, by decide⟩, a1, b1, trivial⟩, by simp only [tree, sxDepth, sxDepths, atoms]; omega, ?_⟩
    simp only [text, atoms, wOr, List.length_cons, List.length_append, List.length_nil]
    omega
  | .imp f g, h => by
    obtain ⟨a1, a2, a3⟩ := tree_ok f h.1
    obtain ⟨b1, b2, b3⟩ := tree_ok g h.2.1
    refine ⟨⟨by simp, ⟨by decide, by decide⟩, a1, b1, trivial⟩, by simp only [tree, sxDepth, sxDepths, atoms]; omega, ?_⟩
    simp only [text, atoms, wImp, List.length_cons, List.length_append, List.length_nil]
    omega
  | .all x n f, h => by
    obtain ⟨a1, a2, a3⟩ := tree_ok f h.2.2.2
    obtain ⟨n1, n2⟩ := name_len4 h.1
    obtain ⟨d1, d2⟩ := dec_len n
    have hd := (dec_letters (m := n) (by have := h.2.2.1; omega)).1
    refine ⟨⟨by simp, ⟨by decide, by decide⟩, ⟨n2, name_letters h.1⟩, ⟨fun e => by rw [e] at d1; simp at d1, hd⟩, a1, trivial⟩, by simp only [tree, sxDepth, sxDepths, atoms]; omega, ?_⟩
    simp only [text, atoms, wAll, List.length_cons, List.length_append, List.length_nil]
    omega
  | .ex x n f, h => by
    obtain ⟨a1, a2, a3⟩ := tree_ok f h.2.2.2
    obtain ⟨n1, n2⟩ := name_len4 h.1
    obtain ⟨d1, d2⟩ := dec_len n
    have hd := (dec_letters (m := n) (by have := h.2.2.1; omega)).1
    refine ⟨⟨by simp, ⟨by decide, by decide⟩, ⟨n2, name_letters h.1⟩, ⟨fun e => by rw [e] at d1; simp at d1, hd⟩, a1, trivial⟩, by simp only [tree, sxDepth, sxDepths, atoms]; omega, ?_⟩
    simp only [text, atoms, wEx, List.length_cons, List.length_append, List.length_nil]
    omega

/-- What the model takes: the tree of the text is that of a formula. -/
theorem model_iff {l : List UInt8} {f : Fo} (hf : okm f) (ha : atoms f ≤ 60) (t : SX) : (l.length ≤ 1000 ∧ ∃ j, sread l 151 0 = some (t, j) ∧ j = l.length ∧ t = tree f) ↔ (l = text f ∧ t = tree f) := by
  obtain ⟨a1, a2, a3⟩ := tree_ok f hf
  constructor
  · rintro ⟨_, j, h, rfl, rfl⟩
    have := (sread_sound l _ _ _ _ h).1
    simp at this
    rw [tree_text] at this
    exact ⟨this, rfl⟩
  · rintro ⟨rfl, rfl⟩
    refine ⟨by omega, _, sread_of (text f) 151 0 (tree f) [] (by simp [tree_text]) a1 (Or.inl rfl) (by omega), ?_, rfl⟩
    simp [tree_text]
end Fm
end Go.Proofs.YtdjoafnohkmneaaGreatDoor

namespace Go.Proofs.YtdjoafnohkmneaaGreatDoor
namespace Fm

/-- The model's number of an atom: one or two digits, at most 60. -/
def num6 (a : List UInt8) : Option Nat := numOf a 0 60

def isE : Nat → SX → Bool
  | 0, _ => false
  | _ + 1, .atom a => Tm.nameOk a || (num6 a).isSome
  | d + 1, .node ps => match ps with
    | [.atom w, p] => decide (w = wSuc) && isE d p
    | [.atom w, p, q] => decide (w = wAdd ∨ w = wMul) && (isE d p && isE d q)
    | _ => false

/-- Simple, of the tree of a formula. -/
def isS : Nat → SX → Bool
  | 0, _ => false
  | _ + 1, .atom _ => true
  | d + 1, .node ps => match ps with
    | .atom w :: ps => !decide (w = wImp ∨ w = wAll) && ps.all (isS d)
    | _ => true

def isF : Nat → SX → Bool
  | 0, _ => false
  | _ + 1, .atom a => decide (a = wTop ∨ a = wBot)
  | d + 1, .node ps => match ps with
    | [.atom w, p, q] =>
      if w = wEq then isE d p && isE d q
      else if w = wAnd ∨ w = wOr then isF d p && isF d q
      else if w = wImp then isF d p && (isF d q && isS d p)
      else false
    | [.atom w, .atom x, .atom n, p] => if w = wAll ∨ w = wEx then Tm.nameOk x && ((numOf n 1 6).isSome && isF d p) else false
    | _ => false

theorem isE_iff : ∀ (d : Nat) (t : SX), sxDepth t < d → (isE d t = true ↔ ∃ e, t = exTree e ∧ exOk e)
  | 0, _, h => by omega
  | d + 1, .atom a, h => by
    simp only [isE, Bool.or_eq_true]
    constructor
    · rintro (h | h)
      · exact ⟨.var a, rfl, h⟩
      · obtain ⟨n, hn⟩ := Option.isSome_iff_exists.1 h
        obtain ⟨e, _, h3⟩ := numOf_some hn
        exact ⟨.num n, by rw [e]; rfl, h3⟩
    · rintro ⟨e, he, ho⟩
      cases e with
      | num n =>
        right
        injection he with he
        rw [he, num6, numOf_dec (Nat.zero_le _) ho (by decide)]
        rfl
      | var x =>
        left
        injection he with he
        rw [he]; exact ho
      | suc e => cases he
      | add a b => cases he
      | mul a b => cases he
  | d + 1, .node ps, h => by
    simp only [sxDepth] at h
    match ps, h with
    | [], h =>
      simp only [isE]
      exact ⟨fun e => (by cases e), fun ⟨e, he, _⟩ => (by cases e <;> simp [exTree] at he)⟩
    | [.node _], h =>
      simp only [isE]
      exact ⟨fun e => (by cases e), fun ⟨e, he, _⟩ => (by cases e <;> simp [exTree] at he)⟩
    | [.atom _], h =>
      simp only [isE]
      exact ⟨fun e => (by cases e), fun ⟨e, he, _⟩ => (by cases e <;> simp [exTree] at he)⟩
    | .node _ :: _ :: _, h =>
      simp only [isE]
      exact ⟨fun e => (by cases e), fun ⟨e, he, _⟩ => (by cases e <;> simp [exTree] at he)⟩
    | [.atom w, p], h =>
      simp only [sxDepths, sxDepth] at h
      have ih := isE_iff d p (by omega)
      simp only [isE, Bool.and_eq_true, decide_eq_true_eq, ih]
      constructor
      · rintro ⟨rfl, e, rfl, ho⟩
        exact ⟨.suc e, rfl, ho⟩
      · rintro ⟨e, he, ho⟩
        cases e with
        | suc e =>
          simp only [exTree, SX.node.injEq, List.cons.injEq, SX.atom.injEq, and_true] at he
          exact ⟨he.1, e, he.2, ho⟩
        | num n => simp [exTree] at he
        | var x => simp [exTree] at he
        | add a b => simp [exTree] at he
        | mul a b => simp [exTree] at he
    | [.atom w, p, q], h =>
      simp only [sxDepths, sxDepth] at h
      have ih1 := isE_iff d p (by omega)
      have ih2 := isE_iff d q (by omega)
      simp only [isE, Bool.and_eq_true, decide_eq_true_eq, ih1, ih2]
      constructor
      · rintro ⟨rfl | rfl, ⟨a, rfl, ha⟩, ⟨b, rfl, hb⟩⟩
        · exact ⟨.add a b, rfl, ha, hb⟩
        · exact ⟨.mul a b, rfl, ha, hb⟩
      · rintro ⟨e, he, ho⟩
        cases e with
        | add a b =>
          simp only [exTree, SX.node.injEq, List.cons.injEq, SX.atom.injEq, and_true] at he
          exact ⟨Or.inl he.1, ⟨a, he.2.1, ho.1⟩, ⟨b, he.2.2, ho.2⟩⟩
        | mul a b =>
          simp only [exTree, SX.node.injEq, List.cons.injEq, SX.atom.injEq, and_true] at he
          exact ⟨Or.inr he.1, ⟨a, he.2.1, ho.1⟩, ⟨b, he.2.2, ho.2⟩⟩
        | num n => simp [exTree] at he
        | var x => simp [exTree] at he
        | suc a => simp [exTree] at he
    | .atom _ :: _ :: _ :: _ :: _, h =>
      simp only [isE]
      exact ⟨fun e => (by cases e), fun ⟨e, he, _⟩ => (by cases e <;> simp [exTree] at he)⟩

theorem isS_ex : ∀ (e : Ex) (d : Nat), sxDepth (exTree e) < d → isS d (exTree e) = true
  | e, 0, h => by omega
  | .num n, d + 1, h => rfl
  | .var x, d + 1, h => rfl
  | .suc e, d + 1, h => by
    simp only [exTree, sxDepth, sxDepths] at h
    simp only [exTree, isS, List.all_cons, List.all_nil, isS_ex e d (by omega), Bool.and_true]
    decide
  | .add a b, d + 1, h => by
    simp only [exTree, sxDepth, sxDepths] at h
    simp only [exTree, isS, List.all_cons, List.all_nil, isS_ex a d (by omega), isS_ex b d (by omega), Bool.and_true]
    decide
  | .mul a b, d + 1, h => by
    simp only [exTree, sxDepth, sxDepths] at h
    simp only [exTree, isS, List.all_cons, List.all_nil, isS_ex a d (by omega), isS_ex b d (by omega), Bool.and_true]
    decide

theorem isS_atom (d : Nat) (a : List UInt8) (h : 0 < d) : isS d (.atom a) = true := by
  cases d with
  | zero => omega
  | succ d => rfl

theorem isS_fo : ∀ (f : Fo) (d : Nat), sxDepth (tree f) < d → isS d (tree f) = simple f
  | f, 0, h => by omega
  | .top, d + 1, h => rfl
  | .bot, d + 1, h => rfl
  | .eq a b, d + 1, h => by
    simp only [tree, sxDepth, sxDepths] at h
    simp only [tree, isS, List.all_cons, List.all_nil, isS_ex a d (by omega), isS_ex b d (by omega), Bool.and_true, simple]
    decide
  | .and f g, d + 1, h => by
    simp only [tree, sxDepth, sxDepths] at h
    simp only [tree, isS, List.all_cons, List.all_nil, isS_fo f d (by omega), isS_fo g d (by omega), Bool.and_true, simple]
    rw [show (!decide (wAnd = wImp ∨ wAnd = wAll)) = true by decide, Bool.true_and]
  | .or f g, d + 1, h => by
    simp only [tree, sxDepth, sxDepths] at h
    simp only [tree, isS, List.all_cons, List.all_nil, isS_fo f d (by omega), isS_fo g d (by omega), Bool.and_true, simple]
    rw [show (!decide (wOr = wImp ∨ wOr = wAll)) = true by decide, Bool.true_and]
  | .imp f g, d + 1, h => by
    simp [tree, isS, simple]
  | .all x n f, d + 1, h => by
    simp [tree, isS, simple]
  | .ex x n f, d + 1, h => by
    simp only [tree, sxDepth, sxDepths] at h
    simp only [tree, isS, List.all_cons, List.all_nil, isS_atom d _ (by omega), isS_fo f d (by omega), Bool.and_true, Bool.true_and, simple]
    rw [show (!decide (wEx = wImp ∨ wEx = wAll)) = true by decide, Bool.true_and]

theorem isF_iff : ∀ (d : Nat) (t : SX), sxDepth t < d → (isF d t = true ↔ ∃ f, t = tree f ∧ okm f)
  | 0, _, h => by omega
  | d + 1, .atom a, h => by
    simp only [isF, decide_eq_true_eq]
    constructor
    · rintro (rfl | rfl)
      · exact ⟨.top, rfl, trivial⟩
      · exact ⟨.bot, rfl, trivial⟩
    · rintro ⟨f, he, ho⟩
      cases f with
      | top => left; injection he
      | bot => right; injection he
      | eq a b => cases he
      | and f g => cases he
      | or f g => cases he
      | imp f g => cases he
      | all x n f => cases he
      | ex x n f => cases he
  | d + 1, .node ps, h => by
    simp only [sxDepth] at h
    match ps, h with
    | [], h =>
      simp only [isF]
      exact ⟨fun e => (by cases e), fun ⟨e, he, _⟩ => (by cases e <;> simp [tree] at he)⟩
    | .node _ :: _, h =>
      simp only [isF]
      exact ⟨fun e => (by cases e), fun ⟨e, he, _⟩ => (by cases e <;> simp [tree] at he)⟩
    | [.atom _], h =>
      simp only [isF]
      exact ⟨fun e => (by cases e), fun ⟨e, he, _⟩ => (by cases e <;> simp [tree] at he)⟩
    | [.atom _, _], h =>
      simp only [isF]
      exact ⟨fun e => (by cases e), fun ⟨e, he, _⟩ => (by cases e <;> simp [tree] at he)⟩
    | [.atom w, p, q], h =>
      simp only [sxDepths, sxDepth] at h
      have e1 := isE_iff d p (by omega)
      have e2 := isE_iff d q (by omega)
      have f1 := isF_iff d p (by omega)
      have f2 := isF_iff d q (by omega)
      simp only [isF]
      by_cases w1 : w = wEq
      · rw [if_pos w1]
        simp only [Bool.and_eq_true, e1, e2]
        constructor
        · rintro ⟨⟨a, rfl, ha⟩, ⟨b, rfl, hb⟩⟩
          exact ⟨.eq a b, by rw [w1]; rfl, ha, hb⟩
        · rintro ⟨f, he, ho⟩
          subst w1
          cases f <;> simp only [tree, SX.node.injEq, List.cons.injEq, SX.atom.injEq, reduceCtorEq, and_true, and_false] at he
          case eq a b => exact ⟨⟨a, he.2.1, ho.1⟩, ⟨b, he.2.2, ho.2⟩⟩
          all_goals exact absurd he.1 (by decide)
      · rw [if_neg w1]
        by_cases w2 : w = wAnd ∨ w = wOr
        · rw [if_pos w2]
          simp only [Bool.and_eq_true, f1, f2]
          constructor
          · rintro ⟨⟨a, rfl, ha⟩, ⟨b, rfl, hb⟩⟩
            rcases w2 with rfl | rfl
            · exact ⟨.and a b, rfl, ha, hb⟩
            · exact ⟨.or a b, rfl, ha, hb⟩
          · rintro ⟨f, he, ho⟩
            cases f <;> simp only [tree, SX.node.injEq, List.cons.injEq, SX.atom.injEq, reduceCtorEq, and_true, and_false] at he
            case eq a b => exact absurd he.1 w1
            case and a b => exact ⟨⟨a, he.2.1, ho.1⟩, ⟨b, he.2.2, ho.2⟩⟩
            case or a b => exact ⟨⟨a, he.2.1, ho.1⟩, ⟨b, he.2.2, ho.2⟩⟩
            case imp a b => exact ⟨⟨a, he.2.1, ho.1⟩, ⟨b, he.2.2, ho.2.1⟩⟩
        · rw [if_neg w2]
          by_cases w3 : w = wImp
          · rw [if_pos w3]
            simp only [Bool.and_eq_true, f1, f2]
            constructor
            · rintro ⟨⟨a, rfl, ha⟩, ⟨b, rfl, hb⟩, hs⟩
              rw [isS_fo a d (by omega)] at hs
              exact ⟨.imp a b, by rw [w3]; rfl, ha, hb, hs⟩
            · rintro ⟨f, he, ho⟩
              subst w3
              cases f <;> simp only [tree, SX.node.injEq, List.cons.injEq, SX.atom.injEq, reduceCtorEq, and_true, and_false] at he
              case imp a b =>
                refine ⟨⟨a, he.2.1, ho.1⟩, ⟨b, he.2.2, ho.2.1⟩, ?_⟩
                rw [he.2.1] at h ⊢
                rw [isS_fo a d (by omega)]
                exact ho.2.2
              all_goals exact absurd he.1 (by decide)
          · rw [if_neg w3]
            refine ⟨fun e => (by cases e), ?_⟩
            rintro ⟨f, he, ho⟩
            cases f <;> simp only [tree, SX.node.injEq, List.cons.injEq, SX.atom.injEq, reduceCtorEq, and_true, and_false] at he
            case eq a b => exact absurd he.1 w1
            case and a b => exact absurd (Or.inl he.1) w2
            case or a b => exact absurd (Or.inr he.1) w2
            case imp a b => exact absurd he.1 w3
    | [.atom w, .atom x, .atom n, p], h =>
      simp only [sxDepths, sxDepth] at h
      have f1 := isF_iff d p (by omega)
      simp only [isF]
      by_cases w1 : w = wAll ∨ w = wEx
      · rw [if_pos w1]
        simp only [Bool.and_eq_true, f1, Option.isSome_iff_exists]
        constructor
        · rintro ⟨hx, ⟨m, hm⟩, ⟨a, rfl, ha⟩⟩
          obtain ⟨k1, k2, k3⟩ := numOf_some hm
          rcases w1 with rfl | rfl
          · exact ⟨.all x m a, by rw [k1]; rfl, hx, k2, k3, ha⟩
          · exact ⟨.ex x m a, by rw [k1]; rfl, hx, k2, k3, ha⟩
        · rintro ⟨f, he, ho⟩
          cases f <;> simp only [tree, SX.node.injEq, List.cons.injEq, SX.atom.injEq, reduceCtorEq, and_true, and_false] at he
          case all y m a =>
            obtain ⟨_, rfl, rfl, rfl⟩ := he
            exact ⟨ho.1, ⟨m, numOf_dec ho.2.1 ho.2.2.1 (by decide)⟩, a, rfl, ho.2.2.2⟩
          case ex y m a =>
            obtain ⟨_, rfl, rfl, rfl⟩ := he
            exact ⟨ho.1, ⟨m, numOf_dec ho.2.1 ho.2.2.1 (by decide)⟩, a, rfl, ho.2.2.2⟩
      · rw [if_neg w1]
        refine ⟨fun e => (by cases e), ?_⟩
        rintro ⟨f, he, ho⟩
        cases f <;> simp only [tree, SX.node.injEq, List.cons.injEq, SX.atom.injEq, reduceCtorEq, and_true, and_false] at he
        case all y m a => exact absurd (Or.inl he.1) w1
        case ex y m a => exact absurd (Or.inr he.1) w1
    | [.atom w, .node _, _, _], h =>
      simp only [isF]
      exact ⟨fun e => (by cases e), fun ⟨e, he, _⟩ => (by cases e <;> simp [tree] at he)⟩
    | [.atom w, .atom _, .node _, _], h =>
      simp only [isF]
      exact ⟨fun e => (by cases e), fun ⟨e, he, _⟩ => (by cases e <;> simp [tree] at he)⟩
    | .atom _ :: _ :: _ :: _ :: _ :: _, h =>
      simp only [isF]
      exact ⟨fun e => (by cases e), fun ⟨e, he, _⟩ => (by cases e <;> simp [tree] at he)⟩
end Fm
end Go.Proofs.YtdjoafnohkmneaaGreatDoor

namespace Go.Proofs.YtdjoafnohkmneaaGreatDoor
namespace Fm

/-- Atoms of a tree. -/
def szS : Nat → SX → Nat
  | 0, _ => 0
  | _ + 1, .atom _ => 1
  | d + 1, .node ps => (ps.map (szS d)).sum

/-- What the numbers of all and ex within each other multiply to, at most 301. -/
def wdS : Nat → SX → Nat
  | 0, _ => 1
  | _ + 1, .atom _ => 1
  | d + 1, .node ps =>
    let n := ps.tail.foldl (fun n p => max n (wdS d p)) 1
    match ps with
    | .atom w :: _ :: .atom a :: _ => if w = wAll ∨ w = wEx then min 301 (n * max 1 ((num6 a).getD 0)) else n
    | _ => n

theorem szS_atom (d : Nat) (a : List UInt8) (h : 0 < d) : szS d (.atom a) = 1 := by
  cases d with
  | zero => omega
  | succ d => rfl
theorem wdS_atom (d : Nat) (a : List UInt8) : wdS d (.atom a) = 1 := by cases d <;> rfl

theorem szS_ex : ∀ (e : Ex) (d : Nat), sxDepth (exTree e) < d → szS d (exTree e) = exAtoms e
  | e, 0, h => by omega
  | .num _, d + 1, h => rfl
  | .var _, d + 1, h => rfl
  | .suc e, d + 1, h => by
    simp only [exTree, sxDepth, sxDepths] at h
    simp only [exTree, szS, exAtoms, List.map_cons, List.map_nil, List.sum_cons, List.sum_nil, szS_atom d _ (by omega), szS_ex e d (by omega)]
    omega
  | .add a b, d + 1, h => by
    simp only [exTree, sxDepth, sxDepths] at h
    simp only [exTree, szS, exAtoms, List.map_cons, List.map_nil, List.sum_cons, List.sum_nil, szS_atom d _ (by omega), szS_ex a d (by omega), szS_ex b d (by omega)]
    omega
  | .mul a b, d + 1, h => by
    simp only [exTree, sxDepth, sxDepths] at h
    simp only [exTree, szS, exAtoms, List.map_cons, List.map_nil, List.sum_cons, List.sum_nil, szS_atom d _ (by omega), szS_ex a d (by omega), szS_ex b d (by omega)]
    omega

theorem szS_fo : ∀ (f : Fo) (d : Nat), sxDepth (tree f) < d → szS d (tree f) = atoms f
  | f, 0, h => by omega
  | .top, d + 1, h => rfl
  | .bot, d + 1, h => rfl
  | .eq a b, d + 1, h => by
    simp only [tree, sxDepth, sxDepths] at h
    simp only [tree, szS, atoms, List.map_cons, List.map_nil, List.sum_cons, List.sum_nil, szS_atom d _ (by omega), szS_ex a d (by omega), szS_ex b d (by omega)]
    omega
  | .and f g, d + 1, h => by
    simp only [tree, sxDepth, sxDepths] at h
    simp only [tree, szS, atoms, List.map_cons, List.map_nil, List.sum_cons, List.sum_nil, szS_atom d _ (by omega), szS_fo f d (by omega), szS_fo g d (by omega)]
    omega
  | .or f g, d + 1, h => by
    simp only [tree, sxDepth, sxDepths] at h
    simp only [tree, szS, atoms, List.map_cons, List.map_nil, List.sum_cons, List.sum_nil, szS_atom d _ (by omega), szS_fo f d (by omega), szS_fo g d (by omega)]
    omega
  | .imp f g, d + 1, h => by
    simp only [tree, sxDepth, sxDepths] at h
    simp only [tree, szS, atoms, List.map_cons, List.map_nil, List.sum_cons, List.sum_nil, szS_atom d _ (by omega), szS_fo f d (by omega), szS_fo g d (by omega)]
    omega
  | .all x n f, d + 1, h => by
    simp only [tree, sxDepth, sxDepths] at h
    simp only [tree, szS, atoms, List.map_cons, List.map_nil, List.sum_cons, List.sum_nil, szS_atom d _ (by omega), szS_fo f d (by omega)]
    omega
  | .ex x n f, d + 1, h => by
    simp only [tree, sxDepth, sxDepths] at h
    simp only [tree, szS, atoms, List.map_cons, List.map_nil, List.sum_cons, List.sum_nil, szS_atom d _ (by omega), szS_fo f d (by omega)]
    omega

/-- A node of three parts that binds nothing. -/
theorem wdS_two (d : Nat) (w : List UInt8) (p q : SX) (hw : ¬ (w = wAll ∨ w = wEx)) : wdS (d + 1) (.node [.atom w, p, q]) = max (max 1 (wdS d p)) (wdS d q) := by
  cases q with
  | atom a => simp only [wdS, List.tail_cons, List.foldl_cons, List.foldl_nil]; rw [if_neg hw]
  | node ps => simp only [wdS, List.tail_cons, List.foldl_cons, List.foldl_nil]

theorem wdS_ex : ∀ (e : Ex) (d : Nat), wdS d (exTree e) = 1
  | e, 0 => rfl
  | .num _, d + 1 => rfl
  | .var _, d + 1 => rfl
  | .suc e, d + 1 => by simp [exTree, wdS, wdS_ex e d]
  | .add a b, d + 1 => by
    simp only [exTree]
    rw [wdS_two d _ _ _ (by decide), wdS_ex a d, wdS_ex b d]
    rfl
  | .mul a b, d + 1 => by
    simp only [exTree]
    rw [wdS_two d _ _ _ (by decide), wdS_ex a d, wdS_ex b d]
    rfl

theorem wdS_bind (d : Nat) (w x : List UInt8) (n : Nat) (p : SX) (hw : w = wAll ∨ w = wEx) (h1 : 1 ≤ n) (h2 : n ≤ 6) : wdS (d + 1) (.node [.atom w, .atom x, .atom (dec n), p]) = min 301 (max 1 (wdS d p) * n) := by
  simp only [wdS, List.tail_cons, List.foldl_cons, List.foldl_nil, wdS_atom]
  rw [if_pos hw, num6, numOf_dec (Nat.zero_le _) (by omega) (by decide), Option.getD_some, Nat.max_eq_right h1, Nat.max_self, Nat.max_self]

theorem wdS_fo : ∀ (f : Fo) (d : Nat), okm f → sxDepth (tree f) < d → wdS d (tree f) = wide f
  | f, 0, _, h => by omega
  | .top, d + 1, _, h => rfl
  | .bot, d + 1, _, h => rfl
  | .eq a b, d + 1, _, h => by
    simp only [tree]
    rw [wdS_two d _ _ _ (by decide), wdS_ex, wdS_ex]
    rfl
  | .and f g, d + 1, ho, h => by
    simp only [tree, sxDepth, sxDepths] at h
    simp only [tree]
    have := wide_pos f ho.1
    rw [wdS_two d _ _ _ (by decide), wdS_fo f d ho.1 (by omega), wdS_fo g d ho.2 (by omega), Nat.max_eq_right this]
    rfl
  | .or f g, d + 1, ho, h => by
    simp only [tree, sxDepth, sxDepths] at h
    simp only [tree]
    have := wide_pos f ho.1
    rw [wdS_two d _ _ _ (by decide), wdS_fo f d ho.1 (by omega), wdS_fo g d ho.2 (by omega), Nat.max_eq_right this]
    rfl
  | .imp f g, d + 1, ho, h => by
    simp only [tree, sxDepth, sxDepths] at h
    simp only [tree]
    have := wide_pos f ho.1
    rw [wdS_two d _ _ _ (by decide), wdS_fo f d ho.1 (by omega), wdS_fo g d ho.2.1 (by omega), Nat.max_eq_right this]
    rfl
  | .all x n f, d + 1, ho, h => by
    simp only [tree, sxDepth, sxDepths] at h
    simp only [tree]
    have := wide_pos f ho.2.2.2
    rw [wdS_bind d _ _ _ _ (Or.inl rfl) ho.2.1 ho.2.2.1, wdS_fo f d ho.2.2.2 (by omega), Nat.max_eq_right this]
    rfl
  | .ex x n f, d + 1, ho, h => by
    simp only [tree, sxDepth, sxDepths] at h
    simp only [tree]
    have := wide_pos f ho.2.2.2
    rw [wdS_bind d _ _ _ _ (Or.inr rfl) ho.2.1 ho.2.2.1, wdS_fo f d ho.2.2.2 (by omega), Nat.max_eq_right this]
    rfl

/-- What the model reads: the formula of a text. -/
def mform (l : List UInt8) : Option SX := if 1000 < l.length then none else match sread l 151 0 with
  | some (t, j) => if j = l.length ∧ isF 151 t = true ∧ szS 151 t ≤ 60 ∧ wdS 151 t ≤ 300 then some t else none
  | none => none

theorem mform_iff (l : List UInt8) (t : SX) : mform l = some t ↔ ∃ f, parse l = some f ∧ t = tree f := by
  constructor
  · intro h
    unfold mform at h
    split at h
    · cases h
    · split at h
      · rename_i t' j hr
        split at h
        · rename_i hc
          obtain rfl := Option.some.inj h
          obtain ⟨rfl, h1, h2, h3⟩ := hc
          obtain ⟨s1, s2, s3⟩ := sread_sound l _ _ _ _ hr
          obtain ⟨f, rfl, ho⟩ := (isF_iff 151 t' (by omega)).1 h1
          rw [szS_fo f 151 (by omega)] at h2
          rw [wdS_fo f 151 ho (by omega)] at h3
          simp at s1
          refine ⟨f, parse_iff.2 ⟨by rw [s1, tree_text], (ok_iff f 1 (by omega) (by omega)).2 ⟨ho, by omega⟩, h2⟩, rfl⟩
        · cases h
      · cases h
  · rintro ⟨f, hp, rfl⟩
    obtain ⟨h1, h2, h3⟩ := parse_iff.1 hp
    obtain ⟨ho, hw⟩ := (ok_iff f 1 (by omega) (by omega)).1 h2
    obtain ⟨a1, a2, a3⟩ := tree_ok f ho
    have hl : l.length ≤ 1000 := by rw [h1]; omega
    have hr := sread_of l 151 0 (tree f) [] (by rw [h1, tree_text]; simp) a1 (Or.inl rfl) (by omega)
    unfold mform
    rw [if_neg (by omega), hr]
    simp only
    rw [if_pos]
    refine ⟨by rw [tree_text, h1]; simp, (isF_iff 151 _ (by omega)).2 ⟨f, rfl, ho⟩, ?_, ?_⟩
    · rw [szS_fo f 151 (by omega)]; exact h3
    · rw [wdS_fo f 151 ho (by omega)]; omega

/-- Both readers take the same texts. -/
theorem valid_eq (l : List UInt8) : (mform l).isSome = (parse l).isSome := by
  rw [Bool.eq_iff_iff, Option.isSome_iff_exists, Option.isSome_iff_exists]
  constructor
  · rintro ⟨t, h⟩
    obtain ⟨f, h, _⟩ := (mform_iff l t).1 h
    exact ⟨f, h⟩
  · rintro ⟨f, h⟩
    exact ⟨tree f, (mform_iff l _).2 ⟨f, h, rfl⟩⟩
end Fm
end Go.Proofs.YtdjoafnohkmneaaGreatDoor

namespace Go.Proofs.YtdjoafnohkmneaaGreatDoor
open Go.RowKit

set_option maxHeartbeats 1000000
set_option maxRecDepth 100000

/-- The reader of a formula lies in block b: the text, the place, the atoms. -/
def MRd (w : World) (b : Nat) (l : List UInt8) (i n : Nat) : Prop := w.heap[b]? = some (.cells #[str l, .int .i64 i, .int .i64 n] 76 (0, 0))

theorem MRd.set1 {w : World} {b i n : Nat} {l : List UInt8} (h : MRd w b l i n) (j : Nat) : MRd (w.setCell ⟨b, 1, none⟩ (.int .i64 j)) b l j n := by
  unfold MRd at *
  simp [World.setCell, Array.getElem?_modify, h]
theorem MRd.set2 {w : World} {b i n : Nat} {l : List UInt8} (h : MRd w b l i n) (j : Nat) : MRd (w.setCell ⟨b, 2, none⟩ (.int .i64 j)) b l i j := by
  unfold MRd at *
  simp [World.setCell, Array.getElem?_modify, h]
theorem MRd.after {w W : World} {b i n : Nat} {l : List UInt8} (h : MRd w b l i n) (ha : After w W) : MRd W b l i n := ha.heap h
theorem MRd.lt {w : World} {b i n : Nat} {l : List UInt8} (h : MRd w b l i n) : b < w.heap.size := (Array.getElem?_eq_some_iff.1 h).1

def MWord (w : World) (b : Nat) (l : List UInt8) (i n : Nat) (e : Ending) (w' : World) : Prop :=
  e = .returned (str (FT.sl l i (Tm.atomEnd l i))) ∧ w.grownBy w' (some b) ∧ MRd w' b l (Tm.atomEnd l i) n

theorem mword_any (w : World) (b i n : Nat) (l : List UInt8) (h : MRd w b l i n) (hl : l.length ≤ 1000000000) (hi : i ≤ l.length) :
    Calls Tryz.prog 75 #[.pointer (some ⟨b, 0, none⟩)] w (MWord w b l i n) := by
  have c0 : w.cell? ⟨b, 0, none⟩ = some (str l) := cell_of_heap h
  have c1 : w.cell? ⟨b, 1, none⟩ = some (.int .i64 (i : Nat)) := cell_of_heap h
  have hsz : (⟨l.toArray⟩ : ByteArray).size = l.length := by show l.toArray.size = _; simp
  have H := Lib.hid h
  clear h
  go_enter Tryz.func75, Tryz.ntmps75
  go_wp2_with fail
  go_quiet (fail)
  go_wp2_with fail
  obtain ⟨r, hr⟩ : ∃ r, r = (⟨l.toArray⟩ : ByteArray).extract i l.length := ⟨_, rfl⟩
  rw [← hr]
  rw [str_drop l i l.length rfl] at hr
  have hrl : r.data.toList = l.drop i := by rw [hr]
  have hrs : r.size = l.length - i := by rw [hr, ByteArray.size]; simp
  have hidx := index_any (w.drewN nq) r (by omega)
  rw [hrl, indexAny_mid] at hidx
  have hend : Tm.atomEnd l i = i + ((l.drop i).takeWhile fun c => c != 32 && c != 40 && c != 41).length := rfl
  have hle : ((l.drop i).takeWhile fun c => c != 32 && c != 40 && c != 41).length ≤ (l.drop i).length := (List.takeWhile_prefix _).length_le
  rw [List.length_drop] at hle hidx
  unfold MWord
  generalize ((l.drop i).takeWhile fun c => c != 32 && c != 40 && c != 41).length = m at *
  rw [hend]
  have hres : ∀ k, k = m → Value.string (r.extract 0 k) = str (FT.sl l i (i + m)) := fun k hk => by
    subst hk
    refine congrArg Value.string (ByteArray.ext (Array.ext' ?_))
    simp [ByteArray.data_extract, hrl, FT.sl]
  have HR := Lib.hid hres
  have HE := Lib.hid hend
  clear hr hrl hend hres
  by_cases hm : m < l.length - i
  · rw [if_pos hm] at hidx
    have hneg : ¬ ((m : Int) < 0) := by omega
    refine hidx.mono ?_
    rintro e w1 ⟨rfl, ha⟩
    have hg0 := grown_drawn w b nq
    have H1 : MRd w1 b l i n := (show MRd (w.drewN nq) b l i n from H.out).after ha
    have hg1 := after_grown b ha
    have c1' : w1.cell? ⟨b, 1, none⟩ = some (.int .i64 (i : Nat)) := cell_of_heap H1
    have f1 : w1.frozen? ⟨b, 1, none⟩ = false := by unfold MRd at H1; simp [World.frozen?, H1]
    have hmr : (m : Int) ≤ (r.size : Int) := by omega
    have HH := Lib.hid H1
    clear hidx H1 ha
    go_wp2_with fail
    go_ret
    exact ⟨congrArg Ending.returned ((HR.out m rfl).trans (by rw [HE.out])), grown_trans (grown_trans hg0 hg1) (grown_setx _ _ _ _), by have := HH.out.set1 (i + m); rw [HE.out]; simpa using this⟩
  · rw [if_neg hm] at hidx
    refine hidx.mono ?_
    rintro e w1 ⟨rfl, ha⟩
    have hg0 := grown_drawn w b nq
    have H1 : MRd w1 b l i n := (show MRd (w.drewN nq) b l i n from H.out).after ha
    have hg1 := after_grown b ha
    have c1' : w1.cell? ⟨b, 1, none⟩ = some (.int .i64 (i : Nat)) := cell_of_heap H1
    have f1 : w1.frozen? ⟨b, 1, none⟩ = false := by unfold MRd at H1; simp [World.frozen?, H1]
    have hmD : l.length - i = m := by omega
    have HM := Lib.hid hmD
    clear hmD
    have HH := Lib.hid H1
    clear hidx H1 ha
    go_wp2_with fail
    go_ret
    exact ⟨congrArg Ending.returned ((HR.out _ HM.out).trans (by rw [HE.out])), grown_trans (grown_trans hg0 hg1) (grown_setx _ _ _ _), by have := HH.out.set1 (i + (l.length - i)); rw [HE.out, ← HM.out]; simpa using this⟩
def SkipM (w : World) (b : Nat) (l : List UInt8) (i n : Nat) (r : Bool) (e : Ending) (w' : World) : Prop :=
  e = .returned (.bool r) ∧ w.grownBy w' (some b) ∧ MRd w' b l (if r then i + 1 else i) n

theorem skipM (w : World) (b i n : Nat) (l : List UInt8) (m : Int) (c : UInt8) (hm : m = c.toNat) (h : MRd w b l i n) (hl : l.length ≤ 1000000000) (hi : i ≤ l.length) :
    Calls Tryz.prog 68 #[.pointer (some ⟨b, 0, none⟩), .int .u8 m] w (SkipM w b l i n (decide (l[i]? = some c))) := by
  refine (skip_on w b i l m c hm _ _ h rfl rfl hl hi).mono ?_
  rintro e w' ⟨h1, h2, h3⟩
  refine ⟨h1, h2, ?_⟩
  unfold MRd
  rw [h3]
  cases decide (l[i]? = some c) <;> rfl

end Go.Proofs.YtdjoafnohkmneaaGreatDoor

namespace Go.Proofs.YtdjoafnohkmneaaGreatDoor
open Go.RowKit

set_option maxHeartbeats 1000000
set_option maxRecDepth 100000

/-- The value v is the expression of the program. -/
def EV (w : World) (B : Nat) : Ex → Value → Prop
  | .num n, v => v = .iface 47 (.int .i64 (n : Nat))
  | .var x, v => v = .iface 110 (str x)
  | .suc e, v => ∃ b cap cs fr x, v = .iface 123 (.agg #[str Fm.wSuc, .slice (some ⟨b, 0, none⟩) 1 cap]) ∧ B ≤ b ∧ w.heap[b]? = some (.cells cs 55 fr) ∧ cs[0]? = some x ∧ EV w B e x
  | .add e f, v => ∃ b cap cs fr x y, v = .iface 123 (.agg #[str Fm.wAdd, .slice (some ⟨b, 0, none⟩) 2 cap]) ∧ B ≤ b ∧ w.heap[b]? = some (.cells cs 55 fr) ∧ cs[0]? = some x ∧ cs[1]? = some y ∧ EV w B e x ∧ EV w B f y
  | .mul e f, v => ∃ b cap cs fr x y, v = .iface 123 (.agg #[str Fm.wMul, .slice (some ⟨b, 0, none⟩) 2 cap]) ∧ B ≤ b ∧ w.heap[b]? = some (.cells cs 55 fr) ∧ cs[0]? = some x ∧ cs[1]? = some y ∧ EV w B e x ∧ EV w B f y

/-- The value v is the formula of the program. -/
def FoV (w : World) (B : Nat) : Fo → Value → Prop
  | .top, v => v = .iface 86 (.agg #[])
  | .bot, v => v = .iface 107 (.agg #[])
  | .eq a b, v => ∃ x y, v = .iface 88 (.agg #[x, y]) ∧ EV w B a x ∧ EV w B b y
  | .and f g, v => ∃ x y, v = .iface 92 (.agg #[x, y]) ∧ FoV w B f x ∧ FoV w B g y
  | .or f g, v => ∃ x y, v = .iface 93 (.agg #[x, y]) ∧ FoV w B f x ∧ FoV w B g y
  | .imp f g, v => ∃ x y, v = .iface 94 (.agg #[x, y]) ∧ FoV w B f x ∧ FoV w B g y
  | .all x n f, v => ∃ y, v = .iface 98 (.agg #[str x, .int .i64 (n : Nat), y]) ∧ FoV w B f y
  | .ex x n f, v => ∃ y, v = .iface 102 (.agg #[str x, .int .i64 (n : Nat), y]) ∧ FoV w B f y

theorem EV.move {w w' : World} {B B' : Nat} (hB : B' ≤ B) (hs : ∀ b, B ≤ b → b < w.heap.size → w'.heap[b]? = w.heap[b]?) : ∀ {e : Ex} {v : Value}, EV w B e v → EV w' B' e v := by
  have hk : ∀ {b : Nat} {o : Obj}, B ≤ b → w.heap[b]? = some o → w'.heap[b]? = some o := fun {b o} hb h => by rw [hs b hb (Array.getElem?_eq_some_iff.1 h).1]; exact h
  intro e
  induction e with
  | num _ => exact fun h => h
  | var _ => exact fun h => h
  | suc e ih => rintro v ⟨b, cap, cs, fr, x, hv, hb, hh, k0, h0⟩; exact ⟨b, cap, cs, fr, x, hv, Nat.le_trans hB hb, hk hb hh, k0, ih h0⟩
  | add e f ihe ihf => rintro v ⟨b, cap, cs, fr, x, y, hv, hb, hh, k0, k1, h0, h1⟩; exact ⟨b, cap, cs, fr, x, y, hv, Nat.le_trans hB hb, hk hb hh, k0, k1, ihe h0, ihf h1⟩
  | mul e f ihe ihf => rintro v ⟨b, cap, cs, fr, x, y, hv, hb, hh, k0, k1, h0, h1⟩; exact ⟨b, cap, cs, fr, x, y, hv, Nat.le_trans hB hb, hk hb hh, k0, k1, ihe h0, ihf h1⟩

theorem FoV.move {w w' : World} {B B' : Nat} (hB : B' ≤ B) (hs : ∀ b, B ≤ b → b < w.heap.size → w'.heap[b]? = w.heap[b]?) : ∀ {f : Fo} {v : Value}, FoV w B f v → FoV w' B' f v := by
  intro f
  induction f with
  | top => exact fun h => h
  | bot => exact fun h => h
  | eq a b => rintro v ⟨x, y, hv, h0, h1⟩; exact ⟨x, y, hv, h0.move hB hs, h1.move hB hs⟩
  | and f g ihf ihg => rintro v ⟨x, y, hv, h0, h1⟩; exact ⟨x, y, hv, ihf h0, ihg h1⟩
  | or f g ihf ihg => rintro v ⟨x, y, hv, h0, h1⟩; exact ⟨x, y, hv, ihf h0, ihg h1⟩
  | imp f g ihf ihg => rintro v ⟨x, y, hv, h0, h1⟩; exact ⟨x, y, hv, ihf h0, ihg h1⟩
  | all x n f ih => rintro v ⟨y, hv, h0⟩; exact ⟨y, hv, ih h0⟩
  | ex x n f ih => rintro v ⟨y, hv, h0⟩; exact ⟨y, hv, ih h0⟩

theorem EV.after {w w' : World} {B : Nat} {e : Ex} {v : Value} (h : EV w B e v) (ha : After w w') : EV w' B e v := h.move (Nat.le_refl _) fun b _ hl => ha.block b hl
theorem FoV.after {w w' : World} {B : Nat} {f : Fo} {v : Value} (h : FoV w B f v) (ha : After w w') : FoV w' B f v := h.move (Nat.le_refl _) fun b _ hl => ha.block b hl
theorem EV.less {w : World} {B B' : Nat} {e : Ex} {v : Value} (h : EV w B e v) (hB : B' ≤ B) : EV w B' e v := h.move hB fun _ _ _ => rfl
theorem FoV.less {w : World} {B B' : Nat} {f : Fo} {v : Value} (h : FoV w B f v) (hB : B' ≤ B) : FoV w B' f v := h.move hB fun _ _ _ => rfl
/-- An expression made behind the reader's block stays, whatever is written there. -/
theorem EV.grown {w w' : World} {B rb : Nat} {e : Ex} {v : Value} (h : EV w B e v) (hg : w.grownBy w' (some rb)) (hr : rb < B) : EV w' B e v := h.move (Nat.le_refl _) fun b hb hl => hg.block b hl (fun e => by injection e with e; omega)
theorem FoV.grown {w w' : World} {B rb : Nat} {f : Fo} {v : Value} (h : FoV w B f v) (hg : w.grownBy w' (some rb)) (hr : rb < B) : FoV w' B f v := h.move (Nat.le_refl _) fun b hb hl => hg.block b hl (fun e => by injection e with e; omega)
end Go.Proofs.YtdjoafnohkmneaaGreatDoor

namespace Go.Proofs.YtdjoafnohkmneaaGreatDoor
open Go.RowKit Go.Shelf

set_option maxHeartbeats 1000000
set_option maxRecDepth 100000

/-- What the variables of strconv hold: two errors, the powers of ten. -/
structure LaidS (w : World) : Prop where
  syn : ∃ tp p, w.var? Tryz.prog "strconv.ErrSyntax" = some #[.iface tp p]
  ran : ∃ tp p, w.var? Tryz.prog "strconv.ErrRange" = some #[.iface tp p]
  tab : Lib.TabIs Tryz.prog w "internal/strconv.uint64pow10" .u64 Lib.pow10Tab

theorem var_after {w W : World} {n : String} {cs : Array Value} (h : w.var? Tryz.prog n = some cs) (hs : ∀ g, Tryz.prog.globalNamed n = some g → g < w.heap.size → W.heap[g]? = w.heap[g]?) : W.var? Tryz.prog n = some cs := by
  unfold World.var? at *
  cases hg : Tryz.prog.globalNamed n with
  | none => simp [hg] at h
  | some g =>
    simp only [hg, Option.bind_some] at h ⊢
    have hl : g < w.heap.size := by
      rcases Nat.lt_or_ge g w.heap.size with k | k
      · exact k
      · rw [Array.getElem?_eq_none k] at h
        simp at h
    rw [hs g hg hl]
    exact h

theorem LaidS.after {w W : World} (h : LaidS w) (ha : After w W) : LaidS W := by
  obtain ⟨⟨a, b, h1⟩, ⟨c, d, h2⟩, h3⟩ := h
  exact ⟨⟨a, b, var_after h1 fun g _ hl => ha.block g hl⟩, ⟨c, d, var_after h2 fun g _ hl => ha.block g hl⟩, var_after h3 fun g _ hl => ha.block g hl⟩

/-- What the variables of strconv hold stays where only the reader's own block is written, which lies behind S. -/
def LaidU (w : World) (S : Nat) : Prop := ∀ W : World, w.heap.size ≤ W.heap.size → (∀ b, b < S → W.heap[b]? = w.heap[b]?) → LaidS W
theorem LaidS.upto {w : World} (h : LaidS w) : LaidU w w.heap.size := by
  intro W _ hb
  obtain ⟨⟨a, b, h1⟩, ⟨c, d, h2⟩, h3⟩ := h
  exact ⟨⟨a, b, var_after h1 fun g _ hl => hb g hl⟩, ⟨c, d, var_after h2 fun g _ hl => hb g hl⟩, var_after h3 fun g _ hl => hb g hl⟩
theorem LaidU.laid {w : World} {S : Nat} (h : LaidU w S) : LaidS w := h w (Nat.le_refl _) fun _ _ => rfl
theorem LaidU.grown {w W : World} {S b : Nat} (h : LaidU w S) (hg : w.grownBy W (some b)) (hb : S ≤ b) (hS : S ≤ w.heap.size) : LaidU W S := by
  intro W' h1 h2
  refine h W' (Nat.le_trans hg.size h1) fun k hk => ?_
  rw [h2 k hk]
  exact hg.block k (by omega) (fun e => by injection e with e; omega)

theorem dig_dec {n : Nat} (h : n < 100) : Lib.decDigits n = Fm.dec n := by
  unfold Lib.decDigits Fm.dec
  split
  · rfl
  · unfold Lib.decDigits
    rw [dif_pos (by omega)]
    rfl

theorem atoi_dec {n : Nat} (h : n < 100) : Lib.atoiAll (Fm.dec n) = .ok (n : Int) := by
  have key : ∀ a : Fin 100, Lib.atoiAll (Fm.dec a.val) = .ok (a.val : Int) := by decide +kernel
  exact key ⟨n, h⟩

theorem itoa_dec {n : Nat} (h : n < 100) : Lib.itoa (n : Int) = Fm.dec n := by
  unfold Lib.itoa
  rw [if_neg (by omega), Int.toNat_natCast, dig_dec h]

/-- A word that spells v by Atoi, and is what Itoa writes of v, is the number's own word. -/
theorem numOf_ok {s : List UInt8} {lo hi : Nat} {v : Int} (hh : hi < 100) (h : Lib.atoiAll s = .ok v) :
    (Fm.numOf s lo hi).isSome = (decide (Lib.itoa v = s) && (decide ((lo : Int) ≤ v) && decide (v ≤ (hi : Int)))) ∧ ∀ n, Fm.numOf s lo hi = some n → v = n := by
  have back : ∀ n, Fm.numOf s lo hi = some n → v = n ∧ lo ≤ n ∧ n ≤ hi ∧ Lib.itoa v = s := by
    intro n hn
    obtain ⟨h1, h2, h3⟩ := Fm.numOf_some hn
    subst h1
    rw [atoi_dec (by omega)] at h
    injection h with h
    subst h
    exact ⟨rfl, h2, h3, itoa_dec (by omega)⟩
  refine ⟨?_, fun n hn => (back n hn).1⟩
  cases hn : Fm.numOf s lo hi with
  | some n =>
    obtain ⟨h1, h2, h3, h4⟩ := back n hn
    subst h1
    simp only [Option.isSome_some, h4]
    symm
    simp
    omega
  | none =>
    simp only [Option.isSome_none]
    symm
    rw [Bool.eq_false_iff]
    intro hc
    simp only [Bool.and_eq_true, decide_eq_true_eq] at hc
    obtain ⟨h1, h2, h3⟩ := hc
    obtain ⟨m, rfl⟩ : ∃ m : Nat, v = (m : Int) := ⟨v.toNat, by omega⟩
    rw [itoa_dec (by omega)] at h1
    rw [← h1, Fm.numOf_dec (by omega) (by omega) hh] at hn
    simp at hn

theorem numOf_no {s : List UInt8} {lo hi : Nat} (hh : hi < 100) (h : ∀ v, Lib.atoiAll s ≠ .ok v) : Fm.numOf s lo hi = none := by
  cases hn : Fm.numOf s lo hi with
  | none => rfl
  | some n =>
    obtain ⟨h1, h2, h3⟩ := Fm.numOf_some hn
    exact absurd (by rw [h1]; exact atoi_dec (by omega)) (h n)

def NumPost (w : World) (o : Option Nat) (e : Ending) (w' : World) : Prop :=
  ∃ v : Int, e = .returned (.tuple #[.int .i64 v, .bool o.isSome]) ∧ (∀ n, o = some n → v = n) ∧ After w w'

theorem after_bytes (w : World) (e : TypeId) (t : ByteArray) : After w (Lib.bytesWorld w e t) := Lib.bytesWorld_below w e t

theorem after_grow (w : World) (k : Nat) (os : Array Obj) : After w (Go.Sort.grow (w.drewN k) os) :=
  ⟨rfl, rfl, rfl, by simp [Go.Sort.grow, World.drewN], fun b hb => by
    show (w.heap ++ os)[b]? = w.heap[b]?
    rw [Array.getElem?_append_left hb]⟩

theorem readNumber_any (w : World) (s : List UInt8) (lo hi : Nat) (hs : s.length ≤ 1000000000) (hh : hi < 100) (hw : LaidS w) :
    Calls Tryz.prog 72 #[str s, .int .i64 (lo : Nat), .int .i64 (hi : Nat)] w (NumPost w (Fm.numOf s lo hi)) := by
  have hsz : (⟨s.toArray⟩ : ByteArray).size = s.length := by show s.toArray.size = _; simp
  have hdl : (⟨s.toArray⟩ : ByteArray).data.toList = s := by simp
  cases hc : Lib.atoiAll s with
  | ok v =>
    obtain ⟨hb0, hb1⟩ := Lib.atoiAll_bounds hc
    have h1 : Calls Tryz.prog 80 #[str s] w fun e w' => e = .returned (.tuple #[.int .i64 v, .nilIface]) ∧ (w' = w ∨ ∃ t, w' = Lib.bytesWorld w (laysAtoiR.t 5) t) :=
      Any.strconv_Atoi_ok laysAtoi ⟨s.toArray⟩ (by omega) v (by rw [hdl]; exact hc) w
    have h2 : ∀ W, LaidS W → Calls Tryz.prog 81 #[.int .i64 v] W fun e w' => e = .returned (.string ⟨(Lib.itoa v).toArray⟩) ∧ ∃ k os, w' = Go.Sort.grow (W.drewN k) os :=
      fun W hW => Any.strconv_Itoa laysItoa v hb0 hb1 W hW.tab
    obtain ⟨ho, hv⟩ := numOf_ok (lo := lo) (hi := hi) hh hc
    unfold NumPost
    generalize Fm.numOf s lo hi = o at *
    have HO := Lib.hid ho
    clear ho
    go_enter Tryz.func72, Tryz.ntmps72
    go_wp2_with fail
    refine h1.mono ?_
    rintro e w1 ⟨rfl, hW⟩
    have ha : After w w1 := by
      rcases hW with rfl | ⟨t, rfl⟩
      · exact After.refl _
      · exact after_bytes _ _ _
    have hL := hw.after ha
    clear hW h1
    go_wp2_with fail
    refine (h2 _ hL).mono ?_
    rintro e w2 ⟨rfl, k, os, rfl⟩
    have ha2 := ha.trans (after_grow w1 k os)
    generalize Go.Sort.grow (w1.drewN k) os = w2 at *
    clear h2 hL
    go_wp2_with fail
    · rename_i q1 q2
      go_ret2
      exact ⟨v, by rw [HO.out]; simp [q1, q2], hv, ha2⟩
    · rename_i q1 q2
      go_ret2
      exact ⟨v, by rw [HO.out]; simp [q1, show ¬ (lo : Int) ≤ v by omega], hv, ha2⟩
    · rename_i q1
      go_ret2
      exact ⟨v, by rw [HO.out]; simp [q1], hv, ha2⟩
  | «syntax» =>
    obtain ⟨tp, p, hp⟩ := hw.syn
    have h1 : Calls Tryz.prog 80 #[str s] w fun e w' => ∃ N, e = .returned (.tuple #[.int .i64 0, .iface (laysAtoiR.t 168) (.pointer (some ⟨N, 0, none⟩))]) ∧ w.heap.size ≤ N ∧ w'.heap[N]? = some (.cells #[.string ⟨#[65, 116, 111, 105]⟩, str s, .iface tp p] (laysAtoiR.t 210) (0, 0)) ∧ Below w.heap.size w w' :=
      Any.strconv_Atoi_syntax_var laysAtoi ⟨s.toArray⟩ (by omega) (by rw [hdl]; exact hc) tp p w hp
    have hno := numOf_no (lo := lo) hh (fun v hv => by rw [hc] at hv; cases hv)
    rw [hno]
    unfold NumPost
    clear hp hc hno hdl
    go_enter Tryz.func72, Tryz.ntmps72
    go_wp2_with fail
    refine h1.mono ?_
    rintro e w1 ⟨N, rfl, _, _, ha⟩
    clear h1
    go_wp2_with fail
    go_ret2
    exact ⟨0, rfl, (fun n h => by cases h), ha⟩
  | range =>
    obtain ⟨tp, p, hp⟩ := hw.ran
    have h1 : Calls Tryz.prog 80 #[str s] w fun e w' => ∃ N, e = .returned (.tuple #[.int .i64 (Lib.atoiSat s), .iface (laysAtoiR.t 168) (.pointer (some ⟨N, 0, none⟩))]) ∧ w.heap.size ≤ N ∧ w'.heap[N]? = some (.cells #[.string ⟨#[65, 116, 111, 105]⟩, str s, .iface tp p] (laysAtoiR.t 210) (0, 0)) ∧ Below w.heap.size w w' :=
      hdl ▸ Any.strconv_Atoi_range_var laysAtoi ⟨s.toArray⟩ (by omega) (by rw [hdl]; exact hc) tp p w hp
    have hno := numOf_no (lo := lo) hh (fun v hv => by rw [hc] at hv; cases hv)
    rw [hno]
    unfold NumPost
    generalize Lib.atoiSat s = q at *
    clear hp hc hno hdl
    go_enter Tryz.func72, Tryz.ntmps72
    go_wp2_with fail
    refine h1.mono ?_
    rintro e w1 ⟨N, rfl, _, _, ha⟩
    clear h1
    go_wp2_with fail
    go_ret2
    exact ⟨q, rfl, (fun n h => by cases h), ha⟩

end Go.Proofs.YtdjoafnohkmneaaGreatDoor

namespace Go.Proofs.YtdjoafnohkmneaaGreatDoor
open Go.ChangeShapes Go.WideShapes Go.ChangeAt Go.RowKit Go.Shelf

set_option maxRecDepth 100000

def laidList : List (String × DataW Unit) := [("math/bits.deBruijn32tab", Rows.laid_math_bits_deBruijn32tab), ("math/bits.deBruijn64tab", Rows.laid_math_bits_deBruijn64tab), ("internal/strconv.uint64pow10", Rows.laid_internal_strconv_uint64pow10), ("strconv.ErrRange", Rows.laid_strconv_ErrRange), ("strconv.ErrSyntax", Rows.laid_strconv_ErrSyntax)]

theorem row_errS (u : TypeId) (h : Tryz.prog.typeName? 3 u = some "*errors.errorString") : u = 189 :=
  typeName_ptr_named (nm := "errors.errorString") (by rw [show "*" ++ "errors.errorString" = "*errors.errorString" by rfl]; kernel_rfl) (by kernel_rfl) (by decide) u (by rw [show "*" ++ "errors.errorString" = "*errors.errorString" by rfl]; exact h)

theorem laidS_of {W : World} (h : laidMetH Tryz.prog laidList W) : LaidS W := by
  rw [MakeChecks.laidMetH_plain _ _ _ (by kernel_rfl)] at h
  refine ⟨?_, ?_, ?_⟩
  · obtain ⟨a, s, hv, _⟩ := laid_sentinel (g := (Tryz.prog.globalNamed "strconv.ErrSyntax").getD 0) (ts := 9) h.tail.tail.tail.tail (by kernel_rfl) (by kernel_rfl) Tryz.underlying59 row_errS Tryz.underlying189 Tryz.underlying191 rfl rfl Tryz.underlying9 (by kernel_rfl) (by kernel_rfl)
    exact ⟨_, _, hv⟩
  · obtain ⟨a, s, hv, _⟩ := laid_sentinel (g := (Tryz.prog.globalNamed "strconv.ErrRange").getD 0) (ts := 9) h.tail.tail.tail (by kernel_rfl) (by kernel_rfl) Tryz.underlying59 row_errS Tryz.underlying189 Tryz.underlying191 rfl rfl Tryz.underlying9 (by kernel_rfl) (by kernel_rfl)
    exact ⟨_, _, hv⟩
  · exact Lib.tabIs_of_head (g := (Tryz.prog.globalNamed "internal/strconv.uint64pow10").getD 0) (by kernel_rfl) (by kernel_rfl) Tryz.underlying193 Tryz.underlying175 (by kernel_rfl) (by kernel_rfl) h.tail.tail

theorem door_met (os : Os) (args : Array Value) : laidMetH Tryz.prog laidList ((World.doorLaid Tryz.prog 400 os).forCall (fun _ _ => 0) ⟨#[], args, []⟩).memory :=
  laidMetH_of_parts3 (fuel := 8) (laidMet_of_run' 8 (by kernel_rfl) (by kernel_rfl)) (by kernel_rfl) (by kernel_rfl)
end Go.Proofs.YtdjoafnohkmneaaGreatDoor

namespace Go.Proofs.YtdjoafnohkmneaaGreatDoor
open Go.RowKit Go.Shelf

attribute [local go_sem] Oper.semAt_some

theorem absR_snoc (x : List UInt8) : ∀ (xs : List (List UInt8)) (t : Tm), absR (xs ++ [x]) t = Tm.abs x (absR xs t)
  | [], _ => rfl
  | y :: ys, t => by simp only [List.cons_append, absR]; exact absR_snoc x ys _

theorem absR_size : ∀ (xs : List (List UInt8)) (t : Tm), (absR xs t).size ≤ 4 ^ xs.length * t.size
  | [], t => by simp [absR]
  | x :: xs, t => by
    have h1 := absR_size xs (Tm.abs x t)
    have h2 := abs_size x t
    simp only [absR, List.length_cons, Nat.pow_succ]
    calc (absR xs (Tm.abs x t)).size ≤ 4 ^ xs.length * (Tm.abs x t).size := h1
      _ ≤ 4 ^ xs.length * (4 * t.size) := Nat.mul_le_mul_left _ (by omega)
      _ = 4 ^ xs.length * 4 * t.size := by rw [Nat.mul_assoc]

theorem absR_small (xs : List (List UInt8)) (t : Tm) (h5 : xs.length < 5) (hz : t.size ≤ 3900) : (absR xs t).size ≤ 1000000 := by
  have h1 := absR_size xs t
  have h3 : 4 ^ xs.length ≤ 4 ^ 4 := Nat.pow_le_pow_right (by decide) (by omega)
  have h4 : 4 ^ xs.length * t.size ≤ 256 * 3900 := Nat.mul_le_mul h3 hz
  omega

end Go.Proofs.YtdjoafnohkmneaaGreatDoor

namespace Go.Proofs.YtdjoafnohkmneaaGreatDoor
open Go.RowKit

set_option maxHeartbeats 1000000
set_option maxRecDepth 100000

abbrev ptr (b : Nat) : Value := .pointer (some ⟨b, 0, none⟩)

/-! ### the names of arguments -/

end Go.Proofs.YtdjoafnohkmneaaGreatDoor

namespace Go.Proofs.YtdjoafnohkmneaaGreatDoor
open Go.RowKit

set_option maxHeartbeats 1000000
set_option maxRecDepth 100000

theorem o_slice_len {w : World} {base n size : Nat} {T : TypeId} {v : Value} {xs : List Value} (h : w.ownsRow base T size v n xs) : ∃ ao ac, v = .slice ao n ac := by
  rcases h.2 with ⟨rfl, rfl⟩ | ⟨g, cap, cur, rfl, _⟩
  · exact ⟨_, _, rfl⟩
  · exact ⟨_, _, rfl⟩
theorem o_slice {w : World} {base n size : Nat} {T : TypeId} {v : Value} {xs : List Value} (h : w.ownsRow base T size v n xs) : ∃ ao an ac, v = .slice ao an ac := by
  obtain ⟨ao, ac, h⟩ := o_slice_len h
  exact ⟨ao, n, ac, h⟩

/-! ### nameTerms -/

theorem cell_one_new2 (w : World) (o : Obj) (v : Value) (T : TypeId) : ∀ j u, [v][j]? = some u → ((w.alloc o).alloc (.cells #[v] T)).cell? ((⟨w.heap.size + 1, 0, none⟩ : Addr).add j) = some u := by
  intro j u h
  match j with
  | 0 =>
    simp at h
    subst h
    have := heap_top2 w o (.cells #[v] T)
    rw [show ((⟨w.heap.size + 1, 0, none⟩ : Addr).add 0) = ⟨w.heap.size + 1, 0, none⟩ from rfl, cell_of_heap this]
    rfl
  | j + 1 => simp at h

end Go.Proofs.YtdjoafnohkmneaaGreatDoor

namespace Go.Proofs.YtdjoafnohkmneaaGreatDoor
open Go.RowKit

set_option maxHeartbeats 1000000
set_option maxRecDepth 100000

theorem ns_len (a : Nat) (ha : a ≤ 3) : (FT.ns a).length = a := by simp [FT.ns]; omega

theorem ns_at (a j : Nat) (ha : a ≤ 3) (hj : j < a) : (#[str [120], str [121], str [122]] : Array Value)[j]? = some (str ((FT.ns a)[j]?.getD [])) := by
  match a, j, ha, hj with
  | 1, 0, _, _ => rfl
  | 2, 0, _, _ => rfl
  | 2, 1, _, _ => rfl
  | 3, 0, _, _ => rfl
  | 3, 1, _, _ => rfl
  | 3, 2, _, _ => rfl

/-- The names of arguments, as a slice. -/
def ArgN (w : World) (g _a : Nat) : Prop := w.heap[g]? = some (.cells #[str [120], str [121], str [122]] 9 (0, 0))

theorem ArgN.strs {w : World} {g a : Nat} (h : ArgN w g a) (ha : a ≤ 3) : StrsB w.heap.size w (.slice (some ⟨g, 0, none⟩) a 3) (FT.ns a) := by
  refine Or.inr ⟨g, 0, 3, by rw [ns_len a ha], (Array.getElem?_eq_some_iff.1 h).1, fun j hj => ?_⟩
  rw [ns_len a ha] at hj
  rw [Nat.zero_add, cell_of_heap h]
  exact ns_at a j ha hj

theorem ArgN.cells {w : World} {g a : Nat} (h : ArgN w g a) (ha : a ≤ 3) : ∀ j, j < (FT.ns a).length → w.cell? ⟨g, j, none⟩ = some (str ((FT.ns a)[j]?.getD [])) := fun j hj => by
  rw [ns_len a ha] at hj
  rw [cell_of_heap h]
  exact ns_at a j ha hj

theorem vs_at (i a : Nat) (hi : i < a) (ha : a ≤ 3) : (FT.vs a).getD i .k = .nm ((FT.ns a)[i]?.getD []) := by
  match a, i, ha, hi with
  | 1, 0, _, _ => rfl
  | 2, 0, _, _ => rfl
  | 2, 1, _, _ => rfl
  | 3, 0, _, _ => rfl
  | 3, 1, _, _ => rfl
  | 3, 2, _, _ => rfl

end Go.Proofs.YtdjoafnohkmneaaGreatDoor

namespace Go.Proofs.YtdjoafnohkmneaaGreatDoor
open Go.RowKit

set_option maxHeartbeats 1000000
set_option maxRecDepth 100000

theorem After.le {w W : World} (h : After w W) : w.heap.size ≤ W.heap.size := Below.size h

theorem after_set2 {w w1 : World} {b : Nat} (ha : After w w1) (hb : w.heap.size ≤ b) (u v : Value) : After w ((w1.setCell ⟨b, 1, none⟩ u).setCell ⟨b, 2, none⟩ v) :=
  (Below.setCell (p := ⟨b, 1, none⟩) ha hb u).setCell (p := ⟨b, 2, none⟩) hb v

end Go.Proofs.YtdjoafnohkmneaaGreatDoor
