/-
  Plain mathematics of function texts: words, the two readers, values, realizers. No program is named here.
-/
import Derived.Test.YtmkmladlpgfniacGreatPkB
import Derived.Shelf.Strings.IndexAnyAll
import Derived.Test.YtmkmladlpgfniacGreatProg
import Derived.WalkKit
import Derived.WalkSpells
import Derived.WalkLawsBesides
import Derived.Laws.RangeAny
import Derived.LoopN
import Derived.WalkMore
import Derived.Laws.Runes
import Derived.Shelf.Small.Utf8
import Derived.Shelf.Small.Strs
import Derived.Deep.LoopGhost
import Derived.OwnWalk
import Derived.Laws.OwnMore
import Derived.Lib.OwnKind
import Derived.Lib.SmallJoins
namespace Go.Proofs.YtmkmladlpgfniacGreat

/-- A function text. -/
inductive FT where
  | z (a : Nat)
  | inc
  | p (i a : Nat)
  | c1 (f g : FT)
  | c2 (f g h : FT)
  | c3 (f g h i : FT)
  | r (f g : FT)
  | m (f : FT)

namespace FT

def arity : FT → Nat
  | z a => a
  | inc => 1
  | p _ a => a
  | c1 _ g => arity g
  | c2 _ g _ => arity g
  | c3 _ g _ _ => arity g
  | r f _ => arity f + 1
  | m f => arity f - 1

def size : FT → Nat
  | c1 f g => 1 + (size f + size g)
  | c2 f g h => 1 + (size f + (size g + size h))
  | c3 f g h i => 1 + (size f + (size g + (size h + size i)))
  | r f g => 1 + (size f + size g)
  | m f => 1 + size f
  | _ => 1

def total : FT → Bool
  | c1 f g => total f && total g
  | c2 f g h => total f && total g && total h
  | c3 f g h i => total f && total g && total h && total i
  | r f g => total f && total g
  | m _ => false
  | _ => true

/-- All parts have the arities that they have to have. -/
def ok : FT → Prop
  | z a => a ≤ 3
  | inc => True
  | p i a => i < a ∧ a ≤ 3
  | c1 f g => ok f ∧ ok g ∧ arity f = 1
  | c2 f g h => ok f ∧ ok g ∧ ok h ∧ arity f = 2 ∧ arity h = arity g
  | c3 f g h i => ok f ∧ ok g ∧ ok h ∧ ok i ∧ arity f = 3 ∧ arity h = arity g ∧ arity i = arity g
  | r f g => ok f ∧ ok g ∧ arity g = arity f + 2
  | m f => ok f ∧ 0 < arity f

theorem arity_le : ∀ {t : FT}, ok t → arity t ≤ 3
  | z _, h => h
  | inc, _ => by simp [arity]
  | p _ _, h => h.2
  | c1 _ _, h => by have := arity_le h.2.1; simpa only [arity] using this
  | c2 _ _ _, h => by have := arity_le h.2.1; simpa only [arity] using this
  | c3 _ _ _ _, h => by have := arity_le h.2.1; simpa only [arity] using this
  | r _ _, h => by have := arity_le h.2.1; have := h.2.2; simp only [arity]; omega
  | m _, h => by have := arity_le h.1; simp only [arity]; omega

theorem size_pos (t : FT) : 1 ≤ size t := by cases t <;> simp only [size] <;> omega

/-! ### words and combinations -/

def word (s : List UInt8) : Option FT :=
  if s = [122, 48] then some (z 0) else if s = [122, 49] then some (z 1) else if s = [122, 50] then some (z 2) else if s = [122, 51] then some (z 3)
  else if s = [105, 110, 99] then some inc
  else if s = [112, 48, 49] then some (p 0 1) else if s = [112, 48, 50] then some (p 0 2) else if s = [112, 49, 50] then some (p 1 2)
  else if s = [112, 48, 51] then some (p 0 3) else if s = [112, 49, 51] then some (p 1 3) else if s = [112, 50, 51] then some (p 2 3)
  else none

theorem word_facts {s : List UInt8} {t : FT} (h : word s = some t) : t.ok ∧ t.size = 1 ∧ 1 ≤ s.length ∧ s.length ≤ 3 ∧ t.total = true := by
  unfold word at h
  repeat (split at h; · (rename_i hs; cases h; subst hs; simp [ok, size, total]))
  cases h

def comb (a : List UInt8) (ps : List FT) : Option FT :=
  if a = [99] then match ps with
    | [f, g] => if arity f = 1 then some (c1 f g) else none
    | [f, g, h] => if arity f = 2 ∧ arity h = arity g then some (c2 f g h) else none
    | [f, g, h, i] => if arity f = 3 ∧ arity h = arity g ∧ arity i = arity g then some (c3 f g h i) else none
    | _ => none
  else if a = [114] then match ps with
    | [f, g] => if arity g = arity f + 2 then some (r f g) else none
    | _ => none
  else if a = [109] then match ps with
    | [f] => if 0 < arity f then some (m f) else none
    | _ => none
  else none

theorem comb_facts {a : List UInt8} {ps : List FT} {t : FT} (h : comb a ps = some t) (ho : ∀ f ∈ ps, ok f) : ok t ∧ size t = 1 + (ps.map size).sum ∧ a.length = 1 := by
  unfold comb at h
  split at h
  · rename_i ha; subst ha
    split at h
    · split at h
      · rename_i f g hc; cases h; simp at ho; exact ⟨⟨ho.1, ho.2, hc⟩, by simp [size], rfl⟩
      · cases h
    · split at h
      · rename_i f g k hc; cases h; simp at ho; exact ⟨⟨ho.1, ho.2.1, ho.2.2, hc⟩, by simp [size], rfl⟩
      · cases h
    · split at h
      · rename_i f g k l hc; cases h; simp at ho; exact ⟨⟨ho.1, ho.2.1, ho.2.2.1, ho.2.2.2, hc⟩, by simp [size], rfl⟩
      · cases h
    · cases h
  · split at h
    · rename_i ha; subst ha
      split at h
      · split at h
        · rename_i f g hc; cases h; simp at ho; exact ⟨⟨ho.1, ho.2, hc⟩, by simp [size], rfl⟩
        · cases h
      · cases h
    · split at h
      · rename_i ha; subst ha
        split at h
        · split at h
          · rename_i f hc; cases h; simp at ho; exact ⟨⟨ho, hc⟩, by simp [size], rfl⟩
          · cases h
        · cases h
      · cases h

/-! ### the readers -/

def sl (l : List UInt8) (i j : Nat) : List UInt8 := (l.drop i).take (j - i)

def mparts (rd : Nat → Option (FT × Nat)) (l : List UInt8) : Nat → Nat → List FT → Option (List FT × Nat)
  | 0, _, _ => none
  | n + 1, i, acc => if l[i]? = some 32 then match rd (i + 1) with
      | none => none
      | some (t, j) => mparts rd l n j (acc ++ [t])
    else some (acc, i)

/-- The model's reader: d is 41 less the depth. -/
def mread (l : List UInt8) : Nat → Nat → Option (FT × Nat)
  | 0, _ => none
  | d + 1, i =>
    if l.length ≤ i then none
    else if l[i]? = some 40 then
      match mparts (mread l d) l (l.length + 1) (Tm.atomEnd l (i + 1)) [] with
      | none => none
      | some (ps, j) => if l[j]? = some 41 then match comb (sl l (i + 1) (Tm.atomEnd l (i + 1))) ps with
          | none => none
          | some t => some (t, j + 1)
        else none
    else match word (sl l i (Tm.atomEnd l i)) with
      | none => none
      | some t => some (t, Tm.atomEnd l i)

def mfun (l : List UInt8) : Option FT :=
  if 400 < l.length then none else
  match mread l 41 0 with
  | some (t, j) => if j = l.length ∧ size t ≤ 40 then some t else none
  | none => none

def pparts (rd : Nat → Nat → Option (FT × Nat × Nat)) (l : List UInt8) : Nat → Nat → Nat → List FT → Option (List FT × Nat × Nat)
  | 0, _, _, _ => none
  | n + 1, i, k, acc => if l[i]? = some 32 then match rd (i + 1) k with
      | none => none
      | some (t, j, k') => pparts rd l n j k' (acc ++ [t])
    else some (acc, i, k)

/-- The program's reader: k is how many atoms may still come, at most d. -/
def pread (l : List UInt8) : Nat → Nat → Nat → Option (FT × Nat × Nat)
  | 0, _, _ => none
  | d + 1, i, k =>
    if k = 0 then none
    else if l[i]? = some 40 then
      match pparts (pread l d) l (l.length + 1) (Tm.atomEnd l (i + 1)) (k - 1) [] with
      | none => none
      | some (ps, j, k') => if l[j]? = some 41 then match comb (sl l (i + 1) (Tm.atomEnd l (i + 1))) ps with
          | none => none
          | some t => some (t, j + 1, k')
        else none
    else match word (sl l i (Tm.atomEnd l i)) with
      | none => none
      | some t => some (t, Tm.atomEnd l i, k - 1)

def parse (l : List UInt8) : Option FT :=
  match pread l 40 0 40 with
  | some (t, j, _) => if j = l.length then some t else none
  | none => none

theorem atomEnd_ge (l : List UInt8) (i : Nat) : i ≤ Tm.atomEnd l i := by unfold Tm.atomEnd; omega
theorem atomEnd_le (l : List UInt8) (i : Nat) (h : i ≤ l.length) : Tm.atomEnd l i ≤ l.length := by
  unfold Tm.atomEnd
  have : ((l.drop i).takeWhile fun c => c != 32 && c != 40 && c != 41).length ≤ (l.drop i).length := (List.takeWhile_prefix _).length_le
  simp at this
  omega
theorem sl_len (l : List UInt8) (i j : Nat) (h : j ≤ l.length) : (sl l i j).length = j - i := by
  simp [sl]; omega

theorem sum_app (xs : List FT) (t : FT) : ((xs ++ [t]).map size).sum = (xs.map size).sum + size t := by simp

/-! what the model's reader reads is well made -/

theorem mparts_facts {rd : Nat → Option (FT × Nat)} {l : List UInt8}
    (hrd : ∀ i t j, i ≤ l.length → rd i = some (t, j) → ok t ∧ i + 1 ≤ j ∧ j ≤ l.length ∧ j + 1 ≤ i + 4 * size t) :
    ∀ (n i : Nat) (acc ps : List FT) (j : Nat), i ≤ l.length → (∀ f ∈ acc, ok f) → mparts rd l n i acc = some (ps, j) →
      (∀ f ∈ ps, ok f) ∧ i ≤ j ∧ j ≤ l.length ∧ (acc.map size).sum ≤ (ps.map size).sum ∧ j + 4 * (acc.map size).sum ≤ i + 4 * (ps.map size).sum
  | 0, _, _, _, _, _, _, h => by simp [mparts] at h
  | n + 1, i, acc, ps, j, hi, ha, h => by
    simp only [mparts] at h
    split at h
    · rename_i h32
      have hi1 : i + 1 ≤ l.length := (List.getElem?_eq_some_iff.1 h32).1
      cases hr : rd (i + 1) with
      | none => rw [hr] at h; simp at h
      | some q =>
        obtain ⟨t, k⟩ := q
        rw [hr] at h
        simp only at h
        obtain ⟨h1, h2, h3, h4⟩ := hrd _ _ _ hi1 hr
        obtain ⟨g1, g2, g3, g4, g5⟩ := mparts_facts hrd n k (acc ++ [t]) ps j h3 (by intro f hf; rcases List.mem_append.1 hf with hf | hf; exact ha f hf; simp at hf; subst hf; exact h1) h
        rw [sum_app] at g4 g5
        exact ⟨g1, by omega, g3, by omega, by omega⟩
    · simp only [Option.some.injEq, Prod.mk.injEq] at h
      obtain ⟨rfl, rfl⟩ := h
      exact ⟨ha, Nat.le_refl _, hi, Nat.le_refl _, Nat.le_refl _⟩

theorem mread_facts (l : List UInt8) : ∀ (d i : Nat) (t : FT) (j : Nat), i ≤ l.length → mread l d i = some (t, j) → ok t ∧ i + 1 ≤ j ∧ j ≤ l.length ∧ j + 1 ≤ i + 4 * size t
  | 0, _, _, _, _, h => by simp [mread] at h
  | d + 1, i, t, j, hi, h => by
    simp only [mread] at h
    split at h
    · cases h
    · rename_i hlt
      split at h
      · rename_i h40
        have hi1 : i + 1 ≤ l.length := by omega
        have ha1 := atomEnd_ge l (i + 1)
        have ha2 := atomEnd_le l (i + 1) hi1
        cases hm : mparts (mread l d) l (l.length + 1) (Tm.atomEnd l (i + 1)) [] with
        | none => rw [hm] at h; simp at h
        | some q =>
          obtain ⟨ps, k⟩ := q
          rw [hm] at h
          simp only at h
          obtain ⟨g1, g2, g3, _, g5⟩ := mparts_facts (mread_facts l d) _ _ _ _ _ ha2 (by simp) hm
          split at h
          · rename_i h41
            cases hc : comb (sl l (i + 1) (Tm.atomEnd l (i + 1))) ps with
            | none => rw [hc] at h; simp at h
            | some u =>
              rw [hc] at h
              simp only [Option.some.injEq, Prod.mk.injEq] at h
              obtain ⟨rfl, rfl⟩ := h
              obtain ⟨c1, c2, c3⟩ := comb_facts hc g1
              rw [sl_len _ _ _ ha2] at c3
              have hk : k + 1 ≤ l.length := (List.getElem?_eq_some_iff.1 h41).1
              simp at g5
              exact ⟨c1, by omega, hk, by omega⟩
          · cases h
      · cases hw : word (sl l i (Tm.atomEnd l i)) with
        | none => rw [hw] at h; simp at h
        | some u =>
          rw [hw] at h
          simp only [Option.some.injEq, Prod.mk.injEq] at h
          obtain ⟨rfl, rfl⟩ := h
          obtain ⟨w1, w2, w3, w4, _⟩ := word_facts hw
          have ha2 := atomEnd_le l i hi
          rw [sl_len _ _ _ ha2] at w3 w4
          exact ⟨w1, by omega, ha2, by omega⟩

/-! both read the same -/

theorem pparts_m {pd : Nat → Nat → Option (FT × Nat × Nat)} {rd : Nat → Option (FT × Nat)} {l : List UInt8}
    (hp : ∀ i k t j k', pd i k = some (t, j, k') → rd i = some (t, j) ∧ size t + k' = k) :
    ∀ (n i k : Nat) (acc ps : List FT) (j k' : Nat), pparts pd l n i k acc = some (ps, j, k') → mparts rd l n i acc = some (ps, j) ∧ (ps.map size).sum + k' = (acc.map size).sum + k
  | 0, _, _, _, _, _, _, h => by simp [pparts] at h
  | n + 1, i, k, acc, ps, j, k', h => by
    simp only [pparts] at h
    simp only [mparts]
    split at h
    · rename_i h32
      rw [if_pos h32]
      cases hr : pd (i + 1) k with
      | none => rw [hr] at h; simp at h
      | some q =>
        obtain ⟨t, a, b⟩ := q
        rw [hr] at h
        simp only at h
        obtain ⟨h1, h2⟩ := hp _ _ _ _ _ hr
        obtain ⟨g1, g2⟩ := pparts_m hp n a b (acc ++ [t]) ps j k' h
        rw [sum_app] at g2
        rw [h1]
        exact ⟨g1, by omega⟩
    · rename_i h32
      rw [if_neg h32]
      simp only [Option.some.injEq, Prod.mk.injEq] at h
      obtain ⟨rfl, rfl, rfl⟩ := h
      exact ⟨rfl, rfl⟩

theorem pread_m (l : List UInt8) : ∀ (d e i k : Nat) (t : FT) (j k' : Nat), d ≤ e → pread l d i k = some (t, j, k') → mread l e i = some (t, j) ∧ size t + k' = k
  | 0, _, _, _, _, _, _, _, h => by simp [pread] at h
  | d + 1, 0, _, _, _, _, _, hd, _ => by omega
  | d + 1, e + 1, i, k, t, j, k', hd, h => by
    simp only [pread] at h
    simp only [mread]
    split at h
    · cases h
    · rename_i hk
      split at h
      · rename_i h40
        rw [if_neg (by have := (List.getElem?_eq_some_iff.1 h40).1; omega), if_pos h40]
        cases hm : pparts (pread l d) l (l.length + 1) (Tm.atomEnd l (i + 1)) (k - 1) [] with
        | none => rw [hm] at h; simp at h
        | some q =>
          obtain ⟨ps, a, b⟩ := q
          rw [hm] at h
          simp only at h
          obtain ⟨g1, g2⟩ := pparts_m (fun i k t j k' => pread_m l d e i k t j k' (by omega)) _ _ _ _ _ _ _ hm
          rw [g1]
          simp only
          split at h
          · rename_i h41
            rw [if_pos h41]
            cases hc : comb (sl l (i + 1) (Tm.atomEnd l (i + 1))) ps with
            | none => rw [hc] at h; simp at h
            | some u =>
              rw [hc] at h
              simp only [Option.some.injEq, Prod.mk.injEq] at h
              obtain ⟨rfl, rfl, rfl⟩ := h
              refine ⟨rfl, ?_⟩
              have := comb_size hc
              simp at g2
              omega
          · cases h
      · rename_i h40
        cases hw : word (sl l i (Tm.atomEnd l i)) with
        | none => rw [hw] at h; simp at h
        | some u =>
          rw [hw] at h
          simp only [Option.some.injEq, Prod.mk.injEq] at h
          obtain ⟨rfl, rfl, rfl⟩ := h
          have hlt : ¬ l.length ≤ i := by
            intro hle
            have w3 := (word_facts hw).2.2.1
            simp [sl, List.drop_eq_nil_of_le hle] at w3
          rw [if_neg hlt, if_neg h40]
          exact ⟨rfl, by have := (word_facts hw).2.1; omega⟩
where
  comb_size {a : List UInt8} {ps : List FT} {t : FT} (h : comb a ps = some t) : size t = 1 + (ps.map size).sum := by
    unfold comb at h
    repeat' split at h
    all_goals first
      | (cases h; simp [size])
      | cases h

theorem mparts_p {pd : Nat → Nat → Option (FT × Nat × Nat)} {rd : Nat → Option (FT × Nat)} {l : List UInt8} {K : Nat}
    (hp : ∀ i k t j, rd i = some (t, j) → size t ≤ k → k ≤ K → pd i k = some (t, j, k - size t)) :
    ∀ (n i k : Nat) (acc ps : List FT) (j : Nat), mparts rd l n i acc = some (ps, j) → (ps.map size).sum ≤ (acc.map size).sum + k → k ≤ K →
      (acc.map size).sum ≤ (ps.map size).sum ∧ pparts pd l n i k acc = some (ps, j, k + (acc.map size).sum - (ps.map size).sum)
  | 0, _, _, _, _, _, h, _, _ => by simp [mparts] at h
  | n + 1, i, k, acc, ps, j, h, hk, hK => by
    simp only [mparts] at h
    simp only [pparts]
    split at h
    · rename_i h32
      rw [if_pos h32]
      cases hr : rd (i + 1) with
      | none => rw [hr] at h; simp at h
      | some q =>
        obtain ⟨t, a⟩ := q
        rw [hr] at h
        simp only at h
        have hmono := mparts_mono n a (acc ++ [t]) ps j h
        rw [sum_app] at hmono
        rw [hp _ k _ _ hr (by omega) hK]
        obtain ⟨g1, g2⟩ := mparts_p hp n a (k - size t) (acc ++ [t]) ps j h (by rw [sum_app]; omega) (by omega)
        rw [sum_app] at g1 g2
        simp only
        rw [g2]
        exact ⟨by omega, by congr 3; omega⟩
    · rename_i h32
      rw [if_neg h32]
      simp only [Option.some.injEq, Prod.mk.injEq] at h
      obtain ⟨rfl, rfl⟩ := h
      exact ⟨Nat.le_refl _, by simp⟩
where
  mparts_mono {rd : Nat → Option (FT × Nat)} {l : List UInt8} : ∀ (n i : Nat) (acc ps : List FT) (j : Nat), mparts rd l n i acc = some (ps, j) → (acc.map size).sum ≤ (ps.map size).sum
    | 0, _, _, _, _, h => by simp [mparts] at h
    | n + 1, i, acc, ps, j, h => by
      simp only [mparts] at h
      split at h
      · cases hr : rd (i + 1) with
        | none => rw [hr] at h; simp at h
        | some q =>
          rw [hr] at h
          have := mparts_mono n _ _ _ _ h
          rw [sum_app] at this
          omega
      · simp only [Option.some.injEq, Prod.mk.injEq] at h
        obtain ⟨rfl, rfl⟩ := h
        exact Nat.le_refl _

theorem mread_p (l : List UInt8) : ∀ (e d i k : Nat) (t : FT) (j : Nat), mread l e i = some (t, j) → size t ≤ k → k ≤ d → pread l d i k = some (t, j, k - size t)
  | 0, _, _, _, _, _, h, _, _ => by simp [mread] at h
  | e + 1, 0, i, k, t, j, h, hk, hd => by have := size_pos t; omega
  | e + 1, d + 1, i, k, t, j, h, hk, hd => by
    have hpos := size_pos t
    simp only [mread] at h
    simp only [pread]
    rw [if_neg (by omega)]
    split at h
    · cases h
    · split at h
      · rename_i h40
        rw [if_pos h40]
        cases hm : mparts (mread l e) l (l.length + 1) (Tm.atomEnd l (i + 1)) [] with
        | none => rw [hm] at h; simp at h
        | some q =>
          obtain ⟨ps, a⟩ := q
          rw [hm] at h
          simp only at h
          split at h
          · rename_i h41
            cases hc : comb (sl l (i + 1) (Tm.atomEnd l (i + 1))) ps with
            | none => rw [hc] at h; simp at h
            | some u =>
              rw [hc] at h
              simp only [Option.some.injEq, Prod.mk.injEq] at h
              obtain ⟨rfl, rfl⟩ := h
              have hs := pread_m.comb_size hc
              obtain ⟨_, g2⟩ := mparts_p (K := d) (fun i k t j h h1 h2 => mread_p l e d i k t j h h1 h2) _ _ (k - 1) _ _ _ hm (by simp; omega) (by omega)
              rw [g2]
              simp only
              rw [if_pos h41, hc]
              simp
              omega
          · cases h
      · rename_i h40
        rw [if_neg h40]
        cases hw : word (sl l i (Tm.atomEnd l i)) with
        | none => rw [hw] at h; simp at h
        | some u =>
          rw [hw] at h
          simp only [Option.some.injEq, Prod.mk.injEq] at h
          obtain ⟨rfl, rfl⟩ := h
          simp [(word_facts hw).2.1]

theorem parse_eq (l : List UInt8) : parse l = mfun l := by
  unfold parse mfun
  cases hp : pread l 40 0 40 with
  | some q =>
    obtain ⟨t, j, k⟩ := q
    obtain ⟨h1, h2⟩ := pread_m l 40 41 0 40 t j k (by omega) hp
    obtain ⟨_, _, h3, h4⟩ := mread_facts l 41 0 t j (by omega) h1
    simp only
    by_cases hj : j = l.length
    · rw [if_pos hj, if_neg (by omega), h1]; simp only; rw [if_pos ⟨hj, by omega⟩]
    · rw [if_neg hj, h1]; simp [hj]
  | none =>
    simp only
    split
    · rfl
    · cases hm : mread l 41 0 with
      | none => rfl
      | some q =>
        obtain ⟨t, j⟩ := q
        simp only
        split
        · rename_i h
          rw [mread_p l 41 40 0 40 t j hm h.2 (by omega)] at hp
          cases hp
        · rfl

theorem parse_facts {l : List UInt8} {t : FT} (h : parse l = some t) : ok t ∧ size t ≤ 40 ∧ l.length ≤ 400 := by
  rw [parse_eq] at h
  unfold mfun at h
  split at h
  · cases h
  · rename_i hl
    cases hm : mread l 41 0 with
    | none => rw [hm] at h; simp at h
    | some q =>
      obtain ⟨t', j⟩ := q
      rw [hm] at h
      simp only at h
      split at h
      · rename_i hc
        cases h
        exact ⟨(mread_facts l 41 0 t j (by omega) hm).1, hc.2, by omega⟩
      · cases h

end FT
end Go.Proofs.YtmkmladlpgfniacGreat

namespace Go.Proofs.YtmkmladlpgfniacGreat
namespace FT

/-- The value may be at most 1000. -/
def chk : Option (Nat × Nat) → Option (Nat × Nat)
  | some (v, s) => if v ≤ 1000 then some (v, s) else none
  | none => none

/-- The rounds of (r F G): n rounds are left, i is the number, v the value, s the steps. -/
def loopR (g : List Nat → Nat → Option (Nat × Nat)) (rest : List Nat) : Nat → Nat → Nat → Nat → Option (Nat × Nat)
  | 0, _, v, s => some (v, s)
  | n + 1, i, v, s => match g (i :: v :: rest) s with
    | none => none
    | some (v', s') => loopR g rest n (i + 1) v' s'

/-- The rounds of (m F), the program's. -/
def loopM (f : List Nat → Nat → Option (Nat × Nat)) (rest : List Nat) : Nat → Nat → Nat → Option (Nat × Nat)
  | 0, _, _ => none
  | k + 1, n, s => match f (n :: rest) s with
    | none => none
    | some (v, s') => if v = 0 then some (n, s') else loopM f rest k (n + 1) s'

/-- The rounds of (m F), the model's. -/
def loopN (f : List Nat → Nat → Option (Nat × Nat)) (rest : List Nat) : Nat → Nat → Nat → Option (Nat × Nat)
  | 0, _, _ => none
  | k + 1, n, s => match f (n :: rest) s with
    | none => none
    | some (v, s') => if v = 0 then some (n, s') else if 1000 < n + 1 then none else loopN f rest k (n + 1) s'

/-- What the program reckons behind s steps. -/
def ev : FT → List Nat → Nat → Option (Nat × Nat)
  | z _, _, s => if 2000 < s + 1 then none else some (0, s + 1)
  | inc, az, s => if 2000 < s + 1 then none else chk (some (az.headD 0 + 1, s + 1))
  | p i _, az, s => if 2000 < s + 1 then none else chk (some (az.getD i 0, s + 1))
  | c1 f g, az, s => if 2000 < s + 1 then none else chk (match ev g az (s + 1) with
    | none => none
    | some (x, s1) => ev f [x] s1)
  | c2 f g h, az, s => if 2000 < s + 1 then none else chk (match ev g az (s + 1) with
    | none => none
    | some (x, s1) => match ev h az s1 with
      | none => none
      | some (y, s2) => ev f [x, y] s2)
  | c3 f g h i, az, s => if 2000 < s + 1 then none else chk (match ev g az (s + 1) with
    | none => none
    | some (x, s1) => match ev h az s1 with
      | none => none
      | some (y, s2) => match ev i az s2 with
        | none => none
        | some (t, s3) => ev f [x, y, t] s3)
  | r f g, az, s => if 2000 < s + 1 then none else chk (match ev f az.tail (s + 1) with
    | none => none
    | some (v, s1) => loopR (ev g) az.tail (az.headD 0) 0 v s1)
  | m f, az, s => if 2000 < s + 1 then none else chk (loopM (ev f) az 2001 0 (s + 1))

/-- What the model reckons behind s steps. -/
def mv : FT → List Nat → Nat → Option (Nat × Nat)
  | z _, _, s => if 2000 < s + 1 then none else some (0, s + 1)
  | inc, az, s => if 2000 < s + 1 then none else if 1000 ≤ az.headD 0 then none else some (az.headD 0 + 1, s + 1)
  | p i _, az, s => if 2000 < s + 1 then none else some (az.getD i 0, s + 1)
  | c1 f g, az, s => if 2000 < s + 1 then none else match mv g az (s + 1) with
    | none => none
    | some (x, s1) => mv f [x] s1
  | c2 f g h, az, s => if 2000 < s + 1 then none else match mv g az (s + 1) with
    | none => none
    | some (x, s1) => match mv h az s1 with
      | none => none
      | some (y, s2) => mv f [x, y] s2
  | c3 f g h i, az, s => if 2000 < s + 1 then none else match mv g az (s + 1) with
    | none => none
    | some (x, s1) => match mv h az s1 with
      | none => none
      | some (y, s2) => match mv i az s2 with
        | none => none
        | some (t, s3) => mv f [x, y, t] s3
  | r f g, az, s => if 2000 < s + 1 then none else match mv f az.tail (s + 1) with
    | none => none
    | some (v, s1) => loopR (mv g) az.tail (az.headD 0) 0 v s1
  | m f, az, s => if 2000 < s + 1 then none else loopN (mv f) az 2001 0 (s + 1)

theorem chk_some {o : Option (Nat × Nat)} {v s : Nat} (h : chk o = some (v, s)) : o = some (v, s) ∧ v ≤ 1000 := by
  cases o with
  | none => simp [chk] at h
  | some q =>
    obtain ⟨a, b⟩ := q
    simp only [chk] at h
    split at h
    · simp only [Option.some.injEq, Prod.mk.injEq] at h
      obtain ⟨rfl, rfl⟩ := h
      exact ⟨rfl, by assumption⟩
    · cases h

theorem chk_small {o : Option (Nat × Nat)} (h : ∀ v s, o = some (v, s) → v ≤ 1000) : chk o = o := by
  cases o with
  | none => rfl
  | some q => obtain ⟨a, b⟩ := q; simp [chk, h a b rfl]

/-- What a value and its steps keep. -/
structure Runs (o : Option (Nat × Nat)) (s : Nat) : Prop where
  small : ∀ v s', o = some (v, s') → v ≤ 1000 ∧ s < s' ∧ s' ≤ 2000

theorem loopR_facts {g : List Nat → Nat → Option (Nat × Nat)} (hg : ∀ az s, Runs (g az s) s) (rest : List Nat) : ∀ (n i v s v' s' : Nat), v ≤ 1000 → s ≤ 2000 → loopR g rest n i v s = some (v', s') → v' ≤ 1000 ∧ s ≤ s' ∧ s' ≤ 2000
  | 0, _, _, _, _, _, hv, hs, h => by
    simp only [loopR, Option.some.injEq, Prod.mk.injEq] at h
    obtain ⟨rfl, rfl⟩ := h
    exact ⟨hv, Nat.le_refl _, hs⟩
  | n + 1, i, v, s, v', s', hv, hs, h => by
    simp only [loopR] at h
    cases hq : g (i :: v :: rest) s with
    | none => rw [hq] at h; simp at h
    | some q =>
      obtain ⟨a, b⟩ := q
      rw [hq] at h
      have hr := (hg (i :: v :: rest) s).small a b hq
      have := loopR_facts hg rest n (i + 1) a b v' s' hr.1 hr.2.2 h
      exact ⟨this.1, by omega, this.2.2⟩

theorem loopM_facts {f : List Nat → Nat → Option (Nat × Nat)} (hf : ∀ az s, Runs (f az s) s) (rest : List Nat) : ∀ (k n s v' s' : Nat), loopM f rest k n s = some (v', s') → n ≤ v' ∧ s < s' ∧ s' ≤ 2000
  | 0, _, _, _, _, h => by simp [loopM] at h
  | k + 1, n, s, v', s', h => by
    simp only [loopM] at h
    cases hq : f (n :: rest) s with
    | none => rw [hq] at h; simp at h
    | some q =>
      obtain ⟨a, b⟩ := q
      rw [hq] at h
      have hr := (hf (n :: rest) s).small a b hq
      simp only at h
      split at h
      · simp only [Option.some.injEq, Prod.mk.injEq] at h
        obtain ⟨rfl, rfl⟩ := h
        exact ⟨Nat.le_refl _, hr.2.1, hr.2.2⟩
      · have := loopM_facts hf rest k (n + 1) b v' s' h
        exact ⟨by omega, by omega, this.2.2⟩

theorem loopN_facts {f : List Nat → Nat → Option (Nat × Nat)} (hf : ∀ az s, Runs (f az s) s) (rest : List Nat) : ∀ (k n s v' s' : Nat), n ≤ 1000 → loopN f rest k n s = some (v', s') → v' ≤ 1000
  | 0, _, _, _, _, _, h => by simp [loopN] at h
  | k + 1, n, s, v', s', hn, h => by
    simp only [loopN] at h
    cases hq : f (n :: rest) s with
    | none => rw [hq] at h; simp at h
    | some q =>
      obtain ⟨a, b⟩ := q
      rw [hq] at h
      simp only at h
      split at h
      · simp only [Option.some.injEq, Prod.mk.injEq] at h
        obtain ⟨rfl, rfl⟩ := h
        exact hn
      · split at h
        · cases h
        · exact loopN_facts hf rest k (n + 1) b v' s' (by omega) h

theorem ev_runs : ∀ (t : FT) (az : List Nat) (s : Nat), Runs (ev t az s) s
  | z _, az, s => ⟨fun v s' h => by
    simp only [ev] at h
    split at h
    · cases h
    · simp only [Option.some.injEq, Prod.mk.injEq] at h; omega⟩
  | inc, az, s => ⟨fun v s' h => by
    simp only [ev] at h
    split at h
    · cases h
    · obtain ⟨h, hv⟩ := chk_some h; simp only [Option.some.injEq, Prod.mk.injEq] at h; omega⟩
  | p _ _, az, s => ⟨fun v s' h => by
    simp only [ev] at h
    split at h
    · cases h
    · obtain ⟨h, hv⟩ := chk_some h; simp only [Option.some.injEq, Prod.mk.injEq] at h; omega⟩
  | c1 f g, az, s => ⟨fun v s' h => by
    simp only [ev] at h
    split at h
    · cases h
    · obtain ⟨h, hv⟩ := chk_some h
      cases hg : ev g az (s + 1) with
      | none => rw [hg] at h; simp at h
      | some q =>
        obtain ⟨x, s1⟩ := q
        rw [hg] at h
        have h1 := (ev_runs g az (s + 1)).small _ _ hg
        have h2 := (ev_runs f [x] s1).small _ _ h
        omega⟩
  | c2 f g k, az, s => ⟨fun v s' h => by
    simp only [ev] at h
    split at h
    · cases h
    · obtain ⟨h, hv⟩ := chk_some h
      cases hg : ev g az (s + 1) with
      | none => rw [hg] at h; simp at h
      | some q =>
        obtain ⟨x, s1⟩ := q
        rw [hg] at h
        simp only at h
        cases hk : ev k az s1 with
        | none => rw [hk] at h; simp at h
        | some q =>
          obtain ⟨y, s2⟩ := q
          rw [hk] at h
          have h1 := (ev_runs g az (s + 1)).small _ _ hg
          have h3 := (ev_runs k az s1).small _ _ hk
          have h2 := (ev_runs f [x, y] s2).small _ _ h
          omega⟩
  | c3 f g k l, az, s => ⟨fun v s' h => by
    simp only [ev] at h
    split at h
    · cases h
    · obtain ⟨h, hv⟩ := chk_some h
      cases hg : ev g az (s + 1) with
      | none => rw [hg] at h; simp at h
      | some q =>
        obtain ⟨x, s1⟩ := q
        rw [hg] at h
        simp only at h
        cases hk : ev k az s1 with
        | none => rw [hk] at h; simp at h
        | some q =>
          obtain ⟨y, s2⟩ := q
          rw [hk] at h
          simp only at h
          cases hl : ev l az s2 with
          | none => rw [hl] at h; simp at h
          | some q =>
            obtain ⟨u, s3⟩ := q
            rw [hl] at h
            have h1 := (ev_runs g az (s + 1)).small _ _ hg
            have h3 := (ev_runs k az s1).small _ _ hk
            have h4 := (ev_runs l az s2).small _ _ hl
            have h2 := (ev_runs f [x, y, u] s3).small _ _ h
            omega⟩
  | r f g, az, s => ⟨fun v s' h => by
    simp only [ev] at h
    split at h
    · cases h
    · obtain ⟨h, hv⟩ := chk_some h
      cases hg : ev f az.tail (s + 1) with
      | none => rw [hg] at h; simp at h
      | some q =>
        obtain ⟨x, s1⟩ := q
        rw [hg] at h
        have h1 := (ev_runs f az.tail (s + 1)).small _ _ hg
        have h2 := loopR_facts (ev_runs g) az.tail _ _ _ _ _ _ h1.1 h1.2.2 h
        omega⟩
  | m f, az, s => ⟨fun v s' h => by
    simp only [ev] at h
    split at h
    · cases h
    · obtain ⟨h, hv⟩ := chk_some h
      have h2 := loopM_facts (ev_runs f) az _ _ _ _ _ h
      omega⟩

theorem loopR_same {g g' : List Nat → Nat → Option (Nat × Nat)} (hg : ∀ az s, Runs (g az s) s) (rest : List Nat) (hr : ∀ a ∈ rest, a ≤ 1000) (he : ∀ az s, (∀ a ∈ az, a ≤ 1000) → g' az s = g az s) :
    ∀ (n i v s : Nat), v ≤ 1000 → i + n ≤ 1000 → loopR g' rest n i v s = loopR g rest n i v s
  | 0, _, _, _, _, _ => rfl
  | n + 1, i, v, s, hv, hi => by
    simp only [loopR]
    rw [he (i :: v :: rest) s (by simp; exact ⟨by omega, hv, hr⟩)]
    cases hq : g (i :: v :: rest) s with
    | none => rfl
    | some q =>
      obtain ⟨a, b⟩ := q
      exact loopR_same hg rest hr he n (i + 1) a b ((hg _ s).small _ _ hq).1 (by omega)

theorem loopN_same {f f' : List Nat → Nat → Option (Nat × Nat)} (hf : ∀ az s, Runs (f az s) s) (rest : List Nat) (hr : ∀ a ∈ rest, a ≤ 1000) (he : ∀ az s, (∀ a ∈ az, a ≤ 1000) → f' az s = f az s) :
    ∀ (k n s : Nat), n ≤ 1000 → loopN f' rest k n s = chk (loopM f rest k n s)
  | 0, _, _, _ => rfl
  | k + 1, n, s, hn => by
    simp only [loopN, loopM]
    rw [he (n :: rest) s (by simp; exact ⟨hn, hr⟩)]
    cases hq : f (n :: rest) s with
    | none => rfl
    | some q =>
      obtain ⟨a, b⟩ := q
      simp only
      split
      · simp [chk, hn]
      · split
        · cases hl : loopM f rest k (n + 1) b with
          | none => rfl
          | some q =>
            obtain ⟨c, d⟩ := q
            have := loopM_facts hf rest k (n + 1) b c d hl
            simp only [chk]
            rw [if_neg (by omega)]
        · exact loopN_same hf rest hr he k (n + 1) b (by omega)

theorem head_le {az : List Nat} (h : ∀ a ∈ az, a ≤ 1000) : az.headD 0 ≤ 1000 := by cases az with | nil => simp | cons a l => simpa using h a (by simp)
theorem tail_le {az : List Nat} (h : ∀ a ∈ az, a ≤ 1000) : ∀ a ∈ az.tail, a ≤ 1000 := fun a ha => h a (List.mem_of_mem_tail ha)
theorem get_le {az : List Nat} (h : ∀ a ∈ az, a ≤ 1000) (i : Nat) : az.getD i 0 ≤ 1000 := by
  rw [List.getD_eq_getElem?_getD]
  cases hg : az[i]? with
  | none => simp
  | some a => simpa using h a (List.mem_of_getElem? hg)

theorem mv_eq : ∀ (t : FT) (az : List Nat) (s : Nat), (∀ a ∈ az, a ≤ 1000) → mv t az s = ev t az s
  | z _, az, s, _ => rfl
  | inc, az, s, _ => by
    simp only [mv, ev, chk]
    split
    · rfl
    · by_cases h : 1000 ≤ az.headD 0
      · rw [if_pos h, if_neg (by omega)]
      · rw [if_neg h, if_pos (by omega)]
  | p i _, az, s, h => by simp only [mv, ev, chk]; rw [if_pos (get_le h i)]
  | c1 f g, az, s, h => by
    simp only [mv, ev]
    rw [mv_eq g az (s + 1) h]
    split
    · rfl
    · cases hg : ev g az (s + 1) with
      | none => rfl
      | some q =>
        obtain ⟨x, s1⟩ := q
        have h1 := (ev_runs g az (s + 1)).small _ _ hg
        simp only
        rw [mv_eq f [x] s1 (by simpa using h1.1), chk_small fun v s' e => ((ev_runs f [x] s1).small _ _ e).1]
  | c2 f g k, az, s, h => by
    simp only [mv, ev]
    rw [mv_eq g az (s + 1) h]
    split
    · rfl
    · cases hg : ev g az (s + 1) with
      | none => rfl
      | some q =>
        obtain ⟨x, s1⟩ := q
        have h1 := (ev_runs g az (s + 1)).small _ _ hg
        simp only
        rw [mv_eq k az s1 h]
        cases hk : ev k az s1 with
        | none => rfl
        | some q =>
          obtain ⟨y, s2⟩ := q
          have h2 := (ev_runs k az s1).small _ _ hk
          simp only
          rw [mv_eq f [x, y] s2 (by simpa using ⟨h1.1, h2.1⟩), chk_small fun v s' e => ((ev_runs f [x, y] s2).small _ _ e).1]
  | c3 f g k l, az, s, h => by
    simp only [mv, ev]
    rw [mv_eq g az (s + 1) h]
    split
    · rfl
    · cases hg : ev g az (s + 1) with
      | none => rfl
      | some q =>
        obtain ⟨x, s1⟩ := q
        have h1 := (ev_runs g az (s + 1)).small _ _ hg
        simp only
        rw [mv_eq k az s1 h]
        cases hk : ev k az s1 with
        | none => rfl
        | some q =>
          obtain ⟨y, s2⟩ := q
          have h2 := (ev_runs k az s1).small _ _ hk
          simp only
          rw [mv_eq l az s2 h]
          cases hl : ev l az s2 with
          | none => rfl
          | some q =>
            obtain ⟨u, s3⟩ := q
            have h3 := (ev_runs l az s2).small _ _ hl
            simp only
            rw [mv_eq f [x, y, u] s3 (by simpa using ⟨h1.1, h2.1, h3.1⟩), chk_small fun v s' e => ((ev_runs f [x, y, u] s3).small _ _ e).1]
  | r f g, az, s, h => by
    simp only [mv, ev]
    rw [mv_eq f az.tail (s + 1) (tail_le h)]
    split
    · rfl
    · cases hg : ev f az.tail (s + 1) with
      | none => rfl
      | some q =>
        obtain ⟨x, s1⟩ := q
        have h1 := (ev_runs f az.tail (s + 1)).small _ _ hg
        have hh := head_le h
        simp only
        rw [loopR_same (ev_runs g) az.tail (tail_le h) (fun az s h => mv_eq g az s h) _ _ _ _ h1.1 (by omega)]
        rw [chk_small fun v s' e => (loopR_facts (ev_runs g) az.tail _ _ _ _ _ _ h1.1 h1.2.2 e).1]
  | m f, az, s, h => by
    simp only [mv, ev]
    rw [loopN_same (ev_runs f) az h (fun az s h => mv_eq f az s h) _ _ _ (by omega)]

/-- FunctionValue: the value and the steps. -/
def pValue (l : List UInt8) (az : List Int) : Option (Nat × Nat) := match parse l with
  | some t => if az.length = arity t ∧ ∀ a ∈ az, 0 ≤ a ∧ a ≤ 60 then ev t (az.map Int.toNat) 0 else none
  | none => none

end FT
end Go.Proofs.YtmkmladlpgfniacGreat

namespace Go.Proofs.YtmkmladlpgfniacGreat

theorem uses_abs (y x : List UInt8) : ∀ t : Tm, Tm.uses y (Tm.abs x t) = if y = x then 0 else Tm.uses y t
  | .k => by simp [Tm.abs, Tm.uses]
  | .s => by simp [Tm.abs, Tm.uses]
  | .nm n => by
    by_cases hn : n = x
    · subst hn
      by_cases hy : y = n
      · simp [Tm.abs, Tm.uses, Tm.I, hy]
      · have : ¬ n = y := fun e => hy e.symm
        simp [Tm.abs, Tm.uses, Tm.I, hy, this]
    · by_cases hy : y = x
      · subst hy; simp [Tm.abs, Tm.uses, hn]
      · simp [Tm.abs, Tm.uses, hn, hy]
  | .app f a => by
    have hf := uses_abs y x f
    have ha := uses_abs y x a
    rw [Tm.abs]
    split
    · rename_i h
      by_cases hy : y = x
      · subst hy; rw [if_pos rfl]; simpa [Tm.uses] using h
      · rw [if_neg hy]; simp [Tm.uses]
    · split
      · rename_i h
        obtain ⟨h1, h2⟩ := h
        cases a with
        | nm n =>
          simp only [Tm.isNm, beq_iff_eq] at h1
          subst h1
          by_cases hy : y = n
          · subst hy; rw [if_pos rfl]; exact h2
          · have : ¬ n = y := fun e => hy e.symm
            rw [if_neg hy]; simp [Tm.uses, this]
        | k => simp [Tm.isNm] at h1
        | s => simp [Tm.isNm] at h1
        | app _ _ => simp [Tm.isNm] at h1
      · simp only [Tm.uses, hf, ha]
        split <;> simp

theorem abs_ge (x : List UInt8) : ∀ t : Tm, t.size ≤ (Tm.abs x t).size + 1 ∧ t.depth ≤ (Tm.abs x t).depth + 1
  | .k => by simp [Tm.abs, Tm.size, Tm.depth]
  | .s => by simp [Tm.abs, Tm.size, Tm.depth]
  | .nm n => by simp [Tm.size, Tm.depth]
  | .app f a => by
    obtain ⟨f1, f2⟩ := abs_ge x f
    obtain ⟨a1, a2⟩ := abs_ge x a
    rw [Tm.abs]
    split
    · simp only [Tm.size, Tm.depth]; omega
    · split
      · rename_i h
        obtain ⟨h1, h2⟩ := h
        cases a with
        | nm n => simp only [Tm.size, Tm.depth]; omega
        | k => simp [Tm.isNm] at h1
        | s => simp [Tm.isNm] at h1
        | app _ _ => simp [Tm.isNm] at h1
      · simp only [Tm.size, Tm.depth]; omega

/-- The abstraction of names, the first of the list first. -/
def absR : List (List UInt8) → Tm → Tm
  | [], t => t
  | x :: xs, t => absR xs (Tm.abs x t)

theorem uses_absR (y : List UInt8) : ∀ (xs : List (List UInt8)) (t : Tm), Tm.uses y (absR xs t) = if y ∈ xs then 0 else Tm.uses y t
  | [], t => by simp [absR]
  | x :: xs, t => by
    rw [absR, uses_absR y xs, uses_abs]
    by_cases h : y = x <;> by_cases g : y ∈ xs <;> simp [h, g]

theorem absR_ge : ∀ (xs : List (List UInt8)) (t : Tm), t.size ≤ (absR xs t).size + xs.length ∧ t.depth ≤ (absR xs t).depth + xs.length
  | [], t => by simp [absR]
  | x :: xs, t => by
    obtain ⟨h1, h2⟩ := absR_ge xs (Tm.abs x t)
    obtain ⟨g1, g2⟩ := abs_ge x t
    simp only [absR, List.length_cons]
    omega

theorem absR_good : ∀ (xs : List (List UInt8)) {t : Tm}, t.good = true → (absR xs t).good = true
  | [], _, h => h
  | x :: xs, _, h => absR_good xs (abs_good x h)

theorem lastL_absR : ∀ (xs : List (List UInt8)) (t : Tm), (absR xs t).size + xs.length ≤ 3000 → (absR xs t).depth + xs.length ≤ 1500 → lastL xs t = absR xs t
  | [], _, _, _ => rfl
  | x :: xs, t, h1, h2 => by
    simp only [absR, List.length_cons] at h1 h2
    obtain ⟨g1, g2⟩ := absR_ge xs (Tm.abs x t)
    have hf : (Tm.abs x t).fits = true := by simp [Tm.fits]; omega
    rw [lastL, if_pos hf, absR]
    exact lastL_absR xs _ (by omega) (by omega)

/-- Without names. -/
def Closed (t : Tm) : Prop := ∀ y, Tm.uses y t = 0

theorem abs_closed {t : Tm} (h : Closed t) (x : List UInt8) : Tm.abs x t = .app .k t := Tm.abs_none x t (h x)

namespace FT
open Tm (X Y Z I no succ fix)

def U : Tm := .nm [117]
def V : Tm := .nm [118]
def ns (a : Nat) : List (List UInt8) := [[120], [121], [122]].take a
def vs (a : Nat) : List Tm := [X, Y, Z].take a
/-- The abstraction of a list of names, the last of the list first. -/
def absAll (xs : List (List UInt8)) (t : Tm) : Tm := absR xs.reverse t
def appL (f : Tm) (us : List Tm) : Tm := us.foldl Tm.app f

def comp1 (F G : Tm) (a : Nat) : Tm := Tm.app F (appL G (vs a))
def comp2 (F G H : Tm) (a : Nat) : Tm := Tm.app (Tm.app F (appL G (vs a))) (appL H (vs a))
def comp3 (F G H J : Tm) (a : Nat) : Tm := Tm.app (Tm.app (Tm.app F (appL G (vs a))) (appL H (vs a))) (appL J (vs a))
def less : Tm := Tm.app V no
def recB (F G : Tm) (a : Nat) : Tm := Tm.app (Tm.app (Tm.app V .k) (appL F (vs a))) (appL (Tm.app (Tm.app G less) (appL (Tm.app U less) (vs a))) (vs a))
def seaB (F : Tm) (a : Nat) : Tm := Tm.app (Tm.app (Tm.app (appL (Tm.app F V) (vs a)) .k) V) (Tm.app U (Tm.app succ V))
def recT (F G : Tm) (a : Nat) : Tm := Tm.app fix (absAll ([117] :: [118] :: ns a) (recB F G a))
def seaT (F : Tm) (a : Nat) : Tm := absAll (ns a) (Tm.app (Tm.app fix (absAll [[117], [118]] (seaB F a))) I)

def real : FT → Tm
  | z a => absAll (ns a) I
  | inc => succ
  | p i a => absAll (ns a) ((vs a).getD i .k)
  | c1 f g => absAll (ns (arity g)) (comp1 (real f) (real g) (arity g))
  | c2 f g h => absAll (ns (arity g)) (comp2 (real f) (real g) (real h) (arity g))
  | c3 f g h i => absAll (ns (arity g)) (comp3 (real f) (real g) (real h) (real i) (arity g))
  | r f g => recT (real f) (real g) (arity f)
  | m f => seaT (real f) (arity f - 1)

/-- How far a term may be from 63 for each atom. -/
def off : Nat → Int
  | 0 => 16
  | 1 => 21
  | 2 => 2
  | _ => -57

theorem closed_fix : Closed fix := fun y => by
  by_cases h1 : y = [120]
  · subst h1; decide +kernel
  · by_cases h2 : y = [121]
    · subst h2; decide +kernel
    · have e : ∀ t : Tm, Tm.uses y (Tm.abs [120] (Tm.abs [121] t)) = Tm.uses y t := fun t => by rw [uses_abs, if_neg h1, uses_abs, if_neg h2]
      have h3 : ¬ ([120] : List UInt8) = y := fun e => h1 e.symm
      have h4 : ¬ ([121] : List UInt8) = y := fun e => h2 e.symm
      simp [Tm.fix, Tm.half, Tm.uses, e, X, Y, h3, h4]
theorem closed_succ : Closed succ := fun y => by
  by_cases h1 : y = [120]
  · subst h1; decide +kernel
  · have h3 : ¬ ([120] : List UInt8) = y := fun e => h1 e.symm
    simp [Tm.succ, uses_abs, h1, Tm.pair, Tm.uses, Tm.I, Tm.no, X, h3]

theorem size_fix : fix.size = 26 := by decide +kernel
theorem depth_fix : fix.depth = 7 := by decide +kernel
theorem size_succ : succ.size = 13 := by decide +kernel
theorem depth_succ : succ.depth = 9 := by decide +kernel

theorem three {P : Nat → Prop} (h0 : P 0) (h1 : P 1) (h2 : P 2) (h3 : P 3) : ∀ a, a ≤ 3 → P a
  | 0, _ => h0
  | 1, _ => h1
  | 2, _ => h2
  | 3, _ => h3

set_option maxRecDepth 10000

theorem comp1_facts {F G : Tm} (hF : Closed F) (hG : Closed G) : ∀ a, a ≤ 3 → (absAll (ns a) (comp1 F G a)).size ≤ F.size + G.size + (2 * a) ∧ (absAll (ns a) (comp1 F G a)).depth ≤ max F.depth G.depth + 27 := by
  have e : ∀ x, Tm.uses x F = 0 := hF
  have e' : ∀ x, Tm.uses x G = 0 := hG
  refine three ?_ ?_ ?_ ?_ <;>
    simp [absAll, absR, ns, vs, comp1, appL, Tm.abs, abs_closed hF, Tm.uses, e, e', Tm.isNm, X, Y, Z, Tm.size, Tm.depth] <;> omega

theorem comp2_facts {F G H : Tm} (hF : Closed F) (hG : Closed G) (hH : Closed H) : ∀ a, a ≤ 3 → (absAll (ns a) (comp2 F G H a)).size ≤ F.size + G.size + H.size + [0, 3, 8, 15].getD a 0 ∧ (absAll (ns a) (comp2 F G H a)).depth ≤ max (max F.depth G.depth) H.depth + 27 := by
  have e : ∀ x, Tm.uses x F = 0 := hF
  have e' : ∀ x, Tm.uses x G = 0 := hG
  have e'' : ∀ x, Tm.uses x H = 0 := hH
  refine three ?_ ?_ ?_ ?_ <;>
    simp [absAll, absR, ns, vs, comp2, appL, Tm.abs, abs_closed hF, Tm.uses, e, e', e'', Tm.isNm, X, Y, Z, Tm.size, Tm.depth] <;> omega

theorem comp3_facts {F G H J : Tm} (hF : Closed F) (hG : Closed G) (hH : Closed H) (hJ : Closed J) : ∀ a, a ≤ 3 → (absAll (ns a) (comp3 F G H J a)).size ≤ F.size + G.size + H.size + J.size + [0, 4, 12, 24].getD a 0 ∧ (absAll (ns a) (comp3 F G H J a)).depth ≤ max (max (max F.depth G.depth) H.depth) J.depth + 27 := by
  have e : ∀ x, Tm.uses x F = 0 := hF
  have e' : ∀ x, Tm.uses x G = 0 := hG
  have e'' : ∀ x, Tm.uses x H = 0 := hH
  have e3 : ∀ x, Tm.uses x J = 0 := hJ
  refine three ?_ ?_ ?_ ?_ <;>
    simp [absAll, absR, ns, vs, comp3, appL, Tm.abs, abs_closed hF, Tm.uses, e, e', e'', e3, Tm.isNm, X, Y, Z, Tm.size, Tm.depth] <;> omega

theorem rec_facts {F G : Tm} (hF : Closed F) (hG : Closed G) (a : Nat) (ha : a ≤ 1) : (recT F G a).size ≤ F.size + G.size + [66, 95].getD a 0 ∧ (recT F G a).depth ≤ max F.depth G.depth + 27 := by
  have e : ∀ x, Tm.uses x F = 0 := hF
  have e' : ∀ x, Tm.uses x G = 0 := hG
  have s1 := size_fix
  have s2 := depth_fix
  match a, ha with
  | 0, _ =>
    simp [recT, recB, less, absAll, absR, ns, vs, appL, Tm.abs, abs_closed hF, abs_closed hG, Tm.uses, e, e', Tm.isNm, X, Y, Z, U, V, Tm.size, Tm.depth, I, no, s1, s2]
    omega
  | 1, _ =>
    simp [recT, recB, less, absAll, absR, ns, vs, appL, Tm.abs, abs_closed hF, abs_closed hG, Tm.uses, e, e', Tm.isNm, X, Y, Z, U, V, Tm.size, Tm.depth, I, no, s1, s2]
    omega

theorem sea_facts {F : Tm} (hF : Closed F) (a : Nat) (ha : a ≤ 2) : (seaT F a).size ≤ F.size + [58, 82, 122].getD a 0 ∧ (seaT F a).depth ≤ F.depth + 27 := by
  have e : ∀ x, Tm.uses x F = 0 := hF
  have s1 := size_fix
  have s2 := depth_fix
  have s3 := size_succ
  have s4 := depth_succ
  have e1 : ∀ x, Tm.uses x succ = 0 := closed_succ
  have e2 : ∀ x, Tm.uses x fix = 0 := closed_fix
  match a, ha with
  | 0, _ =>
    simp [seaT, seaB, absAll, absR, ns, vs, appL, Tm.abs, abs_closed closed_succ, Tm.uses, e, e1, Tm.isNm, X, Y, Z, U, V, Tm.size, Tm.depth, I, s1, s2, s3, s4]
    omega
  | 1, _ =>
    simp [seaT, seaB, absAll, absR, ns, vs, appL, Tm.abs, abs_closed closed_fix, abs_closed closed_succ, Tm.uses, e, e1, e2, Tm.isNm, X, Y, Z, U, V, Tm.size, Tm.depth, I, s1, s2, s3, s4]
    omega
  | 2, _ =>
    simp [seaT, seaB, absAll, absR, ns, vs, appL, Tm.abs, abs_closed closed_fix, abs_closed closed_succ, Tm.uses, e, e1, e2, Tm.isNm, X, Y, Z, U, V, Tm.size, Tm.depth, I, s1, s2, s3, s4]
    omega

theorem uses_appL (y : List UInt8) (f : Tm) (us : List Tm) : Tm.uses y (appL f us) = Tm.uses y f + (us.map (Tm.uses y)).sum := by
  unfold appL
  induction us generalizing f with
  | nil => simp
  | cons u us ih => rw [List.foldl_cons, ih]; simp [Tm.uses]; omega

theorem good_appL (f : Tm) (us : List Tm) (hf : f.good = true) (hu : ∀ u ∈ us, u.good = true) : (appL f us).good = true := by
  unfold appL
  induction us generalizing f with
  | nil => exact hf
  | cons u us ih => rw [List.foldl_cons]; exact ih _ (by simp [Tm.good, hf, hu u (by simp)]) (fun v hv => hu v (by simp [hv]))

theorem good_vs (a : Nat) : ∀ u ∈ vs a, u.good = true := by
  intro u hu
  have := List.mem_of_mem_take hu
  simp at this
  rcases this with rfl | rfl | rfl <;> decide

theorem nm_ne {y n : List UInt8} (h : y ≠ n) : Tm.uses y (.nm n) = 0 := by simp only [Tm.uses]; rw [if_neg (fun e => h e.symm)]

theorem uses_vs1 {y : List UInt8} : ∀ a, y ∉ ns a → ∀ u ∈ vs a, Tm.uses y u = 0
  | 0, _, u, hu => by simp [vs] at hu
  | 1, h, u, hu => by
    simp only [vs, ns, List.take_succ_cons, List.take_zero, List.mem_cons, List.not_mem_nil, or_false] at hu h
    subst hu
    exact nm_ne h
  | 2, h, u, hu => by
    simp only [vs, ns, List.take_succ_cons, List.take_zero, List.mem_cons, List.not_mem_nil, or_false, not_or] at hu h
    rcases hu with rfl | rfl
    · exact nm_ne h.1
    · exact nm_ne h.2
  | a + 3, h, u, hu => by
    simp only [vs, ns, List.take_succ_cons, List.take_nil, List.mem_cons, List.not_mem_nil, or_false, not_or] at hu h
    rcases hu with rfl | rfl | rfl
    · exact nm_ne h.1
    · exact nm_ne h.2.1
    · exact nm_ne h.2.2

theorem sum_zero : ∀ {l : List Nat}, (∀ x ∈ l, x = 0) → l.sum = 0
  | [], _ => rfl
  | x :: l, h => by rw [List.sum_cons, h x (by simp), sum_zero fun y hy => h y (by simp [hy])]

theorem uses_vs {y : List UInt8} {a : Nat} (h : y ∉ ns a) : ((vs a).map (Tm.uses y)).sum = 0 := sum_zero fun n hn => by
  obtain ⟨u, hu, rfl⟩ := List.mem_map.1 hn
  exact uses_vs1 a h u hu

theorem absAll_closed {xs : List (List UInt8)} {t : Tm} (h : ∀ y, y ∉ xs → Tm.uses y t = 0) : Closed (absAll xs t) := fun y => by
  unfold absAll
  rw [uses_absR]
  split
  · rfl
  · rename_i hy; exact h y (fun e => hy (List.mem_reverse.2 e))

theorem real_closed : ∀ {t : FT}, ok t → Closed (real t)
  | z a, _ => absAll_closed fun y _ => by simp [I, Tm.uses]
  | inc, _ => closed_succ
  | p i a, h => absAll_closed fun y hy => by
    have hl : (vs a)[i]? = some ((vs a).getD i .k) := by
      have : i < (vs a).length := by simp [vs]; have := h.1; have := h.2; omega
      simp [List.getD_eq_getElem?_getD, List.getElem?_eq_getElem this]
    exact uses_vs1 a hy _ (List.mem_of_getElem? hl)
  | c1 f g, h => absAll_closed fun y hy => by simp [comp1, Tm.uses, uses_appL, uses_vs hy, real_closed h.1 y, real_closed h.2.1 y]
  | c2 f g k, h => absAll_closed fun y hy => by simp [comp2, Tm.uses, uses_appL, uses_vs hy, real_closed h.1 y, real_closed h.2.1 y, real_closed h.2.2.1 y]
  | c3 f g k l, h => absAll_closed fun y hy => by simp [comp3, Tm.uses, uses_appL, uses_vs hy, real_closed h.1 y, real_closed h.2.1 y, real_closed h.2.2.1 y, real_closed h.2.2.2.1 y]
  | r f g, h => fun y => by
    have : Closed (absAll ([117] :: [118] :: ns (arity f)) (recB (real f) (real g) (arity f))) := absAll_closed fun y hy => by
      simp only [List.mem_cons, not_or] at hy
      simp [recB, less, Tm.uses, uses_appL, uses_vs hy.2.2, real_closed h.1 y, real_closed h.2.1 y, U, V, no, I]
      simp [Ne.symm hy.1, Ne.symm hy.2.1]
    simp [real, recT, Tm.uses, closed_fix y, this y]
  | m f, h => absAll_closed fun y hy => by
    have : Tm.uses y (absAll [[117], [118]] (seaB (real f) (arity f - 1))) = 0 := by
      unfold absAll
      rw [uses_absR]
      split
      · rfl
      · rename_i hn
        simp only [List.reverse_cons, List.reverse_nil, List.nil_append, List.cons_append, List.mem_cons, List.not_mem_nil, or_false, not_or] at hn
        simp [seaB, Tm.uses, uses_appL, uses_vs hy, real_closed h.1 y, U, V, closed_succ y]
        simp [Ne.symm hn.1, Ne.symm hn.2]
    simp [Tm.uses, closed_fix y, this, I]

theorem real_good : ∀ {t : FT}, ok t → (real t).good = true
  | z a, _ => absR_good _ rfl
  | inc, _ => by decide +kernel
  | p i a, h => absR_good _ (by
    have : i < (vs a).length := by simp [vs]; have := h.1; have := h.2; omega
    rw [List.getD_eq_getElem?_getD, List.getElem?_eq_getElem this]
    exact good_vs a _ (List.getElem_mem this))
  | c1 f g, h => absR_good _ (by simp [comp1, Tm.good, real_good h.1, good_appL _ _ (real_good h.2.1) (good_vs _)])
  | c2 f g k, h => absR_good _ (by simp [comp2, Tm.good, real_good h.1, good_appL _ _ (real_good h.2.1) (good_vs _), good_appL _ _ (real_good h.2.2.1) (good_vs _)])
  | c3 f g k l, h => absR_good _ (by simp [comp3, Tm.good, real_good h.1, good_appL _ _ (real_good h.2.1) (good_vs _), good_appL _ _ (real_good h.2.2.1) (good_vs _), good_appL _ _ (real_good h.2.2.2.1) (good_vs _)])
  | r f g, h => by
    have hl : (Tm.app U less).good = true := by decide +kernel
    have hl' : less.good = true := by decide +kernel
    have : (recB (real f) (real g) (arity f)).good = true := by
      simp [recB, Tm.good, good_appL _ _ (real_good h.1) (good_vs _), good_appL (Tm.app (Tm.app (real g) less) (appL (Tm.app U less) (vs (arity f)))) _ (by simp [Tm.good, real_good h.2.1, hl', good_appL _ _ hl (good_vs _)]) (good_vs _)]
      decide +kernel
    have hf : fix.good = true := by decide +kernel
    have ha : (absAll ([117] :: [118] :: ns (arity f)) (recB (real f) (real g) (arity f))).good = true := absR_good _ this
    simp [real, recT, Tm.good, hf, ha]
  | m f, h => absR_good _ (by
    have hf : fix.good = true := by decide +kernel
    have hs : succ.good = true := by decide +kernel
    have hv : V.good = true := by decide +kernel
    have hu : U.good = true := by decide +kernel
    have : (seaB (real f) (arity f - 1)).good = true := by simp [seaB, Tm.good, good_appL (Tm.app (real f) V) _ (by simp [Tm.good, real_good h.1, hv]) (good_vs _), hs, hv, hu]
    have ha : (absAll [[117], [118]] (seaB (real f) (arity f - 1))).good = true := absR_good _ this
    simp [Tm.good, hf, ha, I])

/-- How large a realizer is. -/
def Small (t : FT) : Prop := ((real t).size : Int) ≤ 63 * size t + off (arity t) ∧ (real t).depth ≤ 27 * size t

theorem word_small (a : Nat) (ha : a ≤ 3) : (absAll (ns a) I).size = 3 + a ∧ (absAll (ns a) I).depth = 2 + a := by
  revert ha; revert a
  exact three (by decide +kernel) (by decide +kernel) (by decide +kernel) (by decide +kernel)

theorem small_r {F G : Tm} {a m n : Nat} (hF : Closed F) (hG : Closed G) (ha : a ≤ 1) (f1 : (F.size : Int) ≤ 63 * m + off a) (f2 : F.depth ≤ 27 * m) (g1 : (G.size : Int) ≤ 63 * n + off (a + 2)) (g2 : G.depth ≤ 27 * n) :
    ((recT F G a).size : Int) ≤ 63 * ((1 + (m + n) : Nat) : Int) + off (a + 1) ∧ (recT F G a).depth ≤ 27 * (1 + (m + n)) := by
  obtain ⟨q1, q2⟩ := rec_facts hF hG a ha
  generalize recT F G a = T at *
  obtain rfl | rfl : a = 0 ∨ a = 1 := by omega
  · have e0 : off 0 = 16 := rfl
    have e1 : off (0 + 1) = 21 := rfl
    have e2 : off (0 + 2) = 2 := rfl
    have q : [66, 95].getD 0 0 = 66 := rfl
    rw [q] at q1
    rw [e0] at f1
    rw [e2] at g1
    rw [e1]
    omega
  · have e0 : off 1 = 21 := rfl
    have e1 : off (1 + 1) = 2 := rfl
    have e2 : off (1 + 2) = -57 := rfl
    have q : [66, 95].getD 1 0 = 95 := rfl
    rw [q] at q1
    rw [e0] at f1
    rw [e2] at g1
    rw [e1]
    omega

theorem small_m {F : Tm} {a m : Nat} (hF : Closed F) (h0 : 0 < a) (ha : a ≤ 3) (f1 : (F.size : Int) ≤ 63 * m + off a) (f2 : F.depth ≤ 27 * m) :
    ((seaT F (a - 1)).size : Int) ≤ 63 * ((1 + m : Nat) : Int) + off (a - 1) ∧ (seaT F (a - 1)).depth ≤ 27 * (1 + m) := by
  obtain ⟨q1, q2⟩ := sea_facts hF (a - 1) (by omega)
  generalize seaT F (a - 1) = T at *
  obtain rfl | rfl | rfl : a = 1 ∨ a = 2 ∨ a = 3 := by omega
  · have e0 : off 1 = 21 := rfl
    have e1 : off (1 - 1) = 16 := rfl
    have q : [58, 82, 122].getD (1 - 1) 0 = 58 := rfl
    rw [q] at q1
    rw [e0] at f1
    rw [e1]
    omega
  · have e0 : off 2 = 2 := rfl
    have e1 : off (2 - 1) = 21 := rfl
    have q : [58, 82, 122].getD (2 - 1) 0 = 82 := rfl
    rw [q] at q1
    rw [e0] at f1
    rw [e1]
    omega
  · have e0 : off 3 = -57 := rfl
    have e1 : off (3 - 1) = 2 := rfl
    have q : [58, 82, 122].getD (3 - 1) 0 = 122 := rfl
    rw [q] at q1
    rw [e0] at f1
    rw [e1]
    omega

theorem real_small {t : FT} : ok t → Small t := by
  induction t with
  | z a =>
    intro h
    obtain ⟨h1, h2⟩ := word_small a h
    simp only [Small, real, size, arity, h1, h2]
    have h : a ≤ 3 := h
    match a, h with
    | 0, _ => simp [off]
    | 1, _ => simp [off]
    | 2, _ => simp [off]
    | 3, _ => simp [off]
  | inc =>
    intro _
    have := size_succ
    have := depth_succ
    simp only [Small, real, size, arity, off]
    omega
  | p i a =>
    intro h
    obtain ⟨h1, h2⟩ := h
    simp only [Small, real, size, arity]
    match a, h2 with
    | 0, _ => omega
    | 1, _ => match i, h1 with | 0, _ => decide +kernel
    | 2, _ => match i, h1 with
      | 0, _ => decide +kernel
      | 1, _ => decide +kernel
    | 3, _ => match i, h1 with
      | 0, _ => decide +kernel
      | 1, _ => decide +kernel
      | 2, _ => decide +kernel
  | c1 f g ihf ihg =>
    intro h
    obtain ⟨h1, h2, h3⟩ := h
    obtain ⟨f1, f2⟩ := ihf h1
    obtain ⟨g1, g2⟩ := ihg h2
    have ha := arity_le h2
    obtain ⟨q1, q2⟩ := comp1_facts (real_closed h1) (real_closed h2) _ ha
    rw [h3] at f1
    simp only [Small, real, size, arity, off] at *
    omega
  | c2 f g k ihf ihg ihk =>
    intro h
    obtain ⟨h1, h2, h3, h4, h5⟩ := h
    obtain ⟨f1, f2⟩ := ihf h1
    obtain ⟨g1, g2⟩ := ihg h2
    obtain ⟨k1, k2⟩ := ihk h3
    have ha := arity_le h2
    obtain ⟨q1, q2⟩ := comp2_facts (real_closed h1) (real_closed h2) (real_closed h3) _ ha
    rw [h4] at f1
    rw [h5] at k1
    simp only [Small, real, size, arity] at *
    generalize arity g = a at *
    match a, ha with
    | 0, _ => simp [off] at *; omega
    | 1, _ => simp [off] at *; omega
    | 2, _ => simp [off] at *; omega
    | 3, _ => simp [off] at *; omega
  | c3 f g k l ihf ihg ihk ihl =>
    intro h
    obtain ⟨h1, h2, h3, h4, h5, h6, h7⟩ := h
    obtain ⟨f1, f2⟩ := ihf h1
    obtain ⟨g1, g2⟩ := ihg h2
    obtain ⟨k1, k2⟩ := ihk h3
    obtain ⟨l1, l2⟩ := ihl h4
    have ha := arity_le h2
    obtain ⟨q1, q2⟩ := comp3_facts (real_closed h1) (real_closed h2) (real_closed h3) (real_closed h4) _ ha
    rw [h5] at f1
    rw [h6] at k1
    rw [h7] at l1
    simp only [Small, real, size, arity] at *
    generalize arity g = a at *
    match a, ha with
    | 0, _ => simp [off] at *; omega
    | 1, _ => simp [off] at *; omega
    | 2, _ => simp [off] at *; omega
    | 3, _ => simp [off] at *; omega
  | r f g ihf ihg =>
    intro h
    obtain ⟨h1, h2, h3⟩ := h
    obtain ⟨f1, f2⟩ := ihf h1
    obtain ⟨g1, g2⟩ := ihg h2
    have ha : arity f ≤ 1 := by have := arity_le h2; omega
    exact small_r (real_closed h1) (real_closed h2) ha f1 f2 (by rw [h3] at g1; exact g1) g2
  | m f ihf =>
    intro h
    obtain ⟨h1, h2⟩ := h
    obtain ⟨f1, f2⟩ := ihf h1
    exact small_m (real_closed h1) h2 (arity_le h1) f1 f2

theorem real_fits {t : FT} (h : ok t) (hs : size t ≤ 40) : (real t).size ≤ 2541 ∧ (real t).depth ≤ 1080 ∧ (real t).fits = true := by
  obtain ⟨h1, h2⟩ := real_small h
  have ho : off (arity t) ≤ 21 := by
    have := arity_le h
    generalize arity t = a at *
    match a, this with
    | 0, _ => simp [off]
    | 1, _ => simp [off]
    | 2, _ => simp [off]
    | 3, _ => simp [off]
  have e1 : (real t).size ≤ 2541 := by omega
  have e2 : (real t).depth ≤ 1080 := by omega
  exact ⟨e1, e2, by simp [Tm.fits]; omega⟩

end FT
end Go.Proofs.YtmkmladlpgfniacGreat

namespace Go.Proofs.YtmkmladlpgfniacGreat
open Go.RowKit Go.Shelf

attribute [local go_sem] Oper.semAt_some

theorem absR_snoc (x : List UInt8) : ∀ (xs : List (List UInt8)) (t : Tm), absR (xs ++ [x]) t = Tm.abs x (absR xs t)
  | [], _ => rfl
  | y :: ys, t => by simp only [List.cons_append, absR]; exact absR_snoc x ys _

theorem absR_size : ∀ (xs : List (List UInt8)) (t : Tm), (absR xs t).size ≤ 4 ^ xs.length * t.size
  | [], t => by simp [absR]
  | x :: xs, t => by
    have h1 := absR_size xs (Tm.abs x t)
    have h2 := abs_size x t
    simp only [absR, List.length_cons, Nat.pow_succ]
    calc (absR xs (Tm.abs x t)).size ≤ 4 ^ xs.length * (Tm.abs x t).size := h1
      _ ≤ 4 ^ xs.length * (4 * t.size) := Nat.mul_le_mul_left _ (by omega)
      _ = 4 ^ xs.length * 4 * t.size := by rw [Nat.mul_assoc]

theorem absR_small (xs : List (List UInt8)) (t : Tm) (h5 : xs.length < 5) (hz : t.size ≤ 3900) : (absR xs t).size ≤ 1000000 := by
  have h1 := absR_size xs t
  have h3 : 4 ^ xs.length ≤ 4 ^ 4 := Nat.pow_le_pow_right (by decide) (by omega)
  have h4 : 4 ^ xs.length * t.size ≤ 256 * 3900 := Nat.mul_le_mul h3 hz
  omega

set_option maxRecDepth 100000 in
set_option maxHeartbeats 2000000 in
theorem absAll_any (w : World) (B : Nat) (names : List (List UInt8)) (sv : Value) (t : Tm) (v : Value) (hI : StrsB w.heap.size w sv names) (hT : TV w B t v) (hB : B ≤ w.heap.size) (hlen : names.length ≤ 5) (hz : t.size ≤ 3900) :
    Calls Tryz.prog 115 #[sv, v] w (TermPost w B (FT.absAll names t)) := by
  obtain ⟨T, x, rfl, _⟩ := hT.asks
  obtain ⟨ao, cap, rfl⟩ : ∃ ao cap, sv = .slice ao names.length cap := by
    rcases hI with ⟨ao, cap, rfl, rfl⟩ | ⟨b, off, cap, rfl, _⟩
    · exact ⟨_, _, rfl⟩
    · exact ⟨_, _, rfl⟩
  refine (callsIn_wide (n := 3)).1 ?_
  refine callsIn_of_wp_marks Tryz.func115 rfl trivial ?_ rfl
  simp only [Tryz.ntmps115, List.size_toArray, List.length_cons, List.length_nil, Nat.reduceAdd, Nat.reduceSub, Array.replicate_succ, Array.replicate_zero, List.push_toArray, List.append_toArray, List.nil_append, List.cons_append]
  gi_wp2_with (refine ⟨trivial, ?_⟩; gi_at_call 132; refine (back_in Fence.wide 2 trivial rfl _ _ _ _).mono ?_; rintro e w' ⟨rfl, rfl⟩)
  have b0 := Boxed.new w 55 (.iface T x)
  have b3 := Boxed.new (w.alloc (.cells #[.iface T x] 55)) 82 (.slice ao names.length cap)
  simp only [World.size_alloc] at b3
  have hB0 : Below w.heap.size w ((w.alloc (.cells #[.iface T x] 55)).alloc (.cells #[.slice ao names.length cap] 82)) := below_alloc (below_alloc (Below.refl _ _) _) _
  have hI' : StrsB w.heap.size ((w.alloc (.cells #[.iface T x] 55)).alloc (.cells #[.slice ao names.length cap] 82)) (.slice ao names.length cap) names := by
    rcases hI with h | ⟨b, off, cap', e, hb, hc⟩
    · exact Or.inl h
    · exact Or.inr ⟨b, off, cap', e, hb, fun j hj => cell_later' (hc j hj) _ hB0⟩
  refine wpIn_rangeFunc_ownG rfl (by omega) (gf := 140) (lb := #[.pointer (some ⟨w.heap.size + 1, 0, none⟩)]) rfl trivial (enters_of Tryz.func140 (by kernel_rfl) rfl)
    (back_stops Fence.wide 2 trivial rfl (by omega) (w.heap.size + 1) w.heap.size _ names (by omega) _ (by simp) (by simp; omega) b3.cell hI') KeepB.trans (keepB_b (by simp; omega) (by simp)) (Below.refl _ _) (fun _ => rfl)
    (fun pre W => (∃ u vu, absR (pre.map Prod.snd) t = u ∧ TV W B u vu ∧ Boxed W w.heap.size 55 vu ∧ w.heap.size + 1 < W.heap.size) ∧ Below w.heap.size w W)
    (fun _ _ _ => False)
    (OwnFrom.and (Own.from (fun s A C row hs hg hr => by
      obtain ⟨u, vu, h1, h3, h4, h7⟩ := hs
      exact ⟨u, vu, h1, h3.grownCells hg hr, box_kept h4 hg hr, Nat.lt_of_lt_of_le h7 hg.size⟩) _) (ownFrom_below (Nat.le_refl _) (by simp; omega)))
    (fun c => Own.from (fun s A C row hs hg hr => hs) _)
    ⟨⟨t, .iface T x, rfl, hT.below hB0, b0.alloc _, by simp⟩, hB0⟩
    (fun p => { tmps := #[.slice ao names.length cap, .iface T x, undef, .pointer (some ⟨w.heap.size, 0, none⟩), .nilIface, undef, str p.2, .slice ao names.length cap, .func (.func 140) #[] #[.pointer (some ⟨w.heap.size + 1, 0, none⟩)], .int .i64 (p.1 : Int), str p.2, undef, undef, undef, undef], defers := [] }) ?assign ?body ?done ?stop
  case assign =>
    intro l p W K hK
    gi_wp2
    exact hK
  case body =>
    rintro l pre p W ⟨⟨u, vu, h1, h3, h4, h7⟩, hBw⟩ hlt
    obtain ⟨T', x', rfl, _⟩ := h3.asks
    have c0 := h4.cell
    have hus : u.size ≤ 1000000 := by
      rw [← h1]
      exact absR_small _ _ (by rw [List.length_map]; omega) hz
    have hBW := Nat.le_trans hB hBw.size
    have hcall := abstraction_any W B p.2 u _ h3 hBW hus
    unfold TermPost at hcall
    gi_wp2_with (refine ⟨trivial, ?_⟩; gi_at_call 133; refine (CallsIn.inRound l (callsIn_wide.2 hcall)).mono ?_; rintro e w1 ⟨v1, rfl, hb1, ht1⟩; obtain ⟨T1, x1, rfl, _⟩ := ht1.asks; have g4 := box_later h4 hb1; have gc := g4.cell; have gf := g4.frozen; clear c0)
    have ht2 := TV.boxSet (u := .iface T1 x1) ht1 g4
    have e0 := Boxed.set (.iface T1 x1) g4
    have hs1 := hb1.size
    have hnext : absR ((pre ++ [p]).map Prod.snd) t = Tm.abs p.2 u := by
      rw [List.map_append, List.map_singleton, absR_snoc, h1]
    refine ⟨((keepsOthers_below hb1).trans (KeepsOthers.setCell _ _ _)).from _, (keepB_below hb1 (by omega) (by omega)).trans (keepB_set _ (Nat.le_refl _) (by omega)), ⟨Tm.abs p.2 u, .iface T1 x1, hnext, ht2, e0, by simp [World.setCell]; omega⟩, ?_⟩
    exact (hBw.trans (hb1.mono hBw.size)).trans ((Below.refl w.heap.size w1).setCell (p := ⟨w.heap.size, 0, none⟩) (Nat.le_refl _) _)
  case done =>
    rintro D ys W hD rfl ⟨⟨u, vu, h1, h3, h4, h7⟩, hBw⟩ hK
    rw [back_take _ _ (Nat.le_refl _), List.take_of_length_le (by simp)] at h1
    obtain ⟨T', x', rfl, _⟩ := h3.asks
    have c4 := h4.cell
    have HN := Lib.hid h1
    clear h1
    gi_wp2
    refine ⟨by simp, .inl ⟨_, _, rfl, run_takeDeferred hK, ?_⟩⟩
    have ht := TV.grownCells h3 (grownBy_putObj' _ D (.deferred none)) (fun r e => by cases e; exact ⟨_, hK, rfl⟩)
    refine ⟨.iface T' x', ?_, .iface T' x', rfl, ?_, ?_⟩
    · simp [results, Tryz.results115, go_sem]
    · exact hBw.trans (belowK_b (w := w) (Nat.le_refl _) _ D _ _ (by simp at hD; omega) hK rfl rfl)
    · unfold FT.absAll
      rw [HN.out]
      exact ht
  case stop => rintro D c pre W hD ⟨k, hk, rfl⟩ h hK; exact h.elim
end Go.Proofs.YtmkmladlpgfniacGreat

namespace Go.Proofs.YtmkmladlpgfniacGreat
open Go.RowKit Go.Shelf

def rn : Ren := ⟨fun
  | 119 => 135
  | 137 => 134
  | 152 => 121
  | 153 => 103
  | 217 => 142
  | 224 => 136
  | 225 => 137
  | 226 => 122
  | 227 => 123
  | 228 => 124
  | 266 => 144
  | n => n, fun
  | 0 => 0
  | 3 => 3
  | 4 => 4
  | 5 => 5
  | 9 => 9
  | 21 => 21
  | 46 => 197
  | 116 => 182
  | 117 => 183
  | 124 => 198
  | n => n, fun n => n⟩

set_option maxRecDepth 100000 in
theorem lays : Lays.n153 Tryz.prog rn := {
  mixed := by kernel_rfl
  f119 := by kernel_rfl
  f137 := by kernel_rfl
  f152 := by kernel_rfl
  f153 := by kernel_rfl
  f217 := by kernel_rfl
  f224 := by kernel_rfl
  f225 := by kernel_rfl
  f226 := by kernel_rfl
  f227 := by kernel_rfl
  f228 := by kernel_rfl
  f266 := by kernel_rfl
  t0 := by kernel_rfl
  a0 := fun _ => by kernel_rfl
  z0 := fun _ => by kernel_rfl
  v0 := fun _ => by kernel_rfl
  t3 := by kernel_rfl
  a3 := fun _ => by kernel_rfl
  z3 := fun _ => by kernel_rfl
  v3 := fun _ => by kernel_rfl
  t4 := by kernel_rfl
  a4 := fun _ => by kernel_rfl
  z4 := fun _ => by kernel_rfl
  v4 := fun _ => by kernel_rfl
  t5 := by kernel_rfl
  a5 := fun _ => by kernel_rfl
  z5 := fun _ => by kernel_rfl
  v5 := fun _ => by kernel_rfl
  t9 := by kernel_rfl
  a9 := fun _ => by kernel_rfl
  z9 := fun _ => by kernel_rfl
  v9 := fun _ => by kernel_rfl
  t21 := by kernel_rfl
  a21 := fun _ => by kernel_rfl
  z21 := fun _ => by kernel_rfl
  v21 := fun _ => by kernel_rfl
  t46 := by kernel_rfl
  a46 := fun _ => by kernel_rfl
  z46 := fun _ => by kernel_rfl
  v46 := fun _ => by kernel_rfl
  t116 := by kernel_rfl
  a116 := fun _ => by kernel_rfl
  z116 := fun _ => by kernel_rfl
  t117 := by kernel_rfl
  a117 := fun _ => by kernel_rfl
  z117 := fun _ => by kernel_rfl
  v117 := fun _ => by kernel_rfl
  t124 := by kernel_rfl
  a124 := fun _ => by kernel_rfl
  z124 := fun _ => by kernel_rfl
  v124 := fun _ => by kernel_rfl }
end Go.Proofs.YtmkmladlpgfniacGreat

namespace Go.Proofs.YtmkmladlpgfniacGreat
open Go.RowKit Go.Shelf

set_option maxHeartbeats 2000000
set_option maxRecDepth 100000

def delims : ByteArray := ⟨#[40, 41, 32]⟩

theorem u8_ge (n : Nat) (h2 : n < 256) : (UInt8.ofNat n).toNat = n := by simp [UInt8.toNat_ofNat']; omega

/-- The bytes of a rune that is no ASCII byte are no ASCII bytes. -/
theorem encode_high (n : Nat) (h : 128 ≤ n) (hv : Utf8.valid (n : Int) = true) : ∃ e : ByteArray, Utf8.encode (n : Int) = e ∧ 2 ≤ e.size ∧ e.size ≤ 4 ∧ ∀ i (hi : i < e.size), 128 ≤ (e[i]'hi).toNat := by
  have hn : n ≤ 1114111 := by
    unfold Utf8.valid at hv
    simp only [Bool.or_eq_true, Bool.and_eq_true, decide_eq_true_eq] at hv
    omega
  have e0 : Utf8.encode (n : Int) = if n < 0x80 then ⟨#[UInt8.ofNat n]⟩ else if n < 0x800 then ⟨#[UInt8.ofNat (0xC0 + n / 64), UInt8.ofNat (0x80 + n % 64)]⟩
      else if n < 0x10000 then ⟨#[UInt8.ofNat (0xE0 + n / 4096), UInt8.ofNat (0x80 + n / 64 % 64), UInt8.ofNat (0x80 + n % 64)]⟩
      else ⟨#[UInt8.ofNat (0xF0 + n / 262144), UInt8.ofNat (0x80 + n / 4096 % 64), UInt8.ofNat (0x80 + n / 64 % 64), UInt8.ofNat (0x80 + n % 64)]⟩ := by
    unfold Utf8.encode
    simp only [hv, if_true, Int.toNat_natCast]
  rw [if_neg (by omega)] at e0
  by_cases h1 : n < 0x800
  · rw [if_pos h1] at e0
    refine ⟨_, e0, Nat.le_refl 2, show 2 ≤ 4 by omega, fun i hi => ?_⟩
    have hi2 : i < 2 := hi
    obtain rfl | rfl : i = 0 ∨ i = 1 := by omega
    · show 128 ≤ (UInt8.ofNat (0xC0 + n / 64)).toNat; rw [u8_ge _ (by omega)]; omega
    · show 128 ≤ (UInt8.ofNat (0x80 + n % 64)).toNat; rw [u8_ge _ (by omega)]; omega
  · rw [if_neg h1] at e0
    by_cases h2 : n < 0x10000
    · rw [if_pos h2] at e0
      refine ⟨_, e0, show 2 ≤ 3 by omega, show 3 ≤ 4 by omega, fun i hi => ?_⟩
      have hi2 : i < 3 := hi
      obtain rfl | rfl | rfl : i = 0 ∨ i = 1 ∨ i = 2 := by omega
      · show 128 ≤ (UInt8.ofNat (0xE0 + n / 4096)).toNat; rw [u8_ge _ (by omega)]; omega
      · show 128 ≤ (UInt8.ofNat (0x80 + n / 64 % 64)).toNat; rw [u8_ge _ (by omega)]; omega
      · show 128 ≤ (UInt8.ofNat (0x80 + n % 64)).toNat; rw [u8_ge _ (by omega)]; omega
    · rw [if_neg h2] at e0
      refine ⟨_, e0, show 2 ≤ 4 by omega, Nat.le_refl 4, fun i hi => ?_⟩
      have hi2 : i < 4 := hi
      obtain rfl | rfl | rfl | rfl : i = 0 ∨ i = 1 ∨ i = 2 ∨ i = 3 := by omega
      · show 128 ≤ (UInt8.ofNat (0xF0 + n / 262144)).toNat; rw [u8_ge _ (by omega)]; omega
      · show 128 ≤ (UInt8.ofNat (0x80 + n / 4096 % 64)).toNat; rw [u8_ge _ (by omega)]; omega
      · show 128 ≤ (UInt8.ofNat (0x80 + n / 64 % 64)).toNat; rw [u8_ge _ (by omega)]; omega
      · show 128 ≤ (UInt8.ofNat (0x80 + n % 64)).toNat; rw [u8_ge _ (by omega)]; omega

theorem get_bang (s : ByteArray) (i : Nat) (h : i < s.size) : s.get! i = s[i]'h := by
  show s.data[i]! = s.data[i]'h
  rw [getElem!_pos s.data i h]

/-- What is decoded at a byte that is no ASCII byte. -/
theorem decode_high (s : ByteArray) (i : Nat) (hi : i < s.size) (hx : 128 ≤ (s[i]'hi).toNat) :
    128 ≤ (Utf8.decode s i).1 ∧ Utf8.valid ((Utf8.decode s i).1 : Int) = true ∧ 1 ≤ (Utf8.decode s i).2 ∧ i + (Utf8.decode s i).2 ≤ s.size ∧ ∀ j (hj : j < s.size), i ≤ j → j < i + (Utf8.decode s i).2 → 128 ≤ (s[j]'hj).toNat := by
  have hx' : 128 ≤ (s.get! i).toNat := by rw [get_bang s i hi]; exact hx
  have one : ∀ j (hj : j < s.size), i ≤ j → j < i + 1 → 128 ≤ (s[j]'hj).toNat := fun j hj h1 h2 => by
    obtain rfl : j = i := by omega
    exact hx
  have err : Utf8.valid ((Utf8.runeError : Nat) : Int) = true := by decide
  have bad : 128 ≤ ((Utf8.runeError, 1) : Nat × Nat).1 ∧ Utf8.valid ((((Utf8.runeError, 1) : Nat × Nat).1 : Nat) : Int) = true ∧ 1 ≤ ((Utf8.runeError, 1) : Nat × Nat).2 ∧ i + ((Utf8.runeError, 1) : Nat × Nat).2 ≤ s.size ∧ ∀ j (hj : j < s.size), i ≤ j → j < i + ((Utf8.runeError, 1) : Nat × Nat).2 → 128 ≤ (s[j]'hj).toNat :=
    ⟨by decide, err, by decide, by show i + 1 ≤ s.size; omega, one⟩
  have cont : ∀ k, (decide (i + k < s.size) && (s.get! (i + k)).toNat / 64 == 2) = true → ∃ h : i + k < s.size, 128 ≤ (s[i + k]'h).toNat := fun k h => by
    simp only [Bool.and_eq_true, decide_eq_true_eq, beq_iff_eq] at h
    refine ⟨h.1, ?_⟩
    rw [← get_bang s (i + k) h.1]
    omega
  unfold Utf8.decode
  simp only [Nat.add_zero]
  rw [if_neg (by omega)]
  split
  · rename_i h
    simp only [Bool.and_eq_true] at h
    obtain ⟨h1, g1⟩ := cont 1 (by simpa using h.2)
    split
    · rename_i hc
      refine ⟨hc, ?_, (show 1 ≤ 2 by decide), by show i + 2 ≤ s.size; omega, fun j hj hj1 hj2 => ?_⟩
      · unfold Utf8.valid
        simp only [Bool.or_eq_true, Bool.and_eq_true, decide_eq_true_eq]
        left
        have : (s.get! i).toNat % 32 * 64 + (s.get! (i + 1)).toNat % 64 < 2048 := by omega
        omega
      · simp only at hj2
        obtain rfl | rfl : j = i ∨ j = i + 1 := by omega
        · exact hx
        · exact g1
    · exact bad
  · split
    · rename_i h
      simp only [Bool.and_eq_true] at h
      obtain ⟨h1, g1⟩ := cont 1 (by simpa using h.1.2)
      obtain ⟨h2, g2⟩ := cont 2 (by simpa using h.2)
      split
      · rename_i hc
        simp only [Bool.and_eq_true, decide_eq_true_eq] at hc
        refine ⟨by have := hc.1; show 128 ≤ _; omega, hc.2, (show 1 ≤ 3 by decide), by show i + 3 ≤ s.size; omega, fun j hj hj1 hj2 => ?_⟩
        simp only at hj2
        obtain rfl | rfl | rfl : j = i ∨ j = i + 1 ∨ j = i + 2 := by omega
        · exact hx
        · exact g1
        · exact g2
      · exact bad
    · split
      · rename_i h
        simp only [Bool.and_eq_true] at h
        obtain ⟨h1, g1⟩ := cont 1 (by simpa using h.1.1.2)
        obtain ⟨h2, g2⟩ := cont 2 (by simpa using h.1.2)
        obtain ⟨h3, g3⟩ := cont 3 (by simpa using h.2)
        split
        · rename_i hc
          simp only [Bool.and_eq_true, decide_eq_true_eq] at hc
          refine ⟨by have := hc.1; show 128 ≤ _; omega, hc.2, (show 1 ≤ 4 by decide), by show i + 4 ≤ s.size; omega, fun j hj hj1 hj2 => ?_⟩
          simp only at hj2
          obtain rfl | rfl | rfl | rfl : j = i ∨ j = i + 1 ∨ j = i + 2 ∨ j = i + 3 := by omega
          · exact hx
          · exact g1
          · exact g2
          · exact g3
        · exact bad
      · exact bad
theorem indexByte_none (l : List UInt8) (c : UInt8) (h : ∀ x ∈ l, x ≠ c) : Lib.indexByte l c = -1 := by
  induction l with
  | nil => rfl
  | cons b l ih =>
    rw [Lib.indexByte, ih (fun x hx => h x (by simp [hx]))]
    have : (b == c) = false := by rw [beq_eq_false_iff_ne]; exact h b (by simp)
    simp [this]

theorem idx_high (s : ByteArray) (x : UInt8) (a b : Nat) (hs : ∀ y ∈ s.data.toList, y.toNat < 128) (hx : 128 ≤ x.toNat) : Lib.indexByte (s.extract a b).data.toList ((x.toNat : Int).toNat.toUInt8) = -1 := by
  have e : (x.toNat : Int).toNat.toUInt8 = x := by simp
  rw [e]
  refine indexByte_none _ _ fun y hy he => ?_
  subst he
  have hy2 : y ∈ s.data.toList := by
    simp [ByteArray.data_extract] at hy
    exact List.mem_of_mem_drop (List.mem_of_mem_take hy) |> fun h => by first | exact h | simpa using h
  have := hs y hy2
  omega

theorem after_drawn (w : World) (n : Nat) : After w (w.drewN n) := ⟨rfl, rfl, rfl, Nat.le_refl _, fun _ _ => rfl⟩

/-- A rune that is no ASCII byte is not in "() ". -/
theorem rune_high (w : World) (n : Nat) (h : 128 ≤ n) (hv : Utf8.valid (n : Int) = true) :
    Calls Tryz.prog 121 #[.string delims, .int .i32 n] w fun e w' => e = .returned (.int .i64 (-1)) ∧ After w w' := by
  have hi : ¬ (n : Int) < 128 := by omega
  have hz : delims.size = 3 := rfl
  by_cases hr : n = 65533
  · subst hr
    have n0 : ∀ ty, (Instr.next (.pointer (some ⟨w.heap.size, 0, none⟩)) true ty).run Tryz.prog (w.iter delims 0) = .ok (.tuple #[.bool true, .int .i64 0, .int .i32 40]) (w.iter delims 1) := fun ty => by
      have := run_next_any (P := Tryz.prog) w delims 0 ty (by decide)
      rw [show Utf8.decode delims 0 = (40, 1) by decide +kernel] at this
      exact this
    have n1 : ∀ ty, (Instr.next (.pointer (some ⟨w.heap.size, 0, none⟩)) true ty).run Tryz.prog (w.iter delims 1) = .ok (.tuple #[.bool true, .int .i64 1, .int .i32 41]) (w.iter delims 2) := fun ty => by
      have := run_next_any (P := Tryz.prog) w delims 1 ty (by decide)
      rw [show Utf8.decode delims 1 = (41, 1) by decide +kernel] at this
      exact this
    have n2 : ∀ ty, (Instr.next (.pointer (some ⟨w.heap.size, 0, none⟩)) true ty).run Tryz.prog (w.iter delims 2) = .ok (.tuple #[.bool true, .int .i64 2, .int .i32 32]) (w.iter delims 3) := fun ty => by
      have := run_next_any (P := Tryz.prog) w delims 2 ty (by decide)
      rw [show Utf8.decode delims 2 = (32, 1) by decide +kernel] at this
      exact this
    have n3 : ∀ ty, (Instr.next (.pointer (some ⟨w.heap.size, 0, none⟩)) true ty).run Tryz.prog (w.iter delims 3) = .ok (.tuple #[.bool false]) (w.iter delims 3) := fun ty => run_next_end (P := Tryz.prog) w delims 3 ty (by decide)
    go_enter Tryz.func121, Tryz.ntmps121
    go_wp2_with fail
    refine wp_loop_rounds 4 ?_
    rw [rounds_succ]; go_wp2_with fail
    rw [rounds_succ]; go_wp2_with fail
    rw [rounds_succ]; go_wp2_with fail
    rw [rounds_succ]; go_wp2_with fail
    go_ret
    exact ⟨rfl, After.new _ _⟩
  · have hne : ((n : Int) == 65533) = false := by rw [beq_eq_false_iff_ne]; omega
    obtain ⟨e, he, h2, h4, hb⟩ := encode_high n h hv
    have hval := fun W => Any.utf8_ValidRune (P := Tryz.prog) (ρ := rn) { lays with } (n : Int) W
    have hvr : Lib.validRune (n : Int) = true := by
      unfold Lib.validRune
      unfold Utf8.valid at hv
      simp only [Bool.or_eq_true, Bool.and_eq_true, decide_eq_true_eq] at hv ⊢
      omega
    simp only [hvr] at hval
    have hs21 : (Tryz.prog.underlying 21).isSome = true := by kernel_rfl
    have hd9 : Tryz.prog.underlying 9 = some .string := by kernel_rfl
    have hidx := fun s c W => Any.strings_IndexByte (P := Tryz.prog) (ρ := rn) { lays with } s c W
    go_enter Tryz.func121, Tryz.ntmps121
    have hd1 : (delims[1]'(by decide)).toNat = 41 := rfl
    have hw3 : IntKind.i64.wrap 3 = 3 := by decide
    have hd2 : (delims[2]'(by decide)).toNat = 32 := rfl
    obtain hsz | hsz | hsz : e.size = 2 ∨ e.size = 3 ∨ e.size = 4 := by omega
    · obtain ⟨x, hx⟩ : ∃ x : UInt8, e[1]'(by omega) = x := ⟨_, rfl⟩
      have hx1 := hb 1 (by omega)
      rw [hx] at hx1
      have hne1 : ((41 : Int) != (x.toNat : Int)) = true := by simp; omega
      have hI := fun a b => idx_high delims x a b (by decide) hx1
      clear hb
      go_wp2_with (go_at_call 135; refine (hval _).mono ?_; rintro e1 w1 ⟨rfl, rfl⟩)
      go_step3
      go_wp2_with fail
      refine wp_loop_rounds 1 ?_
      rw [rounds_succ]
      go_wp2_with fail
      go_step3
      go_wp2_with fail
      go_quiet (fail)
      go_wp2_with fail
      go_quiet ((go_at_call 134; refine ((hidx _ _ _).mono ?_); rintro e1 w1 ⟨rfl, rfl⟩; exact ⟨by first | exact congrArg (fun z => Ending.returned (Value.int .i64 z)) (hI _ _) | rfl, _, rfl⟩))
      go_wp2_with fail
      simp only [go_sem]
      go_ret
      exact ⟨rfl, after_drawn _ _⟩
    · obtain ⟨x, hx⟩ : ∃ x : UInt8, e[2]'(by omega) = x := ⟨_, rfl⟩
      have hx1 := hb 2 (by omega)
      rw [hx] at hx1
      have hne1 : ((32 : Int) != (x.toNat : Int)) = true := by simp; omega
      have hE : Lib.indexByte (⟨#[]⟩ : ByteArray).data.toList ((x.toNat : Int).toNat.toUInt8) = -1 := rfl
      clear hb
      go_wp2_with (go_at_call 135; refine (hval _).mono ?_; rintro e1 w1 ⟨rfl, rfl⟩)
      go_step3
      go_wp2_with fail
      refine wp_loop_rounds 1 ?_
      rw [rounds_succ]
      go_wp2_with fail
      go_step3
      go_wp2_with fail
      go_quiet (fail)
      go_wp2_with fail
      go_quiet ((go_at_call 134; refine ((hidx _ _ _).mono ?_); rintro e1 w1 ⟨rfl, rfl⟩; exact ⟨congrArg (fun z => Ending.returned (Value.int .i64 z)) hE, _, rfl⟩))
      go_wp2_with fail
      simp only [go_sem]
      go_ret
      exact ⟨rfl, after_drawn _ _⟩
    · clear hb
      go_wp2_with (go_at_call 135; refine (hval _).mono ?_; rintro e1 w1 ⟨rfl, rfl⟩)
      go_step3
      go_wp2_with fail
      refine wp_loop_rounds 1 ?_
      rw [rounds_succ]
      go_wp2_with fail
      rw [Exit.noGoto_ret]
      go_ret
      exact ⟨rfl, After.refl _⟩
theorem next_at (W : World) (b : Nat) (s : ByteArray) (pos : Nat) (ty : TypeId) (hb : W.heap[b]? = some (.stringIter s pos)) (h : pos < s.size) :
    (Instr.next (.pointer (some ⟨b, 0, none⟩)) true ty).run Tryz.prog W = .ok (.tuple #[.bool true, .int .i64 pos, .int .i32 (Utf8.decode s pos).1]) { W with heap := W.heap.setIfInBounds b (.stringIter s (pos + (Utf8.decode s pos).2)) } := by
  simp only [Instr.next, getObj, setObj, Sem.run_bind, Sem.run, hb, Result.andThen, h, if_true]
  simp [goInt]

theorem next_end (W : World) (b : Nat) (s : ByteArray) (pos : Nat) (ty : TypeId) (hb : W.heap[b]? = some (.stringIter s pos)) (h : ¬ pos < s.size) :
    (Instr.next (.pointer (some ⟨b, 0, none⟩)) true ty).run Tryz.prog W = .ok (.tuple #[.bool false]) W := by
  simp [Instr.next, getObj, Sem.run, hb, h]

theorem after_put {w W : World} (h : After w W) (o : Obj) : After w { W with heap := W.heap.setIfInBounds w.heap.size o } :=
  ⟨h.os, h.tape, h.output, by show w.heap.size ≤ (W.heap.setIfInBounds _ _).size; simpa using h.size, fun k hk => by
    show (W.heap.setIfInBounds w.heap.size o)[k]? = _
    rw [Array.getElem?_setIfInBounds_ne (by omega)]
    exact h.block k hk⟩

theorem put_at {W : World} {b : Nat} {o o' : Obj} (h : W.heap[b]? = some o') : ({ W with heap := W.heap.setIfInBounds b o } : World).heap[b]? = some o := by
  have := (Array.getElem?_eq_some_iff.1 h).1
  show (W.heap.setIfInBounds b o)[b]? = _
  simp [this]

theorem delim_mem (x : UInt8) : delims.data.toList.contains x = !Tm.mid x := by
  show List.contains [40, 41, 32] x = _
  simp only [List.contains_cons, List.contains_nil, Bool.or_false, Tm.mid]
  cases h1 : x == 32 <;> cases h2 : x == 40 <;> cases h3 : x == 41 <;> simp [bne, h1, h2, h3]

/-- Where the first of the three bytes stands, if one does. -/
theorem index_any (w : World) (s : ByteArray) (hs : s.size ≤ 1000000000) :
    Calls Tryz.prog 103 #[.string s, .string delims] w fun e w' => e = .returned (.int .i64 (Lib.indexAny s.data.toList delims.data.toList)) ∧ After w w' := by
  by_cases h8 : 8 < s.size
  · have hv116 : ∀ w, (zeroValue (rn.t 116)).run Tryz.prog w = .ok (.agg (Array.replicate 256 (.bool false))) w := fun w => by kernel_rfl
    have hi116 : (Tryz.prog.info? (rn.t 116)).map (·.size) = some 256 := by kernel_rfl
    refine (Any.strings_IndexAny_long lays hv116 hi116 s delims w (by decide) h8 (by omega) (by decide) ?_).mono ?_
    · intro j b hj
      have hm := List.mem_of_getElem? hj
      have : ∀ y ∈ delims.data.toList, y.toNat < 128 := by decide
      exact this b hm
    · rintro e w' ⟨rfl, rfl⟩
      exact ⟨rfl, (After.new _ _).alloc _⟩
  · have h8z : decide ((8 : Int) < (s.size : Int)) = false := decide_eq_false (by omega)
    have hset := fun n W => Any.strings_shouldUseASCIISet (P := Tryz.prog) (ρ := rn) { lays with } n W
    have hidx := fun s c W => Any.strings_IndexRune_ascii (P := Tryz.prog) (ρ := rn) { lays with } s c W
    have hz3 : delims.size = 3 := rfl
    have hemp : delims.toList.isEmpty = false := by rw [Lib.toList_data]; rfl
    go_enter Tryz.func103, Tryz.ntmps103
    go_wp2_with (go_at_call 122; refine (hset _ _).mono ?_; rintro e w' ⟨rfl, hw⟩; rw [hw, h8z])
    go_loopg [9, 10] s.size (fun g _ _ wx => ∃ i : Nat, i + g = s.size ∧ After w wx ∧ wx.heap[w.heap.size]? = some (.stringIter s i) ∧ Hid (Lib.NoAny s.data.toList delims.data.toList i))
    case atStart => exact ⟨0, by omega, After.new _ _, World.iter_heap _ _ _, Lib.NoAny.zero _ _⟩
    case round =>
      obtain ⟨i, hig, ha, hh, HN⟩ := hrel
      cases gk with
      | zero =>
        obtain rfl : i = s.size := by omega
        have hnx := fun ty => next_end _ _ s s.size ty hh (by omega)
        have HA := Lib.hid ha
        clear hh ha
        go_wp2_with fail
        go_ret
        exact ⟨by rw [Lib.indexAny_none (by rw [← Lib.size_eq]; exact HN.out)]; rfl, HA.out⟩
      | succ g =>
        have hi : i < s.size := by omega
        obtain ⟨x, hx⟩ : ∃ x : UInt8, s[i]'hi = x := ⟨_, rfl⟩
        have hxl : s.data.toList[i]? = some x := by rw [← hx]; exact Lib.data_getElem? s i hi
        have Hx := Lib.hid hxl
        have hnx := fun ty => next_at _ _ s i ty hh hi
        have ha2 := after_put ha (.stringIter s (i + (Utf8.decode s i).2))
        have hh2 := put_at (o := .stringIter s (i + (Utf8.decode s i).2)) hh
        by_cases h128 : x.toNat < 128
        · rw [decode_ascii s i hi (by rw [hx]; exact h128), hx] at hnx ha2 hh2
          simp only at hnx ha2 hh2
          obtain ⟨wn, hwn⟩ : ∃ wn, wn = ({ wr with heap := wr.heap.setIfInBounds w.heap.size (.stringIter s (i + 1)) } : World) := ⟨_, rfl⟩
          rw [← hwn] at hnx ha2
          replace hh2 : wn.heap[w.heap.size]? = some (.stringIter s (i + 1)) := by rw [hwn]; exact hh2
          clear hxl hx hwn hh ha
          have HA := Lib.hid ha2
          have HH := Lib.hid hh2
          clear ha2 hh2
          have hcon := Lib.contains_iff_indexByte delims.data.toList x
          have hback : ((x.toNat : Int)).toNat.toUInt8 = x := by simp
          cases hin : delims.data.toList.contains x
          · rw [hin] at hcon
            have hlt : ¬ ((0 : Int) ≤ Lib.indexByte delims.data.toList x) := of_decide_eq_false hcon.symm
            clear hcon
            go_wp2_with (go_at_call 121; refine (hidx _ _ _ (by omega) (by omega)).mono ?_; rintro e w' ⟨rfl, hw⟩; rw [hw, hback])
            go_roundg g
            case measure => omega
            case rel => exact ⟨i + 1, by omega, HA.out, HH.out, HN.out.succ Hx.out hin⟩
          · rw [hin] at hcon
            have hge : (0 : Int) ≤ Lib.indexByte delims.data.toList x := of_decide_eq_true hcon.symm
            clear hcon
            go_wp2_with (go_at_call 121; refine (hidx _ _ _ (by omega) (by omega)).mono ?_; rintro e w' ⟨rfl, hw⟩; rw [hw, hback])
            go_ret
            exact ⟨by rw [Lib.indexAny_hit HN.out Hx.out hin]; rfl, HA.out⟩
        · obtain ⟨d1, d2, d3, d4, d5⟩ := decode_high s i hi (by rw [hx]; omega)
          generalize Utf8.decode s i = p at *
          obtain ⟨r, k⟩ := p
          simp only at hnx ha2 hh2 d1 d2 d3 d4 d5
          obtain ⟨wn, hwn⟩ : ∃ wn, wn = ({ wr with heap := wr.heap.setIfInBounds w.heap.size (.stringIter s (i + k)) } : World) := ⟨_, rfl⟩
          rw [← hwn] at hnx ha2
          replace hh2 : wn.heap[w.heap.size]? = some (.stringIter s (i + k)) := by rw [hwn]; exact hh2
          have hrune := fun W => rune_high W r d1 d2
          clear hxl hx hwn hh ha
          have hno' : Lib.NoAny s.data.toList delims.data.toList (i + k) := fun j b hj hb => by
            by_cases hji : j < i
            · exact HN.out j b hji hb
            · have hjs : j < s.size := by omega
              have h5 := d5 j hjs (by omega) hj
              have hbj : s[j]'hjs = b := by
                have := Lib.data_getElem? s j hjs
                rw [hb] at this
                exact (Option.some.inj this).symm
              rw [hbj] at h5
              cases hc : delims.data.toList.contains b with
              | false => rfl
              | true =>
                have hm : b ∈ delims.data.toList := by simpa using hc
                have : ∀ y ∈ delims.data.toList, y.toNat < 128 := by decide
                have := this b hm
                omega
          have HN2 := Lib.hid hno'
          have HA := Lib.hid ha2
          have HH := Lib.hid hh2
          clear hno' d5 ha2 hh2
          go_wp2_with (go_at_call 121; refine (hrune _).mono ?_; rintro e w' ⟨rfl, hw⟩)
          go_roundg (s.size - (i + k))
          case measure => omega
          case rel => exact ⟨i + k, by omega, HA.out.trans hw, hw.heap HH.out, HN2⟩
end Go.Proofs.YtmkmladlpgfniacGreat

namespace Go.Proofs.YtmkmladlpgfniacGreat
open Go.RowKit

set_option maxHeartbeats 1000000
set_option maxRecDepth 100000

theorem indexAny_mid : ∀ l : List UInt8, Lib.indexAny l delims.data.toList = if (l.takeWhile fun c => c != 32 && c != 40 && c != 41).length < l.length then (((l.takeWhile fun c => c != 32 && c != 40 && c != 41).length : Nat) : Int) else -1
  | [] => rfl
  | b :: l => by
    rw [Lib.indexAny, indexAny_mid l, delim_mem]
    have hm : Tm.mid b = (b != 32 && b != 40 && b != 41) := rfl
    rw [List.takeWhile_cons, ← hm]
    have hle : (l.takeWhile fun c => c != 32 && c != 40 && c != 41).length ≤ l.length := (List.takeWhile_prefix _).length_le
    cases Tm.mid b with
    | false => simp
    | true =>
      simp only [Bool.not_true, if_true, List.length_cons]
      generalize (l.takeWhile fun c => c != 32 && c != 40 && c != 41).length = m at *
      by_cases h : m < l.length
      · have : (((m : Nat) : Int) == -1) = false := by rw [beq_eq_false_iff_ne]; omega
        simp [h, this]
      · simp [h]

/-- The reader of a function text lies in block b: the text, the place, the atoms. -/
def FRd (w : World) (b : Nat) (l : List UInt8) (i n : Nat) : Prop := w.heap[b]? = some (.cells #[str l, .int .i64 i, .int .i64 n] 96 (0, 0))

theorem FRd.set1 {w : World} {b i n : Nat} {l : List UInt8} (h : FRd w b l i n) (j : Nat) : FRd (w.setCell ⟨b, 1, none⟩ (.int .i64 j)) b l j n := by
  unfold FRd at *
  simp [World.setCell, Array.getElem?_modify, h]
theorem FRd.set2 {w : World} {b i n : Nat} {l : List UInt8} (h : FRd w b l i n) (j : Nat) : FRd (w.setCell ⟨b, 2, none⟩ (.int .i64 j)) b l i j := by
  unfold FRd at *
  simp [World.setCell, Array.getElem?_modify, h]
theorem FRd.after {w W : World} {b i n : Nat} {l : List UInt8} (h : FRd w b l i n) (ha : After w W) : FRd W b l i n := ha.heap h
theorem FRd.lt {w : World} {b i n : Nat} {l : List UInt8} (h : FRd w b l i n) : b < w.heap.size := (Array.getElem?_eq_some_iff.1 h).1

theorem after_grown {w W : World} (b : Nat) (h : After w W) : w.grownBy W (some b) := ⟨h.os, h.tape, h.output, h.size, fun k hk _ => h.block k hk⟩
theorem grown_setx (w : World) (b i : Nat) (v : Value) : w.grownBy (w.setCell ⟨b, i, none⟩ v) (some b) := by
  refine ⟨rfl, rfl, rfl, by simp [World.setCell], fun k hk hne => ?_⟩
  have : b ≠ k := fun e => hne (e ▸ rfl)
  simp [World.setCell, Array.getElem?_modify, this]

def WordPost (w : World) (b : Nat) (l : List UInt8) (i n : Nat) (e : Ending) (w' : World) : Prop :=
  e = .returned (str (FT.sl l i (Tm.atomEnd l i))) ∧ w.grownBy w' (some b) ∧ FRd w' b l (Tm.atomEnd l i) n

theorem str_drop (l : List UInt8) (i j : Nat) (h : j = l.length) : (⟨l.toArray⟩ : ByteArray).extract i j = ⟨(l.drop i).toArray⟩ := by
  subst h
  refine ByteArray.ext (Array.ext' ?_)
  simp [ByteArray.data_extract]
  exact List.take_of_length_le (by simp)

theorem readWord_any (w : World) (b i n : Nat) (l : List UInt8) (h : FRd w b l i n) (hl : l.length ≤ 1000000000) (hi : i ≤ l.length) :
    Calls Tryz.prog 89 #[.pointer (some ⟨b, 0, none⟩)] w (WordPost w b l i n) := by
  have c0 : w.cell? ⟨b, 0, none⟩ = some (str l) := cell_of_heap h
  have c1 : w.cell? ⟨b, 1, none⟩ = some (.int .i64 (i : Nat)) := cell_of_heap h
  have hsz : (⟨l.toArray⟩ : ByteArray).size = l.length := by show l.toArray.size = _; simp
  have H := Lib.hid h
  clear h
  go_enter Tryz.func89, Tryz.ntmps89
  go_wp2_with fail
  go_quiet (fail)
  go_wp2_with fail
  obtain ⟨r, hr⟩ : ∃ r, r = (⟨l.toArray⟩ : ByteArray).extract i l.length := ⟨_, rfl⟩
  rw [← hr]
  rw [str_drop l i l.length rfl] at hr
  have hrl : r.data.toList = l.drop i := by rw [hr]
  have hrs : r.size = l.length - i := by rw [hr, ByteArray.size]; simp
  have hidx := index_any (w.drewN nq) r (by omega)
  rw [hrl, indexAny_mid] at hidx
  have hend : Tm.atomEnd l i = i + ((l.drop i).takeWhile fun c => c != 32 && c != 40 && c != 41).length := rfl
  have hle : ((l.drop i).takeWhile fun c => c != 32 && c != 40 && c != 41).length ≤ (l.drop i).length := (List.takeWhile_prefix _).length_le
  rw [List.length_drop] at hle hidx
  unfold WordPost
  generalize ((l.drop i).takeWhile fun c => c != 32 && c != 40 && c != 41).length = m at *
  rw [hend]
  have hres : ∀ k, k = m → Value.string (r.extract 0 k) = str (FT.sl l i (i + m)) := fun k hk => by
    subst hk
    refine congrArg Value.string (ByteArray.ext (Array.ext' ?_))
    simp [ByteArray.data_extract, hrl, FT.sl]
  have HR := Lib.hid hres
  have HE := Lib.hid hend
  clear hr hrl hend hres
  by_cases hm : m < l.length - i
  · rw [if_pos hm] at hidx
    have hneg : ¬ ((m : Int) < 0) := by omega
    refine hidx.mono ?_
    rintro e w1 ⟨rfl, ha⟩
    have hg0 := grown_drawn w b nq
    have H1 : FRd w1 b l i n := (show FRd (w.drewN nq) b l i n from H.out).after ha
    have hg1 := after_grown b ha
    have c1' : w1.cell? ⟨b, 1, none⟩ = some (.int .i64 (i : Nat)) := cell_of_heap H1
    have f1 : w1.frozen? ⟨b, 1, none⟩ = false := by unfold FRd at H1; simp [World.frozen?, H1]
    have hmr : (m : Int) ≤ (r.size : Int) := by omega
    have HH := Lib.hid H1
    clear hidx H1 ha
    go_wp2_with fail
    go_ret
    exact ⟨congrArg Ending.returned ((HR.out m rfl).trans (by rw [HE.out])), grown_trans (grown_trans hg0 hg1) (grown_setx _ _ _ _), by have := HH.out.set1 (i + m); rw [HE.out]; simpa using this⟩
  · rw [if_neg hm] at hidx
    refine hidx.mono ?_
    rintro e w1 ⟨rfl, ha⟩
    have hg0 := grown_drawn w b nq
    have H1 : FRd w1 b l i n := (show FRd (w.drewN nq) b l i n from H.out).after ha
    have hg1 := after_grown b ha
    have c1' : w1.cell? ⟨b, 1, none⟩ = some (.int .i64 (i : Nat)) := cell_of_heap H1
    have f1 : w1.frozen? ⟨b, 1, none⟩ = false := by unfold FRd at H1; simp [World.frozen?, H1]
    have hmD : l.length - i = m := by omega
    have HM := Lib.hid hmD
    clear hmD
    have HH := Lib.hid H1
    clear hidx H1 ha
    go_wp2_with fail
    go_ret
    exact ⟨congrArg Ending.returned ((HR.out _ HM.out).trans (by rw [HE.out])), grown_trans (grown_trans hg0 hg1) (grown_setx _ _ _ _), by have := HH.out.set1 (i + (l.length - i)); rw [HE.out, ← HM.out]; simpa using this⟩
end Go.Proofs.YtmkmladlpgfniacGreat

namespace Go.Proofs.YtmkmladlpgfniacGreat
open Go.RowKit

set_option maxHeartbeats 1000000
set_option maxRecDepth 100000

abbrev ptr (b : Nat) : Value := .pointer (some ⟨b, 0, none⟩)

/-- A compiled function text with a closure that F tells. -/
def CVh (w : World) (B : Nat) (t : FT) (F : Value → Prop) (v : Value) : Prop :=
  ∃ b vr vf, v = ptr b ∧ B ≤ b ∧ w.heap[b]? = some (.cells #[.int .i64 (FT.arity t : Nat), .int .i64 (FT.size t : Nat), .bool (FT.total t), vr, vf] 58 (0, 0)) ∧ TV w B (FT.real t) vr ∧ F vf

/-- The closure of a function text. -/
def FnV (w : World) (B : Nat) : FT → Value → Prop
  | .z _, vf => vf = .func (.func 117) #[] #[]
  | .inc, vf => vf = .func (.func 119) #[] #[]
  | .p i _, vf => ∃ q, vf = .func (.func 120) #[] #[ptr q] ∧ B ≤ q ∧ w.heap[q]? = some (.cells #[.int .i64 (i : Nat)] 3 (0, 0))
  | .c1 f g, vf => ∃ q1 q2 s o cap cs T fr pf p1, vf = .func (.func 126) #[] #[ptr q1, ptr q2] ∧ B ≤ q1 ∧ w.heap[q1]? = some (.cells #[.slice (some ⟨s, o, none⟩) 1 cap] 138 (0, 0)) ∧
      B ≤ q2 ∧ w.heap[q2]? = some (.cells #[pf] 51 (0, 0)) ∧ CVh w B f (FnV w B f) pf ∧ B ≤ s ∧ w.heap[s]? = some (.cells cs T fr) ∧ cs[o]? = some p1 ∧ CVh w B g (FnV w B g) p1
  | .c2 f g h, vf => ∃ q1 q2 s o cap cs T fr pf p1 p2, vf = .func (.func 126) #[] #[ptr q1, ptr q2] ∧ B ≤ q1 ∧ w.heap[q1]? = some (.cells #[.slice (some ⟨s, o, none⟩) 2 cap] 138 (0, 0)) ∧
      B ≤ q2 ∧ w.heap[q2]? = some (.cells #[pf] 51 (0, 0)) ∧ CVh w B f (FnV w B f) pf ∧ B ≤ s ∧ w.heap[s]? = some (.cells cs T fr) ∧ cs[o]? = some p1 ∧ CVh w B g (FnV w B g) p1 ∧ cs[o + 1]? = some p2 ∧ CVh w B h (FnV w B h) p2
  | .c3 f g h i, vf => ∃ q1 q2 s o cap cs T fr pf p1 p2 p3, vf = .func (.func 126) #[] #[ptr q1, ptr q2] ∧ B ≤ q1 ∧ w.heap[q1]? = some (.cells #[.slice (some ⟨s, o, none⟩) 3 cap] 138 (0, 0)) ∧
      B ≤ q2 ∧ w.heap[q2]? = some (.cells #[pf] 51 (0, 0)) ∧ CVh w B f (FnV w B f) pf ∧ B ≤ s ∧ w.heap[s]? = some (.cells cs T fr) ∧ cs[o]? = some p1 ∧ CVh w B g (FnV w B g) p1 ∧ cs[o + 1]? = some p2 ∧ CVh w B h (FnV w B h) p2 ∧
      cs[o + 2]? = some p3 ∧ CVh w B i (FnV w B i) p3
  | .r f g, vf => ∃ q1 q2 pf pg, vf = .func (.func 129) #[] #[ptr q1, ptr q2] ∧ B ≤ q1 ∧ w.heap[q1]? = some (.cells #[pf] 51 (0, 0)) ∧ B ≤ q2 ∧ w.heap[q2]? = some (.cells #[pg] 51 (0, 0)) ∧
      CVh w B f (FnV w B f) pf ∧ CVh w B g (FnV w B g) pg
  | .m f, vf => ∃ q1 pf, vf = .func (.func 131) #[] #[ptr q1] ∧ B ≤ q1 ∧ w.heap[q1]? = some (.cells #[pf] 51 (0, 0)) ∧ CVh w B f (FnV w B f) pf

def CV (w : World) (B : Nat) (t : FT) (v : Value) : Prop := CVh w B t (FnV w B t) v

theorem CVh.same {w w' : World} {B : Nat} (hs : ∀ b, B ≤ b → b < w.heap.size → w'.heap[b]? = w.heap[b]?) {t : FT} {F F' : Value → Prop} (hF : ∀ v, F v → F' v) {v : Value} : CVh w B t F v → CVh w' B t F' v := by
  rintro ⟨b, vr, vf, hv, hb, hh, hr, hf⟩
  exact ⟨b, vr, vf, hv, hb, by rw [hs b hb (Array.getElem?_eq_some_iff.1 hh).1]; exact hh, hr.same hs, hF vf hf⟩

theorem FnV.same {w w' : World} {B : Nat} (hs : ∀ b, B ≤ b → b < w.heap.size → w'.heap[b]? = w.heap[b]?) : ∀ {t : FT} {v : Value}, FnV w B t v → FnV w' B t v := by
  have hk : ∀ {b : Nat} {o : Obj}, B ≤ b → w.heap[b]? = some o → w'.heap[b]? = some o := fun {b o} hb h => by rw [hs b hb (Array.getElem?_eq_some_iff.1 h).1]; exact h
  intro t
  induction t with
  | z _ => exact id
  | inc => exact id
  | p _ _ => rintro v ⟨q, hv, hb, hh⟩; exact ⟨q, hv, hb, hk hb hh⟩
  | c1 f g ihf ihg =>
    rintro v ⟨q1, q2, s, o, cap, cs, T, fr, pf, p1, hv, b1, h1, b2, h2, hf, bs, h3, e1, hg⟩
    exact ⟨q1, q2, s, o, cap, cs, T, fr, pf, p1, hv, b1, hk b1 h1, b2, hk b2 h2, hf.same hs (fun _ => ihf), bs, hk bs h3, e1, hg.same hs (fun _ => ihg)⟩
  | c2 f g k ihf ihg ihk =>
    rintro v ⟨q1, q2, s, o, cap, cs, T, fr, pf, p1, p2, hv, b1, h1, b2, h2, hf, bs, h3, e1, hg, e2, hh⟩
    exact ⟨q1, q2, s, o, cap, cs, T, fr, pf, p1, p2, hv, b1, hk b1 h1, b2, hk b2 h2, hf.same hs (fun _ => ihf), bs, hk bs h3, e1, hg.same hs (fun _ => ihg), e2, hh.same hs (fun _ => ihk)⟩
  | c3 f g k l ihf ihg ihk ihl =>
    rintro v ⟨q1, q2, s, o, cap, cs, T, fr, pf, p1, p2, p3, hv, b1, h1, b2, h2, hf, bs, h3, e1, hg, e2, hh, e3, hi⟩
    exact ⟨q1, q2, s, o, cap, cs, T, fr, pf, p1, p2, p3, hv, b1, hk b1 h1, b2, hk b2 h2, hf.same hs (fun _ => ihf), bs, hk bs h3, e1, hg.same hs (fun _ => ihg), e2, hh.same hs (fun _ => ihk), e3, hi.same hs (fun _ => ihl)⟩
  | r f g ihf ihg =>
    rintro v ⟨q1, q2, pf, pg, hv, b1, h1, b2, h2, hf, hg⟩
    exact ⟨q1, q2, pf, pg, hv, b1, hk b1 h1, b2, hk b2 h2, hf.same hs (fun _ => ihf), hg.same hs (fun _ => ihg)⟩
  | m f ihf =>
    rintro v ⟨q1, pf, hv, b1, h1, hf⟩
    exact ⟨q1, pf, hv, b1, hk b1 h1, hf.same hs (fun _ => ihf)⟩

theorem CV.same {w w' : World} {B : Nat} (hs : ∀ b, B ≤ b → b < w.heap.size → w'.heap[b]? = w.heap[b]?) {t : FT} {v : Value} (h : CV w B t v) : CV w' B t v := CVh.same hs (fun _ => FnV.same hs) h
theorem CV.after {w w' : World} {B : Nat} {t : FT} {v : Value} (h : CV w B t v) (ha : After w w') : CV w' B t v := h.same fun b _ hl => ha.block b hl
theorem FnV.after {w w' : World} {B : Nat} {t : FT} {v : Value} (h : FnV w B t v) (ha : After w w') : FnV w' B t v := h.same fun b _ hl => ha.block b hl
theorem CV.grown {w w' : World} {b : Nat} {t : FT} {v : Value} (h : CV w (b + 1) t v) (hg : w.grownBy w' (some b)) : CV w' (b + 1) t v :=
  h.same fun k hk hl => hg.block k hl (fun e => by injection e with e; omega)

/-! ### the names of arguments -/

theorem argNames_any (w : World) (a : Nat) (ha : a ≤ 3) :
    Calls Tryz.prog 116 #[.int .i64 a] w fun e w' => e = .returned (.slice (some ⟨w.heap.size, 0, none⟩) a 3) ∧ w' = w.alloc (.cells #[str [120], str [121], str [122]] 9 (0, 0)) := by
  have ha' : (a : Int) ≤ 3 := by omega
  go_enter Tryz.func116, Tryz.ntmps116
  go_wp2_with fail
  go_ret
  exact ⟨rfl, rfl⟩
end Go.Proofs.YtmkmladlpgfniacGreat

namespace Go.Proofs.YtmkmladlpgfniacGreat
open Go.RowKit

set_option maxHeartbeats 1000000
set_option maxRecDepth 100000

/-- A slice of terms. -/
def ArgsT (w : World) (B : Nat) (sv : Value) (us : List Tm) : Prop :=
  (us = [] ∧ ∃ ao cap, sv = .slice ao 0 cap) ∨ ∃ b o cap, sv = .slice (some ⟨b, o, none⟩) us.length cap ∧ ∀ j (h : j < us.length), ∃ v, w.cell? ⟨b, o + j, none⟩ = some v ∧ TV w B us[j] v

theorem ArgsT.after {w W : World} {B : Nat} {sv : Value} {us : List Tm} (h : ArgsT w B sv us) (ha : After w W) : ArgsT W B sv us := by
  rcases h with h | ⟨b, o, cap, hv, hc⟩
  · exact Or.inl h
  · exact Or.inr ⟨b, o, cap, hv, fun j hj => by obtain ⟨v, h1, h2⟩ := hc j hj; exact ⟨v, cell_later' h1 _ ha, h2.below ha⟩⟩

theorem ArgsT.form {w : World} {B : Nat} {sv : Value} {us : List Tm} (h : ArgsT w B sv us) : ∃ ao cap, sv = .slice ao us.length cap := by
  rcases h with ⟨rfl, ao, cap, rfl⟩ | ⟨b, o, cap, rfl, _⟩
  · exact ⟨_, _, rfl⟩
  · exact ⟨_, _, rfl⟩

theorem applyAll_sl (w : World) (B : Nat) (f : Tm) (vf sv : Value) (us : List Tm) (ha : ArgsT w B sv us) (hf : TV w B f vf) (hB : B ≤ w.heap.size) (hz : f.size + (us.map Tm.size).sum ≤ 1000000000) (hn : us.length ≤ 1000000) :
    Calls Tryz.prog 110 #[vf, sv] w (TermPost w B (us.foldl Tm.app f)) := by
  have hstart : ∃ k : Nat, Value.int .i64 0 = .int .i64 k ∧ k ≤ us.length ∧ Hid (TV w B ((us.take k).foldl Tm.app f) vf) ∧ Below w.heap.size w w := ⟨0, rfl, Nat.zero_le _, by show TV _ _ _ _; simpa using hf, Below.refl _ _⟩
  obtain ⟨ao, cap, rfl⟩ := ha.form
  have HU := Lib.hid ha
  clear hf ha
  go_enter Tryz.func110, Tryz.ntmps110
  go_wp2_with fail
  go_loopw [0, 9] (fun v i wr => ∃ k : Nat, i = .int .i64 k ∧ k ≤ us.length ∧ Hid (TV wr B ((us.take k).foldl Tm.app f) v) ∧ Below w.heap.size w wr) (fun _ i _ => us.length - (intOf i).toNat)
  case atStart => exact hstart
  case round =>
    clear hstart
    obtain ⟨k, rfl, hk, ht, hb⟩ := hrel
    by_cases hlt : k < us.length
    · obtain ⟨b, o, hao, vk, hck, hu⟩ : ∃ b o, ao = some ⟨b, o, none⟩ ∧ ∃ vk, wr.cell? ⟨b, o + k, none⟩ = some vk ∧ TV wr B us[k] vk := by
        rcases HU.out with ⟨h, _⟩ | ⟨b, o, cap', hv, hc⟩
        · rw [h] at hlt; simp at hlt
        · injection hv with h1 h2 h3
          obtain ⟨v, h4, h5⟩ := hc k hlt
          exact ⟨b, o, h1, v, cell_later' h4 _ hb, h5.below hb⟩
      subst hao
      have hs1 := foldl_size f (us.take k)
      have hs2 : (us[k]).size + ((us.take k).map Tm.size).sum ≤ (us.map Tm.size).sum := by
        have h1 := sum_take (us.map Tm.size) (k + 1)
        rw [List.take_succ_eq_append_getElem (by simpa using hlt)] at h1
        simp only [List.sum_append, List.getElem_map, List.sum_cons, List.sum_nil, ← List.map_take] at h1
        omega
      have hcall := apply_any wr B _ _ _ _ ht.out hu (Nat.le_trans hB hb.size) (by omega)
      have hnext : (us.take (k + 1)).foldl Tm.app f = ((us.take k).foldl Tm.app f).app us[k] := by
        rw [List.take_succ_eq_append_getElem hlt, List.foldl_append]; rfl
      rw [← hnext] at hcall
      clear hu hs1 hs2 hnext
      go_wp2_with fail
      refine hcall.mono ?_
      rintro e w1 ⟨v1, rfl, hb1, ht1⟩
      have HT1 := Lib.hid ht1
      clear ht1
      go_wp2_with fail
      go_roundw
      case rel => exact ⟨k + 1, by go_num, by omega, HT1, below_trans hb hb1⟩
      case measure => simp [intOf]; omega
    · obtain rfl : k = us.length := by omega
      have HT := Lib.hid ht.out
      rw [List.take_length] at HT
      clear ht
      go_wp2_with fail
      go_ret
      exact ⟨_, rfl, hb, HT.out⟩

theorem o_slice_len {w : World} {base n size : Nat} {T : TypeId} {v : Value} {xs : List Value} (h : w.ownsRow base T size v n xs) : ∃ ao ac, v = .slice ao n ac := by
  rcases h.2 with ⟨rfl, rfl⟩ | ⟨g, cap, cur, rfl, _⟩
  · exact ⟨_, _, rfl⟩
  · exact ⟨_, _, rfl⟩
theorem o_slice {w : World} {base n size : Nat} {T : TypeId} {v : Value} {xs : List Value} (h : w.ownsRow base T size v n xs) : ∃ ao an ac, v = .slice ao an ac := by
  obtain ⟨ao, ac, h⟩ := o_slice_len h
  exact ⟨ao, n, ac, h⟩

/-! ### nameTerms -/

def NmAt (w : World) (base : Nat) (n : List UInt8) (v : Value) : Prop := ∃ b, v = .iface 175 (ptr b) ∧ base ≤ b ∧ w.heap[b]? = some (.cells #[str n] 177 (0, 0))

theorem NmAt.grown {w w' : World} {base : Nat} {n : List UInt8} {v sv : Value} {m : Nat} {xs : List Value} (h : NmAt w base n v) (ho : w.ownsRow base 55 1 sv m xs) (hg : w.grownBy w' sv.ownBlock) : NmAt w' base n v := by
  obtain ⟨b, hv, hb, hh⟩ := h
  refine ⟨b, hv, hb, ?_⟩
  rw [hg.block b (Array.getElem?_eq_some_iff.1 hh).1 (fun e => ?_)]
  · exact hh
  · obtain ⟨c, fz, hc⟩ := Lib.ownsRow_kind ho b e.symm
    rw [hh] at hc
    injection hc with hc
    injection hc with _ hc _
    exact absurd hc (by decide)

theorem NmAt.after {w w' : World} {base : Nat} {n : List UInt8} {v : Value} (h : NmAt w base n v) (ha : After w w') : NmAt w' base n v := by
  obtain ⟨b, hv, hb, hh⟩ := h
  exact ⟨b, hv, hb, ha.heap hh⟩

theorem cell_one_new2 (w : World) (o : Obj) (v : Value) (T : TypeId) : ∀ j u, [v][j]? = some u → ((w.alloc o).alloc (.cells #[v] T)).cell? ((⟨w.heap.size + 1, 0, none⟩ : Addr).add j) = some u := by
  intro j u h
  match j with
  | 0 =>
    simp at h
    subst h
    have := heap_top2 w o (.cells #[v] T)
    rw [show ((⟨w.heap.size + 1, 0, none⟩ : Addr).add 0) = ⟨w.heap.size + 1, 0, none⟩ from rfl, cell_of_heap this]
    rfl
  | j + 1 => simp at h

theorem nameTerms_any (w : World) (g cap : Nat) (nl : List (List UInt8)) (hc : ∀ j, j < nl.length → w.cell? ⟨g, j, none⟩ = some (str (nl[j]?.getD []))) (hn : nl.length ≤ 1000) :
    Calls Tryz.prog 138 #[.slice (some ⟨g, 0, none⟩) nl.length cap] w fun e w' => ∃ sv, e = .returned sv ∧ After w w' ∧ ArgsT w' w.heap.size sv (nl.map Tm.nm) := by
  obtain ⟨N, hN⟩ : ∃ N, N = nl.length := ⟨_, rfl⟩
  rw [← hN] at hc hn ⊢
  have HN := Lib.hid hN
  have HC := Lib.hid hc
  obtain ⟨i0, hi, hz0, hz1, hz2⟩ : ∃ i, (Tryz.prog).info? 55 = some i ∧ i.zero = some .nilIface ∧ i.size = 1 ∧ i.bytes = 16 := ⟨_, rfl, rfl, rfl, rfl⟩
  have hun : Tryz.prog.underlying 190 = some (.slice 55) := by kernel_rfl
  obtain ⟨base, hbase⟩ : ∃ base, base = w.heap.size := ⟨_, rfl⟩
  have HBS := Lib.hid hbase
  rw [← hbase]
  clear hN hc hbase
  go_enter Tryz.func138, Tryz.ntmps138
  go_wp2_with fail
  go_loopw [3, 5, 8] (fun sv _ i wr => ∃ (k : Nat) (xs : List Value), i = .int .i64 k ∧ k ≤ N ∧ Hid (wr.ownsRow base 55 1 sv k xs) ∧ After w wr ∧ Hid (∀ (j : Nat) (v : Value), xs[j]? = some v → NmAt wr base (nl[j]?.getD []) v)) (fun _ _ i _ => N - (intOf i).toNat)
  case atStart => exact ⟨0, [], rfl, Nat.zero_le _, ⟨rfl, Or.inl ⟨rfl, rfl⟩⟩, After.refl _, fun j v h => by simp at h⟩
  case round =>
    obtain ⟨k, xs, rfl, hk, HO, ha, HX⟩ := hrel
    by_cases hlt : k < N
    · have hck := cell_later' (HC.out k hlt) wr ha
      generalize hnm : nl[k]?.getD [] = nm at hck
      have HNM := Lib.hid hnm
      clear hnm
      have hbs : base ≤ wr.heap.size := by rw [HBS.out]; exact ha.size
      have HA := Lib.hid ha
      clear ha
      have hone : ∀ u ∈ [Value.iface 175 (ptr wr.heap.size)], u.oneCell' = true := by simp [Value.oneCell']
      have hmax : k + 1 ≤ maxLen := by unfold maxLen; omega
      have hm16 : (k + 1) * 16 ≤ 140737488355328 := by omega
      have hsz : base ≤ ((wr.alloc (.cells #[str nm] 177)).alloc (.cells #[.iface 175 (ptr wr.heap.size)] 55)).heap.size := by simp; omega
      obtain ⟨ao, an, ac, rfl⟩ := o_slice HO.out
      go_wp2_with (at_builtin; refine wpList_append_own _ rfl _ _ 190 rfl base 55 i0 .nilIface 1 16 hun hi hz0 hz1 hz2 rfl (by decide) _ _ _ rfl (World.ownsRow.alloc (World.ownsRow.alloc HO.out _) _) ⟨wr.heap.size + 1, 0, none⟩ 1 1 [.iface 175 (ptr wr.heap.size)] rfl rfl (cell_one_new2 _ _ _ _) hone hmax hm16 hsz ?_; intro v2 w2 ho2 hg2 hiff; clear hiff; obtain ⟨bo, bn, bc, rfl⟩ := o_slice ho2; have HO2 := Lib.hid ho2; have HG2 := Lib.hid hg2; clear ho2 hg2)
      go_roundw
      case measure => simp [intOf]; omega
      case rel =>
        have hal : After wr ((wr.alloc (.cells #[str nm] 177)).alloc (.cells #[.iface 175 (ptr wr.heap.size)] 55)) := (After.new _ _).alloc _
        have ho1 := World.ownsRow.alloc (World.ownsRow.alloc HO.out (.cells #[str nm] 177)) (.cells #[.iface 175 (ptr wr.heap.size)] 55)
        refine ⟨k + 1, _, by go_num, by omega, HO2, ?_, fun j v hj => ?_⟩
        · have h1 := HA.out.trans hal
          refine ⟨HG2.out.os.trans h1.os, HG2.out.tape.trans h1.tape, HG2.out.output.trans h1.output, Nat.le_trans h1.size HG2.out.size, fun q hq => ?_⟩
          rw [HG2.out.block q (Nat.lt_of_lt_of_le hq h1.size) (fun e => by have := (ho1.lt q e.symm).1; have := HBS.out; omega)]
          exact h1.block q hq
        · by_cases hjk : j < xs.length
          · rw [List.getElem?_append_left hjk] at hj
            exact ((HX.out j v hj).after hal).grown ho1 HG2.out
          · have hxl : xs.length = k := by have := HO.out.1; omega
            have hjk' : j = k := by
              have := (List.getElem?_eq_some_iff.1 hj).1
              simp at this
              omega
            subst hjk'
            rw [List.getElem?_append_right (by omega), hxl, Nat.sub_self] at hj
            simp at hj
            subst hj
            rw [HNM.out]
            refine NmAt.grown ⟨wr.heap.size, rfl, hbs, ?_⟩ ho1 HG2.out
            exact heap_below2 wr _ _
    · obtain rfl : k = N := by omega
      have HA := Lib.hid ha
      obtain ⟨ao, ac, rfl⟩ := o_slice_len HO.out
      clear ha
      go_wp2_with fail
      go_ret
      refine ⟨_, rfl, HA.out, ?_⟩
      have hlen := HN.out
      rcases HO.out.2 with ⟨h1, h2⟩ | ⟨g', cap', cur, h1, _, hh, hle, _, hcs, hct⟩
      · exact Or.inl ⟨by rw [List.map_eq_nil_iff]; exact List.length_eq_zero_iff.1 (by omega), ao, ac, by show Value.slice ao k ac = Value.slice ao 0 ac; rw [h2]⟩
      · refine Or.inr ⟨g', 0, cap', by show Value.slice ao k ac = _; rw [h1, List.length_map, ← hlen], fun j hj => ?_⟩
        rw [List.length_map] at hj
        have hxj : j < xs.length := by have := HO.out.1; omega
        obtain ⟨b, hv, hb, hh2⟩ := HX.out j _ (List.getElem?_eq_getElem hxj)
        refine ⟨xs[j], ?_, ?_⟩
        · rw [Nat.zero_add]
          have hc := World.ownsRow.cellAt (h1 ▸ HO.out) j (by omega)
          rw [hc, List.getElem?_eq_getElem hxj]
        · rw [List.getElem_map]
          refine ⟨b, (0, 0), hv, hb, ?_⟩
          rw [hh2]
          simp [List.getElem?_eq_getElem hj]
end Go.Proofs.YtmkmladlpgfniacGreat

namespace Go.Proofs.YtmkmladlpgfniacGreat
open Go.RowKit

set_option maxHeartbeats 1000000
set_option maxRecDepth 100000

/-- A new compiled function text, not yet counted. -/
def NewPost (w : World) (B : Nat) (t : FT) (e : Ending) (w' : World) : Prop :=
  ∃ b vr vf, e = .returned (ptr b) ∧ After w w' ∧ w.heap.size ≤ b ∧ w'.heap[b]? = some (.cells #[.int .i64 (FT.arity t : Nat), .int .i64 0, .bool false, vr, vf] 58 (0, 0)) ∧
    ∀ w'' : World, (∀ k, B ≤ k → k < w'.heap.size → k ≠ b → w''.heap[k]? = w'.heap[k]?) → TV w'' B (FT.real t) vr ∧ FnV w'' B t vf

theorem NewPost.mk {w W : World} {B : Nat} {t : FT} {vr vf : Value} (ha : After w W) (ht : TV W B (FT.real t) vr) (hf : FnV W B t vf) :
    NewPost w B t (.returned (ptr W.heap.size)) (W.alloc (.cells #[.int .i64 (FT.arity t : Nat), .int .i64 0, .bool false, vr, vf] 58 (0, 0))) := by
  refine ⟨_, vr, vf, rfl, ha.alloc _, ha.size, heap_top _ _, fun w'' hs => ?_⟩
  have hk : ∀ k, B ≤ k → k < W.heap.size → w''.heap[k]? = W.heap[k]? := fun k h1 h2 => by
    rw [hs k h1 (by simp; omega) (by omega)]
    exact (below_new W _).block k h2
  exact ⟨ht.same hk, hf.same hk⟩

theorem ns_len (a : Nat) (ha : a ≤ 3) : (FT.ns a).length = a := by simp [FT.ns]; omega

theorem ns_at (a j : Nat) (ha : a ≤ 3) (hj : j < a) : (#[str [120], str [121], str [122]] : Array Value)[j]? = some (str ((FT.ns a)[j]?.getD [])) := by
  match a, j, ha, hj with
  | 1, 0, _, _ => rfl
  | 2, 0, _, _ => rfl
  | 2, 1, _, _ => rfl
  | 3, 0, _, _ => rfl
  | 3, 1, _, _ => rfl
  | 3, 2, _, _ => rfl

/-- The names of arguments, as a slice. -/
def ArgN (w : World) (g _a : Nat) : Prop := w.heap[g]? = some (.cells #[str [120], str [121], str [122]] 9 (0, 0))

theorem ArgN.strs {w : World} {g a : Nat} (h : ArgN w g a) (ha : a ≤ 3) : StrsB w.heap.size w (.slice (some ⟨g, 0, none⟩) a 3) (FT.ns a) := by
  refine Or.inr ⟨g, 0, 3, by rw [ns_len a ha], (Array.getElem?_eq_some_iff.1 h).1, fun j hj => ?_⟩
  rw [ns_len a ha] at hj
  rw [Nat.zero_add, cell_of_heap h]
  exact ns_at a j ha hj

theorem ArgN.cells {w : World} {g a : Nat} (h : ArgN w g a) (ha : a ≤ 3) : ∀ j, j < (FT.ns a).length → w.cell? ⟨g, j, none⟩ = some (str ((FT.ns a)[j]?.getD [])) := fun j hj => by
  rw [ns_len a ha] at hj
  rw [cell_of_heap h]
  exact ns_at a j ha hj

theorem zero_any (w : World) (B a : Nat) (ha : a ≤ 3) (hB : B ≤ w.heap.size) :
    Calls Tryz.prog 100 #[.int .i64 a] w (NewPost w B (.z a)) := by
  have h1 := argNames_any w a ha
  have hN : ArgN (w.alloc (.cells #[str [120], str [121], str [122]] 9 (0, 0))) w.heap.size a := heap_top _ _
  have hB1 : B ≤ (w.alloc (.cells #[str [120], str [121], str [122]] 9 (0, 0))).heap.size := by simp; omega
  have hW1 := After.new w (.cells #[str [120], str [121], str [122]] 9 (0, 0))
  have h2 := numeral_any (w.alloc (.cells #[str [120], str [121], str [122]] 9 (0, 0))) B 0 hB1 (by omega)
  unfold TermPost at h2
  generalize w.alloc (.cells #[str [120], str [121], str [122]] 9 (0, 0)) = W1 at *
  go_enter Tryz.func100, Tryz.ntmps100
  go_wp2_with (go_at_call 116; refine h1.mono ?_; rintro e w1 ⟨rfl, rfl⟩)
  refine h2.mono ?_
  rintro e w2 ⟨v2, rfl, hb2, ht2⟩
  have hN2 : ArgN w2 w.heap.size a := After.heap hb2 hN
  have h3 := absAll_any w2 B (FT.ns a) _ _ v2 (hN2.strs ha) ht2 (Nat.le_trans hB1 hb2.size) (by rw [ns_len a ha]; omega) (by decide)
  unfold TermPost at h3
  clear h1 h2 ht2 hN hN2
  go_wp2_with fail
  refine h3.mono ?_
  rintro e w3 ⟨v3, rfl, hb3, ht3⟩
  obtain ⟨T3, x3, rfl, _⟩ := ht3.asks
  have HT := Lib.hid ht3
  clear h3 ht3
  go_wp2_with fail
  go_ret
  have hal := (hW1.trans hb2).trans hb3
  exact NewPost.mk hal HT.out rfl

theorem next_any (w : World) (B : Nat) (hB : B ≤ w.heap.size) : Calls Tryz.prog 101 #[] w (NewPost w B .inc) := by
  have h1 := succ_any w B hB
  unfold TermPost at h1
  go_enter Tryz.func101, Tryz.ntmps101
  go_wp2_with fail
  refine h1.mono ?_
  rintro e w1 ⟨v1, rfl, hb1, ht1⟩
  obtain ⟨T1, x1, rfl, _⟩ := ht1.asks
  have HT := Lib.hid ht1
  clear h1 ht1
  go_wp2_with fail
  go_ret
  exact NewPost.mk hb1 HT.out rfl

theorem vs_at (i a : Nat) (hi : i < a) (ha : a ≤ 3) : (FT.vs a).getD i .k = .nm ((FT.ns a)[i]?.getD []) := by
  match a, i, ha, hi with
  | 1, 0, _, _ => rfl
  | 2, 0, _, _ => rfl
  | 2, 1, _, _ => rfl
  | 3, 0, _, _ => rfl
  | 3, 1, _, _ => rfl
  | 3, 2, _, _ => rfl

theorem arg_any (w : World) (B i a : Nat) (hi : i < a) (ha : a ≤ 3) (hB : B ≤ w.heap.size) :
    Calls Tryz.prog 102 #[.int .i64 i, .int .i64 a] w (NewPost w B (.p i a)) := by
  obtain ⟨W0, hW0⟩ : ∃ W0, W0 = w.alloc (.cells #[.int .i64 (i : Nat)] 3 (0, 0)) := ⟨_, rfl⟩
  have h1 := argNames_any W0 a ha
  have a0 : After w W0 := by rw [hW0]; exact After.new _ _
  have g0 : W0.heap[w.heap.size]? = some (.cells #[.int .i64 (i : Nat)] 3 (0, 0)) := by rw [hW0]; exact heap_top _ _
  obtain ⟨W1, hW1⟩ : ∃ W1, W1 = W0.alloc (.cells #[str [120], str [121], str [122]] 9 (0, 0)) := ⟨_, rfl⟩
  have hN : ArgN W1 W0.heap.size a := by rw [hW1]; exact heap_top _ _
  have a1 : After W0 W1 := by rw [hW1]; exact After.new _ _
  rw [← hW1] at h1
  have hci := cell_later' (cell_of_heap (i := 0) g0) W1 a1
  have hni := cell_of_heap (i := i) hN
  rw [ns_at a i ha hi] at hni
  obtain ⟨nm, hnm⟩ : ∃ nm, nm = (FT.ns a)[i]?.getD [] := ⟨_, rfl⟩
  rw [← hnm] at hni
  obtain ⟨W2, hW2⟩ : ∃ W2, W2 = W1.alloc (.cells #[str nm] 177 (0, 0)) := ⟨_, rfl⟩
  have a2 : After W1 W2 := by rw [hW2]; exact After.new _ _
  have hsz : B ≤ W2.heap.size := Nat.le_trans hB (Nat.le_trans a0.size (Nat.le_trans a1.size a2.size))
  have hT2 : TV W2 B (.nm nm) (.iface 175 (ptr W1.heap.size)) := ⟨_, (0, 0), rfl, Nat.le_trans hB (Nat.le_trans a0.size a1.size), by rw [hW2]; exact heap_top _ _⟩
  have h3 := absAll_any W2 B (FT.ns a) _ _ _ ((show ArgN W2 W0.heap.size a from a2.heap hN).strs ha) hT2 hsz (by rw [ns_len a ha]; omega) (by simp [Tm.size])
  rw [hnm, ← vs_at i a hi ha] at h3
  unfold TermPost at h3
  have hi' : (i : Int) < (a : Int) := by omega
  have HN := Lib.hid hnm
  have HW0 := Lib.hid hW0
  have HW2 := Lib.hid hW2
  clear hN hT2 hnm hW0 hW1 hW2
  go_enter Tryz.func102, Tryz.ntmps102
  go_wp2_with fail
  rw [← HW0.out]
  refine h1.mono ?_
  rintro e w1 ⟨rfl, rfl⟩
  clear h1
  go_wp2_with fail
  rw [← HW2.out]
  refine h3.mono ?_
  rintro e w3 ⟨v3, rfl, hb3, ht3⟩
  obtain ⟨T3, x3, rfl, _⟩ := ht3.asks
  have HT := Lib.hid ht3
  clear h3 ht3 hci hni
  go_wp2_with fail
  go_ret
  have hall := ((a0.trans a1).trans a2).trans hb3
  exact NewPost.mk hall HT.out ⟨_, rfl, hB, ((a1.trans a2).trans hb3).heap g0⟩
end Go.Proofs.YtmkmladlpgfniacGreat
