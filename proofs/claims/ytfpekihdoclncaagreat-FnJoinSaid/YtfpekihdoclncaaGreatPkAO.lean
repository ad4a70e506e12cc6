/-
  Plain mathematics of function texts: words, the two readers, values, realizers. No program is named here.
-/
import Derived.Test.YtfpekihdoclncaaGreatPkAM
import Derived.Test.YtfpekihdoclncaaGreatPkAN
namespace Go.Proofs.YtfpekihdoclncaaGreat

/-- A function text. -/
inductive FT where
  | z (a : Nat)
  | inc
  | p (i a : Nat)
  | c1 (f g : FT)
  | c2 (f g h : FT)
  | c3 (f g h i : FT)
  | r (f g : FT)
  | m (f : FT)

namespace FT

def arity : FT → Nat
  | z a => a
  | inc => 1
  | p _ a => a
  | c1 _ g => arity g
  | c2 _ g _ => arity g
  | c3 _ g _ _ => arity g
  | r f _ => arity f + 1
  | m f => arity f - 1

def size : FT → Nat
  | c1 f g => 1 + (size f + size g)
  | c2 f g h => 1 + (size f + (size g + size h))
  | c3 f g h i => 1 + (size f + (size g + (size h + size i)))
  | r f g => 1 + (size f + size g)
  | m f => 1 + size f
  | _ => 1

def total : FT → Bool
  | c1 f g => total f && total g
  | c2 f g h => total f && total g && total h
  | c3 f g h i => total f && total g && total h && total i
  | r f g => total f && total g
  | m _ => false
  | _ => true

/-- All parts have the arities that they have to have. -/
def ok : FT → Prop
  | z a => a ≤ 3
  | inc => True
  | p i a => i < a ∧ a ≤ 3
  | c1 f g => ok f ∧ ok g ∧ arity f = 1
  | c2 f g h => ok f ∧ ok g ∧ ok h ∧ arity f = 2 ∧ arity h = arity g
  | c3 f g h i => ok f ∧ ok g ∧ ok h ∧ ok i ∧ arity f = 3 ∧ arity h = arity g ∧ arity i = arity g
  | r f g => ok f ∧ ok g ∧ arity g = arity f + 2
  | m f => ok f ∧ 0 < arity f

theorem arity_le : ∀ {t : FT}, ok t → arity t ≤ 3
  | z _, h => h
  | inc, _ => by simp [arity]
  | p _ _, h => h.2
  | c1 _ _, h => by have := arity_le h.2.1; simpa only [arity] using this
  | c2 _ _ _, h => by have := arity_le h.2.1; simpa only [arity] using this
  | c3 _ _ _ _, h => by have := arity_le h.2.1; simpa only [arity] using this
  | r _ _, h => by have := arity_le h.2.1; have := h.2.2; simp only [arity]; omega
  | m _, h => by have := arity_le h.1; simp only [arity]; omega

theorem size_pos (t : FT) : 1 ≤ size t := by cases t <;> simp only [size] <;> omega

/-! ### words and combinations -/

def word (s : List UInt8) : Option FT :=
  if s = [122, 48] then some (z 0) else if s = [122, 49] then some (z 1) else if s = [122, 50] then some (z 2) else if s = [122, 51] then some (z 3)
  else if s = [105, 110, 99] then some inc
  else if s = [112, 48, 49] then some (p 0 1) else if s = [112, 48, 50] then some (p 0 2) else if s = [112, 49, 50] then some (p 1 2)
  else if s = [112, 48, 51] then some (p 0 3) else if s = [112, 49, 51] then some (p 1 3) else if s = [112, 50, 51] then some (p 2 3)
  else none

theorem word_facts {s : List UInt8} {t : FT} (h : word s = some t) : t.ok ∧ t.size = 1 ∧ 1 ≤ s.length ∧ s.length ≤ 3 ∧ t.total = true := by
  unfold word at h
  repeat (split at h; · (rename_i hs; cases h; subst hs; simp [ok, size, total]))
  cases h

def comb (a : List UInt8) (ps : List FT) : Option FT :=
  if a = [99] then match ps with
    | [f, g] => if arity f = 1 then some (c1 f g) else none
    | [f, g, h] => if arity f = 2 ∧ arity h = arity g then some (c2 f g h) else none
    | [f, g, h, i] => if arity f = 3 ∧ arity h = arity g ∧ arity i = arity g then some (c3 f g h i) else none
    | _ => none
  else if a = [114] then match ps with
    | [f, g] => if arity g = arity f + 2 then some (r f g) else none
    | _ => none
  else if a = [109] then match ps with
    | [f] => if 0 < arity f then some (m f) else none
    | _ => none
  else none

theorem comb_facts {a : List UInt8} {ps : List FT} {t : FT} (h : comb a ps = some t) (ho : ∀ f ∈ ps, ok f) : ok t ∧ size t = 1 + (ps.map size).sum ∧ a.length = 1 := by
  unfold comb at h
  split at h
  · rename_i ha; subst ha
    split at h
    · split at h
      · rename_i f g hc; cases h; simp at ho; exact ⟨⟨ho.1, ho.2, hc⟩, by simp [size], rfl⟩
      · cases h
    · split at h
      · rename_i f g k hc; cases h; simp at ho; exact ⟨⟨ho.1, ho.2.1, ho.2.2, hc⟩, by simp [size], rfl⟩
      · cases h
    · split at h
      · rename_i f g k l hc; cases h; simp at ho; exact ⟨⟨ho.1, ho.2.1, ho.2.2.1, ho.2.2.2, hc⟩, by simp [size], rfl⟩
      · cases h
    · cases h
  · split at h
    · rename_i ha; subst ha
      split at h
      · split at h
        · rename_i f g hc; cases h; simp at ho; exact ⟨⟨ho.1, ho.2, hc⟩, by simp [size], rfl⟩
        · cases h
      · cases h
    · split at h
      · rename_i ha; subst ha
        split at h
        · split at h
          · rename_i f hc; cases h; simp at ho; exact ⟨⟨ho, hc⟩, by simp [size], rfl⟩
          · cases h
        · cases h
      · cases h

/-! ### the readers -/

def sl (l : List UInt8) (i j : Nat) : List UInt8 := (l.drop i).take (j - i)

def mparts (rd : Nat → Option (FT × Nat)) (l : List UInt8) : Nat → Nat → List FT → Option (List FT × Nat)
  | 0, _, _ => none
  | n + 1, i, acc => if l[i]? = some 32 then match rd (i + 1) with
      | none => none
      | some (t, j) => mparts rd l n j (acc ++ [t])
    else some (acc, i)

/-- The model's reader: d is 41 less the depth. -/
def mread (l : List UInt8) : Nat → Nat → Option (FT × Nat)
  | 0, _ => none
  | d + 1, i =>
    if l.length ≤ i then none
    else if l[i]? = some 40 then
      match mparts (mread l d) l (l.length + 1) (Tm.atomEnd l (i + 1)) [] with
      | none => none
      | some (ps, j) => if l[j]? = some 41 then match comb (sl l (i + 1) (Tm.atomEnd l (i + 1))) ps with
          | none => none
          | some t => some (t, j + 1)
        else none
    else match word (sl l i (Tm.atomEnd l i)) with
      | none => none
      | some t => some (t, Tm.atomEnd l i)

def mfun (l : List UInt8) : Option FT :=
  if 400 < l.length then none else
  match mread l 41 0 with
  | some (t, j) => if j = l.length ∧ size t ≤ 40 then some t else none
  | none => none

def pparts (rd : Nat → Nat → Option (FT × Nat × Nat)) (l : List UInt8) : Nat → Nat → Nat → List FT → Option (List FT × Nat × Nat)
  | 0, _, _, _ => none
  | n + 1, i, k, acc => if l[i]? = some 32 then match rd (i + 1) k with
      | none => none
      | some (t, j, k') => pparts rd l n j k' (acc ++ [t])
    else some (acc, i, k)

/-- The program's reader: k is how many atoms may still come, at most d. -/
def pread (l : List UInt8) : Nat → Nat → Nat → Option (FT × Nat × Nat)
  | 0, _, _ => none
  | d + 1, i, k =>
    if k = 0 then none
    else if l[i]? = some 40 then
      match pparts (pread l d) l (l.length + 1) (Tm.atomEnd l (i + 1)) (k - 1) [] with
      | none => none
      | some (ps, j, k') => if l[j]? = some 41 then match comb (sl l (i + 1) (Tm.atomEnd l (i + 1))) ps with
          | none => none
          | some t => some (t, j + 1, k')
        else none
    else match word (sl l i (Tm.atomEnd l i)) with
      | none => none
      | some t => some (t, Tm.atomEnd l i, k - 1)

def parse (l : List UInt8) : Option FT :=
  match pread l 40 0 40 with
  | some (t, j, _) => if j = l.length then some t else none
  | none => none

theorem atomEnd_ge (l : List UInt8) (i : Nat) : i ≤ Tm.atomEnd l i := by unfold Tm.atomEnd; omega
theorem atomEnd_le (l : List UInt8) (i : Nat) (h : i ≤ l.length) : Tm.atomEnd l i ≤ l.length := by
  unfold Tm.atomEnd
  have : ((l.drop i).takeWhile fun c => c != 32 && c != 40 && c != 41).length ≤ (l.drop i).length := (List.takeWhile_prefix _).length_le
  simp at this
  omega
theorem sl_len (l : List UInt8) (i j : Nat) (h : j ≤ l.length) : (sl l i j).length = j - i := by
  simp [sl]; omega

theorem sum_app (xs : List FT) (t : FT) : ((xs ++ [t]).map size).sum = (xs.map size).sum + size t := by simp

/-! what the model's reader reads is well made -/

theorem mparts_facts {rd : Nat → Option (FT × Nat)} {l : List UInt8}
    (hrd : ∀ i t j, i ≤ l.length → rd i = some (t, j) → ok t ∧ i + 1 ≤ j ∧ j ≤ l.length ∧ j + 1 ≤ i + 4 * size t) :
    ∀ (n i : Nat) (acc ps : List FT) (j : Nat), i ≤ l.length → (∀ f ∈ acc, ok f) → mparts rd l n i acc = some (ps, j) →
      (∀ f ∈ ps, ok f) ∧ i ≤ j ∧ j ≤ l.length ∧ (acc.map size).sum ≤ (ps.map size).sum ∧ j + 4 * (acc.map size).sum ≤ i + 4 * (ps.map size).sum
  | 0, _, _, _, _, _, _, h => by simp [mparts] at h
  | n + 1, i, acc, ps, j, hi, ha, h => by
    simp only [mparts] at h
    split at h
    · rename_i h32
      have hi1 : i + 1 ≤ l.length := (List.getElem?_eq_some_iff.1 h32).1
      cases hr : rd (i + 1) with
      | none => rw [hr] at h; simp at h
      | some q =>
        obtain ⟨t, k⟩ := q
        rw [hr] at h
        simp only at h
        obtain ⟨h1, h2, h3, h4⟩ := hrd _ _ _ hi1 hr
        obtain ⟨g1, g2, g3, g4, g5⟩ := mparts_facts hrd n k (acc ++ [t]) ps j h3 (by intro f hf; rcases List.mem_append.1 hf with hf | hf; exact ha f hf; simp at hf; subst hf; exact h1) h
        rw [sum_app] at g4 g5
        exact ⟨g1, by omega, g3, by omega, by omega⟩
    · simp only [Option.some.injEq, Prod.mk.injEq] at h
      obtain ⟨rfl, rfl⟩ := h
      exact ⟨ha, Nat.le_refl _, hi, Nat.le_refl _, Nat.le_refl _⟩

theorem mread_facts (l : List UInt8) : ∀ (d i : Nat) (t : FT) (j : Nat), i ≤ l.length → mread l d i = some (t, j) → ok t ∧ i + 1 ≤ j ∧ j ≤ l.length ∧ j + 1 ≤ i + 4 * size t
  | 0, _, _, _, _, h => by simp [mread] at h
  | d + 1, i, t, j, hi, h => by
    simp only [mread] at h
    split at h
    · cases h
    · rename_i hlt
      split at h
      · rename_i h40
        have hi1 : i + 1 ≤ l.length := by omega
        have ha1 := atomEnd_ge l (i + 1)
        have ha2 := atomEnd_le l (i + 1) hi1
        cases hm : mparts (mread l d) l (l.length + 1) (Tm.atomEnd l (i + 1)) [] with
        | none => rw [hm] at h; simp at h
        | some q =>
          obtain ⟨ps, k⟩ := q
          rw [hm] at h
          simp only at h
          obtain ⟨g1, g2, g3, _, g5⟩ := mparts_facts (mread_facts l d) _ _ _ _ _ ha2 (by simp) hm
          split at h
          · rename_i h41
            cases hc : comb (sl l (i + 1) (Tm.atomEnd l (i + 1))) ps with
            | none => rw [hc] at h; simp at h
            | some u =>
              rw [hc] at h
              simp only [Option.some.injEq, Prod.mk.injEq] at h
              obtain ⟨rfl, rfl⟩ := h
              obtain ⟨c1, c2, c3⟩ := comb_facts hc g1
              rw [sl_len _ _ _ ha2] at c3
              have hk : k + 1 ≤ l.length := (List.getElem?_eq_some_iff.1 h41).1
              simp at g5
              exact ⟨c1, by omega, hk, by omega⟩
          · cases h
      · cases hw : word (sl l i (Tm.atomEnd l i)) with
        | none => rw [hw] at h; simp at h
        | some u =>
          rw [hw] at h
          simp only [Option.some.injEq, Prod.mk.injEq] at h
          obtain ⟨rfl, rfl⟩ := h
          obtain ⟨w1, w2, w3, w4, _⟩ := word_facts hw
          have ha2 := atomEnd_le l i hi
          rw [sl_len _ _ _ ha2] at w3 w4
          exact ⟨w1, by omega, ha2, by omega⟩

/-! both read the same -/

theorem pparts_m {pd : Nat → Nat → Option (FT × Nat × Nat)} {rd : Nat → Option (FT × Nat)} {l : List UInt8}
    (hp : ∀ i k t j k', pd i k = some (t, j, k') → rd i = some (t, j) ∧ size t + k' = k) :
    ∀ (n i k : Nat) (acc ps : List FT) (j k' : Nat), pparts pd l n i k acc = some (ps, j, k') → mparts rd l n i acc = some (ps, j) ∧ (ps.map size).sum + k' = (acc.map size).sum + k
  | 0, _, _, _, _, _, _, h => by simp [pparts] at h
  | n + 1, i, k, acc, ps, j, k', h => by
    simp only [pparts] at h
    simp only [mparts]
    split at h
    · rename_i h32
      rw [if_pos h32]
      cases hr : pd (i + 1) k with
      | none => rw [hr] at h; simp at h
      | some q =>
        obtain ⟨t, a, b⟩ := q
        rw [hr] at h
        simp only at h
        obtain ⟨h1, h2⟩ := hp _ _ _ _ _ hr
        obtain ⟨g1, g2⟩ := pparts_m hp n a b (acc ++ [t]) ps j k' h
        rw [sum_app] at g2
        rw [h1]
        exact ⟨g1, by omega⟩
    · rename_i h32
      rw [if_neg h32]
      simp only [Option.some.injEq, Prod.mk.injEq] at h
      obtain ⟨rfl, rfl, rfl⟩ := h
      exact ⟨rfl, rfl⟩

theorem pread_m (l : List UInt8) : ∀ (d e i k : Nat) (t : FT) (j k' : Nat), d ≤ e → pread l d i k = some (t, j, k') → mread l e i = some (t, j) ∧ size t + k' = k
  | 0, _, _, _, _, _, _, _, h => by simp [pread] at h
  | d + 1, 0, _, _, _, _, _, hd, _ => by omega
  | d + 1, e + 1, i, k, t, j, k', hd, h => by
    simp only [pread] at h
    simp only [mread]
    split at h
    · cases h
    · rename_i hk
      split at h
      · rename_i h40
        rw [if_neg (by have := (List.getElem?_eq_some_iff.1 h40).1; omega), if_pos h40]
        cases hm : pparts (pread l d) l (l.length + 1) (Tm.atomEnd l (i + 1)) (k - 1) [] with
        | none => rw [hm] at h; simp at h
        | some q =>
          obtain ⟨ps, a, b⟩ := q
          rw [hm] at h
          simp only at h
          obtain ⟨g1, g2⟩ := pparts_m (fun i k t j k' => pread_m l d e i k t j k' (by omega)) _ _ _ _ _ _ _ hm
          rw [g1]
          simp only
          split at h
          · rename_i h41
            rw [if_pos h41]
            cases hc : comb (sl l (i + 1) (Tm.atomEnd l (i + 1))) ps with
            | none => rw [hc] at h; simp at h
            | some u =>
              rw [hc] at h
              simp only [Option.some.injEq, Prod.mk.injEq] at h
              obtain ⟨rfl, rfl, rfl⟩ := h
              refine ⟨rfl, ?_⟩
              have := comb_size hc
              simp at g2
              omega
          · cases h
      · rename_i h40
        cases hw : word (sl l i (Tm.atomEnd l i)) with
        | none => rw [hw] at h; simp at h
        | some u =>
          rw [hw] at h
          simp only [Option.some.injEq, Prod.mk.injEq] at h
          obtain ⟨rfl, rfl, rfl⟩ := h
          have hlt : ¬ l.length ≤ i := by
            intro hle
            have w3 := (word_facts hw).2.2.1
            simp [sl, List.drop_eq_nil_of_le hle] at w3
          rw [if_neg hlt, if_neg h40]
          exact ⟨rfl, by have := (word_facts hw).2.1; omega⟩
where
  comb_size {a : List UInt8} {ps : List FT} {t : FT} (h : comb a ps = some t) : size t = 1 + (ps.map size).sum := by
    unfold comb at h
    repeat' split at h
    all_goals first
      | (cases h; simp [size])
      | cases h

theorem mparts_p {pd : Nat → Nat → Option (FT × Nat × Nat)} {rd : Nat → Option (FT × Nat)} {l : List UInt8} {K : Nat}
    (hp : ∀ i k t j, rd i = some (t, j) → size t ≤ k → k ≤ K → pd i k = some (t, j, k - size t)) :
    ∀ (n i k : Nat) (acc ps : List FT) (j : Nat), mparts rd l n i acc = some (ps, j) → (ps.map size).sum ≤ (acc.map size).sum + k → k ≤ K →
      (acc.map size).sum ≤ (ps.map size).sum ∧ pparts pd l n i k acc = some (ps, j, k + (acc.map size).sum - (ps.map size).sum)
  | 0, _, _, _, _, _, h, _, _ => by simp [mparts] at h
  | n + 1, i, k, acc, ps, j, h, hk, hK => by
    simp only [mparts] at h
    simp only [pparts]
    split at h
    · rename_i h32
      rw [if_pos h32]
      cases hr : rd (i + 1) with
      | none => rw [hr] at h; simp at h
      | some q =>
        obtain ⟨t, a⟩ := q
        rw [hr] at h
        simp only at h
        have hmono := mparts_mono n a (acc ++ [t]) ps j h
        rw [sum_app] at hmono
        rw [hp _ k _ _ hr (by omega) hK]
        obtain ⟨g1, g2⟩ := mparts_p hp n a (k - size t) (acc ++ [t]) ps j h (by rw [sum_app]; omega) (by omega)
        rw [sum_app] at g1 g2
        simp only
        rw [g2]
        exact ⟨by omega, by congr 3; omega⟩
    · rename_i h32
      rw [if_neg h32]
      simp only [Option.some.injEq, Prod.mk.injEq] at h
      obtain ⟨rfl, rfl⟩ := h
      exact ⟨Nat.le_refl _, by simp⟩
where
  mparts_mono {rd : Nat → Option (FT × Nat)} {l : List UInt8} : ∀ (n i : Nat) (acc ps : List FT) (j : Nat), mparts rd l n i acc = some (ps, j) → (acc.map size).sum ≤ (ps.map size).sum
    | 0, _, _, _, _, h => by simp [mparts] at h
    | n + 1, i, acc, ps, j, h => by
      simp only [mparts] at h
      split at h
      · cases hr : rd (i + 1) with
        | none => rw [hr] at h; simp at h
        | some q =>
          rw [hr] at h
          have := mparts_mono n _ _ _ _ h
          rw [sum_app] at this
          omega
      · simp only [Option.some.injEq, Prod.mk.injEq] at h
        obtain ⟨rfl, rfl⟩ := h
        exact Nat.le_refl _

theorem mread_p (l : List UInt8) : ∀ (e d i k : Nat) (t : FT) (j : Nat), mread l e i = some (t, j) → size t ≤ k → k ≤ d → pread l d i k = some (t, j, k - size t)
  | 0, _, _, _, _, _, h, _, _ => by simp [mread] at h
  | e + 1, 0, i, k, t, j, h, hk, hd => by have := size_pos t; omega
  | e + 1, d + 1, i, k, t, j, h, hk, hd => by
    have hpos := size_pos t
    simp only [mread] at h
    simp only [pread]
    rw [if_neg (by omega)]
    split at h
    · cases h
    · split at h
      · rename_i h40
        rw [if_pos h40]
        cases hm : mparts (mread l e) l (l.length + 1) (Tm.atomEnd l (i + 1)) [] with
        | none => rw [hm] at h; simp at h
        | some q =>
          obtain ⟨ps, a⟩ := q
          rw [hm] at h
          simp only at h
          split at h
          · rename_i h41
            cases hc : comb (sl l (i + 1) (Tm.atomEnd l (i + 1))) ps with
            | none => rw [hc] at h; simp at h
            | some u =>
              rw [hc] at h
              simp only [Option.some.injEq, Prod.mk.injEq] at h
              obtain ⟨rfl, rfl⟩ := h
              have hs := pread_m.comb_size hc
              obtain ⟨_, g2⟩ := mparts_p (K := d) (fun i k t j h h1 h2 => mread_p l e d i k t j h h1 h2) _ _ (k - 1) _ _ _ hm (by simp; omega) (by omega)
              rw [g2]
              simp only
              rw [if_pos h41, hc]
              simp
              omega
          · cases h
      · rename_i h40
        rw [if_neg h40]
        cases hw : word (sl l i (Tm.atomEnd l i)) with
        | none => rw [hw] at h; simp at h
        | some u =>
          rw [hw] at h
          simp only [Option.some.injEq, Prod.mk.injEq] at h
          obtain ⟨rfl, rfl⟩ := h
          simp [(word_facts hw).2.1]

theorem parse_eq (l : List UInt8) : parse l = mfun l := by
  unfold parse mfun
  cases hp : pread l 40 0 40 with
  | some q =>
    obtain ⟨t, j, k⟩ := q
    obtain ⟨h1, h2⟩ := pread_m l 40 41 0 40 t j k (by omega) hp
    obtain ⟨_, _, h3, h4⟩ := mread_facts l 41 0 t j (by omega) h1
    simp only
    by_cases hj : j = l.length
    · rw [if_pos hj, if_neg (by omega), h1]; simp only; rw [if_pos ⟨hj, by omega⟩]
    · rw [if_neg hj, h1]; simp [hj]
  | none =>
    simp only
    split
    · rfl
    · cases hm : mread l 41 0 with
      | none => rfl
      | some q =>
        obtain ⟨t, j⟩ := q
        simp only
        split
        · rename_i h
          rw [mread_p l 41 40 0 40 t j hm h.2 (by omega)] at hp
          cases hp
        · rfl

theorem parse_facts {l : List UInt8} {t : FT} (h : parse l = some t) : ok t ∧ size t ≤ 40 ∧ l.length ≤ 400 := by
  rw [parse_eq] at h
  unfold mfun at h
  split at h
  · cases h
  · rename_i hl
    cases hm : mread l 41 0 with
    | none => rw [hm] at h; simp at h
    | some q =>
      obtain ⟨t', j⟩ := q
      rw [hm] at h
      simp only at h
      split at h
      · rename_i hc
        cases h
        exact ⟨(mread_facts l 41 0 t j (by omega) hm).1, hc.2, by omega⟩
      · cases h

end FT
end Go.Proofs.YtfpekihdoclncaaGreat

namespace Go.Proofs.YtfpekihdoclncaaGreat
namespace FT

/-- The value may be at most 1000. -/
def chk : Option (Nat × Nat) → Option (Nat × Nat)
  | some (v, s) => if v ≤ 1000 then some (v, s) else none
  | none => none

/-- The rounds of (r F G): n rounds are left, i is the number, v the value, s the steps. -/
def loopR (g : List Nat → Nat → Option (Nat × Nat)) (rest : List Nat) : Nat → Nat → Nat → Nat → Option (Nat × Nat)
  | 0, _, v, s => some (v, s)
  | n + 1, i, v, s => match g (i :: v :: rest) s with
    | none => none
    | some (v', s') => loopR g rest n (i + 1) v' s'

/-- The rounds of (m F), the program's. -/
def loopM (f : List Nat → Nat → Option (Nat × Nat)) (rest : List Nat) : Nat → Nat → Nat → Option (Nat × Nat)
  | 0, _, _ => none
  | k + 1, n, s => match f (n :: rest) s with
    | none => none
    | some (v, s') => if v = 0 then some (n, s') else loopM f rest k (n + 1) s'

/-- The rounds of (m F), the model's. -/
def loopN (f : List Nat → Nat → Option (Nat × Nat)) (rest : List Nat) : Nat → Nat → Nat → Option (Nat × Nat)
  | 0, _, _ => none
  | k + 1, n, s => match f (n :: rest) s with
    | none => none
    | some (v, s') => if v = 0 then some (n, s') else if 1000 < n + 1 then none else loopN f rest k (n + 1) s'

/-- What the program reckons behind s steps. -/
def ev : FT → List Nat → Nat → Option (Nat × Nat)
  | z _, _, s => if 2000 < s + 1 then none else some (0, s + 1)
  | inc, az, s => if 2000 < s + 1 then none else chk (some (az.headD 0 + 1, s + 1))
  | p i _, az, s => if 2000 < s + 1 then none else chk (some (az.getD i 0, s + 1))
  | c1 f g, az, s => if 2000 < s + 1 then none else chk (match ev g az (s + 1) with
    | none => none
    | some (x, s1) => ev f [x] s1)
  | c2 f g h, az, s => if 2000 < s + 1 then none else chk (match ev g az (s + 1) with
    | none => none
    | some (x, s1) => match ev h az s1 with
      | none => none
      | some (y, s2) => ev f [x, y] s2)
  | c3 f g h i, az, s => if 2000 < s + 1 then none else chk (match ev g az (s + 1) with
    | none => none
    | some (x, s1) => match ev h az s1 with
      | none => none
      | some (y, s2) => match ev i az s2 with
        | none => none
        | some (t, s3) => ev f [x, y, t] s3)
  | r f g, az, s => if 2000 < s + 1 then none else chk (match ev f az.tail (s + 1) with
    | none => none
    | some (v, s1) => loopR (ev g) az.tail (az.headD 0) 0 v s1)
  | m f, az, s => if 2000 < s + 1 then none else chk (loopM (ev f) az 2001 0 (s + 1))

/-- What the model reckons behind s steps. -/
def mv : FT → List Nat → Nat → Option (Nat × Nat)
  | z _, _, s => if 2000 < s + 1 then none else some (0, s + 1)
  | inc, az, s => if 2000 < s + 1 then none else if 1000 ≤ az.headD 0 then none else some (az.headD 0 + 1, s + 1)
  | p i _, az, s => if 2000 < s + 1 then none else some (az.getD i 0, s + 1)
  | c1 f g, az, s => if 2000 < s + 1 then none else match mv g az (s + 1) with
    | none => none
    | some (x, s1) => mv f [x] s1
  | c2 f g h, az, s => if 2000 < s + 1 then none else match mv g az (s + 1) with
    | none => none
    | some (x, s1) => match mv h az s1 with
      | none => none
      | some (y, s2) => mv f [x, y] s2
  | c3 f g h i, az, s => if 2000 < s + 1 then none else match mv g az (s + 1) with
    | none => none
    | some (x, s1) => match mv h az s1 with
      | none => none
      | some (y, s2) => match mv i az s2 with
        | none => none
        | some (t, s3) => mv f [x, y, t] s3
  | r f g, az, s => if 2000 < s + 1 then none else match mv f az.tail (s + 1) with
    | none => none
    | some (v, s1) => loopR (mv g) az.tail (az.headD 0) 0 v s1
  | m f, az, s => if 2000 < s + 1 then none else loopN (mv f) az 2001 0 (s + 1)

theorem chk_some {o : Option (Nat × Nat)} {v s : Nat} (h : chk o = some (v, s)) : o = some (v, s) ∧ v ≤ 1000 := by
  cases o with
  | none => simp [chk] at h
  | some q =>
    obtain ⟨a, b⟩ := q
    simp only [chk] at h
    split at h
    · simp only [Option.some.injEq, Prod.mk.injEq] at h
      obtain ⟨rfl, rfl⟩ := h
      exact ⟨rfl, by assumption⟩
    · cases h

theorem chk_small {o : Option (Nat × Nat)} (h : ∀ v s, o = some (v, s) → v ≤ 1000) : chk o = o := by
  cases o with
  | none => rfl
  | some q => obtain ⟨a, b⟩ := q; simp [chk, h a b rfl]

/-- What a value and its steps keep. -/
structure Runs (o : Option (Nat × Nat)) (s : Nat) : Prop where
  small : ∀ v s', o = some (v, s') → v ≤ 1000 ∧ s < s' ∧ s' ≤ 2000

theorem loopR_facts {g : List Nat → Nat → Option (Nat × Nat)} (hg : ∀ az s, Runs (g az s) s) (rest : List Nat) : ∀ (n i v s v' s' : Nat), v ≤ 1000 → s ≤ 2000 → loopR g rest n i v s = some (v', s') → v' ≤ 1000 ∧ s ≤ s' ∧ s' ≤ 2000
  | 0, _, _, _, _, _, hv, hs, h => by
    simp only [loopR, Option.some.injEq, Prod.mk.injEq] at h
    obtain ⟨rfl, rfl⟩ := h
    exact ⟨hv, Nat.le_refl _, hs⟩
  | n + 1, i, v, s, v', s', hv, hs, h => by
    simp only [loopR] at h
    cases hq : g (i :: v :: rest) s with
    | none => rw [hq] at h; simp at h
    | some q =>
      obtain ⟨a, b⟩ := q
      rw [hq] at h
      have hr := (hg (i :: v :: rest) s).small a b hq
      have := loopR_facts hg rest n (i + 1) a b v' s' hr.1 hr.2.2 h
      exact ⟨this.1, by omega, this.2.2⟩

theorem loopM_facts {f : List Nat → Nat → Option (Nat × Nat)} (hf : ∀ az s, Runs (f az s) s) (rest : List Nat) : ∀ (k n s v' s' : Nat), loopM f rest k n s = some (v', s') → n ≤ v' ∧ s < s' ∧ s' ≤ 2000
  | 0, _, _, _, _, h => by simp [loopM] at h
  | k + 1, n, s, v', s', h => by
    simp only [loopM] at h
    cases hq : f (n :: rest) s with
    | none => rw [hq] at h; simp at h
    | some q =>
      obtain ⟨a, b⟩ := q
      rw [hq] at h
      have hr := (hf (n :: rest) s).small a b hq
      simp only at h
      split at h
      · simp only [Option.some.injEq, Prod.mk.injEq] at h
        obtain ⟨rfl, rfl⟩ := h
        exact ⟨Nat.le_refl _, hr.2.1, hr.2.2⟩
      · have := loopM_facts hf rest k (n + 1) b v' s' h
        exact ⟨by omega, by omega, this.2.2⟩

theorem loopN_facts {f : List Nat → Nat → Option (Nat × Nat)} (hf : ∀ az s, Runs (f az s) s) (rest : List Nat) : ∀ (k n s v' s' : Nat), n ≤ 1000 → loopN f rest k n s = some (v', s') → v' ≤ 1000
  | 0, _, _, _, _, _, h => by simp [loopN] at h
  | k + 1, n, s, v', s', hn, h => by
    simp only [loopN] at h
    cases hq : f (n :: rest) s with
    | none => rw [hq] at h; simp at h
    | some q =>
      obtain ⟨a, b⟩ := q
      rw [hq] at h
      simp only at h
      split at h
      · simp only [Option.some.injEq, Prod.mk.injEq] at h
        obtain ⟨rfl, rfl⟩ := h
        exact hn
      · split at h
        · cases h
        · exact loopN_facts hf rest k (n + 1) b v' s' (by omega) h

theorem ev_runs : ∀ (t : FT) (az : List Nat) (s : Nat), Runs (ev t az s) s
  | z _, az, s => ⟨fun v s' h => by
    simp only [ev] at h
    split at h
    · cases h
    · simp only [Option.some.injEq, Prod.mk.injEq] at h; omega⟩
  | inc, az, s => ⟨fun v s' h => by
    simp only [ev] at h
    split at h
    · cases h
    · obtain ⟨h, hv⟩ := chk_some h; simp only [Option.some.injEq, Prod.mk.injEq] at h; omega⟩
  | p _ _, az, s => ⟨fun v s' h => by
    simp only [ev] at h
    split at h
    · cases h
    · obtain ⟨h, hv⟩ := chk_some h; simp only [Option.some.injEq, Prod.mk.injEq] at h; omega⟩
  | c1 f g, az, s => ⟨fun v s' h => by
    simp only [ev] at h
    split at h
    · cases h
    · obtain ⟨h, hv⟩ := chk_some h
      cases hg : ev g az (s + 1) with
      | none => rw [hg] at h; simp at h
      | some q =>
        obtain ⟨x, s1⟩ := q
        rw [hg] at h
        have h1 := (ev_runs g az (s + 1)).small _ _ hg
        have h2 := (ev_runs f [x] s1).small _ _ h
        omega⟩
  | c2 f g k, az, s => ⟨fun v s' h => by
    simp only [ev] at h
    split at h
    · cases h
    · obtain ⟨h, hv⟩ := chk_some h
      cases hg : ev g az (s + 1) with
      | none => rw [hg] at h; simp at h
      | some q =>
        obtain ⟨x, s1⟩ := q
        rw [hg] at h
        simp only at h
        cases hk : ev k az s1 with
        | none => rw [hk] at h; simp at h
        | some q =>
          obtain ⟨y, s2⟩ := q
          rw [hk] at h
          have h1 := (ev_runs g az (s + 1)).small _ _ hg
          have h3 := (ev_runs k az s1).small _ _ hk
          have h2 := (ev_runs f [x, y] s2).small _ _ h
          omega⟩
  | c3 f g k l, az, s => ⟨fun v s' h => by
    simp only [ev] at h
    split at h
    · cases h
    · obtain ⟨h, hv⟩ := chk_some h
      cases hg : ev g az (s + 1) with
      | none => rw [hg] at h; simp at h
      | some q =>
        obtain ⟨x, s1⟩ := q
        rw [hg] at h
        simp only at h
        cases hk : ev k az s1 with
        | none => rw [hk] at h; simp at h
        | some q =>
          obtain ⟨y, s2⟩ := q
          rw [hk] at h
          simp only at h
          cases hl : ev l az s2 with
          | none => rw [hl] at h; simp at h
          | some q =>
            obtain ⟨u, s3⟩ := q
            rw [hl] at h
            have h1 := (ev_runs g az (s + 1)).small _ _ hg
            have h3 := (ev_runs k az s1).small _ _ hk
            have h4 := (ev_runs l az s2).small _ _ hl
            have h2 := (ev_runs f [x, y, u] s3).small _ _ h
            omega⟩
  | r f g, az, s => ⟨fun v s' h => by
    simp only [ev] at h
    split at h
    · cases h
    · obtain ⟨h, hv⟩ := chk_some h
      cases hg : ev f az.tail (s + 1) with
      | none => rw [hg] at h; simp at h
      | some q =>
        obtain ⟨x, s1⟩ := q
        rw [hg] at h
        have h1 := (ev_runs f az.tail (s + 1)).small _ _ hg
        have h2 := loopR_facts (ev_runs g) az.tail _ _ _ _ _ _ h1.1 h1.2.2 h
        omega⟩
  | m f, az, s => ⟨fun v s' h => by
    simp only [ev] at h
    split at h
    · cases h
    · obtain ⟨h, hv⟩ := chk_some h
      have h2 := loopM_facts (ev_runs f) az _ _ _ _ _ h
      omega⟩

theorem loopR_same {g g' : List Nat → Nat → Option (Nat × Nat)} (hg : ∀ az s, Runs (g az s) s) (rest : List Nat) (hr : ∀ a ∈ rest, a ≤ 1000) (he : ∀ az s, (∀ a ∈ az, a ≤ 1000) → g' az s = g az s) :
    ∀ (n i v s : Nat), v ≤ 1000 → i + n ≤ 1000 → loopR g' rest n i v s = loopR g rest n i v s
  | 0, _, _, _, _, _ => rfl
  | n + 1, i, v, s, hv, hi => by
    simp only [loopR]
    rw [he (i :: v :: rest) s (by simp; exact ⟨by omega, hv, hr⟩)]
    cases hq : g (i :: v :: rest) s with
    | none => rfl
    | some q =>
      obtain ⟨a, b⟩ := q
      exact loopR_same hg rest hr he n (i + 1) a b ((hg _ s).small _ _ hq).1 (by omega)

theorem loopN_same {f f' : List Nat → Nat → Option (Nat × Nat)} (hf : ∀ az s, Runs (f az s) s) (rest : List Nat) (hr : ∀ a ∈ rest, a ≤ 1000) (he : ∀ az s, (∀ a ∈ az, a ≤ 1000) → f' az s = f az s) :
    ∀ (k n s : Nat), n ≤ 1000 → loopN f' rest k n s = chk (loopM f rest k n s)
  | 0, _, _, _ => rfl
  | k + 1, n, s, hn => by
    simp only [loopN, loopM]
    rw [he (n :: rest) s (by simp; exact ⟨hn, hr⟩)]
    cases hq : f (n :: rest) s with
    | none => rfl
    | some q =>
      obtain ⟨a, b⟩ := q
      simp only
      split
      · simp [chk, hn]
      · split
        · cases hl : loopM f rest k (n + 1) b with
          | none => rfl
          | some q =>
            obtain ⟨c, d⟩ := q
            have := loopM_facts hf rest k (n + 1) b c d hl
            simp only [chk]
            rw [if_neg (by omega)]
        · exact loopN_same hf rest hr he k (n + 1) b (by omega)

theorem head_le {az : List Nat} (h : ∀ a ∈ az, a ≤ 1000) : az.headD 0 ≤ 1000 := by cases az with | nil => simp | cons a l => simpa using h a (by simp)
theorem tail_le {az : List Nat} (h : ∀ a ∈ az, a ≤ 1000) : ∀ a ∈ az.tail, a ≤ 1000 := fun a ha => h a (List.mem_of_mem_tail ha)
theorem get_le {az : List Nat} (h : ∀ a ∈ az, a ≤ 1000) (i : Nat) : az.getD i 0 ≤ 1000 := by
  rw [List.getD_eq_getElem?_getD]
  cases hg : az[i]? with
  | none => simp
  | some a => simpa using h a (List.mem_of_getElem? hg)

theorem mv_eq : ∀ (t : FT) (az : List Nat) (s : Nat), (∀ a ∈ az, a ≤ 1000) → mv t az s = ev t az s
  | z _, az, s, _ => rfl
  | inc, az, s, _ => by
    simp only [mv, ev, chk]
    split
    · rfl
    · by_cases h : 1000 ≤ az.headD 0
      · rw [if_pos h, if_neg (by omega)]
      · rw [if_neg h, if_pos (by omega)]
  | p i _, az, s, h => by simp only [mv, ev, chk]; rw [if_pos (get_le h i)]
  | c1 f g, az, s, h => by
    simp only [mv, ev]
    rw [mv_eq g az (s + 1) h]
    split
    · rfl
    · cases hg : ev g az (s + 1) with
      | none => rfl
      | some q =>
        obtain ⟨x, s1⟩ := q
        have h1 := (ev_runs g az (s + 1)).small _ _ hg
        simp only
        rw [mv_eq f [x] s1 (by simpa using h1.1), chk_small fun v s' e => ((ev_runs f [x] s1).small _ _ e).1]
  | c2 f g k, az, s, h => by
    simp only [mv, ev]
    rw [mv_eq g az (s + 1) h]
    split
    · rfl
    · cases hg : ev g az (s + 1) with
      | none => rfl
      | some q =>
        obtain ⟨x, s1⟩ := q
        have h1 := (ev_runs g az (s + 1)).small _ _ hg
        simp only
        rw [mv_eq k az s1 h]
        cases hk : ev k az s1 with
        | none => rfl
        | some q =>
          obtain ⟨y, s2⟩ := q
          have h2 := (ev_runs k az s1).small _ _ hk
          simp only
          rw [mv_eq f [x, y] s2 (by simpa using ⟨h1.1, h2.1⟩), chk_small fun v s' e => ((ev_runs f [x, y] s2).small _ _ e).1]
  | c3 f g k l, az, s, h => by
    simp only [mv, ev]
    rw [mv_eq g az (s + 1) h]
    split
    · rfl
    · cases hg : ev g az (s + 1) with
      | none => rfl
      | some q =>
        obtain ⟨x, s1⟩ := q
        have h1 := (ev_runs g az (s + 1)).small _ _ hg
        simp only
        rw [mv_eq k az s1 h]
        cases hk : ev k az s1 with
        | none => rfl
        | some q =>
          obtain ⟨y, s2⟩ := q
          have h2 := (ev_runs k az s1).small _ _ hk
          simp only
          rw [mv_eq l az s2 h]
          cases hl : ev l az s2 with
          | none => rfl
          | some q =>
            obtain ⟨u, s3⟩ := q
            have h3 := (ev_runs l az s2).small _ _ hl
            simp only
            rw [mv_eq f [x, y, u] s3 (by simpa using ⟨h1.1, h2.1, h3.1⟩), chk_small fun v s' e => ((ev_runs f [x, y, u] s3).small _ _ e).1]
  | r f g, az, s, h => by
    simp only [mv, ev]
    rw [mv_eq f az.tail (s + 1) (tail_le h)]
    split
    · rfl
    · cases hg : ev f az.tail (s + 1) with
      | none => rfl
      | some q =>
        obtain ⟨x, s1⟩ := q
        have h1 := (ev_runs f az.tail (s + 1)).small _ _ hg
        have hh := head_le h
        simp only
        rw [loopR_same (ev_runs g) az.tail (tail_le h) (fun az s h => mv_eq g az s h) _ _ _ _ h1.1 (by omega)]
        rw [chk_small fun v s' e => (loopR_facts (ev_runs g) az.tail _ _ _ _ _ _ h1.1 h1.2.2 e).1]
  | m f, az, s, h => by
    simp only [mv, ev]
    rw [loopN_same (ev_runs f) az h (fun az s h => mv_eq f az s h) _ _ _ (by omega)]

/-- FunctionValue: the value and the steps. -/
def pValue (l : List UInt8) (az : List Int) : Option (Nat × Nat) := match parse l with
  | some t => if az.length = arity t ∧ ∀ a ∈ az, 0 ≤ a ∧ a ≤ 60 then ev t (az.map Int.toNat) 0 else none
  | none => none

end FT
end Go.Proofs.YtfpekihdoclncaaGreat

namespace Go.Proofs.YtfpekihdoclncaaGreat

theorem uses_abs (y x : List UInt8) : ∀ t : Tm, Tm.uses y (Tm.abs x t) = if y = x then 0 else Tm.uses y t
  | .k => by simp [Tm.abs, Tm.uses]
  | .s => by simp [Tm.abs, Tm.uses]
  | .nm n => by
    by_cases hn : n = x
    · subst hn
      by_cases hy : y = n
      · simp [Tm.abs, Tm.uses, Tm.I, hy]
      · have : ¬ n = y := fun e => hy e.symm
        simp [Tm.abs, Tm.uses, Tm.I, hy, this]
    · by_cases hy : y = x
      · subst hy; simp [Tm.abs, Tm.uses, hn]
      · simp [Tm.abs, Tm.uses, hn, hy]
  | .app f a => by
    have hf := uses_abs y x f
    have ha := uses_abs y x a
    rw [Tm.abs]
    split
    · rename_i h
      by_cases hy : y = x
      · subst hy; rw [if_pos rfl]; simpa [Tm.uses] using h
      · rw [if_neg hy]; simp [Tm.uses]
    · split
      · rename_i h
        obtain ⟨h1, h2⟩ := h
        cases a with
        | nm n =>
          simp only [Tm.isNm, beq_iff_eq] at h1
          subst h1
          by_cases hy : y = n
          · subst hy; rw [if_pos rfl]; exact h2
          · have : ¬ n = y := fun e => hy e.symm
            rw [if_neg hy]; simp [Tm.uses, this]
        | k => simp [Tm.isNm] at h1
        | s => simp [Tm.isNm] at h1
        | app _ _ => simp [Tm.isNm] at h1
      · simp only [Tm.uses, hf, ha]
        split <;> simp

theorem abs_ge (x : List UInt8) : ∀ t : Tm, t.size ≤ (Tm.abs x t).size + 1 ∧ t.depth ≤ (Tm.abs x t).depth + 1
  | .k => by simp [Tm.abs, Tm.size, Tm.depth]
  | .s => by simp [Tm.abs, Tm.size, Tm.depth]
  | .nm n => by simp [Tm.size, Tm.depth]
  | .app f a => by
    obtain ⟨f1, f2⟩ := abs_ge x f
    obtain ⟨a1, a2⟩ := abs_ge x a
    rw [Tm.abs]
    split
    · simp only [Tm.size, Tm.depth]; omega
    · split
      · rename_i h
        obtain ⟨h1, h2⟩ := h
        cases a with
        | nm n => simp only [Tm.size, Tm.depth]; omega
        | k => simp [Tm.isNm] at h1
        | s => simp [Tm.isNm] at h1
        | app _ _ => simp [Tm.isNm] at h1
      · simp only [Tm.size, Tm.depth]; omega

/-- The abstraction of names, the first of the list first. -/
def absR : List (List UInt8) → Tm → Tm
  | [], t => t
  | x :: xs, t => absR xs (Tm.abs x t)

theorem uses_absR (y : List UInt8) : ∀ (xs : List (List UInt8)) (t : Tm), Tm.uses y (absR xs t) = if y ∈ xs then 0 else Tm.uses y t
  | [], t => by simp [absR]
  | x :: xs, t => by
    rw [absR, uses_absR y xs, uses_abs]
    by_cases h : y = x <;> by_cases g : y ∈ xs <;> simp [h, g]

theorem absR_ge : ∀ (xs : List (List UInt8)) (t : Tm), t.size ≤ (absR xs t).size + xs.length ∧ t.depth ≤ (absR xs t).depth + xs.length
  | [], t => by simp [absR]
  | x :: xs, t => by
    obtain ⟨h1, h2⟩ := absR_ge xs (Tm.abs x t)
    obtain ⟨g1, g2⟩ := abs_ge x t
    simp only [absR, List.length_cons]
    omega

theorem absR_good : ∀ (xs : List (List UInt8)) {t : Tm}, t.good = true → (absR xs t).good = true
  | [], _, h => h
  | x :: xs, _, h => absR_good xs (abs_good x h)

theorem lastL_absR : ∀ (xs : List (List UInt8)) (t : Tm), (absR xs t).size + xs.length ≤ 3000 → (absR xs t).depth + xs.length ≤ 1500 → lastL xs t = absR xs t
  | [], _, _, _ => rfl
  | x :: xs, t, h1, h2 => by
    simp only [absR, List.length_cons] at h1 h2
    obtain ⟨g1, g2⟩ := absR_ge xs (Tm.abs x t)
    have hf : (Tm.abs x t).fits = true := by simp [Tm.fits]; omega
    rw [lastL, if_pos hf, absR]
    exact lastL_absR xs _ (by omega) (by omega)

/-- Without names. -/
def Closed (t : Tm) : Prop := ∀ y, Tm.uses y t = 0

theorem abs_closed {t : Tm} (h : Closed t) (x : List UInt8) : Tm.abs x t = .app .k t := Tm.abs_none x t (h x)

namespace FT
open Tm (X Y Z I no succ fix)

def U : Tm := .nm [117]
def V : Tm := .nm [118]
def ns (a : Nat) : List (List UInt8) := [[120], [121], [122]].take a
def vs (a : Nat) : List Tm := [X, Y, Z].take a
/-- The abstraction of a list of names, the last of the list first. -/
def absAll (xs : List (List UInt8)) (t : Tm) : Tm := absR xs.reverse t
def appL (f : Tm) (us : List Tm) : Tm := us.foldl Tm.app f

def comp1 (F G : Tm) (a : Nat) : Tm := Tm.app F (appL G (vs a))
def comp2 (F G H : Tm) (a : Nat) : Tm := Tm.app (Tm.app F (appL G (vs a))) (appL H (vs a))
def comp3 (F G H J : Tm) (a : Nat) : Tm := Tm.app (Tm.app (Tm.app F (appL G (vs a))) (appL H (vs a))) (appL J (vs a))
def less : Tm := Tm.app V no
def recB (F G : Tm) (a : Nat) : Tm := Tm.app (Tm.app (Tm.app V .k) (appL F (vs a))) (appL (Tm.app (Tm.app G less) (appL (Tm.app U less) (vs a))) (vs a))
def seaB (F : Tm) (a : Nat) : Tm := Tm.app (Tm.app (Tm.app (appL (Tm.app F V) (vs a)) .k) V) (Tm.app U (Tm.app succ V))
def recT (F G : Tm) (a : Nat) : Tm := Tm.app fix (absAll ([117] :: [118] :: ns a) (recB F G a))
def seaT (F : Tm) (a : Nat) : Tm := absAll (ns a) (Tm.app (Tm.app fix (absAll [[117], [118]] (seaB F a))) I)

def real : FT → Tm
  | z a => absAll (ns a) I
  | inc => succ
  | p i a => absAll (ns a) ((vs a).getD i .k)
  | c1 f g => absAll (ns (arity g)) (comp1 (real f) (real g) (arity g))
  | c2 f g h => absAll (ns (arity g)) (comp2 (real f) (real g) (real h) (arity g))
  | c3 f g h i => absAll (ns (arity g)) (comp3 (real f) (real g) (real h) (real i) (arity g))
  | r f g => recT (real f) (real g) (arity f)
  | m f => seaT (real f) (arity f - 1)

/-- How far a term may be from 63 for each atom. -/
def off : Nat → Int
  | 0 => 16
  | 1 => 21
  | 2 => 2
  | _ => -57

theorem closed_fix : Closed fix := fun y => by
  by_cases h1 : y = [120]
  · subst h1; decide +kernel
  · by_cases h2 : y = [121]
    · subst h2; decide +kernel
    · have e : ∀ t : Tm, Tm.uses y (Tm.abs [120] (Tm.abs [121] t)) = Tm.uses y t := fun t => by rw [uses_abs, if_neg h1, uses_abs, if_neg h2]
      have h3 : ¬ ([120] : List UInt8) = y := fun e => h1 e.symm
      have h4 : ¬ ([121] : List UInt8) = y := fun e => h2 e.symm
      simp [Tm.fix, Tm.half, Tm.uses, e, X, Y, h3, h4]
theorem closed_succ : Closed succ := fun y => by
  by_cases h1 : y = [120]
  · subst h1; decide +kernel
  · have h3 : ¬ ([120] : List UInt8) = y := fun e => h1 e.symm
    simp [Tm.succ, uses_abs, h1, Tm.pair, Tm.uses, Tm.I, Tm.no, X, h3]

theorem size_fix : fix.size = 26 := by decide +kernel
theorem depth_fix : fix.depth = 7 := by decide +kernel
theorem size_succ : succ.size = 13 := by decide +kernel
theorem depth_succ : succ.depth = 9 := by decide +kernel

theorem three {P : Nat → Prop} (h0 : P 0) (h1 : P 1) (h2 : P 2) (h3 : P 3) : ∀ a, a ≤ 3 → P a
  | 0, _ => h0
  | 1, _ => h1
  | 2, _ => h2
  | 3, _ => h3

set_option maxRecDepth 10000

theorem comp1_facts {F G : Tm} (hF : Closed F) (hG : Closed G) : ∀ a, a ≤ 3 → (absAll (ns a) (comp1 F G a)).size ≤ F.size + G.size + (2 * a) ∧ (absAll (ns a) (comp1 F G a)).depth ≤ max F.depth G.depth + 27 := by
  have e : ∀ x, Tm.uses x F = 0 := hF
  have e' : ∀ x, Tm.uses x G = 0 := hG
  refine three ?_ ?_ ?_ ?_ <;>
    simp [absAll, absR, ns, vs, comp1, appL, Tm.abs, abs_closed hF, Tm.uses, e, e', Tm.isNm, X, Y, Z, Tm.size, Tm.depth] <;> omega

theorem comp2_facts {F G H : Tm} (hF : Closed F) (hG : Closed G) (hH : Closed H) : ∀ a, a ≤ 3 → (absAll (ns a) (comp2 F G H a)).size ≤ F.size + G.size + H.size + [0, 3, 8, 15].getD a 0 ∧ (absAll (ns a) (comp2 F G H a)).depth ≤ max (max F.depth G.depth) H.depth + 27 := by
  have e : ∀ x, Tm.uses x F = 0 := hF
  have e' : ∀ x, Tm.uses x G = 0 := hG
  have e'' : ∀ x, Tm.uses x H = 0 := hH
  refine three ?_ ?_ ?_ ?_ <;>
    simp [absAll, absR, ns, vs, comp2, appL, Tm.abs, abs_closed hF, Tm.uses, e, e', e'', Tm.isNm, X, Y, Z, Tm.size, Tm.depth] <;> omega

theorem comp3_facts {F G H J : Tm} (hF : Closed F) (hG : Closed G) (hH : Closed H) (hJ : Closed J) : ∀ a, a ≤ 3 → (absAll (ns a) (comp3 F G H J a)).size ≤ F.size + G.size + H.size + J.size + [0, 4, 12, 24].getD a 0 ∧ (absAll (ns a) (comp3 F G H J a)).depth ≤ max (max (max F.depth G.depth) H.depth) J.depth + 27 := by
  have e : ∀ x, Tm.uses x F = 0 := hF
  have e' : ∀ x, Tm.uses x G = 0 := hG
  have e'' : ∀ x, Tm.uses x H = 0 := hH
  have e3 : ∀ x, Tm.uses x J = 0 := hJ
  refine three ?_ ?_ ?_ ?_ <;>
    simp [absAll, absR, ns, vs, comp3, appL, Tm.abs, abs_closed hF, Tm.uses, e, e', e'', e3, Tm.isNm, X, Y, Z, Tm.size, Tm.depth] <;> omega

theorem rec_facts {F G : Tm} (hF : Closed F) (hG : Closed G) (a : Nat) (ha : a ≤ 1) : (recT F G a).size ≤ F.size + G.size + [66, 95].getD a 0 ∧ (recT F G a).depth ≤ max F.depth G.depth + 27 := by
  have e : ∀ x, Tm.uses x F = 0 := hF
  have e' : ∀ x, Tm.uses x G = 0 := hG
  have s1 := size_fix
  have s2 := depth_fix
  match a, ha with
  | 0, _ =>
    simp [recT, recB, less, absAll, absR, ns, vs, appL, Tm.abs, abs_closed hF, abs_closed hG, Tm.uses, e, e', Tm.isNm, X, Y, Z, U, V, Tm.size, Tm.depth, I, no, s1, s2]
    omega
  | 1, _ =>
    simp [recT, recB, less, absAll, absR, ns, vs, appL, Tm.abs, abs_closed hF, abs_closed hG, Tm.uses, e, e', Tm.isNm, X, Y, Z, U, V, Tm.size, Tm.depth, I, no, s1, s2]
    omega

theorem sea_facts {F : Tm} (hF : Closed F) (a : Nat) (ha : a ≤ 2) : (seaT F a).size ≤ F.size + [58, 82, 122].getD a 0 ∧ (seaT F a).depth ≤ F.depth + 27 := by
  have e : ∀ x, Tm.uses x F = 0 := hF
  have s1 := size_fix
  have s2 := depth_fix
  have s3 := size_succ
  have s4 := depth_succ
  have e1 : ∀ x, Tm.uses x succ = 0 := closed_succ
  have e2 : ∀ x, Tm.uses x fix = 0 := closed_fix
  match a, ha with
  | 0, _ =>
    simp [seaT, seaB, absAll, absR, ns, vs, appL, Tm.abs, abs_closed closed_succ, Tm.uses, e, e1, Tm.isNm, X, Y, Z, U, V, Tm.size, Tm.depth, I, s1, s2, s3, s4]
    omega
  | 1, _ =>
    simp [seaT, seaB, absAll, absR, ns, vs, appL, Tm.abs, abs_closed closed_fix, abs_closed closed_succ, Tm.uses, e, e1, e2, Tm.isNm, X, Y, Z, U, V, Tm.size, Tm.depth, I, s1, s2, s3, s4]
    omega
  | 2, _ =>
    simp [seaT, seaB, absAll, absR, ns, vs, appL, Tm.abs, abs_closed closed_fix, abs_closed closed_succ, Tm.uses, e, e1, e2, Tm.isNm, X, Y, Z, U, V, Tm.size, Tm.depth, I, s1, s2, s3, s4]
    omega

theorem uses_appL (y : List UInt8) (f : Tm) (us : List Tm) : Tm.uses y (appL f us) = Tm.uses y f + (us.map (Tm.uses y)).sum := by
  unfold appL
  induction us generalizing f with
  | nil => simp
  | cons u us ih => rw [List.foldl_cons, ih]; simp [Tm.uses]; omega

theorem good_appL (f : Tm) (us : List Tm) (hf : f.good = true) (hu : ∀ u ∈ us, u.good = true) : (appL f us).good = true := by
  unfold appL
  induction us generalizing f with
  | nil => exact hf
  | cons u us ih => rw [List.foldl_cons]; exact ih _ (by simp [Tm.good, hf, hu u (by simp)]) (fun v hv => hu v (by simp [hv]))

theorem good_vs (a : Nat) : ∀ u ∈ vs a, u.good = true := by
  intro u hu
  have := List.mem_of_mem_take hu
  simp at this
  rcases this with rfl | rfl | rfl <;> decide

theorem nm_ne {y n : List UInt8} (h : y ≠ n) : Tm.uses y (.nm n) = 0 := by simp only [Tm.uses]; rw [if_neg (fun e => h e.symm)]

theorem uses_vs1 {y : List UInt8} : ∀ a, y ∉ ns a → ∀ u ∈ vs a, Tm.uses y u = 0
  | 0, _, u, hu => by simp [vs] at hu
  | 1, h, u, hu => by
    simp only [vs, ns, List.take_succ_cons, List.take_zero, List.mem_cons, List.not_mem_nil, or_false] at hu h
    subst hu
    exact nm_ne h
  | 2, h, u, hu => by
    simp only [vs, ns, List.take_succ_cons, List.take_zero, List.mem_cons, List.not_mem_nil, or_false, not_or] at hu h
    rcases hu with rfl | rfl
    · exact nm_ne h.1
    · exact nm_ne h.2
  | a + 3, h, u, hu => by
    simp only [vs, ns, List.take_succ_cons, List.take_nil, List.mem_cons, List.not_mem_nil, or_false, not_or] at hu h
    rcases hu with rfl | rfl | rfl
    · exact nm_ne h.1
    · exact nm_ne h.2.1
    · exact nm_ne h.2.2

theorem sum_zero : ∀ {l : List Nat}, (∀ x ∈ l, x = 0) → l.sum = 0
  | [], _ => rfl
  | x :: l, h => by rw [List.sum_cons, h x (by simp), sum_zero fun y hy => h y (by simp [hy])]

theorem uses_vs {y : List UInt8} {a : Nat} (h : y ∉ ns a) : ((vs a).map (Tm.uses y)).sum = 0 := sum_zero fun n hn => by
  obtain ⟨u, hu, rfl⟩ := List.mem_map.1 hn
  exact uses_vs1 a h u hu

theorem absAll_closed {xs : List (List UInt8)} {t : Tm} (h : ∀ y, y ∉ xs → Tm.uses y t = 0) : Closed (absAll xs t) := fun y => by
  unfold absAll
  rw [uses_absR]
  split
  · rfl
  · rename_i hy; exact h y (fun e => hy (List.mem_reverse.2 e))

theorem real_closed : ∀ {t : FT}, ok t → Closed (real t)
  | z a, _ => absAll_closed fun y _ => by simp [I, Tm.uses]
  | inc, _ => closed_succ
  | p i a, h => absAll_closed fun y hy => by
    have hl : (vs a)[i]? = some ((vs a).getD i .k) := by
      have : i < (vs a).length := by simp [vs]; have := h.1; have := h.2; omega
      simp [List.getD_eq_getElem?_getD, List.getElem?_eq_getElem this]
    exact uses_vs1 a hy _ (List.mem_of_getElem? hl)
  | c1 f g, h => absAll_closed fun y hy => by simp [comp1, Tm.uses, uses_appL, uses_vs hy, real_closed h.1 y, real_closed h.2.1 y]
  | c2 f g k, h => absAll_closed fun y hy => by simp [comp2, Tm.uses, uses_appL, uses_vs hy, real_closed h.1 y, real_closed h.2.1 y, real_closed h.2.2.1 y]
  | c3 f g k l, h => absAll_closed fun y hy => by simp [comp3, Tm.uses, uses_appL, uses_vs hy, real_closed h.1 y, real_closed h.2.1 y, real_closed h.2.2.1 y, real_closed h.2.2.2.1 y]
  | r f g, h => fun y => by
    have : Closed (absAll ([117] :: [118] :: ns (arity f)) (recB (real f) (real g) (arity f))) := absAll_closed fun y hy => by
      simp only [List.mem_cons, not_or] at hy
      simp [recB, less, Tm.uses, uses_appL, uses_vs hy.2.2, real_closed h.1 y, real_closed h.2.1 y, U, V, no, I]
      simp [Ne.symm hy.1, Ne.symm hy.2.1]
    simp [real, recT, Tm.uses, closed_fix y, this y]
  | m f, h => absAll_closed fun y hy => by
    have : Tm.uses y (absAll [[117], [118]] (seaB (real f) (arity f - 1))) = 0 := by
      unfold absAll
      rw [uses_absR]
      split
      · rfl
      · rename_i hn
        simp only [List.reverse_cons, List.reverse_nil, List.nil_append, List.cons_append, List.mem_cons, List.not_mem_nil, or_false, not_or] at hn
        simp [seaB, Tm.uses, uses_appL, uses_vs hy, real_closed h.1 y, U, V, closed_succ y]
        simp [Ne.symm hn.1, Ne.symm hn.2]
    simp [Tm.uses, closed_fix y, this, I]

theorem real_good : ∀ {t : FT}, ok t → (real t).good = true
  | z a, _ => absR_good _ rfl
  | inc, _ => by decide +kernel
  | p i a, h => absR_good _ (by
    have : i < (vs a).length := by simp [vs]; have := h.1; have := h.2; omega
    rw [List.getD_eq_getElem?_getD, List.getElem?_eq_getElem this]
    exact good_vs a _ (List.getElem_mem this))
  | c1 f g, h => absR_good _ (by simp [comp1, Tm.good, real_good h.1, good_appL _ _ (real_good h.2.1) (good_vs _)])
  | c2 f g k, h => absR_good _ (by simp [comp2, Tm.good, real_good h.1, good_appL _ _ (real_good h.2.1) (good_vs _), good_appL _ _ (real_good h.2.2.1) (good_vs _)])
  | c3 f g k l, h => absR_good _ (by simp [comp3, Tm.good, real_good h.1, good_appL _ _ (real_good h.2.1) (good_vs _), good_appL _ _ (real_good h.2.2.1) (good_vs _), good_appL _ _ (real_good h.2.2.2.1) (good_vs _)])
  | r f g, h => by
    have hl : (Tm.app U less).good = true := by decide +kernel
    have hl' : less.good = true := by decide +kernel
    have : (recB (real f) (real g) (arity f)).good = true := by
      simp [recB, Tm.good, good_appL _ _ (real_good h.1) (good_vs _), good_appL (Tm.app (Tm.app (real g) less) (appL (Tm.app U less) (vs (arity f)))) _ (by simp [Tm.good, real_good h.2.1, hl', good_appL _ _ hl (good_vs _)]) (good_vs _)]
      decide +kernel
    have hf : fix.good = true := by decide +kernel
    have ha : (absAll ([117] :: [118] :: ns (arity f)) (recB (real f) (real g) (arity f))).good = true := absR_good _ this
    simp [real, recT, Tm.good, hf, ha]
  | m f, h => absR_good _ (by
    have hf : fix.good = true := by decide +kernel
    have hs : succ.good = true := by decide +kernel
    have hv : V.good = true := by decide +kernel
    have hu : U.good = true := by decide +kernel
    have : (seaB (real f) (arity f - 1)).good = true := by simp [seaB, Tm.good, good_appL (Tm.app (real f) V) _ (by simp [Tm.good, real_good h.1, hv]) (good_vs _), hs, hv, hu]
    have ha : (absAll [[117], [118]] (seaB (real f) (arity f - 1))).good = true := absR_good _ this
    simp [Tm.good, hf, ha, I])

/-- How large a realizer is. -/
def Small (t : FT) : Prop := ((real t).size : Int) ≤ 63 * size t + off (arity t) ∧ (real t).depth ≤ 27 * size t

theorem word_small (a : Nat) (ha : a ≤ 3) : (absAll (ns a) I).size = 3 + a ∧ (absAll (ns a) I).depth = 2 + a := by
  revert ha; revert a
  exact three (by decide +kernel) (by decide +kernel) (by decide +kernel) (by decide +kernel)

theorem small_r {F G : Tm} {a m n : Nat} (hF : Closed F) (hG : Closed G) (ha : a ≤ 1) (f1 : (F.size : Int) ≤ 63 * m + off a) (f2 : F.depth ≤ 27 * m) (g1 : (G.size : Int) ≤ 63 * n + off (a + 2)) (g2 : G.depth ≤ 27 * n) :
    ((recT F G a).size : Int) ≤ 63 * ((1 + (m + n) : Nat) : Int) + off (a + 1) ∧ (recT F G a).depth ≤ 27 * (1 + (m + n)) := by
  obtain ⟨q1, q2⟩ := rec_facts hF hG a ha
  generalize recT F G a = T at *
  obtain rfl | rfl : a = 0 ∨ a = 1 := by omega
  · have e0 : off 0 = 16 := rfl
    have e1 : off (0 + 1) = 21 := rfl
    have e2 : off (0 + 2) = 2 := rfl
    have q : [66, 95].getD 0 0 = 66 := rfl
    rw [q] at q1
    rw [e0] at f1
    rw [e2] at g1
    rw [e1]
    omega
  · have e0 : off 1 = 21 := rfl
    have e1 : off (1 + 1) = 2 := rfl
    have e2 : off (1 + 2) = -57 := rfl
    have q : [66, 95].getD 1 0 = 95 := rfl
    rw [q] at q1
    rw [e0] at f1
    rw [e2] at g1
    rw [e1]
    omega

theorem small_m {F : Tm} {a m : Nat} (hF : Closed F) (h0 : 0 < a) (ha : a ≤ 3) (f1 : (F.size : Int) ≤ 63 * m + off a) (f2 : F.depth ≤ 27 * m) :
    ((seaT F (a - 1)).size : Int) ≤ 63 * ((1 + m : Nat) : Int) + off (a - 1) ∧ (seaT F (a - 1)).depth ≤ 27 * (1 + m) := by
  obtain ⟨q1, q2⟩ := sea_facts hF (a - 1) (by omega)
  generalize seaT F (a - 1) = T at *
  obtain rfl | rfl | rfl : a = 1 ∨ a = 2 ∨ a = 3 := by omega
  · have e0 : off 1 = 21 := rfl
    have e1 : off (1 - 1) = 16 := rfl
    have q : [58, 82, 122].getD (1 - 1) 0 = 58 := rfl
    rw [q] at q1
    rw [e0] at f1
    rw [e1]
    omega
  · have e0 : off 2 = 2 := rfl
    have e1 : off (2 - 1) = 21 := rfl
    have q : [58, 82, 122].getD (2 - 1) 0 = 82 := rfl
    rw [q] at q1
    rw [e0] at f1
    rw [e1]
    omega
  · have e0 : off 3 = -57 := rfl
    have e1 : off (3 - 1) = 2 := rfl
    have q : [58, 82, 122].getD (3 - 1) 0 = 122 := rfl
    rw [q] at q1
    rw [e0] at f1
    rw [e1]
    omega

theorem real_small {t : FT} : ok t → Small t := by
  induction t with
  | z a =>
    intro h
    obtain ⟨h1, h2⟩ := word_small a h
    simp only [Small, real, size, arity, h1, h2]
    have h : a ≤ 3 := h
    match a, h with
    | 0, _ => simp [off]
    | 1, _ => simp [off]
    | 2, _ => simp [off]
    | 3, _ => simp [off]
  | inc =>
    intro _
    have := size_succ
    have := depth_succ
    simp only [Small, real, size, arity, off]
    omega
  | p i a =>
    intro h
    obtain ⟨h1, h2⟩ := h
    simp only [Small, real, size, arity]
    match a, h2 with
    | 0, _ => omega
    | 1, _ => match i, h1 with | 0, _ => decide +kernel
    | 2, _ => match i, h1 with
      | 0, _ => decide +kernel
      | 1, _ => decide +kernel
    | 3, _ => match i, h1 with
      | 0, _ => decide +kernel
      | 1, _ => decide +kernel
      | 2, _ => decide +kernel
  | c1 f g ihf ihg =>
    intro h
    obtain ⟨h1, h2, h3⟩ := h
    obtain ⟨f1, f2⟩ := ihf h1
    obtain ⟨g1, g2⟩ := ihg h2
    have ha := arity_le h2
    obtain ⟨q1, q2⟩ := comp1_facts (real_closed h1) (real_closed h2) _ ha
    rw [h3] at f1
    simp only [Small, real, size, arity, off] at *
    omega
  | c2 f g k ihf ihg ihk =>
    intro h
    obtain ⟨h1, h2, h3, h4, h5⟩ := h
    obtain ⟨f1, f2⟩ := ihf h1
    obtain ⟨g1, g2⟩ := ihg h2
    obtain ⟨k1, k2⟩ := ihk h3
    have ha := arity_le h2
    obtain ⟨q1, q2⟩ := comp2_facts (real_closed h1) (real_closed h2) (real_closed h3) _ ha
    rw [h4] at f1
    rw [h5] at k1
    simp only [Small, real, size, arity] at *
    generalize arity g = a at *
    match a, ha with
    | 0, _ => simp [off] at *; omega
    | 1, _ => simp [off] at *; omega
    | 2, _ => simp [off] at *; omega
    | 3, _ => simp [off] at *; omega
  | c3 f g k l ihf ihg ihk ihl =>
    intro h
    obtain ⟨h1, h2, h3, h4, h5, h6, h7⟩ := h
    obtain ⟨f1, f2⟩ := ihf h1
    obtain ⟨g1, g2⟩ := ihg h2
    obtain ⟨k1, k2⟩ := ihk h3
    obtain ⟨l1, l2⟩ := ihl h4
    have ha := arity_le h2
    obtain ⟨q1, q2⟩ := comp3_facts (real_closed h1) (real_closed h2) (real_closed h3) (real_closed h4) _ ha
    rw [h5] at f1
    rw [h6] at k1
    rw [h7] at l1
    simp only [Small, real, size, arity] at *
    generalize arity g = a at *
    match a, ha with
    | 0, _ => simp [off] at *; omega
    | 1, _ => simp [off] at *; omega
    | 2, _ => simp [off] at *; omega
    | 3, _ => simp [off] at *; omega
  | r f g ihf ihg =>
    intro h
    obtain ⟨h1, h2, h3⟩ := h
    obtain ⟨f1, f2⟩ := ihf h1
    obtain ⟨g1, g2⟩ := ihg h2
    have ha : arity f ≤ 1 := by have := arity_le h2; omega
    exact small_r (real_closed h1) (real_closed h2) ha f1 f2 (by rw [h3] at g1; exact g1) g2
  | m f ihf =>
    intro h
    obtain ⟨h1, h2⟩ := h
    obtain ⟨f1, f2⟩ := ihf h1
    exact small_m (real_closed h1) h2 (arity_le h1) f1 f2

theorem real_fits {t : FT} (h : ok t) (hs : size t ≤ 40) : (real t).size ≤ 2541 ∧ (real t).depth ≤ 1080 ∧ (real t).fits = true := by
  obtain ⟨h1, h2⟩ := real_small h
  have ho : off (arity t) ≤ 21 := by
    have := arity_le h
    generalize arity t = a at *
    match a, this with
    | 0, _ => simp [off]
    | 1, _ => simp [off]
    | 2, _ => simp [off]
    | 3, _ => simp [off]
  have e1 : (real t).size ≤ 2541 := by omega
  have e2 : (real t).depth ≤ 1080 := by omega
  exact ⟨e1, e2, by simp [Tm.fits]; omega⟩

end FT
end Go.Proofs.YtfpekihdoclncaaGreat
