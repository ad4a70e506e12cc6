/-
  Plain mathematics of terms: texts, readers, sizes, steps. No program is named here.
-/
namespace Go.Proofs.Ytjgemiojjhfnoac

/-- A term: the letters k and s, a name, an application. -/
inductive Tm where
  | k
  | s
  | nm (n : List UInt8)
  | app (f a : Tm)

namespace Tm

/-- Digits. -/
def dig (c : UInt8) : Bool := 48 ≤ c && c ≤ 57
/-- The letters u to z. -/
def lead (c : UInt8) : Bool := 117 ≤ c && c ≤ 122

/-- A name: a letter and then at most three digits. -/
def nameOk : List UInt8 → Bool
  | [] => false
  | c :: ds => lead c && decide (ds.length ≤ 3) && ds.all dig

def text : Tm → List UInt8
  | k => [107]
  | s => [115]
  | nm n => n
  | app f a => 40 :: (text f ++ 32 :: (text a ++ [41]))

def size : Tm → Nat
  | app f a => size f + size a
  | _ => 1

def depth : Tm → Nat
  | app f a => 1 + max (depth f) (depth a)
  | _ => 0

/-- All names are names. -/
def good : Tm → Bool
  | nm n => nameOk n
  | app f a => good f && good a
  | _ => true

def fits (t : Tm) : Bool := decide (size t ≤ 3000) && decide (depth t ≤ 1500)

theorem size_pos (t : Tm) : 1 ≤ size t := by
  induction t <;> simp [size]; omega
theorem depth_lt (t : Tm) : depth t < size t := by
  induction t with
  | app f a ihf iha => simp only [size, depth]; have := size_pos f; have := size_pos a; omega
  | _ => simp [size, depth]

/-! ### the reader of the program, place by place -/

/-- How many digits stand from a place on, at most m. -/
def digs (l : List UInt8) : Nat → Nat → Nat
  | 0, _ => 0
  | m + 1, i => match l[i]? with
    | some c => if dig c then 1 + digs l m (i + 1) else 0
    | none => 0

/-- The length of the longest name at a place, or 0. -/
def nameLen (l : List UInt8) (i : Nat) : Nat :=
  match l[i]? with
  | some c => if lead c then 1 + digs l 3 (i + 1) else 0
  | none => 0

def readAtom (l : List UInt8) (i : Nat) : Option (Tm × Nat) :=
  if l[i]? = some 107 then some (k, i + 1)
  else if l[i]? = some 115 then some (s, i + 1)
  else if nameLen l i = 0 then none
  else some (nm ((l.drop i).take (nameLen l i)), i + nameLen l i)

/-- The reader: d is how many parentheses may still be opened, and 1. -/
def read (l : List UInt8) : Nat → Nat → Option (Tm × Nat)
  | 0, _ => none
  | d + 1, i =>
    if l[i]? = some 40 then
      match read l d (i + 1) with
      | none => none
      | some (f, j) => if l[j]? = some 32 then
          match read l d (j + 1) with
          | none => none
          | some (a, m) => if l[m]? = some 41 then some (app f a, m + 1) else none
        else none
    else readAtom l i

def parse (l : List UInt8) : Option Tm :=
  match read l 1501 0 with
  | some (t, j) => if j = l.length ∧ fits t = true then some t else none
  | none => none

/-! ### the reader of the model -/

/-- Where an atom ends. -/
def atomEnd (l : List UInt8) (i : Nat) : Nat := i + ((l.drop i).takeWhile fun c => c != 32 && c != 40 && c != 41).length

def mkAtom (a : List UInt8) : Option Tm :=
  if a = [107] then some k else if a = [115] then some s else if nameOk a then some (nm a) else none

def mread (l : List UInt8) : Nat → Nat → Option (Tm × Nat)
  | 0, _ => none
  | d + 1, i =>
    if l.length ≤ i then none
    else if l[i]? = some 40 then
      match mread l d (i + 1) with
      | none => none
      | some (f, j) => if l[j]? = some 32 then
          match mread l d (j + 1) with
          | none => none
          | some (a, m) => if l[m]? = some 41 then some (app f a, m + 1) else none
        else none
    else match mkAtom ((l.drop i).take (atomEnd l i - i)) with
      | some t => some (t, atomEnd l i)
      | none => none

def mparse (l : List UInt8) : Option Tm :=
  if 24000 < l.length then none else
  match mread l 1501 0 with
  | some (t, j) => if j = l.length ∧ size t ≤ 3000 then some t else none
  | none => none

/-! ### what the readers read -/

theorem drop_of_get {l : List UInt8} {i : Nat} {c : UInt8} (h : l[i]? = some c) : l.drop i = c :: l.drop (i + 1) := by
  obtain ⟨hi, rfl⟩ := List.getElem?_eq_some_iff.1 h
  exact List.drop_eq_getElem_cons hi

theorem get_of_drop {l r : List UInt8} {i : Nat} {c : UInt8} (h : l.drop i = c :: r) : l[i]? = some c := by
  have : (l.drop i)[0]? = some c := by rw [h]; rfl
  simpa using this

theorem drop_add {l x r : List UInt8} {i : Nat} (h : l.drop i = x ++ r) : l.drop (i + x.length) = r := by
  rw [← List.drop_drop, h]; simp

theorem le_of_drop {l x r : List UInt8} {i : Nat} (h : l.drop i = x ++ r) (hx : x ≠ []) : i + x.length ≤ l.length := by
  have h1 := congrArg List.length h
  have : 0 < x.length := List.length_pos_iff.2 hx
  simp at h1; omega

theorem text_ne (t : Tm) (h : good t = true) : text t ≠ [] := by
  cases t with
  | nm n => intro e; simp only [text] at e; subst e; simp [good, nameOk] at h
  | _ => simp [text]

theorem digs_le (l : List UInt8) (m i : Nat) : digs l m i ≤ m := by
  induction m generalizing i with
  | zero => simp [digs]
  | succ m ih =>
    simp only [digs]
    split
    · split
      · have := ih (i + 1); omega
      · omega
    · omega

theorem digs_all (l : List UInt8) (m i : Nat) : ((l.drop i).take (digs l m i)).all dig = true ∧ i + digs l m i ≤ max i l.length := by
  induction m generalizing i with
  | zero => simp [digs]; omega
  | succ m ih =>
    simp only [digs]
    split
    · rename_i c hc
      split
      · rename_i hd
        have hi := (List.getElem?_eq_some_iff.1 hc).1
        rw [drop_of_get hc, Nat.add_comm 1, List.take_succ_cons, List.all_cons, hd]
        refine ⟨by simpa using (ih (i + 1)).1, ?_⟩
        have := (ih (i + 1)).2; omega
      · simp; omega
    · simp; omega

theorem digs_of (l ds r : List UInt8) (m i : Nat) (h : l.drop i = ds ++ r) (hd : ds.all dig = true) (hm : ds.length ≤ m)
    (hr : ∀ c, r.head? = some c → dig c = false) : digs l m i = ds.length := by
  induction m generalizing i ds with
  | zero => cases ds with
    | nil => rfl
    | cons => simp at hm
  | succ m ih =>
    simp only [digs]
    cases ds with
    | nil =>
      cases r with
      | nil =>
        have : l[i]? = none := by
          have := congrArg List.length h; simp at this; simp; omega
        rw [this]; rfl
      | cons c r =>
        rw [get_of_drop (by simpa using h)]
        simp [hr c rfl]
    | cons c ds =>
      rw [get_of_drop h]
      simp only [List.all_cons, Bool.and_eq_true] at hd
      simp only [hd.1, if_true]
      have h2 : l.drop (i + 1) = ds ++ r := by
        have := drop_add (x := [c]) (r := ds ++ r) (by simpa using h); simpa using this
      rw [ih ds (i + 1) h2 hd.2 (by simpa using hm)]
      simp; omega

theorem nameLen_sound (l : List UInt8) (i : Nat) (h : nameLen l i ≠ 0) : nameOk ((l.drop i).take (nameLen l i)) = true ∧ i + nameLen l i ≤ l.length := by
  unfold nameLen at *
  split at h
  · rename_i c hc
    split at h
    · rename_i hl
      have hi := (List.getElem?_eq_some_iff.1 hc).1
      simp only [hl, if_true]
      rw [drop_of_get hc, Nat.add_comm 1, List.take_succ_cons]
      have ha := digs_all l 3 (i + 1)
      have hb := digs_le l 3 (i + 1)
      refine ⟨?_, by omega⟩
      simp only [nameOk, hl, ha.1, Bool.true_and, Bool.and_true, decide_eq_true_eq, List.length_take]
      omega
    · exact absurd rfl h
  · exact absurd rfl h

theorem lead_not (c : UInt8) (h : lead c = true) : c ≠ 107 ∧ c ≠ 115 ∧ c ≠ 40 ∧ c ≠ 32 ∧ c ≠ 41 := by
  refine ⟨?_, ?_, ?_, ?_, ?_⟩ <;> (rintro rfl; revert h; decide)
theorem dig_not (c : UInt8) (h : dig c = true) : c ≠ 40 ∧ c ≠ 32 ∧ c ≠ 41 := by
  refine ⟨?_, ?_, ?_⟩ <;> (rintro rfl; revert h; decide)

theorem nameLen_of (l n r : List UInt8) (i : Nat) (h : l.drop i = n ++ r) (hn : nameOk n = true) (hr : ∀ c, r.head? = some c → dig c = false) : nameLen l i = n.length := by
  cases n with
  | nil => simp [nameOk] at hn
  | cons c ds =>
    simp only [nameOk, Bool.and_eq_true, decide_eq_true_eq] at hn
    unfold nameLen
    rw [get_of_drop h]
    simp only [hn.1.1, if_true]
    rw [digs_of l ds r 3 (i + 1) (by have := drop_add (x := [c]) (r := ds ++ r) (by simpa using h); simpa using this) hn.2 hn.1.2 hr]
    simp; omega

/-- What a reading means. -/
def Reads (l : List UInt8) (d i : Nat) (t : Tm) (j : Nat) : Prop :=
  l.drop i = text t ++ l.drop j ∧ j = i + (text t).length ∧ j ≤ l.length ∧ good t = true ∧ depth t < d

theorem readAtom_sound {l : List UInt8} {i j : Nat} {t : Tm} (h : readAtom l i = some (t, j)) (d : Nat) : Reads l (d + 1) i t j := by
  unfold readAtom at h
  split at h
  · rename_i hc
    have hi := (List.getElem?_eq_some_iff.1 hc).1
    simp only [Option.some.injEq, Prod.mk.injEq] at h
    obtain ⟨rfl, rfl⟩ := h
    exact ⟨by simpa [text] using drop_of_get hc, rfl, hi, rfl, Nat.succ_pos _⟩
  · split at h
    · rename_i hc
      have hi := (List.getElem?_eq_some_iff.1 hc).1
      simp only [Option.some.injEq, Prod.mk.injEq] at h
      obtain ⟨rfl, rfl⟩ := h
      exact ⟨by simpa [text] using drop_of_get hc, rfl, hi, rfl, Nat.succ_pos _⟩
    · split at h
      · simp at h
      · rename_i hn
        simp only [Option.some.injEq, Prod.mk.injEq] at h
        obtain ⟨rfl, rfl⟩ := h
        obtain ⟨h1, h2⟩ := nameLen_sound l i hn
        refine ⟨?_, ?_, h2, h1, Nat.succ_pos _⟩
        · simp only [text]; rw [← List.drop_drop]; exact (List.take_append_drop _ _).symm
        · simp only [text, List.length_take, List.length_drop]; omega

theorem app_reads {l : List UInt8} {d i j m : Nat} {f a : Tm} (h0 : l[i]? = some 40) (hf : Reads l d (i + 1) f j) (h1 : l[j]? = some 32) (ha : Reads l d (j + 1) a m) (h2 : l[m]? = some 41) :
    Reads l (d + 1) i (app f a) (m + 1) := by
  obtain ⟨f1, f2, f3, f4, f5⟩ := hf
  obtain ⟨a1, a2, a3, a4, a5⟩ := ha
  refine ⟨?_, ?_, (List.getElem?_eq_some_iff.1 h2).1, by simp [good, f4, a4], by simp only [depth]; omega⟩
  · rw [drop_of_get h0, f1, drop_of_get h1, a1, drop_of_get h2]; simp [text]
  · simp [text]; omega

theorem read_sound {l : List UInt8} {d : Nat} : ∀ {i j : Nat} {t : Tm}, read l d i = some (t, j) → Reads l d i t j := by
  induction d with
  | zero => intro i j t h; simp [read] at h
  | succ d ih =>
    intro i j t h
    simp only [read] at h
    split at h
    · rename_i h0
      split at h
      · simp at h
      · rename_i f j1 hf
        split at h
        · rename_i h1
          split at h
          · simp at h
          · rename_i a m ha
            split at h
            · rename_i h2
              simp only [Option.some.injEq, Prod.mk.injEq] at h
              obtain ⟨rfl, rfl⟩ := h
              exact app_reads h0 (ih hf) h1 (ih ha) h2
            · simp at h
        · simp at h
    · exact readAtom_sound h d

/-- What may follow a term. -/
def Stop (r : List UInt8) : Prop := r = [] ∨ r.head? = some 32 ∨ r.head? = some 41

theorem Stop.dig {r : List UInt8} (h : Stop r) : ∀ c, r.head? = some c → dig c = false := by
  intro c hc
  rcases h with rfl | h | h
  · simp at hc
  · rw [h] at hc; obtain rfl := Option.some.inj hc; decide
  · rw [h] at hc; obtain rfl := Option.some.inj hc; decide

theorem read_of {l : List UInt8} : ∀ {t : Tm} {d i : Nat} {r : List UInt8}, l.drop i = text t ++ r → good t = true → depth t < d → Stop r → read l d i = some (t, i + (text t).length) := by
  intro t
  induction t with
  | k =>
    intro d i r h _ hd _
    obtain ⟨d, rfl⟩ : ∃ e, d = e + 1 := ⟨d - 1, by simp [depth] at hd; omega⟩
    have := get_of_drop (c := 107) (r := r) (by simpa [text] using h)
    simp [read, readAtom, this, text]
  | s =>
    intro d i r h _ hd _
    obtain ⟨d, rfl⟩ : ∃ e, d = e + 1 := ⟨d - 1, by simp [depth] at hd; omega⟩
    have := get_of_drop (c := 115) (r := r) (by simpa [text] using h)
    simp [read, readAtom, this, text]
  | nm n =>
    intro d i r h hg hd hs
    obtain ⟨d, rfl⟩ : ∃ e, d = e + 1 := ⟨d - 1, by simp [depth] at hd; omega⟩
    simp only [good] at hg
    simp only [text] at h
    have hl := nameLen_of l n r i h hg hs.dig
    cases n with
    | nil => simp [nameOk] at hg
    | cons c ds =>
      have hc := get_of_drop (c := c) (r := ds ++ r) (by simpa using h)
      have hq := lead_not c (by simp only [nameOk, Bool.and_eq_true] at hg; exact hg.1.1)
      simp only [read, readAtom, hc, Option.some.injEq, hq.1, hq.2.1, hq.2.2.1, if_false, hl, text]
      rw [if_neg (by simp), h, List.take_left']
      rfl
  | app f a ihf iha =>
    intro d i r h hg hd hs
    obtain ⟨d, rfl⟩ : ∃ e, d = e + 1 := ⟨d - 1, by simp [depth] at hd; omega⟩
    simp only [good, Bool.and_eq_true] at hg
    simp only [depth] at hd
    have e0 : l.drop i = 40 :: (text f ++ (32 :: (text a ++ (41 :: r)))) := by simpa [text] using h
    have h0 := get_of_drop e0
    have e1 : l.drop (i + 1) = text f ++ (32 :: (text a ++ (41 :: r))) := by have := drop_add (x := [40]) (by simpa using e0); simpa using this
    have e2 : l.drop (i + 1 + (text f).length) = 32 :: (text a ++ (41 :: r)) := drop_add e1
    have e3 : l.drop (i + 1 + (text f).length + 1) = text a ++ (41 :: r) := by have := drop_add (x := [32]) (by simpa using e2); simpa using this
    have e4 : l.drop (i + 1 + (text f).length + 1 + (text a).length) = 41 :: r := drop_add e3
    have rf := ihf (d := d) e1 hg.1 (by omega) (Or.inr (Or.inl rfl))
    have ra := iha (d := d) e3 hg.2 (by omega) (Or.inr (Or.inr rfl))
    simp only [read, h0, if_true, rf, get_of_drop e2, ra, get_of_drop e4]
    simp [text]; omega

theorem parse_iff {l : List UInt8} {t : Tm} : parse l = some t ↔ text t = l ∧ good t = true ∧ fits t = true := by
  constructor
  · intro h
    unfold parse at h
    split at h
    · rename_i t' j hr
      split at h
      · rename_i hj
        obtain ⟨rfl, hf⟩ := hj
        obtain rfl := Option.some.inj h
        obtain ⟨h1, _, _, h4, _⟩ := read_sound hr
        exact ⟨by simpa using h1.symm, h4, hf⟩
      · simp at h
    · simp at h
  · rintro ⟨rfl, hg, hf⟩
    have hd : depth t < 1501 := by simp [fits] at hf; omega
    have := read_of (l := text t) (t := t) (d := 1501) (i := 0) (r := []) (by simp) hg hd (Or.inl rfl)
    unfold parse
    rw [this]
    simp [hf]

theorem takeWhile_append {l r : List UInt8} (p : UInt8 → Bool) (h : l.all p = true) (hr : ∀ c, r.head? = some c → p c = false) : (l ++ r).takeWhile p = l := by
  induction l with
  | nil => cases r with
    | nil => rfl
    | cons c r => simp [hr c rfl]
  | cons c l ih =>
    simp only [List.all_cons, Bool.and_eq_true] at h
    simp [h.1, ih h.2]

/-- No blank and no parenthesis. -/
def mid (c : UInt8) : Bool := c != 32 && c != 40 && c != 41

theorem nameOk_mid {n : List UInt8} (h : nameOk n = true) : n.all mid = true := by
  cases n with
  | nil => rfl
  | cons c ds =>
    simp only [nameOk, Bool.and_eq_true] at h
    have h1 := lead_not c h.1.1
    simp only [List.all_cons, Bool.and_eq_true, List.all_eq_true, mid]
    refine ⟨by simp [h1], fun x hx => ?_⟩
    have := dig_not x (List.all_eq_true.1 h.2 x hx)
    simp [this]

theorem mkAtom_sound {a : List UInt8} {t : Tm} (h : mkAtom a = some t) : text t = a ∧ good t = true ∧ depth t = 0 ∧ size t = 1 ∧ a.all mid = true := by
  unfold mkAtom at h
  split at h
  · rename_i e; obtain rfl := Option.some.inj h; subst e; exact ⟨rfl, rfl, rfl, rfl, by decide⟩
  · split at h
    · rename_i e; obtain rfl := Option.some.inj h; subst e; exact ⟨rfl, rfl, rfl, rfl, by decide⟩
    · split at h
      · rename_i hn; obtain rfl := Option.some.inj h; exact ⟨rfl, hn, rfl, rfl, nameOk_mid hn⟩
      · simp at h

theorem mkAtom_of (t : Tm) (hd : depth t = 0) (hg : good t = true) : mkAtom (text t) = some t := by
  cases t with
  | k => simp [mkAtom, text]
  | s => simp [mkAtom, text]
  | nm n =>
    simp only [good] at hg
    cases n with
    | nil => simp [nameOk] at hg
    | cons c ds =>
      have hq := lead_not c (by simp only [nameOk, Bool.and_eq_true] at hg; exact hg.1.1)
      simp [mkAtom, text, hq.1, hq.2.1, hg]
  | app f a => simp [depth] at hd

theorem atomEnd_le (l : List UInt8) (i : Nat) (h : i ≤ l.length) : i ≤ atomEnd l i ∧ atomEnd l i ≤ l.length := by
  unfold atomEnd
  have : ((l.drop i).takeWhile fun c => c != 32 && c != 40 && c != 41).length ≤ (l.drop i).length := (List.takeWhile_sublist _).length_le
  simp at this
  omega

theorem mread_sound {l : List UInt8} {d : Nat} : ∀ {i j : Nat} {t : Tm}, mread l d i = some (t, j) → Reads l d i t j := by
  induction d with
  | zero => intro i j t h; simp [mread] at h
  | succ d ih =>
    intro i j t h
    simp only [mread] at h
    split at h
    · simp at h
    · rename_i hlen
      split at h
      · rename_i h0
        split at h
        · simp at h
        · rename_i f j1 hf
          split at h
          · rename_i h1
            split at h
            · simp at h
            · rename_i a m ha
              split at h
              · rename_i h2
                simp only [Option.some.injEq, Prod.mk.injEq] at h
                obtain ⟨rfl, rfl⟩ := h
                exact app_reads h0 (ih hf) h1 (ih ha) h2
              · simp at h
          · simp at h
      · split at h
        · rename_i t' ht
          simp only [Option.some.injEq, Prod.mk.injEq] at h
          obtain ⟨rfl, rfl⟩ := h
          obtain ⟨h1, h2, h3, _, _⟩ := mkAtom_sound ht
          have hle := atomEnd_le l i (by omega)
          refine ⟨?_, ?_, hle.2, h2, by omega⟩
          · rw [h1]
            conv => lhs; rw [← List.take_append_drop (atomEnd l i - i) (l.drop i)]
            rw [List.drop_drop, Nat.add_sub_cancel' hle.1]
          · rw [h1]; simp; omega
        · simp at h

theorem mread_of {l : List UInt8} : ∀ {t : Tm} {d i : Nat} {r : List UInt8}, l.drop i = text t ++ r → good t = true → depth t < d → Stop r → mread l d i = some (t, i + (text t).length) := by
  have atom : ∀ {t : Tm} {d i : Nat} {r : List UInt8}, depth t = 0 → l.drop i = text t ++ r → good t = true → Stop r → mread l (d + 1) i = some (t, i + (text t).length) := by
    intro t d i r hd h hg hs
    have hm := mkAtom_of t hd hg
    have hmid := (mkAtom_sound hm).2.2.2.2
    have hne := text_ne t hg
    have hlen : ¬ l.length ≤ i := by have := le_of_drop h hne; have := List.length_pos_iff.2 hne; omega
    have he : atomEnd l i = i + (text t).length := by
      unfold atomEnd
      rw [h, show (fun c : UInt8 => c != 32 && c != 40 && c != 41) = mid from rfl, takeWhile_append _ hmid]
      intro c hc
      rcases hs with rfl | hs | hs
      · simp at hc
      · rw [hs] at hc; obtain rfl := Option.some.inj hc; decide
      · rw [hs] at hc; obtain rfl := Option.some.inj hc; decide
    have h40 : l[i]? ≠ some 40 := by
      intro hc
      cases ht : text t with
      | nil => exact hne ht
      | cons c x =>
        rw [ht] at h hmid
        rw [get_of_drop (c := c) (r := x ++ r) (by simpa using h)] at hc
        obtain rfl := Option.some.inj hc
        simp [mid] at hmid
    simp only [mread, hlen, if_false, h40, he]
    rw [h]
    simp [hm]
  intro t
  induction t with
  | k => intro d i r h hg hd hs; obtain ⟨d, rfl⟩ : ∃ e, d = e + 1 := ⟨d - 1, by omega⟩; exact atom rfl h hg hs
  | s => intro d i r h hg hd hs; obtain ⟨d, rfl⟩ : ∃ e, d = e + 1 := ⟨d - 1, by omega⟩; exact atom rfl h hg hs
  | nm n => intro d i r h hg hd hs; obtain ⟨d, rfl⟩ : ∃ e, d = e + 1 := ⟨d - 1, by omega⟩; exact atom rfl h hg hs
  | app f a ihf iha =>
    intro d i r h hg hd hs
    obtain ⟨d, rfl⟩ : ∃ e, d = e + 1 := ⟨d - 1, by omega⟩
    simp only [good, Bool.and_eq_true] at hg
    simp only [depth] at hd
    have e0 : l.drop i = 40 :: (text f ++ (32 :: (text a ++ (41 :: r)))) := by simpa [text] using h
    have h0 := get_of_drop e0
    have hlen : ¬ l.length ≤ i := by have := (List.getElem?_eq_some_iff.1 h0).1; omega
    have e1 : l.drop (i + 1) = text f ++ (32 :: (text a ++ (41 :: r))) := by have := drop_add (x := [40]) (by simpa using e0); simpa using this
    have e2 : l.drop (i + 1 + (text f).length) = 32 :: (text a ++ (41 :: r)) := drop_add e1
    have e3 : l.drop (i + 1 + (text f).length + 1) = text a ++ (41 :: r) := by have := drop_add (x := [32]) (by simpa using e2); simpa using this
    have e4 : l.drop (i + 1 + (text f).length + 1 + (text a).length) = 41 :: r := drop_add e3
    have rf := ihf (d := d) e1 hg.1 (by omega) (Or.inr (Or.inl rfl))
    have ra := iha (d := d) e3 hg.2 (by omega) (Or.inr (Or.inr rfl))
    simp only [mread, hlen, if_false, h0, if_true, rf, get_of_drop e2, ra, get_of_drop e4]
    simp [text]; omega

theorem text_le (t : Tm) (h : good t = true) : (text t).length + 3 ≤ 7 * size t := by
  induction t with
  | nm n =>
    simp only [good] at h
    cases n with
    | nil => simp [nameOk] at h
    | cons c ds => simp only [nameOk, Bool.and_eq_true, decide_eq_true_eq] at h; simp [text, size]; omega
  | app f a ihf iha =>
    simp only [good, Bool.and_eq_true] at h
    have := ihf h.1; have := iha h.2
    simp [text, size]; omega
  | _ => simp [text, size]

theorem mparse_iff {l : List UInt8} {t : Tm} : mparse l = some t ↔ text t = l ∧ good t = true ∧ fits t = true := by
  constructor
  · intro h
    unfold mparse at h
    split at h
    · simp at h
    · split at h
      · rename_i t' j hr
        split at h
        · rename_i hj
          obtain ⟨rfl, hf⟩ := hj
          obtain rfl := Option.some.inj h
          obtain ⟨h1, _, _, h4, h5⟩ := mread_sound hr
          exact ⟨by simpa using h1.symm, h4, by simp [fits]; omega⟩
        · simp at h
      · simp at h
  · rintro ⟨rfl, hg, hf⟩
    have hs : size t ≤ 3000 ∧ depth t < 1501 := by simp [fits] at hf; omega
    have := mread_of (l := text t) (t := t) (d := 1501) (i := 0) (r := []) (by simp) hg hs.2 (Or.inl rfl)
    have := text_le t hg
    unfold mparse
    rw [if_neg (by omega), mread_of (l := text t) (t := t) (d := 1501) (i := 0) (r := []) (by simp) hg hs.2 (Or.inl rfl)]
    simp [hs]

/-- Both readers read the same terms. -/
theorem mparse_eq (l : List UInt8) : mparse l = parse l := by
  cases h : parse l with
  | some t => exact mparse_iff.2 (parse_iff.1 h)
  | none =>
    cases h' : mparse l with
    | none => rfl
    | some t => rw [parse_iff.2 (mparse_iff.1 h')] at h; simp at h

theorem parse_text {t : Tm} (hg : good t = true) (hf : fits t = true) : parse (text t) = some t := parse_iff.2 ⟨rfl, hg, hf⟩

end Tm
end Go.Proofs.Ytjgemiojjhfnoac
