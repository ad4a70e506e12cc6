/-
  Plain mathematics of terms: texts, readers, sizes, steps. No program is named here.
-/
import Derived.Test.YtfpekihdoclncaaGreatProg
import Derived.WalkKit
import Derived.WalkSpells
import Derived.WalkLawsBesides
import Derived.ChangeKeysEq
import Derived.Shelf.Abstract
namespace Go.Proofs.YtfpekihdoclncaaGreat

/-- A term: the letters k and s, a name, an application. -/
inductive Tm where
  | k
  | s
  | nm (n : List UInt8)
  | app (f a : Tm)

namespace Tm

/-- Digits. -/
def dig (c : UInt8) : Bool := 48 ≤ c && c ≤ 57
/-- The letters u to z. -/
def lead (c : UInt8) : Bool := 117 ≤ c && c ≤ 122

/-- A name: a letter and then at most three digits. -/
def nameOk : List UInt8 → Bool
  | [] => false
  | c :: ds => lead c && decide (ds.length ≤ 3) && ds.all dig

def text : Tm → List UInt8
  | k => [107]
  | s => [115]
  | nm n => n
  | app f a => 40 :: (text f ++ 32 :: (text a ++ [41]))

def size : Tm → Nat
  | app f a => size f + size a
  | _ => 1

def depth : Tm → Nat
  | app f a => 1 + max (depth f) (depth a)
  | _ => 0

/-- All names are names. -/
def good : Tm → Bool
  | nm n => nameOk n
  | app f a => good f && good a
  | _ => true

def fits (t : Tm) : Bool := decide (size t ≤ 3000) && decide (depth t ≤ 1500)

theorem size_pos (t : Tm) : 1 ≤ size t := by
  induction t <;> simp [size]; omega
theorem depth_lt (t : Tm) : depth t < size t := by
  induction t with
  | app f a ihf iha => simp only [size, depth]; have := size_pos f; have := size_pos a; omega
  | _ => simp [size, depth]

/-! ### the reader of the program, place by place -/

/-- How many digits stand from a place on, at most m. -/
def digs (l : List UInt8) : Nat → Nat → Nat
  | 0, _ => 0
  | m + 1, i => match l[i]? with
    | some c => if dig c then 1 + digs l m (i + 1) else 0
    | none => 0

/-- The length of the longest name at a place, or 0. -/
def nameLen (l : List UInt8) (i : Nat) : Nat :=
  match l[i]? with
  | some c => if lead c then 1 + digs l 3 (i + 1) else 0
  | none => 0

def readAtom (l : List UInt8) (i : Nat) : Option (Tm × Nat) :=
  if l[i]? = some 107 then some (k, i + 1)
  else if l[i]? = some 115 then some (s, i + 1)
  else if nameLen l i = 0 then none
  else some (nm ((l.drop i).take (nameLen l i)), i + nameLen l i)

/-- The reader: d is how many parentheses may still be opened, and 1. -/
def read (l : List UInt8) : Nat → Nat → Option (Tm × Nat)
  | 0, _ => none
  | d + 1, i =>
    if l[i]? = some 40 then
      match read l d (i + 1) with
      | none => none
      | some (f, j) => if l[j]? = some 32 then
          match read l d (j + 1) with
          | none => none
          | some (a, m) => if l[m]? = some 41 then some (app f a, m + 1) else none
        else none
    else readAtom l i

def parse (l : List UInt8) : Option Tm :=
  match read l 1501 0 with
  | some (t, j) => if j = l.length ∧ fits t = true then some t else none
  | none => none

/-! ### the reader of the model -/

/-- Where an atom ends. -/
def atomEnd (l : List UInt8) (i : Nat) : Nat := i + ((l.drop i).takeWhile fun c => c != 32 && c != 40 && c != 41).length

def mkAtom (a : List UInt8) : Option Tm :=
  if a = [107] then some k else if a = [115] then some s else if nameOk a then some (nm a) else none

def mread (l : List UInt8) : Nat → Nat → Option (Tm × Nat)
  | 0, _ => none
  | d + 1, i =>
    if l.length ≤ i then none
    else if l[i]? = some 40 then
      match mread l d (i + 1) with
      | none => none
      | some (f, j) => if l[j]? = some 32 then
          match mread l d (j + 1) with
          | none => none
          | some (a, m) => if l[m]? = some 41 then some (app f a, m + 1) else none
        else none
    else match mkAtom ((l.drop i).take (atomEnd l i - i)) with
      | some t => some (t, atomEnd l i)
      | none => none

def mparse (l : List UInt8) : Option Tm :=
  if 24000 < l.length then none else
  match mread l 1501 0 with
  | some (t, j) => if j = l.length ∧ size t ≤ 3000 then some t else none
  | none => none

/-! ### what the readers read -/

theorem drop_of_get {l : List UInt8} {i : Nat} {c : UInt8} (h : l[i]? = some c) : l.drop i = c :: l.drop (i + 1) := by
  obtain ⟨hi, rfl⟩ := List.getElem?_eq_some_iff.1 h
  exact List.drop_eq_getElem_cons hi

theorem get_of_drop {l r : List UInt8} {i : Nat} {c : UInt8} (h : l.drop i = c :: r) : l[i]? = some c := by
  have : (l.drop i)[0]? = some c := by rw [h]; rfl
  simpa using this

theorem drop_add {l x r : List UInt8} {i : Nat} (h : l.drop i = x ++ r) : l.drop (i + x.length) = r := by
  rw [← List.drop_drop, h]; simp

theorem le_of_drop {l x r : List UInt8} {i : Nat} (h : l.drop i = x ++ r) (hx : x ≠ []) : i + x.length ≤ l.length := by
  have h1 := congrArg List.length h
  have : 0 < x.length := List.length_pos_iff.2 hx
  simp at h1; omega

theorem text_ne (t : Tm) (h : good t = true) : text t ≠ [] := by
  cases t with
  | nm n => intro e; simp only [text] at e; subst e; simp [good, nameOk] at h
  | _ => simp [text]

theorem digs_le (l : List UInt8) (m i : Nat) : digs l m i ≤ m := by
  induction m generalizing i with
  | zero => simp [digs]
  | succ m ih =>
    simp only [digs]
    split
    · split
      · have := ih (i + 1); omega
      · omega
    · omega

theorem digs_all (l : List UInt8) (m i : Nat) : ((l.drop i).take (digs l m i)).all dig = true ∧ i + digs l m i ≤ max i l.length := by
  induction m generalizing i with
  | zero => simp [digs]; omega
  | succ m ih =>
    simp only [digs]
    split
    · rename_i c hc
      split
      · rename_i hd
        have hi := (List.getElem?_eq_some_iff.1 hc).1
        rw [drop_of_get hc, Nat.add_comm 1, List.take_succ_cons, List.all_cons, hd]
        refine ⟨by simpa using (ih (i + 1)).1, ?_⟩
        have := (ih (i + 1)).2; omega
      · simp; omega
    · simp; omega

theorem digs_of (l ds r : List UInt8) (m i : Nat) (h : l.drop i = ds ++ r) (hd : ds.all dig = true) (hm : ds.length ≤ m)
    (hr : ∀ c, r.head? = some c → dig c = false) : digs l m i = ds.length := by
  induction m generalizing i ds with
  | zero => cases ds with
    | nil => rfl
    | cons => simp at hm
  | succ m ih =>
    simp only [digs]
    cases ds with
    | nil =>
      cases r with
      | nil =>
        have : l[i]? = none := by
          have := congrArg List.length h; simp at this; simp; omega
        rw [this]; rfl
      | cons c r =>
        rw [get_of_drop (by simpa using h)]
        simp [hr c rfl]
    | cons c ds =>
      rw [get_of_drop h]
      simp only [List.all_cons, Bool.and_eq_true] at hd
      simp only [hd.1, if_true]
      have h2 : l.drop (i + 1) = ds ++ r := by
        have := drop_add (x := [c]) (r := ds ++ r) (by simpa using h); simpa using this
      rw [ih ds (i + 1) h2 hd.2 (by simpa using hm)]
      simp; omega

theorem nameLen_sound (l : List UInt8) (i : Nat) (h : nameLen l i ≠ 0) : nameOk ((l.drop i).take (nameLen l i)) = true ∧ i + nameLen l i ≤ l.length := by
  unfold nameLen at *
  split at h
  · rename_i c hc
    split at h
    · rename_i hl
      have hi := (List.getElem?_eq_some_iff.1 hc).1
      simp only [hl, if_true]
      rw [drop_of_get hc, Nat.add_comm 1, List.take_succ_cons]
      have ha := digs_all l 3 (i + 1)
      have hb := digs_le l 3 (i + 1)
      refine ⟨?_, by omega⟩
      simp only [nameOk, hl, ha.1, Bool.true_and, Bool.and_true, decide_eq_true_eq, List.length_take]
      omega
    · exact absurd rfl h
  · exact absurd rfl h

theorem lead_not (c : UInt8) (h : lead c = true) : c ≠ 107 ∧ c ≠ 115 ∧ c ≠ 40 ∧ c ≠ 32 ∧ c ≠ 41 := by
  refine ⟨?_, ?_, ?_, ?_, ?_⟩ <;> (rintro rfl; revert h; decide)
theorem dig_not (c : UInt8) (h : dig c = true) : c ≠ 40 ∧ c ≠ 32 ∧ c ≠ 41 := by
  refine ⟨?_, ?_, ?_⟩ <;> (rintro rfl; revert h; decide)

theorem nameLen_of (l n r : List UInt8) (i : Nat) (h : l.drop i = n ++ r) (hn : nameOk n = true) (hr : ∀ c, r.head? = some c → dig c = false) : nameLen l i = n.length := by
  cases n with
  | nil => simp [nameOk] at hn
  | cons c ds =>
    simp only [nameOk, Bool.and_eq_true, decide_eq_true_eq] at hn
    unfold nameLen
    rw [get_of_drop h]
    simp only [hn.1.1, if_true]
    rw [digs_of l ds r 3 (i + 1) (by have := drop_add (x := [c]) (r := ds ++ r) (by simpa using h); simpa using this) hn.2 hn.1.2 hr]
    simp; omega

/-- What a reading means. -/
def Reads (l : List UInt8) (d i : Nat) (t : Tm) (j : Nat) : Prop :=
  l.drop i = text t ++ l.drop j ∧ j = i + (text t).length ∧ j ≤ l.length ∧ good t = true ∧ depth t < d

theorem readAtom_sound {l : List UInt8} {i j : Nat} {t : Tm} (h : readAtom l i = some (t, j)) (d : Nat) : Reads l (d + 1) i t j := by
  unfold readAtom at h
  split at h
  · rename_i hc
    have hi := (List.getElem?_eq_some_iff.1 hc).1
    simp only [Option.some.injEq, Prod.mk.injEq] at h
    obtain ⟨rfl, rfl⟩ := h
    exact ⟨by simpa [text] using drop_of_get hc, rfl, hi, rfl, Nat.succ_pos _⟩
  · split at h
    · rename_i hc
      have hi := (List.getElem?_eq_some_iff.1 hc).1
      simp only [Option.some.injEq, Prod.mk.injEq] at h
      obtain ⟨rfl, rfl⟩ := h
      exact ⟨by simpa [text] using drop_of_get hc, rfl, hi, rfl, Nat.succ_pos _⟩
    · split at h
      · simp at h
      · rename_i hn
        simp only [Option.some.injEq, Prod.mk.injEq] at h
        obtain ⟨rfl, rfl⟩ := h
        obtain ⟨h1, h2⟩ := nameLen_sound l i hn
        refine ⟨?_, ?_, h2, h1, Nat.succ_pos _⟩
        · simp only [text]; rw [← List.drop_drop]; exact (List.take_append_drop _ _).symm
        · simp only [text, List.length_take, List.length_drop]; omega

theorem app_reads {l : List UInt8} {d i j m : Nat} {f a : Tm} (h0 : l[i]? = some 40) (hf : Reads l d (i + 1) f j) (h1 : l[j]? = some 32) (ha : Reads l d (j + 1) a m) (h2 : l[m]? = some 41) :
    Reads l (d + 1) i (app f a) (m + 1) := by
  obtain ⟨f1, f2, f3, f4, f5⟩ := hf
  obtain ⟨a1, a2, a3, a4, a5⟩ := ha
  refine ⟨?_, ?_, (List.getElem?_eq_some_iff.1 h2).1, by simp [good, f4, a4], by simp only [depth]; omega⟩
  · rw [drop_of_get h0, f1, drop_of_get h1, a1, drop_of_get h2]; simp [text]
  · simp [text]; omega

theorem read_sound {l : List UInt8} {d : Nat} : ∀ {i j : Nat} {t : Tm}, read l d i = some (t, j) → Reads l d i t j := by
  induction d with
  | zero => intro i j t h; simp [read] at h
  | succ d ih =>
    intro i j t h
    simp only [read] at h
    split at h
    · rename_i h0
      split at h
      · simp at h
      · rename_i f j1 hf
        split at h
        · rename_i h1
          split at h
          · simp at h
          · rename_i a m ha
            split at h
            · rename_i h2
              simp only [Option.some.injEq, Prod.mk.injEq] at h
              obtain ⟨rfl, rfl⟩ := h
              exact app_reads h0 (ih hf) h1 (ih ha) h2
            · simp at h
        · simp at h
    · exact readAtom_sound h d

/-- What may follow a term. -/
def Stop (r : List UInt8) : Prop := r = [] ∨ r.head? = some 32 ∨ r.head? = some 41

theorem Stop.dig {r : List UInt8} (h : Stop r) : ∀ c, r.head? = some c → dig c = false := by
  intro c hc
  rcases h with rfl | h | h
  · simp at hc
  · rw [h] at hc; obtain rfl := Option.some.inj hc; decide
  · rw [h] at hc; obtain rfl := Option.some.inj hc; decide

theorem read_of {l : List UInt8} : ∀ {t : Tm} {d i : Nat} {r : List UInt8}, l.drop i = text t ++ r → good t = true → depth t < d → Stop r → read l d i = some (t, i + (text t).length) := by
  intro t
  induction t with
  | k =>
    intro d i r h _ hd _
    obtain ⟨d, rfl⟩ : ∃ e, d = e + 1 := ⟨d - 1, by simp [depth] at hd; omega⟩
    have := get_of_drop (c := 107) (r := r) (by simpa [text] using h)
    simp [read, readAtom, this, text]
  | s =>
    intro d i r h _ hd _
    obtain ⟨d, rfl⟩ : ∃ e, d = e + 1 := ⟨d - 1, by simp [depth] at hd; omega⟩
    have := get_of_drop (c := 115) (r := r) (by simpa [text] using h)
    simp [read, readAtom, this, text]
  | nm n =>
    intro d i r h hg hd hs
    obtain ⟨d, rfl⟩ : ∃ e, d = e + 1 := ⟨d - 1, by simp [depth] at hd; omega⟩
    simp only [good] at hg
    simp only [text] at h
    have hl := nameLen_of l n r i h hg hs.dig
    cases n with
    | nil => simp [nameOk] at hg
    | cons c ds =>
      have hc := get_of_drop (c := c) (r := ds ++ r) (by simpa using h)
      have hq := lead_not c (by simp only [nameOk, Bool.and_eq_true] at hg; exact hg.1.1)
      simp only [read, readAtom, hc, Option.some.injEq, hq.1, hq.2.1, hq.2.2.1, if_false, hl, text]
      rw [if_neg (by simp), h, List.take_left']
      rfl
  | app f a ihf iha =>
    intro d i r h hg hd hs
    obtain ⟨d, rfl⟩ : ∃ e, d = e + 1 := ⟨d - 1, by simp [depth] at hd; omega⟩
    simp only [good, Bool.and_eq_true] at hg
    simp only [depth] at hd
    have e0 : l.drop i = 40 :: (text f ++ (32 :: (text a ++ (41 :: r)))) := by simpa [text] using h
    have h0 := get_of_drop e0
    have e1 : l.drop (i + 1) = text f ++ (32 :: (text a ++ (41 :: r))) := by have := drop_add (x := [40]) (by simpa using e0); simpa using this
    have e2 : l.drop (i + 1 + (text f).length) = 32 :: (text a ++ (41 :: r)) := drop_add e1
    have e3 : l.drop (i + 1 + (text f).length + 1) = text a ++ (41 :: r) := by have := drop_add (x := [32]) (by simpa using e2); simpa using this
    have e4 : l.drop (i + 1 + (text f).length + 1 + (text a).length) = 41 :: r := drop_add e3
    have rf := ihf (d := d) e1 hg.1 (by omega) (Or.inr (Or.inl rfl))
    have ra := iha (d := d) e3 hg.2 (by omega) (Or.inr (Or.inr rfl))
    simp only [read, h0, if_true, rf, get_of_drop e2, ra, get_of_drop e4]
    simp [text]; omega

theorem parse_iff {l : List UInt8} {t : Tm} : parse l = some t ↔ text t = l ∧ good t = true ∧ fits t = true := by
  constructor
  · intro h
    unfold parse at h
    split at h
    · rename_i t' j hr
      split at h
      · rename_i hj
        obtain ⟨rfl, hf⟩ := hj
        obtain rfl := Option.some.inj h
        obtain ⟨h1, _, _, h4, _⟩ := read_sound hr
        exact ⟨by simpa using h1.symm, h4, hf⟩
      · simp at h
    · simp at h
  · rintro ⟨rfl, hg, hf⟩
    have hd : depth t < 1501 := by simp [fits] at hf; omega
    have := read_of (l := text t) (t := t) (d := 1501) (i := 0) (r := []) (by simp) hg hd (Or.inl rfl)
    unfold parse
    rw [this]
    simp [hf]

theorem takeWhile_append {l r : List UInt8} (p : UInt8 → Bool) (h : l.all p = true) (hr : ∀ c, r.head? = some c → p c = false) : (l ++ r).takeWhile p = l := by
  induction l with
  | nil => cases r with
    | nil => rfl
    | cons c r => simp [hr c rfl]
  | cons c l ih =>
    simp only [List.all_cons, Bool.and_eq_true] at h
    simp [h.1, ih h.2]

/-- No blank and no parenthesis. -/
def mid (c : UInt8) : Bool := c != 32 && c != 40 && c != 41

theorem nameOk_mid {n : List UInt8} (h : nameOk n = true) : n.all mid = true := by
  cases n with
  | nil => rfl
  | cons c ds =>
    simp only [nameOk, Bool.and_eq_true] at h
    have h1 := lead_not c h.1.1
    simp only [List.all_cons, Bool.and_eq_true, List.all_eq_true, mid]
    refine ⟨by simp [h1], fun x hx => ?_⟩
    have := dig_not x (List.all_eq_true.1 h.2 x hx)
    simp [this]

theorem mkAtom_sound {a : List UInt8} {t : Tm} (h : mkAtom a = some t) : text t = a ∧ good t = true ∧ depth t = 0 ∧ size t = 1 ∧ a.all mid = true := by
  unfold mkAtom at h
  split at h
  · rename_i e; obtain rfl := Option.some.inj h; subst e; exact ⟨rfl, rfl, rfl, rfl, by decide⟩
  · split at h
    · rename_i e; obtain rfl := Option.some.inj h; subst e; exact ⟨rfl, rfl, rfl, rfl, by decide⟩
    · split at h
      · rename_i hn; obtain rfl := Option.some.inj h; exact ⟨rfl, hn, rfl, rfl, nameOk_mid hn⟩
      · simp at h

theorem mkAtom_of (t : Tm) (hd : depth t = 0) (hg : good t = true) : mkAtom (text t) = some t := by
  cases t with
  | k => simp [mkAtom, text]
  | s => simp [mkAtom, text]
  | nm n =>
    simp only [good] at hg
    cases n with
    | nil => simp [nameOk] at hg
    | cons c ds =>
      have hq := lead_not c (by simp only [nameOk, Bool.and_eq_true] at hg; exact hg.1.1)
      simp [mkAtom, text, hq.1, hq.2.1, hg]
  | app f a => simp [depth] at hd

theorem atomEnd_le (l : List UInt8) (i : Nat) (h : i ≤ l.length) : i ≤ atomEnd l i ∧ atomEnd l i ≤ l.length := by
  unfold atomEnd
  have : ((l.drop i).takeWhile fun c => c != 32 && c != 40 && c != 41).length ≤ (l.drop i).length := (List.takeWhile_sublist _).length_le
  simp at this
  omega

theorem mread_sound {l : List UInt8} {d : Nat} : ∀ {i j : Nat} {t : Tm}, mread l d i = some (t, j) → Reads l d i t j := by
  induction d with
  | zero => intro i j t h; simp [mread] at h
  | succ d ih =>
    intro i j t h
    simp only [mread] at h
    split at h
    · simp at h
    · rename_i hlen
      split at h
      · rename_i h0
        split at h
        · simp at h
        · rename_i f j1 hf
          split at h
          · rename_i h1
            split at h
            · simp at h
            · rename_i a m ha
              split at h
              · rename_i h2
                simp only [Option.some.injEq, Prod.mk.injEq] at h
                obtain ⟨rfl, rfl⟩ := h
                exact app_reads h0 (ih hf) h1 (ih ha) h2
              · simp at h
          · simp at h
      · split at h
        · rename_i t' ht
          simp only [Option.some.injEq, Prod.mk.injEq] at h
          obtain ⟨rfl, rfl⟩ := h
          obtain ⟨h1, h2, h3, _, _⟩ := mkAtom_sound ht
          have hle := atomEnd_le l i (by omega)
          refine ⟨?_, ?_, hle.2, h2, by omega⟩
          · rw [h1]
            conv => lhs; rw [← List.take_append_drop (atomEnd l i - i) (l.drop i)]
            rw [List.drop_drop, Nat.add_sub_cancel' hle.1]
          · rw [h1]; simp; omega
        · simp at h

theorem mread_of {l : List UInt8} : ∀ {t : Tm} {d i : Nat} {r : List UInt8}, l.drop i = text t ++ r → good t = true → depth t < d → Stop r → mread l d i = some (t, i + (text t).length) := by
  have atom : ∀ {t : Tm} {d i : Nat} {r : List UInt8}, depth t = 0 → l.drop i = text t ++ r → good t = true → Stop r → mread l (d + 1) i = some (t, i + (text t).length) := by
    intro t d i r hd h hg hs
    have hm := mkAtom_of t hd hg
    have hmid := (mkAtom_sound hm).2.2.2.2
    have hne := text_ne t hg
    have hlen : ¬ l.length ≤ i := by have := le_of_drop h hne; have := List.length_pos_iff.2 hne; omega
    have he : atomEnd l i = i + (text t).length := by
      unfold atomEnd
      rw [h, show (fun c : UInt8 => c != 32 && c != 40 && c != 41) = mid from rfl, takeWhile_append _ hmid]
      intro c hc
      rcases hs with rfl | hs | hs
      · simp at hc
      · rw [hs] at hc; obtain rfl := Option.some.inj hc; decide
      · rw [hs] at hc; obtain rfl := Option.some.inj hc; decide
    have h40 : l[i]? ≠ some 40 := by
      intro hc
      cases ht : text t with
      | nil => exact hne ht
      | cons c x =>
        rw [ht] at h hmid
        rw [get_of_drop (c := c) (r := x ++ r) (by simpa using h)] at hc
        obtain rfl := Option.some.inj hc
        simp [mid] at hmid
    simp only [mread, hlen, if_false, h40, he]
    rw [h]
    simp [hm]
  intro t
  induction t with
  | k => intro d i r h hg hd hs; obtain ⟨d, rfl⟩ : ∃ e, d = e + 1 := ⟨d - 1, by omega⟩; exact atom rfl h hg hs
  | s => intro d i r h hg hd hs; obtain ⟨d, rfl⟩ : ∃ e, d = e + 1 := ⟨d - 1, by omega⟩; exact atom rfl h hg hs
  | nm n => intro d i r h hg hd hs; obtain ⟨d, rfl⟩ : ∃ e, d = e + 1 := ⟨d - 1, by omega⟩; exact atom rfl h hg hs
  | app f a ihf iha =>
    intro d i r h hg hd hs
    obtain ⟨d, rfl⟩ : ∃ e, d = e + 1 := ⟨d - 1, by omega⟩
    simp only [good, Bool.and_eq_true] at hg
    simp only [depth] at hd
    have e0 : l.drop i = 40 :: (text f ++ (32 :: (text a ++ (41 :: r)))) := by simpa [text] using h
    have h0 := get_of_drop e0
    have hlen : ¬ l.length ≤ i := by have := (List.getElem?_eq_some_iff.1 h0).1; omega
    have e1 : l.drop (i + 1) = text f ++ (32 :: (text a ++ (41 :: r))) := by have := drop_add (x := [40]) (by simpa using e0); simpa using this
    have e2 : l.drop (i + 1 + (text f).length) = 32 :: (text a ++ (41 :: r)) := drop_add e1
    have e3 : l.drop (i + 1 + (text f).length + 1) = text a ++ (41 :: r) := by have := drop_add (x := [32]) (by simpa using e2); simpa using this
    have e4 : l.drop (i + 1 + (text f).length + 1 + (text a).length) = 41 :: r := drop_add e3
    have rf := ihf (d := d) e1 hg.1 (by omega) (Or.inr (Or.inl rfl))
    have ra := iha (d := d) e3 hg.2 (by omega) (Or.inr (Or.inr rfl))
    simp only [mread, hlen, if_false, h0, if_true, rf, get_of_drop e2, ra, get_of_drop e4]
    simp [text]; omega

theorem text_le (t : Tm) (h : good t = true) : (text t).length + 3 ≤ 7 * size t := by
  induction t with
  | nm n =>
    simp only [good] at h
    cases n with
    | nil => simp [nameOk] at h
    | cons c ds => simp only [nameOk, Bool.and_eq_true, decide_eq_true_eq] at h; simp [text, size]; omega
  | app f a ihf iha =>
    simp only [good, Bool.and_eq_true] at h
    have := ihf h.1; have := iha h.2
    simp [text, size]; omega
  | _ => simp [text, size]

theorem mparse_iff {l : List UInt8} {t : Tm} : mparse l = some t ↔ text t = l ∧ good t = true ∧ fits t = true := by
  constructor
  · intro h
    unfold mparse at h
    split at h
    · simp at h
    · split at h
      · rename_i t' j hr
        split at h
        · rename_i hj
          obtain ⟨rfl, hf⟩ := hj
          obtain rfl := Option.some.inj h
          obtain ⟨h1, _, _, h4, h5⟩ := mread_sound hr
          exact ⟨by simpa using h1.symm, h4, by simp [fits]; omega⟩
        · simp at h
      · simp at h
  · rintro ⟨rfl, hg, hf⟩
    have hs : size t ≤ 3000 ∧ depth t < 1501 := by simp [fits] at hf; omega
    have := mread_of (l := text t) (t := t) (d := 1501) (i := 0) (r := []) (by simp) hg hs.2 (Or.inl rfl)
    have := text_le t hg
    unfold mparse
    rw [if_neg (by omega), mread_of (l := text t) (t := t) (d := 1501) (i := 0) (r := []) (by simp) hg hs.2 (Or.inl rfl)]
    simp [hs]

/-- Both readers read the same terms. -/
theorem mparse_eq (l : List UInt8) : mparse l = parse l := by
  cases h : parse l with
  | some t => exact mparse_iff.2 (parse_iff.1 h)
  | none =>
    cases h' : mparse l with
    | none => rfl
    | some t => rw [parse_iff.2 (mparse_iff.1 h')] at h; simp at h

theorem parse_text {t : Tm} (hg : good t = true) (hf : fits t = true) : parse (text t) = some t := parse_iff.2 ⟨rfl, hg, hf⟩

end Tm
end Go.Proofs.YtfpekihdoclncaaGreat

namespace Go.Proofs.YtfpekihdoclncaaGreat
namespace Tm

/-! ### names -/

def names (acc : List (List UInt8)) : Tm → List (List UInt8)
  | nm n => if n ∈ acc then acc else acc ++ [n]
  | app f a => names (names acc f) a
  | _ => acc

def has (n : List UInt8) : Tm → Bool
  | nm m => decide (m = n)
  | app f a => has n f || has n a
  | _ => false

theorem mem_names (n : List UInt8) (t : Tm) : ∀ acc, n ∈ names acc t ↔ n ∈ acc ∨ has n t = true := by
  induction t with
  | k => simp [names, has]
  | s => simp [names, has]
  | nm m =>
    intro acc
    simp only [names, has, decide_eq_true_eq]
    split
    · constructor
      · exact Or.inl
      · rintro (h | rfl) <;> assumption
    · simp [eq_comm]
  | app f a ihf iha =>
    intro acc
    simp only [names, has, Bool.or_eq_true, iha, ihf, or_assoc]

theorem names_nodup (t : Tm) : ∀ acc, acc.Nodup → (names acc t).Nodup := by
  induction t with
  | k => intro acc h; exact h
  | s => intro acc h; exact h
  | nm m =>
    intro acc h
    simp only [names]
    split
    · exact h
    · rename_i hn
      refine List.nodup_append.2 ⟨h, by simp, ?_⟩
      intro a ha b hb
      simp at hb
      subst hb
      exact fun e => hn (e ▸ ha)
  | app f a ihf iha => intro acc h; exact iha _ (ihf _ h)

theorem names_len (t : Tm) : ∀ acc, (names acc t).length ≤ acc.length + size t := by
  induction t with
  | k => intro acc; simp [names]
  | s => intro acc; simp [names]
  | nm m => intro acc; simp only [names, size]; split <;> simp
  | app f a ihf iha => intro acc; simp only [names, size]; have := ihf acc; have := iha (names acc f); omega

/-! ### what is put -/

def put (t : Tm) (n : List UInt8) (by' : Tm) : Tm :=
  match t with
  | nm m => if m = n then by' else nm m
  | app f a => app (put f n by') (put a n by')
  | t => t

def uses (n : List UInt8) : Tm → Nat
  | nm m => if m = n then 1 else 0
  | app f a => uses n f + uses n a
  | _ => 0

theorem uses_le (n : List UInt8) (t : Tm) : uses n t ≤ size t := by
  induction t with
  | nm m => simp only [uses, size]; split <;> omega
  | app f a ihf iha => simp only [uses, size]; omega
  | _ => simp [uses]

theorem size_put (n : List UInt8) (b t : Tm) : size (put t n b) + uses n t = size t + uses n t * size b := by
  induction t with
  | nm m => simp only [put, uses]; split <;> simp [size]; omega
  | app f a ihf iha => simp only [put, uses, size, Nat.add_mul]; omega
  | _ => simp [put, uses]

theorem good_put (n : List UInt8) (b t : Tm) (hb : good b = true) (ht : good t = true) : good (put t n b) = true := by
  induction t with
  | nm m => simp only [put]; split <;> assumption
  | app f a ihf iha => simp only [good, Bool.and_eq_true] at ht; simp [put, good, ihf ht.1, iha ht.2]
  | _ => rfl

theorem put_none (n : List UInt8) (b t : Tm) (h : has n t = false) : put t n b = t := by
  induction t with
  | nm m => simp only [has, decide_eq_false_iff_not] at h; simp [put, h]
  | app f a ihf iha => simp only [has, Bool.or_eq_false_iff] at h; simp [put, ihf h.1, iha h.2]
  | _ => rfl

theorem has_put (n m : List UInt8) (b t : Tm) : has m (put t n b) = ((has m t && decide (m ≠ n)) || (has n t && has m b)) := by
  induction t with
  | nm x =>
    simp only [put, has]
    by_cases h : x = n
    · subst h
      by_cases h2 : x = m
      · subst h2; simp
      · simp [h2]
    · simp only [h, if_false, has, decide_false, Bool.false_and, Bool.or_false]
      by_cases h2 : x = m
      · subst h2; simp [h]
      · simp [h2]
  | app f a ihf iha =>
    simp only [put, has, ihf, iha]
    cases has m f <;> cases has m a <;> cases has n f <;> cases has n a <;> cases has m b <;> simp
  | _ => simp [put, has]

/-- With an atom put for a name the other names stand as they stood. -/
theorem names_put (n : List UInt8) (b t : Tm) (hb0 : ∀ acc, names acc b = acc) : ∀ acc, names (acc.filter fun m => decide (m ≠ n)) (put t n b) = (names acc t).filter fun m => decide (m ≠ n) := by
  induction t with
  | k => intro acc; rfl
  | s => intro acc; rfl
  | nm x =>
    intro acc
    by_cases h : x = n
    · subst h
      simp only [put, if_true, hb0, names]
      split
      · rfl
      · simp [List.filter_append]
    · simp only [put, h, if_false, names, List.mem_filter, ne_eq, not_false_eq_true, decide_true, and_true]
      split
      · rfl
      · simp [List.filter_append, h]
  | app f a ihf iha => intro acc; simp only [put, names, ihf, iha]

/-! ### steps -/

/-- What a redex becomes. -/
def redex : Tm → Option Tm
  | app (app k m) _ => some m
  | app (app (app s m) n) p => some (app (app m p) (app n p))
  | _ => none

def step : Tm → Option Tm
  | app f a => match redex (app f a) with
    | some r => some r
    | none => match step f with
      | some f' => some (app f' a)
      | none => match step a with
        | some a' => some (app f a')
        | none => none
  | _ => none

/-- Steps, as many as there are, at most n; a step whose result is too large is none. -/
def many : Nat → Tm → Tm × Nat
  | 0, t => (t, 0)
  | n + 1, t => match step t with
    | some t' => if fits t' then ((many n t').1, (many n t').2 + 1) else (t, 0)
    | none => (t, 0)

/-- Parallel steps. -/
inductive Par : Tm → Tm → Prop where
  | refl (t : Tm) : Par t t
  | app {f f' a a' : Tm} (hf : Par f f') (ha : Par a a') : Par (app f a) (app f' a')
  | k {m m' : Tm} (n : Tm) (hm : Par m m') : Par (app (app k m) n) m'
  | s {m m' n n' p p' : Tm} (hm : Par m m') (hn : Par n n') (hp : Par p p') : Par (app (app (app s m) n) p) (app (app m' p') (app n' p'))

/-- All redexes at once. -/
def dev : Tm → Tm
  | app (app k m) _ => dev m
  | app (app (app s m) n) p => app (app (dev m) (dev p)) (app (dev n) (dev p))
  | app f a => app (dev f) (dev a)
  | t => t

theorem par_k {m u : Tm} (h : Par (app k m) u) : ∃ m', u = app k m' ∧ Par m m' := by
  cases h with
  | refl => exact ⟨m, rfl, .refl _⟩
  | app hf ha => cases hf; exact ⟨_, rfl, ha⟩

theorem par_s {m u : Tm} (h : Par (app s m) u) : ∃ m', u = app s m' ∧ Par m m' := by
  cases h with
  | refl => exact ⟨m, rfl, .refl _⟩
  | app hf ha => cases hf; exact ⟨_, rfl, ha⟩

theorem par_s2 {m n u : Tm} (h : Par (app (app s m) n) u) : ∃ m' n', u = app (app s m') n' ∧ Par m m' ∧ Par n n' := by
  cases h with
  | refl => exact ⟨m, n, rfl, .refl _, .refl _⟩
  | app hf ha => obtain ⟨m', rfl, hm⟩ := par_s hf; exact ⟨m', _, rfl, hm, ha⟩

theorem par_dev_self (t : Tm) : Par t (dev t) := by
  induction t using dev.induct with
  | case1 n m ih => simp only [dev]; exact .k _ ih
  | case2 m n p ihm ihp ihn => simp only [dev]; exact .s ihm ihn ihp
  | case3 f a h1 h2 ihf iha => simp only [dev]; exact .app ihf iha
  | case4 t h1 h2 h3 => cases t <;> first | exact .refl _ | exact absurd rfl (h3 _ _)

theorem dev_app {f a : Tm} (h1 : ∀ m, f ≠ app k m) (h2 : ∀ m n, f ≠ app (app s m) n) : dev (app f a) = app (dev f) (dev a) := by
  exact dev.eq_3 f a (fun m e => h1 m e) (fun m n e => h2 m n e)

theorem par_dev {t u : Tm} (h : Par t u) : Par u (dev t) := by
  induction h with
  | refl t => exact par_dev_self t
  | @app f f' a a' hf ha ihf iha =>
    by_cases h1 : ∃ m, f = Tm.app .k m
    · obtain ⟨m, rfl⟩ := h1
      obtain ⟨m', rfl, hm⟩ := par_k hf
      simp only [dev] at ihf ⊢
      have : Par (Tm.app .k m') (Tm.app .k (dev m)) := ihf
      obtain ⟨m2, e, h2⟩ := par_k this
      injection e with e1 e2
      subst e2
      exact .k _ h2
    · by_cases h2 : ∃ m n, f = Tm.app (Tm.app .s m) n
      · obtain ⟨m, n, rfl⟩ := h2
        obtain ⟨m', n', rfl, hm, hn⟩ := par_s2 hf
        have hd : dev (Tm.app (Tm.app .s m) n) = Tm.app (Tm.app .s (dev m)) (dev n) := by
          rw [dev_app (by intro _ e; injection e with e1 e2; injection e1) (by intro _ _ e; injection e with e1 e2; injection e1)]
          rw [dev_app (by intro _ e; injection e) (by intro _ _ e; injection e)]
          rfl
        rw [hd] at ihf
        obtain ⟨m2, n2, e, g1, g2⟩ := par_s2 ihf
        injection e with e1 e2
        injection e1 with e3 e4
        subst e4; subst e2
        simp only [dev]
        exact .s g1 g2 iha
      · rw [dev_app (fun m e => h1 ⟨m, e⟩) (fun m n e => h2 ⟨m, n, e⟩)]
        exact .app ihf iha
  | k n hm ih => simp only [dev]; exact ih
  | s hm hn hp ihm ihn ihp => simp only [dev]; exact .app (.app ihm ihp) (.app ihn ihp)

/-- Parallel steps, one after the other. -/
inductive Star : Tm → Tm → Prop where
  | refl (t : Tm) : Star t t
  | tail {t u v : Tm} (h : Star t u) (p : Par u v) : Star t v

theorem Star.trans {t u v : Tm} (h : Star t u) (g : Star u v) : Star t v := by
  induction g with
  | refl => exact h
  | tail _ p ih => exact .tail ih p
theorem Star.one {t u : Tm} (p : Par t u) : Star t u := .tail (.refl _) p

theorem strip {t u v : Tm} (p : Par t u) (h : Star t v) : ∃ w, Star u w ∧ Par v w := by
  induction h with
  | refl => exact ⟨u, .refl _, p⟩
  | @tail x y h q ih =>
    obtain ⟨w, hw, pw⟩ := ih
    exact ⟨dev x, hw.tail (par_dev pw), par_dev q⟩

theorem confluent {t u v : Tm} (h : Star t u) (g : Star t v) : ∃ w, Star u w ∧ Star v w := by
  induction h with
  | refl => exact ⟨v, g, .refl _⟩
  | tail _ p ih =>
    obtain ⟨w, hw, gw⟩ := ih
    obtain ⟨z, hz, pz⟩ := strip p hw
    exact ⟨z, hz, gw.tail pz⟩

theorem Star.app {f f' a a' : Tm} (hf : Star f f') (ha : Star a a') : Star (app f a) (app f' a') := by
  have h1 : Star (Tm.app f a) (Tm.app f' a) := by
    induction hf with
    | refl => exact .refl _
    | tail _ p ih => exact ih.tail (.app p (.refl _))
  refine h1.trans ?_
  induction ha with
  | refl => exact .refl _
  | tail _ p ih => exact ih.tail (.app (.refl _) p)

theorem par_put (n : List UInt8) (b : Tm) {t u : Tm} (h : Par t u) : Par (put t n b) (put u n b) := by
  induction h with
  | refl => exact .refl _
  | app _ _ ihf iha => exact .app ihf iha
  | k x _ ih => exact .k _ ih
  | s _ _ _ ihm ihn ihp => exact .s ihm ihn ihp

theorem Star.put (n : List UInt8) (b : Tm) {t u : Tm} (h : Star t u) : Star (put t n b) (put u n b) := by
  induction h with
  | refl => exact .refl _
  | tail _ p ih => exact ih.tail (par_put n b p)

theorem redex_par {t u : Tm} (h : redex t = some u) : Par t u := by
  unfold redex at h
  split at h
  · obtain rfl := Option.some.inj h; exact .k _ (.refl _)
  · obtain rfl := Option.some.inj h; exact .s (.refl _) (.refl _) (.refl _)
  · simp at h

theorem step_par {t u : Tm} : step t = some u → Par t u := by
  induction t generalizing u with
  | app f a ihf iha =>
    intro h
    simp only [step] at h
    split at h
    · rename_i r hr; obtain rfl := Option.some.inj h; exact redex_par hr
    · split at h
      · rename_i f' hf; obtain rfl := Option.some.inj h; exact .app (ihf hf) (.refl _)
      · split at h
        · rename_i a' ha; obtain rfl := Option.some.inj h; exact .app (.refl _) (iha ha)
        · simp at h
  | _ => intro h; simp [step] at h

theorem step_none {f a : Tm} (h : step (app f a) = none) : redex (app f a) = none ∧ step f = none ∧ step a = none := by
  simp only [step] at h
  split at h
  · simp at h
  · rename_i h1
    split at h
    · simp at h
    · rename_i h2
      split at h
      · simp at h
      · rename_i h3; exact ⟨h1, h2, h3⟩

theorem normal_par {t u : Tm} (h : Par t u) : step t = none → u = t := by
  induction h with
  | refl => intro _; rfl
  | app _ _ ihf iha => intro h; obtain ⟨_, h2, h3⟩ := step_none h; rw [ihf h2, iha h3]
  | k n _ _ => intro h; have := (step_none h).1; simp [redex] at this
  | s _ _ _ _ _ _ => intro h; have := (step_none h).1; simp [redex] at this

theorem normal_star {t u : Tm} (h : Star t u) (hn : step t = none) : u = t := by
  induction h with
  | refl => rfl
  | tail _ p ih => subst ih; exact normal_par p hn

/-- A term comes to one normal term alone. -/
theorem normal_one {t u v : Tm} (h : Star t u) (g : Star t v) (hu : step u = none) (hv : step v = none) : u = v := by
  obtain ⟨w, hw, gw⟩ := confluent h g
  rw [← normal_star hw hu, normal_star gw hv]

/-- What comes to a normal term still comes to it behind steps. -/
theorem normal_behind {t u v : Tm} (h : Star t u) (g : Star t v) (hu : step u = none) : Star v u := by
  obtain ⟨w, hw, gw⟩ := confluent h g
  rw [normal_star hw hu] at gw
  exact gw

/-! ### what steps keep -/

theorem par_has {t u : Tm} (h : Par t u) (n : List UInt8) : has n u = true → has n t = true := by
  induction h with
  | refl => exact id
  | app _ _ ihf iha => simp only [has, Bool.or_eq_true]; exact fun h => h.elim (fun h => Or.inl (ihf h)) (fun h => Or.inr (iha h))
  | k x _ ih => intro h; simp [has, ih h]
  | s _ _ _ ihm ihn ihp =>
    simp only [has, Bool.or_eq_true]
    rintro ((h | h) | (h | h))
    · exact Or.inl (Or.inl (Or.inr (ihm h)))
    · exact Or.inr (ihp h)
    · exact Or.inl (Or.inr (ihn h))
    · exact Or.inr (ihp h)

theorem par_good {t u : Tm} (h : Par t u) : good t = true → good u = true := by
  induction h with
  | refl => exact id
  | app _ _ ihf iha => simp only [good, Bool.and_eq_true]; exact fun ⟨h1, h2⟩ => ⟨ihf h1, iha h2⟩
  | k x _ ih => simp only [good, Bool.and_eq_true]; exact fun ⟨⟨_, h1⟩, _⟩ => ih h1
  | s _ _ _ ihm ihn ihp => simp only [good, Bool.and_eq_true]; exact fun ⟨⟨⟨_, h1⟩, h2⟩, h3⟩ => ⟨⟨ihm h1, ihp h3⟩, ihn h2, ihp h3⟩

theorem step_good {t u : Tm} (h : step t = some u) (hg : good t = true) : good u = true := par_good (step_par h) hg

theorem many_star (n : Nat) (t : Tm) : Star t (many n t).1 := by
  induction n generalizing t with
  | zero => exact .refl _
  | succ n ih =>
    simp only [many]
    split
    · rename_i t' h
      split
      · exact (Star.one (step_par h)).trans (ih t')
      · exact .refl _
    · exact .refl _

theorem many_good (n : Nat) (t : Tm) (hg : good t = true) (hf : fits t = true) : good (many n t).1 = true ∧ fits (many n t).1 = true := by
  induction n generalizing t with
  | zero => exact ⟨hg, hf⟩
  | succ n ih =>
    simp only [many]
    split
    · rename_i t' h
      split
      · rename_i h2; exact ih t' (step_good h hg) h2
      · exact ⟨hg, hf⟩
    · exact ⟨hg, hf⟩

theorem many_le (n : Nat) (t : Tm) : (many n t).2 ≤ n := by
  induction n generalizing t with
  | zero => exact Nat.le_refl _
  | succ n ih =>
    simp only [many]
    split
    · split
      · have := ih ‹Tm›; simp only; omega
      · exact Nat.zero_le _
    · exact Nat.zero_le _

/-- A step that is no larger than a term may be. -/
def stepFit (t : Tm) : Option Tm := match step t with
  | some t' => if fits t' then some t' else none
  | none => none

theorem many_succ (n : Nat) (t : Tm) : many (n + 1) t = match stepFit t with | some t' => ((many n t').1, (many n t').2 + 1) | none => (t, 0) := by
  simp only [many, stepFit]
  cases step t with
  | none => rfl
  | some t' => simp only; split <;> rfl

/-- One step more: behind n steps. -/
theorem many_next (n : Nat) (t : Tm) : many (n + 1) t = if (many n t).2 < n then many n t else match stepFit (many n t).1 with
    | some u => (u, n + 1)
    | none => many n t := by
  induction n generalizing t with
  | zero => rw [many_succ]; simp only [many]; cases stepFit t <;> rfl
  | succ n ih =>
    rw [many_succ]
    cases h : stepFit t with
    | none => simp [many_succ n t, h]
    | some t' =>
      simp only
      rw [ih t', many_succ n t, h]
      simp only [Nat.add_lt_add_iff_right]
      split
      · rfl
      · have := many_le n t'
        have e : (many n t').2 = n := by omega
        cases stepFit (many n t').1 with
        | none => rfl
        | some u => rfl

/-- With fewer steps than may be, there is no further one. -/
theorem many_short (n : Nat) (t : Tm) (h : (many n t).2 < n) : stepFit (many n t).1 = none := by
  induction n generalizing t with
  | zero => omega
  | succ n ih =>
    rw [many_succ] at h ⊢
    cases hs : stepFit t with
    | none => simp only; exact hs
    | some t' => rw [hs] at h; simp only at h ⊢; exact ih t' (by omega)

theorem many_normal (n : Nat) (t : Tm) (h : step t = none) : many n t = (t, 0) := by
  cases n with
  | zero => rfl
  | succ n => simp [many, h]

/-- So many steps are enough. -/
theorem many_again (n : Nat) (t : Tm) : many (many n t).2 t = many n t := by
  induction n generalizing t with
  | zero => rfl
  | succ n ih =>
    rw [many_succ]
    cases hs : stepFit t with
    | none => rfl
    | some t' => simp only; rw [many_succ, hs]; simp only; rw [ih t']

/-- The normal term of a term, and the number of steps. -/
def norm (t : Tm) : Option (Tm × Nat) := if step (many 6000 t).1 = none then some (many 6000 t) else none

theorem norm_star {t u : Tm} {n : Nat} (h : norm t = some (u, n)) : Star t u ∧ step u = none := by
  unfold norm at h
  split at h
  · rename_i h1
    have e := Option.some.inj h
    have e1 : (many 6000 t).1 = u := by rw [e]
    subst e1
    exact ⟨many_star _ _, h1⟩
  · simp at h

theorem norm_good {t u : Tm} {n : Nat} (h : norm t = some (u, n)) (hg : good t = true) (hf : fits t = true) : good u = true ∧ fits u = true := by
  unfold norm at h
  split at h
  · have e := Option.some.inj h
    have e1 : (many 6000 t).1 = u := by rw [e]
    subst e1
    exact many_good _ _ hg hf
  · simp at h

theorem norm_of_normal {t : Tm} (h : step t = none) : norm t = some (t, 0) := by
  unfold norm
  rw [many_normal _ _ h]
  simp [h]

end Tm
end Go.Proofs.YtfpekihdoclncaaGreat

namespace Go.Proofs.YtfpekihdoclncaaGreat
open Go.RowKit

/-- How many arguments are lacking to make a redex. -/
def Tm.lacks : Tm → Nat
  | .k => 2
  | .s => 3
  | .nm _ => 0
  | .app f _ => lacks f - 1

def Tm.normal : Tm → Bool
  | .app f a => (lacks f != 1) && (normal f && normal a)
  | _ => true

/-- A string of bytes. -/
abbrev str (l : List UInt8) : Value := .string ⟨l.toArray⟩

/-- The value v is the term t, in blocks from B on. -/
def TV (w : World) (B : Nat) : Tm → Value → Prop
  | .k, v => ∃ b fr, v = .iface 87 (.pointer (some ⟨b, 0, none⟩)) ∧ B ≤ b ∧ w.heap[b]? = some (.cells #[] 89 fr)
  | .s, v => ∃ b fr, v = .iface 90 (.pointer (some ⟨b, 0, none⟩)) ∧ B ≤ b ∧ w.heap[b]? = some (.cells #[] 91 fr)
  | .nm n, v => ∃ b fr, v = .iface 63 (.pointer (some ⟨b, 0, none⟩)) ∧ B ≤ b ∧ w.heap[b]? = some (.cells #[str n] 67 fr)
  | .app f a, v => ∃ b fr vf va, v = .iface 59 (.pointer (some ⟨b, 0, none⟩)) ∧ B ≤ b ∧
      w.heap[b]? = some (.cells #[vf, va, .int .i64 ((f.app a).size : Nat), .int .i64 ((f.app a).depth : Nat), .int .i64 ((f.app a).lacks : Nat), .bool (f.app a).normal] 62 fr) ∧ TV w B f vf ∧ TV w B a va

theorem TV.same {w w' : World} {B : Nat} (hs : ∀ b, B ≤ b → b < w.heap.size → w'.heap[b]? = w.heap[b]?) : ∀ {t : Tm} {v : Value}, TV w B t v → TV w' B t v
  | .k, _, ⟨b, fr, hv, hb, h⟩ => ⟨b, fr, hv, hb, by rw [hs b hb (Array.getElem?_eq_some_iff.1 h).1]; exact h⟩
  | .s, _, ⟨b, fr, hv, hb, h⟩ => ⟨b, fr, hv, hb, by rw [hs b hb (Array.getElem?_eq_some_iff.1 h).1]; exact h⟩
  | .nm _, _, ⟨b, fr, hv, hb, h⟩ => ⟨b, fr, hv, hb, by rw [hs b hb (Array.getElem?_eq_some_iff.1 h).1]; exact h⟩
  | .app _ _, _, ⟨b, fr, vf, va, hv, hb, h, hf, ha⟩ => ⟨b, fr, vf, va, hv, hb, by rw [hs b hb (Array.getElem?_eq_some_iff.1 h).1]; exact h, hf.same hs, ha.same hs⟩

theorem TV.below {w w' : World} {B : Nat} {t : Tm} {v : Value} (h : TV w B t v) (hb : Below w.heap.size w w') : TV w' B t v := h.same fun b _ hl => hb.block b hl

theorem TV.less {w : World} {B B' : Nat} (hB : B' ≤ B) : ∀ {t : Tm} {v : Value}, TV w B t v → TV w B' t v
  | .k, _, ⟨b, fr, hv, hb, h⟩ => ⟨b, fr, hv, Nat.le_trans hB hb, h⟩
  | .s, _, ⟨b, fr, hv, hb, h⟩ => ⟨b, fr, hv, Nat.le_trans hB hb, h⟩
  | .nm _, _, ⟨b, fr, hv, hb, h⟩ => ⟨b, fr, hv, Nat.le_trans hB hb, h⟩
  | .app _ _, _, ⟨b, fr, vf, va, hv, hb, h, hf, ha⟩ => ⟨b, fr, vf, va, hv, Nat.le_trans hB hb, h, hf.less hB, ha.less hB⟩

/-- A method of an interface value is this function with this receiver. -/
def Meth (w : World) (T : TypeId) (x : Value) (name : String) (f : FuncId) (y : Value) : Prop :=
  (method 265 T x name).run Tryz.prog w = .ok (f, y) w ∧ ∀ args w', (callFunc f args).run Tryz.prog w' = .ok (.enter f args) w'

theorem cell_of_heap {w : World} {b i : Nat} {cs : Array Value} {T : TypeId} {fr : Nat × Nat} (h : w.heap[b]? = some (.cells cs T fr)) : w.cell? ⟨b, i, none⟩ = cs[i]? := by
  simp [World.cell?, h]

/-! ### methods promoted through the embedded leaf -/

theorem meth_leaf {T S : TypeId} {fd : Field} {fs : Array Field} {cs : Array Value} {f : FuncId} {sig : TypeId} {name : String} {e n : Nat}
    (hm : (Tryz.prog.info? T).map (fun i => i.methods.find? (·.name == name)) = some (some { name := name, sig := sig, path := #[⟨S, 0, true⟩], func := some (f, false) }))
    (hS : Tryz.prog.underlying S = some (.struct fs)) (h0 : fs[0]? = some fd) (hfd : fd.type = 65) (hfo : fd.offset = 0) (hfb : fd.byteOffset = 0)
    (hc : Tryz.prog.cellsOf S = n) (hx : n = 0 ∨ byteOfCell Tryz.prog Tryz.prog.depth S 0 = some e)
    (b : Nat) (w : World) (fr : Nat × Nat) (h : w.heap[b]? = some (.cells cs S fr)) : (method 265 T (.pointer (some ⟨b, 0, none⟩)) name).run Tryz.prog w = .ok (f, .agg #[]) w := by
  obtain ⟨i, hi, hf⟩ := Option.map_eq_some_iff.1 hm
  have hz : (Tryz.prog.info? 65).map (·.size) = some 0 := by kernel_rfl
  obtain ⟨il, hil, hiz⟩ := Option.map_eq_some_iff.1 hz
  have hul : Tryz.prog.underlying 65 = some (.struct #[]) := by kernel_rfl
  have hb : ∀ w' : World, w'.heap = w.heap → (byteOf ⟨b, 0, none⟩).run Tryz.prog w' = .ok (if n = 0 then 0 else e) w' := by
    intro w' hw
    rcases hx with hx | hx
    · simp [go_sem, byteOf, noView, viewAt, World.shape?, hw, h, hc, hx]
    · by_cases hn : n = 0
      · simp [go_sem, byteOf, noView, viewAt, World.shape?, hw, h, hc, hn]
      · simp [go_sem, byteOf, noView, viewAt, World.shape?, hw, h, hc, hx, hn]
  rw [show (265 : Nat) = 264 + 1 from rfl]
  generalize 264 = fuel
  simp only [method]
  simp [go_sem, run_typeInfo, hi, hf, follow, run_underlying, hS, h0, asAddr, Place.get, loadVar, isAgg, hfd, fieldPlace, sizeOf, hil, hiz, hfo, hfb, partAt, hb, receiverAt, hul, loadCells, loadCellsFrom]

/-! ### which function a method is -/

theorem meth_kLetter_atoms (b : Nat) (w : World) (fr : Nat × Nat) (cs : Array Value) (h : w.heap[b]? = some (.cells cs 89 fr)) : Meth w 87 (.pointer (some ⟨b, 0, none⟩)) "loop.example/realizers/impl.atoms" 104 (.agg #[]) :=
  ⟨meth_leaf (e := 0) (n := 0) (sig := 58) (by kernel_rfl) Tryz.underlying89 rfl rfl rfl rfl (by kernel_rfl) (Or.inl rfl) b w fr h, fun _ _ => by kernel_rfl⟩
theorem meth_sLetter_atoms (b : Nat) (w : World) (fr : Nat × Nat) (cs : Array Value) (h : w.heap[b]? = some (.cells cs 91 fr)) : Meth w 90 (.pointer (some ⟨b, 0, none⟩)) "loop.example/realizers/impl.atoms" 104 (.agg #[]) :=
  ⟨meth_leaf (e := 0) (n := 0) (sig := 58) (by kernel_rfl) Tryz.underlying91 rfl rfl rfl rfl (by kernel_rfl) (Or.inl rfl) b w fr h, fun _ _ => by kernel_rfl⟩
theorem meth_nameAtom_atoms (b : Nat) (w : World) (fr : Nat × Nat) (cs : Array Value) (h : w.heap[b]? = some (.cells cs 67 fr)) : Meth w 63 (.pointer (some ⟨b, 0, none⟩)) "loop.example/realizers/impl.atoms" 104 (.agg #[]) :=
  ⟨meth_leaf (e := 0) (n := 1) (sig := 58) (by kernel_rfl) Tryz.underlying67 rfl rfl rfl rfl (by kernel_rfl) (Or.inr (by kernel_rfl)) b w fr h, fun _ _ => by kernel_rfl⟩
theorem meth_kLetter_nesting (b : Nat) (w : World) (fr : Nat × Nat) (cs : Array Value) (h : w.heap[b]? = some (.cells cs 89 fr)) : Meth w 87 (.pointer (some ⟨b, 0, none⟩)) "loop.example/realizers/impl.nesting" 108 (.agg #[]) :=
  ⟨meth_leaf (e := 0) (n := 0) (sig := 58) (by kernel_rfl) Tryz.underlying89 rfl rfl rfl rfl (by kernel_rfl) (Or.inl rfl) b w fr h, fun _ _ => by kernel_rfl⟩
theorem meth_sLetter_nesting (b : Nat) (w : World) (fr : Nat × Nat) (cs : Array Value) (h : w.heap[b]? = some (.cells cs 91 fr)) : Meth w 90 (.pointer (some ⟨b, 0, none⟩)) "loop.example/realizers/impl.nesting" 108 (.agg #[]) :=
  ⟨meth_leaf (e := 0) (n := 0) (sig := 58) (by kernel_rfl) Tryz.underlying91 rfl rfl rfl rfl (by kernel_rfl) (Or.inl rfl) b w fr h, fun _ _ => by kernel_rfl⟩
theorem meth_nameAtom_nesting (b : Nat) (w : World) (fr : Nat × Nat) (cs : Array Value) (h : w.heap[b]? = some (.cells cs 67 fr)) : Meth w 63 (.pointer (some ⟨b, 0, none⟩)) "loop.example/realizers/impl.nesting" 108 (.agg #[]) :=
  ⟨meth_leaf (e := 0) (n := 1) (sig := 58) (by kernel_rfl) Tryz.underlying67 rfl rfl rfl rfl (by kernel_rfl) (Or.inr (by kernel_rfl)) b w fr h, fun _ _ => by kernel_rfl⟩
theorem meth_kLetter_normal (b : Nat) (w : World) (fr : Nat × Nat) (cs : Array Value) (h : w.heap[b]? = some (.cells cs 89 fr)) : Meth w 87 (.pointer (some ⟨b, 0, none⟩)) "loop.example/realizers/impl.normal" 109 (.agg #[]) :=
  ⟨meth_leaf (e := 0) (n := 0) (sig := 60) (by kernel_rfl) Tryz.underlying89 rfl rfl rfl rfl (by kernel_rfl) (Or.inl rfl) b w fr h, fun _ _ => by kernel_rfl⟩
theorem meth_sLetter_normal (b : Nat) (w : World) (fr : Nat × Nat) (cs : Array Value) (h : w.heap[b]? = some (.cells cs 91 fr)) : Meth w 90 (.pointer (some ⟨b, 0, none⟩)) "loop.example/realizers/impl.normal" 109 (.agg #[]) :=
  ⟨meth_leaf (e := 0) (n := 0) (sig := 60) (by kernel_rfl) Tryz.underlying91 rfl rfl rfl rfl (by kernel_rfl) (Or.inl rfl) b w fr h, fun _ _ => by kernel_rfl⟩
theorem meth_nameAtom_normal (b : Nat) (w : World) (fr : Nat × Nat) (cs : Array Value) (h : w.heap[b]? = some (.cells cs 67 fr)) : Meth w 63 (.pointer (some ⟨b, 0, none⟩)) "loop.example/realizers/impl.normal" 109 (.agg #[]) :=
  ⟨meth_leaf (e := 0) (n := 1) (sig := 60) (by kernel_rfl) Tryz.underlying67 rfl rfl rfl rfl (by kernel_rfl) (Or.inr (by kernel_rfl)) b w fr h, fun _ _ => by kernel_rfl⟩
theorem meth_kLetter_step (b : Nat) (w : World) (fr : Nat × Nat) (cs : Array Value) (h : w.heap[b]? = some (.cells cs 89 fr)) : Meth w 87 (.pointer (some ⟨b, 0, none⟩)) "loop.example/realizers/impl.step" 111 (.agg #[]) :=
  ⟨meth_leaf (e := 0) (n := 0) (sig := 113) (by kernel_rfl) Tryz.underlying89 rfl rfl rfl rfl (by kernel_rfl) (Or.inl rfl) b w fr h, fun _ _ => by kernel_rfl⟩
theorem meth_sLetter_step (b : Nat) (w : World) (fr : Nat × Nat) (cs : Array Value) (h : w.heap[b]? = some (.cells cs 91 fr)) : Meth w 90 (.pointer (some ⟨b, 0, none⟩)) "loop.example/realizers/impl.step" 111 (.agg #[]) :=
  ⟨meth_leaf (e := 0) (n := 0) (sig := 113) (by kernel_rfl) Tryz.underlying91 rfl rfl rfl rfl (by kernel_rfl) (Or.inl rfl) b w fr h, fun _ _ => by kernel_rfl⟩
theorem meth_nameAtom_step (b : Nat) (w : World) (fr : Nat × Nat) (cs : Array Value) (h : w.heap[b]? = some (.cells cs 67 fr)) : Meth w 63 (.pointer (some ⟨b, 0, none⟩)) "loop.example/realizers/impl.step" 111 (.agg #[]) :=
  ⟨meth_leaf (e := 0) (n := 1) (sig := 113) (by kernel_rfl) Tryz.underlying67 rfl rfl rfl rfl (by kernel_rfl) (Or.inr (by kernel_rfl)) b w fr h, fun _ _ => by kernel_rfl⟩
theorem meth_kLetter_listNames (b : Nat) (w : World) (fr : Nat × Nat) (cs : Array Value) (h : w.heap[b]? = some (.cells cs 89 fr)) : Meth w 87 (.pointer (some ⟨b, 0, none⟩)) "loop.example/realizers/impl.listNames" 114 (.agg #[]) :=
  ⟨meth_leaf (e := 0) (n := 0) (sig := 125) (by kernel_rfl) Tryz.underlying89 rfl rfl rfl rfl (by kernel_rfl) (Or.inl rfl) b w fr h, fun _ _ => by kernel_rfl⟩
theorem meth_sLetter_listNames (b : Nat) (w : World) (fr : Nat × Nat) (cs : Array Value) (h : w.heap[b]? = some (.cells cs 91 fr)) : Meth w 90 (.pointer (some ⟨b, 0, none⟩)) "loop.example/realizers/impl.listNames" 114 (.agg #[]) :=
  ⟨meth_leaf (e := 0) (n := 0) (sig := 125) (by kernel_rfl) Tryz.underlying91 rfl rfl rfl rfl (by kernel_rfl) (Or.inl rfl) b w fr h, fun _ _ => by kernel_rfl⟩
theorem meth_kLetter_lacks (a : Addr) (w : World) : Meth w 87 (.pointer (some a)) "loop.example/realizers/impl.lacks" 116 (.pointer (some a)) :=
  ⟨by kernel_rfl, fun _ _ => by kernel_rfl⟩
theorem meth_kLetter_fire (a : Addr) (w : World) : Meth w 87 (.pointer (some a)) "loop.example/realizers/impl.fire" 115 (.pointer (some a)) :=
  ⟨by kernel_rfl, fun _ _ => by kernel_rfl⟩
theorem meth_kLetter_write (a : Addr) (w : World) : Meth w 87 (.pointer (some a)) "loop.example/realizers/impl.write" 118 (.pointer (some a)) :=
  ⟨by kernel_rfl, fun _ _ => by kernel_rfl⟩
theorem meth_sLetter_lacks (a : Addr) (w : World) : Meth w 90 (.pointer (some a)) "loop.example/realizers/impl.lacks" 120 (.pointer (some a)) :=
  ⟨by kernel_rfl, fun _ _ => by kernel_rfl⟩
theorem meth_sLetter_fire (a : Addr) (w : World) : Meth w 90 (.pointer (some a)) "loop.example/realizers/impl.fire" 119 (.pointer (some a)) :=
  ⟨by kernel_rfl, fun _ _ => by kernel_rfl⟩
theorem meth_sLetter_write (a : Addr) (w : World) : Meth w 90 (.pointer (some a)) "loop.example/realizers/impl.write" 122 (.pointer (some a)) :=
  ⟨by kernel_rfl, fun _ _ => by kernel_rfl⟩
theorem meth_nameAtom_lacks (a : Addr) (w : World) : Meth w 63 (.pointer (some a)) "loop.example/realizers/impl.lacks" 106 (.pointer (some a)) :=
  ⟨by kernel_rfl, fun _ _ => by kernel_rfl⟩
theorem meth_nameAtom_fire (a : Addr) (w : World) : Meth w 63 (.pointer (some a)) "loop.example/realizers/impl.fire" 105 (.pointer (some a)) :=
  ⟨by kernel_rfl, fun _ _ => by kernel_rfl⟩
theorem meth_nameAtom_write (a : Addr) (w : World) : Meth w 63 (.pointer (some a)) "loop.example/realizers/impl.write" 112 (.pointer (some a)) :=
  ⟨by kernel_rfl, fun _ _ => by kernel_rfl⟩
theorem meth_nameAtom_listNames (a : Addr) (w : World) : Meth w 63 (.pointer (some a)) "loop.example/realizers/impl.listNames" 107 (.pointer (some a)) :=
  ⟨by kernel_rfl, fun _ _ => by kernel_rfl⟩
theorem meth_application_atoms (a : Addr) (w : World) : Meth w 59 (.pointer (some a)) "loop.example/realizers/impl.atoms" 95 (.pointer (some a)) :=
  ⟨by kernel_rfl, fun _ _ => by kernel_rfl⟩
theorem meth_application_nesting (a : Addr) (w : World) : Meth w 59 (.pointer (some a)) "loop.example/realizers/impl.nesting" 99 (.pointer (some a)) :=
  ⟨by kernel_rfl, fun _ _ => by kernel_rfl⟩
theorem meth_application_normal (a : Addr) (w : World) : Meth w 59 (.pointer (some a)) "loop.example/realizers/impl.normal" 100 (.pointer (some a)) :=
  ⟨by kernel_rfl, fun _ _ => by kernel_rfl⟩
theorem meth_application_step (a : Addr) (w : World) : Meth w 59 (.pointer (some a)) "loop.example/realizers/impl.step" 102 (.pointer (some a)) :=
  ⟨by kernel_rfl, fun _ _ => by kernel_rfl⟩
theorem meth_application_listNames (a : Addr) (w : World) : Meth w 59 (.pointer (some a)) "loop.example/realizers/impl.listNames" 98 (.pointer (some a)) :=
  ⟨by kernel_rfl, fun _ _ => by kernel_rfl⟩
theorem meth_application_lacks (a : Addr) (w : World) : Meth w 59 (.pointer (some a)) "loop.example/realizers/impl.lacks" 97 (.pointer (some a)) :=
  ⟨by kernel_rfl, fun _ _ => by kernel_rfl⟩
theorem meth_application_fire (a : Addr) (w : World) : Meth w 59 (.pointer (some a)) "loop.example/realizers/impl.fire" 96 (.pointer (some a)) :=
  ⟨by kernel_rfl, fun _ _ => by kernel_rfl⟩
theorem meth_application_write (a : Addr) (w : World) : Meth w 59 (.pointer (some a)) "loop.example/realizers/impl.write" 103 (.pointer (some a)) :=
  ⟨by kernel_rfl, fun _ _ => by kernel_rfl⟩
end Go.Proofs.YtfpekihdoclncaaGreat
