/-
  Codes in plain mathematics: the code of a term, the interpreter, the joiner, the quoter; what the functions of chapter 4 answer.
-/
import Derived.Test.YtjomocjlnjgkeaaPkAS
import Derived.Test.YtjomocjlnjgkeaaPkAT
import Derived.Test.YtjomocjlnjgkeaaPkAL
namespace Go.Proofs.Ytjomocjlnjgkeaa

namespace Tm
def U : Tm := .nm [117]
def VV : Tm := .nm [118]
def kC : Tm := abs [120] (abs [121] (abs [122] X))
def sC : Tm := abs [120] (abs [121] (abs [122] Y))
def appC (f a : Tm) : Tm := app k (app k (pair f a))
/-- The code of a term; a name stands for any code. -/
def code : Tm → Tm
  | k => kC
  | s => sC
  | nm n => nm n
  | app f a => appC (code f) (code a)
def recC (a b c : Tm) : Tm := app fix (abs [117] (abs [118] (app (app (app VV a) b) (abs [120] (abs [121] c)))))
def runC : Tm := recC k s (app (app U X) (app U Y))
def joinC : Tm := abs [117] (abs [118] (abs [120] (abs [121] (abs [122] (app (app Z U) VV)))))
def quoteC : Tm := recC (code kC) (code sC) (app (app joinC (app (app joinC (code joinC)) (app U X))) (app U Y))

theorem kC_size : kC.size = 4 := by decide +kernel
theorem sC_size : sC.size = 2 := by decide +kernel
theorem code_size_le : ∀ t : Tm, (code t).size + 9 ≤ 13 * t.size
  | k => by rw [code, kC_size]; decide
  | s => by rw [code, sC_size]; decide
  | nm n => by simp [code, size]
  | app f a => by
    have := code_size_le f
    have := code_size_le a
    simp only [code, appC, size, size_pair]
    omega
/-- Codes of closed terms are large. -/
theorem code_size_ge : ∀ t : Tm, (∀ n, t ≠ nm n) → (∀ x ∈ names [] t, False) → 11 * t.size ≤ (code t).size + 9
  | k, _, _ => by rw [code, kC_size]; decide
  | s, _, _ => by rw [code, sC_size]; decide
  | nm n, h, _ => absurd rfl (h n)
  | app f a, _, h => by
    have hn : ∀ x, has x (app f a) = false := fun x => by
      cases hx : has x (app f a) with
      | false => rfl
      | true => exact (h x ((mem_names x (app f a) []).2 (Or.inr hx))).elim
    have hfa : ∀ x, has x f = false ∧ has x a = false := fun x => by have := hn x; simpa [has] using this
    have hf : ∀ x ∈ names [] f, False := fun x hx => by
      rcases (mem_names x f []).1 hx with h' | h'
      · cases h'
      · rw [(hfa x).1] at h'; cases h'
    have ha : ∀ x ∈ names [] a, False := fun x hx => by
      rcases (mem_names x a []).1 hx with h' | h'
      · cases h'
      · rw [(hfa x).2] at h'; cases h'
    have nf : ∀ n, f ≠ nm n := fun n e => by
      subst e
      have := (hfa n).1
      simp [has] at this
    have na : ∀ n, a ≠ nm n := fun n e => by
      subst e
      have := (hfa n).2
      simp [has] at this
    have := code_size_ge f nf hf
    have := code_size_ge a na ha
    simp only [code, appC, size, size_pair]
    omega
theorem code_good : ∀ t : Tm, t.good = true → (code t).good = true
  | k, _ => by decide +kernel
  | s, _ => by decide +kernel
  | nm n, h => h
  | app f a, h => by
    simp only [good, Bool.and_eq_true] at h
    simp only [code, appC, good, good_pair, code_good f h.1, code_good a h.2]
    rfl
/-- A closed term read from a text. -/
def closedOf (l : List UInt8) : Option Tm := match parse l with
  | some t => if (names [] t).isEmpty then some t else none
  | none => none
/-- The code of the closed term of a text, if it is a term. -/
def codeT (l : List UInt8) : Option Tm := match closedOf l with
  | some t => if (code t).fits then some (code t) else none
  | none => none
theorem closed_facts {l : List UInt8} {t : Tm} (h : closedOf l = some t) : parse l = some t ∧ names [] t = [] := by
  unfold closedOf at h
  cases hp : parse l with
  | none => rw [hp] at h; cases h
  | some u =>
    rw [hp] at h
    by_cases hn : (names [] u).isEmpty = true
    · simp only [hn, if_true] at h
      obtain rfl := Option.some.inj h
      exact ⟨rfl, List.isEmpty_iff.1 hn⟩
    · simp only [hn] at h
      cases h
theorem codeT_facts {l : List UInt8} {c : Tm} (h : codeT l = some c) : ∃ t, closedOf l = some t ∧ c = code t ∧ c.fits = true ∧ c.good = true := by
  unfold codeT at h
  cases hp : closedOf l with
  | none => rw [hp] at h; cases h
  | some u =>
    rw [hp] at h
    by_cases hn : (code u).fits = true
    · simp only [hn, if_true] at h
      obtain rfl := Option.some.inj h
      exact ⟨u, rfl, rfl, hn, code_good u (parse_facts (closed_facts hp).1).1⟩
    · simp only [hn] at h
      cases h
/-- What an application comes to, if it is a term. -/
def endOf (t : Tm) : Option Tm := if t.fits then t.norm.map Prod.fst else none
def pCodeOf (l : List UInt8) : Option (List UInt8) := (codeT l).map text
def pCodeRun (l : List UInt8) : Option (List UInt8) := (codeT l).bind fun c => (endOf (app runC c)).map text
def pCodeJoin (l m : List UInt8) : Option (List UInt8) := (codeT l).bind fun c => (codeT m).bind fun d => (endOf (app (app joinC c) d)).map text
def pCodeQuote (l : List UInt8) : Option (List UInt8) := (codeT l).bind fun c => (endOf (app runC (code c))).map text
def pFixOf (l : List UInt8) : Option (List UInt8) := (parse l).bind fun t => if (app fix t).fits then some (text (app fix t)) else none
def pFixApply (l m : List UInt8) : Option (List UInt8) := match parse l, parse m with
  | some t, some u => (endOf (app (app fix t) u)).map text
  | _, _ => none
def word (w : List UInt8) : Option Tm :=
  if w = [114, 117, 110] then some runC else if w = [106, 111, 105, 110] then some joinC else if w = [113, 117, 111, 116, 101] then some quoteC else none
def pWord (w : List UInt8) : Option (List UInt8) := (word w).map text
theorem word_good {w : List UInt8} {t : Tm} (h : word w = some t) : t.good = true ∧ t.text.length ≤ 100000 := by
  unfold word at h
  repeat' split at h
  all_goals first | (obtain rfl := Option.some.inj h; exact ⟨by decide +kernel, by decide +kernel⟩) | cases h
theorem endOf_eq (t : Tm) : endOf t = if t.fits = true then (if (t.many 6000).1.normal = true then some (t.many 6000).1 else none) else none := by
  unfold endOf
  rw [norm_eq]
  split
  · split <;> rfl
  · rfl
theorem endOf_facts {t u : Tm} (h : endOf t = some u) (hg : t.good = true) : u.good = true ∧ u.fits = true := by
  rw [endOf_eq] at h
  split at h
  · rename_i hf
    split at h
    · obtain rfl := Option.some.inj h
      exact many_good 6000 _ hg hf
    · cases h
  · cases h
end Tm
end Go.Proofs.Ytjomocjlnjgkeaa

namespace Go.Proofs.Ytjomocjlnjgkeaa
open Go.RowKit

set_option maxHeartbeats 1000000
set_option maxRecDepth 100000

theorem closed_if {l : List UInt8} {t : Tm} (hp : Tm.parse l = some t) : Tm.closedOf l = if (t.names []).length = 0 then some t else none := by
  unfold Tm.closedOf
  rw [hp]
  by_cases h0 : t.names [] = []
  · simp [h0]
  · have : ¬ (t.names []).length = 0 := fun e => h0 (List.length_eq_zero_iff.1 e)
    have h0' : (t.names []).isEmpty = false := by simpa using h0
    simp [h0', this]

theorem readClosed_any (w : World) (B : Nat) (l : List UInt8) (hB : B ≤ w.heap.size) (hl : l.length ≤ 1000000000) :
    Calls Try.prog 31 #[str l] w (DataPost w B (Tm.closedOf l)) := by
  have hread := readTerm_any w B l hB hl
  unfold ParsePost at hread
  cases hp : Tm.parse l with
  | none =>
    have hfin : Tm.closedOf l = none := by simp [Tm.closedOf, hp]
    rw [hp] at hread
    rw [hfin]
    clear hp hfin
    go_enter Try.func31, Try.ntmps31
    go_wp2_with (go_at_call 43; refine hread.mono ?_; rintro e w1 ⟨v1, rfl, hb1, hv1⟩; clear hv1)
    go_ret2
    exact ⟨_, rfl, hb1, fun t h => by cases h⟩
  | some t =>
    obtain ⟨hg, hf, hs, _, _⟩ := Tm.parse_facts hp
    rw [closed_if hp]
    rw [hp] at hread
    obtain ⟨k, hk⟩ : ∃ k, k = (t.names []).length := ⟨_, rfl⟩
    rw [← hk]
    have HK := Lib.hid hk
    clear hp hk
    by_cases hk0 : k = 0
    · subst hk0
      simp only [if_true]
      go_enter Try.func31, Try.ntmps31
      go_wp2_with fail
      refine hread.mono ?_
      rintro e w1 ⟨v1, rfl, hb1, hv1⟩
      have ht1 := hv1 t rfl
      have hn := namesOf_any w1 _ t v1 ht1 hg (by omega)
      have HT1 := Lib.hid ht1
      clear hv1 hread ht1
      go_wp2_with (go_at_call 57; refine hn.mono ?_; rintro e w2 ⟨sv, rfl, hb2, ho2⟩; rw [← HK.out] at ho2; obtain ⟨ao, ac, rfl⟩ := own_slice_len ho2; clear ho2)
      go_ret2
      exact ⟨_, rfl, below_trans hb1 hb2, fun t' h => by obtain rfl := Option.some.inj h; exact HT1.out.below hb2⟩
    · have hk1 : 0 < (k : Int) := by omega
      rw [if_neg hk0]
      go_enter Try.func31, Try.ntmps31
      go_wp2_with fail
      refine hread.mono ?_
      rintro e w1 ⟨v1, rfl, hb1, hv1⟩
      have hn := namesOf_any w1 _ t v1 (hv1 t rfl) hg (by omega)
      clear hv1 hread
      go_wp2_with (go_at_call 57; refine hn.mono ?_; rintro e w2 ⟨sv, rfl, hb2, ho2⟩; rw [← HK.out] at ho2; obtain ⟨ao, ac, rfl⟩ := own_slice_len ho2; clear ho2)
      go_ret2
      exact ⟨_, rfl, below_trans hb1 hb2, fun t h => by cases h⟩
end Go.Proofs.Ytjomocjlnjgkeaa
