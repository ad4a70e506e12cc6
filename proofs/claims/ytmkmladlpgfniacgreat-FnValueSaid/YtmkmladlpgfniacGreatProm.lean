/-
  Plain mathematics of the promises of chapters 1 and 2: texts tell terms apart; abstractions applied; data.
-/
import Derived.Test.YtmkmladlpgfniacGreatPkB
namespace Go.Proofs.YtmkmladlpgfniacGreat
namespace Tm

theorem text_inj {t u : Tm} (ht : t.good = true) (hu : u.good = true) (h : t.text = u.text) : t = u := by
  have h1 := read_of (l := t.text) (t := t) (d := max t.depth u.depth + 1) (i := 0) (r := []) (by simp) ht (by omega) (Or.inl rfl)
  have h2 := read_of (l := t.text) (t := u) (d := max t.depth u.depth + 1) (i := 0) (r := []) (by simp [h]) hu (by omega) (Or.inl rfl)
  rw [h1] at h2
  simp only [Option.some.injEq, Prod.mk.injEq] at h2
  exact h2.1


/-- What is read of the text of a term is that term. -/
theorem parse_of_text {t u : Tm} (hg : t.good = true) (h : parse t.text = some u) : u = t ∧ t.fits = true := by
  obtain ⟨h1, h2, h3⟩ := parse_iff.1 h
  have := text_inj h2 hg h1
  subst this
  exact ⟨rfl, h3⟩

theorem text_app (f a : Tm) : (app f a).text = 40 :: (f.text ++ 32 :: (a.text ++ [41])) := rfl

/-! ### names -/

theorem uses_has (x : List UInt8) : ∀ t : Tm, has x t = false ↔ uses x t = 0
  | nm n => by simp [has, uses]
  | app f a => by simp [has, uses, uses_has x f, uses_has x a]
  | k => by simp [has, uses]
  | s => by simp [has, uses]

theorem put_unused (x : List UInt8) (b : Tm) : ∀ {t : Tm}, uses x t = 0 → put t x b = t
  | nm n, h => by
    simp only [uses] at h
    split at h
    · simp at h
    · rename_i hn; simp [put, hn]
  | app f a, h => by simp only [uses] at h; simp [put, put_unused x b (t := f) (by omega), put_unused x b (t := a) (by omega)]
  | k, _ => rfl
  | s, _ => rfl

/-! ### abstractions applied -/

theorem star_k (m n : Tm) : Star (app (app k m) n) m := Star.one (.k n (.refl m))
theorem star_s (m n p : Tm) : Star (app (app (app s m) n) p) (app (app m p) (app n p)) := Star.one (.s (.refl m) (.refl n) (.refl p))
theorem star_i (a : Tm) : Star (app I a) a := (star_s k k a).trans (star_k a _)

theorem abs_star (x : List UInt8) (a : Tm) : ∀ t : Tm, Star (app (abs x t) a) (put t x a)
  | k => star_k _ _
  | s => star_k _ _
  | nm n => by
    by_cases hn : n = x
    · subst hn; simp only [abs, put, if_true]; exact star_i a
    · simp only [abs, put, hn, if_false]; exact star_k _ _
  | app f g => by
    simp only [abs]
    split
    · rename_i h; rw [put_unused x a h]; exact star_k _ _
    · split
      · rename_i h
        obtain ⟨h1, h2⟩ := h
        cases g with
        | nm n =>
          simp only [isNm, beq_iff_eq] at h1
          subst h1
          simp only [put, if_true, put_unused n a h2]
          exact .refl _
        | k => simp [isNm] at h1
        | s => simp [isNm] at h1
        | app _ _ => simp [isNm] at h1
      · exact (star_s _ _ _).trans ((abs_star x a f).app (abs_star x a g))

theorem pair_star (m n p : Tm) : Star (app (pair m n) p) (app (app p m) n) :=
  (star_s _ _ _).trans (((star_s _ _ _).trans ((star_i p).app (star_k m p))).app (star_k n p))

/-! ### numerals -/

theorem num_inj : ∀ {m n : Nat}, num m = num n → m = n := fun {m n} h => by
  have := congrArg size h
  rw [size_num, size_num] at this
  omega

theorem pair_normal {m n : Tm} (hm : step m = none) (hn : step n = none) : step (pair m n) = none := by
  simp [pair, step, redex, I, hm, hn]

theorem num_normal : ∀ n : Nat, step (num n) = none
  | 0 => by decide +kernel
  | n + 1 => pair_normal (by decide +kernel) (num_normal n)

theorem succ_star (n : Nat) : Star (app succ (num n)) (num (n + 1)) := abs_star [120] (num n) (pair no X)

theorem pred_star (n : Nat) : Star (app pred (num (n + 1))) (num n) := by
  have h := abs_star [120] (num (n + 1)) (app (app (app X .k) I) (app X no))
  have e : put (app (app (app X .k) I) (app X no)) [120] (num (n + 1)) = app (app (app (num (n + 1)) .k) I) (app (num (n + 1)) no) := rfl
  rw [e] at h
  have h1 : Star (app (num (n + 1)) k) no := (pair_star no (num n) k).trans (star_k _ _)
  have h2 : Star (app (num (n + 1)) no) (num n) := (pair_star no (num n) no).trans (((star_k I no).app (.refl _)).trans (star_i _))
  exact h.trans ((((h1.app (.refl I)).trans (star_k I I)).app h2).trans (star_i _))

theorem norm_unique {t u v : Tm} {n : Nat} (h : norm t = some (u, n)) (g : Star t v) (hv : step v = none) : u = v := by
  obtain ⟨h1, h2⟩ := norm_star h
  exact normal_one h1 g h2 hv

end Tm
end Go.Proofs.YtmkmladlpgfniacGreat
