/-
  Plain mathematics of terms: names, what is put, steps, and that normal terms are reached in one way alone (by parallel steps). No program is named here.
-/
import Derived.Test.YtjgemiojjhfnoacTm
namespace Go.Proofs.Ytjgemiojjhfnoac
namespace Tm

/-! ### names -/

def names (acc : List (List UInt8)) : Tm → List (List UInt8)
  | nm n => if n ∈ acc then acc else acc ++ [n]
  | app f a => names (names acc f) a
  | _ => acc

def has (n : List UInt8) : Tm → Bool
  | nm m => decide (m = n)
  | app f a => has n f || has n a
  | _ => false

theorem mem_names (n : List UInt8) (t : Tm) : ∀ acc, n ∈ names acc t ↔ n ∈ acc ∨ has n t = true := by
  induction t with
  | k => simp [names, has]
  | s => simp [names, has]
  | nm m =>
    intro acc
    simp only [names, has, decide_eq_true_eq]
    split
    · constructor
      · exact Or.inl
      · rintro (h | rfl) <;> assumption
    · simp [eq_comm]
  | app f a ihf iha =>
    intro acc
    simp only [names, has, Bool.or_eq_true, iha, ihf, or_assoc]

theorem names_nodup (t : Tm) : ∀ acc, acc.Nodup → (names acc t).Nodup := by
  induction t with
  | k => intro acc h; exact h
  | s => intro acc h; exact h
  | nm m =>
    intro acc h
    simp only [names]
    split
    · exact h
    · rename_i hn
      refine List.nodup_append.2 ⟨h, by simp, ?_⟩
      intro a ha b hb
      simp at hb
      subst hb
      exact fun e => hn (e ▸ ha)
  | app f a ihf iha => intro acc h; exact iha _ (ihf _ h)

theorem names_len (t : Tm) : ∀ acc, (names acc t).length ≤ acc.length + size t := by
  induction t with
  | k => intro acc; simp [names]
  | s => intro acc; simp [names]
  | nm m => intro acc; simp only [names, size]; split <;> simp
  | app f a ihf iha => intro acc; simp only [names, size]; have := ihf acc; have := iha (names acc f); omega

/-! ### what is put -/

def put (t : Tm) (n : List UInt8) (by' : Tm) : Tm :=
  match t with
  | nm m => if m = n then by' else nm m
  | app f a => app (put f n by') (put a n by')
  | t => t

def uses (n : List UInt8) : Tm → Nat
  | nm m => if m = n then 1 else 0
  | app f a => uses n f + uses n a
  | _ => 0

theorem uses_le (n : List UInt8) (t : Tm) : uses n t ≤ size t := by
  induction t with
  | nm m => simp only [uses, size]; split <;> omega
  | app f a ihf iha => simp only [uses, size]; omega
  | _ => simp [uses]

theorem size_put (n : List UInt8) (b t : Tm) : size (put t n b) + uses n t = size t + uses n t * size b := by
  induction t with
  | nm m => simp only [put, uses]; split <;> simp [size]; omega
  | app f a ihf iha => simp only [put, uses, size, Nat.add_mul]; omega
  | _ => simp [put, uses]

theorem good_put (n : List UInt8) (b t : Tm) (hb : good b = true) (ht : good t = true) : good (put t n b) = true := by
  induction t with
  | nm m => simp only [put]; split <;> assumption
  | app f a ihf iha => simp only [good, Bool.and_eq_true] at ht; simp [put, good, ihf ht.1, iha ht.2]
  | _ => rfl

theorem put_none (n : List UInt8) (b t : Tm) (h : has n t = false) : put t n b = t := by
  induction t with
  | nm m => simp only [has, decide_eq_false_iff_not] at h; simp [put, h]
  | app f a ihf iha => simp only [has, Bool.or_eq_false_iff] at h; simp [put, ihf h.1, iha h.2]
  | _ => rfl

theorem has_put (n m : List UInt8) (b t : Tm) : has m (put t n b) = ((has m t && decide (m ≠ n)) || (has n t && has m b)) := by
  induction t with
  | nm x =>
    simp only [put, has]
    by_cases h : x = n
    · subst h
      by_cases h2 : x = m
      · subst h2; simp
      · simp [h2]
    · simp only [h, if_false, has, decide_false, Bool.false_and, Bool.or_false]
      by_cases h2 : x = m
      · subst h2; simp [h]
      · simp [h2]
  | app f a ihf iha =>
    simp only [put, has, ihf, iha]
    cases has m f <;> cases has m a <;> cases has n f <;> cases has n a <;> cases has m b <;> simp
  | _ => simp [put, has]

/-- With an atom put for a name the other names stand as they stood. -/
theorem names_put (n : List UInt8) (b t : Tm) (hb0 : ∀ acc, names acc b = acc) : ∀ acc, names (acc.filter fun m => decide (m ≠ n)) (put t n b) = (names acc t).filter fun m => decide (m ≠ n) := by
  induction t with
  | k => intro acc; rfl
  | s => intro acc; rfl
  | nm x =>
    intro acc
    by_cases h : x = n
    · subst h
      simp only [put, if_true, hb0, names]
      split
      · rfl
      · simp [List.filter_append]
    · simp only [put, h, if_false, names, List.mem_filter, ne_eq, not_false_eq_true, decide_true, and_true]
      split
      · rfl
      · simp [List.filter_append, h]
  | app f a ihf iha => intro acc; simp only [put, names, ihf, iha]

/-! ### steps -/

/-- What a redex becomes. -/
def redex : Tm → Option Tm
  | app (app k m) _ => some m
  | app (app (app s m) n) p => some (app (app m p) (app n p))
  | _ => none

def step : Tm → Option Tm
  | app f a => match redex (app f a) with
    | some r => some r
    | none => match step f with
      | some f' => some (app f' a)
      | none => match step a with
        | some a' => some (app f a')
        | none => none
  | _ => none

/-- Steps, as many as there are, at most n; a step whose result is too large is none. -/
def many : Nat → Tm → Tm × Nat
  | 0, t => (t, 0)
  | n + 1, t => match step t with
    | some t' => if fits t' then ((many n t').1, (many n t').2 + 1) else (t, 0)
    | none => (t, 0)

/-- Parallel steps. -/
inductive Par : Tm → Tm → Prop where
  | refl (t : Tm) : Par t t
  | app {f f' a a' : Tm} (hf : Par f f') (ha : Par a a') : Par (app f a) (app f' a')
  | k {m m' : Tm} (n : Tm) (hm : Par m m') : Par (app (app k m) n) m'
  | s {m m' n n' p p' : Tm} (hm : Par m m') (hn : Par n n') (hp : Par p p') : Par (app (app (app s m) n) p) (app (app m' p') (app n' p'))

/-- All redexes at once. -/
def dev : Tm → Tm
  | app (app k m) _ => dev m
  | app (app (app s m) n) p => app (app (dev m) (dev p)) (app (dev n) (dev p))
  | app f a => app (dev f) (dev a)
  | t => t

theorem par_k {m u : Tm} (h : Par (app k m) u) : ∃ m', u = app k m' ∧ Par m m' := by
  cases h with
  | refl => exact ⟨m, rfl, .refl _⟩
  | app hf ha => cases hf; exact ⟨_, rfl, ha⟩

theorem par_s {m u : Tm} (h : Par (app s m) u) : ∃ m', u = app s m' ∧ Par m m' := by
  cases h with
  | refl => exact ⟨m, rfl, .refl _⟩
  | app hf ha => cases hf; exact ⟨_, rfl, ha⟩

theorem par_s2 {m n u : Tm} (h : Par (app (app s m) n) u) : ∃ m' n', u = app (app s m') n' ∧ Par m m' ∧ Par n n' := by
  cases h with
  | refl => exact ⟨m, n, rfl, .refl _, .refl _⟩
  | app hf ha => obtain ⟨m', rfl, hm⟩ := par_s hf; exact ⟨m', _, rfl, hm, ha⟩

theorem par_dev_self (t : Tm) : Par t (dev t) := by
  induction t using dev.induct with
  | case1 n m ih => simp only [dev]; exact .k _ ih
  | case2 m n p ihm ihp ihn => simp only [dev]; exact .s ihm ihn ihp
  | case3 f a h1 h2 ihf iha => simp only [dev]; exact .app ihf iha
  | case4 t h1 h2 h3 => cases t <;> first | exact .refl _ | exact absurd rfl (h3 _ _)

theorem dev_app {f a : Tm} (h1 : ∀ m, f ≠ app k m) (h2 : ∀ m n, f ≠ app (app s m) n) : dev (app f a) = app (dev f) (dev a) := by
  exact dev.eq_3 f a (fun m e => h1 m e) (fun m n e => h2 m n e)

theorem par_dev {t u : Tm} (h : Par t u) : Par u (dev t) := by
  induction h with
  | refl t => exact par_dev_self t
  | @app f f' a a' hf ha ihf iha =>
    by_cases h1 : ∃ m, f = Tm.app .k m
    · obtain ⟨m, rfl⟩ := h1
      obtain ⟨m', rfl, hm⟩ := par_k hf
      simp only [dev] at ihf ⊢
      have : Par (Tm.app .k m') (Tm.app .k (dev m)) := ihf
      obtain ⟨m2, e, h2⟩ := par_k this
      injection e with e1 e2
      subst e2
      exact .k _ h2
    · by_cases h2 : ∃ m n, f = Tm.app (Tm.app .s m) n
      · obtain ⟨m, n, rfl⟩ := h2
        obtain ⟨m', n', rfl, hm, hn⟩ := par_s2 hf
        have hd : dev (Tm.app (Tm.app .s m) n) = Tm.app (Tm.app .s (dev m)) (dev n) := by
          rw [dev_app (by intro _ e; injection e with e1 e2; injection e1) (by intro _ _ e; injection e with e1 e2; injection e1)]
          rw [dev_app (by intro _ e; injection e) (by intro _ _ e; injection e)]
          rfl
        rw [hd] at ihf
        obtain ⟨m2, n2, e, g1, g2⟩ := par_s2 ihf
        injection e with e1 e2
        injection e1 with e3 e4
        subst e4; subst e2
        simp only [dev]
        exact .s g1 g2 iha
      · rw [dev_app (fun m e => h1 ⟨m, e⟩) (fun m n e => h2 ⟨m, n, e⟩)]
        exact .app ihf iha
  | k n hm ih => simp only [dev]; exact ih
  | s hm hn hp ihm ihn ihp => simp only [dev]; exact .app (.app ihm ihp) (.app ihn ihp)

/-- Parallel steps, one after the other. -/
inductive Star : Tm → Tm → Prop where
  | refl (t : Tm) : Star t t
  | tail {t u v : Tm} (h : Star t u) (p : Par u v) : Star t v

theorem Star.trans {t u v : Tm} (h : Star t u) (g : Star u v) : Star t v := by
  induction g with
  | refl => exact h
  | tail _ p ih => exact .tail ih p
theorem Star.one {t u : Tm} (p : Par t u) : Star t u := .tail (.refl _) p

theorem strip {t u v : Tm} (p : Par t u) (h : Star t v) : ∃ w, Star u w ∧ Par v w := by
  induction h with
  | refl => exact ⟨u, .refl _, p⟩
  | @tail x y h q ih =>
    obtain ⟨w, hw, pw⟩ := ih
    exact ⟨dev x, hw.tail (par_dev pw), par_dev q⟩

theorem confluent {t u v : Tm} (h : Star t u) (g : Star t v) : ∃ w, Star u w ∧ Star v w := by
  induction h with
  | refl => exact ⟨v, g, .refl _⟩
  | tail _ p ih =>
    obtain ⟨w, hw, gw⟩ := ih
    obtain ⟨z, hz, pz⟩ := strip p hw
    exact ⟨z, hz, gw.tail pz⟩

theorem Star.app {f f' a a' : Tm} (hf : Star f f') (ha : Star a a') : Star (app f a) (app f' a') := by
  have h1 : Star (Tm.app f a) (Tm.app f' a) := by
    induction hf with
    | refl => exact .refl _
    | tail _ p ih => exact ih.tail (.app p (.refl _))
  refine h1.trans ?_
  induction ha with
  | refl => exact .refl _
  | tail _ p ih => exact ih.tail (.app (.refl _) p)

theorem par_put (n : List UInt8) (b : Tm) {t u : Tm} (h : Par t u) : Par (put t n b) (put u n b) := by
  induction h with
  | refl => exact .refl _
  | app _ _ ihf iha => exact .app ihf iha
  | k x _ ih => exact .k _ ih
  | s _ _ _ ihm ihn ihp => exact .s ihm ihn ihp

theorem Star.put (n : List UInt8) (b : Tm) {t u : Tm} (h : Star t u) : Star (put t n b) (put u n b) := by
  induction h with
  | refl => exact .refl _
  | tail _ p ih => exact ih.tail (par_put n b p)

theorem redex_par {t u : Tm} (h : redex t = some u) : Par t u := by
  unfold redex at h
  split at h
  · obtain rfl := Option.some.inj h; exact .k _ (.refl _)
  · obtain rfl := Option.some.inj h; exact .s (.refl _) (.refl _) (.refl _)
  · simp at h

theorem step_par {t u : Tm} : step t = some u → Par t u := by
  induction t generalizing u with
  | app f a ihf iha =>
    intro h
    simp only [step] at h
    split at h
    · rename_i r hr; obtain rfl := Option.some.inj h; exact redex_par hr
    · split at h
      · rename_i f' hf; obtain rfl := Option.some.inj h; exact .app (ihf hf) (.refl _)
      · split at h
        · rename_i a' ha; obtain rfl := Option.some.inj h; exact .app (.refl _) (iha ha)
        · simp at h
  | _ => intro h; simp [step] at h

theorem step_none {f a : Tm} (h : step (app f a) = none) : redex (app f a) = none ∧ step f = none ∧ step a = none := by
  simp only [step] at h
  split at h
  · simp at h
  · rename_i h1
    split at h
    · simp at h
    · rename_i h2
      split at h
      · simp at h
      · rename_i h3; exact ⟨h1, h2, h3⟩

theorem normal_par {t u : Tm} (h : Par t u) : step t = none → u = t := by
  induction h with
  | refl => intro _; rfl
  | app _ _ ihf iha => intro h; obtain ⟨_, h2, h3⟩ := step_none h; rw [ihf h2, iha h3]
  | k n _ _ => intro h; have := (step_none h).1; simp [redex] at this
  | s _ _ _ _ _ _ => intro h; have := (step_none h).1; simp [redex] at this

theorem normal_star {t u : Tm} (h : Star t u) (hn : step t = none) : u = t := by
  induction h with
  | refl => rfl
  | tail _ p ih => subst ih; exact normal_par p hn

/-- A term comes to one normal term alone. -/
theorem normal_one {t u v : Tm} (h : Star t u) (g : Star t v) (hu : step u = none) (hv : step v = none) : u = v := by
  obtain ⟨w, hw, gw⟩ := confluent h g
  rw [← normal_star hw hu, normal_star gw hv]

/-- What comes to a normal term still comes to it behind steps. -/
theorem normal_behind {t u v : Tm} (h : Star t u) (g : Star t v) (hu : step u = none) : Star v u := by
  obtain ⟨w, hw, gw⟩ := confluent h g
  rw [normal_star hw hu] at gw
  exact gw

/-! ### what steps keep -/

theorem par_has {t u : Tm} (h : Par t u) (n : List UInt8) : has n u = true → has n t = true := by
  induction h with
  | refl => exact id
  | app _ _ ihf iha => simp only [has, Bool.or_eq_true]; exact fun h => h.elim (fun h => Or.inl (ihf h)) (fun h => Or.inr (iha h))
  | k x _ ih => intro h; simp [has, ih h]
  | s _ _ _ ihm ihn ihp =>
    simp only [has, Bool.or_eq_true]
    rintro ((h | h) | (h | h))
    · exact Or.inl (Or.inl (Or.inr (ihm h)))
    · exact Or.inr (ihp h)
    · exact Or.inl (Or.inr (ihn h))
    · exact Or.inr (ihp h)

theorem par_good {t u : Tm} (h : Par t u) : good t = true → good u = true := by
  induction h with
  | refl => exact id
  | app _ _ ihf iha => simp only [good, Bool.and_eq_true]; exact fun ⟨h1, h2⟩ => ⟨ihf h1, iha h2⟩
  | k x _ ih => simp only [good, Bool.and_eq_true]; exact fun ⟨⟨_, h1⟩, _⟩ => ih h1
  | s _ _ _ ihm ihn ihp => simp only [good, Bool.and_eq_true]; exact fun ⟨⟨⟨_, h1⟩, h2⟩, h3⟩ => ⟨⟨ihm h1, ihp h3⟩, ihn h2, ihp h3⟩

theorem step_good {t u : Tm} (h : step t = some u) (hg : good t = true) : good u = true := par_good (step_par h) hg

theorem many_star (n : Nat) (t : Tm) : Star t (many n t).1 := by
  induction n generalizing t with
  | zero => exact .refl _
  | succ n ih =>
    simp only [many]
    split
    · rename_i t' h
      split
      · exact (Star.one (step_par h)).trans (ih t')
      · exact .refl _
    · exact .refl _

theorem many_good (n : Nat) (t : Tm) (hg : good t = true) (hf : fits t = true) : good (many n t).1 = true ∧ fits (many n t).1 = true := by
  induction n generalizing t with
  | zero => exact ⟨hg, hf⟩
  | succ n ih =>
    simp only [many]
    split
    · rename_i t' h
      split
      · rename_i h2; exact ih t' (step_good h hg) h2
      · exact ⟨hg, hf⟩
    · exact ⟨hg, hf⟩

theorem many_le (n : Nat) (t : Tm) : (many n t).2 ≤ n := by
  induction n generalizing t with
  | zero => exact Nat.le_refl _
  | succ n ih =>
    simp only [many]
    split
    · split
      · have := ih ‹Tm›; simp only; omega
      · exact Nat.zero_le _
    · exact Nat.zero_le _

/-- A step that is no larger than a term may be. -/
def stepFit (t : Tm) : Option Tm := match step t with
  | some t' => if fits t' then some t' else none
  | none => none

theorem many_succ (n : Nat) (t : Tm) : many (n + 1) t = match stepFit t with | some t' => ((many n t').1, (many n t').2 + 1) | none => (t, 0) := by
  simp only [many, stepFit]
  cases step t with
  | none => rfl
  | some t' => simp only; split <;> rfl

/-- One step more: behind n steps. -/
theorem many_next (n : Nat) (t : Tm) : many (n + 1) t = if (many n t).2 < n then many n t else match stepFit (many n t).1 with
    | some u => (u, n + 1)
    | none => many n t := by
  induction n generalizing t with
  | zero => rw [many_succ]; simp only [many]; cases stepFit t <;> rfl
  | succ n ih =>
    rw [many_succ]
    cases h : stepFit t with
    | none => simp [many_succ n t, h]
    | some t' =>
      simp only
      rw [ih t', many_succ n t, h]
      simp only [Nat.add_lt_add_iff_right]
      split
      · rfl
      · have := many_le n t'
        have e : (many n t').2 = n := by omega
        cases stepFit (many n t').1 with
        | none => rfl
        | some u => rfl

/-- With fewer steps than may be, there is no further one. -/
theorem many_short (n : Nat) (t : Tm) (h : (many n t).2 < n) : stepFit (many n t).1 = none := by
  induction n generalizing t with
  | zero => omega
  | succ n ih =>
    rw [many_succ] at h ⊢
    cases hs : stepFit t with
    | none => simp only; exact hs
    | some t' => rw [hs] at h; simp only at h ⊢; exact ih t' (by omega)

theorem many_normal (n : Nat) (t : Tm) (h : step t = none) : many n t = (t, 0) := by
  cases n with
  | zero => rfl
  | succ n => simp [many, h]

/-- So many steps are enough. -/
theorem many_again (n : Nat) (t : Tm) : many (many n t).2 t = many n t := by
  induction n generalizing t with
  | zero => rfl
  | succ n ih =>
    rw [many_succ]
    cases hs : stepFit t with
    | none => rfl
    | some t' => simp only; rw [many_succ, hs]; simp only; rw [ih t']

/-- The normal term of a term, and the number of steps. -/
def norm (t : Tm) : Option (Tm × Nat) := if step (many 6000 t).1 = none then some (many 6000 t) else none

theorem norm_star {t u : Tm} {n : Nat} (h : norm t = some (u, n)) : Star t u ∧ step u = none := by
  unfold norm at h
  split at h
  · rename_i h1
    have e := Option.some.inj h
    have e1 : (many 6000 t).1 = u := by rw [e]
    subst e1
    exact ⟨many_star _ _, h1⟩
  · simp at h

theorem norm_good {t u : Tm} {n : Nat} (h : norm t = some (u, n)) (hg : good t = true) (hf : fits t = true) : good u = true ∧ fits u = true := by
  unfold norm at h
  split at h
  · have e := Option.some.inj h
    have e1 : (many 6000 t).1 = u := by rw [e]
    subst e1
    exact many_good _ _ hg hf
  · simp at h

theorem norm_of_normal {t : Tm} (h : step t = none) : norm t = some (t, 0) := by
  unfold norm
  rw [many_normal _ _ h]
  simp [h]

end Tm
end Go.Proofs.Ytjgemiojjhfnoac
