/-
  The values of function texts, with steps: az the program reckons them, and az the model does: both are the same. No program is named here.
-/
import Derived.Test.YtjfdindlfakmcaaFT
namespace Go.Proofs.Ytjfdindlfakmcaa
namespace FT

/-- The value may be at most 1000. -/
def chk : Option (Nat × Nat) → Option (Nat × Nat)
  | some (v, s) => if v ≤ 1000 then some (v, s) else none
  | none => none

/-- The rounds of (r F G): n rounds are left, i is the number, v the value, s the steps. -/
def loopR (g : List Nat → Nat → Option (Nat × Nat)) (rest : List Nat) : Nat → Nat → Nat → Nat → Option (Nat × Nat)
  | 0, _, v, s => some (v, s)
  | n + 1, i, v, s => match g (i :: v :: rest) s with
    | none => none
    | some (v', s') => loopR g rest n (i + 1) v' s'

/-- The rounds of (m F), the program's. -/
def loopM (f : List Nat → Nat → Option (Nat × Nat)) (rest : List Nat) : Nat → Nat → Nat → Option (Nat × Nat)
  | 0, _, _ => none
  | k + 1, n, s => match f (n :: rest) s with
    | none => none
    | some (v, s') => if v = 0 then some (n, s') else loopM f rest k (n + 1) s'

/-- The rounds of (m F), the model's. -/
def loopN (f : List Nat → Nat → Option (Nat × Nat)) (rest : List Nat) : Nat → Nat → Nat → Option (Nat × Nat)
  | 0, _, _ => none
  | k + 1, n, s => match f (n :: rest) s with
    | none => none
    | some (v, s') => if v = 0 then some (n, s') else if 1000 < n + 1 then none else loopN f rest k (n + 1) s'

/-- What the program reckons behind s steps. -/
def ev : FT → List Nat → Nat → Option (Nat × Nat)
  | z _, _, s => if 2000 < s + 1 then none else some (0, s + 1)
  | inc, az, s => if 2000 < s + 1 then none else chk (some (az.headD 0 + 1, s + 1))
  | p i _, az, s => if 2000 < s + 1 then none else chk (some (az.getD i 0, s + 1))
  | c1 f g, az, s => if 2000 < s + 1 then none else chk (match ev g az (s + 1) with
    | none => none
    | some (x, s1) => ev f [x] s1)
  | c2 f g h, az, s => if 2000 < s + 1 then none else chk (match ev g az (s + 1) with
    | none => none
    | some (x, s1) => match ev h az s1 with
      | none => none
      | some (y, s2) => ev f [x, y] s2)
  | c3 f g h i, az, s => if 2000 < s + 1 then none else chk (match ev g az (s + 1) with
    | none => none
    | some (x, s1) => match ev h az s1 with
      | none => none
      | some (y, s2) => match ev i az s2 with
        | none => none
        | some (t, s3) => ev f [x, y, t] s3)
  | r f g, az, s => if 2000 < s + 1 then none else chk (match ev f az.tail (s + 1) with
    | none => none
    | some (v, s1) => loopR (ev g) az.tail (az.headD 0) 0 v s1)
  | m f, az, s => if 2000 < s + 1 then none else chk (loopM (ev f) az 2001 0 (s + 1))

/-- What the model reckons behind s steps. -/
def mv : FT → List Nat → Nat → Option (Nat × Nat)
  | z _, _, s => if 2000 < s + 1 then none else some (0, s + 1)
  | inc, az, s => if 2000 < s + 1 then none else if 1000 ≤ az.headD 0 then none else some (az.headD 0 + 1, s + 1)
  | p i _, az, s => if 2000 < s + 1 then none else some (az.getD i 0, s + 1)
  | c1 f g, az, s => if 2000 < s + 1 then none else match mv g az (s + 1) with
    | none => none
    | some (x, s1) => mv f [x] s1
  | c2 f g h, az, s => if 2000 < s + 1 then none else match mv g az (s + 1) with
    | none => none
    | some (x, s1) => match mv h az s1 with
      | none => none
      | some (y, s2) => mv f [x, y] s2
  | c3 f g h i, az, s => if 2000 < s + 1 then none else match mv g az (s + 1) with
    | none => none
    | some (x, s1) => match mv h az s1 with
      | none => none
      | some (y, s2) => match mv i az s2 with
        | none => none
        | some (t, s3) => mv f [x, y, t] s3
  | r f g, az, s => if 2000 < s + 1 then none else match mv f az.tail (s + 1) with
    | none => none
    | some (v, s1) => loopR (mv g) az.tail (az.headD 0) 0 v s1
  | m f, az, s => if 2000 < s + 1 then none else loopN (mv f) az 2001 0 (s + 1)

theorem chk_some {o : Option (Nat × Nat)} {v s : Nat} (h : chk o = some (v, s)) : o = some (v, s) ∧ v ≤ 1000 := by
  cases o with
  | none => simp [chk] at h
  | some q =>
    obtain ⟨a, b⟩ := q
    simp only [chk] at h
    split at h
    · simp only [Option.some.injEq, Prod.mk.injEq] at h
      obtain ⟨rfl, rfl⟩ := h
      exact ⟨rfl, by assumption⟩
    · cases h

theorem chk_small {o : Option (Nat × Nat)} (h : ∀ v s, o = some (v, s) → v ≤ 1000) : chk o = o := by
  cases o with
  | none => rfl
  | some q => obtain ⟨a, b⟩ := q; simp [chk, h a b rfl]

/-- What a value and its steps keep. -/
structure Runs (o : Option (Nat × Nat)) (s : Nat) : Prop where
  small : ∀ v s', o = some (v, s') → v ≤ 1000 ∧ s < s' ∧ s' ≤ 2000

theorem loopR_facts {g : List Nat → Nat → Option (Nat × Nat)} (hg : ∀ az s, Runs (g az s) s) (rest : List Nat) : ∀ (n i v s v' s' : Nat), v ≤ 1000 → s ≤ 2000 → loopR g rest n i v s = some (v', s') → v' ≤ 1000 ∧ s ≤ s' ∧ s' ≤ 2000
  | 0, _, _, _, _, _, hv, hs, h => by
    simp only [loopR, Option.some.injEq, Prod.mk.injEq] at h
    obtain ⟨rfl, rfl⟩ := h
    exact ⟨hv, Nat.le_refl _, hs⟩
  | n + 1, i, v, s, v', s', hv, hs, h => by
    simp only [loopR] at h
    cases hq : g (i :: v :: rest) s with
    | none => rw [hq] at h; simp at h
    | some q =>
      obtain ⟨a, b⟩ := q
      rw [hq] at h
      have hr := (hg (i :: v :: rest) s).small a b hq
      have := loopR_facts hg rest n (i + 1) a b v' s' hr.1 hr.2.2 h
      exact ⟨this.1, by omega, this.2.2⟩

theorem loopM_facts {f : List Nat → Nat → Option (Nat × Nat)} (hf : ∀ az s, Runs (f az s) s) (rest : List Nat) : ∀ (k n s v' s' : Nat), loopM f rest k n s = some (v', s') → n ≤ v' ∧ s < s' ∧ s' ≤ 2000
  | 0, _, _, _, _, h => by simp [loopM] at h
  | k + 1, n, s, v', s', h => by
    simp only [loopM] at h
    cases hq : f (n :: rest) s with
    | none => rw [hq] at h; simp at h
    | some q =>
      obtain ⟨a, b⟩ := q
      rw [hq] at h
      have hr := (hf (n :: rest) s).small a b hq
      simp only at h
      split at h
      · simp only [Option.some.injEq, Prod.mk.injEq] at h
        obtain ⟨rfl, rfl⟩ := h
        exact ⟨Nat.le_refl _, hr.2.1, hr.2.2⟩
      · have := loopM_facts hf rest k (n + 1) b v' s' h
        exact ⟨by omega, by omega, this.2.2⟩

theorem loopN_facts {f : List Nat → Nat → Option (Nat × Nat)} (hf : ∀ az s, Runs (f az s) s) (rest : List Nat) : ∀ (k n s v' s' : Nat), n ≤ 1000 → loopN f rest k n s = some (v', s') → v' ≤ 1000
  | 0, _, _, _, _, _, h => by simp [loopN] at h
  | k + 1, n, s, v', s', hn, h => by
    simp only [loopN] at h
    cases hq : f (n :: rest) s with
    | none => rw [hq] at h; simp at h
    | some q =>
      obtain ⟨a, b⟩ := q
      rw [hq] at h
      simp only at h
      split at h
      · simp only [Option.some.injEq, Prod.mk.injEq] at h
        obtain ⟨rfl, rfl⟩ := h
        exact hn
      · split at h
        · cases h
        · exact loopN_facts hf rest k (n + 1) b v' s' (by omega) h

theorem ev_runs : ∀ (t : FT) (az : List Nat) (s : Nat), Runs (ev t az s) s
  | z _, az, s => ⟨fun v s' h => by
    simp only [ev] at h
    split at h
    · cases h
    · simp only [Option.some.injEq, Prod.mk.injEq] at h; omega⟩
  | inc, az, s => ⟨fun v s' h => by
    simp only [ev] at h
    split at h
    · cases h
    · obtain ⟨h, hv⟩ := chk_some h; simp only [Option.some.injEq, Prod.mk.injEq] at h; omega⟩
  | p _ _, az, s => ⟨fun v s' h => by
    simp only [ev] at h
    split at h
    · cases h
    · obtain ⟨h, hv⟩ := chk_some h; simp only [Option.some.injEq, Prod.mk.injEq] at h; omega⟩
  | c1 f g, az, s => ⟨fun v s' h => by
    simp only [ev] at h
    split at h
    · cases h
    · obtain ⟨h, hv⟩ := chk_some h
      cases hg : ev g az (s + 1) with
      | none => rw [hg] at h; simp at h
      | some q =>
        obtain ⟨x, s1⟩ := q
        rw [hg] at h
        have h1 := (ev_runs g az (s + 1)).small _ _ hg
        have h2 := (ev_runs f [x] s1).small _ _ h
        omega⟩
  | c2 f g k, az, s => ⟨fun v s' h => by
    simp only [ev] at h
    split at h
    · cases h
    · obtain ⟨h, hv⟩ := chk_some h
      cases hg : ev g az (s + 1) with
      | none => rw [hg] at h; simp at h
      | some q =>
        obtain ⟨x, s1⟩ := q
        rw [hg] at h
        simp only at h
        cases hk : ev k az s1 with
        | none => rw [hk] at h; simp at h
        | some q =>
          obtain ⟨y, s2⟩ := q
          rw [hk] at h
          have h1 := (ev_runs g az (s + 1)).small _ _ hg
          have h3 := (ev_runs k az s1).small _ _ hk
          have h2 := (ev_runs f [x, y] s2).small _ _ h
          omega⟩
  | c3 f g k l, az, s => ⟨fun v s' h => by
    simp only [ev] at h
    split at h
    · cases h
    · obtain ⟨h, hv⟩ := chk_some h
      cases hg : ev g az (s + 1) with
      | none => rw [hg] at h; simp at h
      | some q =>
        obtain ⟨x, s1⟩ := q
        rw [hg] at h
        simp only at h
        cases hk : ev k az s1 with
        | none => rw [hk] at h; simp at h
        | some q =>
          obtain ⟨y, s2⟩ := q
          rw [hk] at h
          simp only at h
          cases hl : ev l az s2 with
          | none => rw [hl] at h; simp at h
          | some q =>
            obtain ⟨u, s3⟩ := q
            rw [hl] at h
            have h1 := (ev_runs g az (s + 1)).small _ _ hg
            have h3 := (ev_runs k az s1).small _ _ hk
            have h4 := (ev_runs l az s2).small _ _ hl
            have h2 := (ev_runs f [x, y, u] s3).small _ _ h
            omega⟩
  | r f g, az, s => ⟨fun v s' h => by
    simp only [ev] at h
    split at h
    · cases h
    · obtain ⟨h, hv⟩ := chk_some h
      cases hg : ev f az.tail (s + 1) with
      | none => rw [hg] at h; simp at h
      | some q =>
        obtain ⟨x, s1⟩ := q
        rw [hg] at h
        have h1 := (ev_runs f az.tail (s + 1)).small _ _ hg
        have h2 := loopR_facts (ev_runs g) az.tail _ _ _ _ _ _ h1.1 h1.2.2 h
        omega⟩
  | m f, az, s => ⟨fun v s' h => by
    simp only [ev] at h
    split at h
    · cases h
    · obtain ⟨h, hv⟩ := chk_some h
      have h2 := loopM_facts (ev_runs f) az _ _ _ _ _ h
      omega⟩

theorem loopR_same {g g' : List Nat → Nat → Option (Nat × Nat)} (hg : ∀ az s, Runs (g az s) s) (rest : List Nat) (hr : ∀ a ∈ rest, a ≤ 1000) (he : ∀ az s, (∀ a ∈ az, a ≤ 1000) → g' az s = g az s) :
    ∀ (n i v s : Nat), v ≤ 1000 → i + n ≤ 1000 → loopR g' rest n i v s = loopR g rest n i v s
  | 0, _, _, _, _, _ => rfl
  | n + 1, i, v, s, hv, hi => by
    simp only [loopR]
    rw [he (i :: v :: rest) s (by simp; exact ⟨by omega, hv, hr⟩)]
    cases hq : g (i :: v :: rest) s with
    | none => rfl
    | some q =>
      obtain ⟨a, b⟩ := q
      exact loopR_same hg rest hr he n (i + 1) a b ((hg _ s).small _ _ hq).1 (by omega)

theorem loopN_same {f f' : List Nat → Nat → Option (Nat × Nat)} (hf : ∀ az s, Runs (f az s) s) (rest : List Nat) (hr : ∀ a ∈ rest, a ≤ 1000) (he : ∀ az s, (∀ a ∈ az, a ≤ 1000) → f' az s = f az s) :
    ∀ (k n s : Nat), n ≤ 1000 → loopN f' rest k n s = chk (loopM f rest k n s)
  | 0, _, _, _ => rfl
  | k + 1, n, s, hn => by
    simp only [loopN, loopM]
    rw [he (n :: rest) s (by simp; exact ⟨hn, hr⟩)]
    cases hq : f (n :: rest) s with
    | none => rfl
    | some q =>
      obtain ⟨a, b⟩ := q
      simp only
      split
      · simp [chk, hn]
      · split
        · cases hl : loopM f rest k (n + 1) b with
          | none => rfl
          | some q =>
            obtain ⟨c, d⟩ := q
            have := loopM_facts hf rest k (n + 1) b c d hl
            simp only [chk]
            rw [if_neg (by omega)]
        · exact loopN_same hf rest hr he k (n + 1) b (by omega)

theorem head_le {az : List Nat} (h : ∀ a ∈ az, a ≤ 1000) : az.headD 0 ≤ 1000 := by cases az with | nil => simp | cons a l => simpa using h a (by simp)
theorem tail_le {az : List Nat} (h : ∀ a ∈ az, a ≤ 1000) : ∀ a ∈ az.tail, a ≤ 1000 := fun a ha => h a (List.mem_of_mem_tail ha)
theorem get_le {az : List Nat} (h : ∀ a ∈ az, a ≤ 1000) (i : Nat) : az.getD i 0 ≤ 1000 := by
  rw [List.getD_eq_getElem?_getD]
  cases hg : az[i]? with
  | none => simp
  | some a => simpa using h a (List.mem_of_getElem? hg)

theorem mv_eq : ∀ (t : FT) (az : List Nat) (s : Nat), (∀ a ∈ az, a ≤ 1000) → mv t az s = ev t az s
  | z _, az, s, _ => rfl
  | inc, az, s, _ => by
    simp only [mv, ev, chk]
    split
    · rfl
    · by_cases h : 1000 ≤ az.headD 0
      · rw [if_pos h, if_neg (by omega)]
      · rw [if_neg h, if_pos (by omega)]
  | p i _, az, s, h => by simp only [mv, ev, chk]; rw [if_pos (get_le h i)]
  | c1 f g, az, s, h => by
    simp only [mv, ev]
    rw [mv_eq g az (s + 1) h]
    split
    · rfl
    · cases hg : ev g az (s + 1) with
      | none => rfl
      | some q =>
        obtain ⟨x, s1⟩ := q
        have h1 := (ev_runs g az (s + 1)).small _ _ hg
        simp only
        rw [mv_eq f [x] s1 (by simpa using h1.1), chk_small fun v s' e => ((ev_runs f [x] s1).small _ _ e).1]
  | c2 f g k, az, s, h => by
    simp only [mv, ev]
    rw [mv_eq g az (s + 1) h]
    split
    · rfl
    · cases hg : ev g az (s + 1) with
      | none => rfl
      | some q =>
        obtain ⟨x, s1⟩ := q
        have h1 := (ev_runs g az (s + 1)).small _ _ hg
        simp only
        rw [mv_eq k az s1 h]
        cases hk : ev k az s1 with
        | none => rfl
        | some q =>
          obtain ⟨y, s2⟩ := q
          have h2 := (ev_runs k az s1).small _ _ hk
          simp only
          rw [mv_eq f [x, y] s2 (by simpa using ⟨h1.1, h2.1⟩), chk_small fun v s' e => ((ev_runs f [x, y] s2).small _ _ e).1]
  | c3 f g k l, az, s, h => by
    simp only [mv, ev]
    rw [mv_eq g az (s + 1) h]
    split
    · rfl
    · cases hg : ev g az (s + 1) with
      | none => rfl
      | some q =>
        obtain ⟨x, s1⟩ := q
        have h1 := (ev_runs g az (s + 1)).small _ _ hg
        simp only
        rw [mv_eq k az s1 h]
        cases hk : ev k az s1 with
        | none => rfl
        | some q =>
          obtain ⟨y, s2⟩ := q
          have h2 := (ev_runs k az s1).small _ _ hk
          simp only
          rw [mv_eq l az s2 h]
          cases hl : ev l az s2 with
          | none => rfl
          | some q =>
            obtain ⟨u, s3⟩ := q
            have h3 := (ev_runs l az s2).small _ _ hl
            simp only
            rw [mv_eq f [x, y, u] s3 (by simpa using ⟨h1.1, h2.1, h3.1⟩), chk_small fun v s' e => ((ev_runs f [x, y, u] s3).small _ _ e).1]
  | r f g, az, s, h => by
    simp only [mv, ev]
    rw [mv_eq f az.tail (s + 1) (tail_le h)]
    split
    · rfl
    · cases hg : ev f az.tail (s + 1) with
      | none => rfl
      | some q =>
        obtain ⟨x, s1⟩ := q
        have h1 := (ev_runs f az.tail (s + 1)).small _ _ hg
        have hh := head_le h
        simp only
        rw [loopR_same (ev_runs g) az.tail (tail_le h) (fun az s h => mv_eq g az s h) _ _ _ _ h1.1 (by omega)]
        rw [chk_small fun v s' e => (loopR_facts (ev_runs g) az.tail _ _ _ _ _ _ h1.1 h1.2.2 e).1]
  | m f, az, s, h => by
    simp only [mv, ev]
    rw [loopN_same (ev_runs f) az h (fun az s h => mv_eq f az s h) _ _ _ (by omega)]

/-- FunctionValue: the value and the steps. -/
def pValue (l : List UInt8) (az : List Int) : Option (Nat × Nat) := match parse l with
  | some t => if az.length = arity t ∧ ∀ a ∈ az, 0 ≤ a ∧ a ≤ 60 then ev t (az.map Int.toNat) 0 else none
  | none => none

end FT
end Go.Proofs.Ytjfdindlfakmcaa
