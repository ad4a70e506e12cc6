/-
  Plain mathematics of more promises of chapters 1 and 2: normal terms, steps, application, equality, pairs, numerals.
-/
import Derived.Test.YtipmgfbncfkmiaaPromB
namespace Go.Proofs.Ytipmgfbncfkmiaa
namespace Tm

/-- What the text of a good term comes to. -/
theorem pNorm_text {T : Tm} {x : List UInt8} {j : Nat} (hg : T.good = true) (h : pNorm T.text = some (x, j)) : ∃ u, x = u.text ∧ Star T u ∧ step u = none ∧ u.good = true ∧ u.fits = true := by
  unfold pNorm at h
  cases hp : parse T.text with
  | none => rw [hp] at h; cases h
  | some T' =>
    rw [hp] at h
    obtain ⟨rfl, hf⟩ := parse_of_text hg hp
    simp only [Option.map_eq_some_iff] at h
    obtain ⟨⟨u, i⟩, hu, he⟩ := h
    simp only [Prod.mk.injEq] at he
    obtain ⟨rfl, rfl⟩ := he
    obtain ⟨h1, h2⟩ := norm_star hu
    obtain ⟨g1, g2⟩ := norm_good hu hg hf
    exact ⟨u, rfl, h1, h2, g1, g2⟩

/-- Two terms that have one term behind them come to the same. -/
theorem same_end {T U V : Tm} {x y : List UInt8} {i j : Nat} (hT : T.good = true) (hU : U.good = true) (h1 : Star T V) (h2 : Star U V) (hx : pNorm T.text = some (x, i)) (hy : pNorm U.text = some (y, j)) : x = y := by
  obtain ⟨a, rfl, sa, na, _, _⟩ := pNorm_text hT hx
  obtain ⟨b, rfl, sb, nb, _, _⟩ := pNorm_text hU hy
  rw [normal_one (normal_behind sa h1 na) (normal_behind sb h2 nb) na nb]

theorem parse_text_eq {T : Tm} (hg : T.good = true) : parse T.text = if T.fits = true then some T else none := by
  by_cases hf : T.fits = true
  · rw [if_pos hf]; exact parse_text hg hf
  · rw [if_neg hf]
    cases hp : parse T.text with
    | none => rfl
    | some u => exact (hf (parse_of_text hg hp).2).elim

theorem pApply_norm {l m : List UInt8} {t u : Tm} (h1 : parse l = some t) (h2 : parse m = some u) : pApply l m = (pNorm (app t u).text).map Prod.fst := by
  obtain ⟨_, g1, _⟩ := parse_text_iff h1
  obtain ⟨_, g2, _⟩ := parse_text_iff h2
  unfold pApply pNorm
  rw [h1, h2, parse_text_eq (T := app t u) (by simp [good, g1, g2])]
  simp only
  by_cases hf : (app t u).fits = true
  · simp only [hf, if_true, Option.map_map]; rfl
  · simp [hf]

theorem pApply_some {l m x : List UInt8} (h : pApply l m = some x) : ∃ t u i, parse l = some t ∧ parse m = some u ∧ l = t.text ∧ m = u.text ∧ t.good = true ∧ u.good = true ∧ pNorm (app t u).text = some (x, i) := by
  cases h1 : parse l with
  | none => simp [pApply, h1] at h
  | some t =>
    cases h2 : parse m with
    | none => simp [pApply, h1, h2] at h
    | some u =>
      rw [pApply_norm h1 h2, Option.map_eq_some_iff] at h
      obtain ⟨⟨y, i⟩, hy, rfl⟩ := h
      exact ⟨t, u, i, rfl, rfl, (parse_text_iff h1).1, (parse_text_iff h2).1, (parse_text_iff h1).2.1, (parse_text_iff h2).2.1, hy⟩

theorem pNorm_parse {l x : List UInt8} {i : Nat} (h : pNorm l = some (x, i)) : ∃ t, parse l = some t ∧ l = t.text ∧ t.good = true := by
  cases hp : parse l with
  | none => simp [pNorm, hp] at h
  | some t => exact ⟨t, rfl, (parse_text_iff hp).1, (parse_text_iff hp).2.1⟩

theorem pNorm_fit {T : Tm} {x : List UInt8} {i : Nat} (hg : T.good = true) (h : pNorm T.text = some (x, i)) : T.fits = true := by
  obtain ⟨t, ht, _, _⟩ := pNorm_parse h
  exact (parse_of_text hg ht).2

/-! ### normal terms, steps -/

theorem normal_facts {l : List UInt8} (h : pNormal l = true) : pStep l = none ∧ pNorm l = some (l, 0) := by
  unfold pNormal at h
  cases hp : parse l with
  | none => rw [hp] at h; cases h
  | some t =>
    rw [hp] at h
    have hn : step t = none := by simpa using h
    obtain ⟨rfl, hg, hf⟩ := parse_text_iff hp
    unfold pStep pNorm
    rw [hp]
    exact ⟨by simp [stepFit, hn], by simp [norm_of_normal hn]⟩

theorem normal_text {u : Tm} (hg : u.good = true) (hf : u.fits = true) (hs : step u = none) : pNormal u.text = true := by
  unfold pNormal
  rw [parse_text hg hf]
  simp [hs]

theorem normof_facts {l x : List UInt8} {m : Nat} (h : pNorm l = some (x, m)) : pMany l (m : Int) = some (x, m) ∧ pNormal x = true ∧ m ≤ 6000 ∧ x.length ≤ 21000 := by
  unfold pNorm at h
  cases hp : parse l with
  | none => rw [hp] at h; cases h
  | some t =>
    rw [hp] at h
    obtain ⟨rfl, hg, hf⟩ := parse_text_iff hp
    simp only [Option.map_eq_some_iff] at h
    obtain ⟨⟨u, i⟩, hu, he⟩ := h
    simp only [Prod.mk.injEq] at he
    obtain ⟨rfl, rfl⟩ := he
    obtain ⟨g1, g2⟩ := norm_good hu hg hf
    have hs := (norm_star hu).2
    have hm : many 6000 t = (u, i) := by
      unfold norm at hu
      split at hu
      · exact Option.some.inj hu
      · cases hu
    have hle := many_le 6000 t
    rw [hm] at hle
    have hag := many_again 6000 t
    rw [hm] at hag
    simp only at hle hag
    refine ⟨?_, normal_text g1 g2 hs, hle, (parse_facts (parse_text g1 g2)).2.2.2.2⟩
    unfold pMany
    rw [hp]
    simp only
    rw [if_pos ⟨by omega, by omega⟩, Int.toNat_natCast, hag]

theorem many_facts {l x : List UInt8} {n : Int} {g : Nat} (h : pMany l n = some (x, g)) (hn : n ≤ 100) :
    0 ≤ n ∧ (g : Int) ≤ n ∧ x.length ≤ 21000 ∧ ((pStep x = none ∧ pMany l (n + 1) = some (x, g)) ∨ ∃ z, pStep x = some z ∧ (g : Int) = n ∧ pMany l (n + 1) = some (z, g + 1)) := by
  unfold pMany at h
  cases hp : parse l with
  | none => rw [hp] at h; cases h
  | some t =>
    rw [hp] at h
    obtain ⟨rfl, hg, hf⟩ := parse_text_iff hp
    simp only at h
    split at h
    · rename_i hr
      obtain ⟨k, rfl⟩ := Int.eq_ofNat_of_zero_le hr.1
      simp only [Option.some.injEq, Prod.mk.injEq] at h
      obtain ⟨rfl, rfl⟩ := h
      obtain ⟨g1, g2⟩ := many_good k t hg hf
      have hle := many_le k t
      have hnx := many_next k t
      have hsh := many_short k t
      have hm1 : pMany t.text ((k : Int) + 1) = some ((many (k + 1) t).1.text, (many (k + 1) t).2) := by
        unfold pMany
        rw [hp]
        simp only
        rw [if_pos ⟨by omega, by omega⟩, show ((k : Int) + 1).toNat = k + 1 by omega]
      have hst : pStep (many k t).1.text = (stepFit (many k t).1).map text := by
        unfold pStep
        rw [parse_text g1 g2]
      simp only [Int.toNat_natCast]
      refine ⟨hr.1, by omega, (parse_facts (parse_text g1 g2)).2.2.2.2, ?_⟩
      rw [hm1, hst]
      cases hs : stepFit (many k t).1 with
      | none =>
        left
        rw [hs] at hnx
        have e : many (k + 1) t = many k t := by rw [hnx]; split <;> rfl
        rw [e]
        exact ⟨rfl, rfl⟩
      | some u =>
        right
        have hge : ¬ (many k t).2 < k := fun c => by rw [hsh c] at hs; cases hs
        rw [hs, if_neg hge] at hnx
        refine ⟨u.text, rfl, by omega, ?_⟩
        rw [hnx]
        have : k = (many k t).2 := by omega
        rw [← this]
    · cases h

/-! ### equality, application -/

theorem equal_facts {l m : List UInt8} (h : pEqual l m = true) : pEqual m l = true ∧ ∀ x y, pApply l [107] = some x → pApply m [107] = some y → x = y := by
  unfold pEqual at h
  cases hp : pNorm l with
  | none => rw [hp] at h; cases h
  | some p =>
    cases hq : pNorm m with
    | none => rw [hp, hq] at h; cases h
    | some q =>
      obtain ⟨a, i⟩ := p
      obtain ⟨b, j⟩ := q
      rw [hp, hq] at h
      have hab : a = b := by simpa using h
      subst hab
      refine ⟨?_, fun x y hx hy => ?_⟩
      · unfold pEqual
        rw [hp, hq]
        simp
      · obtain ⟨t, k1, i1, e1, k2, rfl, k3, gt, gk, n1⟩ := pApply_some hx
        obtain ⟨u, k1', i1', e1', k2', rfl, k3', gu, gk', n1'⟩ := pApply_some hy
        have hk : k1 = k := by have := parse_text (t := k) rfl rfl; rw [show text k = [107] from rfl] at this; rw [this] at k2; exact (Option.some.inj k2).symm
        have hk' : k1' = k := by have := parse_text (t := k) rfl rfl; rw [show text k = [107] from rfl] at this; rw [this] at k2'; exact (Option.some.inj k2').symm
        subst hk
        subst hk'
        obtain ⟨c, hc, sc, _, gc, _⟩ := pNorm_text gt hp
        obtain ⟨d, hd, sd, _, gd, _⟩ := pNorm_text gu hq
        have hcd : c = d := text_inj gc gd (hc.symm.trans hd)
        subst hcd
        exact same_end (V := app c k) (by simp [good, gt]) (by simp [good, gu]) (sc.app (.refl k)) (sd.app (.refl k)) n1 n1'

def kLM (l m : List UInt8) : List UInt8 := 40 :: ((40 :: ([107] ++ 32 :: (l ++ [41]))) ++ 32 :: (m ++ [41]))
def sLMW (l m : List UInt8) : List UInt8 := 40 :: ((40 :: ((40 :: ([115] ++ 32 :: (l ++ [41]))) ++ 32 :: (m ++ [41]))) ++ 32 :: ([119] ++ [41]))
def lWmW (l m : List UInt8) : List UInt8 := 40 :: ((40 :: (l ++ 32 :: ([119] ++ [41]))) ++ 32 :: ((40 :: (m ++ 32 :: ([119] ++ [41]))) ++ [41]))

theorem apply_facts {l m x : List UInt8} (h : pApply l m = some x) : pNormal x = true ∧ x.length ≤ 21000 ∧ (∀ a i b j, pNorm l = some (a, i) → pNorm (kLM l m) = some (b, j) → b = a) ∧
    ∀ a i b j, pNorm (sLMW l m) = some (a, i) → pNorm (lWmW l m) = some (b, j) → a = b := by
  obtain ⟨t, u, i, h1, h2, rfl, rfl, gt, gu, hn⟩ := pApply_some h
  have ga : (app t u).good = true := by simp [good, gt, gu]
  obtain ⟨v, rfl, sv, nv, gv, fv⟩ := pNorm_text ga hn
  refine ⟨normal_text gv fv nv, (parse_facts (parse_text gv fv)).2.2.2.2, fun a i b j ha hb => ?_, fun a i b j ha hb => ?_⟩
  · have hb' : pNorm (app (app k t) u).text = some (b, j) := hb
    exact same_end (V := t) (by simp [good, gt, gu]) gt (star_k t u) (.refl t) hb' ha
  · have gw : (nm [119]).good = true := by decide +kernel
    have ha' : pNorm (app (app (app s t) u) (nm [119])).text = some (a, i) := ha
    have hb' : pNorm (app (app t (nm [119])) (app u (nm [119]))).text = some (b, j) := hb
    exact same_end (V := app (app t (nm [119])) (app u (nm [119]))) (by simp [good, gt, gu] at gw ⊢; exact gw) (by simp [good, gt, gu] at gw ⊢; exact gw) (star_s t u _) (.refl _) ha' hb'
end Tm

theorem some_pair {α β : Type} {o : Option (α × β)} {x : α} {y : β} (h : o.isSome = true) : o = some ((o.map Prod.fst).getD x, (o.map Prod.snd).getD y) := by
  cases o with
  | none => cases h
  | some p => rfl
end Go.Proofs.Ytipmgfbncfkmiaa
