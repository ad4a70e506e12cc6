/-
  The walks of two promises' laws: closed terms; data: whatever the code, the law returns true.
-/
import Derived.Test.YtfpekihdoclncaaGreatPkBJ
import Derived.Test.YtfpekihdoclncaaGreatPkBI
namespace Go.Proofs.YtfpekihdoclncaaGreat
open Go.RowKit

set_option maxHeartbeats 1000000
set_option maxRecDepth 100000

namespace Tm
theorem star_has {t u : Tm} (h : Star t u) (n : List UInt8) : has n u = true → has n t = true := by
  induction h with
  | refl => exact id
  | tail _ p ih => exact fun hu => ih (par_has p n hu)

theorem names_nil {t : Tm} : names [] t = [] ↔ ∀ n, has n t = false := by
  rw [List.eq_nil_iff_forall_not_mem]
  constructor
  · intro h n
    have := h n
    rw [mem_names] at this
    simpa using this
  · intro h n
    rw [mem_names]
    simp [h n]

theorem closed_text {t : Tm} (hg : t.good = true) (hf : t.fits = true) (h : ∀ n, has n t = false) : pClosed t.text = true := by
  unfold pClosed
  rw [parse_text hg hf]
  simp [names_nil.2 h]

theorem closed_factsP {l : List UInt8} (h : pClosed l = true) : pPut l [120] [107] = some l ∧ ∀ y n, pNorm l = some (y, n) → pClosed y = true ∧ y.length ≤ 21000 := by
  unfold pClosed at h
  cases hp : parse l with
  | none => rw [hp] at h; simp at h
  | some t =>
    rw [hp] at h
    obtain ⟨rfl, hg, hf⟩ := parse_text_iff hp
    have h0 : names [] t = [] := by simpa using h
    have hn := names_nil.1 h0
    refine ⟨?_, fun y n hy => ?_⟩
    · unfold pPut
      rw [hp, show parse [107] = some k from parse_text (t := k) rfl rfl]
      simp only
      rw [put_none _ _ _ (hn _), hf, if_pos (by decide +kernel)]
    · unfold pNorm at hy
      rw [hp] at hy
      simp only [Option.map_eq_some_iff] at hy
      obtain ⟨⟨u, m⟩, hu, he⟩ := hy
      simp only [Prod.mk.injEq] at he
      obtain ⟨rfl, rfl⟩ := he
      obtain ⟨g1, g2⟩ := norm_good hu hg hf
      refine ⟨closed_text g1 g2 fun n => ?_, (parse_facts (parse_text g1 g2)).2.2.2.2⟩
      cases hc : has n u with
      | false => rfl
      | true => have := star_has (norm_star hu).1 n hc; rw [hn n] at this; cases this

theorem pNorm_normal {t : Tm} (hg : t.good = true) (hf : t.fits = true) (h : step t = none) : (pNorm t.text).isSome = true := by
  unfold pNorm
  rw [parse_text hg hf]
  simp [norm_of_normal h]

theorem data_facts {l : List UInt8} {t : Tm} (h : data l = some t) : pClosed t.text = true ∧ ((l == [102, 105, 120]) = true ∨ ((l == [102, 105, 120]) = false ∧ (pNorm t.text).isSome = true)) := by
  obtain ⟨hg, hz⟩ := data_good h
  have hd := depth_lt t
  have hf : t.fits = true := by simp [fits]; omega
  refine ⟨?_, ?_⟩
  · unfold pClosed
    rw [parse_text hg hf]
    unfold data at h
    repeat' split at h
    all_goals first | (obtain rfl := Option.some.inj h; decide +kernel) | cases h
  · by_cases hl : l = [102, 105, 120]
    · left; simp [hl]
    · right
      refine ⟨by simp [hl], pNorm_normal hg hf ?_⟩
      unfold data at h
      repeat' split at h
      all_goals first | contradiction | (obtain rfl := Option.some.inj h; decide +kernel) | cases h
end Tm

end Go.Proofs.YtfpekihdoclncaaGreat

namespace Go.Proofs.YtfpekihdoclncaaGreat
namespace Tm

/-- What the text of a good term comes to. -/
theorem pNorm_text {T : Tm} {x : List UInt8} {j : Nat} (hg : T.good = true) (h : pNorm T.text = some (x, j)) : ∃ u, x = u.text ∧ Star T u ∧ step u = none ∧ u.good = true ∧ u.fits = true := by
  unfold pNorm at h
  cases hp : parse T.text with
  | none => rw [hp] at h; cases h
  | some T' =>
    rw [hp] at h
    obtain ⟨rfl, hf⟩ := parse_of_text hg hp
    simp only [Option.map_eq_some_iff] at h
    obtain ⟨⟨u, i⟩, hu, he⟩ := h
    simp only [Prod.mk.injEq] at he
    obtain ⟨rfl, rfl⟩ := he
    obtain ⟨h1, h2⟩ := norm_star hu
    obtain ⟨g1, g2⟩ := norm_good hu hg hf
    exact ⟨u, rfl, h1, h2, g1, g2⟩

/-- Two terms that have one term behind them come to the same. -/
theorem same_end {T U V : Tm} {x y : List UInt8} {i j : Nat} (hT : T.good = true) (hU : U.good = true) (h1 : Star T V) (h2 : Star U V) (hx : pNorm T.text = some (x, i)) (hy : pNorm U.text = some (y, j)) : x = y := by
  obtain ⟨a, rfl, sa, na, _, _⟩ := pNorm_text hT hx
  obtain ⟨b, rfl, sb, nb, _, _⟩ := pNorm_text hU hy
  rw [normal_one (normal_behind sa h1 na) (normal_behind sb h2 nb) na nb]

theorem parse_text_eq {T : Tm} (hg : T.good = true) : parse T.text = if T.fits = true then some T else none := by
  by_cases hf : T.fits = true
  · rw [if_pos hf]; exact parse_text hg hf
  · rw [if_neg hf]
    cases hp : parse T.text with
    | none => rfl
    | some u => exact (hf (parse_of_text hg hp).2).elim

theorem pApply_norm {l m : List UInt8} {t u : Tm} (h1 : parse l = some t) (h2 : parse m = some u) : pApply l m = (pNorm (app t u).text).map Prod.fst := by
  obtain ⟨_, g1, _⟩ := parse_text_iff h1
  obtain ⟨_, g2, _⟩ := parse_text_iff h2
  unfold pApply pNorm
  rw [h1, h2, parse_text_eq (T := app t u) (by simp [good, g1, g2])]
  simp only
  by_cases hf : (app t u).fits = true
  · simp only [hf, if_true, Option.map_map]; rfl
  · simp [hf]

theorem pApply_some {l m x : List UInt8} (h : pApply l m = some x) : ∃ t u i, parse l = some t ∧ parse m = some u ∧ l = t.text ∧ m = u.text ∧ t.good = true ∧ u.good = true ∧ pNorm (app t u).text = some (x, i) := by
  cases h1 : parse l with
  | none => simp [pApply, h1] at h
  | some t =>
    cases h2 : parse m with
    | none => simp [pApply, h1, h2] at h
    | some u =>
      rw [pApply_norm h1 h2, Option.map_eq_some_iff] at h
      obtain ⟨⟨y, i⟩, hy, rfl⟩ := h
      exact ⟨t, u, i, rfl, rfl, (parse_text_iff h1).1, (parse_text_iff h2).1, (parse_text_iff h1).2.1, (parse_text_iff h2).2.1, hy⟩

theorem pNorm_parse {l x : List UInt8} {i : Nat} (h : pNorm l = some (x, i)) : ∃ t, parse l = some t ∧ l = t.text ∧ t.good = true := by
  cases hp : parse l with
  | none => simp [pNorm, hp] at h
  | some t => exact ⟨t, rfl, (parse_text_iff hp).1, (parse_text_iff hp).2.1⟩

theorem pNorm_fit {T : Tm} {x : List UInt8} {i : Nat} (hg : T.good = true) (h : pNorm T.text = some (x, i)) : T.fits = true := by
  obtain ⟨t, ht, _, _⟩ := pNorm_parse h
  exact (parse_of_text hg ht).2

/-! ### normal terms, steps -/

theorem normal_facts {l : List UInt8} (h : pNormal l = true) : pStep l = none ∧ pNorm l = some (l, 0) := by
  unfold pNormal at h
  cases hp : parse l with
  | none => rw [hp] at h; cases h
  | some t =>
    rw [hp] at h
    have hn : step t = none := by simpa using h
    obtain ⟨rfl, hg, hf⟩ := parse_text_iff hp
    unfold pStep pNorm
    rw [hp]
    exact ⟨by simp [stepFit, hn], by simp [norm_of_normal hn]⟩

theorem normal_text {u : Tm} (hg : u.good = true) (hf : u.fits = true) (hs : step u = none) : pNormal u.text = true := by
  unfold pNormal
  rw [parse_text hg hf]
  simp [hs]

theorem normof_facts {l x : List UInt8} {m : Nat} (h : pNorm l = some (x, m)) : pMany l (m : Int) = some (x, m) ∧ pNormal x = true ∧ m ≤ 6000 ∧ x.length ≤ 21000 := by
  unfold pNorm at h
  cases hp : parse l with
  | none => rw [hp] at h; cases h
  | some t =>
    rw [hp] at h
    obtain ⟨rfl, hg, hf⟩ := parse_text_iff hp
    simp only [Option.map_eq_some_iff] at h
    obtain ⟨⟨u, i⟩, hu, he⟩ := h
    simp only [Prod.mk.injEq] at he
    obtain ⟨rfl, rfl⟩ := he
    obtain ⟨g1, g2⟩ := norm_good hu hg hf
    have hs := (norm_star hu).2
    have hm : many 6000 t = (u, i) := by
      unfold norm at hu
      split at hu
      · exact Option.some.inj hu
      · cases hu
    have hle := many_le 6000 t
    rw [hm] at hle
    have hag := many_again 6000 t
    rw [hm] at hag
    simp only at hle hag
    refine ⟨?_, normal_text g1 g2 hs, hle, (parse_facts (parse_text g1 g2)).2.2.2.2⟩
    unfold pMany
    rw [hp]
    simp only
    rw [if_pos ⟨by omega, by omega⟩, Int.toNat_natCast, hag]

theorem many_facts {l x : List UInt8} {n : Int} {g : Nat} (h : pMany l n = some (x, g)) (hn : n ≤ 100) :
    0 ≤ n ∧ (g : Int) ≤ n ∧ x.length ≤ 21000 ∧ ((pStep x = none ∧ pMany l (n + 1) = some (x, g)) ∨ ∃ z, pStep x = some z ∧ (g : Int) = n ∧ pMany l (n + 1) = some (z, g + 1)) := by
  unfold pMany at h
  cases hp : parse l with
  | none => rw [hp] at h; cases h
  | some t =>
    rw [hp] at h
    obtain ⟨rfl, hg, hf⟩ := parse_text_iff hp
    simp only at h
    split at h
    · rename_i hr
      obtain ⟨k, rfl⟩ := Int.eq_ofNat_of_zero_le hr.1
      simp only [Option.some.injEq, Prod.mk.injEq] at h
      obtain ⟨rfl, rfl⟩ := h
      obtain ⟨g1, g2⟩ := many_good k t hg hf
      have hle := many_le k t
      have hnx := many_next k t
      have hsh := many_short k t
      have hm1 : pMany t.text ((k : Int) + 1) = some ((many (k + 1) t).1.text, (many (k + 1) t).2) := by
        unfold pMany
        rw [hp]
        simp only
        rw [if_pos ⟨by omega, by omega⟩, show ((k : Int) + 1).toNat = k + 1 by omega]
      have hst : pStep (many k t).1.text = (stepFit (many k t).1).map text := by
        unfold pStep
        rw [parse_text g1 g2]
      simp only [Int.toNat_natCast]
      refine ⟨hr.1, by omega, (parse_facts (parse_text g1 g2)).2.2.2.2, ?_⟩
      rw [hm1, hst]
      cases hs : stepFit (many k t).1 with
      | none =>
        left
        rw [hs] at hnx
        have e : many (k + 1) t = many k t := by rw [hnx]; split <;> rfl
        rw [e]
        exact ⟨rfl, rfl⟩
      | some u =>
        right
        have hge : ¬ (many k t).2 < k := fun c => by rw [hsh c] at hs; cases hs
        rw [hs, if_neg hge] at hnx
        refine ⟨u.text, rfl, by omega, ?_⟩
        rw [hnx]
        have : k = (many k t).2 := by omega
        rw [← this]
    · cases h

/-! ### equality, application -/

theorem equal_facts {l m : List UInt8} (h : pEqual l m = true) : pEqual m l = true ∧ ∀ x y, pApply l [107] = some x → pApply m [107] = some y → x = y := by
  unfold pEqual at h
  cases hp : pNorm l with
  | none => rw [hp] at h; cases h
  | some p =>
    cases hq : pNorm m with
    | none => rw [hp, hq] at h; cases h
    | some q =>
      obtain ⟨a, i⟩ := p
      obtain ⟨b, j⟩ := q
      rw [hp, hq] at h
      have hab : a = b := by simpa using h
      subst hab
      refine ⟨?_, fun x y hx hy => ?_⟩
      · unfold pEqual
        rw [hp, hq]
        simp
      · obtain ⟨t, k1, i1, e1, k2, rfl, k3, gt, gk, n1⟩ := pApply_some hx
        obtain ⟨u, k1', i1', e1', k2', rfl, k3', gu, gk', n1'⟩ := pApply_some hy
        have hk : k1 = k := by have := parse_text (t := k) rfl rfl; rw [show text k = [107] from rfl] at this; rw [this] at k2; exact (Option.some.inj k2).symm
        have hk' : k1' = k := by have := parse_text (t := k) rfl rfl; rw [show text k = [107] from rfl] at this; rw [this] at k2'; exact (Option.some.inj k2').symm
        subst hk
        subst hk'
        obtain ⟨c, hc, sc, _, gc, _⟩ := pNorm_text gt hp
        obtain ⟨d, hd, sd, _, gd, _⟩ := pNorm_text gu hq
        have hcd : c = d := text_inj gc gd (hc.symm.trans hd)
        subst hcd
        exact same_end (V := app c k) (by simp [good, gt]) (by simp [good, gu]) (sc.app (.refl k)) (sd.app (.refl k)) n1 n1'

def kLM (l m : List UInt8) : List UInt8 := 40 :: ((40 :: ([107] ++ 32 :: (l ++ [41]))) ++ 32 :: (m ++ [41]))
def sLMW (l m : List UInt8) : List UInt8 := 40 :: ((40 :: ((40 :: ([115] ++ 32 :: (l ++ [41]))) ++ 32 :: (m ++ [41]))) ++ 32 :: ([119] ++ [41]))
def lWmW (l m : List UInt8) : List UInt8 := 40 :: ((40 :: (l ++ 32 :: ([119] ++ [41]))) ++ 32 :: ((40 :: (m ++ 32 :: ([119] ++ [41]))) ++ [41]))

theorem apply_facts {l m x : List UInt8} (h : pApply l m = some x) : pNormal x = true ∧ x.length ≤ 21000 ∧ (∀ a i b j, pNorm l = some (a, i) → pNorm (kLM l m) = some (b, j) → b = a) ∧
    ∀ a i b j, pNorm (sLMW l m) = some (a, i) → pNorm (lWmW l m) = some (b, j) → a = b := by
  obtain ⟨t, u, i, h1, h2, rfl, rfl, gt, gu, hn⟩ := pApply_some h
  have ga : (app t u).good = true := by simp [good, gt, gu]
  obtain ⟨v, rfl, sv, nv, gv, fv⟩ := pNorm_text ga hn
  refine ⟨normal_text gv fv nv, (parse_facts (parse_text gv fv)).2.2.2.2, fun a i b j ha hb => ?_, fun a i b j ha hb => ?_⟩
  · have hb' : pNorm (app (app k t) u).text = some (b, j) := hb
    exact same_end (V := t) (by simp [good, gt, gu]) gt (star_k t u) (.refl t) hb' ha
  · have gw : (nm [119]).good = true := by decide +kernel
    have ha' : pNorm (app (app (app s t) u) (nm [119])).text = some (a, i) := ha
    have hb' : pNorm (app (app t (nm [119])) (app u (nm [119]))).text = some (b, j) := hb
    exact same_end (V := app (app t (nm [119])) (app u (nm [119]))) (by simp [good, gt, gu] at gw ⊢; exact gw) (by simp [good, gt, gu] at gw ⊢; exact gw) (star_s t u _) (.refl _) ha' hb'
end Tm

theorem some_pair {α β : Type} {o : Option (α × β)} {x : α} {y : β} (h : o.isSome = true) : o = some ((o.map Prod.fst).getD x, (o.map Prod.snd).getD y) := by
  cases o with
  | none => cases h
  | some p => rfl
end Go.Proofs.YtfpekihdoclncaaGreat

namespace Go.Proofs.YtfpekihdoclncaaGreat
open Go.RowKit

set_option maxHeartbeats 2000000
set_option maxRecDepth 100000

namespace Tm

theorem put_closed {t : Tm} (h : ∀ n, has n t = false) (x : List UInt8) (b : Tm) : put t x b = t := put_unused x b ((uses_has x t).1 (h x))
theorem half_has (n : List UInt8) : has n half = false := by
  have : ∀ m, m ∈ names [] half → False := by decide +kernel
  cases hc : has n half with
  | false => rfl
  | true => exact (this n ((mem_names n half []).2 (Or.inr hc))).elim

/-- A fixed point is what is made of it. -/
theorem fix_star (t : Tm) : Star (app fix t) (app t (app fix t)) := by
  have h1 := abs_star [120] half (abs [121] (app Y (app (app X X) Y)))
  rw [put_abs' (by decide) ((uses_has [121] half).1 (half_has _))] at h1
  have e1 : put (app Y (app (app X X) Y)) [120] half = app Y (app (app half half) Y) := rfl
  rw [e1] at h1
  have h2 := abs_star [121] t (app Y (app (app half half) Y))
  have e2 : put (app Y (app (app half half) Y)) [121] t = app t (app (app half half) t) := by
    show app (put Y [121] t) (app (app (put half [121] t) (put half [121] t)) (put Y [121] t)) = _
    rw [put_closed half_has]
    rfl
  rw [e2] at h2
  exact (h1.app (.refl t)).trans h2

theorem fix_has (n : List UInt8) : has n fix = false := by
  show (has n half || has n half) = false
  rw [half_has]
  rfl

theorem names_app_closed {f : Tm} (hf : ∀ n, has n f = false) (t : Tm) : (names [] (app f t)).isEmpty = (names [] t).isEmpty := by
  have h1 : ∀ x, x ∈ names [] (app f t) ↔ x ∈ names [] t := fun x => by
    rw [mem_names, mem_names]
    simp [has, hf x]
  rw [Bool.eq_iff_iff, List.isEmpty_iff, List.isEmpty_iff, List.eq_nil_iff_forall_not_mem, List.eq_nil_iff_forall_not_mem]
  exact ⟨fun h x hx => h x ((h1 x).2 hx), fun h x hx => h x ((h1 x).1 hx)⟩

theorem fix_good : fix.good = true := by decide +kernel

theorem fixOf_facts {l x : List UInt8} (h : pFixOf l = some x) : pClosed x = pClosed l ∧ x.length ≤ 21000 ∧ l.length ≤ 21000 ∧
    ∀ a i b j, pNorm (40 :: (x ++ 32 :: ([107] ++ [41]))) = some (a, i) → pNorm (40 :: ((40 :: (l ++ 32 :: (x ++ [41]))) ++ 32 :: ([107] ++ [41]))) = some (b, j) → a = b := by
  unfold pFixOf at h
  cases hp : parse l with
  | none => rw [hp] at h; cases h
  | some t =>
    rw [hp] at h
    simp only [Option.bind_some] at h
    split at h
    · rename_i hf
      obtain rfl := Option.some.inj h
      obtain ⟨rfl, hg, hft⟩ := parse_text_iff hp
      have hga : (app fix t).good = true := by simp [good, fix_good, hg]
      have hpa := parse_text hga hf
      refine ⟨?_, (parse_facts hpa).2.2.2.2, (parse_facts hp).2.2.2.2, fun a i b j ha hb => ?_⟩
      · unfold pClosed
        rw [hpa, hp]
        exact names_app_closed fix_has t
      · have ha' : pNorm (app (app fix t) k).text = some (a, i) := ha
        have hb' : pNorm (app (app t (app fix t)) k).text = some (b, j) := hb
        exact same_end (V := app (app t (app fix t)) k) (by simp [good, fix_good, hg]) (by simp [good, fix_good, hg]) ((fix_star t).app (.refl k)) (.refl _) ha' hb'
    · cases h

theorem endOf_norm {T : Tm} (hg : T.good = true) : (endOf T).map text = (pNorm T.text).map Prod.fst := by
  unfold endOf pNorm
  rw [parse_text_eq hg]
  by_cases hf : T.fits = true
  · simp only [hf, if_true, Option.map_map]; rfl
  · simp [hf]

theorem end_some {T : Tm} {x : List UInt8} (hg : T.good = true) (h : (endOf T).map text = some x) : ∃ i, pNorm T.text = some (x, i) := by
  rw [endOf_norm hg, Option.map_eq_some_iff] at h
  obtain ⟨⟨y, i⟩, hy, rfl⟩ := h
  exact ⟨i, hy⟩

theorem fits_app {f a : Tm} (h : (app f a).fits = true) : f.fits = true ∧ a.fits = true := by
  have h := fits_size h
  have e1 : (app f a).size = f.size + a.size := rfl
  have e2 : (app f a).depth = max f.depth a.depth + 1 := by first | rfl | simp [depth, Nat.add_comm]
  have e3 : f.fits = (decide (f.size ≤ 3000) && decide (f.depth ≤ 1500)) := rfl
  have e4 : a.fits = (decide (a.size ≤ 3000) && decide (a.depth ≤ 1500)) := rfl
  rw [e3, e4]
  simp only [Bool.and_eq_true, decide_eq_true_eq]
  omega

theorem fixApply_facts {l m x : List UInt8} (h : pFixApply l m = some x) : ∃ y, pFixOf l = some y ∧ pNormal x = true ∧ x.length ≤ 21000 ∧ y.length ≤ 21000 ∧ l.length ≤ 21000 ∧ m.length ≤ 21000 ∧
    ∀ a i, pNorm (40 :: ((40 :: (l ++ 32 :: (y ++ [41]))) ++ 32 :: (m ++ [41]))) = some (a, i) → a = x := by
  unfold pFixApply at h
  cases hp : parse l with
  | none => rw [hp] at h; cases h
  | some t =>
    cases hq : parse m with
    | none => rw [hp, hq] at h; cases h
    | some u =>
      rw [hp, hq] at h
      simp only at h
      obtain ⟨rfl, hg, hft⟩ := parse_text_iff hp
      obtain ⟨rfl, hgu, hfu⟩ := parse_text_iff hq
      have hgw : (app (app fix t) u).good = true := by simp [good, fix_good, hg, hgu]
      obtain ⟨i, hi⟩ := end_some hgw h
      obtain ⟨v, rfl, sv, nv, gv, fv⟩ := pNorm_text hgw hi
      have hfw := pNorm_fit hgw hi
      have hff : (app fix t).fits = true := (fits_app hfw).1
      have hga : (app fix t).good = true := by simp [good, fix_good, hg]
      refine ⟨(app fix t).text, by unfold pFixOf; rw [hp]; simp only [Option.bind_some]; rw [if_pos hff], normal_text gv fv nv, (parse_facts (parse_text gv fv)).2.2.2.2, (parse_facts (parse_text hga hff)).2.2.2.2, (parse_facts hp).2.2.2.2, (parse_facts hq).2.2.2.2, fun a j ha => ?_⟩
      have ha' : pNorm (app (app t (app fix t)) u).text = some (a, j) := ha
      exact same_end (V := app (app t (app fix t)) u) (by simp [good, fix_good, hg, hgu]) hgw (.refl _) ((fix_star t).app (.refl u)) ha' hi

/-! ### the interpreter -/

def runW : Tm := abs [120] (abs [121] (app (app U X) (app U Y)))
def runH : Tm := abs [117] (abs [118] (app (app (app VV k) s) runW))
theorem runC_eq : runC = app fix runH := rfl

theorem runC_has (n : List UInt8) : has n runC = false := by
  have : ∀ m, m ∈ names [] runC → False := by decide +kernel
  cases hc : has n runC with
  | false => rfl
  | true => exact (this n ((mem_names n runC []).2 (Or.inr hc))).elim

/-- What the interpreter makes of a pattern. -/
def runX : Tm := put runW [117] runC

theorem put_kC (x : List UInt8) (b : Tm) : put kC x b = kC := by
  refine put_closed (fun n => ?_) x b
  have : ∀ m, m ∈ names [] kC → False := by decide +kernel
  cases hc : has n kC with
  | false => rfl
  | true => exact (this n ((mem_names n kC []).2 (Or.inr hc))).elim

theorem kC_star (a b c : Tm) : Star (app (app (app kC a) b) c) a := by
  have e : kC = app (app s (app k k)) k := by kernel_rfl
  rw [e]
  exact ((((star_s (app k k) k a).trans ((star_k k a).app (.refl (app k a)))).app (.refl b)).trans (star_k (app k a) b)).app (.refl c) |>.trans (star_k a c)

theorem sC_star (a b c : Tm) : Star (app (app (app sC a) b) c) b := by
  have e : sC = app k k := by kernel_rfl
  rw [e]
  exact (((star_k k a).app (.refl b)).app (.refl c)).trans (star_k b c)

theorem appC_star (f a b c d : Tm) : Star (app (app (app (appC f a) b) c) d) (app (app d f) a) :=
  ((((star_k (app k (pair f a)) b).app (.refl c)).trans (star_k (pair f a) c)).app (.refl d)).trans (pair_star f a d)

theorem runX_star (f a : Tm) (hf : ∀ n, has n f = false) : Star (app (app runX f) a) (app (app runC f) (app runC a)) := by
  have hR := runC_has
  have e0 : runX = abs [120] (abs [121] (app (app runC X) (app runC Y))) := by
    unfold runX runW
    rw [put_abs' (by decide) ((uses_has [120] runC).1 (hR _)), put_abs' (by decide) ((uses_has [121] runC).1 (hR _))]
    rfl
  have h1 := abs_star [120] f (abs [121] (app (app runC X) (app runC Y)))
  rw [put_abs' (by decide) ((uses_has [121] f).1 (hf _))] at h1
  have e1 : put (app (app runC X) (app runC Y)) [120] f = app (app runC f) (app runC Y) := by
    show app (app (put runC [120] f) (put X [120] f)) (app (put runC [120] f) (put Y [120] f)) = _
    rw [put_closed hR]
    rfl
  rw [e1] at h1
  have h2 := abs_star [121] a (app (app runC f) (app runC Y))
  have e2 : put (app (app runC f) (app runC Y)) [121] a = app (app runC f) (app runC a) := by
    show app (app (put runC [121] a) (put f [121] a)) (app (put runC [121] a) (put Y [121] a)) = _
    rw [put_closed hR, put_closed hf]
    rfl
  rw [e2] at h2
  rw [e0]
  exact (h1.app (.refl a)).trans h2

theorem code_closed : ∀ t : Tm, (∀ n, has n t = false) → ∀ n, has n (code t) = false
  | .k, _, n => by
    have : ∀ m, m ∈ names [] kC → False := by decide +kernel
    show has n kC = false
    cases hc : has n kC with
    | false => rfl
    | true => exact (this n ((mem_names n kC []).2 (Or.inr hc))).elim
  | .s, _, n => by
    have : ∀ m, m ∈ names [] sC → False := by decide +kernel
    show has n sC = false
    cases hc : has n sC with
    | false => rfl
    | true => exact (this n ((mem_names n sC []).2 (Or.inr hc))).elim
  | .nm m, h, _ => by have := h m; simp [has] at this
  | .app f a, h, n => by
    have hf := code_closed f (fun n => by have := h n; simp [has] at this; exact this.1) n
    have ha := code_closed a (fun n => by have := h n; simp [has] at this; exact this.2) n
    show has n (appC (code f) (code a)) = false
    simp [appC, pair, has, hf, ha, I]

theorem runC_good : runC.good = true := by decide +kernel

theorem closedOf_facts {l : List UInt8} {t : Tm} (h : closedOf l = some t) : parse l = some t ∧ l = t.text ∧ t.good = true ∧ t.fits = true ∧ ∀ n, has n t = false := by
  obtain ⟨h1, h2⟩ := closed_facts h
  obtain ⟨e, hg, hf⟩ := parse_text_iff h1
  exact ⟨h1, e, hg, hf, names_nil.1 h2⟩

theorem codeOf_facts {l x : List UInt8} (h : pCodeOf l = some x) : ∃ t, closedOf l = some t ∧ x = (code t).text ∧ (code t).good = true ∧ (code t).fits = true ∧ codeT l = some (code t) := by
  unfold pCodeOf at h
  obtain ⟨c, hc, rfl⟩ := Option.map_eq_some_iff.1 h
  obtain ⟨t, ht, rfl, hcf, hcg⟩ := codeT_facts hc
  exact ⟨t, ht, rfl, hcg, hcf, hc⟩

theorem code_props {l x : List UInt8} (h : pCodeOf l = some x) : pClosed x = true ∧ pNormal x = true ∧ x.length ≤ 21000 ∧ l.length ≤ 21000 := by
  obtain ⟨t, ht, rfl, hcg, hcf, _⟩ := codeOf_facts h
  obtain ⟨hp, rfl, hg, hf, hn⟩ := closedOf_facts ht
  exact ⟨closed_text hcg hcf (code_closed t hn), normal_text hcg hcf (code_normal t hn), (parse_facts (parse_text hcg hcf)).2.2.2.2, (parse_facts hp).2.2.2.2⟩

end Tm
end Go.Proofs.YtfpekihdoclncaaGreat
