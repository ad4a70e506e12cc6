/-
  The walks of three promises' laws: sizes, closed terms, data: whatever the code, the law returns true.
-/
import Derived.Test.YtfjohagdlaiapaaGreatPkD
import Derived.Test.YtfjohagdlaiapaaGreatPkU
import Derived.Test.YtfjohagdlaiapaaGreatPkE
import Derived.Test.YtfjohagdlaiapaaGreatSData
import Derived.Test.YtfjohagdlaiapaaGreatPkP
namespace Go.Proofs.YtfjohagdlaiapaaGreat
open Go.RowKit

set_option maxHeartbeats 1000000
set_option maxRecDepth 100000

theorem CodeArg.form {w : World} {v : Value} {n : Nat} (h : CodeArg w v n) : ∃ a0 cap, v = .slice a0 n cap := by
  rcases h with ⟨a0, cap, rfl, rfl⟩ | ⟨b, o, cap, _, _, _, rfl, _⟩
  · exact ⟨_, _, rfl⟩
  · exact ⟨_, _, rfl⟩

/-- Some text, as a list of bytes. -/
def TextPost (w : World) (e : Ending) (w' : World) : Prop := ∃ l : List UInt8, e = .returned (str l) ∧ l.length ≤ 100000 ∧ After w w'

theorem DrawPost.text {w w' : World} {e : Ending} (h : DrawPost w e w') : TextPost w e w' := by
  obtain ⟨s, rfl, hs, ha⟩ := h
  refine ⟨s.data.toList, congrArg Ending.returned (congrArg Value.string ?_), ?_, ha⟩
  · exact ByteArray.ext (by simp)
  · have : s.size = s.data.toList.length := by show s.data.size = _; simp
    omega

theorem parse_text_iff {l : List UInt8} {t : Tm} (h : Tm.parse l = some t) : l = t.text ∧ t.good = true ∧ t.fits = true := by
  obtain ⟨h1, h2, h3⟩ := Tm.parse_iff.1 h
  first | exact ⟨h1, h2, h3⟩ | exact ⟨h1.symm, h2, h3⟩

theorem size_outer {l : List UInt8} {t : Tm} (h : Tm.parse l = some t) (hb : (Tm.parse (40 :: (l ++ [32, 107, 41]))).isSome = true) : Tm.pSize (40 :: (l ++ [32, 107, 41])) = Tm.pSize l + 1 := by
  obtain ⟨rfl, hg, hf⟩ := parse_text_iff h
  have e : 40 :: (t.text ++ [32, 107, 41]) = (Tm.app t .k).text := by simp [Tm.text]
  rw [e] at hb ⊢
  obtain ⟨u, hu⟩ := Option.isSome_iff_exists.1 hb
  obtain ⟨rfl, _⟩ := Tm.parse_of_text (t := Tm.app t .k) (by simp [Tm.good, hg]) hu
  unfold Tm.pSize
  rw [hu, h]
  simp [Tm.size]

theorem size_range {l : List UInt8} {t : Tm} (h : Tm.parse l = some t) : (1 : Int) ≤ Tm.pSize l ∧ Tm.pSize l ≤ 3000 := by
  obtain ⟨rfl, hg, hf⟩ := parse_text_iff h
  have h1 := Tm.size_pos t
  have h2 := fits_size hf
  unfold Tm.pSize
  rw [h]
  simp only
  omega

end Go.Proofs.YtfjohagdlaiapaaGreat

namespace Go.Proofs.YtfjohagdlaiapaaGreat
open Go.RowKit

set_option maxHeartbeats 1000000
set_option maxRecDepth 100000

namespace Tm
theorem star_has {t u : Tm} (h : Star t u) (n : List UInt8) : has n u = true → has n t = true := by
  induction h with
  | refl => exact id
  | tail _ p ih => exact fun hu => ih (par_has p n hu)

theorem names_nil {t : Tm} : names [] t = [] ↔ ∀ n, has n t = false := by
  rw [List.eq_nil_iff_forall_not_mem]
  constructor
  · intro h n
    have := h n
    rw [mem_names] at this
    simpa using this
  · intro h n
    rw [mem_names]
    simp [h n]

theorem closed_text {t : Tm} (hg : t.good = true) (hf : t.fits = true) (h : ∀ n, has n t = false) : pClosed t.text = true := by
  unfold pClosed
  rw [parse_text hg hf]
  simp [names_nil.2 h]

theorem closed_factsP {l : List UInt8} (h : pClosed l = true) : pPut l [120] [107] = some l ∧ ∀ y n, pNorm l = some (y, n) → pClosed y = true ∧ y.length ≤ 21000 := by
  unfold pClosed at h
  cases hp : parse l with
  | none => rw [hp] at h; simp at h
  | some t =>
    rw [hp] at h
    obtain ⟨rfl, hg, hf⟩ := parse_text_iff hp
    have h0 : names [] t = [] := by simpa using h
    have hn := names_nil.1 h0
    refine ⟨?_, fun y n hy => ?_⟩
    · unfold pPut
      rw [hp, show parse [107] = some k from parse_text (t := k) rfl rfl]
      simp only
      rw [put_none _ _ _ (hn _), hf, if_pos (by decide +kernel)]
    · unfold pNorm at hy
      rw [hp] at hy
      simp only [Option.map_eq_some_iff] at hy
      obtain ⟨⟨u, m⟩, hu, he⟩ := hy
      simp only [Prod.mk.injEq] at he
      obtain ⟨rfl, rfl⟩ := he
      obtain ⟨g1, g2⟩ := norm_good hu hg hf
      refine ⟨closed_text g1 g2 fun n => ?_, (parse_facts (parse_text g1 g2)).2.2.2.2⟩
      cases hc : has n u with
      | false => rfl
      | true => have := star_has (norm_star hu).1 n hc; rw [hn n] at this; cases this

theorem pNorm_normal {t : Tm} (hg : t.good = true) (hf : t.fits = true) (h : step t = none) : (pNorm t.text).isSome = true := by
  unfold pNorm
  rw [parse_text hg hf]
  simp [norm_of_normal h]

theorem data_facts {l : List UInt8} {t : Tm} (h : data l = some t) : pClosed t.text = true ∧ ((l == [102, 105, 120]) = true ∨ ((l == [102, 105, 120]) = false ∧ (pNorm t.text).isSome = true)) := by
  obtain ⟨hg, hz⟩ := data_good h
  have hd := depth_lt t
  have hf : t.fits = true := by simp [fits]; omega
  refine ⟨?_, ?_⟩
  · unfold pClosed
    rw [parse_text hg hf]
    unfold data at h
    repeat' split at h
    all_goals first | (obtain rfl := Option.some.inj h; decide +kernel) | cases h
  · by_cases hl : l = [102, 105, 120]
    · left; simp [hl]
    · right
      refine ⟨by simp [hl], pNorm_normal hg hf ?_⟩
      unfold data at h
      repeat' split at h
      all_goals first | contradiction | (obtain rfl := Option.some.inj h; decide +kernel) | cases h
end Tm

end Go.Proofs.YtfjohagdlaiapaaGreat

namespace Go.Proofs.YtfjohagdlaiapaaGreat
namespace Tm

/-- What the text of a good term comes to. -/
theorem pNorm_text {T : Tm} {x : List UInt8} {j : Nat} (hg : T.good = true) (h : pNorm T.text = some (x, j)) : ∃ u, x = u.text ∧ Star T u ∧ step u = none ∧ u.good = true ∧ u.fits = true := by
  unfold pNorm at h
  cases hp : parse T.text with
  | none => rw [hp] at h; cases h
  | some T' =>
    rw [hp] at h
    obtain ⟨rfl, hf⟩ := parse_of_text hg hp
    simp only [Option.map_eq_some_iff] at h
    obtain ⟨⟨u, i⟩, hu, he⟩ := h
    simp only [Prod.mk.injEq] at he
    obtain ⟨rfl, rfl⟩ := he
    obtain ⟨h1, h2⟩ := norm_star hu
    obtain ⟨g1, g2⟩ := norm_good hu hg hf
    exact ⟨u, rfl, h1, h2, g1, g2⟩

/-- Two terms that have one term behind them come to the same. -/
theorem same_end {T U V : Tm} {x y : List UInt8} {i j : Nat} (hT : T.good = true) (hU : U.good = true) (h1 : Star T V) (h2 : Star U V) (hx : pNorm T.text = some (x, i)) (hy : pNorm U.text = some (y, j)) : x = y := by
  obtain ⟨a, rfl, sa, na, _, _⟩ := pNorm_text hT hx
  obtain ⟨b, rfl, sb, nb, _, _⟩ := pNorm_text hU hy
  rw [normal_one (normal_behind sa h1 na) (normal_behind sb h2 nb) na nb]

theorem parse_text_eq {T : Tm} (hg : T.good = true) : parse T.text = if T.fits = true then some T else none := by
  by_cases hf : T.fits = true
  · rw [if_pos hf]; exact parse_text hg hf
  · rw [if_neg hf]
    cases hp : parse T.text with
    | none => rfl
    | some u => exact (hf (parse_of_text hg hp).2).elim

theorem pApply_norm {l m : List UInt8} {t u : Tm} (h1 : parse l = some t) (h2 : parse m = some u) : pApply l m = (pNorm (app t u).text).map Prod.fst := by
  obtain ⟨_, g1, _⟩ := parse_text_iff h1
  obtain ⟨_, g2, _⟩ := parse_text_iff h2
  unfold pApply pNorm
  rw [h1, h2, parse_text_eq (T := app t u) (by simp [good, g1, g2])]
  simp only
  by_cases hf : (app t u).fits = true
  · simp only [hf, if_true, Option.map_map]; rfl
  · simp [hf]

theorem pApply_some {l m x : List UInt8} (h : pApply l m = some x) : ∃ t u i, parse l = some t ∧ parse m = some u ∧ l = t.text ∧ m = u.text ∧ t.good = true ∧ u.good = true ∧ pNorm (app t u).text = some (x, i) := by
  cases h1 : parse l with
  | none => simp [pApply, h1] at h
  | some t =>
    cases h2 : parse m with
    | none => simp [pApply, h1, h2] at h
    | some u =>
      rw [pApply_norm h1 h2, Option.map_eq_some_iff] at h
      obtain ⟨⟨y, i⟩, hy, rfl⟩ := h
      exact ⟨t, u, i, rfl, rfl, (parse_text_iff h1).1, (parse_text_iff h2).1, (parse_text_iff h1).2.1, (parse_text_iff h2).2.1, hy⟩

theorem pNorm_parse {l x : List UInt8} {i : Nat} (h : pNorm l = some (x, i)) : ∃ t, parse l = some t ∧ l = t.text ∧ t.good = true := by
  cases hp : parse l with
  | none => simp [pNorm, hp] at h
  | some t => exact ⟨t, rfl, (parse_text_iff hp).1, (parse_text_iff hp).2.1⟩

theorem pNorm_fit {T : Tm} {x : List UInt8} {i : Nat} (hg : T.good = true) (h : pNorm T.text = some (x, i)) : T.fits = true := by
  obtain ⟨t, ht, _, _⟩ := pNorm_parse h
  exact (parse_of_text hg ht).2

/-! ### normal terms, steps -/

theorem normal_facts {l : List UInt8} (h : pNormal l = true) : pStep l = none ∧ pNorm l = some (l, 0) := by
  unfold pNormal at h
  cases hp : parse l with
  | none => rw [hp] at h; cases h
  | some t =>
    rw [hp] at h
    have hn : step t = none := by simpa using h
    obtain ⟨rfl, hg, hf⟩ := parse_text_iff hp
    unfold pStep pNorm
    rw [hp]
    exact ⟨by simp [stepFit, hn], by simp [norm_of_normal hn]⟩

theorem normal_text {u : Tm} (hg : u.good = true) (hf : u.fits = true) (hs : step u = none) : pNormal u.text = true := by
  unfold pNormal
  rw [parse_text hg hf]
  simp [hs]

theorem normof_facts {l x : List UInt8} {m : Nat} (h : pNorm l = some (x, m)) : pMany l (m : Int) = some (x, m) ∧ pNormal x = true ∧ m ≤ 6000 ∧ x.length ≤ 21000 := by
  unfold pNorm at h
  cases hp : parse l with
  | none => rw [hp] at h; cases h
  | some t =>
    rw [hp] at h
    obtain ⟨rfl, hg, hf⟩ := parse_text_iff hp
    simp only [Option.map_eq_some_iff] at h
    obtain ⟨⟨u, i⟩, hu, he⟩ := h
    simp only [Prod.mk.injEq] at he
    obtain ⟨rfl, rfl⟩ := he
    obtain ⟨g1, g2⟩ := norm_good hu hg hf
    have hs := (norm_star hu).2
    have hm : many 6000 t = (u, i) := by
      unfold norm at hu
      split at hu
      · exact Option.some.inj hu
      · cases hu
    have hle := many_le 6000 t
    rw [hm] at hle
    have hag := many_again 6000 t
    rw [hm] at hag
    simp only at hle hag
    refine ⟨?_, normal_text g1 g2 hs, hle, (parse_facts (parse_text g1 g2)).2.2.2.2⟩
    unfold pMany
    rw [hp]
    simp only
    rw [if_pos ⟨by omega, by omega⟩, Int.toNat_natCast, hag]

theorem many_facts {l x : List UInt8} {n : Int} {g : Nat} (h : pMany l n = some (x, g)) (hn : n ≤ 100) :
    0 ≤ n ∧ (g : Int) ≤ n ∧ x.length ≤ 21000 ∧ ((pStep x = none ∧ pMany l (n + 1) = some (x, g)) ∨ ∃ z, pStep x = some z ∧ (g : Int) = n ∧ pMany l (n + 1) = some (z, g + 1)) := by
  unfold pMany at h
  cases hp : parse l with
  | none => rw [hp] at h; cases h
  | some t =>
    rw [hp] at h
    obtain ⟨rfl, hg, hf⟩ := parse_text_iff hp
    simp only at h
    split at h
    · rename_i hr
      obtain ⟨k, rfl⟩ := Int.eq_ofNat_of_zero_le hr.1
      simp only [Option.some.injEq, Prod.mk.injEq] at h
      obtain ⟨rfl, rfl⟩ := h
      obtain ⟨g1, g2⟩ := many_good k t hg hf
      have hle := many_le k t
      have hnx := many_next k t
      have hsh := many_short k t
      have hm1 : pMany t.text ((k : Int) + 1) = some ((many (k + 1) t).1.text, (many (k + 1) t).2) := by
        unfold pMany
        rw [hp]
        simp only
        rw [if_pos ⟨by omega, by omega⟩, show ((k : Int) + 1).toNat = k + 1 by omega]
      have hst : pStep (many k t).1.text = (stepFit (many k t).1).map text := by
        unfold pStep
        rw [parse_text g1 g2]
      simp only [Int.toNat_natCast]
      refine ⟨hr.1, by omega, (parse_facts (parse_text g1 g2)).2.2.2.2, ?_⟩
      rw [hm1, hst]
      cases hs : stepFit (many k t).1 with
      | none =>
        left
        rw [hs] at hnx
        have e : many (k + 1) t = many k t := by rw [hnx]; split <;> rfl
        rw [e]
        exact ⟨rfl, rfl⟩
      | some u =>
        right
        have hge : ¬ (many k t).2 < k := fun c => by rw [hsh c] at hs; cases hs
        rw [hs, if_neg hge] at hnx
        refine ⟨u.text, rfl, by omega, ?_⟩
        rw [hnx]
        have : k = (many k t).2 := by omega
        rw [← this]
    · cases h

/-! ### equality, application -/

theorem equal_facts {l m : List UInt8} (h : pEqual l m = true) : pEqual m l = true ∧ ∀ x y, pApply l [107] = some x → pApply m [107] = some y → x = y := by
  unfold pEqual at h
  cases hp : pNorm l with
  | none => rw [hp] at h; cases h
  | some p =>
    cases hq : pNorm m with
    | none => rw [hp, hq] at h; cases h
    | some q =>
      obtain ⟨a, i⟩ := p
      obtain ⟨b, j⟩ := q
      rw [hp, hq] at h
      have hab : a = b := by simpa using h
      subst hab
      refine ⟨?_, fun x y hx hy => ?_⟩
      · unfold pEqual
        rw [hp, hq]
        simp
      · obtain ⟨t, k1, i1, e1, k2, rfl, k3, gt, gk, n1⟩ := pApply_some hx
        obtain ⟨u, k1', i1', e1', k2', rfl, k3', gu, gk', n1'⟩ := pApply_some hy
        have hk : k1 = k := by have := parse_text (t := k) rfl rfl; rw [show text k = [107] from rfl] at this; rw [this] at k2; exact (Option.some.inj k2).symm
        have hk' : k1' = k := by have := parse_text (t := k) rfl rfl; rw [show text k = [107] from rfl] at this; rw [this] at k2'; exact (Option.some.inj k2').symm
        subst hk
        subst hk'
        obtain ⟨c, hc, sc, _, gc, _⟩ := pNorm_text gt hp
        obtain ⟨d, hd, sd, _, gd, _⟩ := pNorm_text gu hq
        have hcd : c = d := text_inj gc gd (hc.symm.trans hd)
        subst hcd
        exact same_end (V := app c k) (by simp [good, gt]) (by simp [good, gu]) (sc.app (.refl k)) (sd.app (.refl k)) n1 n1'

def kLM (l m : List UInt8) : List UInt8 := 40 :: ((40 :: ([107] ++ 32 :: (l ++ [41]))) ++ 32 :: (m ++ [41]))
def sLMW (l m : List UInt8) : List UInt8 := 40 :: ((40 :: ((40 :: ([115] ++ 32 :: (l ++ [41]))) ++ 32 :: (m ++ [41]))) ++ 32 :: ([119] ++ [41]))
def lWmW (l m : List UInt8) : List UInt8 := 40 :: ((40 :: (l ++ 32 :: ([119] ++ [41]))) ++ 32 :: ((40 :: (m ++ 32 :: ([119] ++ [41]))) ++ [41]))

theorem apply_facts {l m x : List UInt8} (h : pApply l m = some x) : pNormal x = true ∧ x.length ≤ 21000 ∧ (∀ a i b j, pNorm l = some (a, i) → pNorm (kLM l m) = some (b, j) → b = a) ∧
    ∀ a i b j, pNorm (sLMW l m) = some (a, i) → pNorm (lWmW l m) = some (b, j) → a = b := by
  obtain ⟨t, u, i, h1, h2, rfl, rfl, gt, gu, hn⟩ := pApply_some h
  have ga : (app t u).good = true := by simp [good, gt, gu]
  obtain ⟨v, rfl, sv, nv, gv, fv⟩ := pNorm_text ga hn
  refine ⟨normal_text gv fv nv, (parse_facts (parse_text gv fv)).2.2.2.2, fun a i b j ha hb => ?_, fun a i b j ha hb => ?_⟩
  · have hb' : pNorm (app (app k t) u).text = some (b, j) := hb
    exact same_end (V := t) (by simp [good, gt, gu]) gt (star_k t u) (.refl t) hb' ha
  · have gw : (nm [119]).good = true := by decide +kernel
    have ha' : pNorm (app (app (app s t) u) (nm [119])).text = some (a, i) := ha
    have hb' : pNorm (app (app t (nm [119])) (app u (nm [119]))).text = some (b, j) := hb
    exact same_end (V := app (app t (nm [119])) (app u (nm [119]))) (by simp [good, gt, gu] at gw ⊢; exact gw) (by simp [good, gt, gu] at gw ⊢; exact gw) (star_s t u _) (.refl _) ha' hb'
end Tm

theorem some_pair {α β : Type} {o : Option (α × β)} {x : α} {y : β} (h : o.isSome = true) : o = some ((o.map Prod.fst).getD x, (o.map Prod.snd).getD y) := by
  cases o with
  | none => cases h
  | some p => rfl
end Go.Proofs.YtfjohagdlaiapaaGreat

namespace Go.Proofs.YtfjohagdlaiapaaGreat
open Go.RowKit

set_option maxHeartbeats 2000000
set_option maxRecDepth 100000

namespace Tm
theorem uses_put' {x y : List UInt8} {b : Tm} (hy : y ≠ x) (hb : uses y b = 0) : ∀ t : Tm, uses y (put t x b) = uses y t
  | .k => rfl
  | .s => rfl
  | .nm n => by
    by_cases hn : n = x
    · subst hn
      simp only [put, if_true, hb, uses]
      rw [if_neg (fun e => hy e.symm)]
    · simp [put, hn]
  | .app f a => by simp [put, uses, uses_put' hy hb f, uses_put' hy hb a]
theorem isNm_put' {x y : List UInt8} {b : Tm} (hy : y ≠ x) (hb : uses y b = 0) : ∀ t : Tm, isNm y (put t x b) = isNm y t
  | .k => rfl
  | .s => rfl
  | .nm n => by
    by_cases hn : n = x
    · subst hn
      have e : put (Tm.nm n) n b = b := by simp [put]
      rw [e, Tm.isNm_uses y b hb]
      symm
      show (n == y) = false
      rw [beq_eq_false_iff_ne]
      exact fun e => hy e.symm
    · simp [put, hn]
  | .app f a => by simp [put, isNm]
theorem put_abs' {x y : List UInt8} {b : Tm} (hy : y ≠ x) (hb : uses y b = 0) : ∀ t : Tm, put (abs y t) x b = abs y (put t x b)
  | .k => rfl
  | .s => rfl
  | .nm n => by
    by_cases hn : n = y
    · subst hn
      simp [abs, put, hy, I]
    · by_cases hx : n = x
      · subst hx
        simp [abs, put, hn, Tm.abs_none y b hb]
      · simp [abs, put, hn, hx]
  | .app f a => by
    have hf := put_abs' hy hb f
    have ha := put_abs' hy hb a
    have h1 := uses_put' hy hb (.app f a)
    have h2 := uses_put' hy hb f
    have h3 := isNm_put' hy hb a
    simp only [put] at h1
    by_cases e1 : uses y (.app f a) = 0
    · simp only [abs, put]
      rw [if_pos e1, if_pos (by rw [h1]; exact e1)]
      rfl
    · by_cases e2 : isNm y a = true ∧ uses y f = 0
      · simp only [abs, put]
        rw [if_neg e1, if_pos e2, if_neg (by rw [h1]; exact e1), if_pos (by rw [h2, h3]; exact e2)]
      · simp only [abs, put]
        rw [if_neg e1, if_neg e2, if_neg (by rw [h1]; exact e1), if_neg (by rw [h2, h3]; exact e2)]
        simp only [put, hf, ha]

theorem joinC_eq : joinC = abs [117] (abs [118] (appC U VV)) := by kernel_rfl
theorem put_appC (x : List UInt8) (b c d : Tm) : put (appC c d) x b = appC (put c x b) (put d x b) := rfl
theorem join_star (c d : Tm) (hc : ∀ n, has n c = false) : Star (app (app joinC c) d) (appC c d) := by
  have u1 := (uses_has [118] c).1 (hc [118])
  have h1 := abs_star [117] c (abs [118] (appC U VV))
  rw [put_abs' (by decide) u1, put_appC, show put U [117] c = c from rfl, show put VV [117] c = VV from rfl] at h1
  have h2 := abs_star [118] d (appC c VV)
  rw [put_appC, show put VV [118] d = d from rfl, put_unused [118] d u1] at h2
  rw [joinC_eq]
  exact (h1.app (.refl d)).trans h2

theorem appC_normal {m n : Tm} (hm : step m = none) (hn : step n = none) : step (appC m n) = none := by
  have := pair_normal hm hn
  simp [appC, step, redex, this]
theorem code_normal : ∀ t : Tm, (∀ n, has n t = false) → step (code t) = none
  | .k, _ => by decide +kernel
  | .s, _ => by decide +kernel
  | .nm n, h => by have := h n; simp [has] at this
  | .app f a, h => appC_normal (code_normal f (fun n => by have := h n; simp [has] at this; exact this.1)) (code_normal a (fun n => by have := h n; simp [has] at this; exact this.2))

end Tm
end Go.Proofs.YtfjohagdlaiapaaGreat

namespace Go.Proofs.YtfjohagdlaiapaaGreat
open Go.RowKit

set_option maxHeartbeats 2000000
set_option maxRecDepth 100000

namespace Tm

theorem put_closed {t : Tm} (h : ∀ n, has n t = false) (x : List UInt8) (b : Tm) : put t x b = t := put_unused x b ((uses_has x t).1 (h x))
theorem half_has (n : List UInt8) : has n half = false := by
  have : ∀ m, m ∈ names [] half → False := by decide +kernel
  cases hc : has n half with
  | false => rfl
  | true => exact (this n ((mem_names n half []).2 (Or.inr hc))).elim

/-- A fixed point is what is made of it. -/
theorem fix_star (t : Tm) : Star (app fix t) (app t (app fix t)) := by
  have h1 := abs_star [120] half (abs [121] (app Y (app (app X X) Y)))
  rw [put_abs' (by decide) ((uses_has [121] half).1 (half_has _))] at h1
  have e1 : put (app Y (app (app X X) Y)) [120] half = app Y (app (app half half) Y) := rfl
  rw [e1] at h1
  have h2 := abs_star [121] t (app Y (app (app half half) Y))
  have e2 : put (app Y (app (app half half) Y)) [121] t = app t (app (app half half) t) := by
    show app (put Y [121] t) (app (app (put half [121] t) (put half [121] t)) (put Y [121] t)) = _
    rw [put_closed half_has]
    rfl
  rw [e2] at h2
  exact (h1.app (.refl t)).trans h2

theorem fix_has (n : List UInt8) : has n fix = false := by
  show (has n half || has n half) = false
  rw [half_has]
  rfl

theorem names_app_closed {f : Tm} (hf : ∀ n, has n f = false) (t : Tm) : (names [] (app f t)).isEmpty = (names [] t).isEmpty := by
  have h1 : ∀ x, x ∈ names [] (app f t) ↔ x ∈ names [] t := fun x => by
    rw [mem_names, mem_names]
    simp [has, hf x]
  rw [Bool.eq_iff_iff, List.isEmpty_iff, List.isEmpty_iff, List.eq_nil_iff_forall_not_mem, List.eq_nil_iff_forall_not_mem]
  exact ⟨fun h x hx => h x ((h1 x).2 hx), fun h x hx => h x ((h1 x).1 hx)⟩

theorem fix_good : fix.good = true := by decide +kernel

theorem fixOf_facts {l x : List UInt8} (h : pFixOf l = some x) : pClosed x = pClosed l ∧ x.length ≤ 21000 ∧ l.length ≤ 21000 ∧
    ∀ a i b j, pNorm (40 :: (x ++ 32 :: ([107] ++ [41]))) = some (a, i) → pNorm (40 :: ((40 :: (l ++ 32 :: (x ++ [41]))) ++ 32 :: ([107] ++ [41]))) = some (b, j) → a = b := by
  unfold pFixOf at h
  cases hp : parse l with
  | none => rw [hp] at h; cases h
  | some t =>
    rw [hp] at h
    simp only [Option.bind_some] at h
    split at h
    · rename_i hf
      obtain rfl := Option.some.inj h
      obtain ⟨rfl, hg, hft⟩ := parse_text_iff hp
      have hga : (app fix t).good = true := by simp [good, fix_good, hg]
      have hpa := parse_text hga hf
      refine ⟨?_, (parse_facts hpa).2.2.2.2, (parse_facts hp).2.2.2.2, fun a i b j ha hb => ?_⟩
      · unfold pClosed
        rw [hpa, hp]
        exact names_app_closed fix_has t
      · have ha' : pNorm (app (app fix t) k).text = some (a, i) := ha
        have hb' : pNorm (app (app t (app fix t)) k).text = some (b, j) := hb
        exact same_end (V := app (app t (app fix t)) k) (by simp [good, fix_good, hg]) (by simp [good, fix_good, hg]) ((fix_star t).app (.refl k)) (.refl _) ha' hb'
    · cases h

theorem endOf_norm {T : Tm} (hg : T.good = true) : (endOf T).map text = (pNorm T.text).map Prod.fst := by
  unfold endOf pNorm
  rw [parse_text_eq hg]
  by_cases hf : T.fits = true
  · simp only [hf, if_true, Option.map_map]; rfl
  · simp [hf]

theorem end_some {T : Tm} {x : List UInt8} (hg : T.good = true) (h : (endOf T).map text = some x) : ∃ i, pNorm T.text = some (x, i) := by
  rw [endOf_norm hg, Option.map_eq_some_iff] at h
  obtain ⟨⟨y, i⟩, hy, rfl⟩ := h
  exact ⟨i, hy⟩

theorem fits_app {f a : Tm} (h : (app f a).fits = true) : f.fits = true ∧ a.fits = true := by
  have h := fits_size h
  have e1 : (app f a).size = f.size + a.size := rfl
  have e2 : (app f a).depth = max f.depth a.depth + 1 := by first | rfl | simp [depth, Nat.add_comm]
  have e3 : f.fits = (decide (f.size ≤ 3000) && decide (f.depth ≤ 1500)) := rfl
  have e4 : a.fits = (decide (a.size ≤ 3000) && decide (a.depth ≤ 1500)) := rfl
  rw [e3, e4]
  simp only [Bool.and_eq_true, decide_eq_true_eq]
  omega

theorem fixApply_facts {l m x : List UInt8} (h : pFixApply l m = some x) : ∃ y, pFixOf l = some y ∧ pNormal x = true ∧ x.length ≤ 21000 ∧ y.length ≤ 21000 ∧ l.length ≤ 21000 ∧ m.length ≤ 21000 ∧
    ∀ a i, pNorm (40 :: ((40 :: (l ++ 32 :: (y ++ [41]))) ++ 32 :: (m ++ [41]))) = some (a, i) → a = x := by
  unfold pFixApply at h
  cases hp : parse l with
  | none => rw [hp] at h; cases h
  | some t =>
    cases hq : parse m with
    | none => rw [hp, hq] at h; cases h
    | some u =>
      rw [hp, hq] at h
      simp only at h
      obtain ⟨rfl, hg, hft⟩ := parse_text_iff hp
      obtain ⟨rfl, hgu, hfu⟩ := parse_text_iff hq
      have hgw : (app (app fix t) u).good = true := by simp [good, fix_good, hg, hgu]
      obtain ⟨i, hi⟩ := end_some hgw h
      obtain ⟨v, rfl, sv, nv, gv, fv⟩ := pNorm_text hgw hi
      have hfw := pNorm_fit hgw hi
      have hff : (app fix t).fits = true := (fits_app hfw).1
      have hga : (app fix t).good = true := by simp [good, fix_good, hg]
      refine ⟨(app fix t).text, by unfold pFixOf; rw [hp]; simp only [Option.bind_some]; rw [if_pos hff], normal_text gv fv nv, (parse_facts (parse_text gv fv)).2.2.2.2, (parse_facts (parse_text hga hff)).2.2.2.2, (parse_facts hp).2.2.2.2, (parse_facts hq).2.2.2.2, fun a j ha => ?_⟩
      have ha' : pNorm (app (app t (app fix t)) u).text = some (a, j) := ha
      exact same_end (V := app (app t (app fix t)) u) (by simp [good, fix_good, hg, hgu]) hgw (.refl _) ((fix_star t).app (.refl u)) ha' hi

/-! ### the interpreter -/

def runW : Tm := abs [120] (abs [121] (app (app U X) (app U Y)))
def runH : Tm := abs [117] (abs [118] (app (app (app VV k) s) runW))
theorem runC_eq : runC = app fix runH := rfl

theorem runC_has (n : List UInt8) : has n runC = false := by
  have : ∀ m, m ∈ names [] runC → False := by decide +kernel
  cases hc : has n runC with
  | false => rfl
  | true => exact (this n ((mem_names n runC []).2 (Or.inr hc))).elim

/-- What the interpreter makes of a pattern. -/
def runX : Tm := put runW [117] runC

theorem run_any (d : Tm) : Star (app runC d) (app (app (app d k) s) runX) := by
  have h0 := (fix_star runH).app (.refl d)
  rw [← runC_eq] at h0
  have h1 := abs_star [117] runC (abs [118] (app (app (app VV k) s) runW))
  rw [put_abs' (by decide) ((uses_has [118] runC).1 (runC_has _))] at h1
  have e1 : put (app (app (app VV k) s) runW) [117] runC = app (app (app VV k) s) runX := rfl
  rw [e1] at h1
  have h2 := abs_star [118] d (app (app (app VV k) s) runX)
  have hx : ∀ n, has n runX = false := fun n => by
    have : ∀ m, m ∈ names [] runX → False := by decide +kernel
    cases hc : has n runX with
    | false => rfl
    | true => exact (this n ((mem_names n runX []).2 (Or.inr hc))).elim
  have e2 : put (app (app (app VV k) s) runX) [118] d = app (app (app d k) s) runX := by
    show app (app (app (put VV [118] d) k) s) (put runX [118] d) = _
    rw [put_closed hx]
    rfl
  rw [e2] at h2
  exact h0.trans ((h1.app (.refl d)).trans h2)

theorem put_kC (x : List UInt8) (b : Tm) : put kC x b = kC := by
  refine put_closed (fun n => ?_) x b
  have : ∀ m, m ∈ names [] kC → False := by decide +kernel
  cases hc : has n kC with
  | false => rfl
  | true => exact (this n ((mem_names n kC []).2 (Or.inr hc))).elim

theorem kC_star (a b c : Tm) : Star (app (app (app kC a) b) c) a := by
  have e : kC = app (app s (app k k)) k := by kernel_rfl
  rw [e]
  exact ((((star_s (app k k) k a).trans ((star_k k a).app (.refl (app k a)))).app (.refl b)).trans (star_k (app k a) b)).app (.refl c) |>.trans (star_k a c)

theorem sC_star (a b c : Tm) : Star (app (app (app sC a) b) c) b := by
  have e : sC = app k k := by kernel_rfl
  rw [e]
  exact (((star_k k a).app (.refl b)).app (.refl c)).trans (star_k b c)

theorem appC_star (f a b c d : Tm) : Star (app (app (app (appC f a) b) c) d) (app (app d f) a) :=
  ((((star_k (app k (pair f a)) b).app (.refl c)).trans (star_k (pair f a) c)).app (.refl d)).trans (pair_star f a d)

theorem runX_star (f a : Tm) (hf : ∀ n, has n f = false) : Star (app (app runX f) a) (app (app runC f) (app runC a)) := by
  have hR := runC_has
  have e0 : runX = abs [120] (abs [121] (app (app runC X) (app runC Y))) := by
    unfold runX runW
    rw [put_abs' (by decide) ((uses_has [120] runC).1 (hR _)), put_abs' (by decide) ((uses_has [121] runC).1 (hR _))]
    rfl
  have h1 := abs_star [120] f (abs [121] (app (app runC X) (app runC Y)))
  rw [put_abs' (by decide) ((uses_has [121] f).1 (hf _))] at h1
  have e1 : put (app (app runC X) (app runC Y)) [120] f = app (app runC f) (app runC Y) := by
    show app (app (put runC [120] f) (put X [120] f)) (app (put runC [120] f) (put Y [120] f)) = _
    rw [put_closed hR]
    rfl
  rw [e1] at h1
  have h2 := abs_star [121] a (app (app runC f) (app runC Y))
  have e2 : put (app (app runC f) (app runC Y)) [121] a = app (app runC f) (app runC a) := by
    show app (app (put runC [121] a) (put f [121] a)) (app (put runC [121] a) (put Y [121] a)) = _
    rw [put_closed hR, put_closed hf]
    rfl
  rw [e2] at h2
  rw [e0]
  exact (h1.app (.refl a)).trans h2

theorem code_closed : ∀ t : Tm, (∀ n, has n t = false) → ∀ n, has n (code t) = false
  | .k, _, n => by
    have : ∀ m, m ∈ names [] kC → False := by decide +kernel
    show has n kC = false
    cases hc : has n kC with
    | false => rfl
    | true => exact (this n ((mem_names n kC []).2 (Or.inr hc))).elim
  | .s, _, n => by
    have : ∀ m, m ∈ names [] sC → False := by decide +kernel
    show has n sC = false
    cases hc : has n sC with
    | false => rfl
    | true => exact (this n ((mem_names n sC []).2 (Or.inr hc))).elim
  | .nm m, h, _ => by have := h m; simp [has] at this
  | .app f a, h, n => by
    have hf := code_closed f (fun n => by have := h n; simp [has] at this; exact this.1) n
    have ha := code_closed a (fun n => by have := h n; simp [has] at this; exact this.2) n
    show has n (appC (code f) (code a)) = false
    simp [appC, pair, has, hf, ha, I]

/-- The interpreter runs the code of a closed term as the term. -/
theorem run_star : ∀ t : Tm, (∀ n, has n t = false) → Star (app runC (code t)) t
  | .k, _ => (run_any kC).trans (kC_star k s runX)
  | .s, _ => (run_any sC).trans (sC_star k s runX)
  | .nm m, h => by have := h m; simp [has] at this
  | .app f a, h => by
    have hf : ∀ n, has n f = false := fun n => by have := h n; simp [has] at this; exact this.1
    have ha : ∀ n, has n a = false := fun n => by have := h n; simp [has] at this; exact this.2
    have h1 := run_any (appC (code f) (code a))
    have h2 := appC_star (code f) (code a) k s runX
    have h3 := runX_star (code f) (code a) (code_closed f hf)
    exact ((h1.trans h2).trans h3).trans ((run_star f hf).app (run_star a ha))

theorem runC_good : runC.good = true := by decide +kernel

theorem closedOf_facts {l : List UInt8} {t : Tm} (h : closedOf l = some t) : parse l = some t ∧ l = t.text ∧ t.good = true ∧ t.fits = true ∧ ∀ n, has n t = false := by
  obtain ⟨h1, h2⟩ := closed_facts h
  obtain ⟨e, hg, hf⟩ := parse_text_iff h1
  exact ⟨h1, e, hg, hf, names_nil.1 h2⟩

theorem codeRun_facts {l x : List UInt8} (h : pCodeRun l = some x) : pNormal x = true ∧ x.length ≤ 21000 ∧ ∀ a i, pNorm l = some (a, i) → a = x := by
  unfold pCodeRun at h
  cases hc : codeT l with
  | none => rw [hc] at h; cases h
  | some c =>
    rw [hc] at h
    simp only [Option.bind_some] at h
    obtain ⟨t, ht, rfl, hcf, hcg⟩ := codeT_facts hc
    obtain ⟨hp, rfl, hg, hf, hn⟩ := closedOf_facts ht
    have hgw : (app runC (code t)).good = true := by simp [good, runC_good, hcg]
    obtain ⟨i, hi⟩ := end_some hgw h
    obtain ⟨v, rfl, sv, nv, gv, fv⟩ := pNorm_text hgw hi
    refine ⟨normal_text gv fv nv, (parse_facts (parse_text gv fv)).2.2.2.2, fun a j ha => ?_⟩
    exact same_end (V := t) hg hgw (.refl t) (run_star t hn) ha hi

theorem codeOf_facts {l x : List UInt8} (h : pCodeOf l = some x) : ∃ t, closedOf l = some t ∧ x = (code t).text ∧ (code t).good = true ∧ (code t).fits = true ∧ codeT l = some (code t) := by
  unfold pCodeOf at h
  obtain ⟨c, hc, rfl⟩ := Option.map_eq_some_iff.1 h
  obtain ⟨t, ht, rfl, hcf, hcg⟩ := codeT_facts hc
  exact ⟨t, ht, rfl, hcg, hcf, hc⟩

theorem code_props {l x : List UInt8} (h : pCodeOf l = some x) : pClosed x = true ∧ pNormal x = true ∧ x.length ≤ 21000 ∧ l.length ≤ 21000 := by
  obtain ⟨t, ht, rfl, hcg, hcf, _⟩ := codeOf_facts h
  obtain ⟨hp, rfl, hg, hf, hn⟩ := closedOf_facts ht
  exact ⟨closed_text hcg hcf (code_closed t hn), normal_text hcg hcf (code_normal t hn), (parse_facts (parse_text hcg hcf)).2.2.2.2, (parse_facts hp).2.2.2.2⟩

theorem codeQuote_facts {l x : List UInt8} (h : pCodeQuote l = some x) : pCodeOf l = some x ∧ pCodeRun x = some x ∧ x.length ≤ 21000 := by
  unfold pCodeQuote at h
  cases hc : codeT l with
  | none => rw [hc] at h; cases h
  | some c =>
    rw [hc] at h
    simp only [Option.bind_some] at h
    obtain ⟨t, ht, rfl, hcf, hcg⟩ := codeT_facts hc
    obtain ⟨hp, rfl, hg, hf, hn⟩ := closedOf_facts ht
    have hk := code_closed t hn
    have hcc := code_good (code t) hcg
    have hgw : (app runC (code (code t))).good = true := by simp [good, runC_good, hcc]
    obtain ⟨i, hi⟩ := end_some hgw h
    have hfw := pNorm_fit hgw hi
    obtain ⟨v, rfl, sv, nv, gv, fv⟩ := pNorm_text hgw hi
    have hv : v = code t := normal_one sv (run_star (code t) hk) nv (code_normal t hn)
    subst hv
    have hfc : (code (code t)).fits = true := (fits_app hfw).2
    have hpc := parse_text hcg hcf
    have hcl : closedOf (code t).text = some (code t) := by simp [closedOf, hpc, names_nil.2 hk]
    refine ⟨by unfold pCodeOf; rw [hc]; rfl, ?_, (parse_facts hpc).2.2.2.2⟩
    unfold pCodeRun codeT
    rw [hcl]
    simp only
    rw [if_pos hfc, Option.bind_some]
    exact h
end Tm
end Go.Proofs.YtfjohagdlaiapaaGreat

namespace Go.Proofs.YtfjohagdlaiapaaGreat
open Go.RowKit

set_option maxHeartbeats 2000000
set_option maxRecDepth 100000

namespace Tm
theorem mt_kC_app (c d : Tm) : mt kC (appC c d) = none := by
  rw [show kC = app (app s (app k k)) k by kernel_rfl]
  rfl
theorem mt_sC_app (c d : Tm) : mt sC (appC c d) = none := by
  rw [show sC = app k k by kernel_rfl]
  rfl
theorem back_code : ∀ (n : Nat) (t : Tm), (∀ m, has m t = false) → (code t).size ≤ n → back n (code t) = some t
  | 0, t, _, h => by have := size_pos (code t); omega
  | n + 1, .k, _, _ => by
    simp only [back, code, mt_self kC kC_has]
    rfl
  | n + 1, .s, _, _ => by
    simp only [back, code, mt_self sC sC_has, show mt kC sC = none by kernel_rfl]
    rfl
  | n + 1, .nm m, h, _ => by have := h m; simp [has] at this
  | n + 1, .app f a, h, hz => by
    simp only [code] at hz ⊢
    rw [size_appC] at hz
    have hf := back_code n f (fun n => by have := h n; simp [has] at this; exact this.1) (by omega)
    have ha := back_code n a (fun n => by have := h n; simp [has] at this; exact this.2) (by omega)
    simp only [back, mt_kC_app, mt_sC_app, mt_appC_self, hf, ha]
    rfl
end Tm

theorem code_back {l x : List UInt8} (h : Tm.pCodeOf l = some x) : Tm.pCodeRead x = some l := by
  obtain ⟨t, ht, rfl, hcg, hcf, _⟩ := Tm.codeOf_facts h
  obtain ⟨hp, rfl, hg, hf, hn⟩ := Tm.closedOf_facts ht
  unfold Tm.pCodeRead
  rw [Tm.parse_text hcg hcf]
  simp only [Option.bind_some]
  rw [Tm.back_code _ _ hn (Nat.le_refl _)]
  rfl
end Go.Proofs.YtfjohagdlaiapaaGreat

namespace Go.Proofs.YtfjohagdlaiapaaGreat
open Go.RowKit

set_option maxHeartbeats 1000000
set_option maxRecDepth 100000

theorem small_any (w : World) (rb p : Nat) (h : Dr w rb p) (hp : p ≤ 890000) :
    Calls Tryz.prog 24 #[.pointer (some ⟨rb, 0, none⟩)] w (StrPost w rb p 1000 201) := by
  have hpk := pick_any w rb p 8 h (by omega) (by decide) (by decide)
  clear h
  go_enter Tryz.func24, Tryz.ntmps24
  go_wp2_with fail
  refine hpk.mono ?_
  rintro e w1 ⟨k, hk, rfl, hg1, hd1⟩
  have HD := Lib.hid hd1
  clear hpk hd1
  by_cases hk0 : k = 0
  · subst hk0
    have hodd := odd_any w1 rb (p + 1) HD.out (by omega)
    go_wp2_with fail
    refine hodd.mono ?_
    rintro e w2 ⟨s, q, rfl, hs, hq, hg, hd⟩
    have HD2 := Lib.hid hd
    clear hodd hd
    go_wp2_with fail
    go_ret
    exact ⟨s, q, rfl, hs, by omega, grown_trans hg1 hg, HD2.out⟩
  · have hk1 : ¬ (k : Int) = 0 := by omega
    have hk2 : ((k : Int) == 0) = false := beq_eq_false_iff_ne.2 hk1
    have hp3 := pick_any w1 rb (p + 1) 3 HD.out (by omega) (by decide) (by decide)
    go_wp2_with fail
    refine hp3.mono ?_
    rintro e w2 ⟨d, hd3, rfl, hg2, hd2⟩
    have hc := closed_any 2 w2 rb (p + 1 + 1) (d : Nat) hd2 (by omega) (by omega) (by omega) (by omega)
    clear hp3 hd2
    go_wp2_with fail
    refine hc.mono ?_
    rintro e w3 ⟨s, q, rfl, hs, hq, hg, hd⟩
    have HD3 := Lib.hid hd
    clear hc hd
    go_wp2_with fail
    go_ret
    exact ⟨s, q, rfl, by omega, by omega, grown_trans (grown_trans hg1 hg2) hg, HD3.out⟩

end Go.Proofs.YtfjohagdlaiapaaGreat

namespace Go.Proofs.YtfjohagdlaiapaaGreat
open Go.RowKit

set_option maxHeartbeats 1000000
set_option maxRecDepth 100000

theorem draw_codeRun (w : World) (v : Value) (n : Nat) (h : CodeArg w v n) : Calls Tryz.prog 10 #[v] w (DrawPost w) := by
  have hopen := open_any w v n h
  clear h
  go_enter Tryz.func10, Tryz.ntmps10
  go_wp2_with fail
  refine hopen.mono ?_
  rintro e w1 ⟨rb, rfl, hr, ha, hd⟩
  have hs := small_any w1 rb 0 hd (by omega)
  clear hopen hd
  go_wp2_with fail
  refine hs.mono ?_
  rintro e w2 ⟨s, q, rfl, hz, hq, hg, hd⟩
  clear hs hd
  go_wp2_with fail
  go_ret
  exact ⟨s, rfl, by omega, after_open ha hg hr⟩

def wordQ : List (List UInt8) := [[114, 117, 110], [106, 111, 105, 110], [113, 117, 111, 116, 101], [], [102, 105, 120]]

theorem draw_codeQuote (w : World) (v : Value) (n : Nat) (h : CodeArg w v n) : Calls Tryz.prog 15 #[v] w (DrawPost w) := by
  have hopen := open_any w v n h
  clear h
  go_enter Tryz.func15, Tryz.ntmps15
  go_wp2_with fail
  refine hopen.mono ?_
  rintro e w1 ⟨rb, rfl, hr, ha, hd⟩
  have hs := small_any w1 rb 0 hd (by omega)
  clear hopen hd
  go_wp2_with fail
  refine hs.mono ?_
  rintro e w2 ⟨s, q, rfl, hz, hq, hg, hd⟩
  obtain ⟨l, rfl⟩ : ∃ l : List UInt8, s = ⟨l.toArray⟩ := ⟨s.data.toList, by simp⟩
  rw [ssize] at hz
  have hlt := hd.lt
  have hof := of_any (w2.alloc (.cells (([[107], [115], [40, 107, 32, 115, 41], [40, 115, 32, 107, 41], [40, 40, 115, 32, 107, 41, 32, 107, 41], l] : List (List UInt8)).map str).toArray 9)) rb q w2.heap.size (0, 0) [[107], [115], [40, 107, 32, 115, 41], [40, 115, 32, 107, 41], [40, 40, 115, 32, 107, 41, 32, 107, 41], l] (heap_top w2 _) (by simp) (by simp) (by omega) (hd.after (below_new w2 _)) (by omega)
  have HL := Lib.hid (show ∀ s ∈ ([[107], [115], [40, 107, 32, 115, 41], [40, 115, 32, 107, 41], [40, 40, 115, 32, 107, 41, 32, 107, 41], l] : List (List UInt8)), s.length ≤ 1000 by intro s hs; simp at hs; rcases hs with rfl | rfl | rfl | rfl | rfl | rfl <;> first | decide | omega)
  clear hs hd
  go_wp2_with fail
  refine hof.mono ?_
  rintro e w3 ⟨s2, hs2, rfl, hg2, hd2⟩
  have HS := Lib.hid hs2
  clear hof hd2 hs2
  go_wp2_with fail
  go_ret
  exact ⟨⟨s2.toArray⟩, rfl, by rw [ssize]; have := HL.out s2 HS.out; omega, after_open ha (grown_trans hg (grown_new hg2 hlt)) hr⟩

end Go.Proofs.YtfjohagdlaiapaaGreat
