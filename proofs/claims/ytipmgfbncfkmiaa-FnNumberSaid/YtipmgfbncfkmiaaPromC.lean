/-
  The walks of three promises' laws: pairs, numerals, truth values: whatever the code, the law returns true.
-/
import Derived.Test.YtipmgfbncfkmiaaPromB
import Derived.Test.YtipmgfbncfkmiaaDrawD
import Derived.Test.YtipmgfbncfkmiaaPkF
import Derived.Test.YtipmgfbncfkmiaaPkR
import Derived.Test.YtipmgfbncfkmiaaPkG
namespace Go.Proofs.Ytipmgfbncfkmiaa
open Go.RowKit

set_option maxHeartbeats 1000000
set_option maxRecDepth 100000

namespace Tm
theorem behind_is {F : Tm} {t a : Tm} (hF : F.good = true) (hg : t.good = true) (h : behind F.text t = some a) : t = app F a := by
  cases t with
  | app f b =>
    simp only [behind] at h
    split at h
    · rename_i he
      obtain rfl := Option.some.inj h
      simp only [good, Bool.and_eq_true] at hg
      rw [text_inj hg.1 hF he]
    · cases h
  | _ => simp [behind] at h

theorem parts_pair {t m n : Tm} (h : t.parts = some (m, n)) (hg : t.good = true) : t = pair m n := by
  cases t with
  | app x y =>
    have hg' := hg
    simp only [good, Bool.and_eq_true] at hg'
    simp only [parts] at h
    split at h
    · simp at h
    · rename_i n' e1
      split at h
      · simp at h
      · rename_i left e2
        split at h
        · simp at h
        · rename_i front e3
          split at h
          · simp at h
          · rename_i m' e4
            simp only [Option.some.injEq, Prod.mk.injEq] at h
            obtain ⟨rfl, rfl⟩ := h
            have g1 := behind_is (F := k) rfl hg'.2 e1
            have g2 := behind_is (F := s) rfl hg'.1 e2
            subst g1
            subst g2
            simp only [good, Bool.and_eq_true] at hg'
            have g3 := behind_is (F := app s I) rfl hg'.1.2 e3
            subst g3
            simp only [good, Bool.and_eq_true] at hg'
            have g4 := behind_is (F := k) rfl hg'.1.2.2 e4
            subst g4
            rfl
  | _ => simp [parts] at h

theorem parts_facts {l a b : List UInt8} (h : pParts l = some (a, b)) : pPair a b = some l ∧ a.length ≤ 21000 ∧ b.length ≤ 21000 := by
  unfold pParts at h
  cases hp : parse l with
  | none => rw [hp] at h; simp at h
  | some t =>
    rw [hp] at h
    obtain ⟨rfl, hg, hf⟩ := parse_text_iff hp
    simp only [Option.map_eq_some_iff] at h
    obtain ⟨⟨m, n⟩, hm, he⟩ := h
    simp only [Prod.mk.injEq] at he
    obtain ⟨rfl, rfl⟩ := he
    have ht := parts_pair hm hg
    obtain ⟨gm, gn, _, _⟩ := parts_good hm hg
    have hs := fits_size hf
    rw [ht] at hs
    simp only [pair, I, size, depth] at hs
    have fm : m.fits = true := by simp only [fits, Bool.and_eq_true, decide_eq_true_eq]; omega
    have fn : n.fits = true := by simp only [fits, Bool.and_eq_true, decide_eq_true_eq]; omega
    refine ⟨?_, (parse_facts (parse_text gm fm)).2.2.2.2, (parse_facts (parse_text gn fn)).2.2.2.2⟩
    unfold pPair
    rw [parse_text gm fm, parse_text gn fn]
    simp only
    rw [← ht, if_pos hf]

theorem rd_num : ∀ (f : Nat) {t : Tm} {n : Nat}, t.good = true → rd f t = some n → t = num n ∧ n < f
  | 0, _, _, _, h => by simp [rd] at h
  | f + 1, t, n, hg, h => by
    simp only [rd] at h
    split at h
    · rename_i he
      obtain rfl := Option.some.inj h
      exact ⟨text_inj hg rfl he, by omega⟩
    · split at h
      · rename_i m r hp
        split at h
        · rename_i hm
          simp only [Option.map_eq_some_iff] at h
          obtain ⟨j, hj, rfl⟩ := h
          obtain ⟨gm, gr, _, _⟩ := parts_good hp hg
          obtain ⟨h1, h2⟩ := rd_num f gr hj
          have ht := parts_pair hp hg
          rw [text_inj gm rfl hm, h1] at ht
          exact ⟨ht, by omega⟩
        · cases h
      · cases h

theorem numread_star {l : List UInt8} {n : Nat} (h : pNumRead l = some n) : ∃ t, parse l = some t ∧ Star t (num n) ∧ n ≤ 60 := by
  unfold pNumRead normOf at h
  cases hp : parse l with
  | none => rw [hp] at h; simp at h
  | some t =>
    rw [hp] at h
    obtain ⟨rfl, hg, hf⟩ := parse_text_iff hp
    simp only [Option.bind_eq_some_iff, Option.map_eq_some_iff] at h
    obtain ⟨u, ⟨⟨u', j⟩, hu, rfl⟩, hr⟩ := h
    obtain ⟨h1, h2⟩ := rd_num 61 (norm_good hu hg hf).1 hr
    have := (norm_star hu).1
    rw [h1] at this
    exact ⟨t, rfl, this, by omega⟩

theorem numread_of {t : Tm} {n m : Nat} (hg : t.good = true) (hs : Star t (num n)) (h : pNumRead t.text = some m) : m = n := by
  unfold pNumRead normOf at h
  cases hp : parse t.text with
  | none => rw [hp] at h; simp at h
  | some t' =>
    rw [hp] at h
    obtain ⟨rfl, hf⟩ := parse_of_text hg hp
    simp only [Option.bind_eq_some_iff, Option.map_eq_some_iff] at h
    obtain ⟨u, ⟨⟨u', j⟩, hu, rfl⟩, hr⟩ := h
    obtain ⟨h1, h2⟩ := rd_num 61 (norm_good hu hg hf).1 hr
    have := norm_unique hu hs (num_normal n)
    exact num_inj (h1.symm.trans this)

theorem read_up {l : List UInt8} {n : Nat} (h : pNumRead l = some n) : n ≤ 60 ∧ (∀ m, pNumRead (40 :: (succ.text ++ 32 :: (l ++ [41]))) = some m → m = n + 1) ∧
    (∀ m, pNumRead (40 :: (pred.text ++ 32 :: ((40 :: (succ.text ++ 32 :: (l ++ [41]))) ++ [41]))) = some m → m = n) := by
  obtain ⟨t, ht, hs, hn⟩ := numread_star h
  obtain ⟨rfl, hg, hf⟩ := parse_text_iff ht
  have h1 : Star (app succ t) (num (n + 1)) := ((Star.refl succ).app hs).trans (succ_star n)
  have h2 : Star (app pred (app succ t)) (num n) := ((Star.refl pred).app h1).trans (pred_star n)
  have gs : succ.good = true := by decide +kernel
  have gp : pred.good = true := by decide +kernel
  refine ⟨hn, fun m hm => numread_of (t := app succ t) (by simp [good, gs, hg]) h1 hm, fun m hm => numread_of (t := app pred (app succ t)) (by simp [good, gs, gp, hg]) h2 hm⟩

theorem bit_choice {l : List UInt8} {b : Nat} (h : pBit l = some b) : (b = 1 ∨ b = 0) ∧ ∀ x j, pNorm (40 :: ((40 :: (l ++ 32 :: ([120] ++ [41]))) ++ 32 :: ([121] ++ [41]))) = some (x, j) → x = if b = 1 then [120] else [121] := by
  unfold pBit pNorm at h
  cases hp : parse l with
  | none => rw [hp] at h; simp at h
  | some t =>
    rw [hp] at h
    obtain ⟨rfl, hg, hf⟩ := parse_text_iff hp
    cases hu : norm t with
    | none => simp [hu] at h
    | some q =>
      obtain ⟨u, i⟩ := q
      simp only [hu, Option.map_some] at h
      have hs := (norm_star hu).1
      have gu := (norm_good hu hg hf).1
      unfold bitX at h
      have hall : ∀ (c : Bool) (v : Tm), Star (app (app t X) Y) v → step v = none → ∀ x j, pNorm (app (app t X) Y).text = some (x, j) → x = v.text := by
        intro c v hv hn x j hx
        unfold pNorm at hx
        cases hq : parse (app (app t X) Y).text with
        | none => rw [hq] at hx; simp at hx
        | some t' =>
          rw [hq] at hx
          obtain ⟨rfl, _⟩ := parse_of_text (t := app (app t X) Y) (by simp [good, hg, X, Y, nameOk, lead]) hq
          simp only [Option.map_eq_some_iff] at hx
          obtain ⟨⟨a, i'⟩, ha, he⟩ := hx
          simp only [Prod.mk.injEq] at he
          obtain ⟨rfl, rfl⟩ := he
          rw [norm_unique ha hv hn]
      split at h
      · rename_i he
        obtain rfl := Option.some.inj h
        have e : u = k := text_inj gu rfl he
        rw [e] at hs
        exact ⟨Or.inl rfl, hall true X (((hs.app (.refl X)).app (.refl Y)).trans (star_k X Y)) (by decide +kernel)⟩
      · split at h
        · rename_i he
          obtain rfl := Option.some.inj h
          have e : u = no := text_inj gu rfl he
          rw [e] at hs
          refine ⟨Or.inr rfl, hall false Y (((hs.app (.refl X)).app (.refl Y)).trans (((star_k I X).app (.refl Y)).trans (star_i Y))) (by decide +kernel)⟩
        · cases h
end Tm

end Go.Proofs.Ytipmgfbncfkmiaa
