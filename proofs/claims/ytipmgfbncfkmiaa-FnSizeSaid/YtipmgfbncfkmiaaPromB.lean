/-
  The walks of two promises' laws: closed terms; data: whatever the code, the law returns true.
-/
import Derived.Test.YtipmgfbncfkmiaaPromA
namespace Go.Proofs.Ytipmgfbncfkmiaa
open Go.RowKit

set_option maxHeartbeats 1000000
set_option maxRecDepth 100000

namespace Tm
theorem star_has {t u : Tm} (h : Star t u) (n : List UInt8) : has n u = true → has n t = true := by
  induction h with
  | refl => exact id
  | tail _ p ih => exact fun hu => ih (par_has p n hu)

theorem names_nil {t : Tm} : names [] t = [] ↔ ∀ n, has n t = false := by
  rw [List.eq_nil_iff_forall_not_mem]
  constructor
  · intro h n
    have := h n
    rw [mem_names] at this
    simpa using this
  · intro h n
    rw [mem_names]
    simp [h n]

theorem closed_text {t : Tm} (hg : t.good = true) (hf : t.fits = true) (h : ∀ n, has n t = false) : pClosed t.text = true := by
  unfold pClosed
  rw [parse_text hg hf]
  simp [names_nil.2 h]

theorem closed_factsP {l : List UInt8} (h : pClosed l = true) : pPut l [120] [107] = some l ∧ ∀ y n, pNorm l = some (y, n) → pClosed y = true ∧ y.length ≤ 21000 := by
  unfold pClosed at h
  cases hp : parse l with
  | none => rw [hp] at h; simp at h
  | some t =>
    rw [hp] at h
    obtain ⟨rfl, hg, hf⟩ := parse_text_iff hp
    have h0 : names [] t = [] := by simpa using h
    have hn := names_nil.1 h0
    refine ⟨?_, fun y n hy => ?_⟩
    · unfold pPut
      rw [hp, show parse [107] = some k from parse_text (t := k) rfl rfl]
      simp only
      rw [put_none _ _ _ (hn _), hf, if_pos (by decide +kernel)]
    · unfold pNorm at hy
      rw [hp] at hy
      simp only [Option.map_eq_some_iff] at hy
      obtain ⟨⟨u, m⟩, hu, he⟩ := hy
      simp only [Prod.mk.injEq] at he
      obtain ⟨rfl, rfl⟩ := he
      obtain ⟨g1, g2⟩ := norm_good hu hg hf
      refine ⟨closed_text g1 g2 fun n => ?_, (parse_facts (parse_text g1 g2)).2.2.2.2⟩
      cases hc : has n u with
      | false => rfl
      | true => have := star_has (norm_star hu).1 n hc; rw [hn n] at this; cases this

theorem pNorm_normal {t : Tm} (hg : t.good = true) (hf : t.fits = true) (h : step t = none) : (pNorm t.text).isSome = true := by
  unfold pNorm
  rw [parse_text hg hf]
  simp [norm_of_normal h]

theorem data_facts {l : List UInt8} {t : Tm} (h : data l = some t) : pClosed t.text = true ∧ ((l == [102, 105, 120]) = true ∨ ((l == [102, 105, 120]) = false ∧ (pNorm t.text).isSome = true)) := by
  obtain ⟨hg, hz⟩ := data_good h
  have hd := depth_lt t
  have hf : t.fits = true := by simp [fits]; omega
  refine ⟨?_, ?_⟩
  · unfold pClosed
    rw [parse_text hg hf]
    unfold data at h
    repeat' split at h
    all_goals first | (obtain rfl := Option.some.inj h; decide +kernel) | cases h
  · by_cases hl : l = [102, 105, 120]
    · left; simp [hl]
    · right
      refine ⟨by simp [hl], pNorm_normal hg hf ?_⟩
      unfold data at h
      repeat' split at h
      all_goals first | contradiction | (obtain rfl := Option.some.inj h; decide +kernel) | cases h
end Tm

end Go.Proofs.Ytipmgfbncfkmiaa
