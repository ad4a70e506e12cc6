/-
  The program's exported functions ApplyOf, TermEqual, over applyNormal.
-/
import Derived.Test.YtipmgfbncfkmiaaApN
import Derived.Test.YtipmgfbncfkmiaaPkU
namespace Go.Proofs.Ytipmgfbncfkmiaa
open Go.RowKit

set_option maxHeartbeats 1000000
set_option maxRecDepth 100000

/-- A text handed back, or nothing. -/
def TextRes' (w : World) (r : Option (List UInt8)) (e : Ending) (w' : World) : Prop :=
  e = .returned (.tuple #[str (r.getD []), .bool r.isSome]) ∧ Below w.heap.size w w'

theorem text_small {t : Tm} (hg : t.good = true) (hf : t.fits = true) : t.text.length ≤ 1000000 := by
  have htm := Tm.text_le _ hg
  have hsm := fits_size hf
  omega

/-- What an end is written as. -/
theorem end_small {t u : Tm} (h : Tm.endOf t = some u) (hg : t.good = true) : u.good = true ∧ u.text.length ≤ 1000000 :=
  ⟨(Tm.endOf_facts h hg).1, text_small (Tm.endOf_facts h hg).1 (Tm.endOf_facts h hg).2⟩

theorem pApply_end (l m : List UInt8) : Tm.pApply l m = match Tm.parse l, Tm.parse m with
  | some t, some u => (Tm.endOf (.app t u)).map Tm.text
  | _, _ => none := by
  unfold Tm.pApply Tm.endOf
  split
  · rename_i t u h1 h2
    simp only [h1, h2]
    split
    · cases ((t.app u).norm) <;> rfl
    · rfl
  · rename_i h
    split
    · rename_i t u h1 h2; exact absurd h2 (h t u h1)
    · rfl

theorem impl_apply (w : World) (l m : List UInt8) (hl : l.length ≤ 1000000000) (hm : m.length ≤ 1000000000) :
    Calls Try.prog 40 #[str l, str m] w (TextRes' w (Tm.pApply l m)) := by
  have hread := readBoth_any w w.heap.size l m (Nat.le_refl _) hl hm
  unfold BothPost at hread
  rw [pApply_end]
  by_cases hb : ((Tm.parse l).isSome && (Tm.parse m).isSome) = false
  · have hfin : (match Tm.parse l, Tm.parse m with | some t, some u => (Tm.endOf (.app t u)).map Tm.text | _, _ => none) = none := by
      split
      · rename_i h1 h2; rw [h1, h2] at hb; simp at hb
      · rfl
    rw [hfin]
    rw [hb] at hread
    clear hfin hb
    go_enter Try.func40, Try.ntmps40
    go_wp2_with (go_at_call 68; refine hread.mono ?_; rintro e w1 ⟨v1, v2, rfl, hb1, hv1⟩; clear hv1)
    go_ret2
    exact ⟨rfl, hb1⟩
  · have hb' : ((Tm.parse l).isSome && (Tm.parse m).isSome) = true := by rw [Bool.not_eq_false] at hb; exact hb
    rw [Bool.and_eq_true, Option.isSome_iff_exists, Option.isSome_iff_exists] at hb'
    obtain ⟨⟨t, hp⟩, ⟨u, hq⟩⟩ := hb'
    obtain ⟨hg, hf, hs, _, _⟩ := Tm.parse_facts hp
    obtain ⟨hgu, hfu, hsu, _, _⟩ := Tm.parse_facts hq
    have hga : (t.app u).good = true := by simp [Tm.good, hg, hgu]
    rw [hp, hq] at hread ⊢
    simp only [Option.isSome_some, Bool.and_self] at hread
    clear hb
    show Calls _ _ _ _ (TextRes' w ((Tm.endOf (.app t u)).map Tm.text))
    have hcall := fun W v1 v2 h1 h2 hB => applyNormal_any W w.heap.size t u v1 v2 h1 h2 hB (by omega)
    unfold DataPost at hcall
    clear hp hq
    cases hE : Tm.endOf (.app t u) with
    | none =>
      simp only [hE] at hcall
      clear hE
      go_enter Try.func40, Try.ntmps40
      go_wp2_with fail
      refine hread.mono ?_
      rintro e w1 ⟨v1, v2, rfl, hb1, hv1⟩
      obtain ⟨ht1, ht2⟩ := hv1 t u rfl rfl
      have hc := hcall w1 v1 v2 ht1 ht2 hb1.size
      clear hv1 hread ht1 ht2 hcall
      go_wp2_with fail
      refine hc.mono ?_
      rintro e w2 ⟨v3, rfl, hb2, hv3⟩
      clear hc hv3
      go_wp2_with fail
      go_ret2
      exact ⟨rfl, below_trans hb1 hb2⟩
    | some x =>
      obtain ⟨hgx, htx⟩ := end_small hE hga
      simp only [hE] at hcall
      clear hE
      go_enter Try.func40, Try.ntmps40
      go_wp2_with fail
      refine hread.mono ?_
      rintro e w1 ⟨v1, v2, rfl, hb1, hv1⟩
      obtain ⟨ht1, ht2⟩ := hv1 t u rfl rfl
      have hc := hcall w1 v1 v2 ht1 ht2 hb1.size
      clear hv1 hread ht1 ht2 hcall
      go_wp2_with fail
      refine hc.mono ?_
      rintro e w2 ⟨v3, rfl, hb2, hv3⟩
      have htext := textOf_any w2 _ x v3 (hv3 x rfl) hgx htx
      clear hc hv3
      go_wp2_with (go_at_call 71; refine htext.mono ?_; rintro e w7 ⟨rfl, hb7⟩)
      go_ret2
      exact ⟨rfl, below_trans (below_trans hb1 hb2) hb7⟩

theorem impl_equal (w : World) (l m : List UInt8) (hl : l.length ≤ 1000000000) (hm : m.length ≤ 1000000000) :
    Calls Try.prog 43 #[str l, str m] w fun e w' => e = .returned (.bool (Tm.pEqual l m)) ∧ Below w.heap.size w w' := by
  have h1 := impl_norm w l hl
  have h2 := fun W => impl_norm W m hm
  unfold NumRes at h1 h2
  unfold Tm.pEqual
  cases hp : Tm.pNorm l with
  | none =>
    rw [hp] at h1
    go_enter Try.func43, Try.ntmps43
    go_wp2_with (go_at_call 27; refine h1.mono ?_; rintro e w1 ⟨rfl, hb1⟩)
    go_ret
    exact ⟨rfl, hb1⟩
  | some p =>
    obtain ⟨x, i⟩ := p
    rw [hp] at h1
    simp only [Option.map_some, Option.getD_some, Option.isSome_some] at h1
    cases hq : Tm.pNorm m with
    | none =>
      rw [hq] at h2
      clear hp hq
      go_enter Try.func43, Try.ntmps43
      go_wp2_with fail
      refine h1.mono ?_
      rintro e w1 ⟨rfl, hb1⟩
      go_wp2_with (go_at_call 27; refine (h2 _).mono ?_; rintro e w2 ⟨rfl, hb2⟩)
      go_ret
      exact ⟨rfl, below_trans hb1 hb2⟩
    | some q =>
      obtain ⟨y, j⟩ := q
      rw [hq] at h2
      simp only [Option.map_some, Option.getD_some, Option.isSome_some] at h2
      clear hp hq
      obtain ⟨b, hb⟩ : ∃ b, b = decide (x = y) := ⟨_, rfl⟩
      simp only [← hb]
      have hxy : (x == y) = b := by rw [hb]; exact Bool.eq_iff_iff.2 (by rw [beq_iff_eq, decide_eq_true_eq])
      clear hb
      cases b
      all_goals
        try simp only [beq_iff_eq] at hxy
        try subst hxy
        go_enter Try.func43, Try.ntmps43
        go_wp2_with fail
        refine h1.mono ?_
        rintro e w1 ⟨rfl, hb1⟩
        go_wp2_with (go_at_call 27; refine (h2 _).mono ?_; rintro e w2 ⟨rfl, hb2⟩)
        go_ret
        exact ⟨rfl, below_trans hb1 hb2⟩
end Go.Proofs.Ytipmgfbncfkmiaa
