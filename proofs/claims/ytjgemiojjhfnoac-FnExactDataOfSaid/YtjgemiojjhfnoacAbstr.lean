/-
  The program's abstraction of a name: bodyOf for every term, abstraction.
-/
import Derived.Test.YtjgemiojjhfnoacBodyOf
import Derived.Test.YtjgemiojjhfnoacSNum
namespace Go.Proofs.Ytjgemiojjhfnoac
open Go.RowKit

set_option maxHeartbeats 1000000
set_option maxRecDepth 100000

theorem bodyOf_any (x : List UInt8) : ∀ {t : Tm} {w : World} {B : Nat} {v : Value}, TV w B t v → Calls Try.prog 83 #[v, str x] w (BodyPost w B (Bd.of x t)) := by
  intro t
  induction t with
  | k => intro w B v h; obtain ⟨b, fr, rfl, _⟩ := id h; exact body_leaf w B x _ b .k (Or.inl rfl) h
  | s => intro w B v h; obtain ⟨b, fr, rfl, _⟩ := id h; exact body_leaf w B x _ b .s (Or.inr rfl) h
  | nm n => intro w B v h; obtain ⟨b, fr, rfl, _⟩ := id h; exact body_name w B x n b h
  | app f a ihf iha =>
    intro w B v h
    have h' := h
    obtain ⟨b, fr, vf, va, rfl, hb, hh, hf, ha⟩ := h
    obtain ⟨T1, x1, rfl, _⟩ := hf.asks
    obtain ⟨T2, x2, rfl, _⟩ := ha.asks
    have hcall := body_parts w B b x f a (Bd.of x f) (Bd.of x a) T1 T2 x1 x2 h' hf (cell_later' (cell_of_heap (i := 0) hh)) (cell_later' (cell_of_heap (i := 1) hh)) (fun W' hW' => ihf (hf.below hW')) (fun W' hW' => iha (ha.below hW'))
    rw [show Bd.of x (.app f a) = Bd.comb f a (Bd.of x f) (Bd.of x a) from rfl]
    generalize Bd.comb f a (Bd.of x f) (Bd.of x a) = c at hcall ⊢
    unfold BodyPost at hcall
    have ha1 := assert_nm_a w (.pointer (some ⟨b, 0, none⟩))
    have ha2 := assert_app w (.pointer (some ⟨b, 0, none⟩))
    clear h' hh hf ha ihf iha
    go_enter Try.func83, Try.ntmps83
    go_wp2_with fail
    refine hcall.mono ?_
    rintro e w1 ⟨v1, rfl, hb1, hv1⟩
    have HV := Lib.hid hv1
    clear hv1 hcall
    go_wp2_with fail
    go_ret
    exact ⟨_, rfl, hb1, HV.out⟩

theorem comb_in {f a : Tm} {b1 b2 : Bd} (h : ∀ u, b1 ≠ .without u) : Bd.comb f a b1 b2 = .inside b1 b2 := by
  cases b1 with
  | without u => exact absurd rfl (h u)
  | itself => cases b2 <;> rfl
  | atEnd u => cases b2 <;> rfl
  | inside c d => cases b2 <;> rfl

theorem comb_in2 {f a : Tm} {b1 b2 : Bd} (h : ∀ u, b2 ≠ .without u) (h2 : b2 ≠ .itself) : Bd.comb f a b1 b2 = .inside b1 b2 := by
  cases b2 with
  | without u => exact absurd rfl (h u)
  | itself => exact absurd rfl h2
  | atEnd u => cases b1 <;> rfl
  | inside c d => cases b1 <;> rfl

theorem of_none (x : List UInt8) : ∀ {t : Tm}, Tm.uses x t = 0 → Bd.of x t = .without t
  | .k, _ => rfl
  | .s, _ => rfl
  | .nm n, h => by
    simp only [Tm.uses] at h
    split at h
    · simp at h
    · rename_i hn; simp [Bd.of, hn]
  | .app f a, h => by
    simp only [Tm.uses] at h
    rw [Bd.of, of_none x (t := f) (by omega), of_none x (t := a) (by omega)]
    rfl

theorem of_some (x : List UInt8) : ∀ {t : Tm}, Tm.uses x t ≠ 0 → (∀ u, Bd.of x t ≠ .without u) ∧ (Bd.of x t = .itself ↔ Tm.isNm x t = true)
  | .k, h => absurd rfl h
  | .s, h => absurd rfl h
  | .nm n, h => by
    simp only [Tm.uses] at h
    split at h
    · rename_i hn; simp [Bd.of, hn, Tm.isNm]
    · exact absurd rfl h
  | .app f a, h => by
    by_cases hf : Tm.uses x f = 0
    · have ha : Tm.uses x a ≠ 0 := by simp only [Tm.uses] at h; omega
      have ih := of_some x ha
      rw [Bd.of, of_none x hf]
      cases hb : Bd.of x a with
      | without u => exact absurd hb (ih.1 u)
      | itself => exact ⟨fun u => by simp [Bd.comb], by simp [Bd.comb, Tm.isNm]⟩
      | atEnd u => exact ⟨fun u => by simp [Bd.comb], by simp [Bd.comb, Tm.isNm]⟩
      | inside c d => exact ⟨fun u => by simp [Bd.comb], by simp [Bd.comb, Tm.isNm]⟩
    · have ih := of_some x hf
      rw [Bd.of, comb_in ih.1]
      exact ⟨fun u => by simp, by simp [Tm.isNm]⟩

theorem of_term (x : List UInt8) : ∀ t : Tm, (Bd.of x t).term = Tm.abs x t
  | .k => rfl
  | .s => rfl
  | .nm n => by by_cases hn : n = x <;> simp [Bd.of, Tm.abs, hn, Bd.term]
  | .app f a => by
    have ihf := of_term x f
    have iha := of_term x a
    by_cases h0 : Tm.uses x (.app f a) = 0
    · rw [of_none x h0, Tm.abs_none x _ h0]; rfl
    · rw [Tm.abs, if_neg h0]
      by_cases hf : Tm.uses x f = 0
      · have ha : Tm.uses x a ≠ 0 := by simp only [Tm.uses] at h0; omega
        have ha' := of_some x ha
        by_cases hn : Tm.isNm x a = true
        · rw [if_pos ⟨hn, hf⟩, Bd.of, of_none x hf, ha'.2.2 hn]; rfl
        · rw [if_neg (fun h => hn h.1), Bd.of, comb_in2 ha'.1 (fun h => hn (ha'.2.1 h)), Bd.term, ihf, iha]
      · rw [if_neg (fun h => hf h.2), Bd.of, comb_in (of_some x hf).1, Bd.term, ihf, iha]

theorem abs_size (x : List UInt8) : ∀ t : Tm, (Tm.abs x t).size + 1 ≤ 4 * t.size
  | .k => by simp [Tm.abs, Tm.size]
  | .s => by simp [Tm.abs, Tm.size]
  | .nm n => by by_cases hn : n = x <;> simp [Tm.abs, hn, Tm.size, Tm.I]
  | .app f a => by
    have ihf := abs_size x f
    have iha := abs_size x a
    have hf := Tm.size_pos f
    have ha := Tm.size_pos a
    rw [Tm.abs]
    split
    · simp only [Tm.size]; omega
    · split
      · simp only [Tm.size]; omega
      · simp only [Tm.size]; omega

theorem abstraction_any (w : World) (B : Nat) (x : List UInt8) (t : Tm) (v : Value) (h : TV w B t v) (hB : B ≤ w.heap.size) (hz : t.size ≤ 1000000) :
    Calls Try.prog 61 #[str x, v] w (TermPost w B (Tm.abs x t)) := by
  have hbody := bodyOf_any x h
  have hsz := abs_size x t
  unfold BodyPost at hbody
  rw [← of_term] at hsz ⊢
  generalize Bd.of x t = b at *
  go_enter Try.func61, Try.ntmps61
  go_wp2_with fail
  refine hbody.mono ?_
  rintro e w1 ⟨v1, rfl, hb1, hv1⟩
  obtain ⟨T1, x1, f1, y1, rfl, m1, n1, d1⟩ := BV.absOk (Nat.le_trans hB hb1.size) hv1 (by omega)
  have hcall := d1 w1 (Below.refl _ _)
  unfold TermPost at hcall
  clear hv1 hbody d1
  go_wp2_with (go_at_fn f1; refine hcall.mono ?_; rintro e w2 ⟨v2, rfl, hb2, ht2⟩; have HT := Lib.hid ht2; clear ht2)
  go_ret
  exact ⟨_, rfl, below_trans hb1 hb2, HT.out⟩
end Go.Proofs.Ytjgemiojjhfnoac
