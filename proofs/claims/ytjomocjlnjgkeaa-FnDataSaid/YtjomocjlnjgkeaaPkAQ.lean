/-
  The model's pairs and numerals: l2Name, l2Pair, l2Number; NumberOf.
-/
import Derived.Test.YtjomocjlnjgkeaaPkAP
import Derived.Test.YtjomocjlnjgkeaaPkAN
import Derived.Test.YtjomocjlnjgkeaaPkAG
import Derived.Test.YtjomocjlnjgkeaaPkAO
namespace Go.Proofs.Ytjomocjlnjgkeaa
open Go.RowKit

set_option maxHeartbeats 2000000
set_option maxRecDepth 100000

namespace Tm
theorem abs_none (x : List UInt8) (t : Tm) (h : uses x t = 0) : abs x t = app k t := by
  cases t with
  | nm n => simp only [uses] at h; split at h; · simp at h
            rename_i hn; simp [abs, hn]
  | app f a => simp only [abs, h, if_true]
  | k => rfl
  | s => rfl
theorem isNm_uses (x : List UInt8) (t : Tm) (h : uses x t = 0) : isNm x t = false := by
  cases t with
  | nm n => simp only [uses] at h; split at h; · simp at h
            rename_i hn; simp [isNm, hn]
  | _ => rfl
theorem pair_abs (x : List UInt8) (a b : Tm) (ha : uses x a = 0) (hb : uses x b = 0) : abs x (app (app (nm x) a) b) = pair a b := by
  have h1 : uses x (app (app (nm x) a) b) = 1 := by simp [uses, ha, hb]
  have h2 : uses x (app (nm x) a) = 1 := by simp [uses, ha]
  rw [abs, h1, if_neg (by decide), isNm_uses x b hb, if_neg (by simp), abs_none x b hb, abs, h2, if_neg (by decide), isNm_uses x a ha, if_neg (by simp), abs_none x a ha]
  simp [abs, pair]
theorem uses_bad (x : List UInt8) (hx : nameOk x = false) : ∀ {t : Tm}, good t = true → uses x t = 0
  | nm n, h => by
    simp only [uses]
    split
    · rename_i hn; subst hn; simp only [good] at h; rw [hx] at h; simp at h
    · rfl
  | app f a, h => by simp only [good, Bool.and_eq_true] at h; simp only [uses, uses_bad x hx h.1, uses_bad x hx h.2]
  | k, _ => rfl
  | s, _ => rfl
end Tm

theorem s_nm (w : World) (x : List UInt8) : Calls Try.prog 58 #[str x] w fun e w' => e = .returned (.agg #[str x, .slice none 0 0]) ∧ After w w' := by
  have hA := After.new w (.cells #[str x, .slice none 0 0] 40)
  go_enter Try.func58, Try.ntmps58
  go_wp2_with fail
  exact bodyPost_ret (v := .agg #[str x, .slice none 0 0]) (by simp [results, Try.results58, go_sem]) rfl ⟨rfl, hA⟩

theorem s_pair (w : World) (a b : Tm) (s1 s2 : List UInt8) (ao1 ao2 : Option Addr) (n1 c1 n2 c2 : Nat) (ha : ST w a (.agg #[str s1, .slice ao1 n1 c1])) (hb : ST w b (.agg #[str s2, .slice ao2 n2 c2])) (hga : a.good = true) (hgb : b.good = true) (hz : a.size + b.size ≤ 100000000) :
    Calls Try.prog 65 #[.agg #[str s1, .slice ao1 n1 c1], .agg #[str s2, .slice ao2 n2 c2]] w (TreePost w (Tm.pair a b)) := by
  obtain ⟨z, hz'⟩ : ∃ z : List UInt8, z = [122, 57, 57, 57, 57] := ⟨_, rfl⟩
  have hzb : Tm.nameOk z = false := by rw [hz']; decide
  have hz0 : ([] == z) = false := by rw [hz']; decide
  have hzk : ([107] == z) = false := by rw [hz']; decide
  have hzs : ([115] == z) = false := by rw [hz']; decide
  have hpair := Tm.pair_abs z a b (Tm.uses_bad z hzb hga) (Tm.uses_bad z hzb hgb)
  have hplain : (Tm.app (.app (.nm z) a) b).Plain := ⟨⟨by show z ≠ []; rw [hz']; simp, Tm.plain_good hga⟩, Tm.plain_good hgb⟩
  have habs := fun W v (h : ST W (.app (.app (.nm z) a) b) v) => h.abs z hz0 hzk hzs hplain (by simp [Tm.size]; omega)
  rw [hpair] at habs
  unfold TreePost at habs
  obtain ⟨Y, hY⟩ : ∃ Y, Y = ((w.alloc (.cells #[str s1, .slice ao1 n1 c1] 40)).alloc (.cells #[str s2, .slice ao2 n2 c2] 40)).alloc (.cells #[.string ⟨#[]⟩, .slice none 0 0] 40) := ⟨_, rfl⟩
  have hwY : After w Y := by rw [hY]; exact ((After.new _ _).alloc _).alloc _
  have h1Y : Y.heap[w.heap.size]? = some (.cells #[str s1, .slice ao1 n1 c1] 40 (0, 0)) := by rw [hY]; exact (After.new _ _).heap (heap_old2 _ _ _)
  have h2Y : Y.heap[w.heap.size + 1]? = some (.cells #[str s2, .slice ao2 n2 c2] 40 (0, 0)) := by rw [hY]; exact (After.new _ _).heap (heap_new2 _ _ _ _ rfl)
  have hrY : Y.heap[w.heap.size + 1 + 1]? = some (.cells #[.string ⟨#[]⟩, .slice none 0 0] 40 (0, 0)) := by rw [hY]; exact heap_new3 _ _ _ _
  have p0 : ∀ W, ButFor Y (w.heap.size + 1 + 1) W → W.cell? ⟨w.heap.size, 0, none⟩ = some (str s1) := fun W hW => hW.cell (by omega) (cell_of_heap h1Y)
  have p1 : ∀ W, ButFor Y (w.heap.size + 1 + 1) W → W.cell? ⟨w.heap.size, 1, none⟩ = some (.slice ao1 n1 c1) := fun W hW => hW.cell (by omega) (cell_of_heap h1Y)
  have p2 : ∀ W, ButFor Y (w.heap.size + 1 + 1) W → W.cell? ⟨w.heap.size + 1, 0, none⟩ = some (str s2) := fun W hW => hW.cell (by omega) (cell_of_heap h2Y)
  have p3 : ∀ W, ButFor Y (w.heap.size + 1 + 1) W → W.cell? ⟨w.heap.size + 1, 1, none⟩ = some (.slice ao2 n2 c2) := fun W hW => hW.cell (by omega) (cell_of_heap h2Y)
  have hbf : ButFor Y (w.heap.size + 1 + 1) Y.drew := ⟨Nat.le_refl _, fun _ _ _ => rfl⟩
  have hself := After.refl Y
  have hzres : ∀ W, After Y W → W.cell? ⟨w.heap.size + 1 + 1, 0, none⟩ = some (.string ⟨#[]⟩) ∧ W.cell? ⟨w.heap.size + 1 + 1, 1, none⟩ = some (.slice none 0 0) ∧ W.frozen? ⟨w.heap.size + 1 + 1, 0, none⟩ = false ∧ W.frozen? ⟨w.heap.size + 1 + 1, 1, none⟩ = false := fun W hW => by
    obtain ⟨a1, a2, a3, a4, _⟩ := pair_facts hrY hW
    exact ⟨a1, a2, a3, a4⟩
  have hnm := fun W => s_nm W z
  have HZ := Lib.hid hzres
  have HWY := Lib.hid hwY
  have HRY := Lib.hid hrY
  have HTA := Lib.hid (ha.later hwY)
  have HTB := Lib.hid (hb.later hwY)
  have HAB := Lib.hid habs
  have HZN : Hid (z = [122, 57, 57, 57, 57]) := hz'
  rw [hz'] at hnm
  clear hzres hwY hrY h1Y h2Y ha hb habs hpair hplain hzb hz0 hzk hzs hz'
  go_enter Try.func65, Try.ntmps65
  go_wp2_with fail
  rw [← hY]
  clear hY
  go_region_held3 (fun W' => ButFor Y (w.heap.size + 1 + 1) W') (first | assumption | exact hbf | exact After.butFor (by assumption) | exact ButFor.alloc (by assumption) _ | exact (hbf.alloc _) | exact ButFor.set (ButFor.set (by assumption) _ _) _ _ | go_keep)
    (first
      | (go_at_call 58
         refine (hnm _).mono ?_
         rintro e w3 ⟨rfl, hb3⟩
         have hA3 := After.trans (by first | exact hself.drew | exact hself.drew.alloc _ | exact (hself.alloc _).drew | exact hself.alloc _) hb3)
      | (go_at_call 63
         refine (s_app2 _ (.nm z) a b _ s1 s2 none ao1 ao2 0 0 n1 c1 n2 c2 _ (0, 0) ?_ ?_ ?_ ?_).mono ?_
         · rw [HZN.out]; rfl
         · first
             | exact HTA.out.later (hA3.alloc _)
             | exact HTA.out.later hA3
         · first
             | exact HTB.out.later (hA3.alloc _)
             | exact HTB.out.later hA3
         · first
             | exact heap_new' _ _
             | exact heap_later (heap_top Y.drew _) hb3
             | exact heap_later (w := (Y.alloc _).drew) (heap_top Y _) hb3
         rintro e w4 ⟨t4, ao4, nn4, cc4, rfl, hb4, ht4⟩
         have HT4 := Lib.hid ht4
         clear ht4
         have hA4 := After.trans (by first | assumption | exact hA3.alloc _) hb4)
      | (go_at_call 64
         have hab := HAB.out _ _ HT4.out
         rw [HZN.out] at hab
         refine hab.mono ?_
         rintro e w5 ⟨t5, ao5, nn5, cc5, rfl, hb5, ht5⟩
         have HT5 := Lib.hid ht5
         clear ht5 hab
         have hA5 := After.trans hA4 hb5
         obtain ⟨z0, z1, z2, z3⟩ := HZ.out _ hA5))
  all_goals
    go_wp2_with fail
    refine bodyPost_ret (v := .agg #[str t5, .slice ao5 nn5 cc5]) (by simp [results, Try.results65, go_sem, z0, z1]) rfl ⟨t5, ao5, nn5, cc5, rfl, Below.setCell (Below.setCell (HWY.out.trans hA5) (by show w.heap.size ≤ w.heap.size + 1 + 1; omega) _) (by show w.heap.size ≤ w.heap.size + 1 + 1; omega) _, ?_⟩
    exact HT5.out.sets2 (hA5.heap HRY.out)

def SNumOne (w : World) (r : Option (List UInt8)) (e : Ending) (w' : World) : Prop :=
  e = .returned (.tuple #[str (r.getD []), .bool r.isSome]) ∧ After w w'

end Go.Proofs.Ytjomocjlnjgkeaa

namespace Go.Proofs.Ytjomocjlnjgkeaa
open Go.RowKit

set_option maxHeartbeats 1000000
set_option maxRecDepth 100000

theorem bodyOf_any (x : List UInt8) : ∀ {t : Tm} {w : World} {B : Nat} {v : Value}, TV w B t v → Calls Try.prog 105 #[v, str x] w (BodyPost w B (Bd.of x t)) := by
  intro t
  induction t with
  | k => intro w B v h; obtain ⟨b, fr, rfl, _⟩ := id h; exact body_leaf w B x _ b .k (Or.inl rfl) h
  | s => intro w B v h; obtain ⟨b, fr, rfl, _⟩ := id h; exact body_leaf w B x _ b .s (Or.inr rfl) h
  | nm n => intro w B v h; obtain ⟨b, fr, rfl, _⟩ := id h; exact body_name w B x n b h
  | app f a ihf iha =>
    intro w B v h
    have h' := h
    obtain ⟨b, fr, vf, va, rfl, hb, hh, hf, ha⟩ := h
    obtain ⟨T1, x1, rfl, _⟩ := hf.asks
    obtain ⟨T2, x2, rfl, _⟩ := ha.asks
    have hcall := body_parts w B b x f a (Bd.of x f) (Bd.of x a) T1 T2 x1 x2 h' hf (cell_later' (cell_of_heap (i := 0) hh)) (cell_later' (cell_of_heap (i := 1) hh)) (fun W' hW' => ihf (hf.below hW')) (fun W' hW' => iha (ha.below hW'))
    rw [show Bd.of x (.app f a) = Bd.comb f a (Bd.of x f) (Bd.of x a) from rfl]
    generalize Bd.comb f a (Bd.of x f) (Bd.of x a) = c at hcall ⊢
    unfold BodyPost at hcall
    have ha1 := assert_nm_a w (.pointer (some ⟨b, 0, none⟩))
    have ha2 := assert_app w (.pointer (some ⟨b, 0, none⟩))
    clear h' hh hf ha ihf iha
    go_enter Try.func105, Try.ntmps105
    go_wp2_with fail
    refine hcall.mono ?_
    rintro e w1 ⟨v1, rfl, hb1, hv1⟩
    have HV := Lib.hid hv1
    clear hv1 hcall
    go_wp2_with fail
    go_ret
    exact ⟨_, rfl, hb1, HV.out⟩

theorem comb_in {f a : Tm} {b1 b2 : Bd} (h : ∀ u, b1 ≠ .without u) : Bd.comb f a b1 b2 = .inside b1 b2 := by
  cases b1 with
  | without u => exact absurd rfl (h u)
  | itself => cases b2 <;> rfl
  | atEnd u => cases b2 <;> rfl
  | inside c d => cases b2 <;> rfl

theorem comb_in2 {f a : Tm} {b1 b2 : Bd} (h : ∀ u, b2 ≠ .without u) (h2 : b2 ≠ .itself) : Bd.comb f a b1 b2 = .inside b1 b2 := by
  cases b2 with
  | without u => exact absurd rfl (h u)
  | itself => exact absurd rfl h2
  | atEnd u => cases b1 <;> rfl
  | inside c d => cases b1 <;> rfl

theorem of_none (x : List UInt8) : ∀ {t : Tm}, Tm.uses x t = 0 → Bd.of x t = .without t
  | .k, _ => rfl
  | .s, _ => rfl
  | .nm n, h => by
    simp only [Tm.uses] at h
    split at h
    · simp at h
    · rename_i hn; simp [Bd.of, hn]
  | .app f a, h => by
    simp only [Tm.uses] at h
    rw [Bd.of, of_none x (t := f) (by omega), of_none x (t := a) (by omega)]
    rfl

theorem of_some (x : List UInt8) : ∀ {t : Tm}, Tm.uses x t ≠ 0 → (∀ u, Bd.of x t ≠ .without u) ∧ (Bd.of x t = .itself ↔ Tm.isNm x t = true)
  | .k, h => absurd rfl h
  | .s, h => absurd rfl h
  | .nm n, h => by
    simp only [Tm.uses] at h
    split at h
    · rename_i hn; simp [Bd.of, hn, Tm.isNm]
    · exact absurd rfl h
  | .app f a, h => by
    by_cases hf : Tm.uses x f = 0
    · have ha : Tm.uses x a ≠ 0 := by simp only [Tm.uses] at h; omega
      have ih := of_some x ha
      rw [Bd.of, of_none x hf]
      cases hb : Bd.of x a with
      | without u => exact absurd hb (ih.1 u)
      | itself => exact ⟨fun u => by simp [Bd.comb], by simp [Bd.comb, Tm.isNm]⟩
      | atEnd u => exact ⟨fun u => by simp [Bd.comb], by simp [Bd.comb, Tm.isNm]⟩
      | inside c d => exact ⟨fun u => by simp [Bd.comb], by simp [Bd.comb, Tm.isNm]⟩
    · have ih := of_some x hf
      rw [Bd.of, comb_in ih.1]
      exact ⟨fun u => by simp, by simp [Tm.isNm]⟩

theorem of_term (x : List UInt8) : ∀ t : Tm, (Bd.of x t).term = Tm.abs x t
  | .k => rfl
  | .s => rfl
  | .nm n => by by_cases hn : n = x <;> simp [Bd.of, Tm.abs, hn, Bd.term]
  | .app f a => by
    have ihf := of_term x f
    have iha := of_term x a
    by_cases h0 : Tm.uses x (.app f a) = 0
    · rw [of_none x h0, Tm.abs_none x _ h0]; rfl
    · rw [Tm.abs, if_neg h0]
      by_cases hf : Tm.uses x f = 0
      · have ha : Tm.uses x a ≠ 0 := by simp only [Tm.uses] at h0; omega
        have ha' := of_some x ha
        by_cases hn : Tm.isNm x a = true
        · rw [if_pos ⟨hn, hf⟩, Bd.of, of_none x hf, ha'.2.2 hn]; rfl
        · rw [if_neg (fun h => hn h.1), Bd.of, comb_in2 ha'.1 (fun h => hn (ha'.2.1 h)), Bd.term, ihf, iha]
      · rw [if_neg (fun h => hf h.2), Bd.of, comb_in (of_some x hf).1, Bd.term, ihf, iha]

theorem abs_size (x : List UInt8) : ∀ t : Tm, (Tm.abs x t).size + 1 ≤ 4 * t.size
  | .k => by simp [Tm.abs, Tm.size]
  | .s => by simp [Tm.abs, Tm.size]
  | .nm n => by by_cases hn : n = x <;> simp [Tm.abs, hn, Tm.size, Tm.I]
  | .app f a => by
    have ihf := abs_size x f
    have iha := abs_size x a
    have hf := Tm.size_pos f
    have ha := Tm.size_pos a
    rw [Tm.abs]
    split
    · simp only [Tm.size]; omega
    · split
      · simp only [Tm.size]; omega
      · simp only [Tm.size]; omega

theorem abstraction_any (w : World) (B : Nat) (x : List UInt8) (t : Tm) (v : Value) (h : TV w B t v) (hB : B ≤ w.heap.size) (hz : t.size ≤ 1000000) :
    Calls Try.prog 91 #[str x, v] w (TermPost w B (Tm.abs x t)) := by
  have hbody := bodyOf_any x h
  have hsz := abs_size x t
  unfold BodyPost at hbody
  rw [← of_term] at hsz ⊢
  generalize Bd.of x t = b at *
  go_enter Try.func91, Try.ntmps91
  go_wp2_with fail
  refine hbody.mono ?_
  rintro e w1 ⟨v1, rfl, hb1, hv1⟩
  obtain ⟨T1, x1, f1, y1, rfl, m1, n1, d1⟩ := BV.absOk (Nat.le_trans hB hb1.size) hv1 (by omega)
  have hcall := d1 w1 (Below.refl _ _)
  unfold TermPost at hcall
  clear hv1 hbody d1
  go_wp2_with (go_at_fn f1; refine hcall.mono ?_; rintro e w2 ⟨v2, rfl, hb2, ht2⟩; have HT := Lib.hid ht2; clear ht2)
  go_ret
  exact ⟨_, rfl, below_trans hb1 hb2, HT.out⟩
end Go.Proofs.Ytjomocjlnjgkeaa
