/-
  Plain mathematics of the promise of abstractions: an abstraction applied is the term with what it is applied to.
-/
import Derived.Test.YtfjohagdlaiapaaPkK
import Derived.Test.YtfjohagdlaiapaaHasA
import Derived.Test.YtfjohagdlaiapaaPromS
import Derived.Test.YtfjohagdlaiapaaImplAbs
namespace Go.Proofs.Ytfjohagdlaiapaa
open Go.RowKit

set_option maxRecDepth 100000

namespace Tm
def absN : List (List UInt8) → Tm → Tm
  | [], t => t
  | x :: xs, t => abs x (absN xs t)
def appK : Nat → Tm → Tm
  | 0, u => u
  | j + 1, u => app (appK j u) k

theorem absL_N : ∀ (ns : List (List UInt8)) {t u : Tm}, absL ns.reverse t = some u → u = absN ns t
  | [], t, u, h => (Option.some.inj h).symm
  | x :: xs, t, u, h => by
    rw [List.reverse_cons, absL_snoc] at h
    obtain ⟨v, hv, h2⟩ := Option.bind_eq_some_iff.1 h
    have e := absL_N xs hv
    subst e
    split at h2
    · exact (Option.some.inj h2).symm
    · cases h2

theorem absN_has : ∀ (ns : List (List UInt8)) (t : Tm) (n : List UInt8), n ∈ ns → has n (absN ns t) = false
  | [], _, _, h => by cases h
  | x :: xs, t, n, h => by
    cases hc : has n (absN (x :: xs) t) with
    | false => rfl
    | true =>
      obtain ⟨h1, h2⟩ := has_abs n x (absN xs t) hc
      rcases List.mem_cons.1 h with e | e
      · exact (h2 e).elim
      · rw [absN_has xs t n e] at h1; cases h1

theorem put_absN {x : List UInt8} : ∀ (xs : List (List UInt8)) (t : Tm), x ∉ xs → put (absN xs t) x k = absN xs (put t x k)
  | [], _, _ => rfl
  | y :: ys, t, h => by
    show put (abs y (absN ys t)) x k = abs y (absN ys (put t x k))
    rw [put_abs' (fun e => h (by rw [e]; exact List.mem_cons_self)) rfl, put_absN ys t (fun e => h (List.mem_cons_of_mem _ e))]

theorem absN_star {x : List UInt8} {xs : List (List UInt8)} (h : x ∉ xs) (t : Tm) : Star (app (absN (x :: xs) t) k) (absN xs (put t x k)) := by
  have h1 := abs_star x k (absN xs t)
  rw [put_absN xs t h] at h1
  exact h1

theorem okL_nodup : ∀ (acc ns : List (List UInt8)), okL acc ns = true → ns.Nodup ∧ ∀ x ∈ ns, x ∉ acc
  | _, [], _ => ⟨List.nodup_nil, fun x h => by cases h⟩
  | acc, x :: xs, h => by
    simp only [okL, Bool.and_eq_true, Bool.not_eq_true', decide_eq_false_iff_not] at h
    obtain ⟨h1, h2⟩ := okL_nodup _ xs h.2.2
    refine ⟨List.nodup_cons.2 ⟨fun hx => h2 x hx (List.mem_append_right _ (List.mem_singleton.2 rfl)), h1⟩, fun y hy => ?_⟩
    rcases List.mem_cons.1 hy with e | e
    · rw [e]; exact h.2.1
    · exact fun hx => h2 y e (List.mem_append_left _ hx)

/-- Where the law stands behind j names: the abstraction applied so often comes to the abstraction of the others from the term with k put. -/
def AbsK (ns : List (List UInt8)) (out t : Tm) (j : Nat) (Y : Tm) : Prop :=
  Y.good = true ∧ Y.size = t.size ∧ Y.depth = t.depth ∧ Star (appK j out) (absN (ns.drop j) Y)

theorem absK_step {ns : List (List UInt8)} {out t Y : Tm} {j : Nat} (h : AbsK ns out t j Y) (hf : t.fits = true) (hnd : ns.Nodup) (hj : j < ns.length) (hok : nameOk (ns.getD j []) = true) :
    ∃ Y', pPut Y.text (ns.getD j []) [107] = some Y'.text ∧ AbsK ns out t (j + 1) Y' := by
  obtain ⟨h1, h2, h3, h4⟩ := h
  have hft : Y.fits = true := by simp only [fits, Bool.and_eq_true, decide_eq_true_eq] at hf ⊢; omega
  have hz := size_put (ns.getD j []) k Y
  have hd := depth_put (ns.getD j []) k rfl Y
  have hsz : (put Y (ns.getD j []) k).size = Y.size := by have : (k : Tm).size = 1 := rfl; rw [this] at hz; omega
  have hg := good_put (ns.getD j []) k Y rfl h1
  have hfp : (put Y (ns.getD j []) k).fits = true := by
    have : Y.fits = (put Y (ns.getD j []) k).fits := by simp only [fits, hsz, hd]
    rw [← this]; exact hft
  have hdr : ns.drop j = ns.getD j [] :: ns.drop (j + 1) := by rw [List.drop_eq_getElem_cons hj, List.getD, List.getElem?_eq_getElem hj]; rfl
  have hnn : ns.getD j [] ∉ ns.drop (j + 1) := by
    have h5 : (ns.drop j).Nodup := hnd.sublist (List.drop_sublist _ _)
    rw [hdr] at h5
    exact (List.nodup_cons.1 h5).1
  refine ⟨put Y (ns.getD j []) k, ?_, hg, by omega, by rw [hd, h3], ?_⟩
  · unfold pPut
    rw [parse_text h1 hft, show parse [107] = some k from parse_text (t := k) rfl rfl]
    simp only [hok, hfp, Bool.and_self, if_true]
  · rw [hdr] at h4
    exact (h4.app (.refl k)).trans (absN_star hnn Y)

theorem appK_good {u : Tm} (hg : u.good = true) : ∀ j, (appK j u).good = true
  | 0 => hg
  | j + 1 => by simp [appK, good, appK_good hg j]

theorem appK_len (u : Tm) : ∀ j, (appK j u).text.length = u.text.length + 4 * j
  | 0 => rfl
  | j + 1 => by
    have h := appK_len u j
    show (40 :: ((appK j u).text ++ 32 :: ([107] ++ [41]))).length = _
    simp
    omega

theorem absK_end {ns : List (List UInt8)} {out t Y : Tm} (h : AbsK ns out t ns.length Y) (hgo : out.good = true) {a b : List UInt8} {i j : Nat} (ha : pNorm (appK ns.length out).text = some (a, i)) (hb : pNorm Y.text = some (b, j)) : a = b := by
  obtain ⟨h1, h2, h3, h4⟩ := h
  rw [List.drop_length] at h4
  exact same_end (V := Y) (appK_good hgo _) h1 h4 (.refl _) ha hb

theorem pAbs_facts {ns : List (List UInt8)} {l x : List UInt8} (h : pAbs ns l = some x) : ∃ t out, parse l = some t ∧ l = t.text ∧ t.good = true ∧ t.fits = true ∧ x = out.text ∧ out.good = true ∧ out.fits = true ∧ ns.Nodup ∧ (∀ y ∈ ns, nameOk y = true) ∧
    AbsK ns out t 0 t ∧ (∀ y ∈ ns, has y out = false) ∧ parse x = some out := by
  unfold pAbs at h
  split at h
  · rename_i hc
    cases hp : parse l with
    | none => rw [hp] at h; cases h
    | some t =>
      rw [hp] at h
      simp only at h
      obtain ⟨out, ho, rfl⟩ := Option.map_eq_some_iff.1 h
      obtain ⟨hl, hg, hf⟩ := parse_text_iff hp
      have hnm := okL_names [] ns hc.2
      have hnd := (okL_nodup [] ns hc.2).1
      obtain ⟨g1, g2⟩ := absL_good _ ho hg hf (fun y hy => hnm y (List.mem_reverse.1 hy))
      have e := absL_N ns ho
      refine ⟨t, out, rfl, hl, hg, hf, rfl, g1, g2, hnd, hnm, ⟨hg, rfl, rfl, ?_⟩, fun y hy => ?_, parse_text g1 g2⟩
      · rw [e]; exact .refl _
      · rw [e]; exact absN_has ns t y hy
  · cases h
end Tm
end Go.Proofs.Ytfjohagdlaiapaa
