/-
  The model's exported functions ApplyOf, CodeOf, CodeWords.
-/
import Derived.Test.YtfpekihdoclncaaGreatPkBF
import Derived.Test.YtfpekihdoclncaaGreatPkBC
import Derived.Test.YtfpekihdoclncaaGreatPkBE
namespace Go.Proofs.YtfpekihdoclncaaGreat
open Go.RowKit

set_option maxHeartbeats 1000000
set_option maxRecDepth 100000

theorem codeT_small {l : List UInt8} {t : Tm} (h : Tm.closedOf l = some t) : Tm.codeT l = if smallB t = true then some (smallT t) else none := by
  obtain ⟨_, hn⟩ := Tm.closed_facts h
  unfold Tm.codeT
  rw [h]
  have hb := small_eq hn
  show (if (Tm.code t).fits = true then some (Tm.code t) else none) = _
  rw [← hb]
  split
  · rename_i h1; rw [small_some h1]
  · rfl
theorem codeT_none {l : List UInt8} (h : Tm.closedOf l = none) : Tm.codeT l = none := by
  unfold Tm.codeT
  rw [h]
theorem small_facts {l : List UInt8} {t : Tm} (h : Tm.closedOf l = some t) : t.good = true ∧ t.size ≤ 3000 ∧ t.names [] = [] ∧ (smallT t).good = true ∧ (smallT t).size ≤ 39000 ∧ (smallB t = true → (smallT t).text.length ≤ 100000000) := by
  obtain ⟨hp, hn⟩ := Tm.closed_facts h
  obtain ⟨hg, hf, hs, _, htx⟩ := Tm.parse_facts hp
  have hcz := Tm.code_size_le t
  refine ⟨hg, hs, hn, ?_, ?_, ?_⟩
  · unfold smallT; split
    · exact Tm.code_good t hg
    · exact hg
  · unfold smallT; split <;> omega
  · intro hb
    have e := small_eq hn
    rw [hb] at e
    rw [small_some hb]
    have := text_small (Tm.code_good t hg) e.symm
    omega

end Go.Proofs.YtfpekihdoclncaaGreat

namespace Go.Proofs.YtfpekihdoclncaaGreat
open Go.RowKit

set_option maxHeartbeats 2000000
set_option maxRecDepth 100000

namespace Tm
theorem behind_is {F : Tm} {t a : Tm} (hF : F.good = true) (hg : t.good = true) (h : behind F.text t = some a) : t = app F a := by
  cases t with
  | app f b =>
    simp only [behind] at h
    split at h
    · rename_i he
      obtain rfl := Option.some.inj h
      simp only [good, Bool.and_eq_true] at hg
      rw [text_inj hg.1 hF he]
    · cases h
  | _ => simp [behind] at h

theorem parts_pair {t m n : Tm} (h : t.parts = some (m, n)) (hg : t.good = true) : t = pair m n := by
  cases t with
  | app x y =>
    have hg' := hg
    simp only [good, Bool.and_eq_true] at hg'
    simp only [parts] at h
    split at h
    · simp at h
    · rename_i n' e1
      split at h
      · simp at h
      · rename_i left e2
        split at h
        · simp at h
        · rename_i front e3
          split at h
          · simp at h
          · rename_i m' e4
            simp only [Option.some.injEq, Prod.mk.injEq] at h
            obtain ⟨rfl, rfl⟩ := h
            have g1 := behind_is (F := k) rfl hg'.2 e1
            have g2 := behind_is (F := s) rfl hg'.1 e2
            subst g1
            subst g2
            simp only [good, Bool.and_eq_true] at hg'
            have g3 := behind_is (F := app s I) rfl hg'.1.2 e3
            subst g3
            simp only [good, Bool.and_eq_true] at hg'
            have g4 := behind_is (F := k) rfl hg'.1.2.2 e4
            subst g4
            rfl
  | _ => simp [parts] at h
theorem parts_of_pair (m n : Tm) : (pair m n).parts = some (m, n) := by
  have h1 : Tm.text .k = [107] := rfl
  have h2 : Tm.text .s = [115] := rfl
  have h3 : Tm.text (.app .s I) = [40, 115, 32, 40, 40, 115, 32, 107, 41, 32, 107, 41, 41] := by decide
  simp [pair, parts, behind, h1, h2, h3]
theorem text_mt {u t : Tm} (hu : u.good = true) (hn : ∀ n, has n u = false) (hg : t.good = true) : (t.text == u.text) = (mt u t).isSome := by
  rw [Bool.eq_iff_iff, beq_iff_eq, Option.isSome_iff_exists]
  constructor
  · intro h
    obtain rfl := text_inj hg hu h
    exact ⟨_, mt_self _ hn⟩
  · rintro ⟨l, h⟩
    rw [(mt_closed _ _ _ hn h).1]
end Tm

end Go.Proofs.YtfpekihdoclncaaGreat

namespace Go.Proofs.YtfpekihdoclncaaGreat
open Go.RowKit

set_option maxHeartbeats 2000000
set_option maxRecDepth 100000

theorem s_end4' (w : World) (x : Tm) (ok : Bool) (v : Value) (hv : Yd.raw.holds v w) (h : ok = true → ST w x v ∧ x.good = true ∧ x.size ≤ 1000000) :
    Calls Tryz.prog 18 #[v, .bool ok] w fun e w' => e = .returned (.tuple #[str ((endR x ok).getD []), .bool (endR x ok).isSome]) ∧ After w w' := by
  obtain ⟨s, ao, n, c, rfl⟩ := hv
  exact s_end4 w x ok s ao n c h

theorem end_of {c : Option Tm} {t : Tm} {f : Tm → Tm} {b : Bool} (h : c = if b = true then some t else none) : (c.bind fun d => (Tm.endOf (f d)).map Tm.text) = endR (f t) b := by
  subst h
  unfold endR
  cases b <;> rfl

theorem fits_app {f a : Tm} (h : a.fits = false) : (Tm.app f a).fits = false := by
  cases hh : (Tm.app f a).fits with
  | false => rfl
  | true =>
    have hh := fits_size hh
    simp only [Tm.size, Tm.depth] at hh
    have : a.fits = true := by
      simp only [Tm.fits, Bool.and_eq_true, decide_eq_true_eq]
      exact ⟨by omega, by omega⟩
    rw [this] at h
    cases h
theorem small_good {t : Tm} (h : t.good = true) : (smallT t).good = true := by
  unfold smallT
  split
  · exact Tm.code_good t h
  · exact h
theorem code_has : ∀ (t : Tm) (n : List UInt8), Tm.has n t.code = Tm.has n t
  | .k, n => closed_of (by kernel_rfl) n
  | .s, n => closed_of (by kernel_rfl) n
  | .nm _, _ => rfl
  | .app f a, n => by simp [Tm.code, Tm.appC, Tm.has, Tm.pair, Tm.I, code_has f n, code_has a n]
theorem code_names_nil (t : Tm) (hn : t.names [] = []) : t.code.names [] = [] := by
  cases h : t.code.names [] with
  | nil => rfl
  | cons n ns =>
    have h1 := (Tm.mem_names n t.code []).1 (by rw [h]; simp)
    rcases h1 with h1 | h1
    · cases h1
    · rw [code_has, closed_of hn] at h1
      cases h1

end Go.Proofs.YtfpekihdoclncaaGreat
