/-
  nameValid, for a seat without namesOf (Names has the same theorems: take one of the two).
-/
import Derived.Test.YtjgemiojjhfnoacReadC
namespace Go.Proofs.Ytjgemiojjhfnoac
open Go.RowKit

set_option maxHeartbeats 400000
set_option maxRecDepth 100000

/-! ### nameValid -/

theorem nameOk_len (l : List UInt8) : Tm.nameOk l = (!l.isEmpty && decide (Tm.nameLen l 0 = l.length)) := by
  cases hl : l with
  | nil => rfl
  | cons c ds =>
    rw [← hl]
    have hne : l.isEmpty = false := by rw [hl]; rfl
    rw [hne, Bool.eq_iff_iff]
    simp only [Bool.not_false, Bool.true_and, decide_eq_true_eq]
    constructor
    · exact fun h => Tm.nameLen_of l l [] 0 (by simp) h (by simp)
    · intro h
      have := Tm.nameLen_sound l 0 (by rw [h, hl]; simp)
      rw [h] at this
      simpa using this.1

theorem nameValid_any (w : World) (l : List UInt8) (hl : l.length ≤ 1000000000) :
    Calls Try.prog 30 #[str l] w fun e w' => e = .returned (.bool (Tm.nameOk l)) ∧ w = w' := by
  have hnl := nameLength_any w l hl
  have hsz : (⟨l.toArray⟩ : ByteArray).size = l.length := by show l.toArray.size = _; simp
  have hok := nameOk_len l
  generalize Tm.nameLen l 0 = k at *
  cases hl0 : l.isEmpty with
  | true =>
    have hfin : Tm.nameOk l = false := by rw [hok, hl0]; rfl
    rw [hfin]
    clear hok hfin
    go_enter Try.func30, Try.ntmps30
    go_wp2_with (go_at_call 56; refine hnl.mono ?_; rintro e w' ⟨rfl, rfl⟩)
    go_ret
    exact ⟨by simp_all, rfl⟩
  | false =>
    by_cases hk : k = l.length
    · have hfin : Tm.nameOk l = true := by rw [hok, hl0]; simp [hk]
      rw [hfin]
      have he : ((k : Int) == (l.length : Int)) = true := by rw [beq_iff_eq]; omega
      clear hok hfin hk
      go_enter Try.func30, Try.ntmps30
      go_wp2_with (go_at_call 56; refine hnl.mono ?_; rintro e w' ⟨rfl, rfl⟩)
      go_ret
      exact ⟨by simp_all, rfl⟩
    · have hfin : Tm.nameOk l = false := by rw [hok, hl0]; simp [hk]
      rw [hfin]
      have he : ((k : Int) == (l.length : Int)) = false := by rw [beq_eq_false_iff_ne]; omega
      clear hok hfin hk
      go_enter Try.func30, Try.ntmps30
      go_wp2_with (go_at_call 56; refine hnl.mono ?_; rintro e w' ⟨rfl, rfl⟩)
      go_ret
      exact ⟨by simp_all, rfl⟩
