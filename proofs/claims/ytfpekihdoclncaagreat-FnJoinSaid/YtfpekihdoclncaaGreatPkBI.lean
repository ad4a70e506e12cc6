/-
  Plain mathematics of abstractions with something put into them, of the joiner and of codes.
-/
import Derived.Test.YtfpekihdoclncaaGreatPkAU
import Derived.Test.YtfpekihdoclncaaGreatPkAN
import Derived.Test.YtfpekihdoclncaaGreatPkAC
import Derived.Test.YtfpekihdoclncaaGreatPkBB
import Derived.Test.YtfpekihdoclncaaGreatPkAM
namespace Go.Proofs.YtfpekihdoclncaaGreat
open Go.RowKit

set_option maxHeartbeats 2000000
set_option maxRecDepth 100000

namespace Tm
theorem uses_put' {x y : List UInt8} {b : Tm} (hy : y ≠ x) (hb : uses y b = 0) : ∀ t : Tm, uses y (put t x b) = uses y t
  | .k => rfl
  | .s => rfl
  | .nm n => by
    by_cases hn : n = x
    · subst hn
      simp only [put, if_true, hb, uses]
      rw [if_neg (fun e => hy e.symm)]
    · simp [put, hn]
  | .app f a => by simp [put, uses, uses_put' hy hb f, uses_put' hy hb a]
theorem isNm_put' {x y : List UInt8} {b : Tm} (hy : y ≠ x) (hb : uses y b = 0) : ∀ t : Tm, isNm y (put t x b) = isNm y t
  | .k => rfl
  | .s => rfl
  | .nm n => by
    by_cases hn : n = x
    · subst hn
      have e : put (Tm.nm n) n b = b := by simp [put]
      rw [e, Tm.isNm_uses y b hb]
      symm
      show (n == y) = false
      rw [beq_eq_false_iff_ne]
      exact fun e => hy e.symm
    · simp [put, hn]
  | .app f a => by simp [put, isNm]
theorem put_abs' {x y : List UInt8} {b : Tm} (hy : y ≠ x) (hb : uses y b = 0) : ∀ t : Tm, put (abs y t) x b = abs y (put t x b)
  | .k => rfl
  | .s => rfl
  | .nm n => by
    by_cases hn : n = y
    · subst hn
      simp [abs, put, hy, I]
    · by_cases hx : n = x
      · subst hx
        simp [abs, put, hn, Tm.abs_none y b hb]
      · simp [abs, put, hn, hx]
  | .app f a => by
    have hf := put_abs' hy hb f
    have ha := put_abs' hy hb a
    have h1 := uses_put' hy hb (.app f a)
    have h2 := uses_put' hy hb f
    have h3 := isNm_put' hy hb a
    simp only [put] at h1
    by_cases e1 : uses y (.app f a) = 0
    · simp only [abs, put]
      rw [if_pos e1, if_pos (by rw [h1]; exact e1)]
      rfl
    · by_cases e2 : isNm y a = true ∧ uses y f = 0
      · simp only [abs, put]
        rw [if_neg e1, if_pos e2, if_neg (by rw [h1]; exact e1), if_pos (by rw [h2, h3]; exact e2)]
      · simp only [abs, put]
        rw [if_neg e1, if_neg e2, if_neg (by rw [h1]; exact e1), if_neg (by rw [h2, h3]; exact e2)]
        simp only [put, hf, ha]

theorem joinC_eq : joinC = abs [117] (abs [118] (appC U VV)) := by kernel_rfl
theorem put_appC (x : List UInt8) (b c d : Tm) : put (appC c d) x b = appC (put c x b) (put d x b) := rfl
theorem join_star (c d : Tm) (hc : ∀ n, has n c = false) : Star (app (app joinC c) d) (appC c d) := by
  have u1 := (uses_has [118] c).1 (hc [118])
  have h1 := abs_star [117] c (abs [118] (appC U VV))
  rw [put_abs' (by decide) u1, put_appC, show put U [117] c = c from rfl, show put VV [117] c = VV from rfl] at h1
  have h2 := abs_star [118] d (appC c VV)
  rw [put_appC, show put VV [118] d = d from rfl, put_unused [118] d u1] at h2
  rw [joinC_eq]
  exact (h1.app (.refl d)).trans h2

theorem appC_normal {m n : Tm} (hm : step m = none) (hn : step n = none) : step (appC m n) = none := by
  have := pair_normal hm hn
  simp [appC, step, redex, this]
theorem code_normal : ∀ t : Tm, (∀ n, has n t = false) → step (code t) = none
  | .k, _ => by decide +kernel
  | .s, _ => by decide +kernel
  | .nm n, h => by have := h n; simp [has] at this
  | .app f a, h => appC_normal (code_normal f (fun n => by have := h n; simp [has] at this; exact this.1)) (code_normal a (fun n => by have := h n; simp [has] at this; exact this.2))

end Tm
end Go.Proofs.YtfpekihdoclncaaGreat

namespace Go.Proofs.YtfpekihdoclncaaGreat
open Go.RowKit

set_option maxHeartbeats 400000
set_option maxRecDepth 100000

def PutPost (w : World) (B : Nat) (u : Tm) (e : Ending) (w' : World) : Prop :=
  ∃ v', e = .returned v' ∧ Below w.heap.size w w' ∧ TV w' B u v'

def PutOk (w : World) (B : Nat) (v : Value) (t : Tm) (name : List UInt8) (b : Tm) (vb : Value) : Prop :=
  ∃ T x f y, v = .iface T x ∧ (∀ W, Below w.heap.size w W → (method 265 T x "loop.example/realizers/impl.put").run Tryz.prog W = .ok (f, y) W) ∧ (∀ args w', (callFunc f args).run Tryz.prog w' = .ok (.enter f args) w') ∧
    ∀ W, Below w.heap.size w W → Calls Tryz.prog f #[y, str name, vb] W (PutPost W B (t.put name b))

theorem put_size (t b : Tm) (n : List UInt8) : (t.put n b).size ≤ t.size * (b.size + 1) := by
  have h1 := Tm.size_put n b t
  have h2 := Tm.uses_le n t
  have h3 := Nat.mul_le_mul_right b.size h2
  rw [Nat.mul_add, Nat.mul_one]
  omega

end Go.Proofs.YtfpekihdoclncaaGreat

namespace Go.Proofs.YtfpekihdoclncaaGreat
open Go.RowKit

set_option maxHeartbeats 400000
set_option maxRecDepth 100000

end Go.Proofs.YtfpekihdoclncaaGreat
