/-
  Numbers in decimals; the model's l6Dec.
-/
import Derived.Test.YtfpekihdoclncaaPkAB
import Derived.Test.YtfpekihdoclncaaPkAH
import Derived.Test.YtfpekihdoclncaaPkAC
import Derived.Deep.RegionHeld3
import Derived.Test.YtfpekihdoclncaaPkAM
import Derived.BigGuard
import Derived.Test.YtfpekihdoclncaaPkAK
namespace Go.Proofs.Ytfpekihdoclncaa
open Go.RowKit

set_option maxHeartbeats 1000000
set_option maxRecDepth 100000

namespace Tm
/-- A number of at most f digits in decimals. -/
def decs : Nat → Nat → List UInt8
  | 0, _ => []
  | f + 1, n => if n < 10 then [UInt8.ofNat (48 + n)] else decs f (n / 10) ++ [UInt8.ofNat (48 + n % 10)]
theorem decs_len (f n : Nat) : (decs f n).length ≤ f := by
  induction f generalizing n with
  | zero => simp [decs]
  | succ f ih => simp only [decs]; split; · simp
                 have := ih (n / 10); simp; omega
theorem decs_dig (f n : Nat) : (decs f n).all dig = true := by
  induction f generalizing n with
  | zero => rfl
  | succ f ih =>
    have h10 : ∀ m, m < 10 → dig (UInt8.ofNat (48 + m)) = true := by decide +kernel
    simp only [decs]
    split
    · rename_i h; simp only [List.all_cons, List.all_nil, h10 n h, Bool.and_true]
    · simp only [List.all_append, ih (n / 10), List.all_cons, List.all_nil, h10 (n % 10) (by omega), Bool.and_true]
end Tm

/-- A byte as the walk spells it. -/
theorem conv_one (W : World) (c : UInt8) : (convert 27 9 (.slice (some ⟨W.heap.size, 0, none⟩) 1 1)).run Try.prog (W.alloc (.cells #[.int .u8 (c.toNat : Int)] 5)) = .ok (str [c]) (W.alloc (.cells #[.int .u8 (c.toNat : Int)] 5)) := by
  have hown : Own (W.alloc (.cells #[.int .u8 (c.toNat : Int)] 5)) W.heap.size (.slice (some ⟨W.heap.size, 0, none⟩) 1 1) [c] := by
    have := World.ownsRow_lit (base := W.heap.size) (e := 5) (size := 1) W #[.int .u8 (c.toNat : Int)] 1 (Nat.le_refl _) (by decide) (by simp)
    unfold Own
    simpa [bcells] using this
  exact run_text hown (by simp)

theorem conv_later (W : World) (g : Nat) (c : UInt8) (h : W.heap[g]? = some (.cells #[.int .u8 (c.toNat : Int)] 5 (0, 0))) : (convert 27 9 (.slice (some ⟨g, 0, none⟩) 1 1)).run Try.prog W = .ok (str [c]) W := by
  have hlt := (Array.getElem?_eq_some_iff.1 h).1
  have hown : Own W g (.slice (some ⟨g, 0, none⟩) 1 1) [c] := by
    unfold Own
    unfold World.ownsRow
    exact ⟨by simp [bcells], Or.inr ⟨g, 1, _, rfl, Nat.le_refl _, h, by simp, by decide, rfl, by simp [bcells]⟩⟩
  exact run_text hown (by simp)

end Go.Proofs.Ytfpekihdoclncaa

namespace Go.Proofs.Ytfpekihdoclncaa
open Go.RowKit

set_option maxHeartbeats 2000000
set_option maxRecDepth 100000

/-- The name z and a number. -/
def zn (k : Nat) : List UInt8 := 122 :: Tm.decs 4 k

theorem zn_last : Tm.nameOk (zn 1000) = false := by decide +kernel

def FreePost (w : World) (a b : Tm) (e : Ending) (w' : World) : Prop :=
  ∃ k, k ≤ 1000 ∧ e = .returned (str (zn k)) ∧ After w w' ∧ a.uses (zn k) = 0 ∧ b.uses (zn k) = 0

theorem zn_not (k : Nat) : ([107] == zn k) = false ∧ ([115] == zn k) = false ∧ ([] == zn k) = false := by
  refine ⟨?_, ?_, ?_⟩ <;> (rw [beq_eq_false_iff_ne]; simp [zn])

theorem zn_add (k : Nat) (W : World) : (Op.stringOp .add ⟨#[122]⟩ ⟨(Tm.decs 4 k).toArray⟩).run Try.prog W = .ok (str (zn k)) W := by
  have hl := Tm.decs_len 4 k
  have h1 : (⟨#[122]⟩ : ByteArray).size = 1 := rfl
  have h2 : (⟨(Tm.decs 4 k).toArray⟩ : ByteArray).size = (Tm.decs 4 k).length := by show (Tm.decs 4 k).toArray.size = _; simp
  obtain ⟨t, hl, _, he⟩ := cat ⟨#[122]⟩ ⟨(Tm.decs 4 k).toArray⟩ (by omega)
  have : (.string t : Value) = str (zn k) := congrArg Value.string (ByteArray.ext (Array.ext' (by rw [hl]; rfl)))
  rw [← this]; exact he W

end Go.Proofs.Ytfpekihdoclncaa

namespace Go.Proofs.Ytfpekihdoclncaa
open Go.RowKit

set_option maxHeartbeats 400000
set_option maxRecDepth 100000

/-- What PairOf answers. -/
def pPair (l m : List UInt8) : Option (List UInt8) := match Tm.parse l, Tm.parse m with
  | some t, some u => if (Tm.pair t u).fits = true then some (Tm.pair t u).text else none
  | _, _ => none

end Go.Proofs.Ytfpekihdoclncaa
