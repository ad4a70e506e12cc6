/-
  AssemblyNumbers: what it answers; the program's function and the model's.
-/
import Derived.Test.YtipmgfbncfkmiaaPkY
import Derived.Test.YtipmgfbncfkmiaaPkO
import Derived.Test.YtipmgfbncfkmiaaPkA
import Derived.Test.YtipmgfbncfkmiaaPkB
namespace Go.Proofs.Ytipmgfbncfkmiaa
open Go.RowKit

set_option maxHeartbeats 2000000
set_option maxRecDepth 100000

def numsA (n : Nat) : List (List (List UInt8)) := (List.range n).map fun i => [(Tm.num i).text]
theorem numsA_succ (n : Nat) : numsA (n + 1) = numsA n ++ [[(Tm.num n).text]] := by simp [numsA, List.range_succ]
theorem numsA_len (n : Nat) : (numsA n).length = n := by simp [numsA]
def pNums (n : Int) : Option (List (List (List UInt8))) := if 1 ≤ n ∧ n ≤ 6 then some (numsA n.toNat) else none
theorem nums_ok : ∀ n, n ≤ 6 → 1 ≤ n → Asm.ok (numsA n) = true
  | 0, _, h => by omega
  | 1, _, _ | 2, _, _ | 3, _, _ | 4, _, _ | 5, _, _ | 6, _, _ => by decide +kernel
  | n + 7, h, _ => by omega
theorem nums_lens : ∀ n, n ≤ 6 → Lens 1000 (numsA n)
  | 0, _ | 1, _ | 2, _ | 3, _ | 4, _ | 5, _ | 6, _ => by unfold Lens; decide +kernel
  | n + 7, h => by omega

/-- An assembly handed back, all of its memory new, or nothing. -/
def AsmOwn (w : World) (r : Option (List (List (List UInt8)))) (e : Ending) (w' : World) : Prop :=
  ∃ sv, e = .returned (.tuple #[.agg #[sv], .bool r.isSome]) ∧ OwnSS w' w.heap.size sv (r.getD []) ∧ After w w'

theorem OwnSS.less {w : World} {base base' : Nat} {sv : Value} {a : List (List (List UInt8))} (h : OwnSS w base sv a) (hB : base' ≤ base) : OwnSS w base' sv a := by
  obtain ⟨cs, ho, hc, hd⟩ := h
  exact ⟨cs, own_mono ho hB, fun j hj => by obtain ⟨rv, h1, h2⟩ := hc j hj; exact ⟨rv, h1, own_mono h2 hB⟩, hd⟩

theorem num_small (k : Nat) (hk : k ≤ 60) : (Tm.num k).good = true ∧ (Tm.num k).size ≤ 1000 ∧ (Tm.num k).text.length ≤ 1000000 := by
  have hg := Tm.good_num k
  have hz := Tm.size_num k
  have htl := Tm.text_le _ hg
  have hd := Tm.depth_lt (Tm.num k)
  exact ⟨hg, by omega, by omega⟩

theorem lit2_31_17_9 {x0 x1 x2 x3 x4 x5 x6 x7 x8 x9 x10 x11 x12 x13 x14 x15 x16 x17 x18 x19 x20 x21 x22 x23 x24 x25 x26 x27 x28 x29 x30 u u' : Value} {d : List Deferred} {vs : Nat → Value} : ((putFrom ⟨#[x0, x1, x2, x3, x4, x5, x6, x7, x8, x9, x10, x11, x12, x13, x14, x15, x16, x17, x18, x19, x20, x21, x22, x23, x24, x25, x26, x27, x28, x29, x30], d⟩ 17 vs 9).put (some 24) u).put (some 25) u' = ⟨#[x0, x1, x2, x3, x4, x5, x6, x7, x8, x9, x10, x11, x12, x13, x14, x15, x16, vs 0, vs 1, vs 2, vs 3, vs 4, vs 5, vs 6, u, u', x26, x27, x28, x29, x30], d⟩ := by kernel_rfl

end Go.Proofs.Ytipmgfbncfkmiaa
