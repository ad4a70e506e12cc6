/-
  What the laws do with a list of texts of an argument: szStringS, eqStringS.
-/
import Derived.Test.YtjgemiojjhfnoacToS
import Derived.Deep.QuietTactic
namespace Go.Proofs.Ytjgemiojjhfnoac
open Go.RowKit

set_option maxHeartbeats 1000000
set_option maxRecDepth 100000

theorem str_sizeZ (l : List UInt8) : (⟨l.toArray⟩ : ByteArray).size = l.length := rfl

theorem l_sz_some (w : World) (b off cap n : Nat) (Z : Nat → List UInt8) (hn : n ≤ 9223372036854775807) (hz : ∀ j, j < n → (Z j).length ≤ 9223372036854775807)
    (hc : ∀ j, j < n → w.cell? ⟨b, off + j, none⟩ = some (str (Z j))) :
    Calls Try.prog 9 #[.slice (some ⟨b, off, none⟩) n cap, .int .i64 1048576] w fun e w' =>
      (∃ r : Int, e = .returned (.int .i64 r) ∧ r ≤ 1048576 ∧ -9223372036854775808 ≤ r ∧ (0 ≤ r → n ≤ 1048576 ∧ ∀ j, j < n → (Z j).length ≤ 1048576)) ∧ w = w' := by
  have HC := Lib.hid hc
  have HZ := Lib.hid hz
  clear hc hz
  by_cases hbig : (1048576 : Int) - (n : Int) < 0
  · go_enter Try.func9, Try.ntmps9
    go_wp2_with fail
    go_ret
    exact ⟨⟨-1, rfl, by omega, by omega, fun h => absurd h (by omega)⟩, rfl⟩
  · go_enter Try.func9, Try.ntmps9
    go_wp2_with fail
    go_loop [1, 5] (fun l i => ∃ (k : Nat) (L : Int), l = .int .i64 L ∧ i = .int .i64 k ∧ k ≤ n ∧ 0 ≤ L ∧ L ≤ 1048576 ∧ ∀ j, j < k → (Z j).length ≤ 1048576) (fun _ i => n - (intOf i).toNat)
    case atStart => exact ⟨0, _, rfl, rfl, Nat.zero_le _, by omega, by omega, fun j hj => absurd hj (Nat.not_lt_zero j)⟩
    case round =>
      obtain ⟨k, L, rfl, rfl, hk, hL0, hL1, hall⟩ := hrel
      have HL := Lib.hid hall
      clear hall
      by_cases hlt : k < n
      · have h1 := HC.out k hlt
        have h2 := HZ.out k hlt
        obtain ⟨z, hz⟩ : ∃ z, z = Z k := ⟨_, rfl⟩
        rw [← hz] at h1 h2
        have HZ2 := Lib.hid hz
        clear hz
        have hlt' : (k : Int) < (n : Int) := by omega
        have hsz := str_sizeZ z
        by_cases hneg : L - (z.length : Int) < 0
        · go_wp2_with fail
          go_ret
          exact ⟨⟨-1, rfl, by omega, by omega, fun h => absurd h (by omega)⟩, rfl⟩
        · go_wp2_with fail
          go_round
          case rel =>
            refine ⟨k + 1, L - z.length, by go_num, by go_num, by omega, by omega, by omega, fun j hj => ?_⟩
            by_cases e : j = k
            · rw [e, ← HZ2.out]; omega
            · exact HL.out j (by omega)
          case measure => simp [intOf]; omega
      · obtain rfl : k = n := by omega
        go_wp2_with fail
        go_ret
        exact ⟨⟨L, rfl, by omega, by omega, fun _ => ⟨by omega, HL.out⟩⟩, rfl⟩

theorem l_sz_none (w : World) (ao : Option Addr) (cap : Nat) :
    Calls Try.prog 9 #[.slice ao 0 cap, .int .i64 1048576] w fun e w' => e = .returned (.int .i64 1048576) ∧ w = w' := by
  go_enter Try.func9, Try.ntmps9
  go_wp2_with fail
  go_loop [1, 5] (fun l i => l = .int .i64 1048576 ∧ i = .int .i64 0) (fun _ _ => 0)
  case atStart => exact ⟨rfl, rfl⟩
  case round =>
    obtain ⟨rfl, rfl⟩ := hrel
    go_wp2_with fail
    go_ret
    exact ⟨rfl, rfl⟩

theorem l_eqv (w : World) (x y xo yo xc yc n : Nat) (Z : Nat → List UInt8) (hn : n ≤ 1000000000)
    (hx : ∀ j, j < n → w.cell? ⟨x, xo + j, none⟩ = some (str (Z j))) (hy : ∀ j, j < n → w.cell? ⟨y, yo + j, none⟩ = some (str (Z j))) :
    Calls Try.prog 13 #[.slice (some ⟨x, xo, none⟩) n xc, .slice (some ⟨y, yo, none⟩) n yc] w fun e w' => e = .returned (.bool true) ∧ After w w' := by
  have HA := Lib.hid hx
  have HB := Lib.hid hy
  clear hx hy
  go_enter Try.func13, Try.ntmps13
  go_wp2_with fail
  go_loopw [5] (fun i wr => ∃ k : Nat, i = .int .i64 k ∧ k ≤ n ∧ After w wr) (fun i _ => n - (intOf i).toNat)
  case atStart => exact ⟨0, rfl, Nat.zero_le _, After.refl _⟩
  case round =>
    obtain ⟨k, rfl, hk, hA⟩ := hrel
    by_cases hlt : k < n
    · have h1 := hA.cell (HA.out k hlt)
      have h2 := hA.cell (HB.out k hlt)
      generalize Z k = z at h1 h2
      have hlt' : (k : Int) < (n : Int) := by omega
      go_wp2_with fail
      go_quiet (fail)
      go_wp2_with fail
      go_roundw
      case rel => exact ⟨k + 1, by go_num, by omega, ⟨hA.os, hA.tape, hA.output, hA.size, hA.block⟩⟩
      case measure => simp [intOf]; omega
    · go_wp2_with fail
      go_ret
      exact ⟨rfl, hA⟩
end Go.Proofs.Ytjgemiojjhfnoac
