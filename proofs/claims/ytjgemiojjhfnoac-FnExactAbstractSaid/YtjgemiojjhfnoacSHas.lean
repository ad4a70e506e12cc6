/-
  The model's l1Has, for a seat without l1Names (SNames has the same: take one of the two).
-/
import Derived.Test.YtjgemiojjhfnoacTree
namespace Go.Proofs.Ytjgemiojjhfnoac
open Go.RowKit

set_option maxHeartbeats 1000000
set_option maxRecDepth 100000

/-- The slice value holds these texts. -/
def Strs (w : World) (sv : Value) (ns : List (List UInt8)) : Prop :=
  (sv = .slice none 0 0 ∧ ns = []) ∨ ∃ b off cap, sv = .slice (some ⟨b, off, none⟩) ns.length cap ∧ ∀ j (h : j < ns.length), w.cell? ⟨b, off + j, none⟩ = some (str ns[j])

theorem s_has (w : World) (sv : Value) (ns : List (List UInt8)) (x : List UInt8) (h : Strs w sv ns) (hn : ns.length ≤ 1000000000) :
    Calls Try.prog 26 #[sv, str x] w fun e w' => e = .returned (.bool (decide (x ∈ ns))) ∧ w = w' := by
  rcases h with ⟨rfl, rfl⟩ | ⟨b, off, cap, rfl, hc⟩
  · go_enter Try.func26, Try.ntmps26
    go_wp2_with fail
    go_loop [5] (fun i => i = .int .i64 0) (fun _ => 0)
    case atStart => rfl
    case round =>
      obtain rfl := hrel
      go_wp2_with fail
      go_ret
      exact ⟨by simp, rfl⟩
  · obtain ⟨r, hr⟩ : ∃ r, r = decide (x ∈ ns) := ⟨_, rfl⟩
    rw [← hr]
    have hstart : Hid (r = decide (x ∈ ns.drop 0)) := by show _ = _; rw [hr]; simp
    have HC := Lib.hid hc
    clear hr hc
    go_enter Try.func26, Try.ntmps26
    go_wp2_with fail
    go_loop [5] (fun i => ∃ k : Nat, i = .int .i64 k ∧ k ≤ ns.length ∧ Hid (r = decide (x ∈ ns.drop k))) (fun i => ns.length - (intOf i).toNat)
    case atStart => exact ⟨0, rfl, Nat.zero_le _, hstart⟩
    case round =>
      obtain ⟨k, rfl, hk, hr⟩ := hrel
      clear hstart
      by_cases hlt : k < ns.length
      · have hck := HC.out k hlt
        have hd := List.drop_eq_getElem_cons hlt
        rw [hd] at hr
        clear hd
        generalize ns[k] = y at hck hr
        by_cases he : y = x
        · subst he
          have HS : Hid (r = true) := by show _ = _; rw [hr.out]; simp
          clear hr
          go_wp2_with fail
          go_ret
          exact ⟨by rw [HS.out]; rfl, rfl⟩
        · have heq : (y == x) = false := beq_eq_false_iff_ne.2 he
          have HS : Hid (r = decide (x ∈ ns.drop (k + 1))) := by show _ = _; rw [hr.out]; simp [Ne.symm he]
          clear hr he
          go_wp2_with fail
          go_round
          case rel => exact ⟨k + 1, by go_num, by omega, HS⟩
          case measure => simp [intOf]; omega
      · have HS : Hid (r = false) := by show _ = _; rw [hr.out, List.drop_eq_nil_of_le (by omega)]; simp
        clear hr
        go_wp2_with fail
        go_ret
        exact ⟨by rw [HS.out]; rfl, rfl⟩
end Go.Proofs.Ytjgemiojjhfnoac
