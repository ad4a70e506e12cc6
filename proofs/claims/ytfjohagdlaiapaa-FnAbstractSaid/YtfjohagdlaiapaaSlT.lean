/-
  What the promises' laws do with rows of texts: hasText, sameTexts; a row that a function handed back, and parts of it.
-/
import Derived.Test.YtfjohagdlaiapaaSS
import Derived.Test.YtfjohagdlaiapaaPkU
namespace Go.Proofs.Ytfjohagdlaiapaa
open Go.RowKit

set_option maxHeartbeats 1000000
set_option maxRecDepth 100000

theorem l_has (w : World) (sv : Value) (ns : List (List UInt8)) (x : List UInt8) (h : StrsU 0 w sv ns) (hn : ns.length ≤ 1000000000) :
    Calls Try.prog 12 #[sv, str x] w fun e w' => e = .returned (.bool (decide (x ∈ ns))) ∧ After w w' := by
  obtain ⟨ao, cap, rfl, hc⟩ := h
  obtain ⟨r, hr⟩ : ∃ r, r = decide (x ∈ ns) := ⟨_, rfl⟩
  rw [← hr]
  have hstart : Hid (r = decide (x ∈ ns.drop 0)) := by show _ = _; rw [hr]; simp
  have hd : ∀ k, k < ns.length → ns.drop k = ns.getD k [] :: ns.drop (k + 1) := fun k hk => by rw [List.drop_eq_getElem_cons hk, List.getD, List.getElem?_eq_getElem hk]; rfl
  have hz : ns.drop ns.length = [] := List.drop_eq_nil_of_le (Nat.le_refl _)
  obtain ⟨n, hnn⟩ : ∃ n, n = ns.length := ⟨_, rfl⟩
  rw [← hnn] at hc hn hd hz ⊢
  have HC := Lib.hid hc
  have HD := Lib.hid hd
  have HZ := Lib.hid hz
  clear hr hc hd hz hnn
  go_enter Try.func12, Try.ntmps12
  go_wp2_with fail
  go_loop [5] (fun i => ∃ k : Nat, i = .int .i64 k ∧ k ≤ n ∧ Hid (r = decide (x ∈ ns.drop k))) (fun i => n - (intOf i).toNat)
  case atStart => exact ⟨0, rfl, Nat.zero_le _, hstart⟩
  case round =>
    obtain ⟨k, rfl, hk, hr⟩ := hrel
    clear hstart
    by_cases hlt : k < n
    · obtain ⟨b, off, rfl, _, h1⟩ := HC.out k hlt
      rw [HD.out k hlt] at hr
      generalize ns.getD k [] = y at h1 hr
      have hlt' : (k : Int) < (n : Int) := by omega
      by_cases he : y = x
      · subst he
        have HS : Hid (r = true) := by show _ = _; rw [hr.out]; simp
        clear hr
        go_wp2_with fail
        go_ret
        exact ⟨by rw [HS.out]; rfl, After.refl _⟩
      · have heq : (y == x) = false := beq_eq_false_iff_ne.2 he
        have HS : Hid (r = decide (x ∈ ns.drop (k + 1))) := by show _ = _; rw [hr.out]; simp [Ne.symm he]
        clear hr he
        go_wp2_with fail
        go_round
        case rel => exact ⟨k + 1, by go_num, by omega, HS⟩
        case measure => simp [intOf]; omega
    · obtain rfl : k = n := by omega
      have HS : Hid (r = false) := by show _ = _; rw [hr.out, HZ.out]; simp
      clear hr
      go_wp2_with fail
      go_ret
      exact ⟨by rw [HS.out]; rfl, After.refl _⟩

theorem l_has_same (w : World) (sv : Value) (ns : List (List UInt8)) (x : List UInt8) (h : StrsU 0 w sv ns) (hn : ns.length ≤ 1000000000) :
    Calls Try.prog 12 #[sv, str x] w fun e w' => e = .returned (.bool (decide (x ∈ ns))) ∧ w = w' := by
  obtain ⟨ao, cap, rfl, hc⟩ := h
  obtain ⟨r, hr⟩ : ∃ r, r = decide (x ∈ ns) := ⟨_, rfl⟩
  rw [← hr]
  have hstart : Hid (r = decide (x ∈ ns.drop 0)) := by show _ = _; rw [hr]; simp
  have hd : ∀ k, k < ns.length → ns.drop k = ns.getD k [] :: ns.drop (k + 1) := fun k hk => by rw [List.drop_eq_getElem_cons hk, List.getD, List.getElem?_eq_getElem hk]; rfl
  have hz : ns.drop ns.length = [] := List.drop_eq_nil_of_le (Nat.le_refl _)
  obtain ⟨n, hnn⟩ : ∃ n, n = ns.length := ⟨_, rfl⟩
  rw [← hnn] at hc hn hd hz ⊢
  have HC := Lib.hid hc
  have HD := Lib.hid hd
  have HZ := Lib.hid hz
  clear hr hc hd hz hnn
  go_enter Try.func12, Try.ntmps12
  go_wp2_with fail
  go_loop [5] (fun i => ∃ k : Nat, i = .int .i64 k ∧ k ≤ n ∧ Hid (r = decide (x ∈ ns.drop k))) (fun i => n - (intOf i).toNat)
  case atStart => exact ⟨0, rfl, Nat.zero_le _, hstart⟩
  case round =>
    obtain ⟨k, rfl, hk, hr⟩ := hrel
    clear hstart
    by_cases hlt : k < n
    · obtain ⟨b, off, rfl, _, h1⟩ := HC.out k hlt
      rw [HD.out k hlt] at hr
      generalize ns.getD k [] = y at h1 hr
      have hlt' : (k : Int) < (n : Int) := by omega
      by_cases he : y = x
      · subst he
        have HS : Hid (r = true) := by show _ = _; rw [hr.out]; simp
        clear hr
        go_wp2_with fail
        go_ret
        exact ⟨by rw [HS.out]; rfl, rfl⟩
      · have heq : (y == x) = false := beq_eq_false_iff_ne.2 he
        have HS : Hid (r = decide (x ∈ ns.drop (k + 1))) := by show _ = _; rw [hr.out]; simp [Ne.symm he]
        clear hr he
        go_wp2_with fail
        go_round
        case rel => exact ⟨k + 1, by go_num, by omega, HS⟩
        case measure => simp [intOf]; omega
    · obtain rfl : k = n := by omega
      have HS : Hid (r = false) := by show _ = _; rw [hr.out, HZ.out]; simp
      clear hr
      go_wp2_with fail
      go_ret
      exact ⟨by rw [HS.out]; rfl, rfl⟩

theorem own_strsL {w : World} {base B : Nat} {sv : Value} {ns : List (List UInt8)} (h : w.ownsRow base 9 1 sv ns.length (ns.map str)) (hB : B ≤ base) : StrsU B w sv ns := by
  rcases h.2 with ⟨rfl, h0⟩ | ⟨g, cap, cur, rfl, hb, hh, hle, hcap, _⟩
  · exact ⟨none, 0, by rw [h0], fun j hj => absurd hj (by omega)⟩
  · refine ⟨some ⟨g, 0, none⟩, cap, rfl, fun j hj => ⟨g, 0, rfl, ⟨by omega, hle, by unfold maxLen at hcap; omega⟩, ?_⟩⟩
    rw [Nat.zero_add]
    exact (h.cellAt j (by omega)).trans (by simp [List.getD, hj])

/-- What TermNames hands back, in the words of rows. -/
theorem names_row {w w' : World} {r : Option (List (List UInt8))} {e : Ending} (h : NamesRes w r e w') : ∃ ao cap, e = .returned (.tuple #[.slice ao (r.getD []).length cap, .bool r.isSome]) ∧ After w w' ∧ StrsU 0 w' (.slice ao (r.getD []).length cap) (r.getD []) := by
  obtain ⟨sv, rfl, hb, ho⟩ := h
  have hu := own_strsL ho (Nat.zero_le _)
  obtain ⟨ao, cap, rfl, hc⟩ := id hu
  exact ⟨ao, cap, rfl, hb, hu⟩
theorem snames_row {w w' : World} {r : Option (List (List UInt8))} {e : Ending} (h : SNamesRes w r e w') : ∃ ao cap, e = .returned (.tuple #[.slice ao (r.getD []).length cap, .bool r.isSome]) ∧ After w w' ∧ StrsU 0 w' (.slice ao (r.getD []).length cap) (r.getD []) := by
  obtain ⟨sv, rfl, hb, ho⟩ := h
  have hu := own_strsL ho (Nat.zero_le _)
  obtain ⟨ao, cap, rfl, hc⟩ := id hu
  exact ⟨ao, cap, rfl, hb, hu⟩
end Go.Proofs.Ytfjohagdlaiapaa
