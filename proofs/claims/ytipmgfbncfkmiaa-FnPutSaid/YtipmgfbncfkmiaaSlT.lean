/-
  What the promises' laws do with rows of texts: hasText, sameTexts; a row that a function handed back, and parts of it.
-/
import Derived.Test.YtipmgfbncfkmiaaPkN
import Derived.Test.YtipmgfbncfkmiaaPkU
namespace Go.Proofs.Ytipmgfbncfkmiaa
open Go.RowKit

set_option maxHeartbeats 1000000
set_option maxRecDepth 100000

theorem l_has (w : World) (sv : Value) (ns : List (List UInt8)) (x : List UInt8) (h : StrsU 0 w sv ns) (hn : ns.length ≤ 1000000000) :
    Calls Try.prog 24 #[sv, str x] w fun e w' => e = .returned (.bool (decide (x ∈ ns))) ∧ After w w' := by
  obtain ⟨ao, cap, rfl, hc⟩ := h
  obtain ⟨r, hr⟩ : ∃ r, r = decide (x ∈ ns) := ⟨_, rfl⟩
  rw [← hr]
  have hstart : Hid (r = decide (x ∈ ns.drop 0)) := by show _ = _; rw [hr]; simp
  have hd : ∀ k, k < ns.length → ns.drop k = ns.getD k [] :: ns.drop (k + 1) := fun k hk => by rw [List.drop_eq_getElem_cons hk, List.getD, List.getElem?_eq_getElem hk]; rfl
  have hz : ns.drop ns.length = [] := List.drop_eq_nil_of_le (Nat.le_refl _)
  obtain ⟨n, hnn⟩ : ∃ n, n = ns.length := ⟨_, rfl⟩
  rw [← hnn] at hc hn hd hz ⊢
  have HC := Lib.hid hc
  have HD := Lib.hid hd
  have HZ := Lib.hid hz
  clear hr hc hd hz hnn
  go_enter Try.func24, Try.ntmps24
  go_wp2_with fail
  go_loop [5] (fun i => ∃ k : Nat, i = .int .i64 k ∧ k ≤ n ∧ Hid (r = decide (x ∈ ns.drop k))) (fun i => n - (intOf i).toNat)
  case atStart => exact ⟨0, rfl, Nat.zero_le _, hstart⟩
  case round =>
    obtain ⟨k, rfl, hk, hr⟩ := hrel
    clear hstart
    by_cases hlt : k < n
    · obtain ⟨b, off, rfl, _, h1⟩ := HC.out k hlt
      rw [HD.out k hlt] at hr
      generalize ns.getD k [] = y at h1 hr
      have hlt' : (k : Int) < (n : Int) := by omega
      by_cases he : y = x
      · subst he
        have HS : Hid (r = true) := by show _ = _; rw [hr.out]; simp
        clear hr
        go_wp2_with fail
        go_ret
        exact ⟨by rw [HS.out]; rfl, After.refl _⟩
      · have heq : (y == x) = false := beq_eq_false_iff_ne.2 he
        have HS : Hid (r = decide (x ∈ ns.drop (k + 1))) := by show _ = _; rw [hr.out]; simp [Ne.symm he]
        clear hr he
        go_wp2_with fail
        go_round
        case rel => exact ⟨k + 1, by go_num, by omega, HS⟩
        case measure => simp [intOf]; omega
    · obtain rfl : k = n := by omega
      have HS : Hid (r = false) := by show _ = _; rw [hr.out, HZ.out]; simp
      clear hr
      go_wp2_with fail
      go_ret
      exact ⟨by rw [HS.out]; rfl, After.refl _⟩

theorem l_has_same (w : World) (sv : Value) (ns : List (List UInt8)) (x : List UInt8) (h : StrsU 0 w sv ns) (hn : ns.length ≤ 1000000000) :
    Calls Try.prog 24 #[sv, str x] w fun e w' => e = .returned (.bool (decide (x ∈ ns))) ∧ w = w' := by
  obtain ⟨ao, cap, rfl, hc⟩ := h
  obtain ⟨r, hr⟩ : ∃ r, r = decide (x ∈ ns) := ⟨_, rfl⟩
  rw [← hr]
  have hstart : Hid (r = decide (x ∈ ns.drop 0)) := by show _ = _; rw [hr]; simp
  have hd : ∀ k, k < ns.length → ns.drop k = ns.getD k [] :: ns.drop (k + 1) := fun k hk => by rw [List.drop_eq_getElem_cons hk, List.getD, List.getElem?_eq_getElem hk]; rfl
  have hz : ns.drop ns.length = [] := List.drop_eq_nil_of_le (Nat.le_refl _)
  obtain ⟨n, hnn⟩ : ∃ n, n = ns.length := ⟨_, rfl⟩
  rw [← hnn] at hc hn hd hz ⊢
  have HC := Lib.hid hc
  have HD := Lib.hid hd
  have HZ := Lib.hid hz
  clear hr hc hd hz hnn
  go_enter Try.func24, Try.ntmps24
  go_wp2_with fail
  go_loop [5] (fun i => ∃ k : Nat, i = .int .i64 k ∧ k ≤ n ∧ Hid (r = decide (x ∈ ns.drop k))) (fun i => n - (intOf i).toNat)
  case atStart => exact ⟨0, rfl, Nat.zero_le _, hstart⟩
  case round =>
    obtain ⟨k, rfl, hk, hr⟩ := hrel
    clear hstart
    by_cases hlt : k < n
    · obtain ⟨b, off, rfl, _, h1⟩ := HC.out k hlt
      rw [HD.out k hlt] at hr
      generalize ns.getD k [] = y at h1 hr
      have hlt' : (k : Int) < (n : Int) := by omega
      by_cases he : y = x
      · subst he
        have HS : Hid (r = true) := by show _ = _; rw [hr.out]; simp
        clear hr
        go_wp2_with fail
        go_ret
        exact ⟨by rw [HS.out]; rfl, rfl⟩
      · have heq : (y == x) = false := beq_eq_false_iff_ne.2 he
        have HS : Hid (r = decide (x ∈ ns.drop (k + 1))) := by show _ = _; rw [hr.out]; simp [Ne.symm he]
        clear hr he
        go_wp2_with fail
        go_round
        case rel => exact ⟨k + 1, by go_num, by omega, HS⟩
        case measure => simp [intOf]; omega
    · obtain rfl : k = n := by omega
      have HS : Hid (r = false) := by show _ = _; rw [hr.out, HZ.out]; simp
      clear hr
      go_wp2_with fail
      go_ret
      exact ⟨by rw [HS.out]; rfl, rfl⟩

theorem l_same (w : World) (a b : Value) (ns ms : List (List UInt8)) (ha : StrsU 0 w a ns) (hb : StrsU 0 w b ms) (hn : ns.length ≤ 1000000000) (_hm : ms.length ≤ 1000000000) :
    Calls Try.prog 23 #[a, b] w fun e w' => e = .returned (.bool (decide (ns = ms))) ∧ After w w' := by
  obtain ⟨ao, acap, rfl, hca⟩ := ha
  obtain ⟨bo, bcap, rfl, hcb⟩ := hb
  obtain ⟨r, hr⟩ : ∃ r, r = decide (ns = ms) := ⟨_, rfl⟩
  rw [← hr]
  by_cases hl : ns.length = ms.length
  · have hstart : Hid (r = decide (ns.drop 0 = ms.drop 0)) := by show _ = _; rw [hr]; simp
    have hd : ∀ (l : List (List UInt8)) k, k < l.length → l.drop k = l.getD k [] :: l.drop (k + 1) := fun l k hk => by rw [List.drop_eq_getElem_cons hk, List.getD, List.getElem?_eq_getElem hk]; rfl
    have hd1 := hd ns
    have hd2 := hd ms
    have hz1 : ns.drop ns.length = [] := List.drop_eq_nil_of_le (Nat.le_refl _)
    have hz2 : ms.drop ms.length = [] := List.drop_eq_nil_of_le (Nat.le_refl _)
    rw [← hl] at hcb hd2 hz2 ⊢
    obtain ⟨n, hnn⟩ : ∃ n, n = ns.length := ⟨_, rfl⟩
    rw [← hnn] at hca hcb hn hd1 hd2 hz1 hz2 ⊢
    have HC := Lib.hid hca
    have HC2 := Lib.hid hcb
    have HD := Lib.hid hd1
    have HD2 := Lib.hid hd2
    have HZ := Lib.hid hz1
    have HZ2 := Lib.hid hz2
    clear hr hca hcb hd hd1 hd2 hz1 hz2 hnn hl
    go_enter Try.func23, Try.ntmps23
    go_wp2_with fail
    go_loopw [5] (fun i wr => ∃ k : Nat, i = .int .i64 k ∧ k ≤ n ∧ Hid (r = decide (ns.drop k = ms.drop k)) ∧ After w wr) (fun i _ => n - (intOf i).toNat)
    case atStart => exact ⟨0, rfl, Nat.zero_le _, hstart, After.refl _⟩
    case round =>
      obtain ⟨k, rfl, hk, hr, hA⟩ := hrel
      clear hstart
      by_cases hlt : k < n
      · obtain ⟨b, off, rfl, _, h1⟩ := HC.out k hlt
        obtain ⟨b2, off2, rfl, _, h2⟩ := HC2.out k hlt
        replace h1 := hA.cell h1
        replace h2 := hA.cell h2
        rw [HD.out k hlt, HD2.out k hlt] at hr
        generalize ns.getD k [] = y at h1 hr
        generalize ms.getD k [] = z at h2 hr
        have hlt' : (k : Int) < (n : Int) := by omega
        by_cases he : y = z
        · subst he
          have HS : Hid (r = decide (ns.drop (k + 1) = ms.drop (k + 1))) := by show _ = _; rw [hr.out]; simp
          clear hr
          go_wp2_with fail
          go_quiet (fail)
          go_wp2_with fail
          go_roundw
          case rel => exact ⟨k + 1, by go_num, by omega, HS, ⟨hA.os, hA.tape, hA.output, hA.size, hA.block⟩⟩
          case measure => simp [intOf]; omega
        · have heq : (y == z) = false := beq_eq_false_iff_ne.2 he
          have HS : Hid (r = false) := by show _ = _; rw [hr.out]; simp [he]
          clear hr he
          go_wp2_with fail
          go_quiet (fail)
          go_wp2_with fail
          go_ret
          exact ⟨by rw [HS.out]; rfl, ⟨hA.os, hA.tape, hA.output, hA.size, hA.block⟩⟩
      · obtain rfl : k = n := by omega
        have HS : Hid (r = true) := by show _ = _; rw [hr.out, HZ.out, HZ2.out]; simp
        clear hr
        go_wp2_with fail
        go_ret
        exact ⟨by rw [HS.out]; rfl, hA⟩
  · have hne : r = false := by rw [hr]; simp; intro e; exact hl (by rw [e])
    have hl' : ((ns.length : Int) == (ms.length : Int)) = false := by rw [beq_eq_false_iff_ne]; omega
    subst hne
    generalize ns.length = n at *
    generalize ms.length = m at *
    clear hr hca hcb
    go_enter Try.func23, Try.ntmps23
    go_wp2_with fail
    go_ret
    exact ⟨rfl, After.refl _⟩

theorem own_strsL {w : World} {base B : Nat} {sv : Value} {ns : List (List UInt8)} (h : w.ownsRow base 9 1 sv ns.length (ns.map str)) (hB : B ≤ base) : StrsU B w sv ns := by
  rcases h.2 with ⟨rfl, h0⟩ | ⟨g, cap, cur, rfl, hb, hh, hle, hcap, _⟩
  · exact ⟨none, 0, by rw [h0], fun j hj => absurd hj (by omega)⟩
  · refine ⟨some ⟨g, 0, none⟩, cap, rfl, fun j hj => ⟨g, 0, rfl, ⟨by omega, hle, by unfold maxLen at hcap; omega⟩, ?_⟩⟩
    rw [Nat.zero_add]
    exact (h.cellAt j (by omega)).trans (by simp [List.getD, hj])

/-- What TermNames hands back, in the words of rows. -/
theorem names_row {w w' : World} {r : Option (List (List UInt8))} {e : Ending} (h : NamesRes w r e w') : ∃ ao cap, e = .returned (.tuple #[.slice ao (r.getD []).length cap, .bool r.isSome]) ∧ After w w' ∧ StrsU 0 w' (.slice ao (r.getD []).length cap) (r.getD []) := by
  obtain ⟨sv, rfl, hb, ho⟩ := h
  have hu := own_strsL ho (Nat.zero_le _)
  obtain ⟨ao, cap, rfl, hc⟩ := id hu
  exact ⟨ao, cap, rfl, hb, hu⟩
theorem snames_row {w w' : World} {r : Option (List (List UInt8))} {e : Ending} (h : SNamesRes w r e w') : ∃ ao cap, e = .returned (.tuple #[.slice ao (r.getD []).length cap, .bool r.isSome]) ∧ After w w' ∧ StrsU 0 w' (.slice ao (r.getD []).length cap) (r.getD []) := by
  obtain ⟨sv, rfl, hb, ho⟩ := h
  have hu := own_strsL ho (Nat.zero_le _)
  obtain ⟨ao, cap, rfl, hc⟩ := id hu
  exact ⟨ao, cap, rfl, hb, hu⟩
end Go.Proofs.Ytipmgfbncfkmiaa
