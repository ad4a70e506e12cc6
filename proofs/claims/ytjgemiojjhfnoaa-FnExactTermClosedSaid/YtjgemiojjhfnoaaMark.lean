/-
  What the laws do with lists of texts: markText, eqStringS, markStringS, heldStringS.
-/
import Derived.Test.YtjgemiojjhfnoaaSNames
import Derived.Test.YtjgemiojjhfnoaaWrite
import Derived.BigQuiet
import Derived.Deep.QuietTactic
import Derived.Laws.OwnMore
namespace Go.Proofs.Ytjgemiojjhfnoaa
open Go.RowKit

set_option maxHeartbeats 1000000
set_option maxRecDepth 100000

/-- The digits of a number before what is there. -/
def dig10 : Nat → Nat → List UInt8 → List UInt8
  | 0, _, acc => acc
  | f + 1, k, acc => if k = 0 then acc else dig10 f (k / 10) (UInt8.ofNat (48 + k % 10) :: acc)

def markT (k : Nat) : List UInt8 := 109 :: dig10 k k []

theorem dig10_step (f k : Nat) (acc : List UInt8) (hk : 0 < k) (hf : k ≤ f) : dig10 f k acc = dig10 (f - 1) (k / 10) (UInt8.ofNat (48 + k % 10) :: acc) := by
  obtain ⟨g, rfl⟩ : ∃ g, f = g + 1 := ⟨f - 1, by omega⟩
  simp only [dig10, if_neg (show ¬ k = 0 by omega), Nat.add_sub_cancel]

theorem l_text (w : World) (k : Nat) (hk : 0 < k) (hk2 : k ≤ 1000000000) :
    Calls Try.prog 29 #[.int .i64 k] w fun e w' => e = .returned (str (markT k)) ∧ After w w' := by
  have hstart : Hid (markT k = 109 :: dig10 k k []) := rfl
  generalize markT k = r at *
  go_enter Try.func29, Try.ntmps29
  go_wp2_with fail
  go_loopw [0, 3] (fun a b wr => ∃ (m f : Nat) (acc : List UInt8), a = .int .i64 m ∧ b = str acc ∧ m ≤ f ∧ m ≤ k ∧ acc.length + f ≤ k ∧ After w wr ∧ Hid (r = 109 :: dig10 f m acc)) (fun a _ _ => (intOf a).toNat)
  case atStart => exact ⟨k, k, [], rfl, by simp, Nat.le_refl _, Nat.le_refl _, by simp, After.refl _, hstart⟩
  case round =>
    obtain ⟨m, f, acc, rfl, rfl, hmf, hmk, hlen, hA, hr⟩ := hrel
    clear hstart
    by_cases hm : 0 < m
    · obtain ⟨c, hc⟩ : ∃ c : UInt8, c = UInt8.ofNat (48 + m % 10) := ⟨_, rfl⟩
      have hcn : (48 + (m : Int) % 10) = (c.toNat : Int) := by
        have : c.toNat = 48 + m % 10 := by rw [hc, UInt8.toNat_ofNat']; omega
        omega
      have hown : Own (wr.alloc (.cells #[.int .u8 (48 + (m : Int) % 10)] 5)) wr.heap.size (.slice (some ⟨wr.heap.size, 0, none⟩) 1 1) [c] := by
        have := World.ownsRow_lit (base := wr.heap.size) (e := 5) (size := 1) wr #[.int .u8 (48 + (m : Int) % 10)] 1 (Nat.le_refl _) (by decide) (by simp)
        unfold Own
        simpa [bcells, hcn] using this
      have hconv := run_text hown (by simp)
      have hadd : ∀ W, (Op.stringOp .add ⟨[c].toArray⟩ ⟨acc.toArray⟩).run Try.prog W = .ok (str (c :: acc)) W := by
        have h1 : (⟨[c].toArray⟩ : ByteArray).size = 1 := rfl
        have h2 : (⟨acc.toArray⟩ : ByteArray).size = acc.length := by show acc.toArray.size = _; simp
        obtain ⟨t, hl, _, he⟩ := cat ⟨[c].toArray⟩ ⟨acc.toArray⟩ (by omega)
        have : (.string t : Value) = str (c :: acc) := congrArg Value.string (ByteArray.ext (Array.ext' (by rw [hl]; simp)))
        rw [← this]; exact he
      have HS : Hid (r = 109 :: dig10 (f - 1) (m / 10) (c :: acc)) := by show _ = _; rw [hr.out, dig10_step f m acc hm hmf, hc]
      have hA2 := hA.alloc (.cells #[.int .u8 (48 + (m : Int) % 10)] 5)
      clear hr hown hcn hc
      go_wp2_with fail
      go_roundw
      case rel => exact ⟨m / 10, f - 1, c :: acc, by go_num, rfl, by omega, by omega, by simp; omega, hA2, HS⟩
      case measure => simp [intOf]; omega
    · obtain rfl : m = 0 := by omega
      have hadd : ∀ W, (Op.stringOp .add ⟨#[109]⟩ ⟨acc.toArray⟩).run Try.prog W = .ok (str (109 :: acc)) W := by
        have h1 : (⟨#[109]⟩ : ByteArray).size = 1 := rfl
        have h2 : (⟨acc.toArray⟩ : ByteArray).size = acc.length := by show acc.toArray.size = _; simp
        obtain ⟨t, hl, _, he⟩ := cat ⟨#[109]⟩ ⟨acc.toArray⟩ (by omega)
        have : (.string t : Value) = str (109 :: acc) := congrArg Value.string (ByteArray.ext (Array.ext' (by rw [hl]; simp)))
        rw [← this]; exact he
      have HS : Hid (r = 109 :: acc) := by show _ = _; rw [hr.out]; cases f <;> simp [dig10]
      clear hr
      go_wp2_with fail
      go_ret
      exact ⟨by rw [HS.out]; rfl, hA⟩

/-! ### lists that are alike -/

theorem l_eq (w : World) (a b : Value) (ns : List (List UInt8)) (ha : Strs w a ns) (hb : Strs w b ns) (hn : ns.length ≤ 1000000000) :
    Calls Try.prog 15 #[a, b] w fun e w' => e = .returned (.bool true) ∧ After w w' := by
  by_cases h0 : ns = []
  · subst h0
    have form : ∀ v, Strs w v [] → ∃ ao cap, v = .slice ao 0 cap := fun v h => by
      rcases h with ⟨rfl, _⟩ | ⟨b, off, cap, rfl, _⟩
      · exact ⟨_, _, rfl⟩
      · exact ⟨_, _, rfl⟩
    obtain ⟨ao, ac, rfl⟩ := form a ha
    obtain ⟨bo, bc, rfl⟩ := form b hb
    clear ha hb form
    go_enter Try.func15, Try.ntmps15
    go_wp2_with fail
    go_loop [5] (fun i => i = .int .i64 0) (fun _ => 0)
    case atStart => rfl
    case round =>
      obtain rfl := hrel
      go_wp2_with fail
      go_ret
      exact ⟨rfl, After.refl _⟩
  · rcases ha with ⟨_, h⟩ | ⟨x, xo, xc, rfl, hca⟩
    · exact absurd h h0
    rcases hb with ⟨_, h⟩ | ⟨y, yo, yc, rfl, hcb⟩
    · exact absurd h h0
    have HA := Lib.hid hca
    have HB := Lib.hid hcb
    clear hca hcb
    go_enter Try.func15, Try.ntmps15
    go_wp2_with fail
    go_loopw [5] (fun i wr => ∃ k : Nat, i = .int .i64 k ∧ k ≤ ns.length ∧ After w wr) (fun i _ => ns.length - (intOf i).toNat)
    case atStart => exact ⟨0, rfl, Nat.zero_le _, After.refl _⟩
    case round =>
      obtain ⟨k, rfl, hk, hA⟩ := hrel
      by_cases hlt : k < ns.length
      · have h1 := hA.cell (HA.out k hlt)
        have h2 := hA.cell (HB.out k hlt)
        generalize ns[k] = z at h1 h2
        have hlt' : (k : Int) < (ns.length : Int) := by omega
        go_wp2_with fail
        go_quiet (fail)
        go_wp2_with fail
        go_roundw
        case rel => exact ⟨k + 1, by go_num, by omega, ⟨hA.os, hA.tape, hA.output, hA.size, hA.block⟩⟩
        case measure => simp [intOf]; omega
      · go_wp2_with fail
        go_ret
        exact ⟨rfl, hA⟩

/-! ### marks -/

def marks (k0 n : Nat) : List (List UInt8) := (List.range n).map fun i => markT (k0 + i)

theorem marks_len (k0 n : Nat) : (marks k0 n).length = n := by simp [marks]
theorem marks_at (k0 n j : Nat) (h : j < (marks k0 n).length) : (marks k0 n)[j] = markT (k0 + j) := by simp [marks]
theorem marks_succ (k0 n : Nat) : marks k0 (n + 1) = marks k0 n ++ [markT (k0 + n)] := by simp [marks, List.range_succ]

theorem marks_set (k0 j : Nat) (ns : List (List UInt8)) (hj : j < ns.length) : ((marks k0 j ++ ns.drop j).map str).set j (str (markT (k0 + j))) = (marks k0 (j + 1) ++ ns.drop (j + 1)).map str := by
  rw [List.drop_eq_getElem_cons hj, marks_succ, List.map_append, List.set_append_right _ _ (by simp [marks_len]), List.map_cons, List.length_map, marks_len, Nat.sub_self, List.set_cons_zero]
  simp

theorem grew_after {a b : World} (h : After a b) : a.grownBy b none := ⟨h.os, h.tape, h.output, h.size, fun k hk _ => h.block k hk⟩

theorem l_mark (w : World) (base : Nat) (sv : Value) (ns : List (List UInt8)) (k0 : Nat) (ho : w.ownsRow base 9 1 sv ns.length (ns.map str)) (hk0 : 0 < k0) (hn : k0 + ns.length ≤ 1000000000) :
    Calls Try.prog 16 #[sv, .int .i64 k0] w fun e w' => e = .returned (.int .i64 ((k0 + ns.length : Nat) : Int)) ∧ w'.ownsRow base 9 1 sv ns.length ((marks k0 ns.length).map str) ∧ w.grownBy w' sv.ownBlock := by
  rcases ho.2 with ⟨rfl, h0⟩ | ⟨g, cap, cur, rfl, _⟩
  · have : ns = [] := List.length_eq_zero_iff.1 h0
    subst this
    have HO := Lib.hid ho
    clear ho h0
    go_enter Try.func16, Try.ntmps16
    go_wp2_with fail
    go_loop [1, 5] (fun kv i => kv = .int .i64 k0 ∧ i = .int .i64 0) (fun _ _ => 0)
    case atStart => exact ⟨rfl, rfl⟩
    case round =>
      obtain ⟨rfl, rfl⟩ := hrel
      go_wp2_with fail
      go_ret
      exact ⟨rfl, HO.out, grew_refl _ _⟩
  · obtain ⟨n, hnn⟩ : ∃ n, n = ns.length := ⟨_, rfl⟩
    rw [← hnn] at ho hn ⊢
    have hstart : Hid (w.ownsRow base 9 1 (.slice (some ⟨g, 0, none⟩) n cap) n ((marks k0 0 ++ ns.drop 0).map str)) := by show World.ownsRow _ _ _ _ _ _ _; simpa [marks] using ho
    have HN := Lib.hid hnn
    clear ho hnn
    go_enter Try.func16, Try.ntmps16
    go_wp2_with fail
    go_loopw [1, 5] (fun kv i wr => ∃ (j m : Nat), Hid (m = k0 + j) ∧ kv = .int .i64 m ∧ i = .int .i64 j ∧ j ≤ n ∧ Hid (wr.ownsRow base 9 1 (.slice (some ⟨g, 0, none⟩) n cap) n ((marks k0 j ++ ns.drop j).map str)) ∧ w.grownBy wr (some g)) (fun _ i _ => n - (intOf i).toNat)
    case atStart => exact ⟨0, k0, by show _ = _; rfl, rfl, rfl, Nat.zero_le _, hstart, grew_refl _ _⟩
    case round =>
      obtain ⟨j, m, hm, rfl, rfl, hj, hrow, hgr⟩ := hrel
      have hmb : m ≤ 1000000000 := by have := hm.out; omega
      clear hstart
      by_cases hlt : j < n
      · have hcall := l_text wr m (by have := hm.out; omega) (by have := hm.out; omega)
        obtain ⟨z, hz⟩ : ∃ z, z = markT m := ⟨_, rfl⟩
        rw [← hz] at hcall
        have HZ := Lib.hid hz
        have hkeep : ∀ W, After wr W → W.cell? ⟨g, j, none⟩ = ((marks k0 j ++ ns.drop j).map str)[j]? ∧ W.frozen? ⟨g, j, none⟩ = false := fun W hW => by
          have h := hrow.out.kept (grew_after hW) (Or.inr (by simp [Value.ownBlock]))
          exact ⟨h.cellAt j (by omega), h.frozenAt j⟩
        have hsome : ((marks k0 j ++ ns.drop j).map str)[j]? = some (str (ns.getD j [])) := by
          have h1 : j < ns.length := by rw [← HN.out]; exact hlt
          rw [List.getElem?_map, List.getElem?_append_right (by rw [marks_len]; exact Nat.le_refl _), marks_len, Nat.sub_self, List.getElem?_drop, Nat.add_zero, List.getElem?_eq_getElem h1]
          simp [List.getD, h1]
        rw [hsome] at hkeep
        have HK := Lib.hid hkeep
        clear hsome hkeep hz
        generalize ns.getD j [] = y at HK
        go_wp2_with fail
        refine hcall.mono ?_
        rintro e w1 ⟨rfl, hb1⟩
        obtain ⟨h1, h2⟩ := HK.out w1 hb1
        go_wp2_with fail
        go_roundw
        case rel =>
          refine ⟨j + 1, m + 1, by show _ = _; have := hm.out; omega, by go_num, by go_num, by omega, ?_, ?_⟩
          · have h := (hrow.out.kept (grew_after hb1) (Or.inr (by simp [Value.ownBlock]))).stored j (str z)
            rw [HZ.out, hm.out, marks_set k0 j ns (by rw [← HN.out]; exact hlt), ← hm.out, ← HZ.out] at h
            exact h.1
          · refine ⟨hb1.os.trans hgr.os, hb1.tape.trans hgr.tape, hb1.output.trans hgr.output, by have h1 := hgr.size; have h2 := hb1.size; simp [World.setCell]; omega, fun b hb hne => ?_⟩
            rw [Below.heap_setCell _ _ _ _ (by intro e; exact hne (by rw [e])), hb1.block b (Nat.lt_of_lt_of_le hb hgr.size)]
            exact hgr.block b hb hne
        case measure => simp [intOf]; omega
      · obtain rfl : j = n := by omega
        have HR := Lib.hid hrow.out
        clear hrow
        go_wp2_with fail
        go_ret
        refine ⟨by rw [← hm.out]; rfl, ?_, hgr⟩
        have h := HR.out
        rw [List.drop_eq_nil_of_le (by rw [← HN.out]; exact Nat.le_refl _), List.append_nil] at h
        exact h

theorem l_held (w : World) (sv : Value) (n k0 : Nat) (h : Strs w sv (marks k0 n)) (hk0 : 0 < k0) (hn : k0 + n ≤ 1000000000) :
    Calls Try.prog 17 #[sv, .int .i64 k0] w fun e w' => e = .returned (.int .i64 ((k0 + n : Nat) : Int)) ∧ After w w' := by
  rcases h with ⟨rfl, h0⟩ | ⟨b, off, cap, rfl, hc⟩
  · have : n = 0 := by have := congrArg List.length h0; simpa [marks_len] using this
    subst this
    clear h0
    go_enter Try.func17, Try.ntmps17
    go_wp2_with fail
    go_loop [1, 5] (fun kv i => kv = .int .i64 k0 ∧ i = .int .i64 0) (fun _ _ => 0)
    case atStart => exact ⟨rfl, rfl⟩
    case round =>
      obtain ⟨rfl, rfl⟩ := hrel
      go_wp2_with fail
      go_ret
      exact ⟨rfl, After.refl _⟩
  · have hc' : ∀ j, j < n → w.cell? ⟨b, off + j, none⟩ = some (str (markT (k0 + j))) := fun j hj => by
      have := hc j (by rw [marks_len]; exact hj)
      rwa [marks_at] at this
    simp only [marks_len]
    have HC := Lib.hid hc'
    clear hc hc'
    go_enter Try.func17, Try.ntmps17
    go_wp2_with fail
    go_loopw [1, 5] (fun kv i wr => ∃ (j m : Nat), Hid (m = k0 + j) ∧ kv = .int .i64 m ∧ i = .int .i64 j ∧ j ≤ n ∧ After w wr) (fun _ i _ => n - (intOf i).toNat)
    case atStart => exact ⟨0, k0, by show _ = _; rfl, rfl, rfl, Nat.zero_le _, After.refl _⟩
    case round =>
      obtain ⟨j, m, hm, rfl, rfl, hj, hA⟩ := hrel
      have hmb : m ≤ 1000000000 := by have := hm.out; omega
      by_cases hlt : j < n
      · have hcall := fun W => l_text W m (by have := hm.out; omega) (by have := hm.out; omega)
        have hx : ∀ W, After wr W → W.cell? ⟨b, off + j, none⟩ = some (str (markT m)) := fun W hW => by rw [hm.out]; exact (hA.trans hW).cell (HC.out j hlt)
        have hself := After.refl wr
        have hlt' : (j : Int) < (n : Int) := by omega
        generalize markT m = z at hcall hx
        go_wp2_with fail
        go_region_held3 (fun W' => After wr W') (first | assumption | exact hself.drew | go_keep)
          ((go_at_call 29; refine (hcall _).mono ?_; rintro e w1 ⟨rfl, hb1⟩; have hb1' := After.trans (by first | assumption | exact hself.drew) hb1))
        all_goals
          go_wp2_with fail
          go_roundw
          case rel => exact ⟨j + 1, m + 1, by show _ = _; have := hm.out; omega, by go_num, by go_num, by omega, hA.trans hb1'⟩
          case measure => simp [intOf]; omega
      · obtain rfl : j = n := by omega
        go_wp2_with fail
        go_ret
        exact ⟨by rw [← hm.out]; rfl, hA⟩
end Go.Proofs.Ytjgemiojjhfnoaa
