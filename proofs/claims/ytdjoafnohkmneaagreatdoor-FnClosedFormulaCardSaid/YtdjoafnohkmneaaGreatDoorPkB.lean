/-
  The reader of the program, further: readAtom.
-/
import Derived.Test.YtdjoafnohkmneaaGreatDoorPkA
import Derived.Laws.RangeAny
import Derived.LoopN
import Derived.WalkMore
import Derived.Laws.Runes
import Derived.Shelf.Small.Utf8
import Derived.Shelf.Small.Strs
import Derived.Deep.LoopGhost
import Derived.Lib.AppendStr
namespace Go.Proofs.YtdjoafnohkmneaaGreatDoor
open Go.RowKit

set_option maxHeartbeats 400000
set_option maxRecDepth 100000

theorem grown_trans {w w' w'' : World} {b : Nat} (h : w.grownBy w' (some b)) (g : w'.grownBy w'' (some b)) : w.grownBy w'' (some b) :=
  ⟨g.os.trans h.os, g.tape.trans h.tape, g.output.trans h.output, Nat.le_trans h.size g.size, fun k hk hne => (g.block k (Nat.lt_of_lt_of_le hk h.size) hne).trans (h.block k hk hne)⟩

theorem grown_alloc (w : World) (b : Nat) (o : Obj) : w.grownBy (w.alloc o) (some b) := ⟨rfl, rfl, rfl, by simp, fun k hk _ => Below.heap_alloc _ _ _ hk⟩

theorem heap_new (w : World) (o : Obj) : (w.alloc o).heap[w.heap.size]? = some o := by
  show (w.heap.push _)[_]? = _
  simp

theorem heap_new_set (w : World) (m : Nat) (a : Addr) (v : Value) (o : Obj) : (((w.drewN m).setCell a v).alloc o).heap[w.heap.size]? = some o := by
  have h : ((w.drewN m).setCell a v).heap.size = w.heap.size := by simp [World.setCell]
  rw [← h]
  exact heap_new _ _

theorem bytes_ext (l : List UInt8) (i j : Nat) : (⟨l.toArray⟩ : ByteArray).extract i j = ⟨((l.drop i).take (j - i)).toArray⟩ := by
  apply ByteArray.ext
  simp [ByteArray.data_extract]

theorem digs_drop (l : List UInt8) (i m k : Nat) : Tm.digs (l.drop i) m k = Tm.digs l m (i + k) := by
  induction m generalizing k with
  | zero => rfl
  | succ m ih =>
    simp only [Tm.digs, List.getElem?_drop]
    rw [ih (k + 1)]
    rfl

theorem nameLen_drop (l : List UInt8) (i : Nat) : Tm.nameLen (l.drop i) 0 = Tm.nameLen l i := by
  simp only [Tm.nameLen, List.getElem?_drop, Nat.add_zero]
  rw [digs_drop]

end Go.Proofs.YtdjoafnohkmneaaGreatDoor

namespace Go.Proofs.YtdjoafnohkmneaaGreatDoor
open Go.RowKit

set_option maxHeartbeats 400000
set_option maxRecDepth 100000

theorem cat (a b : ByteArray) (h : a.size + b.size ≤ 1000000000000) : ∃ c : ByteArray, c.data.toList = a.data.toList ++ b.data.toList ∧ c.size = a.size + b.size ∧ ∀ W, (Op.stringOp .add a b).run Tryz.prog W = .ok (.string c) W :=
  ⟨a ++ b, by simp, by simp, fun W => run_string_add_sum W a b (by omega)⟩

end Go.Proofs.YtdjoafnohkmneaaGreatDoor

namespace Go.Proofs.YtdjoafnohkmneaaGreatDoor
open Go.RowKit

set_option maxHeartbeats 400000
set_option maxRecDepth 100000

theorem in_any (w : World) (n lo hi : Int) : Calls Tryz.prog 26 #[.int .i64 n, .int .i64 lo, .int .i64 hi] w fun e w' => e = .returned (.bool (decide (lo ≤ n ∧ n ≤ hi))) ∧ w = w' := by
  by_cases h1 : lo ≤ n
  · by_cases h2 : n ≤ hi
    · rw [show decide (lo ≤ n ∧ n ≤ hi) = true by simp [h1, h2]]
      go_enter Tryz.func26, Tryz.ntmps26
      go_wp2_with fail
      go_ret
      exact ⟨by simp, rfl⟩
    · rw [show decide (lo ≤ n ∧ n ≤ hi) = false by simp [h2]]
      go_enter Tryz.func26, Tryz.ntmps26
      go_wp2_with fail
      go_ret
      exact ⟨by simp, rfl⟩
  · rw [show decide (lo ≤ n ∧ n ≤ hi) = false by simp [h1]]
    go_enter Tryz.func26, Tryz.ntmps26
    go_wp2_with fail
    go_ret
    exact ⟨by simp, rfl⟩

theorem s_name (w : World) (l : List UInt8) (hl : l.length ≤ 1000000000) : Calls Tryz.prog 25 #[str l] w fun e w' => e = .returned (.bool (Tm.nameOk l)) ∧ w = w' := by
  have hsz : (⟨l.toArray⟩ : ByteArray).size = l.length := by show l.toArray.size = _; simp
  have hin := in_any w (l.length : Nat) 1 4
  by_cases hlen : 1 ≤ l.length ∧ l.length ≤ 4
  · rw [show decide ((1 : Int) ≤ ((l.length : Nat) : Int) ∧ ((l.length : Nat) : Int) ≤ 4) = true by rw [decide_eq_true_eq]; omega] at hin
    cases hcs : l with
    | nil => rw [hcs] at hlen; simp at hlen
    | cons c ds =>
      rw [← hcs]
      have hpos : 0 < l.length := by omega
      have hat : (⟨l.toArray⟩ : ByteArray)[0]'(by rw [hsz]; exact hpos) = c := by rw [byte_at l 0 hpos]; simp [hcs]
      have hok : Tm.nameOk l = (Tm.lead c && (l.drop 1).all Tm.dig) := by
        have : ds.length ≤ 3 := by have := hlen.2; rw [hcs] at this; simp at this; omega
        rw [hcs]; simp [Tm.nameOk, this]
      obtain ⟨hlen1, hlen4⟩ := hlen
      clear hcs
      by_cases hlead : Tm.lead c = true
      · have hfin : Hid (Tm.nameOk l = (l.drop 1).all Tm.dig) := by show _ = _; rw [hok, hlead]; rfl
        obtain ⟨hl1, hl2⟩ := (lead_int c).1 hlead
        clear hok hlead
        go_enter Tryz.func25, Tryz.ntmps25
        go_wp2_with (go_at_call 26; refine hin.mono ?_; rintro e w' ⟨rfl, rfl⟩)
        go_loop [3] (fun n => ∃ k : Nat, 1 ≤ k ∧ k ≤ l.length ∧ n = .int .i64 k ∧ Hid (Tm.nameOk l = (l.drop k).all Tm.dig)) (fun n => l.length - (intOf n).toNat)
        case atStart => exact ⟨1, by omega, by omega, rfl, hfin⟩
        case round =>
          obtain ⟨k, hk1, hkl, rfl, hk⟩ := hrel
          clear hat hfin
          by_cases hlt : k < l.length
          · have hatk := byte_at l k hlt (by rw [hsz]; exact hlt)
            have hdrop := List.drop_eq_getElem_cons hlt
            by_cases hd : Tm.dig l[k] = true
            · have HS : Hid (Tm.nameOk l = (l.drop (k + 1)).all Tm.dig) := by show _ = _; rw [hk.out, hdrop, List.all_cons, hd]; rfl
              obtain ⟨hd1, hd2⟩ := (dig_int _).1 hd
              rw [← hatk] at hd1 hd2
              clear hd hdrop hatk hk
              go_wp2_with fail
              go_round
              case rel => exact ⟨k + 1, by omega, by omega, by go_num, HS⟩
              case measure => simp [intOf]; omega
            · have HS : Hid (Tm.nameOk l = false) := by show _ = _; rw [hk.out, hdrop, List.all_cons]; simp [hd]
              rw [dig_int, ← hatk] at hd
              clear hdrop hatk hk
              by_cases hd1 : (48 : Int) ≤ (((⟨l.toArray⟩ : ByteArray)[k]'(by rw [hsz]; exact hlt)).toNat : Int)
              · have hd2 : (57 : Int) < (((⟨l.toArray⟩ : ByteArray)[k]'(by rw [hsz]; exact hlt)).toNat : Int) := by
                  have := fun h => hd ⟨hd1, h⟩
                  omega
                clear hd
                go_wp2_with fail
                go_ret
                exact ⟨by rw [HS.out]; rfl, rfl⟩
              · have hd2 : (((⟨l.toArray⟩ : ByteArray)[k]'(by rw [hsz]; exact hlt)).toNat : Int) < 48 := by omega
                clear hd hd1
                go_wp2_with fail
                go_ret
                exact ⟨by rw [HS.out]; rfl, rfl⟩
          · have HS : Hid (Tm.nameOk l = true) := by show _ = _; rw [hk.out, List.drop_eq_nil_of_le (by omega)]; rfl
            clear hk
            go_wp2_with fail
            go_ret
            exact ⟨by rw [HS.out]; rfl, rfl⟩
      · have hfin : Tm.nameOk l = false := by rw [hok]; simp [hlead]
        rw [hfin]
        rw [lead_int] at hlead
        clear hfin hok
        by_cases h1 : (c.toNat : Int) < 117
        · go_enter Tryz.func25, Tryz.ntmps25
          go_wp2_with (go_at_call 26; refine hin.mono ?_; rintro e w' ⟨rfl, rfl⟩)
          go_ret
          exact ⟨rfl, rfl⟩
        · have h2 : (122 : Int) < (c.toNat : Int) := by omega
          clear hlead
          go_enter Tryz.func25, Tryz.ntmps25
          go_wp2_with (go_at_call 26; refine hin.mono ?_; rintro e w' ⟨rfl, rfl⟩)
          go_ret
          exact ⟨rfl, rfl⟩
  · rw [show decide ((1 : Int) ≤ ((l.length : Nat) : Int) ∧ ((l.length : Nat) : Int) ≤ 4) = false by rw [decide_eq_false_iff_not]; omega] at hin
    have hfin : Tm.nameOk l = false := by
      cases hcs : l with
      | nil => rfl
      | cons c ds =>
        rw [hcs] at hlen
        simp at hlen
        have : ¬ ds.length ≤ 3 := by omega
        simp [Tm.nameOk, this]
    rw [hfin]
    clear hfin hlen
    go_enter Tryz.func25, Tryz.ntmps25
    go_wp2_with (go_at_call 26; refine hin.mono ?_; rintro e w' ⟨rfl, rfl⟩)
    go_ret
    exact ⟨rfl, rfl⟩

theorem atomEnd_mid (l : List UInt8) (k : Nat) (h : k < l.length) (hm : Tm.mid l[k] = true) : Tm.atomEnd l k = Tm.atomEnd l (k + 1) := by
  unfold Tm.atomEnd
  rw [List.drop_eq_getElem_cons h, List.takeWhile_cons]
  unfold Tm.mid at hm
  rw [hm]
  simp
  omega

theorem atomEnd_stop (l : List UInt8) (k : Nat) (h : k < l.length → Tm.mid (l.getD k 0) = false) : Tm.atomEnd l k = k := by
  unfold Tm.atomEnd
  by_cases hk : k < l.length
  · have hm := h hk
    rw [List.getD_eq_getElem?_getD, List.getElem?_eq_getElem hk] at hm
    rw [List.drop_eq_getElem_cons hk, List.takeWhile_cons]
    unfold Tm.mid at hm
    simp only [Option.getD_some] at hm
    rw [hm]
    simp
  · rw [List.drop_eq_nil_of_le (by omega)]
    simp

theorem byte_ne_lit (x : UInt8) (n : Nat) (h : n < 256) : ((x.toNat : Int) != (n : Int)) = (x != UInt8.ofNat n) := by
  have := byte_ne x (UInt8.ofNat n)
  rw [UInt8.toNat_ofNat_of_lt' (by simpa using h)] at this
  exact this

theorem s_atom (w : World) (l : List UInt8) (i : Nat) (hl : l.length ≤ 1000000000) (hi : i ≤ l.length) :
    Calls Tryz.prog 56 #[str l, .int .i64 i] w fun e w' => e = .returned (.int .i64 (Tm.atomEnd l i : Nat)) ∧ w = w' := by
  have hsz : (⟨l.toArray⟩ : ByteArray).size = l.length := by show l.toArray.size = _; simp
  go_enter Tryz.func56, Tryz.ntmps56
  go_wp2_with fail
  go_loop [1] (fun n => ∃ k : Nat, i ≤ k ∧ k ≤ l.length ∧ n = .int .i64 k ∧ Hid (Tm.atomEnd l i = Tm.atomEnd l k)) (fun n => l.length - (intOf n).toNat)
  case atStart => exact ⟨i, Nat.le_refl _, hi, rfl, rfl⟩
  case round =>
    obtain ⟨k, hk1, hkl, rfl, hk⟩ := hrel
    by_cases hlt : k < l.length
    · have hatk := byte_at l k hlt (by rw [hsz]; exact hlt)
      have n1 : ((l[k].toNat : Int) != 32) = (l[k] != (32 : UInt8)) := byte_ne_lit l[k] 32 (by omega)
      have n2 : ((l[k].toNat : Int) != 40) = (l[k] != (40 : UInt8)) := byte_ne_lit l[k] 40 (by omega)
      have n3 : ((l[k].toNat : Int) != 41) = (l[k] != (41 : UInt8)) := byte_ne_lit l[k] 41 (by omega)
      rw [← hatk] at n1 n2 n3
      by_cases hm : Tm.mid l[k] = true
      · have HS : Hid (Tm.atomEnd l i = Tm.atomEnd l (k + 1)) := by show _ = _; rw [hk.out, atomEnd_mid l k hlt hm]
        rw [← hatk] at hm
        simp only [Tm.mid, Bool.and_eq_true] at hm
        rw [hm.1.1] at n1
        rw [hm.1.2] at n2
        rw [hm.2] at n3
        clear hm hatk hk
        go_wp2_with fail
        go_round
        case rel => exact ⟨k + 1, by omega, by omega, by go_num, HS⟩
        case measure => simp [intOf]; omega
      · have HS : Hid (Tm.atomEnd l i = k) := by
          show _ = _
          rw [hk.out]
          exact atomEnd_stop l k (fun h => by rw [List.getD_eq_getElem?_getD, List.getElem?_eq_getElem h]; simpa using hm)
        rw [← hatk] at hm
        simp only [Tm.mid, Bool.and_eq_true, not_and, Bool.not_eq_true] at hm
        clear hatk hk
        cases m1 : ((((⟨l.toArray⟩ : ByteArray)[k]'(by rw [hsz]; exact hlt))) != (32 : UInt8)) with
        | false =>
          rw [m1] at n1
          clear m1 hm n2 n3
          go_wp2_with fail
          go_ret
          exact ⟨by rw [HS.out]; rfl, rfl⟩
        | true =>
          rw [m1] at n1
          cases m2 : ((((⟨l.toArray⟩ : ByteArray)[k]'(by rw [hsz]; exact hlt))) != (40 : UInt8)) with
          | false =>
            rw [m2] at n2
            clear m1 m2 hm n3
            go_wp2_with fail
            go_ret
            exact ⟨by rw [HS.out]; rfl, rfl⟩
          | true =>
            have m3 := hm ⟨m1, m2⟩
            rw [m2] at n2
            rw [m3] at n3
            clear m1 m2 m3 hm
            go_wp2_with fail
            go_ret
            exact ⟨by rw [HS.out]; rfl, rfl⟩
    · have HS : Hid (Tm.atomEnd l i = k) := by
        show _ = _
        rw [hk.out]
        exact atomEnd_stop l k (fun h => absurd h hlt)
      clear hk
      go_wp2_with fail
      go_ret
      exact ⟨by rw [HS.out]; rfl, rfl⟩
end Go.Proofs.YtdjoafnohkmneaaGreatDoor

namespace Go.Proofs.YtdjoafnohkmneaaGreatDoor
open Go.RowKit Go.Shelf

set_option maxHeartbeats 2000000
set_option maxRecDepth 100000

def delims : ByteArray := ⟨#[40, 41, 32]⟩

theorem u8_ge (n : Nat) (h2 : n < 256) : (UInt8.ofNat n).toNat = n := by simp [UInt8.toNat_ofNat']; omega

/-- The bytes of a rune that is no ASCII byte are no ASCII bytes. -/
theorem encode_high (n : Nat) (h : 128 ≤ n) (hv : Utf8.valid (n : Int) = true) : ∃ e : ByteArray, Utf8.encode (n : Int) = e ∧ 2 ≤ e.size ∧ e.size ≤ 4 ∧ ∀ i (hi : i < e.size), 128 ≤ (e[i]'hi).toNat := by
  have hn : n ≤ 1114111 := by
    unfold Utf8.valid at hv
    simp only [Bool.or_eq_true, Bool.and_eq_true, decide_eq_true_eq] at hv
    omega
  have e0 : Utf8.encode (n : Int) = if n < 0x80 then ⟨#[UInt8.ofNat n]⟩ else if n < 0x800 then ⟨#[UInt8.ofNat (0xC0 + n / 64), UInt8.ofNat (0x80 + n % 64)]⟩
      else if n < 0x10000 then ⟨#[UInt8.ofNat (0xE0 + n / 4096), UInt8.ofNat (0x80 + n / 64 % 64), UInt8.ofNat (0x80 + n % 64)]⟩
      else ⟨#[UInt8.ofNat (0xF0 + n / 262144), UInt8.ofNat (0x80 + n / 4096 % 64), UInt8.ofNat (0x80 + n / 64 % 64), UInt8.ofNat (0x80 + n % 64)]⟩ := by
    unfold Utf8.encode
    simp only [hv, if_true, Int.toNat_natCast]
  rw [if_neg (by omega)] at e0
  by_cases h1 : n < 0x800
  · rw [if_pos h1] at e0
    refine ⟨_, e0, Nat.le_refl 2, show 2 ≤ 4 by omega, fun i hi => ?_⟩
    have hi2 : i < 2 := hi
    obtain rfl | rfl : i = 0 ∨ i = 1 := by omega
    · show 128 ≤ (UInt8.ofNat (0xC0 + n / 64)).toNat; rw [u8_ge _ (by omega)]; omega
    · show 128 ≤ (UInt8.ofNat (0x80 + n % 64)).toNat; rw [u8_ge _ (by omega)]; omega
  · rw [if_neg h1] at e0
    by_cases h2 : n < 0x10000
    · rw [if_pos h2] at e0
      refine ⟨_, e0, show 2 ≤ 3 by omega, show 3 ≤ 4 by omega, fun i hi => ?_⟩
      have hi2 : i < 3 := hi
      obtain rfl | rfl | rfl : i = 0 ∨ i = 1 ∨ i = 2 := by omega
      · show 128 ≤ (UInt8.ofNat (0xE0 + n / 4096)).toNat; rw [u8_ge _ (by omega)]; omega
      · show 128 ≤ (UInt8.ofNat (0x80 + n / 64 % 64)).toNat; rw [u8_ge _ (by omega)]; omega
      · show 128 ≤ (UInt8.ofNat (0x80 + n % 64)).toNat; rw [u8_ge _ (by omega)]; omega
    · rw [if_neg h2] at e0
      refine ⟨_, e0, show 2 ≤ 4 by omega, Nat.le_refl 4, fun i hi => ?_⟩
      have hi2 : i < 4 := hi
      obtain rfl | rfl | rfl | rfl : i = 0 ∨ i = 1 ∨ i = 2 ∨ i = 3 := by omega
      · show 128 ≤ (UInt8.ofNat (0xF0 + n / 262144)).toNat; rw [u8_ge _ (by omega)]; omega
      · show 128 ≤ (UInt8.ofNat (0x80 + n / 4096 % 64)).toNat; rw [u8_ge _ (by omega)]; omega
      · show 128 ≤ (UInt8.ofNat (0x80 + n / 64 % 64)).toNat; rw [u8_ge _ (by omega)]; omega
      · show 128 ≤ (UInt8.ofNat (0x80 + n % 64)).toNat; rw [u8_ge _ (by omega)]; omega

theorem get_bang (s : ByteArray) (i : Nat) (h : i < s.size) : s.get! i = s[i]'h := by
  show s.data[i]! = s.data[i]'h
  rw [getElem!_pos s.data i h]

/-- What is decoded at a byte that is no ASCII byte. -/
theorem decode_high (s : ByteArray) (i : Nat) (hi : i < s.size) (hx : 128 ≤ (s[i]'hi).toNat) :
    128 ≤ (Utf8.decode s i).1 ∧ Utf8.valid ((Utf8.decode s i).1 : Int) = true ∧ 1 ≤ (Utf8.decode s i).2 ∧ i + (Utf8.decode s i).2 ≤ s.size ∧ ∀ j (hj : j < s.size), i ≤ j → j < i + (Utf8.decode s i).2 → 128 ≤ (s[j]'hj).toNat := by
  have hx' : 128 ≤ (s.get! i).toNat := by rw [get_bang s i hi]; exact hx
  have one : ∀ j (hj : j < s.size), i ≤ j → j < i + 1 → 128 ≤ (s[j]'hj).toNat := fun j hj h1 h2 => by
    obtain rfl : j = i := by omega
    exact hx
  have err : Utf8.valid ((Utf8.runeError : Nat) : Int) = true := by decide
  have bad : 128 ≤ ((Utf8.runeError, 1) : Nat × Nat).1 ∧ Utf8.valid ((((Utf8.runeError, 1) : Nat × Nat).1 : Nat) : Int) = true ∧ 1 ≤ ((Utf8.runeError, 1) : Nat × Nat).2 ∧ i + ((Utf8.runeError, 1) : Nat × Nat).2 ≤ s.size ∧ ∀ j (hj : j < s.size), i ≤ j → j < i + ((Utf8.runeError, 1) : Nat × Nat).2 → 128 ≤ (s[j]'hj).toNat :=
    ⟨by decide, err, by decide, by show i + 1 ≤ s.size; omega, one⟩
  have cont : ∀ k, (decide (i + k < s.size) && (s.get! (i + k)).toNat / 64 == 2) = true → ∃ h : i + k < s.size, 128 ≤ (s[i + k]'h).toNat := fun k h => by
    simp only [Bool.and_eq_true, decide_eq_true_eq, beq_iff_eq] at h
    refine ⟨h.1, ?_⟩
    rw [← get_bang s (i + k) h.1]
    omega
  unfold Utf8.decode
  simp only [Nat.add_zero]
  rw [if_neg (by omega)]
  split
  · rename_i h
    simp only [Bool.and_eq_true] at h
    obtain ⟨h1, g1⟩ := cont 1 (by simpa using h.2)
    split
    · rename_i hc
      refine ⟨hc, ?_, (show 1 ≤ 2 by decide), by show i + 2 ≤ s.size; omega, fun j hj hj1 hj2 => ?_⟩
      · unfold Utf8.valid
        simp only [Bool.or_eq_true, Bool.and_eq_true, decide_eq_true_eq]
        left
        have : (s.get! i).toNat % 32 * 64 + (s.get! (i + 1)).toNat % 64 < 2048 := by omega
        omega
      · simp only at hj2
        obtain rfl | rfl : j = i ∨ j = i + 1 := by omega
        · exact hx
        · exact g1
    · exact bad
  · split
    · rename_i h
      simp only [Bool.and_eq_true] at h
      obtain ⟨h1, g1⟩ := cont 1 (by simpa using h.1.2)
      obtain ⟨h2, g2⟩ := cont 2 (by simpa using h.2)
      split
      · rename_i hc
        simp only [Bool.and_eq_true, decide_eq_true_eq] at hc
        refine ⟨by have := hc.1; show 128 ≤ _; omega, hc.2, (show 1 ≤ 3 by decide), by show i + 3 ≤ s.size; omega, fun j hj hj1 hj2 => ?_⟩
        simp only at hj2
        obtain rfl | rfl | rfl : j = i ∨ j = i + 1 ∨ j = i + 2 := by omega
        · exact hx
        · exact g1
        · exact g2
      · exact bad
    · split
      · rename_i h
        simp only [Bool.and_eq_true] at h
        obtain ⟨h1, g1⟩ := cont 1 (by simpa using h.1.1.2)
        obtain ⟨h2, g2⟩ := cont 2 (by simpa using h.1.2)
        obtain ⟨h3, g3⟩ := cont 3 (by simpa using h.2)
        split
        · rename_i hc
          simp only [Bool.and_eq_true, decide_eq_true_eq] at hc
          refine ⟨by have := hc.1; show 128 ≤ _; omega, hc.2, (show 1 ≤ 4 by decide), by show i + 4 ≤ s.size; omega, fun j hj hj1 hj2 => ?_⟩
          simp only at hj2
          obtain rfl | rfl | rfl | rfl : j = i ∨ j = i + 1 ∨ j = i + 2 ∨ j = i + 3 := by omega
          · exact hx
          · exact g1
          · exact g2
          · exact g3
        · exact bad
      · exact bad
theorem indexByte_none (l : List UInt8) (c : UInt8) (h : ∀ x ∈ l, x ≠ c) : Lib.indexByte l c = -1 := by
  induction l with
  | nil => rfl
  | cons b l ih =>
    rw [Lib.indexByte, ih (fun x hx => h x (by simp [hx]))]
    have : (b == c) = false := by rw [beq_eq_false_iff_ne]; exact h b (by simp)
    simp [this]

theorem idx_high (s : ByteArray) (x : UInt8) (a b : Nat) (hs : ∀ y ∈ s.data.toList, y.toNat < 128) (hx : 128 ≤ x.toNat) : Lib.indexByte (s.extract a b).data.toList ((x.toNat : Int).toNat.toUInt8) = -1 := by
  have e : (x.toNat : Int).toNat.toUInt8 = x := by simp
  rw [e]
  refine indexByte_none _ _ fun y hy he => ?_
  subst he
  have hy2 : y ∈ s.data.toList := by
    simp [ByteArray.data_extract] at hy
    exact List.mem_of_mem_drop (List.mem_of_mem_take hy) |> fun h => by first | exact h | simpa using h
  have := hs y hy2
  omega

theorem after_drawn (w : World) (n : Nat) : After w (w.drewN n) := ⟨rfl, rfl, rfl, Nat.le_refl _, fun _ _ => rfl⟩

/-- A rune that is no ASCII byte is not in "() ". -/
theorem rune_high (w : World) (n : Nat) (h : 128 ≤ n) (hv : Utf8.valid (n : Int) = true) :
    Calls Tryz.prog 91 #[.string delims, .int .i32 n] w fun e w' => e = .returned (.int .i64 (-1)) ∧ After w w' := by
  have hi : ¬ (n : Int) < 128 := by omega
  have hz : delims.size = 3 := rfl
  by_cases hr : n = 65533
  · subst hr
    have n0 : ∀ ty, (Instr.next (.pointer (some ⟨w.heap.size, 0, none⟩)) true ty).run Tryz.prog (w.iter delims 0) = .ok (.tuple #[.bool true, .int .i64 0, .int .i32 40]) (w.iter delims 1) := fun ty => by
      have := run_next_any (P := Tryz.prog) w delims 0 ty (by decide)
      rw [show Utf8.decode delims 0 = (40, 1) by decide +kernel] at this
      exact this
    have n1 : ∀ ty, (Instr.next (.pointer (some ⟨w.heap.size, 0, none⟩)) true ty).run Tryz.prog (w.iter delims 1) = .ok (.tuple #[.bool true, .int .i64 1, .int .i32 41]) (w.iter delims 2) := fun ty => by
      have := run_next_any (P := Tryz.prog) w delims 1 ty (by decide)
      rw [show Utf8.decode delims 1 = (41, 1) by decide +kernel] at this
      exact this
    have n2 : ∀ ty, (Instr.next (.pointer (some ⟨w.heap.size, 0, none⟩)) true ty).run Tryz.prog (w.iter delims 2) = .ok (.tuple #[.bool true, .int .i64 2, .int .i32 32]) (w.iter delims 3) := fun ty => by
      have := run_next_any (P := Tryz.prog) w delims 2 ty (by decide)
      rw [show Utf8.decode delims 2 = (32, 1) by decide +kernel] at this
      exact this
    have n3 : ∀ ty, (Instr.next (.pointer (some ⟨w.heap.size, 0, none⟩)) true ty).run Tryz.prog (w.iter delims 3) = .ok (.tuple #[.bool false]) (w.iter delims 3) := fun ty => run_next_end (P := Tryz.prog) w delims 3 ty (by decide)
    go_enter Tryz.func91, Tryz.ntmps91
    go_wp2_with fail
    refine wp_loop_rounds 4 ?_
    rw [rounds_succ]; go_wp2_with fail
    rw [rounds_succ]; go_wp2_with fail
    rw [rounds_succ]; go_wp2_with fail
    rw [rounds_succ]; go_wp2_with fail
    go_ret
    exact ⟨rfl, After.new _ _⟩
  · have hne : ((n : Int) == 65533) = false := by rw [beq_eq_false_iff_ne]; omega
    obtain ⟨e, he, h2, h4, hb⟩ := encode_high n h hv
    have hval := fun W => Any.utf8_ValidRune (P := Tryz.prog) (ρ := rn) { lays with } (n : Int) W
    have hvr : Lib.validRune (n : Int) = true := by
      unfold Lib.validRune
      unfold Utf8.valid at hv
      simp only [Bool.or_eq_true, Bool.and_eq_true, decide_eq_true_eq] at hv ⊢
      omega
    simp only [hvr] at hval
    have hs21 : (Tryz.prog.underlying 21).isSome = true := by kernel_rfl
    have hd9 : Tryz.prog.underlying 9 = some .string := by kernel_rfl
    have hidx := fun s c W => Any.strings_IndexByte (P := Tryz.prog) (ρ := rn) { lays with } s c W
    go_enter Tryz.func91, Tryz.ntmps91
    have hd1 : (delims[1]'(by decide)).toNat = 41 := rfl
    have hw3 : IntKind.i64.wrap 3 = 3 := by decide
    have hd2 : (delims[2]'(by decide)).toNat = 32 := rfl
    obtain hsz | hsz | hsz : e.size = 2 ∨ e.size = 3 ∨ e.size = 4 := by omega
    · obtain ⟨x, hx⟩ : ∃ x : UInt8, e[1]'(by omega) = x := ⟨_, rfl⟩
      have hx1 := hb 1 (by omega)
      rw [hx] at hx1
      have hne1 : ((41 : Int) != (x.toNat : Int)) = true := by simp; omega
      have hI := fun a b => idx_high delims x a b (by decide) hx1
      clear hb
      go_wp2_with (go_at_call 105; refine (hval _).mono ?_; rintro e1 w1 ⟨rfl, rfl⟩)
      go_step3
      go_wp2_with fail
      refine wp_loop_rounds 1 ?_
      rw [rounds_succ]
      go_wp2_with fail
      go_step3
      go_wp2_with fail
      go_quiet (fail)
      go_wp2_with fail
      go_quiet ((go_at_call 104; refine ((hidx _ _ _).mono ?_); rintro e1 w1 ⟨rfl, rfl⟩; exact ⟨by first | exact congrArg (fun z => Ending.returned (Value.int .i64 z)) (hI _ _) | rfl, _, rfl⟩))
      go_wp2_with fail
      simp only [go_sem]
      go_ret
      exact ⟨rfl, after_drawn _ _⟩
    · obtain ⟨x, hx⟩ : ∃ x : UInt8, e[2]'(by omega) = x := ⟨_, rfl⟩
      have hx1 := hb 2 (by omega)
      rw [hx] at hx1
      have hne1 : ((32 : Int) != (x.toNat : Int)) = true := by simp; omega
      have hE : Lib.indexByte (⟨#[]⟩ : ByteArray).data.toList ((x.toNat : Int).toNat.toUInt8) = -1 := rfl
      clear hb
      go_wp2_with (go_at_call 105; refine (hval _).mono ?_; rintro e1 w1 ⟨rfl, rfl⟩)
      go_step3
      go_wp2_with fail
      refine wp_loop_rounds 1 ?_
      rw [rounds_succ]
      go_wp2_with fail
      go_step3
      go_wp2_with fail
      go_quiet (fail)
      go_wp2_with fail
      go_quiet ((go_at_call 104; refine ((hidx _ _ _).mono ?_); rintro e1 w1 ⟨rfl, rfl⟩; exact ⟨congrArg (fun z => Ending.returned (Value.int .i64 z)) hE, _, rfl⟩))
      go_wp2_with fail
      simp only [go_sem]
      go_ret
      exact ⟨rfl, after_drawn _ _⟩
    · clear hb
      go_wp2_with (go_at_call 105; refine (hval _).mono ?_; rintro e1 w1 ⟨rfl, rfl⟩)
      go_step3
      go_wp2_with fail
      refine wp_loop_rounds 1 ?_
      rw [rounds_succ]
      go_wp2_with fail
      rw [Exit.noGoto_ret]
      go_ret
      exact ⟨rfl, After.refl _⟩
theorem next_at (W : World) (b : Nat) (s : ByteArray) (pos : Nat) (ty : TypeId) (hb : W.heap[b]? = some (.stringIter s pos)) (h : pos < s.size) :
    (Instr.next (.pointer (some ⟨b, 0, none⟩)) true ty).run Tryz.prog W = .ok (.tuple #[.bool true, .int .i64 pos, .int .i32 (Utf8.decode s pos).1]) { W with heap := W.heap.setIfInBounds b (.stringIter s (pos + (Utf8.decode s pos).2)) } := by
  simp only [Instr.next, getObj, setObj, Sem.run_bind, Sem.run, hb, Result.andThen, h, if_true]
  simp [goInt]

theorem next_end (W : World) (b : Nat) (s : ByteArray) (pos : Nat) (ty : TypeId) (hb : W.heap[b]? = some (.stringIter s pos)) (h : ¬ pos < s.size) :
    (Instr.next (.pointer (some ⟨b, 0, none⟩)) true ty).run Tryz.prog W = .ok (.tuple #[.bool false]) W := by
  simp [Instr.next, getObj, Sem.run, hb, h]

theorem after_put {w W : World} (h : After w W) (o : Obj) : After w { W with heap := W.heap.setIfInBounds w.heap.size o } :=
  ⟨h.os, h.tape, h.output, by show w.heap.size ≤ (W.heap.setIfInBounds _ _).size; simpa using h.size, fun k hk => by
    show (W.heap.setIfInBounds w.heap.size o)[k]? = _
    rw [Array.getElem?_setIfInBounds_ne (by omega)]
    exact h.block k hk⟩

theorem put_at {W : World} {b : Nat} {o o' : Obj} (h : W.heap[b]? = some o') : ({ W with heap := W.heap.setIfInBounds b o } : World).heap[b]? = some o := by
  have := (Array.getElem?_eq_some_iff.1 h).1
  show (W.heap.setIfInBounds b o)[b]? = _
  simp [this]

theorem delim_mem (x : UInt8) : delims.data.toList.contains x = !Tm.mid x := by
  show List.contains [40, 41, 32] x = _
  simp only [List.contains_cons, List.contains_nil, Bool.or_false, Tm.mid]
  cases h1 : x == 32 <;> cases h2 : x == 40 <;> cases h3 : x == 41 <;> simp [bne, h1, h2, h3]

/-- Where the first of the three bytes stands, if one does. -/
theorem index_any (w : World) (s : ByteArray) (hs : s.size ≤ 1000000000) :
    Calls Tryz.prog 83 #[.string s, .string delims] w fun e w' => e = .returned (.int .i64 (Lib.indexAny s.data.toList delims.data.toList)) ∧ After w w' := by
  by_cases h8 : 8 < s.size
  · have hv116 : ∀ w, (zeroValue (rn.t 116)).run Tryz.prog w = .ok (.agg (Array.replicate 256 (.bool false))) w := fun w => by kernel_rfl
    have hi116 : (Tryz.prog.info? (rn.t 116)).map (·.size) = some 256 := by kernel_rfl
    refine (Any.strings_IndexAny_long lays hv116 hi116 s delims w (by decide) h8 (by omega) (by decide) ?_).mono ?_
    · intro j b hj
      have hm := List.mem_of_getElem? hj
      have : ∀ y ∈ delims.data.toList, y.toNat < 128 := by decide
      exact this b hm
    · rintro e w' ⟨rfl, rfl⟩
      exact ⟨rfl, (After.new _ _).alloc _⟩
  · have h8z : decide ((8 : Int) < (s.size : Int)) = false := decide_eq_false (by omega)
    have hset := fun n W => Any.strings_shouldUseASCIISet (P := Tryz.prog) (ρ := rn) { lays with } n W
    have hidx := fun s c W => Any.strings_IndexRune_ascii (P := Tryz.prog) (ρ := rn) { lays with } s c W
    have hz3 : delims.size = 3 := rfl
    have hemp : delims.toList.isEmpty = false := by rw [Lib.toList_data]; rfl
    go_enter Tryz.func83, Tryz.ntmps83
    go_wp2_with (go_at_call 92; refine (hset _ _).mono ?_; rintro e w' ⟨rfl, hw⟩; rw [hw, h8z])
    go_loopg [9, 10] s.size (fun g _ _ wx => ∃ i : Nat, i + g = s.size ∧ After w wx ∧ wx.heap[w.heap.size]? = some (.stringIter s i) ∧ Hid (Lib.NoAny s.data.toList delims.data.toList i))
    case atStart => exact ⟨0, by omega, After.new _ _, World.iter_heap _ _ _, Lib.NoAny.zero _ _⟩
    case round =>
      obtain ⟨i, hig, ha, hh, HN⟩ := hrel
      cases gk with
      | zero =>
        obtain rfl : i = s.size := by omega
        have hnx := fun ty => next_end _ _ s s.size ty hh (by omega)
        have HA := Lib.hid ha
        clear hh ha
        go_wp2_with fail
        go_ret
        exact ⟨by rw [Lib.indexAny_none (by rw [← Lib.size_eq]; exact HN.out)]; rfl, HA.out⟩
      | succ g =>
        have hi : i < s.size := by omega
        obtain ⟨x, hx⟩ : ∃ x : UInt8, s[i]'hi = x := ⟨_, rfl⟩
        have hxl : s.data.toList[i]? = some x := by rw [← hx]; exact Lib.data_getElem? s i hi
        have Hx := Lib.hid hxl
        have hnx := fun ty => next_at _ _ s i ty hh hi
        have ha2 := after_put ha (.stringIter s (i + (Utf8.decode s i).2))
        have hh2 := put_at (o := .stringIter s (i + (Utf8.decode s i).2)) hh
        by_cases h128 : x.toNat < 128
        · rw [decode_ascii s i hi (by rw [hx]; exact h128), hx] at hnx ha2 hh2
          simp only at hnx ha2 hh2
          obtain ⟨wn, hwn⟩ : ∃ wn, wn = ({ wr with heap := wr.heap.setIfInBounds w.heap.size (.stringIter s (i + 1)) } : World) := ⟨_, rfl⟩
          rw [← hwn] at hnx ha2
          replace hh2 : wn.heap[w.heap.size]? = some (.stringIter s (i + 1)) := by rw [hwn]; exact hh2
          clear hxl hx hwn hh ha
          have HA := Lib.hid ha2
          have HH := Lib.hid hh2
          clear ha2 hh2
          have hcon := Lib.contains_iff_indexByte delims.data.toList x
          have hback : ((x.toNat : Int)).toNat.toUInt8 = x := by simp
          cases hin : delims.data.toList.contains x
          · rw [hin] at hcon
            have hlt : ¬ ((0 : Int) ≤ Lib.indexByte delims.data.toList x) := of_decide_eq_false hcon.symm
            clear hcon
            go_wp2_with (go_at_call 91; refine (hidx _ _ _ (by omega) (by omega)).mono ?_; rintro e w' ⟨rfl, hw⟩; rw [hw, hback])
            go_roundg g
            case measure => omega
            case rel => exact ⟨i + 1, by omega, HA.out, HH.out, HN.out.succ Hx.out hin⟩
          · rw [hin] at hcon
            have hge : (0 : Int) ≤ Lib.indexByte delims.data.toList x := of_decide_eq_true hcon.symm
            clear hcon
            go_wp2_with (go_at_call 91; refine (hidx _ _ _ (by omega) (by omega)).mono ?_; rintro e w' ⟨rfl, hw⟩; rw [hw, hback])
            go_ret
            exact ⟨by rw [Lib.indexAny_hit HN.out Hx.out hin]; rfl, HA.out⟩
        · obtain ⟨d1, d2, d3, d4, d5⟩ := decode_high s i hi (by rw [hx]; omega)
          generalize Utf8.decode s i = p at *
          obtain ⟨r, k⟩ := p
          simp only at hnx ha2 hh2 d1 d2 d3 d4 d5
          obtain ⟨wn, hwn⟩ : ∃ wn, wn = ({ wr with heap := wr.heap.setIfInBounds w.heap.size (.stringIter s (i + k)) } : World) := ⟨_, rfl⟩
          rw [← hwn] at hnx ha2
          replace hh2 : wn.heap[w.heap.size]? = some (.stringIter s (i + k)) := by rw [hwn]; exact hh2
          have hrune := fun W => rune_high W r d1 d2
          clear hxl hx hwn hh ha
          have hno' : Lib.NoAny s.data.toList delims.data.toList (i + k) := fun j b hj hb => by
            by_cases hji : j < i
            · exact HN.out j b hji hb
            · have hjs : j < s.size := by omega
              have h5 := d5 j hjs (by omega) hj
              have hbj : s[j]'hjs = b := by
                have := Lib.data_getElem? s j hjs
                rw [hb] at this
                exact (Option.some.inj this).symm
              rw [hbj] at h5
              cases hc : delims.data.toList.contains b with
              | false => rfl
              | true =>
                have hm : b ∈ delims.data.toList := by simpa using hc
                have : ∀ y ∈ delims.data.toList, y.toNat < 128 := by decide
                have := this b hm
                omega
          have HN2 := Lib.hid hno'
          have HA := Lib.hid ha2
          have HH := Lib.hid hh2
          clear hno' d5 ha2 hh2
          go_wp2_with (go_at_call 91; refine (hrune _).mono ?_; rintro e w' ⟨rfl, hw⟩)
          go_roundg (s.size - (i + k))
          case measure => omega
          case rel => exact ⟨i + k, by omega, HA.out.trans hw, hw.heap HH.out, HN2⟩
end Go.Proofs.YtdjoafnohkmneaaGreatDoor

namespace Go.Proofs.YtdjoafnohkmneaaGreatDoor
open Go.RowKit

set_option maxHeartbeats 400000
set_option maxRecDepth 100000

/-- Bytes as cells. -/
def bcells (l : List UInt8) : List Value := l.map fun c => Value.int .u8 c.toNat

theorem bcells_len (l : List UInt8) : (bcells l).length = l.length := by simp [bcells]
theorem bcells_append (a b : List UInt8) : bcells (a ++ b) = bcells a ++ bcells b := by simp [bcells]
theorem bcells_str (l : List UInt8) : Lib.strCells ⟨l.toArray⟩ = bcells l := by simp [Lib.strCells, bcells]

/-- The slice value sv owns the bytes xs. -/
def Own (w : World) (base : Nat) (sv : Value) (xs : List UInt8) : Prop := w.ownsRow base 5 1 sv xs.length (bcells xs)

theorem info_byte : (Tryz.prog.info? 5).map (fun i => (i.zero, i.size, i.bytes)) = some (some (.int .u8 0), 1, 1) := by kernel_rfl

def WritePost (w : World) (xs l : List UInt8) (e : Ending) (w' : World) : Prop :=
  ∃ sv, e = .returned sv ∧ Below w.heap.size w w' ∧ Own w' w.heap.size sv (xs ++ l)

def WriteOk (w : World) (v : Value) (t : Tm) : Prop :=
  ∃ T x f y, v = .iface T x ∧ (∀ W, Below w.heap.size w W → (method 335 T x "loop.example/realizers/impl.write").run Tryz.prog W = .ok (f, y) W) ∧ (∀ args w', (callFunc f args).run Tryz.prog w' = .ok (.enter f args) w') ∧
    ∀ W, Below w.heap.size w W → ∀ sv xs, Own W w.heap.size sv xs → xs.length + t.text.length ≤ 1000000 → Calls Tryz.prog f #[y, sv] W (WritePost w xs t.text)

theorem own_new {w W w' : World} {sv v' : Value} {xs l : List UInt8} {o : Obj} (hW : Below w.heap.size w W) (ho : w'.ownsRow w.heap.size 5 1 v' (xs.length + l.length) (bcells xs ++ bcells l)) (hg : (W.alloc o).grownBy w' sv.ownBlock)
    (hs : Own W w.heap.size sv xs) : Below w.heap.size w w' ∧ Own w' w.heap.size v' (xs ++ l) :=
  ⟨(below_alloc hW o).grown hg (below_alloc hW o).size (fun k hk => (hs.lt k hk).1), by unfold Own; rw [bcells_append, List.length_append]; exact ho⟩

theorem own_new' {w W w' : World} {sv v' : Value} {xs l : List UInt8} (hW : Below w.heap.size w W) (ho : w'.ownsRow w.heap.size 5 1 v' (xs.length + l.length) (bcells xs ++ bcells l)) (hg : W.grownBy w' sv.ownBlock)
    (hs : Own W w.heap.size sv xs) : Below w.heap.size w w' ∧ Own w' w.heap.size v' (xs ++ l) :=
  ⟨hW.grown hg hW.size (fun k hk => (hs.lt k hk).1), by unfold Own; rw [bcells_append, List.length_append]; exact ho⟩

theorem undrew {w w' : World} {row : Option Nat} (h : w.drew.grownBy w' row) : w.grownBy w' row := ⟨h.os, h.tape, h.output, h.size, h.block⟩

theorem foldl_push (l : List UInt8) : ∀ s : ByteArray, (l.map fun c => (c.toNat : Int)).foldl (fun r n => r.push (UInt8.ofNat n.toNat)) s = ⟨(s.data.toList ++ l).toArray⟩ := by
  induction l with
  | nil => intro s; simp
  | cons c l ih =>
    intro s
    rw [List.map_cons, List.foldl_cons, ih]
    simp [ByteArray.push]

/-- A string made of the bytes that a slice value owns. -/
theorem run_text {w : World} {base : Nat} {sv : Value} {xs : List UInt8} (hs : Own w base sv xs) (hne : xs ≠ []) : (convert 28 9 sv).run Tryz.prog w = .ok (str xs) w := by
  have hl := hs.1
  rcases hs.2 with ⟨_, h0⟩ | ⟨g, cap, cur, rfl, _, hh, _⟩
  · exact absurd (List.length_eq_zero_iff.1 h0) hne
  · have hc := hs.cells (g := g) rfl
    rw [run_convert_bytes_string w _ _ _ _ _ _ Tryz.underlying28 Tryz.underlying5 Tryz.underlying9]
    rw [run_bytesToString w _ _ _ (xs.map fun c => (c.toNat : Int)) (by
      have := run_loadCells_list (P := Tryz.prog) (w := w) ⟨g, 0, none⟩ (bcells xs) hc
      rw [bcells_len] at this
      rw [show ((xs.map fun c => (c.toNat : Int)).map (Value.int .u8)) = bcells xs by simp [bcells, Function.comp_def]]
      exact this)]
    rw [foldl_push]
    rfl

end Go.Proofs.YtdjoafnohkmneaaGreatDoor

namespace Go.Proofs.YtdjoafnohkmneaaGreatDoor
open Go.RowKit

set_option maxHeartbeats 1000000
set_option maxRecDepth 100000

namespace Tm
def I : Tm := app (app s k) k
def no : Tm := app k I
def pair (m n : Tm) : Tm := app (app s (app (app s I) (app k m))) (app k n)
def num : Nat → Tm
  | 0 => I
  | n + 1 => pair no (num n)
theorem size_pair (m n : Tm) : (pair m n).size = m.size + n.size + 7 := by simp [pair, I, size]; omega
theorem size_num (n : Nat) : (num n).size = 11 * n + 3 := by
  induction n with
  | zero => rfl
  | succ n ih => simp only [num, size_pair, ih]; simp [no, I, size]; omega
theorem good_pair (m n : Tm) : (pair m n).good = (m.good && n.good) := by simp [pair, I, good]
theorem good_num (n : Nat) : (num n).good = true := by
  induction n with
  | zero => rfl
  | succ n ih => simp only [num, good_pair, ih]; rfl
end Tm

theorem foldl_size (f : Tm) (us : List Tm) : (us.foldl Tm.app f).size = f.size + (us.map Tm.size).sum := by
  induction us generalizing f with
  | nil => simp
  | cons u us ih => rw [List.foldl_cons, ih]; simp [Tm.size]; omega

theorem sum_take (ns : List Nat) (k : Nat) : (ns.take k).sum ≤ ns.sum := by
  induction ns generalizing k with
  | nil => simp
  | cons n ns ih => cases k with
    | zero => simp
    | succ k => simp only [List.take_succ_cons, List.sum_cons]; have := ih k; omega

/-- Several new blocks. -/
def allocL (w : World) : List Obj → World
  | [] => w
  | o :: os => allocL (w.alloc o) os

theorem allocL_below (w : World) (os : List Obj) : Below w.heap.size w (allocL w os) := by
  induction os generalizing w with
  | nil => exact Below.refl _ _
  | cons o os ih => exact below_trans (below_alloc (Below.refl _ _) o) (ih (w.alloc o))

theorem allocL_size (w : World) (os : List Obj) : (allocL w os).heap.size = w.heap.size + os.length := by
  induction os generalizing w with
  | nil => rfl
  | cons o os ih => simp only [allocL, ih, List.length_cons]; simp; omega

theorem allocL_heap (w : World) (os : List Obj) (i : Nat) (h : i < os.length) : (allocL w os).heap[w.heap.size + i]? = some os[i] := by
  induction os generalizing w i with
  | nil => simp at h
  | cons o os ih =>
    cases i with
    | zero =>
      have h1 : (w.alloc o).heap[w.heap.size]? = some o := by show (w.heap.push _)[_]? = _; simp
      exact heap_later h1 (allocL_below (w.alloc o) os)
    | succ i =>
      have := ih (w.alloc o) i (by simpa using h)
      rw [show (w.alloc o).heap.size + i = w.heap.size + (i + 1) by simp; omega] at this
      simpa only [allocL, List.getElem_cons_succ] using this

end Go.Proofs.YtdjoafnohkmneaaGreatDoor

namespace Go.Proofs.YtdjoafnohkmneaaGreatDoor
open Go.RowKit

set_option maxHeartbeats 1000000
set_option maxRecDepth 100000

inductive Bd
  | itself
  | without (t : Tm)
  | atEnd (f : Tm)
  | inside (f a : Bd)

def Bd.term : Bd → Tm
  | .itself => Tm.I
  | .without t => .app .k t
  | .atEnd f => f
  | .inside f a => .app (.app .s f.term) a.term

theorem heap_top (W : World) (o : Obj) : (W.alloc o).heap[W.heap.size]? = some o := by show (W.heap.push _)[_]? = _; simp
theorem heap_top2 (W : World) (o p : Obj) : ((W.alloc o).alloc p).heap[W.heap.size + 1]? = some p := by
  have := heap_top (W.alloc o) p
  rwa [show (W.alloc o).heap.size = W.heap.size + 1 by simp] at this
theorem below_new (W : World) (o : Obj) : Below W.heap.size W (W.alloc o) := below_alloc (Below.refl _ _) _
theorem heap_below2 (W : World) (o p : Obj) : ((W.alloc o).alloc p).heap[W.heap.size]? = some o := heap_later (heap_top W o) (below_new (W.alloc o) p)

end Go.Proofs.YtdjoafnohkmneaaGreatDoor

namespace Go.Proofs.YtdjoafnohkmneaaGreatDoor
namespace Tm

theorem parse_facts {l : List UInt8} {t : Tm} (h : parse l = some t) : good t = true ∧ fits t = true ∧ size t ≤ 3000 ∧ depth t ≤ 1500 ∧ t.text.length ≤ 21000 := by
  obtain ⟨_, h2, h3⟩ := parse_iff.1 h
  have h4 := h3
  simp only [fits, Bool.and_eq_true, decide_eq_true_eq] at h4
  have := text_le t h2
  exact ⟨h2, h3, h4.1, h4.2, by omega⟩

def pSize (l : List UInt8) : Int := match parse l with | some t => (size t : Nat) | none => -1
def pNames (l : List UInt8) : Option (List (List UInt8)) := (parse l).map (names [])
def pClosed (l : List UInt8) : Bool := match parse l with | some t => (names [] t).isEmpty | none => false
def pPut (l n b : List UInt8) : Option (List UInt8) := match parse l, parse b with
  | some t, some u => if nameOk n && fits (put t n u) then some (text (put t n u)) else none
  | _, _ => none
def pStep (l : List UInt8) : Option (List UInt8) := match parse l with
  | some t => (stepFit t).map text
  | none => none
def pMany (l : List UInt8) (n : Int) : Option (List UInt8 × Nat) := match parse l with
  | some t => if 0 ≤ n ∧ n ≤ 6000 then some (text (many n.toNat t).1, (many n.toNat t).2) else none
  | none => none
def pNormal (l : List UInt8) : Bool := match parse l with | some t => (step t).isNone | none => false
def pNorm (l : List UInt8) : Option (List UInt8 × Nat) := match parse l with
  | some t => (norm t).map fun p => (text p.1, p.2)
  | none => none
def pApply (l m : List UInt8) : Option (List UInt8) := match parse l, parse m with
  | some t, some u => if fits (app t u) then (norm (app t u)).map fun p => text p.1 else none
  | _, _ => none
def pEqual (l m : List UInt8) : Bool := match pNorm l, pNorm m with
  | some p, some q => decide (p.1 = q.1)
  | _, _ => false

end Tm
end Go.Proofs.YtdjoafnohkmneaaGreatDoor

namespace Go.Proofs.YtdjoafnohkmneaaGreatDoor
open Go.RowKit

set_option maxHeartbeats 1000000
set_option maxRecDepth 100000

/-- What NumberOf answers. -/
def pNumber (n : Int) : Option (List UInt8) := if 0 ≤ n ∧ n ≤ 60 then some (Tm.num n.toNat).text else none

def NumOne (w : World) (r : Option (List UInt8)) (e : Ending) (w' : World) : Prop :=
  e = .returned (.tuple #[str (r.getD []), .bool r.isSome]) ∧ Below w.heap.size w w'

end Go.Proofs.YtdjoafnohkmneaaGreatDoor

namespace Go.Proofs.YtdjoafnohkmneaaGreatDoor
open Go.RowKit

set_option maxHeartbeats 400000
set_option maxRecDepth 100000

theorem size_le_text (t : Tm) (h : t.good = true) : t.size ≤ t.text.length := by
  induction t with
  | nm n => simp only [Tm.good] at h; cases n with
    | nil => simp [Tm.nameOk] at h
    | cons c ds => simp [Tm.size, Tm.text]
  | app f a ihf iha => simp only [Tm.good, Bool.and_eq_true] at h; have := ihf h.1; have := iha h.2; simp [Tm.size, Tm.text]; omega
  | _ => simp [Tm.size, Tm.text]

theorem reads_size {l : List UInt8} {d i j : Nat} {t : Tm} (h : Tm.Reads l d i t j) : t.size ≤ l.length ∧ j ≤ l.length := by
  obtain ⟨h1, h2, h3, h4, h5⟩ := h
  have := size_le_text t h4
  have e := congrArg List.length h1
  simp at e
  omega

theorem below_grown {w w' : World} {o : Obj} (hg : (w.alloc o).grownBy w' (some w.heap.size)) : Below w.heap.size w w' :=
  ((Below.refl _ _).alloc (Nat.le_refl _) o).grown hg (by simp) (fun k hk => by injection hk with hk; omega)

theorem below_drews {n : Nat} {a b : World} (h : Below n a b) (m : Nat) : Below n a (b.drewN m) := ⟨h.os, h.tape, h.output, h.size, h.block⟩

end Go.Proofs.YtdjoafnohkmneaaGreatDoor

namespace Go.Proofs.YtdjoafnohkmneaaGreatDoor
open Go.RowKit

set_option maxHeartbeats 1000000
set_option maxRecDepth 100000

namespace Tm
def behind (F : List UInt8) : Tm → Option Tm
  | app f a => if text f = F then some a else none
  | _ => none
def parts : Tm → Option (Tm × Tm)
  | app x y => match behind [107] y with
    | none => none
    | some n => match behind [115] x with
      | none => none
      | some left => match behind [40, 115, 32, 40, 40, 115, 32, 107, 41, 32, 107, 41, 41] left with
        | none => none
        | some front => match behind [107] front with
          | none => none
          | some m => some (m, n)
  | _ => none
theorem behind_good {F : List UInt8} {t a : Tm} (h : behind F t = some a) (hg : good t = true) : good a = true ∧ a.size < t.size := by
  cases t with
  | app f b =>
    simp only [behind] at h
    split at h
    · obtain rfl := Option.some.inj h
      simp only [good, Bool.and_eq_true] at hg
      exact ⟨hg.2, by simp only [size]; have := size_pos f; omega⟩
    · simp at h
  | _ => simp [behind] at h
end Tm

/-- What PairParts answers. -/
def pParts (l : List UInt8) : Option (List UInt8 × List UInt8) := match Tm.parse l with
  | some t => t.parts.map fun p => (p.1.text, p.2.text)
  | none => none

def TwoRes (w : World) (r : Option (List UInt8 × List UInt8)) (e : Ending) (w' : World) : Prop :=
  e = .returned (.tuple #[str ((r.map Prod.fst).getD []), str ((r.map Prod.snd).getD []), .bool r.isSome]) ∧ Below w.heap.size w w'

theorem parts_good {t m n : Tm} (h : t.parts = some (m, n)) (hg : t.good = true) : m.good = true ∧ n.good = true ∧ m.size < t.size ∧ n.size < t.size := by
  cases t with
  | app x y =>
    simp only [Tm.good, Bool.and_eq_true] at hg
    simp only [Tm.parts] at h
    split at h
    · simp at h
    · rename_i n' e1
      split at h
      · simp at h
      · rename_i left e2
        split at h
        · simp at h
        · rename_i front e3
          split at h
          · simp at h
          · rename_i m' e4
            simp only [Option.some.injEq, Prod.mk.injEq] at h
            obtain ⟨rfl, rfl⟩ := h
            have g1 := Tm.behind_good e1 hg.2
            have g2 := Tm.behind_good e2 hg.1
            have g3 := Tm.behind_good e3 g2.1
            have g4 := Tm.behind_good e4 g3.1
            simp only [Tm.size]
            exact ⟨g4.1, g1.1, by omega, by omega⟩
  | _ => simp [Tm.parts] at h

end Go.Proofs.YtdjoafnohkmneaaGreatDoor

namespace Go.Proofs.YtdjoafnohkmneaaGreatDoor
open Go.RowKit

set_option maxHeartbeats 2000000
set_option maxRecDepth 100000

def Bd.comb (f a : Tm) : Bd → Bd → Bd
  | .without _, .without _ => .without (.app f a)
  | .without _, .itself => .atEnd f
  | b1, b2 => .inside b1 b2
def Bd.of (x : List UInt8) : Tm → Bd
  | .nm n => if n = x then .itself else .without (.nm n)
  | .app f a => Bd.comb f a (Bd.of x f) (Bd.of x a)
  | t => .without t

end Go.Proofs.YtdjoafnohkmneaaGreatDoor
