/-
  The reader of the program, further: readAtom.
-/
import Derived.Test.YtlpgoelcadmcfaaGreatDoorPkA
import Derived.Laws.RangeAny
import Derived.LoopN
import Derived.WalkMore
import Derived.Laws.Runes
import Derived.Shelf.Small.Utf8
import Derived.Shelf.Small.Strs
import Derived.Deep.LoopGhost
import Derived.Lib.AppendStr
namespace Go.Proofs.YtlpgoelcadmcfaaGreatDoor
open Go.RowKit

set_option maxHeartbeats 400000
set_option maxRecDepth 100000

theorem grown_trans {w w' w'' : World} {b : Nat} (h : w.grownBy w' (some b)) (g : w'.grownBy w'' (some b)) : w.grownBy w'' (some b) :=
  ⟨g.os.trans h.os, g.tape.trans h.tape, g.output.trans h.output, Nat.le_trans h.size g.size, fun k hk hne => (g.block k (Nat.lt_of_lt_of_le hk h.size) hne).trans (h.block k hk hne)⟩

theorem grown_alloc (w : World) (b : Nat) (o : Obj) : w.grownBy (w.alloc o) (some b) := ⟨rfl, rfl, rfl, by simp, fun k hk _ => Below.heap_alloc _ _ _ hk⟩

theorem heap_new (w : World) (o : Obj) : (w.alloc o).heap[w.heap.size]? = some o := by
  show (w.heap.push _)[_]? = _
  simp

theorem heap_new_set (w : World) (m : Nat) (a : Addr) (v : Value) (o : Obj) : (((w.drewN m).setCell a v).alloc o).heap[w.heap.size]? = some o := by
  have h : ((w.drewN m).setCell a v).heap.size = w.heap.size := by simp [World.setCell]
  rw [← h]
  exact heap_new _ _

theorem bytes_ext (l : List UInt8) (i j : Nat) : (⟨l.toArray⟩ : ByteArray).extract i j = ⟨((l.drop i).take (j - i)).toArray⟩ := by
  apply ByteArray.ext
  simp [ByteArray.data_extract]

theorem digs_drop (l : List UInt8) (i m k : Nat) : Tm.digs (l.drop i) m k = Tm.digs l m (i + k) := by
  induction m generalizing k with
  | zero => rfl
  | succ m ih =>
    simp only [Tm.digs, List.getElem?_drop]
    rw [ih (k + 1)]
    rfl

theorem nameLen_drop (l : List UInt8) (i : Nat) : Tm.nameLen (l.drop i) 0 = Tm.nameLen l i := by
  simp only [Tm.nameLen, List.getElem?_drop, Nat.add_zero]
  rw [digs_drop]

end Go.Proofs.YtlpgoelcadmcfaaGreatDoor

namespace Go.Proofs.YtlpgoelcadmcfaaGreatDoor
open Go.RowKit

set_option maxHeartbeats 400000
set_option maxRecDepth 100000

theorem cat (a b : ByteArray) (h : a.size + b.size ≤ 1000000000000) : ∃ c : ByteArray, c.data.toList = a.data.toList ++ b.data.toList ∧ c.size = a.size + b.size ∧ ∀ W, (Op.stringOp .add a b).run Tryz.prog W = .ok (.string c) W :=
  ⟨a ++ b, by simp, by simp, fun W => run_string_add_sum W a b (by omega)⟩

end Go.Proofs.YtlpgoelcadmcfaaGreatDoor

namespace Go.Proofs.YtlpgoelcadmcfaaGreatDoor
open Go.RowKit

set_option maxHeartbeats 400000
set_option maxRecDepth 100000

theorem in_any (w : World) (n lo hi : Int) : Calls Tryz.prog 26 #[.int .i64 n, .int .i64 lo, .int .i64 hi] w fun e w' => e = .returned (.bool (decide (lo ≤ n ∧ n ≤ hi))) ∧ w = w' := by
  by_cases h1 : lo ≤ n
  · by_cases h2 : n ≤ hi
    · rw [show decide (lo ≤ n ∧ n ≤ hi) = true by simp [h1, h2]]
      go_enter Tryz.func26, Tryz.ntmps26
      go_wp2_with fail
      go_ret
      exact ⟨by simp, rfl⟩
    · rw [show decide (lo ≤ n ∧ n ≤ hi) = false by simp [h2]]
      go_enter Tryz.func26, Tryz.ntmps26
      go_wp2_with fail
      go_ret
      exact ⟨by simp, rfl⟩
  · rw [show decide (lo ≤ n ∧ n ≤ hi) = false by simp [h1]]
    go_enter Tryz.func26, Tryz.ntmps26
    go_wp2_with fail
    go_ret
    exact ⟨by simp, rfl⟩

theorem s_name (w : World) (l : List UInt8) (hl : l.length ≤ 1000000000) : Calls Tryz.prog 25 #[str l] w fun e w' => e = .returned (.bool (Tm.nameOk l)) ∧ w = w' := by
  have hsz : (⟨l.toArray⟩ : ByteArray).size = l.length := by show l.toArray.size = _; simp
  have hin := in_any w (l.length : Nat) 1 4
  by_cases hlen : 1 ≤ l.length ∧ l.length ≤ 4
  · rw [show decide ((1 : Int) ≤ ((l.length : Nat) : Int) ∧ ((l.length : Nat) : Int) ≤ 4) = true by rw [decide_eq_true_eq]; omega] at hin
    cases hcs : l with
    | nil => rw [hcs] at hlen; simp at hlen
    | cons c ds =>
      rw [← hcs]
      have hpos : 0 < l.length := by omega
      have hat : (⟨l.toArray⟩ : ByteArray)[0]'(by rw [hsz]; exact hpos) = c := by rw [byte_at l 0 hpos]; simp [hcs]
      have hok : Tm.nameOk l = (Tm.lead c && (l.drop 1).all Tm.dig) := by
        have : ds.length ≤ 3 := by have := hlen.2; rw [hcs] at this; simp at this; omega
        rw [hcs]; simp [Tm.nameOk, this]
      obtain ⟨hlen1, hlen4⟩ := hlen
      clear hcs
      by_cases hlead : Tm.lead c = true
      · have hfin : Hid (Tm.nameOk l = (l.drop 1).all Tm.dig) := by show _ = _; rw [hok, hlead]; rfl
        obtain ⟨hl1, hl2⟩ := (lead_int c).1 hlead
        clear hok hlead
        go_enter Tryz.func25, Tryz.ntmps25
        go_wp2_with (go_at_call 26; refine hin.mono ?_; rintro e w' ⟨rfl, rfl⟩)
        go_loop [3] (fun n => ∃ k : Nat, 1 ≤ k ∧ k ≤ l.length ∧ n = .int .i64 k ∧ Hid (Tm.nameOk l = (l.drop k).all Tm.dig)) (fun n => l.length - (intOf n).toNat)
        case atStart => exact ⟨1, by omega, by omega, rfl, hfin⟩
        case round =>
          obtain ⟨k, hk1, hkl, rfl, hk⟩ := hrel
          clear hat hfin
          by_cases hlt : k < l.length
          · have hatk := byte_at l k hlt (by rw [hsz]; exact hlt)
            have hdrop := List.drop_eq_getElem_cons hlt
            by_cases hd : Tm.dig l[k] = true
            · have HS : Hid (Tm.nameOk l = (l.drop (k + 1)).all Tm.dig) := by show _ = _; rw [hk.out, hdrop, List.all_cons, hd]; rfl
              obtain ⟨hd1, hd2⟩ := (dig_int _).1 hd
              rw [← hatk] at hd1 hd2
              clear hd hdrop hatk hk
              go_wp2_with fail
              go_round
              case rel => exact ⟨k + 1, by omega, by omega, by go_num, HS⟩
              case measure => simp [intOf]; omega
            · have HS : Hid (Tm.nameOk l = false) := by show _ = _; rw [hk.out, hdrop, List.all_cons]; simp [hd]
              rw [dig_int, ← hatk] at hd
              clear hdrop hatk hk
              by_cases hd1 : (48 : Int) ≤ (((⟨l.toArray⟩ : ByteArray)[k]'(by rw [hsz]; exact hlt)).toNat : Int)
              · have hd2 : (57 : Int) < (((⟨l.toArray⟩ : ByteArray)[k]'(by rw [hsz]; exact hlt)).toNat : Int) := by
                  have := fun h => hd ⟨hd1, h⟩
                  omega
                clear hd
                go_wp2_with fail
                go_ret
                exact ⟨by rw [HS.out]; rfl, rfl⟩
              · have hd2 : (((⟨l.toArray⟩ : ByteArray)[k]'(by rw [hsz]; exact hlt)).toNat : Int) < 48 := by omega
                clear hd hd1
                go_wp2_with fail
                go_ret
                exact ⟨by rw [HS.out]; rfl, rfl⟩
          · have HS : Hid (Tm.nameOk l = true) := by show _ = _; rw [hk.out, List.drop_eq_nil_of_le (by omega)]; rfl
            clear hk
            go_wp2_with fail
            go_ret
            exact ⟨by rw [HS.out]; rfl, rfl⟩
      · have hfin : Tm.nameOk l = false := by rw [hok]; simp [hlead]
        rw [hfin]
        rw [lead_int] at hlead
        clear hfin hok
        by_cases h1 : (c.toNat : Int) < 117
        · go_enter Tryz.func25, Tryz.ntmps25
          go_wp2_with (go_at_call 26; refine hin.mono ?_; rintro e w' ⟨rfl, rfl⟩)
          go_ret
          exact ⟨rfl, rfl⟩
        · have h2 : (122 : Int) < (c.toNat : Int) := by omega
          clear hlead
          go_enter Tryz.func25, Tryz.ntmps25
          go_wp2_with (go_at_call 26; refine hin.mono ?_; rintro e w' ⟨rfl, rfl⟩)
          go_ret
          exact ⟨rfl, rfl⟩
  · rw [show decide ((1 : Int) ≤ ((l.length : Nat) : Int) ∧ ((l.length : Nat) : Int) ≤ 4) = false by rw [decide_eq_false_iff_not]; omega] at hin
    have hfin : Tm.nameOk l = false := by
      cases hcs : l with
      | nil => rfl
      | cons c ds =>
        rw [hcs] at hlen
        simp at hlen
        have : ¬ ds.length ≤ 3 := by omega
        simp [Tm.nameOk, this]
    rw [hfin]
    clear hfin hlen
    go_enter Tryz.func25, Tryz.ntmps25
    go_wp2_with (go_at_call 26; refine hin.mono ?_; rintro e w' ⟨rfl, rfl⟩)
    go_ret
    exact ⟨rfl, rfl⟩

theorem atomEnd_mid (l : List UInt8) (k : Nat) (h : k < l.length) (hm : Tm.mid l[k] = true) : Tm.atomEnd l k = Tm.atomEnd l (k + 1) := by
  unfold Tm.atomEnd
  rw [List.drop_eq_getElem_cons h, List.takeWhile_cons]
  unfold Tm.mid at hm
  rw [hm]
  simp
  omega

theorem atomEnd_stop (l : List UInt8) (k : Nat) (h : k < l.length → Tm.mid (l.getD k 0) = false) : Tm.atomEnd l k = k := by
  unfold Tm.atomEnd
  by_cases hk : k < l.length
  · have hm := h hk
    rw [List.getD_eq_getElem?_getD, List.getElem?_eq_getElem hk] at hm
    rw [List.drop_eq_getElem_cons hk, List.takeWhile_cons]
    unfold Tm.mid at hm
    simp only [Option.getD_some] at hm
    rw [hm]
    simp
  · rw [List.drop_eq_nil_of_le (by omega)]
    simp

theorem byte_ne_lit (x : UInt8) (n : Nat) (h : n < 256) : ((x.toNat : Int) != (n : Int)) = (x != UInt8.ofNat n) := by
  have := byte_ne x (UInt8.ofNat n)
  rw [UInt8.toNat_ofNat_of_lt' (by simpa using h)] at this
  exact this

theorem s_atom (w : World) (l : List UInt8) (i : Nat) (hl : l.length ≤ 1000000000) (hi : i ≤ l.length) :
    Calls Tryz.prog 48 #[str l, .int .i64 i] w fun e w' => e = .returned (.int .i64 (Tm.atomEnd l i : Nat)) ∧ w = w' := by
  have hsz : (⟨l.toArray⟩ : ByteArray).size = l.length := by show l.toArray.size = _; simp
  go_enter Tryz.func48, Tryz.ntmps48
  go_wp2_with fail
  go_loop [1] (fun n => ∃ k : Nat, i ≤ k ∧ k ≤ l.length ∧ n = .int .i64 k ∧ Hid (Tm.atomEnd l i = Tm.atomEnd l k)) (fun n => l.length - (intOf n).toNat)
  case atStart => exact ⟨i, Nat.le_refl _, hi, rfl, rfl⟩
  case round =>
    obtain ⟨k, hk1, hkl, rfl, hk⟩ := hrel
    by_cases hlt : k < l.length
    · have hatk := byte_at l k hlt (by rw [hsz]; exact hlt)
      have n1 : ((l[k].toNat : Int) != 32) = (l[k] != (32 : UInt8)) := byte_ne_lit l[k] 32 (by omega)
      have n2 : ((l[k].toNat : Int) != 40) = (l[k] != (40 : UInt8)) := byte_ne_lit l[k] 40 (by omega)
      have n3 : ((l[k].toNat : Int) != 41) = (l[k] != (41 : UInt8)) := byte_ne_lit l[k] 41 (by omega)
      rw [← hatk] at n1 n2 n3
      by_cases hm : Tm.mid l[k] = true
      · have HS : Hid (Tm.atomEnd l i = Tm.atomEnd l (k + 1)) := by show _ = _; rw [hk.out, atomEnd_mid l k hlt hm]
        rw [← hatk] at hm
        simp only [Tm.mid, Bool.and_eq_true] at hm
        rw [hm.1.1] at n1
        rw [hm.1.2] at n2
        rw [hm.2] at n3
        clear hm hatk hk
        go_wp2_with fail
        go_round
        case rel => exact ⟨k + 1, by omega, by omega, by go_num, HS⟩
        case measure => simp [intOf]; omega
      · have HS : Hid (Tm.atomEnd l i = k) := by
          show _ = _
          rw [hk.out]
          exact atomEnd_stop l k (fun h => by rw [List.getD_eq_getElem?_getD, List.getElem?_eq_getElem h]; simpa using hm)
        rw [← hatk] at hm
        simp only [Tm.mid, Bool.and_eq_true, not_and, Bool.not_eq_true] at hm
        clear hatk hk
        cases m1 : ((((⟨l.toArray⟩ : ByteArray)[k]'(by rw [hsz]; exact hlt))) != (32 : UInt8)) with
        | false =>
          rw [m1] at n1
          clear m1 hm n2 n3
          go_wp2_with fail
          go_ret
          exact ⟨by rw [HS.out]; rfl, rfl⟩
        | true =>
          rw [m1] at n1
          cases m2 : ((((⟨l.toArray⟩ : ByteArray)[k]'(by rw [hsz]; exact hlt))) != (40 : UInt8)) with
          | false =>
            rw [m2] at n2
            clear m1 m2 hm n3
            go_wp2_with fail
            go_ret
            exact ⟨by rw [HS.out]; rfl, rfl⟩
          | true =>
            have m3 := hm ⟨m1, m2⟩
            rw [m2] at n2
            rw [m3] at n3
            clear m1 m2 m3 hm
            go_wp2_with fail
            go_ret
            exact ⟨by rw [HS.out]; rfl, rfl⟩
    · have HS : Hid (Tm.atomEnd l i = k) := by
        show _ = _
        rw [hk.out]
        exact atomEnd_stop l k (fun h => absurd h hlt)
      clear hk
      go_wp2_with fail
      go_ret
      exact ⟨by rw [HS.out]; rfl, rfl⟩
end Go.Proofs.YtlpgoelcadmcfaaGreatDoor

namespace Go.Proofs.YtlpgoelcadmcfaaGreatDoor
open Go.RowKit Go.Shelf

set_option maxHeartbeats 2000000
set_option maxRecDepth 100000

def delims : ByteArray := ⟨#[40, 41, 32]⟩

theorem u8_ge (n : Nat) (h2 : n < 256) : (UInt8.ofNat n).toNat = n := by simp [UInt8.toNat_ofNat']; omega

/-- The bytes of a rune that is no ASCII byte are no ASCII bytes. -/
theorem encode_high (n : Nat) (h : 128 ≤ n) (hv : Utf8.valid (n : Int) = true) : ∃ e : ByteArray, Utf8.encode (n : Int) = e ∧ 2 ≤ e.size ∧ e.size ≤ 4 ∧ ∀ i (hi : i < e.size), 128 ≤ (e[i]'hi).toNat := by
  have hn : n ≤ 1114111 := by
    unfold Utf8.valid at hv
    simp only [Bool.or_eq_true, Bool.and_eq_true, decide_eq_true_eq] at hv
    omega
  have e0 : Utf8.encode (n : Int) = if n < 0x80 then ⟨#[UInt8.ofNat n]⟩ else if n < 0x800 then ⟨#[UInt8.ofNat (0xC0 + n / 64), UInt8.ofNat (0x80 + n % 64)]⟩
      else if n < 0x10000 then ⟨#[UInt8.ofNat (0xE0 + n / 4096), UInt8.ofNat (0x80 + n / 64 % 64), UInt8.ofNat (0x80 + n % 64)]⟩
      else ⟨#[UInt8.ofNat (0xF0 + n / 262144), UInt8.ofNat (0x80 + n / 4096 % 64), UInt8.ofNat (0x80 + n / 64 % 64), UInt8.ofNat (0x80 + n % 64)]⟩ := by
    unfold Utf8.encode
    simp only [hv, if_true, Int.toNat_natCast]
  rw [if_neg (by omega)] at e0
  by_cases h1 : n < 0x800
  · rw [if_pos h1] at e0
    refine ⟨_, e0, Nat.le_refl 2, show 2 ≤ 4 by omega, fun i hi => ?_⟩
    have hi2 : i < 2 := hi
    obtain rfl | rfl : i = 0 ∨ i = 1 := by omega
    · show 128 ≤ (UInt8.ofNat (0xC0 + n / 64)).toNat; rw [u8_ge _ (by omega)]; omega
    · show 128 ≤ (UInt8.ofNat (0x80 + n % 64)).toNat; rw [u8_ge _ (by omega)]; omega
  · rw [if_neg h1] at e0
    by_cases h2 : n < 0x10000
    · rw [if_pos h2] at e0
      refine ⟨_, e0, show 2 ≤ 3 by omega, show 3 ≤ 4 by omega, fun i hi => ?_⟩
      have hi2 : i < 3 := hi
      obtain rfl | rfl | rfl : i = 0 ∨ i = 1 ∨ i = 2 := by omega
      · show 128 ≤ (UInt8.ofNat (0xE0 + n / 4096)).toNat; rw [u8_ge _ (by omega)]; omega
      · show 128 ≤ (UInt8.ofNat (0x80 + n / 64 % 64)).toNat; rw [u8_ge _ (by omega)]; omega
      · show 128 ≤ (UInt8.ofNat (0x80 + n % 64)).toNat; rw [u8_ge _ (by omega)]; omega
    · rw [if_neg h2] at e0
      refine ⟨_, e0, show 2 ≤ 4 by omega, Nat.le_refl 4, fun i hi => ?_⟩
      have hi2 : i < 4 := hi
      obtain rfl | rfl | rfl | rfl : i = 0 ∨ i = 1 ∨ i = 2 ∨ i = 3 := by omega
      · show 128 ≤ (UInt8.ofNat (0xF0 + n / 262144)).toNat; rw [u8_ge _ (by omega)]; omega
      · show 128 ≤ (UInt8.ofNat (0x80 + n / 4096 % 64)).toNat; rw [u8_ge _ (by omega)]; omega
      · show 128 ≤ (UInt8.ofNat (0x80 + n / 64 % 64)).toNat; rw [u8_ge _ (by omega)]; omega
      · show 128 ≤ (UInt8.ofNat (0x80 + n % 64)).toNat; rw [u8_ge _ (by omega)]; omega

theorem get_bang (s : ByteArray) (i : Nat) (h : i < s.size) : s.get! i = s[i]'h := by
  show s.data[i]! = s.data[i]'h
  rw [getElem!_pos s.data i h]

/-- What is decoded at a byte that is no ASCII byte. -/
theorem decode_high (s : ByteArray) (i : Nat) (hi : i < s.size) (hx : 128 ≤ (s[i]'hi).toNat) :
    128 ≤ (Utf8.decode s i).1 ∧ Utf8.valid ((Utf8.decode s i).1 : Int) = true ∧ 1 ≤ (Utf8.decode s i).2 ∧ i + (Utf8.decode s i).2 ≤ s.size ∧ ∀ j (hj : j < s.size), i ≤ j → j < i + (Utf8.decode s i).2 → 128 ≤ (s[j]'hj).toNat := by
  have hx' : 128 ≤ (s.get! i).toNat := by rw [get_bang s i hi]; exact hx
  have one : ∀ j (hj : j < s.size), i ≤ j → j < i + 1 → 128 ≤ (s[j]'hj).toNat := fun j hj h1 h2 => by
    obtain rfl : j = i := by omega
    exact hx
  have err : Utf8.valid ((Utf8.runeError : Nat) : Int) = true := by decide
  have bad : 128 ≤ ((Utf8.runeError, 1) : Nat × Nat).1 ∧ Utf8.valid ((((Utf8.runeError, 1) : Nat × Nat).1 : Nat) : Int) = true ∧ 1 ≤ ((Utf8.runeError, 1) : Nat × Nat).2 ∧ i + ((Utf8.runeError, 1) : Nat × Nat).2 ≤ s.size ∧ ∀ j (hj : j < s.size), i ≤ j → j < i + ((Utf8.runeError, 1) : Nat × Nat).2 → 128 ≤ (s[j]'hj).toNat :=
    ⟨by decide, err, by decide, by show i + 1 ≤ s.size; omega, one⟩
  have cont : ∀ k, (decide (i + k < s.size) && (s.get! (i + k)).toNat / 64 == 2) = true → ∃ h : i + k < s.size, 128 ≤ (s[i + k]'h).toNat := fun k h => by
    simp only [Bool.and_eq_true, decide_eq_true_eq, beq_iff_eq] at h
    refine ⟨h.1, ?_⟩
    rw [← get_bang s (i + k) h.1]
    omega
  unfold Utf8.decode
  simp only [Nat.add_zero]
  rw [if_neg (by omega)]
  split
  · rename_i h
    simp only [Bool.and_eq_true] at h
    obtain ⟨h1, g1⟩ := cont 1 (by simpa using h.2)
    split
    · rename_i hc
      refine ⟨hc, ?_, (show 1 ≤ 2 by decide), by show i + 2 ≤ s.size; omega, fun j hj hj1 hj2 => ?_⟩
      · unfold Utf8.valid
        simp only [Bool.or_eq_true, Bool.and_eq_true, decide_eq_true_eq]
        left
        have : (s.get! i).toNat % 32 * 64 + (s.get! (i + 1)).toNat % 64 < 2048 := by omega
        omega
      · simp only at hj2
        obtain rfl | rfl : j = i ∨ j = i + 1 := by omega
        · exact hx
        · exact g1
    · exact bad
  · split
    · rename_i h
      simp only [Bool.and_eq_true] at h
      obtain ⟨h1, g1⟩ := cont 1 (by simpa using h.1.2)
      obtain ⟨h2, g2⟩ := cont 2 (by simpa using h.2)
      split
      · rename_i hc
        simp only [Bool.and_eq_true, decide_eq_true_eq] at hc
        refine ⟨by have := hc.1; show 128 ≤ _; omega, hc.2, (show 1 ≤ 3 by decide), by show i + 3 ≤ s.size; omega, fun j hj hj1 hj2 => ?_⟩
        simp only at hj2
        obtain rfl | rfl | rfl : j = i ∨ j = i + 1 ∨ j = i + 2 := by omega
        · exact hx
        · exact g1
        · exact g2
      · exact bad
    · split
      · rename_i h
        simp only [Bool.and_eq_true] at h
        obtain ⟨h1, g1⟩ := cont 1 (by simpa using h.1.1.2)
        obtain ⟨h2, g2⟩ := cont 2 (by simpa using h.1.2)
        obtain ⟨h3, g3⟩ := cont 3 (by simpa using h.2)
        split
        · rename_i hc
          simp only [Bool.and_eq_true, decide_eq_true_eq] at hc
          refine ⟨by have := hc.1; show 128 ≤ _; omega, hc.2, (show 1 ≤ 4 by decide), by show i + 4 ≤ s.size; omega, fun j hj hj1 hj2 => ?_⟩
          simp only at hj2
          obtain rfl | rfl | rfl | rfl : j = i ∨ j = i + 1 ∨ j = i + 2 ∨ j = i + 3 := by omega
          · exact hx
          · exact g1
          · exact g2
          · exact g3
        · exact bad
      · exact bad
theorem indexByte_none (l : List UInt8) (c : UInt8) (h : ∀ x ∈ l, x ≠ c) : Lib.indexByte l c = -1 := by
  induction l with
  | nil => rfl
  | cons b l ih =>
    rw [Lib.indexByte, ih (fun x hx => h x (by simp [hx]))]
    have : (b == c) = false := by rw [beq_eq_false_iff_ne]; exact h b (by simp)
    simp [this]

theorem idx_high (s : ByteArray) (x : UInt8) (a b : Nat) (hs : ∀ y ∈ s.data.toList, y.toNat < 128) (hx : 128 ≤ x.toNat) : Lib.indexByte (s.extract a b).data.toList ((x.toNat : Int).toNat.toUInt8) = -1 := by
  have e : (x.toNat : Int).toNat.toUInt8 = x := by simp
  rw [e]
  refine indexByte_none _ _ fun y hy he => ?_
  subst he
  have hy2 : y ∈ s.data.toList := by
    simp [ByteArray.data_extract] at hy
    exact List.mem_of_mem_drop (List.mem_of_mem_take hy) |> fun h => by first | exact h | simpa using h
  have := hs y hy2
  omega

theorem after_drawn (w : World) (n : Nat) : After w (w.drewN n) := ⟨rfl, rfl, rfl, Nat.le_refl _, fun _ _ => rfl⟩

/-- A rune that is no ASCII byte is not in "() ". -/
theorem rune_high (w : World) (n : Nat) (h : 128 ≤ n) (hv : Utf8.valid (n : Int) = true) :
    Calls Tryz.prog 95 #[.string delims, .int .i32 n] w fun e w' => e = .returned (.int .i64 (-1)) ∧ After w w' := by
  have hi : ¬ (n : Int) < 128 := by omega
  have hz : delims.size = 3 := rfl
  by_cases hr : n = 65533
  · subst hr
    have n0 : ∀ ty, (Instr.next (.pointer (some ⟨w.heap.size, 0, none⟩)) true ty).run Tryz.prog (w.iter delims 0) = .ok (.tuple #[.bool true, .int .i64 0, .int .i32 40]) (w.iter delims 1) := fun ty => by
      have := run_next_any (P := Tryz.prog) w delims 0 ty (by decide)
      rw [show Utf8.decode delims 0 = (40, 1) by decide +kernel] at this
      exact this
    have n1 : ∀ ty, (Instr.next (.pointer (some ⟨w.heap.size, 0, none⟩)) true ty).run Tryz.prog (w.iter delims 1) = .ok (.tuple #[.bool true, .int .i64 1, .int .i32 41]) (w.iter delims 2) := fun ty => by
      have := run_next_any (P := Tryz.prog) w delims 1 ty (by decide)
      rw [show Utf8.decode delims 1 = (41, 1) by decide +kernel] at this
      exact this
    have n2 : ∀ ty, (Instr.next (.pointer (some ⟨w.heap.size, 0, none⟩)) true ty).run Tryz.prog (w.iter delims 2) = .ok (.tuple #[.bool true, .int .i64 2, .int .i32 32]) (w.iter delims 3) := fun ty => by
      have := run_next_any (P := Tryz.prog) w delims 2 ty (by decide)
      rw [show Utf8.decode delims 2 = (32, 1) by decide +kernel] at this
      exact this
    have n3 : ∀ ty, (Instr.next (.pointer (some ⟨w.heap.size, 0, none⟩)) true ty).run Tryz.prog (w.iter delims 3) = .ok (.tuple #[.bool false]) (w.iter delims 3) := fun ty => run_next_end (P := Tryz.prog) w delims 3 ty (by decide)
    go_enter Tryz.func95, Tryz.ntmps95
    go_wp2_with fail
    refine wp_loop_rounds 4 ?_
    rw [rounds_succ]; go_wp2_with fail
    rw [rounds_succ]; go_wp2_with fail
    rw [rounds_succ]; go_wp2_with fail
    rw [rounds_succ]; go_wp2_with fail
    go_ret
    exact ⟨rfl, After.new _ _⟩
  · have hne : ((n : Int) == 65533) = false := by rw [beq_eq_false_iff_ne]; omega
    obtain ⟨e, he, h2, h4, hb⟩ := encode_high n h hv
    have hval := fun W => Any.utf8_ValidRune (P := Tryz.prog) (ρ := rn) { lays with } (n : Int) W
    have hvr : Lib.validRune (n : Int) = true := by
      unfold Lib.validRune
      unfold Utf8.valid at hv
      simp only [Bool.or_eq_true, Bool.and_eq_true, decide_eq_true_eq] at hv ⊢
      omega
    simp only [hvr] at hval
    have hs21 : (Tryz.prog.underlying 21).isSome = true := by kernel_rfl
    have hd9 : Tryz.prog.underlying 9 = some .string := by kernel_rfl
    have hidx := fun s c W => Any.strings_IndexByte (P := Tryz.prog) (ρ := rn) { lays with } s c W
    go_enter Tryz.func95, Tryz.ntmps95
    have hd1 : (delims[1]'(by decide)).toNat = 41 := rfl
    have hw3 : IntKind.i64.wrap 3 = 3 := by decide
    have hd2 : (delims[2]'(by decide)).toNat = 32 := rfl
    obtain hsz | hsz | hsz : e.size = 2 ∨ e.size = 3 ∨ e.size = 4 := by omega
    · obtain ⟨x, hx⟩ : ∃ x : UInt8, e[1]'(by omega) = x := ⟨_, rfl⟩
      have hx1 := hb 1 (by omega)
      rw [hx] at hx1
      have hne1 : ((41 : Int) != (x.toNat : Int)) = true := by simp; omega
      have hI := fun a b => idx_high delims x a b (by decide) hx1
      clear hb
      go_wp2_with (go_at_call 130; refine (hval _).mono ?_; rintro e1 w1 ⟨rfl, rfl⟩)
      go_step3
      go_wp2_with fail
      refine wp_loop_rounds 1 ?_
      rw [rounds_succ]
      go_wp2_with fail
      go_step3
      go_wp2_with fail
      go_quiet (fail)
      go_wp2_with fail
      go_quiet ((go_at_call 129; refine ((hidx _ _ _).mono ?_); rintro e1 w1 ⟨rfl, rfl⟩; exact ⟨by first | exact congrArg (fun z => Ending.returned (Value.int .i64 z)) (hI _ _) | rfl, _, rfl⟩))
      go_wp2_with fail
      simp only [go_sem]
      go_ret
      exact ⟨rfl, after_drawn _ _⟩
    · obtain ⟨x, hx⟩ : ∃ x : UInt8, e[2]'(by omega) = x := ⟨_, rfl⟩
      have hx1 := hb 2 (by omega)
      rw [hx] at hx1
      have hne1 : ((32 : Int) != (x.toNat : Int)) = true := by simp; omega
      have hE : Lib.indexByte (⟨#[]⟩ : ByteArray).data.toList ((x.toNat : Int).toNat.toUInt8) = -1 := rfl
      clear hb
      go_wp2_with (go_at_call 130; refine (hval _).mono ?_; rintro e1 w1 ⟨rfl, rfl⟩)
      go_step3
      go_wp2_with fail
      refine wp_loop_rounds 1 ?_
      rw [rounds_succ]
      go_wp2_with fail
      go_step3
      go_wp2_with fail
      go_quiet (fail)
      go_wp2_with fail
      go_quiet ((go_at_call 129; refine ((hidx _ _ _).mono ?_); rintro e1 w1 ⟨rfl, rfl⟩; exact ⟨congrArg (fun z => Ending.returned (Value.int .i64 z)) hE, _, rfl⟩))
      go_wp2_with fail
      simp only [go_sem]
      go_ret
      exact ⟨rfl, after_drawn _ _⟩
    · clear hb
      go_wp2_with (go_at_call 130; refine (hval _).mono ?_; rintro e1 w1 ⟨rfl, rfl⟩)
      go_step3
      go_wp2_with fail
      refine wp_loop_rounds 1 ?_
      rw [rounds_succ]
      go_wp2_with fail
      rw [Exit.noGoto_ret]
      go_ret
      exact ⟨rfl, After.refl _⟩
theorem next_at (W : World) (b : Nat) (s : ByteArray) (pos : Nat) (ty : TypeId) (hb : W.heap[b]? = some (.stringIter s pos)) (h : pos < s.size) :
    (Instr.next (.pointer (some ⟨b, 0, none⟩)) true ty).run Tryz.prog W = .ok (.tuple #[.bool true, .int .i64 pos, .int .i32 (Utf8.decode s pos).1]) { W with heap := W.heap.setIfInBounds b (.stringIter s (pos + (Utf8.decode s pos).2)) } := by
  simp only [Instr.next, getObj, setObj, Sem.run_bind, Sem.run, hb, Result.andThen, h, if_true]
  simp [goInt]

theorem next_end (W : World) (b : Nat) (s : ByteArray) (pos : Nat) (ty : TypeId) (hb : W.heap[b]? = some (.stringIter s pos)) (h : ¬ pos < s.size) :
    (Instr.next (.pointer (some ⟨b, 0, none⟩)) true ty).run Tryz.prog W = .ok (.tuple #[.bool false]) W := by
  simp [Instr.next, getObj, Sem.run, hb, h]

theorem after_put {w W : World} (h : After w W) (o : Obj) : After w { W with heap := W.heap.setIfInBounds w.heap.size o } :=
  ⟨h.os, h.tape, h.output, by show w.heap.size ≤ (W.heap.setIfInBounds _ _).size; simpa using h.size, fun k hk => by
    show (W.heap.setIfInBounds w.heap.size o)[k]? = _
    rw [Array.getElem?_setIfInBounds_ne (by omega)]
    exact h.block k hk⟩

theorem put_at {W : World} {b : Nat} {o o' : Obj} (h : W.heap[b]? = some o') : ({ W with heap := W.heap.setIfInBounds b o } : World).heap[b]? = some o := by
  have := (Array.getElem?_eq_some_iff.1 h).1
  show (W.heap.setIfInBounds b o)[b]? = _
  simp [this]

theorem delim_mem (x : UInt8) : delims.data.toList.contains x = !Tm.mid x := by
  show List.contains [40, 41, 32] x = _
  simp only [List.contains_cons, List.contains_nil, Bool.or_false, Tm.mid]
  cases h1 : x == 32 <;> cases h2 : x == 40 <;> cases h3 : x == 41 <;> simp [bne, h1, h2, h3]

/-- Where the first of the three bytes stands, if one does. -/
theorem index_any (w : World) (s : ByteArray) (hs : s.size ≤ 1000000000) :
    Calls Tryz.prog 82 #[.string s, .string delims] w fun e w' => e = .returned (.int .i64 (Lib.indexAny s.data.toList delims.data.toList)) ∧ After w w' := by
  by_cases h8 : 8 < s.size
  · have hv116 : ∀ w, (zeroValue (rn.t 116)).run Tryz.prog w = .ok (.agg (Array.replicate 256 (.bool false))) w := fun w => by kernel_rfl
    have hi116 : (Tryz.prog.info? (rn.t 116)).map (·.size) = some 256 := by kernel_rfl
    refine (Any.strings_IndexAny_long lays hv116 hi116 s delims w (by decide) h8 (by omega) (by decide) ?_).mono ?_
    · intro j b hj
      have hm := List.mem_of_getElem? hj
      have : ∀ y ∈ delims.data.toList, y.toNat < 128 := by decide
      exact this b hm
    · rintro e w' ⟨rfl, rfl⟩
      exact ⟨rfl, (After.new _ _).alloc _⟩
  · have h8z : decide ((8 : Int) < (s.size : Int)) = false := decide_eq_false (by omega)
    have hset := fun n W => Any.strings_shouldUseASCIISet (P := Tryz.prog) (ρ := rn) { lays with } n W
    have hidx := fun s c W => Any.strings_IndexRune_ascii (P := Tryz.prog) (ρ := rn) { lays with } s c W
    have hz3 : delims.size = 3 := rfl
    have hemp : delims.toList.isEmpty = false := by rw [Lib.toList_data]; rfl
    go_enter Tryz.func82, Tryz.ntmps82
    go_wp2_with (go_at_call 96; refine (hset _ _).mono ?_; rintro e w' ⟨rfl, hw⟩; rw [hw, h8z])
    go_loopg [9, 10] s.size (fun g _ _ wx => ∃ i : Nat, i + g = s.size ∧ After w wx ∧ wx.heap[w.heap.size]? = some (.stringIter s i) ∧ Hid (Lib.NoAny s.data.toList delims.data.toList i))
    case atStart => exact ⟨0, by omega, After.new _ _, World.iter_heap _ _ _, Lib.NoAny.zero _ _⟩
    case round =>
      obtain ⟨i, hig, ha, hh, HN⟩ := hrel
      cases gk with
      | zero =>
        obtain rfl : i = s.size := by omega
        have hnx := fun ty => next_end _ _ s s.size ty hh (by omega)
        have HA := Lib.hid ha
        clear hh ha
        go_wp2_with fail
        go_ret
        exact ⟨by rw [Lib.indexAny_none (by rw [← Lib.size_eq]; exact HN.out)]; rfl, HA.out⟩
      | succ g =>
        have hi : i < s.size := by omega
        obtain ⟨x, hx⟩ : ∃ x : UInt8, s[i]'hi = x := ⟨_, rfl⟩
        have hxl : s.data.toList[i]? = some x := by rw [← hx]; exact Lib.data_getElem? s i hi
        have Hx := Lib.hid hxl
        have hnx := fun ty => next_at _ _ s i ty hh hi
        have ha2 := after_put ha (.stringIter s (i + (Utf8.decode s i).2))
        have hh2 := put_at (o := .stringIter s (i + (Utf8.decode s i).2)) hh
        by_cases h128 : x.toNat < 128
        · rw [decode_ascii s i hi (by rw [hx]; exact h128), hx] at hnx ha2 hh2
          simp only at hnx ha2 hh2
          obtain ⟨wn, hwn⟩ : ∃ wn, wn = ({ wr with heap := wr.heap.setIfInBounds w.heap.size (.stringIter s (i + 1)) } : World) := ⟨_, rfl⟩
          rw [← hwn] at hnx ha2
          replace hh2 : wn.heap[w.heap.size]? = some (.stringIter s (i + 1)) := by rw [hwn]; exact hh2
          clear hxl hx hwn hh ha
          have HA := Lib.hid ha2
          have HH := Lib.hid hh2
          clear ha2 hh2
          have hcon := Lib.contains_iff_indexByte delims.data.toList x
          have hback : ((x.toNat : Int)).toNat.toUInt8 = x := by simp
          cases hin : delims.data.toList.contains x
          · rw [hin] at hcon
            have hlt : ¬ ((0 : Int) ≤ Lib.indexByte delims.data.toList x) := of_decide_eq_false hcon.symm
            clear hcon
            go_wp2_with (go_at_call 95; refine (hidx _ _ _ (by omega) (by omega)).mono ?_; rintro e w' ⟨rfl, hw⟩; rw [hw, hback])
            go_roundg g
            case measure => omega
            case rel => exact ⟨i + 1, by omega, HA.out, HH.out, HN.out.succ Hx.out hin⟩
          · rw [hin] at hcon
            have hge : (0 : Int) ≤ Lib.indexByte delims.data.toList x := of_decide_eq_true hcon.symm
            clear hcon
            go_wp2_with (go_at_call 95; refine (hidx _ _ _ (by omega) (by omega)).mono ?_; rintro e w' ⟨rfl, hw⟩; rw [hw, hback])
            go_ret
            exact ⟨by rw [Lib.indexAny_hit HN.out Hx.out hin]; rfl, HA.out⟩
        · obtain ⟨d1, d2, d3, d4, d5⟩ := decode_high s i hi (by rw [hx]; omega)
          generalize Utf8.decode s i = p at *
          obtain ⟨r, k⟩ := p
          simp only at hnx ha2 hh2 d1 d2 d3 d4 d5
          obtain ⟨wn, hwn⟩ : ∃ wn, wn = ({ wr with heap := wr.heap.setIfInBounds w.heap.size (.stringIter s (i + k)) } : World) := ⟨_, rfl⟩
          rw [← hwn] at hnx ha2
          replace hh2 : wn.heap[w.heap.size]? = some (.stringIter s (i + k)) := by rw [hwn]; exact hh2
          have hrune := fun W => rune_high W r d1 d2
          clear hxl hx hwn hh ha
          have hno' : Lib.NoAny s.data.toList delims.data.toList (i + k) := fun j b hj hb => by
            by_cases hji : j < i
            · exact HN.out j b hji hb
            · have hjs : j < s.size := by omega
              have h5 := d5 j hjs (by omega) hj
              have hbj : s[j]'hjs = b := by
                have := Lib.data_getElem? s j hjs
                rw [hb] at this
                exact (Option.some.inj this).symm
              rw [hbj] at h5
              cases hc : delims.data.toList.contains b with
              | false => rfl
              | true =>
                have hm : b ∈ delims.data.toList := by simpa using hc
                have : ∀ y ∈ delims.data.toList, y.toNat < 128 := by decide
                have := this b hm
                omega
          have HN2 := Lib.hid hno'
          have HA := Lib.hid ha2
          have HH := Lib.hid hh2
          clear hno' d5 ha2 hh2
          go_wp2_with (go_at_call 95; refine (hrune _).mono ?_; rintro e w' ⟨rfl, hw⟩)
          go_roundg (s.size - (i + k))
          case measure => omega
          case rel => exact ⟨i + k, by omega, HA.out.trans hw, hw.heap HH.out, HN2⟩
end Go.Proofs.YtlpgoelcadmcfaaGreatDoor

namespace Go.Proofs.YtlpgoelcadmcfaaGreatDoor
open Go.RowKit

set_option maxHeartbeats 400000
set_option maxRecDepth 100000

/-- Bytes as cells. -/
def bcells (l : List UInt8) : List Value := l.map fun c => Value.int .u8 c.toNat

theorem bcells_len (l : List UInt8) : (bcells l).length = l.length := by simp [bcells]
theorem bcells_append (a b : List UInt8) : bcells (a ++ b) = bcells a ++ bcells b := by simp [bcells]
theorem bcells_str (l : List UInt8) : Lib.strCells ⟨l.toArray⟩ = bcells l := by simp [Lib.strCells, bcells]

/-- The slice value sv owns the bytes xs. -/
def Own (w : World) (base : Nat) (sv : Value) (xs : List UInt8) : Prop := w.ownsRow base 5 1 sv xs.length (bcells xs)

theorem info_byte : (Tryz.prog.info? 5).map (fun i => (i.zero, i.size, i.bytes)) = some (some (.int .u8 0), 1, 1) := by kernel_rfl

def WritePost (w : World) (xs l : List UInt8) (e : Ending) (w' : World) : Prop :=
  ∃ sv, e = .returned sv ∧ Below w.heap.size w w' ∧ Own w' w.heap.size sv (xs ++ l)

def WriteOk (w : World) (v : Value) (t : Tm) : Prop :=
  ∃ T x f y, v = .iface T x ∧ (∀ W, Below w.heap.size w W → (method 420 T x "loop.example/realizers/impl.write").run Tryz.prog W = .ok (f, y) W) ∧ (∀ args w', (callFunc f args).run Tryz.prog w' = .ok (.enter f args) w') ∧
    ∀ W, Below w.heap.size w W → ∀ sv xs, Own W w.heap.size sv xs → xs.length + t.text.length ≤ 1000000 → Calls Tryz.prog f #[y, sv] W (WritePost w xs t.text)

theorem own_new {w W w' : World} {sv v' : Value} {xs l : List UInt8} {o : Obj} (hW : Below w.heap.size w W) (ho : w'.ownsRow w.heap.size 5 1 v' (xs.length + l.length) (bcells xs ++ bcells l)) (hg : (W.alloc o).grownBy w' sv.ownBlock)
    (hs : Own W w.heap.size sv xs) : Below w.heap.size w w' ∧ Own w' w.heap.size v' (xs ++ l) :=
  ⟨(below_alloc hW o).grown hg (below_alloc hW o).size (fun k hk => (hs.lt k hk).1), by unfold Own; rw [bcells_append, List.length_append]; exact ho⟩

theorem own_new' {w W w' : World} {sv v' : Value} {xs l : List UInt8} (hW : Below w.heap.size w W) (ho : w'.ownsRow w.heap.size 5 1 v' (xs.length + l.length) (bcells xs ++ bcells l)) (hg : W.grownBy w' sv.ownBlock)
    (hs : Own W w.heap.size sv xs) : Below w.heap.size w w' ∧ Own w' w.heap.size v' (xs ++ l) :=
  ⟨hW.grown hg hW.size (fun k hk => (hs.lt k hk).1), by unfold Own; rw [bcells_append, List.length_append]; exact ho⟩

theorem undrew {w w' : World} {row : Option Nat} (h : w.drew.grownBy w' row) : w.grownBy w' row := ⟨h.os, h.tape, h.output, h.size, h.block⟩

theorem k_write (w W : World) (y sv : Value) (xs : List UInt8) (hW : Below w.heap.size w W) (hs : Own W w.heap.size sv xs) (hl : xs.length + 1 ≤ 1000000) :
    Calls Tryz.prog 280 #[y, sv] W (WritePost w xs [107]) := by
  obtain ⟨i0, hi, hz0, hz1, hz2⟩ := info_parts info_byte
  have hun := Tryz.underlying90
  have hm : xs.length + 1 ≤ maxLen := by unfold maxLen; omega
  go_enter Tryz.func280, Tryz.ntmps280
  go_wp2_with (at_builtin; refine wpList_append_own _ rfl _ _ 90 rfl w.heap.size 5 i0 (.int .u8 0) 1 1 hun hi hz0 hz1 hz2 rfl (by decide) _ _ _ rfl (World.ownsRow.alloc hs _) ⟨W.heap.size, 0, none⟩ 1 1 (bcells [107]) rfl rfl (cell_one_new _ _ _) (by simp [bcells, Value.oneCell']) hm (by omega) (below_alloc hW _).size ?_; intro v1 w1 ho hg _; obtain ⟨hb1, ho1⟩ := own_new hW ho hg hs; clear ho hg)
  go_ret
  exact ⟨_, rfl, hb1, ho1⟩

theorem s_write (w W : World) (y sv : Value) (xs : List UInt8) (hW : Below w.heap.size w W) (hs : Own W w.heap.size sv xs) (hl : xs.length + 1 ≤ 1000000) :
    Calls Tryz.prog 296 #[y, sv] W (WritePost w xs [115]) := by
  obtain ⟨i0, hi, hz0, hz1, hz2⟩ := info_parts info_byte
  have hun := Tryz.underlying90
  have hm : xs.length + 1 ≤ maxLen := by unfold maxLen; omega
  go_enter Tryz.func296, Tryz.ntmps296
  go_wp2_with (at_builtin; refine wpList_append_own _ rfl _ _ 90 rfl w.heap.size 5 i0 (.int .u8 0) 1 1 hun hi hz0 hz1 hz2 rfl (by decide) _ _ _ rfl (World.ownsRow.alloc hs _) ⟨W.heap.size, 0, none⟩ 1 1 (bcells [115]) rfl rfl (cell_one_new _ _ _) (by simp [bcells, Value.oneCell']) hm (by omega) (below_alloc hW _).size ?_; intro v1 w1 ho hg _; obtain ⟨hb1, ho1⟩ := own_new hW ho hg hs; clear ho hg)
  go_ret
  exact ⟨_, rfl, hb1, ho1⟩

theorem n_write (w W : World) (b : Nat) (n : List UInt8) (sv : Value) (xs : List UInt8) (hc : W.cell? ⟨b, 0, none⟩ = some (str n)) (hW : Below w.heap.size w W) (hs : Own W w.heap.size sv xs) (hl : xs.length + n.length ≤ 1000000) :
    Calls Tryz.prog 247 #[.pointer (some ⟨b, 0, none⟩), sv] W (WritePost w xs n) := by
  obtain ⟨i0, hi, hz0, hz1, hz2⟩ := info_parts info_byte
  have hun := Tryz.underlying90
  have hus := Tryz.underlying9
  have hm : xs.length + (⟨n.toArray⟩ : ByteArray).size ≤ maxLen := by unfold maxLen; show xs.length + n.toArray.size ≤ _; simp; omega
  have hm2 : xs.length + (⟨n.toArray⟩ : ByteArray).size ≤ 140737488355328 := by show xs.length + n.toArray.size ≤ _; simp; omega
  have hsz : (⟨n.toArray⟩ : ByteArray).size = n.length := by show n.toArray.size = _; simp
  have HSZ := Lib.hid hsz
  clear hsz
  go_enter Tryz.func247, Tryz.ntmps247
  go_wp2_with (at_builtin; refine Lib.wpList_append_own_string _ rfl _ _ 90 9 rfl w.heap.size 5 i0 hun hus hi hz0 hz1 hz2 _ _ _ rfl hs ⟨n.toArray⟩ rfl hm hm2 hW.size ?_; intro v1 w1 ho hg _; rw [HSZ.out, bcells_str] at ho; obtain ⟨hb1, ho1⟩ := own_new' hW ho hg hs; clear ho hg)
  go_ret
  exact ⟨_, rfl, hb1, ho1⟩

theorem a_write (w W : World) (b : Nat) (T1 T2 : TypeId) (x1 x2 : Value) (f a : Tm) (sv : Value) (xs : List UInt8) (hW : Below w.heap.size w W)
    (h0 : ∀ W, Below w.heap.size w W → W.cell? ⟨b, 0, none⟩ = some (.iface T1 x1)) (h1 : ∀ W, Below w.heap.size w W → W.cell? ⟨b, 1, none⟩ = some (.iface T2 x2))
    (hf : WriteOk w (.iface T1 x1) f) (ha : WriteOk w (.iface T2 x2) a) (hs : Own W w.heap.size sv xs) (hl : xs.length + (f.app a).text.length ≤ 1000000) :
    Calls Tryz.prog 292 #[.pointer (some ⟨b, 0, none⟩), sv] W (WritePost w xs (f.app a).text) := by
  obtain ⟨i0, hi, hz0, hz1, hz2⟩ := info_parts info_byte
  have hun := Tryz.underlying90
  obtain ⟨_, _, g4, z4, e0, k4, l4, d4⟩ := hf
  injection e0 with e1 e2
  subst e1; subst e2
  obtain ⟨_, _, g5, z5, e0, k5, l5, d5⟩ := ha
  injection e0 with e1 e2
  subst e1; subst e2
  simp only [Tm.text, List.length_cons, List.length_append, List.length_nil] at hl
  have m1 : xs.length + 1 ≤ maxLen := by unfold maxLen; omega
  have hnew : Below w.heap.size w ((W.alloc (.cells #[.int .u8 40] 5)).drew) := (below_alloc hW _).drew
  have hone : ∀ u ∈ bcells [40], u.oneCell' = true := by simp [bcells, Value.oneCell']
  have hsz : ((W.alloc (.cells #[.int .u8 40] 5)).drew).heap.size = W.heap.size + 1 := by simp
  go_enter Tryz.func292, Tryz.ntmps292
  go_wp2_with fail
  go_region_held3 (fun W' => Below w.heap.size w W') (first | assumption | exact hW.drew | go_keep)
    (first
      | (refine step_append_lies _ (by rfl) _ _ 90 (by rfl) w.heap.size 5 i0 (.int .u8 0) 1 1 hun hi hz0 hz1 hz2 rfl (by omega) _ _ _ (by rfl) (World.ownsRow.drew (World.ownsRow.alloc hs _)) ⟨W.heap.size, 0, none⟩ 1 1 (bcells [40]) (by rfl) (by rfl) (cell_one_new _ _ _) hone (by omega) m1 (by omega) hnew.size (W.heap.size + 1) hsz ?_; intro g1 q1 w1 ho hg _ _; obtain ⟨hb1, ho1⟩ := own_new hW ho (undrew hg) hs; clear ho hg)
      | (go_at_fn g4; refine (d4 _ (by assumption) _ _ ho1 ?_).mono ?_; (simp; omega); rintro e w2 ⟨v2, rfl, hb2, ho2⟩))
  clear ho1 hb1
  obtain ⟨ys, hys⟩ : ∃ ys, ys = xs ++ [40] ++ f.text := ⟨_, rfl⟩
  rw [← hys] at ho2
  have hyl : ys.length ≤ xs.length + 1 + f.text.length := by rw [hys]; simp; omega
  have HY := Lib.hid hys
  clear hys
  have m2 : ys.length + 1 ≤ maxLen := by unfold maxLen; omega
  have hnew2 : Below w.heap.size w ((w2.alloc (.cells #[.int .u8 32] 5)).drew) := (below_alloc hb2 _).drew
  have hone2 : ∀ u ∈ bcells [32], u.oneCell' = true := by simp [bcells, Value.oneCell']
  have hsz2 : ((w2.alloc (.cells #[.int .u8 32] 5)).drew).heap.size = w2.heap.size + 1 := by simp
  go_wp2_with fail
  go_region_held3 (fun W' => Below w.heap.size w W') (first | assumption | exact hb2.drew | go_keep)
    (first
      | (refine step_append_lies _ (by rfl) _ _ 90 (by rfl) w.heap.size 5 i0 (.int .u8 0) 1 1 hun hi hz0 hz1 hz2 rfl (by omega) _ _ _ (by rfl) (World.ownsRow.drew (World.ownsRow.alloc ho2 _)) ⟨w2.heap.size, 0, none⟩ 1 1 (bcells [32]) (by rfl) (by rfl) (cell_one_new _ _ _) hone2 (by omega) m2 (by omega) hnew2.size (w2.heap.size + 1) hsz2 ?_; intro g3 q3 w3 ho hg _ _; obtain ⟨hb3, ho3⟩ := own_new hb2 ho (undrew hg) ho2; clear ho hg)
      | (go_at_fn g5; refine (d5 _ (by assumption) _ _ ho3 ?_).mono ?_; (simp; omega); rintro e w4 ⟨v4, rfl, hb4, ho4⟩))
  clear ho3 hb3
  obtain ⟨zs, hzs⟩ : ∃ zs, zs = ys ++ [32] ++ a.text := ⟨_, rfl⟩
  rw [← hzs] at ho4
  have hzl : zs.length ≤ ys.length + 1 + a.text.length := by rw [hzs]; simp; omega
  have HZ := Lib.hid hzs
  clear hzs
  have m3 : zs.length + 1 ≤ maxLen := by unfold maxLen; omega
  go_wp2_with (at_builtin; refine wpList_append_own _ rfl _ _ 90 rfl w.heap.size 5 i0 (.int .u8 0) 1 1 hun hi hz0 hz1 hz2 rfl (by decide) _ _ _ rfl (World.ownsRow.alloc ho4 _) ⟨w4.heap.size, 0, none⟩ 1 1 (bcells [41]) rfl rfl (cell_one_new _ _ _) (by simp [bcells, Value.oneCell']) m3 (by omega) (below_alloc hb4 _).size ?_; intro v5 w5 ho hg _; obtain ⟨hb5, ho5⟩ := own_new hb4 ho hg ho4; clear ho hg)
  go_ret
  refine ⟨_, rfl, hb5, ?_⟩
  rw [HZ.out, HY.out] at ho5
  simpa [Tm.text, List.append_assoc] using ho5

theorem TV.writeOk {w : World} {B : Nat} : ∀ {t : Tm} {v : Value}, TV w B t v → WriteOk w v t
  | .k, _, ⟨b, fr, hv, _, h⟩ => ⟨_, _, _, _, hv, fun W _ => (meth_kLetter_write _ W).1, (meth_kLetter_write ⟨b, 0, none⟩ w).2, fun W hW sv xs hs hl => k_write w W _ sv xs hW hs hl⟩
  | .s, _, ⟨b, fr, hv, _, h⟩ => ⟨_, _, _, _, hv, fun W _ => (meth_sLetter_write _ W).1, (meth_sLetter_write ⟨b, 0, none⟩ w).2, fun W hW sv xs hs hl => s_write w W _ sv xs hW hs hl⟩
  | .nm n, _, ⟨b, fr, hv, _, h⟩ => ⟨_, _, _, _, hv, fun W _ => (meth_nameAtom_write _ W).1, (meth_nameAtom_write ⟨b, 0, none⟩ w).2, fun W hW sv xs hs hl => n_write w W b n sv xs (cell_of_heap (heap_later h hW)) hW hs hl⟩
  | .app f a, _, ⟨b, fr, vf, va, hv, _, h, hf, ha⟩ => by
    have sf := TV.writeOk hf
    have sa := TV.writeOk ha
    obtain ⟨T1, x1, rfl, _⟩ := hf.asks
    obtain ⟨T2, x2, rfl, _⟩ := ha.asks
    exact ⟨_, _, _, _, hv, fun W _ => (meth_application_write _ W).1, (meth_application_write ⟨b, 0, none⟩ w).2, fun W hW sv xs hs hl =>
      a_write w W b T1 T2 x1 x2 f a sv xs hW (cell_later' (cell_of_heap (i := 0) h)) (cell_later' (cell_of_heap (i := 1) h)) sf sa hs hl⟩

theorem foldl_push (l : List UInt8) : ∀ s : ByteArray, (l.map fun c => (c.toNat : Int)).foldl (fun r n => r.push (UInt8.ofNat n.toNat)) s = ⟨(s.data.toList ++ l).toArray⟩ := by
  induction l with
  | nil => intro s; simp
  | cons c l ih =>
    intro s
    rw [List.map_cons, List.foldl_cons, ih]
    simp [ByteArray.push]

/-- A string made of the bytes that a slice value owns. -/
theorem run_text {w : World} {base : Nat} {sv : Value} {xs : List UInt8} (hs : Own w base sv xs) (hne : xs ≠ []) : (convert 90 9 sv).run Tryz.prog w = .ok (str xs) w := by
  have hl := hs.1
  rcases hs.2 with ⟨_, h0⟩ | ⟨g, cap, cur, rfl, _, hh, _⟩
  · exact absurd (List.length_eq_zero_iff.1 h0) hne
  · have hc := hs.cells (g := g) rfl
    rw [run_convert_bytes_string w _ _ _ _ _ _ Tryz.underlying90 Tryz.underlying5 Tryz.underlying9]
    rw [run_bytesToString w _ _ _ (xs.map fun c => (c.toNat : Int)) (by
      have := run_loadCells_list (P := Tryz.prog) (w := w) ⟨g, 0, none⟩ (bcells xs) hc
      rw [bcells_len] at this
      rw [show ((xs.map fun c => (c.toNat : Int)).map (Value.int .u8)) = bcells xs by simp [bcells, Function.comp_def]]
      exact this)]
    rw [foldl_push]
    rfl

theorem textOf_any (w : World) (B : Nat) (t : Tm) (v : Value) (h : TV w B t v) (hg : t.good = true) (hl : t.text.length ≤ 1000000) :
    Calls Tryz.prog 88 #[v] w fun e w' => e = .returned (str t.text) ∧ Below w.heap.size w w' := by
  obtain ⟨T1, x1, f1, y1, rfl, m1, n1, c1⟩ := h.writeOk
  have hb0 := Below.refl w.heap.size w
  have ho : Own w w.heap.size (.slice none 0 0) [] := World.ownsRow_nil w w.heap.size _ 1
  go_enter Tryz.func88, Tryz.ntmps88
  go_wp2_with (go_at_fn f1; refine (c1 _ hb0 _ [] ho (by simpa using hl)).mono ?_; rintro e w1 ⟨v1, rfl, hb1, ho1⟩; have hc := run_text ho1 (Tm.text_ne t hg))
  go_ret
  exact ⟨rfl, hb1⟩
end Go.Proofs.YtlpgoelcadmcfaaGreatDoor

namespace Go.Proofs.YtlpgoelcadmcfaaGreatDoor
open Go.RowKit

set_option maxHeartbeats 1000000
set_option maxRecDepth 100000

namespace Tm
def I : Tm := app (app s k) k
def no : Tm := app k I
def pair (m n : Tm) : Tm := app (app s (app (app s I) (app k m))) (app k n)
def num : Nat → Tm
  | 0 => I
  | n + 1 => pair no (num n)
theorem size_pair (m n : Tm) : (pair m n).size = m.size + n.size + 7 := by simp [pair, I, size]; omega
theorem size_num (n : Nat) : (num n).size = 11 * n + 3 := by
  induction n with
  | zero => rfl
  | succ n ih => simp only [num, size_pair, ih]; simp [no, I, size]; omega
theorem good_pair (m n : Tm) : (pair m n).good = (m.good && n.good) := by simp [pair, I, good]
theorem good_num (n : Nat) : (num n).good = true := by
  induction n with
  | zero => rfl
  | succ n ih => simp only [num, good_pair, ih]; rfl
end Tm

def TermPost (w : World) (B : Nat) (t : Tm) (e : Ending) (w' : World) : Prop := ∃ v, e = .returned v ∧ Below w.heap.size w w' ∧ TV w' B t v

theorem foldl_size (f : Tm) (us : List Tm) : (us.foldl Tm.app f).size = f.size + (us.map Tm.size).sum := by
  induction us generalizing f with
  | nil => simp
  | cons u us ih => rw [List.foldl_cons, ih]; simp [Tm.size]; omega

theorem sum_take (ns : List Nat) (k : Nat) : (ns.take k).sum ≤ ns.sum := by
  induction ns generalizing k with
  | nil => simp
  | cons n ns ih => cases k with
    | zero => simp
    | succ k => simp only [List.take_succ_cons, List.sum_cons]; have := ih k; omega

theorem applyAll_any (w : World) (B g : Nat) (f : Tm) (vf : Value) (us : List Tm) (vs : List Value) (fr : Nat × Nat) (hlen : vs.length = us.length) (hh : w.heap[g]? = some (.cells vs.toArray 76 fr))
    (hf : TV w B f vf) (hus : ∀ j (h : j < us.length), TV w B us[j] (vs[j]'(by omega))) (hB : B ≤ w.heap.size) (hz : f.size + (us.map Tm.size).sum ≤ 1000000000) (hn : us.length ≤ 1000000) :
    Calls Tryz.prog 79 #[vf, .slice (some ⟨g, 0, none⟩) us.length us.length] w (TermPost w B (us.foldl Tm.app f)) := by
  have hstart : ∃ k : Nat, Value.int .i64 0 = .int .i64 k ∧ k ≤ us.length ∧ Hid (TV w B ((us.take k).foldl Tm.app f) vf) ∧ Below w.heap.size w w := ⟨0, rfl, Nat.zero_le _, by show TV _ _ _ _; simpa using hf, Below.refl _ _⟩
  have HH := Lib.hid hh
  have HU := Lib.hid hus
  clear hf hus hh
  go_enter Tryz.func79, Tryz.ntmps79
  go_wp2_with fail
  go_loopw [0, 9] (fun v i wr => ∃ k : Nat, i = .int .i64 k ∧ k ≤ us.length ∧ Hid (TV wr B ((us.take k).foldl Tm.app f) v) ∧ Below w.heap.size w wr) (fun _ i _ => us.length - (intOf i).toNat)
  case atStart => exact hstart
  case round =>
    clear hstart
    obtain ⟨k, rfl, hk, ht, hb⟩ := hrel
    by_cases hlt : k < us.length
    · have hcell : ∀ W, Below wr.heap.size wr W → W.cell? ⟨g, k, none⟩ = some (vs[k]'(by omega)) := fun W hW => by
        have h1 : w.cell? ⟨g, k, none⟩ = some (vs[k]'(by omega)) := by
          rw [cell_of_heap HH.out]; simp [show k < vs.length by omega]
        exact cell_later' h1 _ (below_trans hb hW)
      have hu := (HU.out k hlt).below hb
      have hs1 := foldl_size f (us.take k)
      have hs2 : (us[k]).size + ((us.take k).map Tm.size).sum ≤ (us.map Tm.size).sum := by
        have h1 := sum_take (us.map Tm.size) (k + 1)
        rw [List.take_succ_eq_append_getElem (by simpa using hlt)] at h1
        simp only [List.sum_append, List.getElem_map, List.sum_cons, List.sum_nil, ← List.map_take] at h1
        omega
      have hcall := apply_any wr B _ _ _ _ ht.out hu (Nat.le_trans hB hb.size) (by omega)
      have hnext : (us.take (k + 1)).foldl Tm.app f = ((us.take k).foldl Tm.app f).app us[k] := by
        rw [List.take_succ_eq_append_getElem hlt, List.foldl_append]; rfl
      rw [← hnext] at hcall
      have c1 := hcell wr (Below.refl _ _)
      clear hcell hu hs1 hs2 hnext
      generalize vs[k]'(by omega) = vk at c1 hcall
      go_wp2_with fail
      refine hcall.mono ?_
      rintro e w1 ⟨v1, rfl, hb1, ht1⟩
      have HT1 := Lib.hid ht1
      clear ht1
      go_wp2_with fail
      go_roundw
      case rel => exact ⟨k + 1, by go_num, by omega, HT1, below_trans hb hb1⟩
      case measure => simp [intOf]; omega
    · obtain rfl : k = us.length := by omega
      have HT := Lib.hid ht.out
      rw [List.take_length] at HT
      clear ht
      go_wp2_with fail
      go_ret
      exact ⟨_, rfl, hb, HT.out⟩

/-- Several new blocks. -/
def allocL (w : World) : List Obj → World
  | [] => w
  | o :: os => allocL (w.alloc o) os

theorem allocL_below (w : World) (os : List Obj) : Below w.heap.size w (allocL w os) := by
  induction os generalizing w with
  | nil => exact Below.refl _ _
  | cons o os ih => exact below_trans (below_alloc (Below.refl _ _) o) (ih (w.alloc o))

theorem allocL_size (w : World) (os : List Obj) : (allocL w os).heap.size = w.heap.size + os.length := by
  induction os generalizing w with
  | nil => rfl
  | cons o os ih => simp only [allocL, ih, List.length_cons]; simp; omega

theorem allocL_heap (w : World) (os : List Obj) (i : Nat) (h : i < os.length) : (allocL w os).heap[w.heap.size + i]? = some os[i] := by
  induction os generalizing w i with
  | nil => simp at h
  | cons o os ih =>
    cases i with
    | zero =>
      have h1 : (w.alloc o).heap[w.heap.size]? = some o := by show (w.heap.push _)[_]? = _; simp
      exact heap_later h1 (allocL_below (w.alloc o) os)
    | succ i =>
      have := ih (w.alloc o) i (by simpa using h)
      rw [show (w.alloc o).heap.size + i = w.heap.size + (i + 1) by simp; omega] at this
      simpa only [allocL, List.getElem_cons_succ] using this

theorem identity_any (w : World) (B : Nat) (hB : B ≤ w.heap.size) : Calls Tryz.prog 90 #[] w (TermPost w B Tm.I) := by
  obtain ⟨os, hos⟩ : ∃ os : List Obj, os = [.cells #[] 177, .cells #[] 147, .cells #[] 147, .cells #[.iface 145 (.pointer (some ⟨w.heap.size + 1, 0, none⟩)), .iface 145 (.pointer (some ⟨w.heap.size + 1 + 1, 0, none⟩))] 76] := ⟨_, rfl⟩
  have hX : allocL w os = (((w.alloc (.cells #[] 177)).alloc (.cells #[] 147)).alloc (.cells #[] 147)).alloc (.cells #[.iface 145 (.pointer (some ⟨w.heap.size + 1, 0, none⟩)), .iface 145 (.pointer (some ⟨w.heap.size + 1 + 1, 0, none⟩))] 76) := by rw [hos]; rfl
  have hb := allocL_below w os
  have h0 : (allocL w os).heap[w.heap.size]? = some (.cells #[] 177 (0, 0)) := by have := allocL_heap w os 0 (by rw [hos]; simp); simpa [hos] using this
  have h1 : (allocL w os).heap[w.heap.size + 1]? = some (.cells #[] 147 (0, 0)) := by have := allocL_heap w os 1 (by rw [hos]; simp); simpa [hos] using this
  have h2 : (allocL w os).heap[w.heap.size + 1 + 1]? = some (.cells #[] 147 (0, 0)) := by have := allocL_heap w os 2 (by rw [hos]; simp); simpa [hos] using this
  have h3 : (allocL w os).heap[w.heap.size + 1 + 1 + 1]? = some (.cells ([.iface 145 (.pointer (some ⟨w.heap.size + 1, 0, none⟩)), .iface 145 (.pointer (some ⟨w.heap.size + 1 + 1, 0, none⟩))] : List Value).toArray 76 (0, 0)) := by have := allocL_heap w os 3 (by rw [hos]; simp); simpa [hos] using this
  have hcall := applyAll_any (allocL w os) B (w.heap.size + 1 + 1 + 1) .s (.iface 176 (.pointer (some ⟨w.heap.size, 0, none⟩))) [.k, .k] [.iface 145 (.pointer (some ⟨w.heap.size + 1, 0, none⟩)), .iface 145 (.pointer (some ⟨w.heap.size + 1 + 1, 0, none⟩))] (0, 0) rfl h3
    ⟨_, _, rfl, hB, h0⟩ (fun j hj => by
      match j, hj with
      | 0, _ => exact ⟨_, _, rfl, by omega, h1⟩
      | 1, _ => exact ⟨_, _, rfl, by omega, h2⟩) (Nat.le_trans hB hb.size) (by decide) (by decide)
  unfold TermPost at hcall
  rw [hX] at hcall hb
  clear h0 h1 h2 h3 hX hos
  go_enter Tryz.func90, Tryz.ntmps90
  go_wp2_with fail
  refine hcall.mono ?_
  rintro e w1 ⟨v1, rfl, hb1, ht1⟩
  have HT := Lib.hid ht1
  clear ht1 hcall
  go_wp2_with fail
  go_ret
  exact ⟨_, rfl, below_trans hb hb1, HT.out⟩

theorem bit_any (w : World) (B : Nat) (b : Bool) (hB : B ≤ w.heap.size) : Calls Tryz.prog 76 #[.bool b] w (TermPost w B (if b then .k else Tm.no)) := by
  have hk : (w.alloc (.cells #[] 147)).heap[w.heap.size]? = some (.cells #[] 147 (0, 0)) := by show (w.heap.push _)[_]? = _; simp
  have hA : Below w.heap.size w (w.alloc (.cells #[] 147)) := below_alloc (Below.refl _ _) _
  have hI := identity_any (w.alloc (.cells #[] 147)) B (Nat.le_trans hB hA.size)
  unfold TermPost at hI
  have HK := Lib.hid hk
  clear hk
  cases b
  · simp only [Bool.false_eq_true, if_false]
    go_enter Tryz.func76, Tryz.ntmps76
    go_wp2_with fail
    refine hI.mono ?_
    rintro e w1 ⟨v1, rfl, hb1, ht1⟩
    have hcall := apply_any w1 B .k Tm.I (.iface 145 (.pointer (some ⟨w.heap.size, 0, none⟩))) v1 (TV.below (w := w.alloc (.cells #[] 147)) ⟨_, _, rfl, hB, HK.out⟩ hb1) ht1 (Nat.le_trans hB (Nat.le_trans hA.size hb1.size)) (by decide)
    clear ht1 hI
    go_wp2_with fail
    refine hcall.mono ?_
    rintro e w2 ⟨v2, rfl, hb2, ht2⟩
    have HT := Lib.hid ht2
    clear ht2 hcall
    go_wp2_with fail
    go_ret
    exact ⟨_, rfl, below_trans (below_trans hA hb1) hb2, HT.out⟩
  · simp only [if_true]
    go_enter Tryz.func76, Tryz.ntmps76
    go_wp2_with fail
    go_ret
    exact ⟨_, rfl, hA, _, _, rfl, hB, HK.out⟩
end Go.Proofs.YtlpgoelcadmcfaaGreatDoor

namespace Go.Proofs.YtlpgoelcadmcfaaGreatDoor
open Go.RowKit

set_option maxHeartbeats 1000000
set_option maxRecDepth 100000

inductive Bd
  | itself
  | without (t : Tm)
  | atEnd (f : Tm)
  | inside (f a : Bd)

def Bd.term : Bd → Tm
  | .itself => Tm.I
  | .without t => .app .k t
  | .atEnd f => f
  | .inside f a => .app (.app .s f.term) a.term

/-- The value v is this body, its terms in blocks from B on. -/
def BV (w : World) (B : Nat) : Bd → Value → Prop
  | .itself, v => v = .iface 178 (.agg #[])
  | .without t, v => ∃ x, v = .iface 181 (.agg #[x]) ∧ TV w B t x
  | .atEnd t, v => ∃ x, v = .iface 217 (.agg #[x]) ∧ TV w B t x
  | .inside f a, v => ∃ x y, v = .iface 215 (.agg #[x, y]) ∧ BV w B f x ∧ BV w B a y

theorem BV.below {w w' : World} {B : Nat} (hb : Below w.heap.size w w') : ∀ {b : Bd} {v : Value}, BV w B b v → BV w' B b v
  | .itself, _, h => h
  | .without _, _, ⟨x, hv, h⟩ => ⟨x, hv, h.below hb⟩
  | .atEnd _, _, ⟨x, hv, h⟩ => ⟨x, hv, h.below hb⟩
  | .inside _ _, _, ⟨x, y, hv, hf, ha⟩ => ⟨x, y, hv, hf.below hb, ha.below hb⟩

theorem meth_itself (W : World) : (method 420 178 (.agg #[]) "loop.example/realizers/impl.abstract").run Tryz.prog W = .ok (297, .agg #[]) W := by kernel_rfl
theorem meth_without (W : World) (x : Value) : (method 420 181 (.agg #[x]) "loop.example/realizers/impl.abstract").run Tryz.prog W = .ok (298, .agg #[x]) W := by kernel_rfl
theorem meth_atEnd (W : World) (x : Value) : (method 420 217 (.agg #[x]) "loop.example/realizers/impl.abstract").run Tryz.prog W = .ok (299, .agg #[x]) W := by kernel_rfl
theorem meth_inside (W : World) (x y : Value) : (method 420 215 (.agg #[x, y]) "loop.example/realizers/impl.abstract").run Tryz.prog W = .ok (145, .agg #[x, y]) W := by kernel_rfl

def AbsOk (w : World) (B : Nat) (v : Value) (t : Tm) : Prop :=
  ∃ T x f y, v = .iface T x ∧ (∀ W, (method 420 T x "loop.example/realizers/impl.abstract").run Tryz.prog W = .ok (f, y) W) ∧ (∀ args w', (callFunc f args).run Tryz.prog w' = .ok (.enter f args) w') ∧
    ∀ W, Below w.heap.size w W → Calls Tryz.prog f #[y] W (TermPost W B t)

theorem itself_abs (W : World) (B : Nat) (hB : B ≤ W.heap.size) : Calls Tryz.prog 297 #[.agg #[]] W (TermPost W B Tm.I) := by
  have hA := below_alloc (Below.refl W.heap.size W) (.cells #[] 178)
  have hcall := identity_any (W.alloc (.cells #[] 178)) B (Nat.le_trans hB hA.size)
  unfold TermPost at hcall
  go_enter Tryz.func297, Tryz.ntmps297
  go_wp2_with fail
  refine hcall.mono ?_
  rintro e w1 ⟨v1, rfl, hb1, ht1⟩
  have HT := Lib.hid ht1
  clear ht1 hcall
  go_wp2_with fail
  go_ret
  exact ⟨_, rfl, below_trans hA hb1, HT.out⟩

theorem without_abs (W : World) (B : Nat) (t : Tm) (x : Value) (h : TV W B t x) (hB : B ≤ W.heap.size) (hz : t.size ≤ 1000000000) : Calls Tryz.prog 298 #[.agg #[x]] W (TermPost W B (.app .k t)) := by
  obtain ⟨os, hos⟩ : ∃ os : List Obj, os = [.cells #[x] 181, .cells #[] 147] := ⟨_, rfl⟩
  have hX : allocL W os = (W.alloc (.cells #[x] 181)).alloc (.cells #[] 147) := by rw [hos]; rfl
  have hA := allocL_below W os
  have hk : (allocL W os).heap[W.heap.size + 1]? = some (.cells #[] 147 (0, 0)) := by have := allocL_heap W os 1 (by rw [hos]; simp); simpa [hos] using this
  have hcall := apply_any (allocL W os) B .k t (.iface 145 (.pointer (some ⟨W.heap.size + 1, 0, none⟩))) x ⟨_, _, rfl, by omega, hk⟩ (h.below hA) (Nat.le_trans hB hA.size) (by simp only [Tm.size]; omega)
  rw [hX] at hcall hA
  obtain ⟨T, y, rfl, _⟩ := h.asks
  clear hk hX hos h
  go_enter Tryz.func298, Tryz.ntmps298
  go_wp2_with fail
  refine hcall.mono ?_
  rintro e w1 ⟨v1, rfl, hb1, ht1⟩
  have HT := Lib.hid ht1
  clear ht1 hcall
  go_wp2_with fail
  go_ret
  exact ⟨_, rfl, below_trans hA hb1, HT.out⟩

theorem atEnd_abs (W : World) (B : Nat) (t : Tm) (x : Value) (h : TV W B t x) : Calls Tryz.prog 299 #[.agg #[x]] W (TermPost W B t) := by
  have hA := below_alloc (Below.refl W.heap.size W) (.cells #[x] 217)
  have HT := Lib.hid (h.below hA)
  obtain ⟨T, y, rfl, _⟩ := h.asks
  clear h
  go_enter Tryz.func299, Tryz.ntmps299
  go_wp2_with fail
  go_ret
  exact ⟨_, rfl, hA, HT.out⟩

theorem heap_top (W : World) (o : Obj) : (W.alloc o).heap[W.heap.size]? = some o := by show (W.heap.push _)[_]? = _; simp
theorem heap_top2 (W : World) (o p : Obj) : ((W.alloc o).alloc p).heap[W.heap.size + 1]? = some p := by
  have := heap_top (W.alloc o) p
  rwa [show (W.alloc o).heap.size = W.heap.size + 1 by simp] at this
theorem below_new (W : World) (o : Obj) : Below W.heap.size W (W.alloc o) := below_alloc (Below.refl _ _) _
theorem heap_below2 (W : World) (o p : Obj) : ((W.alloc o).alloc p).heap[W.heap.size]? = some o := heap_later (heap_top W o) (below_new (W.alloc o) p)

theorem inside_call (W : World) (B b g : Nat) (f a : Tm) (T3 T4 : TypeId) (x3 x4 : Value) (hs : W.heap[b]? = some (.cells #[] 177 (0, 0))) (hBb : B ≤ b) (hg : W.heap[g]? = some (.cells #[.iface T3 x3, .iface T4 x4] 76 (0, 0)))
    (h1 : TV W B f (.iface T3 x3)) (h2 : TV W B a (.iface T4 x4)) (hz : f.size + a.size ≤ 999999999) :
    Calls Tryz.prog 79 #[.iface 176 (.pointer (some ⟨b, 0, none⟩)), .slice (some ⟨g, 0, none⟩) 2 2] W (TermPost W B (.app (.app .s f) a)) := by
  have hlt := (Array.getElem?_eq_some_iff.1 hs).1
  have hg' : W.heap[g]? = some (.cells ([.iface T3 x3, .iface T4 x4] : List Value).toArray 76 (0, 0)) := hg
  exact applyAll_any _ B g .s _ [f, a] [.iface T3 x3, .iface T4 x4] (0, 0) rfl hg' ⟨_, _, rfl, hBb, hs⟩ (fun j hj => by
    match j, hj with
    | 0, _ => exact h1
    | 1, _ => exact h2) (by omega) (by simp [Tm.size]; omega) (by simp)

theorem inside_abs (W : World) (B : Nat) (f a : Tm) (x y : Value) (hf : AbsOk W B x f) (ha : AbsOk W B y a) (hB : B ≤ W.heap.size) (hz : f.size + a.size ≤ 999999999) : Calls Tryz.prog 145 #[.agg #[x, y]] W (TermPost W B (.app (.app .s f) a)) := by
  obtain ⟨T1, x1, f1, y1, rfl, m1, n1, d1⟩ := hf
  obtain ⟨T2, x2, f2, y2, rfl, m2, n2, d2⟩ := ha
  obtain ⟨X, hX⟩ : ∃ X, X = W.alloc (.cells #[.iface T1 x1, .iface T2 x2] 215) := ⟨_, rfl⟩
  have hWX : Below W.heap.size W X := by rw [hX]; exact below_alloc (Below.refl _ _) _
  have hbox : X.heap[W.heap.size]? = some (.cells #[.iface T1 x1, .iface T2 x2] 215 (0, 0)) := by rw [hX]; show (W.heap.push _)[_]? = _; simp
  have h0 : ∀ W', Below X.heap.size X W' → W'.cell? ⟨W.heap.size, 0, none⟩ = some (.iface T1 x1) := cell_later' (cell_of_heap hbox)
  have h1 : ∀ W', Below X.heap.size X W' → W'.cell? ⟨W.heap.size, 1, none⟩ = some (.iface T2 x2) := cell_later' (cell_of_heap hbox)
  have hself := Below.refl X.heap.size X
  have c1 := fun W' (h : Below X.heap.size X W') => d1 W' (below_trans hWX h)
  have c2 := fun W' (h : Below X.heap.size X W') => d2 W' (below_trans hWX h)
  unfold TermPost at c1 c2
  have HWX := Lib.hid hWX
  have hBX : B ≤ X.heap.size := Nat.le_trans hB hWX.size
  go_enter Tryz.func145, Tryz.ntmps145
  go_wp2_with fail
  rw [← hX]
  clear hbox hWX hX d1 d2
  go_region_held3 (fun W' => Below X.heap.size X W') (first | assumption | exact hself.drew | exact (below_alloc hself _).drew | exact below_alloc (by assumption) _ | go_keep)
    (first
      | (go_at_fn f1; refine (c1 _ (by first | assumption | exact (below_alloc hself _).drew)).mono ?_; rintro e w1 ⟨r1, rfl, hb1, hv1⟩; obtain ⟨T3, x3, rfl, _⟩ := hv1.asks; have HV1 := Lib.hid hv1; clear hv1; have hb1' := below_trans (by first | assumption | exact (below_alloc hself _).drew) hb1)
      | (go_at_fn f2; refine (c2 _ (by assumption)).mono ?_; rintro e w2 ⟨r2, rfl, hb2, hv2⟩; obtain ⟨T4, x4, rfl, _⟩ := hv2.asks; have HV2 := Lib.hid hv2; clear hv2; have hb2' := below_trans (by assumption) hb2)
      | (go_at_call 79
         refine (inside_call _ B _ _ f a T3 T4 x3 x4 ?_ ?_ ?_ ?_ ?_ hz).mono ?_
         · first
             | exact heap_later (heap_later (heap_later (w := (X.alloc (.cells #[] 177)).drew) (heap_top X _) hb1) hb2) (below_new _ _)
             | exact heap_later (heap_later (heap_top w1 _) hb2) (below_new _ _)
             | exact heap_below2 w2 _ _
             | exact heap_top2 w2 _ _
         · have q1 := hb1.size
           have q2 := hb2.size
           try simp at q1
           try simp at q2
           omega
         · first
             | exact heap_top w2 _
             | exact heap_top2 w2 _ _
             | exact heap_below2 w2 _ _
         · first
             | exact HV1.out.below (below_trans hb2 (below_new _ _))
             | exact HV1.out.below (below_trans (below_new w1 _) (below_trans hb2 (below_new _ _)))
             | exact HV1.out.below (below_trans hb2 (below_trans (below_new w2 _) (below_new _ _)))
         · first
             | exact HV2.out.below (below_new w2 _)
             | exact HV2.out.below (below_trans (below_new w2 _) (below_new _ _))
         rintro e w3 ⟨r3, rfl, hb3, hv3⟩
         have HV3 := Lib.hid hv3
         clear hv3
         have hb3' := below_trans (by assumption) hb3))
  all_goals
    go_wp2_with fail
    go_ret
    exact ⟨_, rfl, below_trans HWX.out hb3', HV3.out⟩
end Go.Proofs.YtlpgoelcadmcfaaGreatDoor

namespace Go.Proofs.YtlpgoelcadmcfaaGreatDoor
namespace Tm

theorem parse_facts {l : List UInt8} {t : Tm} (h : parse l = some t) : good t = true ∧ fits t = true ∧ size t ≤ 3000 ∧ depth t ≤ 1500 ∧ t.text.length ≤ 21000 := by
  obtain ⟨_, h2, h3⟩ := parse_iff.1 h
  have h4 := h3
  simp only [fits, Bool.and_eq_true, decide_eq_true_eq] at h4
  have := text_le t h2
  exact ⟨h2, h3, h4.1, h4.2, by omega⟩

def pSize (l : List UInt8) : Int := match parse l with | some t => (size t : Nat) | none => -1
def pNames (l : List UInt8) : Option (List (List UInt8)) := (parse l).map (names [])
def pClosed (l : List UInt8) : Bool := match parse l with | some t => (names [] t).isEmpty | none => false
def pPut (l n b : List UInt8) : Option (List UInt8) := match parse l, parse b with
  | some t, some u => if nameOk n && fits (put t n u) then some (text (put t n u)) else none
  | _, _ => none
def pStep (l : List UInt8) : Option (List UInt8) := match parse l with
  | some t => (stepFit t).map text
  | none => none
def pMany (l : List UInt8) (n : Int) : Option (List UInt8 × Nat) := match parse l with
  | some t => if 0 ≤ n ∧ n ≤ 6000 then some (text (many n.toNat t).1, (many n.toNat t).2) else none
  | none => none
def pNormal (l : List UInt8) : Bool := match parse l with | some t => (step t).isNone | none => false
def pNorm (l : List UInt8) : Option (List UInt8 × Nat) := match parse l with
  | some t => (norm t).map fun p => (text p.1, p.2)
  | none => none
def pApply (l m : List UInt8) : Option (List UInt8) := match parse l, parse m with
  | some t, some u => if fits (app t u) then (norm (app t u)).map fun p => text p.1 else none
  | _, _ => none
def pEqual (l m : List UInt8) : Bool := match pNorm l, pNorm m with
  | some p, some q => decide (p.1 = q.1)
  | _, _ => false

end Tm
end Go.Proofs.YtlpgoelcadmcfaaGreatDoor

namespace Go.Proofs.YtlpgoelcadmcfaaGreatDoor
open Go.RowKit

set_option maxHeartbeats 1000000
set_option maxRecDepth 100000

theorem AbsOk.later {w W : World} {B : Nat} {v : Value} {t : Tm} (h : AbsOk w B v t) (hb : Below w.heap.size w W) : AbsOk W B v t := by
  obtain ⟨T, x, f, y, hv, hm, hc, hd⟩ := h
  exact ⟨T, x, f, y, hv, hm, hc, fun W' hW' => hd W' (below_trans hb hW')⟩

theorem BV.absOk {w : World} {B : Nat} (hB : B ≤ w.heap.size) : ∀ {b : Bd} {v : Value}, BV w B b v → b.term.size ≤ 999999999 → AbsOk w B v b.term
  | .itself, _, h, _ => ⟨_, _, _, _, h, meth_itself, fun _ _ => by kernel_rfl, fun W hW => itself_abs W B (Nat.le_trans hB hW.size)⟩
  | .without t, _, ⟨x, hv, h⟩, hz => ⟨_, _, _, _, hv, fun W => meth_without W x, fun _ _ => by kernel_rfl, fun W hW => without_abs W B t x (h.below hW) (Nat.le_trans hB hW.size) (by simp only [Bd.term, Tm.size] at hz; omega)⟩
  | .atEnd t, _, ⟨x, hv, h⟩, hz => ⟨_, _, _, _, hv, fun W => meth_atEnd W x, fun _ _ => by kernel_rfl, fun W hW => atEnd_abs W B t x (h.below hW)⟩
  | .inside f a, _, ⟨x, y, hv, hf, ha⟩, hz => by
    simp only [Bd.term, Tm.size] at hz
    have sf := BV.absOk hB hf (by omega)
    have sa := BV.absOk hB ha (by omega)
    exact ⟨_, _, _, _, hv, fun W => meth_inside W x y, fun _ _ => by kernel_rfl, fun W hW => inside_abs W B _ _ x y (sf.later hW) (sa.later hW) (Nat.le_trans hB hW.size) (by omega)⟩

theorem pair_any (w : World) (B : Nat) (m n : Tm) (v1 v2 : Value) (h1 : TV w B m v1) (h2 : TV w B n v2) (hB : B ≤ w.heap.size) (hz : m.size + n.size ≤ 100000000) :
    Calls Tryz.prog 119 #[v1, v2] w (TermPost w B (Tm.pair m n)) := by
  have hx := BV.absOk (b := .inside .itself (.without m)) (v := .iface 215 (.agg #[.iface 178 (.agg #[]), .iface 181 (.agg #[v1])])) hB ⟨_, _, rfl, rfl, _, rfl, h1⟩ (by simp [Bd.term, Tm.I, Tm.size]; omega)
  have hy := BV.absOk (b := .without n) (v := .iface 181 (.agg #[v2])) hB ⟨_, rfl, h2⟩ (by simp [Bd.term, Tm.size]; omega)
  have hcall := inside_abs w B _ _ _ _ hx hy hB (by simp [Bd.term, Tm.I, Tm.size]; omega)
  obtain ⟨T1, x1, rfl, _⟩ := h1.asks
  obtain ⟨T2, x2, rfl, _⟩ := h2.asks
  have hfin : (Tm.app (.app .s (Bd.term (.inside .itself (.without m)))) (Bd.term (.without n))) = Tm.pair m n := rfl
  rw [hfin] at hcall
  unfold TermPost at hcall
  clear hx hy h1 h2 hfin
  go_enter Tryz.func119, Tryz.ntmps119
  go_wp2_with fail
  refine hcall.mono ?_
  rintro e w1 ⟨v3, rfl, hb1, ht1⟩
  have HT := Lib.hid ht1
  clear ht1 hcall
  go_wp2_with fail
  go_ret
  exact ⟨_, rfl, hb1, HT.out⟩

theorem numeral_any (w : World) (B n : Nat) (hB : B ≤ w.heap.size) (hn : n ≤ 1000000) :
    Calls Tryz.prog 108 #[.int .i64 n] w (TermPost w B (Tm.num n)) := by
  have hI := identity_any w B hB
  unfold TermPost at hI
  go_enter Tryz.func108, Tryz.ntmps108
  go_wp2_with fail
  refine hI.mono ?_
  rintro e w1 ⟨v1, rfl, hb1, ht1⟩
  have hstart : Hid (TV w1 B (Tm.num 0) v1) := ht1
  clear ht1 hI
  go_wp2_with fail
  go_loopw [3, 6] (fun v i wr => ∃ k : Nat, i = .int .i64 k ∧ k ≤ n ∧ Hid (TV wr B (Tm.num k) v) ∧ Below w.heap.size w wr) (fun _ i _ => n - (intOf i).toNat)
  case atStart => exact ⟨0, rfl, Nat.zero_le _, hstart, hb1⟩
  case round =>
    clear hstart
    obtain ⟨k, rfl, hk, ht, hb⟩ := hrel
    by_cases hlt : k < n
    · have hbit := bit_any wr B false (Nat.le_trans hB hb.size)
      unfold TermPost at hbit
      simp only [Bool.false_eq_true, if_false] at hbit
      go_wp2_with fail
      refine hbit.mono ?_
      rintro e w2 ⟨v2, rfl, hb2, ht2⟩
      have hz := Tm.size_num k
      have hcall := pair_any w2 B Tm.no (Tm.num k) v2 _ ht2 (ht.out.below hb2) (Nat.le_trans hB (below_trans hb hb2).size) (by rw [hz]; simp [Tm.no, Tm.I, Tm.size]; omega)
      rw [show Tm.pair Tm.no (Tm.num k) = Tm.num (k + 1) from rfl] at hcall
      unfold TermPost at hcall
      clear ht2 hbit hz
      go_wp2_with fail
      refine hcall.mono ?_
      rintro e w3 ⟨v3, rfl, hb3, ht3⟩
      have HT3 := Lib.hid ht3
      clear ht3 hcall
      go_wp2_with fail
      go_roundw
      case rel => exact ⟨k + 1, by go_num, by omega, HT3, below_trans (below_trans hb hb2) hb3⟩
      case measure => simp [intOf]; omega
    · obtain rfl : k = n := by omega
      go_wp2_with fail
      go_ret
      exact ⟨_, rfl, hb, ht.out⟩

/-- What NumberOf answers. -/
def pNumber (n : Int) : Option (List UInt8) := if 0 ≤ n ∧ n ≤ 60 then some (Tm.num n.toNat).text else none

def NumOne (w : World) (r : Option (List UInt8)) (e : Ending) (w' : World) : Prop :=
  e = .returned (.tuple #[str (r.getD []), .bool r.isSome]) ∧ Below w.heap.size w w'

end Go.Proofs.YtlpgoelcadmcfaaGreatDoor

namespace Go.Proofs.YtlpgoelcadmcfaaGreatDoor
open Go.RowKit

set_option maxHeartbeats 400000
set_option maxRecDepth 100000

theorem TV.grown {w w' : World} {b : Nat} {t : Tm} {v : Value} (h : TV w (b + 1) t v) (hg : w.grownBy w' (some b)) : TV w' (b + 1) t v :=
  h.same fun k hk hl => hg.block k hl (fun e => by injection e with e; omega)

theorem size_le_text (t : Tm) (h : t.good = true) : t.size ≤ t.text.length := by
  induction t with
  | nm n => simp only [Tm.good] at h; cases n with
    | nil => simp [Tm.nameOk] at h
    | cons c ds => simp [Tm.size, Tm.text]
  | app f a ihf iha => simp only [Tm.good, Bool.and_eq_true] at h; have := ihf h.1; have := iha h.2; simp [Tm.size, Tm.text]; omega
  | _ => simp [Tm.size, Tm.text]

theorem reads_size {l : List UInt8} {d i j : Nat} {t : Tm} (h : Tm.Reads l d i t j) : t.size ≤ l.length ∧ j ≤ l.length := by
  obtain ⟨h1, h2, h3, h4, h5⟩ := h
  have := size_le_text t h4
  have e := congrArg List.length h1
  simp at e
  omega

def ParsePost (w : World) (B : Nat) (l : List UInt8) (e : Ending) (w' : World) : Prop :=
  ∃ v, e = .returned (.tuple #[v, .bool (Tm.parse l).isSome]) ∧ Below w.heap.size w w' ∧ ∀ t, Tm.parse l = some t → TV w' B t v

theorem ParsePost.no {w w' : World} {B : Nat} {l : List UInt8} (hr : Tm.parse l = none) (hg : Below w.heap.size w w') (v : Value) : ParsePost w B l (.returned (.tuple #[v, .bool false])) w' :=
  ⟨v, by rw [hr]; rfl, hg, fun t he => by rw [hr] at he; simp at he⟩

theorem below_grown {w w' : World} {o : Obj} (hg : (w.alloc o).grownBy w' (some w.heap.size)) : Below w.heap.size w w' :=
  ((Below.refl _ _).alloc (Nat.le_refl _) o).grown hg (by simp) (fun k hk => by injection hk with hk; omega)

theorem below_drews {n : Nat} {a b : World} (h : Below n a b) (m : Nat) : Below n a (b.drewN m) := ⟨h.os, h.tape, h.output, h.size, h.block⟩

end Go.Proofs.YtlpgoelcadmcfaaGreatDoor

namespace Go.Proofs.YtlpgoelcadmcfaaGreatDoor
open Go.RowKit

set_option maxHeartbeats 1000000
set_option maxRecDepth 100000

namespace Tm
def behind (F : List UInt8) : Tm → Option Tm
  | app f a => if text f = F then some a else none
  | _ => none
def parts : Tm → Option (Tm × Tm)
  | app x y => match behind [107] y with
    | none => none
    | some n => match behind [115] x with
      | none => none
      | some left => match behind [40, 115, 32, 40, 40, 115, 32, 107, 41, 32, 107, 41, 41] left with
        | none => none
        | some front => match behind [107] front with
          | none => none
          | some m => some (m, n)
  | _ => none
theorem behind_good {F : List UInt8} {t a : Tm} (h : behind F t = some a) (hg : good t = true) : good a = true ∧ a.size < t.size := by
  cases t with
  | app f b =>
    simp only [behind] at h
    split at h
    · obtain rfl := Option.some.inj h
      simp only [good, Bool.and_eq_true] at hg
      exact ⟨hg.2, by simp only [size]; have := size_pos f; omega⟩
    · simp at h
  | _ => simp [behind] at h
end Tm

def BehindPost (w : World) (B : Nat) (r : Option Tm) (e : Ending) (w' : World) : Prop :=
  ∃ v, e = .returned (.tuple #[v, .bool r.isSome]) ∧ Below w.heap.size w w' ∧ ∀ a, r = some a → TV w' B a v

theorem assert_app (W : World) (x : Value) : (Instr.typeAssert (.iface 173 x) 76 173 true).run Tryz.prog W = .ok (.tuple #[x, .bool true]) W := by kernel_rfl
theorem assert_k (W : World) (x : Value) : (Instr.typeAssert (.iface 145 x) 76 173 true).run Tryz.prog W = .ok (.tuple #[.pointer none, .bool false]) W := by kernel_rfl
theorem assert_s (W : World) (x : Value) : (Instr.typeAssert (.iface 176 x) 76 173 true).run Tryz.prog W = .ok (.tuple #[.pointer none, .bool false]) W := by kernel_rfl
theorem assert_n (W : World) (x : Value) : (Instr.typeAssert (.iface 123 x) 76 173 true).run Tryz.prog W = .ok (.tuple #[.pointer none, .bool false]) W := by kernel_rfl

theorem behind_leaf (w : World) (B : Nat) (F : List UInt8) (T : TypeId) (b : Nat) (hT : T = 145 ∨ T = 176 ∨ T = 123) :
    Calls Tryz.prog 157 #[str F, .iface T (.pointer (some ⟨b, 0, none⟩))] w (BehindPost w B none) := by
  have ha1 := assert_k w (.pointer (some ⟨b, 0, none⟩))
  have ha2 := assert_s w (.pointer (some ⟨b, 0, none⟩))
  have ha3 := assert_n w (.pointer (some ⟨b, 0, none⟩))
  rcases hT with rfl | rfl | rfl
  all_goals
    go_enter Tryz.func157, Tryz.ntmps157
    go_wp2_with fail
    go_ret2
    exact ⟨_, rfl, Below.refl _ _, fun a h => by cases h⟩

theorem behind_any (w : World) (B : Nat) (F : List UInt8) (t : Tm) (v : Value) (h : TV w B t v) (hg : t.good = true) (hz : t.size ≤ 3000) :
    Calls Tryz.prog 157 #[str F, v] w (BehindPost w B (t.behind F)) := by
  cases t with
  | k => obtain ⟨b, fr, rfl, _⟩ := h; exact behind_leaf w B F _ b (Or.inl rfl)
  | s => obtain ⟨b, fr, rfl, _⟩ := h; exact behind_leaf w B F _ b (Or.inr (Or.inl rfl))
  | nm n => obtain ⟨b, fr, rfl, _⟩ := h; exact behind_leaf w B F _ b (Or.inr (Or.inr rfl))
  | app f a =>
    obtain ⟨b, fr, vf, va, rfl, hb, hh, hf, ha⟩ := h
    simp only [Tm.good, Bool.and_eq_true] at hg
    simp only [Tm.size] at hz
    have has := assert_app w (.pointer (some ⟨b, 0, none⟩))
    have htl := Tm.text_le f hg.1
    have hd := Tm.depth_lt f
    have htext := textOf_any w B f vf hf hg.1 (by omega)
    have HA := Lib.hid ha
    obtain ⟨T1, x1, rfl, _⟩ := hf.asks
    obtain ⟨T2, x2, rfl, _⟩ := ha.asks
    have c0 : w.cell? ⟨b, 0, none⟩ = some (.iface T1 x1) := cell_of_heap hh
    have hc1 := cell_later' (cell_of_heap (i := 1) hh)
    have HC1 : Hid (∀ W, Below w.heap.size w W → W.cell? ⟨b, 1, none⟩ = some (.iface T2 x2)) := Lib.hid hc1
    obtain ⟨q, hq⟩ : ∃ q, q = (f.text == F) := ⟨_, rfl⟩
    have hr : (Tm.app f a).behind F = if q = true then some a else none := by
      simp only [Tm.behind, hq, beq_iff_eq]
    rw [hr]
    generalize f.text = x at htext hq
    have hq' : (x == F) = q := hq.symm
    clear hh hf ha hc1 hr hq
    cases q
    · simp only [Bool.false_eq_true, if_false]
      go_enter Tryz.func157, Tryz.ntmps157
      go_wp2_with (go_at_call 88; refine htext.mono ?_; rintro e w1 ⟨rfl, hb1⟩)
      go_ret2
      exact ⟨_, rfl, hb1, fun a h => by cases h⟩
    · simp only [if_true]
      simp only [beq_iff_eq] at hq'
      subst hq'
      go_enter Tryz.func157, Tryz.ntmps157
      go_wp2_with fail
      refine htext.mono ?_
      rintro e w1 ⟨rfl, hb1⟩
      have c1 := HC1.out w1 hb1
      go_wp2_with fail
      go_ret2
      exact ⟨_, rfl, hb1, fun a' h => by obtain rfl := Option.some.inj h; exact HA.out.below hb1⟩

def PartsPost (w : World) (B : Nat) (r : Option (Tm × Tm)) (e : Ending) (w' : World) : Prop :=
  ∃ v1 v2, e = .returned (.tuple #[v1, v2, .bool r.isSome]) ∧ Below w.heap.size w w' ∧ ∀ m n, r = some (m, n) → TV w' B m v1 ∧ TV w' B n v2

theorem parts_leaf (w : World) (B : Nat) (T : TypeId) (b : Nat) (hT : T = 145 ∨ T = 176 ∨ T = 123) :
    Calls Tryz.prog 141 #[.iface T (.pointer (some ⟨b, 0, none⟩))] w (PartsPost w B none) := by
  have ha1 := assert_k w (.pointer (some ⟨b, 0, none⟩))
  have ha2 := assert_s w (.pointer (some ⟨b, 0, none⟩))
  have ha3 := assert_n w (.pointer (some ⟨b, 0, none⟩))
  rcases hT with rfl | rfl | rfl
  all_goals
    go_enter Tryz.func141, Tryz.ntmps141
    go_wp2_with fail
    go_ret3
    exact ⟨_, _, rfl, Below.refl _ _, fun m n h => by cases h⟩

theorem parts_any (w : World) (B : Nat) (t : Tm) (v : Value) (h : TV w B t v) (hg : t.good = true) (hz : t.size ≤ 3000) :
    Calls Tryz.prog 141 #[v] w (PartsPost w B t.parts) := by
  cases t with
  | k => obtain ⟨b, fr, rfl, _⟩ := h; exact parts_leaf w B _ b (Or.inl rfl)
  | s => obtain ⟨b, fr, rfl, _⟩ := h; exact parts_leaf w B _ b (Or.inr (Or.inl rfl))
  | nm n => obtain ⟨b, fr, rfl, _⟩ := h; exact parts_leaf w B _ b (Or.inr (Or.inr rfl))
  | app x y =>
    obtain ⟨b, fr, vf, va, rfl, hb, hh, hf, ha⟩ := h
    have hg' := hg
    simp only [Tm.good, Bool.and_eq_true] at hg
    simp only [Tm.size] at hz
    have has := assert_app w (.pointer (some ⟨b, 0, none⟩))
    obtain ⟨T1, x1, rfl, _⟩ := hf.asks
    obtain ⟨T2, x2, rfl, _⟩ := ha.asks
    have c1 : w.cell? ⟨b, 1, none⟩ = some (.iface T2 x2) := cell_of_heap hh
    have HC0 : Hid (∀ W, Below w.heap.size w W → W.cell? ⟨b, 0, none⟩ = some (.iface T1 x1)) := Lib.hid (cell_later' (cell_of_heap (i := 0) hh))
    have b1 := behind_any w B [107] y _ ha hg.2 (by omega)
    have b2 := fun W (hW : Below w.heap.size w W) => behind_any W B [115] x _ (hf.below hW) hg.1 (by omega)
    have g1 := fun a h => Tm.behind_good (F := [107]) (t := y) (a := a) h hg.2
    have g2 := fun a h => Tm.behind_good (F := [115]) (t := x) (a := a) h hg.1
    unfold BehindPost at b1 b2
    clear hh hf ha
    cases e1 : Tm.behind [107] y with
    | none =>
      rw [show (Tm.app x y).parts = none by simp only [Tm.parts, e1]]
      rw [e1] at b1
      clear b2 g1 g2 e1
      go_enter Tryz.func141, Tryz.ntmps141
      go_wp2_with (go_at_call 157; refine b1.mono ?_; rintro e w1 ⟨v1, rfl, hb1, hv1⟩; clear hv1)
      go_ret3
      exact ⟨_, _, rfl, hb1, fun m n h => by cases h⟩
    | some n =>
      rw [e1] at b1
      cases e2 : Tm.behind [115] x with
      | none =>
        rw [show (Tm.app x y).parts = none by simp only [Tm.parts, e1, e2]]
        rw [e2] at b2
        clear g1 g2 e1 e2
        go_enter Tryz.func141, Tryz.ntmps141
        go_wp2_with fail
        refine b1.mono ?_
        rintro e w1 ⟨v1, rfl, hb1, hv1⟩
        have c0 := HC0.out w1 hb1
        have b2' := b2 w1 hb1
        clear hv1 b1 b2
        go_wp2_with (go_at_call 157; refine b2'.mono ?_; rintro e w2 ⟨v2, rfl, hb2, hv2⟩; clear hv2)
        go_ret3
        exact ⟨_, _, rfl, below_trans hb1 hb2, fun m n h => by cases h⟩
      | some left =>
        rw [e2] at b2
        obtain ⟨hgl, hzl⟩ := g2 left e2
        have b3 := fun W v (hv : TV W B left v) => behind_any W B [40, 115, 32, 40, 40, 115, 32, 107, 41, 32, 107, 41, 41] left v hv hgl (by omega)
        have g3 := fun a h => Tm.behind_good (F := [40, 115, 32, 40, 40, 115, 32, 107, 41, 32, 107, 41, 41]) (t := left) (a := a) h hgl
        unfold BehindPost at b3
        cases e3 : Tm.behind [40, 115, 32, 40, 40, 115, 32, 107, 41, 32, 107, 41, 41] left with
        | none =>
          rw [show (Tm.app x y).parts = none by simp only [Tm.parts, e1, e2, e3]]
          rw [e3] at b3
          clear g1 g2 g3 e1 e2 e3
          go_enter Tryz.func141, Tryz.ntmps141
          go_wp2_with fail
          refine b1.mono ?_
          rintro e w1 ⟨v1, rfl, hb1, hv1⟩
          have c0 := HC0.out w1 hb1
          have b2' := b2 w1 hb1
          clear hv1 b1 b2
          go_wp2_with fail
          refine b2'.mono ?_
          rintro e w2 ⟨v2, rfl, hb2, hv2⟩
          have b3' := b3 w2 v2 (hv2 left rfl)
          clear hv2 b2' b3
          go_wp2_with (go_at_call 157; refine b3'.mono ?_; rintro e w3 ⟨v3, rfl, hb3, hv3⟩; clear hv3)
          go_ret3
          exact ⟨_, _, rfl, below_trans (below_trans hb1 hb2) hb3, fun m n h => by cases h⟩
        | some front =>
          rw [e3] at b3
          obtain ⟨hgf, hzf⟩ := g3 front e3
          have b4 := fun W v (hv : TV W B front v) => behind_any W B [107] front v hv hgf (by omega)
          unfold BehindPost at b4
          have hfin : (Tm.app x y).parts = (Tm.behind [107] front).map fun m => (m, n) := by simp only [Tm.parts, e1, e2, e3]; cases Tm.behind [107] front <;> rfl
          rw [hfin]
          generalize Tm.behind [107] front = r at b4 ⊢
          clear g1 g2 g3 e1 e2 e3 hfin
          cases r
          all_goals
            go_enter Tryz.func141, Tryz.ntmps141
            go_wp2_with fail
            refine b1.mono ?_
            rintro e w1 ⟨v1, rfl, hb1, hv1⟩
            have c0 := HC0.out w1 hb1
            have b2' := b2 w1 hb1
            have HV1 := Lib.hid (hv1 n rfl)
            clear hv1 b1 b2
            go_wp2_with fail
            refine b2'.mono ?_
            rintro e w2 ⟨v2, rfl, hb2, hv2⟩
            have b3' := b3 w2 v2 (hv2 left rfl)
            clear hv2 b2' b3
            go_wp2_with fail
            refine b3'.mono ?_
            rintro e w3 ⟨v3, rfl, hb3, hv3⟩
            have b4' := b4 w3 v3 (hv3 front rfl)
            clear hv3 b3' b4
            go_wp2_with (go_at_call 157; refine b4'.mono ?_; rintro e w4 ⟨v4, rfl, hb4, hv4⟩; have HV4 := Lib.hid hv4; clear hv4)
            go_ret3
            refine ⟨_, _, rfl, below_trans (below_trans hb1 hb2) (below_trans hb3 hb4), fun m' n' h => ?_⟩
            first
              | (cases h; done)
              | (obtain ⟨rfl, rfl⟩ : _ = m' ∧ n = n' := by simpa using h
                 exact ⟨HV4.out _ rfl, HV1.out.below (below_trans hb2 (below_trans hb3 hb4))⟩)

/-- What PairParts answers. -/
def pParts (l : List UInt8) : Option (List UInt8 × List UInt8) := match Tm.parse l with
  | some t => t.parts.map fun p => (p.1.text, p.2.text)
  | none => none

def TwoRes (w : World) (r : Option (List UInt8 × List UInt8)) (e : Ending) (w' : World) : Prop :=
  e = .returned (.tuple #[str ((r.map Prod.fst).getD []), str ((r.map Prod.snd).getD []), .bool r.isSome]) ∧ Below w.heap.size w w'

theorem parts_good {t m n : Tm} (h : t.parts = some (m, n)) (hg : t.good = true) : m.good = true ∧ n.good = true ∧ m.size < t.size ∧ n.size < t.size := by
  cases t with
  | app x y =>
    simp only [Tm.good, Bool.and_eq_true] at hg
    simp only [Tm.parts] at h
    split at h
    · simp at h
    · rename_i n' e1
      split at h
      · simp at h
      · rename_i left e2
        split at h
        · simp at h
        · rename_i front e3
          split at h
          · simp at h
          · rename_i m' e4
            simp only [Option.some.injEq, Prod.mk.injEq] at h
            obtain ⟨rfl, rfl⟩ := h
            have g1 := Tm.behind_good e1 hg.2
            have g2 := Tm.behind_good e2 hg.1
            have g3 := Tm.behind_good e3 g2.1
            have g4 := Tm.behind_good e4 g3.1
            simp only [Tm.size]
            exact ⟨g4.1, g1.1, by omega, by omega⟩
  | _ => simp [Tm.parts] at h

end Go.Proofs.YtlpgoelcadmcfaaGreatDoor

namespace Go.Proofs.YtlpgoelcadmcfaaGreatDoor
open Go.RowKit

set_option maxHeartbeats 2000000
set_option maxRecDepth 100000

def Bd.comb (f a : Tm) : Bd → Bd → Bd
  | .without _, .without _ => .without (.app f a)
  | .without _, .itself => .atEnd f
  | b1, b2 => .inside b1 b2
def Bd.of (x : List UInt8) : Tm → Bd
  | .nm n => if n = x then .itself else .without (.nm n)
  | .app f a => Bd.comb f a (Bd.of x f) (Bd.of x a)
  | t => .without t

def BodyPost (w : World) (B : Nat) (b : Bd) (e : Ending) (w' : World) : Prop := ∃ v, e = .returned v ∧ Below w.heap.size w w' ∧ BV w' B b v

theorem BV.form {w : World} {B : Nat} {b : Bd} {v : Value} (h : BV w B b v) : ∃ T x, v = .iface T x := by
  cases b with
  | itself => exact ⟨_, _, h⟩
  | without t => obtain ⟨x, rfl, _⟩ := h; exact ⟨_, _, rfl⟩
  | atEnd t => obtain ⟨x, rfl, _⟩ := h; exact ⟨_, _, rfl⟩
  | inside f a => obtain ⟨x, y, rfl, _⟩ := h; exact ⟨_, _, rfl⟩

theorem assert_nm_n (W : World) (x : Value) : (Instr.typeAssert (.iface 123 x) 76 123 true).run Tryz.prog W = .ok (.tuple #[x, .bool true]) W := by kernel_rfl
theorem assert_nm_k (W : World) (x : Value) : (Instr.typeAssert (.iface 145 x) 76 123 true).run Tryz.prog W = .ok (.tuple #[.pointer none, .bool false]) W := by kernel_rfl
theorem assert_nm_s (W : World) (x : Value) : (Instr.typeAssert (.iface 176 x) 76 123 true).run Tryz.prog W = .ok (.tuple #[.pointer none, .bool false]) W := by kernel_rfl
theorem assert_nm_a (W : World) (x : Value) : (Instr.typeAssert (.iface 173 x) 76 123 true).run Tryz.prog W = .ok (.tuple #[.pointer none, .bool false]) W := by kernel_rfl
theorem assert_wo_w (W : World) (x : Value) : (Instr.typeAssert (.iface 181 (.agg #[x])) 151 181 true).run Tryz.prog W = .ok (.tuple #[.agg #[x], .bool true]) W := by kernel_rfl
theorem assert_wo_i (W : World) (x : Value) : (Instr.typeAssert (.iface 178 x) 151 181 true).run Tryz.prog W = .ok (.tuple #[.agg #[.nilIface], .bool false]) W := by kernel_rfl
theorem assert_wo_e (W : World) (x : Value) : (Instr.typeAssert (.iface 217 x) 151 181 true).run Tryz.prog W = .ok (.tuple #[.agg #[.nilIface], .bool false]) W := by kernel_rfl
theorem assert_wo_s (W : World) (x : Value) : (Instr.typeAssert (.iface 215 x) 151 181 true).run Tryz.prog W = .ok (.tuple #[.agg #[.nilIface], .bool false]) W := by kernel_rfl
theorem assert_it_i (W : World) : (Instr.typeAssert (.iface 178 (.agg #[])) 151 178 true).run Tryz.prog W = .ok (.tuple #[.agg #[], .bool true]) W := by kernel_rfl
theorem assert_it_e (W : World) (x : Value) : (Instr.typeAssert (.iface 217 x) 151 178 true).run Tryz.prog W = .ok (.tuple #[.agg #[], .bool false]) W := by kernel_rfl
theorem assert_it_s (W : World) (x : Value) : (Instr.typeAssert (.iface 215 x) 151 178 true).run Tryz.prog W = .ok (.tuple #[.agg #[], .bool false]) W := by kernel_rfl

theorem body_leaf (w : World) (B : Nat) (x : List UInt8) (T : TypeId) (b : Nat) (t : Tm) (hT : T = 145 ∨ T = 176) (h : TV w B t (.iface T (.pointer (some ⟨b, 0, none⟩)))) :
    Calls Tryz.prog 91 #[.iface T (.pointer (some ⟨b, 0, none⟩)), str x] w (BodyPost w B (.without t)) := by
  have HT := Lib.hid h
  clear h
  have ha1 := assert_k w (.pointer (some ⟨b, 0, none⟩))
  have ha2 := assert_s w (.pointer (some ⟨b, 0, none⟩))
  have ha3 := assert_nm_k w (.pointer (some ⟨b, 0, none⟩))
  have ha4 := assert_nm_s w (.pointer (some ⟨b, 0, none⟩))
  rcases hT with rfl | rfl
  all_goals
    go_enter Tryz.func91, Tryz.ntmps91
    go_wp2_with fail
    go_ret
    exact ⟨_, rfl, Below.refl _ _, _, rfl, HT.out⟩

theorem body_name (w : World) (B : Nat) (x n : List UInt8) (b : Nat) (h : TV w B (.nm n) (.iface 123 (.pointer (some ⟨b, 0, none⟩)))) :
    Calls Tryz.prog 91 #[.iface 123 (.pointer (some ⟨b, 0, none⟩)), str x] w (BodyPost w B (Bd.of x (.nm n))) := by
  have HT := Lib.hid h
  obtain ⟨b', fr, hv, hb, hh⟩ := h
  injection hv with _ hv
  injection hv with hv
  injection hv with hv
  injection hv with hv _ _
  subst hv
  have c0 : w.cell? ⟨b, 0, none⟩ = some (str n) := cell_of_heap hh
  have ha1 := assert_nm_n w (.pointer (some ⟨b, 0, none⟩))
  have ha2 := assert_n w (.pointer (some ⟨b, 0, none⟩))
  clear hh
  by_cases hn : n = x
  · subst hn
    rw [show Bd.of n (.nm n) = .itself by simp [Bd.of]]
    go_enter Tryz.func91, Tryz.ntmps91
    go_wp2_with fail
    go_ret
    exact ⟨_, rfl, Below.refl _ _, rfl⟩
  · have hne : (n == x) = false := beq_eq_false_iff_ne.2 hn
    rw [show Bd.of x (.nm n) = .without (.nm n) by simp [Bd.of, hn]]
    clear hn
    go_enter Tryz.func91, Tryz.ntmps91
    go_wp2_with fail
    go_ret
    exact ⟨_, rfl, Below.refl _ _, _, rfl, HT.out⟩

/-- What is known when the parts of an application are looked at. -/
theorem body_parts (W : World) (B b : Nat) (x : List UInt8) (f a : Tm) (b1 b2 : Bd) (T1 T2 : TypeId) (x1 x2 : Value) (hT : TV W B (.app f a) (.iface 173 (.pointer (some ⟨b, 0, none⟩)))) (hTf : TV W B f (.iface T1 x1))
    (h0 : ∀ W', Below W.heap.size W W' → W'.cell? ⟨b, 0, none⟩ = some (.iface T1 x1)) (h1 : ∀ W', Below W.heap.size W W' → W'.cell? ⟨b, 1, none⟩ = some (.iface T2 x2))
    (hf : ∀ W', Below W.heap.size W W' → Calls Tryz.prog 91 #[.iface T1 x1, str x] W' (BodyPost W' B b1))
    (ha : ∀ W', Below W.heap.size W W' → Calls Tryz.prog 91 #[.iface T2 x2, str x] W' (BodyPost W' B b2)) :
    Calls Tryz.prog 107 #[.pointer (some ⟨b, 0, none⟩), str x] W (BodyPost W B (Bd.comb f a b1 b2)) := by
  have hself := Below.refl W.heap.size W
  have HT := Lib.hid hT
  have HTF := Lib.hid hTf
  clear hT hTf
  unfold BodyPost at hf ha
  cases b1 with
  | itself =>
    rw [show Bd.comb f a .itself b2 = .inside .itself b2 by cases b2 <;> rfl]
    go_enter Tryz.func107, Tryz.ntmps107
    go_wp2_with fail
    go_region_held3 (fun W' => Below W.heap.size W W') (first | assumption | exact hself.drew | go_keep)
      (first
        | (go_at_call_of 91 x1; refine (hf _ (by first | assumption | exact hself.drew)).mono ?_; rintro e w1 ⟨r1, rfl, hb1, hv1⟩; (obtain rfl : r1 = .iface 178 (.agg #[]) := hv1); have hb1' := below_trans (by first | assumption | exact hself.drew) hb1)
        | (go_at_call_of 91 x2; refine (ha _ (by assumption)).mono ?_; rintro e w2 ⟨r2, rfl, hb2, hv2⟩; obtain ⟨T4, x4, rfl⟩ := hv2.form; have HV2 := Lib.hid hv2; clear hv2; have hb2' := below_trans (by assumption) hb2))
    all_goals
      have has := fun W' => assert_wo_i W' (.agg #[])
      go_wp2_with fail
      go_ret
      exact ⟨_, rfl, (hb2'.alloc hb2'.size _), _, _, rfl, rfl, HV2.out.below (below_new _ _)⟩
  | atEnd t =>
    rw [show Bd.comb f a (.atEnd t) b2 = .inside (.atEnd t) b2 by cases b2 <;> rfl]
    go_enter Tryz.func107, Tryz.ntmps107
    go_wp2_with fail
    go_region_held3 (fun W' => Below W.heap.size W W') (first | assumption | exact hself.drew | go_keep)
      (first
        | (go_at_call_of 91 x1; refine (hf _ (by first | assumption | exact hself.drew)).mono ?_; rintro e w1 ⟨r1, rfl, hb1, hv1⟩; obtain ⟨y1, rfl, hy1⟩ := hv1; have HY1 := Lib.hid hy1; clear hy1; have hb1' := below_trans (by first | assumption | exact hself.drew) hb1)
        | (go_at_call_of 91 x2; refine (ha _ (by assumption)).mono ?_; rintro e w2 ⟨r2, rfl, hb2, hv2⟩; obtain ⟨T4, x4, rfl⟩ := hv2.form; have HV2 := Lib.hid hv2; clear hv2; have hb2' := below_trans (by assumption) hb2))
    all_goals
      have has := fun W' => assert_wo_e W' (.agg #[y1])
      go_wp2_with fail
      go_ret
      exact ⟨_, rfl, (hb2'.alloc hb2'.size _), _, _, rfl, ⟨_, rfl, HY1.out.below (below_trans hb2 (below_new _ _))⟩, HV2.out.below (below_new _ _)⟩
  | inside c d =>
    rw [show Bd.comb f a (.inside c d) b2 = .inside (.inside c d) b2 by cases b2 <;> rfl]
    go_enter Tryz.func107, Tryz.ntmps107
    go_wp2_with fail
    go_region_held3 (fun W' => Below W.heap.size W W') (first | assumption | exact hself.drew | go_keep)
      (first
        | (go_at_call_of 91 x1; refine (hf _ (by first | assumption | exact hself.drew)).mono ?_; rintro e w1 ⟨r1, rfl, hb1, hv1⟩; obtain ⟨y1, z1, rfl, hy1, hz1⟩ := hv1; have HY1 := Lib.hid hy1; have HZ1 := Lib.hid hz1; clear hy1 hz1; have hb1' := below_trans (by first | assumption | exact hself.drew) hb1)
        | (go_at_call_of 91 x2; refine (ha _ (by assumption)).mono ?_; rintro e w2 ⟨r2, rfl, hb2, hv2⟩; obtain ⟨T4, x4, rfl⟩ := hv2.form; have HV2 := Lib.hid hv2; clear hv2; have hb2' := below_trans (by assumption) hb2))
    all_goals
      have has := fun W' => assert_wo_s W' (.agg #[y1, z1])
      go_wp2_with fail
      go_ret
      exact ⟨_, rfl, (hb2'.alloc hb2'.size _), _, _, rfl, ⟨_, _, rfl, HY1.out.below (below_trans hb2 (below_new _ _)), HZ1.out.below (below_trans hb2 (below_new _ _))⟩, HV2.out.below (below_new _ _)⟩
  | without t =>
    cases b2 with
    | itself =>
      rw [show Bd.comb f a (.without t) .itself = .atEnd f from rfl]
      go_enter Tryz.func107, Tryz.ntmps107
      go_wp2_with fail
      go_region_held3 (fun W' => Below W.heap.size W W') (first | assumption | exact hself.drew | go_keep)
        (first
          | (go_at_call_of 91 x1; refine (hf _ (by first | assumption | exact hself.drew)).mono ?_; rintro e w1 ⟨r1, rfl, hb1, hv1⟩; obtain ⟨y1, rfl, hy1⟩ := hv1; obtain ⟨S1, z1, rfl, _⟩ := hy1.asks; clear hy1; have hb1' := below_trans (by first | assumption | exact hself.drew) hb1)
          | (go_at_call_of 91 x2; refine (ha _ (by assumption)).mono ?_; rintro e w2 ⟨r2, rfl, hb2, hv2⟩; (obtain rfl : r2 = .iface 178 (.agg #[]) := hv2); have hb2' := below_trans (by assumption) hb2))
      all_goals
        have has := fun W' => assert_wo_w W' (.iface S1 z1)
        have has2 := fun W' => assert_wo_i W' (.agg #[])
        have has3 := assert_it_i
        have h0' := h0 _ (hb2'.alloc hb2'.size (.cells #[.iface S1 z1] 181))
        go_wp2_with fail
        go_ret
        exact ⟨_, rfl, (hb2'.alloc hb2'.size _), _, rfl, HTF.out.below (hb2'.alloc hb2'.size _)⟩
    | atEnd u =>
      rw [show Bd.comb f a (.without t) (.atEnd u) = .inside (.without t) (.atEnd u) from rfl]
      go_enter Tryz.func107, Tryz.ntmps107
      go_wp2_with fail
      go_region_held3 (fun W' => Below W.heap.size W W') (first | assumption | exact hself.drew | go_keep)
        (first
          | (go_at_call_of 91 x1; refine (hf _ (by first | assumption | exact hself.drew)).mono ?_; rintro e w1 ⟨r1, rfl, hb1, hv1⟩; obtain ⟨y1, rfl, hy1⟩ := hv1; obtain ⟨S1, z1, rfl, _⟩ := hy1.asks; have HY1 := Lib.hid hy1; clear hy1; have hb1' := below_trans (by first | assumption | exact hself.drew) hb1)
          | (go_at_call_of 91 x2; refine (ha _ (by assumption)).mono ?_; rintro e w2 ⟨r2, rfl, hb2, hv2⟩; obtain ⟨y2, rfl, hy2⟩ := hv2; have HY2 := Lib.hid hy2; clear hy2; have hb2' := below_trans (by assumption) hb2))
      all_goals
        have has := fun W' => assert_wo_w W' (.iface S1 z1)
        have has2 := fun W' => assert_wo_e W' (.agg #[y2])
        have has3 := fun W' => assert_it_e W' (.agg #[y2])
        go_wp2_with fail
        go_ret
        exact ⟨_, rfl, (hb2'.alloc hb2'.size _), _, _, rfl, ⟨_, rfl, HY1.out.below (below_trans hb2 (below_new _ _))⟩, ⟨_, rfl, HY2.out.below (below_new _ _)⟩⟩
    | inside c d =>
      rw [show Bd.comb f a (.without t) (.inside c d) = .inside (.without t) (.inside c d) from rfl]
      go_enter Tryz.func107, Tryz.ntmps107
      go_wp2_with fail
      go_region_held3 (fun W' => Below W.heap.size W W') (first | assumption | exact hself.drew | go_keep)
        (first
          | (go_at_call_of 91 x1; refine (hf _ (by first | assumption | exact hself.drew)).mono ?_; rintro e w1 ⟨r1, rfl, hb1, hv1⟩; obtain ⟨y1, rfl, hy1⟩ := hv1; obtain ⟨S1, z1, rfl, _⟩ := hy1.asks; have HY1 := Lib.hid hy1; clear hy1; have hb1' := below_trans (by first | assumption | exact hself.drew) hb1)
          | (go_at_call_of 91 x2; refine (ha _ (by assumption)).mono ?_; rintro e w2 ⟨r2, rfl, hb2, hv2⟩; obtain ⟨y2, z2, rfl, hy2, hz2⟩ := hv2; have HY2 := Lib.hid hy2; have HZ2 := Lib.hid hz2; clear hy2 hz2; have hb2' := below_trans (by assumption) hb2))
      all_goals
        have has := fun W' => assert_wo_w W' (.iface S1 z1)
        have has2 := fun W' => assert_wo_s W' (.agg #[y2, z2])
        have has3 := fun W' => assert_it_s W' (.agg #[y2, z2])
        go_wp2_with fail
        go_ret
        exact ⟨_, rfl, (hb2'.alloc hb2'.size _), _, _, rfl, ⟨_, rfl, HY1.out.below (below_trans hb2 (below_new _ _))⟩, ⟨_, _, rfl, HY2.out.below (below_new _ _), HZ2.out.below (below_new _ _)⟩⟩
    | without u =>
      rw [show Bd.comb f a (.without t) (.without u) = .without (.app f a) from rfl]
      go_enter Tryz.func107, Tryz.ntmps107
      go_wp2_with fail
      go_region_held3 (fun W' => Below W.heap.size W W') (first | assumption | exact hself.drew | go_keep)
        (first
          | (go_at_call_of 91 x1; refine (hf _ (by first | assumption | exact hself.drew)).mono ?_; rintro e w1 ⟨r1, rfl, hb1, hv1⟩; obtain ⟨y1, rfl, hy1⟩ := hv1; obtain ⟨S1, z1, rfl, _⟩ := hy1.asks; clear hy1; have hb1' := below_trans (by first | assumption | exact hself.drew) hb1)
          | (go_at_call_of 91 x2; refine (ha _ (by assumption)).mono ?_; rintro e w2 ⟨r2, rfl, hb2, hv2⟩; obtain ⟨y2, rfl, hy2⟩ := hv2; obtain ⟨S2, z2, rfl, _⟩ := hy2.asks; clear hy2; have hb2' := below_trans (by assumption) hb2))
      all_goals
        have has := fun W' => assert_wo_w W' (.iface S1 z1)
        have has2 := fun W' => assert_wo_w W' (.iface S2 z2)
        go_wp2_with fail
        go_ret
        exact ⟨_, rfl, (hb2'.alloc hb2'.size _), _, rfl, HT.out.below (hb2'.alloc hb2'.size _)⟩
end Go.Proofs.YtlpgoelcadmcfaaGreatDoor
