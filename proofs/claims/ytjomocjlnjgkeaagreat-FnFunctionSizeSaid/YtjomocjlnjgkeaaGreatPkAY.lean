/-
  The library's strings.IndexAny in this program: the numbers of its functions and types.
-/
import Derived.Shelf.Strings.IndexAnyAll
import Derived.Test.YtjomocjlnjgkeaaGreatProg
import Derived.WalkKit
import Derived.WalkSpells
import Derived.WalkLawsBesides
import Derived.Test.YtjomocjlnjgkeaaGreatPkAD
import Derived.Test.YtjomocjlnjgkeaaGreatPkAE
import Derived.Laws.RangeAny
import Derived.LoopN
import Derived.WalkMore
import Derived.Laws.Runes
import Derived.Shelf.Small.Utf8
import Derived.Shelf.Small.Strs
import Derived.Deep.LoopGhost
import Derived.Test.YtjomocjlnjgkeaaGreatPkAL
import Derived.Test.YtjomocjlnjgkeaaGreatPkAR
namespace Go.Proofs.YtjomocjlnjgkeaaGreat
open Go.RowKit Go.Shelf

def rn : Ren := ⟨fun
  | 119 => 136
  | 137 => 135
  | 152 => 124
  | 153 => 110
  | 217 => 140
  | 224 => 137
  | 225 => 138
  | 226 => 125
  | 227 => 126
  | 228 => 127
  | 266 => 141
  | n => n, fun
  | 0 => 0
  | 3 => 3
  | 4 => 4
  | 5 => 5
  | 9 => 9
  | 21 => 21
  | 46 => 192
  | 116 => 179
  | 117 => 180
  | 124 => 193
  | n => n, fun n => n⟩

set_option maxRecDepth 100000 in
theorem lays : Lays.n153 Tryz.prog rn := {
  mixed := by kernel_rfl
  f119 := by kernel_rfl
  f137 := by kernel_rfl
  f152 := by kernel_rfl
  f153 := by kernel_rfl
  f217 := by kernel_rfl
  f224 := by kernel_rfl
  f225 := by kernel_rfl
  f226 := by kernel_rfl
  f227 := by kernel_rfl
  f228 := by kernel_rfl
  f266 := by kernel_rfl
  t0 := by kernel_rfl
  a0 := fun _ => by kernel_rfl
  z0 := fun _ => by kernel_rfl
  v0 := fun _ => by kernel_rfl
  t3 := by kernel_rfl
  a3 := fun _ => by kernel_rfl
  z3 := fun _ => by kernel_rfl
  v3 := fun _ => by kernel_rfl
  t4 := by kernel_rfl
  a4 := fun _ => by kernel_rfl
  z4 := fun _ => by kernel_rfl
  v4 := fun _ => by kernel_rfl
  t5 := by kernel_rfl
  a5 := fun _ => by kernel_rfl
  z5 := fun _ => by kernel_rfl
  v5 := fun _ => by kernel_rfl
  t9 := by kernel_rfl
  a9 := fun _ => by kernel_rfl
  z9 := fun _ => by kernel_rfl
  v9 := fun _ => by kernel_rfl
  t21 := by kernel_rfl
  a21 := fun _ => by kernel_rfl
  z21 := fun _ => by kernel_rfl
  v21 := fun _ => by kernel_rfl
  t46 := by kernel_rfl
  a46 := fun _ => by kernel_rfl
  z46 := fun _ => by kernel_rfl
  v46 := fun _ => by kernel_rfl
  t116 := by kernel_rfl
  a116 := fun _ => by kernel_rfl
  z116 := fun _ => by kernel_rfl
  t117 := by kernel_rfl
  a117 := fun _ => by kernel_rfl
  z117 := fun _ => by kernel_rfl
  v117 := fun _ => by kernel_rfl
  t124 := by kernel_rfl
  a124 := fun _ => by kernel_rfl
  z124 := fun _ => by kernel_rfl
  v124 := fun _ => by kernel_rfl }
end Go.Proofs.YtjomocjlnjgkeaaGreat

namespace Go.Proofs.YtjomocjlnjgkeaaGreat
open Go.RowKit Go.Shelf

set_option maxHeartbeats 2000000
set_option maxRecDepth 100000

def delims : ByteArray := ⟨#[40, 41, 32]⟩

theorem u8_ge (n : Nat) (h2 : n < 256) : (UInt8.ofNat n).toNat = n := by simp [UInt8.toNat_ofNat']; omega

/-- The bytes of a rune that is no ASCII byte are no ASCII bytes. -/
theorem encode_high (n : Nat) (h : 128 ≤ n) (hv : Utf8.valid (n : Int) = true) : ∃ e : ByteArray, Utf8.encode (n : Int) = e ∧ 2 ≤ e.size ∧ e.size ≤ 4 ∧ ∀ i (hi : i < e.size), 128 ≤ (e[i]'hi).toNat := by
  have hn : n ≤ 1114111 := by
    unfold Utf8.valid at hv
    simp only [Bool.or_eq_true, Bool.and_eq_true, decide_eq_true_eq] at hv
    omega
  have e0 : Utf8.encode (n : Int) = if n < 0x80 then ⟨#[UInt8.ofNat n]⟩ else if n < 0x800 then ⟨#[UInt8.ofNat (0xC0 + n / 64), UInt8.ofNat (0x80 + n % 64)]⟩
      else if n < 0x10000 then ⟨#[UInt8.ofNat (0xE0 + n / 4096), UInt8.ofNat (0x80 + n / 64 % 64), UInt8.ofNat (0x80 + n % 64)]⟩
      else ⟨#[UInt8.ofNat (0xF0 + n / 262144), UInt8.ofNat (0x80 + n / 4096 % 64), UInt8.ofNat (0x80 + n / 64 % 64), UInt8.ofNat (0x80 + n % 64)]⟩ := by
    unfold Utf8.encode
    simp only [hv, if_true, Int.toNat_natCast]
  rw [if_neg (by omega)] at e0
  by_cases h1 : n < 0x800
  · rw [if_pos h1] at e0
    refine ⟨_, e0, Nat.le_refl 2, show 2 ≤ 4 by omega, fun i hi => ?_⟩
    have hi2 : i < 2 := hi
    obtain rfl | rfl : i = 0 ∨ i = 1 := by omega
    · show 128 ≤ (UInt8.ofNat (0xC0 + n / 64)).toNat; rw [u8_ge _ (by omega)]; omega
    · show 128 ≤ (UInt8.ofNat (0x80 + n % 64)).toNat; rw [u8_ge _ (by omega)]; omega
  · rw [if_neg h1] at e0
    by_cases h2 : n < 0x10000
    · rw [if_pos h2] at e0
      refine ⟨_, e0, show 2 ≤ 3 by omega, show 3 ≤ 4 by omega, fun i hi => ?_⟩
      have hi2 : i < 3 := hi
      obtain rfl | rfl | rfl : i = 0 ∨ i = 1 ∨ i = 2 := by omega
      · show 128 ≤ (UInt8.ofNat (0xE0 + n / 4096)).toNat; rw [u8_ge _ (by omega)]; omega
      · show 128 ≤ (UInt8.ofNat (0x80 + n / 64 % 64)).toNat; rw [u8_ge _ (by omega)]; omega
      · show 128 ≤ (UInt8.ofNat (0x80 + n % 64)).toNat; rw [u8_ge _ (by omega)]; omega
    · rw [if_neg h2] at e0
      refine ⟨_, e0, show 2 ≤ 4 by omega, Nat.le_refl 4, fun i hi => ?_⟩
      have hi2 : i < 4 := hi
      obtain rfl | rfl | rfl | rfl : i = 0 ∨ i = 1 ∨ i = 2 ∨ i = 3 := by omega
      · show 128 ≤ (UInt8.ofNat (0xF0 + n / 262144)).toNat; rw [u8_ge _ (by omega)]; omega
      · show 128 ≤ (UInt8.ofNat (0x80 + n / 4096 % 64)).toNat; rw [u8_ge _ (by omega)]; omega
      · show 128 ≤ (UInt8.ofNat (0x80 + n / 64 % 64)).toNat; rw [u8_ge _ (by omega)]; omega
      · show 128 ≤ (UInt8.ofNat (0x80 + n % 64)).toNat; rw [u8_ge _ (by omega)]; omega

theorem get_bang (s : ByteArray) (i : Nat) (h : i < s.size) : s.get! i = s[i]'h := by
  show s.data[i]! = s.data[i]'h
  rw [getElem!_pos s.data i h]

/-- What is decoded at a byte that is no ASCII byte. -/
theorem decode_high (s : ByteArray) (i : Nat) (hi : i < s.size) (hx : 128 ≤ (s[i]'hi).toNat) :
    128 ≤ (Utf8.decode s i).1 ∧ Utf8.valid ((Utf8.decode s i).1 : Int) = true ∧ 1 ≤ (Utf8.decode s i).2 ∧ i + (Utf8.decode s i).2 ≤ s.size ∧ ∀ j (hj : j < s.size), i ≤ j → j < i + (Utf8.decode s i).2 → 128 ≤ (s[j]'hj).toNat := by
  have hx' : 128 ≤ (s.get! i).toNat := by rw [get_bang s i hi]; exact hx
  have one : ∀ j (hj : j < s.size), i ≤ j → j < i + 1 → 128 ≤ (s[j]'hj).toNat := fun j hj h1 h2 => by
    obtain rfl : j = i := by omega
    exact hx
  have err : Utf8.valid ((Utf8.runeError : Nat) : Int) = true := by decide
  have bad : 128 ≤ ((Utf8.runeError, 1) : Nat × Nat).1 ∧ Utf8.valid ((((Utf8.runeError, 1) : Nat × Nat).1 : Nat) : Int) = true ∧ 1 ≤ ((Utf8.runeError, 1) : Nat × Nat).2 ∧ i + ((Utf8.runeError, 1) : Nat × Nat).2 ≤ s.size ∧ ∀ j (hj : j < s.size), i ≤ j → j < i + ((Utf8.runeError, 1) : Nat × Nat).2 → 128 ≤ (s[j]'hj).toNat :=
    ⟨by decide, err, by decide, by show i + 1 ≤ s.size; omega, one⟩
  have cont : ∀ k, (decide (i + k < s.size) && (s.get! (i + k)).toNat / 64 == 2) = true → ∃ h : i + k < s.size, 128 ≤ (s[i + k]'h).toNat := fun k h => by
    simp only [Bool.and_eq_true, decide_eq_true_eq, beq_iff_eq] at h
    refine ⟨h.1, ?_⟩
    rw [← get_bang s (i + k) h.1]
    omega
  unfold Utf8.decode
  simp only [Nat.add_zero]
  rw [if_neg (by omega)]
  split
  · rename_i h
    simp only [Bool.and_eq_true] at h
    obtain ⟨h1, g1⟩ := cont 1 (by simpa using h.2)
    split
    · rename_i hc
      refine ⟨hc, ?_, (show 1 ≤ 2 by decide), by show i + 2 ≤ s.size; omega, fun j hj hj1 hj2 => ?_⟩
      · unfold Utf8.valid
        simp only [Bool.or_eq_true, Bool.and_eq_true, decide_eq_true_eq]
        left
        have : (s.get! i).toNat % 32 * 64 + (s.get! (i + 1)).toNat % 64 < 2048 := by omega
        omega
      · simp only at hj2
        obtain rfl | rfl : j = i ∨ j = i + 1 := by omega
        · exact hx
        · exact g1
    · exact bad
  · split
    · rename_i h
      simp only [Bool.and_eq_true] at h
      obtain ⟨h1, g1⟩ := cont 1 (by simpa using h.1.2)
      obtain ⟨h2, g2⟩ := cont 2 (by simpa using h.2)
      split
      · rename_i hc
        simp only [Bool.and_eq_true, decide_eq_true_eq] at hc
        refine ⟨by have := hc.1; show 128 ≤ _; omega, hc.2, (show 1 ≤ 3 by decide), by show i + 3 ≤ s.size; omega, fun j hj hj1 hj2 => ?_⟩
        simp only at hj2
        obtain rfl | rfl | rfl : j = i ∨ j = i + 1 ∨ j = i + 2 := by omega
        · exact hx
        · exact g1
        · exact g2
      · exact bad
    · split
      · rename_i h
        simp only [Bool.and_eq_true] at h
        obtain ⟨h1, g1⟩ := cont 1 (by simpa using h.1.1.2)
        obtain ⟨h2, g2⟩ := cont 2 (by simpa using h.1.2)
        obtain ⟨h3, g3⟩ := cont 3 (by simpa using h.2)
        split
        · rename_i hc
          simp only [Bool.and_eq_true, decide_eq_true_eq] at hc
          refine ⟨by have := hc.1; show 128 ≤ _; omega, hc.2, (show 1 ≤ 4 by decide), by show i + 4 ≤ s.size; omega, fun j hj hj1 hj2 => ?_⟩
          simp only at hj2
          obtain rfl | rfl | rfl | rfl : j = i ∨ j = i + 1 ∨ j = i + 2 ∨ j = i + 3 := by omega
          · exact hx
          · exact g1
          · exact g2
          · exact g3
        · exact bad
      · exact bad
theorem indexByte_none (l : List UInt8) (c : UInt8) (h : ∀ x ∈ l, x ≠ c) : Lib.indexByte l c = -1 := by
  induction l with
  | nil => rfl
  | cons b l ih =>
    rw [Lib.indexByte, ih (fun x hx => h x (by simp [hx]))]
    have : (b == c) = false := by rw [beq_eq_false_iff_ne]; exact h b (by simp)
    simp [this]

theorem idx_high (s : ByteArray) (x : UInt8) (a b : Nat) (hs : ∀ y ∈ s.data.toList, y.toNat < 128) (hx : 128 ≤ x.toNat) : Lib.indexByte (s.extract a b).data.toList ((x.toNat : Int).toNat.toUInt8) = -1 := by
  have e : (x.toNat : Int).toNat.toUInt8 = x := by simp
  rw [e]
  refine indexByte_none _ _ fun y hy he => ?_
  subst he
  have hy2 : y ∈ s.data.toList := by
    simp [ByteArray.data_extract] at hy
    exact List.mem_of_mem_drop (List.mem_of_mem_take hy) |> fun h => by first | exact h | simpa using h
  have := hs y hy2
  omega

theorem after_drawn (w : World) (n : Nat) : After w (w.drewN n) := ⟨rfl, rfl, rfl, Nat.le_refl _, fun _ _ => rfl⟩

/-- A rune that is no ASCII byte is not in "() ". -/
theorem rune_high (w : World) (n : Nat) (h : 128 ≤ n) (hv : Utf8.valid (n : Int) = true) :
    Calls Tryz.prog 124 #[.string delims, .int .i32 n] w fun e w' => e = .returned (.int .i64 (-1)) ∧ After w w' := by
  have hi : ¬ (n : Int) < 128 := by omega
  have hz : delims.size = 3 := rfl
  by_cases hr : n = 65533
  · subst hr
    have n0 : ∀ ty, (Instr.next (.pointer (some ⟨w.heap.size, 0, none⟩)) true ty).run Tryz.prog (w.iter delims 0) = .ok (.tuple #[.bool true, .int .i64 0, .int .i32 40]) (w.iter delims 1) := fun ty => by
      have := run_next_any (P := Tryz.prog) w delims 0 ty (by decide)
      rw [show Utf8.decode delims 0 = (40, 1) by decide +kernel] at this
      exact this
    have n1 : ∀ ty, (Instr.next (.pointer (some ⟨w.heap.size, 0, none⟩)) true ty).run Tryz.prog (w.iter delims 1) = .ok (.tuple #[.bool true, .int .i64 1, .int .i32 41]) (w.iter delims 2) := fun ty => by
      have := run_next_any (P := Tryz.prog) w delims 1 ty (by decide)
      rw [show Utf8.decode delims 1 = (41, 1) by decide +kernel] at this
      exact this
    have n2 : ∀ ty, (Instr.next (.pointer (some ⟨w.heap.size, 0, none⟩)) true ty).run Tryz.prog (w.iter delims 2) = .ok (.tuple #[.bool true, .int .i64 2, .int .i32 32]) (w.iter delims 3) := fun ty => by
      have := run_next_any (P := Tryz.prog) w delims 2 ty (by decide)
      rw [show Utf8.decode delims 2 = (32, 1) by decide +kernel] at this
      exact this
    have n3 : ∀ ty, (Instr.next (.pointer (some ⟨w.heap.size, 0, none⟩)) true ty).run Tryz.prog (w.iter delims 3) = .ok (.tuple #[.bool false]) (w.iter delims 3) := fun ty => run_next_end (P := Tryz.prog) w delims 3 ty (by decide)
    go_enter Tryz.func124, Tryz.ntmps124
    go_wp2_with fail
    refine wp_loop_rounds 4 ?_
    rw [rounds_succ]; go_wp2_with fail
    rw [rounds_succ]; go_wp2_with fail
    rw [rounds_succ]; go_wp2_with fail
    rw [rounds_succ]; go_wp2_with fail
    go_ret
    exact ⟨rfl, After.new _ _⟩
  · have hne : ((n : Int) == 65533) = false := by rw [beq_eq_false_iff_ne]; omega
    obtain ⟨e, he, h2, h4, hb⟩ := encode_high n h hv
    have hval := fun W => Any.utf8_ValidRune (P := Tryz.prog) (ρ := rn) { lays with } (n : Int) W
    have hvr : Lib.validRune (n : Int) = true := by
      unfold Lib.validRune
      unfold Utf8.valid at hv
      simp only [Bool.or_eq_true, Bool.and_eq_true, decide_eq_true_eq] at hv ⊢
      omega
    simp only [hvr] at hval
    have hs21 : (Tryz.prog.underlying 21).isSome = true := by kernel_rfl
    have hd9 : Tryz.prog.underlying 9 = some .string := by kernel_rfl
    have hidx := fun s c W => Any.strings_IndexByte (P := Tryz.prog) (ρ := rn) { lays with } s c W
    go_enter Tryz.func124, Tryz.ntmps124
    have hd1 : (delims[1]'(by decide)).toNat = 41 := rfl
    have hw3 : IntKind.i64.wrap 3 = 3 := by decide
    have hd2 : (delims[2]'(by decide)).toNat = 32 := rfl
    obtain hsz | hsz | hsz : e.size = 2 ∨ e.size = 3 ∨ e.size = 4 := by omega
    · obtain ⟨x, hx⟩ : ∃ x : UInt8, e[1]'(by omega) = x := ⟨_, rfl⟩
      have hx1 := hb 1 (by omega)
      rw [hx] at hx1
      have hne1 : ((41 : Int) != (x.toNat : Int)) = true := by simp; omega
      have hI := fun a b => idx_high delims x a b (by decide) hx1
      clear hb
      go_wp2_with (go_at_call 136; refine (hval _).mono ?_; rintro e1 w1 ⟨rfl, rfl⟩)
      go_step3
      go_wp2_with fail
      refine wp_loop_rounds 1 ?_
      rw [rounds_succ]
      go_wp2_with fail
      go_step3
      go_wp2_with fail
      go_quiet (fail)
      go_wp2_with fail
      go_quiet ((go_at_call 135; refine ((hidx _ _ _).mono ?_); rintro e1 w1 ⟨rfl, rfl⟩; exact ⟨by first | exact congrArg (fun z => Ending.returned (Value.int .i64 z)) (hI _ _) | rfl, _, rfl⟩))
      go_wp2_with fail
      simp only [go_sem]
      go_ret
      exact ⟨rfl, after_drawn _ _⟩
    · obtain ⟨x, hx⟩ : ∃ x : UInt8, e[2]'(by omega) = x := ⟨_, rfl⟩
      have hx1 := hb 2 (by omega)
      rw [hx] at hx1
      have hne1 : ((32 : Int) != (x.toNat : Int)) = true := by simp; omega
      have hE : Lib.indexByte (⟨#[]⟩ : ByteArray).data.toList ((x.toNat : Int).toNat.toUInt8) = -1 := rfl
      clear hb
      go_wp2_with (go_at_call 136; refine (hval _).mono ?_; rintro e1 w1 ⟨rfl, rfl⟩)
      go_step3
      go_wp2_with fail
      refine wp_loop_rounds 1 ?_
      rw [rounds_succ]
      go_wp2_with fail
      go_step3
      go_wp2_with fail
      go_quiet (fail)
      go_wp2_with fail
      go_quiet ((go_at_call 135; refine ((hidx _ _ _).mono ?_); rintro e1 w1 ⟨rfl, rfl⟩; exact ⟨congrArg (fun z => Ending.returned (Value.int .i64 z)) hE, _, rfl⟩))
      go_wp2_with fail
      simp only [go_sem]
      go_ret
      exact ⟨rfl, after_drawn _ _⟩
    · clear hb
      go_wp2_with (go_at_call 136; refine (hval _).mono ?_; rintro e1 w1 ⟨rfl, rfl⟩)
      go_step3
      go_wp2_with fail
      refine wp_loop_rounds 1 ?_
      rw [rounds_succ]
      go_wp2_with fail
      rw [Exit.noGoto_ret]
      go_ret
      exact ⟨rfl, After.refl _⟩
theorem next_at (W : World) (b : Nat) (s : ByteArray) (pos : Nat) (ty : TypeId) (hb : W.heap[b]? = some (.stringIter s pos)) (h : pos < s.size) :
    (Instr.next (.pointer (some ⟨b, 0, none⟩)) true ty).run Tryz.prog W = .ok (.tuple #[.bool true, .int .i64 pos, .int .i32 (Utf8.decode s pos).1]) { W with heap := W.heap.setIfInBounds b (.stringIter s (pos + (Utf8.decode s pos).2)) } := by
  simp only [Instr.next, getObj, setObj, Sem.run_bind, Sem.run, hb, Result.andThen, h, if_true]
  simp [goInt]

theorem next_end (W : World) (b : Nat) (s : ByteArray) (pos : Nat) (ty : TypeId) (hb : W.heap[b]? = some (.stringIter s pos)) (h : ¬ pos < s.size) :
    (Instr.next (.pointer (some ⟨b, 0, none⟩)) true ty).run Tryz.prog W = .ok (.tuple #[.bool false]) W := by
  simp [Instr.next, getObj, Sem.run, hb, h]

theorem after_put {w W : World} (h : After w W) (o : Obj) : After w { W with heap := W.heap.setIfInBounds w.heap.size o } :=
  ⟨h.os, h.tape, h.output, by show w.heap.size ≤ (W.heap.setIfInBounds _ _).size; simpa using h.size, fun k hk => by
    show (W.heap.setIfInBounds w.heap.size o)[k]? = _
    rw [Array.getElem?_setIfInBounds_ne (by omega)]
    exact h.block k hk⟩

theorem put_at {W : World} {b : Nat} {o o' : Obj} (h : W.heap[b]? = some o') : ({ W with heap := W.heap.setIfInBounds b o } : World).heap[b]? = some o := by
  have := (Array.getElem?_eq_some_iff.1 h).1
  show (W.heap.setIfInBounds b o)[b]? = _
  simp [this]

theorem delim_mem (x : UInt8) : delims.data.toList.contains x = !Tm.mid x := by
  show List.contains [40, 41, 32] x = _
  simp only [List.contains_cons, List.contains_nil, Bool.or_false, Tm.mid]
  cases h1 : x == 32 <;> cases h2 : x == 40 <;> cases h3 : x == 41 <;> simp [bne, h1, h2, h3]

/-- Where the first of the three bytes stands, if one does. -/
theorem index_any (w : World) (s : ByteArray) (hs : s.size ≤ 1000000000) :
    Calls Tryz.prog 110 #[.string s, .string delims] w fun e w' => e = .returned (.int .i64 (Lib.indexAny s.data.toList delims.data.toList)) ∧ After w w' := by
  by_cases h8 : 8 < s.size
  · have hv116 : ∀ w, (zeroValue (rn.t 116)).run Tryz.prog w = .ok (.agg (Array.replicate 256 (.bool false))) w := fun w => by kernel_rfl
    have hi116 : (Tryz.prog.info? (rn.t 116)).map (·.size) = some 256 := by kernel_rfl
    refine (Any.strings_IndexAny_long lays hv116 hi116 s delims w (by decide) h8 (by omega) (by decide) ?_).mono ?_
    · intro j b hj
      have hm := List.mem_of_getElem? hj
      have : ∀ y ∈ delims.data.toList, y.toNat < 128 := by decide
      exact this b hm
    · rintro e w' ⟨rfl, rfl⟩
      exact ⟨rfl, (After.new _ _).alloc _⟩
  · have h8z : decide ((8 : Int) < (s.size : Int)) = false := decide_eq_false (by omega)
    have hset := fun n W => Any.strings_shouldUseASCIISet (P := Tryz.prog) (ρ := rn) { lays with } n W
    have hidx := fun s c W => Any.strings_IndexRune_ascii (P := Tryz.prog) (ρ := rn) { lays with } s c W
    have hz3 : delims.size = 3 := rfl
    have hemp : delims.toList.isEmpty = false := by rw [Lib.toList_data]; rfl
    go_enter Tryz.func110, Tryz.ntmps110
    go_wp2_with (go_at_call 125; refine (hset _ _).mono ?_; rintro e w' ⟨rfl, hw⟩; rw [hw, h8z])
    go_loopg [9, 10] s.size (fun g _ _ wx => ∃ i : Nat, i + g = s.size ∧ After w wx ∧ wx.heap[w.heap.size]? = some (.stringIter s i) ∧ Hid (Lib.NoAny s.data.toList delims.data.toList i))
    case atStart => exact ⟨0, by omega, After.new _ _, World.iter_heap _ _ _, Lib.NoAny.zero _ _⟩
    case round =>
      obtain ⟨i, hig, ha, hh, HN⟩ := hrel
      cases gk with
      | zero =>
        obtain rfl : i = s.size := by omega
        have hnx := fun ty => next_end _ _ s s.size ty hh (by omega)
        have HA := Lib.hid ha
        clear hh ha
        go_wp2_with fail
        go_ret
        exact ⟨by rw [Lib.indexAny_none (by rw [← Lib.size_eq]; exact HN.out)]; rfl, HA.out⟩
      | succ g =>
        have hi : i < s.size := by omega
        obtain ⟨x, hx⟩ : ∃ x : UInt8, s[i]'hi = x := ⟨_, rfl⟩
        have hxl : s.data.toList[i]? = some x := by rw [← hx]; exact Lib.data_getElem? s i hi
        have Hx := Lib.hid hxl
        have hnx := fun ty => next_at _ _ s i ty hh hi
        have ha2 := after_put ha (.stringIter s (i + (Utf8.decode s i).2))
        have hh2 := put_at (o := .stringIter s (i + (Utf8.decode s i).2)) hh
        by_cases h128 : x.toNat < 128
        · rw [decode_ascii s i hi (by rw [hx]; exact h128), hx] at hnx ha2 hh2
          simp only at hnx ha2 hh2
          obtain ⟨wn, hwn⟩ : ∃ wn, wn = ({ wr with heap := wr.heap.setIfInBounds w.heap.size (.stringIter s (i + 1)) } : World) := ⟨_, rfl⟩
          rw [← hwn] at hnx ha2
          replace hh2 : wn.heap[w.heap.size]? = some (.stringIter s (i + 1)) := by rw [hwn]; exact hh2
          clear hxl hx hwn hh ha
          have HA := Lib.hid ha2
          have HH := Lib.hid hh2
          clear ha2 hh2
          have hcon := Lib.contains_iff_indexByte delims.data.toList x
          have hback : ((x.toNat : Int)).toNat.toUInt8 = x := by simp
          cases hin : delims.data.toList.contains x
          · rw [hin] at hcon
            have hlt : ¬ ((0 : Int) ≤ Lib.indexByte delims.data.toList x) := of_decide_eq_false hcon.symm
            clear hcon
            go_wp2_with (go_at_call 124; refine (hidx _ _ _ (by omega) (by omega)).mono ?_; rintro e w' ⟨rfl, hw⟩; rw [hw, hback])
            go_roundg g
            case measure => omega
            case rel => exact ⟨i + 1, by omega, HA.out, HH.out, HN.out.succ Hx.out hin⟩
          · rw [hin] at hcon
            have hge : (0 : Int) ≤ Lib.indexByte delims.data.toList x := of_decide_eq_true hcon.symm
            clear hcon
            go_wp2_with (go_at_call 124; refine (hidx _ _ _ (by omega) (by omega)).mono ?_; rintro e w' ⟨rfl, hw⟩; rw [hw, hback])
            go_ret
            exact ⟨by rw [Lib.indexAny_hit HN.out Hx.out hin]; rfl, HA.out⟩
        · obtain ⟨d1, d2, d3, d4, d5⟩ := decode_high s i hi (by rw [hx]; omega)
          generalize Utf8.decode s i = p at *
          obtain ⟨r, k⟩ := p
          simp only at hnx ha2 hh2 d1 d2 d3 d4 d5
          obtain ⟨wn, hwn⟩ : ∃ wn, wn = ({ wr with heap := wr.heap.setIfInBounds w.heap.size (.stringIter s (i + k)) } : World) := ⟨_, rfl⟩
          rw [← hwn] at hnx ha2
          replace hh2 : wn.heap[w.heap.size]? = some (.stringIter s (i + k)) := by rw [hwn]; exact hh2
          have hrune := fun W => rune_high W r d1 d2
          clear hxl hx hwn hh ha
          have hno' : Lib.NoAny s.data.toList delims.data.toList (i + k) := fun j b hj hb => by
            by_cases hji : j < i
            · exact HN.out j b hji hb
            · have hjs : j < s.size := by omega
              have h5 := d5 j hjs (by omega) hj
              have hbj : s[j]'hjs = b := by
                have := Lib.data_getElem? s j hjs
                rw [hb] at this
                exact (Option.some.inj this).symm
              rw [hbj] at h5
              cases hc : delims.data.toList.contains b with
              | false => rfl
              | true =>
                have hm : b ∈ delims.data.toList := by simpa using hc
                have : ∀ y ∈ delims.data.toList, y.toNat < 128 := by decide
                have := this b hm
                omega
          have HN2 := Lib.hid hno'
          have HA := Lib.hid ha2
          have HH := Lib.hid hh2
          clear hno' d5 ha2 hh2
          go_wp2_with (go_at_call 124; refine (hrune _).mono ?_; rintro e w' ⟨rfl, hw⟩)
          go_roundg (s.size - (i + k))
          case measure => omega
          case rel => exact ⟨i + k, by omega, HA.out.trans hw, hw.heap HH.out, HN2⟩
end Go.Proofs.YtjomocjlnjgkeaaGreat

namespace Go.Proofs.YtjomocjlnjgkeaaGreat

/-- A function text. -/
inductive FT where
  | z (a : Nat)
  | inc
  | p (i a : Nat)
  | c1 (f g : FT)
  | c2 (f g h : FT)
  | c3 (f g h i : FT)
  | r (f g : FT)
  | m (f : FT)

namespace FT

def arity : FT → Nat
  | z a => a
  | inc => 1
  | p _ a => a
  | c1 _ g => arity g
  | c2 _ g _ => arity g
  | c3 _ g _ _ => arity g
  | r f _ => arity f + 1
  | m f => arity f - 1

def size : FT → Nat
  | c1 f g => 1 + (size f + size g)
  | c2 f g h => 1 + (size f + (size g + size h))
  | c3 f g h i => 1 + (size f + (size g + (size h + size i)))
  | r f g => 1 + (size f + size g)
  | m f => 1 + size f
  | _ => 1

def total : FT → Bool
  | c1 f g => total f && total g
  | c2 f g h => total f && total g && total h
  | c3 f g h i => total f && total g && total h && total i
  | r f g => total f && total g
  | m _ => false
  | _ => true

/-- All parts have the arities that they have to have. -/
def ok : FT → Prop
  | z a => a ≤ 3
  | inc => True
  | p i a => i < a ∧ a ≤ 3
  | c1 f g => ok f ∧ ok g ∧ arity f = 1
  | c2 f g h => ok f ∧ ok g ∧ ok h ∧ arity f = 2 ∧ arity h = arity g
  | c3 f g h i => ok f ∧ ok g ∧ ok h ∧ ok i ∧ arity f = 3 ∧ arity h = arity g ∧ arity i = arity g
  | r f g => ok f ∧ ok g ∧ arity g = arity f + 2
  | m f => ok f ∧ 0 < arity f

theorem arity_le : ∀ {t : FT}, ok t → arity t ≤ 3
  | z _, h => h
  | inc, _ => by simp [arity]
  | p _ _, h => h.2
  | c1 _ _, h => by have := arity_le h.2.1; simpa only [arity] using this
  | c2 _ _ _, h => by have := arity_le h.2.1; simpa only [arity] using this
  | c3 _ _ _ _, h => by have := arity_le h.2.1; simpa only [arity] using this
  | r _ _, h => by have := arity_le h.2.1; have := h.2.2; simp only [arity]; omega
  | m _, h => by have := arity_le h.1; simp only [arity]; omega

theorem size_pos (t : FT) : 1 ≤ size t := by cases t <;> simp only [size] <;> omega

/-! ### words and combinations -/

def word (s : List UInt8) : Option FT :=
  if s = [122, 48] then some (z 0) else if s = [122, 49] then some (z 1) else if s = [122, 50] then some (z 2) else if s = [122, 51] then some (z 3)
  else if s = [105, 110, 99] then some inc
  else if s = [112, 48, 49] then some (p 0 1) else if s = [112, 48, 50] then some (p 0 2) else if s = [112, 49, 50] then some (p 1 2)
  else if s = [112, 48, 51] then some (p 0 3) else if s = [112, 49, 51] then some (p 1 3) else if s = [112, 50, 51] then some (p 2 3)
  else none

theorem word_facts {s : List UInt8} {t : FT} (h : word s = some t) : t.ok ∧ t.size = 1 ∧ 1 ≤ s.length ∧ s.length ≤ 3 ∧ t.total = true := by
  unfold word at h
  repeat (split at h; · (rename_i hs; cases h; subst hs; simp [ok, size, total]))
  cases h

def comb (a : List UInt8) (ps : List FT) : Option FT :=
  if a = [99] then match ps with
    | [f, g] => if arity f = 1 then some (c1 f g) else none
    | [f, g, h] => if arity f = 2 ∧ arity h = arity g then some (c2 f g h) else none
    | [f, g, h, i] => if arity f = 3 ∧ arity h = arity g ∧ arity i = arity g then some (c3 f g h i) else none
    | _ => none
  else if a = [114] then match ps with
    | [f, g] => if arity g = arity f + 2 then some (r f g) else none
    | _ => none
  else if a = [109] then match ps with
    | [f] => if 0 < arity f then some (m f) else none
    | _ => none
  else none

theorem comb_facts {a : List UInt8} {ps : List FT} {t : FT} (h : comb a ps = some t) (ho : ∀ f ∈ ps, ok f) : ok t ∧ size t = 1 + (ps.map size).sum ∧ a.length = 1 := by
  unfold comb at h
  split at h
  · rename_i ha; subst ha
    split at h
    · split at h
      · rename_i f g hc; cases h; simp at ho; exact ⟨⟨ho.1, ho.2, hc⟩, by simp [size], rfl⟩
      · cases h
    · split at h
      · rename_i f g k hc; cases h; simp at ho; exact ⟨⟨ho.1, ho.2.1, ho.2.2, hc⟩, by simp [size], rfl⟩
      · cases h
    · split at h
      · rename_i f g k l hc; cases h; simp at ho; exact ⟨⟨ho.1, ho.2.1, ho.2.2.1, ho.2.2.2, hc⟩, by simp [size], rfl⟩
      · cases h
    · cases h
  · split at h
    · rename_i ha; subst ha
      split at h
      · split at h
        · rename_i f g hc; cases h; simp at ho; exact ⟨⟨ho.1, ho.2, hc⟩, by simp [size], rfl⟩
        · cases h
      · cases h
    · split at h
      · rename_i ha; subst ha
        split at h
        · split at h
          · rename_i f hc; cases h; simp at ho; exact ⟨⟨ho, hc⟩, by simp [size], rfl⟩
          · cases h
        · cases h
      · cases h

/-! ### the readers -/

def sl (l : List UInt8) (i j : Nat) : List UInt8 := (l.drop i).take (j - i)

def mparts (rd : Nat → Option (FT × Nat)) (l : List UInt8) : Nat → Nat → List FT → Option (List FT × Nat)
  | 0, _, _ => none
  | n + 1, i, acc => if l[i]? = some 32 then match rd (i + 1) with
      | none => none
      | some (t, j) => mparts rd l n j (acc ++ [t])
    else some (acc, i)

/-- The model's reader: d is 41 less the depth. -/
def mread (l : List UInt8) : Nat → Nat → Option (FT × Nat)
  | 0, _ => none
  | d + 1, i =>
    if l.length ≤ i then none
    else if l[i]? = some 40 then
      match mparts (mread l d) l (l.length + 1) (Tm.atomEnd l (i + 1)) [] with
      | none => none
      | some (ps, j) => if l[j]? = some 41 then match comb (sl l (i + 1) (Tm.atomEnd l (i + 1))) ps with
          | none => none
          | some t => some (t, j + 1)
        else none
    else match word (sl l i (Tm.atomEnd l i)) with
      | none => none
      | some t => some (t, Tm.atomEnd l i)

def mfun (l : List UInt8) : Option FT :=
  if 400 < l.length then none else
  match mread l 41 0 with
  | some (t, j) => if j = l.length ∧ size t ≤ 40 then some t else none
  | none => none

def pparts (rd : Nat → Nat → Option (FT × Nat × Nat)) (l : List UInt8) : Nat → Nat → Nat → List FT → Option (List FT × Nat × Nat)
  | 0, _, _, _ => none
  | n + 1, i, k, acc => if l[i]? = some 32 then match rd (i + 1) k with
      | none => none
      | some (t, j, k') => pparts rd l n j k' (acc ++ [t])
    else some (acc, i, k)

/-- The program's reader: k is how many atoms may still come, at most d. -/
def pread (l : List UInt8) : Nat → Nat → Nat → Option (FT × Nat × Nat)
  | 0, _, _ => none
  | d + 1, i, k =>
    if k = 0 then none
    else if l[i]? = some 40 then
      match pparts (pread l d) l (l.length + 1) (Tm.atomEnd l (i + 1)) (k - 1) [] with
      | none => none
      | some (ps, j, k') => if l[j]? = some 41 then match comb (sl l (i + 1) (Tm.atomEnd l (i + 1))) ps with
          | none => none
          | some t => some (t, j + 1, k')
        else none
    else match word (sl l i (Tm.atomEnd l i)) with
      | none => none
      | some t => some (t, Tm.atomEnd l i, k - 1)

def parse (l : List UInt8) : Option FT :=
  match pread l 40 0 40 with
  | some (t, j, _) => if j = l.length then some t else none
  | none => none

theorem atomEnd_ge (l : List UInt8) (i : Nat) : i ≤ Tm.atomEnd l i := by unfold Tm.atomEnd; omega
theorem atomEnd_le (l : List UInt8) (i : Nat) (h : i ≤ l.length) : Tm.atomEnd l i ≤ l.length := by
  unfold Tm.atomEnd
  have : ((l.drop i).takeWhile fun c => c != 32 && c != 40 && c != 41).length ≤ (l.drop i).length := (List.takeWhile_prefix _).length_le
  simp at this
  omega
theorem sl_len (l : List UInt8) (i j : Nat) (h : j ≤ l.length) : (sl l i j).length = j - i := by
  simp [sl]; omega

theorem sum_app (xs : List FT) (t : FT) : ((xs ++ [t]).map size).sum = (xs.map size).sum + size t := by simp

/-! what the model's reader reads is well made -/

theorem mparts_facts {rd : Nat → Option (FT × Nat)} {l : List UInt8}
    (hrd : ∀ i t j, i ≤ l.length → rd i = some (t, j) → ok t ∧ i + 1 ≤ j ∧ j ≤ l.length ∧ j + 1 ≤ i + 4 * size t) :
    ∀ (n i : Nat) (acc ps : List FT) (j : Nat), i ≤ l.length → (∀ f ∈ acc, ok f) → mparts rd l n i acc = some (ps, j) →
      (∀ f ∈ ps, ok f) ∧ i ≤ j ∧ j ≤ l.length ∧ (acc.map size).sum ≤ (ps.map size).sum ∧ j + 4 * (acc.map size).sum ≤ i + 4 * (ps.map size).sum
  | 0, _, _, _, _, _, _, h => by simp [mparts] at h
  | n + 1, i, acc, ps, j, hi, ha, h => by
    simp only [mparts] at h
    split at h
    · rename_i h32
      have hi1 : i + 1 ≤ l.length := (List.getElem?_eq_some_iff.1 h32).1
      cases hr : rd (i + 1) with
      | none => rw [hr] at h; simp at h
      | some q =>
        obtain ⟨t, k⟩ := q
        rw [hr] at h
        simp only at h
        obtain ⟨h1, h2, h3, h4⟩ := hrd _ _ _ hi1 hr
        obtain ⟨g1, g2, g3, g4, g5⟩ := mparts_facts hrd n k (acc ++ [t]) ps j h3 (by intro f hf; rcases List.mem_append.1 hf with hf | hf; exact ha f hf; simp at hf; subst hf; exact h1) h
        rw [sum_app] at g4 g5
        exact ⟨g1, by omega, g3, by omega, by omega⟩
    · simp only [Option.some.injEq, Prod.mk.injEq] at h
      obtain ⟨rfl, rfl⟩ := h
      exact ⟨ha, Nat.le_refl _, hi, Nat.le_refl _, Nat.le_refl _⟩

theorem mread_facts (l : List UInt8) : ∀ (d i : Nat) (t : FT) (j : Nat), i ≤ l.length → mread l d i = some (t, j) → ok t ∧ i + 1 ≤ j ∧ j ≤ l.length ∧ j + 1 ≤ i + 4 * size t
  | 0, _, _, _, _, h => by simp [mread] at h
  | d + 1, i, t, j, hi, h => by
    simp only [mread] at h
    split at h
    · cases h
    · rename_i hlt
      split at h
      · rename_i h40
        have hi1 : i + 1 ≤ l.length := by omega
        have ha1 := atomEnd_ge l (i + 1)
        have ha2 := atomEnd_le l (i + 1) hi1
        cases hm : mparts (mread l d) l (l.length + 1) (Tm.atomEnd l (i + 1)) [] with
        | none => rw [hm] at h; simp at h
        | some q =>
          obtain ⟨ps, k⟩ := q
          rw [hm] at h
          simp only at h
          obtain ⟨g1, g2, g3, _, g5⟩ := mparts_facts (mread_facts l d) _ _ _ _ _ ha2 (by simp) hm
          split at h
          · rename_i h41
            cases hc : comb (sl l (i + 1) (Tm.atomEnd l (i + 1))) ps with
            | none => rw [hc] at h; simp at h
            | some u =>
              rw [hc] at h
              simp only [Option.some.injEq, Prod.mk.injEq] at h
              obtain ⟨rfl, rfl⟩ := h
              obtain ⟨c1, c2, c3⟩ := comb_facts hc g1
              rw [sl_len _ _ _ ha2] at c3
              have hk : k + 1 ≤ l.length := (List.getElem?_eq_some_iff.1 h41).1
              simp at g5
              exact ⟨c1, by omega, hk, by omega⟩
          · cases h
      · cases hw : word (sl l i (Tm.atomEnd l i)) with
        | none => rw [hw] at h; simp at h
        | some u =>
          rw [hw] at h
          simp only [Option.some.injEq, Prod.mk.injEq] at h
          obtain ⟨rfl, rfl⟩ := h
          obtain ⟨w1, w2, w3, w4, _⟩ := word_facts hw
          have ha2 := atomEnd_le l i hi
          rw [sl_len _ _ _ ha2] at w3 w4
          exact ⟨w1, by omega, ha2, by omega⟩

/-! both read the same -/

theorem pparts_m {pd : Nat → Nat → Option (FT × Nat × Nat)} {rd : Nat → Option (FT × Nat)} {l : List UInt8}
    (hp : ∀ i k t j k', pd i k = some (t, j, k') → rd i = some (t, j) ∧ size t + k' = k) :
    ∀ (n i k : Nat) (acc ps : List FT) (j k' : Nat), pparts pd l n i k acc = some (ps, j, k') → mparts rd l n i acc = some (ps, j) ∧ (ps.map size).sum + k' = (acc.map size).sum + k
  | 0, _, _, _, _, _, _, h => by simp [pparts] at h
  | n + 1, i, k, acc, ps, j, k', h => by
    simp only [pparts] at h
    simp only [mparts]
    split at h
    · rename_i h32
      rw [if_pos h32]
      cases hr : pd (i + 1) k with
      | none => rw [hr] at h; simp at h
      | some q =>
        obtain ⟨t, a, b⟩ := q
        rw [hr] at h
        simp only at h
        obtain ⟨h1, h2⟩ := hp _ _ _ _ _ hr
        obtain ⟨g1, g2⟩ := pparts_m hp n a b (acc ++ [t]) ps j k' h
        rw [sum_app] at g2
        rw [h1]
        exact ⟨g1, by omega⟩
    · rename_i h32
      rw [if_neg h32]
      simp only [Option.some.injEq, Prod.mk.injEq] at h
      obtain ⟨rfl, rfl, rfl⟩ := h
      exact ⟨rfl, rfl⟩

theorem pread_m (l : List UInt8) : ∀ (d e i k : Nat) (t : FT) (j k' : Nat), d ≤ e → pread l d i k = some (t, j, k') → mread l e i = some (t, j) ∧ size t + k' = k
  | 0, _, _, _, _, _, _, _, h => by simp [pread] at h
  | d + 1, 0, _, _, _, _, _, hd, _ => by omega
  | d + 1, e + 1, i, k, t, j, k', hd, h => by
    simp only [pread] at h
    simp only [mread]
    split at h
    · cases h
    · rename_i hk
      split at h
      · rename_i h40
        rw [if_neg (by have := (List.getElem?_eq_some_iff.1 h40).1; omega), if_pos h40]
        cases hm : pparts (pread l d) l (l.length + 1) (Tm.atomEnd l (i + 1)) (k - 1) [] with
        | none => rw [hm] at h; simp at h
        | some q =>
          obtain ⟨ps, a, b⟩ := q
          rw [hm] at h
          simp only at h
          obtain ⟨g1, g2⟩ := pparts_m (fun i k t j k' => pread_m l d e i k t j k' (by omega)) _ _ _ _ _ _ _ hm
          rw [g1]
          simp only
          split at h
          · rename_i h41
            rw [if_pos h41]
            cases hc : comb (sl l (i + 1) (Tm.atomEnd l (i + 1))) ps with
            | none => rw [hc] at h; simp at h
            | some u =>
              rw [hc] at h
              simp only [Option.some.injEq, Prod.mk.injEq] at h
              obtain ⟨rfl, rfl, rfl⟩ := h
              refine ⟨rfl, ?_⟩
              have := comb_size hc
              simp at g2
              omega
          · cases h
      · rename_i h40
        cases hw : word (sl l i (Tm.atomEnd l i)) with
        | none => rw [hw] at h; simp at h
        | some u =>
          rw [hw] at h
          simp only [Option.some.injEq, Prod.mk.injEq] at h
          obtain ⟨rfl, rfl, rfl⟩ := h
          have hlt : ¬ l.length ≤ i := by
            intro hle
            have w3 := (word_facts hw).2.2.1
            simp [sl, List.drop_eq_nil_of_le hle] at w3
          rw [if_neg hlt, if_neg h40]
          exact ⟨rfl, by have := (word_facts hw).2.1; omega⟩
where
  comb_size {a : List UInt8} {ps : List FT} {t : FT} (h : comb a ps = some t) : size t = 1 + (ps.map size).sum := by
    unfold comb at h
    repeat' split at h
    all_goals first
      | (cases h; simp [size])
      | cases h

theorem mparts_p {pd : Nat → Nat → Option (FT × Nat × Nat)} {rd : Nat → Option (FT × Nat)} {l : List UInt8} {K : Nat}
    (hp : ∀ i k t j, rd i = some (t, j) → size t ≤ k → k ≤ K → pd i k = some (t, j, k - size t)) :
    ∀ (n i k : Nat) (acc ps : List FT) (j : Nat), mparts rd l n i acc = some (ps, j) → (ps.map size).sum ≤ (acc.map size).sum + k → k ≤ K →
      (acc.map size).sum ≤ (ps.map size).sum ∧ pparts pd l n i k acc = some (ps, j, k + (acc.map size).sum - (ps.map size).sum)
  | 0, _, _, _, _, _, h, _, _ => by simp [mparts] at h
  | n + 1, i, k, acc, ps, j, h, hk, hK => by
    simp only [mparts] at h
    simp only [pparts]
    split at h
    · rename_i h32
      rw [if_pos h32]
      cases hr : rd (i + 1) with
      | none => rw [hr] at h; simp at h
      | some q =>
        obtain ⟨t, a⟩ := q
        rw [hr] at h
        simp only at h
        have hmono := mparts_mono n a (acc ++ [t]) ps j h
        rw [sum_app] at hmono
        rw [hp _ k _ _ hr (by omega) hK]
        obtain ⟨g1, g2⟩ := mparts_p hp n a (k - size t) (acc ++ [t]) ps j h (by rw [sum_app]; omega) (by omega)
        rw [sum_app] at g1 g2
        simp only
        rw [g2]
        exact ⟨by omega, by congr 3; omega⟩
    · rename_i h32
      rw [if_neg h32]
      simp only [Option.some.injEq, Prod.mk.injEq] at h
      obtain ⟨rfl, rfl⟩ := h
      exact ⟨Nat.le_refl _, by simp⟩
where
  mparts_mono {rd : Nat → Option (FT × Nat)} {l : List UInt8} : ∀ (n i : Nat) (acc ps : List FT) (j : Nat), mparts rd l n i acc = some (ps, j) → (acc.map size).sum ≤ (ps.map size).sum
    | 0, _, _, _, _, h => by simp [mparts] at h
    | n + 1, i, acc, ps, j, h => by
      simp only [mparts] at h
      split at h
      · cases hr : rd (i + 1) with
        | none => rw [hr] at h; simp at h
        | some q =>
          rw [hr] at h
          have := mparts_mono n _ _ _ _ h
          rw [sum_app] at this
          omega
      · simp only [Option.some.injEq, Prod.mk.injEq] at h
        obtain ⟨rfl, rfl⟩ := h
        exact Nat.le_refl _

theorem mread_p (l : List UInt8) : ∀ (e d i k : Nat) (t : FT) (j : Nat), mread l e i = some (t, j) → size t ≤ k → k ≤ d → pread l d i k = some (t, j, k - size t)
  | 0, _, _, _, _, _, h, _, _ => by simp [mread] at h
  | e + 1, 0, i, k, t, j, h, hk, hd => by have := size_pos t; omega
  | e + 1, d + 1, i, k, t, j, h, hk, hd => by
    have hpos := size_pos t
    simp only [mread] at h
    simp only [pread]
    rw [if_neg (by omega)]
    split at h
    · cases h
    · split at h
      · rename_i h40
        rw [if_pos h40]
        cases hm : mparts (mread l e) l (l.length + 1) (Tm.atomEnd l (i + 1)) [] with
        | none => rw [hm] at h; simp at h
        | some q =>
          obtain ⟨ps, a⟩ := q
          rw [hm] at h
          simp only at h
          split at h
          · rename_i h41
            cases hc : comb (sl l (i + 1) (Tm.atomEnd l (i + 1))) ps with
            | none => rw [hc] at h; simp at h
            | some u =>
              rw [hc] at h
              simp only [Option.some.injEq, Prod.mk.injEq] at h
              obtain ⟨rfl, rfl⟩ := h
              have hs := pread_m.comb_size hc
              obtain ⟨_, g2⟩ := mparts_p (K := d) (fun i k t j h h1 h2 => mread_p l e d i k t j h h1 h2) _ _ (k - 1) _ _ _ hm (by simp; omega) (by omega)
              rw [g2]
              simp only
              rw [if_pos h41, hc]
              simp
              omega
          · cases h
      · rename_i h40
        rw [if_neg h40]
        cases hw : word (sl l i (Tm.atomEnd l i)) with
        | none => rw [hw] at h; simp at h
        | some u =>
          rw [hw] at h
          simp only [Option.some.injEq, Prod.mk.injEq] at h
          obtain ⟨rfl, rfl⟩ := h
          simp [(word_facts hw).2.1]

theorem parse_eq (l : List UInt8) : parse l = mfun l := by
  unfold parse mfun
  cases hp : pread l 40 0 40 with
  | some q =>
    obtain ⟨t, j, k⟩ := q
    obtain ⟨h1, h2⟩ := pread_m l 40 41 0 40 t j k (by omega) hp
    obtain ⟨_, _, h3, h4⟩ := mread_facts l 41 0 t j (by omega) h1
    simp only
    by_cases hj : j = l.length
    · rw [if_pos hj, if_neg (by omega), h1]; simp only; rw [if_pos ⟨hj, by omega⟩]
    · rw [if_neg hj, h1]; simp [hj]
  | none =>
    simp only
    split
    · rfl
    · cases hm : mread l 41 0 with
      | none => rfl
      | some q =>
        obtain ⟨t, j⟩ := q
        simp only
        split
        · rename_i h
          rw [mread_p l 41 40 0 40 t j hm h.2 (by omega)] at hp
          cases hp
        · rfl

theorem parse_facts {l : List UInt8} {t : FT} (h : parse l = some t) : ok t ∧ size t ≤ 40 ∧ l.length ≤ 400 := by
  rw [parse_eq] at h
  unfold mfun at h
  split at h
  · cases h
  · rename_i hl
    cases hm : mread l 41 0 with
    | none => rw [hm] at h; simp at h
    | some q =>
      obtain ⟨t', j⟩ := q
      rw [hm] at h
      simp only at h
      split at h
      · rename_i hc
        cases h
        exact ⟨(mread_facts l 41 0 t j (by omega) hm).1, hc.2, by omega⟩
      · cases h

end FT
end Go.Proofs.YtjomocjlnjgkeaaGreat
