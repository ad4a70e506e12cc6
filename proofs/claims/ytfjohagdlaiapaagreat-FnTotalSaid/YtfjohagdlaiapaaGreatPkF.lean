/-
  The library's strings.IndexAny in this program: the numbers of its functions and types.
-/
import Derived.Shelf.Strings.IndexAnyAll
import Derived.Test.YtfjohagdlaiapaaGreatProg
import Derived.WalkKit
import Derived.WalkSpells
import Derived.WalkLawsBesides
import Derived.Test.YtfjohagdlaiapaaGreatPkB
import Derived.Laws.RangeAny
import Derived.LoopN
import Derived.WalkMore
import Derived.Laws.Runes
import Derived.Shelf.Small.Utf8
import Derived.Shelf.Small.Strs
import Derived.Deep.LoopGhost
import Derived.Test.YtfjohagdlaiapaaGreatPkC
import Derived.OwnWalk
import Derived.Laws.OwnMore
import Derived.Lib.OwnKind
import Derived.Lib.SmallJoins
import Derived.Test.YtfjohagdlaiapaaGreatApp
namespace Go.Proofs.YtfjohagdlaiapaaGreat
open Go.RowKit Go.Shelf

def rn : Ren := ⟨fun
  | 119 => 135
  | 137 => 134
  | 152 => 116
  | 153 => 94
  | 217 => 140
  | 224 => 136
  | 225 => 137
  | 226 => 117
  | 227 => 118
  | 228 => 119
  | 266 => 141
  | n => n, fun
  | 0 => 0
  | 3 => 3
  | 4 => 4
  | 5 => 5
  | 9 => 9
  | 21 => 21
  | 46 => 183
  | 116 => 168
  | 117 => 169
  | 124 => 184
  | n => n, fun n => n⟩

set_option maxRecDepth 100000 in
theorem lays : Lays.n153 Tryz.prog rn := {
  mixed := by kernel_rfl
  f119 := by kernel_rfl
  f137 := by kernel_rfl
  f152 := by kernel_rfl
  f153 := by kernel_rfl
  f217 := by kernel_rfl
  f224 := by kernel_rfl
  f225 := by kernel_rfl
  f226 := by kernel_rfl
  f227 := by kernel_rfl
  f228 := by kernel_rfl
  f266 := by kernel_rfl
  t0 := by kernel_rfl
  a0 := fun _ => by kernel_rfl
  z0 := fun _ => by kernel_rfl
  v0 := fun _ => by kernel_rfl
  t3 := by kernel_rfl
  a3 := fun _ => by kernel_rfl
  z3 := fun _ => by kernel_rfl
  v3 := fun _ => by kernel_rfl
  t4 := by kernel_rfl
  a4 := fun _ => by kernel_rfl
  z4 := fun _ => by kernel_rfl
  v4 := fun _ => by kernel_rfl
  t5 := by kernel_rfl
  a5 := fun _ => by kernel_rfl
  z5 := fun _ => by kernel_rfl
  v5 := fun _ => by kernel_rfl
  t9 := by kernel_rfl
  a9 := fun _ => by kernel_rfl
  z9 := fun _ => by kernel_rfl
  v9 := fun _ => by kernel_rfl
  t21 := by kernel_rfl
  a21 := fun _ => by kernel_rfl
  z21 := fun _ => by kernel_rfl
  v21 := fun _ => by kernel_rfl
  t46 := by kernel_rfl
  a46 := fun _ => by kernel_rfl
  z46 := fun _ => by kernel_rfl
  v46 := fun _ => by kernel_rfl
  t116 := by kernel_rfl
  a116 := fun _ => by kernel_rfl
  z116 := fun _ => by kernel_rfl
  t117 := by kernel_rfl
  a117 := fun _ => by kernel_rfl
  z117 := fun _ => by kernel_rfl
  v117 := fun _ => by kernel_rfl
  t124 := by kernel_rfl
  a124 := fun _ => by kernel_rfl
  z124 := fun _ => by kernel_rfl
  v124 := fun _ => by kernel_rfl }
end Go.Proofs.YtfjohagdlaiapaaGreat

namespace Go.Proofs.YtfjohagdlaiapaaGreat
open Go.RowKit Go.Shelf

set_option maxHeartbeats 2000000
set_option maxRecDepth 100000

def delims : ByteArray := ⟨#[40, 41, 32]⟩

theorem u8_ge (n : Nat) (h2 : n < 256) : (UInt8.ofNat n).toNat = n := by simp [UInt8.toNat_ofNat']; omega

/-- The bytes of a rune that is no ASCII byte are no ASCII bytes. -/
theorem encode_high (n : Nat) (h : 128 ≤ n) (hv : Utf8.valid (n : Int) = true) : ∃ e : ByteArray, Utf8.encode (n : Int) = e ∧ 2 ≤ e.size ∧ e.size ≤ 4 ∧ ∀ i (hi : i < e.size), 128 ≤ (e[i]'hi).toNat := by
  have hn : n ≤ 1114111 := by
    unfold Utf8.valid at hv
    simp only [Bool.or_eq_true, Bool.and_eq_true, decide_eq_true_eq] at hv
    omega
  have e0 : Utf8.encode (n : Int) = if n < 0x80 then ⟨#[UInt8.ofNat n]⟩ else if n < 0x800 then ⟨#[UInt8.ofNat (0xC0 + n / 64), UInt8.ofNat (0x80 + n % 64)]⟩
      else if n < 0x10000 then ⟨#[UInt8.ofNat (0xE0 + n / 4096), UInt8.ofNat (0x80 + n / 64 % 64), UInt8.ofNat (0x80 + n % 64)]⟩
      else ⟨#[UInt8.ofNat (0xF0 + n / 262144), UInt8.ofNat (0x80 + n / 4096 % 64), UInt8.ofNat (0x80 + n / 64 % 64), UInt8.ofNat (0x80 + n % 64)]⟩ := by
    unfold Utf8.encode
    simp only [hv, if_true, Int.toNat_natCast]
  rw [if_neg (by omega)] at e0
  by_cases h1 : n < 0x800
  · rw [if_pos h1] at e0
    refine ⟨_, e0, Nat.le_refl 2, show 2 ≤ 4 by omega, fun i hi => ?_⟩
    have hi2 : i < 2 := hi
    obtain rfl | rfl : i = 0 ∨ i = 1 := by omega
    · show 128 ≤ (UInt8.ofNat (0xC0 + n / 64)).toNat; rw [u8_ge _ (by omega)]; omega
    · show 128 ≤ (UInt8.ofNat (0x80 + n % 64)).toNat; rw [u8_ge _ (by omega)]; omega
  · rw [if_neg h1] at e0
    by_cases h2 : n < 0x10000
    · rw [if_pos h2] at e0
      refine ⟨_, e0, show 2 ≤ 3 by omega, show 3 ≤ 4 by omega, fun i hi => ?_⟩
      have hi2 : i < 3 := hi
      obtain rfl | rfl | rfl : i = 0 ∨ i = 1 ∨ i = 2 := by omega
      · show 128 ≤ (UInt8.ofNat (0xE0 + n / 4096)).toNat; rw [u8_ge _ (by omega)]; omega
      · show 128 ≤ (UInt8.ofNat (0x80 + n / 64 % 64)).toNat; rw [u8_ge _ (by omega)]; omega
      · show 128 ≤ (UInt8.ofNat (0x80 + n % 64)).toNat; rw [u8_ge _ (by omega)]; omega
    · rw [if_neg h2] at e0
      refine ⟨_, e0, show 2 ≤ 4 by omega, Nat.le_refl 4, fun i hi => ?_⟩
      have hi2 : i < 4 := hi
      obtain rfl | rfl | rfl | rfl : i = 0 ∨ i = 1 ∨ i = 2 ∨ i = 3 := by omega
      · show 128 ≤ (UInt8.ofNat (0xF0 + n / 262144)).toNat; rw [u8_ge _ (by omega)]; omega
      · show 128 ≤ (UInt8.ofNat (0x80 + n / 4096 % 64)).toNat; rw [u8_ge _ (by omega)]; omega
      · show 128 ≤ (UInt8.ofNat (0x80 + n / 64 % 64)).toNat; rw [u8_ge _ (by omega)]; omega
      · show 128 ≤ (UInt8.ofNat (0x80 + n % 64)).toNat; rw [u8_ge _ (by omega)]; omega

theorem get_bang (s : ByteArray) (i : Nat) (h : i < s.size) : s.get! i = s[i]'h := by
  show s.data[i]! = s.data[i]'h
  rw [getElem!_pos s.data i h]

/-- What is decoded at a byte that is no ASCII byte. -/
theorem decode_high (s : ByteArray) (i : Nat) (hi : i < s.size) (hx : 128 ≤ (s[i]'hi).toNat) :
    128 ≤ (Utf8.decode s i).1 ∧ Utf8.valid ((Utf8.decode s i).1 : Int) = true ∧ 1 ≤ (Utf8.decode s i).2 ∧ i + (Utf8.decode s i).2 ≤ s.size ∧ ∀ j (hj : j < s.size), i ≤ j → j < i + (Utf8.decode s i).2 → 128 ≤ (s[j]'hj).toNat := by
  have hx' : 128 ≤ (s.get! i).toNat := by rw [get_bang s i hi]; exact hx
  have one : ∀ j (hj : j < s.size), i ≤ j → j < i + 1 → 128 ≤ (s[j]'hj).toNat := fun j hj h1 h2 => by
    obtain rfl : j = i := by omega
    exact hx
  have err : Utf8.valid ((Utf8.runeError : Nat) : Int) = true := by decide
  have bad : 128 ≤ ((Utf8.runeError, 1) : Nat × Nat).1 ∧ Utf8.valid ((((Utf8.runeError, 1) : Nat × Nat).1 : Nat) : Int) = true ∧ 1 ≤ ((Utf8.runeError, 1) : Nat × Nat).2 ∧ i + ((Utf8.runeError, 1) : Nat × Nat).2 ≤ s.size ∧ ∀ j (hj : j < s.size), i ≤ j → j < i + ((Utf8.runeError, 1) : Nat × Nat).2 → 128 ≤ (s[j]'hj).toNat :=
    ⟨by decide, err, by decide, by show i + 1 ≤ s.size; omega, one⟩
  have cont : ∀ k, (decide (i + k < s.size) && (s.get! (i + k)).toNat / 64 == 2) = true → ∃ h : i + k < s.size, 128 ≤ (s[i + k]'h).toNat := fun k h => by
    simp only [Bool.and_eq_true, decide_eq_true_eq, beq_iff_eq] at h
    refine ⟨h.1, ?_⟩
    rw [← get_bang s (i + k) h.1]
    omega
  unfold Utf8.decode
  simp only [Nat.add_zero]
  rw [if_neg (by omega)]
  split
  · rename_i h
    simp only [Bool.and_eq_true] at h
    obtain ⟨h1, g1⟩ := cont 1 (by simpa using h.2)
    split
    · rename_i hc
      refine ⟨hc, ?_, (show 1 ≤ 2 by decide), by show i + 2 ≤ s.size; omega, fun j hj hj1 hj2 => ?_⟩
      · unfold Utf8.valid
        simp only [Bool.or_eq_true, Bool.and_eq_true, decide_eq_true_eq]
        left
        have : (s.get! i).toNat % 32 * 64 + (s.get! (i + 1)).toNat % 64 < 2048 := by omega
        omega
      · simp only at hj2
        obtain rfl | rfl : j = i ∨ j = i + 1 := by omega
        · exact hx
        · exact g1
    · exact bad
  · split
    · rename_i h
      simp only [Bool.and_eq_true] at h
      obtain ⟨h1, g1⟩ := cont 1 (by simpa using h.1.2)
      obtain ⟨h2, g2⟩ := cont 2 (by simpa using h.2)
      split
      · rename_i hc
        simp only [Bool.and_eq_true, decide_eq_true_eq] at hc
        refine ⟨by have := hc.1; show 128 ≤ _; omega, hc.2, (show 1 ≤ 3 by decide), by show i + 3 ≤ s.size; omega, fun j hj hj1 hj2 => ?_⟩
        simp only at hj2
        obtain rfl | rfl | rfl : j = i ∨ j = i + 1 ∨ j = i + 2 := by omega
        · exact hx
        · exact g1
        · exact g2
      · exact bad
    · split
      · rename_i h
        simp only [Bool.and_eq_true] at h
        obtain ⟨h1, g1⟩ := cont 1 (by simpa using h.1.1.2)
        obtain ⟨h2, g2⟩ := cont 2 (by simpa using h.1.2)
        obtain ⟨h3, g3⟩ := cont 3 (by simpa using h.2)
        split
        · rename_i hc
          simp only [Bool.and_eq_true, decide_eq_true_eq] at hc
          refine ⟨by have := hc.1; show 128 ≤ _; omega, hc.2, (show 1 ≤ 4 by decide), by show i + 4 ≤ s.size; omega, fun j hj hj1 hj2 => ?_⟩
          simp only at hj2
          obtain rfl | rfl | rfl | rfl : j = i ∨ j = i + 1 ∨ j = i + 2 ∨ j = i + 3 := by omega
          · exact hx
          · exact g1
          · exact g2
          · exact g3
        · exact bad
      · exact bad
theorem indexByte_none (l : List UInt8) (c : UInt8) (h : ∀ x ∈ l, x ≠ c) : Lib.indexByte l c = -1 := by
  induction l with
  | nil => rfl
  | cons b l ih =>
    rw [Lib.indexByte, ih (fun x hx => h x (by simp [hx]))]
    have : (b == c) = false := by rw [beq_eq_false_iff_ne]; exact h b (by simp)
    simp [this]

theorem idx_high (s : ByteArray) (x : UInt8) (a b : Nat) (hs : ∀ y ∈ s.data.toList, y.toNat < 128) (hx : 128 ≤ x.toNat) : Lib.indexByte (s.extract a b).data.toList ((x.toNat : Int).toNat.toUInt8) = -1 := by
  have e : (x.toNat : Int).toNat.toUInt8 = x := by simp
  rw [e]
  refine indexByte_none _ _ fun y hy he => ?_
  subst he
  have hy2 : y ∈ s.data.toList := by
    simp [ByteArray.data_extract] at hy
    exact List.mem_of_mem_drop (List.mem_of_mem_take hy) |> fun h => by first | exact h | simpa using h
  have := hs y hy2
  omega

theorem after_drawn (w : World) (n : Nat) : After w (w.drewN n) := ⟨rfl, rfl, rfl, Nat.le_refl _, fun _ _ => rfl⟩

/-- A rune that is no ASCII byte is not in "() ". -/
theorem rune_high (w : World) (n : Nat) (h : 128 ≤ n) (hv : Utf8.valid (n : Int) = true) :
    Calls Tryz.prog 116 #[.string delims, .int .i32 n] w fun e w' => e = .returned (.int .i64 (-1)) ∧ After w w' := by
  have hi : ¬ (n : Int) < 128 := by omega
  have hz : delims.size = 3 := rfl
  by_cases hr : n = 65533
  · subst hr
    have n0 : ∀ ty, (Instr.next (.pointer (some ⟨w.heap.size, 0, none⟩)) true ty).run Tryz.prog (w.iter delims 0) = .ok (.tuple #[.bool true, .int .i64 0, .int .i32 40]) (w.iter delims 1) := fun ty => by
      have := run_next_any (P := Tryz.prog) w delims 0 ty (by decide)
      rw [show Utf8.decode delims 0 = (40, 1) by decide +kernel] at this
      exact this
    have n1 : ∀ ty, (Instr.next (.pointer (some ⟨w.heap.size, 0, none⟩)) true ty).run Tryz.prog (w.iter delims 1) = .ok (.tuple #[.bool true, .int .i64 1, .int .i32 41]) (w.iter delims 2) := fun ty => by
      have := run_next_any (P := Tryz.prog) w delims 1 ty (by decide)
      rw [show Utf8.decode delims 1 = (41, 1) by decide +kernel] at this
      exact this
    have n2 : ∀ ty, (Instr.next (.pointer (some ⟨w.heap.size, 0, none⟩)) true ty).run Tryz.prog (w.iter delims 2) = .ok (.tuple #[.bool true, .int .i64 2, .int .i32 32]) (w.iter delims 3) := fun ty => by
      have := run_next_any (P := Tryz.prog) w delims 2 ty (by decide)
      rw [show Utf8.decode delims 2 = (32, 1) by decide +kernel] at this
      exact this
    have n3 : ∀ ty, (Instr.next (.pointer (some ⟨w.heap.size, 0, none⟩)) true ty).run Tryz.prog (w.iter delims 3) = .ok (.tuple #[.bool false]) (w.iter delims 3) := fun ty => run_next_end (P := Tryz.prog) w delims 3 ty (by decide)
    go_enter Tryz.func116, Tryz.ntmps116
    go_wp2_with fail
    refine wp_loop_rounds 4 ?_
    rw [rounds_succ]; go_wp2_with fail
    rw [rounds_succ]; go_wp2_with fail
    rw [rounds_succ]; go_wp2_with fail
    rw [rounds_succ]; go_wp2_with fail
    go_ret
    exact ⟨rfl, After.new _ _⟩
  · have hne : ((n : Int) == 65533) = false := by rw [beq_eq_false_iff_ne]; omega
    obtain ⟨e, he, h2, h4, hb⟩ := encode_high n h hv
    have hval := fun W => Any.utf8_ValidRune (P := Tryz.prog) (ρ := rn) { lays with } (n : Int) W
    have hvr : Lib.validRune (n : Int) = true := by
      unfold Lib.validRune
      unfold Utf8.valid at hv
      simp only [Bool.or_eq_true, Bool.and_eq_true, decide_eq_true_eq] at hv ⊢
      omega
    simp only [hvr] at hval
    have hs21 : (Tryz.prog.underlying 21).isSome = true := by kernel_rfl
    have hd9 : Tryz.prog.underlying 9 = some .string := by kernel_rfl
    have hidx := fun s c W => Any.strings_IndexByte (P := Tryz.prog) (ρ := rn) { lays with } s c W
    go_enter Tryz.func116, Tryz.ntmps116
    have hd1 : (delims[1]'(by decide)).toNat = 41 := rfl
    have hw3 : IntKind.i64.wrap 3 = 3 := by decide
    have hd2 : (delims[2]'(by decide)).toNat = 32 := rfl
    obtain hsz | hsz | hsz : e.size = 2 ∨ e.size = 3 ∨ e.size = 4 := by omega
    · obtain ⟨x, hx⟩ : ∃ x : UInt8, e[1]'(by omega) = x := ⟨_, rfl⟩
      have hx1 := hb 1 (by omega)
      rw [hx] at hx1
      have hne1 : ((41 : Int) != (x.toNat : Int)) = true := by simp; omega
      have hI := fun a b => idx_high delims x a b (by decide) hx1
      clear hb
      go_wp2_with (go_at_call 135; refine (hval _).mono ?_; rintro e1 w1 ⟨rfl, rfl⟩)
      go_step3
      go_wp2_with fail
      refine wp_loop_rounds 1 ?_
      rw [rounds_succ]
      go_wp2_with fail
      go_step3
      go_wp2_with fail
      go_quiet (fail)
      go_wp2_with fail
      go_quiet ((go_at_call 134; refine ((hidx _ _ _).mono ?_); rintro e1 w1 ⟨rfl, rfl⟩; exact ⟨by first | exact congrArg (fun z => Ending.returned (Value.int .i64 z)) (hI _ _) | rfl, _, rfl⟩))
      go_wp2_with fail
      simp only [go_sem]
      go_ret
      exact ⟨rfl, after_drawn _ _⟩
    · obtain ⟨x, hx⟩ : ∃ x : UInt8, e[2]'(by omega) = x := ⟨_, rfl⟩
      have hx1 := hb 2 (by omega)
      rw [hx] at hx1
      have hne1 : ((32 : Int) != (x.toNat : Int)) = true := by simp; omega
      have hE : Lib.indexByte (⟨#[]⟩ : ByteArray).data.toList ((x.toNat : Int).toNat.toUInt8) = -1 := rfl
      clear hb
      go_wp2_with (go_at_call 135; refine (hval _).mono ?_; rintro e1 w1 ⟨rfl, rfl⟩)
      go_step3
      go_wp2_with fail
      refine wp_loop_rounds 1 ?_
      rw [rounds_succ]
      go_wp2_with fail
      go_step3
      go_wp2_with fail
      go_quiet (fail)
      go_wp2_with fail
      go_quiet ((go_at_call 134; refine ((hidx _ _ _).mono ?_); rintro e1 w1 ⟨rfl, rfl⟩; exact ⟨congrArg (fun z => Ending.returned (Value.int .i64 z)) hE, _, rfl⟩))
      go_wp2_with fail
      simp only [go_sem]
      go_ret
      exact ⟨rfl, after_drawn _ _⟩
    · clear hb
      go_wp2_with (go_at_call 135; refine (hval _).mono ?_; rintro e1 w1 ⟨rfl, rfl⟩)
      go_step3
      go_wp2_with fail
      refine wp_loop_rounds 1 ?_
      rw [rounds_succ]
      go_wp2_with fail
      rw [Exit.noGoto_ret]
      go_ret
      exact ⟨rfl, After.refl _⟩
theorem next_at (W : World) (b : Nat) (s : ByteArray) (pos : Nat) (ty : TypeId) (hb : W.heap[b]? = some (.stringIter s pos)) (h : pos < s.size) :
    (Instr.next (.pointer (some ⟨b, 0, none⟩)) true ty).run Tryz.prog W = .ok (.tuple #[.bool true, .int .i64 pos, .int .i32 (Utf8.decode s pos).1]) { W with heap := W.heap.setIfInBounds b (.stringIter s (pos + (Utf8.decode s pos).2)) } := by
  simp only [Instr.next, getObj, setObj, Sem.run_bind, Sem.run, hb, Result.andThen, h, if_true]
  simp [goInt]

theorem next_end (W : World) (b : Nat) (s : ByteArray) (pos : Nat) (ty : TypeId) (hb : W.heap[b]? = some (.stringIter s pos)) (h : ¬ pos < s.size) :
    (Instr.next (.pointer (some ⟨b, 0, none⟩)) true ty).run Tryz.prog W = .ok (.tuple #[.bool false]) W := by
  simp [Instr.next, getObj, Sem.run, hb, h]

theorem after_put {w W : World} (h : After w W) (o : Obj) : After w { W with heap := W.heap.setIfInBounds w.heap.size o } :=
  ⟨h.os, h.tape, h.output, by show w.heap.size ≤ (W.heap.setIfInBounds _ _).size; simpa using h.size, fun k hk => by
    show (W.heap.setIfInBounds w.heap.size o)[k]? = _
    rw [Array.getElem?_setIfInBounds_ne (by omega)]
    exact h.block k hk⟩

theorem put_at {W : World} {b : Nat} {o o' : Obj} (h : W.heap[b]? = some o') : ({ W with heap := W.heap.setIfInBounds b o } : World).heap[b]? = some o := by
  have := (Array.getElem?_eq_some_iff.1 h).1
  show (W.heap.setIfInBounds b o)[b]? = _
  simp [this]

theorem delim_mem (x : UInt8) : delims.data.toList.contains x = !Tm.mid x := by
  show List.contains [40, 41, 32] x = _
  simp only [List.contains_cons, List.contains_nil, Bool.or_false, Tm.mid]
  cases h1 : x == 32 <;> cases h2 : x == 40 <;> cases h3 : x == 41 <;> simp [bne, h1, h2, h3]

/-- Where the first of the three bytes stands, if one does. -/
theorem index_any (w : World) (s : ByteArray) (hs : s.size ≤ 1000000000) :
    Calls Tryz.prog 94 #[.string s, .string delims] w fun e w' => e = .returned (.int .i64 (Lib.indexAny s.data.toList delims.data.toList)) ∧ After w w' := by
  by_cases h8 : 8 < s.size
  · have hv116 : ∀ w, (zeroValue (rn.t 116)).run Tryz.prog w = .ok (.agg (Array.replicate 256 (.bool false))) w := fun w => by kernel_rfl
    have hi116 : (Tryz.prog.info? (rn.t 116)).map (·.size) = some 256 := by kernel_rfl
    refine (Any.strings_IndexAny_long lays hv116 hi116 s delims w (by decide) h8 (by omega) (by decide) ?_).mono ?_
    · intro j b hj
      have hm := List.mem_of_getElem? hj
      have : ∀ y ∈ delims.data.toList, y.toNat < 128 := by decide
      exact this b hm
    · rintro e w' ⟨rfl, rfl⟩
      exact ⟨rfl, (After.new _ _).alloc _⟩
  · have h8z : decide ((8 : Int) < (s.size : Int)) = false := decide_eq_false (by omega)
    have hset := fun n W => Any.strings_shouldUseASCIISet (P := Tryz.prog) (ρ := rn) { lays with } n W
    have hidx := fun s c W => Any.strings_IndexRune_ascii (P := Tryz.prog) (ρ := rn) { lays with } s c W
    have hz3 : delims.size = 3 := rfl
    have hemp : delims.toList.isEmpty = false := by rw [Lib.toList_data]; rfl
    go_enter Tryz.func94, Tryz.ntmps94
    go_wp2_with (go_at_call 117; refine (hset _ _).mono ?_; rintro e w' ⟨rfl, hw⟩; rw [hw, h8z])
    go_loopg [9, 10] s.size (fun g _ _ wx => ∃ i : Nat, i + g = s.size ∧ After w wx ∧ wx.heap[w.heap.size]? = some (.stringIter s i) ∧ Hid (Lib.NoAny s.data.toList delims.data.toList i))
    case atStart => exact ⟨0, by omega, After.new _ _, World.iter_heap _ _ _, Lib.NoAny.zero _ _⟩
    case round =>
      obtain ⟨i, hig, ha, hh, HN⟩ := hrel
      cases gk with
      | zero =>
        obtain rfl : i = s.size := by omega
        have hnx := fun ty => next_end _ _ s s.size ty hh (by omega)
        have HA := Lib.hid ha
        clear hh ha
        go_wp2_with fail
        go_ret
        exact ⟨by rw [Lib.indexAny_none (by rw [← Lib.size_eq]; exact HN.out)]; rfl, HA.out⟩
      | succ g =>
        have hi : i < s.size := by omega
        obtain ⟨x, hx⟩ : ∃ x : UInt8, s[i]'hi = x := ⟨_, rfl⟩
        have hxl : s.data.toList[i]? = some x := by rw [← hx]; exact Lib.data_getElem? s i hi
        have Hx := Lib.hid hxl
        have hnx := fun ty => next_at _ _ s i ty hh hi
        have ha2 := after_put ha (.stringIter s (i + (Utf8.decode s i).2))
        have hh2 := put_at (o := .stringIter s (i + (Utf8.decode s i).2)) hh
        by_cases h128 : x.toNat < 128
        · rw [decode_ascii s i hi (by rw [hx]; exact h128), hx] at hnx ha2 hh2
          simp only at hnx ha2 hh2
          obtain ⟨wn, hwn⟩ : ∃ wn, wn = ({ wr with heap := wr.heap.setIfInBounds w.heap.size (.stringIter s (i + 1)) } : World) := ⟨_, rfl⟩
          rw [← hwn] at hnx ha2
          replace hh2 : wn.heap[w.heap.size]? = some (.stringIter s (i + 1)) := by rw [hwn]; exact hh2
          clear hxl hx hwn hh ha
          have HA := Lib.hid ha2
          have HH := Lib.hid hh2
          clear ha2 hh2
          have hcon := Lib.contains_iff_indexByte delims.data.toList x
          have hback : ((x.toNat : Int)).toNat.toUInt8 = x := by simp
          cases hin : delims.data.toList.contains x
          · rw [hin] at hcon
            have hlt : ¬ ((0 : Int) ≤ Lib.indexByte delims.data.toList x) := of_decide_eq_false hcon.symm
            clear hcon
            go_wp2_with (go_at_call 116; refine (hidx _ _ _ (by omega) (by omega)).mono ?_; rintro e w' ⟨rfl, hw⟩; rw [hw, hback])
            go_roundg g
            case measure => omega
            case rel => exact ⟨i + 1, by omega, HA.out, HH.out, HN.out.succ Hx.out hin⟩
          · rw [hin] at hcon
            have hge : (0 : Int) ≤ Lib.indexByte delims.data.toList x := of_decide_eq_true hcon.symm
            clear hcon
            go_wp2_with (go_at_call 116; refine (hidx _ _ _ (by omega) (by omega)).mono ?_; rintro e w' ⟨rfl, hw⟩; rw [hw, hback])
            go_ret
            exact ⟨by rw [Lib.indexAny_hit HN.out Hx.out hin]; rfl, HA.out⟩
        · obtain ⟨d1, d2, d3, d4, d5⟩ := decode_high s i hi (by rw [hx]; omega)
          generalize Utf8.decode s i = p at *
          obtain ⟨r, k⟩ := p
          simp only at hnx ha2 hh2 d1 d2 d3 d4 d5
          obtain ⟨wn, hwn⟩ : ∃ wn, wn = ({ wr with heap := wr.heap.setIfInBounds w.heap.size (.stringIter s (i + k)) } : World) := ⟨_, rfl⟩
          rw [← hwn] at hnx ha2
          replace hh2 : wn.heap[w.heap.size]? = some (.stringIter s (i + k)) := by rw [hwn]; exact hh2
          have hrune := fun W => rune_high W r d1 d2
          clear hxl hx hwn hh ha
          have hno' : Lib.NoAny s.data.toList delims.data.toList (i + k) := fun j b hj hb => by
            by_cases hji : j < i
            · exact HN.out j b hji hb
            · have hjs : j < s.size := by omega
              have h5 := d5 j hjs (by omega) hj
              have hbj : s[j]'hjs = b := by
                have := Lib.data_getElem? s j hjs
                rw [hb] at this
                exact (Option.some.inj this).symm
              rw [hbj] at h5
              cases hc : delims.data.toList.contains b with
              | false => rfl
              | true =>
                have hm : b ∈ delims.data.toList := by simpa using hc
                have : ∀ y ∈ delims.data.toList, y.toNat < 128 := by decide
                have := this b hm
                omega
          have HN2 := Lib.hid hno'
          have HA := Lib.hid ha2
          have HH := Lib.hid hh2
          clear hno' d5 ha2 hh2
          go_wp2_with (go_at_call 116; refine (hrune _).mono ?_; rintro e w' ⟨rfl, hw⟩)
          go_roundg (s.size - (i + k))
          case measure => omega
          case rel => exact ⟨i + k, by omega, HA.out.trans hw, hw.heap HH.out, HN2⟩
end Go.Proofs.YtfjohagdlaiapaaGreat

namespace Go.Proofs.YtfjohagdlaiapaaGreat
open Go.RowKit

set_option maxHeartbeats 1000000
set_option maxRecDepth 100000

theorem indexAny_mid : ∀ l : List UInt8, Lib.indexAny l delims.data.toList = if (l.takeWhile fun c => c != 32 && c != 40 && c != 41).length < l.length then (((l.takeWhile fun c => c != 32 && c != 40 && c != 41).length : Nat) : Int) else -1
  | [] => rfl
  | b :: l => by
    rw [Lib.indexAny, indexAny_mid l, delim_mem]
    have hm : Tm.mid b = (b != 32 && b != 40 && b != 41) := rfl
    rw [List.takeWhile_cons, ← hm]
    have hle : (l.takeWhile fun c => c != 32 && c != 40 && c != 41).length ≤ l.length := (List.takeWhile_prefix _).length_le
    cases Tm.mid b with
    | false => simp
    | true =>
      simp only [Bool.not_true, if_true, List.length_cons]
      generalize (l.takeWhile fun c => c != 32 && c != 40 && c != 41).length = m at *
      by_cases h : m < l.length
      · have : (((m : Nat) : Int) == -1) = false := by rw [beq_eq_false_iff_ne]; omega
        simp [h, this]
      · simp [h]

/-- The reader of a function text lies in block b: the text, the place, the atoms. -/
def FRd (w : World) (b : Nat) (l : List UInt8) (i n : Nat) : Prop := w.heap[b]? = some (.cells #[str l, .int .i64 i, .int .i64 n] 76 (0, 0))

theorem FRd.set1 {w : World} {b i n : Nat} {l : List UInt8} (h : FRd w b l i n) (j : Nat) : FRd (w.setCell ⟨b, 1, none⟩ (.int .i64 j)) b l j n := by
  unfold FRd at *
  simp [World.setCell, Array.getElem?_modify, h]
theorem FRd.set2 {w : World} {b i n : Nat} {l : List UInt8} (h : FRd w b l i n) (j : Nat) : FRd (w.setCell ⟨b, 2, none⟩ (.int .i64 j)) b l i j := by
  unfold FRd at *
  simp [World.setCell, Array.getElem?_modify, h]
theorem FRd.after {w W : World} {b i n : Nat} {l : List UInt8} (h : FRd w b l i n) (ha : After w W) : FRd W b l i n := ha.heap h
theorem FRd.lt {w : World} {b i n : Nat} {l : List UInt8} (h : FRd w b l i n) : b < w.heap.size := (Array.getElem?_eq_some_iff.1 h).1

def WordPost (w : World) (b : Nat) (l : List UInt8) (i n : Nat) (e : Ending) (w' : World) : Prop :=
  e = .returned (str (FT.sl l i (Tm.atomEnd l i))) ∧ w.grownBy w' (some b) ∧ FRd w' b l (Tm.atomEnd l i) n

theorem str_drop (l : List UInt8) (i j : Nat) (h : j = l.length) : (⟨l.toArray⟩ : ByteArray).extract i j = ⟨(l.drop i).toArray⟩ := by
  subst h
  refine ByteArray.ext (Array.ext' ?_)
  simp [ByteArray.data_extract]
  exact List.take_of_length_le (by simp)

theorem readWord_any (w : World) (b i n : Nat) (l : List UInt8) (h : FRd w b l i n) (hl : l.length ≤ 1000000000) (hi : i ≤ l.length) :
    Calls Tryz.prog 71 #[.pointer (some ⟨b, 0, none⟩)] w (WordPost w b l i n) := by
  have c0 : w.cell? ⟨b, 0, none⟩ = some (str l) := cell_of_heap h
  have c1 : w.cell? ⟨b, 1, none⟩ = some (.int .i64 (i : Nat)) := cell_of_heap h
  have hsz : (⟨l.toArray⟩ : ByteArray).size = l.length := by show l.toArray.size = _; simp
  have H := Lib.hid h
  clear h
  go_enter Tryz.func71, Tryz.ntmps71
  go_wp2_with fail
  go_quiet (fail)
  go_wp2_with fail
  obtain ⟨r, hr⟩ : ∃ r, r = (⟨l.toArray⟩ : ByteArray).extract i l.length := ⟨_, rfl⟩
  rw [← hr]
  rw [str_drop l i l.length rfl] at hr
  have hrl : r.data.toList = l.drop i := by rw [hr]
  have hrs : r.size = l.length - i := by rw [hr, ByteArray.size]; simp
  have hidx := index_any (w.drewN nq) r (by omega)
  rw [hrl, indexAny_mid] at hidx
  have hend : Tm.atomEnd l i = i + ((l.drop i).takeWhile fun c => c != 32 && c != 40 && c != 41).length := rfl
  have hle : ((l.drop i).takeWhile fun c => c != 32 && c != 40 && c != 41).length ≤ (l.drop i).length := (List.takeWhile_prefix _).length_le
  rw [List.length_drop] at hle hidx
  unfold WordPost
  generalize ((l.drop i).takeWhile fun c => c != 32 && c != 40 && c != 41).length = m at *
  rw [hend]
  have hres : ∀ k, k = m → Value.string (r.extract 0 k) = str (FT.sl l i (i + m)) := fun k hk => by
    subst hk
    refine congrArg Value.string (ByteArray.ext (Array.ext' ?_))
    simp [ByteArray.data_extract, hrl, FT.sl]
  have HR := Lib.hid hres
  have HE := Lib.hid hend
  clear hr hrl hend hres
  by_cases hm : m < l.length - i
  · rw [if_pos hm] at hidx
    have hneg : ¬ ((m : Int) < 0) := by omega
    refine hidx.mono ?_
    rintro e w1 ⟨rfl, ha⟩
    have hg0 := grown_drawn w b nq
    have H1 : FRd w1 b l i n := (show FRd (w.drewN nq) b l i n from H.out).after ha
    have hg1 := after_grown b ha
    have c1' : w1.cell? ⟨b, 1, none⟩ = some (.int .i64 (i : Nat)) := cell_of_heap H1
    have f1 : w1.frozen? ⟨b, 1, none⟩ = false := by unfold FRd at H1; simp [World.frozen?, H1]
    have hmr : (m : Int) ≤ (r.size : Int) := by omega
    have HH := Lib.hid H1
    clear hidx H1 ha
    go_wp2_with fail
    go_ret
    exact ⟨congrArg Ending.returned ((HR.out m rfl).trans (by rw [HE.out])), grown_trans (grown_trans hg0 hg1) (grown_setx _ _ _ _), by have := HH.out.set1 (i + m); rw [HE.out]; simpa using this⟩
  · rw [if_neg hm] at hidx
    refine hidx.mono ?_
    rintro e w1 ⟨rfl, ha⟩
    have hg0 := grown_drawn w b nq
    have H1 : FRd w1 b l i n := (show FRd (w.drewN nq) b l i n from H.out).after ha
    have hg1 := after_grown b ha
    have c1' : w1.cell? ⟨b, 1, none⟩ = some (.int .i64 (i : Nat)) := cell_of_heap H1
    have f1 : w1.frozen? ⟨b, 1, none⟩ = false := by unfold FRd at H1; simp [World.frozen?, H1]
    have hmD : l.length - i = m := by omega
    have HM := Lib.hid hmD
    clear hmD
    have HH := Lib.hid H1
    clear hidx H1 ha
    go_wp2_with fail
    go_ret
    exact ⟨congrArg Ending.returned ((HR.out _ HM.out).trans (by rw [HE.out])), grown_trans (grown_trans hg0 hg1) (grown_setx _ _ _ _), by have := HH.out.set1 (i + (l.length - i)); rw [HE.out, ← HM.out]; simpa using this⟩
end Go.Proofs.YtfjohagdlaiapaaGreat

namespace Go.Proofs.YtfjohagdlaiapaaGreat
open Go.RowKit

set_option maxHeartbeats 1000000
set_option maxRecDepth 100000

abbrev ptr (b : Nat) : Value := .pointer (some ⟨b, 0, none⟩)

/-- A compiled function text with a closure that F tells. -/
def CVh (w : World) (B : Nat) (t : FT) (F : Value → Prop) (v : Value) : Prop :=
  ∃ b vr vf, v = ptr b ∧ B ≤ b ∧ w.heap[b]? = some (.cells #[.int .i64 (FT.arity t : Nat), .int .i64 (FT.size t : Nat), .bool (FT.total t), vr, vf] 41 (0, 0)) ∧ TV w B (FT.real t) vr ∧ F vf

/-- The closure of a function text. -/
def FnV (w : World) (B : Nat) : FT → Value → Prop
  | .z _, vf => vf = .func (.func 112) #[] #[]
  | .inc, vf => vf = .func (.func 114) #[] #[]
  | .p i _, vf => ∃ q, vf = .func (.func 115) #[] #[ptr q] ∧ B ≤ q ∧ w.heap[q]? = some (.cells #[.int .i64 (i : Nat)] 3 (0, 0))
  | .c1 f g, vf => ∃ q1 q2 s o cap cs T fr pf p1, vf = .func (.func 121) #[] #[ptr q1, ptr q2] ∧ B ≤ q1 ∧ w.heap[q1]? = some (.cells #[.slice (some ⟨s, o, none⟩) 1 cap] 114 (0, 0)) ∧
      B ≤ q2 ∧ w.heap[q2]? = some (.cells #[pf] 34 (0, 0)) ∧ CVh w B f (FnV w B f) pf ∧ B ≤ s ∧ w.heap[s]? = some (.cells cs T fr) ∧ cs[o]? = some p1 ∧ CVh w B g (FnV w B g) p1
  | .c2 f g h, vf => ∃ q1 q2 s o cap cs T fr pf p1 p2, vf = .func (.func 121) #[] #[ptr q1, ptr q2] ∧ B ≤ q1 ∧ w.heap[q1]? = some (.cells #[.slice (some ⟨s, o, none⟩) 2 cap] 114 (0, 0)) ∧
      B ≤ q2 ∧ w.heap[q2]? = some (.cells #[pf] 34 (0, 0)) ∧ CVh w B f (FnV w B f) pf ∧ B ≤ s ∧ w.heap[s]? = some (.cells cs T fr) ∧ cs[o]? = some p1 ∧ CVh w B g (FnV w B g) p1 ∧ cs[o + 1]? = some p2 ∧ CVh w B h (FnV w B h) p2
  | .c3 f g h i, vf => ∃ q1 q2 s o cap cs T fr pf p1 p2 p3, vf = .func (.func 121) #[] #[ptr q1, ptr q2] ∧ B ≤ q1 ∧ w.heap[q1]? = some (.cells #[.slice (some ⟨s, o, none⟩) 3 cap] 114 (0, 0)) ∧
      B ≤ q2 ∧ w.heap[q2]? = some (.cells #[pf] 34 (0, 0)) ∧ CVh w B f (FnV w B f) pf ∧ B ≤ s ∧ w.heap[s]? = some (.cells cs T fr) ∧ cs[o]? = some p1 ∧ CVh w B g (FnV w B g) p1 ∧ cs[o + 1]? = some p2 ∧ CVh w B h (FnV w B h) p2 ∧
      cs[o + 2]? = some p3 ∧ CVh w B i (FnV w B i) p3
  | .r f g, vf => ∃ q1 q2 pf pg, vf = .func (.func 125) #[] #[ptr q1, ptr q2] ∧ B ≤ q1 ∧ w.heap[q1]? = some (.cells #[pf] 34 (0, 0)) ∧ B ≤ q2 ∧ w.heap[q2]? = some (.cells #[pg] 34 (0, 0)) ∧
      CVh w B f (FnV w B f) pf ∧ CVh w B g (FnV w B g) pg
  | .m f, vf => ∃ q1 pf, vf = .func (.func 127) #[] #[ptr q1] ∧ B ≤ q1 ∧ w.heap[q1]? = some (.cells #[pf] 34 (0, 0)) ∧ CVh w B f (FnV w B f) pf

def CV (w : World) (B : Nat) (t : FT) (v : Value) : Prop := CVh w B t (FnV w B t) v

theorem CVh.same {w w' : World} {B : Nat} (hs : ∀ b, B ≤ b → b < w.heap.size → w'.heap[b]? = w.heap[b]?) {t : FT} {F F' : Value → Prop} (hF : ∀ v, F v → F' v) {v : Value} : CVh w B t F v → CVh w' B t F' v := by
  rintro ⟨b, vr, vf, hv, hb, hh, hr, hf⟩
  exact ⟨b, vr, vf, hv, hb, by rw [hs b hb (Array.getElem?_eq_some_iff.1 hh).1]; exact hh, hr.same hs, hF vf hf⟩

theorem FnV.same {w w' : World} {B : Nat} (hs : ∀ b, B ≤ b → b < w.heap.size → w'.heap[b]? = w.heap[b]?) : ∀ {t : FT} {v : Value}, FnV w B t v → FnV w' B t v := by
  have hk : ∀ {b : Nat} {o : Obj}, B ≤ b → w.heap[b]? = some o → w'.heap[b]? = some o := fun {b o} hb h => by rw [hs b hb (Array.getElem?_eq_some_iff.1 h).1]; exact h
  intro t
  induction t with
  | z _ => exact id
  | inc => exact id
  | p _ _ => rintro v ⟨q, hv, hb, hh⟩; exact ⟨q, hv, hb, hk hb hh⟩
  | c1 f g ihf ihg =>
    rintro v ⟨q1, q2, s, o, cap, cs, T, fr, pf, p1, hv, b1, h1, b2, h2, hf, bs, h3, e1, hg⟩
    exact ⟨q1, q2, s, o, cap, cs, T, fr, pf, p1, hv, b1, hk b1 h1, b2, hk b2 h2, hf.same hs (fun _ => ihf), bs, hk bs h3, e1, hg.same hs (fun _ => ihg)⟩
  | c2 f g k ihf ihg ihk =>
    rintro v ⟨q1, q2, s, o, cap, cs, T, fr, pf, p1, p2, hv, b1, h1, b2, h2, hf, bs, h3, e1, hg, e2, hh⟩
    exact ⟨q1, q2, s, o, cap, cs, T, fr, pf, p1, p2, hv, b1, hk b1 h1, b2, hk b2 h2, hf.same hs (fun _ => ihf), bs, hk bs h3, e1, hg.same hs (fun _ => ihg), e2, hh.same hs (fun _ => ihk)⟩
  | c3 f g k l ihf ihg ihk ihl =>
    rintro v ⟨q1, q2, s, o, cap, cs, T, fr, pf, p1, p2, p3, hv, b1, h1, b2, h2, hf, bs, h3, e1, hg, e2, hh, e3, hi⟩
    exact ⟨q1, q2, s, o, cap, cs, T, fr, pf, p1, p2, p3, hv, b1, hk b1 h1, b2, hk b2 h2, hf.same hs (fun _ => ihf), bs, hk bs h3, e1, hg.same hs (fun _ => ihg), e2, hh.same hs (fun _ => ihk), e3, hi.same hs (fun _ => ihl)⟩
  | r f g ihf ihg =>
    rintro v ⟨q1, q2, pf, pg, hv, b1, h1, b2, h2, hf, hg⟩
    exact ⟨q1, q2, pf, pg, hv, b1, hk b1 h1, b2, hk b2 h2, hf.same hs (fun _ => ihf), hg.same hs (fun _ => ihg)⟩
  | m f ihf =>
    rintro v ⟨q1, pf, hv, b1, h1, hf⟩
    exact ⟨q1, pf, hv, b1, hk b1 h1, hf.same hs (fun _ => ihf)⟩

theorem CV.same {w w' : World} {B : Nat} (hs : ∀ b, B ≤ b → b < w.heap.size → w'.heap[b]? = w.heap[b]?) {t : FT} {v : Value} (h : CV w B t v) : CV w' B t v := CVh.same hs (fun _ => FnV.same hs) h
theorem CV.after {w w' : World} {B : Nat} {t : FT} {v : Value} (h : CV w B t v) (ha : After w w') : CV w' B t v := h.same fun b _ hl => ha.block b hl
theorem FnV.after {w w' : World} {B : Nat} {t : FT} {v : Value} (h : FnV w B t v) (ha : After w w') : FnV w' B t v := h.same fun b _ hl => ha.block b hl
theorem CV.grown {w w' : World} {b : Nat} {t : FT} {v : Value} (h : CV w (b + 1) t v) (hg : w.grownBy w' (some b)) : CV w' (b + 1) t v :=
  h.same fun k hk hl => hg.block k hl (fun e => by injection e with e; omega)

/-! ### the names of arguments -/

theorem argNames_any (w : World) (a : Nat) (ha : a ≤ 3) :
    Calls Tryz.prog 110 #[.int .i64 a] w fun e w' => e = .returned (.slice (some ⟨w.heap.size, 0, none⟩) a 3) ∧ w' = w.alloc (.cells #[str [120], str [121], str [122]] 9 (0, 0)) := by
  have ha' : (a : Int) ≤ 3 := by omega
  go_enter Tryz.func110, Tryz.ntmps110
  go_wp2_with fail
  go_ret
  exact ⟨rfl, rfl⟩
end Go.Proofs.YtfjohagdlaiapaaGreat

namespace Go.Proofs.YtfjohagdlaiapaaGreat
open Go.RowKit

set_option maxHeartbeats 1000000
set_option maxRecDepth 100000

/-- A slice of terms. -/
def ArgsT (w : World) (B : Nat) (sv : Value) (us : List Tm) : Prop :=
  (us = [] ∧ ∃ ao cap, sv = .slice ao 0 cap) ∨ ∃ b o cap, sv = .slice (some ⟨b, o, none⟩) us.length cap ∧ ∀ j (h : j < us.length), ∃ v, w.cell? ⟨b, o + j, none⟩ = some v ∧ TV w B us[j] v

theorem ArgsT.after {w W : World} {B : Nat} {sv : Value} {us : List Tm} (h : ArgsT w B sv us) (ha : After w W) : ArgsT W B sv us := by
  rcases h with h | ⟨b, o, cap, hv, hc⟩
  · exact Or.inl h
  · exact Or.inr ⟨b, o, cap, hv, fun j hj => by obtain ⟨v, h1, h2⟩ := hc j hj; exact ⟨v, cell_later' h1 _ ha, h2.below ha⟩⟩

theorem ArgsT.form {w : World} {B : Nat} {sv : Value} {us : List Tm} (h : ArgsT w B sv us) : ∃ ao cap, sv = .slice ao us.length cap := by
  rcases h with ⟨rfl, ao, cap, rfl⟩ | ⟨b, o, cap, rfl, _⟩
  · exact ⟨_, _, rfl⟩
  · exact ⟨_, _, rfl⟩

theorem applyAll_sl (w : World) (B : Nat) (f : Tm) (vf sv : Value) (us : List Tm) (ha : ArgsT w B sv us) (hf : TV w B f vf) (hB : B ≤ w.heap.size) (hz : f.size + (us.map Tm.size).sum ≤ 1000000000) (hn : us.length ≤ 1000000) :
    Calls Tryz.prog 79 #[vf, sv] w (TermPost w B (us.foldl Tm.app f)) := by
  have hstart : ∃ k : Nat, Value.int .i64 0 = .int .i64 k ∧ k ≤ us.length ∧ Hid (TV w B ((us.take k).foldl Tm.app f) vf) ∧ Below w.heap.size w w := ⟨0, rfl, Nat.zero_le _, by show TV _ _ _ _; simpa using hf, Below.refl _ _⟩
  obtain ⟨ao, cap, rfl⟩ := ha.form
  have HU := Lib.hid ha
  clear hf ha
  go_enter Tryz.func79, Tryz.ntmps79
  go_wp2_with fail
  go_loopw [0, 9] (fun v i wr => ∃ k : Nat, i = .int .i64 k ∧ k ≤ us.length ∧ Hid (TV wr B ((us.take k).foldl Tm.app f) v) ∧ Below w.heap.size w wr) (fun _ i _ => us.length - (intOf i).toNat)
  case atStart => exact hstart
  case round =>
    clear hstart
    obtain ⟨k, rfl, hk, ht, hb⟩ := hrel
    by_cases hlt : k < us.length
    · obtain ⟨b, o, hao, vk, hck, hu⟩ : ∃ b o, ao = some ⟨b, o, none⟩ ∧ ∃ vk, wr.cell? ⟨b, o + k, none⟩ = some vk ∧ TV wr B us[k] vk := by
        rcases HU.out with ⟨h, _⟩ | ⟨b, o, cap', hv, hc⟩
        · rw [h] at hlt; simp at hlt
        · injection hv with h1 h2 h3
          obtain ⟨v, h4, h5⟩ := hc k hlt
          exact ⟨b, o, h1, v, cell_later' h4 _ hb, h5.below hb⟩
      subst hao
      have hs1 := foldl_size f (us.take k)
      have hs2 : (us[k]).size + ((us.take k).map Tm.size).sum ≤ (us.map Tm.size).sum := by
        have h1 := sum_take (us.map Tm.size) (k + 1)
        rw [List.take_succ_eq_append_getElem (by simpa using hlt)] at h1
        simp only [List.sum_append, List.getElem_map, List.sum_cons, List.sum_nil, ← List.map_take] at h1
        omega
      have hcall := apply_any wr B _ _ _ _ ht.out hu (Nat.le_trans hB hb.size) (by omega)
      have hnext : (us.take (k + 1)).foldl Tm.app f = ((us.take k).foldl Tm.app f).app us[k] := by
        rw [List.take_succ_eq_append_getElem hlt, List.foldl_append]; rfl
      rw [← hnext] at hcall
      clear hu hs1 hs2 hnext
      go_wp2_with fail
      refine hcall.mono ?_
      rintro e w1 ⟨v1, rfl, hb1, ht1⟩
      have HT1 := Lib.hid ht1
      clear ht1
      go_wp2_with fail
      go_roundw
      case rel => exact ⟨k + 1, by go_num, by omega, HT1, below_trans hb hb1⟩
      case measure => simp [intOf]; omega
    · obtain rfl : k = us.length := by omega
      have HT := Lib.hid ht.out
      rw [List.take_length] at HT
      clear ht
      go_wp2_with fail
      go_ret
      exact ⟨_, rfl, hb, HT.out⟩

theorem o_slice_len {w : World} {base n size : Nat} {T : TypeId} {v : Value} {xs : List Value} (h : w.ownsRow base T size v n xs) : ∃ ao ac, v = .slice ao n ac := by
  rcases h.2 with ⟨rfl, rfl⟩ | ⟨g, cap, cur, rfl, _⟩
  · exact ⟨_, _, rfl⟩
  · exact ⟨_, _, rfl⟩
theorem o_slice {w : World} {base n size : Nat} {T : TypeId} {v : Value} {xs : List Value} (h : w.ownsRow base T size v n xs) : ∃ ao an ac, v = .slice ao an ac := by
  obtain ⟨ao, ac, h⟩ := o_slice_len h
  exact ⟨ao, n, ac, h⟩

/-! ### nameTerms -/

def NmAt (w : World) (base : Nat) (n : List UInt8) (v : Value) : Prop := ∃ b, v = .iface 122 (ptr b) ∧ base ≤ b ∧ w.heap[b]? = some (.cells #[str n] 124 (0, 0))

theorem NmAt.grown {w w' : World} {base : Nat} {n : List UInt8} {v sv : Value} {m : Nat} {xs : List Value} (h : NmAt w base n v) (ho : w.ownsRow base 38 1 sv m xs) (hg : w.grownBy w' sv.ownBlock) : NmAt w' base n v := by
  obtain ⟨b, hv, hb, hh⟩ := h
  refine ⟨b, hv, hb, ?_⟩
  rw [hg.block b (Array.getElem?_eq_some_iff.1 hh).1 (fun e => ?_)]
  · exact hh
  · obtain ⟨c, fz, hc⟩ := Lib.ownsRow_kind ho b e.symm
    rw [hh] at hc
    injection hc with hc
    injection hc with _ hc _
    exact absurd hc (by decide)

theorem NmAt.after {w w' : World} {base : Nat} {n : List UInt8} {v : Value} (h : NmAt w base n v) (ha : After w w') : NmAt w' base n v := by
  obtain ⟨b, hv, hb, hh⟩ := h
  exact ⟨b, hv, hb, ha.heap hh⟩

theorem cell_one_new2 (w : World) (o : Obj) (v : Value) (T : TypeId) : ∀ j u, [v][j]? = some u → ((w.alloc o).alloc (.cells #[v] T)).cell? ((⟨w.heap.size + 1, 0, none⟩ : Addr).add j) = some u := by
  intro j u h
  match j with
  | 0 =>
    simp at h
    subst h
    have := heap_top2 w o (.cells #[v] T)
    rw [show ((⟨w.heap.size + 1, 0, none⟩ : Addr).add 0) = ⟨w.heap.size + 1, 0, none⟩ from rfl, cell_of_heap this]
    rfl
  | j + 1 => simp at h

theorem nameTerms_any (w : World) (g cap : Nat) (nl : List (List UInt8)) (hc : ∀ j, j < nl.length → w.cell? ⟨g, j, none⟩ = some (str (nl[j]?.getD []))) (hn : nl.length ≤ 1000) :
    Calls Tryz.prog 138 #[.slice (some ⟨g, 0, none⟩) nl.length cap] w fun e w' => ∃ sv, e = .returned sv ∧ After w w' ∧ ArgsT w' w.heap.size sv (nl.map Tm.nm) := by
  obtain ⟨N, hN⟩ : ∃ N, N = nl.length := ⟨_, rfl⟩
  rw [← hN] at hc hn ⊢
  have HN := Lib.hid hN
  have HC := Lib.hid hc
  obtain ⟨i0, hi, hz0, hz1, hz2⟩ : ∃ i, (Tryz.prog).info? 38 = some i ∧ i.zero = some .nilIface ∧ i.size = 1 ∧ i.bytes = 16 := ⟨_, rfl, rfl, rfl, rfl⟩
  have hun : Tryz.prog.underlying 152 = some (.slice 38) := by kernel_rfl
  obtain ⟨base, hbase⟩ : ∃ base, base = w.heap.size := ⟨_, rfl⟩
  have HBS := Lib.hid hbase
  rw [← hbase]
  clear hN hc hbase
  go_enter Tryz.func138, Tryz.ntmps138
  go_wp2_with fail
  go_loopw [3, 5, 8] (fun sv _ i wr => ∃ (k : Nat) (xs : List Value), i = .int .i64 k ∧ k ≤ N ∧ Hid (wr.ownsRow base 38 1 sv k xs) ∧ After w wr ∧ Hid (∀ (j : Nat) (v : Value), xs[j]? = some v → NmAt wr base (nl[j]?.getD []) v)) (fun _ _ i _ => N - (intOf i).toNat)
  case atStart => exact ⟨0, [], rfl, Nat.zero_le _, ⟨rfl, Or.inl ⟨rfl, rfl⟩⟩, After.refl _, fun j v h => by simp at h⟩
  case round =>
    obtain ⟨k, xs, rfl, hk, HO, ha, HX⟩ := hrel
    by_cases hlt : k < N
    · have hck := cell_later' (HC.out k hlt) wr ha
      generalize hnm : nl[k]?.getD [] = nm at hck
      have HNM := Lib.hid hnm
      clear hnm
      have hbs : base ≤ wr.heap.size := by rw [HBS.out]; exact ha.size
      have HA := Lib.hid ha
      clear ha
      have hone : ∀ u ∈ [Value.iface 122 (ptr wr.heap.size)], u.oneCell' = true := by simp [Value.oneCell']
      have hmax : k + 1 ≤ maxLen := by unfold maxLen; omega
      have hm16 : (k + 1) * 16 ≤ 140737488355328 := by omega
      have hsz : base ≤ ((wr.alloc (.cells #[str nm] 124)).alloc (.cells #[.iface 122 (ptr wr.heap.size)] 38)).heap.size := by simp; omega
      obtain ⟨ao, an, ac, rfl⟩ := o_slice HO.out
      go_wp2_with (at_builtin; refine wpList_append_own _ rfl _ _ 152 rfl base 38 i0 .nilIface 1 16 hun hi hz0 hz1 hz2 rfl (by decide) _ _ _ rfl (World.ownsRow.alloc (World.ownsRow.alloc HO.out _) _) ⟨wr.heap.size + 1, 0, none⟩ 1 1 [.iface 122 (ptr wr.heap.size)] rfl rfl (cell_one_new2 _ _ _ _) hone hmax hm16 hsz ?_; intro v2 w2 ho2 hg2 hiff; clear hiff; obtain ⟨bo, bn, bc, rfl⟩ := o_slice ho2; have HO2 := Lib.hid ho2; have HG2 := Lib.hid hg2; clear ho2 hg2)
      go_roundw
      case measure => simp [intOf]; omega
      case rel =>
        have hal : After wr ((wr.alloc (.cells #[str nm] 124)).alloc (.cells #[.iface 122 (ptr wr.heap.size)] 38)) := (After.new _ _).alloc _
        have ho1 := World.ownsRow.alloc (World.ownsRow.alloc HO.out (.cells #[str nm] 124)) (.cells #[.iface 122 (ptr wr.heap.size)] 38)
        refine ⟨k + 1, _, by go_num, by omega, HO2, ?_, fun j v hj => ?_⟩
        · have h1 := HA.out.trans hal
          refine ⟨HG2.out.os.trans h1.os, HG2.out.tape.trans h1.tape, HG2.out.output.trans h1.output, Nat.le_trans h1.size HG2.out.size, fun q hq => ?_⟩
          rw [HG2.out.block q (Nat.lt_of_lt_of_le hq h1.size) (fun e => by have := (ho1.lt q e.symm).1; have := HBS.out; omega)]
          exact h1.block q hq
        · by_cases hjk : j < xs.length
          · rw [List.getElem?_append_left hjk] at hj
            exact ((HX.out j v hj).after hal).grown ho1 HG2.out
          · have hxl : xs.length = k := by have := HO.out.1; omega
            have hjk' : j = k := by
              have := (List.getElem?_eq_some_iff.1 hj).1
              simp at this
              omega
            subst hjk'
            rw [List.getElem?_append_right (by omega), hxl, Nat.sub_self] at hj
            simp at hj
            subst hj
            rw [HNM.out]
            refine NmAt.grown ⟨wr.heap.size, rfl, hbs, ?_⟩ ho1 HG2.out
            exact heap_below2 wr _ _
    · obtain rfl : k = N := by omega
      have HA := Lib.hid ha
      obtain ⟨ao, ac, rfl⟩ := o_slice_len HO.out
      clear ha
      go_wp2_with fail
      go_ret
      refine ⟨_, rfl, HA.out, ?_⟩
      have hlen := HN.out
      rcases HO.out.2 with ⟨h1, h2⟩ | ⟨g', cap', cur, h1, _, hh, hle, _, hcs, hct⟩
      · exact Or.inl ⟨by rw [List.map_eq_nil_iff]; exact List.length_eq_zero_iff.1 (by omega), ao, ac, by show Value.slice ao k ac = Value.slice ao 0 ac; rw [h2]⟩
      · refine Or.inr ⟨g', 0, cap', by show Value.slice ao k ac = _; rw [h1, List.length_map, ← hlen], fun j hj => ?_⟩
        rw [List.length_map] at hj
        have hxj : j < xs.length := by have := HO.out.1; omega
        obtain ⟨b, hv, hb, hh2⟩ := HX.out j _ (List.getElem?_eq_getElem hxj)
        refine ⟨xs[j], ?_, ?_⟩
        · rw [Nat.zero_add]
          have hc := World.ownsRow.cellAt (h1 ▸ HO.out) j (by omega)
          rw [hc, List.getElem?_eq_getElem hxj]
        · rw [List.getElem_map]
          refine ⟨b, (0, 0), hv, hb, ?_⟩
          rw [hh2]
          simp [List.getElem?_eq_getElem hj]
end Go.Proofs.YtfjohagdlaiapaaGreat

namespace Go.Proofs.YtfjohagdlaiapaaGreat
open Go.RowKit

set_option maxHeartbeats 1000000
set_option maxRecDepth 100000

/-- A new compiled function text, not yet counted. -/
def NewPost (w : World) (B : Nat) (t : FT) (e : Ending) (w' : World) : Prop :=
  ∃ b vr vf, e = .returned (ptr b) ∧ After w w' ∧ w.heap.size ≤ b ∧ w'.heap[b]? = some (.cells #[.int .i64 (FT.arity t : Nat), .int .i64 0, .bool false, vr, vf] 41 (0, 0)) ∧
    ∀ w'' : World, (∀ k, B ≤ k → k < w'.heap.size → k ≠ b → w''.heap[k]? = w'.heap[k]?) → TV w'' B (FT.real t) vr ∧ FnV w'' B t vf

theorem NewPost.mk {w W : World} {B : Nat} {t : FT} {vr vf : Value} (ha : After w W) (ht : TV W B (FT.real t) vr) (hf : FnV W B t vf) :
    NewPost w B t (.returned (ptr W.heap.size)) (W.alloc (.cells #[.int .i64 (FT.arity t : Nat), .int .i64 0, .bool false, vr, vf] 41 (0, 0))) := by
  refine ⟨_, vr, vf, rfl, ha.alloc _, ha.size, heap_top _ _, fun w'' hs => ?_⟩
  have hk : ∀ k, B ≤ k → k < W.heap.size → w''.heap[k]? = W.heap[k]? := fun k h1 h2 => by
    rw [hs k h1 (by simp; omega) (by omega)]
    exact (below_new W _).block k h2
  exact ⟨ht.same hk, hf.same hk⟩

theorem ns_len (a : Nat) (ha : a ≤ 3) : (FT.ns a).length = a := by simp [FT.ns]; omega

theorem ns_at (a j : Nat) (ha : a ≤ 3) (hj : j < a) : (#[str [120], str [121], str [122]] : Array Value)[j]? = some (str ((FT.ns a)[j]?.getD [])) := by
  match a, j, ha, hj with
  | 1, 0, _, _ => rfl
  | 2, 0, _, _ => rfl
  | 2, 1, _, _ => rfl
  | 3, 0, _, _ => rfl
  | 3, 1, _, _ => rfl
  | 3, 2, _, _ => rfl

/-- The names of arguments, as a slice. -/
def ArgN (w : World) (g _a : Nat) : Prop := w.heap[g]? = some (.cells #[str [120], str [121], str [122]] 9 (0, 0))

theorem ArgN.strs {w : World} {g a : Nat} (h : ArgN w g a) (ha : a ≤ 3) : StrsB w.heap.size w (.slice (some ⟨g, 0, none⟩) a 3) (FT.ns a) := by
  refine Or.inr ⟨g, 0, 3, by rw [ns_len a ha], (Array.getElem?_eq_some_iff.1 h).1, fun j hj => ?_⟩
  rw [ns_len a ha] at hj
  rw [Nat.zero_add, cell_of_heap h]
  exact ns_at a j ha hj

theorem ArgN.cells {w : World} {g a : Nat} (h : ArgN w g a) (ha : a ≤ 3) : ∀ j, j < (FT.ns a).length → w.cell? ⟨g, j, none⟩ = some (str ((FT.ns a)[j]?.getD [])) := fun j hj => by
  rw [ns_len a ha] at hj
  rw [cell_of_heap h]
  exact ns_at a j ha hj

theorem zeroFn_any (w : World) (B a : Nat) (ha : a ≤ 3) (hB : B ≤ w.heap.size) :
    Calls Tryz.prog 91 #[.int .i64 a] w (NewPost w B (.z a)) := by
  have h1 := argNames_any w a ha
  have hN : ArgN (w.alloc (.cells #[str [120], str [121], str [122]] 9 (0, 0))) w.heap.size a := heap_top _ _
  have hB1 : B ≤ (w.alloc (.cells #[str [120], str [121], str [122]] 9 (0, 0))).heap.size := by simp; omega
  have hW1 := After.new w (.cells #[str [120], str [121], str [122]] 9 (0, 0))
  have h2 := numeral_any (w.alloc (.cells #[str [120], str [121], str [122]] 9 (0, 0))) B 0 hB1 (by omega)
  unfold TermPost at h2
  generalize w.alloc (.cells #[str [120], str [121], str [122]] 9 (0, 0)) = W1 at *
  go_enter Tryz.func91, Tryz.ntmps91
  go_wp2_with (go_at_call 110; refine h1.mono ?_; rintro e w1 ⟨rfl, rfl⟩)
  refine h2.mono ?_
  rintro e w2 ⟨v2, rfl, hb2, ht2⟩
  have hN2 : ArgN w2 w.heap.size a := After.heap hb2 hN
  have h3 := absAll_any w2 B (FT.ns a) _ _ v2 (hN2.strs ha) ht2 (Nat.le_trans hB1 hb2.size) (by rw [ns_len a ha]; omega) (by decide)
  unfold TermPost at h3
  clear h1 h2 ht2 hN hN2
  go_wp2_with fail
  refine h3.mono ?_
  rintro e w3 ⟨v3, rfl, hb3, ht3⟩
  obtain ⟨T3, x3, rfl, _⟩ := ht3.asks
  have HT := Lib.hid ht3
  clear h3 ht3
  go_wp2_with fail
  go_ret
  have hal := (hW1.trans hb2).trans hb3
  exact NewPost.mk hal HT.out rfl

theorem next_any (w : World) (B : Nat) (hB : B ≤ w.heap.size) : Calls Tryz.prog 92 #[] w (NewPost w B .inc) := by
  have h1 := succ_any w B hB
  unfold TermPost at h1
  go_enter Tryz.func92, Tryz.ntmps92
  go_wp2_with fail
  refine h1.mono ?_
  rintro e w1 ⟨v1, rfl, hb1, ht1⟩
  obtain ⟨T1, x1, rfl, _⟩ := ht1.asks
  have HT := Lib.hid ht1
  clear h1 ht1
  go_wp2_with fail
  go_ret
  exact NewPost.mk hb1 HT.out rfl

theorem vs_at (i a : Nat) (hi : i < a) (ha : a ≤ 3) : (FT.vs a).getD i .k = .nm ((FT.ns a)[i]?.getD []) := by
  match a, i, ha, hi with
  | 1, 0, _, _ => rfl
  | 2, 0, _, _ => rfl
  | 2, 1, _, _ => rfl
  | 3, 0, _, _ => rfl
  | 3, 1, _, _ => rfl
  | 3, 2, _, _ => rfl

theorem arg_any (w : World) (B i a : Nat) (hi : i < a) (ha : a ≤ 3) (hB : B ≤ w.heap.size) :
    Calls Tryz.prog 93 #[.int .i64 i, .int .i64 a] w (NewPost w B (.p i a)) := by
  obtain ⟨W0, hW0⟩ : ∃ W0, W0 = w.alloc (.cells #[.int .i64 (i : Nat)] 3 (0, 0)) := ⟨_, rfl⟩
  have h1 := argNames_any W0 a ha
  have a0 : After w W0 := by rw [hW0]; exact After.new _ _
  have g0 : W0.heap[w.heap.size]? = some (.cells #[.int .i64 (i : Nat)] 3 (0, 0)) := by rw [hW0]; exact heap_top _ _
  obtain ⟨W1, hW1⟩ : ∃ W1, W1 = W0.alloc (.cells #[str [120], str [121], str [122]] 9 (0, 0)) := ⟨_, rfl⟩
  have hN : ArgN W1 W0.heap.size a := by rw [hW1]; exact heap_top _ _
  have a1 : After W0 W1 := by rw [hW1]; exact After.new _ _
  rw [← hW1] at h1
  have hci := cell_later' (cell_of_heap (i := 0) g0) W1 a1
  have hni := cell_of_heap (i := i) hN
  rw [ns_at a i ha hi] at hni
  obtain ⟨nm, hnm⟩ : ∃ nm, nm = (FT.ns a)[i]?.getD [] := ⟨_, rfl⟩
  rw [← hnm] at hni
  obtain ⟨W2, hW2⟩ : ∃ W2, W2 = W1.alloc (.cells #[str nm] 124 (0, 0)) := ⟨_, rfl⟩
  have a2 : After W1 W2 := by rw [hW2]; exact After.new _ _
  have hsz : B ≤ W2.heap.size := Nat.le_trans hB (Nat.le_trans a0.size (Nat.le_trans a1.size a2.size))
  have hT2 : TV W2 B (.nm nm) (.iface 122 (ptr W1.heap.size)) := ⟨_, (0, 0), rfl, Nat.le_trans hB (Nat.le_trans a0.size a1.size), by rw [hW2]; exact heap_top _ _⟩
  have h3 := absAll_any W2 B (FT.ns a) _ _ _ ((show ArgN W2 W0.heap.size a from a2.heap hN).strs ha) hT2 hsz (by rw [ns_len a ha]; omega) (by simp [Tm.size])
  rw [hnm, ← vs_at i a hi ha] at h3
  unfold TermPost at h3
  have hi' : (i : Int) < (a : Int) := by omega
  have HN := Lib.hid hnm
  have HW0 := Lib.hid hW0
  have HW2 := Lib.hid hW2
  clear hN hT2 hnm hW0 hW1 hW2
  go_enter Tryz.func93, Tryz.ntmps93
  go_wp2_with fail
  rw [← HW0.out]
  refine h1.mono ?_
  rintro e w1 ⟨rfl, rfl⟩
  clear h1
  go_wp2_with fail
  rw [← HW2.out]
  refine h3.mono ?_
  rintro e w3 ⟨v3, rfl, hb3, ht3⟩
  obtain ⟨T3, x3, rfl, _⟩ := ht3.asks
  have HT := Lib.hid ht3
  clear h3 ht3 hci hni
  go_wp2_with fail
  go_ret
  have hall := ((a0.trans a1).trans a2).trans hb3
  exact NewPost.mk hall HT.out ⟨_, rfl, hB, ((a1.trans a2).trans hb3).heap g0⟩
end Go.Proofs.YtfjohagdlaiapaaGreat

namespace Go.Proofs.YtfjohagdlaiapaaGreat
open Go.RowKit

set_option maxHeartbeats 1000000
set_option maxRecDepth 100000

def WFPost (w : World) (B : Nat) (o : Option FT) (e : Ending) (w' : World) : Prop :=
  ∃ v, e = .returned (.tuple #[v, .bool o.isSome]) ∧ After w w' ∧ ∀ t, o = some t → CV w' B t v

/-- What is counted is a compiled function text. -/
theorem counted {w1 : World} {B b : Nat} {t : FT} {vr vf : Value} (hB : B ≤ b) (hh : w1.heap[b]? = some (.cells #[.int .i64 (FT.arity t : Nat), .int .i64 0, .bool false, vr, vf] 41 (0, 0)))
    (hs : ∀ w'' : World, (∀ k, B ≤ k → k < w1.heap.size → k ≠ b → w''.heap[k]? = w1.heap[k]?) → TV w'' B (FT.real t) vr ∧ FnV w'' B t vf) (n : Int) (tot : Bool) (hn : n = (FT.size t : Nat)) (ht : tot = FT.total t) :
    CV ((w1.setCell ⟨b, 1, none⟩ (.int .i64 n)).setCell ⟨b, 2, none⟩ (.bool tot)) B t (ptr b) := by
  subst hn
  subst ht
  obtain ⟨h1, h2⟩ := hs ((w1.setCell ⟨b, 1, none⟩ (.int .i64 (FT.size t : Nat))).setCell ⟨b, 2, none⟩ (.bool (FT.total t))) (fun k _ _ hk => by
    have hk' : b ≠ k := fun e => hk e.symm
    simp [World.setCell, Array.getElem?_modify, hk'])
  refine ⟨b, vr, vf, rfl, hB, ?_, h1, h2⟩
  simp [World.setCell, Array.getElem?_modify, hh]

theorem After.le {w W : World} (h : After w W) : w.heap.size ≤ W.heap.size := Below.size h

theorem after_set2 {w w1 : World} {b : Nat} (ha : After w w1) (hb : w.heap.size ≤ b) (u v : Value) : After w ((w1.setCell ⟨b, 1, none⟩ u).setCell ⟨b, 2, none⟩ v) :=
  (Below.setCell (p := ⟨b, 1, none⟩) ha hb u).setCell (p := ⟨b, 2, none⟩) hb v

theorem word_z0 (w : World) (B : Nat) (hB : B ≤ w.heap.size) : Calls Tryz.prog 70 #[str [122, 48]] w (WFPost w B (some (.z 0))) := by
  obtain ⟨W1, hW1⟩ : ∃ W1, W1 = w.alloc (.cells #[.int .i64 0, .int .i64 0, .bool false, .nilIface, .nilFunc] 41 (0, 0)) := ⟨_, rfl⟩
  have a1 : After w W1 := by rw [hW1]; exact After.new _ _
  have hc := zeroFn_any W1 B 0 (by omega) (Nat.le_trans hB a1.size)
  have HW := Lib.hid hW1
  clear hW1
  go_enter Tryz.func70, Tryz.ntmps70
  go_wp2_with fail
  rw [← HW.out]
  refine hc.mono ?_
  rintro e w1 ⟨b, vr, vf, rfl, ha, hb, hh, hs⟩
  have f1 : w1.frozen? ⟨b, 1, none⟩ = false := by simp [World.frozen?, hh]
  have f2 : w1.frozen? ⟨b, 2, none⟩ = false := by simp [World.frozen?, hh]
  have c1 : w1.cell? ⟨b, 1, none⟩ = some (.int .i64 0) := cell_of_heap hh
  have c2 : w1.cell? ⟨b, 2, none⟩ = some (.bool false) := cell_of_heap hh
  have HH := Lib.hid hh
  have HS := Lib.hid hs
  clear hh hs hc
  go_wp2_with fail
  go_ret2
  have hs1 := a1.size
  exact ⟨_, rfl, after_set2 (a1.trans ha) (by omega) _ _, fun t ht => by obtain rfl := Option.some.inj ht; exact counted (by omega) HH.out HS.out _ _ rfl rfl⟩

theorem word_z1 (w : World) (B : Nat) (hB : B ≤ w.heap.size) : Calls Tryz.prog 70 #[str [122, 49]] w (WFPost w B (some (.z 1))) := by
  obtain ⟨W1, hW1⟩ : ∃ W1, W1 = w.alloc (.cells #[.int .i64 0, .int .i64 0, .bool false, .nilIface, .nilFunc] 41 (0, 0)) := ⟨_, rfl⟩
  have a1 : After w W1 := by rw [hW1]; exact After.new _ _
  have hc := zeroFn_any W1 B 1 (by omega) (Nat.le_trans hB a1.size)
  have HW := Lib.hid hW1
  clear hW1
  go_enter Tryz.func70, Tryz.ntmps70
  go_wp2_with fail
  rw [← HW.out]
  refine hc.mono ?_
  rintro e w1 ⟨b, vr, vf, rfl, ha, hb, hh, hs⟩
  have f1 : w1.frozen? ⟨b, 1, none⟩ = false := by simp [World.frozen?, hh]
  have f2 : w1.frozen? ⟨b, 2, none⟩ = false := by simp [World.frozen?, hh]
  have c1 : w1.cell? ⟨b, 1, none⟩ = some (.int .i64 0) := cell_of_heap hh
  have c2 : w1.cell? ⟨b, 2, none⟩ = some (.bool false) := cell_of_heap hh
  have HH := Lib.hid hh
  have HS := Lib.hid hs
  clear hh hs hc
  go_wp2_with fail
  go_ret2
  have hs1 := a1.size
  exact ⟨_, rfl, after_set2 (a1.trans ha) (by omega) _ _, fun t ht => by obtain rfl := Option.some.inj ht; exact counted (by omega) HH.out HS.out _ _ rfl rfl⟩

theorem word_z2 (w : World) (B : Nat) (hB : B ≤ w.heap.size) : Calls Tryz.prog 70 #[str [122, 50]] w (WFPost w B (some (.z 2))) := by
  obtain ⟨W1, hW1⟩ : ∃ W1, W1 = w.alloc (.cells #[.int .i64 0, .int .i64 0, .bool false, .nilIface, .nilFunc] 41 (0, 0)) := ⟨_, rfl⟩
  have a1 : After w W1 := by rw [hW1]; exact After.new _ _
  have hc := zeroFn_any W1 B 2 (by omega) (Nat.le_trans hB a1.size)
  have HW := Lib.hid hW1
  clear hW1
  go_enter Tryz.func70, Tryz.ntmps70
  go_wp2_with fail
  rw [← HW.out]
  refine hc.mono ?_
  rintro e w1 ⟨b, vr, vf, rfl, ha, hb, hh, hs⟩
  have f1 : w1.frozen? ⟨b, 1, none⟩ = false := by simp [World.frozen?, hh]
  have f2 : w1.frozen? ⟨b, 2, none⟩ = false := by simp [World.frozen?, hh]
  have c1 : w1.cell? ⟨b, 1, none⟩ = some (.int .i64 0) := cell_of_heap hh
  have c2 : w1.cell? ⟨b, 2, none⟩ = some (.bool false) := cell_of_heap hh
  have HH := Lib.hid hh
  have HS := Lib.hid hs
  clear hh hs hc
  go_wp2_with fail
  go_ret2
  have hs1 := a1.size
  exact ⟨_, rfl, after_set2 (a1.trans ha) (by omega) _ _, fun t ht => by obtain rfl := Option.some.inj ht; exact counted (by omega) HH.out HS.out _ _ rfl rfl⟩

theorem word_z3 (w : World) (B : Nat) (hB : B ≤ w.heap.size) : Calls Tryz.prog 70 #[str [122, 51]] w (WFPost w B (some (.z 3))) := by
  obtain ⟨W1, hW1⟩ : ∃ W1, W1 = w.alloc (.cells #[.int .i64 0, .int .i64 0, .bool false, .nilIface, .nilFunc] 41 (0, 0)) := ⟨_, rfl⟩
  have a1 : After w W1 := by rw [hW1]; exact After.new _ _
  have hc := zeroFn_any W1 B 3 (by omega) (Nat.le_trans hB a1.size)
  have HW := Lib.hid hW1
  clear hW1
  go_enter Tryz.func70, Tryz.ntmps70
  go_wp2_with fail
  rw [← HW.out]
  refine hc.mono ?_
  rintro e w1 ⟨b, vr, vf, rfl, ha, hb, hh, hs⟩
  have f1 : w1.frozen? ⟨b, 1, none⟩ = false := by simp [World.frozen?, hh]
  have f2 : w1.frozen? ⟨b, 2, none⟩ = false := by simp [World.frozen?, hh]
  have c1 : w1.cell? ⟨b, 1, none⟩ = some (.int .i64 0) := cell_of_heap hh
  have c2 : w1.cell? ⟨b, 2, none⟩ = some (.bool false) := cell_of_heap hh
  have HH := Lib.hid hh
  have HS := Lib.hid hs
  clear hh hs hc
  go_wp2_with fail
  go_ret2
  have hs1 := a1.size
  exact ⟨_, rfl, after_set2 (a1.trans ha) (by omega) _ _, fun t ht => by obtain rfl := Option.some.inj ht; exact counted (by omega) HH.out HS.out _ _ rfl rfl⟩

theorem word_inc (w : World) (B : Nat) (hB : B ≤ w.heap.size) : Calls Tryz.prog 70 #[str [105, 110, 99]] w (WFPost w B (some .inc)) := by
  obtain ⟨W1, hW1⟩ : ∃ W1, W1 = w.alloc (.cells #[.int .i64 0, .int .i64 0, .bool false, .nilIface, .nilFunc] 41 (0, 0)) := ⟨_, rfl⟩
  have a1 : After w W1 := by rw [hW1]; exact After.new _ _
  have hc := next_any W1 B (Nat.le_trans hB a1.size)
  have HW := Lib.hid hW1
  clear hW1
  go_enter Tryz.func70, Tryz.ntmps70
  go_wp2_with fail
  rw [← HW.out]
  refine hc.mono ?_
  rintro e w1 ⟨b, vr, vf, rfl, ha, hb, hh, hs⟩
  have f1 : w1.frozen? ⟨b, 1, none⟩ = false := by simp [World.frozen?, hh]
  have f2 : w1.frozen? ⟨b, 2, none⟩ = false := by simp [World.frozen?, hh]
  have c1 : w1.cell? ⟨b, 1, none⟩ = some (.int .i64 0) := cell_of_heap hh
  have c2 : w1.cell? ⟨b, 2, none⟩ = some (.bool false) := cell_of_heap hh
  have HH := Lib.hid hh
  have HS := Lib.hid hs
  clear hh hs hc
  go_wp2_with fail
  go_ret2
  have hs1 := a1.size
  exact ⟨_, rfl, after_set2 (a1.trans ha) (by omega) _ _, fun t ht => by obtain rfl := Option.some.inj ht; exact counted (by omega) HH.out HS.out _ _ rfl rfl⟩

theorem word_p01 (w : World) (B : Nat) (hB : B ≤ w.heap.size) : Calls Tryz.prog 70 #[str [112, 48, 49]] w (WFPost w B (some (.p 0 1))) := by
  obtain ⟨W1, hW1⟩ : ∃ W1, W1 = w.alloc (.cells #[.int .i64 0, .int .i64 0, .bool false, .nilIface, .nilFunc] 41 (0, 0)) := ⟨_, rfl⟩
  have a1 : After w W1 := by rw [hW1]; exact After.new _ _
  have hself := After.refl W1
  have hc := fun W (hW : After W1 W) => arg_any W B 0 1 (by omega) (by omega) (Nat.le_trans hB (Nat.le_trans a1.size hW.size))
  have HW := Lib.hid hW1
  clear hW1
  go_enter Tryz.func70, Tryz.ntmps70
  go_wp2_with fail
  rw [← HW.out]
  go_region_held3 (fun W' => After W1 W') (first | assumption | exact hself.drew | go_keep)
    ((go_at_call 93; refine (hc _ (by assumption)).mono ?_; rintro e w1 ⟨b, vr, vf, rfl, ha, hb, hh, hs⟩; have HH := Lib.hid hh; have HS := Lib.hid hs; clear hh hs; have hb' := Nat.le_trans (After.le (w := W1) (by assumption)) hb; have ha' := After.trans (by assumption) ha))
  all_goals
    have f1 : w1.frozen? ⟨b, 1, none⟩ = false := by simp [World.frozen?, HH.out]
    have f2 : w1.frozen? ⟨b, 2, none⟩ = false := by simp [World.frozen?, HH.out]
    have c1 : w1.cell? ⟨b, 1, none⟩ = some (.int .i64 0) := cell_of_heap HH.out
    have c2 : w1.cell? ⟨b, 2, none⟩ = some (.bool false) := cell_of_heap HH.out
    go_wp2_with fail
    go_ret2
    have hs1 := a1.size
    exact ⟨_, rfl, after_set2 (a1.trans ha') (by omega) _ _, fun t ht => by obtain rfl := Option.some.inj ht; exact counted (by omega) HH.out HS.out _ _ rfl rfl⟩

theorem word_p02 (w : World) (B : Nat) (hB : B ≤ w.heap.size) : Calls Tryz.prog 70 #[str [112, 48, 50]] w (WFPost w B (some (.p 0 2))) := by
  obtain ⟨W1, hW1⟩ : ∃ W1, W1 = w.alloc (.cells #[.int .i64 0, .int .i64 0, .bool false, .nilIface, .nilFunc] 41 (0, 0)) := ⟨_, rfl⟩
  have a1 : After w W1 := by rw [hW1]; exact After.new _ _
  have hself := After.refl W1
  have hc := fun W (hW : After W1 W) => arg_any W B 0 2 (by omega) (by omega) (Nat.le_trans hB (Nat.le_trans a1.size hW.size))
  have HW := Lib.hid hW1
  clear hW1
  go_enter Tryz.func70, Tryz.ntmps70
  go_wp2_with fail
  rw [← HW.out]
  go_region_held3 (fun W' => After W1 W') (first | assumption | exact hself.drew | go_keep)
    ((go_at_call 93; refine (hc _ (by assumption)).mono ?_; rintro e w1 ⟨b, vr, vf, rfl, ha, hb, hh, hs⟩; have HH := Lib.hid hh; have HS := Lib.hid hs; clear hh hs; have hb' := Nat.le_trans (After.le (w := W1) (by assumption)) hb; have ha' := After.trans (by assumption) ha))
  all_goals
    have f1 : w1.frozen? ⟨b, 1, none⟩ = false := by simp [World.frozen?, HH.out]
    have f2 : w1.frozen? ⟨b, 2, none⟩ = false := by simp [World.frozen?, HH.out]
    have c1 : w1.cell? ⟨b, 1, none⟩ = some (.int .i64 0) := cell_of_heap HH.out
    have c2 : w1.cell? ⟨b, 2, none⟩ = some (.bool false) := cell_of_heap HH.out
    go_wp2_with fail
    go_ret2
    have hs1 := a1.size
    exact ⟨_, rfl, after_set2 (a1.trans ha') (by omega) _ _, fun t ht => by obtain rfl := Option.some.inj ht; exact counted (by omega) HH.out HS.out _ _ rfl rfl⟩

theorem word_p12 (w : World) (B : Nat) (hB : B ≤ w.heap.size) : Calls Tryz.prog 70 #[str [112, 49, 50]] w (WFPost w B (some (.p 1 2))) := by
  obtain ⟨W1, hW1⟩ : ∃ W1, W1 = w.alloc (.cells #[.int .i64 0, .int .i64 0, .bool false, .nilIface, .nilFunc] 41 (0, 0)) := ⟨_, rfl⟩
  have a1 : After w W1 := by rw [hW1]; exact After.new _ _
  have hself := After.refl W1
  have hc := fun W (hW : After W1 W) => arg_any W B 1 2 (by omega) (by omega) (Nat.le_trans hB (Nat.le_trans a1.size hW.size))
  have HW := Lib.hid hW1
  clear hW1
  go_enter Tryz.func70, Tryz.ntmps70
  go_wp2_with fail
  rw [← HW.out]
  go_region_held3 (fun W' => After W1 W') (first | assumption | exact hself.drew | go_keep)
    ((go_at_call 93; refine (hc _ (by assumption)).mono ?_; rintro e w1 ⟨b, vr, vf, rfl, ha, hb, hh, hs⟩; have HH := Lib.hid hh; have HS := Lib.hid hs; clear hh hs; have hb' := Nat.le_trans (After.le (w := W1) (by assumption)) hb; have ha' := After.trans (by assumption) ha))
  all_goals
    have f1 : w1.frozen? ⟨b, 1, none⟩ = false := by simp [World.frozen?, HH.out]
    have f2 : w1.frozen? ⟨b, 2, none⟩ = false := by simp [World.frozen?, HH.out]
    have c1 : w1.cell? ⟨b, 1, none⟩ = some (.int .i64 0) := cell_of_heap HH.out
    have c2 : w1.cell? ⟨b, 2, none⟩ = some (.bool false) := cell_of_heap HH.out
    go_wp2_with fail
    go_ret2
    have hs1 := a1.size
    exact ⟨_, rfl, after_set2 (a1.trans ha') (by omega) _ _, fun t ht => by obtain rfl := Option.some.inj ht; exact counted (by omega) HH.out HS.out _ _ rfl rfl⟩

theorem word_p03 (w : World) (B : Nat) (hB : B ≤ w.heap.size) : Calls Tryz.prog 70 #[str [112, 48, 51]] w (WFPost w B (some (.p 0 3))) := by
  obtain ⟨W1, hW1⟩ : ∃ W1, W1 = w.alloc (.cells #[.int .i64 0, .int .i64 0, .bool false, .nilIface, .nilFunc] 41 (0, 0)) := ⟨_, rfl⟩
  have a1 : After w W1 := by rw [hW1]; exact After.new _ _
  have hself := After.refl W1
  have hc := fun W (hW : After W1 W) => arg_any W B 0 3 (by omega) (by omega) (Nat.le_trans hB (Nat.le_trans a1.size hW.size))
  have HW := Lib.hid hW1
  clear hW1
  go_enter Tryz.func70, Tryz.ntmps70
  go_wp2_with fail
  rw [← HW.out]
  go_region_held3 (fun W' => After W1 W') (first | assumption | exact hself.drew | go_keep)
    ((go_at_call 93; refine (hc _ (by assumption)).mono ?_; rintro e w1 ⟨b, vr, vf, rfl, ha, hb, hh, hs⟩; have HH := Lib.hid hh; have HS := Lib.hid hs; clear hh hs; have hb' := Nat.le_trans (After.le (w := W1) (by assumption)) hb; have ha' := After.trans (by assumption) ha))
  all_goals
    have f1 : w1.frozen? ⟨b, 1, none⟩ = false := by simp [World.frozen?, HH.out]
    have f2 : w1.frozen? ⟨b, 2, none⟩ = false := by simp [World.frozen?, HH.out]
    have c1 : w1.cell? ⟨b, 1, none⟩ = some (.int .i64 0) := cell_of_heap HH.out
    have c2 : w1.cell? ⟨b, 2, none⟩ = some (.bool false) := cell_of_heap HH.out
    go_wp2_with fail
    go_ret2
    have hs1 := a1.size
    exact ⟨_, rfl, after_set2 (a1.trans ha') (by omega) _ _, fun t ht => by obtain rfl := Option.some.inj ht; exact counted (by omega) HH.out HS.out _ _ rfl rfl⟩

theorem word_p13 (w : World) (B : Nat) (hB : B ≤ w.heap.size) : Calls Tryz.prog 70 #[str [112, 49, 51]] w (WFPost w B (some (.p 1 3))) := by
  obtain ⟨W1, hW1⟩ : ∃ W1, W1 = w.alloc (.cells #[.int .i64 0, .int .i64 0, .bool false, .nilIface, .nilFunc] 41 (0, 0)) := ⟨_, rfl⟩
  have a1 : After w W1 := by rw [hW1]; exact After.new _ _
  have hself := After.refl W1
  have hc := fun W (hW : After W1 W) => arg_any W B 1 3 (by omega) (by omega) (Nat.le_trans hB (Nat.le_trans a1.size hW.size))
  have HW := Lib.hid hW1
  clear hW1
  go_enter Tryz.func70, Tryz.ntmps70
  go_wp2_with fail
  rw [← HW.out]
  go_region_held3 (fun W' => After W1 W') (first | assumption | exact hself.drew | go_keep)
    ((go_at_call 93; refine (hc _ (by assumption)).mono ?_; rintro e w1 ⟨b, vr, vf, rfl, ha, hb, hh, hs⟩; have HH := Lib.hid hh; have HS := Lib.hid hs; clear hh hs; have hb' := Nat.le_trans (After.le (w := W1) (by assumption)) hb; have ha' := After.trans (by assumption) ha))
  all_goals
    have f1 : w1.frozen? ⟨b, 1, none⟩ = false := by simp [World.frozen?, HH.out]
    have f2 : w1.frozen? ⟨b, 2, none⟩ = false := by simp [World.frozen?, HH.out]
    have c1 : w1.cell? ⟨b, 1, none⟩ = some (.int .i64 0) := cell_of_heap HH.out
    have c2 : w1.cell? ⟨b, 2, none⟩ = some (.bool false) := cell_of_heap HH.out
    go_wp2_with fail
    go_ret2
    have hs1 := a1.size
    exact ⟨_, rfl, after_set2 (a1.trans ha') (by omega) _ _, fun t ht => by obtain rfl := Option.some.inj ht; exact counted (by omega) HH.out HS.out _ _ rfl rfl⟩

theorem word_p23 (w : World) (B : Nat) (hB : B ≤ w.heap.size) : Calls Tryz.prog 70 #[str [112, 50, 51]] w (WFPost w B (some (.p 2 3))) := by
  obtain ⟨W1, hW1⟩ : ∃ W1, W1 = w.alloc (.cells #[.int .i64 0, .int .i64 0, .bool false, .nilIface, .nilFunc] 41 (0, 0)) := ⟨_, rfl⟩
  have a1 : After w W1 := by rw [hW1]; exact After.new _ _
  have hself := After.refl W1
  have hc := fun W (hW : After W1 W) => arg_any W B 2 3 (by omega) (by omega) (Nat.le_trans hB (Nat.le_trans a1.size hW.size))
  have HW := Lib.hid hW1
  clear hW1
  go_enter Tryz.func70, Tryz.ntmps70
  go_wp2_with fail
  rw [← HW.out]
  go_region_held3 (fun W' => After W1 W') (first | assumption | exact hself.drew | go_keep)
    ((go_at_call 93; refine (hc _ (by assumption)).mono ?_; rintro e w1 ⟨b, vr, vf, rfl, ha, hb, hh, hs⟩; have HH := Lib.hid hh; have HS := Lib.hid hs; clear hh hs; have hb' := Nat.le_trans (After.le (w := W1) (by assumption)) hb; have ha' := After.trans (by assumption) ha))
  all_goals
    have f1 : w1.frozen? ⟨b, 1, none⟩ = false := by simp [World.frozen?, HH.out]
    have f2 : w1.frozen? ⟨b, 2, none⟩ = false := by simp [World.frozen?, HH.out]
    have c1 : w1.cell? ⟨b, 1, none⟩ = some (.int .i64 0) := cell_of_heap HH.out
    have c2 : w1.cell? ⟨b, 2, none⟩ = some (.bool false) := cell_of_heap HH.out
    go_wp2_with fail
    go_ret2
    have hs1 := a1.size
    exact ⟨_, rfl, after_set2 (a1.trans ha') (by omega) _ _, fun t ht => by obtain rfl := Option.some.inj ht; exact counted (by omega) HH.out HS.out _ _ rfl rfl⟩

theorem word_none (w : World) (B : Nat) (l : List UInt8) (n0 : (l == [122, 48]) = false) (n1 : (l == [122, 49]) = false) (n2 : (l == [122, 50]) = false) (n3 : (l == [122, 51]) = false) (n4 : (l == [105, 110, 99]) = false) (n5 : (l == [112, 48, 49]) = false) (n6 : (l == [112, 48, 50]) = false) (n7 : (l == [112, 49, 50]) = false) (n8 : (l == [112, 48, 51]) = false) (n9 : (l == [112, 49, 51]) = false) (n10 : (l == [112, 50, 51]) = false) : Calls Tryz.prog 70 #[str l] w (WFPost w B none) := by
  go_enter Tryz.func70, Tryz.ntmps70
  go_wp2_with fail
  go_ret2
  exact ⟨_, rfl, After.new _ _, fun t ht => by cases ht⟩

theorem wordF_any (w : World) (B : Nat) (l : List UInt8) (hB : B ≤ w.heap.size) : Calls Tryz.prog 70 #[str l] w (WFPost w B (FT.word l)) := by
  by_cases h0 : l = [122, 48]
  · subst h0; exact word_z0 w B hB
  by_cases h1 : l = [122, 49]
  · subst h1; exact word_z1 w B hB
  by_cases h2 : l = [122, 50]
  · subst h2; exact word_z2 w B hB
  by_cases h3 : l = [122, 51]
  · subst h3; exact word_z3 w B hB
  by_cases h4 : l = [105, 110, 99]
  · subst h4; exact word_inc w B hB
  by_cases h5 : l = [112, 48, 49]
  · subst h5; exact word_p01 w B hB
  by_cases h6 : l = [112, 48, 50]
  · subst h6; exact word_p02 w B hB
  by_cases h7 : l = [112, 49, 50]
  · subst h7; exact word_p12 w B hB
  by_cases h8 : l = [112, 48, 51]
  · subst h8; exact word_p03 w B hB
  by_cases h9 : l = [112, 49, 51]
  · subst h9; exact word_p13 w B hB
  by_cases h10 : l = [112, 50, 51]
  · subst h10; exact word_p23 w B hB
  rw [show FT.word l = none by simp [FT.word, h0, h1, h2, h3, h4, h5, h6, h7, h8, h9, h10]]
  exact word_none w B l (by simpa using h0) (by simpa using h1) (by simpa using h2) (by simpa using h3) (by simpa using h4) (by simpa using h5) (by simpa using h6) (by simpa using h7) (by simpa using h8) (by simpa using h9) (by simpa using h10)
end Go.Proofs.YtfjohagdlaiapaaGreat

namespace Go.Proofs.YtfjohagdlaiapaaGreat
open Go.RowKit

set_option maxHeartbeats 2000000
set_option maxRecDepth 100000

/-- A slice of compiled function texts. -/
def PartsV (w : World) (B : Nat) (sv : Value) (ps : List FT) : Prop :=
  (ps = [] ∧ ∃ ao cap, sv = .slice ao 0 cap) ∨ ∃ s o cap cs T fr, sv = .slice (some ⟨s, o, none⟩) ps.length cap ∧ ps.length ≤ cap ∧ B ≤ s ∧ w.heap[s]? = some (.cells cs T fr) ∧ ∀ j (h : j < ps.length), ∃ v, cs[o + j]? = some v ∧ CV w B ps[j] v

theorem PartsV.after {w W : World} {B : Nat} {sv : Value} {ps : List FT} (h : PartsV w B sv ps) (ha : After w W) : PartsV W B sv ps := by
  rcases h with h | ⟨s, o, cap, cs, T, fr, hv, hl, hs, hh, hc⟩
  · exact Or.inl h
  · exact Or.inr ⟨s, o, cap, cs, T, fr, hv, hl, hs, ha.heap hh, fun j hj => by obtain ⟨v, h1, h2⟩ := hc j hj; exact ⟨v, h1, h2.after ha⟩⟩

theorem PartsV.at {w : World} {B : Nat} {sv : Value} {ps : List FT} (h : PartsV w B sv ps) (j : Nat) (hj : j < ps.length) : ∃ s o cap v, sv = .slice (some ⟨s, o, none⟩) ps.length cap ∧ ps.length ≤ cap ∧ w.cell? ⟨s, o + j, none⟩ = some v ∧ CV w B ps[j] v := by
  rcases h with ⟨h, _⟩ | ⟨s, o, cap, cs, T, fr, hv, hl, hs, hh, hc⟩
  · rw [h] at hj; simp at hj
  · obtain ⟨v, h1, h2⟩ := hc j hj
    exact ⟨s, o, cap, v, hv, hl, by rw [cell_of_heap hh]; exact h1, h2⟩

theorem PartsV.form {w : World} {B : Nat} {sv : Value} {ps : List FT} (h : PartsV w B sv ps) : ∃ ao cap, sv = .slice ao ps.length cap := by
  rcases h with ⟨rfl, ao, cap, rfl⟩ | ⟨s, o, cap, cs, T, fr, rfl, _⟩
  · exact ⟨_, _, rfl⟩
  · exact ⟨_, _, rfl⟩

/-- The fields of a compiled function text, in all later worlds. -/
theorem CV.fields {w : World} {B : Nat} {t : FT} {v : Value} (h : CV w B t v) : ∃ b T x vf, v = ptr b ∧ B ≤ b ∧ w.heap[b]? = some (.cells #[.int .i64 (FT.arity t : Nat), .int .i64 (FT.size t : Nat), .bool (FT.total t), .iface T x, vf] 41 (0, 0)) ∧
    TV w B (FT.real t) (.iface T x) ∧ FnV w B t vf := by
  obtain ⟨b, vr, vf, hv, hb, hh, ht, hf⟩ := h
  obtain ⟨T, x, rfl, _⟩ := ht.asks
  exact ⟨b, T, x, vf, hv, hb, hh, ht, hf⟩

def compL (F : Tm) (a : Nat) (gs : List FT) : Tm := gs.foldl (fun acc g => Tm.app acc (FT.appL (FT.real g) (FT.vs a))) F

theorem compL_snoc (F : Tm) (a : Nat) (gs : List FT) (g : FT) : compL F a (gs ++ [g]) = Tm.app (compL F a gs) (FT.appL (FT.real g) (FT.vs a)) := by simp [compL, List.foldl_append]

theorem appL_size (F : Tm) (a : Nat) (ha : a ≤ 3) : (FT.appL F (FT.vs a)).size = F.size + a := by
  match a, ha with
  | 0, _ => rfl
  | 1, _ => rfl
  | 2, _ => rfl
  | 3, _ => rfl

theorem vs_sum (a : Nat) (ha : a ≤ 3) : ((FT.vs a).map Tm.size).sum = a := by
  match a, ha with
  | 0, _ => rfl
  | 1, _ => rfl
  | 2, _ => rfl
  | 3, _ => rfl

theorem vs_ns (a : Nat) : (FT.ns a).map Tm.nm = FT.vs a := by simp [FT.ns, FT.vs, List.map_take, Tm.X, Tm.Y, Tm.Z]
theorem vs_len (a : Nat) : (FT.vs a).length ≤ 3 := by simp [FT.vs]; omega

theorem compL_size (F : Tm) (a : Nat) (ha : a ≤ 3) : ∀ gs : List FT, (compL F a gs).size = F.size + (gs.map fun g => (FT.real g).size + a).sum := by
  intro gs
  unfold compL
  induction gs generalizing F with
  | nil => simp
  | cons g gs ih => rw [List.foldl_cons, ih]; simp only [Tm.size, appL_size _ a ha, List.map_cons, List.sum_cons]; omega

theorem le_sum {n : Nat} : ∀ {l : List Nat}, n ∈ l → n ≤ l.sum
  | [], h => by cases h
  | m :: l, h => by
    rw [List.sum_cons]
    rcases List.mem_cons.1 h with rfl | h
    · omega
    · have := le_sum h; omega

theorem compL_le (F : Tm) (a : Nat) (ha : a ≤ 3) (gs : List FT) (k : Nat) : (compL F a (gs.take k)).size ≤ (compL F a gs).size := by
  rw [compL_size F a ha, compL_size F a ha, List.map_take]
  have := sum_take (gs.map fun g => (FT.real g).size + a) k
  omega

theorem ArgsT.less {w : World} {B B' : Nat} {sv : Value} {us : List Tm} (h : ArgsT w B sv us) (hB : B' ≤ B) : ArgsT w B' sv us := by
  rcases h with h | ⟨b, o, cap, hv, hc⟩
  · exact Or.inl h
  · exact Or.inr ⟨b, o, cap, hv, fun j hj => by obtain ⟨v, h1, h2⟩ := hc j hj; exact ⟨v, h1, h2.less hB⟩⟩

theorem compR_any (w : World) (B a : Nat) (f : FT) (g0 : FT) (gs : List FT) (pf sv : Value) (hf : CV w B f pf) (hgs : PartsV w B sv (g0 :: gs)) (hB : B ≤ w.heap.size) (ha : FT.arity g0 = a) (ha3 : a ≤ 3) (hn : gs.length ≤ 5)
    (hz : (compL (FT.real f) a (g0 :: gs)).size ≤ 3900) :
    Calls Tryz.prog 120 #[pf, sv] w (TermPost w B (FT.absAll (FT.ns a) (compL (FT.real f) a (g0 :: gs)))) := by
  obtain ⟨ps, hps⟩ : ∃ ps, ps = g0 :: gs := ⟨_, rfl⟩
  have hpl : ps.length = gs.length + 1 := by rw [hps]; rfl
  have hp0 : ps[0]'(by omega) = g0 := by simp [hps]
  rw [← hps] at hgs hz ⊢
  clear hps
  obtain ⟨W1, hW1⟩ : ∃ W1, W1 = w.alloc (.cells #[str [120], str [121], str [122]] 9 (0, 0)) := ⟨_, rfl⟩
  have a1 : After w W1 := by rw [hW1]; exact After.new _ _
  have hN : ArgN W1 w.heap.size a := by rw [hW1]; exact heap_top _ _
  have h1 := argNames_any w a ha3
  rw [← hW1] at h1
  obtain ⟨bf, Tf, xf, vf, rfl, hbf, hhf, htf, _⟩ := hf.fields
  obtain ⟨s, o, cap, v0, rfl, hcap, hc0, hv0⟩ := hgs.at 0 (by omega)
  rw [hp0] at hv0
  rw [Nat.add_zero] at hc0
  obtain ⟨b0, T0, x0, vf0, rfl, hb0, hh0, _, _⟩ := hv0.fields
  rw [ha] at hh0
  have c00 := cell_of_heap (i := 0) hh0
  have cf3 := cell_later' (cell_of_heap (i := 3) hhf) W1 a1
  have hlen1 : (0 : Int) < (ps.length : Int) := by omega
  have HT := Lib.hid (htf.below a1)
  have HP := Lib.hid hgs
  have HN := Lib.hid hN
  have hB1 : B ≤ W1.heap.size := Nat.le_trans hB a1.size
  have hpl6 : ps.length ≤ 6 := by omega
  clear hW1 hf hhf htf hgs hv0 hh0 hN hpl hp0 hn
  go_enter Tryz.func120, Tryz.ntmps120
  go_wp2_with (go_at_call 110; refine h1.mono ?_; rintro e w1 ⟨rfl, rfl⟩; clear h1 c00 hc0)
  go_loopw [6, 8, 22] (fun whole _ i wr => ∃ k : Nat, i = .int .i64 k ∧ k ≤ ps.length ∧ Hid (TV wr B (compL (FT.real f) a (ps.take k)) whole) ∧ After w1 wr) (fun _ _ i _ => ps.length - (intOf i).toNat)
  case atStart => exact ⟨0, rfl, Nat.zero_le _, HT, After.refl _⟩
  case round =>
    obtain ⟨k, rfl, hk, ht, hr⟩ := hrel
    clear cf3
    by_cases hlt : k < ps.length
    · obtain ⟨T1, x1, rfl, _⟩ := TV.asks ht.out
      obtain ⟨s', o', cap', v, hsv, _, hck, hv⟩ := (HP.out.after (a1.trans hr)).at k hlt
      injection hsv with e1 e2 e3
      injection e1 with e1
      injection e1 with e1 e4
      subst e1
      subst e4
      subst e3
      obtain ⟨b, T, x, vfk, rfl, hb, hh, htk, _⟩ := hv.fields
      have c3 : ∀ W, After wr W → W.cell? ⟨b, 3, none⟩ = some (.iface T x) := cell_later' (cell_of_heap (i := 3) hh)
      have hBr := Nat.le_trans hB1 hr.size
      have hnm := fun W (hW : After wr W) => nameTerms_any W w.heap.size 3 (FT.ns a) ((show ArgN W w.heap.size a from (hr.trans hW).heap HN.out).cells ha3) (by rw [ns_len a ha3]; omega)
      rw [ns_len a ha3, vs_ns] at hnm
      have hself := After.refl wr
      have hsz := compL_size (FT.real f) a ha3 ps
      have hszk := compL_size (FT.real f) a ha3 (ps.take k)
      have hgk : (FT.real ps[k]).size + a ≤ (ps.map fun g => (FT.real g).size + a).sum := le_sum (List.mem_map.2 ⟨ps[k], List.getElem_mem hlt, rfl⟩)
      have hGz : (FT.real ps[k]).size + a ≤ 3900 := by omega
      have hAz := Nat.le_trans (compL_le (FT.real f) a ha3 ps k) hz
      have hvs := vs_sum a ha3
      have hvl := vs_len a
      have hap := appL_size (FT.real ps[k]) a ha3
      have hsn : ps.take (k + 1) = ps.take k ++ [ps[k]] := by simp
      have hsn2 := congrArg (fun l => compL (FT.real f) a l) hsn
      simp only [compL_snoc] at hsn2
      have HT1 := Lib.hid ht.out
      have HTK := Lib.hid htk
      have HSN := Lib.hid hsn2
      have hkl : (k : Int) < (ps.length : Int) := by omega
      clear ht htk hsn hsn2 hsz hszk hlen1 hh
      generalize hA : compL (FT.real f) a (ps.take k) = A at *
      generalize hG : FT.real ps[k] = G at *
      go_wp2_with fail
      go_region_held3 (fun W' => After wr W') (first | assumption | exact hself.drew | go_keep)
        (first
          | (go_at_call 138; refine (hnm _ (by first | assumption | exact hself.drew)).mono ?_; rintro e x1 ⟨sv1, rfl, hb1, hv1⟩; obtain ⟨ao1, cap1, rfl⟩ := hv1.form; have hb1' := After.trans (by first | assumption | exact hself.drew) hb1; have HV1 := Lib.hid (hv1.less (Nat.le_trans hBr (After.le (by first | assumption | exact hself.drew)))); clear hv1)
          | (go_at_call 79; refine (applyAll_sl x1 B G _ _ (FT.vs a) HV1.out (HTK.out.below hb1') (Nat.le_trans hBr hb1'.size) (by omega) (by omega)).mono ?_; rintro e x2 ⟨v2, rfl, hb2, ht2⟩; obtain ⟨T2, y2, rfl, _⟩ := ht2.asks; have HT2 := Lib.hid ht2; clear ht2; have hb2' := hb1'.trans hb2)
          | (go_at_call 50; refine (apply_any x2 B A (FT.appL G (FT.vs a)) _ _ (HT1.out.below hb2') HT2.out (Nat.le_trans hBr hb2'.size) (by omega)).mono ?_; rintro e x3 ⟨v3, rfl, hb3, ht3⟩; obtain ⟨T3, y3, rfl, _⟩ := ht3.asks; have HT3 := Lib.hid ht3; clear ht3; have hb3' := hb2'.trans hb3))
      all_goals
        go_wp2_with fail
        go_roundw
        case rel => exact ⟨k + 1, by go_num, by omega, by rw [HSN.out]; exact HT3, hr.trans hb3'⟩
        case measure => simp [intOf]; omega
    · obtain rfl : k = ps.length := by omega
      obtain ⟨T1, x1, rfl, _⟩ := TV.asks ht.out
      rw [List.take_length] at ht
      have hna := fun W (hW : After wr W) => absAll_any W B (FT.ns a) _ _ _ (((show ArgN W w.heap.size a from (hr.trans hW).heap HN.out)).strs ha3) (ht.out.below hW) (Nat.le_trans hB1 (hr.trans hW).size) (by rw [ns_len a ha3]; omega) hz
      unfold TermPost at hna
      have hself := After.refl wr
      clear ht hlen1
      go_wp2_with (go_at_call 78; refine (hna _ (by first | assumption | exact hself.drew)).mono ?_; rintro e x1 ⟨v1, rfl, hb1, hv1⟩; have HV := Lib.hid hv1; clear hv1)
      go_ret
      exact ⟨_, rfl, a1.trans (hr.trans hb1), HV.out⟩
end Go.Proofs.YtfjohagdlaiapaaGreat

namespace Go.Proofs.YtfjohagdlaiapaaGreat
open Go.RowKit

set_option maxHeartbeats 2000000
set_option maxRecDepth 100000

theorem nm2_after (W : World) (B : Nat) (x y : List UInt8) (hB : B ≤ W.heap.size) :
    After W ((W.alloc (.cells #[str x] 124 (0, 0))).alloc (.cells #[str y] 124 (0, 0))) ∧
    TV ((W.alloc (.cells #[str x] 124 (0, 0))).alloc (.cells #[str y] 124 (0, 0))) B (.nm x) (.iface 122 (ptr W.heap.size)) ∧
    TV ((W.alloc (.cells #[str x] 124 (0, 0))).alloc (.cells #[str y] 124 (0, 0))) B (.nm y) (.iface 122 (ptr (W.heap.size + 1))) :=
  ⟨(After.new _ _).alloc _, nm_val (heap_below2 W _ _) hB, nm_val (heap_top2 W _ _) (by omega)⟩

theorem strs2 (W : World) (x y : List UInt8) : StrsB (W.alloc (.cells #[str x, str y] 9 (0, 0))).heap.size (W.alloc (.cells #[str x, str y] 9 (0, 0))) (.slice (some ⟨W.heap.size, 0, none⟩) 2 2) [x, y] := by
  refine Or.inr ⟨W.heap.size, 0, 2, rfl, by simp, fun j hj => ?_⟩
  rw [Nat.zero_add, cell_of_heap (heap_top W _)]
  match j, hj with
  | 0, _ => rfl
  | 1, _ => rfl

theorem StrsB.after {b b' : Nat} {w W : World} {sv : Value} {ns : List (List UInt8)} (h : StrsB b w sv ns) (ha : After w W) (hb : b ≤ b') : StrsB b' W sv ns := by
  rcases h with h | ⟨g, o, c, hv, hg, hc⟩
  · exact Or.inl h
  · exact Or.inr ⟨g, o, c, hv, Nat.lt_of_lt_of_le hg hb, fun j hj => cell_later' (hc j hj) _ ha⟩

theorem size_absAll (xs : List (List UInt8)) (t : Tm) (h5 : xs.length < 5) (hz : t.size ≤ 3900) : (FT.absAll xs t).size ≤ 1000000 := absR_small _ _ (by simpa using h5) hz

theorem seaR_any (w : World) (B a : Nat) (f : FT) (pf : Value) (hf : CV w B f pf) (hB : B ≤ w.heap.size) (ha : FT.arity f = a + 1) (ha2 : a ≤ 2) (hz : (FT.real f).size ≤ 3000)
    (hy : (FT.absAll [[117], [118]] (FT.seaB (FT.real f) a)).size ≤ 3800) :
    Calls Tryz.prog 126 #[pf] w (TermPost w B (FT.seaT (FT.real f) a)) := by
  obtain ⟨bf, Tf, xf, vf, rfl, hbf, hhf, htf, _⟩ := hf.fields
  rw [ha] at hhf
  obtain ⟨n, hn⟩ : ∃ n : Nat, n = a + 1 := ⟨_, rfl⟩
  rw [← hn] at hhf
  obtain ⟨W1, hW1⟩ : ∃ W1, W1 = w.alloc (.cells #[str [120], str [121], str [122]] 9 (0, 0)) := ⟨_, rfl⟩
  have a1 : After w W1 := by rw [hW1]; exact After.new _ _
  have hN1 : ArgN W1 w.heap.size a := by rw [hW1]; exact heap_top _ _
  have h1 : ∀ m : Int, m = a → Calls Tryz.prog 110 #[.int .i64 m] w fun e w' => e = .returned (.slice (some ⟨w.heap.size, 0, none⟩) a 3) ∧ w' = W1 := fun m hm => by
    rw [hm, hW1]; exact argNames_any w a (by omega)
  have hB1 := Nat.le_trans hB a1.size
  obtain ⟨a2, hU, hV⟩ := nm2_after W1 B [117] [118] hB1
  obtain ⟨W2, hW2⟩ : ∃ W2, W2 = (W1.alloc (.cells #[str [117]] 124 (0, 0))).alloc (.cells #[str [118]] 124 (0, 0)) := ⟨_, rfl⟩
  rw [← hW2] at a2 hU hV
  have a12 := a1.trans a2
  have c0 : w.cell? ⟨bf, 0, none⟩ = some (.int .i64 n) := cell_of_heap (i := 0) hhf
  have c3 : W2.cell? ⟨bf, 3, none⟩ = some (.iface Tf xf) := cell_later' (cell_of_heap (i := 3) hhf) W2 a12
  rw [hW2] at c3
  have hF := htf.below a12
  generalize hG : FT.real f = F at *
  have k1 := apply_any W2 B F FT.V _ _ hF hV (Nat.le_trans hB a12.size) (by simp [FT.V, Tm.size]; omega)
  have HU := Lib.hid hU
  have HV := Lib.hid hV
  have HN1 := Lib.hid hN1
  have HW2 := Lib.hid hW2
  have hn1 : (n : Int) - 1 = a := by omega
  have hn3 : n ≤ 3 := by omega
  have HNN := Lib.hid hn1
  clear hf hhf htf hU hV hF hW2 hn1 hW1 hN1
  go_enter Tryz.func126, Tryz.ntmps126
  go_wp2_with fail
  refine (h1 _ (by omega)).mono ?_
  rintro e w1 ⟨rfl, rfl⟩
  clear h1 c0
  go_wp2_with fail
  rw [← HW2.out]
  refine k1.mono ?_
  rintro e w3 ⟨v3, rfl, hb3, ht3⟩
  have a3 := a2.trans hb3
  have k2 := nameTerms_any w3 w.heap.size 3 (FT.ns a) ((show ArgN w3 w.heap.size a from a3.heap HN1.out).cells (by omega)) (by rw [ns_len a (by omega)]; omega)
  rw [ns_len a (by omega), vs_ns] at k2
  have HT3 := Lib.hid ht3
  clear k1 ht3 c3
  go_wp2_with fail
  refine k2.mono ?_
  rintro e w4 ⟨sv4, rfl, hb4, hv4⟩
  have k3 := applyAll_sl w4 B (F.app FT.V) v3 sv4 (FT.vs a) (hv4.less (Nat.le_trans (Nat.le_trans hB a12.size) hb3.size)) (HT3.out.below hb4) (Nat.le_trans (Nat.le_trans (Nat.le_trans hB a12.size) hb3.size) hb4.size) (by rw [vs_sum a (by omega)]; simp [Tm.size, FT.V]; omega) (by have := vs_len a; omega)
  unfold TermPost at k3
  clear k2 hv4
  go_wp2_with fail
  refine k3.mono ?_
  rintro e w5 ⟨v5, rfl, hb5, ht5⟩
  have b3 : After W2 w3 := hb3
  have a5 := (b3.trans hb4).trans hb5
  have hB5 := Nat.le_trans hB (a12.trans a5).size
  have k4 := succ_any w5 B hB5
  unfold TermPost at k4
  have HT5 := Lib.hid ht5
  clear k3 ht5 HT3 a3 hb3 hb4 hb5
  go_wp2_with fail
  refine k4.mono ?_
  rintro e w6 ⟨v6, rfl, hb6, ht6⟩
  have a6 := a5.trans hb6
  have hB6 := Nat.le_trans hB (a12.trans a6).size
  have k5 := apply_any w6 B Tm.succ FT.V _ _ ht6 (HV.out.below a6) hB6 (by decide +kernel)
  clear k4 ht6
  go_wp2_with fail
  refine k5.mono ?_
  rintro e w7 ⟨v7, rfl, hb7, ht7⟩
  have a7 := a6.trans hb7
  have hB7 := Nat.le_trans hB (a12.trans a7).size
  have k6 := apply_any w7 B FT.U (.app Tm.succ FT.V) _ _ (HU.out.below a7) ht7 hB7 (by decide +kernel)
  clear k5 ht7
  go_wp2_with fail
  refine k6.mono ?_
  rintro e w8 ⟨v8, rfl, hb8, ht8⟩
  have a8 := a7.trans hb8
  have b58 : After w5 w8 := (show After w5 w6 from hb6).trans ((show After w6 w7 from hb7).trans hb8)
  obtain ⟨W9, hW9⟩ : ∃ W9, W9 = w8.alloc (.cells #[str [117], str [118]] 9 (0, 0)) := ⟨_, rfl⟩
  have a9 : After w8 W9 := by rw [hW9]; exact After.new _ _
  have hS9 : StrsB W9.heap.size W9 (.slice (some ⟨w8.heap.size, 0, none⟩) 2 2) [[117], [118]] := by rw [hW9]; exact strs2 w8 _ _
  have hB9 := Nat.le_trans hB (a12.trans (a8.trans a9)).size
  have k7 := bit_any W9 B true hB9
  unfold TermPost at k7
  simp only [if_true] at k7
  have HT8 := Lib.hid ht8
  have HS9 := Lib.hid hS9
  have HW9 := Lib.hid hW9
  clear k6 ht8 hS9 hW9 hb6 hb7 hb8 a6 a7
  go_wp2_with fail
  rw [← HW9.out]
  refine k7.mono ?_
  rintro e w10 ⟨v10, rfl, hb10, ht10⟩
  obtain ⟨T10, x10, rfl, _⟩ := ht10.asks
  obtain ⟨T8, x8, rfl, _⟩ := HT8.out.asks
  have b10 : After W9 w10 := hb10
  obtain ⟨W11, hW11⟩ : ∃ W11, W11 = w10.alloc (.cells #[.iface T10 x10, .iface 122 (ptr (w1.heap.size + 1)), .iface T8 x8] 38 (0, 0)) := ⟨_, rfl⟩
  have a11 : After w10 W11 := by rw [hW11]; exact After.new _ _
  have c811 := a9.trans (b10.trans a11)
  have c511 := b58.trans c811
  have cc := a5.trans c511
  have hB11 := Nat.le_trans hB (a12.trans cc).size
  have k8 := applyAll3 W11 B w10.heap.size ((FT.vs a).foldl Tm.app (F.app FT.V)) .k FT.V (FT.U.app (Tm.succ.app FT.V)) v5 _ _ _ (0, 0) (by rw [hW11]; exact heap_top _ _) (HT5.out.below c511) (ht10.below a11) (HV.out.below cc) (HT8.out.below c811) hB11 (by
    have := appL_size (F.app FT.V) a (by omega)
    unfold FT.appL at this
    rw [this]
    simp [Tm.size, FT.V, FT.U, FT.size_succ]; omega)
  rw [show ((((FT.vs a).foldl Tm.app (F.app FT.V)).app .k).app FT.V).app (FT.U.app (Tm.succ.app FT.V)) = FT.seaB F a from rfl] at k8
  unfold TermPost at k8
  have HW11 := Lib.hid hW11
  clear k7 ht10 hW11 hb10
  go_wp2_with fail
  rw [← HW11.out]
  refine k8.mono ?_
  rintro e w12 ⟨v12, rfl, hb12, ht12⟩
  have b12 : After W11 w12 := hb12
  have hB12 := Nat.le_trans hB11 b12.size
  have hzb : (FT.seaB F a).size ≤ 3900 := by
    have := appL_size (F.app FT.V) a (by omega)
    simp only [FT.seaB, Tm.size, this]
    simp [Tm.size, FT.V, FT.U, FT.size_succ]; omega
  have k9 := absAll_any w12 B [[117], [118]] _ _ v12 (HS9.out.after ((b10.trans a11).trans b12) ((b10.trans a11).trans b12).size) ht12 hB12 (by decide) hzb
  unfold TermPost at k9
  clear k8 ht12 hb12
  go_wp2_with fail
  refine k9.mono ?_
  rintro e w13 ⟨v13, rfl, hb13, ht13⟩
  have b13 : After w12 w13 := hb13
  obtain ⟨T13, x13, rfl, _⟩ := ht13.asks
  have hB13 := Nat.le_trans hB12 b13.size
  have k10 := fix_any w13 B hB13
  unfold TermPost at k10
  have HT13 := Lib.hid ht13
  clear k9 ht13 hb13
  go_wp2_with fail
  refine k10.mono ?_
  rintro e w14 ⟨v14, rfl, hb14, ht14⟩
  have b14 : After w13 w14 := hb14
  have hB14 := Nat.le_trans hB13 b14.size
  have k11 := numeral_any w14 B 0 hB14 (by omega)
  unfold TermPost at k11
  have HT14 := Lib.hid ht14
  clear k10 ht14 hb14
  go_wp2_with fail
  refine k11.mono ?_
  rintro e w15 ⟨v15, rfl, hb15, ht15⟩
  have b15 : After w14 w15 := hb15
  obtain ⟨T15, x15, rfl, _⟩ := ht15.asks
  obtain ⟨W16, hW16⟩ : ∃ W16, W16 = w15.alloc (.cells #[.iface T13 x13, .iface T15 x15] 38 (0, 0)) := ⟨_, rfl⟩
  have a16 : After w15 W16 := by rw [hW16]; exact After.new _ _
  have hB16 := Nat.le_trans hB14 (b15.trans a16).size
  have k12 := applyAll2 W16 B w15.heap.size Tm.fix (FT.absAll [[117], [118]] (FT.seaB F a)) (Tm.num 0) v14 _ _ (0, 0) (by rw [hW16]; exact heap_top _ _) (HT14.out.below (b15.trans a16)) (HT13.out.below (b14.trans (b15.trans a16))) (ht15.below a16) hB16 (by rw [FT.size_fix]; simp [Tm.num, Tm.I, Tm.size]; omega)
  unfold TermPost at k12
  have HW16 := Lib.hid hW16
  clear k11 ht15 hW16 hb15
  go_wp2_with fail
  rw [← HW16.out]
  refine k12.mono ?_
  rintro e w17 ⟨v17, rfl, hb17, ht17⟩
  have b17 : After W16 w17 := hb17
  have d17 : After w1 w17 := a2.trans (cc.trans (b12.trans (b13.trans (b14.trans ((b15.trans a16).trans b17)))))
  have hN17 : ArgN w17 w.heap.size a := d17.heap HN1.out
  have k13 := absAll_any w17 B (FT.ns a) _ _ v17 (hN17.strs (by omega)) ht17 (Nat.le_trans hB16 b17.size) (by rw [ns_len a (by omega)]; omega) (by simp only [Tm.size, FT.size_fix]; simp [Tm.num, Tm.I, Tm.size]; omega)
  unfold TermPost at k13
  clear k12 ht17 hb17 hN17
  go_wp2_with fail
  refine k13.mono ?_
  rintro e w18 ⟨v18, rfl, hb18, ht18⟩
  have b18 : After w17 w18 := hb18
  have HT18 := Lib.hid ht18
  clear k13 ht18
  go_wp2_with fail
  go_ret
  exact ⟨_, rfl, (a1.trans d17).trans b18, HT18.out⟩

theorem search_any (w : World) (B : Nat) (f : FT) (pf : Value) (hf : CV w B f pf) (hB : B ≤ w.heap.size) (h0 : 0 < FT.arity f) (h3 : FT.arity f ≤ 3) (hz : (FT.real f).size ≤ 3000)
    (hy : (FT.absAll [[117], [118]] (FT.seaB (FT.real f) (FT.arity f - 1))).size ≤ 3800) :
    Calls Tryz.prog 100 #[pf] w (NewPost w B (.m f)) := by
  obtain ⟨a, ha⟩ : ∃ a, a = FT.arity f - 1 := ⟨_, rfl⟩
  rw [← ha] at hy
  have ha1 : FT.arity f = a + 1 := by omega
  obtain ⟨W1, hW1⟩ : ∃ W1, W1 = w.alloc (.cells #[pf] 34 (0, 0)) := ⟨_, rfl⟩
  have a1 : After w W1 := by rw [hW1]; exact After.new _ _
  have hq : W1.heap[w.heap.size]? = some (.cells #[pf] 34 (0, 0)) := by rw [hW1]; exact heap_top _ _
  have hB1 := Nat.le_trans hB a1.size
  have hf1 := hf.after a1
  have k1 := fun W (hW : After W1 W) => seaR_any W B a f pf (hf1.after hW) (Nat.le_trans hB1 hW.size) ha1 (by omega) hz hy
  unfold TermPost at k1
  have hself := After.refl W1
  obtain ⟨bf, Tf, xf, vf, rfl, hbf, hhf, htf, _⟩ := hf1.fields
  rw [ha1] at hhf
  have c0 : ∀ W, After W1 W → W.cell? ⟨bf, 0, none⟩ = some (.int .i64 ((a + 1 : Nat) : Int)) := fun W hW => cell_later' (cell_of_heap (i := 0) hhf) W hW
  have q0 : ∀ W, After W1 W → W.cell? ⟨w.heap.size, 0, none⟩ = some (ptr bf) := fun W hW => cell_later' (cell_of_heap (i := 0) hq) W hW
  have HF1 := Lib.hid hf1
  have HQ := Lib.hid hq
  have HA := Lib.hid ha
  have HW1 := Lib.hid hW1
  have ha2 : a ≤ 2 := by omega
  clear hf hf1 hq ha hW1 hhf htf hy
  go_enter Tryz.func100, Tryz.ntmps100
  go_wp2_with fail
  rw [← HW1.out]
  go_region_held3 (fun W' => After W1 W') (first | assumption | exact hself.drew | exact After.alloc (by assumption) _ | go_keep)
    (first | (go_at_call 126; refine (k1 _ (by first | assumption | exact hself.drew)).mono ?_; rintro e x1 ⟨v1, rfl, hb1, ht1⟩; obtain ⟨T1, y1, rfl, _⟩ := ht1.asks; have hb1' : After W1 x1 := After.trans (by first | assumption | exact hself.drew) hb1; have HT := Lib.hid ht1; clear ht1))
  all_goals
    go_wp2_with fail
    go_ret
    rw [IntWalk.i64_in (a : Int) (by omega)]
    have e := HA.out
    subst e
    exact NewPost.mk (a1.trans hb1') HT.out ⟨_, _, rfl, hB, hb1'.heap HQ.out, HF1.out.after hb1'⟩
end Go.Proofs.YtfjohagdlaiapaaGreat

namespace Go.Proofs.YtfjohagdlaiapaaGreat
open Go.RowKit

set_option maxHeartbeats 2000000
set_option maxRecDepth 100000

theorem strs_own {w : World} {base n : Nat} {v : Value} {T : TypeId} {vs : List Value} (xs : List (List UInt8)) (hn : n = xs.length) (hvs : vs = xs.map str) (h : w.ownsRow base T 1 v n vs) : StrsB w.heap.size w v xs := by
  subst hn
  subst hvs
  rcases h.2 with ⟨h1, h2⟩ | ⟨g, cap, cur, h1, _, hh, _⟩
  · exact Or.inl ⟨none, 0, h1, List.length_eq_zero_iff.1 h2⟩
  · refine Or.inr ⟨g, 0, cap, h1, (Array.getElem?_eq_some_iff.1 hh).1, fun j hj => ?_⟩
    rw [Nat.zero_add, World.ownsRow.cellAt (h1 ▸ h) j (by omega)]
    simp [List.getElem?_eq_getElem hj]

theorem recR_any (w : World) (B a : Nat) (f g : FT) (pf pg : Value) (hf : CV w B f pf) (hg : CV w B g pg) (hB : B ≤ w.heap.size) (ha : FT.arity f = a) (ha1 : a ≤ 1) (hz : (FT.real f).size + (FT.real g).size ≤ 3000) :
    Calls Tryz.prog 124 #[pf, pg] w (TermPost w B (FT.recT (FT.real f) (FT.real g) a)) := by
  obtain ⟨bf, Tf, xf, vf, rfl, hbf, hhf, htf, _⟩ := hf.fields
  obtain ⟨bg, Tg, xg, vg, rfl, hbg, hhg, htg, _⟩ := hg.fields
  rw [ha] at hhf
  have ha3 : a ≤ 3 := by omega
  obtain ⟨W1, hW1⟩ : ∃ W1, W1 = w.alloc (.cells #[str [120], str [121], str [122]] 9 (0, 0)) := ⟨_, rfl⟩
  have a1 : After w W1 := by rw [hW1]; exact After.new _ _
  have hN1 : ArgN W1 w.heap.size a := by rw [hW1]; exact heap_top _ _
  have h1 := argNames_any w a ha3
  rw [← hW1] at h1
  have hB1 := Nat.le_trans hB a1.size
  have k2 := nameTerms_any W1 w.heap.size 3 (FT.ns a) (hN1.cells ha3) (by rw [ns_len a ha3]; omega)
  rw [ns_len a ha3, vs_ns] at k2
  have c0 : w.cell? ⟨bf, 0, none⟩ = some (.int .i64 a) := cell_of_heap (i := 0) hhf
  have cf3 : ∀ W, After w W → W.cell? ⟨bf, 3, none⟩ = some (.iface Tf xf) := fun W hW => cell_later' (cell_of_heap (i := 3) hhf) W hW
  have cg3 : ∀ W, After w W → W.cell? ⟨bg, 3, none⟩ = some (.iface Tg xg) := fun W hW => cell_later' (cell_of_heap (i := 3) hhg) W hW
  generalize hF : FT.real f = F at *
  generalize hG : FT.real g = G at *
  have HN1 := Lib.hid hN1
  have HTF := Lib.hid htf
  have HTG := Lib.hid htg
  clear hf hhf htf hg hhg htg hN1 hW1
  go_enter Tryz.func124, Tryz.ntmps124
  go_wp2_with fail
  refine h1.mono ?_
  rintro e w1 ⟨rfl, rfl⟩
  clear h1 c0
  go_wp2_with fail
  refine k2.mono ?_
  rintro e w2 ⟨sv, rfl, hb2, hs2⟩
  have b2 : After w1 w2 := hb2
  have a2 := a1.trans b2
  have hB2 := Nat.le_trans hB a2.size
  have hs2' := hs2.less hB1
  obtain ⟨a3, hU, hV⟩ := nm2_after w2 B [117] [118] hB2
  obtain ⟨W3, hW3⟩ : ∃ W3, W3 = (w2.alloc (.cells #[str [117]] 124 (0, 0))).alloc (.cells #[str [118]] 124 (0, 0)) := ⟨_, rfl⟩
  rw [← hW3] at a3 hU hV
  have b3 : After w W3 := a2.trans a3
  have hB3 := Nat.le_trans hB b3.size
  have k3 := bit_any W3 B false hB3
  unfold TermPost at k3
  simp only [Bool.false_eq_true, if_false] at k3
  have HS2 := Lib.hid hs2'
  have HU := Lib.hid hU
  have HV := Lib.hid hV
  have HW3 := Lib.hid hW3
  clear k2 hs2 hs2' hU hV hW3 hb2
  go_wp2_with fail
  rw [← HW3.out]
  refine k3.mono ?_
  rintro e w4 ⟨v4, rfl, hb4, ht4⟩
  have b4 : After W3 w4 := hb4
  have hB4 := Nat.le_trans hB3 b4.size
  have k4 := apply_any w4 B FT.V Tm.no _ _ (HV.out.below b4) ht4 hB4 (by decide +kernel)
  clear k3 ht4 hb4
  go_wp2_with fail
  refine k4.mono ?_
  rintro e w5 ⟨v5, rfl, hb5, ht5⟩
  have b5 : After w4 w5 := hb5
  obtain ⟨T5, x5, rfl, _⟩ := ht5.asks
  have hB5 := Nat.le_trans hB4 b5.size
  have k5 := apply_any w5 B FT.U FT.less _ _ (HU.out.below (b4.trans b5)) ht5 hB5 (by decide +kernel)
  have HT5 := Lib.hid (show TV w5 B FT.less (.iface T5 x5) from ht5)
  clear k4 ht5 hb5
  go_wp2_with fail
  refine k5.mono ?_
  rintro e w6 ⟨v6, rfl, hb6, ht6⟩
  have b6 : After w5 w6 := hb6
  have hB6 := Nat.le_trans hB5 b6.size
  have c26 : After w2 w6 := a3.trans (b4.trans (b5.trans b6))
  have hvs := vs_sum a ha3
  have hvl := vs_len a
  have k6 := applyAll_sl w6 B (FT.U.app FT.less) v6 sv (FT.vs a) (HS2.out.after c26) ht6 hB6 (by rw [hvs]; simp [Tm.size, FT.U, FT.less, FT.V, Tm.no, Tm.I]; omega) (by omega)
  unfold TermPost at k6
  clear k5 ht6 hb6
  go_wp2_with fail
  refine k6.mono ?_
  rintro e w7 ⟨v7, rfl, hb7, ht7⟩
  have b7 : After w6 w7 := hb7
  obtain ⟨T7, x7, rfl, _⟩ := ht7.asks
  have hB7 := Nat.le_trans hB6 b7.size
  have c27 := c26.trans b7
  have HT7 := Lib.hid (show TV w7 B (FT.appL (FT.U.app FT.less) (FT.vs a)) (.iface T7 x7) from ht7)
  have c07 := a2.trans c27
  have k7 := applyAll_sl w7 B F (.iface Tf xf) sv (FT.vs a) (HS2.out.after c27) (HTF.out.below c07) hB7 (by rw [hvs]; omega) (by omega)
  unfold TermPost at k7
  clear k6 ht7 hb7
  go_wp2_with fail
  refine k7.mono ?_
  rintro e w8 ⟨v8, rfl, hb8, ht8⟩
  have b8 : After w7 w8 := hb8
  obtain ⟨T8, x8, rfl, _⟩ := ht8.asks
  have hB8 := Nat.le_trans hB7 b8.size
  have c08 := c07.trans b8
  have HT8 := Lib.hid (show TV w8 B (FT.appL F (FT.vs a)) (.iface T8 x8) from ht8)
  clear k7 ht8 hb8
  obtain ⟨W9, hW9⟩ : ∃ W9, W9 = w8.alloc (.cells #[.iface T5 x5, .iface T7 x7] 38 (0, 0)) := ⟨_, rfl⟩
  have b9 : After w8 W9 := by rw [hW9]; exact After.new _ _
  have hB9 := Nat.le_trans hB8 b9.size
  have hzu := appL_size (FT.U.app FT.less) a ha3
  have hzl : FT.U.size = 1 := rfl
  have hzv : FT.V.size = 1 := rfl
  have hzl2 : FT.less.size = 5 := by decide +kernel
  have k8 := applyAll2 W9 B w8.heap.size G FT.less (FT.appL (FT.U.app FT.less) (FT.vs a)) (.iface Tg xg) _ _ (0, 0) (by rw [hW9]; exact heap_top _ _) (HTG.out.below (c08.trans b9)) (HT5.out.below (b6.trans (b7.trans (b8.trans b9)))) (HT7.out.below (b8.trans b9)) hB9 (by simp only [Tm.size, hzu, hzl, hzl2]; omega)
  unfold TermPost at k8
  have HW9 := Lib.hid hW9
  clear hW9
  go_wp2_with fail
  rw [← HW9.out]
  refine k8.mono ?_
  rintro e w10 ⟨v10, rfl, hb10, ht10⟩
  have b10 : After W9 w10 := hb10
  have hB10 := Nat.le_trans hB9 b10.size
  have c8 := b8.trans (b9.trans b10)
  have k9 := applyAll_sl w10 B ((G.app FT.less).app (FT.appL (FT.U.app FT.less) (FT.vs a))) v10 sv (FT.vs a) (HS2.out.after (c27.trans c8)) ht10 hB10 (by rw [hvs]; simp only [Tm.size, hzu, hzl, hzl2]; omega) (by omega)
  unfold TermPost at k9
  clear k8 ht10 hb10
  go_wp2_with fail
  refine k9.mono ?_
  rintro e w11 ⟨v11, rfl, hb11, ht11⟩
  have b11 : After w10 w11 := hb11
  have hB11 := Nat.le_trans hB10 b11.size
  obtain ⟨T11, x11, rfl, _⟩ := ht11.asks
  have HT11 := Lib.hid (show TV w11 B (FT.appL ((G.app FT.less).app (FT.appL (FT.U.app FT.less) (FT.vs a))) (FT.vs a)) (.iface T11 x11) from ht11)
  have k10 := bit_any w11 B true hB11
  unfold TermPost at k10
  simp only [if_true] at k10
  clear k9 ht11 hb11
  go_wp2_with fail
  refine k10.mono ?_
  rintro e w12 ⟨v12, rfl, hb12, ht12⟩
  have b12 : After w11 w12 := hb12
  have hB12 := Nat.le_trans hB11 b12.size
  obtain ⟨T12, x12, rfl, _⟩ := ht12.asks
  obtain ⟨W13, hW13⟩ : ∃ W13, W13 = w12.alloc (.cells #[.iface T12 x12, .iface T8 x8, .iface T11 x11] 38 (0, 0)) := ⟨_, rfl⟩
  have b13 : After w12 W13 := by rw [hW13]; exact After.new _ _
  have hB13 := Nat.le_trans hB12 b13.size
  have c913 := (b9.trans b10).trans (b11.trans (b12.trans b13))
  have hzo := appL_size F a ha3
  have hzp := appL_size ((G.app FT.less).app (FT.appL (FT.U.app FT.less) (FT.vs a))) a ha3
  have hzq : ((G.app FT.less).app (FT.appL (FT.U.app FT.less) (FT.vs a))).size = G.size + 5 + (6 + a) := by simp only [Tm.size, hzu, hzl, hzl2]
  have hV13 := HV.out.below (b4.trans (b5.trans (b6.trans (b7.trans (b8.trans c913)))))
  have k11 := applyAll3 W13 B w12.heap.size FT.V .k (FT.appL F (FT.vs a)) (FT.appL ((G.app FT.less).app (FT.appL (FT.U.app FT.less) (FT.vs a))) (FT.vs a)) _ _ _ _ (0, 0) (by rw [hW13]; exact heap_top _ _) hV13 (ht12.below b13) (HT8.out.below c913) (HT11.out.below (b12.trans b13)) hB13 (by
    rw [hzo, hzp, hzq]; simp only [Tm.size, hzv]; omega)
  rw [show ((FT.V.app .k).app (FT.appL F (FT.vs a))).app (FT.appL ((G.app FT.less).app (FT.appL (FT.U.app FT.less) (FT.vs a))) (FT.vs a)) = FT.recB F G a from rfl] at k11
  have hzb : (FT.recB F G a).size ≤ 3900 := by
    show (((FT.V.app .k).app (FT.appL F (FT.vs a))).app (FT.appL ((G.app FT.less).app (FT.appL (FT.U.app FT.less) (FT.vs a))) (FT.vs a))).size ≤ 3900
    simp only [Tm.size, hzo, hzp, hzu, hzl, hzl2, hzv]; omega
  unfold TermPost at k11
  have HW13 := Lib.hid hW13
  clear k10 ht12 hb12 hW13 hV13
  go_wp2_with fail
  rw [← HW13.out]
  refine k11.mono ?_
  rintro e w14 ⟨v14, rfl, hb14, ht14⟩
  have b14 : After W13 w14 := hb14
  have hB14 := Nat.le_trans hB13 b14.size
  have k12 := fix_any w14 B hB14
  unfold TermPost at k12
  have HT14 := Lib.hid ht14
  have HZB := Lib.hid hzb
  clear k11 ht14 hb14 hzb hzo hzp hzq hzu hzl hzl2 cf3 cg3
  go_wp2_with fail
  refine k12.mono ?_
  rintro e w15 ⟨v15, rfl, hb15, ht15⟩
  have b15 : After w14 w15 := hb15
  have hB15 := Nat.le_trans hB14 b15.size
  have c15 : After w1 w15 := b2.trans (c27.trans (b8.trans (c913.trans (b14.trans b15))))
  have HN15 := Lib.hid (show ArgN w15 w.heap.size a from c15.heap HN1.out)
  have HT15 := Lib.hid ht15
  have HB := Lib.hid (show After w w15 from a1.trans c15)
  have HT15b := Lib.hid (HT14.out.below b15)
  have HBB := Lib.hid hB15
  obtain ⟨i0, hi, hz0, hz1, hz2⟩ : ∃ i, (Tryz.prog).info? 9 = some i ∧ i.zero = some (.string ⟨#[]⟩) ∧ i.size = 1 ∧ i.bytes = 16 := ⟨_, rfl, rfl, rfl, rfl⟩
  have hun : Tryz.prog.underlying 66 = some (.slice 9) := by kernel_rfl
  have hown : (w15.alloc (.cells #[str [117], str [118]] 9)).ownsRow w15.heap.size 9 1 (.slice (some ⟨w15.heap.size, 0, none⟩) 2 2) 2 [str [117], str [118]] := World.ownsRow_lit w15 #[str [117], str [118]] 2 (Nat.le_refl _) (by unfold maxLen; omega) rfl
  have hnl : ((FT.ns a).map str).length = a * 1 := by rw [List.length_map, ns_len a ha3, Nat.mul_one]
  have hnews : ∀ j u, ((FT.ns a).map str)[j]? = some u → (w15.alloc (.cells #[str [117], str [118]] 9)).cell? ((⟨w.heap.size, 0, none⟩ : Addr).add j) = some u := fun j u h => by
    have hj : j < (FT.ns a).length := by have := (List.getElem?_eq_some_iff.1 h).1; rwa [List.length_map] at this
    have hc := ArgN.cells (show ArgN (w15.alloc (.cells #[str [117], str [118]] 9)) w.heap.size a from After.heap (After.new _ _) HN15.out) ha3 j hj
    rw [List.getElem?_map, List.getElem?_eq_getElem hj] at h
    rw [List.getElem?_eq_getElem hj] at hc
    rw [show ((⟨w.heap.size, 0, none⟩ : Addr).add j) = ⟨w.heap.size, j, none⟩ by unfold Addr.add; split <;> simp_all, hc]
    simpa using h
  have hone : ∀ u ∈ (FT.ns a).map str, u.oneCell' = true := fun u hu => by obtain ⟨x, _, rfl⟩ := List.mem_map.1 hu; rfl
  have hmax : 2 + a ≤ maxLen := by unfold maxLen; omega
  have hm16 : (2 + a) * 16 ≤ 140737488355328 := by omega
  have hsz : w15.heap.size ≤ (w15.alloc (.cells #[str [117], str [118]] 9)).heap.size := by simp
  have HH := Lib.hid (And.intro hnl (And.intro hnews hone))
  clear k12 ht15 hb15 HT14 HT11 HT8 HT7 HT5 HTF HTG HS2 HU HV HW3 HW9 HW13 hnl hnews hone
  go_wp2_with (at_builtin; refine wpList_append_own _ rfl _ _ 66 rfl w15.heap.size 9 i0 (.string ⟨#[]⟩) 1 16 hun hi hz0 hz1 hz2 rfl (by decide) _ _ _ rfl hown ⟨w.heap.size, 0, none⟩ a 3 ((FT.ns a).map str) rfl HH.out.1 HH.out.2.1 HH.out.2.2 hmax hm16 hsz ?_; intro v16 w16 ho16 hg16 hiff; clear hiff; obtain ⟨bo, bn, bc, rfl⟩ := o_slice ho16; have HO16 := Lib.hid ho16; have HG16 := Lib.hid hg16; clear ho16 hg16)
  have b16 : After w15 w16 := by
    have hg := HG16.out
    refine ⟨hg.os, hg.tape, hg.output, by have := hg.size; simp at this; omega, fun k hk => ?_⟩
    rw [hg.block k (by simp; omega) (fun e => by injection e with e; change k = w15.heap.size at e; omega)]
    exact (below_new w15 _).block k hk
  have hB16 := Nat.le_trans HBB.out b16.size
  have hlist : StrsB w16.heap.size w16 (.slice bo bn bc) ([117] :: [118] :: FT.ns a) := strs_own ([117] :: [118] :: FT.ns a) (by simp [ns_len a ha3]; omega) (by simp) HO16.out
  have k16 := absAll_any w16 B ([117] :: [118] :: FT.ns a) _ (FT.recB F G a) v14 hlist (HT15b.out.below b16) hB16 (by simp [ns_len a ha3]; omega) HZB.out
  unfold TermPost at k16
  have hzz := size_absAll ([117] :: [118] :: FT.ns a) (FT.recB F G a) (by simp [ns_len a ha3]; omega) HZB.out
  clear hlist hown hun hi hz0 hz1 hz2 hmax hm16 hsz
  go_wp2_with fail
  refine k16.mono ?_
  rintro e w17 ⟨v17, rfl, hb17, ht17⟩
  have b17 : After w16 w17 := hb17
  have hB17 := Nat.le_trans hB16 b17.size
  have k17 := apply_any w17 B Tm.fix (FT.absAll ([117] :: [118] :: FT.ns a) (FT.recB F G a)) v15 v17 (HT15.out.below (b16.trans b17)) ht17 hB17 (by rw [FT.size_fix]; omega)
  clear k16 ht17 hb17
  go_wp2_with fail
  refine k17.mono ?_
  rintro e w18 ⟨v18, rfl, hb18, ht18⟩
  have b18 : After w17 w18 := hb18
  have HT18 := Lib.hid ht18
  clear k17 ht18
  go_wp2_with fail
  go_ret
  exact ⟨_, rfl, HB.out.trans (b16.trans (b17.trans b18)), HT18.out⟩

theorem recursion_any (w : World) (B : Nat) (f g : FT) (pf pg : Value) (hf : CV w B f pf) (hg : CV w B g pg) (hB : B ≤ w.heap.size) (h1 : FT.arity f ≤ 1) (hz : (FT.real f).size + (FT.real g).size ≤ 3000) :
    Calls Tryz.prog 98 #[pf, pg] w (NewPost w B (.r f g)) := by
  obtain ⟨a, ha⟩ : ∃ a, a = FT.arity f := ⟨_, rfl⟩
  rw [← ha] at h1
  obtain ⟨W1, hW1⟩ : ∃ W1, W1 = (w.alloc (.cells #[pf] 34 (0, 0))).alloc (.cells #[pg] 34 (0, 0)) := ⟨_, rfl⟩
  have a1 : After w W1 := by rw [hW1]; exact (After.new _ _).alloc _
  have hq : W1.heap[w.heap.size]? = some (.cells #[pf] 34 (0, 0)) := by rw [hW1]; exact heap_below2 w _ _
  have hr : W1.heap[w.heap.size + 1]? = some (.cells #[pg] 34 (0, 0)) := by rw [hW1]; exact heap_top2 w _ _
  have hB1 := Nat.le_trans hB a1.size
  have hf1 := hf.after a1
  have hg1 := hg.after a1
  have k1 := fun W (hW : After W1 W) => recR_any W B a f g pf pg (hf1.after hW) (hg1.after hW) (Nat.le_trans hB1 hW.size) ha.symm h1 hz
  unfold TermPost at k1
  have hself := After.refl W1
  obtain ⟨bf, Tf, xf, vf, rfl, hbf, hhf, _, _⟩ := hf1.fields
  obtain ⟨bg, Tg, xg, vg, rfl, hbg, _, _, _⟩ := hg1.fields
  rw [← ha] at hhf
  have c0 : ∀ W, After W1 W → W.cell? ⟨bf, 0, none⟩ = some (.int .i64 (a : Int)) := fun W hW => cell_later' (cell_of_heap (i := 0) hhf) W hW
  have q0 : ∀ W, After W1 W → W.cell? ⟨w.heap.size, 0, none⟩ = some (ptr bf) := fun W hW => cell_later' (cell_of_heap (i := 0) hq) W hW
  have r0 : ∀ W, After W1 W → W.cell? ⟨w.heap.size + 1, 0, none⟩ = some (ptr bg) := fun W hW => cell_later' (cell_of_heap (i := 0) hr) W hW
  have HF1 := Lib.hid hf1
  have HG1 := Lib.hid hg1
  have HQ := Lib.hid hq
  have HR := Lib.hid hr
  have HA := Lib.hid ha
  have HW1 := Lib.hid hW1
  clear hf hf1 hg hg1 hq hr ha hW1 hhf
  go_enter Tryz.func98, Tryz.ntmps98
  go_wp2_with fail
  rw [← HW1.out]
  go_region_held3 (fun W' => After W1 W') (first | assumption | exact hself.drew | exact After.alloc (by assumption) _ | go_keep)
    (first | (go_at_call 124; refine (k1 _ (by first | assumption | exact hself.drew)).mono ?_; rintro e x1 ⟨v1, rfl, hb1, ht1⟩; obtain ⟨T1, y1, rfl, _⟩ := ht1.asks; have hb1' : After W1 x1 := After.trans (by first | assumption | exact hself.drew) hb1; have HT := Lib.hid ht1; clear ht1))
  all_goals
    go_wp2_with fail
    go_ret
    rw [IntWalk.i64_in ((a : Int) + 1) (by omega), show ((a : Int) + 1) = ((FT.arity (.r f g) : Nat) : Int) by have := HA.out; simp only [FT.arity]; omega]
    have e := HA.out
    subst e
    exact NewPost.mk (t := .r f g) (a1.trans hb1') HT.out ⟨_, _, _, _, rfl, hB, hb1'.heap HQ.out, Nat.le_succ_of_le hB, hb1'.heap HR.out, HF1.out.after hb1', HG1.out.after hb1'⟩
end Go.Proofs.YtfjohagdlaiapaaGreat

namespace Go.Proofs.YtfjohagdlaiapaaGreat
open Go.RowKit

set_option maxHeartbeats 2000000
set_option maxRecDepth 100000

theorem composition_any (w : World) (B a : Nat) (f g0 t : FT) (gs : List FT) (pf sv : Value) (hf : CV w B f pf) (hgs : PartsV w B sv (g0 :: gs)) (hB : B ≤ w.heap.size) (ha : FT.arity g0 = a) (ha3 : a ≤ 3) (hn : gs.length ≤ 5)
    (hz : (compL (FT.real f) a (g0 :: gs)).size ≤ 3900) (hat : FT.arity t = a) (hrt : FT.real t = FT.absAll (FT.ns a) (compL (FT.real f) a (g0 :: gs)))
    (hft : ∀ (W : World) (q1 q2 : Nat), After w W → W.heap[q1]? = some (.cells #[sv] 114 (0, 0)) → W.heap[q2]? = some (.cells #[pf] 34 (0, 0)) → B ≤ q1 → B ≤ q2 →
      FnV W B t (.func (.func 121) #[] #[ptr q1, ptr q2])) :
    Calls Tryz.prog 96 #[pf, sv] w (NewPost w B t) := by
  obtain ⟨W1, hW1⟩ : ∃ W1, W1 = (w.alloc (.cells #[pf] 34 (0, 0))).alloc (.cells #[sv] 114 (0, 0)) := ⟨_, rfl⟩
  have a1 : After w W1 := by rw [hW1]; exact (After.new _ _).alloc _
  have hq : W1.heap[w.heap.size]? = some (.cells #[pf] 34 (0, 0)) := by rw [hW1]; exact heap_below2 w _ _
  have hr : W1.heap[w.heap.size + 1]? = some (.cells #[sv] 114 (0, 0)) := by rw [hW1]; exact heap_top2 w _ _
  have hB1 := Nat.le_trans hB a1.size
  have hf1 := hf.after a1
  have hg1 := hgs.after a1
  have k1 := fun W (hW : After W1 W) => compR_any W B a f g0 gs pf sv (hf1.after hW) (hg1.after hW) (Nat.le_trans hB1 hW.size) ha ha3 hn hz
  unfold TermPost at k1
  rw [← hrt] at k1
  have hself := After.refl W1
  obtain ⟨s, o, cap, v0, hsv, hcap, hc0, hv0⟩ := hg1.at 0 (by simp)
  obtain ⟨b0, T0, x0, vf0, rfl, hb0, hh0, _, _⟩ := hv0.fields
  rw [List.getElem_cons_zero, ha] at hh0
  rw [Nat.add_zero] at hc0
  have q0 : ∀ W, After W1 W → W.cell? ⟨w.heap.size, 0, none⟩ = some pf := fun W hW => cell_later' (cell_of_heap (i := 0) hq) W hW
  have r0 : ∀ W, After W1 W → W.cell? ⟨w.heap.size + 1, 0, none⟩ = some sv := fun W hW => cell_later' (cell_of_heap (i := 0) hr) W hW
  have s0 : ∀ W, After W1 W → W.cell? ⟨s, o, none⟩ = some (ptr b0) := fun W hW => cell_later' hc0 W hW
  have t0 : ∀ W, After W1 W → W.cell? ⟨b0, 0, none⟩ = some (.int .i64 (a : Int)) := fun W hW => cell_later' (cell_of_heap (i := 0) hh0) W hW
  have hlen : (0 : Int) < ((g0 :: gs).length : Int) := by rw [List.length_cons]; omega
  have HFT := Lib.hid hft
  have HQ := Lib.hid hq
  have HR := Lib.hid hr
  have HAT := Lib.hid hat
  have HW1 := Lib.hid hW1
  obtain ⟨bf, Tf, xf, vf, rfl, hbf, _, _, _⟩ := hf1.fields
  have hlenN : 0 < (g0 :: gs).length := by simp
  generalize hpl : (g0 :: gs).length = n at *
  clear hf hf1 hgs hg1 hq hr hat hW1 hh0 hc0 hv0 hft hpl
  subst hsv
  go_enter Tryz.func96, Tryz.ntmps96
  go_wp2_with fail
  rw [← HW1.out]
  go_region_held3 (fun W' => After W1 W') (first | assumption | exact hself.drew | exact After.alloc (by assumption) _ | go_keep)
    (first | (go_at_call 120; refine (k1 _ (by first | assumption | exact hself.drew)).mono ?_; rintro e x1 ⟨v1, rfl, hb1, ht1⟩; obtain ⟨T1, y1, rfl, _⟩ := ht1.asks; have hb1' : After W1 x1 := After.trans (by first | assumption | exact hself.drew) hb1; have HT := Lib.hid ht1; clear ht1))
  all_goals
    go_wp2_with fail
    go_ret
    have e := HAT.out
    subst e
    exact NewPost.mk (t := t) (a1.trans hb1') HT.out (HFT.out _ _ _ (a1.trans hb1') (hb1'.heap HR.out) (hb1'.heap HQ.out) (Nat.le_succ_of_le hB) hB)

theorem comp_c1 (w : World) (B : Nat) (f g : FT) (pf sv : Value) (hf : CV w B f pf) (hgs : PartsV w B sv [g]) (hB : B ≤ w.heap.size) (ha3 : FT.arity g ≤ 3)
    (hz : (compL (FT.real f) (FT.arity g) [g]).size ≤ 3900) : Calls Tryz.prog 96 #[pf, sv] w (NewPost w B (.c1 f g)) := by
  refine composition_any w B _ f g (.c1 f g) [] pf sv hf hgs hB rfl ha3 (by simp) hz rfl rfl (fun W q1 q2 ha h1 h2 b1 b2 => ?_)
  rcases hgs.after ha with ⟨h, _⟩ | ⟨s, o, cap, cs, T, fr, rfl, hl, hs, hh, hc⟩
  · cases h
  · obtain ⟨v1, e1, c1⟩ := hc 0 (by simp)
    exact ⟨q1, q2, s, o, cap, cs, T, fr, pf, v1, rfl, b1, h1, b2, h2, hf.after ha, hs, hh, e1, c1⟩

theorem comp_c2 (w : World) (B : Nat) (f g h : FT) (pf sv : Value) (hf : CV w B f pf) (hgs : PartsV w B sv [g, h]) (hB : B ≤ w.heap.size) (ha3 : FT.arity g ≤ 3)
    (hz : (compL (FT.real f) (FT.arity g) [g, h]).size ≤ 3900) : Calls Tryz.prog 96 #[pf, sv] w (NewPost w B (.c2 f g h)) := by
  refine composition_any w B _ f g (.c2 f g h) [h] pf sv hf hgs hB rfl ha3 (by simp) hz rfl rfl (fun W q1 q2 ha h1 h2 b1 b2 => ?_)
  rcases hgs.after ha with ⟨h, _⟩ | ⟨s, o, cap, cs, T, fr, rfl, hl, hs, hh, hc⟩
  · cases h
  · obtain ⟨v1, e1, c1⟩ := hc 0 (by simp)
    obtain ⟨v2, e2, c2⟩ := hc 1 (by simp)
    exact ⟨q1, q2, s, o, cap, cs, T, fr, pf, v1, v2, rfl, b1, h1, b2, h2, hf.after ha, hs, hh, e1, c1, e2, c2⟩

theorem comp_c3 (w : World) (B : Nat) (f g h i : FT) (pf sv : Value) (hf : CV w B f pf) (hgs : PartsV w B sv [g, h, i]) (hB : B ≤ w.heap.size) (ha3 : FT.arity g ≤ 3)
    (hz : (compL (FT.real f) (FT.arity g) [g, h, i]).size ≤ 3900) : Calls Tryz.prog 96 #[pf, sv] w (NewPost w B (.c3 f g h i)) := by
  refine composition_any w B _ f g (.c3 f g h i) [h, i] pf sv hf hgs hB rfl ha3 (by simp) hz rfl rfl (fun W q1 q2 ha h1 h2 b1 b2 => ?_)
  rcases hgs.after ha with ⟨h, _⟩ | ⟨s, o, cap, cs, T, fr, rfl, hl, hs, hh, hc⟩
  · cases h
  · obtain ⟨v1, e1, c1⟩ := hc 0 (by simp)
    obtain ⟨v2, e2, c2⟩ := hc 1 (by simp)
    obtain ⟨v3, e3, c3⟩ := hc 2 (by simp)
    exact ⟨q1, q2, s, o, cap, cs, T, fr, pf, v1, v2, v3, rfl, b1, h1, b2, h2, hf.after ha, hs, hh, e1, c1, e2, c2, e3, c3⟩

/-- Whether one is composed of these. -/
def searOk : List FT → Bool
  | [f] => decide (0 < FT.arity f)
  | _ => false
def recOk : List FT → Bool
  | [f, g] => decide (FT.arity g = FT.arity f + 2)
  | _ => false
def compOk : List FT → Bool
  | f :: g :: gs => decide (FT.arity f = gs.length + 1) && (g :: gs).all fun h => FT.arity h == FT.arity g
  | _ => false

def BitPost (w : World) (b : Bool) (e : Ending) (w' : World) : Prop := e = .returned (.bool b) ∧ After w w'

theorem searches_any (w : World) (B : Nat) (sv : Value) (ps : List FT) (h : PartsV w B sv ps) (hn : ps.length ≤ 1000) (ho : ∀ f ∈ ps, FT.arity f ≤ 3) :
    Calls Tryz.prog 99 #[sv] w (BitPost w (searOk ps)) := by
  obtain ⟨ao, cap, rfl⟩ := h.form
  match ps, h, hn, ho with
  | [], h, _, _ =>
    simp only [List.length_nil]
    go_enter Tryz.func99, Tryz.ntmps99
    go_wp2_with fail
    go_ret
    exact ⟨rfl, After.refl _⟩
  | [f], h, _, ho =>
    obtain ⟨s, o, cap', v0, hsv, hcap, hc0, hv0⟩ := h.at 0 (by simp)
    injection hsv with e1 e2 e3
    subst e1
    obtain ⟨b0, T0, x0, vf0, rfl, hb0, hh0, _, _⟩ := hv0.fields
    rw [List.getElem_cons_zero] at hh0
    rw [Nat.add_zero] at hc0
    have c0 := cell_of_heap (i := 0) hh0
    have ha := ho f (by simp)
    have he : searOk [f] = decide ((0 : Int) < (FT.arity f : Nat)) := by simp [searOk]
    rw [he]
    generalize FT.arity f = a at *
    clear h hv0 hh0 he ho
    simp only [List.length_cons, List.length_nil]
    go_enter Tryz.func99, Tryz.ntmps99
    go_wp2_with fail
    go_ret
    exact ⟨rfl, After.refl _⟩
  | f :: g :: gs, h, hn, ho =>
    have hl : ((f :: g :: gs).length : Int) = (gs.length : Int) + 2 := by simp; omega
    have hne : ¬ ((gs.length : Int) + 2 = 1) := by omega
    rw [List.length_cons, List.length_cons] at hn
    clear ho
    generalize gs.length = n at *
    go_enter Tryz.func99, Tryz.ntmps99
    go_wp2_with fail
    go_ret
    exact ⟨rfl, After.refl _⟩

theorem recurs_any (w : World) (B : Nat) (sv : Value) (ps : List FT) (h : PartsV w B sv ps) (hn : ps.length ≤ 1000) (ho : ∀ f ∈ ps, FT.arity f ≤ 3) :
    Calls Tryz.prog 97 #[sv] w (BitPost w (recOk ps)) := by
  obtain ⟨ao, cap, rfl⟩ := h.form
  by_cases h2 : ps.length = 2
  · obtain ⟨f, g, rfl⟩ : ∃ f g, ps = [f, g] := by
      match ps, h2 with
      | [f, g], _ => exact ⟨_, _, rfl⟩
    obtain ⟨s, o, cap', v0, hsv, hcap, hc0, hv0⟩ := h.at 0 (by simp)
    obtain ⟨s', o', cap'', v1, hsv', hcap', hc1, hv1⟩ := h.at 1 (by simp)
    injection hsv with e1 e2 e3
    subst e1
    injection hsv' with e1 e2 e3
    injection e1 with e1
    injection e1 with e1 e4
    subst e1
    subst e4
    obtain ⟨b0, T0, x0, vf0, rfl, hb0, hh0, _, _⟩ := hv0.fields
    obtain ⟨b1, T1, x1, vf1, rfl, hb1, hh1, _, _⟩ := hv1.fields
    rw [List.getElem_cons_zero] at hh0
    rw [List.getElem_cons_succ, List.getElem_cons_zero] at hh1
    rw [Nat.add_zero] at hc0
    have c0 := cell_of_heap (i := 0) hh0
    have c1 := cell_of_heap (i := 0) hh1
    have ha := ho f (by simp)
    have hb := ho g (by simp)
    have he : recOk [f, g] = (((FT.arity g : Nat) : Int) == ((FT.arity f : Nat) : Int) + 2) := by
      rw [show (((FT.arity g : Nat) : Int) == ((FT.arity f : Nat) : Int) + 2) = decide (((FT.arity g : Nat) : Int) = ((FT.arity f : Nat) : Int) + 2) from rfl]
      simp only [recOk]
      rw [decide_eq_decide]
      omega
    rw [he]
    generalize FT.arity f = a at *
    generalize FT.arity g = b at *
    clear h hv0 hv1 hh0 hh1 he ho h2
    simp only [List.length_cons, List.length_nil]
    go_enter Tryz.func97, Tryz.ntmps97
    go_wp2_with fail
    go_quiet (fail)
    go_wp2_with fail
    go_ret
    exact ⟨rfl, below_drews (After.refl w) _⟩
  · have he : recOk ps = false := by
      match ps, h2 with
      | [], _ => rfl
      | [_], _ => rfl
      | [_, _], h => exact absurd rfl h
      | _ :: _ :: _ :: _, _ => rfl
    rw [he]
    have hne : ¬ ((ps.length : Int) = 2) := by omega
    clear he h ho
    generalize ps.length = n at *
    go_enter Tryz.func97, Tryz.ntmps97
    go_wp2_with fail
    go_quiet (fail)
    go_wp2_with fail
    go_ret
    exact ⟨rfl, below_drews (After.refl w) _⟩

theorem compOk_cons (f g : FT) (gs : List FT) (h : FT.arity f = gs.length + 1) : compOk (f :: g :: gs) = (g :: gs).all fun h => FT.arity h == FT.arity g := by simp [compOk, h]

theorem composes_any (w : World) (B : Nat) (sv : Value) (ps : List FT) (h : PartsV w B sv ps) (hn : ps.length ≤ 1000) (ho : ∀ f ∈ ps, FT.arity f ≤ 3) :
    Calls Tryz.prog 95 #[sv] w (BitPost w (compOk ps)) := by
  obtain ⟨ao, cap, rfl⟩ := h.form
  by_cases h2 : ps.length < 2
  · have he : compOk ps = false := by
      match ps, h2 with
      | [], _ => rfl
      | [_], _ => rfl
    rw [he]
    have h2' : (ps.length : Int) < 2 := by omega
    clear he h ho
    generalize ps.length = n at *
    go_enter Tryz.func95, Tryz.ntmps95
    go_wp2_with fail
    go_ret
    exact ⟨rfl, After.refl w⟩
  · obtain ⟨f, g, gs, rfl⟩ : ∃ f g gs, ps = f :: g :: gs := by
      match ps, h2 with
      | f :: g :: gs, _ => exact ⟨_, _, _, rfl⟩
      | [], h => simp at h
      | [_], h => simp at h
    obtain ⟨s, o, cap', v0, hsv, hcap, hc0, hv0⟩ := h.at 0 (by simp)
    obtain ⟨s', o', cap'', v1, hsv', hcap', hc1, hv1⟩ := h.at 1 (by simp)
    injection hsv with e1 e2 e3
    subst e1
    subst e3
    injection hsv' with e1 e2 e3
    injection e1 with e1
    injection e1 with e1 e4
    subst e1
    subst e4
    subst e3
    have hcap1 : ¬ cap = 1 := by simp at hcap; omega
    obtain ⟨b0, T0, x0, vf0, rfl, hb0, hh0, _, _⟩ := hv0.fields
    obtain ⟨b1, T1, x1, vf1, rfl, hb1, hh1, _, _⟩ := hv1.fields
    rw [List.getElem_cons_zero] at hh0
    rw [List.getElem_cons_succ, List.getElem_cons_zero] at hh1
    rw [Nat.add_zero] at hc0
    have c0 : w.cell? ⟨b0, 0, none⟩ = some (.int .i64 (FT.arity f : Nat)) := cell_of_heap (i := 0) hh0
    have c1 : ∀ W, After w W → W.cell? ⟨b1, 0, none⟩ = some (.int .i64 (FT.arity g : Nat)) := fun W hW => cell_later' (cell_of_heap (i := 0) hh1) W hW
    have d1 : ∀ W, After w W → W.cell? ⟨s, o + 1, none⟩ = some (ptr b1) := fun W hW => cell_later' hc1 W hW
    have ha := ho f (by simp)
    have hb := ho g (by simp)
    obtain ⟨n, hnn⟩ : ∃ n, n = gs.length := ⟨_, rfl⟩
    have hl : (f :: g :: gs).length = n + 2 := by simp [hnn]
    have hl' : ((f :: g :: gs).length : Int) = (n : Int) + 2 := by omega
    have hself := After.refl w
    have HP := Lib.hid h
    by_cases hfa : FT.arity f = n + 1
    · have hcOk := Lib.hid (compOk_cons f g gs (by omega))
      have HN := Lib.hid hnn
      have hl2 : ¬ ((n : Int) + 2 < 2) := by omega
      have hcap2 : (1 : Int) ≤ (n : Int) + 2 := by omega
      rw [hl] at *
      clear h hv0 hv1 hh0 hh1 hc1 hnn hl h2 hl'
      have hn3 : n ≤ 2 := by omega
      have hx : ((n : Int) + 1 != (n : Int) + 2 - 1) = false := by simp; omega
      generalize hfa' : FT.arity f = a at *
      subst hfa
      go_enter Tryz.func95, Tryz.ntmps95
      go_wp2_with fail
      clear c0 hc0 hx
      go_loopw [4, 23] (fun _ i wr => ∃ k : Nat, i = .int .i64 k ∧ k ≤ n + 1 ∧ Hid (∀ j (hj : j < (g :: gs).length), j < k → FT.arity ((g :: gs)[j]) = FT.arity g) ∧ After w wr) (fun _ i _ => n + 1 - (intOf i).toNat)
      case atStart => exact ⟨0, rfl, by omega, fun j _ h => absurd h (by omega), After.refl w⟩
      case round =>
        obtain ⟨k, rfl, hk, HE, hr⟩ := hrel
        by_cases hlt : k < n + 1
        · have hgl : k < (g :: gs).length := by rw [List.length_cons, ← HN.out]; exact hlt
          obtain ⟨s', o', cap3, vk, hsv, _, hck, hvk⟩ := (HP.out.after hr).at (k + 1) (by simp at hgl ⊢; omega)
          injection hsv with e1 e2 e3
          injection e1 with e1
          injection e1 with e1 e4
          subst e1
          subst e4
          subst e3
          clear e2
          rw [List.getElem_cons_succ] at hvk
          obtain ⟨bk, Tk, xk, vfk, rfl, hbk, hhk, _, _⟩ := hvk.fields
          have ck : ∀ W, After wr W → W.cell? ⟨bk, 0, none⟩ = some (.int .i64 (FT.arity ((g :: gs)[k]) : Nat)) := fun W hW => cell_later' (cell_of_heap (i := 0) hhk) W hW
          have c1' : ∀ W, After wr W → W.cell? ⟨b1, 0, none⟩ = some (.int .i64 (FT.arity g : Nat)) := fun W hW => c1 W (hr.trans hW)
          have d1' : ∀ W, After wr W → W.cell? ⟨s, o + 1, none⟩ = some (ptr b1) := fun W hW => d1 W (hr.trans hW)
          rw [show o + (k + 1) = o + 1 + k by omega] at hck
          have hselfr := After.refl wr
          have hkn : (k : Int) < (n : Int) + 1 := by omega
          clear hvk hhk c1 d1
          have hm1 : (1 : Int) < (n : Int) + 2 := by omega
          have hgz : FT.arity ((g :: gs)[k]) ≤ 3 := ho _ (by simp only [List.mem_cons]; exact Or.inr (List.mem_cons.1 (List.getElem_mem hgl)))
          by_cases hak : FT.arity ((g :: gs)[k]) = FT.arity g
          · have HAK := Lib.hid hak
            rw [hak] at ck
            have hself2 : ((FT.arity g : Int) != (FT.arity g : Int)) = false := by simp
            have hnext : ∀ j (hj : j < (g :: gs).length), j < k + 1 → FT.arity ((g :: gs)[j]) = FT.arity g := fun j hj h => by
              by_cases hjk : j = k
              · subst hjk; exact HAK.out
              · exact HE.out j hj (by omega)
            have HX := Lib.hid hnext
            clear hak ho HE hnext hgz
            generalize FT.arity g = m at *
            go_wp2_with fail
            go_quiet (fail)
            go_wp2_with fail
            go_roundw
            case rel => exact ⟨k + 1, by go_num, by omega, HX, below_drews hr _⟩
            case measure => simp [intOf]; omega
          · have hne : ((FT.arity ((g :: gs)[k]) : Int) != (FT.arity g : Int)) = true := by simp; omega
            have hfin : compOk (f :: g :: gs) = false := by
              rw [hcOk.out, List.all_eq_false]
              exact ⟨(g :: gs)[k], List.getElem_mem hgl, by simpa using hak⟩
            rw [hfin]
            clear hak ho HE hgz hfin
            generalize FT.arity g = m at *
            generalize FT.arity ((g :: gs)[k]) = mk at *
            go_wp2_with fail
            go_quiet (fail)
            go_wp2_with fail
            go_ret
            exact ⟨rfl, below_drews hr _⟩
        · obtain rfl : k = n + 1 := by omega
          have hfin : compOk (f :: g :: gs) = true := by
            rw [hcOk.out, List.all_eq_true]
            intro h hh
            obtain ⟨j, hj, rfl⟩ := List.getElem_of_mem hh
            rw [HE.out j hj (by have := HN.out; rw [List.length_cons] at hj; omega)]
            simp
          have HF := Lib.hid hfin
          clear hfin ho HE
          go_wp2_with fail
          go_ret
          exact ⟨by rw [HF.out]; rfl, hr⟩
    · have hfin : compOk (f :: g :: gs) = false := by simp only [compOk]; rw [decide_eq_false (by omega)]; rfl
      rw [hfin]
      have hl2 : ¬ ((n : Int) + 2 < 2) := by omega
      have hn1 : n ≤ 1000 := by omega
      have hx : ((FT.arity f : Int) != (n : Int) + 2 - 1) = true := by simp; omega
      rw [hl] at *
      clear h hv0 hv1 hh0 hh1 hc1 hnn hl h2 hl' ho HP hfin
      generalize FT.arity f = a at *
      go_enter Tryz.func95, Tryz.ntmps95
      go_wp2_with fail
      go_ret
      exact ⟨rfl, After.refl w⟩
end Go.Proofs.YtfjohagdlaiapaaGreat

namespace Go.Proofs.YtfjohagdlaiapaaGreat
open Go.RowKit

set_option maxHeartbeats 2000000
set_option maxRecDepth 100000

def sumL (ps : List FT) (k : Nat) : Nat := ((ps.take k).map FT.size).sum
def allL (ps : List FT) (k : Nat) : Bool := (ps.take k).all FT.total

theorem sumL_succ (ps : List FT) (k : Nat) (h : k < ps.length) : sumL ps (k + 1) = sumL ps k + FT.size ps[k] := by
  unfold sumL
  rw [List.take_succ_eq_append_getElem h, List.map_append, List.sum_append]
  rfl
theorem allL_succ (ps : List FT) (k : Nat) (h : k < ps.length) : allL ps (k + 1) = (allL ps k && FT.total ps[k]) := by
  unfold allL
  rw [List.take_succ_eq_append_getElem h, List.all_append]
  simp only [List.all_cons, List.all_nil, Bool.and_true]
theorem sumL_le (ps : List FT) (k : Nat) : sumL ps k ≤ (ps.map FT.size).sum := by
  have := sum_take (ps.map FT.size) k
  rw [← List.map_take] at this
  exact this

/-- The cells of a compiled function text that is being counted. -/
def Cnt (w : World) (b : Nat) (a : Int) (n : Nat) (tot : Bool) (vr vf : Value) : Prop :=
  w.heap[b]? = some (.cells #[.int .i64 a, .int .i64 (n : Nat), .bool tot, vr, vf] 41 (0, 0))

theorem Cnt.set1 {w : World} {b n m : Nat} {a : Int} {tot : Bool} {vr vf : Value} (h : Cnt w b a n tot vr vf) : Cnt (w.setCell ⟨b, 1, none⟩ (.int .i64 (m : Nat))) b a m tot vr vf := by
  unfold Cnt at *
  simp [World.setCell, Array.getElem?_modify, h]
theorem Cnt.set2 {w : World} {b n : Nat} {a : Int} {tot u : Bool} {vr vf : Value} (h : Cnt w b a n tot vr vf) : Cnt (w.setCell ⟨b, 2, none⟩ (.bool u)) b a n u vr vf := by
  unfold Cnt at *
  simp [World.setCell, Array.getElem?_modify, h]
theorem Cnt.c1 {w : World} {b n : Nat} {a : Int} {tot : Bool} {vr vf : Value} (h : Cnt w b a n tot vr vf) : w.cell? ⟨b, 1, none⟩ = some (.int .i64 (n : Nat)) := cell_of_heap (i := 1) h
theorem Cnt.c2 {w : World} {b n : Nat} {a : Int} {tot : Bool} {vr vf : Value} (h : Cnt w b a n tot vr vf) : w.cell? ⟨b, 2, none⟩ = some (.bool tot) := cell_of_heap (i := 2) h
theorem Cnt.fr {w : World} {b n : Nat} {a : Int} {tot : Bool} {vr vf : Value} (h : Cnt w b a n tot vr vf) (i : Nat) : w.frozen? ⟨b, i, none⟩ = false := by unfold Cnt at h; simp [World.frozen?, h]

/-- Parts but for the first one. -/
theorem PartsV.tail {w : World} {B s o n cap : Nat} {f g : FT} {gs : List FT} (h : PartsV w B (.slice (some ⟨s, o, none⟩) n cap) (f :: g :: gs)) : PartsV w B (.slice (some ⟨s, o + 1, none⟩) (gs.length + 1) (cap - 1)) (g :: gs) := by
  rcases h with ⟨h, _⟩ | ⟨s', o', cap', cs, T, fr, hv, hl, hs, hh, hc⟩
  · cases h
  · injection hv with e1 e2 e3
    injection e1 with e1
    injection e1 with e1 e4
    subst e1
    subst e4
    subst e3
    refine Or.inr ⟨s, o + 1, cap - 1, cs, T, fr, rfl, by simp at hl ⊢; omega, hs, hh, fun j hj => ?_⟩
    obtain ⟨v, h1, h2⟩ := hc (j + 1) (by simp at hj ⊢; omega)
    refine ⟨v, by rw [show o + 1 + j = o + (j + 1) by omega]; exact h1, h2⟩

theorem comb_m (w : World) (B : Nat) (sv : Value) (f : FT) (h : PartsV w B sv [f]) (hB : B ≤ w.heap.size) (ho : FT.ok f) (hs : FT.size f ≤ 39) (h0 : 0 < FT.arity f) (hz : (FT.real f).size ≤ 3000)
    (hy : (FT.absAll [[117], [118]] (FT.seaB (FT.real f) (FT.arity f - 1))).size ≤ 3800) :
    Calls Tryz.prog 72 #[str [109], sv] w (WFPost w B (some (.m f))) := by
  have h3 := FT.arity_le ho
  obtain ⟨ps, hps⟩ : ∃ ps, ps = [f] := ⟨_, rfl⟩
  have hpl : ps.length = 1 := by rw [hps]; rfl
  have hpf : ps[0]'(by omega) = f := by simp [hps]
  rw [← hps] at h
  have hsum : (ps.map FT.size).sum ≤ 39 := by rw [hps]; simpa using hs
  obtain ⟨W1, hW1⟩ : ∃ W1, W1 = w.alloc (.cells #[.int .i64 0, .int .i64 0, .bool false, .nilIface, .nilFunc] 41 (0, 0)) := ⟨_, rfl⟩
  have a1 : After w W1 := by rw [hW1]; exact After.new _ _
  have hP1 := h.after a1
  have k1 := searches_any W1 B sv ps hP1 (by omega) (fun g hg => by rw [hps] at hg; simp at hg; rw [hg]; exact h3)
  have hsok : searOk ps = true := by rw [hps]; simp [searOk, h0]
  rw [hsok] at k1
  have hB1 := Nat.le_trans hB a1.size
  obtain ⟨s, o, cap, v0, rfl, hcap, hc0, hv0⟩ := hP1.at 0 (by omega)
  rw [hpf] at hv0
  rw [Nat.add_zero] at hc0
  have c0 : ∀ W, After W1 W → W.cell? ⟨s, o, none⟩ = some v0 := fun W hW => cell_later' hc0 W hW
  have k2 := fun W (hW : After W1 W) => search_any W B f v0 (hv0.after hW) (Nat.le_trans hB1 hW.size) h0 h3 hz hy
  rw [hpl] at k1 h hcap ⊢
  have HP := Lib.hid h
  have HW1 := Lib.hid hW1
  have HSZ := Lib.hid (show 1 + sumL ps 1 = FT.size (.m f) by rw [hps]; simp [sumL, FT.size])
  have HTO := Lib.hid (show (false && allL ps 1) = FT.total (.m f) by rw [hps]; simp [allL, FT.total])
  have hself := After.refl W1
  have HPL := Lib.hid hpl
  obtain ⟨bf, Tf, xf, vf, rfl, hbf, _, _, _⟩ := hv0.fields
  clear hP1 hv0 hc0 hps hW1 hsok h hpf hpl
  go_enter Tryz.func72, Tryz.ntmps72
  go_wp2_with fail
  rw [← HW1.out]
  refine k1.mono ?_
  rintro e w2 ⟨rfl, ha2⟩
  go_wp2_with fail
  refine (k2 _ ha2).mono ?_
  rintro e w3 ⟨b, vr, vf, rfl, ha3, hb, hh, hsx⟩
  have hC : Cnt w3 b (FT.arity (.m f)) 0 false vr vf := hh
  have f1 := hC.fr 1
  have f2 := hC.fr 2
  have d1 : w3.cell? ⟨b, 1, none⟩ = some (.int .i64 0) := hC.c1
  have d2 : w3.cell? ⟨b, 2, none⟩ = some (.bool false) := hC.c2
  have HC := Lib.hid hC
  have HSX := Lib.hid hsx
  have aw3 : After w w3 := a1.trans (ha2.trans ha3)
  have hbw : w.heap.size ≤ b := Nat.le_trans (Nat.le_trans a1.size (After.le ha2)) hb
  clear hh hsx hC k1 k2 c0
  go_wp2_with fail
  clear f1 f2 d1 d2
  go_loopw [8, 59] (fun _ i wr => ∃ k : Nat, i = .int .i64 k ∧ k ≤ 1 ∧ Hid (Cnt wr b (FT.arity (.m f)) (1 + sumL ps k) (false && allL ps k) vr vf) ∧ w3.grownBy wr (some b)) (fun _ i _ => 1 - (intOf i).toNat)
  case atStart => exact ⟨0, rfl, by omega, HC.out.set1.set2, grown_trans (grown_setx _ _ _ _) (grown_setx _ _ _ _)⟩
  case round =>
    obtain ⟨k, rfl, hk, HK, hg⟩ := hrel
    have awr := after_own aw3 hbw hg
    by_cases hlt : k < 1
    · have hkl : k < ps.length := by rw [HPL.out]; exact hlt
      obtain ⟨s', o', cap3, vk, hsv, _, hck, hvk⟩ := HP.out.at k hkl
      injection hsv with e1 e2 e3
      injection e1 with e1
      injection e1 with e1 e4
      subst e1
      subst e4
      subst e3
      clear e2
      obtain ⟨bk, Tk, xk, vfk, rfl, hbk, hhk, _, _⟩ := hvk.fields
      have hck' : wr.cell? ⟨s, o + k, none⟩ = some (ptr bk) := cell_later' hck wr awr
      have hbkw : bk < w.heap.size := (Array.getElem?_eq_some_iff.1 hhk).1
      have p1 : ∀ W, After w W → W.cell? ⟨bk, 1, none⟩ = some (.int .i64 (FT.size ps[k] : Nat)) := fun W hW => cell_later' (cell_of_heap (i := 1) hhk) W hW
      have p2 : ∀ W, After w W → W.cell? ⟨bk, 2, none⟩ = some (.bool (FT.total ps[k])) := fun W hW => cell_later' (cell_of_heap (i := 2) hhk) W hW
      have q1 := HK.out.c1
      have f1 := HK.out.fr 1
      have hs1 := sumL_le ps k
      have hs2 := sumL_le ps (k + 1)
      rw [sumL_succ ps k hkl] at hs2
      have HS := Lib.hid (sumL_succ ps k hkl)
      have HA := Lib.hid (allL_succ ps k hkl)
      generalize hsk : sumL ps k = sk at *
      generalize hak : allL ps k = ak at *
      generalize hszk : FT.size ps[k] = zk at *
      generalize htk : FT.total ps[k] = tk at *
      clear hhk hvk hck
      go_wp2_with fail
      go_region
      have hc : (1 : Int) + (sk : Int) + (zk : Int) = ((1 + sk + zk : Nat) : Int) := by omega
      rw [hc]
      obtain ⟨W2, hW2⟩ : ∃ W2, W2 = (wr.setCell ⟨b, 1, none⟩ (.int .i64 ((1 + sk + zk : Nat) : Int))).drew := ⟨_, rfl⟩
      have hK2 : Cnt W2 b (FT.arity (.m f)) (1 + sk + zk) (false && ak) vr vf := by rw [hW2]; exact HK.out.set1
      have hg2 : w3.grownBy W2 (some b) := by rw [hW2]; exact grown_trans hg (grown_trans (grown_setx _ _ _ _) (grown_drawn _ _ 1))
      have aW2 := after_own aw3 hbw hg2
      have q2 := hK2.c2
      have f2 := hK2.fr 2
      have HK2 := Lib.hid hK2
      rw [← hW2]
      clear hK2 q1 f1 hc hW2 hg
      cases hak2 : (false && ak)
      all_goals
        rw [hak2] at q2
        go_wp2_with fail
        go_roundw
        case measure => simp [intOf]; omega
        case rel =>
          refine ⟨k + 1, by go_num, by omega, ?_, grown_trans hg2 (grown_setx _ _ _ _)⟩
          show Cnt _ _ _ _ _ _ _
          rw [HS.out, HA.out, ← Bool.and_assoc, hak2, ← Nat.add_assoc]
          first
            | (rw [Bool.false_and]; exact HK2.out.set2)
            | (rw [Bool.true_and]; exact HK2.out.set2)
    · obtain rfl : k = 1 := by omega
      go_wp2_with fail
      go_ret2
      refine ⟨_, rfl, awr, fun t ht => ?_⟩
      obtain rfl := Option.some.inj ht
      obtain ⟨g1, g2⟩ := HSX.out wr (fun k _ hk hne => hg.block k hk (fun e => by injection e with e; exact hne e))
      have hK := HK.out
      rw [HSZ.out, HTO.out] at hK
      exact ⟨b, vr, vf, rfl, Nat.le_trans hB hbw, hK, g1, g2⟩

theorem comb_r (w : World) (B : Nat) (sv : Value) (f g : FT) (h : PartsV w B sv [f, g]) (hB : B ≤ w.heap.size) (ho : ∀ q ∈ [f, g], FT.ok q) (hs : ([f, g].map FT.size).sum ≤ 39) (hok : recOk [f, g] = true) (hz1 : FT.arity f ≤ 1) (hz : (FT.real f).size + (FT.real g).size ≤ 3000) :
    Calls Tryz.prog 72 #[str [114], sv] w (WFPost w B (some (.r f g))) := by
  have h3 : ∀ q ∈ [f, g], FT.arity q ≤ 3 := fun q hq => FT.arity_le (ho q hq)
  obtain ⟨ps, hps⟩ : ∃ ps, ps = [f, g] := ⟨_, rfl⟩
  have hpl : ps.length = 2 := by rw [hps]; rfl
  have h' := h
  rw [← hps] at h
  have hsum : (ps.map FT.size).sum ≤ 39 := by rw [hps]; exact hs
  obtain ⟨W1, hW1⟩ : ∃ W1, W1 = w.alloc (.cells #[.int .i64 0, .int .i64 0, .bool false, .nilIface, .nilFunc] 41 (0, 0)) := ⟨_, rfl⟩
  have a1 : After w W1 := by rw [hW1]; exact After.new _ _
  have hP1 := h'.after a1
  have k1 := recurs_any W1 B sv [f, g] hP1 (by simp) h3
  rw [hok] at k1
  have hB1 := Nat.le_trans hB a1.size
  obtain ⟨s, o, cap, v0, rfl, hcap, hc0, hv0⟩ := hP1.at 0 (by simp)
  rw [Nat.add_zero] at hc0
  have c0 : ∀ W, After W1 W → W.cell? ⟨s, o, none⟩ = some v0 := fun W hW => cell_later' hc0 W hW
  obtain ⟨s', o', cap', v1, hsv, _, hc1, hv1⟩ := hP1.at 1 (by simp)
  injection hsv with e1 e2 e3
  injection e1 with e1
  injection e1 with e1 e4
  subst e1
  subst e4
  subst e3
  clear e2
  have c1 : ∀ W, After W1 W → W.cell? ⟨s, o + 1, none⟩ = some v1 := fun W hW => cell_later' hc1 W hW
  have k2 := fun W (hW : After W1 W) => recursion_any W B f g v0 v1 (hv0.after hW) (hv1.after hW) (Nat.le_trans hB1 hW.size) hz1 hz
  obtain ⟨bg, Tg, xg, vg, rfl, hbg, _, _, _⟩ := hv1.fields
  clear hv1 hc1
  have HPL := Lib.hid hpl
  have HP := Lib.hid h
  have HW1 := Lib.hid hW1
  have HSZ := Lib.hid (show 1 + sumL ps 2 = FT.size (.r f g) by rw [hps]; simp [sumL, FT.size])
  have HTO := Lib.hid (show (true && allL ps 2) = FT.total (.r f g) by rw [hps]; simp [allL, FT.total])
  have hself := After.refl W1
  obtain ⟨bf, Tf, xf, vf, rfl, hbf, _, _, _⟩ := hv0.fields
  clear hP1 hv0 hc0 hps hW1 h hpl h' ho h3 hs hok
  simp only [List.length_cons, List.length_nil, Nat.zero_add, Nat.reduceAdd] at k1 HP hcap k2 ⊢
  go_enter Tryz.func72, Tryz.ntmps72
  go_wp2_with fail
  rw [← HW1.out]
  refine k1.mono ?_
  rintro e w2 ⟨rfl, ha2⟩
  go_wp2_with fail
  go_region_held3 (fun W' => After W1 W') (first | assumption | exact ha2.drew | go_keep)
    (first | (go_at_call 98; refine (k2 _ (by first | assumption | exact ha2.drew)).mono ?_; rintro e w3 ⟨b, vr, vf, rfl, ha3, hb, hh, hsx⟩; have ha3' : After W1 w3 := After.trans (by first | assumption | exact ha2.drew) ha3; have hbW : W1.heap.size ≤ b := Nat.le_trans (After.le (by first | assumption | exact ha2.drew)) hb; clear ha3 hb))
  have hC : Cnt w3 b (FT.arity (.r f g)) 0 false vr vf := hh
  have f1 := hC.fr 1
  have f2 := hC.fr 2
  have d1 : w3.cell? ⟨b, 1, none⟩ = some (.int .i64 0) := hC.c1
  have d2 : w3.cell? ⟨b, 2, none⟩ = some (.bool false) := hC.c2
  have HC := Lib.hid hC
  have HSX := Lib.hid hsx
  have aw3 : After w w3 := a1.trans ha3'
  have hbw : w.heap.size ≤ b := Nat.le_trans a1.size hbW
  clear hh hsx hC k1 k2 c0
  go_wp2_with fail
  clear f1 f2 d1 d2
  go_loopw [8, 59] (fun _ i wr => ∃ k : Nat, i = .int .i64 k ∧ k ≤ 2 ∧ Hid (Cnt wr b (FT.arity (.r f g)) (1 + sumL ps k) (true && allL ps k) vr vf) ∧ w3.grownBy wr (some b)) (fun _ i _ => 2 - (intOf i).toNat)
  case atStart => exact ⟨0, rfl, by omega, HC.out.set1.set2, grown_trans (grown_setx _ _ _ _) (grown_setx _ _ _ _)⟩
  case round =>
    obtain ⟨k, rfl, hk, HK, hg⟩ := hrel
    have awr := after_own aw3 hbw hg
    by_cases hlt : k < 2
    · have hkl : k < ps.length := by rw [HPL.out]; exact hlt
      obtain ⟨s', o', cap3, vk, hsv, _, hck, hvk⟩ := HP.out.at k hkl
      injection hsv with e1 e2 e3
      injection e1 with e1
      injection e1 with e1 e4
      subst e1
      subst e4
      subst e3
      clear e2
      obtain ⟨bk, Tk, xk, vfk, rfl, hbk, hhk, _, _⟩ := hvk.fields
      have hck' : wr.cell? ⟨s, o + k, none⟩ = some (ptr bk) := cell_later' hck wr awr
      have hbkw : bk < w.heap.size := (Array.getElem?_eq_some_iff.1 hhk).1
      have p1 : ∀ W, After w W → W.cell? ⟨bk, 1, none⟩ = some (.int .i64 (FT.size ps[k] : Nat)) := fun W hW => cell_later' (cell_of_heap (i := 1) hhk) W hW
      have p2 : ∀ W, After w W → W.cell? ⟨bk, 2, none⟩ = some (.bool (FT.total ps[k])) := fun W hW => cell_later' (cell_of_heap (i := 2) hhk) W hW
      have q1 := HK.out.c1
      have f1 := HK.out.fr 1
      have hs1 := sumL_le ps k
      have hs2 := sumL_le ps (k + 1)
      rw [sumL_succ ps k hkl] at hs2
      have HS := Lib.hid (sumL_succ ps k hkl)
      have HA := Lib.hid (allL_succ ps k hkl)
      generalize hsk : sumL ps k = sk at *
      generalize hak : allL ps k = ak at *
      generalize hszk : FT.size ps[k] = zk at *
      generalize htk : FT.total ps[k] = tk at *
      clear hhk hvk hck
      go_wp2_with fail
      go_region
      have hc : (1 : Int) + (sk : Int) + (zk : Int) = ((1 + sk + zk : Nat) : Int) := by omega
      rw [hc]
      obtain ⟨W2, hW2⟩ : ∃ W2, W2 = (wr.setCell ⟨b, 1, none⟩ (.int .i64 ((1 + sk + zk : Nat) : Int))).drew := ⟨_, rfl⟩
      have hK2 : Cnt W2 b (FT.arity (.r f g)) (1 + sk + zk) (true && ak) vr vf := by rw [hW2]; exact HK.out.set1
      have hg2 : w3.grownBy W2 (some b) := by rw [hW2]; exact grown_trans hg (grown_trans (grown_setx _ _ _ _) (grown_drawn _ _ 1))
      have aW2 := after_own aw3 hbw hg2
      have q2 := hK2.c2
      have f2 := hK2.fr 2
      have HK2 := Lib.hid hK2
      rw [← hW2]
      clear hK2 q1 f1 hc hW2 hg
      cases hak2 : (true && ak)
      all_goals
        rw [hak2] at q2
        go_wp2_with fail
        go_roundw
        case measure => simp [intOf]; omega
        case rel =>
          refine ⟨k + 1, by go_num, by omega, ?_, grown_trans hg2 (grown_setx _ _ _ _)⟩
          show Cnt _ _ _ _ _ _ _
          rw [HS.out, HA.out, ← Bool.and_assoc, hak2, ← Nat.add_assoc]
          first
            | (rw [Bool.false_and]; exact HK2.out.set2)
            | (rw [Bool.true_and]; exact HK2.out.set2)
    · obtain rfl : k = 2 := by omega
      go_wp2_with fail
      go_ret2
      refine ⟨_, rfl, awr, fun t ht => ?_⟩
      obtain rfl := Option.some.inj ht
      obtain ⟨g1, g2⟩ := HSX.out wr (fun k _ hk hne => hg.block k hk (fun e => by injection e with e; exact hne e))
      have hK := HK.out
      rw [HSZ.out, HTO.out] at hK
      exact ⟨b, vr, vf, rfl, Nat.le_trans hB hbw, hK, g1, g2⟩

theorem comb_c1 (w : World) (B : Nat) (sv : Value) (f g : FT) (h : PartsV w B sv [f, g]) (hB : B ≤ w.heap.size) (ho : ∀ q ∈ [f, g], FT.ok q) (hs : ([f, g].map FT.size).sum ≤ 39) (hok : compOk [f, g] = true) (hz : (compL (FT.real f) (FT.arity g) [g]).size ≤ 3900) :
    Calls Tryz.prog 72 #[str [99], sv] w (WFPost w B (some (.c1 f g))) := by
  have h3 : ∀ q ∈ [f, g], FT.arity q ≤ 3 := fun q hq => FT.arity_le (ho q hq)
  obtain ⟨ps, hps⟩ : ∃ ps, ps = [f, g] := ⟨_, rfl⟩
  have hpl : ps.length = 2 := by rw [hps]; rfl
  have h' := h
  rw [← hps] at h
  have hsum : (ps.map FT.size).sum ≤ 39 := by rw [hps]; exact hs
  obtain ⟨W1, hW1⟩ : ∃ W1, W1 = w.alloc (.cells #[.int .i64 0, .int .i64 0, .bool false, .nilIface, .nilFunc] 41 (0, 0)) := ⟨_, rfl⟩
  have a1 : After w W1 := by rw [hW1]; exact After.new _ _
  have hP1 := h'.after a1
  have k1 := composes_any W1 B sv [f, g] hP1 (by simp) h3
  rw [hok] at k1
  have hB1 := Nat.le_trans hB a1.size
  obtain ⟨s, o, cap, v0, rfl, hcap, hc0, hv0⟩ := hP1.at 0 (by simp)
  rw [Nat.add_zero] at hc0
  have c0 : ∀ W, After W1 W → W.cell? ⟨s, o, none⟩ = some v0 := fun W hW => cell_later' hc0 W hW
  have hcap1 : ¬ cap = 1 := by simp at hcap; omega
  have k2 := fun W (hW : After W1 W) => comp_c1 W B f g v0 _ (hv0.after hW) (hP1.tail.after hW) (Nat.le_trans hB1 hW.size) (h3 g (by simp)) hz
  have HPL := Lib.hid hpl
  have HP := Lib.hid h
  have HW1 := Lib.hid hW1
  have HSZ := Lib.hid (show 1 + sumL ps 2 = FT.size (.c1 f g) by rw [hps]; simp [sumL, FT.size])
  have HTO := Lib.hid (show (true && allL ps 2) = FT.total (.c1 f g) by rw [hps]; simp [allL, FT.total])
  have hself := After.refl W1
  obtain ⟨bf, Tf, xf, vf, rfl, hbf, _, _, _⟩ := hv0.fields
  clear hP1 hv0 hc0 hps hW1 h hpl h' ho h3 hs hok
  simp only [List.length_cons, List.length_nil, Nat.zero_add, Nat.reduceAdd] at k1 HP hcap k2 ⊢
  go_enter Tryz.func72, Tryz.ntmps72
  go_wp2_with fail
  rw [← HW1.out]
  refine k1.mono ?_
  rintro e w2 ⟨rfl, ha2⟩
  go_wp2_with fail
  go_region_held3 (fun W' => After W1 W') (first | assumption | exact ha2.drew | go_keep)
    (first | (go_at_call 96; refine (k2 _ (by first | assumption | exact ha2.drew)).mono ?_; rintro e w3 ⟨b, vr, vf, rfl, ha3, hb, hh, hsx⟩; have ha3' : After W1 w3 := After.trans (by first | assumption | exact ha2.drew) ha3; have hbW : W1.heap.size ≤ b := Nat.le_trans (After.le (by first | assumption | exact ha2.drew)) hb; clear ha3 hb))
  have hC : Cnt w3 b (FT.arity (.c1 f g)) 0 false vr vf := hh
  have f1 := hC.fr 1
  have f2 := hC.fr 2
  have d1 : w3.cell? ⟨b, 1, none⟩ = some (.int .i64 0) := hC.c1
  have d2 : w3.cell? ⟨b, 2, none⟩ = some (.bool false) := hC.c2
  have HC := Lib.hid hC
  have HSX := Lib.hid hsx
  have aw3 : After w w3 := a1.trans ha3'
  have hbw : w.heap.size ≤ b := Nat.le_trans a1.size hbW
  clear hh hsx hC k1 k2 c0
  go_wp2_with fail
  clear f1 f2 d1 d2
  go_loopw [8, 59] (fun _ i wr => ∃ k : Nat, i = .int .i64 k ∧ k ≤ 2 ∧ Hid (Cnt wr b (FT.arity (.c1 f g)) (1 + sumL ps k) (true && allL ps k) vr vf) ∧ w3.grownBy wr (some b)) (fun _ i _ => 2 - (intOf i).toNat)
  case atStart => exact ⟨0, rfl, by omega, HC.out.set1.set2, grown_trans (grown_setx _ _ _ _) (grown_setx _ _ _ _)⟩
  case round =>
    obtain ⟨k, rfl, hk, HK, hg⟩ := hrel
    have awr := after_own aw3 hbw hg
    by_cases hlt : k < 2
    · have hkl : k < ps.length := by rw [HPL.out]; exact hlt
      obtain ⟨s', o', cap3, vk, hsv, _, hck, hvk⟩ := HP.out.at k hkl
      injection hsv with e1 e2 e3
      injection e1 with e1
      injection e1 with e1 e4
      subst e1
      subst e4
      subst e3
      clear e2
      obtain ⟨bk, Tk, xk, vfk, rfl, hbk, hhk, _, _⟩ := hvk.fields
      have hck' : wr.cell? ⟨s, o + k, none⟩ = some (ptr bk) := cell_later' hck wr awr
      have hbkw : bk < w.heap.size := (Array.getElem?_eq_some_iff.1 hhk).1
      have p1 : ∀ W, After w W → W.cell? ⟨bk, 1, none⟩ = some (.int .i64 (FT.size ps[k] : Nat)) := fun W hW => cell_later' (cell_of_heap (i := 1) hhk) W hW
      have p2 : ∀ W, After w W → W.cell? ⟨bk, 2, none⟩ = some (.bool (FT.total ps[k])) := fun W hW => cell_later' (cell_of_heap (i := 2) hhk) W hW
      have q1 := HK.out.c1
      have f1 := HK.out.fr 1
      have hs1 := sumL_le ps k
      have hs2 := sumL_le ps (k + 1)
      rw [sumL_succ ps k hkl] at hs2
      have HS := Lib.hid (sumL_succ ps k hkl)
      have HA := Lib.hid (allL_succ ps k hkl)
      generalize hsk : sumL ps k = sk at *
      generalize hak : allL ps k = ak at *
      generalize hszk : FT.size ps[k] = zk at *
      generalize htk : FT.total ps[k] = tk at *
      clear hhk hvk hck
      go_wp2_with fail
      go_region
      have hc : (1 : Int) + (sk : Int) + (zk : Int) = ((1 + sk + zk : Nat) : Int) := by omega
      rw [hc]
      obtain ⟨W2, hW2⟩ : ∃ W2, W2 = (wr.setCell ⟨b, 1, none⟩ (.int .i64 ((1 + sk + zk : Nat) : Int))).drew := ⟨_, rfl⟩
      have hK2 : Cnt W2 b (FT.arity (.c1 f g)) (1 + sk + zk) (true && ak) vr vf := by rw [hW2]; exact HK.out.set1
      have hg2 : w3.grownBy W2 (some b) := by rw [hW2]; exact grown_trans hg (grown_trans (grown_setx _ _ _ _) (grown_drawn _ _ 1))
      have aW2 := after_own aw3 hbw hg2
      have q2 := hK2.c2
      have f2 := hK2.fr 2
      have HK2 := Lib.hid hK2
      rw [← hW2]
      clear hK2 q1 f1 hc hW2 hg
      cases hak2 : (true && ak)
      all_goals
        rw [hak2] at q2
        go_wp2_with fail
        go_roundw
        case measure => simp [intOf]; omega
        case rel =>
          refine ⟨k + 1, by go_num, by omega, ?_, grown_trans hg2 (grown_setx _ _ _ _)⟩
          show Cnt _ _ _ _ _ _ _
          rw [HS.out, HA.out, ← Bool.and_assoc, hak2, ← Nat.add_assoc]
          first
            | (rw [Bool.false_and]; exact HK2.out.set2)
            | (rw [Bool.true_and]; exact HK2.out.set2)
    · obtain rfl : k = 2 := by omega
      go_wp2_with fail
      go_ret2
      refine ⟨_, rfl, awr, fun t ht => ?_⟩
      obtain rfl := Option.some.inj ht
      obtain ⟨g1, g2⟩ := HSX.out wr (fun k _ hk hne => hg.block k hk (fun e => by injection e with e; exact hne e))
      have hK := HK.out
      rw [HSZ.out, HTO.out] at hK
      exact ⟨b, vr, vf, rfl, Nat.le_trans hB hbw, hK, g1, g2⟩

theorem comb_c2 (w : World) (B : Nat) (sv : Value) (f g h1 : FT) (h : PartsV w B sv [f, g, h1]) (hB : B ≤ w.heap.size) (ho : ∀ q ∈ [f, g, h1], FT.ok q) (hs : ([f, g, h1].map FT.size).sum ≤ 39) (hok : compOk [f, g, h1] = true) (hz : (compL (FT.real f) (FT.arity g) [g, h1]).size ≤ 3900) :
    Calls Tryz.prog 72 #[str [99], sv] w (WFPost w B (some (.c2 f g h1))) := by
  have h3 : ∀ q ∈ [f, g, h1], FT.arity q ≤ 3 := fun q hq => FT.arity_le (ho q hq)
  obtain ⟨ps, hps⟩ : ∃ ps, ps = [f, g, h1] := ⟨_, rfl⟩
  have hpl : ps.length = 3 := by rw [hps]; rfl
  have h' := h
  rw [← hps] at h
  have hsum : (ps.map FT.size).sum ≤ 39 := by rw [hps]; exact hs
  obtain ⟨W1, hW1⟩ : ∃ W1, W1 = w.alloc (.cells #[.int .i64 0, .int .i64 0, .bool false, .nilIface, .nilFunc] 41 (0, 0)) := ⟨_, rfl⟩
  have a1 : After w W1 := by rw [hW1]; exact After.new _ _
  have hP1 := h'.after a1
  have k1 := composes_any W1 B sv [f, g, h1] hP1 (by simp) h3
  rw [hok] at k1
  have hB1 := Nat.le_trans hB a1.size
  obtain ⟨s, o, cap, v0, rfl, hcap, hc0, hv0⟩ := hP1.at 0 (by simp)
  rw [Nat.add_zero] at hc0
  have c0 : ∀ W, After W1 W → W.cell? ⟨s, o, none⟩ = some v0 := fun W hW => cell_later' hc0 W hW
  have hcap1 : ¬ cap = 1 := by simp at hcap; omega
  have k2 := fun W (hW : After W1 W) => comp_c2 W B f g h1 v0 _ (hv0.after hW) (hP1.tail.after hW) (Nat.le_trans hB1 hW.size) (h3 g (by simp)) hz
  have HPL := Lib.hid hpl
  have HP := Lib.hid h
  have HW1 := Lib.hid hW1
  have HSZ := Lib.hid (show 1 + sumL ps 3 = FT.size (.c2 f g h1) by rw [hps]; simp [sumL, FT.size])
  have HTO := Lib.hid (show (true && allL ps 3) = FT.total (.c2 f g h1) by rw [hps]; simp [allL, FT.total, Bool.and_assoc])
  have hself := After.refl W1
  obtain ⟨bf, Tf, xf, vf, rfl, hbf, _, _, _⟩ := hv0.fields
  clear hP1 hv0 hc0 hps hW1 h hpl h' ho h3 hs hok
  simp only [List.length_cons, List.length_nil, Nat.zero_add, Nat.reduceAdd] at k1 HP hcap k2 ⊢
  go_enter Tryz.func72, Tryz.ntmps72
  go_wp2_with fail
  rw [← HW1.out]
  refine k1.mono ?_
  rintro e w2 ⟨rfl, ha2⟩
  go_wp2_with fail
  go_region_held3 (fun W' => After W1 W') (first | assumption | exact ha2.drew | go_keep)
    (first | (go_at_call 96; refine (k2 _ (by first | assumption | exact ha2.drew)).mono ?_; rintro e w3 ⟨b, vr, vf, rfl, ha3, hb, hh, hsx⟩; have ha3' : After W1 w3 := After.trans (by first | assumption | exact ha2.drew) ha3; have hbW : W1.heap.size ≤ b := Nat.le_trans (After.le (by first | assumption | exact ha2.drew)) hb; clear ha3 hb))
  have hC : Cnt w3 b (FT.arity (.c2 f g h1)) 0 false vr vf := hh
  have f1 := hC.fr 1
  have f2 := hC.fr 2
  have d1 : w3.cell? ⟨b, 1, none⟩ = some (.int .i64 0) := hC.c1
  have d2 : w3.cell? ⟨b, 2, none⟩ = some (.bool false) := hC.c2
  have HC := Lib.hid hC
  have HSX := Lib.hid hsx
  have aw3 : After w w3 := a1.trans ha3'
  have hbw : w.heap.size ≤ b := Nat.le_trans a1.size hbW
  clear hh hsx hC k1 k2 c0
  go_wp2_with fail
  clear f1 f2 d1 d2
  go_loopw [8, 59] (fun _ i wr => ∃ k : Nat, i = .int .i64 k ∧ k ≤ 3 ∧ Hid (Cnt wr b (FT.arity (.c2 f g h1)) (1 + sumL ps k) (true && allL ps k) vr vf) ∧ w3.grownBy wr (some b)) (fun _ i _ => 3 - (intOf i).toNat)
  case atStart => exact ⟨0, rfl, by omega, HC.out.set1.set2, grown_trans (grown_setx _ _ _ _) (grown_setx _ _ _ _)⟩
  case round =>
    obtain ⟨k, rfl, hk, HK, hg⟩ := hrel
    have awr := after_own aw3 hbw hg
    by_cases hlt : k < 3
    · have hkl : k < ps.length := by rw [HPL.out]; exact hlt
      obtain ⟨s', o', cap3, vk, hsv, _, hck, hvk⟩ := HP.out.at k hkl
      injection hsv with e1 e2 e3
      injection e1 with e1
      injection e1 with e1 e4
      subst e1
      subst e4
      subst e3
      clear e2
      obtain ⟨bk, Tk, xk, vfk, rfl, hbk, hhk, _, _⟩ := hvk.fields
      have hck' : wr.cell? ⟨s, o + k, none⟩ = some (ptr bk) := cell_later' hck wr awr
      have hbkw : bk < w.heap.size := (Array.getElem?_eq_some_iff.1 hhk).1
      have p1 : ∀ W, After w W → W.cell? ⟨bk, 1, none⟩ = some (.int .i64 (FT.size ps[k] : Nat)) := fun W hW => cell_later' (cell_of_heap (i := 1) hhk) W hW
      have p2 : ∀ W, After w W → W.cell? ⟨bk, 2, none⟩ = some (.bool (FT.total ps[k])) := fun W hW => cell_later' (cell_of_heap (i := 2) hhk) W hW
      have q1 := HK.out.c1
      have f1 := HK.out.fr 1
      have hs1 := sumL_le ps k
      have hs2 := sumL_le ps (k + 1)
      rw [sumL_succ ps k hkl] at hs2
      have HS := Lib.hid (sumL_succ ps k hkl)
      have HA := Lib.hid (allL_succ ps k hkl)
      generalize hsk : sumL ps k = sk at *
      generalize hak : allL ps k = ak at *
      generalize hszk : FT.size ps[k] = zk at *
      generalize htk : FT.total ps[k] = tk at *
      clear hhk hvk hck
      go_wp2_with fail
      go_region
      have hc : (1 : Int) + (sk : Int) + (zk : Int) = ((1 + sk + zk : Nat) : Int) := by omega
      rw [hc]
      obtain ⟨W2, hW2⟩ : ∃ W2, W2 = (wr.setCell ⟨b, 1, none⟩ (.int .i64 ((1 + sk + zk : Nat) : Int))).drew := ⟨_, rfl⟩
      have hK2 : Cnt W2 b (FT.arity (.c2 f g h1)) (1 + sk + zk) (true && ak) vr vf := by rw [hW2]; exact HK.out.set1
      have hg2 : w3.grownBy W2 (some b) := by rw [hW2]; exact grown_trans hg (grown_trans (grown_setx _ _ _ _) (grown_drawn _ _ 1))
      have aW2 := after_own aw3 hbw hg2
      have q2 := hK2.c2
      have f2 := hK2.fr 2
      have HK2 := Lib.hid hK2
      rw [← hW2]
      clear hK2 q1 f1 hc hW2 hg
      cases hak2 : (true && ak)
      all_goals
        rw [hak2] at q2
        go_wp2_with fail
        go_roundw
        case measure => simp [intOf]; omega
        case rel =>
          refine ⟨k + 1, by go_num, by omega, ?_, grown_trans hg2 (grown_setx _ _ _ _)⟩
          show Cnt _ _ _ _ _ _ _
          rw [HS.out, HA.out, ← Bool.and_assoc, hak2, ← Nat.add_assoc]
          first
            | (rw [Bool.false_and]; exact HK2.out.set2)
            | (rw [Bool.true_and]; exact HK2.out.set2)
    · obtain rfl : k = 3 := by omega
      go_wp2_with fail
      go_ret2
      refine ⟨_, rfl, awr, fun t ht => ?_⟩
      obtain rfl := Option.some.inj ht
      obtain ⟨g1, g2⟩ := HSX.out wr (fun k _ hk hne => hg.block k hk (fun e => by injection e with e; exact hne e))
      have hK := HK.out
      rw [HSZ.out, HTO.out] at hK
      exact ⟨b, vr, vf, rfl, Nat.le_trans hB hbw, hK, g1, g2⟩

theorem comb_c3 (w : World) (B : Nat) (sv : Value) (f g h1 h2 : FT) (h : PartsV w B sv [f, g, h1, h2]) (hB : B ≤ w.heap.size) (ho : ∀ q ∈ [f, g, h1, h2], FT.ok q) (hs : ([f, g, h1, h2].map FT.size).sum ≤ 39) (hok : compOk [f, g, h1, h2] = true) (hz : (compL (FT.real f) (FT.arity g) [g, h1, h2]).size ≤ 3900) :
    Calls Tryz.prog 72 #[str [99], sv] w (WFPost w B (some (.c3 f g h1 h2))) := by
  have h3 : ∀ q ∈ [f, g, h1, h2], FT.arity q ≤ 3 := fun q hq => FT.arity_le (ho q hq)
  obtain ⟨ps, hps⟩ : ∃ ps, ps = [f, g, h1, h2] := ⟨_, rfl⟩
  have hpl : ps.length = 4 := by rw [hps]; rfl
  have h' := h
  rw [← hps] at h
  have hsum : (ps.map FT.size).sum ≤ 39 := by rw [hps]; exact hs
  obtain ⟨W1, hW1⟩ : ∃ W1, W1 = w.alloc (.cells #[.int .i64 0, .int .i64 0, .bool false, .nilIface, .nilFunc] 41 (0, 0)) := ⟨_, rfl⟩
  have a1 : After w W1 := by rw [hW1]; exact After.new _ _
  have hP1 := h'.after a1
  have k1 := composes_any W1 B sv [f, g, h1, h2] hP1 (by simp) h3
  rw [hok] at k1
  have hB1 := Nat.le_trans hB a1.size
  obtain ⟨s, o, cap, v0, rfl, hcap, hc0, hv0⟩ := hP1.at 0 (by simp)
  rw [Nat.add_zero] at hc0
  have c0 : ∀ W, After W1 W → W.cell? ⟨s, o, none⟩ = some v0 := fun W hW => cell_later' hc0 W hW
  have hcap1 : ¬ cap = 1 := by simp at hcap; omega
  have k2 := fun W (hW : After W1 W) => comp_c3 W B f g h1 h2 v0 _ (hv0.after hW) (hP1.tail.after hW) (Nat.le_trans hB1 hW.size) (h3 g (by simp)) hz
  have HPL := Lib.hid hpl
  have HP := Lib.hid h
  have HW1 := Lib.hid hW1
  have HSZ := Lib.hid (show 1 + sumL ps 4 = FT.size (.c3 f g h1 h2) by rw [hps]; simp [sumL, FT.size])
  have HTO := Lib.hid (show (true && allL ps 4) = FT.total (.c3 f g h1 h2) by rw [hps]; simp [allL, FT.total, Bool.and_assoc])
  have hself := After.refl W1
  obtain ⟨bf, Tf, xf, vf, rfl, hbf, _, _, _⟩ := hv0.fields
  clear hP1 hv0 hc0 hps hW1 h hpl h' ho h3 hs hok
  simp only [List.length_cons, List.length_nil, Nat.zero_add, Nat.reduceAdd] at k1 HP hcap k2 ⊢
  go_enter Tryz.func72, Tryz.ntmps72
  go_wp2_with fail
  rw [← HW1.out]
  refine k1.mono ?_
  rintro e w2 ⟨rfl, ha2⟩
  go_wp2_with fail
  go_region_held3 (fun W' => After W1 W') (first | assumption | exact ha2.drew | go_keep)
    (first | (go_at_call 96; refine (k2 _ (by first | assumption | exact ha2.drew)).mono ?_; rintro e w3 ⟨b, vr, vf, rfl, ha3, hb, hh, hsx⟩; have ha3' : After W1 w3 := After.trans (by first | assumption | exact ha2.drew) ha3; have hbW : W1.heap.size ≤ b := Nat.le_trans (After.le (by first | assumption | exact ha2.drew)) hb; clear ha3 hb))
  have hC : Cnt w3 b (FT.arity (.c3 f g h1 h2)) 0 false vr vf := hh
  have f1 := hC.fr 1
  have f2 := hC.fr 2
  have d1 : w3.cell? ⟨b, 1, none⟩ = some (.int .i64 0) := hC.c1
  have d2 : w3.cell? ⟨b, 2, none⟩ = some (.bool false) := hC.c2
  have HC := Lib.hid hC
  have HSX := Lib.hid hsx
  have aw3 : After w w3 := a1.trans ha3'
  have hbw : w.heap.size ≤ b := Nat.le_trans a1.size hbW
  clear hh hsx hC k1 k2 c0
  go_wp2_with fail
  clear f1 f2 d1 d2
  go_loopw [8, 59] (fun _ i wr => ∃ k : Nat, i = .int .i64 k ∧ k ≤ 4 ∧ Hid (Cnt wr b (FT.arity (.c3 f g h1 h2)) (1 + sumL ps k) (true && allL ps k) vr vf) ∧ w3.grownBy wr (some b)) (fun _ i _ => 4 - (intOf i).toNat)
  case atStart => exact ⟨0, rfl, by omega, HC.out.set1.set2, grown_trans (grown_setx _ _ _ _) (grown_setx _ _ _ _)⟩
  case round =>
    obtain ⟨k, rfl, hk, HK, hg⟩ := hrel
    have awr := after_own aw3 hbw hg
    by_cases hlt : k < 4
    · have hkl : k < ps.length := by rw [HPL.out]; exact hlt
      obtain ⟨s', o', cap3, vk, hsv, _, hck, hvk⟩ := HP.out.at k hkl
      injection hsv with e1 e2 e3
      injection e1 with e1
      injection e1 with e1 e4
      subst e1
      subst e4
      subst e3
      clear e2
      obtain ⟨bk, Tk, xk, vfk, rfl, hbk, hhk, _, _⟩ := hvk.fields
      have hck' : wr.cell? ⟨s, o + k, none⟩ = some (ptr bk) := cell_later' hck wr awr
      have hbkw : bk < w.heap.size := (Array.getElem?_eq_some_iff.1 hhk).1
      have p1 : ∀ W, After w W → W.cell? ⟨bk, 1, none⟩ = some (.int .i64 (FT.size ps[k] : Nat)) := fun W hW => cell_later' (cell_of_heap (i := 1) hhk) W hW
      have p2 : ∀ W, After w W → W.cell? ⟨bk, 2, none⟩ = some (.bool (FT.total ps[k])) := fun W hW => cell_later' (cell_of_heap (i := 2) hhk) W hW
      have q1 := HK.out.c1
      have f1 := HK.out.fr 1
      have hs1 := sumL_le ps k
      have hs2 := sumL_le ps (k + 1)
      rw [sumL_succ ps k hkl] at hs2
      have HS := Lib.hid (sumL_succ ps k hkl)
      have HA := Lib.hid (allL_succ ps k hkl)
      generalize hsk : sumL ps k = sk at *
      generalize hak : allL ps k = ak at *
      generalize hszk : FT.size ps[k] = zk at *
      generalize htk : FT.total ps[k] = tk at *
      clear hhk hvk hck
      go_wp2_with fail
      go_region
      have hc : (1 : Int) + (sk : Int) + (zk : Int) = ((1 + sk + zk : Nat) : Int) := by omega
      rw [hc]
      obtain ⟨W2, hW2⟩ : ∃ W2, W2 = (wr.setCell ⟨b, 1, none⟩ (.int .i64 ((1 + sk + zk : Nat) : Int))).drew := ⟨_, rfl⟩
      have hK2 : Cnt W2 b (FT.arity (.c3 f g h1 h2)) (1 + sk + zk) (true && ak) vr vf := by rw [hW2]; exact HK.out.set1
      have hg2 : w3.grownBy W2 (some b) := by rw [hW2]; exact grown_trans hg (grown_trans (grown_setx _ _ _ _) (grown_drawn _ _ 1))
      have aW2 := after_own aw3 hbw hg2
      have q2 := hK2.c2
      have f2 := hK2.fr 2
      have HK2 := Lib.hid hK2
      rw [← hW2]
      clear hK2 q1 f1 hc hW2 hg
      cases hak2 : (true && ak)
      all_goals
        rw [hak2] at q2
        go_wp2_with fail
        go_roundw
        case measure => simp [intOf]; omega
        case rel =>
          refine ⟨k + 1, by go_num, by omega, ?_, grown_trans hg2 (grown_setx _ _ _ _)⟩
          show Cnt _ _ _ _ _ _ _
          rw [HS.out, HA.out, ← Bool.and_assoc, hak2, ← Nat.add_assoc]
          first
            | (rw [Bool.false_and]; exact HK2.out.set2)
            | (rw [Bool.true_and]; exact HK2.out.set2)
    · obtain rfl : k = 4 := by omega
      go_wp2_with fail
      go_ret2
      refine ⟨_, rfl, awr, fun t ht => ?_⟩
      obtain rfl := Option.some.inj ht
      obtain ⟨g1, g2⟩ := HSX.out wr (fun k _ hk hne => hg.block k hk (fun e => by injection e with e; exact hne e))
      have hK := HK.out
      rw [HSZ.out, HTO.out] at hK
      exact ⟨b, vr, vf, rfl, Nat.le_trans hB hbw, hK, g1, g2⟩
end Go.Proofs.YtfjohagdlaiapaaGreat

namespace Go.Proofs.YtfjohagdlaiapaaGreat
open Go.RowKit

set_option maxHeartbeats 2000000
set_option maxRecDepth 100000

theorem wf_no {w w' : World} {B : Nat} (h : After w w') (v : Value) : WFPost w B none (.returned (.tuple #[v, .bool false])) w' := ⟨v, rfl, h, fun t ht => by cases ht⟩

theorem comb_no_c (w : World) (B : Nat) (sv : Value) (ps : List FT) (h : PartsV w B sv ps) (hn : ps.length ≤ 1000) (ho : ∀ f ∈ ps, FT.arity f ≤ 3) (hok : compOk ps = false) :
    Calls Tryz.prog 72 #[str [99], sv] w (WFPost w B none) := by
  obtain ⟨W1, hW1⟩ : ∃ W1, W1 = w.alloc (.cells #[.int .i64 0, .int .i64 0, .bool false, .nilIface, .nilFunc] 41 (0, 0)) := ⟨_, rfl⟩
  have a1 : After w W1 := by rw [hW1]; exact After.new _ _
  have k1 := composes_any W1 B sv ps (h.after a1) hn ho
  rw [hok] at k1
  obtain ⟨ao, cap, rfl⟩ := h.form
  have HW1 := Lib.hid hW1
  clear h hok hW1
  go_enter Tryz.func72, Tryz.ntmps72
  go_wp2_with fail
  rw [← HW1.out]
  refine k1.mono ?_
  rintro e w2 ⟨rfl, ha2⟩
  go_wp2_with fail
  go_ret2
  exact wf_no (a1.trans ha2) _

theorem comb_no_r (w : World) (B : Nat) (sv : Value) (ps : List FT) (h : PartsV w B sv ps) (hn : ps.length ≤ 1000) (ho : ∀ f ∈ ps, FT.arity f ≤ 3) (hok : recOk ps = false) :
    Calls Tryz.prog 72 #[str [114], sv] w (WFPost w B none) := by
  obtain ⟨W1, hW1⟩ : ∃ W1, W1 = w.alloc (.cells #[.int .i64 0, .int .i64 0, .bool false, .nilIface, .nilFunc] 41 (0, 0)) := ⟨_, rfl⟩
  have a1 : After w W1 := by rw [hW1]; exact After.new _ _
  have k1 := recurs_any W1 B sv ps (h.after a1) hn ho
  rw [hok] at k1
  obtain ⟨ao, cap, rfl⟩ := h.form
  have HW1 := Lib.hid hW1
  clear h hok hW1
  go_enter Tryz.func72, Tryz.ntmps72
  go_wp2_with fail
  rw [← HW1.out]
  refine k1.mono ?_
  rintro e w2 ⟨rfl, ha2⟩
  go_wp2_with fail
  go_ret2
  exact wf_no (a1.trans ha2) _

theorem comb_no_m (w : World) (B : Nat) (sv : Value) (ps : List FT) (h : PartsV w B sv ps) (hn : ps.length ≤ 1000) (ho : ∀ f ∈ ps, FT.arity f ≤ 3) (hok : searOk ps = false) :
    Calls Tryz.prog 72 #[str [109], sv] w (WFPost w B none) := by
  obtain ⟨W1, hW1⟩ : ∃ W1, W1 = w.alloc (.cells #[.int .i64 0, .int .i64 0, .bool false, .nilIface, .nilFunc] 41 (0, 0)) := ⟨_, rfl⟩
  have a1 : After w W1 := by rw [hW1]; exact After.new _ _
  have k1 := searches_any W1 B sv ps (h.after a1) hn ho
  rw [hok] at k1
  obtain ⟨ao, cap, rfl⟩ := h.form
  have HW1 := Lib.hid hW1
  clear h hok hW1
  go_enter Tryz.func72, Tryz.ntmps72
  go_wp2_with fail
  rw [← HW1.out]
  refine k1.mono ?_
  rintro e w2 ⟨rfl, ha2⟩
  go_wp2_with fail
  go_ret2
  exact wf_no (a1.trans ha2) _

theorem comb_no (w : World) (B : Nat) (sv : Value) (l : List UInt8) (n1 : (l == [99]) = false) (n2 : (l == [114]) = false) (n3 : (l == [109]) = false) :
    Calls Tryz.prog 72 #[str l, sv] w (WFPost w B none) := by
  go_enter Tryz.func72, Tryz.ntmps72
  go_wp2_with fail
  go_ret2
  exact wf_no (After.new _ _) _

theorem comp_sum (F : FT) (hF : FT.ok F) (a : Nat) (ha : a ≤ 3) (gs : List FT) (hg : ∀ g ∈ gs, FT.ok g) (hn : gs.length ≤ 3) (hs : FT.size F + (gs.map FT.size).sum ≤ 39) : (compL (FT.real F) a gs).size ≤ 3900 := by
  rw [compL_size _ a ha]
  have h0 := (FT.real_small hF).1
  have hoff : ∀ a, FT.off a ≤ 21 := fun a => by
    match a with
    | 0 => decide
    | 1 => decide
    | 2 => decide
    | a + 3 => simp [FT.off]
  have h1 := hoff (FT.arity F)
  have hall : ((gs.map fun g => (FT.real g).size + a).sum : Int) ≤ 63 * ((gs.map FT.size).sum : Nat) + 24 * gs.length := by
    clear hn hs
    induction gs with
    | nil => simp
    | cons g gs ih =>
      have h2 := (FT.real_small (hg g (by simp))).1
      have h3 := hoff (FT.arity g)
      have := ih (fun q hq => hg q (by simp [hq]))
      simp only [List.map_cons, List.sum_cons, List.length_cons]
      omega
  omega

theorem combination_any (w : World) (B : Nat) (l : List UInt8) (sv : Value) (ps : List FT) (h : PartsV w B sv ps) (hB : B ≤ w.heap.size) (hn : ps.length ≤ 1000) (ho : ∀ f ∈ ps, FT.ok f) (hs : (ps.map FT.size).sum ≤ 39) :
    Calls Tryz.prog 72 #[str l, sv] w (WFPost w B (FT.comb l ps)) := by
  have ha : ∀ f ∈ ps, FT.arity f ≤ 3 := fun q hq => FT.arity_le (ho q hq)
  by_cases hc : l = [99]
  · subst hc
    cases hok : compOk ps with
    | false =>
      rw [show FT.comb [99] ps = none from ?_]
      · exact comb_no_c w B sv ps h hn ha hok
      · match ps, hok with
        | [], _ => rfl
        | [_], _ => rfl
        | [f, g], hok => simp [compOk] at hok; simp [FT.comb, hok]
        | [f, g, k], hok => simp [compOk] at hok; simp [FT.comb]; omega
        | [f, g, k, i], hok => simp [compOk] at hok; simp [FT.comb]; omega
        | _ :: _ :: _ :: _ :: _ :: _, _ => rfl
    | true =>
      match ps, hok with
      | [f, g], hok =>
        have h1 : FT.arity f = 1 := by simp [compOk] at hok; exact hok
        rw [show FT.comb [99] [f, g] = some (.c1 f g) by simp [FT.comb, h1]]
        exact comb_c1 w B sv f g h hB ho hs hok (comp_sum f (ho f (by simp)) _ (ha g (by simp)) _ (fun q hq => ho q (by simp at hq ⊢; simp [hq])) (by simp) (by simpa using hs))
      | [f, g, k], hok =>
        have h1 := hok
        simp [compOk] at h1
        rw [show FT.comb [99] [f, g, k] = some (.c2 f g k) by simp [FT.comb, h1]]
        exact comb_c2 w B sv f g k h hB ho hs hok (comp_sum f (ho f (by simp)) _ (ha g (by simp)) _ (fun q hq => ho q (by simp at hq ⊢; rcases hq with rfl | rfl <;> simp)) (by simp) (by simpa using hs))
      | [f, g, k, i], hok =>
        have h1 := hok
        simp [compOk] at h1
        rw [show FT.comb [99] [f, g, k, i] = some (.c3 f g k i) by simp [FT.comb, h1]]
        exact comb_c3 w B sv f g k i h hB ho hs hok (comp_sum f (ho f (by simp)) _ (ha g (by simp)) _ (fun q hq => ho q (by simp at hq ⊢; rcases hq with rfl | rfl | rfl <;> simp)) (by simp) (by simpa using hs))
      | f :: g :: k :: i :: j :: r, hok =>
        exfalso
        have h1 := ha f (by simp)
        simp [compOk] at hok
        omega
  by_cases hr : l = [114]
  · subst hr
    cases hok : recOk ps with
    | false =>
      rw [show FT.comb [114] ps = none from ?_]
      · exact comb_no_r w B sv ps h hn ha hok
      · match ps, hok with
        | [], _ => rfl
        | [_], _ => rfl
        | [f, g], hok => simp [recOk] at hok; simp [FT.comb, hok]
        | _ :: _ :: _ :: _, _ => rfl
    | true =>
      match ps, hok with
      | [f, g], hok =>
        have h1 : FT.arity g = FT.arity f + 2 := by simpa [recOk] using hok
        have h2 := ha g (by simp)
        rw [show FT.comb [114] [f, g] = some (.r f g) by simp [FT.comb, h1]]
        have h3 := comp_sum f (ho f (by simp)) 0 (by omega) [g] (fun q hq => ho q (by simp at hq ⊢; simp [hq])) (by simp) (by simpa using hs)
        have h4 := (FT.real_small (ho f (by simp))).1
        have h5 := (FT.real_small (ho g (by simp))).1
        have h6 : FT.off (FT.arity f) ≤ 21 := by
          obtain h | h : FT.arity f = 0 ∨ FT.arity f = 1 := by omega
          all_goals rw [h]; decide
        have h7 : FT.off (FT.arity g) ≤ 21 := by
          obtain h | h : FT.arity g = 2 ∨ FT.arity g = 3 := by omega
          all_goals rw [h]; decide
        exact comb_r w B sv f g h hB ho hs hok (by omega) (by simp at hs; omega)
  by_cases hm : l = [109]
  · subst hm
    cases hok : searOk ps with
    | false =>
      rw [show FT.comb [109] ps = none from ?_]
      · exact comb_no_m w B sv ps h hn ha hok
      · match ps, hok with
        | [], _ => rfl
        | [f], hok => simp [searOk] at hok; simp [FT.comb, hok]
        | _ :: _ :: _, _ => rfl
    | true =>
      match ps, hok with
      | [f], hok =>
        have h1 : 0 < FT.arity f := by simpa [searOk] using hok
        rw [show FT.comb [109] [f] = some (.m f) by simp [FT.comb, h1]]
        have hof := ho f (by simp)
        have hs' : FT.size f ≤ 39 := by simpa using hs
        have h2 := (FT.real_fits hof (by omega)).1
        have h3 := (FT.real_fits (t := .m f) ⟨hof, h1⟩ (by simp only [FT.size]; omega)).1
        have h4 := (absR_ge (FT.ns (FT.arity f - 1)).reverse (Tm.app (Tm.app Tm.fix (FT.absAll [[117], [118]] (FT.seaB (FT.real f) (FT.arity f - 1)))) Tm.I)).1
        have h5 : (FT.real (.m f)).size = (absR (FT.ns (FT.arity f - 1)).reverse (Tm.app (Tm.app Tm.fix (FT.absAll [[117], [118]] (FT.seaB (FT.real f) (FT.arity f - 1)))) Tm.I)).size := rfl
        rw [h5] at h3
        have h6 : (FT.ns (FT.arity f - 1)).reverse.length ≤ 3 := by rw [List.length_reverse, FT.ns, List.length_take]; simp; omega
        simp only [Tm.size] at h4
        exact comb_m w B sv f h hB hof hs' h1 (by omega) (by omega)
  rw [show FT.comb l ps = none by simp [FT.comb, hc, hr, hm]]
  exact comb_no w B sv l (by simpa using hc) (by simpa using hr) (by simpa using hm)
end Go.Proofs.YtfjohagdlaiapaaGreat

namespace Go.Proofs.YtfjohagdlaiapaaGreat
open Go.RowKit

set_option maxHeartbeats 1000000
set_option maxRecDepth 100000

theorem CVh.less {w : World} {B B' : Nat} (hB : B' ≤ B) {t : FT} {F F' : Value → Prop} (hF : ∀ v, F v → F' v) {v : Value} : CVh w B t F v → CVh w B' t F' v := by
  rintro ⟨b, vr, vf, hv, hb, hh, hr, hf⟩
  exact ⟨b, vr, vf, hv, Nat.le_trans hB hb, hh, hr.less hB, hF vf hf⟩

theorem FnV.less {w : World} {B B' : Nat} (hB : B' ≤ B) : ∀ {t : FT} {v : Value}, FnV w B t v → FnV w B' t v := by
  intro t
  induction t with
  | z _ => exact id
  | inc => exact id
  | p _ _ => rintro v ⟨q, hv, hb, hh⟩; exact ⟨q, hv, Nat.le_trans hB hb, hh⟩
  | c1 f g ihf ihg =>
    rintro v ⟨q1, q2, s, o, cap, cs, T, fr, pf, p1, hv, b1, h1, b2, h2, hf, bs, h3, e1, hg⟩
    exact ⟨q1, q2, s, o, cap, cs, T, fr, pf, p1, hv, Nat.le_trans hB b1, h1, Nat.le_trans hB b2, h2, hf.less hB (fun _ => ihf), Nat.le_trans hB bs, h3, e1, hg.less hB (fun _ => ihg)⟩
  | c2 f g k ihf ihg ihk =>
    rintro v ⟨q1, q2, s, o, cap, cs, T, fr, pf, p1, p2, hv, b1, h1, b2, h2, hf, bs, h3, e1, hg, e2, hh⟩
    exact ⟨q1, q2, s, o, cap, cs, T, fr, pf, p1, p2, hv, Nat.le_trans hB b1, h1, Nat.le_trans hB b2, h2, hf.less hB (fun _ => ihf), Nat.le_trans hB bs, h3, e1, hg.less hB (fun _ => ihg), e2, hh.less hB (fun _ => ihk)⟩
  | c3 f g k l ihf ihg ihk ihl =>
    rintro v ⟨q1, q2, s, o, cap, cs, T, fr, pf, p1, p2, p3, hv, b1, h1, b2, h2, hf, bs, h3, e1, hg, e2, hh, e3, hi⟩
    exact ⟨q1, q2, s, o, cap, cs, T, fr, pf, p1, p2, p3, hv, Nat.le_trans hB b1, h1, Nat.le_trans hB b2, h2, hf.less hB (fun _ => ihf), Nat.le_trans hB bs, h3, e1, hg.less hB (fun _ => ihg), e2, hh.less hB (fun _ => ihk), e3, hi.less hB (fun _ => ihl)⟩
  | r f g ihf ihg =>
    rintro v ⟨q1, q2, pf, pg, hv, b1, h1, b2, h2, hf, hg⟩
    exact ⟨q1, q2, pf, pg, hv, Nat.le_trans hB b1, h1, Nat.le_trans hB b2, h2, hf.less hB (fun _ => ihf), hg.less hB (fun _ => ihg)⟩
  | m f ihf =>
    rintro v ⟨q1, pf, hv, b1, h1, hf⟩
    exact ⟨q1, pf, hv, Nat.le_trans hB b1, h1, hf.less hB (fun _ => ihf)⟩

theorem CV.less {w : World} {B B' : Nat} {t : FT} {v : Value} (h : CV w B t v) (hB : B' ≤ B) : CV w B' t v := CVh.less hB (fun _ => FnV.less hB) h

/-- A compiled function text whose blocks lie from S on below E. -/
def CVr (w : World) (S E : Nat) (t : FT) (v : Value) : Prop := ∀ w'' : World, (∀ k, S ≤ k → k < E → w''.heap[k]? = w.heap[k]?) → CV w'' S t v

theorem CV.ranged {w : World} {S : Nat} {t : FT} {v : Value} (h : CV w S t v) : CVr w S w.heap.size t v := fun _ hk => h.same hk
theorem CVr.keep {w w' : World} {S E : Nat} {t : FT} {v : Value} (h : CVr w S E t v) (hk : ∀ k, S ≤ k → k < E → w'.heap[k]? = w.heap[k]?) : CVr w' S E t v := fun w'' h2 => h w'' fun k h1 h3 => (h2 k h1 h3).trans (hk k h1 h3)
theorem CVr.cv {w : World} {S E : Nat} {t : FT} {v : Value} (h : CVr w S E t v) : CV w S t v := h w fun _ _ _ => rfl

/-- A row of parts that may grow. -/
def RowV (w : World) (base : Nat) (sv : Value) (ps : List FT) (xs : List Value) : Prop :=
  w.ownsRow base 34 1 sv ps.length xs ∧ ∀ j (h : j < ps.length), ∃ v S E, xs[j]? = some v ∧ base ≤ S ∧ E ≤ w.heap.size ∧ (∀ g, sv.ownBlock = some g → g < S ∨ E ≤ g) ∧ CVr w S E ps[j] v

theorem RowV.nil (w : World) (base : Nat) : RowV w base (.slice none 0 0) [] [] := ⟨World.ownsRow_nil w base _ _, fun j h => absurd h (by simp)⟩

theorem RowV.grown {w w' : World} {base b : Nat} {sv : Value} {ps : List FT} {xs : List Value} (h : RowV w base sv ps xs) (hg : w.grownBy w' (some b)) (hb : b < base) : RowV w' base sv ps xs := by
  refine ⟨h.1.kept hg ?_, fun j hj => ?_⟩
  · cases hv : sv.ownBlock with
    | none => exact Or.inl rfl
    | some g => exact Or.inr (fun e => by injection e with e; have := (h.1.lt g hv).1; omega)
  · obtain ⟨v, S, E, h1, h2, h3, h4, h5⟩ := h.2 j hj
    exact ⟨v, S, E, h1, h2, Nat.le_trans h3 hg.size, h4, h5.keep fun k hk1 hk2 => hg.block k (by omega) (fun e => by injection e with e; omega)⟩

theorem RowV.push {w w' : World} {base S : Nat} {sv v' v : Value} {ps : List FT} {xs : List Value} {t : FT} (h : RowV w base sv ps xs) (hS : base ≤ S) (hgS : ∀ g, sv.ownBlock = some g → g < S) (ht : CV w S t v) (o : Obj)
    (ho : w'.ownsRow base 34 1 v' (ps.length + 1) (xs ++ [v])) (hg : (w.alloc o).grownBy w' sv.ownBlock) (hw : v'.ownBlock = sv.ownBlock ∨ v'.ownBlock = some (w.alloc o).heap.size) :
    RowV w' base v' (ps ++ [t]) (xs ++ [v]) := by
  have hxl : xs.length = ps.length := by have := h.1.1; omega
  have hsz : (w.alloc o).heap.size = w.heap.size + 1 := by simp
  have hkeep : ∀ k, k < w.heap.size → (∀ g, sv.ownBlock = some g → k ≠ g) → w'.heap[k]? = w.heap[k]? := fun k hk hne => by
    rw [hg.block k (by omega) (fun e => hne k e.symm rfl)]
    exact (below_new w o).block k hk
  refine ⟨by rw [List.length_append]; exact ho, fun j hj => ?_⟩
  by_cases hjl : j < ps.length
  · obtain ⟨u, S', E, h1, h2, h3, h4, h5⟩ := h.2 j hjl
    refine ⟨u, S', E, by rw [List.getElem?_append_left (by omega)]; exact h1, h2, by have := hg.size; omega, fun g hg' => ?_, ?_⟩
    · rcases hw with hw | hw
      · exact h4 g (hw ▸ hg')
      · rw [hw] at hg'; injection hg' with hg'; right; omega
    · rw [List.getElem_append_left hjl]
      exact h5.keep fun k hk1 hk2 => hkeep k (by omega) (fun g hg' e => by have := h4 g hg'; omega)
  · have hj' : j = ps.length := by rw [List.length_append, List.length_singleton] at hj; omega
    subst hj'
    refine ⟨v, S, w.heap.size, by rw [List.getElem?_append_right (by omega), hxl]; simp, hS, by have := hg.size; omega, fun g hg' => ?_, ?_⟩
    · rcases hw with hw | hw
      · exact Or.inl (hgS g (hw ▸ hg'))
      · rw [hw] at hg'; injection hg' with hg'; right; omega
    · simp only [List.getElem_concat_length]
      exact ht.ranged.keep fun k hk1 hk2 => hkeep k hk2 (fun g hg' e => by have := hgS g hg'; omega)

theorem RowV.parts {w : World} {base B : Nat} {sv : Value} {ps : List FT} {xs : List Value} (h : RowV w base sv ps xs) (hB : B ≤ base) : PartsV w B sv ps := by
  obtain ⟨ho, hc⟩ := h
  rcases ho.2 with ⟨h1, h2⟩ | ⟨g, cap, cur, hv, hb, hh, hle, _, hcs, hct⟩
  · exact Or.inl ⟨List.length_eq_zero_iff.1 h2, none, 0, h1⟩
  · refine Or.inr ⟨g, 0, cap, cur, _, _, hv, hle, Nat.le_trans hB hb, hh, fun j hj => ?_⟩
    obtain ⟨v, S, E, h1, h2, _, _, h5⟩ := hc j hj
    refine ⟨v, ?_, h5.cv.less (by omega)⟩
    rw [← hct, List.getElem?_take, if_pos (by omega)] at h1
    rw [Nat.zero_add]
    simpa using h1
end Go.Proofs.YtfjohagdlaiapaaGreat
