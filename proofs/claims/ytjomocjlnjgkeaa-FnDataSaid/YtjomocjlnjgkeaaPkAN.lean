/-
  The program's pairTerm, numeralTerm, NumberOf.
-/
import Derived.Test.YtjomocjlnjgkeaaPkAM
import Derived.Test.YtjomocjlnjgkeaaPkAJ
import Derived.Test.YtjomocjlnjgkeaaPkAE
import Derived.Test.YtjomocjlnjgkeaaPkAG
namespace Go.Proofs.Ytjomocjlnjgkeaa
open Go.RowKit

set_option maxHeartbeats 1000000
set_option maxRecDepth 100000

theorem AbsOk.later {w W : World} {B : Nat} {v : Value} {t : Tm} (h : AbsOk w B v t) (hb : Below w.heap.size w W) : AbsOk W B v t := by
  obtain ⟨T, x, f, y, hv, hm, hc, hd⟩ := h
  exact ⟨T, x, f, y, hv, hm, hc, fun W' hW' => hd W' (below_trans hb hW')⟩

theorem BV.absOk {w : World} {B : Nat} (hB : B ≤ w.heap.size) : ∀ {b : Bd} {v : Value}, BV w B b v → b.term.size ≤ 999999999 → AbsOk w B v b.term
  | .itself, _, h, _ => ⟨_, _, _, _, h, meth_itself, fun _ _ => by kernel_rfl, fun W hW => itself_abs W B (Nat.le_trans hB hW.size)⟩
  | .without t, _, ⟨x, hv, h⟩, hz => ⟨_, _, _, _, hv, fun W => meth_without W x, fun _ _ => by kernel_rfl, fun W hW => without_abs W B t x (h.below hW) (Nat.le_trans hB hW.size) (by simp only [Bd.term, Tm.size] at hz; omega)⟩
  | .atEnd t, _, ⟨x, hv, h⟩, hz => ⟨_, _, _, _, hv, fun W => meth_atEnd W x, fun _ _ => by kernel_rfl, fun W hW => atEnd_abs W B t x (h.below hW)⟩
  | .inside f a, _, ⟨x, y, hv, hf, ha⟩, hz => by
    simp only [Bd.term, Tm.size] at hz
    have sf := BV.absOk hB hf (by omega)
    have sa := BV.absOk hB ha (by omega)
    exact ⟨_, _, _, _, hv, fun W => meth_inside W x y, fun _ _ => by kernel_rfl, fun W hW => inside_abs W B _ _ x y (sf.later hW) (sa.later hW) (Nat.le_trans hB hW.size) (by omega)⟩

theorem pair_any (w : World) (B : Nat) (m n : Tm) (v1 v2 : Value) (h1 : TV w B m v1) (h2 : TV w B n v2) (hB : B ≤ w.heap.size) (hz : m.size + n.size ≤ 100000000) :
    Calls Try.prog 93 #[v1, v2] w (TermPost w B (Tm.pair m n)) := by
  have hx := BV.absOk (b := .inside .itself (.without m)) (v := .iface 163 (.agg #[.iface 159 (.agg #[]), .iface 161 (.agg #[v1])])) hB ⟨_, _, rfl, rfl, _, rfl, h1⟩ (by simp [Bd.term, Tm.I, Tm.size]; omega)
  have hy := BV.absOk (b := .without n) (v := .iface 161 (.agg #[v2])) hB ⟨_, rfl, h2⟩ (by simp [Bd.term, Tm.size]; omega)
  have hcall := inside_abs w B _ _ _ _ hx hy hB (by simp [Bd.term, Tm.I, Tm.size]; omega)
  obtain ⟨T1, x1, rfl, _⟩ := h1.asks
  obtain ⟨T2, x2, rfl, _⟩ := h2.asks
  have hfin : (Tm.app (.app .s (Bd.term (.inside .itself (.without m)))) (Bd.term (.without n))) = Tm.pair m n := rfl
  rw [hfin] at hcall
  unfold TermPost at hcall
  clear hx hy h1 h2 hfin
  go_enter Try.func93, Try.ntmps93
  go_wp2_with fail
  refine hcall.mono ?_
  rintro e w1 ⟨v3, rfl, hb1, ht1⟩
  have HT := Lib.hid ht1
  clear ht1 hcall
  go_wp2_with fail
  go_ret
  exact ⟨_, rfl, hb1, HT.out⟩

theorem numeral_any (w : World) (B n : Nat) (hB : B ≤ w.heap.size) (hn : n ≤ 1000000) :
    Calls Try.prog 94 #[.int .i64 n] w (TermPost w B (Tm.num n)) := by
  have hI := identity_any w B hB
  unfold TermPost at hI
  go_enter Try.func94, Try.ntmps94
  go_wp2_with fail
  refine hI.mono ?_
  rintro e w1 ⟨v1, rfl, hb1, ht1⟩
  have hstart : Hid (TV w1 B (Tm.num 0) v1) := ht1
  clear ht1 hI
  go_wp2_with fail
  go_loopw [3, 6] (fun v i wr => ∃ k : Nat, i = .int .i64 k ∧ k ≤ n ∧ Hid (TV wr B (Tm.num k) v) ∧ Below w.heap.size w wr) (fun _ i _ => n - (intOf i).toNat)
  case atStart => exact ⟨0, rfl, Nat.zero_le _, hstart, hb1⟩
  case round =>
    clear hstart
    obtain ⟨k, rfl, hk, ht, hb⟩ := hrel
    by_cases hlt : k < n
    · have hbit := bit_any wr B false (Nat.le_trans hB hb.size)
      unfold TermPost at hbit
      simp only [Bool.false_eq_true, if_false] at hbit
      go_wp2_with fail
      refine hbit.mono ?_
      rintro e w2 ⟨v2, rfl, hb2, ht2⟩
      have hz := Tm.size_num k
      have hcall := pair_any w2 B Tm.no (Tm.num k) v2 _ ht2 (ht.out.below hb2) (Nat.le_trans hB (below_trans hb hb2).size) (by rw [hz]; simp [Tm.no, Tm.I, Tm.size]; omega)
      rw [show Tm.pair Tm.no (Tm.num k) = Tm.num (k + 1) from rfl] at hcall
      unfold TermPost at hcall
      clear ht2 hbit hz
      go_wp2_with fail
      refine hcall.mono ?_
      rintro e w3 ⟨v3, rfl, hb3, ht3⟩
      have HT3 := Lib.hid ht3
      clear ht3 hcall
      go_wp2_with fail
      go_roundw
      case rel => exact ⟨k + 1, by go_num, by omega, HT3, below_trans (below_trans hb hb2) hb3⟩
      case measure => simp [intOf]; omega
    · obtain rfl : k = n := by omega
      go_wp2_with fail
      go_ret
      exact ⟨_, rfl, hb, ht.out⟩

/-- What NumberOf answers. -/
def pNumber (n : Int) : Option (List UInt8) := if 0 ≤ n ∧ n ≤ 60 then some (Tm.num n.toNat).text else none

def NumOne (w : World) (r : Option (List UInt8)) (e : Ending) (w' : World) : Prop :=
  e = .returned (.tuple #[str (r.getD []), .bool r.isSome]) ∧ Below w.heap.size w w'

end Go.Proofs.Ytjomocjlnjgkeaa

namespace Go.Proofs.Ytjomocjlnjgkeaa
open Go.RowKit

set_option maxHeartbeats 1000000
set_option maxRecDepth 100000

namespace Tm
def behind (F : List UInt8) : Tm → Option Tm
  | app f a => if text f = F then some a else none
  | _ => none
def parts : Tm → Option (Tm × Tm)
  | app x y => match behind [107] y with
    | none => none
    | some n => match behind [115] x with
      | none => none
      | some left => match behind [40, 115, 32, 40, 40, 115, 32, 107, 41, 32, 107, 41, 41] left with
        | none => none
        | some front => match behind [107] front with
          | none => none
          | some m => some (m, n)
  | _ => none
theorem behind_good {F : List UInt8} {t a : Tm} (h : behind F t = some a) (hg : good t = true) : good a = true ∧ a.size < t.size := by
  cases t with
  | app f b =>
    simp only [behind] at h
    split at h
    · obtain rfl := Option.some.inj h
      simp only [good, Bool.and_eq_true] at hg
      exact ⟨hg.2, by simp only [size]; have := size_pos f; omega⟩
    · simp at h
  | _ => simp [behind] at h
end Tm

def BehindPost (w : World) (B : Nat) (r : Option Tm) (e : Ending) (w' : World) : Prop :=
  ∃ v, e = .returned (.tuple #[v, .bool r.isSome]) ∧ Below w.heap.size w w' ∧ ∀ a, r = some a → TV w' B a v

theorem assert_app (W : World) (x : Value) : (Instr.typeAssert (.iface 152 x) 46 152 true).run Try.prog W = .ok (.tuple #[x, .bool true]) W := by kernel_rfl
theorem assert_k (W : World) (x : Value) : (Instr.typeAssert (.iface 137 x) 46 152 true).run Try.prog W = .ok (.tuple #[.pointer none, .bool false]) W := by kernel_rfl
theorem assert_s (W : World) (x : Value) : (Instr.typeAssert (.iface 134 x) 46 152 true).run Try.prog W = .ok (.tuple #[.pointer none, .bool false]) W := by kernel_rfl
theorem assert_n (W : World) (x : Value) : (Instr.typeAssert (.iface 97 x) 46 152 true).run Try.prog W = .ok (.tuple #[.pointer none, .bool false]) W := by kernel_rfl

def PartsPost (w : World) (B : Nat) (r : Option (Tm × Tm)) (e : Ending) (w' : World) : Prop :=
  ∃ v1 v2, e = .returned (.tuple #[v1, v2, .bool r.isSome]) ∧ Below w.heap.size w w' ∧ ∀ m n, r = some (m, n) → TV w' B m v1 ∧ TV w' B n v2

/-- What PairParts answers. -/
def pParts (l : List UInt8) : Option (List UInt8 × List UInt8) := match Tm.parse l with
  | some t => t.parts.map fun p => (p.1.text, p.2.text)
  | none => none

def TwoRes (w : World) (r : Option (List UInt8 × List UInt8)) (e : Ending) (w' : World) : Prop :=
  e = .returned (.tuple #[str ((r.map Prod.fst).getD []), str ((r.map Prod.snd).getD []), .bool r.isSome]) ∧ Below w.heap.size w w'

theorem parts_good {t m n : Tm} (h : t.parts = some (m, n)) (hg : t.good = true) : m.good = true ∧ n.good = true ∧ m.size < t.size ∧ n.size < t.size := by
  cases t with
  | app x y =>
    simp only [Tm.good, Bool.and_eq_true] at hg
    simp only [Tm.parts] at h
    split at h
    · simp at h
    · rename_i n' e1
      split at h
      · simp at h
      · rename_i left e2
        split at h
        · simp at h
        · rename_i front e3
          split at h
          · simp at h
          · rename_i m' e4
            simp only [Option.some.injEq, Prod.mk.injEq] at h
            obtain ⟨rfl, rfl⟩ := h
            have g1 := Tm.behind_good e1 hg.2
            have g2 := Tm.behind_good e2 hg.1
            have g3 := Tm.behind_good e3 g2.1
            have g4 := Tm.behind_good e4 g3.1
            simp only [Tm.size]
            exact ⟨g4.1, g1.1, by omega, by omega⟩
  | _ => simp [Tm.parts] at h

end Go.Proofs.Ytjomocjlnjgkeaa
