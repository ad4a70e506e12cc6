/-
  The reader of the program: skip, nameLength, readAtom, read, readTerm.
-/
import Derived.Test.YtmkmladlpgfniabPkA
import Derived.Deep.QuietTactic
import Derived.BigQuiet
import Derived.RangeFuncNested
import Derived.RangeFuncBound
import Derived.RangeFuncCalls
import Derived.RangeFuncLeaves
import Derived.Shelf.Abstract
import Derived.WalkKit
import Derived.OwnWalkIn
import Derived.TacticsInMore
import Derived.LoopNIn
import Derived.LoopIn
import Derived.Lib.Hide
namespace Go.Proofs.Ytmkmladlpgfniab
open Go.RowKit

set_option maxHeartbeats 400000
set_option maxRecDepth 100000

theorem grown_drawn (w : World) (b m : Nat) : w.grownBy (w.drewN m) (some b) := ⟨rfl, rfl, rfl, Nat.le_refl _, fun _ _ _ => rfl⟩

theorem grown_set (w : World) (b m i : Nat) (v : Value) : w.grownBy ((w.drewN m).setCell ⟨b, i, none⟩ v) (some b) := by
  refine ⟨rfl, rfl, rfl, by simp [World.setCell], fun k hk hne => ?_⟩
  have : b ≠ k := fun e => hne (e ▸ rfl)
  simp [World.setCell, Array.getElem?_modify, this]

theorem byte_at (l : List UInt8) (i : Nat) (_h : i < l.length) (h' : i < (⟨l.toArray⟩ : ByteArray).size) : (⟨l.toArray⟩ : ByteArray)[i]'h' = l[i] := rfl

theorem byte_ne (x y : UInt8) : ((x.toNat : Int) != (y.toNat : Int)) = (x != y) := by
  rw [Bool.eq_iff_iff]
  simp only [bne_iff_ne, ne_eq, Int.natCast_inj]
  constructor
  · exact fun h e => h (e ▸ rfl)
  · exact fun h e => h (UInt8.toNat_inj.1 e)

theorem ended_any (w : World) (b i : Nat) (l : List UInt8) (c0 : w.cell? ⟨b, 0, none⟩ = some (str l)) (c1 : w.cell? ⟨b, 1, none⟩ = some (.int .i64 (i : Nat))) (_hl : l.length ≤ 1000000000) :
    Calls Try.prog 27 #[.pointer (some ⟨b, 0, none⟩)] w fun e w' => e = .returned (.bool (decide (i = l.length))) ∧ ∃ m, w' = w.drewN m := by
  have hsz : (⟨l.toArray⟩ : ByteArray).size = l.length := by show l.toArray.size = _; simp
  by_cases hie : i = l.length
  · have hr : decide (i = l.length) = true := by simp [hie]
    rw [hr]
    subst hie
    clear hr
    go_enter Try.func27, Try.ntmps27
    go_wp2_with fail
    go_quiet (fail)
    go_wp2_with fail
    go_ret
    exact ⟨rfl, _, rfl⟩
  · have hr : decide (i = l.length) = false := by simp [hie]
    rw [hr]
    have hne : ((i : Int) == (l.length : Int)) = false := by rw [beq_eq_false_iff_ne]; omega
    clear hr
    go_enter Try.func27, Try.ntmps27
    go_wp2_with fail
    go_quiet (fail)
    go_wp2_with fail
    go_ret
    exact ⟨rfl, _, rfl⟩

/-- What skip leaves in the cells of its block. -/
def SkipOn (w : World) (b : Nat) (cs : Array Value) (T : TypeId) (i : Nat) (r : Bool) (e : Ending) (w' : World) : Prop :=
  e = .returned (.bool r) ∧ w.grownBy w' (some b) ∧ w'.heap[b]? = some (.cells (if r then cs.setIfInBounds 1 (.int .i64 ((i + 1 : Nat) : Int)) else cs) T (0, 0))

theorem skip_on (w : World) (b i : Nat) (l : List UInt8) (n : Int) (c : UInt8) (hn : n = c.toNat) (cs : Array Value) (T : TypeId) (h : w.heap[b]? = some (.cells cs T (0, 0))) (h0 : cs[0]? = some (str l)) (h1 : cs[1]? = some (.int .i64 (i : Nat))) (hl : l.length ≤ 1000000000) (hi : i ≤ l.length) :
    Calls Try.prog 32 #[.pointer (some ⟨b, 0, none⟩), .int .u8 n] w (SkipOn w b cs T i (decide (l[i]? = some c))) := by
  have c0 : w.cell? ⟨b, 0, none⟩ = some (str l) := by rw [cell_of_heap h]; exact h0
  have c1 : w.cell? ⟨b, 1, none⟩ = some (.int .i64 (i : Nat)) := by rw [cell_of_heap h]; exact h1
  have f1 : w.frozen? ⟨b, 1, none⟩ = false := by simp [World.frozen?, h]
  have hsz : (⟨l.toArray⟩ : ByteArray).size = l.length := by show l.toArray.size = _; simp
  have hi0 : (0 : Int) ≤ (i : Int) := by omega
  have hend := fun m => ended_any (w.drewN m) b i l c0 c1 hl
  have HR := Lib.hid h
  subst hn
  clear h h0 h1
  by_cases hie : i = l.length
  · subst hie
    have hr : decide (l[l.length]? = some c) = false := by simp
    have hd : decide (l.length = l.length) = true := by simp
    rw [hr]
    rw [hd] at hend
    clear hr hd
    go_enter Try.func32, Try.ntmps32
    go_wp2_with fail
    go_quiet ((go_at_call 27; exact Calls.quiet_of (hend _)))
    go_wp2_with fail
    go_ret
    exact ⟨rfl, grown_drawn _ _ _, HR.out⟩
  · have hlt : i < l.length := by omega
    have hd : decide (i = l.length) = false := by simp [hie]
    rw [hd] at hend
    have hi1 : (i : Int) < (l.length : Int) := by omega
    have hg : l[i]? = some l[i] := List.getElem?_eq_getElem hlt
    have hb := byte_ne l[i] c
    have hat := byte_at l i hlt (by rw [hsz]; exact hlt)
    clear hd hie
    by_cases hc : l[i] = c
    · have hr : decide (l[i]? = some c) = true := by rw [hg, hc]; simp
      rw [hr]
      have hb2 : (((⟨l.toArray⟩ : ByteArray)[i]'(by rw [hsz]; exact hlt)).toNat : Int) = (c.toNat : Int) := by rw [hat, hc]
      clear hr hg hb hat hc
      go_enter Try.func32, Try.ntmps32
      go_wp2_with fail
      go_quiet ((go_at_call 27; exact Calls.quiet_of (hend _)))
      go_wp2_with fail
      go_ret
      refine ⟨rfl, grown_set _ _ _ _ _, ?_⟩
      have := HR.out
      simp [World.setCell, Array.getElem?_modify, this]
    · have hr : decide (l[i]? = some c) = false := by rw [hg]; simp [hc]
      rw [hr]
      have hb2 : (((((⟨l.toArray⟩ : ByteArray)[i]'(by rw [hsz]; exact hlt)).toNat : Int) != (c.toNat : Int))) = true := by rw [hat, hb]; simpa using hc
      clear hr hg hb hat hc
      go_enter Try.func32, Try.ntmps32
      go_wp2_with fail
      go_quiet ((go_at_call 27; exact Calls.quiet_of (hend _)))
      go_wp2_with fail
      go_ret
      exact ⟨rfl, grown_drawn _ _ _, HR.out⟩

/-! ### the length of a name -/

theorem lead_int (c : UInt8) : Tm.lead c = true ↔ (117 : Int) ≤ (c.toNat : Int) ∧ (c.toNat : Int) ≤ 122 := by
  simp only [Tm.lead, Bool.and_eq_true, decide_eq_true_eq, UInt8.le_iff_toNat_le]
  have h1 : (117 : UInt8).toNat = 117 := rfl
  have h2 : (122 : UInt8).toNat = 122 := rfl
  omega
theorem dig_int (c : UInt8) : Tm.dig c = true ↔ (48 : Int) ≤ (c.toNat : Int) ∧ (c.toNat : Int) ≤ 57 := by
  simp only [Tm.dig, Bool.and_eq_true, decide_eq_true_eq, UInt8.le_iff_toNat_le]
  have h1 : (48 : UInt8).toNat = 48 := rfl
  have h2 : (57 : UInt8).toNat = 57 := rfl
  omega

end Go.Proofs.Ytmkmladlpgfniab

namespace Go.Proofs.Ytmkmladlpgfniab
open Go.RowKit

set_option maxHeartbeats 400000
set_option maxRecDepth 100000

theorem grown_trans {w w' w'' : World} {b : Nat} (h : w.grownBy w' (some b)) (g : w'.grownBy w'' (some b)) : w.grownBy w'' (some b) :=
  ⟨g.os.trans h.os, g.tape.trans h.tape, g.output.trans h.output, Nat.le_trans h.size g.size, fun k hk hne => (g.block k (Nat.lt_of_lt_of_le hk h.size) hne).trans (h.block k hk hne)⟩

theorem grown_alloc (w : World) (b : Nat) (o : Obj) : w.grownBy (w.alloc o) (some b) := ⟨rfl, rfl, rfl, by simp, fun k hk _ => Below.heap_alloc _ _ _ hk⟩

theorem heap_new (w : World) (o : Obj) : (w.alloc o).heap[w.heap.size]? = some o := by
  show (w.heap.push _)[_]? = _
  simp

theorem heap_new_set (w : World) (m : Nat) (a : Addr) (v : Value) (o : Obj) : (((w.drewN m).setCell a v).alloc o).heap[w.heap.size]? = some o := by
  have h : ((w.drewN m).setCell a v).heap.size = w.heap.size := by simp [World.setCell]
  rw [← h]
  exact heap_new _ _

theorem bytes_ext (l : List UInt8) (i j : Nat) : (⟨l.toArray⟩ : ByteArray).extract i j = ⟨((l.drop i).take (j - i)).toArray⟩ := by
  apply ByteArray.ext
  simp [ByteArray.data_extract]

theorem digs_drop (l : List UInt8) (i m k : Nat) : Tm.digs (l.drop i) m k = Tm.digs l m (i + k) := by
  induction m generalizing k with
  | zero => rfl
  | succ m ih =>
    simp only [Tm.digs, List.getElem?_drop]
    rw [ih (k + 1)]
    rfl

theorem nameLen_drop (l : List UInt8) (i : Nat) : Tm.nameLen (l.drop i) 0 = Tm.nameLen l i := by
  simp only [Tm.nameLen, List.getElem?_drop, Nat.add_zero]
  rw [digs_drop]

end Go.Proofs.Ytmkmladlpgfniab

namespace Go.Proofs.Ytmkmladlpgfniab
open Go.RowKit

set_option maxHeartbeats 400000
set_option maxRecDepth 100000

theorem TV.grown {w w' : World} {b : Nat} {t : Tm} {v : Value} (h : TV w (b + 1) t v) (hg : w.grownBy w' (some b)) : TV w' (b + 1) t v :=
  h.same fun k hk hl => hg.block k hl (fun e => by injection e with e; omega)

theorem size_le_text (t : Tm) (h : t.good = true) : t.size ≤ t.text.length := by
  induction t with
  | nm n => simp only [Tm.good] at h; cases n with
    | nil => simp [Tm.nameOk] at h
    | cons c ds => simp [Tm.size, Tm.text]
  | app f a ihf iha => simp only [Tm.good, Bool.and_eq_true] at h; have := ihf h.1; have := iha h.2; simp [Tm.size, Tm.text]; omega
  | _ => simp [Tm.size, Tm.text]

theorem reads_size {l : List UInt8} {d i j : Nat} {t : Tm} (h : Tm.Reads l d i t j) : t.size ≤ l.length ∧ j ≤ l.length := by
  obtain ⟨h1, h2, h3, h4, h5⟩ := h
  have := size_le_text t h4
  have e := congrArg List.length h1
  simp at e
  omega

def ParsePost (w : World) (B : Nat) (l : List UInt8) (e : Ending) (w' : World) : Prop :=
  ∃ v, e = .returned (.tuple #[v, .bool (Tm.parse l).isSome]) ∧ Below w.heap.size w w' ∧ ∀ t, Tm.parse l = some t → TV w' B t v

theorem ParsePost.no {w w' : World} {B : Nat} {l : List UInt8} (hr : Tm.parse l = none) (hg : Below w.heap.size w w') (v : Value) : ParsePost w B l (.returned (.tuple #[v, .bool false])) w' :=
  ⟨v, by rw [hr]; rfl, hg, fun t he => by rw [hr] at he; simp at he⟩

theorem below_grown {w w' : World} {o : Obj} (hg : (w.alloc o).grownBy w' (some w.heap.size)) : Below w.heap.size w w' :=
  ((Below.refl _ _).alloc (Nat.le_refl _) o).grown hg (by simp) (fun k hk => by injection hk with hk; omega)

theorem below_drews {n : Nat} {a b : World} (h : Below n a b) (m : Nat) : Below n a (b.drewN m) := ⟨h.os, h.tape, h.output, h.size, h.block⟩

end Go.Proofs.Ytmkmladlpgfniab

namespace Go.Proofs.Ytmkmladlpgfniab
open Go.RowKit

set_option maxHeartbeats 1000000
set_option maxRecDepth 100000

namespace Tm
def behind (F : List UInt8) : Tm → Option Tm
  | app f a => if text f = F then some a else none
  | _ => none
def parts : Tm → Option (Tm × Tm)
  | app x y => match behind [107] y with
    | none => none
    | some n => match behind [115] x with
      | none => none
      | some left => match behind [40, 115, 32, 40, 40, 115, 32, 107, 41, 32, 107, 41, 41] left with
        | none => none
        | some front => match behind [107] front with
          | none => none
          | some m => some (m, n)
  | _ => none
theorem behind_good {F : List UInt8} {t a : Tm} (h : behind F t = some a) (hg : good t = true) : good a = true ∧ a.size < t.size := by
  cases t with
  | app f b =>
    simp only [behind] at h
    split at h
    · obtain rfl := Option.some.inj h
      simp only [good, Bool.and_eq_true] at hg
      exact ⟨hg.2, by simp only [size]; have := size_pos f; omega⟩
    · simp at h
  | _ => simp [behind] at h
end Tm

def BehindPost (w : World) (B : Nat) (r : Option Tm) (e : Ending) (w' : World) : Prop :=
  ∃ v, e = .returned (.tuple #[v, .bool r.isSome]) ∧ Below w.heap.size w w' ∧ ∀ a, r = some a → TV w' B a v

theorem assert_app (W : World) (x : Value) : (Instr.typeAssert (.iface 129 x) 39 129 true).run Try.prog W = .ok (.tuple #[x, .bool true]) W := by kernel_rfl
theorem assert_k (W : World) (x : Value) : (Instr.typeAssert (.iface 121 x) 39 129 true).run Try.prog W = .ok (.tuple #[.pointer none, .bool false]) W := by kernel_rfl
theorem assert_s (W : World) (x : Value) : (Instr.typeAssert (.iface 118 x) 39 129 true).run Try.prog W = .ok (.tuple #[.pointer none, .bool false]) W := by kernel_rfl
theorem assert_n (W : World) (x : Value) : (Instr.typeAssert (.iface 84 x) 39 129 true).run Try.prog W = .ok (.tuple #[.pointer none, .bool false]) W := by kernel_rfl

def PartsPost (w : World) (B : Nat) (r : Option (Tm × Tm)) (e : Ending) (w' : World) : Prop :=
  ∃ v1 v2, e = .returned (.tuple #[v1, v2, .bool r.isSome]) ∧ Below w.heap.size w w' ∧ ∀ m n, r = some (m, n) → TV w' B m v1 ∧ TV w' B n v2

/-- What PairParts answers. -/
def pParts (l : List UInt8) : Option (List UInt8 × List UInt8) := match Tm.parse l with
  | some t => t.parts.map fun p => (p.1.text, p.2.text)
  | none => none

def TwoRes (w : World) (r : Option (List UInt8 × List UInt8)) (e : Ending) (w' : World) : Prop :=
  e = .returned (.tuple #[str ((r.map Prod.fst).getD []), str ((r.map Prod.snd).getD []), .bool r.isSome]) ∧ Below w.heap.size w w'

theorem parts_good {t m n : Tm} (h : t.parts = some (m, n)) (hg : t.good = true) : m.good = true ∧ n.good = true ∧ m.size < t.size ∧ n.size < t.size := by
  cases t with
  | app x y =>
    simp only [Tm.good, Bool.and_eq_true] at hg
    simp only [Tm.parts] at h
    split at h
    · simp at h
    · rename_i n' e1
      split at h
      · simp at h
      · rename_i left e2
        split at h
        · simp at h
        · rename_i front e3
          split at h
          · simp at h
          · rename_i m' e4
            simp only [Option.some.injEq, Prod.mk.injEq] at h
            obtain ⟨rfl, rfl⟩ := h
            have g1 := Tm.behind_good e1 hg.2
            have g2 := Tm.behind_good e2 hg.1
            have g3 := Tm.behind_good e3 g2.1
            have g4 := Tm.behind_good e4 g3.1
            simp only [Tm.size]
            exact ⟨g4.1, g1.1, by omega, by omega⟩
  | _ => simp [Tm.parts] at h

end Go.Proofs.Ytmkmladlpgfniab

namespace Go.Proofs.Ytmkmladlpgfniab
open Go.RowKit

set_option maxHeartbeats 2000000
set_option maxRecDepth 100000

def Bd.comb (f a : Tm) : Bd → Bd → Bd
  | .without _, .without _ => .without (.app f a)
  | .without _, .itself => .atEnd f
  | b1, b2 => .inside b1 b2
def Bd.of (x : List UInt8) : Tm → Bd
  | .nm n => if n = x then .itself else .without (.nm n)
  | .app f a => Bd.comb f a (Bd.of x f) (Bd.of x a)
  | t => .without t

def BodyPost (w : World) (B : Nat) (b : Bd) (e : Ending) (w' : World) : Prop := ∃ v, e = .returned v ∧ Below w.heap.size w w' ∧ BV w' B b v

theorem BV.form {w : World} {B : Nat} {b : Bd} {v : Value} (h : BV w B b v) : ∃ T x, v = .iface T x := by
  cases b with
  | itself => exact ⟨_, _, h⟩
  | without t => obtain ⟨x, rfl, _⟩ := h; exact ⟨_, _, rfl⟩
  | atEnd t => obtain ⟨x, rfl, _⟩ := h; exact ⟨_, _, rfl⟩
  | inside f a => obtain ⟨x, y, rfl, _⟩ := h; exact ⟨_, _, rfl⟩

theorem assert_nm_n (W : World) (x : Value) : (Instr.typeAssert (.iface 84 x) 39 84 true).run Try.prog W = .ok (.tuple #[x, .bool true]) W := by kernel_rfl
theorem assert_nm_k (W : World) (x : Value) : (Instr.typeAssert (.iface 121 x) 39 84 true).run Try.prog W = .ok (.tuple #[.pointer none, .bool false]) W := by kernel_rfl
theorem assert_nm_s (W : World) (x : Value) : (Instr.typeAssert (.iface 118 x) 39 84 true).run Try.prog W = .ok (.tuple #[.pointer none, .bool false]) W := by kernel_rfl
theorem assert_nm_a (W : World) (x : Value) : (Instr.typeAssert (.iface 129 x) 39 84 true).run Try.prog W = .ok (.tuple #[.pointer none, .bool false]) W := by kernel_rfl
theorem assert_wo_w (W : World) (x : Value) : (Instr.typeAssert (.iface 125 (.agg #[x])) 116 125 true).run Try.prog W = .ok (.tuple #[.agg #[x], .bool true]) W := by kernel_rfl
theorem assert_wo_i (W : World) (x : Value) : (Instr.typeAssert (.iface 123 x) 116 125 true).run Try.prog W = .ok (.tuple #[.agg #[.nilIface], .bool false]) W := by kernel_rfl
theorem assert_wo_e (W : World) (x : Value) : (Instr.typeAssert (.iface 135 x) 116 125 true).run Try.prog W = .ok (.tuple #[.agg #[.nilIface], .bool false]) W := by kernel_rfl
theorem assert_wo_s (W : World) (x : Value) : (Instr.typeAssert (.iface 127 x) 116 125 true).run Try.prog W = .ok (.tuple #[.agg #[.nilIface], .bool false]) W := by kernel_rfl
theorem assert_it_i (W : World) : (Instr.typeAssert (.iface 123 (.agg #[])) 116 123 true).run Try.prog W = .ok (.tuple #[.agg #[], .bool true]) W := by kernel_rfl
theorem assert_it_e (W : World) (x : Value) : (Instr.typeAssert (.iface 135 x) 116 123 true).run Try.prog W = .ok (.tuple #[.agg #[], .bool false]) W := by kernel_rfl
theorem assert_it_s (W : World) (x : Value) : (Instr.typeAssert (.iface 127 x) 116 123 true).run Try.prog W = .ok (.tuple #[.agg #[], .bool false]) W := by kernel_rfl

theorem body_leaf (w : World) (B : Nat) (x : List UInt8) (T : TypeId) (b : Nat) (t : Tm) (hT : T = 121 ∨ T = 118) (h : TV w B t (.iface T (.pointer (some ⟨b, 0, none⟩)))) :
    Calls Try.prog 78 #[.iface T (.pointer (some ⟨b, 0, none⟩)), str x] w (BodyPost w B (.without t)) := by
  have HT := Lib.hid h
  clear h
  have ha1 := assert_k w (.pointer (some ⟨b, 0, none⟩))
  have ha2 := assert_s w (.pointer (some ⟨b, 0, none⟩))
  have ha3 := assert_nm_k w (.pointer (some ⟨b, 0, none⟩))
  have ha4 := assert_nm_s w (.pointer (some ⟨b, 0, none⟩))
  rcases hT with rfl | rfl
  all_goals
    go_enter Try.func78, Try.ntmps78
    go_wp2_with fail
    go_ret
    exact ⟨_, rfl, Below.refl _ _, _, rfl, HT.out⟩

theorem body_name (w : World) (B : Nat) (x n : List UInt8) (b : Nat) (h : TV w B (.nm n) (.iface 84 (.pointer (some ⟨b, 0, none⟩)))) :
    Calls Try.prog 78 #[.iface 84 (.pointer (some ⟨b, 0, none⟩)), str x] w (BodyPost w B (Bd.of x (.nm n))) := by
  have HT := Lib.hid h
  obtain ⟨b', fr, hv, hb, hh⟩ := h
  injection hv with _ hv
  injection hv with hv
  injection hv with hv
  injection hv with hv _ _
  subst hv
  have c0 : w.cell? ⟨b, 0, none⟩ = some (str n) := cell_of_heap hh
  have ha1 := assert_nm_n w (.pointer (some ⟨b, 0, none⟩))
  have ha2 := assert_n w (.pointer (some ⟨b, 0, none⟩))
  clear hh
  by_cases hn : n = x
  · subst hn
    rw [show Bd.of n (.nm n) = .itself by simp [Bd.of]]
    go_enter Try.func78, Try.ntmps78
    go_wp2_with fail
    go_ret
    exact ⟨_, rfl, Below.refl _ _, rfl⟩
  · have hne : (n == x) = false := beq_eq_false_iff_ne.2 hn
    rw [show Bd.of x (.nm n) = .without (.nm n) by simp [Bd.of, hn]]
    clear hn
    go_enter Try.func78, Try.ntmps78
    go_wp2_with fail
    go_ret
    exact ⟨_, rfl, Below.refl _ _, _, rfl, HT.out⟩

/-- What is known when the parts of an application are looked at. -/
theorem body_parts (W : World) (B b : Nat) (x : List UInt8) (f a : Tm) (b1 b2 : Bd) (T1 T2 : TypeId) (x1 x2 : Value) (hT : TV W B (.app f a) (.iface 129 (.pointer (some ⟨b, 0, none⟩)))) (hTf : TV W B f (.iface T1 x1))
    (h0 : ∀ W', Below W.heap.size W W' → W'.cell? ⟨b, 0, none⟩ = some (.iface T1 x1)) (h1 : ∀ W', Below W.heap.size W W' → W'.cell? ⟨b, 1, none⟩ = some (.iface T2 x2))
    (hf : ∀ W', Below W.heap.size W W' → Calls Try.prog 78 #[.iface T1 x1, str x] W' (BodyPost W' B b1))
    (ha : ∀ W', Below W.heap.size W W' → Calls Try.prog 78 #[.iface T2 x2, str x] W' (BodyPost W' B b2)) :
    Calls Try.prog 81 #[.pointer (some ⟨b, 0, none⟩), str x] W (BodyPost W B (Bd.comb f a b1 b2)) := by
  have hself := Below.refl W.heap.size W
  have HT := Lib.hid hT
  have HTF := Lib.hid hTf
  clear hT hTf
  unfold BodyPost at hf ha
  cases b1 with
  | itself =>
    rw [show Bd.comb f a .itself b2 = .inside .itself b2 by cases b2 <;> rfl]
    go_enter Try.func81, Try.ntmps81
    go_wp2_with fail
    go_region_held3 (fun W' => Below W.heap.size W W') (first | assumption | exact hself.drew | go_keep)
      (first
        | (go_at_call_of 78 x1; refine (hf _ (by first | assumption | exact hself.drew)).mono ?_; rintro e w1 ⟨r1, rfl, hb1, hv1⟩; (obtain rfl : r1 = .iface 123 (.agg #[]) := hv1); have hb1' := below_trans (by first | assumption | exact hself.drew) hb1)
        | (go_at_call_of 78 x2; refine (ha _ (by assumption)).mono ?_; rintro e w2 ⟨r2, rfl, hb2, hv2⟩; obtain ⟨T4, x4, rfl⟩ := hv2.form; have HV2 := Lib.hid hv2; clear hv2; have hb2' := below_trans (by assumption) hb2))
    all_goals
      have has := fun W' => assert_wo_i W' (.agg #[])
      go_wp2_with fail
      go_ret
      exact ⟨_, rfl, (hb2'.alloc hb2'.size _), _, _, rfl, rfl, HV2.out.below (below_new _ _)⟩
  | atEnd t =>
    rw [show Bd.comb f a (.atEnd t) b2 = .inside (.atEnd t) b2 by cases b2 <;> rfl]
    go_enter Try.func81, Try.ntmps81
    go_wp2_with fail
    go_region_held3 (fun W' => Below W.heap.size W W') (first | assumption | exact hself.drew | go_keep)
      (first
        | (go_at_call_of 78 x1; refine (hf _ (by first | assumption | exact hself.drew)).mono ?_; rintro e w1 ⟨r1, rfl, hb1, hv1⟩; obtain ⟨y1, rfl, hy1⟩ := hv1; have HY1 := Lib.hid hy1; clear hy1; have hb1' := below_trans (by first | assumption | exact hself.drew) hb1)
        | (go_at_call_of 78 x2; refine (ha _ (by assumption)).mono ?_; rintro e w2 ⟨r2, rfl, hb2, hv2⟩; obtain ⟨T4, x4, rfl⟩ := hv2.form; have HV2 := Lib.hid hv2; clear hv2; have hb2' := below_trans (by assumption) hb2))
    all_goals
      have has := fun W' => assert_wo_e W' (.agg #[y1])
      go_wp2_with fail
      go_ret
      exact ⟨_, rfl, (hb2'.alloc hb2'.size _), _, _, rfl, ⟨_, rfl, HY1.out.below (below_trans hb2 (below_new _ _))⟩, HV2.out.below (below_new _ _)⟩
  | inside c d =>
    rw [show Bd.comb f a (.inside c d) b2 = .inside (.inside c d) b2 by cases b2 <;> rfl]
    go_enter Try.func81, Try.ntmps81
    go_wp2_with fail
    go_region_held3 (fun W' => Below W.heap.size W W') (first | assumption | exact hself.drew | go_keep)
      (first
        | (go_at_call_of 78 x1; refine (hf _ (by first | assumption | exact hself.drew)).mono ?_; rintro e w1 ⟨r1, rfl, hb1, hv1⟩; obtain ⟨y1, z1, rfl, hy1, hz1⟩ := hv1; have HY1 := Lib.hid hy1; have HZ1 := Lib.hid hz1; clear hy1 hz1; have hb1' := below_trans (by first | assumption | exact hself.drew) hb1)
        | (go_at_call_of 78 x2; refine (ha _ (by assumption)).mono ?_; rintro e w2 ⟨r2, rfl, hb2, hv2⟩; obtain ⟨T4, x4, rfl⟩ := hv2.form; have HV2 := Lib.hid hv2; clear hv2; have hb2' := below_trans (by assumption) hb2))
    all_goals
      have has := fun W' => assert_wo_s W' (.agg #[y1, z1])
      go_wp2_with fail
      go_ret
      exact ⟨_, rfl, (hb2'.alloc hb2'.size _), _, _, rfl, ⟨_, _, rfl, HY1.out.below (below_trans hb2 (below_new _ _)), HZ1.out.below (below_trans hb2 (below_new _ _))⟩, HV2.out.below (below_new _ _)⟩
  | without t =>
    cases b2 with
    | itself =>
      rw [show Bd.comb f a (.without t) .itself = .atEnd f from rfl]
      go_enter Try.func81, Try.ntmps81
      go_wp2_with fail
      go_region_held3 (fun W' => Below W.heap.size W W') (first | assumption | exact hself.drew | go_keep)
        (first
          | (go_at_call_of 78 x1; refine (hf _ (by first | assumption | exact hself.drew)).mono ?_; rintro e w1 ⟨r1, rfl, hb1, hv1⟩; obtain ⟨y1, rfl, hy1⟩ := hv1; obtain ⟨S1, z1, rfl, _⟩ := hy1.asks; clear hy1; have hb1' := below_trans (by first | assumption | exact hself.drew) hb1)
          | (go_at_call_of 78 x2; refine (ha _ (by assumption)).mono ?_; rintro e w2 ⟨r2, rfl, hb2, hv2⟩; (obtain rfl : r2 = .iface 123 (.agg #[]) := hv2); have hb2' := below_trans (by assumption) hb2))
      all_goals
        have has := fun W' => assert_wo_w W' (.iface S1 z1)
        have has2 := fun W' => assert_wo_i W' (.agg #[])
        have has3 := assert_it_i
        have h0' := h0 _ (hb2'.alloc hb2'.size (.cells #[.iface S1 z1] 125))
        go_wp2_with fail
        go_ret
        exact ⟨_, rfl, (hb2'.alloc hb2'.size _), _, rfl, HTF.out.below (hb2'.alloc hb2'.size _)⟩
    | atEnd u =>
      rw [show Bd.comb f a (.without t) (.atEnd u) = .inside (.without t) (.atEnd u) from rfl]
      go_enter Try.func81, Try.ntmps81
      go_wp2_with fail
      go_region_held3 (fun W' => Below W.heap.size W W') (first | assumption | exact hself.drew | go_keep)
        (first
          | (go_at_call_of 78 x1; refine (hf _ (by first | assumption | exact hself.drew)).mono ?_; rintro e w1 ⟨r1, rfl, hb1, hv1⟩; obtain ⟨y1, rfl, hy1⟩ := hv1; obtain ⟨S1, z1, rfl, _⟩ := hy1.asks; have HY1 := Lib.hid hy1; clear hy1; have hb1' := below_trans (by first | assumption | exact hself.drew) hb1)
          | (go_at_call_of 78 x2; refine (ha _ (by assumption)).mono ?_; rintro e w2 ⟨r2, rfl, hb2, hv2⟩; obtain ⟨y2, rfl, hy2⟩ := hv2; have HY2 := Lib.hid hy2; clear hy2; have hb2' := below_trans (by assumption) hb2))
      all_goals
        have has := fun W' => assert_wo_w W' (.iface S1 z1)
        have has2 := fun W' => assert_wo_e W' (.agg #[y2])
        have has3 := fun W' => assert_it_e W' (.agg #[y2])
        go_wp2_with fail
        go_ret
        exact ⟨_, rfl, (hb2'.alloc hb2'.size _), _, _, rfl, ⟨_, rfl, HY1.out.below (below_trans hb2 (below_new _ _))⟩, ⟨_, rfl, HY2.out.below (below_new _ _)⟩⟩
    | inside c d =>
      rw [show Bd.comb f a (.without t) (.inside c d) = .inside (.without t) (.inside c d) from rfl]
      go_enter Try.func81, Try.ntmps81
      go_wp2_with fail
      go_region_held3 (fun W' => Below W.heap.size W W') (first | assumption | exact hself.drew | go_keep)
        (first
          | (go_at_call_of 78 x1; refine (hf _ (by first | assumption | exact hself.drew)).mono ?_; rintro e w1 ⟨r1, rfl, hb1, hv1⟩; obtain ⟨y1, rfl, hy1⟩ := hv1; obtain ⟨S1, z1, rfl, _⟩ := hy1.asks; have HY1 := Lib.hid hy1; clear hy1; have hb1' := below_trans (by first | assumption | exact hself.drew) hb1)
          | (go_at_call_of 78 x2; refine (ha _ (by assumption)).mono ?_; rintro e w2 ⟨r2, rfl, hb2, hv2⟩; obtain ⟨y2, z2, rfl, hy2, hz2⟩ := hv2; have HY2 := Lib.hid hy2; have HZ2 := Lib.hid hz2; clear hy2 hz2; have hb2' := below_trans (by assumption) hb2))
      all_goals
        have has := fun W' => assert_wo_w W' (.iface S1 z1)
        have has2 := fun W' => assert_wo_s W' (.agg #[y2, z2])
        have has3 := fun W' => assert_it_s W' (.agg #[y2, z2])
        go_wp2_with fail
        go_ret
        exact ⟨_, rfl, (hb2'.alloc hb2'.size _), _, _, rfl, ⟨_, rfl, HY1.out.below (below_trans hb2 (below_new _ _))⟩, ⟨_, _, rfl, HY2.out.below (below_new _ _), HZ2.out.below (below_new _ _)⟩⟩
    | without u =>
      rw [show Bd.comb f a (.without t) (.without u) = .without (.app f a) from rfl]
      go_enter Try.func81, Try.ntmps81
      go_wp2_with fail
      go_region_held3 (fun W' => Below W.heap.size W W') (first | assumption | exact hself.drew | go_keep)
        (first
          | (go_at_call_of 78 x1; refine (hf _ (by first | assumption | exact hself.drew)).mono ?_; rintro e w1 ⟨r1, rfl, hb1, hv1⟩; obtain ⟨y1, rfl, hy1⟩ := hv1; obtain ⟨S1, z1, rfl, _⟩ := hy1.asks; clear hy1; have hb1' := below_trans (by first | assumption | exact hself.drew) hb1)
          | (go_at_call_of 78 x2; refine (ha _ (by assumption)).mono ?_; rintro e w2 ⟨r2, rfl, hb2, hv2⟩; obtain ⟨y2, rfl, hy2⟩ := hv2; obtain ⟨S2, z2, rfl, _⟩ := hy2.asks; clear hy2; have hb2' := below_trans (by assumption) hb2))
      all_goals
        have has := fun W' => assert_wo_w W' (.iface S1 z1)
        have has2 := fun W' => assert_wo_w W' (.iface S2 z2)
        go_wp2_with fail
        go_ret
        exact ⟨_, rfl, (hb2'.alloc hb2'.size _), _, rfl, HT.out.below (hb2'.alloc hb2'.size _)⟩
end Go.Proofs.Ytmkmladlpgfniab

namespace Go.Proofs.Ytmkmladlpgfniab
open Go.RowKit

set_option maxHeartbeats 400000
set_option maxRecDepth 100000

theorem cat (a b : ByteArray) (h : a.size + b.size ≤ 1000000000000) : ∃ c : ByteArray, c.data.toList = a.data.toList ++ b.data.toList ∧ c.size = a.size + b.size ∧ ∀ W, (Op.stringOp .add a b).run Try.prog W = .ok (.string c) W :=
  ⟨a ++ b, by simp, by simp, fun W => run_string_add_sum W a b (by omega)⟩

end Go.Proofs.Ytmkmladlpgfniab

namespace Go.Proofs.Ytmkmladlpgfniab
open Go.RowKit

set_option maxHeartbeats 400000
set_option maxRecDepth 100000

theorem in_any (w : World) (n lo hi : Int) : Calls Try.prog 21 #[.int .i64 n, .int .i64 lo, .int .i64 hi] w fun e w' => e = .returned (.bool (decide (lo ≤ n ∧ n ≤ hi))) ∧ w = w' := by
  by_cases h1 : lo ≤ n
  · by_cases h2 : n ≤ hi
    · rw [show decide (lo ≤ n ∧ n ≤ hi) = true by simp [h1, h2]]
      go_enter Try.func21, Try.ntmps21
      go_wp2_with fail
      go_ret
      exact ⟨by simp, rfl⟩
    · rw [show decide (lo ≤ n ∧ n ≤ hi) = false by simp [h2]]
      go_enter Try.func21, Try.ntmps21
      go_wp2_with fail
      go_ret
      exact ⟨by simp, rfl⟩
  · rw [show decide (lo ≤ n ∧ n ≤ hi) = false by simp [h1]]
    go_enter Try.func21, Try.ntmps21
    go_wp2_with fail
    go_ret
    exact ⟨by simp, rfl⟩

theorem atomEnd_mid (l : List UInt8) (k : Nat) (h : k < l.length) (hm : Tm.mid l[k] = true) : Tm.atomEnd l k = Tm.atomEnd l (k + 1) := by
  unfold Tm.atomEnd
  rw [List.drop_eq_getElem_cons h, List.takeWhile_cons]
  unfold Tm.mid at hm
  rw [hm]
  simp
  omega

theorem atomEnd_stop (l : List UInt8) (k : Nat) (h : k < l.length → Tm.mid (l.getD k 0) = false) : Tm.atomEnd l k = k := by
  unfold Tm.atomEnd
  by_cases hk : k < l.length
  · have hm := h hk
    rw [List.getD_eq_getElem?_getD, List.getElem?_eq_getElem hk] at hm
    rw [List.drop_eq_getElem_cons hk, List.takeWhile_cons]
    unfold Tm.mid at hm
    simp only [Option.getD_some] at hm
    rw [hm]
    simp
  · rw [List.drop_eq_nil_of_le (by omega)]
    simp

theorem byte_ne_lit (x : UInt8) (n : Nat) (h : n < 256) : ((x.toNat : Int) != (n : Int)) = (x != UInt8.ofNat n) := by
  have := byte_ne x (UInt8.ofNat n)
  rw [UInt8.toNat_ofNat_of_lt' (by simpa using h)] at this
  exact this

theorem s_atom (w : World) (l : List UInt8) (i : Nat) (hl : l.length ≤ 1000000000) (hi : i ≤ l.length) :
    Calls Try.prog 29 #[str l, .int .i64 i] w fun e w' => e = .returned (.int .i64 (Tm.atomEnd l i : Nat)) ∧ w = w' := by
  have hsz : (⟨l.toArray⟩ : ByteArray).size = l.length := by show l.toArray.size = _; simp
  go_enter Try.func29, Try.ntmps29
  go_wp2_with fail
  go_loop [1] (fun n => ∃ k : Nat, i ≤ k ∧ k ≤ l.length ∧ n = .int .i64 k ∧ Hid (Tm.atomEnd l i = Tm.atomEnd l k)) (fun n => l.length - (intOf n).toNat)
  case atStart => exact ⟨i, Nat.le_refl _, hi, rfl, rfl⟩
  case round =>
    obtain ⟨k, hk1, hkl, rfl, hk⟩ := hrel
    by_cases hlt : k < l.length
    · have hatk := byte_at l k hlt (by rw [hsz]; exact hlt)
      have n1 : ((l[k].toNat : Int) != 32) = (l[k] != (32 : UInt8)) := byte_ne_lit l[k] 32 (by omega)
      have n2 : ((l[k].toNat : Int) != 40) = (l[k] != (40 : UInt8)) := byte_ne_lit l[k] 40 (by omega)
      have n3 : ((l[k].toNat : Int) != 41) = (l[k] != (41 : UInt8)) := byte_ne_lit l[k] 41 (by omega)
      rw [← hatk] at n1 n2 n3
      by_cases hm : Tm.mid l[k] = true
      · have HS : Hid (Tm.atomEnd l i = Tm.atomEnd l (k + 1)) := by show _ = _; rw [hk.out, atomEnd_mid l k hlt hm]
        rw [← hatk] at hm
        simp only [Tm.mid, Bool.and_eq_true] at hm
        rw [hm.1.1] at n1
        rw [hm.1.2] at n2
        rw [hm.2] at n3
        clear hm hatk hk
        go_wp2_with fail
        go_round
        case rel => exact ⟨k + 1, by omega, by omega, by go_num, HS⟩
        case measure => simp [intOf]; omega
      · have HS : Hid (Tm.atomEnd l i = k) := by
          show _ = _
          rw [hk.out]
          exact atomEnd_stop l k (fun h => by rw [List.getD_eq_getElem?_getD, List.getElem?_eq_getElem h]; simpa using hm)
        rw [← hatk] at hm
        simp only [Tm.mid, Bool.and_eq_true, not_and, Bool.not_eq_true] at hm
        clear hatk hk
        cases m1 : ((((⟨l.toArray⟩ : ByteArray)[k]'(by rw [hsz]; exact hlt))) != (32 : UInt8)) with
        | false =>
          rw [m1] at n1
          clear m1 hm n2 n3
          go_wp2_with fail
          go_ret
          exact ⟨by rw [HS.out]; rfl, rfl⟩
        | true =>
          rw [m1] at n1
          cases m2 : ((((⟨l.toArray⟩ : ByteArray)[k]'(by rw [hsz]; exact hlt))) != (40 : UInt8)) with
          | false =>
            rw [m2] at n2
            clear m1 m2 hm n3
            go_wp2_with fail
            go_ret
            exact ⟨by rw [HS.out]; rfl, rfl⟩
          | true =>
            have m3 := hm ⟨m1, m2⟩
            rw [m2] at n2
            rw [m3] at n3
            clear m1 m2 m3 hm
            go_wp2_with fail
            go_ret
            exact ⟨by rw [HS.out]; rfl, rfl⟩
    · have HS : Hid (Tm.atomEnd l i = k) := by
        show _ = _
        rw [hk.out]
        exact atomEnd_stop l k (fun h => absurd h hlt)
      clear hk
      go_wp2_with fail
      go_ret
      exact ⟨by rw [HS.out]; rfl, rfl⟩
end Go.Proofs.Ytmkmladlpgfniab

namespace Go.Proofs.Ytmkmladlpgfniab
open Go.RowKit

set_option maxHeartbeats 400000
set_option maxRecDepth 100000

def place : Option (Tm × Nat) → Int
  | some (_, j) => (j : Nat)
  | none => -1

theorem box2 {w W : World} {x y : Value} {T : TypeId} (h : After (w.alloc (.cells #[x, y] T)) W) :
    W.cell? ⟨w.heap.size, 0, none⟩ = some x ∧ W.cell? ⟨w.heap.size, 1, none⟩ = some y ∧ W.frozen? ⟨w.heap.size, 0, none⟩ = false ∧ W.frozen? ⟨w.heap.size, 1, none⟩ = false ∧ w.heap.size < W.heap.size := by
  have hh := h.heap (heap_new' w (.cells #[x, y] T))
  refine ⟨cell_of_heap hh, cell_of_heap hh, by simp [World.frozen?, hh], by simp [World.frozen?, hh], (Array.getElem?_eq_some_iff.1 hh).1⟩

theorem byte_ne_lit' (x : UInt8) (n : Int) (c : UInt8) (hn : n = (c.toNat : Nat)) (_h : c = c) : ((x.toNat : Int) != n) = (x != c) := by
  subst hn; exact byte_ne x c

theorem After.set {w W : World} {o : Obj} (h : After (w.alloc o) W) (i : Nat) (v : Value) : After w (W.setCell ⟨w.heap.size, i, none⟩ v) :=
  Below.setCell ((After.new w o).trans h) (Nat.le_refl _) v

theorem After.set2 {w W : World} {o : Obj} (h : After (w.alloc o) W) {i j : Nat} {v u : Value} : After w ((W.setCell ⟨w.heap.size, i, none⟩ v).setCell ⟨w.heap.size, j, none⟩ u) :=
  Below.setCell (h.set i v) (Nat.le_refl _) u

theorem heap_new2 (W : World) (n : Nat) (o p : Obj) (h : W.heap.size = n) : ((W.alloc o).alloc p).heap[n + 1]? = some p := by
  have := heap_new' (W.alloc o) p
  rw [show (W.alloc o).heap.size = n + 1 by simp [h]] at this
  exact this

end Go.Proofs.Ytmkmladlpgfniab

namespace Go.Proofs.Ytmkmladlpgfniab
open Go.RowKit

set_option maxHeartbeats 4000000
set_option maxRecDepth 100000

/-- W is X but for new blocks and block r. -/
def ButFor (X : World) (r : Nat) (W : World) : Prop := X.heap.size ≤ W.heap.size ∧ ∀ k, k < X.heap.size → k ≠ r → W.heap[k]? = X.heap[k]?

theorem ButFor.cell {X W : World} {r b i : Nat} {v : Value} (h : ButFor X r W) (hr : b ≠ r) (hc : X.cell? ⟨b, i, none⟩ = some v) : W.cell? ⟨b, i, none⟩ = some v := by
  rw [World.cell?_of_block (w := X) (a := ⟨b, i, none⟩) (h.2 b (World.block_lt_of_cell? _ _ hc) hr)]; exact hc
theorem ButFor.alloc {X W : World} {r : Nat} (h : ButFor X r W) (o : Obj) : ButFor X r (W.alloc o) := ⟨by simp; have := h.1; omega, fun k hk hr => by rw [Below.heap_alloc _ _ _ (Nat.lt_of_lt_of_le hk h.1)]; exact h.2 k hk hr⟩
theorem ButFor.after {X W W' : World} {r : Nat} (h : ButFor X r W) (g : After W W') : ButFor X r W' := ⟨Nat.le_trans h.1 g.size, fun k hk hr => by rw [g.block k (Nat.lt_of_lt_of_le hk h.1)]; exact h.2 k hk hr⟩
theorem ButFor.set {X W : World} {r : Nat} (h : ButFor X r W) (i : Nat) (v : Value) : ButFor X r (W.setCell ⟨r, i, none⟩ v) := ⟨by simp [World.setCell]; exact h.1, fun k hk hr => by rw [Below.heap_setCell _ _ _ _ (by simpa using hr)]; exact h.2 k hk hr⟩

theorem After.butFor {X W : World} {r : Nat} (h : After X W) : ButFor X r W := ⟨h.size, fun k hk _ => h.block k hk⟩
theorem heap_old2 (W : World) (o p : Obj) : ((W.alloc o).alloc p).heap[W.heap.size]? = some o := by
  rw [Below.heap_alloc _ _ _ (by simp)]; exact heap_new' W o

theorem heap_new3 (w : World) (a b c : Obj) : (((w.alloc a).alloc b).alloc c).heap[w.heap.size + 1 + 1]? = some c := heap_new2 (w.alloc a) (w.heap.size + 1) b c (by simp)
theorem heap_new4 (w : World) (a b c d : Obj) : ((((w.alloc a).alloc b).alloc c).alloc d).heap[w.heap.size + 1 + 1 + 1]? = some d := heap_new2 ((w.alloc a).alloc b) (w.heap.size + 1 + 1) c d (by simp)

section
variable (w : World) (g1 q1 g2 q2 : Nat) (y1 x2 y2 : List UInt8) (b1 a2 b2 : Option Addr) (m1 d1 n2 m2 c2 d2 : Nat)
  (k0 : w.cell? ⟨g1, 0, none⟩ = some (str [])) (k1 : w.cell? ⟨g1, 1, none⟩ = some (.slice (some ⟨g2, 0, none⟩) 2 q2)) (k2 : w.cell? ⟨g1, 2, none⟩ = some (str y1)) (k3 : w.cell? ⟨g1, 3, none⟩ = some (.slice b1 m1 d1)) (hlt : g1 < w.heap.size)
  (j0 : w.cell? ⟨g2, 0, none⟩ = some (str x2)) (j1 : w.cell? ⟨g2, 1, none⟩ = some (.slice a2 n2 c2)) (j2 : w.cell? ⟨g2, 2, none⟩ = some (str y2)) (j3 : w.cell? ⟨g2, 3, none⟩ = some (.slice b2 m2 d2)) (hlt2 : g2 < w.heap.size)
include k0 k1 k2 k3 hlt j0 j1 j2 j3 hlt2
end

section
variable (w : World) (g1 q1 g2 q2 g3 q3 : Nat) (y1 y2 x3 y3 : List UInt8) (b1 b2 a3 b3 : Option Addr) (m1 d1 m2 d2 n3 c3 m3 d3 : Nat)
  (k0 : w.cell? ⟨g1, 0, none⟩ = some (str [])) (k1 : w.cell? ⟨g1, 1, none⟩ = some (.slice (some ⟨g2, 0, none⟩) 2 q2)) (k2 : w.cell? ⟨g1, 2, none⟩ = some (str y1)) (k3 : w.cell? ⟨g1, 3, none⟩ = some (.slice b1 m1 d1)) (hlt : g1 < w.heap.size)
  (j0 : w.cell? ⟨g2, 0, none⟩ = some (str [])) (j1 : w.cell? ⟨g2, 1, none⟩ = some (.slice (some ⟨g3, 0, none⟩) 2 q3)) (j2 : w.cell? ⟨g2, 2, none⟩ = some (str y2)) (j3 : w.cell? ⟨g2, 3, none⟩ = some (.slice b2 m2 d2)) (hlt2 : g2 < w.heap.size)
  (i0 : w.cell? ⟨g3, 0, none⟩ = some (str x3)) (i1 : w.cell? ⟨g3, 1, none⟩ = some (.slice a3 n3 c3)) (i2 : w.cell? ⟨g3, 2, none⟩ = some (str y3)) (i3 : w.cell? ⟨g3, 3, none⟩ = some (.slice b3 m3 d3)) (hlt3 : g3 < w.heap.size)
include k0 k1 k2 k3 hlt j0 j1 j2 j3 hlt2 i0 i1 i2 i3 hlt3
end
end Go.Proofs.Ytmkmladlpgfniab

namespace Go.Proofs.Ytmkmladlpgfniab
open Go.RowKit

set_option maxHeartbeats 4000000
set_option maxRecDepth 100000

theorem name_not {n : List UInt8} (h : Tm.nameOk n = true) : n ≠ [] ∧ n ≠ [107] ∧ n ≠ [115] := by
  refine ⟨?_, ?_, ?_⟩ <;> (rintro rfl; revert h; decide)

end Go.Proofs.Ytmkmladlpgfniab

namespace Go.Proofs.Ytmkmladlpgfniab
open Go.RowKit

set_option maxHeartbeats 4000000
set_option maxRecDepth 100000

end Go.Proofs.Ytmkmladlpgfniab

namespace Go.Proofs.Ytmkmladlpgfniab
open Go.RowKit

set_option maxHeartbeats 1000000
set_option maxRecDepth 100000

theorem heap_sets2 {W : World} {b : Nat} {x y u u' : Value} {T : TypeId} {fr : Nat × Nat} (hh : W.heap[b]? = some (.cells #[x, y] T fr)) : ((W.setCell ⟨b, 0, none⟩ u).setCell ⟨b, 1, none⟩ u').heap[b]? = some (.cells #[u, u'] T fr) := by
  simp [World.setCell, Array.getElem?_modify, hh]

theorem heap_sets2_ne {W : World} {b c i j : Nat} {u u' : Value} (hne : c ≠ b) : ((W.setCell ⟨b, i, none⟩ u).setCell ⟨b, j, none⟩ u').heap[c]? = W.heap[c]? := by
  rw [Below.heap_setCell _ _ _ _ hne, Below.heap_setCell _ _ _ _ hne]

theorem pair_facts {W : World} {b : Nat} {x y : Value} {T : TypeId} (h : W.heap[b]? = some (.cells #[x, y] T (0, 0))) {W' : World} (hW : After W W') :
    W'.cell? ⟨b, 0, none⟩ = some x ∧ W'.cell? ⟨b, 1, none⟩ = some y ∧ W'.frozen? ⟨b, 0, none⟩ = false ∧ W'.frozen? ⟨b, 1, none⟩ = false ∧ b < W'.heap.size := by
  have hh := hW.heap h
  exact ⟨cell_of_heap hh, cell_of_heap hh, by simp [World.frozen?, hh], by simp [World.frozen?, hh], (Array.getElem?_eq_some_iff.1 hh).1⟩

end Go.Proofs.Ytmkmladlpgfniab

namespace Go.Proofs.Ytmkmladlpgfniab
open Go.RowKit

set_option maxHeartbeats 1000000
set_option maxRecDepth 100000

end Go.Proofs.Ytmkmladlpgfniab

namespace Go.Proofs.Ytmkmladlpgfniab
open Go.RowKit

set_option maxHeartbeats 2000000
set_option maxRecDepth 100000

namespace Tm
/-- No atom without letters. -/
def Plain : Tm → Prop
  | nm n => n ≠ []
  | app f a => Plain f ∧ Plain a
  | _ => True
def isNm (x : List UInt8) : Tm → Bool
  | nm n => n == x
  | _ => false
def abs (x : List UInt8) : Tm → Tm
  | nm n => if n = x then I else app k (nm n)
  | app f a => if uses x (app f a) = 0 then app k (app f a) else if isNm x a = true ∧ uses x f = 0 then f else app (app s (abs x f)) (abs x a)
  | t => app k t
theorem plain_good {t : Tm} : t.good = true → t.Plain := by
  induction t with
  | nm n => intro h; exact text_ne (.nm n) h
  | app f a ihf iha => intro h; simp only [good, Bool.and_eq_true] at h; exact ⟨ihf h.1, iha h.2⟩
  | k => intro _; trivial
  | s => intro _; trivial
end Tm

/-! ### l2Abs -/

end Go.Proofs.Ytmkmladlpgfniab

namespace Go.Proofs.Ytmkmladlpgfniab
open Go.RowKit

set_option maxHeartbeats 2000000
set_option maxRecDepth 100000

namespace Tm
theorem abs_none (x : List UInt8) (t : Tm) (h : uses x t = 0) : abs x t = app k t := by
  cases t with
  | nm n => simp only [uses] at h; split at h; · simp at h
            rename_i hn; simp [abs, hn]
  | app f a => simp only [abs, h, if_true]
  | k => rfl
  | s => rfl
theorem isNm_uses (x : List UInt8) (t : Tm) (h : uses x t = 0) : isNm x t = false := by
  cases t with
  | nm n => simp only [uses] at h; split at h; · simp at h
            rename_i hn; simp [isNm, hn]
  | _ => rfl
theorem pair_abs (x : List UInt8) (a b : Tm) (ha : uses x a = 0) (hb : uses x b = 0) : abs x (app (app (nm x) a) b) = pair a b := by
  have h1 : uses x (app (app (nm x) a) b) = 1 := by simp [uses, ha, hb]
  have h2 : uses x (app (nm x) a) = 1 := by simp [uses, ha]
  rw [abs, h1, if_neg (by decide), isNm_uses x b hb, if_neg (by simp), abs_none x b hb, abs, h2, if_neg (by decide), isNm_uses x a ha, if_neg (by simp), abs_none x a ha]
  simp [abs, pair]
theorem uses_bad (x : List UInt8) (hx : nameOk x = false) : ∀ {t : Tm}, good t = true → uses x t = 0
  | nm n, h => by
    simp only [uses]
    split
    · rename_i hn; subst hn; simp only [good] at h; rw [hx] at h; simp at h
    · rfl
  | app f a, h => by simp only [good, Bool.and_eq_true] at h; simp only [uses, uses_bad x hx h.1, uses_bad x hx h.2]
  | k, _ => rfl
  | s, _ => rfl
end Tm

def SNumOne (w : World) (r : Option (List UInt8)) (e : Ending) (w' : World) : Prop :=
  e = .returned (.tuple #[str (r.getD []), .bool r.isSome]) ∧ After w w'

end Go.Proofs.Ytmkmladlpgfniab

namespace Go.Proofs.Ytmkmladlpgfniab
open Go.RowKit

set_option maxHeartbeats 1000000
set_option maxRecDepth 100000

theorem bodyOf_any (x : List UInt8) : ∀ {t : Tm} {w : World} {B : Nat} {v : Value}, TV w B t v → Calls Try.prog 78 #[v, str x] w (BodyPost w B (Bd.of x t)) := by
  intro t
  induction t with
  | k => intro w B v h; obtain ⟨b, fr, rfl, _⟩ := id h; exact body_leaf w B x _ b .k (Or.inl rfl) h
  | s => intro w B v h; obtain ⟨b, fr, rfl, _⟩ := id h; exact body_leaf w B x _ b .s (Or.inr rfl) h
  | nm n => intro w B v h; obtain ⟨b, fr, rfl, _⟩ := id h; exact body_name w B x n b h
  | app f a ihf iha =>
    intro w B v h
    have h' := h
    obtain ⟨b, fr, vf, va, rfl, hb, hh, hf, ha⟩ := h
    obtain ⟨T1, x1, rfl, _⟩ := hf.asks
    obtain ⟨T2, x2, rfl, _⟩ := ha.asks
    have hcall := body_parts w B b x f a (Bd.of x f) (Bd.of x a) T1 T2 x1 x2 h' hf (cell_later' (cell_of_heap (i := 0) hh)) (cell_later' (cell_of_heap (i := 1) hh)) (fun W' hW' => ihf (hf.below hW')) (fun W' hW' => iha (ha.below hW'))
    rw [show Bd.of x (.app f a) = Bd.comb f a (Bd.of x f) (Bd.of x a) from rfl]
    generalize Bd.comb f a (Bd.of x f) (Bd.of x a) = c at hcall ⊢
    unfold BodyPost at hcall
    have ha1 := assert_nm_a w (.pointer (some ⟨b, 0, none⟩))
    have ha2 := assert_app w (.pointer (some ⟨b, 0, none⟩))
    clear h' hh hf ha ihf iha
    go_enter Try.func78, Try.ntmps78
    go_wp2_with fail
    refine hcall.mono ?_
    rintro e w1 ⟨v1, rfl, hb1, hv1⟩
    have HV := Lib.hid hv1
    clear hv1 hcall
    go_wp2_with fail
    go_ret
    exact ⟨_, rfl, hb1, HV.out⟩

theorem comb_in {f a : Tm} {b1 b2 : Bd} (h : ∀ u, b1 ≠ .without u) : Bd.comb f a b1 b2 = .inside b1 b2 := by
  cases b1 with
  | without u => exact absurd rfl (h u)
  | itself => cases b2 <;> rfl
  | atEnd u => cases b2 <;> rfl
  | inside c d => cases b2 <;> rfl

theorem comb_in2 {f a : Tm} {b1 b2 : Bd} (h : ∀ u, b2 ≠ .without u) (h2 : b2 ≠ .itself) : Bd.comb f a b1 b2 = .inside b1 b2 := by
  cases b2 with
  | without u => exact absurd rfl (h u)
  | itself => exact absurd rfl h2
  | atEnd u => cases b1 <;> rfl
  | inside c d => cases b1 <;> rfl

theorem of_none (x : List UInt8) : ∀ {t : Tm}, Tm.uses x t = 0 → Bd.of x t = .without t
  | .k, _ => rfl
  | .s, _ => rfl
  | .nm n, h => by
    simp only [Tm.uses] at h
    split at h
    · simp at h
    · rename_i hn; simp [Bd.of, hn]
  | .app f a, h => by
    simp only [Tm.uses] at h
    rw [Bd.of, of_none x (t := f) (by omega), of_none x (t := a) (by omega)]
    rfl

theorem of_some (x : List UInt8) : ∀ {t : Tm}, Tm.uses x t ≠ 0 → (∀ u, Bd.of x t ≠ .without u) ∧ (Bd.of x t = .itself ↔ Tm.isNm x t = true)
  | .k, h => absurd rfl h
  | .s, h => absurd rfl h
  | .nm n, h => by
    simp only [Tm.uses] at h
    split at h
    · rename_i hn; simp [Bd.of, hn, Tm.isNm]
    · exact absurd rfl h
  | .app f a, h => by
    by_cases hf : Tm.uses x f = 0
    · have ha : Tm.uses x a ≠ 0 := by simp only [Tm.uses] at h; omega
      have ih := of_some x ha
      rw [Bd.of, of_none x hf]
      cases hb : Bd.of x a with
      | without u => exact absurd hb (ih.1 u)
      | itself => exact ⟨fun u => by simp [Bd.comb], by simp [Bd.comb, Tm.isNm]⟩
      | atEnd u => exact ⟨fun u => by simp [Bd.comb], by simp [Bd.comb, Tm.isNm]⟩
      | inside c d => exact ⟨fun u => by simp [Bd.comb], by simp [Bd.comb, Tm.isNm]⟩
    · have ih := of_some x hf
      rw [Bd.of, comb_in ih.1]
      exact ⟨fun u => by simp, by simp [Tm.isNm]⟩

theorem of_term (x : List UInt8) : ∀ t : Tm, (Bd.of x t).term = Tm.abs x t
  | .k => rfl
  | .s => rfl
  | .nm n => by by_cases hn : n = x <;> simp [Bd.of, Tm.abs, hn, Bd.term]
  | .app f a => by
    have ihf := of_term x f
    have iha := of_term x a
    by_cases h0 : Tm.uses x (.app f a) = 0
    · rw [of_none x h0, Tm.abs_none x _ h0]; rfl
    · rw [Tm.abs, if_neg h0]
      by_cases hf : Tm.uses x f = 0
      · have ha : Tm.uses x a ≠ 0 := by simp only [Tm.uses] at h0; omega
        have ha' := of_some x ha
        by_cases hn : Tm.isNm x a = true
        · rw [if_pos ⟨hn, hf⟩, Bd.of, of_none x hf, ha'.2.2 hn]; rfl
        · rw [if_neg (fun h => hn h.1), Bd.of, comb_in2 ha'.1 (fun h => hn (ha'.2.1 h)), Bd.term, ihf, iha]
      · rw [if_neg (fun h => hf h.2), Bd.of, comb_in (of_some x hf).1, Bd.term, ihf, iha]

theorem abs_size (x : List UInt8) : ∀ t : Tm, (Tm.abs x t).size + 1 ≤ 4 * t.size
  | .k => by simp [Tm.abs, Tm.size]
  | .s => by simp [Tm.abs, Tm.size]
  | .nm n => by by_cases hn : n = x <;> simp [Tm.abs, hn, Tm.size, Tm.I]
  | .app f a => by
    have ihf := abs_size x f
    have iha := abs_size x a
    have hf := Tm.size_pos f
    have ha := Tm.size_pos a
    rw [Tm.abs]
    split
    · simp only [Tm.size]; omega
    · split
      · simp only [Tm.size]; omega
      · simp only [Tm.size]; omega

theorem abstraction_any (w : World) (B : Nat) (x : List UInt8) (t : Tm) (v : Value) (h : TV w B t v) (hB : B ≤ w.heap.size) (hz : t.size ≤ 1000000) :
    Calls Try.prog 65 #[str x, v] w (TermPost w B (Tm.abs x t)) := by
  have hbody := bodyOf_any x h
  have hsz := abs_size x t
  unfold BodyPost at hbody
  rw [← of_term] at hsz ⊢
  generalize Bd.of x t = b at *
  go_enter Try.func65, Try.ntmps65
  go_wp2_with fail
  refine hbody.mono ?_
  rintro e w1 ⟨v1, rfl, hb1, hv1⟩
  obtain ⟨T1, x1, f1, y1, rfl, m1, n1, d1⟩ := BV.absOk (Nat.le_trans hB hb1.size) hv1 (by omega)
  have hcall := d1 w1 (Below.refl _ _)
  unfold TermPost at hcall
  clear hv1 hbody d1
  go_wp2_with (go_at_fn f1; refine hcall.mono ?_; rintro e w2 ⟨v2, rfl, hb2, ht2⟩; have HT := Lib.hid ht2; clear ht2)
  go_ret
  exact ⟨_, rfl, below_trans hb1 hb2, HT.out⟩
end Go.Proofs.Ytmkmladlpgfniab

namespace Go.Proofs.Ytmkmladlpgfniab
open Go.RowKit Go.Shelf

attribute [local go_sem] Oper.semAt_some

/-- What has come when k rounds are over. -/
def upto {α : Type} (f : Nat → α) (k : Nat) : List α := (List.range k).map f
theorem upto_succ {α : Type} (f : Nat → α) (k : Nat) : upto f (k + 1) = upto f k ++ [f k] := by simp [upto, List.range_succ]
theorem upto_length {α : Type} (f : Nat → α) (k : Nat) : (upto f k).length = k := by simp [upto]

/-- The blocks below m and the block Bs are as they were. -/
def KeepB (m Bs : Nat) (W W' : World) : Prop := ∀ k, (k < m ∨ k = Bs) → W'.heap[k]? = W.heap[k]?
theorem KeepB.trans {m Bs : Nat} {A B C : World} (h : KeepB m Bs A B) (k : KeepB m Bs B C) : KeepB m Bs A C := fun i hi => (k i hi).trans (h i hi)
theorem KeepB.refl (m Bs : Nat) (W : World) : KeepB m Bs W W := fun _ _ => rfl
theorem KeepB.cell {m Bs b i : Nat} {W W' : World} {v : Value} (h : KeepB m Bs W W') (hb : b < m ∨ b = Bs) (hc : W.cell? ⟨b, i, none⟩ = some v) : W'.cell? ⟨b, i, none⟩ = some v := by
  rw [World.cell?_of_block (w := W) (a := ⟨b, i, none⟩) (h b hb)]; exact hc

set_option maxRecDepth 100000 in
set_option maxHeartbeats 2000000 in
theorem back1_in (F : Fence) (n : Nat) (h8 : F.fn 77) (hro : F.round = none) (hn : 1 ≤ n) (l Bs m b off len cap : Nat) (zs : List (List UInt8)) (hreach : len ≤ 1000000000) (hb : b < m) (J Jx : List (Nat × List UInt8) → World → Prop)
    (hY : ∀ pre x W, J pre W → pre.length < len → YieldAt F (n - 1) Try.prog l #[.int .i64 (x.1 : Int), str x.2] W fun e W' =>
      (e = .returned (.bool true) ∧ J (pre ++ [x]) W' ∧ KeepB m Bs W W') ∨ (e = .returned (.bool false) ∧ Jx (pre ++ [x]) W'))
    (W : World) (hBs : W.cell? ⟨Bs, 0, none⟩ = some (.slice (some ⟨b, off, none⟩) len cap)) (hc : ∀ j, j < len → W.cell? ⟨b, off + j, none⟩ = some (str (zs[j]?.getD []))) (h0 : J [] W) :
    CallsIn F n Try.prog 77 #[.func (.yield l) #[] #[], .pointer (some ⟨Bs, 0, none⟩)] W fun e W' => (∃ v, e = .returned v) ∧
      ((∃ ys, ys = upto (fun j => (len - 1 - j, zs[len - 1 - j]?.getD [])) len ∧ J ys W') ∨ (∃ pre, (∃ k, k ≤ len ∧ pre = upto (fun j => (len - 1 - j, zs[len - 1 - j]?.getD [])) k) ∧ Jx pre W')) := by
  refine callsIn_of_wp Try.func77 rfl h8 ?_ hro
  simp only [Try.ntmps77, List.size_toArray, List.length_cons, List.length_nil, Nat.reduceAdd, Nat.reduceSub, Array.replicate_succ, Array.replicate_zero, List.push_toArray, List.append_toArray, List.nil_append, List.cons_append]
  gi_wp2
  gi_loopw [3] (fun i wr => ∃ k : Nat, k ≤ len ∧ i = .int .i64 ((len : Int) - 1 - k) ∧ J (upto (fun j => (len - 1 - j, zs[len - 1 - j]?.getD [])) k) wr ∧ KeepB m Bs W wr)
    (fun i _ => (intOf i + 1).toNat)
  case atStart => exact ⟨0, Nat.zero_le _, by simp, h0, KeepB.refl _ _ _⟩
  case round =>
    obtain ⟨k, hk, rfl, hJs, hnx⟩ := hrel
    have hBs' := hnx.cell (Or.inr rfl) hBs
    by_cases hlt : k < len
    · obtain ⟨q, hq⟩ : ∃ q : Nat, q = len - 1 - k := ⟨_, rfl⟩
      have hqi : (len : Int) - 1 - k = (q : Int) := by omega
      have hql : q < len := by omega
      have hcx := hnx.cell (Or.inl hb) (hc q hql)
      obtain ⟨fn, tmps, assign, body, hy, hR⟩ := hY _ (q, zs[q]?.getD []) wr hJs (by rw [upto_length]; exact hlt)
      dsimp only at hy
      simp only [hqi]
      have HQ := Lib.hid hq
      have HQI := Lib.hid hqi
      clear hq hqi
      gi_wp2
      refine hR.mono ?_
      rintro e W3 (⟨rfl, hJ3, hk3⟩ | ⟨rfl, hJx3⟩)
      · gi_wp2
        go_roundw
        case rel => exact ⟨k + 1, by omega, by have := HQI.out; simp; omega, by rw [upto_succ, ← HQ.out]; exact hJ3, hnx.trans hk3⟩
        case measure => simp [intOf]
      · gi_wp2
        refine bodyPost_ret (results_none rfl _ _ _) rfl ?_
        exact ⟨⟨_, rfl⟩, .inr ⟨_, ⟨k + 1, by omega, by rw [upto_succ, ← HQ.out]⟩, hJx3⟩⟩
    · obtain rfl : k = len := by omega
      gi_wp2
      go_end0
      exact ⟨⟨_, rfl⟩, .inl ⟨_, rfl, hJs⟩⟩

set_option maxRecDepth 100000 in
set_option maxHeartbeats 1000000 in
theorem back1_nil_in (F : Fence) (n : Nat) (h8 : F.fn 77) (hro : F.round = none) (l Bs : Nat) (J : List (Nat × List UInt8) → World → Prop) (W : World) (ao : Option Addr) (cap : Nat) (hBs : W.cell? ⟨Bs, 0, none⟩ = some (.slice ao 0 cap)) (h0 : J [] W) :
    CallsIn F n Try.prog 77 #[.func (.yield l) #[] #[], .pointer (some ⟨Bs, 0, none⟩)] W fun e W' => (∃ v, e = .returned v) ∧ J [] W' := by
  refine callsIn_of_wp Try.func77 rfl h8 ?_ hro
  simp only [Try.ntmps77, List.size_toArray, List.length_cons, List.length_nil, Nat.reduceAdd, Nat.reduceSub, Array.replicate_succ, Array.replicate_zero, List.push_toArray, List.append_toArray, List.nil_append, List.cons_append]
  gi_wp2
  gi_loopw [3] (fun i wr => i = .int .i64 (-1) ∧ J [] wr) (fun _ _ => 0)
  case atStart => exact ⟨rfl, h0⟩
  case round =>
    obtain ⟨rfl, hJs⟩ := hrel
    gi_wp2
    go_end0
    exact ⟨⟨_, rfl⟩, hJs⟩

set_option maxHeartbeats 1000000 in
/-- slices.Backward(s): the slice value is boxed; the function value captures the box. -/
theorem back_in (F : Fence) (n : Nat) (h6 : F.fn 64) (hro : F.round = none) (a : Option Addr) (len cap : Nat) (w : World) :
    CallsIn F n Try.prog 64 #[.slice a len cap] w fun e w' => e = .returned (.func (.func 77) #[] #[.pointer (some ⟨w.heap.size, 0, none⟩)]) ∧ w' = w.alloc (.cells #[.slice a len cap] 80) := by
  refine callsIn_of_wp Try.func64 rfl h6 ?_ hro
  simp only [Try.ntmps64, List.size_toArray, List.length_cons, List.length_nil, Nat.reduceAdd, Nat.reduceSub, Array.replicate_succ, Array.replicate_zero, List.push_toArray, List.append_toArray, List.nil_append, List.cons_append]
  gi_wp2
  go_ret
  exact ⟨rfl, rfl⟩

/-- The slice value holds these texts, in a block below m. -/
def StrsB (m : Nat) (W : World) (sv : Value) (zs : List (List UInt8)) : Prop :=
  (∃ ao cap, sv = .slice ao 0 cap ∧ zs = []) ∨ ∃ b off cap, sv = .slice (some ⟨b, off, none⟩) zs.length cap ∧ b < m ∧ ∀ j, j < zs.length → W.cell? ⟨b, off + j, none⟩ = some (str (zs[j]?.getD []))

theorem back_stops (F : Fence) (n : Nat) (h8 : F.fn 77) (hro : F.round = none) (hn : 1 ≤ n) (Bs m : Nat) (sv : Value) (zs : List (List UInt8)) (hreach : zs.length ≤ 1000000000) (w : World) (hBs : Bs < w.heap.size) (hm : m ≤ w.heap.size)
    (hc : w.cell? ⟨Bs, 0, none⟩ = some sv) (hI : StrsB m w sv zs) :
    SeqStopsK F n Try.prog 77 #[.pointer (some ⟨Bs, 0, none⟩)] (fun x : Nat × List UInt8 => #[Value.int .i64 (x.1 : Int), str x.2]) (KeepB m Bs) (fun ys => ys = upto (fun j => (zs.length - 1 - j, zs[zs.length - 1 - j]?.getD [])) zs.length)
      (fun pre => ∃ k, k ≤ zs.length ∧ pre = upto (fun j => (zs.length - 1 - j, zs[zs.length - 1 - j]?.getD [])) k) zs.length w := fun l J Jx W hW _ _ hY h0 => by
  have hc' := (hW.cell (p := ⟨Bs, 0, none⟩) hBs).trans hc
  rcases hI with ⟨ao, cap, rfl, rfl⟩ | ⟨b, off, cap, rfl, hb, hcs⟩
  · exact (back1_nil_in F n h8 hro l Bs J W ao cap hc' h0).mono fun e W' ⟨he, hj⟩ => ⟨he, .inl ⟨_, rfl, hj⟩⟩
  · exact back1_in F n h8 hro hn l Bs m b off zs.length cap zs hreach hb J Jx hY W hc' (fun j hj => (hW.cell (p := ⟨b, off + j, none⟩) (show b < w.heap.size by omega)).trans (hcs j hj)) h0

theorem keepB_b {m Bs : Nat} {w : World} (hm : m ≤ w.heap.size) (hBs : Bs < w.heap.size) (W : World) (l : Nat) (o o' : Obj) (hl : w.heap.size ≤ l) (h : W.heap[l]? = some o) (_ : o.isCells = false) (_ : o.isWalk = false) : KeepB m Bs W (W.putObj l o') := fun k hk => by
  have hg := grownBy_putObj' W l o'
  have hlt := (Array.getElem?_eq_some_iff.1 h).1
  exact hg.block k (by omega) (fun e => by injection e with e; omega)
end Go.Proofs.Ytmkmladlpgfniab

namespace Go.Proofs.Ytmkmladlpgfniab
open Go.RowKit Go.Shelf

attribute [local go_sem] Oper.semAt_some

/-- Names abstracted one after the other, each result looked at. -/
def absL : List (List UInt8) → Tm → Option Tm
  | [], t => some t
  | x :: xs, t => if (Tm.abs x t).fits = true then absL xs (Tm.abs x t) else none

theorem absL_snoc (xs : List (List UInt8)) (x : List UInt8) : ∀ t, absL (xs ++ [x]) t = (absL xs t).bind fun u => if (Tm.abs x u).fits = true then some (Tm.abs x u) else none := by
  induction xs with
  | nil => intro t; simp [absL]
  | cons y ys ih => intro t; simp only [List.cons_append, absL]; split
                    · exact ih _
                    · rfl

theorem TV.keptCells {A C : World} {B : Nat} (hk : ∀ (b : Nat) (cs : Array Value) (T : TypeId) (fr : Nat × Nat), T ≠ 39 → T ≠ 4 → A.heap[b]? = some (.cells cs T fr) → C.heap[b]? = some (.cells cs T fr)) : ∀ {t : Tm} {v : Value}, TV A B t v → TV C B t v
  | .k, _, ⟨b, fr, hv, hb, h⟩ => ⟨b, fr, hv, hb, hk _ _ _ _ (by decide) (by decide) h⟩
  | .s, _, ⟨b, fr, hv, hb, h⟩ => ⟨b, fr, hv, hb, hk _ _ _ _ (by decide) (by decide) h⟩
  | .nm _, _, ⟨b, fr, hv, hb, h⟩ => ⟨b, fr, hv, hb, hk _ _ _ _ (by decide) (by decide) h⟩
  | .app _ _, _, ⟨b, fr, vf, va, hv, hb, h, hf, ha⟩ => ⟨b, fr, vf, va, hv, hb, hk _ _ _ _ (by decide) (by decide) h, hf.keptCells hk, ha.keptCells hk⟩

theorem TV.grownCells {A C : World} {B : Nat} {row : Option Nat} {t : Tm} {v : Value} (h : TV A B t v) (hg : A.grownBy C row) (hr : ∀ r, row = some r → ∃ o : Obj, A.heap[r]? = some o ∧ o.isCells = false) : TV C B t v :=
  h.keptCells fun b cs T fr _ _ hb => by
    rw [hg.block b (Array.getElem?_eq_some_iff.1 hb).1 (fun e => by obtain ⟨o, ho, hc⟩ := hr b e.symm; rw [hb] at ho; injection ho with ho; subst ho; simp [Obj.isCells] at hc)]
    exact hb

theorem TV.boxSet {A : World} {B b : Nat} {x u : Value} {t : Tm} {v : Value} (h : TV A B t v) (hb : Boxed A b 39 x) : TV (A.setCell ⟨b, 0, none⟩ u) B t v :=
  h.keptCells fun b' cs T fr hT _ hb' => by
    have hne : b' ≠ b := by
      rintro rfl
      rw [show A.heap[b']? = _ from hb] at hb'
      injection hb' with hb'
      injection hb' with _ hb' _
      exact hT hb'.symm
    rw [Below.heap_setCell _ _ _ _ hne]
    exact hb'

theorem TV.boolSet {A : World} {B b : Nat} {x u : Value} {t : Tm} {v : Value} (h : TV A B t v) (hb : Boxed A b 4 x) : TV (A.setCell ⟨b, 0, none⟩ u) B t v :=
  h.keptCells fun b' cs T fr _ hT hb' => by
    have hne : b' ≠ b := by
      rintro rfl
      rw [show A.heap[b']? = _ from hb] at hb'
      injection hb' with hb'
      injection hb' with _ hb' _
      exact hT hb'.symm
    rw [Below.heap_setCell _ _ _ _ hne]
    exact hb'

theorem absL_append (xs ys : List (List UInt8)) : ∀ t, absL (xs ++ ys) t = (absL xs t).bind (absL ys) := by
  induction xs with
  | nil => intro t; simp [absL]
  | cons x xs ih => intro t; simp only [List.cons_append, absL]; split
                    · exact ih _
                    · rfl

theorem back_take (zs : List (List UInt8)) (k : Nat) (hk : k ≤ zs.length) : (upto (fun j => (zs.length - 1 - j, zs[zs.length - 1 - j]?.getD [])) k).map Prod.snd = zs.reverse.take k := by
  apply List.ext_getElem
  · simp [upto, hk]
  · intro i h1 h2
    have hi : i < k := by simpa [upto] using h1
    have hz : zs.length - 1 - i < zs.length := by omega
    simp [upto, hz]

theorem box_kept {A C : World} {b : Nat} {T : TypeId} {x : Value} {row : Option Nat} (h : Boxed A b T x) (hg : A.grownBy C row) (hr : ∀ r, row = some r → ∃ o : Obj, A.heap[r]? = some o ∧ o.isCells = false) : Boxed C b T x :=
  Boxed.kept h hg fun e => by obtain ⟨o, ho, hc⟩ := hr b e.symm; rw [show A.heap[b]? = _ from h] at ho; injection ho with ho; subst ho; simp [Obj.isCells] at hc

theorem box_later {A C : World} {b : Nat} {T : TypeId} {x : Value} (h : Boxed A b T x) (hb : Below A.heap.size A C) : Boxed C b T x := heap_later h hb
theorem keepsOthers_below {A C : World} (h : Below A.heap.size A C) : KeepsOthers A C := ⟨h.size, fun k o hk _ => heap_later hk h⟩
theorem keepB_below {m Bs : Nat} {A C : World} (h : Below A.heap.size A C) (hm : m ≤ A.heap.size) (hBs : Bs < A.heap.size) : KeepB m Bs A C := fun k hk => h.block k (by omega)
theorem keepB_set {m Bs b : Nat} {A : World} (v : Value) (h1 : m ≤ b) (h2 : Bs ≠ b) : KeepB m Bs A (A.setCell ⟨b, 0, none⟩ v) := fun k hk => Below.heap_setCell _ _ _ _ (show k ≠ b by omega)

end Go.Proofs.Ytmkmladlpgfniab

namespace Go.Proofs.Ytmkmladlpgfniab
open Go.RowKit

set_option maxHeartbeats 1000000
set_option maxRecDepth 100000

namespace Tm
def X : Tm := .nm [120]
def Y : Tm := .nm [121]
def Z : Tm := .nm [122]
def half : Tm := abs [120] (abs [121] (app Y (app (app X X) Y)))
def fix : Tm := app half half
def succ : Tm := abs [120] (pair no X)
def pairC : Tm := abs [120] (abs [121] (abs [122] (app (app Z X) Y)))
def first : Tm := abs [120] (app X k)
def second : Tm := abs [120] (app X no)
def pred : Tm := abs [120] (app (app (app X k) I) (app X no))
/-- The closed term of a word. -/
def data (w : List UInt8) : Option Tm :=
  if w = [105] then some I else if w = [116, 114, 117, 101] then some k else if w = [102, 97, 108, 115, 101] then some no
  else if w = [112, 97, 105, 114] then some pairC else if w = [102, 105, 114, 115, 116] then some first else if w = [122, 101, 114, 111] then some first
  else if w = [115, 101, 99, 111, 110, 100] then some second else if w = [115, 117, 99, 99] then some succ else if w = [112, 114, 101, 100] then some pred
  else if w = [102, 105, 120] then some fix else none
theorem data_good {w : List UInt8} {t : Tm} (h : data w = some t) : t.good = true ∧ t.size ≤ 1000 := by
  unfold data at h
  repeat' split at h
  all_goals first | (obtain rfl := Option.some.inj h; exact ⟨by decide +kernel, by decide +kernel⟩) | cases h
end Tm

theorem nm_val {W : World} {B b : Nat} {n : List UInt8} {fr : Nat × Nat} (h : W.heap[b]? = some (.cells #[str n] 88 fr)) (hB : B ≤ b) : TV W B (.nm n) (.iface 84 (.pointer (some ⟨b, 0, none⟩))) := ⟨b, fr, rfl, hB, h⟩

theorem succ_any (w : World) (B : Nat) (hB : B ≤ w.heap.size) : Calls Try.prog 50 #[] w (TermPost w B Tm.succ) := by
  have hbit := bit_any w B false hB
  unfold TermPost at hbit
  simp only [Bool.false_eq_true, if_false] at hbit
  go_enter Try.func50, Try.ntmps50
  go_wp2_with fail
  refine hbit.mono ?_
  rintro e w1 ⟨v1, rfl, hb1, ht1⟩
  have hs1 := hb1.size
  have hnm := nm_val (heap_top w1 (.cells #[str [120]] 88)) (Nat.le_trans hB hs1)
  have hcall := pair_any (w1.alloc (.cells #[str [120]] 88)) B Tm.no Tm.X v1 _ (ht1.below (below_new _ _)) hnm (by simp; omega) (by decide +kernel)
  unfold TermPost at hcall
  have hb2 := below_trans hb1 (below_new w1 (.cells #[str [120]] 88))
  clear ht1 hnm hbit
  go_wp2_with fail
  refine hcall.mono ?_
  rintro e w2 ⟨v2, rfl, hb3, ht2⟩
  have hb4 := below_trans hb2 hb3
  have hcall2 := abstraction_any w2 B [120] _ v2 ht2 (Nat.le_trans hB hb4.size) (by decide +kernel)
  rw [show Tm.abs [120] (Tm.pair Tm.no Tm.X) = Tm.succ from rfl] at hcall2
  unfold TermPost at hcall2
  clear ht2 hcall
  go_wp2_with fail
  refine hcall2.mono ?_
  rintro e w3 ⟨v3, rfl, hb5, ht3⟩
  have HT := Lib.hid ht3
  clear ht3 hcall2
  go_wp2_with fail
  go_ret
  exact ⟨_, rfl, below_trans hb4 hb5, HT.out⟩

theorem applyAll2 (w : World) (B g : Nat) (f a b : Tm) (vf va vb : Value) (fr : Nat × Nat) (hg : w.heap[g]? = some (.cells #[va, vb] 39 fr)) (hf : TV w B f vf) (ha : TV w B a va) (hb : TV w B b vb) (hB : B ≤ w.heap.size) (hz : f.size + a.size + b.size ≤ 1000000) :
    Calls Try.prog 74 #[vf, .slice (some ⟨g, 0, none⟩) 2 2] w (TermPost w B (.app (.app f a) b)) :=
  applyAll_any w B g f vf [a, b] [va, vb] fr rfl hg hf (fun j hj => by
    match j, hj with
    | 0, _ => exact ha
    | 1, _ => exact hb) hB (by simp; omega) (by simp)

theorem applyAll3 (w : World) (B g : Nat) (f a b c : Tm) (vf va vb vc : Value) (fr : Nat × Nat) (hg : w.heap[g]? = some (.cells #[va, vb, vc] 39 fr)) (hf : TV w B f vf) (ha : TV w B a va) (hb : TV w B b vb) (hc : TV w B c vc) (hB : B ≤ w.heap.size) (hz : f.size + a.size + b.size + c.size ≤ 1000000) :
    Calls Try.prog 74 #[vf, .slice (some ⟨g, 0, none⟩) 3 3] w (TermPost w B (.app (.app (.app f a) b) c)) :=
  applyAll_any w B g f vf [a, b, c] [va, vb, vc] fr rfl hg hf (fun j hj => by
    match j, hj with
    | 0, _ => exact ha
    | 1, _ => exact hb
    | 2, _ => exact hc) hB (by simp; omega) (by simp)

theorem fix_any (w : World) (B : Nat) (hB : B ≤ w.heap.size) : Calls Try.prog 76 #[] w (TermPost w B Tm.fix) := by
  obtain ⟨os, hos⟩ : ∃ os : List Obj, os = [.cells #[str [120]] 88, .cells #[str [121]] 88, .cells #[.iface 84 (.pointer (some ⟨w.heap.size, 0, none⟩)), .iface 84 (.pointer (some ⟨w.heap.size + 1, 0, none⟩))] 39] := ⟨_, rfl⟩
  have hX : allocL w os = ((w.alloc (.cells #[str [120]] 88)).alloc (.cells #[str [121]] 88)).alloc (.cells #[.iface 84 (.pointer (some ⟨w.heap.size, 0, none⟩)), .iface 84 (.pointer (some ⟨w.heap.size + 1, 0, none⟩))] 39) := by rw [hos]; rfl
  have hA := allocL_below w os
  have h0 : (allocL w os).heap[w.heap.size]? = some (.cells #[str [120]] 88 (0, 0)) := by have := allocL_heap w os 0 (by rw [hos]; simp); simpa [hos] using this
  have h1 : (allocL w os).heap[w.heap.size + 1]? = some (.cells #[str [121]] 88 (0, 0)) := by have := allocL_heap w os 1 (by rw [hos]; simp); simpa [hos] using this
  have h2 : (allocL w os).heap[w.heap.size + 1 + 1]? = some (.cells #[.iface 84 (.pointer (some ⟨w.heap.size, 0, none⟩)), .iface 84 (.pointer (some ⟨w.heap.size + 1, 0, none⟩))] 39 (0, 0)) := by have := allocL_heap w os 2 (by rw [hos]; simp); simpa [hos] using this
  rw [hX] at hA h0 h1 h2
  have hx := nm_val h0 hB
  have hy := nm_val h1 (Nat.le_trans hB (Nat.le_succ _))
  have hc1 := applyAll2 _ B _ Tm.X Tm.X Tm.Y _ _ _ (0, 0) h2 hx hx hy (Nat.le_trans hB hA.size) (by decide +kernel)
  unfold TermPost at hc1
  have HX := Lib.hid hx
  have HY := Lib.hid hy
  clear hx hy h0 h1 h2 hX hos
  go_enter Try.func76, Try.ntmps76
  go_wp2_with fail
  refine hc1.mono ?_
  rintro e w1 ⟨v1, rfl, hb1, ht1⟩
  have hc2 := apply_any w1 B Tm.Y _ _ v1 (HY.out.below hb1) ht1 (Nat.le_trans hB (below_trans hA hb1).size) (by decide +kernel)
  clear ht1 hc1
  go_wp2_with fail
  refine hc2.mono ?_
  rintro e w2 ⟨v2, rfl, hb2, ht2⟩
  have hB2 := below_trans (below_trans hA hb1) hb2
  have hc3 := abstraction_any w2 B [121] _ v2 ht2 (Nat.le_trans hB hB2.size) (by decide +kernel)
  unfold TermPost at hc3
  clear ht2 hc2
  go_wp2_with fail
  refine hc3.mono ?_
  rintro e w3 ⟨v3, rfl, hb3, ht3⟩
  have hB3 := below_trans hB2 hb3
  have hc4 := abstraction_any w3 B [120] _ v3 ht3 (Nat.le_trans hB hB3.size) (by decide +kernel)
  unfold TermPost at hc4
  clear ht3 hc3
  go_wp2_with fail
  refine hc4.mono ?_
  rintro e w4 ⟨v4, rfl, hb4, ht4⟩
  have hB4 := below_trans hB3 hb4
  have hc5 := apply_any w4 B _ _ v4 v4 ht4 ht4 (Nat.le_trans hB hB4.size) (by decide +kernel)
  clear ht4 hc4
  go_wp2_with fail
  refine hc5.mono ?_
  rintro e w5 ⟨v5, rfl, hb5, ht5⟩
  have HT := Lib.hid ht5
  clear ht5 hc5
  go_wp2_with fail
  go_ret
  exact ⟨_, rfl, below_trans hB4 hb5, HT.out⟩

def DataPost (w : World) (B : Nat) (r : Option Tm) (e : Ending) (w' : World) : Prop :=
  ∃ v, e = .returned (.tuple #[v, .bool r.isSome]) ∧ Below w.heap.size w w' ∧ ∀ t, r = some t → TV w' B t v

/-- What is there behind the first lines of dataTerm. -/
structure DataPre (w : World) (B : Nat) (W : World) (vy vn : Value) : Prop where
  below : Below w.heap.size w W
  x : TV W B Tm.X (.iface 84 (.pointer (some ⟨w.heap.size, 0, none⟩)))
  y : TV W B Tm.Y (.iface 84 (.pointer (some ⟨w.heap.size + 1, 0, none⟩)))
  z : TV W B Tm.Z (.iface 84 (.pointer (some ⟨w.heap.size + 1 + 1, 0, none⟩)))
  yes : TV W B .k vy
  no : TV W B Tm.no vn

def pData (l : List UInt8) : Option (List UInt8) := (Tm.data l).map Tm.text

end Go.Proofs.Ytmkmladlpgfniab

namespace Go.Proofs.Ytmkmladlpgfniab
open Go.RowKit

set_option maxHeartbeats 2000000
set_option maxRecDepth 100000

def lastL : List (List UInt8) → Tm → Tm
  | [], t => t
  | x :: xs, t => if (Tm.abs x t).fits = true then lastL xs (Tm.abs x t) else Tm.abs x t

theorem absL_last : ∀ (xs : List (List UInt8)) {t : Tm}, t.fits = true → absL xs t = if (lastL xs t).fits = true then some (lastL xs t) else none
  | [], t, h => by simp [absL, lastL, h]
  | x :: xs, t, _ => by
    by_cases hf : (Tm.abs x t).fits = true
    · have hl : lastL (x :: xs) t = lastL xs (Tm.abs x t) := by simp [lastL, hf]
      rw [hl]
      simp only [absL, if_pos hf]
      exact absL_last xs hf
    · have hl : lastL (x :: xs) t = Tm.abs x t := by simp [lastL, hf]
      rw [hl, if_neg hf]
      simp [absL, hf]

theorem abs_good (x : List UInt8) : ∀ {t : Tm}, t.good = true → (Tm.abs x t).good = true
  | .k, _ => rfl
  | .s, _ => rfl
  | .nm n, hn => by by_cases he : n = x <;> simp [Tm.abs, he, Tm.I, Tm.good] <;> simpa [Tm.good] using hn
  | .app f a, h => by
    have h' := h
    simp only [Tm.good, Bool.and_eq_true] at h'
    simp only [Tm.abs]
    split
    · simpa [Tm.good] using h'
    · split
      · exact h'.1
      · simp [Tm.good, abs_good x h'.1, abs_good x h'.2]

theorem last_good : ∀ (xs : List (List UInt8)) {t : Tm}, t.good = true → t.fits = true → (lastL xs t).good = true ∧ (lastL xs t).size ≤ 12000
  | [], t, hg, hf => ⟨hg, by have := fits_size hf; simp only [lastL]; omega⟩
  | x :: xs, t, hg, hf => by
    simp only [lastL]
    have hga := abs_good x hg
    have hsz := abs_size x t
    have hfs := fits_size hf
    split
    · rename_i h; exact last_good xs hga h
    · exact ⟨hga, by omega⟩

theorem name_not3 {n : List UInt8} (h : Tm.nameOk n = true) : ([] == n) = false ∧ ([107] == n) = false ∧ ([115] == n) = false := by
  refine ⟨?_, ?_, ?_⟩ <;> (rw [beq_eq_false_iff_ne]; rintro rfl; revert h; decide)

end Go.Proofs.Ytmkmladlpgfniab
