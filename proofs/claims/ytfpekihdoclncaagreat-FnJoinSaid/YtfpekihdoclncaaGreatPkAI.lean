/-
  The program's argumentBehind and pairParts; PairParts.
-/
import Derived.Test.YtfpekihdoclncaaGreatPkAH
import Derived.Test.YtfpekihdoclncaaGreatPkAE
import Derived.Test.YtfpekihdoclncaaGreatPkAC
namespace Go.Proofs.YtfpekihdoclncaaGreat
open Go.RowKit

set_option maxHeartbeats 1000000
set_option maxRecDepth 100000

namespace Tm
def behind (F : List UInt8) : Tm → Option Tm
  | app f a => if text f = F then some a else none
  | _ => none
def parts : Tm → Option (Tm × Tm)
  | app x y => match behind [107] y with
    | none => none
    | some n => match behind [115] x with
      | none => none
      | some left => match behind [40, 115, 32, 40, 40, 115, 32, 107, 41, 32, 107, 41, 41] left with
        | none => none
        | some front => match behind [107] front with
          | none => none
          | some m => some (m, n)
  | _ => none
theorem behind_good {F : List UInt8} {t a : Tm} (h : behind F t = some a) (hg : good t = true) : good a = true ∧ a.size < t.size := by
  cases t with
  | app f b =>
    simp only [behind] at h
    split at h
    · obtain rfl := Option.some.inj h
      simp only [good, Bool.and_eq_true] at hg
      exact ⟨hg.2, by simp only [size]; have := size_pos f; omega⟩
    · simp at h
  | _ => simp [behind] at h
end Tm

def BehindPost (w : World) (B : Nat) (r : Option Tm) (e : Ending) (w' : World) : Prop :=
  ∃ v, e = .returned (.tuple #[v, .bool r.isSome]) ∧ Below w.heap.size w w' ∧ ∀ a, r = some a → TV w' B a v

theorem assert_app (W : World) (x : Value) : (Instr.typeAssert (.iface 59 x) 33 59 true).run Tryz.prog W = .ok (.tuple #[x, .bool true]) W := by kernel_rfl
theorem assert_k (W : World) (x : Value) : (Instr.typeAssert (.iface 87 x) 33 59 true).run Tryz.prog W = .ok (.tuple #[.pointer none, .bool false]) W := by kernel_rfl
theorem assert_s (W : World) (x : Value) : (Instr.typeAssert (.iface 90 x) 33 59 true).run Tryz.prog W = .ok (.tuple #[.pointer none, .bool false]) W := by kernel_rfl
theorem assert_n (W : World) (x : Value) : (Instr.typeAssert (.iface 63 x) 33 59 true).run Tryz.prog W = .ok (.tuple #[.pointer none, .bool false]) W := by kernel_rfl

def PartsPost (w : World) (B : Nat) (r : Option (Tm × Tm)) (e : Ending) (w' : World) : Prop :=
  ∃ v1 v2, e = .returned (.tuple #[v1, v2, .bool r.isSome]) ∧ Below w.heap.size w w' ∧ ∀ m n, r = some (m, n) → TV w' B m v1 ∧ TV w' B n v2

/-- What PairParts answers. -/
def pParts (l : List UInt8) : Option (List UInt8 × List UInt8) := match Tm.parse l with
  | some t => t.parts.map fun p => (p.1.text, p.2.text)
  | none => none

def TwoRes (w : World) (r : Option (List UInt8 × List UInt8)) (e : Ending) (w' : World) : Prop :=
  e = .returned (.tuple #[str ((r.map Prod.fst).getD []), str ((r.map Prod.snd).getD []), .bool r.isSome]) ∧ Below w.heap.size w w'

theorem parts_good {t m n : Tm} (h : t.parts = some (m, n)) (hg : t.good = true) : m.good = true ∧ n.good = true ∧ m.size < t.size ∧ n.size < t.size := by
  cases t with
  | app x y =>
    simp only [Tm.good, Bool.and_eq_true] at hg
    simp only [Tm.parts] at h
    split at h
    · simp at h
    · rename_i n' e1
      split at h
      · simp at h
      · rename_i left e2
        split at h
        · simp at h
        · rename_i front e3
          split at h
          · simp at h
          · rename_i m' e4
            simp only [Option.some.injEq, Prod.mk.injEq] at h
            obtain ⟨rfl, rfl⟩ := h
            have g1 := Tm.behind_good e1 hg.2
            have g2 := Tm.behind_good e2 hg.1
            have g3 := Tm.behind_good e3 g2.1
            have g4 := Tm.behind_good e4 g3.1
            simp only [Tm.size]
            exact ⟨g4.1, g1.1, by omega, by omega⟩
  | _ => simp [Tm.parts] at h

end Go.Proofs.YtfpekihdoclncaaGreat

namespace Go.Proofs.YtfpekihdoclncaaGreat
open Go.RowKit

set_option maxHeartbeats 2000000
set_option maxRecDepth 100000

def Bd.comb (f a : Tm) : Bd → Bd → Bd
  | .without _, .without _ => .without (.app f a)
  | .without _, .itself => .atEnd f
  | b1, b2 => .inside b1 b2
def Bd.of (x : List UInt8) : Tm → Bd
  | .nm n => if n = x then .itself else .without (.nm n)
  | .app f a => Bd.comb f a (Bd.of x f) (Bd.of x a)
  | t => .without t

def BodyPost (w : World) (B : Nat) (b : Bd) (e : Ending) (w' : World) : Prop := ∃ v, e = .returned v ∧ Below w.heap.size w w' ∧ BV w' B b v

theorem BV.form {w : World} {B : Nat} {b : Bd} {v : Value} (h : BV w B b v) : ∃ T x, v = .iface T x := by
  cases b with
  | itself => exact ⟨_, _, h⟩
  | without t => obtain ⟨x, rfl, _⟩ := h; exact ⟨_, _, rfl⟩
  | atEnd t => obtain ⟨x, rfl, _⟩ := h; exact ⟨_, _, rfl⟩
  | inside f a => obtain ⟨x, y, rfl, _⟩ := h; exact ⟨_, _, rfl⟩

theorem assert_nm_n (W : World) (x : Value) : (Instr.typeAssert (.iface 63 x) 33 63 true).run Tryz.prog W = .ok (.tuple #[x, .bool true]) W := by kernel_rfl
theorem assert_nm_k (W : World) (x : Value) : (Instr.typeAssert (.iface 87 x) 33 63 true).run Tryz.prog W = .ok (.tuple #[.pointer none, .bool false]) W := by kernel_rfl
theorem assert_nm_s (W : World) (x : Value) : (Instr.typeAssert (.iface 90 x) 33 63 true).run Tryz.prog W = .ok (.tuple #[.pointer none, .bool false]) W := by kernel_rfl
theorem assert_nm_a (W : World) (x : Value) : (Instr.typeAssert (.iface 59 x) 33 63 true).run Tryz.prog W = .ok (.tuple #[.pointer none, .bool false]) W := by kernel_rfl
theorem assert_wo_w (W : World) (x : Value) : (Instr.typeAssert (.iface 139 (.agg #[x])) 131 139 true).run Tryz.prog W = .ok (.tuple #[.agg #[x], .bool true]) W := by kernel_rfl
theorem assert_wo_i (W : World) (x : Value) : (Instr.typeAssert (.iface 137 x) 131 139 true).run Tryz.prog W = .ok (.tuple #[.agg #[.nilIface], .bool false]) W := by kernel_rfl
theorem assert_wo_e (W : World) (x : Value) : (Instr.typeAssert (.iface 146 x) 131 139 true).run Tryz.prog W = .ok (.tuple #[.agg #[.nilIface], .bool false]) W := by kernel_rfl
theorem assert_wo_s (W : World) (x : Value) : (Instr.typeAssert (.iface 141 x) 131 139 true).run Tryz.prog W = .ok (.tuple #[.agg #[.nilIface], .bool false]) W := by kernel_rfl
theorem assert_it_i (W : World) : (Instr.typeAssert (.iface 137 (.agg #[])) 131 137 true).run Tryz.prog W = .ok (.tuple #[.agg #[], .bool true]) W := by kernel_rfl
theorem assert_it_e (W : World) (x : Value) : (Instr.typeAssert (.iface 146 x) 131 137 true).run Tryz.prog W = .ok (.tuple #[.agg #[], .bool false]) W := by kernel_rfl
theorem assert_it_s (W : World) (x : Value) : (Instr.typeAssert (.iface 141 x) 131 137 true).run Tryz.prog W = .ok (.tuple #[.agg #[], .bool false]) W := by kernel_rfl

theorem body_leaf (w : World) (B : Nat) (x : List UInt8) (T : TypeId) (b : Nat) (t : Tm) (hT : T = 87 ∨ T = 90) (h : TV w B t (.iface T (.pointer (some ⟨b, 0, none⟩)))) :
    Calls Tryz.prog 68 #[.iface T (.pointer (some ⟨b, 0, none⟩)), str x] w (BodyPost w B (.without t)) := by
  have HT := Lib.hid h
  clear h
  have ha1 := assert_k w (.pointer (some ⟨b, 0, none⟩))
  have ha2 := assert_s w (.pointer (some ⟨b, 0, none⟩))
  have ha3 := assert_nm_k w (.pointer (some ⟨b, 0, none⟩))
  have ha4 := assert_nm_s w (.pointer (some ⟨b, 0, none⟩))
  rcases hT with rfl | rfl
  all_goals
    go_enter Tryz.func68, Tryz.ntmps68
    go_wp2_with fail
    go_ret
    exact ⟨_, rfl, Below.refl _ _, _, rfl, HT.out⟩

theorem body_name (w : World) (B : Nat) (x n : List UInt8) (b : Nat) (h : TV w B (.nm n) (.iface 63 (.pointer (some ⟨b, 0, none⟩)))) :
    Calls Tryz.prog 68 #[.iface 63 (.pointer (some ⟨b, 0, none⟩)), str x] w (BodyPost w B (Bd.of x (.nm n))) := by
  have HT := Lib.hid h
  obtain ⟨b', fr, hv, hb, hh⟩ := h
  injection hv with _ hv
  injection hv with hv
  injection hv with hv
  injection hv with hv _ _
  subst hv
  have c0 : w.cell? ⟨b, 0, none⟩ = some (str n) := cell_of_heap hh
  have ha1 := assert_nm_n w (.pointer (some ⟨b, 0, none⟩))
  have ha2 := assert_n w (.pointer (some ⟨b, 0, none⟩))
  clear hh
  by_cases hn : n = x
  · subst hn
    rw [show Bd.of n (.nm n) = .itself by simp [Bd.of]]
    go_enter Tryz.func68, Tryz.ntmps68
    go_wp2_with fail
    go_ret
    exact ⟨_, rfl, Below.refl _ _, rfl⟩
  · have hne : (n == x) = false := beq_eq_false_iff_ne.2 hn
    rw [show Bd.of x (.nm n) = .without (.nm n) by simp [Bd.of, hn]]
    clear hn
    go_enter Tryz.func68, Tryz.ntmps68
    go_wp2_with fail
    go_ret
    exact ⟨_, rfl, Below.refl _ _, _, rfl, HT.out⟩

/-- What is known when the parts of an application are looked at. -/
theorem body_parts (W : World) (B b : Nat) (x : List UInt8) (f a : Tm) (b1 b2 : Bd) (T1 T2 : TypeId) (x1 x2 : Value) (hT : TV W B (.app f a) (.iface 59 (.pointer (some ⟨b, 0, none⟩)))) (hTf : TV W B f (.iface T1 x1))
    (h0 : ∀ W', Below W.heap.size W W' → W'.cell? ⟨b, 0, none⟩ = some (.iface T1 x1)) (h1 : ∀ W', Below W.heap.size W W' → W'.cell? ⟨b, 1, none⟩ = some (.iface T2 x2))
    (hf : ∀ W', Below W.heap.size W W' → Calls Tryz.prog 68 #[.iface T1 x1, str x] W' (BodyPost W' B b1))
    (ha : ∀ W', Below W.heap.size W W' → Calls Tryz.prog 68 #[.iface T2 x2, str x] W' (BodyPost W' B b2)) :
    Calls Tryz.prog 77 #[.pointer (some ⟨b, 0, none⟩), str x] W (BodyPost W B (Bd.comb f a b1 b2)) := by
  have hself := Below.refl W.heap.size W
  have HT := Lib.hid hT
  have HTF := Lib.hid hTf
  clear hT hTf
  unfold BodyPost at hf ha
  cases b1 with
  | itself =>
    rw [show Bd.comb f a .itself b2 = .inside .itself b2 by cases b2 <;> rfl]
    go_enter Tryz.func77, Tryz.ntmps77
    go_wp2_with fail
    go_region_held3 (fun W' => Below W.heap.size W W') (first | assumption | exact hself.drew | go_keep)
      (first
        | (go_at_call_of 68 x1; refine (hf _ (by first | assumption | exact hself.drew)).mono ?_; rintro e w1 ⟨r1, rfl, hb1, hv1⟩; (obtain rfl : r1 = .iface 137 (.agg #[]) := hv1); have hb1' := below_trans (by first | assumption | exact hself.drew) hb1)
        | (go_at_call_of 68 x2; refine (ha _ (by assumption)).mono ?_; rintro e w2 ⟨r2, rfl, hb2, hv2⟩; obtain ⟨T4, x4, rfl⟩ := hv2.form; have HV2 := Lib.hid hv2; clear hv2; have hb2' := below_trans (by assumption) hb2))
    all_goals
      have has := fun W' => assert_wo_i W' (.agg #[])
      go_wp2_with fail
      go_ret
      exact ⟨_, rfl, (hb2'.alloc hb2'.size _), _, _, rfl, rfl, HV2.out.below (below_new _ _)⟩
  | atEnd t =>
    rw [show Bd.comb f a (.atEnd t) b2 = .inside (.atEnd t) b2 by cases b2 <;> rfl]
    go_enter Tryz.func77, Tryz.ntmps77
    go_wp2_with fail
    go_region_held3 (fun W' => Below W.heap.size W W') (first | assumption | exact hself.drew | go_keep)
      (first
        | (go_at_call_of 68 x1; refine (hf _ (by first | assumption | exact hself.drew)).mono ?_; rintro e w1 ⟨r1, rfl, hb1, hv1⟩; obtain ⟨y1, rfl, hy1⟩ := hv1; have HY1 := Lib.hid hy1; clear hy1; have hb1' := below_trans (by first | assumption | exact hself.drew) hb1)
        | (go_at_call_of 68 x2; refine (ha _ (by assumption)).mono ?_; rintro e w2 ⟨r2, rfl, hb2, hv2⟩; obtain ⟨T4, x4, rfl⟩ := hv2.form; have HV2 := Lib.hid hv2; clear hv2; have hb2' := below_trans (by assumption) hb2))
    all_goals
      have has := fun W' => assert_wo_e W' (.agg #[y1])
      go_wp2_with fail
      go_ret
      exact ⟨_, rfl, (hb2'.alloc hb2'.size _), _, _, rfl, ⟨_, rfl, HY1.out.below (below_trans hb2 (below_new _ _))⟩, HV2.out.below (below_new _ _)⟩
  | inside c d =>
    rw [show Bd.comb f a (.inside c d) b2 = .inside (.inside c d) b2 by cases b2 <;> rfl]
    go_enter Tryz.func77, Tryz.ntmps77
    go_wp2_with fail
    go_region_held3 (fun W' => Below W.heap.size W W') (first | assumption | exact hself.drew | go_keep)
      (first
        | (go_at_call_of 68 x1; refine (hf _ (by first | assumption | exact hself.drew)).mono ?_; rintro e w1 ⟨r1, rfl, hb1, hv1⟩; obtain ⟨y1, z1, rfl, hy1, hz1⟩ := hv1; have HY1 := Lib.hid hy1; have HZ1 := Lib.hid hz1; clear hy1 hz1; have hb1' := below_trans (by first | assumption | exact hself.drew) hb1)
        | (go_at_call_of 68 x2; refine (ha _ (by assumption)).mono ?_; rintro e w2 ⟨r2, rfl, hb2, hv2⟩; obtain ⟨T4, x4, rfl⟩ := hv2.form; have HV2 := Lib.hid hv2; clear hv2; have hb2' := below_trans (by assumption) hb2))
    all_goals
      have has := fun W' => assert_wo_s W' (.agg #[y1, z1])
      go_wp2_with fail
      go_ret
      exact ⟨_, rfl, (hb2'.alloc hb2'.size _), _, _, rfl, ⟨_, _, rfl, HY1.out.below (below_trans hb2 (below_new _ _)), HZ1.out.below (below_trans hb2 (below_new _ _))⟩, HV2.out.below (below_new _ _)⟩
  | without t =>
    cases b2 with
    | itself =>
      rw [show Bd.comb f a (.without t) .itself = .atEnd f from rfl]
      go_enter Tryz.func77, Tryz.ntmps77
      go_wp2_with fail
      go_region_held3 (fun W' => Below W.heap.size W W') (first | assumption | exact hself.drew | go_keep)
        (first
          | (go_at_call_of 68 x1; refine (hf _ (by first | assumption | exact hself.drew)).mono ?_; rintro e w1 ⟨r1, rfl, hb1, hv1⟩; obtain ⟨y1, rfl, hy1⟩ := hv1; obtain ⟨S1, z1, rfl, _⟩ := hy1.asks; clear hy1; have hb1' := below_trans (by first | assumption | exact hself.drew) hb1)
          | (go_at_call_of 68 x2; refine (ha _ (by assumption)).mono ?_; rintro e w2 ⟨r2, rfl, hb2, hv2⟩; (obtain rfl : r2 = .iface 137 (.agg #[]) := hv2); have hb2' := below_trans (by assumption) hb2))
      all_goals
        have has := fun W' => assert_wo_w W' (.iface S1 z1)
        have has2 := fun W' => assert_wo_i W' (.agg #[])
        have has3 := assert_it_i
        have h0' := h0 _ (hb2'.alloc hb2'.size (.cells #[.iface S1 z1] 139))
        go_wp2_with fail
        go_ret
        exact ⟨_, rfl, (hb2'.alloc hb2'.size _), _, rfl, HTF.out.below (hb2'.alloc hb2'.size _)⟩
    | atEnd u =>
      rw [show Bd.comb f a (.without t) (.atEnd u) = .inside (.without t) (.atEnd u) from rfl]
      go_enter Tryz.func77, Tryz.ntmps77
      go_wp2_with fail
      go_region_held3 (fun W' => Below W.heap.size W W') (first | assumption | exact hself.drew | go_keep)
        (first
          | (go_at_call_of 68 x1; refine (hf _ (by first | assumption | exact hself.drew)).mono ?_; rintro e w1 ⟨r1, rfl, hb1, hv1⟩; obtain ⟨y1, rfl, hy1⟩ := hv1; obtain ⟨S1, z1, rfl, _⟩ := hy1.asks; have HY1 := Lib.hid hy1; clear hy1; have hb1' := below_trans (by first | assumption | exact hself.drew) hb1)
          | (go_at_call_of 68 x2; refine (ha _ (by assumption)).mono ?_; rintro e w2 ⟨r2, rfl, hb2, hv2⟩; obtain ⟨y2, rfl, hy2⟩ := hv2; have HY2 := Lib.hid hy2; clear hy2; have hb2' := below_trans (by assumption) hb2))
      all_goals
        have has := fun W' => assert_wo_w W' (.iface S1 z1)
        have has2 := fun W' => assert_wo_e W' (.agg #[y2])
        have has3 := fun W' => assert_it_e W' (.agg #[y2])
        go_wp2_with fail
        go_ret
        exact ⟨_, rfl, (hb2'.alloc hb2'.size _), _, _, rfl, ⟨_, rfl, HY1.out.below (below_trans hb2 (below_new _ _))⟩, ⟨_, rfl, HY2.out.below (below_new _ _)⟩⟩
    | inside c d =>
      rw [show Bd.comb f a (.without t) (.inside c d) = .inside (.without t) (.inside c d) from rfl]
      go_enter Tryz.func77, Tryz.ntmps77
      go_wp2_with fail
      go_region_held3 (fun W' => Below W.heap.size W W') (first | assumption | exact hself.drew | go_keep)
        (first
          | (go_at_call_of 68 x1; refine (hf _ (by first | assumption | exact hself.drew)).mono ?_; rintro e w1 ⟨r1, rfl, hb1, hv1⟩; obtain ⟨y1, rfl, hy1⟩ := hv1; obtain ⟨S1, z1, rfl, _⟩ := hy1.asks; have HY1 := Lib.hid hy1; clear hy1; have hb1' := below_trans (by first | assumption | exact hself.drew) hb1)
          | (go_at_call_of 68 x2; refine (ha _ (by assumption)).mono ?_; rintro e w2 ⟨r2, rfl, hb2, hv2⟩; obtain ⟨y2, z2, rfl, hy2, hz2⟩ := hv2; have HY2 := Lib.hid hy2; have HZ2 := Lib.hid hz2; clear hy2 hz2; have hb2' := below_trans (by assumption) hb2))
      all_goals
        have has := fun W' => assert_wo_w W' (.iface S1 z1)
        have has2 := fun W' => assert_wo_s W' (.agg #[y2, z2])
        have has3 := fun W' => assert_it_s W' (.agg #[y2, z2])
        go_wp2_with fail
        go_ret
        exact ⟨_, rfl, (hb2'.alloc hb2'.size _), _, _, rfl, ⟨_, rfl, HY1.out.below (below_trans hb2 (below_new _ _))⟩, ⟨_, _, rfl, HY2.out.below (below_new _ _), HZ2.out.below (below_new _ _)⟩⟩
    | without u =>
      rw [show Bd.comb f a (.without t) (.without u) = .without (.app f a) from rfl]
      go_enter Tryz.func77, Tryz.ntmps77
      go_wp2_with fail
      go_region_held3 (fun W' => Below W.heap.size W W') (first | assumption | exact hself.drew | go_keep)
        (first
          | (go_at_call_of 68 x1; refine (hf _ (by first | assumption | exact hself.drew)).mono ?_; rintro e w1 ⟨r1, rfl, hb1, hv1⟩; obtain ⟨y1, rfl, hy1⟩ := hv1; obtain ⟨S1, z1, rfl, _⟩ := hy1.asks; clear hy1; have hb1' := below_trans (by first | assumption | exact hself.drew) hb1)
          | (go_at_call_of 68 x2; refine (ha _ (by assumption)).mono ?_; rintro e w2 ⟨r2, rfl, hb2, hv2⟩; obtain ⟨y2, rfl, hy2⟩ := hv2; obtain ⟨S2, z2, rfl, _⟩ := hy2.asks; clear hy2; have hb2' := below_trans (by assumption) hb2))
      all_goals
        have has := fun W' => assert_wo_w W' (.iface S1 z1)
        have has2 := fun W' => assert_wo_w W' (.iface S2 z2)
        go_wp2_with fail
        go_ret
        exact ⟨_, rfl, (hb2'.alloc hb2'.size _), _, rfl, HT.out.below (hb2'.alloc hb2'.size _)⟩
end Go.Proofs.YtfpekihdoclncaaGreat

namespace Go.Proofs.YtfpekihdoclncaaGreat
open Go.RowKit

set_option maxHeartbeats 4000000
set_option maxRecDepth 100000

def TreePost (w : World) (t : Tm) (e : Ending) (w' : World) : Prop :=
  ∃ s ao n c, e = .returned (.agg #[str s, .slice ao n c]) ∧ After w w' ∧ ST w' t (.agg #[str s, .slice ao n c])

theorem s_app (w : World) (f a : Tm) (s1 s2 : List UInt8) (a1 a2 : Option Addr) (n1 c1 n2 c2 g : Nat) (fr : Nat × Nat) (hf : ST w f (.agg #[str s1, .slice a1 n1 c1])) (ha : ST w a (.agg #[str s2, .slice a2 n2 c2]))
    (hg : w.heap[g]? = some (.cells #[str s2, .slice a2 n2 c2] 42 fr)) :
    Calls Tryz.prog 19 #[.agg #[str s1, .slice a1 n1 c1], .slice (some ⟨g, 0, none⟩) 1 1] w (TreePost w (f.app a)) := by
  have k0 : w.cell? ⟨g, 0, none⟩ = some (str s2) := cell_of_heap hg
  have k1 : w.cell? ⟨g, 1, none⟩ = some (.slice a2 n2 c2) := cell_of_heap hg
  have hlt := (Array.getElem?_eq_some_iff.1 hg).1
  have HF := Lib.hid hf
  have HA := Lib.hid ha
  clear hf ha hg
  go_enter Tryz.func19, Tryz.ntmps19
  go_wp2_with fail
  refine wp_loop_rounds 2 ?_
  rw [rounds_succ]
  go_wp2_with fail
  go_region
  go_wp2_with fail
  rw [rounds_succ]
  go_wp2_with fail
  have hx := ((After.new w (.cells #[.string ⟨#[]⟩, .slice (some ⟨w.heap.size + 1 + 1, 0, none⟩) 2 2] 42)).alloc (.cells #[.string ⟨#[]⟩, .slice (some ⟨w.heap.size + 1 + 1, 0, none⟩) 2 2] 42)).alloc (.cells #[str s1, .slice a1 n1 c1, str s2, .slice a2 n2 c2] 42)
  refine bodyPost_ret (v := .agg #[.string ⟨#[]⟩, .slice (some ⟨w.heap.size + 1 + 1, 0, none⟩) 2 2]) (by simp [results, Tryz.results19, go_sem]) rfl ⟨[], some ⟨w.heap.size + 1 + 1, 0, none⟩, 2, 2, rfl, hx.drew, ?_⟩
  exact ⟨w.heap.size + 1 + 1, 2, (0, 0), _, _, _, _, rfl, heap_new2 _ _ _ _ (by simp), HF.out.later hx.drew, HA.out.later hx.drew⟩

def RedexPost (w : World) (r : Option Tm) (e : Ending) (w' : World) : Prop :=
  ∃ s ao n c, e = .returned (.tuple #[.agg #[str s, .slice ao n c], .bool r.isSome]) ∧ After w w' ∧ ∀ u, r = some u → ST w' u (.agg #[str s, .slice ao n c])

theorem RedexPost.no {w w' : World} (hb : After w w') (s : List UInt8) (ao : Option Addr) (n c : Nat) : RedexPost w none (.returned (.tuple #[.agg #[str s, .slice ao n c], .bool false])) w' :=
  ⟨s, ao, n, c, rfl, hb, fun u hu => by simp at hu⟩

/-- W is X but for new blocks and block r. -/
def ButFor (X : World) (r : Nat) (W : World) : Prop := X.heap.size ≤ W.heap.size ∧ ∀ k, k < X.heap.size → k ≠ r → W.heap[k]? = X.heap[k]?

theorem ButFor.cell {X W : World} {r b i : Nat} {v : Value} (h : ButFor X r W) (hr : b ≠ r) (hc : X.cell? ⟨b, i, none⟩ = some v) : W.cell? ⟨b, i, none⟩ = some v := by
  rw [World.cell?_of_block (w := X) (a := ⟨b, i, none⟩) (h.2 b (World.block_lt_of_cell? _ _ hc) hr)]; exact hc
theorem ButFor.alloc {X W : World} {r : Nat} (h : ButFor X r W) (o : Obj) : ButFor X r (W.alloc o) := ⟨by simp; have := h.1; omega, fun k hk hr => by rw [Below.heap_alloc _ _ _ (Nat.lt_of_lt_of_le hk h.1)]; exact h.2 k hk hr⟩
theorem ButFor.after {X W W' : World} {r : Nat} (h : ButFor X r W) (g : After W W') : ButFor X r W' := ⟨Nat.le_trans h.1 g.size, fun k hk hr => by rw [g.block k (Nat.lt_of_lt_of_le hk h.1)]; exact h.2 k hk hr⟩
theorem ButFor.set {X W : World} {r : Nat} (h : ButFor X r W) (i : Nat) (v : Value) : ButFor X r (W.setCell ⟨r, i, none⟩ v) := ⟨by simp [World.setCell]; exact h.1, fun k hk hr => by rw [Below.heap_setCell _ _ _ _ (by simpa using hr)]; exact h.2 k hk hr⟩

theorem After.butFor {X W : World} {r : Nat} (h : After X W) : ButFor X r W := ⟨h.size, fun k hk _ => h.block k hk⟩
theorem ST.sets2 {W : World} {b : Nat} {x y u u' : Value} {T : TypeId} {fr : Nat × Nat} {t : Tm} {v : Value} (h : ST W t v) (hh : W.heap[b]? = some (.cells #[x, y] T fr)) {i j : Nat} : ST ((W.setCell ⟨b, i, none⟩ u).setCell ⟨b, j, none⟩ u') t v := by
  refine h.kept fun g cs T' fr' hs hg => ?_
  have hne : g ≠ b := by
    rintro rfl
    rw [hh] at hg
    injection hg with hg
    injection hg with hg _ _
    subst hg
    simp at hs
  rw [Below.heap_setCell _ _ _ _ hne, Below.heap_setCell _ _ _ _ hne]
  exact hg

theorem heap_old2 (W : World) (o p : Obj) : ((W.alloc o).alloc p).heap[W.heap.size]? = some o := by
  rw [Below.heap_alloc _ _ _ (by simp)]; exact heap_new' W o

theorem heap_new3 (w : World) (a b c : Obj) : (((w.alloc a).alloc b).alloc c).heap[w.heap.size + 1 + 1]? = some c := heap_new2 (w.alloc a) (w.heap.size + 1) b c (by simp)
theorem heap_new4 (w : World) (a b c d : Obj) : ((((w.alloc a).alloc b).alloc c).alloc d).heap[w.heap.size + 1 + 1 + 1]? = some d := heap_new2 ((w.alloc a).alloc b) (w.heap.size + 1 + 1) c d (by simp)

theorem redex_atom (w : World) (x : List UInt8) (ao : Option Addr) (n c : Nat) (hx : x ≠ []) : Calls Tryz.prog 79 #[.agg #[str x, .slice ao n c]] w (RedexPost w none) := by
  have he : x.isEmpty = false := by cases x with | nil => exact absurd rfl hx | cons => rfl
  clear hx
  go_enter Tryz.func79, Tryz.ntmps79
  go_wp2_with fail
  exact bodyPost_ret (v := .tuple #[.agg #[str x, .slice ao n c], .bool false]) (by simp [results, Tryz.results79, go_sem]) rfl (RedexPost.no ((After.new _ _).alloc _) _ _ _ _)

theorem redex_atom2 (w : World) (g1 q1 : Nat) (x1 : List UInt8) (k0 : w.cell? ⟨g1, 0, none⟩ = some (str x1)) (hlt : g1 < w.heap.size) (hx : x1 ≠ []) : Calls Tryz.prog 79 #[.agg #[str [], .slice (some ⟨g1, 0, none⟩) 2 q1]] w (RedexPost w none) := by
  have he : x1.isEmpty = false := by cases x1 with | nil => exact absurd rfl hx | cons => rfl
  clear hx
  go_enter Tryz.func79, Tryz.ntmps79
  go_wp2_with fail
  exact bodyPost_ret (v := .tuple #[.agg #[str [], .slice (some ⟨g1, 0, none⟩) 2 q1], .bool false]) (by simp [results, Tryz.results79, go_sem]) rfl (RedexPost.no ((After.new _ _).alloc _) _ _ _ _)

section
variable (w : World) (g1 q1 g2 q2 : Nat) (y1 x2 y2 : List UInt8) (b1 a2 b2 : Option Addr) (m1 d1 n2 m2 c2 d2 : Nat)
  (k0 : w.cell? ⟨g1, 0, none⟩ = some (str [])) (k1 : w.cell? ⟨g1, 1, none⟩ = some (.slice (some ⟨g2, 0, none⟩) 2 q2)) (k2 : w.cell? ⟨g1, 2, none⟩ = some (str y1)) (k3 : w.cell? ⟨g1, 3, none⟩ = some (.slice b1 m1 d1)) (hlt : g1 < w.heap.size)
  (j0 : w.cell? ⟨g2, 0, none⟩ = some (str x2)) (j1 : w.cell? ⟨g2, 1, none⟩ = some (.slice a2 n2 c2)) (j2 : w.cell? ⟨g2, 2, none⟩ = some (str y2)) (j3 : w.cell? ⟨g2, 3, none⟩ = some (.slice b2 m2 d2)) (hlt2 : g2 < w.heap.size)
include k0 k1 k2 k3 hlt j0 j1 j2 j3 hlt2
theorem redex_k (hx : x2 = [107]) (m : Tm) (hm : ST w m (.agg #[str y2, .slice b2 m2 d2])) : Calls Tryz.prog 79 #[.agg #[str [], .slice (some ⟨g1, 0, none⟩) 2 q1]] w (RedexPost w (some m)) := by
  have _u := And.intro k2 (And.intro k3 j1)
  clear _u
  subst hx
  have u1 : g1 < w.heap.size + 1 := by omega
  have u2 : g1 < w.heap.size + 1 + 1 := by omega
  have u3 : g2 < w.heap.size + 1 := by omega
  have u4 : g2 < w.heap.size + 1 + 1 := by omega
  have HM := Lib.hid hm
  clear hm
  go_enter Tryz.func79, Tryz.ntmps79
  go_wp2_with fail
  have hb : After w (((w.alloc (.cells #[str [], .slice (some ⟨g1, 0, none⟩) 2 q1] 42)).alloc (.cells #[str y2, .slice b2 m2 d2] 42)).alloc (.cells #[str [], .slice (some ⟨g2, 0, none⟩) 2 q2] 42)) := ((After.new _ _).alloc _).alloc _
  exact bodyPost_ret (v := .tuple #[.agg #[str y2, .slice b2 m2 d2], .bool true]) (by simp [results, Tryz.results79, go_sem]) rfl ⟨_, _, _, _, rfl, hb, fun u hu => by obtain rfl := Option.some.inj hu; exact HM.out.later hb⟩

theorem redex_atom3 (hx : x2 ≠ []) (hk : x2 ≠ [107]) : Calls Tryz.prog 79 #[.agg #[str [], .slice (some ⟨g1, 0, none⟩) 2 q1]] w (RedexPost w none) := by
  have _u := And.intro k2 (And.intro k3 (And.intro j1 (And.intro j2 j3)))
  clear _u
  have u1 : g1 < w.heap.size + 1 := by omega
  have u2 : g1 < w.heap.size + 1 + 1 := by omega
  have u3 : g2 < w.heap.size + 1 := by omega
  have u4 : g2 < w.heap.size + 1 + 1 := by omega
  have he : x2.isEmpty = false := by cases x2 with | nil => exact absurd rfl hx | cons => rfl
  have hk' : (x2 == [107]) = false := beq_eq_false_iff_ne.2 hk
  clear hx hk
  go_enter Tryz.func79, Tryz.ntmps79
  go_wp2_with fail
  exact bodyPost_ret (v := .tuple #[.agg #[str [], .slice (some ⟨g1, 0, none⟩) 2 q1], .bool false]) (by simp [results, Tryz.results79, go_sem]) rfl (RedexPost.no (((After.new _ _).alloc _).alloc _) _ _ _ _)
end

section
variable (w : World) (g1 q1 g2 q2 g3 q3 : Nat) (y1 y2 x3 y3 : List UInt8) (b1 b2 a3 b3 : Option Addr) (m1 d1 m2 d2 n3 c3 m3 d3 : Nat)
  (k0 : w.cell? ⟨g1, 0, none⟩ = some (str [])) (k1 : w.cell? ⟨g1, 1, none⟩ = some (.slice (some ⟨g2, 0, none⟩) 2 q2)) (k2 : w.cell? ⟨g1, 2, none⟩ = some (str y1)) (k3 : w.cell? ⟨g1, 3, none⟩ = some (.slice b1 m1 d1)) (hlt : g1 < w.heap.size)
  (j0 : w.cell? ⟨g2, 0, none⟩ = some (str [])) (j1 : w.cell? ⟨g2, 1, none⟩ = some (.slice (some ⟨g3, 0, none⟩) 2 q3)) (j2 : w.cell? ⟨g2, 2, none⟩ = some (str y2)) (j3 : w.cell? ⟨g2, 3, none⟩ = some (.slice b2 m2 d2)) (hlt2 : g2 < w.heap.size)
  (i0 : w.cell? ⟨g3, 0, none⟩ = some (str x3)) (i1 : w.cell? ⟨g3, 1, none⟩ = some (.slice a3 n3 c3)) (i2 : w.cell? ⟨g3, 2, none⟩ = some (str y3)) (i3 : w.cell? ⟨g3, 3, none⟩ = some (.slice b3 m3 d3)) (hlt3 : g3 < w.heap.size)
include k0 k1 k2 k3 hlt j0 j1 j2 j3 hlt2 i0 i1 i2 i3 hlt3
theorem redex_deep (hx : x3 ≠ [115]) : Calls Tryz.prog 79 #[.agg #[str [], .slice (some ⟨g1, 0, none⟩) 2 q1]] w (RedexPost w none) := by
  have _u := And.intro k2 (And.intro k3 (And.intro j2 (And.intro j3 (And.intro i1 (And.intro i2 i3)))))
  clear _u
  have u1 : g1 < w.heap.size + 1 := by omega
  have u2 : g1 < w.heap.size + 1 + 1 := by omega
  have u3 : g2 < w.heap.size + 1 := by omega
  have u4 : g2 < w.heap.size + 1 + 1 := by omega
  have u5 : g3 < w.heap.size + 1 := by omega
  have u6 : g3 < w.heap.size + 1 + 1 := by omega
  have hk' : (x3 == [115]) = false := beq_eq_false_iff_ne.2 hx
  clear hx
  go_enter Tryz.func79, Tryz.ntmps79
  go_wp2_with fail
  exact bodyPost_ret (v := .tuple #[.agg #[str [], .slice (some ⟨g1, 0, none⟩) 2 q1], .bool false]) (by simp [results, Tryz.results79, go_sem]) rfl (RedexPost.no (((After.new _ _).alloc _).alloc _) _ _ _ _)

theorem redex_s (hx : x3 = [115]) (m n p : Tm) (hm : ST w m (.agg #[str y3, .slice b3 m3 d3])) (hn : ST w n (.agg #[str y2, .slice b2 m2 d2])) (hp : ST w p (.agg #[str y1, .slice b1 m1 d1])) :
    Calls Tryz.prog 79 #[.agg #[str [], .slice (some ⟨g1, 0, none⟩) 2 q1]] w (RedexPost w (some ((m.app p).app (n.app p)))) := by
  have _u := And.intro k2 i1
  clear _u
  subst hx
  have u1 : g1 < w.heap.size + 1 := by omega
  have u2 : g1 < w.heap.size + 1 + 1 := by omega
  have u3 : g2 < w.heap.size + 1 := by omega
  have u4 : g2 < w.heap.size + 1 + 1 := by omega
  have u5 : g3 < w.heap.size + 1 := by omega
  have u6 : g3 < w.heap.size + 1 + 1 := by omega
  have v1 : g1 < w.heap.size + 1 + 1 + 1 := by omega
  have v2 : g2 < w.heap.size + 1 + 1 + 1 := by omega
  have v3 : g3 < w.heap.size + 1 + 1 + 1 := by omega
  have HM := Lib.hid hm
  have HN := Lib.hid hn
  have HP := Lib.hid hp
  clear hm hn hp
  go_enter Tryz.func79, Tryz.ntmps79
  go_wp2_with fail
  obtain ⟨X, hX⟩ : ∃ X, X = ((((w.alloc (.cells #[str [], .slice (some ⟨g1, 0, none⟩) 2 q1] 42)).alloc (.cells #[.string ⟨#[]⟩, .slice none 0 0] 42)).alloc (.cells #[str [], .slice (some ⟨g2, 0, none⟩) 2 q2] 42)).alloc (.cells #[str y1, .slice b1 m1 d1] 42)) := ⟨_, rfl⟩
  have hwX : After w X := by rw [hX]; exact (((After.new _ _).alloc _).alloc _).alloc _
  have hF : X.heap[w.heap.size + 1 + 1]? = some (.cells #[str [], .slice (some ⟨g2, 0, none⟩) 2 q2] 42 (0, 0)) := by
    rw [hX, Below.heap_alloc _ _ _ (by simp)]; exact heap_new3 _ _ _ _
  have hP : X.heap[w.heap.size + 1 + 1 + 1]? = some (.cells #[str y1, .slice b1 m1 d1] 42 (0, 0)) := by
    rw [hX]; exact heap_new4 _ _ _ _ _
  have hR : X.heap[w.heap.size + 1]? = some (.cells #[.string ⟨#[]⟩, .slice none 0 0] 42 (0, 0)) := by
    rw [hX, Below.heap_alloc _ _ _ (by simp), Below.heap_alloc _ _ _ (by simp)]; exact heap_new2 _ _ _ _ rfl
  have hsz : X.heap.size = w.heap.size + 1 + 1 + 1 + 1 := by rw [hX]; simp
  have o1 : ∀ W, ButFor X (w.heap.size + 1) W → W.cell? ⟨w.heap.size + 1 + 1, 1, none⟩ = some (.slice (some ⟨g2, 0, none⟩) 2 q2) := fun W hW => hW.cell (by omega) (cell_of_heap hF)
  have o2 : ∀ W, ButFor X (w.heap.size + 1) W → W.cell? ⟨w.heap.size + 1 + 1 + 1, 0, none⟩ = some (str y1) := fun W hW => hW.cell (by omega) (cell_of_heap hP)
  have o3 : ∀ W, ButFor X (w.heap.size + 1) W → W.cell? ⟨w.heap.size + 1 + 1 + 1, 1, none⟩ = some (.slice b1 m1 d1) := fun W hW => hW.cell (by omega) (cell_of_heap hP)
  have o4 : ∀ W, ButFor X (w.heap.size + 1) W → W.cell? ⟨g2, 1, none⟩ = some (.slice (some ⟨g3, 0, none⟩) 2 q3) := fun W hW => hW.cell (by omega) (hwX.cell j1)
  have o5 : ∀ W, ButFor X (w.heap.size + 1) W → W.cell? ⟨g2, 2, none⟩ = some (str y2) := fun W hW => hW.cell (by omega) (hwX.cell j2)
  have o6 : ∀ W, ButFor X (w.heap.size + 1) W → W.cell? ⟨g2, 3, none⟩ = some (.slice b2 m2 d2) := fun W hW => hW.cell (by omega) (hwX.cell j3)
  have o7 : ∀ W, ButFor X (w.heap.size + 1) W → W.cell? ⟨g3, 2, none⟩ = some (str y3) := fun W hW => hW.cell (by omega) (hwX.cell i2)
  have o8 : ∀ W, ButFor X (w.heap.size + 1) W → W.cell? ⟨g3, 3, none⟩ = some (.slice b3 m3 d3) := fun W hW => hW.cell (by omega) (hwX.cell i3)
  have hself := After.refl X
  have hbf : ButFor X (w.heap.size + 1) X.drew := ⟨Nat.le_refl _, fun _ _ _ => rfl⟩
  have hres : ∀ W, After X W → W.cell? ⟨w.heap.size + 1, 0, none⟩ = some (.string ⟨#[]⟩) ∧ W.cell? ⟨w.heap.size + 1, 1, none⟩ = some (.slice none 0 0) ∧ W.frozen? ⟨w.heap.size + 1, 0, none⟩ = false ∧ W.frozen? ⟨w.heap.size + 1, 1, none⟩ = false := fun W hW => by
    have hh := hW.heap hR
    exact ⟨cell_of_heap hh, cell_of_heap hh, by simp [World.frozen?, hh], by simp [World.frozen?, hh]⟩
  rw [← hX]
  have HMX := Lib.hid (HM.out.later hwX)
  have HNX := Lib.hid (HN.out.later hwX)
  have HPX := Lib.hid (HP.out.later hwX)
  have HRES := Lib.hid hres
  have HWX := Lib.hid hwX
  clear hres HM HN HP k0 k1 k2 k3 j0 j1 j2 j3 i0 i1 i2 i3 hF hP hwX u1 u2 u3 u4 u5 u6 v1 v2 v3
  have HR := Lib.hid hR
  have HSZ := Lib.hid hsz
  clear hR hsz hX
  go_region_held3 (fun W' => ButFor X (w.heap.size + 1) W') (first | assumption | exact hbf | exact After.butFor (by assumption) | exact ButFor.alloc (by assumption) _ | exact ButFor.set (ButFor.set (by assumption) _ _) _ _ | go_keep)
    (first
      | (go_at_call_of 19 b3; refine (s_app _ m p y3 y1 b3 b1 m3 d3 m1 d1 _ (0, 0) ?_ ?_ ?_).mono ?_; exact HMX.out.later ((hself.alloc _).drew); exact HPX.out.later ((hself.alloc _).drew); exact heap_new' _ _; rintro e w1 ⟨t1, ao1, nn1, cc1, rfl, hb1, hs1⟩; have hA1 := After.trans ((hself.alloc _).drew) hb1)
      | (go_at_call_of 19 b3; refine (s_app _ m p y3 y1 b3 b1 m3 d3 m1 d1 _ (0, 0) ?_ ?_ ?_).mono ?_; exact HMX.out.later (((hself.alloc _).alloc _).drew); exact HPX.out.later (((hself.alloc _).alloc _).drew); exact heap_new2 _ _ _ _ rfl; rintro e w1 ⟨t1, ao1, nn1, cc1, rfl, hb1, hs1⟩; have hA1 := After.trans (((hself.alloc _).alloc _).drew) hb1)
      | (go_at_call_of 19 b3; refine (s_app _ m p y3 y1 b3 b1 m3 d3 m1 d1 _ (0, 0) ?_ ?_ ?_).mono ?_; exact HMX.out.later (((hself.alloc _).alloc _).drew); exact HPX.out.later (((hself.alloc _).alloc _).drew); exact heap_old2 _ _ _; rintro e w1 ⟨t1, ao1, nn1, cc1, rfl, hb1, hs1⟩; have hA1 := After.trans (((hself.alloc _).alloc _).drew) hb1)
      | (go_at_call_of 19 b2; refine (s_app _ n p y2 y1 b2 b1 m2 d2 m1 d1 _ (0, 0) ?_ ?_ ?_).mono ?_; exact HNX.out.later (hA1.alloc _); exact HPX.out.later (hA1.alloc _); exact heap_new' _ _; rintro e w2 ⟨t2, ao2, nn2, cc2, rfl, hb2, hs2⟩; have hA2 := After.trans (hA1.alloc _) hb2; have hs1' := hs1.later (After.trans (After.new _ _) hb2))
      | (go_at_call_of 19 b2; refine (s_app _ n p y2 y1 b2 b1 m2 d2 m1 d1 _ (0, 0) ?_ ?_ ?_).mono ?_; exact HNX.out.later (hA1); exact HPX.out.later (hA1); exact hb1.heap (heap_new2 _ _ _ _ rfl); rintro e w2 ⟨t2, ao2, nn2, cc2, rfl, hb2, hs2⟩; have hA2 := After.trans (hA1) hb2; have hs1' := hs1.later (After.trans (After.refl _) hb2))
      | (go_at_call_of 19 b2; refine (s_app _ n p y2 y1 b2 b1 m2 d2 m1 d1 _ (0, 0) ?_ ?_ ?_).mono ?_; exact HNX.out.later (hA1); exact HPX.out.later (hA1); exact hb1.heap (heap_old2 _ _ _); rintro e w2 ⟨t2, ao2, nn2, cc2, rfl, hb2, hs2⟩; have hA2 := After.trans (hA1) hb2; have hs1' := hs1.later (After.trans (After.refl _) hb2))
      | (go_at_call_of 19 ao1; refine (s_app _ (m.app p) (n.app p) t1 t2 ao1 ao2 nn1 cc1 nn2 cc2 _ (0, 0) ?_ ?_ ?_).mono ?_; exact hs1'.later (After.new _ _); exact hs2.later (After.new _ _); exact heap_new' _ _; rintro e w3 ⟨t3, ao3, nn3, cc3, rfl, hb3, hs3⟩; have hA3 := After.trans (hA2.alloc _) hb3; obtain ⟨p0, p1, p2, p3⟩ := HRES.out _ hA3))
  all_goals
    go_wp2_with fail
    refine bodyPost_ret (v := .tuple #[.agg #[str t3, .slice ao3 nn3 cc3], .bool true]) (by simp [results, Tryz.results79, go_sem, p0, p1]) rfl ⟨t3, ao3, nn3, cc3, rfl, Below.setCell (Below.setCell (HWX.out.trans hA3) (by simp) _) (by simp) _, fun u hu => ?_⟩
    obtain rfl := Option.some.inj hu
    exact hs3.sets2 (hA3.heap HR.out)
end
end Go.Proofs.YtfpekihdoclncaaGreat
