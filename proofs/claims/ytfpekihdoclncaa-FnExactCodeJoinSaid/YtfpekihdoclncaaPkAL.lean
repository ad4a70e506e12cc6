/-
  The program's argumentBehind and pairParts; PairParts.
-/
import Derived.Test.YtfpekihdoclncaaPkAK
import Derived.Test.YtfpekihdoclncaaPkAE
import Derived.Test.YtfpekihdoclncaaPkAG
namespace Go.Proofs.Ytfpekihdoclncaa
open Go.RowKit

set_option maxHeartbeats 1000000
set_option maxRecDepth 100000

namespace Tm
def behind (F : List UInt8) : Tm → Option Tm
  | app f a => if text f = F then some a else none
  | _ => none
def parts : Tm → Option (Tm × Tm)
  | app x y => match behind [107] y with
    | none => none
    | some n => match behind [115] x with
      | none => none
      | some left => match behind [40, 115, 32, 40, 40, 115, 32, 107, 41, 32, 107, 41, 41] left with
        | none => none
        | some front => match behind [107] front with
          | none => none
          | some m => some (m, n)
  | _ => none
theorem behind_good {F : List UInt8} {t a : Tm} (h : behind F t = some a) (hg : good t = true) : good a = true ∧ a.size < t.size := by
  cases t with
  | app f b =>
    simp only [behind] at h
    split at h
    · obtain rfl := Option.some.inj h
      simp only [good, Bool.and_eq_true] at hg
      exact ⟨hg.2, by simp only [size]; have := size_pos f; omega⟩
    · simp at h
  | _ => simp [behind] at h
end Tm

def BehindPost (w : World) (B : Nat) (r : Option Tm) (e : Ending) (w' : World) : Prop :=
  ∃ v, e = .returned (.tuple #[v, .bool r.isSome]) ∧ Below w.heap.size w w' ∧ ∀ a, r = some a → TV w' B a v

theorem assert_app (W : World) (x : Value) : (Instr.typeAssert (.iface 81 x) 39 81 true).run Try.prog W = .ok (.tuple #[x, .bool true]) W := by kernel_rfl
theorem assert_k (W : World) (x : Value) : (Instr.typeAssert (.iface 72 x) 39 81 true).run Try.prog W = .ok (.tuple #[.pointer none, .bool false]) W := by kernel_rfl
theorem assert_s (W : World) (x : Value) : (Instr.typeAssert (.iface 77 x) 39 81 true).run Try.prog W = .ok (.tuple #[.pointer none, .bool false]) W := by kernel_rfl
theorem assert_n (W : World) (x : Value) : (Instr.typeAssert (.iface 85 x) 39 81 true).run Try.prog W = .ok (.tuple #[.pointer none, .bool false]) W := by kernel_rfl

def PartsPost (w : World) (B : Nat) (r : Option (Tm × Tm)) (e : Ending) (w' : World) : Prop :=
  ∃ v1 v2, e = .returned (.tuple #[v1, v2, .bool r.isSome]) ∧ Below w.heap.size w w' ∧ ∀ m n, r = some (m, n) → TV w' B m v1 ∧ TV w' B n v2

/-- What PairParts answers. -/
def pParts (l : List UInt8) : Option (List UInt8 × List UInt8) := match Tm.parse l with
  | some t => t.parts.map fun p => (p.1.text, p.2.text)
  | none => none

def TwoRes (w : World) (r : Option (List UInt8 × List UInt8)) (e : Ending) (w' : World) : Prop :=
  e = .returned (.tuple #[str ((r.map Prod.fst).getD []), str ((r.map Prod.snd).getD []), .bool r.isSome]) ∧ Below w.heap.size w w'

theorem parts_good {t m n : Tm} (h : t.parts = some (m, n)) (hg : t.good = true) : m.good = true ∧ n.good = true ∧ m.size < t.size ∧ n.size < t.size := by
  cases t with
  | app x y =>
    simp only [Tm.good, Bool.and_eq_true] at hg
    simp only [Tm.parts] at h
    split at h
    · simp at h
    · rename_i n' e1
      split at h
      · simp at h
      · rename_i left e2
        split at h
        · simp at h
        · rename_i front e3
          split at h
          · simp at h
          · rename_i m' e4
            simp only [Option.some.injEq, Prod.mk.injEq] at h
            obtain ⟨rfl, rfl⟩ := h
            have g1 := Tm.behind_good e1 hg.2
            have g2 := Tm.behind_good e2 hg.1
            have g3 := Tm.behind_good e3 g2.1
            have g4 := Tm.behind_good e4 g3.1
            simp only [Tm.size]
            exact ⟨g4.1, g1.1, by omega, by omega⟩
  | _ => simp [Tm.parts] at h

end Go.Proofs.Ytfpekihdoclncaa

namespace Go.Proofs.Ytfpekihdoclncaa
open Go.RowKit

set_option maxHeartbeats 2000000
set_option maxRecDepth 100000

def Bd.comb (f a : Tm) : Bd → Bd → Bd
  | .without _, .without _ => .without (.app f a)
  | .without _, .itself => .atEnd f
  | b1, b2 => .inside b1 b2
def Bd.of (x : List UInt8) : Tm → Bd
  | .nm n => if n = x then .itself else .without (.nm n)
  | .app f a => Bd.comb f a (Bd.of x f) (Bd.of x a)
  | t => .without t

def BodyPost (w : World) (B : Nat) (b : Bd) (e : Ending) (w' : World) : Prop := ∃ v, e = .returned v ∧ Below w.heap.size w w' ∧ BV w' B b v

theorem BV.form {w : World} {B : Nat} {b : Bd} {v : Value} (h : BV w B b v) : ∃ T x, v = .iface T x := by
  cases b with
  | itself => exact ⟨_, _, h⟩
  | without t => obtain ⟨x, rfl, _⟩ := h; exact ⟨_, _, rfl⟩
  | atEnd t => obtain ⟨x, rfl, _⟩ := h; exact ⟨_, _, rfl⟩
  | inside f a => obtain ⟨x, y, rfl, _⟩ := h; exact ⟨_, _, rfl⟩

theorem assert_nm_n (W : World) (x : Value) : (Instr.typeAssert (.iface 85 x) 39 85 true).run Try.prog W = .ok (.tuple #[x, .bool true]) W := by kernel_rfl
theorem assert_nm_k (W : World) (x : Value) : (Instr.typeAssert (.iface 72 x) 39 85 true).run Try.prog W = .ok (.tuple #[.pointer none, .bool false]) W := by kernel_rfl
theorem assert_nm_s (W : World) (x : Value) : (Instr.typeAssert (.iface 77 x) 39 85 true).run Try.prog W = .ok (.tuple #[.pointer none, .bool false]) W := by kernel_rfl
theorem assert_nm_a (W : World) (x : Value) : (Instr.typeAssert (.iface 81 x) 39 85 true).run Try.prog W = .ok (.tuple #[.pointer none, .bool false]) W := by kernel_rfl
theorem assert_wo_w (W : World) (x : Value) : (Instr.typeAssert (.iface 145 (.agg #[x])) 121 145 true).run Try.prog W = .ok (.tuple #[.agg #[x], .bool true]) W := by kernel_rfl
theorem assert_wo_i (W : World) (x : Value) : (Instr.typeAssert (.iface 143 x) 121 145 true).run Try.prog W = .ok (.tuple #[.agg #[.nilIface], .bool false]) W := by kernel_rfl
theorem assert_wo_e (W : World) (x : Value) : (Instr.typeAssert (.iface 152 x) 121 145 true).run Try.prog W = .ok (.tuple #[.agg #[.nilIface], .bool false]) W := by kernel_rfl
theorem assert_wo_s (W : World) (x : Value) : (Instr.typeAssert (.iface 147 x) 121 145 true).run Try.prog W = .ok (.tuple #[.agg #[.nilIface], .bool false]) W := by kernel_rfl
theorem assert_it_i (W : World) : (Instr.typeAssert (.iface 143 (.agg #[])) 121 143 true).run Try.prog W = .ok (.tuple #[.agg #[], .bool true]) W := by kernel_rfl
theorem assert_it_e (W : World) (x : Value) : (Instr.typeAssert (.iface 152 x) 121 143 true).run Try.prog W = .ok (.tuple #[.agg #[], .bool false]) W := by kernel_rfl
theorem assert_it_s (W : World) (x : Value) : (Instr.typeAssert (.iface 147 x) 121 143 true).run Try.prog W = .ok (.tuple #[.agg #[], .bool false]) W := by kernel_rfl

theorem body_leaf (w : World) (B : Nat) (x : List UInt8) (T : TypeId) (b : Nat) (t : Tm) (hT : T = 72 ∨ T = 77) (h : TV w B t (.iface T (.pointer (some ⟨b, 0, none⟩)))) :
    Calls Try.prog 90 #[.iface T (.pointer (some ⟨b, 0, none⟩)), str x] w (BodyPost w B (.without t)) := by
  have HT := Lib.hid h
  clear h
  have ha1 := assert_k w (.pointer (some ⟨b, 0, none⟩))
  have ha2 := assert_s w (.pointer (some ⟨b, 0, none⟩))
  have ha3 := assert_nm_k w (.pointer (some ⟨b, 0, none⟩))
  have ha4 := assert_nm_s w (.pointer (some ⟨b, 0, none⟩))
  rcases hT with rfl | rfl
  all_goals
    go_enter Try.func90, Try.ntmps90
    go_wp2_with fail
    go_ret
    exact ⟨_, rfl, Below.refl _ _, _, rfl, HT.out⟩

theorem body_name (w : World) (B : Nat) (x n : List UInt8) (b : Nat) (h : TV w B (.nm n) (.iface 85 (.pointer (some ⟨b, 0, none⟩)))) :
    Calls Try.prog 90 #[.iface 85 (.pointer (some ⟨b, 0, none⟩)), str x] w (BodyPost w B (Bd.of x (.nm n))) := by
  have HT := Lib.hid h
  obtain ⟨b', fr, hv, hb, hh⟩ := h
  injection hv with _ hv
  injection hv with hv
  injection hv with hv
  injection hv with hv _ _
  subst hv
  have c0 : w.cell? ⟨b, 0, none⟩ = some (str n) := cell_of_heap hh
  have ha1 := assert_nm_n w (.pointer (some ⟨b, 0, none⟩))
  have ha2 := assert_n w (.pointer (some ⟨b, 0, none⟩))
  clear hh
  by_cases hn : n = x
  · subst hn
    rw [show Bd.of n (.nm n) = .itself by simp [Bd.of]]
    go_enter Try.func90, Try.ntmps90
    go_wp2_with fail
    go_ret
    exact ⟨_, rfl, Below.refl _ _, rfl⟩
  · have hne : (n == x) = false := beq_eq_false_iff_ne.2 hn
    rw [show Bd.of x (.nm n) = .without (.nm n) by simp [Bd.of, hn]]
    clear hn
    go_enter Try.func90, Try.ntmps90
    go_wp2_with fail
    go_ret
    exact ⟨_, rfl, Below.refl _ _, _, rfl, HT.out⟩

/-- What is known when the parts of an application are looked at. -/
theorem body_parts (W : World) (B b : Nat) (x : List UInt8) (f a : Tm) (b1 b2 : Bd) (T1 T2 : TypeId) (x1 x2 : Value) (hT : TV W B (.app f a) (.iface 81 (.pointer (some ⟨b, 0, none⟩)))) (hTf : TV W B f (.iface T1 x1))
    (h0 : ∀ W', Below W.heap.size W W' → W'.cell? ⟨b, 0, none⟩ = some (.iface T1 x1)) (h1 : ∀ W', Below W.heap.size W W' → W'.cell? ⟨b, 1, none⟩ = some (.iface T2 x2))
    (hf : ∀ W', Below W.heap.size W W' → Calls Try.prog 90 #[.iface T1 x1, str x] W' (BodyPost W' B b1))
    (ha : ∀ W', Below W.heap.size W W' → Calls Try.prog 90 #[.iface T2 x2, str x] W' (BodyPost W' B b2)) :
    Calls Try.prog 103 #[.pointer (some ⟨b, 0, none⟩), str x] W (BodyPost W B (Bd.comb f a b1 b2)) := by
  have hself := Below.refl W.heap.size W
  have HT := Lib.hid hT
  have HTF := Lib.hid hTf
  clear hT hTf
  unfold BodyPost at hf ha
  cases b1 with
  | itself =>
    rw [show Bd.comb f a .itself b2 = .inside .itself b2 by cases b2 <;> rfl]
    go_enter Try.func103, Try.ntmps103
    go_wp2_with fail
    go_region_held3 (fun W' => Below W.heap.size W W') (first | assumption | exact hself.drew | go_keep)
      (first
        | (go_at_call_of 90 x1; refine (hf _ (by first | assumption | exact hself.drew)).mono ?_; rintro e w1 ⟨r1, rfl, hb1, hv1⟩; (obtain rfl : r1 = .iface 143 (.agg #[]) := hv1); have hb1' := below_trans (by first | assumption | exact hself.drew) hb1)
        | (go_at_call_of 90 x2; refine (ha _ (by assumption)).mono ?_; rintro e w2 ⟨r2, rfl, hb2, hv2⟩; obtain ⟨T4, x4, rfl⟩ := hv2.form; have HV2 := Lib.hid hv2; clear hv2; have hb2' := below_trans (by assumption) hb2))
    all_goals
      have has := fun W' => assert_wo_i W' (.agg #[])
      go_wp2_with fail
      go_ret
      exact ⟨_, rfl, (hb2'.alloc hb2'.size _), _, _, rfl, rfl, HV2.out.below (below_new _ _)⟩
  | atEnd t =>
    rw [show Bd.comb f a (.atEnd t) b2 = .inside (.atEnd t) b2 by cases b2 <;> rfl]
    go_enter Try.func103, Try.ntmps103
    go_wp2_with fail
    go_region_held3 (fun W' => Below W.heap.size W W') (first | assumption | exact hself.drew | go_keep)
      (first
        | (go_at_call_of 90 x1; refine (hf _ (by first | assumption | exact hself.drew)).mono ?_; rintro e w1 ⟨r1, rfl, hb1, hv1⟩; obtain ⟨y1, rfl, hy1⟩ := hv1; have HY1 := Lib.hid hy1; clear hy1; have hb1' := below_trans (by first | assumption | exact hself.drew) hb1)
        | (go_at_call_of 90 x2; refine (ha _ (by assumption)).mono ?_; rintro e w2 ⟨r2, rfl, hb2, hv2⟩; obtain ⟨T4, x4, rfl⟩ := hv2.form; have HV2 := Lib.hid hv2; clear hv2; have hb2' := below_trans (by assumption) hb2))
    all_goals
      have has := fun W' => assert_wo_e W' (.agg #[y1])
      go_wp2_with fail
      go_ret
      exact ⟨_, rfl, (hb2'.alloc hb2'.size _), _, _, rfl, ⟨_, rfl, HY1.out.below (below_trans hb2 (below_new _ _))⟩, HV2.out.below (below_new _ _)⟩
  | inside c d =>
    rw [show Bd.comb f a (.inside c d) b2 = .inside (.inside c d) b2 by cases b2 <;> rfl]
    go_enter Try.func103, Try.ntmps103
    go_wp2_with fail
    go_region_held3 (fun W' => Below W.heap.size W W') (first | assumption | exact hself.drew | go_keep)
      (first
        | (go_at_call_of 90 x1; refine (hf _ (by first | assumption | exact hself.drew)).mono ?_; rintro e w1 ⟨r1, rfl, hb1, hv1⟩; obtain ⟨y1, z1, rfl, hy1, hz1⟩ := hv1; have HY1 := Lib.hid hy1; have HZ1 := Lib.hid hz1; clear hy1 hz1; have hb1' := below_trans (by first | assumption | exact hself.drew) hb1)
        | (go_at_call_of 90 x2; refine (ha _ (by assumption)).mono ?_; rintro e w2 ⟨r2, rfl, hb2, hv2⟩; obtain ⟨T4, x4, rfl⟩ := hv2.form; have HV2 := Lib.hid hv2; clear hv2; have hb2' := below_trans (by assumption) hb2))
    all_goals
      have has := fun W' => assert_wo_s W' (.agg #[y1, z1])
      go_wp2_with fail
      go_ret
      exact ⟨_, rfl, (hb2'.alloc hb2'.size _), _, _, rfl, ⟨_, _, rfl, HY1.out.below (below_trans hb2 (below_new _ _)), HZ1.out.below (below_trans hb2 (below_new _ _))⟩, HV2.out.below (below_new _ _)⟩
  | without t =>
    cases b2 with
    | itself =>
      rw [show Bd.comb f a (.without t) .itself = .atEnd f from rfl]
      go_enter Try.func103, Try.ntmps103
      go_wp2_with fail
      go_region_held3 (fun W' => Below W.heap.size W W') (first | assumption | exact hself.drew | go_keep)
        (first
          | (go_at_call_of 90 x1; refine (hf _ (by first | assumption | exact hself.drew)).mono ?_; rintro e w1 ⟨r1, rfl, hb1, hv1⟩; obtain ⟨y1, rfl, hy1⟩ := hv1; obtain ⟨S1, z1, rfl, _⟩ := hy1.asks; clear hy1; have hb1' := below_trans (by first | assumption | exact hself.drew) hb1)
          | (go_at_call_of 90 x2; refine (ha _ (by assumption)).mono ?_; rintro e w2 ⟨r2, rfl, hb2, hv2⟩; (obtain rfl : r2 = .iface 143 (.agg #[]) := hv2); have hb2' := below_trans (by assumption) hb2))
      all_goals
        have has := fun W' => assert_wo_w W' (.iface S1 z1)
        have has2 := fun W' => assert_wo_i W' (.agg #[])
        have has3 := assert_it_i
        have h0' := h0 _ (hb2'.alloc hb2'.size (.cells #[.iface S1 z1] 145))
        go_wp2_with fail
        go_ret
        exact ⟨_, rfl, (hb2'.alloc hb2'.size _), _, rfl, HTF.out.below (hb2'.alloc hb2'.size _)⟩
    | atEnd u =>
      rw [show Bd.comb f a (.without t) (.atEnd u) = .inside (.without t) (.atEnd u) from rfl]
      go_enter Try.func103, Try.ntmps103
      go_wp2_with fail
      go_region_held3 (fun W' => Below W.heap.size W W') (first | assumption | exact hself.drew | go_keep)
        (first
          | (go_at_call_of 90 x1; refine (hf _ (by first | assumption | exact hself.drew)).mono ?_; rintro e w1 ⟨r1, rfl, hb1, hv1⟩; obtain ⟨y1, rfl, hy1⟩ := hv1; obtain ⟨S1, z1, rfl, _⟩ := hy1.asks; have HY1 := Lib.hid hy1; clear hy1; have hb1' := below_trans (by first | assumption | exact hself.drew) hb1)
          | (go_at_call_of 90 x2; refine (ha _ (by assumption)).mono ?_; rintro e w2 ⟨r2, rfl, hb2, hv2⟩; obtain ⟨y2, rfl, hy2⟩ := hv2; have HY2 := Lib.hid hy2; clear hy2; have hb2' := below_trans (by assumption) hb2))
      all_goals
        have has := fun W' => assert_wo_w W' (.iface S1 z1)
        have has2 := fun W' => assert_wo_e W' (.agg #[y2])
        have has3 := fun W' => assert_it_e W' (.agg #[y2])
        go_wp2_with fail
        go_ret
        exact ⟨_, rfl, (hb2'.alloc hb2'.size _), _, _, rfl, ⟨_, rfl, HY1.out.below (below_trans hb2 (below_new _ _))⟩, ⟨_, rfl, HY2.out.below (below_new _ _)⟩⟩
    | inside c d =>
      rw [show Bd.comb f a (.without t) (.inside c d) = .inside (.without t) (.inside c d) from rfl]
      go_enter Try.func103, Try.ntmps103
      go_wp2_with fail
      go_region_held3 (fun W' => Below W.heap.size W W') (first | assumption | exact hself.drew | go_keep)
        (first
          | (go_at_call_of 90 x1; refine (hf _ (by first | assumption | exact hself.drew)).mono ?_; rintro e w1 ⟨r1, rfl, hb1, hv1⟩; obtain ⟨y1, rfl, hy1⟩ := hv1; obtain ⟨S1, z1, rfl, _⟩ := hy1.asks; have HY1 := Lib.hid hy1; clear hy1; have hb1' := below_trans (by first | assumption | exact hself.drew) hb1)
          | (go_at_call_of 90 x2; refine (ha _ (by assumption)).mono ?_; rintro e w2 ⟨r2, rfl, hb2, hv2⟩; obtain ⟨y2, z2, rfl, hy2, hz2⟩ := hv2; have HY2 := Lib.hid hy2; have HZ2 := Lib.hid hz2; clear hy2 hz2; have hb2' := below_trans (by assumption) hb2))
      all_goals
        have has := fun W' => assert_wo_w W' (.iface S1 z1)
        have has2 := fun W' => assert_wo_s W' (.agg #[y2, z2])
        have has3 := fun W' => assert_it_s W' (.agg #[y2, z2])
        go_wp2_with fail
        go_ret
        exact ⟨_, rfl, (hb2'.alloc hb2'.size _), _, _, rfl, ⟨_, rfl, HY1.out.below (below_trans hb2 (below_new _ _))⟩, ⟨_, _, rfl, HY2.out.below (below_new _ _), HZ2.out.below (below_new _ _)⟩⟩
    | without u =>
      rw [show Bd.comb f a (.without t) (.without u) = .without (.app f a) from rfl]
      go_enter Try.func103, Try.ntmps103
      go_wp2_with fail
      go_region_held3 (fun W' => Below W.heap.size W W') (first | assumption | exact hself.drew | go_keep)
        (first
          | (go_at_call_of 90 x1; refine (hf _ (by first | assumption | exact hself.drew)).mono ?_; rintro e w1 ⟨r1, rfl, hb1, hv1⟩; obtain ⟨y1, rfl, hy1⟩ := hv1; obtain ⟨S1, z1, rfl, _⟩ := hy1.asks; clear hy1; have hb1' := below_trans (by first | assumption | exact hself.drew) hb1)
          | (go_at_call_of 90 x2; refine (ha _ (by assumption)).mono ?_; rintro e w2 ⟨r2, rfl, hb2, hv2⟩; obtain ⟨y2, rfl, hy2⟩ := hv2; obtain ⟨S2, z2, rfl, _⟩ := hy2.asks; clear hy2; have hb2' := below_trans (by assumption) hb2))
      all_goals
        have has := fun W' => assert_wo_w W' (.iface S1 z1)
        have has2 := fun W' => assert_wo_w W' (.iface S2 z2)
        go_wp2_with fail
        go_ret
        exact ⟨_, rfl, (hb2'.alloc hb2'.size _), _, rfl, HT.out.below (hb2'.alloc hb2'.size _)⟩
end Go.Proofs.Ytfpekihdoclncaa

namespace Go.Proofs.Ytfpekihdoclncaa
open Go.RowKit

set_option maxHeartbeats 1000000
set_option maxRecDepth 100000

theorem s_app2 (w : World) (f a b : Tm) (s1 s2 s3 : List UInt8) (a1 a2 a3 : Option Addr) (n1 c1 n2 c2 n3 c3 g : Nat) (fr : Nat × Nat) (hf : ST w f (.agg #[str s1, .slice a1 n1 c1])) (ha : ST w a (.agg #[str s2, .slice a2 n2 c2])) (hb : ST w b (.agg #[str s3, .slice a3 n3 c3]))
    (hg : w.heap[g]? = some (.cells #[str s2, .slice a2 n2 c2, str s3, .slice a3 n3 c3] 32 fr)) :
    Calls Try.prog 28 #[.agg #[str s1, .slice a1 n1 c1], .slice (some ⟨g, 0, none⟩) 2 2] w (TreePost w ((f.app a).app b)) := by
  have k0 : w.cell? ⟨g, 0, none⟩ = some (str s2) := cell_of_heap hg
  have k1 : w.cell? ⟨g, 1, none⟩ = some (.slice a2 n2 c2) := cell_of_heap hg
  have k2 : w.cell? ⟨g, 2, none⟩ = some (str s3) := cell_of_heap hg
  have k3 : w.cell? ⟨g, 3, none⟩ = some (.slice a3 n3 c3) := cell_of_heap hg
  have hlt := (Array.getElem?_eq_some_iff.1 hg).1
  have HF := Lib.hid hf
  have HA := Lib.hid ha
  have HB := Lib.hid hb
  clear hf ha hb hg
  go_enter Try.func28, Try.ntmps28
  go_wp2_with fail
  refine wp_loop_rounds 3 ?_
  rw [rounds_succ]
  go_wp2_with fail
  go_region
  go_wp2_with fail
  have hx := ((After.new w (.cells #[.string ⟨#[]⟩, .slice (some ⟨w.heap.size + 1 + 1, 0, none⟩) 2 2] 32)).alloc (.cells #[.string ⟨#[]⟩, .slice none 0 0] 32)).alloc (.cells #[str s1, .slice a1 n1 c1, str s2, .slice a2 n2 c2] 32)
  have x2 := hx.cell k2
  have x3 := hx.cell k3
  have hlt2 : g < w.heap.size + 1 + 1 + 1 := by omega
  rw [rounds_succ]
  go_wp2_with fail
  go_region
  go_wp2_with fail
  rw [rounds_succ]
  go_wp2_with fail
  obtain ⟨os, hos⟩ : ∃ os : List Obj, os = [.cells #[.string ⟨#[]⟩, .slice (some ⟨w.heap.size + 1 + 1 + 1, 0, none⟩) 2 2] 32, .cells #[.string ⟨#[]⟩, .slice (some ⟨w.heap.size + 1 + 1 + 1, 0, none⟩) 2 2] 32, .cells #[str s1, .slice a1 n1 c1, str s2, .slice a2 n2 c2] 32, .cells #[.string ⟨#[]⟩, .slice (some ⟨w.heap.size + 1 + 1, 0, none⟩) 2 2, str s3, .slice a3 n3 c3] 32] := ⟨_, rfl⟩
  have hX : allocL w os = (((w.alloc (.cells #[.string ⟨#[]⟩, .slice (some ⟨w.heap.size + 1 + 1 + 1, 0, none⟩) 2 2] 32)).alloc (.cells #[.string ⟨#[]⟩, .slice (some ⟨w.heap.size + 1 + 1 + 1, 0, none⟩) 2 2] 32)).alloc (.cells #[str s1, .slice a1 n1 c1, str s2, .slice a2 n2 c2] 32)).alloc (.cells #[.string ⟨#[]⟩, .slice (some ⟨w.heap.size + 1 + 1, 0, none⟩) 2 2, str s3, .slice a3 n3 c3] 32) := by rw [hos]; rfl
  have hy : After w (allocL w os) := allocL_below w os
  have h2 : (allocL w os).heap[w.heap.size + 1 + 1]? = some (.cells #[str s1, .slice a1 n1 c1, str s2, .slice a2 n2 c2] 32 (0, 0)) := by have := allocL_heap w os 2 (by rw [hos]; simp); simpa [hos] using this
  have h3 : (allocL w os).heap[w.heap.size + 1 + 1 + 1]? = some (.cells #[.string ⟨#[]⟩, .slice (some ⟨w.heap.size + 1 + 1, 0, none⟩) 2 2, str s3, .slice a3 n3 c3] 32 (0, 0)) := by have := allocL_heap w os 3 (by rw [hos]; simp); simpa [hos] using this
  rw [hX] at hy h2 h3
  refine bodyPost_ret (v := .agg #[.string ⟨#[]⟩, .slice (some ⟨w.heap.size + 1 + 1 + 1, 0, none⟩) 2 2]) (by simp [results, Try.results28, go_sem]) rfl ⟨[], some ⟨w.heap.size + 1 + 1 + 1, 0, none⟩, 2, 2, rfl, hy.drew.drew, ?_⟩
  exact ⟨_, 2, (0, 0), _, _, _, _, rfl, h3, ⟨_, 2, (0, 0), _, _, _, _, rfl, h2, HF.out.later hy.drew.drew, HA.out.later hy.drew.drew⟩, HB.out.later hy.drew.drew⟩

theorem s_i (w : World) : Calls Try.prog 96 #[] w (TreePost w Tm.I) := by
  have hAX : After w ((w.alloc (.cells #[.string ⟨#[]⟩, .slice none 0 0] 32)).alloc (.cells #[str [107], .slice none 0 0, str [107], .slice none 0 0] 32)) := (After.new _ _).alloc _
  have hres := heap_old2 w (.cells #[.string ⟨#[]⟩, .slice none 0 0] 32) (.cells #[str [107], .slice none 0 0, str [107], .slice none 0 0] 32)
  have hcall := s_app2 _ .s .k .k [115] [107] [107] none none none 0 0 0 0 0 0 (w.heap.size + 1) (0, 0) rfl rfl rfl (heap_new2 w _ (.cells #[.string ⟨#[]⟩, .slice none 0 0] 32) (.cells #[str [107], .slice none 0 0, str [107], .slice none 0 0] 32) rfl)
  unfold TreePost at hcall
  have HRES := Lib.hid hres
  clear hres
  go_enter Try.func96, Try.ntmps96
  go_wp2_with fail
  refine hcall.mono ?_
  rintro e w1 ⟨t1, ao1, n1, c1, rfl, hb1, ht1⟩
  have HT := Lib.hid ht1
  obtain ⟨z0, z1, z2, z3, l2⟩ := pair_facts HRES.out hb1
  clear ht1 hcall
  go_wp2_with fail
  refine bodyPost_ret (v := .agg #[str t1, .slice ao1 n1 c1]) (by simp [results, Try.results96, go_sem, z0, z1]) rfl
    ⟨t1, ao1, n1, c1, rfl, Below.setCell (Below.setCell (hAX.trans hb1) (by simp) _) (by simp) _, HT.out.sets2 (hb1.heap HRES.out)⟩

end Go.Proofs.Ytfpekihdoclncaa
