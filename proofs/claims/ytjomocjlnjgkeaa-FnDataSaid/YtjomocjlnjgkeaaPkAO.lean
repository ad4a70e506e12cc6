/-
  The program's bodyOf, bodyOfParts, abstraction.
-/
import Derived.Test.YtjomocjlnjgkeaaPkAN
import Derived.Test.YtjomocjlnjgkeaaPkAI
import Derived.Test.YtjomocjlnjgkeaaPkAE
namespace Go.Proofs.Ytjomocjlnjgkeaa
open Go.RowKit

set_option maxHeartbeats 2000000
set_option maxRecDepth 100000

def Bd.comb (f a : Tm) : Bd → Bd → Bd
  | .without _, .without _ => .without (.app f a)
  | .without _, .itself => .atEnd f
  | b1, b2 => .inside b1 b2
def Bd.of (x : List UInt8) : Tm → Bd
  | .nm n => if n = x then .itself else .without (.nm n)
  | .app f a => Bd.comb f a (Bd.of x f) (Bd.of x a)
  | t => .without t

def BodyPost (w : World) (B : Nat) (b : Bd) (e : Ending) (w' : World) : Prop := ∃ v, e = .returned v ∧ Below w.heap.size w w' ∧ BV w' B b v

theorem BV.form {w : World} {B : Nat} {b : Bd} {v : Value} (h : BV w B b v) : ∃ T x, v = .iface T x := by
  cases b with
  | itself => exact ⟨_, _, h⟩
  | without t => obtain ⟨x, rfl, _⟩ := h; exact ⟨_, _, rfl⟩
  | atEnd t => obtain ⟨x, rfl, _⟩ := h; exact ⟨_, _, rfl⟩
  | inside f a => obtain ⟨x, y, rfl, _⟩ := h; exact ⟨_, _, rfl⟩

theorem assert_nm_n (W : World) (x : Value) : (Instr.typeAssert (.iface 97 x) 46 97 true).run Try.prog W = .ok (.tuple #[x, .bool true]) W := by kernel_rfl
theorem assert_nm_k (W : World) (x : Value) : (Instr.typeAssert (.iface 137 x) 46 97 true).run Try.prog W = .ok (.tuple #[.pointer none, .bool false]) W := by kernel_rfl
theorem assert_nm_s (W : World) (x : Value) : (Instr.typeAssert (.iface 134 x) 46 97 true).run Try.prog W = .ok (.tuple #[.pointer none, .bool false]) W := by kernel_rfl
theorem assert_nm_a (W : World) (x : Value) : (Instr.typeAssert (.iface 152 x) 46 97 true).run Try.prog W = .ok (.tuple #[.pointer none, .bool false]) W := by kernel_rfl
theorem assert_wo_w (W : World) (x : Value) : (Instr.typeAssert (.iface 161 (.agg #[x])) 157 161 true).run Try.prog W = .ok (.tuple #[.agg #[x], .bool true]) W := by kernel_rfl
theorem assert_wo_i (W : World) (x : Value) : (Instr.typeAssert (.iface 159 x) 157 161 true).run Try.prog W = .ok (.tuple #[.agg #[.nilIface], .bool false]) W := by kernel_rfl
theorem assert_wo_e (W : World) (x : Value) : (Instr.typeAssert (.iface 188 x) 157 161 true).run Try.prog W = .ok (.tuple #[.agg #[.nilIface], .bool false]) W := by kernel_rfl
theorem assert_wo_s (W : World) (x : Value) : (Instr.typeAssert (.iface 163 x) 157 161 true).run Try.prog W = .ok (.tuple #[.agg #[.nilIface], .bool false]) W := by kernel_rfl
theorem assert_it_i (W : World) : (Instr.typeAssert (.iface 159 (.agg #[])) 157 159 true).run Try.prog W = .ok (.tuple #[.agg #[], .bool true]) W := by kernel_rfl
theorem assert_it_e (W : World) (x : Value) : (Instr.typeAssert (.iface 188 x) 157 159 true).run Try.prog W = .ok (.tuple #[.agg #[], .bool false]) W := by kernel_rfl
theorem assert_it_s (W : World) (x : Value) : (Instr.typeAssert (.iface 163 x) 157 159 true).run Try.prog W = .ok (.tuple #[.agg #[], .bool false]) W := by kernel_rfl

theorem body_leaf (w : World) (B : Nat) (x : List UInt8) (T : TypeId) (b : Nat) (t : Tm) (hT : T = 137 ∨ T = 134) (h : TV w B t (.iface T (.pointer (some ⟨b, 0, none⟩)))) :
    Calls Try.prog 105 #[.iface T (.pointer (some ⟨b, 0, none⟩)), str x] w (BodyPost w B (.without t)) := by
  have HT := Lib.hid h
  clear h
  have ha1 := assert_k w (.pointer (some ⟨b, 0, none⟩))
  have ha2 := assert_s w (.pointer (some ⟨b, 0, none⟩))
  have ha3 := assert_nm_k w (.pointer (some ⟨b, 0, none⟩))
  have ha4 := assert_nm_s w (.pointer (some ⟨b, 0, none⟩))
  rcases hT with rfl | rfl
  all_goals
    go_enter Try.func105, Try.ntmps105
    go_wp2_with fail
    go_ret
    exact ⟨_, rfl, Below.refl _ _, _, rfl, HT.out⟩

theorem body_name (w : World) (B : Nat) (x n : List UInt8) (b : Nat) (h : TV w B (.nm n) (.iface 97 (.pointer (some ⟨b, 0, none⟩)))) :
    Calls Try.prog 105 #[.iface 97 (.pointer (some ⟨b, 0, none⟩)), str x] w (BodyPost w B (Bd.of x (.nm n))) := by
  have HT := Lib.hid h
  obtain ⟨b', fr, hv, hb, hh⟩ := h
  injection hv with _ hv
  injection hv with hv
  injection hv with hv
  injection hv with hv _ _
  subst hv
  have c0 : w.cell? ⟨b, 0, none⟩ = some (str n) := cell_of_heap hh
  have ha1 := assert_nm_n w (.pointer (some ⟨b, 0, none⟩))
  have ha2 := assert_n w (.pointer (some ⟨b, 0, none⟩))
  clear hh
  by_cases hn : n = x
  · subst hn
    rw [show Bd.of n (.nm n) = .itself by simp [Bd.of]]
    go_enter Try.func105, Try.ntmps105
    go_wp2_with fail
    go_ret
    exact ⟨_, rfl, Below.refl _ _, rfl⟩
  · have hne : (n == x) = false := beq_eq_false_iff_ne.2 hn
    rw [show Bd.of x (.nm n) = .without (.nm n) by simp [Bd.of, hn]]
    clear hn
    go_enter Try.func105, Try.ntmps105
    go_wp2_with fail
    go_ret
    exact ⟨_, rfl, Below.refl _ _, _, rfl, HT.out⟩

/-- What is known when the parts of an application are looked at. -/
theorem body_parts (W : World) (B b : Nat) (x : List UInt8) (f a : Tm) (b1 b2 : Bd) (T1 T2 : TypeId) (x1 x2 : Value) (hT : TV W B (.app f a) (.iface 152 (.pointer (some ⟨b, 0, none⟩)))) (hTf : TV W B f (.iface T1 x1))
    (h0 : ∀ W', Below W.heap.size W W' → W'.cell? ⟨b, 0, none⟩ = some (.iface T1 x1)) (h1 : ∀ W', Below W.heap.size W W' → W'.cell? ⟨b, 1, none⟩ = some (.iface T2 x2))
    (hf : ∀ W', Below W.heap.size W W' → Calls Try.prog 105 #[.iface T1 x1, str x] W' (BodyPost W' B b1))
    (ha : ∀ W', Below W.heap.size W W' → Calls Try.prog 105 #[.iface T2 x2, str x] W' (BodyPost W' B b2)) :
    Calls Try.prog 117 #[.pointer (some ⟨b, 0, none⟩), str x] W (BodyPost W B (Bd.comb f a b1 b2)) := by
  have hself := Below.refl W.heap.size W
  have HT := Lib.hid hT
  have HTF := Lib.hid hTf
  clear hT hTf
  unfold BodyPost at hf ha
  cases b1 with
  | itself =>
    rw [show Bd.comb f a .itself b2 = .inside .itself b2 by cases b2 <;> rfl]
    go_enter Try.func117, Try.ntmps117
    go_wp2_with fail
    go_region_held3 (fun W' => Below W.heap.size W W') (first | assumption | exact hself.drew | go_keep)
      (first
        | (go_at_call_of 105 x1; refine (hf _ (by first | assumption | exact hself.drew)).mono ?_; rintro e w1 ⟨r1, rfl, hb1, hv1⟩; (obtain rfl : r1 = .iface 159 (.agg #[]) := hv1); have hb1' := below_trans (by first | assumption | exact hself.drew) hb1)
        | (go_at_call_of 105 x2; refine (ha _ (by assumption)).mono ?_; rintro e w2 ⟨r2, rfl, hb2, hv2⟩; obtain ⟨T4, x4, rfl⟩ := hv2.form; have HV2 := Lib.hid hv2; clear hv2; have hb2' := below_trans (by assumption) hb2))
    all_goals
      have has := fun W' => assert_wo_i W' (.agg #[])
      go_wp2_with fail
      go_ret
      exact ⟨_, rfl, (hb2'.alloc hb2'.size _), _, _, rfl, rfl, HV2.out.below (below_new _ _)⟩
  | atEnd t =>
    rw [show Bd.comb f a (.atEnd t) b2 = .inside (.atEnd t) b2 by cases b2 <;> rfl]
    go_enter Try.func117, Try.ntmps117
    go_wp2_with fail
    go_region_held3 (fun W' => Below W.heap.size W W') (first | assumption | exact hself.drew | go_keep)
      (first
        | (go_at_call_of 105 x1; refine (hf _ (by first | assumption | exact hself.drew)).mono ?_; rintro e w1 ⟨r1, rfl, hb1, hv1⟩; obtain ⟨y1, rfl, hy1⟩ := hv1; have HY1 := Lib.hid hy1; clear hy1; have hb1' := below_trans (by first | assumption | exact hself.drew) hb1)
        | (go_at_call_of 105 x2; refine (ha _ (by assumption)).mono ?_; rintro e w2 ⟨r2, rfl, hb2, hv2⟩; obtain ⟨T4, x4, rfl⟩ := hv2.form; have HV2 := Lib.hid hv2; clear hv2; have hb2' := below_trans (by assumption) hb2))
    all_goals
      have has := fun W' => assert_wo_e W' (.agg #[y1])
      go_wp2_with fail
      go_ret
      exact ⟨_, rfl, (hb2'.alloc hb2'.size _), _, _, rfl, ⟨_, rfl, HY1.out.below (below_trans hb2 (below_new _ _))⟩, HV2.out.below (below_new _ _)⟩
  | inside c d =>
    rw [show Bd.comb f a (.inside c d) b2 = .inside (.inside c d) b2 by cases b2 <;> rfl]
    go_enter Try.func117, Try.ntmps117
    go_wp2_with fail
    go_region_held3 (fun W' => Below W.heap.size W W') (first | assumption | exact hself.drew | go_keep)
      (first
        | (go_at_call_of 105 x1; refine (hf _ (by first | assumption | exact hself.drew)).mono ?_; rintro e w1 ⟨r1, rfl, hb1, hv1⟩; obtain ⟨y1, z1, rfl, hy1, hz1⟩ := hv1; have HY1 := Lib.hid hy1; have HZ1 := Lib.hid hz1; clear hy1 hz1; have hb1' := below_trans (by first | assumption | exact hself.drew) hb1)
        | (go_at_call_of 105 x2; refine (ha _ (by assumption)).mono ?_; rintro e w2 ⟨r2, rfl, hb2, hv2⟩; obtain ⟨T4, x4, rfl⟩ := hv2.form; have HV2 := Lib.hid hv2; clear hv2; have hb2' := below_trans (by assumption) hb2))
    all_goals
      have has := fun W' => assert_wo_s W' (.agg #[y1, z1])
      go_wp2_with fail
      go_ret
      exact ⟨_, rfl, (hb2'.alloc hb2'.size _), _, _, rfl, ⟨_, _, rfl, HY1.out.below (below_trans hb2 (below_new _ _)), HZ1.out.below (below_trans hb2 (below_new _ _))⟩, HV2.out.below (below_new _ _)⟩
  | without t =>
    cases b2 with
    | itself =>
      rw [show Bd.comb f a (.without t) .itself = .atEnd f from rfl]
      go_enter Try.func117, Try.ntmps117
      go_wp2_with fail
      go_region_held3 (fun W' => Below W.heap.size W W') (first | assumption | exact hself.drew | go_keep)
        (first
          | (go_at_call_of 105 x1; refine (hf _ (by first | assumption | exact hself.drew)).mono ?_; rintro e w1 ⟨r1, rfl, hb1, hv1⟩; obtain ⟨y1, rfl, hy1⟩ := hv1; obtain ⟨S1, z1, rfl, _⟩ := hy1.asks; clear hy1; have hb1' := below_trans (by first | assumption | exact hself.drew) hb1)
          | (go_at_call_of 105 x2; refine (ha _ (by assumption)).mono ?_; rintro e w2 ⟨r2, rfl, hb2, hv2⟩; (obtain rfl : r2 = .iface 159 (.agg #[]) := hv2); have hb2' := below_trans (by assumption) hb2))
      all_goals
        have has := fun W' => assert_wo_w W' (.iface S1 z1)
        have has2 := fun W' => assert_wo_i W' (.agg #[])
        have has3 := assert_it_i
        have h0' := h0 _ (hb2'.alloc hb2'.size (.cells #[.iface S1 z1] 161))
        go_wp2_with fail
        go_ret
        exact ⟨_, rfl, (hb2'.alloc hb2'.size _), _, rfl, HTF.out.below (hb2'.alloc hb2'.size _)⟩
    | atEnd u =>
      rw [show Bd.comb f a (.without t) (.atEnd u) = .inside (.without t) (.atEnd u) from rfl]
      go_enter Try.func117, Try.ntmps117
      go_wp2_with fail
      go_region_held3 (fun W' => Below W.heap.size W W') (first | assumption | exact hself.drew | go_keep)
        (first
          | (go_at_call_of 105 x1; refine (hf _ (by first | assumption | exact hself.drew)).mono ?_; rintro e w1 ⟨r1, rfl, hb1, hv1⟩; obtain ⟨y1, rfl, hy1⟩ := hv1; obtain ⟨S1, z1, rfl, _⟩ := hy1.asks; have HY1 := Lib.hid hy1; clear hy1; have hb1' := below_trans (by first | assumption | exact hself.drew) hb1)
          | (go_at_call_of 105 x2; refine (ha _ (by assumption)).mono ?_; rintro e w2 ⟨r2, rfl, hb2, hv2⟩; obtain ⟨y2, rfl, hy2⟩ := hv2; have HY2 := Lib.hid hy2; clear hy2; have hb2' := below_trans (by assumption) hb2))
      all_goals
        have has := fun W' => assert_wo_w W' (.iface S1 z1)
        have has2 := fun W' => assert_wo_e W' (.agg #[y2])
        have has3 := fun W' => assert_it_e W' (.agg #[y2])
        go_wp2_with fail
        go_ret
        exact ⟨_, rfl, (hb2'.alloc hb2'.size _), _, _, rfl, ⟨_, rfl, HY1.out.below (below_trans hb2 (below_new _ _))⟩, ⟨_, rfl, HY2.out.below (below_new _ _)⟩⟩
    | inside c d =>
      rw [show Bd.comb f a (.without t) (.inside c d) = .inside (.without t) (.inside c d) from rfl]
      go_enter Try.func117, Try.ntmps117
      go_wp2_with fail
      go_region_held3 (fun W' => Below W.heap.size W W') (first | assumption | exact hself.drew | go_keep)
        (first
          | (go_at_call_of 105 x1; refine (hf _ (by first | assumption | exact hself.drew)).mono ?_; rintro e w1 ⟨r1, rfl, hb1, hv1⟩; obtain ⟨y1, rfl, hy1⟩ := hv1; obtain ⟨S1, z1, rfl, _⟩ := hy1.asks; have HY1 := Lib.hid hy1; clear hy1; have hb1' := below_trans (by first | assumption | exact hself.drew) hb1)
          | (go_at_call_of 105 x2; refine (ha _ (by assumption)).mono ?_; rintro e w2 ⟨r2, rfl, hb2, hv2⟩; obtain ⟨y2, z2, rfl, hy2, hz2⟩ := hv2; have HY2 := Lib.hid hy2; have HZ2 := Lib.hid hz2; clear hy2 hz2; have hb2' := below_trans (by assumption) hb2))
      all_goals
        have has := fun W' => assert_wo_w W' (.iface S1 z1)
        have has2 := fun W' => assert_wo_s W' (.agg #[y2, z2])
        have has3 := fun W' => assert_it_s W' (.agg #[y2, z2])
        go_wp2_with fail
        go_ret
        exact ⟨_, rfl, (hb2'.alloc hb2'.size _), _, _, rfl, ⟨_, rfl, HY1.out.below (below_trans hb2 (below_new _ _))⟩, ⟨_, _, rfl, HY2.out.below (below_new _ _), HZ2.out.below (below_new _ _)⟩⟩
    | without u =>
      rw [show Bd.comb f a (.without t) (.without u) = .without (.app f a) from rfl]
      go_enter Try.func117, Try.ntmps117
      go_wp2_with fail
      go_region_held3 (fun W' => Below W.heap.size W W') (first | assumption | exact hself.drew | go_keep)
        (first
          | (go_at_call_of 105 x1; refine (hf _ (by first | assumption | exact hself.drew)).mono ?_; rintro e w1 ⟨r1, rfl, hb1, hv1⟩; obtain ⟨y1, rfl, hy1⟩ := hv1; obtain ⟨S1, z1, rfl, _⟩ := hy1.asks; clear hy1; have hb1' := below_trans (by first | assumption | exact hself.drew) hb1)
          | (go_at_call_of 105 x2; refine (ha _ (by assumption)).mono ?_; rintro e w2 ⟨r2, rfl, hb2, hv2⟩; obtain ⟨y2, rfl, hy2⟩ := hv2; obtain ⟨S2, z2, rfl, _⟩ := hy2.asks; clear hy2; have hb2' := below_trans (by assumption) hb2))
      all_goals
        have has := fun W' => assert_wo_w W' (.iface S1 z1)
        have has2 := fun W' => assert_wo_w W' (.iface S2 z2)
        go_wp2_with fail
        go_ret
        exact ⟨_, rfl, (hb2'.alloc hb2'.size _), _, rfl, HT.out.below (hb2'.alloc hb2'.size _)⟩
end Go.Proofs.Ytjomocjlnjgkeaa

namespace Go.Proofs.Ytjomocjlnjgkeaa
open Go.RowKit

set_option maxHeartbeats 1000000
set_option maxRecDepth 100000

theorem heap_sets2 {W : World} {b : Nat} {x y u u' : Value} {T : TypeId} {fr : Nat × Nat} (hh : W.heap[b]? = some (.cells #[x, y] T fr)) : ((W.setCell ⟨b, 0, none⟩ u).setCell ⟨b, 1, none⟩ u').heap[b]? = some (.cells #[u, u'] T fr) := by
  simp [World.setCell, Array.getElem?_modify, hh]

theorem heap_sets2_ne {W : World} {b c i j : Nat} {u u' : Value} (hne : c ≠ b) : ((W.setCell ⟨b, i, none⟩ u).setCell ⟨b, j, none⟩ u').heap[c]? = W.heap[c]? := by
  rw [Below.heap_setCell _ _ _ _ hne, Below.heap_setCell _ _ _ _ hne]

theorem pair_facts {W : World} {b : Nat} {x y : Value} {T : TypeId} (h : W.heap[b]? = some (.cells #[x, y] T (0, 0))) {W' : World} (hW : After W W') :
    W'.cell? ⟨b, 0, none⟩ = some x ∧ W'.cell? ⟨b, 1, none⟩ = some y ∧ W'.frozen? ⟨b, 0, none⟩ = false ∧ W'.frozen? ⟨b, 1, none⟩ = false ∧ b < W'.heap.size := by
  have hh := hW.heap h
  exact ⟨cell_of_heap hh, cell_of_heap hh, by simp [World.frozen?, hh], by simp [World.frozen?, hh], (Array.getElem?_eq_some_iff.1 hh).1⟩

def SManyPost (w : World) (t : Tm) (n : Nat) (e : Ending) (w' : World) : Prop :=
  ∃ s ao m c, e = .returned (.tuple #[.agg #[str s, .slice ao m c], .int .i64 (((t.many n).2 : Nat) : Int), .bool (t.many n).1.step.isNone]) ∧ After w w' ∧ ST w' (t.many n).1 (.agg #[str s, .slice ao m c])

/-- After k rounds. -/
def SRounds (w : World) (n : Nat) (t : Tm) (i : Value) (wr : World) : Prop :=
  ∃ (k : Nat) (u : Tm) (s : List UInt8) (ao : Option Addr) (m c : Nat), i = .int .i64 k ∧ k ≤ n ∧ wr.heap[w.heap.size]? = some (.cells #[str s, .slice ao m c] 40 (0, 0)) ∧ wr.heap[w.heap.size + 1]? = some (.cells #[.string ⟨#[]⟩, .slice none 0 0] 40 (0, 0)) ∧
    ST wr u (.agg #[str s, .slice ao m c]) ∧ u.good = true ∧ u.fits = true ∧ After w wr ∧ Hid (t.many n = ((u.many (n - k)).1, (u.many (n - k)).2 + k))

def SNormPost (w : World) (t : Tm) (b : Bool) (e : Ending) (w' : World) : Prop :=
  ∃ s ao m c, e = .returned (.tuple #[.agg #[str s, .slice ao m c], .bool b]) ∧ After w w' ∧ ST w' t (.agg #[str s, .slice ao m c])

end Go.Proofs.Ytjomocjlnjgkeaa
