/-
  The closed terms of chapter 2: identity, truth values, pairs, numerals; the program's applyAll, identityTerm, bitTerm.
-/
import Derived.Test.YtfpekihdoclncaaPkAH
import Derived.Test.YtfpekihdoclncaaPkAG
import Derived.Test.YtfpekihdoclncaaPkAD
namespace Go.Proofs.Ytfpekihdoclncaa
open Go.RowKit

set_option maxHeartbeats 1000000
set_option maxRecDepth 100000

namespace Tm
def I : Tm := app (app s k) k
def no : Tm := app k I
def pair (m n : Tm) : Tm := app (app s (app (app s I) (app k m))) (app k n)
def num : Nat → Tm
  | 0 => I
  | n + 1 => pair no (num n)
theorem size_pair (m n : Tm) : (pair m n).size = m.size + n.size + 7 := by simp [pair, I, size]; omega
theorem size_num (n : Nat) : (num n).size = 11 * n + 3 := by
  induction n with
  | zero => rfl
  | succ n ih => simp only [num, size_pair, ih]; simp [no, I, size]; omega
theorem good_pair (m n : Tm) : (pair m n).good = (m.good && n.good) := by simp [pair, I, good]
theorem good_num (n : Nat) : (num n).good = true := by
  induction n with
  | zero => rfl
  | succ n ih => simp only [num, good_pair, ih]; rfl
end Tm

def TermPost (w : World) (B : Nat) (t : Tm) (e : Ending) (w' : World) : Prop := ∃ v, e = .returned v ∧ Below w.heap.size w w' ∧ TV w' B t v

theorem foldl_size (f : Tm) (us : List Tm) : (us.foldl Tm.app f).size = f.size + (us.map Tm.size).sum := by
  induction us generalizing f with
  | nil => simp
  | cons u us ih => rw [List.foldl_cons, ih]; simp [Tm.size]; omega

theorem sum_take (ns : List Nat) (k : Nat) : (ns.take k).sum ≤ ns.sum := by
  induction ns generalizing k with
  | nil => simp
  | cons n ns ih => cases k with
    | zero => simp
    | succ k => simp only [List.take_succ_cons, List.sum_cons]; have := ih k; omega

theorem applyAll_any (w : World) (B g : Nat) (f : Tm) (vf : Value) (us : List Tm) (vs : List Value) (fr : Nat × Nat) (hlen : vs.length = us.length) (hh : w.heap[g]? = some (.cells vs.toArray 39 fr))
    (hf : TV w B f vf) (hus : ∀ j (h : j < us.length), TV w B us[j] (vs[j]'(by omega))) (hB : B ≤ w.heap.size) (hz : f.size + (us.map Tm.size).sum ≤ 1000000000) (hn : us.length ≤ 1000000) :
    Calls Try.prog 66 #[vf, .slice (some ⟨g, 0, none⟩) us.length us.length] w (TermPost w B (us.foldl Tm.app f)) := by
  have hstart : ∃ k : Nat, Value.int .i64 0 = .int .i64 k ∧ k ≤ us.length ∧ Hid (TV w B ((us.take k).foldl Tm.app f) vf) ∧ Below w.heap.size w w := ⟨0, rfl, Nat.zero_le _, by show TV _ _ _ _; simpa using hf, Below.refl _ _⟩
  have HH := Lib.hid hh
  have HU := Lib.hid hus
  clear hf hus hh
  go_enter Try.func66, Try.ntmps66
  go_wp2_with fail
  go_loopw [0, 9] (fun v i wr => ∃ k : Nat, i = .int .i64 k ∧ k ≤ us.length ∧ Hid (TV wr B ((us.take k).foldl Tm.app f) v) ∧ Below w.heap.size w wr) (fun _ i _ => us.length - (intOf i).toNat)
  case atStart => exact hstart
  case round =>
    clear hstart
    obtain ⟨k, rfl, hk, ht, hb⟩ := hrel
    by_cases hlt : k < us.length
    · have hcell : ∀ W, Below wr.heap.size wr W → W.cell? ⟨g, k, none⟩ = some (vs[k]'(by omega)) := fun W hW => by
        have h1 : w.cell? ⟨g, k, none⟩ = some (vs[k]'(by omega)) := by
          rw [cell_of_heap HH.out]; simp [show k < vs.length by omega]
        exact cell_later' h1 _ (below_trans hb hW)
      have hu := (HU.out k hlt).below hb
      have hs1 := foldl_size f (us.take k)
      have hs2 : (us[k]).size + ((us.take k).map Tm.size).sum ≤ (us.map Tm.size).sum := by
        have h1 := sum_take (us.map Tm.size) (k + 1)
        rw [List.take_succ_eq_append_getElem (by simpa using hlt)] at h1
        simp only [List.sum_append, List.getElem_map, List.sum_cons, List.sum_nil, ← List.map_take] at h1
        omega
      have hcall := apply_any wr B _ _ _ _ ht.out hu (Nat.le_trans hB hb.size) (by omega)
      have hnext : (us.take (k + 1)).foldl Tm.app f = ((us.take k).foldl Tm.app f).app us[k] := by
        rw [List.take_succ_eq_append_getElem hlt, List.foldl_append]; rfl
      rw [← hnext] at hcall
      have c1 := hcell wr (Below.refl _ _)
      clear hcell hu hs1 hs2 hnext
      generalize vs[k]'(by omega) = vk at c1 hcall
      go_wp2_with fail
      refine hcall.mono ?_
      rintro e w1 ⟨v1, rfl, hb1, ht1⟩
      have HT1 := Lib.hid ht1
      clear ht1
      go_wp2_with fail
      go_roundw
      case rel => exact ⟨k + 1, by go_num, by omega, HT1, below_trans hb hb1⟩
      case measure => simp [intOf]; omega
    · obtain rfl : k = us.length := by omega
      have HT := Lib.hid ht.out
      rw [List.take_length] at HT
      clear ht
      go_wp2_with fail
      go_ret
      exact ⟨_, rfl, hb, HT.out⟩

/-- Several new blocks. -/
def allocL (w : World) : List Obj → World
  | [] => w
  | o :: os => allocL (w.alloc o) os

theorem allocL_below (w : World) (os : List Obj) : Below w.heap.size w (allocL w os) := by
  induction os generalizing w with
  | nil => exact Below.refl _ _
  | cons o os ih => exact below_trans (below_alloc (Below.refl _ _) o) (ih (w.alloc o))

theorem allocL_size (w : World) (os : List Obj) : (allocL w os).heap.size = w.heap.size + os.length := by
  induction os generalizing w with
  | nil => rfl
  | cons o os ih => simp only [allocL, ih, List.length_cons]; simp; omega

theorem allocL_heap (w : World) (os : List Obj) (i : Nat) (h : i < os.length) : (allocL w os).heap[w.heap.size + i]? = some os[i] := by
  induction os generalizing w i with
  | nil => simp at h
  | cons o os ih =>
    cases i with
    | zero =>
      have h1 : (w.alloc o).heap[w.heap.size]? = some o := by show (w.heap.push _)[_]? = _; simp
      exact heap_later h1 (allocL_below (w.alloc o) os)
    | succ i =>
      have := ih (w.alloc o) i (by simpa using h)
      rw [show (w.alloc o).heap.size + i = w.heap.size + (i + 1) by simp; omega] at this
      simpa only [allocL, List.getElem_cons_succ] using this

theorem identity_any (w : World) (B : Nat) (hB : B ≤ w.heap.size) : Calls Try.prog 150 #[] w (TermPost w B Tm.I) := by
  obtain ⟨os, hos⟩ : ∃ os : List Obj, os = [.cells #[] 78, .cells #[] 76, .cells #[] 76, .cells #[.iface 72 (.pointer (some ⟨w.heap.size + 1, 0, none⟩)), .iface 72 (.pointer (some ⟨w.heap.size + 1 + 1, 0, none⟩))] 39] := ⟨_, rfl⟩
  have hX : allocL w os = (((w.alloc (.cells #[] 78)).alloc (.cells #[] 76)).alloc (.cells #[] 76)).alloc (.cells #[.iface 72 (.pointer (some ⟨w.heap.size + 1, 0, none⟩)), .iface 72 (.pointer (some ⟨w.heap.size + 1 + 1, 0, none⟩))] 39) := by rw [hos]; rfl
  have hb := allocL_below w os
  have h0 : (allocL w os).heap[w.heap.size]? = some (.cells #[] 78 (0, 0)) := by have := allocL_heap w os 0 (by rw [hos]; simp); simpa [hos] using this
  have h1 : (allocL w os).heap[w.heap.size + 1]? = some (.cells #[] 76 (0, 0)) := by have := allocL_heap w os 1 (by rw [hos]; simp); simpa [hos] using this
  have h2 : (allocL w os).heap[w.heap.size + 1 + 1]? = some (.cells #[] 76 (0, 0)) := by have := allocL_heap w os 2 (by rw [hos]; simp); simpa [hos] using this
  have h3 : (allocL w os).heap[w.heap.size + 1 + 1 + 1]? = some (.cells ([.iface 72 (.pointer (some ⟨w.heap.size + 1, 0, none⟩)), .iface 72 (.pointer (some ⟨w.heap.size + 1 + 1, 0, none⟩))] : List Value).toArray 39 (0, 0)) := by have := allocL_heap w os 3 (by rw [hos]; simp); simpa [hos] using this
  have hcall := applyAll_any (allocL w os) B (w.heap.size + 1 + 1 + 1) .s (.iface 77 (.pointer (some ⟨w.heap.size, 0, none⟩))) [.k, .k] [.iface 72 (.pointer (some ⟨w.heap.size + 1, 0, none⟩)), .iface 72 (.pointer (some ⟨w.heap.size + 1 + 1, 0, none⟩))] (0, 0) rfl h3
    ⟨_, _, rfl, hB, h0⟩ (fun j hj => by
      match j, hj with
      | 0, _ => exact ⟨_, _, rfl, by omega, h1⟩
      | 1, _ => exact ⟨_, _, rfl, by omega, h2⟩) (Nat.le_trans hB hb.size) (by decide) (by decide)
  unfold TermPost at hcall
  rw [hX] at hcall hb
  clear h0 h1 h2 h3 hX hos
  go_enter Try.func150, Try.ntmps150
  go_wp2_with fail
  refine hcall.mono ?_
  rintro e w1 ⟨v1, rfl, hb1, ht1⟩
  have HT := Lib.hid ht1
  clear ht1 hcall
  go_wp2_with fail
  go_ret
  exact ⟨_, rfl, below_trans hb hb1, HT.out⟩

end Go.Proofs.Ytfpekihdoclncaa

namespace Go.Proofs.Ytfpekihdoclncaa
open Go.RowKit

set_option maxHeartbeats 1000000
set_option maxRecDepth 100000

inductive Bd
  | itself
  | without (t : Tm)
  | atEnd (f : Tm)
  | inside (f a : Bd)

def Bd.term : Bd → Tm
  | .itself => Tm.I
  | .without t => .app .k t
  | .atEnd f => f
  | .inside f a => .app (.app .s f.term) a.term

/-- The value v is this body, its terms in blocks from B on. -/
def BV (w : World) (B : Nat) : Bd → Value → Prop
  | .itself, v => v = .iface 143 (.agg #[])
  | .without t, v => ∃ x, v = .iface 145 (.agg #[x]) ∧ TV w B t x
  | .atEnd t, v => ∃ x, v = .iface 152 (.agg #[x]) ∧ TV w B t x
  | .inside f a, v => ∃ x y, v = .iface 147 (.agg #[x, y]) ∧ BV w B f x ∧ BV w B a y

theorem BV.below {w w' : World} {B : Nat} (hb : Below w.heap.size w w') : ∀ {b : Bd} {v : Value}, BV w B b v → BV w' B b v
  | .itself, _, h => h
  | .without _, _, ⟨x, hv, h⟩ => ⟨x, hv, h.below hb⟩
  | .atEnd _, _, ⟨x, hv, h⟩ => ⟨x, hv, h.below hb⟩
  | .inside _ _, _, ⟨x, y, hv, hf, ha⟩ => ⟨x, y, hv, hf.below hb, ha.below hb⟩

theorem meth_itself (W : World) : (method 271 143 (.agg #[]) "loop.example/realizers/impl.abstract").run Try.prog W = .ok (149, .agg #[]) W := by kernel_rfl
theorem meth_without (W : World) (x : Value) : (method 271 145 (.agg #[x]) "loop.example/realizers/impl.abstract").run Try.prog W = .ok (151, .agg #[x]) W := by kernel_rfl
theorem meth_atEnd (W : World) (x : Value) : (method 271 152 (.agg #[x]) "loop.example/realizers/impl.abstract").run Try.prog W = .ok (152, .agg #[x]) W := by kernel_rfl
theorem meth_inside (W : World) (x y : Value) : (method 271 147 (.agg #[x, y]) "loop.example/realizers/impl.abstract").run Try.prog W = .ok (102, .agg #[x, y]) W := by kernel_rfl

def AbsOk (w : World) (B : Nat) (v : Value) (t : Tm) : Prop :=
  ∃ T x f y, v = .iface T x ∧ (∀ W, (method 271 T x "loop.example/realizers/impl.abstract").run Try.prog W = .ok (f, y) W) ∧ (∀ args w', (callFunc f args).run Try.prog w' = .ok (.enter f args) w') ∧
    ∀ W, Below w.heap.size w W → Calls Try.prog f #[y] W (TermPost W B t)

theorem itself_abs (W : World) (B : Nat) (hB : B ≤ W.heap.size) : Calls Try.prog 149 #[.agg #[]] W (TermPost W B Tm.I) := by
  have hA := below_alloc (Below.refl W.heap.size W) (.cells #[] 143)
  have hcall := identity_any (W.alloc (.cells #[] 143)) B (Nat.le_trans hB hA.size)
  unfold TermPost at hcall
  go_enter Try.func149, Try.ntmps149
  go_wp2_with fail
  refine hcall.mono ?_
  rintro e w1 ⟨v1, rfl, hb1, ht1⟩
  have HT := Lib.hid ht1
  clear ht1 hcall
  go_wp2_with fail
  go_ret
  exact ⟨_, rfl, below_trans hA hb1, HT.out⟩

theorem without_abs (W : World) (B : Nat) (t : Tm) (x : Value) (h : TV W B t x) (hB : B ≤ W.heap.size) (hz : t.size ≤ 1000000000) : Calls Try.prog 151 #[.agg #[x]] W (TermPost W B (.app .k t)) := by
  obtain ⟨os, hos⟩ : ∃ os : List Obj, os = [.cells #[x] 145, .cells #[] 76] := ⟨_, rfl⟩
  have hX : allocL W os = (W.alloc (.cells #[x] 145)).alloc (.cells #[] 76) := by rw [hos]; rfl
  have hA := allocL_below W os
  have hk : (allocL W os).heap[W.heap.size + 1]? = some (.cells #[] 76 (0, 0)) := by have := allocL_heap W os 1 (by rw [hos]; simp); simpa [hos] using this
  have hcall := apply_any (allocL W os) B .k t (.iface 72 (.pointer (some ⟨W.heap.size + 1, 0, none⟩))) x ⟨_, _, rfl, by omega, hk⟩ (h.below hA) (Nat.le_trans hB hA.size) (by simp only [Tm.size]; omega)
  rw [hX] at hcall hA
  obtain ⟨T, y, rfl, _⟩ := h.asks
  clear hk hX hos h
  go_enter Try.func151, Try.ntmps151
  go_wp2_with fail
  refine hcall.mono ?_
  rintro e w1 ⟨v1, rfl, hb1, ht1⟩
  have HT := Lib.hid ht1
  clear ht1 hcall
  go_wp2_with fail
  go_ret
  exact ⟨_, rfl, below_trans hA hb1, HT.out⟩

theorem atEnd_abs (W : World) (B : Nat) (t : Tm) (x : Value) (h : TV W B t x) : Calls Try.prog 152 #[.agg #[x]] W (TermPost W B t) := by
  have hA := below_alloc (Below.refl W.heap.size W) (.cells #[x] 152)
  have HT := Lib.hid (h.below hA)
  obtain ⟨T, y, rfl, _⟩ := h.asks
  clear h
  go_enter Try.func152, Try.ntmps152
  go_wp2_with fail
  go_ret
  exact ⟨_, rfl, hA, HT.out⟩

theorem heap_top (W : World) (o : Obj) : (W.alloc o).heap[W.heap.size]? = some o := by show (W.heap.push _)[_]? = _; simp
theorem heap_top2 (W : World) (o p : Obj) : ((W.alloc o).alloc p).heap[W.heap.size + 1]? = some p := by
  have := heap_top (W.alloc o) p
  rwa [show (W.alloc o).heap.size = W.heap.size + 1 by simp] at this
theorem below_new (W : World) (o : Obj) : Below W.heap.size W (W.alloc o) := below_alloc (Below.refl _ _) _
theorem heap_below2 (W : World) (o p : Obj) : ((W.alloc o).alloc p).heap[W.heap.size]? = some o := heap_later (heap_top W o) (below_new (W.alloc o) p)

theorem inside_call (W : World) (B b g : Nat) (f a : Tm) (T3 T4 : TypeId) (x3 x4 : Value) (hs : W.heap[b]? = some (.cells #[] 78 (0, 0))) (hBb : B ≤ b) (hg : W.heap[g]? = some (.cells #[.iface T3 x3, .iface T4 x4] 39 (0, 0)))
    (h1 : TV W B f (.iface T3 x3)) (h2 : TV W B a (.iface T4 x4)) (hz : f.size + a.size ≤ 999999999) :
    Calls Try.prog 66 #[.iface 77 (.pointer (some ⟨b, 0, none⟩)), .slice (some ⟨g, 0, none⟩) 2 2] W (TermPost W B (.app (.app .s f) a)) := by
  have hlt := (Array.getElem?_eq_some_iff.1 hs).1
  have hg' : W.heap[g]? = some (.cells ([.iface T3 x3, .iface T4 x4] : List Value).toArray 39 (0, 0)) := hg
  exact applyAll_any _ B g .s _ [f, a] [.iface T3 x3, .iface T4 x4] (0, 0) rfl hg' ⟨_, _, rfl, hBb, hs⟩ (fun j hj => by
    match j, hj with
    | 0, _ => exact h1
    | 1, _ => exact h2) (by omega) (by simp [Tm.size]; omega) (by simp)

theorem inside_abs (W : World) (B : Nat) (f a : Tm) (x y : Value) (hf : AbsOk W B x f) (ha : AbsOk W B y a) (hB : B ≤ W.heap.size) (hz : f.size + a.size ≤ 999999999) : Calls Try.prog 102 #[.agg #[x, y]] W (TermPost W B (.app (.app .s f) a)) := by
  obtain ⟨T1, x1, f1, y1, rfl, m1, n1, d1⟩ := hf
  obtain ⟨T2, x2, f2, y2, rfl, m2, n2, d2⟩ := ha
  obtain ⟨X, hX⟩ : ∃ X, X = W.alloc (.cells #[.iface T1 x1, .iface T2 x2] 147) := ⟨_, rfl⟩
  have hWX : Below W.heap.size W X := by rw [hX]; exact below_alloc (Below.refl _ _) _
  have hbox : X.heap[W.heap.size]? = some (.cells #[.iface T1 x1, .iface T2 x2] 147 (0, 0)) := by rw [hX]; show (W.heap.push _)[_]? = _; simp
  have h0 : ∀ W', Below X.heap.size X W' → W'.cell? ⟨W.heap.size, 0, none⟩ = some (.iface T1 x1) := cell_later' (cell_of_heap hbox)
  have h1 : ∀ W', Below X.heap.size X W' → W'.cell? ⟨W.heap.size, 1, none⟩ = some (.iface T2 x2) := cell_later' (cell_of_heap hbox)
  have hself := Below.refl X.heap.size X
  have c1 := fun W' (h : Below X.heap.size X W') => d1 W' (below_trans hWX h)
  have c2 := fun W' (h : Below X.heap.size X W') => d2 W' (below_trans hWX h)
  unfold TermPost at c1 c2
  have HWX := Lib.hid hWX
  have hBX : B ≤ X.heap.size := Nat.le_trans hB hWX.size
  go_enter Try.func102, Try.ntmps102
  go_wp2_with fail
  rw [← hX]
  clear hbox hWX hX d1 d2
  go_region_held3 (fun W' => Below X.heap.size X W') (first | assumption | exact hself.drew | exact (below_alloc hself _).drew | exact below_alloc (by assumption) _ | go_keep)
    (first
      | (go_at_fn f1; refine (c1 _ (by first | assumption | exact (below_alloc hself _).drew)).mono ?_; rintro e w1 ⟨r1, rfl, hb1, hv1⟩; obtain ⟨T3, x3, rfl, _⟩ := hv1.asks; have HV1 := Lib.hid hv1; clear hv1; have hb1' := below_trans (by first | assumption | exact (below_alloc hself _).drew) hb1)
      | (go_at_fn f2; refine (c2 _ (by assumption)).mono ?_; rintro e w2 ⟨r2, rfl, hb2, hv2⟩; obtain ⟨T4, x4, rfl, _⟩ := hv2.asks; have HV2 := Lib.hid hv2; clear hv2; have hb2' := below_trans (by assumption) hb2)
      | (go_at_call 66
         refine (inside_call _ B _ _ f a T3 T4 x3 x4 ?_ ?_ ?_ ?_ ?_ hz).mono ?_
         · first
             | exact heap_later (heap_later (heap_later (w := (X.alloc (.cells #[] 78)).drew) (heap_top X _) hb1) hb2) (below_new _ _)
             | exact heap_later (heap_later (heap_top w1 _) hb2) (below_new _ _)
             | exact heap_below2 w2 _ _
             | exact heap_top2 w2 _ _
         · have q1 := hb1.size
           have q2 := hb2.size
           try simp at q1
           try simp at q2
           omega
         · first
             | exact heap_top w2 _
             | exact heap_top2 w2 _ _
             | exact heap_below2 w2 _ _
         · first
             | exact HV1.out.below (below_trans hb2 (below_new _ _))
             | exact HV1.out.below (below_trans (below_new w1 _) (below_trans hb2 (below_new _ _)))
             | exact HV1.out.below (below_trans hb2 (below_trans (below_new w2 _) (below_new _ _)))
         · first
             | exact HV2.out.below (below_new w2 _)
             | exact HV2.out.below (below_trans (below_new w2 _) (below_new _ _))
         rintro e w3 ⟨r3, rfl, hb3, hv3⟩
         have HV3 := Lib.hid hv3
         clear hv3
         have hb3' := below_trans (by assumption) hb3))
  all_goals
    go_wp2_with fail
    go_ret
    exact ⟨_, rfl, below_trans HWX.out hb3', HV3.out⟩
end Go.Proofs.Ytfpekihdoclncaa

namespace Go.Proofs.Ytfpekihdoclncaa
open Go.RowKit

set_option maxHeartbeats 1000000
set_option maxRecDepth 100000

theorem AbsOk.later {w W : World} {B : Nat} {v : Value} {t : Tm} (h : AbsOk w B v t) (hb : Below w.heap.size w W) : AbsOk W B v t := by
  obtain ⟨T, x, f, y, hv, hm, hc, hd⟩ := h
  exact ⟨T, x, f, y, hv, hm, hc, fun W' hW' => hd W' (below_trans hb hW')⟩

theorem BV.absOk {w : World} {B : Nat} (hB : B ≤ w.heap.size) : ∀ {b : Bd} {v : Value}, BV w B b v → b.term.size ≤ 999999999 → AbsOk w B v b.term
  | .itself, _, h, _ => ⟨_, _, _, _, h, meth_itself, fun _ _ => by kernel_rfl, fun W hW => itself_abs W B (Nat.le_trans hB hW.size)⟩
  | .without t, _, ⟨x, hv, h⟩, hz => ⟨_, _, _, _, hv, fun W => meth_without W x, fun _ _ => by kernel_rfl, fun W hW => without_abs W B t x (h.below hW) (Nat.le_trans hB hW.size) (by simp only [Bd.term, Tm.size] at hz; omega)⟩
  | .atEnd t, _, ⟨x, hv, h⟩, hz => ⟨_, _, _, _, hv, fun W => meth_atEnd W x, fun _ _ => by kernel_rfl, fun W hW => atEnd_abs W B t x (h.below hW)⟩
  | .inside f a, _, ⟨x, y, hv, hf, ha⟩, hz => by
    simp only [Bd.term, Tm.size] at hz
    have sf := BV.absOk hB hf (by omega)
    have sa := BV.absOk hB ha (by omega)
    exact ⟨_, _, _, _, hv, fun W => meth_inside W x y, fun _ _ => by kernel_rfl, fun W hW => inside_abs W B _ _ x y (sf.later hW) (sa.later hW) (Nat.le_trans hB hW.size) (by omega)⟩

theorem pair_any (w : World) (B : Nat) (m n : Tm) (v1 v2 : Value) (h1 : TV w B m v1) (h2 : TV w B n v2) (hB : B ≤ w.heap.size) (hz : m.size + n.size ≤ 100000000) :
    Calls Try.prog 89 #[v1, v2] w (TermPost w B (Tm.pair m n)) := by
  have hx := BV.absOk (b := .inside .itself (.without m)) (v := .iface 147 (.agg #[.iface 143 (.agg #[]), .iface 145 (.agg #[v1])])) hB ⟨_, _, rfl, rfl, _, rfl, h1⟩ (by simp [Bd.term, Tm.I, Tm.size]; omega)
  have hy := BV.absOk (b := .without n) (v := .iface 145 (.agg #[v2])) hB ⟨_, rfl, h2⟩ (by simp [Bd.term, Tm.size]; omega)
  have hcall := inside_abs w B _ _ _ _ hx hy hB (by simp [Bd.term, Tm.I, Tm.size]; omega)
  obtain ⟨T1, x1, rfl, _⟩ := h1.asks
  obtain ⟨T2, x2, rfl, _⟩ := h2.asks
  have hfin : (Tm.app (.app .s (Bd.term (.inside .itself (.without m)))) (Bd.term (.without n))) = Tm.pair m n := rfl
  rw [hfin] at hcall
  unfold TermPost at hcall
  clear hx hy h1 h2 hfin
  go_enter Try.func89, Try.ntmps89
  go_wp2_with fail
  refine hcall.mono ?_
  rintro e w1 ⟨v3, rfl, hb1, ht1⟩
  have HT := Lib.hid ht1
  clear ht1 hcall
  go_wp2_with fail
  go_ret
  exact ⟨_, rfl, hb1, HT.out⟩

/-- What NumberOf answers. -/
def pNumber (n : Int) : Option (List UInt8) := if 0 ≤ n ∧ n ≤ 60 then some (Tm.num n.toNat).text else none

def NumOne (w : World) (r : Option (List UInt8)) (e : Ending) (w' : World) : Prop :=
  e = .returned (.tuple #[str (r.getD []), .bool r.isSome]) ∧ Below w.heap.size w w'

end Go.Proofs.Ytfpekihdoclncaa
