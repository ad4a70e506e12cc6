/-
  A term as the abstraction of a name sees it: the type body and its method abstract; pairTerm, numeralTerm.
-/
import Derived.Test.YtmkmladlpgfniaaPkDat
import Derived.Test.YtmkmladlpgfniaaPkTm
import Derived.Test.YtmkmladlpgfniaaPkRep
namespace Go.Proofs.Ytmkmladlpgfniaa
open Go.RowKit

set_option maxHeartbeats 1000000
set_option maxRecDepth 100000

inductive Bd
  | itself
  | without (t : Tm)
  | atEnd (f : Tm)
  | inside (f a : Bd)

def Bd.term : Bd → Tm
  | .itself => Tm.I
  | .without t => .app .k t
  | .atEnd f => f
  | .inside f a => .app (.app .s f.term) a.term

/-- The value v is this body, its terms in blocks from B on. -/
def BV (w : World) (B : Nat) : Bd → Value → Prop
  | .itself, v => v = .iface 115 (.agg #[])
  | .without t, v => ∃ x, v = .iface 117 (.agg #[x]) ∧ TV w B t x
  | .atEnd t, v => ∃ x, v = .iface 147 (.agg #[x]) ∧ TV w B t x
  | .inside f a, v => ∃ x y, v = .iface 121 (.agg #[x, y]) ∧ BV w B f x ∧ BV w B a y

theorem BV.below {w w' : World} {B : Nat} (hb : Below w.heap.size w w') : ∀ {b : Bd} {v : Value}, BV w B b v → BV w' B b v
  | .itself, _, h => h
  | .without _, _, ⟨x, hv, h⟩ => ⟨x, hv, h.below hb⟩
  | .atEnd _, _, ⟨x, hv, h⟩ => ⟨x, hv, h.below hb⟩
  | .inside _ _, _, ⟨x, y, hv, hf, ha⟩ => ⟨x, y, hv, hf.below hb, ha.below hb⟩

theorem meth_itself (W : World) : (method 266 115 (.agg #[]) "loop.example/realizers/impl.abstract").run Try.prog W = .ok (141, .agg #[]) W := by kernel_rfl
theorem meth_without (W : World) (x : Value) : (method 266 117 (.agg #[x]) "loop.example/realizers/impl.abstract").run Try.prog W = .ok (142, .agg #[x]) W := by kernel_rfl
theorem meth_atEnd (W : World) (x : Value) : (method 266 147 (.agg #[x]) "loop.example/realizers/impl.abstract").run Try.prog W = .ok (151, .agg #[x]) W := by kernel_rfl
theorem meth_inside (W : World) (x y : Value) : (method 266 121 (.agg #[x, y]) "loop.example/realizers/impl.abstract").run Try.prog W = .ok (88, .agg #[x, y]) W := by kernel_rfl

def AbsOk (w : World) (B : Nat) (v : Value) (t : Tm) : Prop :=
  ∃ T x f y, v = .iface T x ∧ (∀ W, (method 266 T x "loop.example/realizers/impl.abstract").run Try.prog W = .ok (f, y) W) ∧ (∀ args w', (callFunc f args).run Try.prog w' = .ok (.enter f args) w') ∧
    ∀ W, Below w.heap.size w W → Calls Try.prog f #[y] W (TermPost W B t)

theorem itself_abs (W : World) (B : Nat) (hB : B ≤ W.heap.size) : Calls Try.prog 141 #[.agg #[]] W (TermPost W B Tm.I) := by
  have hA := below_alloc (Below.refl W.heap.size W) (.cells #[] 115)
  have hcall := identity_any (W.alloc (.cells #[] 115)) B (Nat.le_trans hB hA.size)
  unfold TermPost at hcall
  go_enter Try.func141, Try.ntmps141
  go_wp2_with fail
  refine hcall.mono ?_
  rintro e w1 ⟨v1, rfl, hb1, ht1⟩
  have HT := Lib.hid ht1
  clear ht1 hcall
  go_wp2_with fail
  go_ret
  exact ⟨_, rfl, below_trans hA hb1, HT.out⟩

theorem without_abs (W : World) (B : Nat) (t : Tm) (x : Value) (h : TV W B t x) (hB : B ≤ W.heap.size) (hz : t.size ≤ 1000000000) : Calls Try.prog 142 #[.agg #[x]] W (TermPost W B (.app .k t)) := by
  obtain ⟨os, hos⟩ : ∃ os : List Obj, os = [.cells #[x] 117, .cells #[] 133] := ⟨_, rfl⟩
  have hX : allocL W os = (W.alloc (.cells #[x] 117)).alloc (.cells #[] 133) := by rw [hos]; rfl
  have hA := allocL_below W os
  have hk : (allocL W os).heap[W.heap.size + 1]? = some (.cells #[] 133 (0, 0)) := by have := allocL_heap W os 1 (by rw [hos]; simp); simpa [hos] using this
  have hcall := apply_any (allocL W os) B .k t (.iface 131 (.pointer (some ⟨W.heap.size + 1, 0, none⟩))) x ⟨_, _, rfl, by omega, hk⟩ (h.below hA) (Nat.le_trans hB hA.size) (by simp only [Tm.size]; omega)
  rw [hX] at hcall hA
  obtain ⟨T, y, rfl, _⟩ := h.asks
  clear hk hX hos h
  go_enter Try.func142, Try.ntmps142
  go_wp2_with fail
  refine hcall.mono ?_
  rintro e w1 ⟨v1, rfl, hb1, ht1⟩
  have HT := Lib.hid ht1
  clear ht1 hcall
  go_wp2_with fail
  go_ret
  exact ⟨_, rfl, below_trans hA hb1, HT.out⟩

theorem atEnd_abs (W : World) (B : Nat) (t : Tm) (x : Value) (h : TV W B t x) : Calls Try.prog 151 #[.agg #[x]] W (TermPost W B t) := by
  have hA := below_alloc (Below.refl W.heap.size W) (.cells #[x] 147)
  have HT := Lib.hid (h.below hA)
  obtain ⟨T, y, rfl, _⟩ := h.asks
  clear h
  go_enter Try.func151, Try.ntmps151
  go_wp2_with fail
  go_ret
  exact ⟨_, rfl, hA, HT.out⟩

theorem heap_top (W : World) (o : Obj) : (W.alloc o).heap[W.heap.size]? = some o := by show (W.heap.push _)[_]? = _; simp
theorem heap_top2 (W : World) (o p : Obj) : ((W.alloc o).alloc p).heap[W.heap.size + 1]? = some p := by
  have := heap_top (W.alloc o) p
  rwa [show (W.alloc o).heap.size = W.heap.size + 1 by simp] at this
theorem below_new (W : World) (o : Obj) : Below W.heap.size W (W.alloc o) := below_alloc (Below.refl _ _) _
theorem heap_below2 (W : World) (o p : Obj) : ((W.alloc o).alloc p).heap[W.heap.size]? = some o := heap_later (heap_top W o) (below_new (W.alloc o) p)

theorem inside_call (W : World) (B b g : Nat) (f a : Tm) (T3 T4 : TypeId) (x3 x4 : Value) (hs : W.heap[b]? = some (.cells #[] 135 (0, 0))) (hBb : B ≤ b) (hg : W.heap[g]? = some (.cells #[.iface T3 x3, .iface T4 x4] 41 (0, 0)))
    (h1 : TV W B f (.iface T3 x3)) (h2 : TV W B a (.iface T4 x4)) (hz : f.size + a.size ≤ 999999999) :
    Calls Try.prog 72 #[.iface 134 (.pointer (some ⟨b, 0, none⟩)), .slice (some ⟨g, 0, none⟩) 2 2] W (TermPost W B (.app (.app .s f) a)) := by
  have hlt := (Array.getElem?_eq_some_iff.1 hs).1
  have hg' : W.heap[g]? = some (.cells ([.iface T3 x3, .iface T4 x4] : List Value).toArray 41 (0, 0)) := hg
  exact applyAll_any _ B g .s _ [f, a] [.iface T3 x3, .iface T4 x4] (0, 0) rfl hg' ⟨_, _, rfl, hBb, hs⟩ (fun j hj => by
    match j, hj with
    | 0, _ => exact h1
    | 1, _ => exact h2) (by omega) (by simp [Tm.size]; omega) (by simp)

theorem inside_abs (W : World) (B : Nat) (f a : Tm) (x y : Value) (hf : AbsOk W B x f) (ha : AbsOk W B y a) (hB : B ≤ W.heap.size) (hz : f.size + a.size ≤ 999999999) : Calls Try.prog 88 #[.agg #[x, y]] W (TermPost W B (.app (.app .s f) a)) := by
  obtain ⟨T1, x1, f1, y1, rfl, m1, n1, d1⟩ := hf
  obtain ⟨T2, x2, f2, y2, rfl, m2, n2, d2⟩ := ha
  obtain ⟨X, hX⟩ : ∃ X, X = W.alloc (.cells #[.iface T1 x1, .iface T2 x2] 121) := ⟨_, rfl⟩
  have hWX : Below W.heap.size W X := by rw [hX]; exact below_alloc (Below.refl _ _) _
  have hbox : X.heap[W.heap.size]? = some (.cells #[.iface T1 x1, .iface T2 x2] 121 (0, 0)) := by rw [hX]; show (W.heap.push _)[_]? = _; simp
  have h0 : ∀ W', Below X.heap.size X W' → W'.cell? ⟨W.heap.size, 0, none⟩ = some (.iface T1 x1) := cell_later' (cell_of_heap hbox)
  have h1 : ∀ W', Below X.heap.size X W' → W'.cell? ⟨W.heap.size, 1, none⟩ = some (.iface T2 x2) := cell_later' (cell_of_heap hbox)
  have hself := Below.refl X.heap.size X
  have c1 := fun W' (h : Below X.heap.size X W') => d1 W' (below_trans hWX h)
  have c2 := fun W' (h : Below X.heap.size X W') => d2 W' (below_trans hWX h)
  unfold TermPost at c1 c2
  have HWX := Lib.hid hWX
  have hBX : B ≤ X.heap.size := Nat.le_trans hB hWX.size
  go_enter Try.func88, Try.ntmps88
  go_wp2_with fail
  rw [← hX]
  clear hbox hWX hX d1 d2
  go_region_held3 (fun W' => Below X.heap.size X W') (first | assumption | exact hself.drew | exact (below_alloc hself _).drew | exact below_alloc (by assumption) _ | go_keep)
    (first
      | (go_at_fn f1; refine (c1 _ (by first | assumption | exact (below_alloc hself _).drew)).mono ?_; rintro e w1 ⟨r1, rfl, hb1, hv1⟩; obtain ⟨T3, x3, rfl, _⟩ := hv1.asks; have HV1 := Lib.hid hv1; clear hv1; have hb1' := below_trans (by first | assumption | exact (below_alloc hself _).drew) hb1)
      | (go_at_fn f2; refine (c2 _ (by assumption)).mono ?_; rintro e w2 ⟨r2, rfl, hb2, hv2⟩; obtain ⟨T4, x4, rfl, _⟩ := hv2.asks; have HV2 := Lib.hid hv2; clear hv2; have hb2' := below_trans (by assumption) hb2)
      | (go_at_call 72
         refine (inside_call _ B _ _ f a T3 T4 x3 x4 ?_ ?_ ?_ ?_ ?_ hz).mono ?_
         · first
             | exact heap_later (heap_later (heap_later (w := (X.alloc (.cells #[] 135)).drew) (heap_top X _) hb1) hb2) (below_new _ _)
             | exact heap_later (heap_later (heap_top w1 _) hb2) (below_new _ _)
             | exact heap_below2 w2 _ _
             | exact heap_top2 w2 _ _
         · have q1 := hb1.size
           have q2 := hb2.size
           try simp at q1
           try simp at q2
           omega
         · first
             | exact heap_top w2 _
             | exact heap_top2 w2 _ _
             | exact heap_below2 w2 _ _
         · first
             | exact HV1.out.below (below_trans hb2 (below_new _ _))
             | exact HV1.out.below (below_trans (below_new w1 _) (below_trans hb2 (below_new _ _)))
             | exact HV1.out.below (below_trans hb2 (below_trans (below_new w2 _) (below_new _ _)))
         · first
             | exact HV2.out.below (below_new w2 _)
             | exact HV2.out.below (below_trans (below_new w2 _) (below_new _ _))
         rintro e w3 ⟨r3, rfl, hb3, hv3⟩
         have HV3 := Lib.hid hv3
         clear hv3
         have hb3' := below_trans (by assumption) hb3))
  all_goals
    go_wp2_with fail
    go_ret
    exact ⟨_, rfl, below_trans HWX.out hb3', HV3.out⟩
end Go.Proofs.Ytmkmladlpgfniaa

namespace Go.Proofs.Ytmkmladlpgfniaa
open Go.RowKit

set_option maxHeartbeats 1000000
set_option maxRecDepth 100000

theorem AbsOk.later {w W : World} {B : Nat} {v : Value} {t : Tm} (h : AbsOk w B v t) (hb : Below w.heap.size w W) : AbsOk W B v t := by
  obtain ⟨T, x, f, y, hv, hm, hc, hd⟩ := h
  exact ⟨T, x, f, y, hv, hm, hc, fun W' hW' => hd W' (below_trans hb hW')⟩

theorem BV.absOk {w : World} {B : Nat} (hB : B ≤ w.heap.size) : ∀ {b : Bd} {v : Value}, BV w B b v → b.term.size ≤ 999999999 → AbsOk w B v b.term
  | .itself, _, h, _ => ⟨_, _, _, _, h, meth_itself, fun _ _ => by kernel_rfl, fun W hW => itself_abs W B (Nat.le_trans hB hW.size)⟩
  | .without t, _, ⟨x, hv, h⟩, hz => ⟨_, _, _, _, hv, fun W => meth_without W x, fun _ _ => by kernel_rfl, fun W hW => without_abs W B t x (h.below hW) (Nat.le_trans hB hW.size) (by simp only [Bd.term, Tm.size] at hz; omega)⟩
  | .atEnd t, _, ⟨x, hv, h⟩, hz => ⟨_, _, _, _, hv, fun W => meth_atEnd W x, fun _ _ => by kernel_rfl, fun W hW => atEnd_abs W B t x (h.below hW)⟩
  | .inside f a, _, ⟨x, y, hv, hf, ha⟩, hz => by
    simp only [Bd.term, Tm.size] at hz
    have sf := BV.absOk hB hf (by omega)
    have sa := BV.absOk hB ha (by omega)
    exact ⟨_, _, _, _, hv, fun W => meth_inside W x y, fun _ _ => by kernel_rfl, fun W hW => inside_abs W B _ _ x y (sf.later hW) (sa.later hW) (Nat.le_trans hB hW.size) (by omega)⟩

theorem pair_any (w : World) (B : Nat) (m n : Tm) (v1 v2 : Value) (h1 : TV w B m v1) (h2 : TV w B n v2) (hB : B ≤ w.heap.size) (hz : m.size + n.size ≤ 100000000) :
    Calls Try.prog 52 #[v1, v2] w (TermPost w B (Tm.pair m n)) := by
  have hx := BV.absOk (b := .inside .itself (.without m)) (v := .iface 121 (.agg #[.iface 115 (.agg #[]), .iface 117 (.agg #[v1])])) hB ⟨_, _, rfl, rfl, _, rfl, h1⟩ (by simp [Bd.term, Tm.I, Tm.size]; omega)
  have hy := BV.absOk (b := .without n) (v := .iface 117 (.agg #[v2])) hB ⟨_, rfl, h2⟩ (by simp [Bd.term, Tm.size]; omega)
  have hcall := inside_abs w B _ _ _ _ hx hy hB (by simp [Bd.term, Tm.I, Tm.size]; omega)
  obtain ⟨T1, x1, rfl, _⟩ := h1.asks
  obtain ⟨T2, x2, rfl, _⟩ := h2.asks
  have hfin : (Tm.app (.app .s (Bd.term (.inside .itself (.without m)))) (Bd.term (.without n))) = Tm.pair m n := rfl
  rw [hfin] at hcall
  unfold TermPost at hcall
  clear hx hy h1 h2 hfin
  go_enter Try.func52, Try.ntmps52
  go_wp2_with fail
  refine hcall.mono ?_
  rintro e w1 ⟨v3, rfl, hb1, ht1⟩
  have HT := Lib.hid ht1
  clear ht1 hcall
  go_wp2_with fail
  go_ret
  exact ⟨_, rfl, hb1, HT.out⟩

theorem numeral_any (w : World) (B n : Nat) (hB : B ≤ w.heap.size) (hn : n ≤ 1000000) :
    Calls Try.prog 76 #[.int .i64 n] w (TermPost w B (Tm.num n)) := by
  have hI := identity_any w B hB
  unfold TermPost at hI
  go_enter Try.func76, Try.ntmps76
  go_wp2_with fail
  refine hI.mono ?_
  rintro e w1 ⟨v1, rfl, hb1, ht1⟩
  have hstart : Hid (TV w1 B (Tm.num 0) v1) := ht1
  clear ht1 hI
  go_wp2_with fail
  go_loopw [3, 6] (fun v i wr => ∃ k : Nat, i = .int .i64 k ∧ k ≤ n ∧ Hid (TV wr B (Tm.num k) v) ∧ Below w.heap.size w wr) (fun _ i _ => n - (intOf i).toNat)
  case atStart => exact ⟨0, rfl, Nat.zero_le _, hstart, hb1⟩
  case round =>
    clear hstart
    obtain ⟨k, rfl, hk, ht, hb⟩ := hrel
    by_cases hlt : k < n
    · have hbit := bit_any wr B false (Nat.le_trans hB hb.size)
      unfold TermPost at hbit
      simp only [Bool.false_eq_true, if_false] at hbit
      go_wp2_with fail
      refine hbit.mono ?_
      rintro e w2 ⟨v2, rfl, hb2, ht2⟩
      have hz := Tm.size_num k
      have hcall := pair_any w2 B Tm.no (Tm.num k) v2 _ ht2 (ht.out.below hb2) (Nat.le_trans hB (below_trans hb hb2).size) (by rw [hz]; simp [Tm.no, Tm.I, Tm.size]; omega)
      rw [show Tm.pair Tm.no (Tm.num k) = Tm.num (k + 1) from rfl] at hcall
      unfold TermPost at hcall
      clear ht2 hbit hz
      go_wp2_with fail
      refine hcall.mono ?_
      rintro e w3 ⟨v3, rfl, hb3, ht3⟩
      have HT3 := Lib.hid ht3
      clear ht3 hcall
      go_wp2_with fail
      go_roundw
      case rel => exact ⟨k + 1, by go_num, by omega, HT3, below_trans (below_trans hb hb2) hb3⟩
      case measure => simp [intOf]; omega
    · obtain rfl : k = n := by omega
      go_wp2_with fail
      go_ret
      exact ⟨_, rfl, hb, ht.out⟩

/-- What NumberOf answers. -/
def pNumber (n : Int) : Option (List UInt8) := if 0 ≤ n ∧ n ≤ 60 then some (Tm.num n.toNat).text else none

def NumOne (w : World) (r : Option (List UInt8)) (e : Ending) (w' : World) : Prop :=
  e = .returned (.tuple #[str (r.getD []), .bool r.isSome]) ∧ Below w.heap.size w w'

end Go.Proofs.Ytmkmladlpgfniaa
