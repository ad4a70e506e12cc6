/-
  A term as the abstraction of a name sees it: the type body and its method abstract; pairTerm, numeralTerm.
-/
import Derived.Test.YtfpekihdoclncaaGreatPkAF
namespace Go.Proofs.YtfpekihdoclncaaGreat
open Go.RowKit

set_option maxHeartbeats 1000000
set_option maxRecDepth 100000

inductive Bd
  | itself
  | without (t : Tm)
  | atEnd (f : Tm)
  | inside (f a : Bd)

def Bd.term : Bd → Tm
  | .itself => Tm.I
  | .without t => .app .k t
  | .atEnd f => f
  | .inside f a => .app (.app .s f.term) a.term

/-- The value v is this body, its terms in blocks from B on. -/
def BV (w : World) (B : Nat) : Bd → Value → Prop
  | .itself, v => v = .iface 137 (.agg #[])
  | .without t, v => ∃ x, v = .iface 139 (.agg #[x]) ∧ TV w B t x
  | .atEnd t, v => ∃ x, v = .iface 146 (.agg #[x]) ∧ TV w B t x
  | .inside f a, v => ∃ x y, v = .iface 141 (.agg #[x, y]) ∧ BV w B f x ∧ BV w B a y

theorem BV.below {w w' : World} {B : Nat} (hb : Below w.heap.size w w') : ∀ {b : Bd} {v : Value}, BV w B b v → BV w' B b v
  | .itself, _, h => h
  | .without _, _, ⟨x, hv, h⟩ => ⟨x, hv, h.below hb⟩
  | .atEnd _, _, ⟨x, hv, h⟩ => ⟨x, hv, h.below hb⟩
  | .inside _ _, _, ⟨x, y, hv, hf, ha⟩ => ⟨x, y, hv, hf.below hb, ha.below hb⟩

theorem meth_itself (W : World) : (method 265 137 (.agg #[]) "loop.example/realizers/impl.abstract").run Tryz.prog W = .ok (123, .agg #[]) W := by kernel_rfl
theorem meth_without (W : World) (x : Value) : (method 265 139 (.agg #[x]) "loop.example/realizers/impl.abstract").run Tryz.prog W = .ok (125, .agg #[x]) W := by kernel_rfl
theorem meth_atEnd (W : World) (x : Value) : (method 265 146 (.agg #[x]) "loop.example/realizers/impl.abstract").run Tryz.prog W = .ok (126, .agg #[x]) W := by kernel_rfl
theorem meth_inside (W : World) (x y : Value) : (method 265 141 (.agg #[x, y]) "loop.example/realizers/impl.abstract").run Tryz.prog W = .ok (75, .agg #[x, y]) W := by kernel_rfl

def AbsOk (w : World) (B : Nat) (v : Value) (t : Tm) : Prop :=
  ∃ T x f y, v = .iface T x ∧ (∀ W, (method 265 T x "loop.example/realizers/impl.abstract").run Tryz.prog W = .ok (f, y) W) ∧ (∀ args w', (callFunc f args).run Tryz.prog w' = .ok (.enter f args) w') ∧
    ∀ W, Below w.heap.size w W → Calls Tryz.prog f #[y] W (TermPost W B t)

theorem itself_abs (W : World) (B : Nat) (hB : B ≤ W.heap.size) : Calls Tryz.prog 123 #[.agg #[]] W (TermPost W B Tm.I) := by
  have hA := below_alloc (Below.refl W.heap.size W) (.cells #[] 137)
  have hcall := identity_any (W.alloc (.cells #[] 137)) B (Nat.le_trans hB hA.size)
  unfold TermPost at hcall
  go_enter Tryz.func123, Tryz.ntmps123
  go_wp2_with fail
  refine hcall.mono ?_
  rintro e w1 ⟨v1, rfl, hb1, ht1⟩
  have HT := Lib.hid ht1
  clear ht1 hcall
  go_wp2_with fail
  go_ret
  exact ⟨_, rfl, below_trans hA hb1, HT.out⟩

theorem without_abs (W : World) (B : Nat) (t : Tm) (x : Value) (h : TV W B t x) (hB : B ≤ W.heap.size) (hz : t.size ≤ 1000000000) : Calls Tryz.prog 125 #[.agg #[x]] W (TermPost W B (.app .k t)) := by
  obtain ⟨os, hos⟩ : ∃ os : List Obj, os = [.cells #[x] 139, .cells #[] 89] := ⟨_, rfl⟩
  have hX : allocL W os = (W.alloc (.cells #[x] 139)).alloc (.cells #[] 89) := by rw [hos]; rfl
  have hA := allocL_below W os
  have hk : (allocL W os).heap[W.heap.size + 1]? = some (.cells #[] 89 (0, 0)) := by have := allocL_heap W os 1 (by rw [hos]; simp); simpa [hos] using this
  have hcall := apply_any (allocL W os) B .k t (.iface 87 (.pointer (some ⟨W.heap.size + 1, 0, none⟩))) x ⟨_, _, rfl, by omega, hk⟩ (h.below hA) (Nat.le_trans hB hA.size) (by simp only [Tm.size]; omega)
  rw [hX] at hcall hA
  obtain ⟨T, y, rfl, _⟩ := h.asks
  clear hk hX hos h
  go_enter Tryz.func125, Tryz.ntmps125
  go_wp2_with fail
  refine hcall.mono ?_
  rintro e w1 ⟨v1, rfl, hb1, ht1⟩
  have HT := Lib.hid ht1
  clear ht1 hcall
  go_wp2_with fail
  go_ret
  exact ⟨_, rfl, below_trans hA hb1, HT.out⟩

theorem atEnd_abs (W : World) (B : Nat) (t : Tm) (x : Value) (h : TV W B t x) : Calls Tryz.prog 126 #[.agg #[x]] W (TermPost W B t) := by
  have hA := below_alloc (Below.refl W.heap.size W) (.cells #[x] 146)
  have HT := Lib.hid (h.below hA)
  obtain ⟨T, y, rfl, _⟩ := h.asks
  clear h
  go_enter Tryz.func126, Tryz.ntmps126
  go_wp2_with fail
  go_ret
  exact ⟨_, rfl, hA, HT.out⟩

theorem heap_top (W : World) (o : Obj) : (W.alloc o).heap[W.heap.size]? = some o := by show (W.heap.push _)[_]? = _; simp
theorem heap_top2 (W : World) (o p : Obj) : ((W.alloc o).alloc p).heap[W.heap.size + 1]? = some p := by
  have := heap_top (W.alloc o) p
  rwa [show (W.alloc o).heap.size = W.heap.size + 1 by simp] at this
theorem below_new (W : World) (o : Obj) : Below W.heap.size W (W.alloc o) := below_alloc (Below.refl _ _) _
theorem heap_below2 (W : World) (o p : Obj) : ((W.alloc o).alloc p).heap[W.heap.size]? = some o := heap_later (heap_top W o) (below_new (W.alloc o) p)

theorem inside_call (W : World) (B b g : Nat) (f a : Tm) (T3 T4 : TypeId) (x3 x4 : Value) (hs : W.heap[b]? = some (.cells #[] 91 (0, 0))) (hBb : B ≤ b) (hg : W.heap[g]? = some (.cells #[.iface T3 x3, .iface T4 x4] 33 (0, 0)))
    (h1 : TV W B f (.iface T3 x3)) (h2 : TV W B a (.iface T4 x4)) (hz : f.size + a.size ≤ 999999999) :
    Calls Tryz.prog 32 #[.iface 90 (.pointer (some ⟨b, 0, none⟩)), .slice (some ⟨g, 0, none⟩) 2 2] W (TermPost W B (.app (.app .s f) a)) := by
  have hlt := (Array.getElem?_eq_some_iff.1 hs).1
  have hg' : W.heap[g]? = some (.cells ([.iface T3 x3, .iface T4 x4] : List Value).toArray 33 (0, 0)) := hg
  exact applyAll_any _ B g .s _ [f, a] [.iface T3 x3, .iface T4 x4] (0, 0) rfl hg' ⟨_, _, rfl, hBb, hs⟩ (fun j hj => by
    match j, hj with
    | 0, _ => exact h1
    | 1, _ => exact h2) (by omega) (by simp [Tm.size]; omega) (by simp)

theorem inside_abs (W : World) (B : Nat) (f a : Tm) (x y : Value) (hf : AbsOk W B x f) (ha : AbsOk W B y a) (hB : B ≤ W.heap.size) (hz : f.size + a.size ≤ 999999999) : Calls Tryz.prog 75 #[.agg #[x, y]] W (TermPost W B (.app (.app .s f) a)) := by
  obtain ⟨T1, x1, f1, y1, rfl, m1, n1, d1⟩ := hf
  obtain ⟨T2, x2, f2, y2, rfl, m2, n2, d2⟩ := ha
  obtain ⟨X, hX⟩ : ∃ X, X = W.alloc (.cells #[.iface T1 x1, .iface T2 x2] 141) := ⟨_, rfl⟩
  have hWX : Below W.heap.size W X := by rw [hX]; exact below_alloc (Below.refl _ _) _
  have hbox : X.heap[W.heap.size]? = some (.cells #[.iface T1 x1, .iface T2 x2] 141 (0, 0)) := by rw [hX]; show (W.heap.push _)[_]? = _; simp
  have h0 : ∀ W', Below X.heap.size X W' → W'.cell? ⟨W.heap.size, 0, none⟩ = some (.iface T1 x1) := cell_later' (cell_of_heap hbox)
  have h1 : ∀ W', Below X.heap.size X W' → W'.cell? ⟨W.heap.size, 1, none⟩ = some (.iface T2 x2) := cell_later' (cell_of_heap hbox)
  have hself := Below.refl X.heap.size X
  have c1 := fun W' (h : Below X.heap.size X W') => d1 W' (below_trans hWX h)
  have c2 := fun W' (h : Below X.heap.size X W') => d2 W' (below_trans hWX h)
  unfold TermPost at c1 c2
  have HWX := Lib.hid hWX
  have hBX : B ≤ X.heap.size := Nat.le_trans hB hWX.size
  go_enter Tryz.func75, Tryz.ntmps75
  go_wp2_with fail
  rw [← hX]
  clear hbox hWX hX d1 d2
  go_region_held3 (fun W' => Below X.heap.size X W') (first | assumption | exact hself.drew | exact (below_alloc hself _).drew | exact below_alloc (by assumption) _ | go_keep)
    (first
      | (go_at_fn f1; refine (c1 _ (by first | assumption | exact (below_alloc hself _).drew)).mono ?_; rintro e w1 ⟨r1, rfl, hb1, hv1⟩; obtain ⟨T3, x3, rfl, _⟩ := hv1.asks; have HV1 := Lib.hid hv1; clear hv1; have hb1' := below_trans (by first | assumption | exact (below_alloc hself _).drew) hb1)
      | (go_at_fn f2; refine (c2 _ (by assumption)).mono ?_; rintro e w2 ⟨r2, rfl, hb2, hv2⟩; obtain ⟨T4, x4, rfl, _⟩ := hv2.asks; have HV2 := Lib.hid hv2; clear hv2; have hb2' := below_trans (by assumption) hb2)
      | (go_at_call 32
         refine (inside_call _ B _ _ f a T3 T4 x3 x4 ?_ ?_ ?_ ?_ ?_ hz).mono ?_
         · first
             | exact heap_later (heap_later (heap_later (w := (X.alloc (.cells #[] 91)).drew) (heap_top X _) hb1) hb2) (below_new _ _)
             | exact heap_later (heap_later (heap_top w1 _) hb2) (below_new _ _)
             | exact heap_below2 w2 _ _
             | exact heap_top2 w2 _ _
         · have q1 := hb1.size
           have q2 := hb2.size
           try simp at q1
           try simp at q2
           omega
         · first
             | exact heap_top w2 _
             | exact heap_top2 w2 _ _
             | exact heap_below2 w2 _ _
         · first
             | exact HV1.out.below (below_trans hb2 (below_new _ _))
             | exact HV1.out.below (below_trans (below_new w1 _) (below_trans hb2 (below_new _ _)))
             | exact HV1.out.below (below_trans hb2 (below_trans (below_new w2 _) (below_new _ _)))
         · first
             | exact HV2.out.below (below_new w2 _)
             | exact HV2.out.below (below_trans (below_new w2 _) (below_new _ _))
         rintro e w3 ⟨r3, rfl, hb3, hv3⟩
         have HV3 := Lib.hid hv3
         clear hv3
         have hb3' := below_trans (by assumption) hb3))
  all_goals
    go_wp2_with fail
    go_ret
    exact ⟨_, rfl, below_trans HWX.out hb3', HV3.out⟩
end Go.Proofs.YtfpekihdoclncaaGreat

namespace Go.Proofs.YtfpekihdoclncaaGreat
open Go.RowKit

set_option maxHeartbeats 1000000
set_option maxRecDepth 100000

theorem Dr.lt {w : World} {rb p : Nat} (h : Dr w rb p) : rb < w.heap.size := by obtain ⟨v, h, _⟩ := h; exact (Array.getElem?_eq_some_iff.1 h).1

theorem CodeOk.after {w W : World} {rb : Nat} {v : Value} (h : CodeOk w rb v) (hw : Below w.heap.size w W) : CodeOk W rb v := by
  rcases h with h | ⟨b, o, n, cap, hn0, hn, rfl, hne, z, hz⟩
  · exact Or.inl h
  · exact Or.inr ⟨b, o, n, cap, hn0, hn, rfl, hne, z, fun i hi => ⟨cell_later' (hz i hi).1 W hw, (hz i hi).2⟩⟩

theorem Dr.after {w W : World} {rb p : Nat} (h : Dr w rb p) (hw : Below w.heap.size w W) : Dr W rb p := by
  obtain ⟨v, h, hc⟩ := h
  exact ⟨v, heap_later h hw, hc.after hw⟩

def OfPost (w : World) (rb p : Nat) (L : List (List UInt8)) (e : Ending) (w' : World) : Prop :=
  ∃ s, s ∈ L ∧ e = .returned (str s) ∧ w.grownBy w' (some rb) ∧ Dr w' rb (p + 1)

theorem grown_cell {w w' : World} {g rb i : Nat} {v : Value} (h : w.cell? ⟨g, i, none⟩ = some v) (hne : g ≠ rb) (hg : w.grownBy w' (some rb)) : w'.cell? ⟨g, i, none⟩ = some v := by
  have hb := hg.block g (World.block_lt_of_cell? _ _ h) (fun e => by injection e with e; exact hne e)
  simp only [World.cell?] at *
  rw [hb]
  exact h

theorem of_any (w : World) (rb p g : Nat) (fr : Nat × Nat) (L : List (List UInt8)) (hL : w.heap[g]? = some (.cells (L.map str).toArray 9 fr)) (h0 : 0 < L.length) (h1 : L.length ≤ 1000) (hne : g ≠ rb) (h : Dr w rb p) (hp : p ≤ 1000000) :
    Calls Tryz.prog 46 #[.pointer (some ⟨rb, 0, none⟩), .slice (some ⟨g, 0, none⟩) L.length L.length] w (OfPost w rb p L) := by
  have hpick := pick_any w rb p L.length h hp (by omega) h1
  have hcell : ∀ k, k < L.length → w.cell? ⟨g, k, none⟩ = some (str (L.getD k [])) := fun k hk => by
    rw [cell_of_heap hL]
    simp [List.getD_eq_getElem?_getD, List.getElem?_eq_getElem hk]
  obtain ⟨N, hN⟩ : ∃ N, N = L.length := ⟨_, rfl⟩
  rw [← hN] at hpick h0 h1 hcell ⊢
  have HN := Lib.hid hN
  clear hN hL h
  go_enter Tryz.func46, Tryz.ntmps46
  go_wp2_with fail
  refine hpick.mono ?_
  rintro e w1 ⟨k, hk, rfl, hg1, hd1⟩
  have hc := grown_cell (hcell k hk) hne hg1
  have hk' : (k : Int) < (N : Int) := by omega
  have HD := Lib.hid hd1
  clear hd1 hpick hcell
  go_wp2_with fail
  go_ret
  refine ⟨L.getD k [], ?_, rfl, hg1, HD.out⟩
  have := HN.out
  rw [List.getD_eq_getElem?_getD, List.getElem?_eq_getElem (by omega)]
  exact List.getElem_mem _

/-- Some text of at most b bytes, behind at most c draws. -/
def StrPost (w : World) (rb p b c : Nat) (e : Ending) (w' : World) : Prop :=
  ∃ (s : ByteArray) (q : Nat), e = .returned (.string s) ∧ s.size ≤ b ∧ q ≤ p + c ∧ w.grownBy w' (some rb) ∧ Dr w' rb q

theorem cat2 (a b : ByteArray) (h : a.size + b.size ≤ 1000000000000) : ∃ c : ByteArray, c.size = a.size + b.size ∧ ∀ W, (Op.stringOp .add a b).run Tryz.prog W = .ok (.string c) W :=
  ⟨a ++ b, by simp, fun W => run_string_add_sum W a b (by omega)⟩

theorem ssize (l : List UInt8) : (⟨l.toArray⟩ : ByteArray).size = l.length := by show l.toArray.size = _; simp

def termL : List (List UInt8) := [[107], [115], [107], [120], [121], [115], [122, 49], [40, 40, 115, 32, 107, 41, 32, 107, 41]]

theorem grown_new {w w' : World} {o : Obj} {rb : Nat} (hg : (w.alloc o).grownBy w' (some rb)) (_h : rb < w.heap.size) : w.grownBy w' (some rb) := by
  have hb := below_new w o
  refine ⟨hg.os.trans hb.os, hg.tape.trans hb.tape, hg.output.trans hb.output, Nat.le_trans hb.size hg.size, fun k hk hne => ?_⟩
  rw [hg.block k (Nat.lt_of_lt_of_le hk hb.size) hne]
  exact hb.block k hk

/-- The first way of l91Term: one of the list. -/
theorem term_leaf (w : World) (rb p : Nat) (d : Int) (h : Dr w rb p) (hp : p ≤ 1000000) (hd : d ≤ 0) :
    Calls Tryz.prog 47 #[.pointer (some ⟨rb, 0, none⟩), .int .i64 d] w (StrPost w rb p 12 3) := by
  have hlt := h.lt
  have hof := of_any (w.alloc (.cells (termL.map str).toArray 9)) rb p w.heap.size (0, 0) termL (heap_top w _) (by decide) (by decide) (by omega) (h.after (below_new w _)) hp
  have hlen : ∀ s ∈ termL, s.length ≤ 12 := by decide
  have HL := Lib.hid hlen
  clear h hlen
  go_enter Tryz.func47, Tryz.ntmps47
  go_wp2_with fail
  refine hof.mono ?_
  rintro e w1 ⟨s, hs, rfl, hg1, hd1⟩
  have HD := Lib.hid hd1
  have HS := Lib.hid hs
  clear hd1 hof hs
  go_wp2_with fail
  go_ret
  exact ⟨⟨s.toArray⟩, p + 1, rfl, by rw [ssize]; exact HL.out s HS.out, by omega, grown_new hg1 hlt, HD.out⟩

theorem pow_pos4 (n : Nat) : 1 ≤ 4 ^ n := by have := Nat.pow_le_pow_right (n := 4) (by decide) (Nat.zero_le n); simpa using this

theorem term_any : ∀ (n : Nat) (w : World) (rb p : Nat) (d : Int), Dr w rb p → p + 3 * 4 ^ n ≤ 1000000 → d ≤ n → -100 ≤ d → n ≤ 10 →
    Calls Tryz.prog 47 #[.pointer (some ⟨rb, 0, none⟩), .int .i64 d] w (StrPost w rb p (12 * 4 ^ n) (3 * 4 ^ n)) := by
  intro n
  induction n with
  | zero =>
    intro w rb p d h hp hd _ _
    exact term_leaf w rb p d h (by omega) (by omega)
  | succ n ih =>
    intro w rb p d h hp hd hd2 hn
    have hpw := pow_pos4 n
    have hpn : 4 ^ n ≤ 1048576 := Nat.pow_le_pow_right (by decide) (show n ≤ 10 by omega)
    rw [Nat.pow_succ] at hp ⊢
    by_cases hd0 : d ≤ 0
    · refine (term_leaf w rb p d h (by omega) hd0).mono ?_
      rintro e w' ⟨s, q, rfl, hs, hq, hg, hd⟩
      exact ⟨s, q, rfl, by omega, by omega, hg, hd⟩
    · have hp1 := pick_any w rb p 5 h (by omega) (by decide) (by decide)
      generalize 4 ^ n = P at *
      have HIH := Lib.hid ih
      clear ih h
      go_enter Tryz.func47, Tryz.ntmps47
      go_wp2_with fail
      refine hp1.mono ?_
      rintro e w1 ⟨k, hk, rfl, hg1, hd1⟩
      have hlt := hd1.lt
      by_cases hk0 : k = 0
      · subst hk0
        have hof := of_any (w1.alloc (.cells (termL.map str).toArray 9)) rb (p + 1) w1.heap.size (0, 0) termL (heap_top w1 _) (by decide) (by decide) (by omega) (hd1.after (below_new w1 _)) (by omega)
        have hlen : ∀ s ∈ termL, s.length ≤ 12 := by decide
        have HL := Lib.hid hlen
        clear hlen hd1 hp1
        go_wp2_with fail
        refine hof.mono ?_
        rintro e w2 ⟨s, hs, rfl, hg2, hd2⟩
        have HD := Lib.hid hd2
        have HS := Lib.hid hs
        clear hd2 hof hs
        go_wp2_with fail
        go_ret
        exact ⟨⟨s.toArray⟩, p + 1 + 1, rfl, by rw [ssize]; have := HL.out s HS.out; omega, by omega, grown_trans hg1 (grown_new hg2 hlt), HD.out⟩
      · have hk1 : ((k : Int) == 0) = false := by rw [beq_eq_false_iff_ne]; omega
        have hp2 := pick_any w1 rb (p + 1) 5 hd1 (by omega) (by decide) (by decide)
        clear hd1 hp1
        go_wp2_with fail
        refine hp2.mono ?_
        rintro e w2 ⟨j, hj, rfl, hg2, hd2'⟩
        have HD2 := Lib.hid hd2'
        clear hd2' hp2
        by_cases hj0 : j = 0
        · subst hj0
          go_wp2_with fail
          refine (HIH.out w2 rb (p + 1 + 1) (d - 1) HD2.out (by omega) (by omega) (by omega) (by omega)).mono ?_
          rintro e w3 ⟨s1, q1, rfl, hz1, hq1, hg3, hd3⟩
          obtain ⟨t1, z1, e1⟩ := cat2 ⟨#[40, 40, 107, 32]⟩ s1 (by have : (⟨#[40, 40, 107, 32]⟩ : ByteArray).size = 4 := rfl; omega)
          obtain ⟨t2, z2, e2⟩ := cat2 t1 ⟨#[41, 32]⟩ (by have : (⟨#[40, 40, 107, 32]⟩ : ByteArray).size = 4 := rfl; have : (⟨#[41, 32]⟩ : ByteArray).size = 2 := rfl; omega)
          have HD3 := Lib.hid hd3
          have Z1 := Lib.hid z1
          have Z2 := Lib.hid z2
          clear hd3 z1 z2
          go_wp2_with fail
          refine (HIH.out w3 rb q1 (d - 1) HD3.out (by omega) (by omega) (by omega) (by omega)).mono ?_
          rintro e w4 ⟨s2, q2, rfl, hz2, hq2, hg4, hd4⟩
          have l1 : (⟨#[40, 40, 107, 32]⟩ : ByteArray).size = 4 := rfl
          have l2 : (⟨#[41, 32]⟩ : ByteArray).size = 2 := rfl
          have l3 : (⟨#[41]⟩ : ByteArray).size = 1 := rfl
          have y1 := Z1.out
          have y2 := Z2.out
          obtain ⟨t3, z3, e3⟩ := cat2 t2 s2 (by omega)
          obtain ⟨t4, z4, e4⟩ := cat2 t3 ⟨#[41]⟩ (by omega)
          have hfin : t4.size ≤ 12 * (P * 4) := by omega
          have HD4 := Lib.hid hd4
          clear hd4 l1 l2 l3 y1 y2 z3 z4
          go_wp2_with fail
          go_ret
          exact ⟨t4, q2, rfl, hfin, by omega, grown_trans (grown_trans hg1 hg2) (grown_trans hg3 hg4), HD4.out⟩
        · have hj1 : ((j : Int) == 0) = false := by rw [beq_eq_false_iff_ne]; omega
          by_cases hj2 : j = 1
          · subst hj2
            go_wp2_with fail
            refine (HIH.out w2 rb (p + 1 + 1) (d - 1) HD2.out (by omega) (by omega) (by omega) (by omega)).mono ?_
            rintro e w3 ⟨s1, q1, rfl, hz1, hq1, hg3, hd3⟩
            obtain ⟨t1, z1, e1⟩ := cat2 ⟨#[40, 40, 40, 115, 32]⟩ s1 (by have : (⟨#[40, 40, 40, 115, 32]⟩ : ByteArray).size = 5 := rfl; omega)
            obtain ⟨t2, z2, e2⟩ := cat2 t1 ⟨#[41, 32]⟩ (by have : (⟨#[40, 40, 40, 115, 32]⟩ : ByteArray).size = 5 := rfl; have : (⟨#[41, 32]⟩ : ByteArray).size = 2 := rfl; omega)
            have HD3 := Lib.hid hd3
            have Z1 := Lib.hid z1
            have Z2 := Lib.hid z2
            clear hd3 z1 z2
            go_wp2_with fail
            refine (HIH.out w3 rb q1 (d - 1) HD3.out (by omega) (by omega) (by omega) (by omega)).mono ?_
            rintro e w4 ⟨s2, q2, rfl, hz2, hq2, hg4, hd4⟩
            have l1 : (⟨#[40, 40, 40, 115, 32]⟩ : ByteArray).size = 5 := rfl
            have l2 : (⟨#[41, 32]⟩ : ByteArray).size = 2 := rfl
            have l3 : (⟨#[41]⟩ : ByteArray).size = 1 := rfl
            have y1 := Z1.out
            have y2 := Z2.out
            obtain ⟨t3, z3, e3⟩ := cat2 t2 s2 (by omega)
            obtain ⟨t4, z4, e4⟩ := cat2 t3 ⟨#[41, 32]⟩ (by omega)
            have hmid : t4.size ≤ 24 * P + 9 := by omega
            have HM := Lib.hid hmid
            have HD4 := Lib.hid hd4
            clear hd4 l1 l2 l3 y1 y2 z3 z4 hmid
            go_wp2_with fail
            refine (HIH.out w4 rb q2 (d - 2) HD4.out (by omega) (by omega) (by omega) (by omega)).mono ?_
            rintro e w5 ⟨s3, q3, rfl, hz3, hq3, hg5, hd5⟩
            have l3 : (⟨#[41]⟩ : ByteArray).size = 1 := rfl
            have y1 := HM.out
            obtain ⟨t5, z5, e5⟩ := cat2 t4 s3 (by omega)
            obtain ⟨t6, z6, e6⟩ := cat2 t5 ⟨#[41]⟩ (by omega)
            have hfin : t6.size ≤ 12 * (P * 4) := by omega
            have HD5 := Lib.hid hd5
            clear hd5 l3 y1 z5 z6
            go_wp2_with fail
            go_ret
            exact ⟨t6, q3, rfl, hfin, by omega, grown_trans (grown_trans (grown_trans hg1 hg2) (grown_trans hg3 hg4)) hg5, HD5.out⟩
          · have hj3 : ((j : Int) == 1) = false := by rw [beq_eq_false_iff_ne]; omega
            go_wp2_with fail
            refine (HIH.out w2 rb (p + 1 + 1) (d - 1) HD2.out (by omega) (by omega) (by omega) (by omega)).mono ?_
            rintro e w3 ⟨s1, q1, rfl, hz1, hq1, hg3, hd3⟩
            obtain ⟨t1, z1, e1⟩ := cat2 ⟨#[40]⟩ s1 (by have : (⟨#[40]⟩ : ByteArray).size = 1 := rfl; omega)
            obtain ⟨t2, z2, e2⟩ := cat2 t1 ⟨#[32]⟩ (by have : (⟨#[40]⟩ : ByteArray).size = 1 := rfl; have : (⟨#[32]⟩ : ByteArray).size = 1 := rfl; omega)
            have HD3 := Lib.hid hd3
            have Z1 := Lib.hid z1
            have Z2 := Lib.hid z2
            clear hd3 z1 z2
            go_wp2_with fail
            refine (HIH.out w3 rb q1 (d - 1) HD3.out (by omega) (by omega) (by omega) (by omega)).mono ?_
            rintro e w4 ⟨s2, q2, rfl, hz2, hq2, hg4, hd4⟩
            have l1 : (⟨#[40]⟩ : ByteArray).size = 1 := rfl
            have l2 : (⟨#[32]⟩ : ByteArray).size = 1 := rfl
            have l3 : (⟨#[41]⟩ : ByteArray).size = 1 := rfl
            have y1 := Z1.out
            have y2 := Z2.out
            obtain ⟨t3, z3, e3⟩ := cat2 t2 s2 (by omega)
            obtain ⟨t4, z4, e4⟩ := cat2 t3 ⟨#[41]⟩ (by omega)
            have hfin : t4.size ≤ 12 * (P * 4) := by omega
            have HD4 := Lib.hid hd4
            clear hd4 l1 l2 l3 y1 y2 z3 z4
            go_wp2_with fail
            go_ret
            exact ⟨t4, q2, rfl, hfin, by omega, grown_trans (grown_trans hg1 hg2) (grown_trans hg3 hg4), HD4.out⟩
end Go.Proofs.YtfpekihdoclncaaGreat

namespace Go.Proofs.YtfpekihdoclncaaGreat
open Go.RowKit

set_option maxHeartbeats 1000000
set_option maxRecDepth 100000

def closedL : List (List UInt8) := [[107], [115], [107], [40, 40, 115, 32, 107, 41, 32, 107, 41], [40, 107, 32, 40, 40, 115, 32, 107, 41, 32, 107, 41, 41]]

theorem closed_leaf (w : World) (rb p : Nat) (d : Int) (h : Dr w rb p) (hp : p ≤ 1000000) (hd : d ≤ 0) :
    Calls Tryz.prog 26 #[.pointer (some ⟨rb, 0, none⟩), .int .i64 d] w (StrPost w rb p 13 3) := by
  have hlt := h.lt
  have hof := of_any (w.alloc (.cells (closedL.map str).toArray 9)) rb p w.heap.size (0, 0) closedL (heap_top w _) (by decide) (by decide) (by omega) (h.after (below_new w _)) hp
  have hlen : ∀ s ∈ closedL, s.length ≤ 13 := by decide
  have HL := Lib.hid hlen
  clear h hlen
  go_enter Tryz.func26, Tryz.ntmps26
  go_wp2_with fail
  refine hof.mono ?_
  rintro e w1 ⟨s, hs, rfl, hg1, hd1⟩
  have HD := Lib.hid hd1
  have HS := Lib.hid hs
  clear hd1 hof hs
  go_wp2_with fail
  go_ret
  exact ⟨⟨s.toArray⟩, p + 1, rfl, by rw [ssize]; exact HL.out s HS.out, by omega, grown_new hg1 hlt, HD.out⟩

theorem closed_any : ∀ (n : Nat) (w : World) (rb p : Nat) (d : Int), Dr w rb p → p + 3 * 4 ^ n ≤ 1000000 → d ≤ n → -100 ≤ d → n ≤ 10 →
    Calls Tryz.prog 26 #[.pointer (some ⟨rb, 0, none⟩), .int .i64 d] w (StrPost w rb p (13 * 4 ^ n) (3 * 4 ^ n)) := by
  intro n
  induction n with
  | zero =>
    intro w rb p d h hp hd _ _
    exact closed_leaf w rb p d h (by omega) (by omega)
  | succ n ih =>
    intro w rb p d h hp hd hd2 hn
    have hpw := pow_pos4 n
    have hpn : 4 ^ n ≤ 1048576 := Nat.pow_le_pow_right (by decide) (show n ≤ 10 by omega)
    rw [Nat.pow_succ] at hp ⊢
    by_cases hd0 : d ≤ 0
    · refine (closed_leaf w rb p d h (by omega) hd0).mono ?_
      rintro e w' ⟨s, q, rfl, hs, hq, hg, hd⟩
      exact ⟨s, q, rfl, by omega, by omega, hg, hd⟩
    · have hp1 := pick_any w rb p 5 h (by omega) (by decide) (by decide)
      generalize 4 ^ n = P at *
      have HIH := Lib.hid ih
      clear ih h
      go_enter Tryz.func26, Tryz.ntmps26
      go_wp2_with fail
      refine hp1.mono ?_
      rintro e w1 ⟨k, hk, rfl, hg1, hd1⟩
      have hlt := hd1.lt
      by_cases hk0 : k = 0
      · subst hk0
        have hof := of_any (w1.alloc (.cells (closedL.map str).toArray 9)) rb (p + 1) w1.heap.size (0, 0) closedL (heap_top w1 _) (by decide) (by decide) (by omega) (hd1.after (below_new w1 _)) (by omega)
        have hlen : ∀ s ∈ closedL, s.length ≤ 13 := by decide
        have HL := Lib.hid hlen
        clear hlen hd1 hp1
        go_wp2_with fail
        refine hof.mono ?_
        rintro e w2 ⟨s, hs, rfl, hg2, hd2⟩
        have HD := Lib.hid hd2
        have HS := Lib.hid hs
        clear hd2 hof hs
        go_wp2_with fail
        go_ret
        exact ⟨⟨s.toArray⟩, p + 1 + 1, rfl, by rw [ssize]; have := HL.out s HS.out; omega, by omega, grown_trans hg1 (grown_new hg2 hlt), HD.out⟩
      · have hk1 : ((k : Int) == 0) = false := by rw [beq_eq_false_iff_ne]; omega
        have hp2 := pick_any w1 rb (p + 1) 4 hd1 (by omega) (by decide) (by decide)
        clear hd1 hp1
        go_wp2_with fail
        refine hp2.mono ?_
        rintro e w2 ⟨j, hj, rfl, hg2, hd2'⟩
        have HD2 := Lib.hid hd2'
        clear hd2' hp2
        by_cases hj0 : j = 0
        · subst hj0
          go_wp2_with fail
          refine (HIH.out w2 rb (p + 1 + 1) (d - 1) HD2.out (by omega) (by omega) (by omega) (by omega)).mono ?_
          rintro e w3 ⟨s1, q1, rfl, hz1, hq1, hg3, hd3⟩
          obtain ⟨t1, z1, e1⟩ := cat2 ⟨#[40, 40, 107, 32]⟩ s1 (by have : (⟨#[40, 40, 107, 32]⟩ : ByteArray).size = 4 := rfl; omega)
          obtain ⟨t2, z2, e2⟩ := cat2 t1 ⟨#[41, 32]⟩ (by have : (⟨#[40, 40, 107, 32]⟩ : ByteArray).size = 4 := rfl; have : (⟨#[41, 32]⟩ : ByteArray).size = 2 := rfl; omega)
          have HD3 := Lib.hid hd3
          have Z1 := Lib.hid z1
          have Z2 := Lib.hid z2
          clear hd3 z1 z2
          go_wp2_with fail
          refine (HIH.out w3 rb q1 (d - 1) HD3.out (by omega) (by omega) (by omega) (by omega)).mono ?_
          rintro e w4 ⟨s2, q2, rfl, hz2, hq2, hg4, hd4⟩
          have l1 : (⟨#[40, 40, 107, 32]⟩ : ByteArray).size = 4 := rfl
          have l2 : (⟨#[41, 32]⟩ : ByteArray).size = 2 := rfl
          have l3 : (⟨#[41]⟩ : ByteArray).size = 1 := rfl
          have y1 := Z1.out
          have y2 := Z2.out
          obtain ⟨t3, z3, e3⟩ := cat2 t2 s2 (by omega)
          obtain ⟨t4, z4, e4⟩ := cat2 t3 ⟨#[41]⟩ (by omega)
          have hfin : t4.size ≤ 13 * (P * 4) := by omega
          have HD4 := Lib.hid hd4
          clear hd4 l1 l2 l3 y1 y2 z3 z4
          go_wp2_with fail
          go_ret
          exact ⟨t4, q2, rfl, hfin, by omega, grown_trans (grown_trans hg1 hg2) (grown_trans hg3 hg4), HD4.out⟩
        · have hj1 : ((j : Int) == 0) = false := by rw [beq_eq_false_iff_ne]; omega
          go_wp2_with fail
          refine (HIH.out w2 rb (p + 1 + 1) (d - 1) HD2.out (by omega) (by omega) (by omega) (by omega)).mono ?_
          rintro e w3 ⟨s1, q1, rfl, hz1, hq1, hg3, hd3⟩
          obtain ⟨t1, z1, e1⟩ := cat2 ⟨#[40]⟩ s1 (by have : (⟨#[40]⟩ : ByteArray).size = 1 := rfl; omega)
          obtain ⟨t2, z2, e2⟩ := cat2 t1 ⟨#[32]⟩ (by have : (⟨#[40]⟩ : ByteArray).size = 1 := rfl; have : (⟨#[32]⟩ : ByteArray).size = 1 := rfl; omega)
          have HD3 := Lib.hid hd3
          have Z1 := Lib.hid z1
          have Z2 := Lib.hid z2
          clear hd3 z1 z2
          go_wp2_with fail
          refine (HIH.out w3 rb q1 (d - 1) HD3.out (by omega) (by omega) (by omega) (by omega)).mono ?_
          rintro e w4 ⟨s2, q2, rfl, hz2, hq2, hg4, hd4⟩
          have l1 : (⟨#[40]⟩ : ByteArray).size = 1 := rfl
          have l2 : (⟨#[32]⟩ : ByteArray).size = 1 := rfl
          have l3 : (⟨#[41]⟩ : ByteArray).size = 1 := rfl
          have y1 := Z1.out
          have y2 := Z2.out
          obtain ⟨t3, z3, e3⟩ := cat2 t2 s2 (by omega)
          obtain ⟨t4, z4, e4⟩ := cat2 t3 ⟨#[41]⟩ (by omega)
          have hfin : t4.size ≤ 13 * (P * 4) := by omega
          have HD4 := Lib.hid hd4
          clear hd4 l1 l2 l3 y1 y2 z3 z4
          go_wp2_with fail
          go_ret
          exact ⟨t4, q2, rfl, hfin, by omega, grown_trans (grown_trans hg1 hg2) (grown_trans hg3 hg4), HD4.out⟩

def oddL : List (List UInt8) := [[], [97], [40, 107, 41], [40, 107, 32, 115, 32, 107, 41], [107, 32], [40, 107, 32, 32, 115, 41], [120, 48, 48, 48, 48], [40, 40, 115, 32, 107, 41, 107, 41]]
def bigL : List (List UInt8) := [[40, 40, 40, 40, 115, 32, 40, 40, 115, 32, 107, 41, 32, 107, 41, 41, 32, 40, 40, 115, 32, 107, 41, 32, 107, 41, 41, 41, 32, 40, 40, 40, 115, 32, 40, 40, 115, 32, 107, 41, 32, 107, 41, 41, 32, 40, 40, 115, 32, 107, 41, 32, 107, 41, 41, 41, 41], [40, 40, 40, 115, 32, 40, 40, 115, 32, 107, 41, 32, 107, 41, 41, 32, 40, 40, 115, 32, 107, 41, 32, 107, 41, 41, 32, 40, 40, 115, 32, 40, 40, 115, 32, 107, 41, 32, 107, 41, 41, 32, 40, 40, 115, 32, 107, 41, 32, 107, 41, 41, 41], [40, 40, 40, 115, 32, 115, 41, 32, 107, 41, 32, 120, 41]]

theorem odd_any (w : World) (rb p : Nat) (h : Dr w rb p) (hp : p ≤ 900000) :
    Calls Tryz.prog 25 #[.pointer (some ⟨rb, 0, none⟩)] w (StrPost w rb p 1000 200) := by
  have hp1 := pick_any w rb p 16 h (by omega) (by decide) (by decide)
  clear h
  go_enter Tryz.func25, Tryz.ntmps25
  go_wp2_with fail
  refine hp1.mono ?_
  rintro e w1 ⟨k, hk, rfl, hg1, hd1⟩
  have hlt := hd1.lt
  have HD1 := Lib.hid hd1
  clear hd1 hp1
  by_cases hk0 : k = 0
  · subst hk0
    have hof := of_any (w1.alloc (.cells (oddL.map str).toArray 9)) rb (p + 1) w1.heap.size (0, 0) oddL (heap_top w1 _) (by decide) (by decide) (by omega) (HD1.out.after (below_new w1 _)) (by omega)
    have HL := Lib.hid (show ∀ s ∈ oddL, s.length ≤ 1000 by decide)
    go_wp2_with fail
    refine hof.mono ?_
    rintro e w2 ⟨s, hs, rfl, hg2, hd2⟩
    have HD := Lib.hid hd2
    have HS := Lib.hid hs
    clear hd2 hof hs
    go_wp2_with fail
    go_ret
    exact ⟨⟨s.toArray⟩, p + 1 + 1, rfl, by rw [ssize]; exact HL.out s HS.out, by omega, grown_trans hg1 (grown_new hg2 hlt), HD.out⟩
  · have hk1 : ((k : Int) == 0) = false := by rw [beq_eq_false_iff_ne]; omega
    by_cases hk2 : k = 1
    · subst hk2
      have hof := of_any (w1.alloc (.cells (bigL.map str).toArray 9)) rb (p + 1) w1.heap.size (0, 0) bigL (heap_top w1 _) (by decide) (by decide) (by omega) (HD1.out.after (below_new w1 _)) (by omega)
      have HL := Lib.hid (show ∀ s ∈ bigL, s.length ≤ 1000 by decide)
      go_wp2_with fail
      refine hof.mono ?_
      rintro e w2 ⟨s, hs, rfl, hg2, hd2⟩
      have HD := Lib.hid hd2
      have HS := Lib.hid hs
      clear hd2 hof hs
      go_wp2_with fail
      go_ret
      exact ⟨⟨s.toArray⟩, p + 1 + 1, rfl, by rw [ssize]; exact HL.out s HS.out, by omega, grown_trans hg1 (grown_new hg2 hlt), HD.out⟩
    · have hk3 : ((k : Int) == 1) = false := by rw [beq_eq_false_iff_ne]; omega
      have ht := term_any 3 w1 rb (p + 1) 3 HD1.out (by omega) (by omega) (by omega) (by omega)
      go_wp2_with fail
      refine ht.mono ?_
      rintro e w2 ⟨s, q, rfl, hs, hq, hg2, hd2⟩
      have HD := Lib.hid hd2
      clear hd2 ht
      go_wp2_with fail
      go_ret
      exact ⟨s, q, rfl, by omega, by omega, grown_trans hg1 hg2, HD.out⟩

/-- A code as it comes in. -/
def CodeArg (w : World) (v : Value) (n : Nat) : Prop :=
  (∃ a0 cap, v = .slice a0 0 cap ∧ n = 0) ∨ ∃ b o cap, 0 < n ∧ n ≤ cap ∧ cap ≤ 9223372036854775807 ∧ v = .slice (some ⟨b, o, none⟩) n cap ∧
    ∃ z : Nat → Nat, ∀ i, i < n → w.cell? ⟨b, o + i, none⟩ = some (.int .u8 (z i)) ∧ z i ≤ 255

def OpenPost (w : World) (e : Ending) (w' : World) : Prop := ∃ rb, e = .returned (.pointer (some ⟨rb, 0, none⟩)) ∧ w.heap.size ≤ rb ∧ After w w' ∧ Dr w' rb 0

theorem open_any (w : World) (v : Value) (n : Nat) (h : CodeArg w v n) :
    Calls Tryz.prog 9 #[v] w (OpenPost w) := by
  rcases h with ⟨a0, cap, rfl, rfl⟩ | ⟨b, o, cap, hn0, hnc, hcm, rfl, z, hz⟩
  · go_enter Tryz.func9, Tryz.ntmps9
    go_wp2_with fail
    go_ret
    exact ⟨_, rfl, Nat.le_refl _, After.new _ _, _, heap_top _ _, Or.inl ⟨_, _, rfl⟩⟩
  · have hb : b < w.heap.size := World.block_lt_of_cell? _ _ (hz 0 hn0).1
    by_cases hbig : 2000 < n
    · have hbig' : (2000 : Int) < (n : Int) := by omega
      have hc : (2000 : Int) ≤ (cap : Int) := by omega
      have HZ := Lib.hid hz
      clear hz
      go_enter Tryz.func9, Tryz.ntmps9
      go_wp2_with fail
      go_ret
      exact ⟨_, rfl, Nat.le_refl _, After.new _ _, _, heap_top _ _, Or.inr ⟨b, o, 2000, cap, by omega, by omega, rfl, by omega, z, fun i hi => ⟨cell_later' (HZ.out i (by omega)).1 _ (below_new w _), (HZ.out i (by omega)).2⟩⟩⟩
    · have hbig' : ¬ (2000 : Int) < (n : Int) := by omega
      have HZ := Lib.hid hz
      clear hz
      go_enter Tryz.func9, Tryz.ntmps9
      go_wp2_with fail
      go_ret
      exact ⟨_, rfl, Nat.le_refl _, After.new _ _, _, heap_top _ _, Or.inr ⟨b, o, n, cap, hn0, by omega, rfl, by omega, z, fun i hi => ⟨cell_later' (HZ.out i hi).1 _ (below_new w _), (HZ.out i hi).2⟩⟩⟩

/-- Some text. -/
def DrawPost (w : World) (e : Ending) (w' : World) : Prop := ∃ s : ByteArray, e = .returned (.string s) ∧ s.size ≤ 100000 ∧ After w w'

theorem after_open {w W w' : World} {rb : Nat} (h : After w W) (g : W.grownBy w' (some rb)) (hr : w.heap.size ≤ rb) : After w w' :=
  ⟨g.os.trans h.os, g.tape.trans h.tape, g.output.trans h.output, Nat.le_trans h.size g.size, fun k hk => by
    rw [g.block k (Nat.lt_of_lt_of_le hk h.size) (fun e => by injection e with e; omega)]; exact h.block k hk⟩

def wordL : List (List UInt8) := [[105], [116, 114, 117, 101], [102, 97, 108, 115, 101], [112, 97, 105, 114], [102, 105, 114, 115, 116], [115, 101, 99, 111, 110, 100], [122, 101, 114, 111], [115, 117, 99, 99], [112, 114, 101, 100], [102, 105, 120], [], [80, 97, 105, 114]]

end Go.Proofs.YtfpekihdoclncaaGreat
