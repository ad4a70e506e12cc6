/-
  The program's succTerm, fixTerm, dataTerm and DataOf.
-/
import Derived.Test.YtjomocjlnjgkeaaPkAR
import Derived.Test.YtjomocjlnjgkeaaPkAN
import Derived.Test.YtjomocjlnjgkeaaPkAE
namespace Go.Proofs.Ytjomocjlnjgkeaa
open Go.RowKit

set_option maxHeartbeats 1000000
set_option maxRecDepth 100000

namespace Tm
def X : Tm := .nm [120]
def Y : Tm := .nm [121]
def Z : Tm := .nm [122]
def half : Tm := abs [120] (abs [121] (app Y (app (app X X) Y)))
def fix : Tm := app half half
def succ : Tm := abs [120] (pair no X)
def pairC : Tm := abs [120] (abs [121] (abs [122] (app (app Z X) Y)))
def first : Tm := abs [120] (app X k)
def second : Tm := abs [120] (app X no)
def pred : Tm := abs [120] (app (app (app X k) I) (app X no))
/-- The closed term of a word. -/
def data (w : List UInt8) : Option Tm :=
  if w = [105] then some I else if w = [116, 114, 117, 101] then some k else if w = [102, 97, 108, 115, 101] then some no
  else if w = [112, 97, 105, 114] then some pairC else if w = [102, 105, 114, 115, 116] then some first else if w = [122, 101, 114, 111] then some first
  else if w = [115, 101, 99, 111, 110, 100] then some second else if w = [115, 117, 99, 99] then some succ else if w = [112, 114, 101, 100] then some pred
  else if w = [102, 105, 120] then some fix else none
theorem data_good {w : List UInt8} {t : Tm} (h : data w = some t) : t.good = true ∧ t.size ≤ 1000 := by
  unfold data at h
  repeat' split at h
  all_goals first | (obtain rfl := Option.some.inj h; exact ⟨by decide +kernel, by decide +kernel⟩) | cases h
end Tm

theorem nm_val {W : World} {B b : Nat} {n : List UInt8} {fr : Nat × Nat} (h : W.heap[b]? = some (.cells #[str n] 101 fr)) (hB : B ≤ b) : TV W B (.nm n) (.iface 97 (.pointer (some ⟨b, 0, none⟩))) := ⟨b, fr, rfl, hB, h⟩

theorem succ_any (w : World) (B : Nat) (hB : B ≤ w.heap.size) : Calls Try.prog 74 #[] w (TermPost w B Tm.succ) := by
  have hbit := bit_any w B false hB
  unfold TermPost at hbit
  simp only [Bool.false_eq_true, if_false] at hbit
  go_enter Try.func74, Try.ntmps74
  go_wp2_with fail
  refine hbit.mono ?_
  rintro e w1 ⟨v1, rfl, hb1, ht1⟩
  have hs1 := hb1.size
  have hnm := nm_val (heap_top w1 (.cells #[str [120]] 101)) (Nat.le_trans hB hs1)
  have hcall := pair_any (w1.alloc (.cells #[str [120]] 101)) B Tm.no Tm.X v1 _ (ht1.below (below_new _ _)) hnm (by simp; omega) (by decide +kernel)
  unfold TermPost at hcall
  have hb2 := below_trans hb1 (below_new w1 (.cells #[str [120]] 101))
  clear ht1 hnm hbit
  go_wp2_with fail
  refine hcall.mono ?_
  rintro e w2 ⟨v2, rfl, hb3, ht2⟩
  have hb4 := below_trans hb2 hb3
  have hcall2 := abstraction_any w2 B [120] _ v2 ht2 (Nat.le_trans hB hb4.size) (by decide +kernel)
  rw [show Tm.abs [120] (Tm.pair Tm.no Tm.X) = Tm.succ from rfl] at hcall2
  unfold TermPost at hcall2
  clear ht2 hcall
  go_wp2_with fail
  refine hcall2.mono ?_
  rintro e w3 ⟨v3, rfl, hb5, ht3⟩
  have HT := Lib.hid ht3
  clear ht3 hcall2
  go_wp2_with fail
  go_ret
  exact ⟨_, rfl, below_trans hb4 hb5, HT.out⟩

theorem applyAll2 (w : World) (B g : Nat) (f a b : Tm) (vf va vb : Value) (fr : Nat × Nat) (hg : w.heap[g]? = some (.cells #[va, vb] 46 fr)) (hf : TV w B f vf) (ha : TV w B a va) (hb : TV w B b vb) (hB : B ≤ w.heap.size) (hz : f.size + a.size + b.size ≤ 1000000) :
    Calls Try.prog 70 #[vf, .slice (some ⟨g, 0, none⟩) 2 2] w (TermPost w B (.app (.app f a) b)) :=
  applyAll_any w B g f vf [a, b] [va, vb] fr rfl hg hf (fun j hj => by
    match j, hj with
    | 0, _ => exact ha
    | 1, _ => exact hb) hB (by simp; omega) (by simp)

theorem applyAll3 (w : World) (B g : Nat) (f a b c : Tm) (vf va vb vc : Value) (fr : Nat × Nat) (hg : w.heap[g]? = some (.cells #[va, vb, vc] 46 fr)) (hf : TV w B f vf) (ha : TV w B a va) (hb : TV w B b vb) (hc : TV w B c vc) (hB : B ≤ w.heap.size) (hz : f.size + a.size + b.size + c.size ≤ 1000000) :
    Calls Try.prog 70 #[vf, .slice (some ⟨g, 0, none⟩) 3 3] w (TermPost w B (.app (.app (.app f a) b) c)) :=
  applyAll_any w B g f vf [a, b, c] [va, vb, vc] fr rfl hg hf (fun j hj => by
    match j, hj with
    | 0, _ => exact ha
    | 1, _ => exact hb
    | 2, _ => exact hc) hB (by simp; omega) (by simp)

theorem fix_any (w : World) (B : Nat) (hB : B ≤ w.heap.size) : Calls Try.prog 76 #[] w (TermPost w B Tm.fix) := by
  obtain ⟨os, hos⟩ : ∃ os : List Obj, os = [.cells #[str [120]] 101, .cells #[str [121]] 101, .cells #[.iface 97 (.pointer (some ⟨w.heap.size, 0, none⟩)), .iface 97 (.pointer (some ⟨w.heap.size + 1, 0, none⟩))] 46] := ⟨_, rfl⟩
  have hX : allocL w os = ((w.alloc (.cells #[str [120]] 101)).alloc (.cells #[str [121]] 101)).alloc (.cells #[.iface 97 (.pointer (some ⟨w.heap.size, 0, none⟩)), .iface 97 (.pointer (some ⟨w.heap.size + 1, 0, none⟩))] 46) := by rw [hos]; rfl
  have hA := allocL_below w os
  have h0 : (allocL w os).heap[w.heap.size]? = some (.cells #[str [120]] 101 (0, 0)) := by have := allocL_heap w os 0 (by rw [hos]; simp); simpa [hos] using this
  have h1 : (allocL w os).heap[w.heap.size + 1]? = some (.cells #[str [121]] 101 (0, 0)) := by have := allocL_heap w os 1 (by rw [hos]; simp); simpa [hos] using this
  have h2 : (allocL w os).heap[w.heap.size + 1 + 1]? = some (.cells #[.iface 97 (.pointer (some ⟨w.heap.size, 0, none⟩)), .iface 97 (.pointer (some ⟨w.heap.size + 1, 0, none⟩))] 46 (0, 0)) := by have := allocL_heap w os 2 (by rw [hos]; simp); simpa [hos] using this
  rw [hX] at hA h0 h1 h2
  have hx := nm_val h0 hB
  have hy := nm_val h1 (Nat.le_trans hB (Nat.le_succ _))
  have hc1 := applyAll2 _ B _ Tm.X Tm.X Tm.Y _ _ _ (0, 0) h2 hx hx hy (Nat.le_trans hB hA.size) (by decide +kernel)
  unfold TermPost at hc1
  have HX := Lib.hid hx
  have HY := Lib.hid hy
  clear hx hy h0 h1 h2 hX hos
  go_enter Try.func76, Try.ntmps76
  go_wp2_with fail
  refine hc1.mono ?_
  rintro e w1 ⟨v1, rfl, hb1, ht1⟩
  have hc2 := apply_any w1 B Tm.Y _ _ v1 (HY.out.below hb1) ht1 (Nat.le_trans hB (below_trans hA hb1).size) (by decide +kernel)
  clear ht1 hc1
  go_wp2_with fail
  refine hc2.mono ?_
  rintro e w2 ⟨v2, rfl, hb2, ht2⟩
  have hB2 := below_trans (below_trans hA hb1) hb2
  have hc3 := abstraction_any w2 B [121] _ v2 ht2 (Nat.le_trans hB hB2.size) (by decide +kernel)
  unfold TermPost at hc3
  clear ht2 hc2
  go_wp2_with fail
  refine hc3.mono ?_
  rintro e w3 ⟨v3, rfl, hb3, ht3⟩
  have hB3 := below_trans hB2 hb3
  have hc4 := abstraction_any w3 B [120] _ v3 ht3 (Nat.le_trans hB hB3.size) (by decide +kernel)
  unfold TermPost at hc4
  clear ht3 hc3
  go_wp2_with fail
  refine hc4.mono ?_
  rintro e w4 ⟨v4, rfl, hb4, ht4⟩
  have hB4 := below_trans hB3 hb4
  have hc5 := apply_any w4 B _ _ v4 v4 ht4 ht4 (Nat.le_trans hB hB4.size) (by decide +kernel)
  clear ht4 hc4
  go_wp2_with fail
  refine hc5.mono ?_
  rintro e w5 ⟨v5, rfl, hb5, ht5⟩
  have HT := Lib.hid ht5
  clear ht5 hc5
  go_wp2_with fail
  go_ret
  exact ⟨_, rfl, below_trans hB4 hb5, HT.out⟩

def DataPost (w : World) (B : Nat) (r : Option Tm) (e : Ending) (w' : World) : Prop :=
  ∃ v, e = .returned (.tuple #[v, .bool r.isSome]) ∧ Below w.heap.size w w' ∧ ∀ t, r = some t → TV w' B t v

/-- What is there behind the first lines of dataTerm. -/
structure DataPre (w : World) (B : Nat) (W : World) : Prop where
  below : Below w.heap.size w W
  x : TV W B Tm.X (.iface 97 (.pointer (some ⟨w.heap.size, 0, none⟩)))
  y : TV W B Tm.Y (.iface 97 (.pointer (some ⟨w.heap.size + 1, 0, none⟩)))
  z : TV W B Tm.Z (.iface 97 (.pointer (some ⟨w.heap.size + 1 + 1, 0, none⟩)))

theorem choice_any (w : World) (B : Nat) (b : Bool) (hB : B ≤ w.heap.size) : Calls Try.prog 92 #[.bool b] w (TermPost w B (if b = true then Tm.first else Tm.second)) := by
  have hnm := nm_val (heap_top w (.cells #[str [120]] 101)) hB
  have hn := below_new w (.cells #[str [120]] 101)
  have hbit := bit_any (w.alloc (.cells #[str [120]] 101)) B b (Nat.le_trans hB hn.size)
  unfold TermPost at hbit
  obtain ⟨T, hT⟩ : ∃ T : Tm, T = (if b = true then Tm.k else Tm.no) := ⟨_, rfl⟩
  have hz : T.size ≤ 1000 := by rw [hT]; cases b <;> decide +kernel
  have hfin : Tm.abs [120] (.app Tm.X T) = if b = true then Tm.first else Tm.second := by rw [hT]; cases b <;> rfl
  have hzx : Tm.X.size = 1 := rfl
  have hab : ∀ W v, TV W B (.app Tm.X T) v → B ≤ W.heap.size → Calls Try.prog 91 #[str [120], v] W (TermPost W B (Tm.abs [120] (.app Tm.X T))) := fun W v h1 h2 => abstraction_any W B [120] _ v h1 h2 (by simp only [Tm.size]; omega)
  rw [hfin] at hab
  unfold TermPost at hab
  rw [← hT] at hbit
  generalize (if b = true then Tm.first else Tm.second) = R at *
  clear hT hfin
  have HNM := Lib.hid hnm
  clear hnm
  go_enter Try.func92, Try.ntmps92
  go_wp2_with fail
  refine hbit.mono ?_
  rintro e w1 ⟨v1, rfl, hb1, ht1⟩
  have hb2 := below_trans hn hb1
  have happ := apply_any w1 B Tm.X T _ v1 (HNM.out.below hb1) ht1 (Nat.le_trans hB hb2.size) (by omega)
  clear ht1 hbit
  go_wp2_with fail
  refine happ.mono ?_
  rintro e w2 ⟨v2, rfl, hb3, ht2⟩
  have hb4 := below_trans hb2 hb3
  have hc := hab w2 v2 ht2 (Nat.le_trans hB hb4.size)
  clear ht2 happ hab
  go_wp2_with fail
  refine hc.mono ?_
  rintro e w3 ⟨v3, rfl, hb5, ht3⟩
  have HT := Lib.hid ht3
  clear ht3 hc
  go_wp2_with fail
  go_ret
  exact ⟨_, rfl, below_trans hb4 hb5, HT.out⟩

theorem first_any (w : World) (B : Nat) (hB : B ≤ w.heap.size) : Calls Try.prog 71 #[] w (TermPost w B Tm.first) := by
  have hc := choice_any w B true hB
  unfold TermPost at hc
  simp only [if_true] at hc
  go_enter Try.func71, Try.ntmps71
  go_wp2_with fail
  refine hc.mono ?_
  rintro e w1 ⟨v1, rfl, hb1, ht1⟩
  have HT := Lib.hid ht1
  clear ht1 hc
  go_wp2_with fail
  go_ret
  exact ⟨_, rfl, hb1, HT.out⟩

theorem second_any (w : World) (B : Nat) (hB : B ≤ w.heap.size) : Calls Try.prog 72 #[] w (TermPost w B Tm.second) := by
  have hc := choice_any w B false hB
  unfold TermPost at hc
  simp only [Bool.false_eq_true, if_false] at hc
  go_enter Try.func72, Try.ntmps72
  go_wp2_with fail
  refine hc.mono ?_
  rintro e w1 ⟨v1, rfl, hb1, ht1⟩
  have HT := Lib.hid ht1
  clear ht1 hc
  go_wp2_with fail
  go_ret
  exact ⟨_, rfl, hb1, HT.out⟩

theorem zero_any (w : World) (B : Nat) (hB : B ≤ w.heap.size) : Calls Try.prog 73 #[] w (TermPost w B Tm.first) := by
  have hc := first_any w B hB
  unfold TermPost at hc
  skip
  go_enter Try.func73, Try.ntmps73
  go_wp2_with fail
  refine hc.mono ?_
  rintro e w1 ⟨v1, rfl, hb1, ht1⟩
  have HT := Lib.hid ht1
  clear ht1 hc
  go_wp2_with fail
  go_ret
  exact ⟨_, rfl, hb1, HT.out⟩

theorem pred_any (w : World) (B : Nat) (hB : B ≤ w.heap.size) : Calls Try.prog 75 #[] w (TermPost w B Tm.pred) := by
  have hnm := nm_val (heap_top w (.cells #[str [120]] 101)) hB
  have hn := below_new w (.cells #[str [120]] 101)
  have k1 := bit_any (w.alloc (.cells #[str [120]] 101)) B true (Nat.le_trans hB hn.size)
  unfold TermPost at k1
  simp only [if_true] at k1
  have HX := Lib.hid hnm
  clear hnm
  go_enter Try.func75, Try.ntmps75
  go_wp2_with fail
  refine k1.mono ?_
  rintro e w2 ⟨v2, rfl, hb2, ht2⟩
  clear k1
  have hB2 := below_trans hn hb2
  obtain ⟨T1, x1, rfl, _⟩ := id ht2.asks
  have HY := Lib.hid ht2
  clear ht2
  have k3 := numeral_any w2 B 0 (Nat.le_trans hB hB2.size) (by omega)
  unfold TermPost at k3
  go_wp2_with fail
  refine k3.mono ?_
  rintro e w3 ⟨v3, rfl, hb3, ht3⟩
  clear k3
  have hB3 := below_trans hB2 hb3
  obtain ⟨T3, x3, rfl, _⟩ := id ht3.asks
  have HZ := Lib.hid ht3
  clear ht3
  have k4 := bit_any w3 B false (Nat.le_trans hB hB3.size)
  unfold TermPost at k4
  simp only [Bool.false_eq_true, if_false] at k4
  go_wp2_with fail
  refine k4.mono ?_
  rintro e w4 ⟨v4, rfl, hb4, ht4⟩
  clear k4
  have hB4 := below_trans hB3 hb4
  have k5 := apply_any w4 B Tm.X _ _ _ (((HX.out.below hb2).below hb3).below hb4) ht4 (Nat.le_trans hB hB4.size) (by decide +kernel)
  clear ht4
  go_wp2_with fail
  refine k5.mono ?_
  rintro e w5 ⟨v5, rfl, hb5, ht5⟩
  clear k5
  have hB5 := below_trans hB4 hb5
  obtain ⟨T5, x5, rfl, _⟩ := id ht5.asks
  have hn6 := below_new w5 (.cells #[.iface T1 x1, .iface T3 x3, .iface T5 x5] 46)
  have k6 := applyAll3 (w5.alloc (.cells #[.iface T1 x1, .iface T3 x3, .iface T5 x5] 46)) B _ Tm.X .k (Tm.num 0) (.app Tm.X Tm.no) _ _ _ _ (0, 0) (heap_top w5 _) (((((HX.out.below hb2).below hb3).below hb4).below hb5).below hn6) ((((HY.out.below hb3).below hb4).below hb5).below hn6) (((HZ.out.below hb4).below hb5).below hn6) (ht5.below hn6) (Nat.le_trans hB (below_trans hB5 hn6).size) (by decide +kernel)
  unfold TermPost at k6
  clear ht5
  go_wp2_with fail
  refine k6.mono ?_
  rintro e w6 ⟨v6, rfl, hb6, ht6⟩
  clear k6
  have hB6 := below_trans (below_trans hB5 hn6) hb6
  have k7 := abstraction_any w6 B [120] _ v6 ht6 (Nat.le_trans hB hB6.size) (by decide +kernel)
  rw [show Tm.abs [120] (.app (.app (.app Tm.X .k) (Tm.num 0)) (.app Tm.X Tm.no)) = Tm.pred from rfl] at k7
  unfold TermPost at k7
  clear ht6
  go_wp2_with fail
  refine k7.mono ?_
  rintro e w7 ⟨v7, rfl, hb7, ht7⟩
  have HT := Lib.hid ht7
  clear ht7 k7
  go_wp2_with fail
  go_ret
  exact ⟨_, rfl, below_trans hB6 hb7, HT.out⟩

theorem data_i (w : World) (B : Nat) (hB : B ≤ w.heap.size) : Calls Try.prog 34 #[str [105]] w (DataPost w B (some Tm.I)) := by
  obtain ⟨os, hos⟩ : ∃ os : List Obj, os = [.cells #[str [120]] 101, .cells #[str [121]] 101, .cells #[str [122]] 101] := ⟨_, rfl⟩
  have hX : allocL w os = ((w.alloc (.cells #[str [120]] 101)).alloc (.cells #[str [121]] 101)).alloc (.cells #[str [122]] 101) := by rw [hos]; rfl
  have hA := allocL_below w os
  rw [hX] at hA
  clear hX hos
  have hc := identity_any (((w.alloc (.cells #[str [120]] 101)).alloc (.cells #[str [121]] 101)).alloc (.cells #[str [122]] 101)) B (Nat.le_trans hB hA.size)
  unfold TermPost at hc
  skip
  go_enter Try.func34, Try.ntmps34
  go_wp2_with fail
  refine hc.mono ?_
  rintro e w1 ⟨v1, rfl, hb1, ht1⟩
  have HT := Lib.hid ht1
  clear ht1 hc
  go_wp2_with fail
  go_ret2
  exact ⟨_, rfl, below_trans hA hb1, fun t he => by obtain rfl := Option.some.inj he; exact HT.out⟩

theorem data_true (w : World) (B : Nat) (hB : B ≤ w.heap.size) : Calls Try.prog 34 #[str [116, 114, 117, 101]] w (DataPost w B (some .k)) := by
  obtain ⟨os, hos⟩ : ∃ os : List Obj, os = [.cells #[str [120]] 101, .cells #[str [121]] 101, .cells #[str [122]] 101] := ⟨_, rfl⟩
  have hX : allocL w os = ((w.alloc (.cells #[str [120]] 101)).alloc (.cells #[str [121]] 101)).alloc (.cells #[str [122]] 101) := by rw [hos]; rfl
  have hA := allocL_below w os
  rw [hX] at hA
  clear hX hos
  have hc := bit_any (((w.alloc (.cells #[str [120]] 101)).alloc (.cells #[str [121]] 101)).alloc (.cells #[str [122]] 101)) B true (Nat.le_trans hB hA.size)
  unfold TermPost at hc
  simp only [if_true] at hc
  go_enter Try.func34, Try.ntmps34
  go_wp2_with fail
  refine hc.mono ?_
  rintro e w1 ⟨v1, rfl, hb1, ht1⟩
  have HT := Lib.hid ht1
  clear ht1 hc
  go_wp2_with fail
  go_ret2
  exact ⟨_, rfl, below_trans hA hb1, fun t he => by obtain rfl := Option.some.inj he; exact HT.out⟩

theorem data_false (w : World) (B : Nat) (hB : B ≤ w.heap.size) : Calls Try.prog 34 #[str [102, 97, 108, 115, 101]] w (DataPost w B (some Tm.no)) := by
  obtain ⟨os, hos⟩ : ∃ os : List Obj, os = [.cells #[str [120]] 101, .cells #[str [121]] 101, .cells #[str [122]] 101] := ⟨_, rfl⟩
  have hX : allocL w os = ((w.alloc (.cells #[str [120]] 101)).alloc (.cells #[str [121]] 101)).alloc (.cells #[str [122]] 101) := by rw [hos]; rfl
  have hA := allocL_below w os
  rw [hX] at hA
  clear hX hos
  have hc := bit_any (((w.alloc (.cells #[str [120]] 101)).alloc (.cells #[str [121]] 101)).alloc (.cells #[str [122]] 101)) B false (Nat.le_trans hB hA.size)
  unfold TermPost at hc
  simp only [Bool.false_eq_true, if_false] at hc
  go_enter Try.func34, Try.ntmps34
  go_wp2_with fail
  refine hc.mono ?_
  rintro e w1 ⟨v1, rfl, hb1, ht1⟩
  have HT := Lib.hid ht1
  clear ht1 hc
  go_wp2_with fail
  go_ret2
  exact ⟨_, rfl, below_trans hA hb1, fun t he => by obtain rfl := Option.some.inj he; exact HT.out⟩

theorem data_first (w : World) (B : Nat) (hB : B ≤ w.heap.size) : Calls Try.prog 34 #[str [102, 105, 114, 115, 116]] w (DataPost w B (some Tm.first)) := by
  obtain ⟨os, hos⟩ : ∃ os : List Obj, os = [.cells #[str [120]] 101, .cells #[str [121]] 101, .cells #[str [122]] 101] := ⟨_, rfl⟩
  have hX : allocL w os = ((w.alloc (.cells #[str [120]] 101)).alloc (.cells #[str [121]] 101)).alloc (.cells #[str [122]] 101) := by rw [hos]; rfl
  have hA := allocL_below w os
  rw [hX] at hA
  clear hX hos
  have hc := first_any (((w.alloc (.cells #[str [120]] 101)).alloc (.cells #[str [121]] 101)).alloc (.cells #[str [122]] 101)) B (Nat.le_trans hB hA.size)
  unfold TermPost at hc
  skip
  go_enter Try.func34, Try.ntmps34
  go_wp2_with fail
  refine hc.mono ?_
  rintro e w1 ⟨v1, rfl, hb1, ht1⟩
  have HT := Lib.hid ht1
  clear ht1 hc
  go_wp2_with fail
  go_ret2
  exact ⟨_, rfl, below_trans hA hb1, fun t he => by obtain rfl := Option.some.inj he; exact HT.out⟩

theorem data_second (w : World) (B : Nat) (hB : B ≤ w.heap.size) : Calls Try.prog 34 #[str [115, 101, 99, 111, 110, 100]] w (DataPost w B (some Tm.second)) := by
  obtain ⟨os, hos⟩ : ∃ os : List Obj, os = [.cells #[str [120]] 101, .cells #[str [121]] 101, .cells #[str [122]] 101] := ⟨_, rfl⟩
  have hX : allocL w os = ((w.alloc (.cells #[str [120]] 101)).alloc (.cells #[str [121]] 101)).alloc (.cells #[str [122]] 101) := by rw [hos]; rfl
  have hA := allocL_below w os
  rw [hX] at hA
  clear hX hos
  have hc := second_any (((w.alloc (.cells #[str [120]] 101)).alloc (.cells #[str [121]] 101)).alloc (.cells #[str [122]] 101)) B (Nat.le_trans hB hA.size)
  unfold TermPost at hc
  skip
  go_enter Try.func34, Try.ntmps34
  go_wp2_with fail
  refine hc.mono ?_
  rintro e w1 ⟨v1, rfl, hb1, ht1⟩
  have HT := Lib.hid ht1
  clear ht1 hc
  go_wp2_with fail
  go_ret2
  exact ⟨_, rfl, below_trans hA hb1, fun t he => by obtain rfl := Option.some.inj he; exact HT.out⟩

theorem data_zero (w : World) (B : Nat) (hB : B ≤ w.heap.size) : Calls Try.prog 34 #[str [122, 101, 114, 111]] w (DataPost w B (some Tm.first)) := by
  obtain ⟨os, hos⟩ : ∃ os : List Obj, os = [.cells #[str [120]] 101, .cells #[str [121]] 101, .cells #[str [122]] 101] := ⟨_, rfl⟩
  have hX : allocL w os = ((w.alloc (.cells #[str [120]] 101)).alloc (.cells #[str [121]] 101)).alloc (.cells #[str [122]] 101) := by rw [hos]; rfl
  have hA := allocL_below w os
  rw [hX] at hA
  clear hX hos
  have hc := zero_any (((w.alloc (.cells #[str [120]] 101)).alloc (.cells #[str [121]] 101)).alloc (.cells #[str [122]] 101)) B (Nat.le_trans hB hA.size)
  unfold TermPost at hc
  skip
  go_enter Try.func34, Try.ntmps34
  go_wp2_with fail
  refine hc.mono ?_
  rintro e w1 ⟨v1, rfl, hb1, ht1⟩
  have HT := Lib.hid ht1
  clear ht1 hc
  go_wp2_with fail
  go_ret2
  exact ⟨_, rfl, below_trans hA hb1, fun t he => by obtain rfl := Option.some.inj he; exact HT.out⟩

theorem data_succ (w : World) (B : Nat) (hB : B ≤ w.heap.size) : Calls Try.prog 34 #[str [115, 117, 99, 99]] w (DataPost w B (some Tm.succ)) := by
  obtain ⟨os, hos⟩ : ∃ os : List Obj, os = [.cells #[str [120]] 101, .cells #[str [121]] 101, .cells #[str [122]] 101] := ⟨_, rfl⟩
  have hX : allocL w os = ((w.alloc (.cells #[str [120]] 101)).alloc (.cells #[str [121]] 101)).alloc (.cells #[str [122]] 101) := by rw [hos]; rfl
  have hA := allocL_below w os
  rw [hX] at hA
  clear hX hos
  have hc := succ_any (((w.alloc (.cells #[str [120]] 101)).alloc (.cells #[str [121]] 101)).alloc (.cells #[str [122]] 101)) B (Nat.le_trans hB hA.size)
  unfold TermPost at hc
  skip
  go_enter Try.func34, Try.ntmps34
  go_wp2_with fail
  refine hc.mono ?_
  rintro e w1 ⟨v1, rfl, hb1, ht1⟩
  have HT := Lib.hid ht1
  clear ht1 hc
  go_wp2_with fail
  go_ret2
  exact ⟨_, rfl, below_trans hA hb1, fun t he => by obtain rfl := Option.some.inj he; exact HT.out⟩

theorem data_pred (w : World) (B : Nat) (hB : B ≤ w.heap.size) : Calls Try.prog 34 #[str [112, 114, 101, 100]] w (DataPost w B (some Tm.pred)) := by
  obtain ⟨os, hos⟩ : ∃ os : List Obj, os = [.cells #[str [120]] 101, .cells #[str [121]] 101, .cells #[str [122]] 101] := ⟨_, rfl⟩
  have hX : allocL w os = ((w.alloc (.cells #[str [120]] 101)).alloc (.cells #[str [121]] 101)).alloc (.cells #[str [122]] 101) := by rw [hos]; rfl
  have hA := allocL_below w os
  rw [hX] at hA
  clear hX hos
  have hc := pred_any (((w.alloc (.cells #[str [120]] 101)).alloc (.cells #[str [121]] 101)).alloc (.cells #[str [122]] 101)) B (Nat.le_trans hB hA.size)
  unfold TermPost at hc
  skip
  go_enter Try.func34, Try.ntmps34
  go_wp2_with fail
  refine hc.mono ?_
  rintro e w1 ⟨v1, rfl, hb1, ht1⟩
  have HT := Lib.hid ht1
  clear ht1 hc
  go_wp2_with fail
  go_ret2
  exact ⟨_, rfl, below_trans hA hb1, fun t he => by obtain rfl := Option.some.inj he; exact HT.out⟩

theorem data_fix (w : World) (B : Nat) (hB : B ≤ w.heap.size) : Calls Try.prog 34 #[str [102, 105, 120]] w (DataPost w B (some Tm.fix)) := by
  obtain ⟨os, hos⟩ : ∃ os : List Obj, os = [.cells #[str [120]] 101, .cells #[str [121]] 101, .cells #[str [122]] 101] := ⟨_, rfl⟩
  have hX : allocL w os = ((w.alloc (.cells #[str [120]] 101)).alloc (.cells #[str [121]] 101)).alloc (.cells #[str [122]] 101) := by rw [hos]; rfl
  have hA := allocL_below w os
  rw [hX] at hA
  clear hX hos
  have hc := fix_any (((w.alloc (.cells #[str [120]] 101)).alloc (.cells #[str [121]] 101)).alloc (.cells #[str [122]] 101)) B (Nat.le_trans hB hA.size)
  unfold TermPost at hc
  skip
  go_enter Try.func34, Try.ntmps34
  go_wp2_with fail
  refine hc.mono ?_
  rintro e w1 ⟨v1, rfl, hb1, ht1⟩
  have HT := Lib.hid ht1
  clear ht1 hc
  go_wp2_with fail
  go_ret2
  exact ⟨_, rfl, below_trans hA hb1, fun t he => by obtain rfl := Option.some.inj he; exact HT.out⟩

theorem data_pair (w : World) (B : Nat) (hB : B ≤ w.heap.size) : Calls Try.prog 34 #[str [112, 97, 105, 114]] w (DataPost w B (some Tm.pairC)) := by
  obtain ⟨os, hos⟩ : ∃ os : List Obj, os = [.cells #[str [120]] 101, .cells #[str [121]] 101, .cells #[str [122]] 101] := ⟨_, rfl⟩
  have hX : allocL w os = ((w.alloc (.cells #[str [120]] 101)).alloc (.cells #[str [121]] 101)).alloc (.cells #[str [122]] 101) := by rw [hos]; rfl
  have hA := allocL_below w os
  have h0 : (allocL w os).heap[w.heap.size]? = some (.cells #[str [120]] 101 (0, 0)) := by have := allocL_heap w os 0 (by rw [hos]; simp); simpa [hos] using this
  have h1 : (allocL w os).heap[w.heap.size + 1]? = some (.cells #[str [121]] 101 (0, 0)) := by have := allocL_heap w os 1 (by rw [hos]; simp); simpa [hos] using this
  have h2 : (allocL w os).heap[w.heap.size + 1 + 1]? = some (.cells #[str [122]] 101 (0, 0)) := by have := allocL_heap w os 2 (by rw [hos]; simp); simpa [hos] using this
  have hsz : (allocL w os).heap.size = w.heap.size + 1 + 1 + 1 := by rw [hX]; simp
  have D : DataPre w B (allocL w os) := ⟨hA, nm_val h0 hB, nm_val h1 (Nat.le_trans hB (Nat.le_succ _)), nm_val h2 (Nat.le_trans hB (by omega))⟩
  clear h0 h1 h2 hos
  obtain ⟨w2, hw2⟩ : ∃ w2, w2 = allocL w os := ⟨_, rfl⟩
  rw [← hw2] at D hsz hX hA
  obtain ⟨W3, hW3⟩ : ∃ W3, W3 = w2.alloc (.cells #[str [120], str [121], str [122]] 9) := ⟨_, rfl⟩
  have hn3 := below_new w2 (.cells #[str [120], str [121], str [122]] 9)
  have hn4 := below_new W3 (.cells #[.iface 97 (.pointer (some ⟨w.heap.size, 0, none⟩)), .iface 97 (.pointer (some ⟨w.heap.size + 1, 0, none⟩))] 46)
  rw [← hW3] at hn3
  have hcl : W3.heap[w2.heap.size]? = some (.cells #[str [120], str [121], str [122]] 9 (0, 0)) := by rw [hW3]; exact heap_top w2 _
  have hk := applyAll2 (W3.alloc (.cells #[.iface 97 (.pointer (some ⟨w.heap.size, 0, none⟩)), .iface 97 (.pointer (some ⟨w.heap.size + 1, 0, none⟩))] 46)) B _ Tm.Z Tm.X Tm.Y _ _ _ (0, 0) (heap_top W3 _) ((D.z.below hn3).below hn4) ((D.x.below hn3).below hn4) ((D.y.below hn3).below hn4) (Nat.le_trans hB (below_trans (below_trans D.below hn3) hn4).size) (by decide +kernel)
  unfold TermPost at hk
  have hsz3 : W3.heap.size = w.heap.size + 1 + 1 + 1 + 1 := by rw [hW3]; simp; omega
  rw [hsz3] at hk
  rw [hsz] at hcl
  have hW4 : W3 = (((w.alloc (.cells #[str [120]] 101)).alloc (.cells #[str [121]] 101)).alloc (.cells #[str [122]] 101)).alloc (.cells #[str [120], str [121], str [122]] 9) := by rw [hW3, hX]
  have HW3 := Lib.hid hW4
  have HCL := Lib.hid hcl
  have HN3 := Lib.hid hn3
  have HD := Lib.hid D.below
  rw [hW4] at hk
  have hn4' := hn4
  clear hW3 hW4 hcl hn3 hsz3 hsz hX hw2 D hn4
  have HN4 := Lib.hid hn4'
  clear hn4'
  go_enter Try.func34, Try.ntmps34
  go_wp2_with fail
  refine hk.mono ?_
  rintro e w5 ⟨v5, rfl, hb5, ht5⟩
  clear hk
  have hn34 : Below W3.heap.size W3 w5 := by
    refine below_trans HN4.out ?_
    rw [HW3.out]
    exact hb5
  have hB5 := below_trans (below_trans HD.out HN3.out) hn34
  have hbk := heap_later HCL.out hn34
  have hlt5 := (Array.getElem?_eq_some_iff.1 hbk).1
  have hk6 := absN_any w5 B [[120], [121], [122]] (.slice (some ⟨w.heap.size + 1 + 1 + 1, 0, none⟩) 3 3) _ v5 (Or.inr ⟨w.heap.size + 1 + 1 + 1, 0, 3, rfl, hlt5, fun j hj => by
    have hc := cell_of_heap (i := j) hbk
    match j, hj with
    | 0, _ => simpa using hc
    | 1, _ => simpa using hc
    | 2, _ => simpa using hc⟩) ht5 (Nat.le_trans hB hB5.size) (by decide +kernel) (by simp)
  rw [show absL [[120], [121], [122]].reverse (.app (.app Tm.Z Tm.X) Tm.Y) = some Tm.pairC by kernel_rfl] at hk6
  clear ht5 hbk
  go_wp2_with fail
  refine hk6.mono ?_
  rintro e w6 ⟨v6, rfl, hb6, ht6⟩
  have HT := Lib.hid (ht6 _ rfl)
  clear ht6 hk6
  go_wp2_with fail
  go_ret2
  exact ⟨_, rfl, below_trans hB5 hb6, fun t he => by obtain rfl := Option.some.inj he; exact HT.out⟩

theorem data_none (w : World) (B : Nat) (l : List UInt8) (_hB : B ≤ w.heap.size) (n0 : (l == [105]) = false) (n1 : (l == [116, 114, 117, 101]) = false) (n2 : (l == [102, 97, 108, 115, 101]) = false) (n3 : (l == [112, 97, 105, 114]) = false) (n4 : (l == [102, 105, 114, 115, 116]) = false) (n5 : (l == [122, 101, 114, 111]) = false) (n6 : (l == [115, 101, 99, 111, 110, 100]) = false) (n7 : (l == [115, 117, 99, 99]) = false) (n8 : (l == [112, 114, 101, 100]) = false) (n9 : (l == [102, 105, 120]) = false) : Calls Try.prog 34 #[str l] w (DataPost w B none) := by
  obtain ⟨os, hos⟩ : ∃ os : List Obj, os = [.cells #[str [120]] 101, .cells #[str [121]] 101, .cells #[str [122]] 101] := ⟨_, rfl⟩
  have hX : allocL w os = ((w.alloc (.cells #[str [120]] 101)).alloc (.cells #[str [121]] 101)).alloc (.cells #[str [122]] 101) := by rw [hos]; rfl
  have hA := allocL_below w os
  rw [hX] at hA
  clear hX hos
  go_enter Try.func34, Try.ntmps34
  go_wp2_with fail
  go_ret2
  exact ⟨_, rfl, hA, fun t he => by cases he⟩

theorem data_any (w : World) (B : Nat) (l : List UInt8) (hB : B ≤ w.heap.size) : Calls Try.prog 34 #[str l] w (DataPost w B (Tm.data l)) := by
  by_cases h0 : l = [105]
  · subst h0; exact data_i w B hB
  by_cases h1 : l = [116, 114, 117, 101]
  · subst h1; exact data_true w B hB
  by_cases h2 : l = [102, 97, 108, 115, 101]
  · subst h2; exact data_false w B hB
  by_cases h3 : l = [112, 97, 105, 114]
  · subst h3; exact data_pair w B hB
  by_cases h4 : l = [102, 105, 114, 115, 116]
  · subst h4; exact data_first w B hB
  by_cases h5 : l = [122, 101, 114, 111]
  · subst h5; exact data_zero w B hB
  by_cases h6 : l = [115, 101, 99, 111, 110, 100]
  · subst h6; exact data_second w B hB
  by_cases h7 : l = [115, 117, 99, 99]
  · subst h7; exact data_succ w B hB
  by_cases h8 : l = [112, 114, 101, 100]
  · subst h8; exact data_pred w B hB
  by_cases h9 : l = [102, 105, 120]
  · subst h9; exact data_fix w B hB
  rw [show Tm.data l = none by simp only [Tm.data, if_neg h0, if_neg h1, if_neg h2, if_neg h3, if_neg h4, if_neg h5, if_neg h6, if_neg h7, if_neg h8, if_neg h9]]
  exact data_none w B l hB (beq_eq_false_iff_ne.2 h0) (beq_eq_false_iff_ne.2 h1) (beq_eq_false_iff_ne.2 h2) (beq_eq_false_iff_ne.2 h3) (beq_eq_false_iff_ne.2 h4) (beq_eq_false_iff_ne.2 h5) (beq_eq_false_iff_ne.2 h6) (beq_eq_false_iff_ne.2 h7) (beq_eq_false_iff_ne.2 h8) (beq_eq_false_iff_ne.2 h9)

def pData (l : List UInt8) : Option (List UInt8) := (Tm.data l).map Tm.text

theorem impl_data (w : World) (l : List UInt8) : Calls Try.prog 14 #[str l] w (NumOne w (pData l)) := by
  have hcall := data_any w w.heap.size l (Nat.le_refl _)
  unfold DataPost at hcall
  cases hd : Tm.data l with
  | none =>
    rw [show pData l = none by simp [pData, hd]]
    rw [hd] at hcall
    clear hd
    go_enter Try.func14, Try.ntmps14
    go_wp2_with (go_at_call 34; refine hcall.mono ?_; rintro e w1 ⟨v1, rfl, hb1, hv1⟩; clear hv1)
    go_ret2
    exact ⟨rfl, hb1⟩
  | some t =>
    rw [show pData l = some t.text by simp [pData, hd]]
    rw [hd] at hcall
    obtain ⟨hg, hs⟩ := Tm.data_good hd
    have htl := Tm.text_le t hg
    clear hd
    go_enter Try.func14, Try.ntmps14
    go_wp2_with fail
    refine hcall.mono ?_
    rintro e w1 ⟨v1, rfl, hb1, hv1⟩
    have htx := textOf_any w1 _ t v1 (hv1 t rfl) hg (by omega)
    clear hv1 hcall
    go_wp2_with (go_at_call 35; refine htx.mono ?_; rintro e w4 ⟨rfl, hb4⟩)
    go_ret2
    exact ⟨rfl, below_trans hb1 hb4⟩
end Go.Proofs.Ytjomocjlnjgkeaa

namespace Go.Proofs.Ytjomocjlnjgkeaa
open Go.RowKit

set_option maxHeartbeats 400000
set_option maxRecDepth 100000

def ManyPost (w : World) (B n : Nat) (t : Tm) (e : Ending) (w' : World) : Prop :=
  ∃ v', e = .returned (.tuple #[v', .int .i64 ((t.many n).2 : Nat)]) ∧ Below w.heap.size w w' ∧ TV w' B (t.many n).1 v'

/-- After k rounds. -/
def Rounds (w : World) (B n : Nat) (t : Tm) (v i : Value) (wr : World) : Prop :=
  ∃ (k : Nat) (u : Tm), i = .int .i64 k ∧ k ≤ n ∧ TV wr B u v ∧ u.fits = true ∧ Below w.heap.size w wr ∧ Hid (t.many n = ((u.many (n - k)).1, (u.many (n - k)).2 + k))

theorem stepTerms_any (w : World) (B n : Nat) (t : Tm) (v : Value) (h : TV w B t v) (hB : B ≤ w.heap.size) (hz : t.fits = true) (hn : n ≤ 1000000) :
    Calls Try.prog 81 #[v, .int .i64 n] w (ManyPost w B n t) := by
  go_enter Try.func81, Try.ntmps81
  go_wp2_with fail
  go_loopw [0, 10] (fun v i wr => Rounds w B n t v i wr) (fun _ i _ => n - (intOf i).toNat)
  case atStart => exact ⟨0, t, rfl, Nat.zero_le _, h, hz, Below.refl _ _, by simp [Hid]⟩
  case round =>
    obtain ⟨k, u, rfl, hk, hu, hf, hb, hm⟩ := hrel
    have hs := fits_size hf
    have hBr := Nat.le_trans hB hb.size
    by_cases hlt : k < n
    · cases hst : u.stepFit with
      | none =>
        have hsome : u.stepFit.isSome = false := by rw [hst]; rfl
        have hfin : t.many n = (u, k) := by
          rw [hm.out, show n - k = (n - k - 1) + 1 by omega, Tm.many_succ, hst]; simp
        have H := Lib.hid hfin
        clear hst hfin hm
        go_wp2_with (go_at_call 97; refine (stepTerm_any _ B u _ hu hBr (by omega)).mono ?_; rintro e w1 ⟨v1, rfl, hb1, hv1⟩; clear hv1)
        go_ret2
        exact ⟨_, by rw [H.out]; rfl, below_trans hb hb1, by rw [H.out]; exact hu.below hb1⟩
      | some u' =>
        have hsome : u.stepFit.isSome = true := by rw [hst]; rfl
        have hf' := stepFit_fits hst
        have hfin : t.many n = ((u'.many (n - (k + 1))).1, (u'.many (n - (k + 1))).2 + (k + 1)) := by
          rw [hm.out, show n - k = (n - (k + 1)) + 1 by omega, Tm.many_succ, hst]; simp; omega
        have H := Lib.hid hfin
        have H2 := Lib.hid hst
        clear hst hfin hm
        go_wp2_with (go_at_call 97; refine (stepTerm_any _ B u _ hu hBr (by omega)).mono ?_; rintro e w1 ⟨v1, rfl, hb1, hv1⟩; have HV := Lib.hid (hv1 u' H2.out); clear hv1)
        go_roundw
        case rel => exact ⟨k + 1, u', by go_num, by omega, HV.out, hf', below_trans hb hb1, H⟩
        case measure => simp [intOf]; omega
    · have hfin : t.many n = (u, n) := by
        rw [hm.out, show n - k = 0 by omega]; simp [Tm.many]; omega
      have H := Lib.hid hfin
      clear hfin hm
      go_wp2_with fail
      go_ret2
      exact ⟨_, by rw [H.out]; rfl, hb, by rw [H.out]; exact hu⟩

def NormPost (w : World) (B : Nat) (t : Tm) (e : Ending) (w' : World) : Prop :=
  ∃ v', e = .returned (.tuple #[v', .int .i64 ((t.many 6000).2 : Nat), .bool (t.many 6000).1.normal]) ∧ Below w.heap.size w w' ∧ TV w' B (t.many 6000).1 v'

theorem normalTerm_any (w : World) (B : Nat) (t : Tm) (v : Value) (h : TV w B t v) (hB : B ≤ w.heap.size) (hz : t.fits = true) :
    Calls Try.prog 44 #[v] w (NormPost w B t) := by
  go_enter Try.func44, Try.ntmps44
  go_wp2_with fail
  refine (stepTerms_any _ B 6000 t _ h hB hz (by omega)).mono ?_
  rintro e w1 ⟨v1, rfl, hb1, hv1⟩
  obtain ⟨T1, x1, rfl, _, _, _, ⟨f1, y1, m1, n1, c1⟩⟩ := hv1.asks
  have hb0 := Below.refl w1.heap.size w1
  generalize hn : (t.many 6000).2 = n
  generalize hl : (t.many 6000).1 = l at *
  have HN := Lib.hid hn
  have HL := Lib.hid hl
  clear hn hl
  go_wp2_with (go_at_fn f1; refine (c1 _ (by assumption)).mono ?_; rintro e w2 ⟨rfl, hb2⟩)
  go_ret3
  exact ⟨_, by rw [HN.out, HL.out]; rfl, below_trans hb1 hb2, by rw [HL.out]; exact hv1.below hb2⟩
end Go.Proofs.Ytjomocjlnjgkeaa
