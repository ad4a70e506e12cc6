/-
  The program's succTerm, fixTerm, dataTerm and DataOf.
-/
import Derived.Test.YtmkmladlpgfniaaPkAbsN
import Derived.Test.YtmkmladlpgfniaaPkNum
namespace Go.Proofs.Ytmkmladlpgfniaa
open Go.RowKit

set_option maxHeartbeats 1000000
set_option maxRecDepth 100000

namespace Tm
def X : Tm := .nm [120]
def Y : Tm := .nm [121]
def Z : Tm := .nm [122]
def half : Tm := abs [120] (abs [121] (app Y (app (app X X) Y)))
def fix : Tm := app half half
def succ : Tm := abs [120] (pair no X)
def pairC : Tm := abs [120] (abs [121] (abs [122] (app (app Z X) Y)))
def first : Tm := abs [120] (app X k)
def second : Tm := abs [120] (app X no)
def pred : Tm := abs [120] (app (app (app X k) I) (app X no))
/-- The closed term of a word. -/
def data (w : List UInt8) : Option Tm :=
  if w = [105] then some I else if w = [116, 114, 117, 101] then some k else if w = [102, 97, 108, 115, 101] then some no
  else if w = [112, 97, 105, 114] then some pairC else if w = [102, 105, 114, 115, 116] then some first else if w = [122, 101, 114, 111] then some first
  else if w = [115, 101, 99, 111, 110, 100] then some second else if w = [115, 117, 99, 99] then some succ else if w = [112, 114, 101, 100] then some pred
  else if w = [102, 105, 120] then some fix else none
theorem data_good {w : List UInt8} {t : Tm} (h : data w = some t) : t.good = true ∧ t.size ≤ 1000 := by
  unfold data at h
  repeat' split at h
  all_goals first | (obtain rfl := Option.some.inj h; exact ⟨by decide +kernel, by decide +kernel⟩) | cases h
end Tm

theorem nm_val {W : World} {B b : Nat} {n : List UInt8} {fr : Nat × Nat} (h : W.heap[b]? = some (.cells #[str n] 97 fr)) (hB : B ≤ b) : TV W B (.nm n) (.iface 93 (.pointer (some ⟨b, 0, none⟩))) := ⟨b, fr, rfl, hB, h⟩

theorem succ_any (w : World) (B : Nat) (hB : B ≤ w.heap.size) : Calls Try.prog 75 #[] w (TermPost w B Tm.succ) := by
  have hbit := bit_any w B false hB
  unfold TermPost at hbit
  simp only [Bool.false_eq_true, if_false] at hbit
  go_enter Try.func75, Try.ntmps75
  go_wp2_with fail
  refine hbit.mono ?_
  rintro e w1 ⟨v1, rfl, hb1, ht1⟩
  have hs1 := hb1.size
  have hnm := nm_val (heap_top w1 (.cells #[str [120]] 97)) (Nat.le_trans hB hs1)
  have hcall := pair_any (w1.alloc (.cells #[str [120]] 97)) B Tm.no Tm.X v1 _ (ht1.below (below_new _ _)) hnm (by simp; omega) (by decide +kernel)
  unfold TermPost at hcall
  have hb2 := below_trans hb1 (below_new w1 (.cells #[str [120]] 97))
  clear ht1 hnm hbit
  go_wp2_with fail
  refine hcall.mono ?_
  rintro e w2 ⟨v2, rfl, hb3, ht2⟩
  have hb4 := below_trans hb2 hb3
  have hcall2 := abstraction_any w2 B [120] _ v2 ht2 (Nat.le_trans hB hb4.size) (by decide +kernel)
  rw [show Tm.abs [120] (Tm.pair Tm.no Tm.X) = Tm.succ from rfl] at hcall2
  unfold TermPost at hcall2
  clear ht2 hcall
  go_wp2_with fail
  refine hcall2.mono ?_
  rintro e w3 ⟨v3, rfl, hb5, ht3⟩
  have HT := Lib.hid ht3
  clear ht3 hcall2
  go_wp2_with fail
  go_ret
  exact ⟨_, rfl, below_trans hb4 hb5, HT.out⟩

theorem applyAll2 (w : World) (B g : Nat) (f a b : Tm) (vf va vb : Value) (fr : Nat × Nat) (hg : w.heap[g]? = some (.cells #[va, vb] 41 fr)) (hf : TV w B f vf) (ha : TV w B a va) (hb : TV w B b vb) (hB : B ≤ w.heap.size) (hz : f.size + a.size + b.size ≤ 1000000) :
    Calls Try.prog 72 #[vf, .slice (some ⟨g, 0, none⟩) 2 2] w (TermPost w B (.app (.app f a) b)) :=
  applyAll_any w B g f vf [a, b] [va, vb] fr rfl hg hf (fun j hj => by
    match j, hj with
    | 0, _ => exact ha
    | 1, _ => exact hb) hB (by simp; omega) (by simp)

theorem applyAll3 (w : World) (B g : Nat) (f a b c : Tm) (vf va vb vc : Value) (fr : Nat × Nat) (hg : w.heap[g]? = some (.cells #[va, vb, vc] 41 fr)) (hf : TV w B f vf) (ha : TV w B a va) (hb : TV w B b vb) (hc : TV w B c vc) (hB : B ≤ w.heap.size) (hz : f.size + a.size + b.size + c.size ≤ 1000000) :
    Calls Try.prog 72 #[vf, .slice (some ⟨g, 0, none⟩) 3 3] w (TermPost w B (.app (.app (.app f a) b) c)) :=
  applyAll_any w B g f vf [a, b, c] [va, vb, vc] fr rfl hg hf (fun j hj => by
    match j, hj with
    | 0, _ => exact ha
    | 1, _ => exact hb
    | 2, _ => exact hc) hB (by simp; omega) (by simp)

theorem fix_any (w : World) (B : Nat) (hB : B ≤ w.heap.size) : Calls Try.prog 77 #[] w (TermPost w B Tm.fix) := by
  obtain ⟨os, hos⟩ : ∃ os : List Obj, os = [.cells #[str [120]] 97, .cells #[str [121]] 97, .cells #[.iface 93 (.pointer (some ⟨w.heap.size, 0, none⟩)), .iface 93 (.pointer (some ⟨w.heap.size + 1, 0, none⟩))] 41] := ⟨_, rfl⟩
  have hX : allocL w os = ((w.alloc (.cells #[str [120]] 97)).alloc (.cells #[str [121]] 97)).alloc (.cells #[.iface 93 (.pointer (some ⟨w.heap.size, 0, none⟩)), .iface 93 (.pointer (some ⟨w.heap.size + 1, 0, none⟩))] 41) := by rw [hos]; rfl
  have hA := allocL_below w os
  have h0 : (allocL w os).heap[w.heap.size]? = some (.cells #[str [120]] 97 (0, 0)) := by have := allocL_heap w os 0 (by rw [hos]; simp); simpa [hos] using this
  have h1 : (allocL w os).heap[w.heap.size + 1]? = some (.cells #[str [121]] 97 (0, 0)) := by have := allocL_heap w os 1 (by rw [hos]; simp); simpa [hos] using this
  have h2 : (allocL w os).heap[w.heap.size + 1 + 1]? = some (.cells #[.iface 93 (.pointer (some ⟨w.heap.size, 0, none⟩)), .iface 93 (.pointer (some ⟨w.heap.size + 1, 0, none⟩))] 41 (0, 0)) := by have := allocL_heap w os 2 (by rw [hos]; simp); simpa [hos] using this
  rw [hX] at hA h0 h1 h2
  have hx := nm_val h0 hB
  have hy := nm_val h1 (Nat.le_trans hB (Nat.le_succ _))
  have hc1 := applyAll2 _ B _ Tm.X Tm.X Tm.Y _ _ _ (0, 0) h2 hx hx hy (Nat.le_trans hB hA.size) (by decide +kernel)
  unfold TermPost at hc1
  have HX := Lib.hid hx
  have HY := Lib.hid hy
  clear hx hy h0 h1 h2 hX hos
  go_enter Try.func77, Try.ntmps77
  go_wp2_with fail
  refine hc1.mono ?_
  rintro e w1 ⟨v1, rfl, hb1, ht1⟩
  have hc2 := apply_any w1 B Tm.Y _ _ v1 (HY.out.below hb1) ht1 (Nat.le_trans hB (below_trans hA hb1).size) (by decide +kernel)
  clear ht1 hc1
  go_wp2_with fail
  refine hc2.mono ?_
  rintro e w2 ⟨v2, rfl, hb2, ht2⟩
  have hB2 := below_trans (below_trans hA hb1) hb2
  have hc3 := abstraction_any w2 B [121] _ v2 ht2 (Nat.le_trans hB hB2.size) (by decide +kernel)
  unfold TermPost at hc3
  clear ht2 hc2
  go_wp2_with fail
  refine hc3.mono ?_
  rintro e w3 ⟨v3, rfl, hb3, ht3⟩
  have hB3 := below_trans hB2 hb3
  have hc4 := abstraction_any w3 B [120] _ v3 ht3 (Nat.le_trans hB hB3.size) (by decide +kernel)
  unfold TermPost at hc4
  clear ht3 hc3
  go_wp2_with fail
  refine hc4.mono ?_
  rintro e w4 ⟨v4, rfl, hb4, ht4⟩
  have hB4 := below_trans hB3 hb4
  have hc5 := apply_any w4 B _ _ v4 v4 ht4 ht4 (Nat.le_trans hB hB4.size) (by decide +kernel)
  clear ht4 hc4
  go_wp2_with fail
  refine hc5.mono ?_
  rintro e w5 ⟨v5, rfl, hb5, ht5⟩
  have HT := Lib.hid ht5
  clear ht5 hc5
  go_wp2_with fail
  go_ret
  exact ⟨_, rfl, below_trans hB4 hb5, HT.out⟩

def DataPost (w : World) (B : Nat) (r : Option Tm) (e : Ending) (w' : World) : Prop :=
  ∃ v, e = .returned (.tuple #[v, .bool r.isSome]) ∧ Below w.heap.size w w' ∧ ∀ t, r = some t → TV w' B t v

/-- What is there behind the first lines of dataTerm. -/
structure DataPre (w : World) (B : Nat) (W : World) (vy vn : Value) : Prop where
  below : Below w.heap.size w W
  x : TV W B Tm.X (.iface 93 (.pointer (some ⟨w.heap.size, 0, none⟩)))
  y : TV W B Tm.Y (.iface 93 (.pointer (some ⟨w.heap.size + 1, 0, none⟩)))
  z : TV W B Tm.Z (.iface 93 (.pointer (some ⟨w.heap.size + 1 + 1, 0, none⟩)))
  yes : TV W B .k vy
  no : TV W B Tm.no vn

theorem data_i (w : World) (B : Nat) (hB : B ≤ w.heap.size) : Calls Try.prog 45 #[str [105]] w (DataPost w B (some Tm.I)) := by
  obtain ⟨os, hos⟩ : ∃ os : List Obj, os = [.cells #[str [120]] 97, .cells #[str [121]] 97, .cells #[str [122]] 97] := ⟨_, rfl⟩
  have hX : allocL w os = ((w.alloc (.cells #[str [120]] 97)).alloc (.cells #[str [121]] 97)).alloc (.cells #[str [122]] 97) := by rw [hos]; rfl
  have hA := allocL_below w os
  have h0 : (allocL w os).heap[w.heap.size]? = some (.cells #[str [120]] 97 (0, 0)) := by have := allocL_heap w os 0 (by rw [hos]; simp); simpa [hos] using this
  have h1 : (allocL w os).heap[w.heap.size + 1]? = some (.cells #[str [121]] 97 (0, 0)) := by have := allocL_heap w os 1 (by rw [hos]; simp); simpa [hos] using this
  have h2 : (allocL w os).heap[w.heap.size + 1 + 1]? = some (.cells #[str [122]] 97 (0, 0)) := by have := allocL_heap w os 2 (by rw [hos]; simp); simpa [hos] using this
  rw [hX] at hA h0 h1 h2
  have hx := nm_val h0 hB
  have hy := nm_val h1 (Nat.le_trans hB (Nat.le_succ _))
  have hz := nm_val h2 (Nat.le_trans hB (by omega))
  have hc1 := fun W (hW : Below w.heap.size w W) => bit_any W B true (Nat.le_trans hB hW.size)
  have hc2 := fun W (hW : Below w.heap.size w W) => bit_any W B false (Nat.le_trans hB hW.size)
  unfold TermPost at hc1 hc2
  simp only [Bool.false_eq_true, if_false, if_true] at hc1 hc2
  have HP : Hid (∀ w1 w2 v1 v2, Below _ (((w.alloc (.cells #[str [120]] 97)).alloc (.cells #[str [121]] 97)).alloc (.cells #[str [122]] 97)) w1 → TV w1 B .k v1 → Below w1.heap.size w1 w2 → TV w2 B Tm.no v2 → DataPre w B w2 v1 v2) :=
    fun w1 w2 v1 v2 hb1 ht1 hb2 ht2 => ⟨below_trans (below_trans hA hb1) hb2, (hx.below hb1).below hb2, (hy.below hb1).below hb2, (hz.below hb1).below hb2, ht1.below hb2, ht2⟩
  clear hx hy hz h0 h1 h2 hX hos
  go_enter Try.func45, Try.ntmps45
  go_wp2_with fail
  refine (hc1 _ hA).mono ?_
  rintro e w1 ⟨v1, rfl, hb1, ht1⟩
  have HT1 := Lib.hid ht1
  clear ht1
  go_wp2_with fail
  refine (hc2 _ (below_trans hA hb1)).mono ?_
  rintro e w2 ⟨v2, rfl, hb2, ht2⟩
  have D := HP.out w1 w2 v1 v2 hb1 HT1.out hb2 ht2
  clear ht2 hc1 hc2 HP HT1 hb1 hb2 hA
  have k3 := identity_any w2 B (Nat.le_trans hB D.below.size)
  unfold TermPost at k3
  go_wp2_with fail
  refine k3.mono ?_
  rintro e w3 ⟨v3, rfl, hb3, ht3⟩
  clear k3
  have HT := Lib.hid ht3
  clear ht3
  go_wp2_with fail
  go_ret2
  exact ⟨_, rfl, below_trans D.below hb3, fun t he => by obtain rfl := Option.some.inj he; exact HT.out⟩

theorem data_true (w : World) (B : Nat) (hB : B ≤ w.heap.size) : Calls Try.prog 45 #[str [116, 114, 117, 101]] w (DataPost w B (some .k)) := by
  obtain ⟨os, hos⟩ : ∃ os : List Obj, os = [.cells #[str [120]] 97, .cells #[str [121]] 97, .cells #[str [122]] 97] := ⟨_, rfl⟩
  have hX : allocL w os = ((w.alloc (.cells #[str [120]] 97)).alloc (.cells #[str [121]] 97)).alloc (.cells #[str [122]] 97) := by rw [hos]; rfl
  have hA := allocL_below w os
  have h0 : (allocL w os).heap[w.heap.size]? = some (.cells #[str [120]] 97 (0, 0)) := by have := allocL_heap w os 0 (by rw [hos]; simp); simpa [hos] using this
  have h1 : (allocL w os).heap[w.heap.size + 1]? = some (.cells #[str [121]] 97 (0, 0)) := by have := allocL_heap w os 1 (by rw [hos]; simp); simpa [hos] using this
  have h2 : (allocL w os).heap[w.heap.size + 1 + 1]? = some (.cells #[str [122]] 97 (0, 0)) := by have := allocL_heap w os 2 (by rw [hos]; simp); simpa [hos] using this
  rw [hX] at hA h0 h1 h2
  have hx := nm_val h0 hB
  have hy := nm_val h1 (Nat.le_trans hB (Nat.le_succ _))
  have hz := nm_val h2 (Nat.le_trans hB (by omega))
  have hc1 := fun W (hW : Below w.heap.size w W) => bit_any W B true (Nat.le_trans hB hW.size)
  have hc2 := fun W (hW : Below w.heap.size w W) => bit_any W B false (Nat.le_trans hB hW.size)
  unfold TermPost at hc1 hc2
  simp only [Bool.false_eq_true, if_false, if_true] at hc1 hc2
  have HP : Hid (∀ w1 w2 v1 v2, Below _ (((w.alloc (.cells #[str [120]] 97)).alloc (.cells #[str [121]] 97)).alloc (.cells #[str [122]] 97)) w1 → TV w1 B .k v1 → Below w1.heap.size w1 w2 → TV w2 B Tm.no v2 → DataPre w B w2 v1 v2) :=
    fun w1 w2 v1 v2 hb1 ht1 hb2 ht2 => ⟨below_trans (below_trans hA hb1) hb2, (hx.below hb1).below hb2, (hy.below hb1).below hb2, (hz.below hb1).below hb2, ht1.below hb2, ht2⟩
  clear hx hy hz h0 h1 h2 hX hos
  go_enter Try.func45, Try.ntmps45
  go_wp2_with fail
  refine (hc1 _ hA).mono ?_
  rintro e w1 ⟨v1, rfl, hb1, ht1⟩
  have HT1 := Lib.hid ht1
  clear ht1
  go_wp2_with fail
  refine (hc2 _ (below_trans hA hb1)).mono ?_
  rintro e w2 ⟨v2, rfl, hb2, ht2⟩
  have D := HP.out w1 w2 v1 v2 hb1 HT1.out hb2 ht2
  clear ht2 hc1 hc2 HP HT1 hb1 hb2 hA
  have HD := Lib.hid D
  clear D
  go_wp2_with fail
  go_ret2
  exact ⟨_, rfl, HD.out.below, fun t he => by obtain rfl := Option.some.inj he; exact HD.out.yes⟩

theorem data_false (w : World) (B : Nat) (hB : B ≤ w.heap.size) : Calls Try.prog 45 #[str [102, 97, 108, 115, 101]] w (DataPost w B (some Tm.no)) := by
  obtain ⟨os, hos⟩ : ∃ os : List Obj, os = [.cells #[str [120]] 97, .cells #[str [121]] 97, .cells #[str [122]] 97] := ⟨_, rfl⟩
  have hX : allocL w os = ((w.alloc (.cells #[str [120]] 97)).alloc (.cells #[str [121]] 97)).alloc (.cells #[str [122]] 97) := by rw [hos]; rfl
  have hA := allocL_below w os
  have h0 : (allocL w os).heap[w.heap.size]? = some (.cells #[str [120]] 97 (0, 0)) := by have := allocL_heap w os 0 (by rw [hos]; simp); simpa [hos] using this
  have h1 : (allocL w os).heap[w.heap.size + 1]? = some (.cells #[str [121]] 97 (0, 0)) := by have := allocL_heap w os 1 (by rw [hos]; simp); simpa [hos] using this
  have h2 : (allocL w os).heap[w.heap.size + 1 + 1]? = some (.cells #[str [122]] 97 (0, 0)) := by have := allocL_heap w os 2 (by rw [hos]; simp); simpa [hos] using this
  rw [hX] at hA h0 h1 h2
  have hx := nm_val h0 hB
  have hy := nm_val h1 (Nat.le_trans hB (Nat.le_succ _))
  have hz := nm_val h2 (Nat.le_trans hB (by omega))
  have hc1 := fun W (hW : Below w.heap.size w W) => bit_any W B true (Nat.le_trans hB hW.size)
  have hc2 := fun W (hW : Below w.heap.size w W) => bit_any W B false (Nat.le_trans hB hW.size)
  unfold TermPost at hc1 hc2
  simp only [Bool.false_eq_true, if_false, if_true] at hc1 hc2
  have HP : Hid (∀ w1 w2 v1 v2, Below _ (((w.alloc (.cells #[str [120]] 97)).alloc (.cells #[str [121]] 97)).alloc (.cells #[str [122]] 97)) w1 → TV w1 B .k v1 → Below w1.heap.size w1 w2 → TV w2 B Tm.no v2 → DataPre w B w2 v1 v2) :=
    fun w1 w2 v1 v2 hb1 ht1 hb2 ht2 => ⟨below_trans (below_trans hA hb1) hb2, (hx.below hb1).below hb2, (hy.below hb1).below hb2, (hz.below hb1).below hb2, ht1.below hb2, ht2⟩
  clear hx hy hz h0 h1 h2 hX hos
  go_enter Try.func45, Try.ntmps45
  go_wp2_with fail
  refine (hc1 _ hA).mono ?_
  rintro e w1 ⟨v1, rfl, hb1, ht1⟩
  have HT1 := Lib.hid ht1
  clear ht1
  go_wp2_with fail
  refine (hc2 _ (below_trans hA hb1)).mono ?_
  rintro e w2 ⟨v2, rfl, hb2, ht2⟩
  have D := HP.out w1 w2 v1 v2 hb1 HT1.out hb2 ht2
  clear ht2 hc1 hc2 HP HT1 hb1 hb2 hA
  have HD := Lib.hid D
  clear D
  go_wp2_with fail
  go_ret2
  exact ⟨_, rfl, HD.out.below, fun t he => by obtain rfl := Option.some.inj he; exact HD.out.no⟩

theorem data_first (w : World) (B : Nat) (hB : B ≤ w.heap.size) : Calls Try.prog 45 #[str [102, 105, 114, 115, 116]] w (DataPost w B (some Tm.first)) := by
  obtain ⟨os, hos⟩ : ∃ os : List Obj, os = [.cells #[str [120]] 97, .cells #[str [121]] 97, .cells #[str [122]] 97] := ⟨_, rfl⟩
  have hX : allocL w os = ((w.alloc (.cells #[str [120]] 97)).alloc (.cells #[str [121]] 97)).alloc (.cells #[str [122]] 97) := by rw [hos]; rfl
  have hA := allocL_below w os
  have h0 : (allocL w os).heap[w.heap.size]? = some (.cells #[str [120]] 97 (0, 0)) := by have := allocL_heap w os 0 (by rw [hos]; simp); simpa [hos] using this
  have h1 : (allocL w os).heap[w.heap.size + 1]? = some (.cells #[str [121]] 97 (0, 0)) := by have := allocL_heap w os 1 (by rw [hos]; simp); simpa [hos] using this
  have h2 : (allocL w os).heap[w.heap.size + 1 + 1]? = some (.cells #[str [122]] 97 (0, 0)) := by have := allocL_heap w os 2 (by rw [hos]; simp); simpa [hos] using this
  rw [hX] at hA h0 h1 h2
  have hx := nm_val h0 hB
  have hy := nm_val h1 (Nat.le_trans hB (Nat.le_succ _))
  have hz := nm_val h2 (Nat.le_trans hB (by omega))
  have hc1 := fun W (hW : Below w.heap.size w W) => bit_any W B true (Nat.le_trans hB hW.size)
  have hc2 := fun W (hW : Below w.heap.size w W) => bit_any W B false (Nat.le_trans hB hW.size)
  unfold TermPost at hc1 hc2
  simp only [Bool.false_eq_true, if_false, if_true] at hc1 hc2
  have HP : Hid (∀ w1 w2 v1 v2, Below _ (((w.alloc (.cells #[str [120]] 97)).alloc (.cells #[str [121]] 97)).alloc (.cells #[str [122]] 97)) w1 → TV w1 B .k v1 → Below w1.heap.size w1 w2 → TV w2 B Tm.no v2 → DataPre w B w2 v1 v2) :=
    fun w1 w2 v1 v2 hb1 ht1 hb2 ht2 => ⟨below_trans (below_trans hA hb1) hb2, (hx.below hb1).below hb2, (hy.below hb1).below hb2, (hz.below hb1).below hb2, ht1.below hb2, ht2⟩
  clear hx hy hz h0 h1 h2 hX hos
  go_enter Try.func45, Try.ntmps45
  go_wp2_with fail
  refine (hc1 _ hA).mono ?_
  rintro e w1 ⟨v1, rfl, hb1, ht1⟩
  have HT1 := Lib.hid ht1
  clear ht1
  go_wp2_with fail
  refine (hc2 _ (below_trans hA hb1)).mono ?_
  rintro e w2 ⟨v2, rfl, hb2, ht2⟩
  have D := HP.out w1 w2 v1 v2 hb1 HT1.out hb2 ht2
  clear ht2 hc1 hc2 HP HT1 hb1 hb2 hA
  have k3 := apply_any w2 B Tm.X _ _ _ D.x D.yes (Nat.le_trans hB D.below.size) (by decide +kernel)
  go_wp2_with fail
  refine k3.mono ?_
  rintro e w3 ⟨v3, rfl, hb3, ht3⟩
  clear k3
  have hB3 := below_trans D.below hb3
  have k4 := abstraction_any w3 B [120] _ v3 ht3 (Nat.le_trans hB hB3.size) (by decide +kernel)
  unfold TermPost at k4
  go_wp2_with fail
  refine k4.mono ?_
  rintro e w4 ⟨v4, rfl, hb4, ht4⟩
  clear k4
  have HT := Lib.hid ht4
  clear ht4
  go_wp2_with fail
  go_ret2
  exact ⟨_, rfl, below_trans hB3 hb4, fun t he => by obtain rfl := Option.some.inj he; exact HT.out⟩

theorem data_zero (w : World) (B : Nat) (hB : B ≤ w.heap.size) : Calls Try.prog 45 #[str [122, 101, 114, 111]] w (DataPost w B (some Tm.first)) := by
  obtain ⟨os, hos⟩ : ∃ os : List Obj, os = [.cells #[str [120]] 97, .cells #[str [121]] 97, .cells #[str [122]] 97] := ⟨_, rfl⟩
  have hX : allocL w os = ((w.alloc (.cells #[str [120]] 97)).alloc (.cells #[str [121]] 97)).alloc (.cells #[str [122]] 97) := by rw [hos]; rfl
  have hA := allocL_below w os
  have h0 : (allocL w os).heap[w.heap.size]? = some (.cells #[str [120]] 97 (0, 0)) := by have := allocL_heap w os 0 (by rw [hos]; simp); simpa [hos] using this
  have h1 : (allocL w os).heap[w.heap.size + 1]? = some (.cells #[str [121]] 97 (0, 0)) := by have := allocL_heap w os 1 (by rw [hos]; simp); simpa [hos] using this
  have h2 : (allocL w os).heap[w.heap.size + 1 + 1]? = some (.cells #[str [122]] 97 (0, 0)) := by have := allocL_heap w os 2 (by rw [hos]; simp); simpa [hos] using this
  rw [hX] at hA h0 h1 h2
  have hx := nm_val h0 hB
  have hy := nm_val h1 (Nat.le_trans hB (Nat.le_succ _))
  have hz := nm_val h2 (Nat.le_trans hB (by omega))
  have hc1 := fun W (hW : Below w.heap.size w W) => bit_any W B true (Nat.le_trans hB hW.size)
  have hc2 := fun W (hW : Below w.heap.size w W) => bit_any W B false (Nat.le_trans hB hW.size)
  unfold TermPost at hc1 hc2
  simp only [Bool.false_eq_true, if_false, if_true] at hc1 hc2
  have HP : Hid (∀ w1 w2 v1 v2, Below _ (((w.alloc (.cells #[str [120]] 97)).alloc (.cells #[str [121]] 97)).alloc (.cells #[str [122]] 97)) w1 → TV w1 B .k v1 → Below w1.heap.size w1 w2 → TV w2 B Tm.no v2 → DataPre w B w2 v1 v2) :=
    fun w1 w2 v1 v2 hb1 ht1 hb2 ht2 => ⟨below_trans (below_trans hA hb1) hb2, (hx.below hb1).below hb2, (hy.below hb1).below hb2, (hz.below hb1).below hb2, ht1.below hb2, ht2⟩
  clear hx hy hz h0 h1 h2 hX hos
  go_enter Try.func45, Try.ntmps45
  go_wp2_with fail
  refine (hc1 _ hA).mono ?_
  rintro e w1 ⟨v1, rfl, hb1, ht1⟩
  have HT1 := Lib.hid ht1
  clear ht1
  go_wp2_with fail
  refine (hc2 _ (below_trans hA hb1)).mono ?_
  rintro e w2 ⟨v2, rfl, hb2, ht2⟩
  have D := HP.out w1 w2 v1 v2 hb1 HT1.out hb2 ht2
  clear ht2 hc1 hc2 HP HT1 hb1 hb2 hA
  have k3 := apply_any w2 B Tm.X _ _ _ D.x D.yes (Nat.le_trans hB D.below.size) (by decide +kernel)
  go_wp2_with fail
  refine k3.mono ?_
  rintro e w3 ⟨v3, rfl, hb3, ht3⟩
  clear k3
  have hB3 := below_trans D.below hb3
  have k4 := abstraction_any w3 B [120] _ v3 ht3 (Nat.le_trans hB hB3.size) (by decide +kernel)
  unfold TermPost at k4
  go_wp2_with fail
  refine k4.mono ?_
  rintro e w4 ⟨v4, rfl, hb4, ht4⟩
  clear k4
  have HT := Lib.hid ht4
  clear ht4
  go_wp2_with fail
  go_ret2
  exact ⟨_, rfl, below_trans hB3 hb4, fun t he => by obtain rfl := Option.some.inj he; exact HT.out⟩

theorem data_second (w : World) (B : Nat) (hB : B ≤ w.heap.size) : Calls Try.prog 45 #[str [115, 101, 99, 111, 110, 100]] w (DataPost w B (some Tm.second)) := by
  obtain ⟨os, hos⟩ : ∃ os : List Obj, os = [.cells #[str [120]] 97, .cells #[str [121]] 97, .cells #[str [122]] 97] := ⟨_, rfl⟩
  have hX : allocL w os = ((w.alloc (.cells #[str [120]] 97)).alloc (.cells #[str [121]] 97)).alloc (.cells #[str [122]] 97) := by rw [hos]; rfl
  have hA := allocL_below w os
  have h0 : (allocL w os).heap[w.heap.size]? = some (.cells #[str [120]] 97 (0, 0)) := by have := allocL_heap w os 0 (by rw [hos]; simp); simpa [hos] using this
  have h1 : (allocL w os).heap[w.heap.size + 1]? = some (.cells #[str [121]] 97 (0, 0)) := by have := allocL_heap w os 1 (by rw [hos]; simp); simpa [hos] using this
  have h2 : (allocL w os).heap[w.heap.size + 1 + 1]? = some (.cells #[str [122]] 97 (0, 0)) := by have := allocL_heap w os 2 (by rw [hos]; simp); simpa [hos] using this
  rw [hX] at hA h0 h1 h2
  have hx := nm_val h0 hB
  have hy := nm_val h1 (Nat.le_trans hB (Nat.le_succ _))
  have hz := nm_val h2 (Nat.le_trans hB (by omega))
  have hc1 := fun W (hW : Below w.heap.size w W) => bit_any W B true (Nat.le_trans hB hW.size)
  have hc2 := fun W (hW : Below w.heap.size w W) => bit_any W B false (Nat.le_trans hB hW.size)
  unfold TermPost at hc1 hc2
  simp only [Bool.false_eq_true, if_false, if_true] at hc1 hc2
  have HP : Hid (∀ w1 w2 v1 v2, Below _ (((w.alloc (.cells #[str [120]] 97)).alloc (.cells #[str [121]] 97)).alloc (.cells #[str [122]] 97)) w1 → TV w1 B .k v1 → Below w1.heap.size w1 w2 → TV w2 B Tm.no v2 → DataPre w B w2 v1 v2) :=
    fun w1 w2 v1 v2 hb1 ht1 hb2 ht2 => ⟨below_trans (below_trans hA hb1) hb2, (hx.below hb1).below hb2, (hy.below hb1).below hb2, (hz.below hb1).below hb2, ht1.below hb2, ht2⟩
  clear hx hy hz h0 h1 h2 hX hos
  go_enter Try.func45, Try.ntmps45
  go_wp2_with fail
  refine (hc1 _ hA).mono ?_
  rintro e w1 ⟨v1, rfl, hb1, ht1⟩
  have HT1 := Lib.hid ht1
  clear ht1
  go_wp2_with fail
  refine (hc2 _ (below_trans hA hb1)).mono ?_
  rintro e w2 ⟨v2, rfl, hb2, ht2⟩
  have D := HP.out w1 w2 v1 v2 hb1 HT1.out hb2 ht2
  clear ht2 hc1 hc2 HP HT1 hb1 hb2 hA
  have k3 := apply_any w2 B Tm.X _ _ _ D.x D.no (Nat.le_trans hB D.below.size) (by decide +kernel)
  go_wp2_with fail
  refine k3.mono ?_
  rintro e w3 ⟨v3, rfl, hb3, ht3⟩
  clear k3
  have hB3 := below_trans D.below hb3
  have k4 := abstraction_any w3 B [120] _ v3 ht3 (Nat.le_trans hB hB3.size) (by decide +kernel)
  unfold TermPost at k4
  go_wp2_with fail
  refine k4.mono ?_
  rintro e w4 ⟨v4, rfl, hb4, ht4⟩
  clear k4
  have HT := Lib.hid ht4
  clear ht4
  go_wp2_with fail
  go_ret2
  exact ⟨_, rfl, below_trans hB3 hb4, fun t he => by obtain rfl := Option.some.inj he; exact HT.out⟩

theorem data_succ (w : World) (B : Nat) (hB : B ≤ w.heap.size) : Calls Try.prog 45 #[str [115, 117, 99, 99]] w (DataPost w B (some Tm.succ)) := by
  obtain ⟨os, hos⟩ : ∃ os : List Obj, os = [.cells #[str [120]] 97, .cells #[str [121]] 97, .cells #[str [122]] 97] := ⟨_, rfl⟩
  have hX : allocL w os = ((w.alloc (.cells #[str [120]] 97)).alloc (.cells #[str [121]] 97)).alloc (.cells #[str [122]] 97) := by rw [hos]; rfl
  have hA := allocL_below w os
  have h0 : (allocL w os).heap[w.heap.size]? = some (.cells #[str [120]] 97 (0, 0)) := by have := allocL_heap w os 0 (by rw [hos]; simp); simpa [hos] using this
  have h1 : (allocL w os).heap[w.heap.size + 1]? = some (.cells #[str [121]] 97 (0, 0)) := by have := allocL_heap w os 1 (by rw [hos]; simp); simpa [hos] using this
  have h2 : (allocL w os).heap[w.heap.size + 1 + 1]? = some (.cells #[str [122]] 97 (0, 0)) := by have := allocL_heap w os 2 (by rw [hos]; simp); simpa [hos] using this
  rw [hX] at hA h0 h1 h2
  have hx := nm_val h0 hB
  have hy := nm_val h1 (Nat.le_trans hB (Nat.le_succ _))
  have hz := nm_val h2 (Nat.le_trans hB (by omega))
  have hc1 := fun W (hW : Below w.heap.size w W) => bit_any W B true (Nat.le_trans hB hW.size)
  have hc2 := fun W (hW : Below w.heap.size w W) => bit_any W B false (Nat.le_trans hB hW.size)
  unfold TermPost at hc1 hc2
  simp only [Bool.false_eq_true, if_false, if_true] at hc1 hc2
  have HP : Hid (∀ w1 w2 v1 v2, Below _ (((w.alloc (.cells #[str [120]] 97)).alloc (.cells #[str [121]] 97)).alloc (.cells #[str [122]] 97)) w1 → TV w1 B .k v1 → Below w1.heap.size w1 w2 → TV w2 B Tm.no v2 → DataPre w B w2 v1 v2) :=
    fun w1 w2 v1 v2 hb1 ht1 hb2 ht2 => ⟨below_trans (below_trans hA hb1) hb2, (hx.below hb1).below hb2, (hy.below hb1).below hb2, (hz.below hb1).below hb2, ht1.below hb2, ht2⟩
  clear hx hy hz h0 h1 h2 hX hos
  go_enter Try.func45, Try.ntmps45
  go_wp2_with fail
  refine (hc1 _ hA).mono ?_
  rintro e w1 ⟨v1, rfl, hb1, ht1⟩
  have HT1 := Lib.hid ht1
  clear ht1
  go_wp2_with fail
  refine (hc2 _ (below_trans hA hb1)).mono ?_
  rintro e w2 ⟨v2, rfl, hb2, ht2⟩
  have D := HP.out w1 w2 v1 v2 hb1 HT1.out hb2 ht2
  clear ht2 hc1 hc2 HP HT1 hb1 hb2 hA
  have k3 := succ_any w2 B (Nat.le_trans hB D.below.size)
  unfold TermPost at k3
  go_wp2_with fail
  refine k3.mono ?_
  rintro e w3 ⟨v3, rfl, hb3, ht3⟩
  clear k3
  have HT := Lib.hid ht3
  clear ht3
  go_wp2_with fail
  go_ret2
  exact ⟨_, rfl, below_trans D.below hb3, fun t he => by obtain rfl := Option.some.inj he; exact HT.out⟩

theorem data_fix (w : World) (B : Nat) (hB : B ≤ w.heap.size) : Calls Try.prog 45 #[str [102, 105, 120]] w (DataPost w B (some Tm.fix)) := by
  obtain ⟨os, hos⟩ : ∃ os : List Obj, os = [.cells #[str [120]] 97, .cells #[str [121]] 97, .cells #[str [122]] 97] := ⟨_, rfl⟩
  have hX : allocL w os = ((w.alloc (.cells #[str [120]] 97)).alloc (.cells #[str [121]] 97)).alloc (.cells #[str [122]] 97) := by rw [hos]; rfl
  have hA := allocL_below w os
  have h0 : (allocL w os).heap[w.heap.size]? = some (.cells #[str [120]] 97 (0, 0)) := by have := allocL_heap w os 0 (by rw [hos]; simp); simpa [hos] using this
  have h1 : (allocL w os).heap[w.heap.size + 1]? = some (.cells #[str [121]] 97 (0, 0)) := by have := allocL_heap w os 1 (by rw [hos]; simp); simpa [hos] using this
  have h2 : (allocL w os).heap[w.heap.size + 1 + 1]? = some (.cells #[str [122]] 97 (0, 0)) := by have := allocL_heap w os 2 (by rw [hos]; simp); simpa [hos] using this
  rw [hX] at hA h0 h1 h2
  have hx := nm_val h0 hB
  have hy := nm_val h1 (Nat.le_trans hB (Nat.le_succ _))
  have hz := nm_val h2 (Nat.le_trans hB (by omega))
  have hc1 := fun W (hW : Below w.heap.size w W) => bit_any W B true (Nat.le_trans hB hW.size)
  have hc2 := fun W (hW : Below w.heap.size w W) => bit_any W B false (Nat.le_trans hB hW.size)
  unfold TermPost at hc1 hc2
  simp only [Bool.false_eq_true, if_false, if_true] at hc1 hc2
  have HP : Hid (∀ w1 w2 v1 v2, Below _ (((w.alloc (.cells #[str [120]] 97)).alloc (.cells #[str [121]] 97)).alloc (.cells #[str [122]] 97)) w1 → TV w1 B .k v1 → Below w1.heap.size w1 w2 → TV w2 B Tm.no v2 → DataPre w B w2 v1 v2) :=
    fun w1 w2 v1 v2 hb1 ht1 hb2 ht2 => ⟨below_trans (below_trans hA hb1) hb2, (hx.below hb1).below hb2, (hy.below hb1).below hb2, (hz.below hb1).below hb2, ht1.below hb2, ht2⟩
  clear hx hy hz h0 h1 h2 hX hos
  go_enter Try.func45, Try.ntmps45
  go_wp2_with fail
  refine (hc1 _ hA).mono ?_
  rintro e w1 ⟨v1, rfl, hb1, ht1⟩
  have HT1 := Lib.hid ht1
  clear ht1
  go_wp2_with fail
  refine (hc2 _ (below_trans hA hb1)).mono ?_
  rintro e w2 ⟨v2, rfl, hb2, ht2⟩
  have D := HP.out w1 w2 v1 v2 hb1 HT1.out hb2 ht2
  clear ht2 hc1 hc2 HP HT1 hb1 hb2 hA
  have k3 := fix_any w2 B (Nat.le_trans hB D.below.size)
  unfold TermPost at k3
  go_wp2_with fail
  refine k3.mono ?_
  rintro e w3 ⟨v3, rfl, hb3, ht3⟩
  clear k3
  have HT := Lib.hid ht3
  clear ht3
  go_wp2_with fail
  go_ret2
  exact ⟨_, rfl, below_trans D.below hb3, fun t he => by obtain rfl := Option.some.inj he; exact HT.out⟩

theorem data_pred (w : World) (B : Nat) (hB : B ≤ w.heap.size) : Calls Try.prog 45 #[str [112, 114, 101, 100]] w (DataPost w B (some Tm.pred)) := by
  obtain ⟨os, hos⟩ : ∃ os : List Obj, os = [.cells #[str [120]] 97, .cells #[str [121]] 97, .cells #[str [122]] 97] := ⟨_, rfl⟩
  have hX : allocL w os = ((w.alloc (.cells #[str [120]] 97)).alloc (.cells #[str [121]] 97)).alloc (.cells #[str [122]] 97) := by rw [hos]; rfl
  have hA := allocL_below w os
  have h0 : (allocL w os).heap[w.heap.size]? = some (.cells #[str [120]] 97 (0, 0)) := by have := allocL_heap w os 0 (by rw [hos]; simp); simpa [hos] using this
  have h1 : (allocL w os).heap[w.heap.size + 1]? = some (.cells #[str [121]] 97 (0, 0)) := by have := allocL_heap w os 1 (by rw [hos]; simp); simpa [hos] using this
  have h2 : (allocL w os).heap[w.heap.size + 1 + 1]? = some (.cells #[str [122]] 97 (0, 0)) := by have := allocL_heap w os 2 (by rw [hos]; simp); simpa [hos] using this
  rw [hX] at hA h0 h1 h2
  have hx := nm_val h0 hB
  have hy := nm_val h1 (Nat.le_trans hB (Nat.le_succ _))
  have hz := nm_val h2 (Nat.le_trans hB (by omega))
  have hc1 := fun W (hW : Below w.heap.size w W) => bit_any W B true (Nat.le_trans hB hW.size)
  have hc2 := fun W (hW : Below w.heap.size w W) => bit_any W B false (Nat.le_trans hB hW.size)
  unfold TermPost at hc1 hc2
  simp only [Bool.false_eq_true, if_false, if_true] at hc1 hc2
  have HP : Hid (∀ w1 w2 v1 v2, Below _ (((w.alloc (.cells #[str [120]] 97)).alloc (.cells #[str [121]] 97)).alloc (.cells #[str [122]] 97)) w1 → TV w1 B .k v1 → Below w1.heap.size w1 w2 → TV w2 B Tm.no v2 → DataPre w B w2 v1 v2) :=
    fun w1 w2 v1 v2 hb1 ht1 hb2 ht2 => ⟨below_trans (below_trans hA hb1) hb2, (hx.below hb1).below hb2, (hy.below hb1).below hb2, (hz.below hb1).below hb2, ht1.below hb2, ht2⟩
  clear hx hy hz h0 h1 h2 hX hos
  go_enter Try.func45, Try.ntmps45
  go_wp2_with fail
  refine (hc1 _ hA).mono ?_
  rintro e w1 ⟨v1, rfl, hb1, ht1⟩
  have HT1 := Lib.hid ht1
  clear ht1
  go_wp2_with fail
  refine (hc2 _ (below_trans hA hb1)).mono ?_
  rintro e w2 ⟨v2, rfl, hb2, ht2⟩
  have D := HP.out w1 w2 v1 v2 hb1 HT1.out hb2 ht2
  clear ht2 hc1 hc2 HP HT1 hb1 hb2 hA
  obtain ⟨T1, x1, rfl, _⟩ := id D.yes.asks
  have k3 := numeral_any w2 B 0 (Nat.le_trans hB D.below.size) (by omega)
  unfold TermPost at k3
  go_wp2_with fail
  refine k3.mono ?_
  rintro e w3 ⟨v3, rfl, hb3, ht3⟩
  clear k3
  have hB3 := below_trans D.below hb3
  have k4 := apply_any w3 B Tm.X _ _ _ (D.x.below hb3) (D.no.below hb3) (Nat.le_trans hB hB3.size) (by decide +kernel)
  go_wp2_with fail
  refine k4.mono ?_
  rintro e w4 ⟨v4, rfl, hb4, ht4⟩
  clear k4
  have hB4 := below_trans hB3 hb4
  obtain ⟨T3, x3, rfl, _⟩ := id ht3.asks
  obtain ⟨T4, x4, rfl, _⟩ := id ht4.asks
  have hn5 := below_new w4 (.cells #[.iface T1 x1, .iface T3 x3, .iface T4 x4] 41)
  have k5 := applyAll3 (w4.alloc (.cells #[.iface T1 x1, .iface T3 x3, .iface T4 x4] 41)) B _ Tm.X .k (Tm.num 0) (.app Tm.X Tm.no) _ _ _ _ (0, 0) (heap_top w4 _) (((D.x.below hb3).below hb4).below hn5) (((D.yes.below hb3).below hb4).below hn5) ((ht3.below hb4).below hn5) (ht4.below hn5) (Nat.le_trans hB (below_trans hB4 hn5).size) (by decide +kernel)
  unfold TermPost at k5
  go_wp2_with fail
  refine k5.mono ?_
  rintro e w5 ⟨v5, rfl, hb5, ht5⟩
  clear k5
  have hB5 := below_trans (below_trans hB4 hn5) hb5
  clear ht3 ht4
  have k6 := abstraction_any w5 B [120] _ v5 ht5 (Nat.le_trans hB hB5.size) (by decide +kernel)
  unfold TermPost at k6
  go_wp2_with fail
  refine k6.mono ?_
  rintro e w6 ⟨v6, rfl, hb6, ht6⟩
  clear k6
  rw [show Tm.abs [120] (.app (.app (.app Tm.X .k) (Tm.num 0)) (.app Tm.X Tm.no)) = Tm.pred from rfl] at ht6
  clear ht5
  have HT := Lib.hid ht6
  clear ht6
  go_wp2_with fail
  go_ret2
  exact ⟨_, rfl, below_trans hB5 hb6, fun t he => by obtain rfl := Option.some.inj he; exact HT.out⟩

theorem data_pair (w : World) (B : Nat) (hB : B ≤ w.heap.size) : Calls Try.prog 45 #[str [112, 97, 105, 114]] w (DataPost w B (some Tm.pairC)) := by
  obtain ⟨os, hos⟩ : ∃ os : List Obj, os = [.cells #[str [120]] 97, .cells #[str [121]] 97, .cells #[str [122]] 97] := ⟨_, rfl⟩
  have hX : allocL w os = ((w.alloc (.cells #[str [120]] 97)).alloc (.cells #[str [121]] 97)).alloc (.cells #[str [122]] 97) := by rw [hos]; rfl
  have hA := allocL_below w os
  have h0 : (allocL w os).heap[w.heap.size]? = some (.cells #[str [120]] 97 (0, 0)) := by have := allocL_heap w os 0 (by rw [hos]; simp); simpa [hos] using this
  have h1 : (allocL w os).heap[w.heap.size + 1]? = some (.cells #[str [121]] 97 (0, 0)) := by have := allocL_heap w os 1 (by rw [hos]; simp); simpa [hos] using this
  have h2 : (allocL w os).heap[w.heap.size + 1 + 1]? = some (.cells #[str [122]] 97 (0, 0)) := by have := allocL_heap w os 2 (by rw [hos]; simp); simpa [hos] using this
  rw [hX] at hA h0 h1 h2
  have hx := nm_val h0 hB
  have hy := nm_val h1 (Nat.le_trans hB (Nat.le_succ _))
  have hz := nm_val h2 (Nat.le_trans hB (by omega))
  have hc1 := fun W (hW : Below w.heap.size w W) => bit_any W B true (Nat.le_trans hB hW.size)
  have hc2 := fun W (hW : Below w.heap.size w W) => bit_any W B false (Nat.le_trans hB hW.size)
  unfold TermPost at hc1 hc2
  simp only [Bool.false_eq_true, if_false, if_true] at hc1 hc2
  have HP : Hid (∀ w1 w2 v1 v2, Below _ (((w.alloc (.cells #[str [120]] 97)).alloc (.cells #[str [121]] 97)).alloc (.cells #[str [122]] 97)) w1 → TV w1 B .k v1 → Below w1.heap.size w1 w2 → TV w2 B Tm.no v2 → DataPre w B w2 v1 v2) :=
    fun w1 w2 v1 v2 hb1 ht1 hb2 ht2 => ⟨below_trans (below_trans hA hb1) hb2, (hx.below hb1).below hb2, (hy.below hb1).below hb2, (hz.below hb1).below hb2, ht1.below hb2, ht2⟩
  clear hx hy hz h0 h1 h2 hX hos
  go_enter Try.func45, Try.ntmps45
  go_wp2_with fail
  refine (hc1 _ hA).mono ?_
  rintro e w1 ⟨v1, rfl, hb1, ht1⟩
  have HT1 := Lib.hid ht1
  clear ht1
  go_wp2_with fail
  refine (hc2 _ (below_trans hA hb1)).mono ?_
  rintro e w2 ⟨v2, rfl, hb2, ht2⟩
  have D := HP.out w1 w2 v1 v2 hb1 HT1.out hb2 ht2
  clear ht2 hc1 hc2 HP HT1 hb1 hb2 hA
  obtain ⟨W3, hW3⟩ : ∃ W3, W3 = w2.alloc (.cells #[str [120], str [121], str [122]] 9) := ⟨_, rfl⟩
  have hn3 := below_new w2 (.cells #[str [120], str [121], str [122]] 9)
  have hn4 := below_new W3 (.cells #[.iface 93 (.pointer (some ⟨w.heap.size, 0, none⟩)), .iface 93 (.pointer (some ⟨w.heap.size + 1, 0, none⟩))] 41)
  rw [← hW3] at hn3
  have hcl : W3.heap[w2.heap.size]? = some (.cells #[str [120], str [121], str [122]] 9 (0, 0)) := by rw [hW3]; exact heap_top w2 _
  have HW3 := Lib.hid hW3
  have hk := applyAll2 (W3.alloc (.cells #[.iface 93 (.pointer (some ⟨w.heap.size, 0, none⟩)), .iface 93 (.pointer (some ⟨w.heap.size + 1, 0, none⟩))] 41)) B _ Tm.Z Tm.X Tm.Y _ _ _ (0, 0) (heap_top W3 _) ((D.z.below hn3).below hn4) ((D.x.below hn3).below hn4) ((D.y.below hn3).below hn4) (Nat.le_trans hB (below_trans (below_trans D.below hn3) hn4).size) (by decide +kernel)
  unfold TermPost at hk
  have hsz3 : W3.heap.size = w2.heap.size + 1 := by rw [hW3]; simp
  rw [hsz3, HW3.out] at hk
  rw [HW3.out] at hn4
  clear hW3
  have HCL := Lib.hid hcl
  have HN3 := Lib.hid hn3
  have HSZ := Lib.hid hsz3
  clear hcl hsz3 hn3
  go_wp2_with fail
  refine hk.mono ?_
  rintro e w5 ⟨v5, rfl, hb5, ht5⟩
  clear hk
  have hn34 : Below W3.heap.size W3 w5 := by rw [HW3.out]; exact below_trans hn4 hb5
  have hB5 := below_trans (below_trans D.below HN3.out) hn34
  have hbk := heap_later HCL.out hn34
  have hlt5 := (Array.getElem?_eq_some_iff.1 hbk).1
  have hk6 := absN_any w5 B [[120], [121], [122]] (.slice (some ⟨w2.heap.size, 0, none⟩) 3 3) _ v5 (Or.inr ⟨w2.heap.size, 0, 3, rfl, hlt5, fun j hj => by
    have hc := cell_of_heap (i := j) hbk
    match j, hj with
    | 0, _ => simpa using hc
    | 1, _ => simpa using hc
    | 2, _ => simpa using hc⟩) ht5 (Nat.le_trans hB hB5.size) (by decide +kernel) (by simp)
  rw [show absL [[120], [121], [122]].reverse (.app (.app Tm.Z Tm.X) Tm.Y) = some Tm.pairC by kernel_rfl] at hk6
  clear ht5 hbk
  go_wp2_with fail
  refine hk6.mono ?_
  rintro e w6 ⟨v6, rfl, hb6, ht6⟩
  have HT := Lib.hid (ht6 _ rfl)
  clear ht6 hk6
  go_wp2_with fail
  go_ret2
  exact ⟨_, rfl, below_trans hB5 hb6, fun t he => by obtain rfl := Option.some.inj he; exact HT.out⟩

theorem data_none (w : World) (B : Nat) (l : List UInt8) (hB : B ≤ w.heap.size) (n0 : (l == [105]) = false) (n1 : (l == [116, 114, 117, 101]) = false) (n2 : (l == [102, 97, 108, 115, 101]) = false) (n3 : (l == [112, 97, 105, 114]) = false) (n4 : (l == [102, 105, 114, 115, 116]) = false) (n5 : (l == [122, 101, 114, 111]) = false) (n6 : (l == [115, 101, 99, 111, 110, 100]) = false) (n7 : (l == [115, 117, 99, 99]) = false) (n8 : (l == [112, 114, 101, 100]) = false) (n9 : (l == [102, 105, 120]) = false) : Calls Try.prog 45 #[str l] w (DataPost w B none) := by
  obtain ⟨os, hos⟩ : ∃ os : List Obj, os = [.cells #[str [120]] 97, .cells #[str [121]] 97, .cells #[str [122]] 97] := ⟨_, rfl⟩
  have hX : allocL w os = ((w.alloc (.cells #[str [120]] 97)).alloc (.cells #[str [121]] 97)).alloc (.cells #[str [122]] 97) := by rw [hos]; rfl
  have hA := allocL_below w os
  have h0 : (allocL w os).heap[w.heap.size]? = some (.cells #[str [120]] 97 (0, 0)) := by have := allocL_heap w os 0 (by rw [hos]; simp); simpa [hos] using this
  have h1 : (allocL w os).heap[w.heap.size + 1]? = some (.cells #[str [121]] 97 (0, 0)) := by have := allocL_heap w os 1 (by rw [hos]; simp); simpa [hos] using this
  have h2 : (allocL w os).heap[w.heap.size + 1 + 1]? = some (.cells #[str [122]] 97 (0, 0)) := by have := allocL_heap w os 2 (by rw [hos]; simp); simpa [hos] using this
  rw [hX] at hA h0 h1 h2
  have hx := nm_val h0 hB
  have hy := nm_val h1 (Nat.le_trans hB (Nat.le_succ _))
  have hz := nm_val h2 (Nat.le_trans hB (by omega))
  have hc1 := fun W (hW : Below w.heap.size w W) => bit_any W B true (Nat.le_trans hB hW.size)
  have hc2 := fun W (hW : Below w.heap.size w W) => bit_any W B false (Nat.le_trans hB hW.size)
  unfold TermPost at hc1 hc2
  simp only [Bool.false_eq_true, if_false, if_true] at hc1 hc2
  have HP : Hid (∀ w1 w2 v1 v2, Below _ (((w.alloc (.cells #[str [120]] 97)).alloc (.cells #[str [121]] 97)).alloc (.cells #[str [122]] 97)) w1 → TV w1 B .k v1 → Below w1.heap.size w1 w2 → TV w2 B Tm.no v2 → DataPre w B w2 v1 v2) :=
    fun w1 w2 v1 v2 hb1 ht1 hb2 ht2 => ⟨below_trans (below_trans hA hb1) hb2, (hx.below hb1).below hb2, (hy.below hb1).below hb2, (hz.below hb1).below hb2, ht1.below hb2, ht2⟩
  clear hx hy hz h0 h1 h2 hX hos
  go_enter Try.func45, Try.ntmps45
  go_wp2_with fail
  refine (hc1 _ hA).mono ?_
  rintro e w1 ⟨v1, rfl, hb1, ht1⟩
  have HT1 := Lib.hid ht1
  clear ht1
  go_wp2_with fail
  refine (hc2 _ (below_trans hA hb1)).mono ?_
  rintro e w2 ⟨v2, rfl, hb2, ht2⟩
  have D := HP.out w1 w2 v1 v2 hb1 HT1.out hb2 ht2
  clear ht2 hc1 hc2 HP HT1 hb1 hb2 hA
  have HD := Lib.hid D
  clear D
  go_wp2_with fail
  go_ret2
  exact ⟨_, rfl, HD.out.below, fun t he => by cases he⟩

theorem data_any (w : World) (B : Nat) (l : List UInt8) (hB : B ≤ w.heap.size) : Calls Try.prog 45 #[str l] w (DataPost w B (Tm.data l)) := by
  by_cases h0 : l = [105]
  · subst h0; exact data_i w B hB
  by_cases h1 : l = [116, 114, 117, 101]
  · subst h1; exact data_true w B hB
  by_cases h2 : l = [102, 97, 108, 115, 101]
  · subst h2; exact data_false w B hB
  by_cases h3 : l = [112, 97, 105, 114]
  · subst h3; exact data_pair w B hB
  by_cases h4 : l = [102, 105, 114, 115, 116]
  · subst h4; exact data_first w B hB
  by_cases h5 : l = [122, 101, 114, 111]
  · subst h5; exact data_zero w B hB
  by_cases h6 : l = [115, 101, 99, 111, 110, 100]
  · subst h6; exact data_second w B hB
  by_cases h7 : l = [115, 117, 99, 99]
  · subst h7; exact data_succ w B hB
  by_cases h8 : l = [112, 114, 101, 100]
  · subst h8; exact data_pred w B hB
  by_cases h9 : l = [102, 105, 120]
  · subst h9; exact data_fix w B hB
  rw [show Tm.data l = none by simp only [Tm.data, if_neg h0, if_neg h1, if_neg h2, if_neg h3, if_neg h4, if_neg h5, if_neg h6, if_neg h7, if_neg h8, if_neg h9]]
  exact data_none w B l hB (beq_eq_false_iff_ne.2 h0) (beq_eq_false_iff_ne.2 h1) (beq_eq_false_iff_ne.2 h2) (beq_eq_false_iff_ne.2 h3) (beq_eq_false_iff_ne.2 h4) (beq_eq_false_iff_ne.2 h5) (beq_eq_false_iff_ne.2 h6) (beq_eq_false_iff_ne.2 h7) (beq_eq_false_iff_ne.2 h8) (beq_eq_false_iff_ne.2 h9)

def pData (l : List UInt8) : Option (List UInt8) := (Tm.data l).map Tm.text

theorem impl_data (w : World) (l : List UInt8) : Calls Try.prog 19 #[str l] w (NumOne w (pData l)) := by
  have hcall := data_any w w.heap.size l (Nat.le_refl _)
  unfold DataPost at hcall
  cases hd : Tm.data l with
  | none =>
    rw [show pData l = none by simp [pData, hd]]
    rw [hd] at hcall
    clear hd
    go_enter Try.func19, Try.ntmps19
    go_wp2_with (go_at_call 45; refine hcall.mono ?_; rintro e w1 ⟨v1, rfl, hb1, hv1⟩; clear hv1)
    go_ret2
    exact ⟨rfl, hb1⟩
  | some t =>
    rw [show pData l = some t.text by simp [pData, hd]]
    rw [hd] at hcall
    obtain ⟨hg, hs⟩ := Tm.data_good hd
    have htl := Tm.text_le t hg
    clear hd
    go_enter Try.func19, Try.ntmps19
    go_wp2_with fail
    refine hcall.mono ?_
    rintro e w1 ⟨v1, rfl, hb1, hv1⟩
    have htx := textOf_any w1 _ t v1 (hv1 t rfl) hg (by omega)
    clear hv1 hcall
    go_wp2_with (go_at_call 42; refine htx.mono ?_; rintro e w4 ⟨rfl, hb4⟩)
    go_ret2
    exact ⟨rfl, below_trans hb1 hb4⟩
end Go.Proofs.Ytmkmladlpgfniaa
