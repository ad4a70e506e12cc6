/-
  The model's PairOf.
-/
import Derived.Test.YtfpekihdoclncaaPkAO
import Derived.Test.YtfpekihdoclncaaPkAG
import Derived.Test.YtfpekihdoclncaaPkAN
import Derived.Test.YtfpekihdoclncaaPkAK
namespace Go.Proofs.Ytfpekihdoclncaa
open Go.RowKit

set_option maxHeartbeats 2000000
set_option maxRecDepth 100000

theorem heap_newD (w : World) (o : Obj) : ((w.alloc o).drew).heap[w.heap.size]? = some o := heap_new' w o
theorem heap_old2D (w : World) (o p : Obj) : (((w.alloc o).alloc p).drew).heap[w.heap.size]? = some o := heap_old2 w o p
theorem heap_new2D (w : World) (o p : Obj) : (((w.alloc o).alloc p).drew).heap[w.heap.size + 1]? = some p := heap_new2 w _ o p rfl

theorem after_sets2 {X W : World} {G : Nat} {o : Obj} (h : After X W) (_hG : W.heap[G]? = some o) (hle : X.heap.size ≤ G) (u u' : Value) : After X ((W.setCell ⟨G, 0, none⟩ u).setCell ⟨G, 1, none⟩ u') :=
  Below.setCell (p := ⟨G, 1, none⟩) (Below.setCell (p := ⟨G, 0, none⟩) h hle _) hle _

end Go.Proofs.Ytfpekihdoclncaa

namespace Go.Proofs.Ytfpekihdoclncaa
open Go.RowKit

set_option maxHeartbeats 1000000
set_option maxRecDepth 100000

namespace Tm
def X : Tm := .nm [120]
def Y : Tm := .nm [121]
def Z : Tm := .nm [122]
def half : Tm := abs [120] (abs [121] (app Y (app (app X X) Y)))
def fix : Tm := app half half
def succ : Tm := abs [120] (pair no X)
def pairC : Tm := abs [120] (abs [121] (abs [122] (app (app Z X) Y)))
def first : Tm := abs [120] (app X k)
def second : Tm := abs [120] (app X no)
def pred : Tm := abs [120] (app (app (app X k) I) (app X no))
/-- The closed term of a word. -/
def data (w : List UInt8) : Option Tm :=
  if w = [105] then some I else if w = [116, 114, 117, 101] then some k else if w = [102, 97, 108, 115, 101] then some no
  else if w = [112, 97, 105, 114] then some pairC else if w = [102, 105, 114, 115, 116] then some first else if w = [122, 101, 114, 111] then some first
  else if w = [115, 101, 99, 111, 110, 100] then some second else if w = [115, 117, 99, 99] then some succ else if w = [112, 114, 101, 100] then some pred
  else if w = [102, 105, 120] then some fix else none
theorem data_good {w : List UInt8} {t : Tm} (h : data w = some t) : t.good = true ∧ t.size ≤ 1000 := by
  unfold data at h
  repeat' split at h
  all_goals first | (obtain rfl := Option.some.inj h; exact ⟨by decide +kernel, by decide +kernel⟩) | cases h
end Tm

theorem nm_val {W : World} {B b : Nat} {n : List UInt8} {fr : Nat × Nat} (h : W.heap[b]? = some (.cells #[str n] 87 fr)) (hB : B ≤ b) : TV W B (.nm n) (.iface 85 (.pointer (some ⟨b, 0, none⟩))) := ⟨b, fr, rfl, hB, h⟩

theorem applyAll2 (w : World) (B g : Nat) (f a b : Tm) (vf va vb : Value) (fr : Nat × Nat) (hg : w.heap[g]? = some (.cells #[va, vb] 39 fr)) (hf : TV w B f vf) (ha : TV w B a va) (hb : TV w B b vb) (hB : B ≤ w.heap.size) (hz : f.size + a.size + b.size ≤ 1000000) :
    Calls Try.prog 66 #[vf, .slice (some ⟨g, 0, none⟩) 2 2] w (TermPost w B (.app (.app f a) b)) :=
  applyAll_any w B g f vf [a, b] [va, vb] fr rfl hg hf (fun j hj => by
    match j, hj with
    | 0, _ => exact ha
    | 1, _ => exact hb) hB (by simp; omega) (by simp)

theorem applyAll3 (w : World) (B g : Nat) (f a b c : Tm) (vf va vb vc : Value) (fr : Nat × Nat) (hg : w.heap[g]? = some (.cells #[va, vb, vc] 39 fr)) (hf : TV w B f vf) (ha : TV w B a va) (hb : TV w B b vb) (hc : TV w B c vc) (hB : B ≤ w.heap.size) (hz : f.size + a.size + b.size + c.size ≤ 1000000) :
    Calls Try.prog 66 #[vf, .slice (some ⟨g, 0, none⟩) 3 3] w (TermPost w B (.app (.app (.app f a) b) c)) :=
  applyAll_any w B g f vf [a, b, c] [va, vb, vc] fr rfl hg hf (fun j hj => by
    match j, hj with
    | 0, _ => exact ha
    | 1, _ => exact hb
    | 2, _ => exact hc) hB (by simp; omega) (by simp)

theorem fix_any (w : World) (B : Nat) (hB : B ≤ w.heap.size) : Calls Try.prog 44 #[] w (TermPost w B Tm.fix) := by
  obtain ⟨os, hos⟩ : ∃ os : List Obj, os = [.cells #[str [120]] 87, .cells #[str [121]] 87, .cells #[.iface 85 (.pointer (some ⟨w.heap.size, 0, none⟩)), .iface 85 (.pointer (some ⟨w.heap.size + 1, 0, none⟩))] 39] := ⟨_, rfl⟩
  have hX : allocL w os = ((w.alloc (.cells #[str [120]] 87)).alloc (.cells #[str [121]] 87)).alloc (.cells #[.iface 85 (.pointer (some ⟨w.heap.size, 0, none⟩)), .iface 85 (.pointer (some ⟨w.heap.size + 1, 0, none⟩))] 39) := by rw [hos]; rfl
  have hA := allocL_below w os
  have h0 : (allocL w os).heap[w.heap.size]? = some (.cells #[str [120]] 87 (0, 0)) := by have := allocL_heap w os 0 (by rw [hos]; simp); simpa [hos] using this
  have h1 : (allocL w os).heap[w.heap.size + 1]? = some (.cells #[str [121]] 87 (0, 0)) := by have := allocL_heap w os 1 (by rw [hos]; simp); simpa [hos] using this
  have h2 : (allocL w os).heap[w.heap.size + 1 + 1]? = some (.cells #[.iface 85 (.pointer (some ⟨w.heap.size, 0, none⟩)), .iface 85 (.pointer (some ⟨w.heap.size + 1, 0, none⟩))] 39 (0, 0)) := by have := allocL_heap w os 2 (by rw [hos]; simp); simpa [hos] using this
  rw [hX] at hA h0 h1 h2
  have hx := nm_val h0 hB
  have hy := nm_val h1 (Nat.le_trans hB (Nat.le_succ _))
  have hc1 := applyAll2 _ B _ Tm.X Tm.X Tm.Y _ _ _ (0, 0) h2 hx hx hy (Nat.le_trans hB hA.size) (by decide +kernel)
  unfold TermPost at hc1
  have HX := Lib.hid hx
  have HY := Lib.hid hy
  clear hx hy h0 h1 h2 hX hos
  go_enter Try.func44, Try.ntmps44
  go_wp2_with fail
  refine hc1.mono ?_
  rintro e w1 ⟨v1, rfl, hb1, ht1⟩
  have hc2 := apply_any w1 B Tm.Y _ _ v1 (HY.out.below hb1) ht1 (Nat.le_trans hB (below_trans hA hb1).size) (by decide +kernel)
  clear ht1 hc1
  go_wp2_with fail
  refine hc2.mono ?_
  rintro e w2 ⟨v2, rfl, hb2, ht2⟩
  have hB2 := below_trans (below_trans hA hb1) hb2
  have hc3 := abstraction_any w2 B [121] _ v2 ht2 (Nat.le_trans hB hB2.size) (by decide +kernel)
  unfold TermPost at hc3
  clear ht2 hc2
  go_wp2_with fail
  refine hc3.mono ?_
  rintro e w3 ⟨v3, rfl, hb3, ht3⟩
  have hB3 := below_trans hB2 hb3
  have hc4 := abstraction_any w3 B [120] _ v3 ht3 (Nat.le_trans hB hB3.size) (by decide +kernel)
  unfold TermPost at hc4
  clear ht3 hc3
  go_wp2_with fail
  refine hc4.mono ?_
  rintro e w4 ⟨v4, rfl, hb4, ht4⟩
  have hB4 := below_trans hB3 hb4
  have hc5 := apply_any w4 B _ _ v4 v4 ht4 ht4 (Nat.le_trans hB hB4.size) (by decide +kernel)
  clear ht4 hc4
  go_wp2_with fail
  refine hc5.mono ?_
  rintro e w5 ⟨v5, rfl, hb5, ht5⟩
  have HT := Lib.hid ht5
  clear ht5 hc5
  go_wp2_with fail
  go_ret
  exact ⟨_, rfl, below_trans hB4 hb5, HT.out⟩

def DataPost (w : World) (B : Nat) (r : Option Tm) (e : Ending) (w' : World) : Prop :=
  ∃ v, e = .returned (.tuple #[v, .bool r.isSome]) ∧ Below w.heap.size w w' ∧ ∀ t, r = some t → TV w' B t v

/-- What is there behind the first lines of dataTerm. -/
structure DataPre (w : World) (B : Nat) (W : World) : Prop where
  below : Below w.heap.size w W
  x : TV W B Tm.X (.iface 85 (.pointer (some ⟨w.heap.size, 0, none⟩)))
  y : TV W B Tm.Y (.iface 85 (.pointer (some ⟨w.heap.size + 1, 0, none⟩)))
  z : TV W B Tm.Z (.iface 85 (.pointer (some ⟨w.heap.size + 1 + 1, 0, none⟩)))

def pData (l : List UInt8) : Option (List UInt8) := (Tm.data l).map Tm.text

end Go.Proofs.Ytfpekihdoclncaa

namespace Go.Proofs.Ytfpekihdoclncaa
open Go.RowKit

set_option maxHeartbeats 4000000
set_option maxRecDepth 100000

theorem s_all3 (w : World) (g : Nat) (t : Tm) (s : List UInt8) (ao : Option Addr) (m c : Nat) (h : ST w t (.agg #[str s, .slice ao m c])) (hg : t.good = true) (hf : t.fits = true)
    (hc : w.heap[g]? = some (.cells #[str [120], str [121], str [122]] 9 (0, 0))) :
    Calls Try.prog 62 #[.slice (some ⟨g, 0, none⟩) 3 3, .agg #[str s, .slice ao m c]] w (TreePost w (lastL [[122], [121], [120]] t)) :=
  s_all w g 0 3 [[120], [121], [122]] t s ao m c h hg hf (by simp) (by decide +kernel) (fun j hj => by
    have hk := cell_of_heap (i := j) hc
    match j, hj with
    | 0, _ => simpa using hk
    | 1, _ => simpa using hk
    | 2, _ => simpa using hk)

theorem s_all2 (w : World) (g : Nat) (a b : List UInt8) (t : Tm) (s : List UInt8) (ao : Option Addr) (m c : Nat) (h : ST w t (.agg #[str s, .slice ao m c])) (hg : t.good = true) (hf : t.fits = true) (ha : Tm.nameOk a = true) (hb : Tm.nameOk b = true)
    (hc : w.heap[g]? = some (.cells #[str a, str b] 9 (0, 0))) :
    Calls Try.prog 62 #[.slice (some ⟨g, 0, none⟩) 2 2, .agg #[str s, .slice ao m c]] w (TreePost w (lastL [b, a] t)) :=
  s_all w g 0 2 [a, b] t s ao m c h hg hf (by simp) (by simp [ha, hb]) (fun j hj => by
    have hk := cell_of_heap (i := j) hc
    match j, hj with
    | 0, _ => simpa using hk
    | 1, _ => simpa using hk)

theorem s_all_pair (w : World) (g : Nat) (s : List UInt8) (ao : Option Addr) (m c : Nat) (h : ST w (.app (.app Tm.Z Tm.X) Tm.Y) (.agg #[str s, .slice ao m c]))
    (hc : w.heap[g]? = some (.cells #[str [120], str [121], str [122]] 9 (0, 0))) :
    Calls Try.prog 62 #[.slice (some ⟨g, 0, none⟩) 3 3, .agg #[str s, .slice ao m c]] w (TreePost w Tm.pairC) := by
  have hk := s_all3 w g _ s ao m c h (by decide +kernel) (by kernel_rfl) hc
  rwa [show lastL [[122], [121], [120]] (.app (.app Tm.Z Tm.X) Tm.Y) = Tm.pairC by kernel_rfl] at hk

theorem s_all_half (w : World) (g : Nat) (s : List UInt8) (ao : Option Addr) (m c : Nat) (h : ST w (.app Tm.Y (.app (.app Tm.X Tm.X) Tm.Y)) (.agg #[str s, .slice ao m c]))
    (hc : w.heap[g]? = some (.cells #[str [120], str [121]] 9 (0, 0))) :
    Calls Try.prog 62 #[.slice (some ⟨g, 0, none⟩) 2 2, .agg #[str s, .slice ao m c]] w (TreePost w Tm.half) := by
  have hk := s_all2 w g [120] [121] _ s ao m c h (by decide +kernel) (by kernel_rfl) (by decide +kernel) (by decide +kernel) hc
  rwa [show lastL [[121], [120]] (.app Tm.Y (.app (.app Tm.X Tm.X) Tm.Y)) = Tm.half by kernel_rfl] at hk

theorem s_fix (w : World) : Calls Try.prog 43 #[] w (TreePost w Tm.fix) := by
  obtain ⟨Y, hY⟩ : ∃ Y, Y = w.alloc (.cells #[.string ⟨#[]⟩, .slice none 0 0] 32) := ⟨_, rfl⟩
  have hAY : After w Y := by rw [hY]; exact After.new _ _
  have hRY : Y.heap[w.heap.size]? = some (.cells #[.string ⟨#[]⟩, .slice none 0 0] 32 (0, 0)) := by rw [hY]; exact heap_new' _ _
  have szY : Y.heap.size = w.heap.size + 1 := by rw [hY]; simp
  have HSZ := Lib.hid szY
  have HAY := Lib.hid hAY
  have HRY := Lib.hid hRY
  have hself := After.refl Y
  have hselfd := hself.drew
  clear szY hAY hRY
  go_enter Try.func43, Try.ntmps43
  go_wp2_with fail
  rw [← hY]
  clear hY
  have hnew := After.new Y (.cells #[str [120], str [121]] 9)
  have hnam := heap_new' Y (.cells #[str [120], str [121]] 9)
  have HNAM := Lib.hid hnam
  have hn1 := fun W => s_nm W [121]
  have hn2 := fun W => s_nm W [120]
  clear hnam
  refine (hn1 _).mono ?_
  rintro e w1 ⟨rfl, hb1⟩
  go_wp2_with fail
  refine (hn2 _).mono ?_
  rintro e w2 ⟨rfl, hb2⟩
  go_wp2_with fail
  refine (hn2 _).mono ?_
  rintro e w3 ⟨rfl, hb3⟩
  go_wp2_with fail
  refine (hn1 _).mono ?_
  rintro e w4 ⟨rfl, hb4⟩
  have hA4 := ((hb1.trans hb2).trans hb3).trans hb4
  have k5 := s_app2 (w4.alloc (.cells #[str [120], .slice none 0 0, str [121], .slice none 0 0] 32)) Tm.X Tm.X Tm.Y [120] [120] [121] none none none 0 0 0 0 0 0 _ (0, 0) rfl rfl rfl (heap_new' w4 _)
  unfold TreePost at k5
  clear hb1 hb2 hb3 hb4
  go_wp2_with fail
  refine k5.mono ?_
  rintro e w5 ⟨t5, ao5, n5, c5, rfl, hb5, ht5⟩
  have k6 := s_app (w5.alloc (.cells #[str t5, .slice ao5 n5 c5] 32)) Tm.Y (.app (.app Tm.X Tm.X) Tm.Y) [121] t5 none ao5 0 0 n5 c5 _ (0, 0) rfl (ht5.later (After.new _ _)) (heap_new' w5 _)
  unfold TreePost at k6
  have hA5 := (hA4.alloc _).trans hb5
  clear ht5 k5 hb5 hA4
  go_wp2_with fail
  refine k6.mono ?_
  rintro e w6 ⟨t6, ao6, n6, c6, rfl, hb6, ht6⟩
  have hA6 := (hA5.alloc _).trans hb6
  have k7 := s_all_half w6 Y.heap.size t6 ao6 n6 c6 ht6 (hA6.heap HNAM.out)
  unfold TreePost at k7
  rw [HSZ.out] at k7
  clear ht6 k6 hb6 hA5
  go_wp2_with fail
  refine k7.mono ?_
  rintro e w7 ⟨t7, ao7, n7, c7, rfl, hb7, ht7⟩
  have hA7 := hA6.trans hb7
  have hbx := heap_old2 w7 (.cells #[str t7, .slice ao7 n7 c7] 32) (.cells #[str t7, .slice ao7 n7 c7] 32)
  have hb1' := pair_facts (heap_new' w7 (.cells #[str t7, .slice ao7 n7 c7] 32)) (After.refl _)
  obtain ⟨j0, j1, _, _, _⟩ := hb1'
  have hnn := (After.new w7 (.cells #[str t7, .slice ao7 n7 c7] 32)).alloc (.cells #[str t7, .slice ao7 n7 c7] 32)
  have k8 := s_app ((w7.alloc (.cells #[str t7, .slice ao7 n7 c7] 32)).alloc (.cells #[str t7, .slice ao7 n7 c7] 32)) Tm.half Tm.half t7 t7 ao7 ao7 n7 c7 n7 c7 (w7.heap.size + 1) (0, 0) (ht7.later hnn) (ht7.later hnn) (heap_new2 w7 _ _ _ rfl)
  unfold TreePost at k8
  have hAY7 : After Y ((w7.alloc (.cells #[str t7, .slice ao7 n7 c7] 32)).alloc (.cells #[str t7, .slice ao7 n7 c7] 32)) := ((After.new Y _).trans hA7).trans hnn
  clear ht7 k7 hb7 hA6 hA7 hbx hnn
  go_wp2_with fail
  refine k8.mono ?_
  rintro e w8 ⟨t8, ao8, n8, c8, rfl, hb8, ht8⟩
  have HT8 := Lib.hid ht8
  have hS8 := hAY7.trans hb8
  obtain ⟨z0, z1, z2, z3, z4⟩ := pair_facts HRY.out hS8
  clear ht8 k8
  go_wp2_with fail
  refine bodyPost_ret (v := .agg #[str t8, .slice ao8 n8 c8]) (by simp [results, Try.results43, go_sem, z0, z1]) rfl
    ⟨t8, ao8, n8, c8, rfl, after_sets2 (HAY.out.trans hS8) (After.heap hS8 HRY.out) (Nat.le_refl _) _ _, HT8.out.sets2 (After.heap hS8 HRY.out)⟩

end Go.Proofs.Ytfpekihdoclncaa
