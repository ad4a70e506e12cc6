/-
  Numbers in decimals; the model's l6Dec.
-/
import Derived.Test.YtmkmladlpgfniacGreatPkA
import Derived.Test.YtmkmladlpgfniacGreatPkB
import Derived.Deep.RegionHeld3
import Derived.BigGuard
import Derived.Test.YtmkmladlpgfniacGreatImplPair
import Derived.Test.YtmkmladlpgfniacGreatPkG
namespace Go.Proofs.YtmkmladlpgfniacGreat
open Go.RowKit

set_option maxHeartbeats 1000000
set_option maxRecDepth 100000

namespace Tm
/-- A number of at most f digits in decimals. -/
def decs : Nat → Nat → List UInt8
  | 0, _ => []
  | f + 1, n => if n < 10 then [UInt8.ofNat (48 + n)] else decs f (n / 10) ++ [UInt8.ofNat (48 + n % 10)]
theorem decs_len (f n : Nat) : (decs f n).length ≤ f := by
  induction f generalizing n with
  | zero => simp [decs]
  | succ f ih => simp only [decs]; split; · simp
                 have := ih (n / 10); simp; omega
theorem decs_dig (f n : Nat) : (decs f n).all dig = true := by
  induction f generalizing n with
  | zero => rfl
  | succ f ih =>
    have h10 : ∀ m, m < 10 → dig (UInt8.ofNat (48 + m)) = true := by decide +kernel
    simp only [decs]
    split
    · rename_i h; simp only [List.all_cons, List.all_nil, h10 n h, Bool.and_true]
    · simp only [List.all_append, ih (n / 10), List.all_cons, List.all_nil, h10 (n % 10) (by omega), Bool.and_true]
end Tm

/-- A byte as the walk spells it. -/
theorem conv_one (W : World) (c : UInt8) : (convert 28 9 (.slice (some ⟨W.heap.size, 0, none⟩) 1 1)).run Tryz.prog (W.alloc (.cells #[.int .u8 (c.toNat : Int)] 5)) = .ok (str [c]) (W.alloc (.cells #[.int .u8 (c.toNat : Int)] 5)) := by
  have hown : Own (W.alloc (.cells #[.int .u8 (c.toNat : Int)] 5)) W.heap.size (.slice (some ⟨W.heap.size, 0, none⟩) 1 1) [c] := by
    have := World.ownsRow_lit (base := W.heap.size) (e := 5) (size := 1) W #[.int .u8 (c.toNat : Int)] 1 (Nat.le_refl _) (by decide) (by simp)
    unfold Own
    simpa [bcells] using this
  exact run_text hown (by simp)

theorem conv_later (W : World) (g : Nat) (c : UInt8) (h : W.heap[g]? = some (.cells #[.int .u8 (c.toNat : Int)] 5 (0, 0))) : (convert 28 9 (.slice (some ⟨g, 0, none⟩) 1 1)).run Tryz.prog W = .ok (str [c]) W := by
  have hlt := (Array.getElem?_eq_some_iff.1 h).1
  have hown : Own W g (.slice (some ⟨g, 0, none⟩) 1 1) [c] := by
    unfold Own
    unfold World.ownsRow
    exact ⟨by simp [bcells], Or.inr ⟨g, 1, _, rfl, Nat.le_refl _, h, by simp, by decide, rfl, by simp [bcells]⟩⟩
  exact run_text hown (by simp)

theorem dec_any : ∀ (f n : Nat) (w : World), n < 10 ^ (f + 1) → f ≤ 16 →
    Calls Tryz.prog 95 #[.int .i64 n] w fun e w' => e = .returned (str (Tm.decs (f + 1) n)) ∧ After w w' := by
  intro f
  induction f with
  | zero =>
    intro n w hn _
    have hn10 : n < 10 := by simpa using hn
    obtain ⟨c, hc⟩ : ∃ c : UInt8, c = UInt8.ofNat (48 + n) := ⟨_, rfl⟩
    have hcn : (48 + (n : Int)) = (c.toNat : Int) := by
      have : c.toNat = 48 + n := by rw [hc, UInt8.toNat_ofNat']; omega
      omega
    have hr : Tm.decs (0 + 1) n = [c] := by simp [Tm.decs, hn10, hc]
    rw [hr]
    have hconv := conv_one w c
    rw [← hcn] at hconv
    clear hr hcn hc hn
    go_enter Tryz.func95, Tryz.ntmps95
    go_wp2_with fail
    go_ret
    exact ⟨rfl, After.new _ _⟩
  | succ f ih =>
    intro n w hn hf
    by_cases hn10 : n < 10
    · obtain ⟨c, hc⟩ : ∃ c : UInt8, c = UInt8.ofNat (48 + n) := ⟨_, rfl⟩
      have hcn : (48 + (n : Int)) = (c.toNat : Int) := by
        have : c.toNat = 48 + n := by rw [hc, UInt8.toNat_ofNat']; omega
        omega
      have hr : Tm.decs (f + 1 + 1) n = [c] := by simp [Tm.decs, hn10, hc]
      rw [hr]
      have hconv := conv_one w c
      rw [← hcn] at hconv
      clear hr hcn hc hn ih
      go_enter Tryz.func95, Tryz.ntmps95
      go_wp2_with fail
      go_ret
      exact ⟨rfl, After.new _ _⟩
    · have hq : n / 10 < 10 ^ (f + 1) := by rw [Nat.pow_succ] at hn; omega
      have hbig : n < 1000000000000000000 := Nat.lt_of_lt_of_le hn (Nat.le_trans (Nat.pow_le_pow_right (by omega) (show f + 1 + 1 ≤ 18 by omega)) (by decide +kernel))
      have hcall := fun W => ih (n / 10) W hq (by omega)
      obtain ⟨c, hc⟩ : ∃ c : UInt8, c = UInt8.ofNat (48 + n % 10) := ⟨_, rfl⟩
      have hct : c.toNat = 48 + n % 10 := by rw [hc, UInt8.toNat_ofNat']; omega
      have hr : Tm.decs (f + 1 + 1) n = Tm.decs (f + 1) (n / 10) ++ [c] := by
        rw [Tm.decs, if_neg hn10, hc]
      rw [hr]
      have hlen := Tm.decs_len (f + 1) (n / 10)
      generalize Tm.decs (f + 1) (n / 10) = ds at *
      have hadd : ∀ W, (Op.stringOp .add ⟨ds.toArray⟩ ⟨[c].toArray⟩).run Tryz.prog W = .ok (str (ds ++ [c])) W := by
        have h1 : (⟨[c].toArray⟩ : ByteArray).size = 1 := rfl
        have h2 : (⟨ds.toArray⟩ : ByteArray).size = ds.length := by show ds.toArray.size = _; simp
        obtain ⟨t, hl, _, he⟩ := cat ⟨ds.toArray⟩ ⟨[c].toArray⟩ (by omega)
        have : (.string t : Value) = str (ds ++ [c]) := congrArg Value.string (ByteArray.ext (Array.ext' (by rw [hl])))
        rw [← this]; exact he
      have hself := After.refl w
      have hbig' : n < 9000000000000000000 := by omega
      obtain ⟨q, hqq⟩ : ∃ q, q = n / 10 := ⟨_, rfl⟩
      obtain ⟨d, hdd⟩ : ∃ d, d = n % 10 := ⟨_, rfl⟩
      rw [← hqq] at hcall
      have hd10 : d < 10 := by omega
      have e1 : (n : Int).tdiv 10 = (q : Int) := by rw [Int.tdiv_eq_ediv_of_nonneg (by omega)]; omega
      have e2 : (n : Int).tmod 10 = (d : Int) := by rw [Int.tmod_eq_emod_of_nonneg (by omega)]; omega
      have e3 : (n : Int) / 10 = (q : Int) := by omega
      have e4 : (n : Int) % 10 = (d : Int) := by omega
      have e5 : IntKind.i64.wrap (q : Int) = (q : Int) := IntWalk.i64_in _ (by omega)
      have e6 : IntKind.i64.wrap (d : Int) = (d : Int) := IntWalk.i64_in _ (by omega)
      have e7 : IntKind.i64.wrap (c.toNat : Int) = (c.toNat : Int) := IntWalk.i64_in _ (by omega)
      have e8 : (48 + (d : Int)) = (c.toNat : Int) := by rw [hct]; omega
      have e9 : IntKind.u8.wrap (c.toNat : Int) = (c.toNat : Int) := by rw [IntKind.wrap_u8']; omega
      have hn0 : (10 : Int) ≤ (n : Int) := by omega
      have hconv0 := conv_later (w.alloc (.cells #[.int .u8 (c.toNat : Int)] 5)).drew w.heap.size c (heap_new' w _)
      have hl0 : ∀ w1, After (w.alloc (.cells #[.int .u8 (c.toNat : Int)] 5)).drew w1 → (convert 28 9 (.slice (some ⟨w.heap.size, 0, none⟩) 1 1)).run Tryz.prog w1 = .ok (str [c]) w1 := fun w1 h => conv_later w1 _ c (h.heap (w := (w.alloc (.cells #[.int .u8 (c.toNat : Int)] 5)).drew) (heap_new' w _))
      have hl1 := fun w1 : World => conv_one w1 c
      have HL0 := Lib.hid hl0
      clear hc hr hl0 hlen hn hbig hbig' ih hqq hdd hct hd10 hq hn10
      go_enter Tryz.func95, Tryz.ntmps95
      go_wp2_with fail
      go_region_with ((go_at_call 95; refine (hcall _).mono ?_; rintro e w1 ⟨rfl, hb1⟩; have hb1' := After.trans (by first | exact hself.drew | exact (hself.drew).alloc _ | exact (hself.alloc _).drew) hb1; try (have hcv := HL0.out _ hb1)))
      all_goals
        go_wp2_with fail
        go_ret
        first
          | exact ⟨rfl, hb1'⟩
          | exact ⟨rfl, hb1'.alloc _⟩
end Go.Proofs.YtmkmladlpgfniacGreat

namespace Go.Proofs.YtmkmladlpgfniacGreat
open Go.RowKit

set_option maxHeartbeats 2000000
set_option maxRecDepth 100000

/-- The name z and a number. -/
def zn (k : Nat) : List UInt8 := 122 :: Tm.decs 4 k

theorem zn_last : Tm.nameOk (zn 1000) = false := by decide +kernel

def FreePost (w : World) (a b : Tm) (e : Ending) (w' : World) : Prop :=
  ∃ k, k ≤ 1000 ∧ e = .returned (str (zn k)) ∧ After w w' ∧ a.uses (zn k) = 0 ∧ b.uses (zn k) = 0

theorem zn_not (k : Nat) : ([107] == zn k) = false ∧ ([115] == zn k) = false ∧ ([] == zn k) = false := by
  refine ⟨?_, ?_, ?_⟩ <;> (rw [beq_eq_false_iff_ne]; simp [zn])

theorem zn_add (k : Nat) (W : World) : (Op.stringOp .add ⟨#[122]⟩ ⟨(Tm.decs 4 k).toArray⟩).run Tryz.prog W = .ok (str (zn k)) W := by
  have hl := Tm.decs_len 4 k
  have h1 : (⟨#[122]⟩ : ByteArray).size = 1 := rfl
  have h2 : (⟨(Tm.decs 4 k).toArray⟩ : ByteArray).size = (Tm.decs 4 k).length := by show (Tm.decs 4 k).toArray.size = _; simp
  obtain ⟨t, hl, _, he⟩ := cat ⟨#[122]⟩ ⟨(Tm.decs 4 k).toArray⟩ (by omega)
  have : (.string t : Value) = str (zn k) := congrArg Value.string (ByteArray.ext (Array.ext' (by rw [hl]; rfl)))
  rw [← this]; exact he W

end Go.Proofs.YtmkmladlpgfniacGreat

namespace Go.Proofs.YtmkmladlpgfniacGreat
open Go.RowKit

set_option maxHeartbeats 2000000
set_option maxRecDepth 100000

theorem heap_newD (w : World) (o : Obj) : ((w.alloc o).drew).heap[w.heap.size]? = some o := heap_new' w o
theorem heap_old2D (w : World) (o p : Obj) : (((w.alloc o).alloc p).drew).heap[w.heap.size]? = some o := heap_old2 w o p
theorem heap_new2D (w : World) (o p : Obj) : (((w.alloc o).alloc p).drew).heap[w.heap.size + 1]? = some p := heap_new2 w _ o p rfl

theorem after_sets2 {X W : World} {G : Nat} {o : Obj} (h : After X W) (_hG : W.heap[G]? = some o) (hle : X.heap.size ≤ G) (u u' : Value) : After X ((W.setCell ⟨G, 0, none⟩ u).setCell ⟨G, 1, none⟩ u') :=
  Below.setCell (p := ⟨G, 1, none⟩) (Below.setCell (p := ⟨G, 0, none⟩) h hle _) hle _

end Go.Proofs.YtmkmladlpgfniacGreat

namespace Go.Proofs.YtmkmladlpgfniacGreat
open Go.RowKit

set_option maxHeartbeats 4000000
set_option maxRecDepth 100000

theorem s_all3 (w : World) (g : Nat) (t : Tm) (s : List UInt8) (ao : Option Addr) (m c : Nat) (h : ST w t (.agg #[str s, .slice ao m c])) (hg : t.good = true) (hf : t.fits = true)
    (hc : w.heap[g]? = some (.cells #[str [120], str [121], str [122]] 9 (0, 0))) :
    Calls Tryz.prog 70 #[.slice (some ⟨g, 0, none⟩) 3 3, .agg #[str s, .slice ao m c]] w (TreePost w (lastL [[122], [121], [120]] t)) :=
  s_all w g 0 3 [[120], [121], [122]] t s ao m c h hg hf (by simp) (by decide +kernel) (fun j hj => by
    have hk := cell_of_heap (i := j) hc
    match j, hj with
    | 0, _ => simpa using hk
    | 1, _ => simpa using hk
    | 2, _ => simpa using hk)

theorem s_all2 (w : World) (g : Nat) (a b : List UInt8) (t : Tm) (s : List UInt8) (ao : Option Addr) (m c : Nat) (h : ST w t (.agg #[str s, .slice ao m c])) (hg : t.good = true) (hf : t.fits = true) (ha : Tm.nameOk a = true) (hb : Tm.nameOk b = true)
    (hc : w.heap[g]? = some (.cells #[str a, str b] 9 (0, 0))) :
    Calls Tryz.prog 70 #[.slice (some ⟨g, 0, none⟩) 2 2, .agg #[str s, .slice ao m c]] w (TreePost w (lastL [b, a] t)) :=
  s_all w g 0 2 [a, b] t s ao m c h hg hf (by simp) (by simp [ha, hb]) (fun j hj => by
    have hk := cell_of_heap (i := j) hc
    match j, hj with
    | 0, _ => simpa using hk
    | 1, _ => simpa using hk)

theorem s_all_pair (w : World) (g : Nat) (s : List UInt8) (ao : Option Addr) (m c : Nat) (h : ST w (.app (.app Tm.Z Tm.X) Tm.Y) (.agg #[str s, .slice ao m c]))
    (hc : w.heap[g]? = some (.cells #[str [120], str [121], str [122]] 9 (0, 0))) :
    Calls Tryz.prog 70 #[.slice (some ⟨g, 0, none⟩) 3 3, .agg #[str s, .slice ao m c]] w (TreePost w Tm.pairC) := by
  have hk := s_all3 w g _ s ao m c h (by decide +kernel) (by kernel_rfl) hc
  rwa [show lastL [[122], [121], [120]] (.app (.app Tm.Z Tm.X) Tm.Y) = Tm.pairC by kernel_rfl] at hk

theorem s_all_half (w : World) (g : Nat) (s : List UInt8) (ao : Option Addr) (m c : Nat) (h : ST w (.app Tm.Y (.app (.app Tm.X Tm.X) Tm.Y)) (.agg #[str s, .slice ao m c]))
    (hc : w.heap[g]? = some (.cells #[str [120], str [121]] 9 (0, 0))) :
    Calls Tryz.prog 70 #[.slice (some ⟨g, 0, none⟩) 2 2, .agg #[str s, .slice ao m c]] w (TreePost w Tm.half) := by
  have hk := s_all2 w g [120] [121] _ s ao m c h (by decide +kernel) (by kernel_rfl) (by decide +kernel) (by decide +kernel) hc
  rwa [show lastL [[121], [120]] (.app Tm.Y (.app (.app Tm.X Tm.X) Tm.Y)) = Tm.half by kernel_rfl] at hk

theorem s_fix (w : World) : Calls Tryz.prog 75 #[] w (TreePost w Tm.fix) := by
  obtain ⟨Y, hY⟩ : ∃ Y, Y = w.alloc (.cells #[.string ⟨#[]⟩, .slice none 0 0] 46) := ⟨_, rfl⟩
  have hAY : After w Y := by rw [hY]; exact After.new _ _
  have hRY : Y.heap[w.heap.size]? = some (.cells #[.string ⟨#[]⟩, .slice none 0 0] 46 (0, 0)) := by rw [hY]; exact heap_new' _ _
  have szY : Y.heap.size = w.heap.size + 1 := by rw [hY]; simp
  have HSZ := Lib.hid szY
  have HAY := Lib.hid hAY
  have HRY := Lib.hid hRY
  have hself := After.refl Y
  have hselfd := hself.drew
  clear szY hAY hRY
  go_enter Tryz.func75, Tryz.ntmps75
  go_wp2_with fail
  rw [← hY]
  clear hY
  have hnew := After.new Y (.cells #[str [120], str [121]] 9)
  have hnam := heap_new' Y (.cells #[str [120], str [121]] 9)
  have HNAM := Lib.hid hnam
  have hn1 := fun W => s_nm W [121]
  have hn2 := fun W => s_nm W [120]
  clear hnam
  refine (hn1 _).mono ?_
  rintro e w1 ⟨rfl, hb1⟩
  go_wp2_with fail
  refine (hn2 _).mono ?_
  rintro e w2 ⟨rfl, hb2⟩
  go_wp2_with fail
  refine (hn2 _).mono ?_
  rintro e w3 ⟨rfl, hb3⟩
  go_wp2_with fail
  refine (hn1 _).mono ?_
  rintro e w4 ⟨rfl, hb4⟩
  have hA4 := ((hb1.trans hb2).trans hb3).trans hb4
  have k5 := s_app2 (w4.alloc (.cells #[str [120], .slice none 0 0, str [121], .slice none 0 0] 46)) Tm.X Tm.X Tm.Y [120] [120] [121] none none none 0 0 0 0 0 0 _ (0, 0) rfl rfl rfl (heap_new' w4 _)
  unfold TreePost at k5
  clear hb1 hb2 hb3 hb4
  go_wp2_with fail
  refine k5.mono ?_
  rintro e w5 ⟨t5, ao5, n5, c5, rfl, hb5, ht5⟩
  have k6 := s_app (w5.alloc (.cells #[str t5, .slice ao5 n5 c5] 46)) Tm.Y (.app (.app Tm.X Tm.X) Tm.Y) [121] t5 none ao5 0 0 n5 c5 _ (0, 0) rfl (ht5.later (After.new _ _)) (heap_new' w5 _)
  unfold TreePost at k6
  have hA5 := (hA4.alloc _).trans hb5
  clear ht5 k5 hb5 hA4
  go_wp2_with fail
  refine k6.mono ?_
  rintro e w6 ⟨t6, ao6, n6, c6, rfl, hb6, ht6⟩
  have hA6 := (hA5.alloc _).trans hb6
  have k7 := s_all_half w6 Y.heap.size t6 ao6 n6 c6 ht6 (hA6.heap HNAM.out)
  unfold TreePost at k7
  rw [HSZ.out] at k7
  clear ht6 k6 hb6 hA5
  go_wp2_with fail
  refine k7.mono ?_
  rintro e w7 ⟨t7, ao7, n7, c7, rfl, hb7, ht7⟩
  have hA7 := hA6.trans hb7
  have hbx := heap_old2 w7 (.cells #[str t7, .slice ao7 n7 c7] 46) (.cells #[str t7, .slice ao7 n7 c7] 46)
  have hb1' := pair_facts (heap_new' w7 (.cells #[str t7, .slice ao7 n7 c7] 46)) (After.refl _)
  obtain ⟨j0, j1, _, _, _⟩ := hb1'
  have hnn := (After.new w7 (.cells #[str t7, .slice ao7 n7 c7] 46)).alloc (.cells #[str t7, .slice ao7 n7 c7] 46)
  have k8 := s_app ((w7.alloc (.cells #[str t7, .slice ao7 n7 c7] 46)).alloc (.cells #[str t7, .slice ao7 n7 c7] 46)) Tm.half Tm.half t7 t7 ao7 ao7 n7 c7 n7 c7 (w7.heap.size + 1) (0, 0) (ht7.later hnn) (ht7.later hnn) (heap_new2 w7 _ _ _ rfl)
  unfold TreePost at k8
  have hAY7 : After Y ((w7.alloc (.cells #[str t7, .slice ao7 n7 c7] 46)).alloc (.cells #[str t7, .slice ao7 n7 c7] 46)) := ((After.new Y _).trans hA7).trans hnn
  clear ht7 k7 hb7 hA6 hA7 hbx hnn
  go_wp2_with fail
  refine k8.mono ?_
  rintro e w8 ⟨t8, ao8, n8, c8, rfl, hb8, ht8⟩
  have HT8 := Lib.hid ht8
  have hS8 := hAY7.trans hb8
  obtain ⟨z0, z1, z2, z3, z4⟩ := pair_facts HRY.out hS8
  clear ht8 k8
  go_wp2_with fail
  refine bodyPost_ret (v := .agg #[str t8, .slice ao8 n8 c8]) (by simp [results, Tryz.results75, go_sem, z0, z1]) rfl
    ⟨t8, ao8, n8, c8, rfl, after_sets2 (HAY.out.trans hS8) (After.heap hS8 HRY.out) (Nat.le_refl _) _ _, HT8.out.sets2 (After.heap hS8 HRY.out)⟩

end Go.Proofs.YtmkmladlpgfniacGreat

namespace Go.Proofs.YtmkmladlpgfniacGreat
open Go.RowKit

set_option maxHeartbeats 4000000
set_option maxRecDepth 100000

def SDataPost (w : World) (r : Option Tm) (e : Ending) (w' : World) : Prop :=
  ∃ s ao n c, e = .returned (.tuple #[.agg #[str s, .slice ao n c], .bool r.isSome]) ∧ After w w' ∧ ∀ t, r = some t → ST w' t (.agg #[str s, .slice ao n c])

theorem sdata_i (w : World) : Calls Tryz.prog 69 #[str [105]] w (SDataPost w (some Tm.I)) := by
  have hnx := s_nm (w.alloc (.cells #[.string ⟨#[]⟩, .slice none 0 0] 46)) [120]
  have hres := heap_new' w (.cells #[.string ⟨#[]⟩, .slice none 0 0] 46)
  have hA := After.new w (.cells #[.string ⟨#[]⟩, .slice none 0 0] 46)
  have HRES := Lib.hid hres
  clear hres
  go_enter Tryz.func69, Tryz.ntmps69
  go_wp2_with fail
  refine hnx.mono ?_
  rintro e w1 ⟨rfl, hb1⟩
  have hAY : After w (w1.alloc (.cells #[str [120], .slice none 0 0] 46)) := (hA.trans hb1).alloc _
  have hRY : (w1.alloc (.cells #[str [120], .slice none 0 0] 46)).heap[w.heap.size]? = some (.cells #[.string ⟨#[]⟩, .slice none 0 0] 46 (0, 0)) := (hb1.alloc _).heap HRES.out
  have HR1 := Lib.hid (hb1.heap HRES.out)
  have HA1 := Lib.hid (hA.trans hb1)
  have hXY := heap_new' w1 (.cells #[str [120], .slice none 0 0] 46)
  have hs1 := hb1.size
  have hne : w.heap.size < w1.heap.size := by simp at hs1; omega
  have HAY := Lib.hid hAY
  have HRY := Lib.hid hRY
  have HXY := Lib.hid hXY
  clear hnx hAY hRY hXY hb1 hs1 hA HRES
  have hk := s_i (w1.alloc (.cells #[str [120], .slice none 0 0] 46))
  unfold TreePost at hk
  go_wp2_with fail
  refine hk.mono ?_
  rintro e w3 ⟨t3, ao3, n3, c3, rfl, hb3, ht3⟩
  have HT3 := Lib.hid ht3
  obtain ⟨z0, z1, z2, z3, l2⟩ := pair_facts HRY.out hb3
  clear ht3 hk
  go_wp2_with fail
  refine bodyPost_ret (v := .tuple #[.agg #[str t3, .slice ao3 n3 c3], .bool true]) (by simp [results, Tryz.results69, go_sem, z0, z1]) rfl
    ⟨t3, ao3, n3, c3, rfl, after_sets2 (HAY.out.trans hb3) (After.heap hb3 HRY.out) (Nat.le_refl _) _ _, fun t he => by obtain rfl := Option.some.inj he; exact HT3.out.sets2 (After.heap hb3 HRY.out)⟩

theorem sdata_true (w : World) : Calls Tryz.prog 69 #[str [116, 114, 117, 101]] w (SDataPost w (some .k)) := by
  have hnx := s_nm (w.alloc (.cells #[.string ⟨#[]⟩, .slice none 0 0] 46)) [120]
  have hres := heap_new' w (.cells #[.string ⟨#[]⟩, .slice none 0 0] 46)
  have hA := After.new w (.cells #[.string ⟨#[]⟩, .slice none 0 0] 46)
  have HRES := Lib.hid hres
  clear hres
  go_enter Tryz.func69, Tryz.ntmps69
  go_wp2_with fail
  refine hnx.mono ?_
  rintro e w1 ⟨rfl, hb1⟩
  have hAY : After w (w1.alloc (.cells #[str [120], .slice none 0 0] 46)) := (hA.trans hb1).alloc _
  have hRY : (w1.alloc (.cells #[str [120], .slice none 0 0] 46)).heap[w.heap.size]? = some (.cells #[.string ⟨#[]⟩, .slice none 0 0] 46 (0, 0)) := (hb1.alloc _).heap HRES.out
  have HR1 := Lib.hid (hb1.heap HRES.out)
  have HA1 := Lib.hid (hA.trans hb1)
  have hXY := heap_new' w1 (.cells #[str [120], .slice none 0 0] 46)
  have hs1 := hb1.size
  have hne : w.heap.size < w1.heap.size := by simp at hs1; omega
  have HAY := Lib.hid hAY
  have HRY := Lib.hid hRY
  have HXY := Lib.hid hXY
  clear hnx hAY hRY hXY hb1 hs1 hA HRES
  have hk := s_true (w1.alloc (.cells #[str [120], .slice none 0 0] 46))
  unfold TreePost at hk
  go_wp2_with fail
  refine hk.mono ?_
  rintro e w3 ⟨t3, ao3, n3, c3, rfl, hb3, ht3⟩
  have HT3 := Lib.hid ht3
  obtain ⟨z0, z1, z2, z3, l2⟩ := pair_facts HRY.out hb3
  clear ht3 hk
  go_wp2_with fail
  refine bodyPost_ret (v := .tuple #[.agg #[str t3, .slice ao3 n3 c3], .bool true]) (by simp [results, Tryz.results69, go_sem, z0, z1]) rfl
    ⟨t3, ao3, n3, c3, rfl, after_sets2 (HAY.out.trans hb3) (After.heap hb3 HRY.out) (Nat.le_refl _) _ _, fun t he => by obtain rfl := Option.some.inj he; exact HT3.out.sets2 (After.heap hb3 HRY.out)⟩

theorem sdata_false (w : World) : Calls Tryz.prog 69 #[str [102, 97, 108, 115, 101]] w (SDataPost w (some Tm.no)) := by
  have hnx := s_nm (w.alloc (.cells #[.string ⟨#[]⟩, .slice none 0 0] 46)) [120]
  have hres := heap_new' w (.cells #[.string ⟨#[]⟩, .slice none 0 0] 46)
  have hA := After.new w (.cells #[.string ⟨#[]⟩, .slice none 0 0] 46)
  have HRES := Lib.hid hres
  clear hres
  go_enter Tryz.func69, Tryz.ntmps69
  go_wp2_with fail
  refine hnx.mono ?_
  rintro e w1 ⟨rfl, hb1⟩
  have hAY : After w (w1.alloc (.cells #[str [120], .slice none 0 0] 46)) := (hA.trans hb1).alloc _
  have hRY : (w1.alloc (.cells #[str [120], .slice none 0 0] 46)).heap[w.heap.size]? = some (.cells #[.string ⟨#[]⟩, .slice none 0 0] 46 (0, 0)) := (hb1.alloc _).heap HRES.out
  have HR1 := Lib.hid (hb1.heap HRES.out)
  have HA1 := Lib.hid (hA.trans hb1)
  have hXY := heap_new' w1 (.cells #[str [120], .slice none 0 0] 46)
  have hs1 := hb1.size
  have hne : w.heap.size < w1.heap.size := by simp at hs1; omega
  have HAY := Lib.hid hAY
  have HRY := Lib.hid hRY
  have HXY := Lib.hid hXY
  clear hnx hAY hRY hXY hb1 hs1 hA HRES
  have hk := s_false (w1.alloc (.cells #[str [120], .slice none 0 0] 46))
  unfold TreePost at hk
  go_wp2_with fail
  refine hk.mono ?_
  rintro e w3 ⟨t3, ao3, n3, c3, rfl, hb3, ht3⟩
  have HT3 := Lib.hid ht3
  obtain ⟨z0, z1, z2, z3, l2⟩ := pair_facts HRY.out hb3
  clear ht3 hk
  go_wp2_with fail
  refine bodyPost_ret (v := .tuple #[.agg #[str t3, .slice ao3 n3 c3], .bool true]) (by simp [results, Tryz.results69, go_sem, z0, z1]) rfl
    ⟨t3, ao3, n3, c3, rfl, after_sets2 (HAY.out.trans hb3) (After.heap hb3 HRY.out) (Nat.le_refl _) _ _, fun t he => by obtain rfl := Option.some.inj he; exact HT3.out.sets2 (After.heap hb3 HRY.out)⟩

theorem sdata_first (w : World) : Calls Tryz.prog 69 #[str [102, 105, 114, 115, 116]] w (SDataPost w (some Tm.first)) := by
  have hnx := s_nm (w.alloc (.cells #[.string ⟨#[]⟩, .slice none 0 0] 46)) [120]
  have hres := heap_new' w (.cells #[.string ⟨#[]⟩, .slice none 0 0] 46)
  have hA := After.new w (.cells #[.string ⟨#[]⟩, .slice none 0 0] 46)
  have HRES := Lib.hid hres
  clear hres
  go_enter Tryz.func69, Tryz.ntmps69
  go_wp2_with fail
  refine hnx.mono ?_
  rintro e w1 ⟨rfl, hb1⟩
  have hAY : After w (w1.alloc (.cells #[str [120], .slice none 0 0] 46)) := (hA.trans hb1).alloc _
  have hRY : (w1.alloc (.cells #[str [120], .slice none 0 0] 46)).heap[w.heap.size]? = some (.cells #[.string ⟨#[]⟩, .slice none 0 0] 46 (0, 0)) := (hb1.alloc _).heap HRES.out
  have HR1 := Lib.hid (hb1.heap HRES.out)
  have HA1 := Lib.hid (hA.trans hb1)
  have hXY := heap_new' w1 (.cells #[str [120], .slice none 0 0] 46)
  have hs1 := hb1.size
  have hne : w.heap.size < w1.heap.size := by simp at hs1; omega
  have HAY := Lib.hid hAY
  have HRY := Lib.hid hRY
  have HXY := Lib.hid hXY
  clear hnx hAY hRY hXY hb1 hs1 hA HRES
  have habs := fun W v (h : ST W (Tm.app Tm.X .k) v) => h.abs [120] (by decide) (by decide) (by decide) (Tm.plain_good (by decide +kernel)) (by decide +kernel)
  unfold TreePost at habs
  obtain ⟨Y, hY⟩ : ∃ Y, Y = (w1.alloc (.cells #[str [120], .slice none 0 0] 46)) := ⟨_, rfl⟩
  rw [← hY] at HAY HRY HXY
  have hbf : ButFor Y w.heap.size Y.drew := ⟨Nat.le_refl _, fun _ _ _ => rfl⟩
  have o0 : ∀ W, ButFor Y w.heap.size W → W.cell? ⟨w1.heap.size, 0, none⟩ = some (str [120]) := fun W hW => hW.cell (by omega) (cell_of_heap HXY.out)
  have o1 : ∀ W, ButFor Y w.heap.size W → W.cell? ⟨w1.heap.size, 1, none⟩ = some (.slice none 0 0) := fun W hW => hW.cell (by omega) (cell_of_heap HXY.out)
  go_wp2_with fail
  rw [← hY]
  have HY := Lib.hid hY
  clear hY
  go_region_held3 (fun W' => ButFor Y w.heap.size W') (first | assumption | exact hbf | exact ButFor.alloc (by assumption) _ | exact hbf.alloc _ | exact ButFor.set (by assumption) _ _ | exact ButFor.set (ButFor.set (by assumption) _ _) _ _ | exact hbf)
    (first
      | (go_at_call 74
         refine (s_true _).mono ?_
         rintro e w3 ⟨t3, ao3, n3, c3, rfl, hb3, ht3⟩
         have HT3 := Lib.hid ht3
         clear ht3
         have hS3 : ButFor Y w.heap.size w3 := After.butFor (After.trans (a := Y) (by repeat (first | assumption | exact After.refl _ | apply After.alloc | apply After.drew | (refine After.trans ?_ (by assumption)))) hb3))
      | (go_at_call 50
         refine (s_app _ Tm.X .k [120] t3 none ao3 0 0 n3 c3 _ (0, 0) ?_ ?_ ?_).mono ?_
         · (rfl)
         · (exact HT3.out.later (by repeat (first | assumption | exact After.refl _ | apply After.alloc | apply After.drew | (refine After.trans ?_ (by assumption)))))
         · (repeat (first | (first | exact heap_new' _ _ | exact heap_newD _ _ | exact heap_old2 _ _ _ | exact heap_old2D _ _ _ | exact heap_new2 _ _ _ _ rfl | exact heap_new2D _ _ _) | (refine After.heap (by assumption) ?_) | (refine After.heap (After.alloc (by assumption) _) ?_) | (refine After.heap (After.alloc (After.alloc (by assumption) _) _) ?_)))
         rintro e w4 ⟨t4, ao4, n4, c4, rfl, hb4, ht4⟩
         have HT4 := Lib.hid ht4
         clear ht4
         have hS4 : ButFor Y w.heap.size w4 := After.butFor (After.trans (a := Y) (by repeat (first | assumption | exact After.refl _ | apply After.alloc | apply After.drew | (refine After.trans ?_ (by assumption)))) hb4))
      | (go_at_call 96
         refine (habs _ _ (HT4.out.later (by repeat (first | assumption | exact After.refl _ | apply After.alloc | apply After.drew | (refine After.trans ?_ (by assumption)))))).mono ?_
         rintro e w5 ⟨t5, ao5, n5, c5, rfl, hb5, ht5⟩
         have HT5 := Lib.hid ht5
         clear ht5
         have hS5 : ButFor Y w.heap.size w5 := After.butFor (After.trans (a := Y) (by repeat (first | assumption | exact After.refl _ | apply After.alloc | apply After.drew | (refine After.trans ?_ (by assumption)))) hb5)
         have hAL : After Y w5 := After.trans (a := Y) (by repeat (first | assumption | exact After.refl _ | apply After.alloc | apply After.drew | (refine After.trans ?_ (by assumption)))) hb5
         obtain ⟨z0, z1, z2, z3, z4⟩ := pair_facts HRY.out hAL)
    )
  all_goals
    go_wp2_with fail
    refine bodyPost_ret (v := .tuple #[.agg #[str t5, .slice ao5 n5 c5], .bool true]) (by simp [results, Tryz.results69, go_sem, z0, z1]) rfl
      ⟨t5, ao5, n5, c5, rfl, after_sets2 (HAY.out.trans hAL) (After.heap hAL HRY.out) (Nat.le_refl _) _ _, fun t he => by obtain rfl := Option.some.inj he; exact HT5.out.sets2 (After.heap hAL HRY.out)⟩

theorem sdata_zero (w : World) : Calls Tryz.prog 69 #[str [122, 101, 114, 111]] w (SDataPost w (some Tm.first)) := by
  have hnx := s_nm (w.alloc (.cells #[.string ⟨#[]⟩, .slice none 0 0] 46)) [120]
  have hres := heap_new' w (.cells #[.string ⟨#[]⟩, .slice none 0 0] 46)
  have hA := After.new w (.cells #[.string ⟨#[]⟩, .slice none 0 0] 46)
  have HRES := Lib.hid hres
  clear hres
  go_enter Tryz.func69, Tryz.ntmps69
  go_wp2_with fail
  refine hnx.mono ?_
  rintro e w1 ⟨rfl, hb1⟩
  have hAY : After w (w1.alloc (.cells #[str [120], .slice none 0 0] 46)) := (hA.trans hb1).alloc _
  have hRY : (w1.alloc (.cells #[str [120], .slice none 0 0] 46)).heap[w.heap.size]? = some (.cells #[.string ⟨#[]⟩, .slice none 0 0] 46 (0, 0)) := (hb1.alloc _).heap HRES.out
  have HR1 := Lib.hid (hb1.heap HRES.out)
  have HA1 := Lib.hid (hA.trans hb1)
  have hXY := heap_new' w1 (.cells #[str [120], .slice none 0 0] 46)
  have hs1 := hb1.size
  have hne : w.heap.size < w1.heap.size := by simp at hs1; omega
  have HAY := Lib.hid hAY
  have HRY := Lib.hid hRY
  have HXY := Lib.hid hXY
  clear hnx hAY hRY hXY hb1 hs1 hA HRES
  have habs := fun W v (h : ST W (Tm.app Tm.X .k) v) => h.abs [120] (by decide) (by decide) (by decide) (Tm.plain_good (by decide +kernel)) (by decide +kernel)
  unfold TreePost at habs
  obtain ⟨Y, hY⟩ : ∃ Y, Y = (w1.alloc (.cells #[str [120], .slice none 0 0] 46)) := ⟨_, rfl⟩
  rw [← hY] at HAY HRY HXY
  have hbf : ButFor Y w.heap.size Y.drew := ⟨Nat.le_refl _, fun _ _ _ => rfl⟩
  have o0 : ∀ W, ButFor Y w.heap.size W → W.cell? ⟨w1.heap.size, 0, none⟩ = some (str [120]) := fun W hW => hW.cell (by omega) (cell_of_heap HXY.out)
  have o1 : ∀ W, ButFor Y w.heap.size W → W.cell? ⟨w1.heap.size, 1, none⟩ = some (.slice none 0 0) := fun W hW => hW.cell (by omega) (cell_of_heap HXY.out)
  go_wp2_with fail
  rw [← hY]
  have HY := Lib.hid hY
  clear hY
  go_region_held3 (fun W' => ButFor Y w.heap.size W') (first | assumption | exact hbf | exact ButFor.alloc (by assumption) _ | exact hbf.alloc _ | exact ButFor.set (by assumption) _ _ | exact ButFor.set (ButFor.set (by assumption) _ _) _ _ | exact hbf)
    (first
      | (go_at_call 74
         refine (s_true _).mono ?_
         rintro e w3 ⟨t3, ao3, n3, c3, rfl, hb3, ht3⟩
         have HT3 := Lib.hid ht3
         clear ht3
         have hS3 : ButFor Y w.heap.size w3 := After.butFor (After.trans (a := Y) (by repeat (first | assumption | exact After.refl _ | apply After.alloc | apply After.drew | (refine After.trans ?_ (by assumption)))) hb3))
      | (go_at_call 50
         refine (s_app _ Tm.X .k [120] t3 none ao3 0 0 n3 c3 _ (0, 0) ?_ ?_ ?_).mono ?_
         · (rfl)
         · (exact HT3.out.later (by repeat (first | assumption | exact After.refl _ | apply After.alloc | apply After.drew | (refine After.trans ?_ (by assumption)))))
         · (repeat (first | (first | exact heap_new' _ _ | exact heap_newD _ _ | exact heap_old2 _ _ _ | exact heap_old2D _ _ _ | exact heap_new2 _ _ _ _ rfl | exact heap_new2D _ _ _) | (refine After.heap (by assumption) ?_) | (refine After.heap (After.alloc (by assumption) _) ?_) | (refine After.heap (After.alloc (After.alloc (by assumption) _) _) ?_)))
         rintro e w4 ⟨t4, ao4, n4, c4, rfl, hb4, ht4⟩
         have HT4 := Lib.hid ht4
         clear ht4
         have hS4 : ButFor Y w.heap.size w4 := After.butFor (After.trans (a := Y) (by repeat (first | assumption | exact After.refl _ | apply After.alloc | apply After.drew | (refine After.trans ?_ (by assumption)))) hb4))
      | (go_at_call 96
         refine (habs _ _ (HT4.out.later (by repeat (first | assumption | exact After.refl _ | apply After.alloc | apply After.drew | (refine After.trans ?_ (by assumption)))))).mono ?_
         rintro e w5 ⟨t5, ao5, n5, c5, rfl, hb5, ht5⟩
         have HT5 := Lib.hid ht5
         clear ht5
         have hS5 : ButFor Y w.heap.size w5 := After.butFor (After.trans (a := Y) (by repeat (first | assumption | exact After.refl _ | apply After.alloc | apply After.drew | (refine After.trans ?_ (by assumption)))) hb5)
         have hAL : After Y w5 := After.trans (a := Y) (by repeat (first | assumption | exact After.refl _ | apply After.alloc | apply After.drew | (refine After.trans ?_ (by assumption)))) hb5
         obtain ⟨z0, z1, z2, z3, z4⟩ := pair_facts HRY.out hAL)
    )
  all_goals
    go_wp2_with fail
    refine bodyPost_ret (v := .tuple #[.agg #[str t5, .slice ao5 n5 c5], .bool true]) (by simp [results, Tryz.results69, go_sem, z0, z1]) rfl
      ⟨t5, ao5, n5, c5, rfl, after_sets2 (HAY.out.trans hAL) (After.heap hAL HRY.out) (Nat.le_refl _) _ _, fun t he => by obtain rfl := Option.some.inj he; exact HT5.out.sets2 (After.heap hAL HRY.out)⟩

theorem sdata_second (w : World) : Calls Tryz.prog 69 #[str [115, 101, 99, 111, 110, 100]] w (SDataPost w (some Tm.second)) := by
  have hnx := s_nm (w.alloc (.cells #[.string ⟨#[]⟩, .slice none 0 0] 46)) [120]
  have hres := heap_new' w (.cells #[.string ⟨#[]⟩, .slice none 0 0] 46)
  have hA := After.new w (.cells #[.string ⟨#[]⟩, .slice none 0 0] 46)
  have HRES := Lib.hid hres
  clear hres
  go_enter Tryz.func69, Tryz.ntmps69
  go_wp2_with fail
  refine hnx.mono ?_
  rintro e w1 ⟨rfl, hb1⟩
  have hAY : After w (w1.alloc (.cells #[str [120], .slice none 0 0] 46)) := (hA.trans hb1).alloc _
  have hRY : (w1.alloc (.cells #[str [120], .slice none 0 0] 46)).heap[w.heap.size]? = some (.cells #[.string ⟨#[]⟩, .slice none 0 0] 46 (0, 0)) := (hb1.alloc _).heap HRES.out
  have HR1 := Lib.hid (hb1.heap HRES.out)
  have HA1 := Lib.hid (hA.trans hb1)
  have hXY := heap_new' w1 (.cells #[str [120], .slice none 0 0] 46)
  have hs1 := hb1.size
  have hne : w.heap.size < w1.heap.size := by simp at hs1; omega
  have HAY := Lib.hid hAY
  have HRY := Lib.hid hRY
  have HXY := Lib.hid hXY
  clear hnx hAY hRY hXY hb1 hs1 hA HRES
  have habs := fun W v (h : ST W (Tm.app Tm.X Tm.no) v) => h.abs [120] (by decide) (by decide) (by decide) (Tm.plain_good (by decide +kernel)) (by decide +kernel)
  unfold TreePost at habs
  obtain ⟨Y, hY⟩ : ∃ Y, Y = (w1.alloc (.cells #[str [120], .slice none 0 0] 46)) := ⟨_, rfl⟩
  rw [← hY] at HAY HRY HXY
  have hbf : ButFor Y w.heap.size Y.drew := ⟨Nat.le_refl _, fun _ _ _ => rfl⟩
  have o0 : ∀ W, ButFor Y w.heap.size W → W.cell? ⟨w1.heap.size, 0, none⟩ = some (str [120]) := fun W hW => hW.cell (by omega) (cell_of_heap HXY.out)
  have o1 : ∀ W, ButFor Y w.heap.size W → W.cell? ⟨w1.heap.size, 1, none⟩ = some (.slice none 0 0) := fun W hW => hW.cell (by omega) (cell_of_heap HXY.out)
  go_wp2_with fail
  rw [← hY]
  have HY := Lib.hid hY
  clear hY
  go_region_held3 (fun W' => ButFor Y w.heap.size W') (first | assumption | exact hbf | exact ButFor.alloc (by assumption) _ | exact hbf.alloc _ | exact ButFor.set (by assumption) _ _ | exact ButFor.set (ButFor.set (by assumption) _ _) _ _ | exact hbf)
    (first
      | (go_at_call 83
         refine (s_false _).mono ?_
         rintro e w3 ⟨t3, ao3, n3, c3, rfl, hb3, ht3⟩
         have HT3 := Lib.hid ht3
         clear ht3
         have hS3 : ButFor Y w.heap.size w3 := After.butFor (After.trans (a := Y) (by repeat (first | assumption | exact After.refl _ | apply After.alloc | apply After.drew | (refine After.trans ?_ (by assumption)))) hb3))
      | (go_at_call 50
         refine (s_app _ Tm.X Tm.no [120] t3 none ao3 0 0 n3 c3 _ (0, 0) ?_ ?_ ?_).mono ?_
         · (rfl)
         · (exact HT3.out.later (by repeat (first | assumption | exact After.refl _ | apply After.alloc | apply After.drew | (refine After.trans ?_ (by assumption)))))
         · (repeat (first | (first | exact heap_new' _ _ | exact heap_newD _ _ | exact heap_old2 _ _ _ | exact heap_old2D _ _ _ | exact heap_new2 _ _ _ _ rfl | exact heap_new2D _ _ _) | (refine After.heap (by assumption) ?_) | (refine After.heap (After.alloc (by assumption) _) ?_) | (refine After.heap (After.alloc (After.alloc (by assumption) _) _) ?_)))
         rintro e w4 ⟨t4, ao4, n4, c4, rfl, hb4, ht4⟩
         have HT4 := Lib.hid ht4
         clear ht4
         have hS4 : ButFor Y w.heap.size w4 := After.butFor (After.trans (a := Y) (by repeat (first | assumption | exact After.refl _ | apply After.alloc | apply After.drew | (refine After.trans ?_ (by assumption)))) hb4))
      | (go_at_call 96
         refine (habs _ _ (HT4.out.later (by repeat (first | assumption | exact After.refl _ | apply After.alloc | apply After.drew | (refine After.trans ?_ (by assumption)))))).mono ?_
         rintro e w5 ⟨t5, ao5, n5, c5, rfl, hb5, ht5⟩
         have HT5 := Lib.hid ht5
         clear ht5
         have hS5 : ButFor Y w.heap.size w5 := After.butFor (After.trans (a := Y) (by repeat (first | assumption | exact After.refl _ | apply After.alloc | apply After.drew | (refine After.trans ?_ (by assumption)))) hb5)
         have hAL : After Y w5 := After.trans (a := Y) (by repeat (first | assumption | exact After.refl _ | apply After.alloc | apply After.drew | (refine After.trans ?_ (by assumption)))) hb5
         obtain ⟨z0, z1, z2, z3, z4⟩ := pair_facts HRY.out hAL)
    )
  all_goals
    go_wp2_with fail
    refine bodyPost_ret (v := .tuple #[.agg #[str t5, .slice ao5 n5 c5], .bool true]) (by simp [results, Tryz.results69, go_sem, z0, z1]) rfl
      ⟨t5, ao5, n5, c5, rfl, after_sets2 (HAY.out.trans hAL) (After.heap hAL HRY.out) (Nat.le_refl _) _ _, fun t he => by obtain rfl := Option.some.inj he; exact HT5.out.sets2 (After.heap hAL HRY.out)⟩

theorem sdata_succ (w : World) : Calls Tryz.prog 69 #[str [115, 117, 99, 99]] w (SDataPost w (some Tm.succ)) := by
  have hnx := s_nm (w.alloc (.cells #[.string ⟨#[]⟩, .slice none 0 0] 46)) [120]
  have hres := heap_new' w (.cells #[.string ⟨#[]⟩, .slice none 0 0] 46)
  have hA := After.new w (.cells #[.string ⟨#[]⟩, .slice none 0 0] 46)
  have HRES := Lib.hid hres
  clear hres
  go_enter Tryz.func69, Tryz.ntmps69
  go_wp2_with fail
  refine hnx.mono ?_
  rintro e w1 ⟨rfl, hb1⟩
  have hAY : After w (w1.alloc (.cells #[str [120], .slice none 0 0] 46)) := (hA.trans hb1).alloc _
  have hRY : (w1.alloc (.cells #[str [120], .slice none 0 0] 46)).heap[w.heap.size]? = some (.cells #[.string ⟨#[]⟩, .slice none 0 0] 46 (0, 0)) := (hb1.alloc _).heap HRES.out
  have HR1 := Lib.hid (hb1.heap HRES.out)
  have HA1 := Lib.hid (hA.trans hb1)
  have hXY := heap_new' w1 (.cells #[str [120], .slice none 0 0] 46)
  have hs1 := hb1.size
  have hne : w.heap.size < w1.heap.size := by simp at hs1; omega
  have HAY := Lib.hid hAY
  have HRY := Lib.hid hRY
  have HXY := Lib.hid hXY
  clear hnx hAY hRY hXY hb1 hs1 hA HRES
  have habs := fun W v (h : ST W (Tm.pair Tm.no Tm.X) v) => h.abs [120] (by decide) (by decide) (by decide) (Tm.plain_good (by decide +kernel)) (by decide +kernel)
  unfold TreePost at habs
  obtain ⟨Y, hY⟩ : ∃ Y, Y = (w1.alloc (.cells #[str [120], .slice none 0 0] 46)) := ⟨_, rfl⟩
  rw [← hY] at HAY HRY HXY
  have hbf : ButFor Y w.heap.size Y.drew := ⟨Nat.le_refl _, fun _ _ _ => rfl⟩
  have o0 : ∀ W, ButFor Y w.heap.size W → W.cell? ⟨w1.heap.size, 0, none⟩ = some (str [120]) := fun W hW => hW.cell (by omega) (cell_of_heap HXY.out)
  have o1 : ∀ W, ButFor Y w.heap.size W → W.cell? ⟨w1.heap.size, 1, none⟩ = some (.slice none 0 0) := fun W hW => hW.cell (by omega) (cell_of_heap HXY.out)
  go_wp2_with fail
  rw [← hY]
  have HY := Lib.hid hY
  clear hY
  go_region_held3 (fun W' => ButFor Y w.heap.size W') (first | assumption | exact hbf | exact ButFor.alloc (by assumption) _ | exact hbf.alloc _ | exact ButFor.set (by assumption) _ _ | exact ButFor.set (ButFor.set (by assumption) _ _) _ _ | exact hbf)
    (first
      | (go_at_call 83
         refine (s_false _).mono ?_
         rintro e w3 ⟨t3, ao3, n3, c3, rfl, hb3, ht3⟩
         have HT3 := Lib.hid ht3
         clear ht3
         have hS3 : ButFor Y w.heap.size w3 := After.butFor (After.trans (a := Y) (by repeat (first | assumption | exact After.refl _ | apply After.alloc | apply After.drew | (refine After.trans ?_ (by assumption)))) hb3))
      | (go_at_call 82
         refine (s_pair _ Tm.no Tm.X t3 [120] ao3 none n3 c3 0 0 (HT3.out.later (by repeat (first | assumption | exact After.refl _ | apply After.alloc | apply After.drew | (refine After.trans ?_ (by assumption))))) rfl (by decide +kernel) (by decide +kernel) (by decide +kernel)).mono ?_
         rintro e w4 ⟨t4, ao4, n4, c4, rfl, hb4, ht4⟩
         have HT4 := Lib.hid ht4
         clear ht4
         have hS4 : ButFor Y w.heap.size w4 := After.butFor (After.trans (a := Y) (by repeat (first | assumption | exact After.refl _ | apply After.alloc | apply After.drew | (refine After.trans ?_ (by assumption)))) hb4))
      | (go_at_call 96
         refine (habs _ _ (HT4.out.later (by repeat (first | assumption | exact After.refl _ | apply After.alloc | apply After.drew | (refine After.trans ?_ (by assumption)))))).mono ?_
         rintro e w5 ⟨t5, ao5, n5, c5, rfl, hb5, ht5⟩
         have HT5 := Lib.hid ht5
         clear ht5
         have hS5 : ButFor Y w.heap.size w5 := After.butFor (After.trans (a := Y) (by repeat (first | assumption | exact After.refl _ | apply After.alloc | apply After.drew | (refine After.trans ?_ (by assumption)))) hb5)
         have hAL : After Y w5 := After.trans (a := Y) (by repeat (first | assumption | exact After.refl _ | apply After.alloc | apply After.drew | (refine After.trans ?_ (by assumption)))) hb5
         obtain ⟨z0, z1, z2, z3, z4⟩ := pair_facts HRY.out hAL)
    )
  all_goals
    go_wp2_with fail
    refine bodyPost_ret (v := .tuple #[.agg #[str t5, .slice ao5 n5 c5], .bool true]) (by simp [results, Tryz.results69, go_sem, z0, z1]) rfl
      ⟨t5, ao5, n5, c5, rfl, after_sets2 (HAY.out.trans hAL) (After.heap hAL HRY.out) (Nat.le_refl _) _ _, fun t he => by obtain rfl := Option.some.inj he; exact HT5.out.sets2 (After.heap hAL HRY.out)⟩

theorem sdata_pred (w : World) : Calls Tryz.prog 69 #[str [112, 114, 101, 100]] w (SDataPost w (some Tm.pred)) := by
  have hnx := s_nm (w.alloc (.cells #[.string ⟨#[]⟩, .slice none 0 0] 46)) [120]
  have hres := heap_new' w (.cells #[.string ⟨#[]⟩, .slice none 0 0] 46)
  have hA := After.new w (.cells #[.string ⟨#[]⟩, .slice none 0 0] 46)
  have HRES := Lib.hid hres
  clear hres
  go_enter Tryz.func69, Tryz.ntmps69
  go_wp2_with fail
  refine hnx.mono ?_
  rintro e w1 ⟨rfl, hb1⟩
  have hAY : After w (w1.alloc (.cells #[str [120], .slice none 0 0] 46)) := (hA.trans hb1).alloc _
  have hRY : (w1.alloc (.cells #[str [120], .slice none 0 0] 46)).heap[w.heap.size]? = some (.cells #[.string ⟨#[]⟩, .slice none 0 0] 46 (0, 0)) := (hb1.alloc _).heap HRES.out
  have HR1 := Lib.hid (hb1.heap HRES.out)
  have HA1 := Lib.hid (hA.trans hb1)
  have hXY := heap_new' w1 (.cells #[str [120], .slice none 0 0] 46)
  have hs1 := hb1.size
  have hne : w.heap.size < w1.heap.size := by simp at hs1; omega
  have HAY := Lib.hid hAY
  have HRY := Lib.hid hRY
  have HXY := Lib.hid hXY
  clear hnx hAY hRY hXY hb1 hs1 hA HRES
  have habs := fun W v (h : ST W (Tm.app (Tm.app (Tm.app Tm.X .k) Tm.I) (Tm.app Tm.X Tm.no)) v) => h.abs [120] (by decide) (by decide) (by decide) (Tm.plain_good (by decide +kernel)) (by decide +kernel)
  unfold TreePost at habs
  obtain ⟨Y, hY⟩ : ∃ Y, Y = (w1.alloc (.cells #[str [120], .slice none 0 0] 46)) := ⟨_, rfl⟩
  rw [← hY] at HAY HRY HXY
  have hbf : ButFor Y w.heap.size Y.drew := ⟨Nat.le_refl _, fun _ _ _ => rfl⟩
  have o0 : ∀ W, ButFor Y w.heap.size W → W.cell? ⟨w1.heap.size, 0, none⟩ = some (str [120]) := fun W hW => hW.cell (by omega) (cell_of_heap HXY.out)
  have o1 : ∀ W, ButFor Y w.heap.size W → W.cell? ⟨w1.heap.size, 1, none⟩ = some (.slice none 0 0) := fun W hW => hW.cell (by omega) (cell_of_heap HXY.out)
  go_wp2_with fail
  rw [← hY]
  have HY := Lib.hid hY
  clear hY
  go_region_held3 (fun W' => ButFor Y w.heap.size W') (first | assumption | exact hbf | exact ButFor.alloc (by assumption) _ | exact hbf.alloc _ | exact ButFor.set (by assumption) _ _ | exact ButFor.set (ButFor.set (by assumption) _ _) _ _ | exact hbf)
    (first
      | (go_at_call 74
         refine (s_true _).mono ?_
         rintro e w3 ⟨t3, ao3, n3, c3, rfl, hb3, ht3⟩
         have HT3 := Lib.hid ht3
         clear ht3
         have hS3 : ButFor Y w.heap.size w3 := After.butFor (After.trans (a := Y) (by repeat (first | assumption | exact After.refl _ | apply After.alloc | apply After.drew | (refine After.trans ?_ (by assumption)))) hb3))
      | (go_at_call 71
         refine (s_i _).mono ?_
         rintro e w5 ⟨t5, ao5, n5, c5, rfl, hb5, ht5⟩
         have HT5 := Lib.hid ht5
         clear ht5
         have hS5 : ButFor Y w.heap.size w5 := After.butFor (After.trans (a := Y) (by repeat (first | assumption | exact After.refl _ | apply After.alloc | apply After.drew | (refine After.trans ?_ (by assumption)))) hb5))
      | (go_at_call 83
         refine (s_false _).mono ?_
         rintro e w6 ⟨t6, ao6, n6, c6, rfl, hb6, ht6⟩
         have HT6 := Lib.hid ht6
         clear ht6
         have hS6 : ButFor Y w.heap.size w6 := After.butFor (After.trans (a := Y) (by repeat (first | assumption | exact After.refl _ | apply After.alloc | apply After.drew | (refine After.trans ?_ (by assumption)))) hb6))
      | (go_at_call 50
         refine (s_app2 _ (Tm.app Tm.X .k) Tm.I (Tm.app Tm.X Tm.no) t4 t5 t7 ao4 ao5 ao7 n4 c4 n5 c5 n7 c7 _ (0, 0) ?_ ?_ ?_ ?_).mono ?_
         · (exact HT4.out.later (by repeat (first | assumption | exact After.refl _ | apply After.alloc | apply After.drew | (refine After.trans ?_ (by assumption)))))
         · (exact HT5.out.later (by repeat (first | assumption | exact After.refl _ | apply After.alloc | apply After.drew | (refine After.trans ?_ (by assumption)))))
         · (exact HT7.out.later (by repeat (first | assumption | exact After.refl _ | apply After.alloc | apply After.drew | (refine After.trans ?_ (by assumption)))))
         · (repeat (first | (first | exact heap_new' _ _ | exact heap_newD _ _ | exact heap_old2 _ _ _ | exact heap_old2D _ _ _ | exact heap_new2 _ _ _ _ rfl | exact heap_new2D _ _ _) | (refine After.heap (by assumption) ?_) | (refine After.heap (After.alloc (by assumption) _) ?_) | (refine After.heap (After.alloc (After.alloc (by assumption) _) _) ?_)))
         rintro e w8 ⟨t8, ao8, n8, c8, rfl, hb8, ht8⟩
         have HT8 := Lib.hid ht8
         clear ht8
         have hS8 : ButFor Y w.heap.size w8 := After.butFor (After.trans (a := Y) (by repeat (first | assumption | exact After.refl _ | apply After.alloc | apply After.drew | (refine After.trans ?_ (by assumption)))) hb8))
      | (go_at_call 50
         refine (s_app _ Tm.X Tm.no [120] t6 none ao6 0 0 n6 c6 _ (0, 0) ?_ ?_ ?_).mono ?_
         · (rfl)
         · (exact HT6.out.later (by repeat (first | assumption | exact After.refl _ | apply After.alloc | apply After.drew | (refine After.trans ?_ (by assumption)))))
         · (repeat (first | (first | exact heap_new' _ _ | exact heap_newD _ _ | exact heap_old2 _ _ _ | exact heap_old2D _ _ _ | exact heap_new2 _ _ _ _ rfl | exact heap_new2D _ _ _) | (refine After.heap (by assumption) ?_) | (refine After.heap (After.alloc (by assumption) _) ?_) | (refine After.heap (After.alloc (After.alloc (by assumption) _) _) ?_)))
         rintro e w7 ⟨t7, ao7, n7, c7, rfl, hb7, ht7⟩
         have HT7 := Lib.hid ht7
         clear ht7
         have hS7 : ButFor Y w.heap.size w7 := After.butFor (After.trans (a := Y) (by repeat (first | assumption | exact After.refl _ | apply After.alloc | apply After.drew | (refine After.trans ?_ (by assumption)))) hb7))
      | (go_at_call 50
         refine (s_app _ Tm.X .k [120] t3 none ao3 0 0 n3 c3 _ (0, 0) ?_ ?_ ?_).mono ?_
         · (rfl)
         · (exact HT3.out.later (by repeat (first | assumption | exact After.refl _ | apply After.alloc | apply After.drew | (refine After.trans ?_ (by assumption)))))
         · (repeat (first | (first | exact heap_new' _ _ | exact heap_newD _ _ | exact heap_old2 _ _ _ | exact heap_old2D _ _ _ | exact heap_new2 _ _ _ _ rfl | exact heap_new2D _ _ _) | (refine After.heap (by assumption) ?_) | (refine After.heap (After.alloc (by assumption) _) ?_) | (refine After.heap (After.alloc (After.alloc (by assumption) _) _) ?_)))
         rintro e w4 ⟨t4, ao4, n4, c4, rfl, hb4, ht4⟩
         have HT4 := Lib.hid ht4
         clear ht4
         have hS4 : ButFor Y w.heap.size w4 := After.butFor (After.trans (a := Y) (by repeat (first | assumption | exact After.refl _ | apply After.alloc | apply After.drew | (refine After.trans ?_ (by assumption)))) hb4))
      | (go_at_call 96
         refine (habs _ _ (HT8.out.later (by repeat (first | assumption | exact After.refl _ | apply After.alloc | apply After.drew | (refine After.trans ?_ (by assumption)))))).mono ?_
         rintro e w9 ⟨t9, ao9, n9, c9, rfl, hb9, ht9⟩
         have HT9 := Lib.hid ht9
         clear ht9
         have hS9 : ButFor Y w.heap.size w9 := After.butFor (After.trans (a := Y) (by repeat (first | assumption | exact After.refl _ | apply After.alloc | apply After.drew | (refine After.trans ?_ (by assumption)))) hb9)
         have hAL : After Y w9 := After.trans (a := Y) (by repeat (first | assumption | exact After.refl _ | apply After.alloc | apply After.drew | (refine After.trans ?_ (by assumption)))) hb9
         obtain ⟨z0, z1, z2, z3, z4⟩ := pair_facts HRY.out hAL)
    )
  all_goals
    go_wp2_with fail
    refine bodyPost_ret (v := .tuple #[.agg #[str t9, .slice ao9 n9 c9], .bool true]) (by simp [results, Tryz.results69, go_sem, z0, z1]) rfl
      ⟨t9, ao9, n9, c9, rfl, after_sets2 (HAY.out.trans hAL) (After.heap hAL HRY.out) (Nat.le_refl _) _ _, fun t he => by obtain rfl := Option.some.inj he; exact HT9.out.sets2 (After.heap hAL HRY.out)⟩

theorem sdata_pair (w : World) : Calls Tryz.prog 69 #[str [112, 97, 105, 114]] w (SDataPost w (some Tm.pairC)) := by
  have hnx := s_nm (w.alloc (.cells #[.string ⟨#[]⟩, .slice none 0 0] 46)) [120]
  have hres := heap_new' w (.cells #[.string ⟨#[]⟩, .slice none 0 0] 46)
  have hA := After.new w (.cells #[.string ⟨#[]⟩, .slice none 0 0] 46)
  have HRES := Lib.hid hres
  clear hres
  go_enter Tryz.func69, Tryz.ntmps69
  go_wp2_with fail
  refine hnx.mono ?_
  rintro e w1 ⟨rfl, hb1⟩
  have hAY : After w (w1.alloc (.cells #[str [120], .slice none 0 0] 46)) := (hA.trans hb1).alloc _
  have hRY : (w1.alloc (.cells #[str [120], .slice none 0 0] 46)).heap[w.heap.size]? = some (.cells #[.string ⟨#[]⟩, .slice none 0 0] 46 (0, 0)) := (hb1.alloc _).heap HRES.out
  have HR1 := Lib.hid (hb1.heap HRES.out)
  have HA1 := Lib.hid (hA.trans hb1)
  have hXY := heap_new' w1 (.cells #[str [120], .slice none 0 0] 46)
  have hs1 := hb1.size
  have hne : w.heap.size < w1.heap.size := by simp at hs1; omega
  have HAY := Lib.hid hAY
  have HRY := Lib.hid hRY
  have HXY := Lib.hid hXY
  clear hnx hAY hRY hXY hb1 hs1 hA HRES
  obtain ⟨Y, hY⟩ : ∃ Y, Y = (w1.alloc (.cells #[str [120], .slice none 0 0] 46)) := ⟨_, rfl⟩
  rw [← hY] at HAY HRY HXY
  have hbf : ButFor Y w.heap.size Y.drew := ⟨Nat.le_refl _, fun _ _ _ => rfl⟩
  have o0 : ∀ W, ButFor Y w.heap.size W → W.cell? ⟨w1.heap.size, 0, none⟩ = some (str [120]) := fun W hW => hW.cell (by omega) (cell_of_heap HXY.out)
  have o1 : ∀ W, ButFor Y w.heap.size W → W.cell? ⟨w1.heap.size, 1, none⟩ = some (.slice none 0 0) := fun W hW => hW.cell (by omega) (cell_of_heap HXY.out)
  go_wp2_with fail
  rw [← hY]
  have HY := Lib.hid hY
  clear hY
  go_region_held3 (fun W' => ButFor Y w.heap.size W') (first | assumption | exact hbf | exact ButFor.alloc (by assumption) _ | exact hbf.alloc _ | exact ButFor.set (by assumption) _ _ | exact ButFor.set (ButFor.set (by assumption) _ _) _ _ | exact hbf)
    (first
      | (go_at_call 73
         have := hb3
         refine (s_nm _ [121]).mono ?_
         rintro e w4 ⟨rfl, hb4⟩
         have hS4 : ButFor Y w.heap.size w4 := After.butFor (After.trans (a := Y) (by repeat (first | assumption | exact After.refl _ | apply After.alloc | apply After.drew | (refine After.trans ?_ (by assumption)))) hb4))
      | (go_at_call 73
         refine (s_nm _ [122]).mono ?_
         rintro e w3 ⟨rfl, hb3⟩
         have hS3 : ButFor Y w.heap.size w3 := After.butFor (After.trans (a := Y) (by repeat (first | assumption | exact After.refl _ | apply After.alloc | apply After.drew | (refine After.trans ?_ (by assumption)))) hb3))
      | (go_at_call 50
         refine (s_app2 _ Tm.Z Tm.X Tm.Y [122] [120] [121] none none none 0 0 0 0 0 0 _ (0, 0) rfl rfl rfl ?_).mono ?_
         · (repeat (first | (first | exact heap_new' _ _ | exact heap_newD _ _ | exact heap_old2 _ _ _ | exact heap_old2D _ _ _ | exact heap_new2 _ _ _ _ rfl | exact heap_new2D _ _ _) | (refine After.heap (by assumption) ?_) | (refine After.heap (After.alloc (by assumption) _) ?_) | (refine After.heap (After.alloc (After.alloc (by assumption) _) _) ?_)))
         rintro e w5 ⟨t5, ao5, n5, c5, rfl, hb5, ht5⟩
         have HT5 := Lib.hid ht5
         clear ht5
         have hS5 : ButFor Y w.heap.size w5 := After.butFor (After.trans (a := Y) (by repeat (first | assumption | exact After.refl _ | apply After.alloc | apply After.drew | (refine After.trans ?_ (by assumption)))) hb5))
      | (go_at_call 70
         refine (s_all_pair _ _ t5 ao5 n5 c5 (HT5.out.later (by repeat (first | assumption | exact After.refl _ | apply After.alloc | apply After.drew | (refine After.trans ?_ (by assumption))))) ?_).mono ?_
         · (repeat (first | (first | exact heap_new' _ _ | exact heap_newD _ _ | exact heap_old2 _ _ _ | exact heap_old2D _ _ _ | exact heap_new2 _ _ _ _ rfl | exact heap_new2D _ _ _) | (refine After.heap (by assumption) ?_) | (refine After.heap (After.alloc (by assumption) _) ?_) | (refine After.heap (After.alloc (After.alloc (by assumption) _) _) ?_)))
         rintro e w6 ⟨t6, ao6, n6, c6, rfl, hb6, ht6⟩
         have HT6 := Lib.hid ht6
         clear ht6
         have hS6 : ButFor Y w.heap.size w6 := After.butFor (After.trans (a := Y) (by repeat (first | assumption | exact After.refl _ | apply After.alloc | apply After.drew | (refine After.trans ?_ (by assumption)))) hb6)
         have hAL : After Y w6 := After.trans (a := Y) (by repeat (first | assumption | exact After.refl _ | apply After.alloc | apply After.drew | (refine After.trans ?_ (by assumption)))) hb6
         obtain ⟨z0, z1, z2, z3, z4⟩ := pair_facts HRY.out hAL)
    )
  all_goals
    go_wp2_with fail
    refine bodyPost_ret (v := .tuple #[.agg #[str t6, .slice ao6 n6 c6], .bool true]) (by simp [results, Tryz.results69, go_sem, z0, z1]) rfl
      ⟨t6, ao6, n6, c6, rfl, after_sets2 (HAY.out.trans hAL) (After.heap hAL HRY.out) (Nat.le_refl _) _ _, fun t he => by obtain rfl := Option.some.inj he; exact HT6.out.sets2 (After.heap hAL HRY.out)⟩

theorem sdata_fix (w : World) : Calls Tryz.prog 69 #[str [102, 105, 120]] w (SDataPost w (some Tm.fix)) := by
  have hnx := s_nm (w.alloc (.cells #[.string ⟨#[]⟩, .slice none 0 0] 46)) [120]
  have hres := heap_new' w (.cells #[.string ⟨#[]⟩, .slice none 0 0] 46)
  have hA := After.new w (.cells #[.string ⟨#[]⟩, .slice none 0 0] 46)
  have HRES := Lib.hid hres
  clear hres
  go_enter Tryz.func69, Tryz.ntmps69
  go_wp2_with fail
  refine hnx.mono ?_
  rintro e w1 ⟨rfl, hb1⟩
  have hAY : After w (w1.alloc (.cells #[str [120], .slice none 0 0] 46)) := (hA.trans hb1).alloc _
  have hRY : (w1.alloc (.cells #[str [120], .slice none 0 0] 46)).heap[w.heap.size]? = some (.cells #[.string ⟨#[]⟩, .slice none 0 0] 46 (0, 0)) := (hb1.alloc _).heap HRES.out
  have HR1 := Lib.hid (hb1.heap HRES.out)
  have HA1 := Lib.hid (hA.trans hb1)
  have hXY := heap_new' w1 (.cells #[str [120], .slice none 0 0] 46)
  have hs1 := hb1.size
  have hne : w.heap.size < w1.heap.size := by simp at hs1; omega
  have HAY := Lib.hid hAY
  have HRY := Lib.hid hRY
  have HXY := Lib.hid hXY
  clear hnx hAY hRY hXY hb1 hs1 hA HRES
  have hk := s_fix (w1.alloc (.cells #[str [120], .slice none 0 0] 46))
  unfold TreePost at hk
  go_wp2_with fail
  refine hk.mono ?_
  rintro e w3 ⟨t3, ao3, n3, c3, rfl, hb3, ht3⟩
  have HT3 := Lib.hid ht3
  obtain ⟨z0, z1, z2, z3, l2⟩ := pair_facts HRY.out hb3
  clear ht3 hk
  go_wp2_with fail
  refine bodyPost_ret (v := .tuple #[.agg #[str t3, .slice ao3 n3 c3], .bool true]) (by simp [results, Tryz.results69, go_sem, z0, z1]) rfl
    ⟨t3, ao3, n3, c3, rfl, after_sets2 (HAY.out.trans hb3) (After.heap hb3 HRY.out) (Nat.le_refl _) _ _, fun t he => by obtain rfl := Option.some.inj he; exact HT3.out.sets2 (After.heap hb3 HRY.out)⟩

theorem sdata_none (w : World) (l : List UInt8) (n0 : (l == [105]) = false) (n1 : (l == [116, 114, 117, 101]) = false) (n2 : (l == [102, 97, 108, 115, 101]) = false) (n3 : (l == [112, 97, 105, 114]) = false) (n4 : (l == [102, 105, 114, 115, 116]) = false) (n5 : (l == [122, 101, 114, 111]) = false) (n6 : (l == [115, 101, 99, 111, 110, 100]) = false) (n7 : (l == [115, 117, 99, 99]) = false) (n8 : (l == [112, 114, 101, 100]) = false) (n9 : (l == [102, 105, 120]) = false) : Calls Tryz.prog 69 #[str l] w (SDataPost w none) := by
  have hnx := s_nm (w.alloc (.cells #[.string ⟨#[]⟩, .slice none 0 0] 46)) [120]
  have hres := heap_new' w (.cells #[.string ⟨#[]⟩, .slice none 0 0] 46)
  have hA := After.new w (.cells #[.string ⟨#[]⟩, .slice none 0 0] 46)
  have HRES := Lib.hid hres
  clear hres
  go_enter Tryz.func69, Tryz.ntmps69
  go_wp2_with fail
  refine hnx.mono ?_
  rintro e w1 ⟨rfl, hb1⟩
  have hAY : After w (w1.alloc (.cells #[str [120], .slice none 0 0] 46)) := (hA.trans hb1).alloc _
  have hRY : (w1.alloc (.cells #[str [120], .slice none 0 0] 46)).heap[w.heap.size]? = some (.cells #[.string ⟨#[]⟩, .slice none 0 0] 46 (0, 0)) := (hb1.alloc _).heap HRES.out
  have HR1 := Lib.hid (hb1.heap HRES.out)
  have HA1 := Lib.hid (hA.trans hb1)
  have hXY := heap_new' w1 (.cells #[str [120], .slice none 0 0] 46)
  have hs1 := hb1.size
  have hne : w.heap.size < w1.heap.size := by simp at hs1; omega
  have HAY := Lib.hid hAY
  have HRY := Lib.hid hRY
  have HXY := Lib.hid hXY
  clear hnx hAY hRY hXY hb1 hs1 hA HRES
  obtain ⟨z0, z1, z2, z3, l2⟩ := pair_facts HR1.out (After.refl _)
  obtain ⟨y0, y1, y2, y3, m2⟩ := pair_facts HXY.out (After.refl _)
  go_wp2_with fail
  have hAc := (after_sets2 HA1.out HR1.out (Nat.le_refl _) (str [120]) (.slice none 0 0)).alloc (.cells #[str [120], .slice none 0 0] 46)
  obtain ⟨q0, q1, _, _, _⟩ := pair_facts (heap_sets2 (u := str [120]) (u' := .slice none 0 0) HR1.out) (After.new _ (.cells #[str [120], .slice none 0 0] 46))
  refine bodyPost_ret (v := .tuple #[.agg #[str [120], .slice none 0 0], .bool false]) (by simp [results, Tryz.results69, go_sem, q0, q1]) rfl
    ⟨[120], none, 0, 0, rfl, hAc, fun t he => by cases he⟩

theorem sdata_any (w : World) (l : List UInt8) : Calls Tryz.prog 69 #[str l] w (SDataPost w (Tm.data l)) := by
  by_cases h0 : l = [105]
  · subst h0; exact sdata_i w
  by_cases h1 : l = [116, 114, 117, 101]
  · subst h1; exact sdata_true w
  by_cases h2 : l = [102, 97, 108, 115, 101]
  · subst h2; exact sdata_false w
  by_cases h3 : l = [112, 97, 105, 114]
  · subst h3; exact sdata_pair w
  by_cases h4 : l = [102, 105, 114, 115, 116]
  · subst h4; exact sdata_first w
  by_cases h5 : l = [122, 101, 114, 111]
  · subst h5; exact sdata_zero w
  by_cases h6 : l = [115, 101, 99, 111, 110, 100]
  · subst h6; exact sdata_second w
  by_cases h7 : l = [115, 117, 99, 99]
  · subst h7; exact sdata_succ w
  by_cases h8 : l = [112, 114, 101, 100]
  · subst h8; exact sdata_pred w
  by_cases h9 : l = [102, 105, 120]
  · subst h9; exact sdata_fix w
  rw [show Tm.data l = none by simp only [Tm.data, if_neg h0, if_neg h1, if_neg h2, if_neg h3, if_neg h4, if_neg h5, if_neg h6, if_neg h7, if_neg h8, if_neg h9]]
  exact sdata_none w l (beq_eq_false_iff_ne.2 h0) (beq_eq_false_iff_ne.2 h1) (beq_eq_false_iff_ne.2 h2) (beq_eq_false_iff_ne.2 h3) (beq_eq_false_iff_ne.2 h4) (beq_eq_false_iff_ne.2 h5) (beq_eq_false_iff_ne.2 h6) (beq_eq_false_iff_ne.2 h7) (beq_eq_false_iff_ne.2 h8) (beq_eq_false_iff_ne.2 h9)

end Go.Proofs.YtmkmladlpgfniacGreat
