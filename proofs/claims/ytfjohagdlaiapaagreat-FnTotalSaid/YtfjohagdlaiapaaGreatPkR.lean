/-
  Numbers in decimals; the model's l6Dec.
-/
import Derived.Test.YtfjohagdlaiapaaGreatPkA
import Derived.Test.YtfjohagdlaiapaaGreatPkB
import Derived.Deep.RegionHeld3
import Derived.BigGuard
import Derived.Test.YtfjohagdlaiapaaGreatPkU
namespace Go.Proofs.YtfjohagdlaiapaaGreat
open Go.RowKit

set_option maxHeartbeats 1000000
set_option maxRecDepth 100000

namespace Tm
/-- A number of at most f digits in decimals. -/
def decs : Nat → Nat → List UInt8
  | 0, _ => []
  | f + 1, n => if n < 10 then [UInt8.ofNat (48 + n)] else decs f (n / 10) ++ [UInt8.ofNat (48 + n % 10)]
theorem decs_len (f n : Nat) : (decs f n).length ≤ f := by
  induction f generalizing n with
  | zero => simp [decs]
  | succ f ih => simp only [decs]; split; · simp
                 have := ih (n / 10); simp; omega
theorem decs_dig (f n : Nat) : (decs f n).all dig = true := by
  induction f generalizing n with
  | zero => rfl
  | succ f ih =>
    have h10 : ∀ m, m < 10 → dig (UInt8.ofNat (48 + m)) = true := by decide +kernel
    simp only [decs]
    split
    · rename_i h; simp only [List.all_cons, List.all_nil, h10 n h, Bool.and_true]
    · simp only [List.all_append, ih (n / 10), List.all_cons, List.all_nil, h10 (n % 10) (by omega), Bool.and_true]
end Tm

/-- A byte as the walk spells it. -/
theorem conv_one (W : World) (c : UInt8) : (convert 22 9 (.slice (some ⟨W.heap.size, 0, none⟩) 1 1)).run Tryz.prog (W.alloc (.cells #[.int .u8 (c.toNat : Int)] 5)) = .ok (str [c]) (W.alloc (.cells #[.int .u8 (c.toNat : Int)] 5)) := by
  have hown : Own (W.alloc (.cells #[.int .u8 (c.toNat : Int)] 5)) W.heap.size (.slice (some ⟨W.heap.size, 0, none⟩) 1 1) [c] := by
    have := World.ownsRow_lit (base := W.heap.size) (e := 5) (size := 1) W #[.int .u8 (c.toNat : Int)] 1 (Nat.le_refl _) (by decide) (by simp)
    unfold Own
    simpa [bcells] using this
  exact run_text hown (by simp)

theorem conv_later (W : World) (g : Nat) (c : UInt8) (h : W.heap[g]? = some (.cells #[.int .u8 (c.toNat : Int)] 5 (0, 0))) : (convert 22 9 (.slice (some ⟨g, 0, none⟩) 1 1)).run Tryz.prog W = .ok (str [c]) W := by
  have hlt := (Array.getElem?_eq_some_iff.1 h).1
  have hown : Own W g (.slice (some ⟨g, 0, none⟩) 1 1) [c] := by
    unfold Own
    unfold World.ownsRow
    exact ⟨by simp [bcells], Or.inr ⟨g, 1, _, rfl, Nat.le_refl _, h, by simp, by decide, rfl, by simp [bcells]⟩⟩
  exact run_text hown (by simp)

theorem dec_any : ∀ (f n : Nat) (w : World), n < 10 ^ (f + 1) → f ≤ 16 →
    Calls Tryz.prog 68 #[.int .i64 n] w fun e w' => e = .returned (str (Tm.decs (f + 1) n)) ∧ After w w' := by
  intro f
  induction f with
  | zero =>
    intro n w hn _
    have hn10 : n < 10 := by simpa using hn
    obtain ⟨c, hc⟩ : ∃ c : UInt8, c = UInt8.ofNat (48 + n) := ⟨_, rfl⟩
    have hcn : (48 + (n : Int)) = (c.toNat : Int) := by
      have : c.toNat = 48 + n := by rw [hc, UInt8.toNat_ofNat']; omega
      omega
    have hr : Tm.decs (0 + 1) n = [c] := by simp [Tm.decs, hn10, hc]
    rw [hr]
    have hconv := conv_one w c
    rw [← hcn] at hconv
    clear hr hcn hc hn
    go_enter Tryz.func68, Tryz.ntmps68
    go_wp2_with fail
    go_ret
    exact ⟨rfl, After.new _ _⟩
  | succ f ih =>
    intro n w hn hf
    by_cases hn10 : n < 10
    · obtain ⟨c, hc⟩ : ∃ c : UInt8, c = UInt8.ofNat (48 + n) := ⟨_, rfl⟩
      have hcn : (48 + (n : Int)) = (c.toNat : Int) := by
        have : c.toNat = 48 + n := by rw [hc, UInt8.toNat_ofNat']; omega
        omega
      have hr : Tm.decs (f + 1 + 1) n = [c] := by simp [Tm.decs, hn10, hc]
      rw [hr]
      have hconv := conv_one w c
      rw [← hcn] at hconv
      clear hr hcn hc hn ih
      go_enter Tryz.func68, Tryz.ntmps68
      go_wp2_with fail
      go_ret
      exact ⟨rfl, After.new _ _⟩
    · have hq : n / 10 < 10 ^ (f + 1) := by rw [Nat.pow_succ] at hn; omega
      have hbig : n < 1000000000000000000 := Nat.lt_of_lt_of_le hn (Nat.le_trans (Nat.pow_le_pow_right (by omega) (show f + 1 + 1 ≤ 18 by omega)) (by decide +kernel))
      have hcall := fun W => ih (n / 10) W hq (by omega)
      obtain ⟨c, hc⟩ : ∃ c : UInt8, c = UInt8.ofNat (48 + n % 10) := ⟨_, rfl⟩
      have hct : c.toNat = 48 + n % 10 := by rw [hc, UInt8.toNat_ofNat']; omega
      have hr : Tm.decs (f + 1 + 1) n = Tm.decs (f + 1) (n / 10) ++ [c] := by
        rw [Tm.decs, if_neg hn10, hc]
      rw [hr]
      have hlen := Tm.decs_len (f + 1) (n / 10)
      generalize Tm.decs (f + 1) (n / 10) = ds at *
      have hadd : ∀ W, (Op.stringOp .add ⟨ds.toArray⟩ ⟨[c].toArray⟩).run Tryz.prog W = .ok (str (ds ++ [c])) W := by
        have h1 : (⟨[c].toArray⟩ : ByteArray).size = 1 := rfl
        have h2 : (⟨ds.toArray⟩ : ByteArray).size = ds.length := by show ds.toArray.size = _; simp
        obtain ⟨t, hl, _, he⟩ := cat ⟨ds.toArray⟩ ⟨[c].toArray⟩ (by omega)
        have : (.string t : Value) = str (ds ++ [c]) := congrArg Value.string (ByteArray.ext (Array.ext' (by rw [hl])))
        rw [← this]; exact he
      have hself := After.refl w
      have hbig' : n < 9000000000000000000 := by omega
      obtain ⟨q, hqq⟩ : ∃ q, q = n / 10 := ⟨_, rfl⟩
      obtain ⟨d, hdd⟩ : ∃ d, d = n % 10 := ⟨_, rfl⟩
      rw [← hqq] at hcall
      have hd10 : d < 10 := by omega
      have e1 : (n : Int).tdiv 10 = (q : Int) := by rw [Int.tdiv_eq_ediv_of_nonneg (by omega)]; omega
      have e2 : (n : Int).tmod 10 = (d : Int) := by rw [Int.tmod_eq_emod_of_nonneg (by omega)]; omega
      have e3 : (n : Int) / 10 = (q : Int) := by omega
      have e4 : (n : Int) % 10 = (d : Int) := by omega
      have e5 : IntKind.i64.wrap (q : Int) = (q : Int) := IntWalk.i64_in _ (by omega)
      have e6 : IntKind.i64.wrap (d : Int) = (d : Int) := IntWalk.i64_in _ (by omega)
      have e7 : IntKind.i64.wrap (c.toNat : Int) = (c.toNat : Int) := IntWalk.i64_in _ (by omega)
      have e8 : (48 + (d : Int)) = (c.toNat : Int) := by rw [hct]; omega
      have e9 : IntKind.u8.wrap (c.toNat : Int) = (c.toNat : Int) := by rw [IntKind.wrap_u8']; omega
      have hn0 : (10 : Int) ≤ (n : Int) := by omega
      have hconv0 := conv_later (w.alloc (.cells #[.int .u8 (c.toNat : Int)] 5)).drew w.heap.size c (heap_new' w _)
      have hl0 : ∀ w1, After (w.alloc (.cells #[.int .u8 (c.toNat : Int)] 5)).drew w1 → (convert 22 9 (.slice (some ⟨w.heap.size, 0, none⟩) 1 1)).run Tryz.prog w1 = .ok (str [c]) w1 := fun w1 h => conv_later w1 _ c (h.heap (w := (w.alloc (.cells #[.int .u8 (c.toNat : Int)] 5)).drew) (heap_new' w _))
      have hl1 := fun w1 : World => conv_one w1 c
      have HL0 := Lib.hid hl0
      clear hc hr hl0 hlen hn hbig hbig' ih hqq hdd hct hd10 hq hn10
      go_enter Tryz.func68, Tryz.ntmps68
      go_wp2_with fail
      go_region_with ((go_at_call 68; refine (hcall _).mono ?_; rintro e w1 ⟨rfl, hb1⟩; have hb1' := After.trans (by first | exact hself.drew | exact (hself.drew).alloc _ | exact (hself.alloc _).drew) hb1; try (have hcv := HL0.out _ hb1)))
      all_goals
        go_wp2_with fail
        go_ret
        first
          | exact ⟨rfl, hb1'⟩
          | exact ⟨rfl, hb1'.alloc _⟩
end Go.Proofs.YtfjohagdlaiapaaGreat

namespace Go.Proofs.YtfjohagdlaiapaaGreat
open Go.RowKit

set_option maxHeartbeats 2000000
set_option maxRecDepth 100000

/-- The name z and a number. -/
def zn (k : Nat) : List UInt8 := 122 :: Tm.decs 4 k

theorem zn_last : Tm.nameOk (zn 1000) = false := by decide +kernel

def FreePost (w : World) (a b : Tm) (e : Ending) (w' : World) : Prop :=
  ∃ k, k ≤ 1000 ∧ e = .returned (str (zn k)) ∧ After w w' ∧ a.uses (zn k) = 0 ∧ b.uses (zn k) = 0

theorem zn_not (k : Nat) : ([107] == zn k) = false ∧ ([115] == zn k) = false ∧ ([] == zn k) = false := by
  refine ⟨?_, ?_, ?_⟩ <;> (rw [beq_eq_false_iff_ne]; simp [zn])

theorem zn_add (k : Nat) (W : World) : (Op.stringOp .add ⟨#[122]⟩ ⟨(Tm.decs 4 k).toArray⟩).run Tryz.prog W = .ok (str (zn k)) W := by
  have hl := Tm.decs_len 4 k
  have h1 : (⟨#[122]⟩ : ByteArray).size = 1 := rfl
  have h2 : (⟨(Tm.decs 4 k).toArray⟩ : ByteArray).size = (Tm.decs 4 k).length := by show (Tm.decs 4 k).toArray.size = _; simp
  obtain ⟨t, hl, _, he⟩ := cat ⟨#[122]⟩ ⟨(Tm.decs 4 k).toArray⟩ (by omega)
  have : (.string t : Value) = str (zn k) := congrArg Value.string (ByteArray.ext (Array.ext' (by rw [hl]; rfl)))
  rw [← this]; exact he W

end Go.Proofs.YtfjohagdlaiapaaGreat

namespace Go.Proofs.YtfjohagdlaiapaaGreat
open Go.RowKit

set_option maxHeartbeats 400000
set_option maxRecDepth 100000

/-- What PairOf answers. -/
def pPair (l m : List UInt8) : Option (List UInt8) := match Tm.parse l, Tm.parse m with
  | some t, some u => if (Tm.pair t u).fits = true then some (Tm.pair t u).text else none
  | _, _ => none

end Go.Proofs.YtfjohagdlaiapaaGreat

namespace Go.Proofs.YtfjohagdlaiapaaGreat
open Go.RowKit

set_option maxHeartbeats 2000000
set_option maxRecDepth 100000

theorem heap_newD (w : World) (o : Obj) : ((w.alloc o).drew).heap[w.heap.size]? = some o := heap_new' w o
theorem heap_old2D (w : World) (o p : Obj) : (((w.alloc o).alloc p).drew).heap[w.heap.size]? = some o := heap_old2 w o p
theorem heap_new2D (w : World) (o p : Obj) : (((w.alloc o).alloc p).drew).heap[w.heap.size + 1]? = some p := heap_new2 w _ o p rfl

theorem after_sets2 {X W : World} {G : Nat} {o : Obj} (h : After X W) (_hG : W.heap[G]? = some o) (hle : X.heap.size ≤ G) (u u' : Value) : After X ((W.setCell ⟨G, 0, none⟩ u).setCell ⟨G, 1, none⟩ u') :=
  Below.setCell (p := ⟨G, 1, none⟩) (Below.setCell (p := ⟨G, 0, none⟩) h hle _) hle _

end Go.Proofs.YtfjohagdlaiapaaGreat

namespace Go.Proofs.YtfjohagdlaiapaaGreat
open Go.RowKit

set_option maxHeartbeats 4000000
set_option maxRecDepth 100000

theorem s_all3 (w : World) (g : Nat) (t : Tm) (s : List UInt8) (ao : Option Addr) (m c : Nat) (h : ST w t (.agg #[str s, .slice ao m c])) (hg : t.good = true) (hf : t.fits = true)
    (hc : w.heap[g]? = some (.cells #[str [120], str [121], str [122]] 9 (0, 0))) :
    Calls Tryz.prog 61 #[.slice (some ⟨g, 0, none⟩) 3 3, .agg #[str s, .slice ao m c]] w (TreePost w (lastL [[122], [121], [120]] t)) :=
  s_all w g 0 3 [[120], [121], [122]] t s ao m c h hg hf (by simp) (by decide +kernel) (fun j hj => by
    have hk := cell_of_heap (i := j) hc
    match j, hj with
    | 0, _ => simpa using hk
    | 1, _ => simpa using hk
    | 2, _ => simpa using hk)

theorem s_all2 (w : World) (g : Nat) (a b : List UInt8) (t : Tm) (s : List UInt8) (ao : Option Addr) (m c : Nat) (h : ST w t (.agg #[str s, .slice ao m c])) (hg : t.good = true) (hf : t.fits = true) (ha : Tm.nameOk a = true) (hb : Tm.nameOk b = true)
    (hc : w.heap[g]? = some (.cells #[str a, str b] 9 (0, 0))) :
    Calls Tryz.prog 61 #[.slice (some ⟨g, 0, none⟩) 2 2, .agg #[str s, .slice ao m c]] w (TreePost w (lastL [b, a] t)) :=
  s_all w g 0 2 [a, b] t s ao m c h hg hf (by simp) (by simp [ha, hb]) (fun j hj => by
    have hk := cell_of_heap (i := j) hc
    match j, hj with
    | 0, _ => simpa using hk
    | 1, _ => simpa using hk)

theorem s_all_pair (w : World) (g : Nat) (s : List UInt8) (ao : Option Addr) (m c : Nat) (h : ST w (.app (.app Tm.Z Tm.X) Tm.Y) (.agg #[str s, .slice ao m c]))
    (hc : w.heap[g]? = some (.cells #[str [120], str [121], str [122]] 9 (0, 0))) :
    Calls Tryz.prog 61 #[.slice (some ⟨g, 0, none⟩) 3 3, .agg #[str s, .slice ao m c]] w (TreePost w Tm.pairC) := by
  have hk := s_all3 w g _ s ao m c h (by decide +kernel) (by kernel_rfl) hc
  rwa [show lastL [[122], [121], [120]] (.app (.app Tm.Z Tm.X) Tm.Y) = Tm.pairC by kernel_rfl] at hk

theorem s_all_half (w : World) (g : Nat) (s : List UInt8) (ao : Option Addr) (m c : Nat) (h : ST w (.app Tm.Y (.app (.app Tm.X Tm.X) Tm.Y)) (.agg #[str s, .slice ao m c]))
    (hc : w.heap[g]? = some (.cells #[str [120], str [121]] 9 (0, 0))) :
    Calls Tryz.prog 61 #[.slice (some ⟨g, 0, none⟩) 2 2, .agg #[str s, .slice ao m c]] w (TreePost w Tm.half) := by
  have hk := s_all2 w g [120] [121] _ s ao m c h (by decide +kernel) (by kernel_rfl) (by decide +kernel) (by decide +kernel) hc
  rwa [show lastL [[121], [120]] (.app Tm.Y (.app (.app Tm.X Tm.X) Tm.Y)) = Tm.half by kernel_rfl] at hk

theorem s_fix (w : World) : Calls Tryz.prog 62 #[] w (TreePost w Tm.fix) := by
  obtain ⟨Y, hY⟩ : ∃ Y, Y = w.alloc (.cells #[.string ⟨#[]⟩, .slice none 0 0] 55) := ⟨_, rfl⟩
  have hAY : After w Y := by rw [hY]; exact After.new _ _
  have hRY : Y.heap[w.heap.size]? = some (.cells #[.string ⟨#[]⟩, .slice none 0 0] 55 (0, 0)) := by rw [hY]; exact heap_new' _ _
  have szY : Y.heap.size = w.heap.size + 1 := by rw [hY]; simp
  have HSZ := Lib.hid szY
  have HAY := Lib.hid hAY
  have HRY := Lib.hid hRY
  have hself := After.refl Y
  have hselfd := hself.drew
  clear szY hAY hRY
  go_enter Tryz.func62, Tryz.ntmps62
  go_wp2_with fail
  rw [← hY]
  clear hY
  have hnew := After.new Y (.cells #[str [120], str [121]] 9)
  have hnam := heap_new' Y (.cells #[str [120], str [121]] 9)
  have HNAM := Lib.hid hnam
  have hn1 := fun W => s_nm W [121]
  have hn2 := fun W => s_nm W [120]
  clear hnam
  refine (hn1 _).mono ?_
  rintro e w1 ⟨rfl, hb1⟩
  go_wp2_with fail
  refine (hn2 _).mono ?_
  rintro e w2 ⟨rfl, hb2⟩
  go_wp2_with fail
  refine (hn2 _).mono ?_
  rintro e w3 ⟨rfl, hb3⟩
  go_wp2_with fail
  refine (hn1 _).mono ?_
  rintro e w4 ⟨rfl, hb4⟩
  have hA4 := ((hb1.trans hb2).trans hb3).trans hb4
  have k5 := s_app2 (w4.alloc (.cells #[str [120], .slice none 0 0, str [121], .slice none 0 0] 55)) Tm.X Tm.X Tm.Y [120] [120] [121] none none none 0 0 0 0 0 0 _ (0, 0) rfl rfl rfl (heap_new' w4 _)
  unfold TreePost at k5
  clear hb1 hb2 hb3 hb4
  go_wp2_with fail
  refine k5.mono ?_
  rintro e w5 ⟨t5, ao5, n5, c5, rfl, hb5, ht5⟩
  have k6 := s_app (w5.alloc (.cells #[str t5, .slice ao5 n5 c5] 55)) Tm.Y (.app (.app Tm.X Tm.X) Tm.Y) [121] t5 none ao5 0 0 n5 c5 _ (0, 0) rfl (ht5.later (After.new _ _)) (heap_new' w5 _)
  unfold TreePost at k6
  have hA5 := (hA4.alloc _).trans hb5
  clear ht5 k5 hb5 hA4
  go_wp2_with fail
  refine k6.mono ?_
  rintro e w6 ⟨t6, ao6, n6, c6, rfl, hb6, ht6⟩
  have hA6 := (hA5.alloc _).trans hb6
  have k7 := s_all_half w6 Y.heap.size t6 ao6 n6 c6 ht6 (hA6.heap HNAM.out)
  unfold TreePost at k7
  rw [HSZ.out] at k7
  clear ht6 k6 hb6 hA5
  go_wp2_with fail
  refine k7.mono ?_
  rintro e w7 ⟨t7, ao7, n7, c7, rfl, hb7, ht7⟩
  have hA7 := hA6.trans hb7
  have hbx := heap_old2 w7 (.cells #[str t7, .slice ao7 n7 c7] 55) (.cells #[str t7, .slice ao7 n7 c7] 55)
  have hb1' := pair_facts (heap_new' w7 (.cells #[str t7, .slice ao7 n7 c7] 55)) (After.refl _)
  obtain ⟨j0, j1, _, _, _⟩ := hb1'
  have hnn := (After.new w7 (.cells #[str t7, .slice ao7 n7 c7] 55)).alloc (.cells #[str t7, .slice ao7 n7 c7] 55)
  have k8 := s_app ((w7.alloc (.cells #[str t7, .slice ao7 n7 c7] 55)).alloc (.cells #[str t7, .slice ao7 n7 c7] 55)) Tm.half Tm.half t7 t7 ao7 ao7 n7 c7 n7 c7 (w7.heap.size + 1) (0, 0) (ht7.later hnn) (ht7.later hnn) (heap_new2 w7 _ _ _ rfl)
  unfold TreePost at k8
  have hAY7 : After Y ((w7.alloc (.cells #[str t7, .slice ao7 n7 c7] 55)).alloc (.cells #[str t7, .slice ao7 n7 c7] 55)) := ((After.new Y _).trans hA7).trans hnn
  clear ht7 k7 hb7 hA6 hA7 hbx hnn
  go_wp2_with fail
  refine k8.mono ?_
  rintro e w8 ⟨t8, ao8, n8, c8, rfl, hb8, ht8⟩
  have HT8 := Lib.hid ht8
  have hS8 := hAY7.trans hb8
  obtain ⟨z0, z1, z2, z3, z4⟩ := pair_facts HRY.out hS8
  clear ht8 k8
  go_wp2_with fail
  refine bodyPost_ret (v := .agg #[str t8, .slice ao8 n8 c8]) (by simp [results, Tryz.results62, go_sem, z0, z1]) rfl
    ⟨t8, ao8, n8, c8, rfl, after_sets2 (HAY.out.trans hS8) (After.heap hS8 HRY.out) (Nat.le_refl _) _ _, HT8.out.sets2 (After.heap hS8 HRY.out)⟩

end Go.Proofs.YtfjohagdlaiapaaGreat
