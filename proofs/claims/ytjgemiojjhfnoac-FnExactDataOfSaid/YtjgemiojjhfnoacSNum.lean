/-
  The model's pairs and numerals: l2Name, l2Pair, l2Number; NumberOf.
-/
import Derived.Test.YtjgemiojjhfnoacSAbs
import Derived.Test.YtjgemiojjhfnoacNum
import Derived.Test.YtjgemiojjhfnoacSRead
namespace Go.Proofs.Ytjgemiojjhfnoac
open Go.RowKit

set_option maxHeartbeats 2000000
set_option maxRecDepth 100000

namespace Tm
theorem abs_none (x : List UInt8) (t : Tm) (h : uses x t = 0) : abs x t = app k t := by
  cases t with
  | nm n => simp only [uses] at h; split at h; · simp at h
            rename_i hn; simp [abs, hn]
  | app f a => simp only [abs, h, if_true]
  | k => rfl
  | s => rfl
theorem isNm_uses (x : List UInt8) (t : Tm) (h : uses x t = 0) : isNm x t = false := by
  cases t with
  | nm n => simp only [uses] at h; split at h; · simp at h
            rename_i hn; simp [isNm, hn]
  | _ => rfl
theorem pair_abs (x : List UInt8) (a b : Tm) (ha : uses x a = 0) (hb : uses x b = 0) : abs x (app (app (nm x) a) b) = pair a b := by
  have h1 : uses x (app (app (nm x) a) b) = 1 := by simp [uses, ha, hb]
  have h2 : uses x (app (nm x) a) = 1 := by simp [uses, ha]
  rw [abs, h1, if_neg (by decide), isNm_uses x b hb, if_neg (by simp), abs_none x b hb, abs, h2, if_neg (by decide), isNm_uses x a ha, if_neg (by simp), abs_none x a ha]
  simp [abs, pair]
theorem uses_bad (x : List UInt8) (hx : nameOk x = false) : ∀ {t : Tm}, good t = true → uses x t = 0
  | nm n, h => by
    simp only [uses]
    split
    · rename_i hn; subst hn; simp only [good] at h; rw [hx] at h; simp at h
    · rfl
  | app f a, h => by simp only [good, Bool.and_eq_true] at h; simp only [uses, uses_bad x hx h.1, uses_bad x hx h.2]
  | k, _ => rfl
  | s, _ => rfl
end Tm

theorem s_nm (w : World) (x : List UInt8) : Calls Try.prog 40 #[str x] w fun e w' => e = .returned (.agg #[str x, .slice none 0 0]) ∧ After w w' := by
  have hA := After.new w (.cells #[str x, .slice none 0 0] 41)
  go_enter Try.func40, Try.ntmps40
  go_wp2_with fail
  exact bodyPost_ret (v := .agg #[str x, .slice none 0 0]) (by simp [results, Try.results40, go_sem]) rfl ⟨rfl, hA⟩

theorem s_pair (w : World) (a b : Tm) (s1 s2 : List UInt8) (ao1 ao2 : Option Addr) (n1 c1 n2 c2 : Nat) (ha : ST w a (.agg #[str s1, .slice ao1 n1 c1])) (hb : ST w b (.agg #[str s2, .slice ao2 n2 c2])) (hga : a.good = true) (hgb : b.good = true) (hz : a.size + b.size ≤ 100000000) :
    Calls Try.prog 65 #[.agg #[str s1, .slice ao1 n1 c1], .agg #[str s2, .slice ao2 n2 c2]] w (TreePost w (Tm.pair a b)) := by
  obtain ⟨z, hz'⟩ : ∃ z : List UInt8, z = [122, 57, 57, 57, 57] := ⟨_, rfl⟩
  have hzb : Tm.nameOk z = false := by rw [hz']; decide
  have hz0 : ([] == z) = false := by rw [hz']; decide
  have hzk : ([107] == z) = false := by rw [hz']; decide
  have hzs : ([115] == z) = false := by rw [hz']; decide
  have hpair := Tm.pair_abs z a b (Tm.uses_bad z hzb hga) (Tm.uses_bad z hzb hgb)
  have hplain : (Tm.app (.app (.nm z) a) b).Plain := ⟨⟨by show z ≠ []; rw [hz']; simp, Tm.plain_good hga⟩, Tm.plain_good hgb⟩
  have habs := fun W v (h : ST W (.app (.app (.nm z) a) b) v) => h.abs z hz0 hzk hzs hplain (by simp [Tm.size]; omega)
  rw [hpair] at habs
  unfold TreePost at habs
  obtain ⟨Y, hY⟩ : ∃ Y, Y = ((w.alloc (.cells #[str s1, .slice ao1 n1 c1] 41)).alloc (.cells #[str s2, .slice ao2 n2 c2] 41)).alloc (.cells #[.string ⟨#[]⟩, .slice none 0 0] 41) := ⟨_, rfl⟩
  have hwY : After w Y := by rw [hY]; exact ((After.new _ _).alloc _).alloc _
  have h1Y : Y.heap[w.heap.size]? = some (.cells #[str s1, .slice ao1 n1 c1] 41 (0, 0)) := by rw [hY]; exact (After.new _ _).heap (heap_old2 _ _ _)
  have h2Y : Y.heap[w.heap.size + 1]? = some (.cells #[str s2, .slice ao2 n2 c2] 41 (0, 0)) := by rw [hY]; exact (After.new _ _).heap (heap_new2 _ _ _ _ rfl)
  have hrY : Y.heap[w.heap.size + 1 + 1]? = some (.cells #[.string ⟨#[]⟩, .slice none 0 0] 41 (0, 0)) := by rw [hY]; exact heap_new3 _ _ _ _
  have p0 : ∀ W, ButFor Y (w.heap.size + 1 + 1) W → W.cell? ⟨w.heap.size, 0, none⟩ = some (str s1) := fun W hW => hW.cell (by omega) (cell_of_heap h1Y)
  have p1 : ∀ W, ButFor Y (w.heap.size + 1 + 1) W → W.cell? ⟨w.heap.size, 1, none⟩ = some (.slice ao1 n1 c1) := fun W hW => hW.cell (by omega) (cell_of_heap h1Y)
  have p2 : ∀ W, ButFor Y (w.heap.size + 1 + 1) W → W.cell? ⟨w.heap.size + 1, 0, none⟩ = some (str s2) := fun W hW => hW.cell (by omega) (cell_of_heap h2Y)
  have p3 : ∀ W, ButFor Y (w.heap.size + 1 + 1) W → W.cell? ⟨w.heap.size + 1, 1, none⟩ = some (.slice ao2 n2 c2) := fun W hW => hW.cell (by omega) (cell_of_heap h2Y)
  have hbf : ButFor Y (w.heap.size + 1 + 1) Y.drew := ⟨Nat.le_refl _, fun _ _ _ => rfl⟩
  have hself := After.refl Y
  have hzres : ∀ W, After Y W → W.cell? ⟨w.heap.size + 1 + 1, 0, none⟩ = some (.string ⟨#[]⟩) ∧ W.cell? ⟨w.heap.size + 1 + 1, 1, none⟩ = some (.slice none 0 0) ∧ W.frozen? ⟨w.heap.size + 1 + 1, 0, none⟩ = false ∧ W.frozen? ⟨w.heap.size + 1 + 1, 1, none⟩ = false := fun W hW => by
    obtain ⟨a1, a2, a3, a4, _⟩ := pair_facts hrY hW
    exact ⟨a1, a2, a3, a4⟩
  have hnm := fun W => s_nm W z
  have HZ := Lib.hid hzres
  have HWY := Lib.hid hwY
  have HRY := Lib.hid hrY
  have HTA := Lib.hid (ha.later hwY)
  have HTB := Lib.hid (hb.later hwY)
  have HAB := Lib.hid habs
  have HZN : Hid (z = [122, 57, 57, 57, 57]) := hz'
  rw [hz'] at hnm
  clear hzres hwY hrY h1Y h2Y ha hb habs hpair hplain hzb hz0 hzk hzs hz'
  go_enter Try.func65, Try.ntmps65
  go_wp2_with fail
  rw [← hY]
  clear hY
  go_region_held3 (fun W' => ButFor Y (w.heap.size + 1 + 1) W') (first | assumption | exact hbf | exact After.butFor (by assumption) | exact ButFor.alloc (by assumption) _ | exact (hbf.alloc _) | exact ButFor.set (ButFor.set (by assumption) _ _) _ _ | go_keep)
    (first
      | (go_at_call 40
         refine (hnm _).mono ?_
         rintro e w3 ⟨rfl, hb3⟩
         have hA3 := After.trans (by first | exact hself.drew | exact hself.drew.alloc _ | exact (hself.alloc _).drew | exact hself.alloc _) hb3)
      | (go_at_call 39
         refine (s_app2 _ (.nm z) a b _ s1 s2 none ao1 ao2 0 0 n1 c1 n2 c2 _ (0, 0) ?_ ?_ ?_ ?_).mono ?_
         · rw [HZN.out]; rfl
         · first
             | exact HTA.out.later (hA3.alloc _)
             | exact HTA.out.later hA3
         · first
             | exact HTB.out.later (hA3.alloc _)
             | exact HTB.out.later hA3
         · first
             | exact heap_new' _ _
             | exact heap_later (heap_top Y.drew _) hb3
             | exact heap_later (w := (Y.alloc _).drew) (heap_top Y _) hb3
         rintro e w4 ⟨t4, ao4, nn4, cc4, rfl, hb4, ht4⟩
         have HT4 := Lib.hid ht4
         clear ht4
         have hA4 := After.trans (by first | assumption | exact hA3.alloc _) hb4)
      | (go_at_call 38
         have hab := HAB.out _ _ HT4.out
         rw [HZN.out] at hab
         refine hab.mono ?_
         rintro e w5 ⟨t5, ao5, nn5, cc5, rfl, hb5, ht5⟩
         have HT5 := Lib.hid ht5
         clear ht5 hab
         have hA5 := After.trans hA4 hb5
         obtain ⟨z0, z1, z2, z3⟩ := HZ.out _ hA5))
  all_goals
    go_wp2_with fail
    refine bodyPost_ret (v := .agg #[str t5, .slice ao5 nn5 cc5]) (by simp [results, Try.results65, go_sem, z0, z1]) rfl ⟨t5, ao5, nn5, cc5, rfl, Below.setCell (Below.setCell (HWY.out.trans hA5) (by show w.heap.size ≤ w.heap.size + 1 + 1; omega) _) (by show w.heap.size ≤ w.heap.size + 1 + 1; omega) _, ?_⟩
    exact HT5.out.sets2 (hA5.heap HRY.out)

theorem s_number (w : World) (n : Nat) (hn : n ≤ 1000000) : Calls Try.prog 47 #[.int .i64 n] w (TreePost w (Tm.num n)) := by
  have hA := After.new w (.cells #[.string ⟨#[]⟩, .slice none 0 0] 41)
  have hres := heap_new' w (.cells #[.string ⟨#[]⟩, .slice none 0 0] 41)
  have hI := s_i (w.alloc (.cells #[.string ⟨#[]⟩, .slice none 0 0] 41))
  unfold TreePost at hI
  have HRES := Lib.hid hres
  clear hres
  go_enter Try.func47, Try.ntmps47
  go_wp2_with fail
  refine hI.mono ?_
  rintro e w1 ⟨t1, ao1, n1, c1, rfl, hb1, ht1⟩
  have hs1 := hb1.size
  have hBX := heap_new' w1 (.cells #[str t1, .slice ao1 n1 c1] 41)
  have hX1 := After.new w1 (.cells #[str t1, .slice ao1 n1 c1] 41)
  have hstart : Hid (ST (w1.alloc (.cells #[str t1, .slice ao1 n1 c1] 41)) (Tm.num 0) (.agg #[str t1, .slice ao1 n1 c1])) := ht1.later hX1
  have hlt1 : w.heap.size < w1.heap.size := by simp at hs1; omega
  clear ht1 hI
  go_wp2_with fail
  go_loopw [4] (fun i wr => ∃ (k : Nat) (s : List UInt8) (ao : Option Addr) (m c : Nat), i = .int .i64 k ∧ k ≤ n ∧ Hid (wr.heap[w1.heap.size]? = some (.cells #[str s, .slice ao m c] 41 (0, 0))) ∧ Hid (wr.heap[w.heap.size]? = some (.cells #[.string ⟨#[]⟩, .slice none 0 0] 41 (0, 0))) ∧
    Hid (ST wr (Tm.num k) (.agg #[str s, .slice ao m c])) ∧ After w wr) (fun i _ => n - (intOf i).toNat)
  case atStart => exact ⟨0, t1, ao1, n1, c1, rfl, Nat.zero_le _, hBX, (hb1.trans hX1).heap HRES.out, hstart, (hA.trans hb1).trans hX1⟩
  case round =>
    clear hstart
    obtain ⟨k, s, ao, m, c, rfl, hk, hbox, hres, ht, hwr⟩ := hrel
    obtain ⟨k0, k1, _, _, l1⟩ := pair_facts hbox.out (After.refl _)
    by_cases hlt : k < n
    · have hgk := Tm.good_num k
      have hzk := Tm.size_num k
      have hpc := fun W a1 s1 n1 c1 (h1 : ST W Tm.no (.agg #[str s1, .slice a1 n1 c1])) (h2 : ST W (Tm.num k) (.agg #[str s, .slice ao m c])) => s_pair W Tm.no (Tm.num k) s1 s a1 ao n1 c1 m c h1 h2 rfl hgk (by rw [hzk]; simp [Tm.no, Tm.I, Tm.size]; omega)
      rw [show Tm.pair Tm.no (Tm.num k) = Tm.num (k + 1) from rfl] at hpc
      have hfa := s_false
      unfold TreePost at hpc hfa
      have HPC := Lib.hid hpc
      have HFA := Lib.hid hfa
      have hself := After.refl wr
      have hlt' : (k : Int) < (n : Int) := by omega
      clear hpc hfa hgk hzk
      go_wp2_with fail
      go_region_with (first
        | (go_at_call 64
           refine (HFA.out _).mono ?_
           rintro e w2 ⟨t2, ao2, n2, c2, rfl, hb2, ht2⟩
           have HT2 := Lib.hid ht2
           clear ht2
           have hA2 := After.trans (by first | exact hself.drew | exact hself) hb2
           obtain ⟨q0, q1, q2, q3, l3⟩ := pair_facts hbox.out hA2)
        | (go_at_call 65
           refine (HPC.out _ _ _ _ _ HT2.out (ht.out.later hA2)).mono ?_
           rintro e w3 ⟨t3, ao3, n3, c3, rfl, hb3, ht3⟩
           have HT3 := Lib.hid ht3
           clear ht3
           have hA3 := hA2.trans hb3
           obtain ⟨r0, r1, r2, r3, l4⟩ := pair_facts hbox.out hA3))
      all_goals
        go_wp2_with fail
        go_roundw
        case rel =>
          have hbox3 := hA3.heap hbox.out
          have hres3 := hA3.heap hres.out
          exact ⟨k + 1, t3, ao3, n3, c3, by go_num, by omega, heap_sets2 hbox3, by show _ = _; rw [heap_sets2_ne (by omega)]; exact hres3, HT3.out.sets2 hbox3, Below.setCell (Below.setCell (hwr.trans hA3) (by simp; omega) _) (by simp; omega) _⟩
        case measure => simp [intOf]; omega
    · obtain rfl : k = n := by omega
      obtain ⟨z0, z1, z2, z3, l2⟩ := pair_facts hres.out (After.refl _)
      go_wp2_with fail
      refine bodyPost_ret (v := .agg #[str s, .slice ao m c]) (by simp [results, Try.results47, go_sem, z0, z1]) rfl
        ⟨s, ao, m, c, rfl, Below.setCell (Below.setCell hwr (by simp) _) (by simp) _, ht.out.sets2 hres.out⟩

def SNumOne (w : World) (r : Option (List UInt8)) (e : Ending) (w' : World) : Prop :=
  e = .returned (.tuple #[str (r.getD []), .bool r.isSome]) ∧ After w w'

theorem spec_number (w : World) (n : Int) : Calls Try.prog 20 #[.int .i64 n] w (SNumOne w (pNumber n)) := by
  have hin := in_any w n 0 60
  unfold pNumber
  by_cases hr : 0 ≤ n ∧ n ≤ 60
  · rw [show decide ((0 : Int) ≤ n ∧ n ≤ 60) = true by simpa using hr] at hin
    obtain ⟨k, rfl⟩ : ∃ k : Nat, n = k := ⟨n.toNat, by omega⟩
    simp only [show (0 : Int) ≤ (k : Int) ∧ (k : Int) ≤ 60 by omega, and_self, if_true, Int.toNat_natCast]
    have hk60 : k ≤ 60 := by omega
    have hcall := s_number w k (by omega)
    have hg := Tm.good_num k
    have hz := Tm.size_num k
    have htl := Tm.text_le _ hg
    have hd := Tm.depth_lt (Tm.num k)
    unfold TreePost at hcall
    generalize Tm.num k = t at *
    clear hr
    go_enter Try.func20, Try.ntmps20
    go_wp2_with (go_at_call 46; refine hin.mono ?_; rintro e w' ⟨rfl, rfl⟩)
    refine hcall.mono ?_
    rintro e w1 ⟨t1, ao1, n1, c1, rfl, hb1, ht1⟩
    have htext := ht1.text hg (by omega)
    clear ht1
    go_wp2_with (go_at_call 29; refine htext.mono ?_; rintro e w2 ⟨rfl, hb2⟩)
    go_ret2
    exact ⟨rfl, hb1.trans hb2⟩
  · rw [show decide ((0 : Int) ≤ n ∧ n ≤ 60) = false by simpa using hr] at hin
    simp only [if_neg hr]
    clear hr
    go_enter Try.func20, Try.ntmps20
    go_wp2_with (go_at_call 46; refine hin.mono ?_; rintro e w' ⟨rfl, rfl⟩)
    go_ret2
    exact ⟨rfl, After.refl _⟩

theorem law_number (w : World) (n : Int) (_hn : (Lit.int .i64 n).wf = true) :
    Calls Try.prog 7 #[.int .i64 n] w fun e w' => e = .returned (.bool true) ∧ After w w' := by
  have hs := fun W => spec_number W n
  have hi := fun W => impl_number W n
  unfold SNumOne at hs
  unfold NumOne at hi
  generalize (pNumber n).getD [] = x at *
  generalize (pNumber n).isSome = b at *
  go_enter Try.func7, Try.ntmps7
  cases b
  all_goals
    go_wp2_with (first
      | (go_at_call 20; refine (hs _).mono ?_; rintro e w1 ⟨rfl, hb1⟩)
      | (go_at_call 21; refine (hi _).mono ?_; rintro e w2 ⟨rfl, hb2⟩))
    go_ret
    exact ⟨rfl, After.trans hb1 hb2⟩
end Go.Proofs.Ytjgemiojjhfnoac
