/-
  The model's exported functions TermNames, TermClosed.
-/
import Derived.Test.YtjomocjlnjgkeaaGreatPkAQ
import Derived.Test.YtjomocjlnjgkeaaGreatPkAP
import Derived.Laws.OwnMore
import Derived.Test.YtjomocjlnjgkeaaGreatPkAL
import Derived.Test.YtjomocjlnjgkeaaGreatPkAB
import Derived.Test.YtjomocjlnjgkeaaGreatPkAF
import Derived.Test.YtjomocjlnjgkeaaGreatPkAD
import Derived.Deep.RegionHeld3
namespace Go.Proofs.YtjomocjlnjgkeaaGreat
open Go.RowKit

set_option maxHeartbeats 1000000
set_option maxRecDepth 100000

def SNamesRes (w : World) (r : Option (List (List UInt8))) (e : Ending) (w' : World) : Prop :=
  ∃ sv, e = .returned (.tuple #[sv, .bool r.isSome]) ∧ After w w' ∧ w'.ownsRow w.heap.size 9 1 sv (r.getD []).length ((r.getD []).map str)

theorem own_empty (w : World) : (w.alloc (.cells #[] 9)).ownsRow w.heap.size 9 1 (.slice (some ⟨w.heap.size, 0, none⟩) 0 0) ([] : List (List UInt8)).length (([] : List (List UInt8)).map str) := by
  have := World.ownsRow_lit (base := w.heap.size) (e := 9) (size := 1) w #[] 0 (Nat.le_refl _) (by simp) (by simp)
  simpa using this

end Go.Proofs.YtjomocjlnjgkeaaGreat

namespace Go.Proofs.YtjomocjlnjgkeaaGreat
open Go.RowKit

set_option maxHeartbeats 2000000
set_option maxRecDepth 100000

def lastL : List (List UInt8) → Tm → Tm
  | [], t => t
  | x :: xs, t => if (Tm.abs x t).fits = true then lastL xs (Tm.abs x t) else Tm.abs x t

theorem absL_last : ∀ (xs : List (List UInt8)) {t : Tm}, t.fits = true → absL xs t = if (lastL xs t).fits = true then some (lastL xs t) else none
  | [], t, h => by simp [absL, lastL, h]
  | x :: xs, t, _ => by
    by_cases hf : (Tm.abs x t).fits = true
    · have hl : lastL (x :: xs) t = lastL xs (Tm.abs x t) := by simp [lastL, hf]
      rw [hl]
      simp only [absL, if_pos hf]
      exact absL_last xs hf
    · have hl : lastL (x :: xs) t = Tm.abs x t := by simp [lastL, hf]
      rw [hl, if_neg hf]
      simp [absL, hf]

theorem abs_good (x : List UInt8) : ∀ {t : Tm}, t.good = true → (Tm.abs x t).good = true
  | .k, _ => rfl
  | .s, _ => rfl
  | .nm n, hn => by by_cases he : n = x <;> simp [Tm.abs, he, Tm.I, Tm.good] <;> simpa [Tm.good] using hn
  | .app f a, h => by
    have h' := h
    simp only [Tm.good, Bool.and_eq_true] at h'
    simp only [Tm.abs]
    split
    · simpa [Tm.good] using h'
    · split
      · exact h'.1
      · simp [Tm.good, abs_good x h'.1, abs_good x h'.2]

theorem last_good : ∀ (xs : List (List UInt8)) {t : Tm}, t.good = true → t.fits = true → (lastL xs t).good = true ∧ (lastL xs t).size ≤ 12000
  | [], t, hg, hf => ⟨hg, by have := fits_size hf; simp only [lastL]; omega⟩
  | x :: xs, t, hg, hf => by
    simp only [lastL]
    have hga := abs_good x hg
    have hsz := abs_size x t
    have hfs := fits_size hf
    split
    · rename_i h; exact last_good xs hga h
    · exact ⟨hga, by omega⟩

theorem name_not3 {n : List UInt8} (h : Tm.nameOk n = true) : ([] == n) = false ∧ ([107] == n) = false ∧ ([115] == n) = false := by
  refine ⟨?_, ?_, ?_⟩ <;> (rw [beq_eq_false_iff_ne]; rintro rfl; revert h; decide)

theorem s_all (w : World) (b off cap : Nat) (names : List (List UInt8)) (t : Tm) (s : List UInt8) (ao : Option Addr) (m c : Nat) (h : ST w t (.agg #[str s, .slice ao m c])) (hg : t.good = true) (hf : t.fits = true) (hn : names.length ≤ 8) (h1 : ∀ x ∈ names, Tm.nameOk x = true)
    (hc : ∀ j, j < names.length → w.cell? ⟨b, off + j, none⟩ = some (str (names[j]?.getD []))) :
    Calls Tryz.prog 76 #[.slice (some ⟨b, off, none⟩) names.length cap, .agg #[str s, .slice ao m c]] w (TreePost w (lastL names.reverse t)) := by
  obtain ⟨N, hN⟩ : ∃ N, N = names.length := ⟨_, rfl⟩
  obtain ⟨L, hL⟩ : ∃ L, L = lastL names.reverse t := ⟨_, rfl⟩
  rw [← hN, ← hL]
  rw [← hN] at hn
  have HN := Lib.hid hN
  have HC := Lib.hid hc
  have H1 := Lib.hid h1
  have hstart : Hid (L = lastL (names.reverse.drop 0) t) := by show _ = _; rw [hL]; simp
  have hbox0 := heap_old2 w (.cells #[str s, .slice ao m c] 49) (.cells #[.string ⟨#[]⟩, .slice none 0 0] 49)
  have hres0 := heap_new2 w _ (.cells #[str s, .slice ao m c] 49) (.cells #[.string ⟨#[]⟩, .slice none 0 0] 49) rfl
  have hA0 := (After.new w (.cells #[str s, .slice ao m c] 49)).alloc (.cells #[.string ⟨#[]⟩, .slice none 0 0] 49)
  have HT0 := Lib.hid (h.later hA0)
  have HB0 := Lib.hid hbox0
  have HR0 := Lib.hid hres0
  have HA0 := Lib.hid hA0
  have HG := Lib.hid hg
  have HF := Lib.hid hf
  clear hN hL hc h1 h hg hf hbox0 hres0 hA0
  go_enter Tryz.func76, Tryz.ntmps76
  go_wp2_with fail
  go_loopw [5] (fun i wr => ∃ (k : Nat) (u : Tm) (s : List UInt8) (ao : Option Addr) (m c : Nat), Hid (i = .int .i64 ((N : Int) - 1 - k)) ∧ k ≤ N ∧ Hid (wr.heap[w.heap.size]? = some (.cells #[str s, .slice ao m c] 49 (0, 0))) ∧ Hid (wr.heap[w.heap.size + 1]? = some (.cells #[.string ⟨#[]⟩, .slice none 0 0] 49 (0, 0))) ∧
    Hid (ST wr u (.agg #[str s, .slice ao m c])) ∧ u.good = true ∧ u.fits = true ∧ Hid (After w wr) ∧ Hid (L = lastL (names.reverse.drop k) u)) (fun i _ => (intOf i + 1).toNat)
  case atStart => exact ⟨0, t, s, ao, m, c, by show _ = _; simp, Nat.zero_le _, HB0, HR0, HT0, HG.out, HF.out, HA0, hstart⟩
  case round =>
    clear hstart HB0 HR0 HT0 HA0
    obtain ⟨k, u, s, ao, m, c, hi, hk, hbox, hres, hu, hg, hf, hA, hr⟩ := hrel
    obtain ⟨k0, k1, z2, z3, l1⟩ := pair_facts hbox.out (After.refl _)
    have hfz := fits_size hf
    by_cases hlt : k < N
    · obtain ⟨q, hq⟩ : ∃ q : Nat, q = N - 1 - k := ⟨_, rfl⟩
      have hqi : (N : Int) - 1 - k = (q : Int) := by omega
      have hql : q < N := by omega
      have hqn : q < names.length := by rw [← HN.out]; exact hql
      have hi' := hi.out
      rw [hqi] at hi'
      subst hi'
      have hcx := hA.out.cell (HC.out q hqn)
      have hgd : names[q]?.getD [] = names[q] := by simp [hqn]
      have hdrop : names.reverse.drop k = names[q] :: names.reverse.drop (k + 1) := by
        have hkr : k < names.reverse.length := by simp; rw [← HN.out]; exact hlt
        rw [List.drop_eq_getElem_cons hkr]
        congr 1
        rw [List.getElem_reverse]
        congr 1
        rw [hq, HN.out]
      rw [hdrop, lastL] at hr
      rw [hgd] at hcx
      obtain ⟨n1, n2, n3⟩ := name_not3 (H1.out names[q] (List.getElem_mem hqn))
      have HQ := Lib.hid hq
      have HQI := Lib.hid hqi
      generalize names[q] = x at hcx hr n1 n2 n3
      clear hgd hdrop hq hqi hi
      have hsz := abs_size x u
      have hga := abs_good x hg
      have habs := fun W (hW : After wr W) => (hu.out.later hW).abs x n1 n2 n3 (Tm.plain_good hg) (by omega)
      unfold TreePost at habs
      have hself := After.refl wr
      obtain ⟨fb, hfb⟩ : ∃ fb, fb = (Tm.abs x u).fits := ⟨_, rfl⟩
      rw [← hfb] at hr
      have HFB := Lib.hid hfb
      have HGA := Lib.hid hga
      have HSZ := Lib.hid hsz
      have hq0 : (0 : Int) ≤ (q : Int) := by omega
      clear hfb hga hsz
      cases fb
      all_goals
        go_wp2_with fail
        go_region_with (go_at_call 78; refine (habs _ (by first | exact hself.drew | exact hself)).mono ?_; rintro e w1 ⟨s1, ao1, n1, c1, rfl, hb1, ht1⟩; have HT1 := Lib.hid ht1; clear ht1; have hb1' := After.trans (by first | exact hself.drew | exact hself) hb1; obtain ⟨k0', k1', z2', z3', l1'⟩ := pair_facts hbox.out hb1')
      all_goals
        have hbx1 := hb1'.heap hbox.out
        have hrs1 := hb1'.heap hres.out
        have hbox2 := heap_sets2 (u := str s1) (u' := .slice ao1 n1 c1) hbx1
        have hres2 := (heap_sets2_ne (W := w1) (b := w.heap.size) (c := w.heap.size + 1) (i := 0) (j := 1) (u := str s1) (u' := .slice ao1 n1 c1) (by omega)).trans hrs1
        have hst2 := HT1.out.sets2 hbx1 (u := str s1) (u' := .slice ao1 n1 c1) (i := 0) (j := 1)
        have hfine := hst2.fine HGA.out (by have := HSZ.out; omega)
        rw [← HFB.out] at hfine
        have hA2 : After w ((w1.setCell ⟨w.heap.size, 0, none⟩ (str s1)).setCell ⟨w.heap.size, 1, none⟩ (.slice ao1 n1 c1)) := Below.setCell (Below.setCell (hA.out.trans hb1') (by simp) _) (by simp) _
        obtain ⟨j0, j1, _, _, _⟩ := pair_facts hbox2 (After.refl _)
        have HBX2 := Lib.hid hbox2
        have HRS2 := Lib.hid hres2
        have HST2 := Lib.hid hst2
        have HA2 := Lib.hid hA2
        clear hbx1 hrs1 hbox2 hres2 hst2 hA2
        go_wp2_with fail
        refine hfine.mono ?_
        rintro e w2 ⟨rfl, hb2⟩
        obtain ⟨i0, i1, i2, i3, i4⟩ := pair_facts HBX2.out hb2
        obtain ⟨y0, y1, y2, y3, y4⟩ := pair_facts HRS2.out hb2
        clear hfine j0 j1
        go_wp2_with fail
        first
          | (refine bodyPost_ret (v := .agg #[str s1, .slice ao1 n1 c1]) (by simp [results, Tryz.results76, go_sem, y0, y1]) rfl
               ⟨s1, ao1, n1, c1, rfl, Below.setCell (Below.setCell (HA2.out.trans hb2) (by simp) _) (by simp) _, by rw [hr.out]; exact (HST2.out.later hb2).sets2 (hb2.heap HRS2.out)⟩)
          | (go_roundw
             case rel => exact ⟨k + 1, Tm.abs x u, s1, ao1, n1, c1, by show Value.int .i64 _ = Value.int .i64 _; congr 1; have := HQI.out; push_cast; omega, by omega, hb2.heap HBX2.out, hb2.heap HRS2.out, HST2.out.later hb2, HGA.out, HFB.out.symm, HA2.out.trans hb2, by show _ = _; rw [hr.out]; rfl⟩
             case measure => simp [intOf])
    · obtain rfl : k = N := by omega
      have hi' := hi.out
      rw [show (k : Int) - 1 - k = -1 by omega] at hi'
      subst hi'
      have HL : Hid (L = u) := by show _ = _; rw [hr.out, List.drop_eq_nil_of_le (by simp; rw [← HN.out]; exact Nat.le_refl _)]; rfl
      clear hr hi
      obtain ⟨y0, y1, y2, y3, l2⟩ := pair_facts hres.out (After.refl _)
      go_wp2_with fail
      refine bodyPost_ret (v := .agg #[str s, .slice ao m c]) (by simp [results, Tryz.results76, go_sem, y0, y1]) rfl
        ⟨s, ao, m, c, rfl, Below.setCell (Below.setCell hA.out (by simp) _) (by simp) _, by rw [HL.out]; exact hu.out.sets2 hres.out⟩
end Go.Proofs.YtjomocjlnjgkeaaGreat

namespace Go.Proofs.YtjomocjlnjgkeaaGreat
open Go.RowKit

set_option maxHeartbeats 1000000
set_option maxRecDepth 100000

namespace Tm
/-- A number of at most f digits in decimals. -/
def decs : Nat → Nat → List UInt8
  | 0, _ => []
  | f + 1, n => if n < 10 then [UInt8.ofNat (48 + n)] else decs f (n / 10) ++ [UInt8.ofNat (48 + n % 10)]
theorem decs_len (f n : Nat) : (decs f n).length ≤ f := by
  induction f generalizing n with
  | zero => simp [decs]
  | succ f ih => simp only [decs]; split; · simp
                 have := ih (n / 10); simp; omega
theorem decs_dig (f n : Nat) : (decs f n).all dig = true := by
  induction f generalizing n with
  | zero => rfl
  | succ f ih =>
    have h10 : ∀ m, m < 10 → dig (UInt8.ofNat (48 + m)) = true := by decide +kernel
    simp only [decs]
    split
    · rename_i h; simp only [List.all_cons, List.all_nil, h10 n h, Bool.and_true]
    · simp only [List.all_append, ih (n / 10), List.all_cons, List.all_nil, h10 (n % 10) (by omega), Bool.and_true]
end Tm

/-- A byte as the walk spells it. -/
theorem conv_one (W : World) (c : UInt8) : (convert 22 9 (.slice (some ⟨W.heap.size, 0, none⟩) 1 1)).run Tryz.prog (W.alloc (.cells #[.int .u8 (c.toNat : Int)] 5)) = .ok (str [c]) (W.alloc (.cells #[.int .u8 (c.toNat : Int)] 5)) := by
  have hown : Own (W.alloc (.cells #[.int .u8 (c.toNat : Int)] 5)) W.heap.size (.slice (some ⟨W.heap.size, 0, none⟩) 1 1) [c] := by
    have := World.ownsRow_lit (base := W.heap.size) (e := 5) (size := 1) W #[.int .u8 (c.toNat : Int)] 1 (Nat.le_refl _) (by decide) (by simp)
    unfold Own
    simpa [bcells] using this
  exact run_text hown (by simp)

theorem conv_later (W : World) (g : Nat) (c : UInt8) (h : W.heap[g]? = some (.cells #[.int .u8 (c.toNat : Int)] 5 (0, 0))) : (convert 22 9 (.slice (some ⟨g, 0, none⟩) 1 1)).run Tryz.prog W = .ok (str [c]) W := by
  have hlt := (Array.getElem?_eq_some_iff.1 h).1
  have hown : Own W g (.slice (some ⟨g, 0, none⟩) 1 1) [c] := by
    unfold Own
    unfold World.ownsRow
    exact ⟨by simp [bcells], Or.inr ⟨g, 1, _, rfl, Nat.le_refl _, h, by simp, by decide, rfl, by simp [bcells]⟩⟩
  exact run_text hown (by simp)

theorem dec_any : ∀ (f n : Nat) (w : World), n < 10 ^ (f + 1) → f ≤ 16 →
    Calls Tryz.prog 93 #[.int .i64 n] w fun e w' => e = .returned (str (Tm.decs (f + 1) n)) ∧ After w w' := by
  intro f
  induction f with
  | zero =>
    intro n w hn _
    have hn10 : n < 10 := by simpa using hn
    obtain ⟨c, hc⟩ : ∃ c : UInt8, c = UInt8.ofNat (48 + n) := ⟨_, rfl⟩
    have hcn : (48 + (n : Int)) = (c.toNat : Int) := by
      have : c.toNat = 48 + n := by rw [hc, UInt8.toNat_ofNat']; omega
      omega
    have hr : Tm.decs (0 + 1) n = [c] := by simp [Tm.decs, hn10, hc]
    rw [hr]
    have hconv := conv_one w c
    rw [← hcn] at hconv
    clear hr hcn hc hn
    go_enter Tryz.func93, Tryz.ntmps93
    go_wp2_with fail
    go_ret
    exact ⟨rfl, After.new _ _⟩
  | succ f ih =>
    intro n w hn hf
    by_cases hn10 : n < 10
    · obtain ⟨c, hc⟩ : ∃ c : UInt8, c = UInt8.ofNat (48 + n) := ⟨_, rfl⟩
      have hcn : (48 + (n : Int)) = (c.toNat : Int) := by
        have : c.toNat = 48 + n := by rw [hc, UInt8.toNat_ofNat']; omega
        omega
      have hr : Tm.decs (f + 1 + 1) n = [c] := by simp [Tm.decs, hn10, hc]
      rw [hr]
      have hconv := conv_one w c
      rw [← hcn] at hconv
      clear hr hcn hc hn ih
      go_enter Tryz.func93, Tryz.ntmps93
      go_wp2_with fail
      go_ret
      exact ⟨rfl, After.new _ _⟩
    · have hq : n / 10 < 10 ^ (f + 1) := by rw [Nat.pow_succ] at hn; omega
      have hbig : n < 1000000000000000000 := Nat.lt_of_lt_of_le hn (Nat.le_trans (Nat.pow_le_pow_right (by omega) (show f + 1 + 1 ≤ 18 by omega)) (by decide +kernel))
      have hcall := fun W => ih (n / 10) W hq (by omega)
      obtain ⟨c, hc⟩ : ∃ c : UInt8, c = UInt8.ofNat (48 + n % 10) := ⟨_, rfl⟩
      have hct : c.toNat = 48 + n % 10 := by rw [hc, UInt8.toNat_ofNat']; omega
      have hr : Tm.decs (f + 1 + 1) n = Tm.decs (f + 1) (n / 10) ++ [c] := by
        rw [Tm.decs, if_neg hn10, hc]
      rw [hr]
      have hlen := Tm.decs_len (f + 1) (n / 10)
      generalize Tm.decs (f + 1) (n / 10) = ds at *
      have hadd : ∀ W, (Op.stringOp .add ⟨ds.toArray⟩ ⟨[c].toArray⟩).run Tryz.prog W = .ok (str (ds ++ [c])) W := by
        have h1 : (⟨[c].toArray⟩ : ByteArray).size = 1 := rfl
        have h2 : (⟨ds.toArray⟩ : ByteArray).size = ds.length := by show ds.toArray.size = _; simp
        obtain ⟨t, hl, _, he⟩ := cat ⟨ds.toArray⟩ ⟨[c].toArray⟩ (by omega)
        have : (.string t : Value) = str (ds ++ [c]) := congrArg Value.string (ByteArray.ext (Array.ext' (by rw [hl])))
        rw [← this]; exact he
      have hself := After.refl w
      have hbig' : n < 9000000000000000000 := by omega
      obtain ⟨q, hqq⟩ : ∃ q, q = n / 10 := ⟨_, rfl⟩
      obtain ⟨d, hdd⟩ : ∃ d, d = n % 10 := ⟨_, rfl⟩
      rw [← hqq] at hcall
      have hd10 : d < 10 := by omega
      have e1 : (n : Int).tdiv 10 = (q : Int) := by rw [Int.tdiv_eq_ediv_of_nonneg (by omega)]; omega
      have e2 : (n : Int).tmod 10 = (d : Int) := by rw [Int.tmod_eq_emod_of_nonneg (by omega)]; omega
      have e3 : (n : Int) / 10 = (q : Int) := by omega
      have e4 : (n : Int) % 10 = (d : Int) := by omega
      have e5 : IntKind.i64.wrap (q : Int) = (q : Int) := IntWalk.i64_in _ (by omega)
      have e6 : IntKind.i64.wrap (d : Int) = (d : Int) := IntWalk.i64_in _ (by omega)
      have e7 : IntKind.i64.wrap (c.toNat : Int) = (c.toNat : Int) := IntWalk.i64_in _ (by omega)
      have e8 : (48 + (d : Int)) = (c.toNat : Int) := by rw [hct]; omega
      have e9 : IntKind.u8.wrap (c.toNat : Int) = (c.toNat : Int) := by rw [IntKind.wrap_u8']; omega
      have hn0 : (10 : Int) ≤ (n : Int) := by omega
      have hconv0 := conv_later (w.alloc (.cells #[.int .u8 (c.toNat : Int)] 5)).drew w.heap.size c (heap_new' w _)
      have hl0 : ∀ w1, After (w.alloc (.cells #[.int .u8 (c.toNat : Int)] 5)).drew w1 → (convert 22 9 (.slice (some ⟨w.heap.size, 0, none⟩) 1 1)).run Tryz.prog w1 = .ok (str [c]) w1 := fun w1 h => conv_later w1 _ c (h.heap (w := (w.alloc (.cells #[.int .u8 (c.toNat : Int)] 5)).drew) (heap_new' w _))
      have hl1 := fun w1 : World => conv_one w1 c
      have HL0 := Lib.hid hl0
      clear hc hr hl0 hlen hn hbig hbig' ih hqq hdd hct hd10 hq hn10
      go_enter Tryz.func93, Tryz.ntmps93
      go_wp2_with fail
      go_region_with ((go_at_call 93; refine (hcall _).mono ?_; rintro e w1 ⟨rfl, hb1⟩; have hb1' := After.trans (by first | exact hself.drew | exact (hself.drew).alloc _ | exact (hself.alloc _).drew) hb1; try (have hcv := HL0.out _ hb1)))
      all_goals
        go_wp2_with fail
        go_ret
        first
          | exact ⟨rfl, hb1'⟩
          | exact ⟨rfl, hb1'.alloc _⟩
end Go.Proofs.YtjomocjlnjgkeaaGreat
