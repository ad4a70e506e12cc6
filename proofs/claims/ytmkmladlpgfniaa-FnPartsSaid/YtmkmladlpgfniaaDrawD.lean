/-
  The drawing of inputs: pairs, numerals, truth values.
-/
import Derived.Test.YtmkmladlpgfniaaPkDraw
import Derived.Test.YtmkmladlpgfniaaSPair
import Derived.Test.YtmkmladlpgfniaaSData
import Derived.Test.YtmkmladlpgfniaaPkSNum
namespace Go.Proofs.Ytmkmladlpgfniaa
open Go.RowKit

set_option maxHeartbeats 1000000
set_option maxRecDepth 100000

theorem pair_len {l m x : List UInt8} (h : pPair l m = some x) : x.length ≤ 21000 := by
  unfold pPair at h
  cases hp : Tm.parse l with
  | none => rw [hp] at h; simp at h
  | some t =>
    cases hq : Tm.parse m with
    | none => rw [hp, hq] at h; simp at h
    | some u =>
      rw [hp, hq] at h
      simp only at h
      split at h
      · rename_i hf
        obtain rfl := Option.some.inj h
        have hg : (Tm.pair t u).good = true := by rw [Tm.good_pair, (Tm.parse_facts hp).1, (Tm.parse_facts hq).1]; rfl
        have := Tm.text_le _ hg
        have := fits_size hf
        omega
      · cases h

theorem draw_parts (w : World) (v : Value) (n : Nat) (h : CodeArg w v n) : Calls Try.prog 21 #[v] w (DrawPost w) := by
  have hopen := open_any w v n h
  clear h
  go_enter Try.func21, Try.ntmps21
  go_wp2_with fail
  refine hopen.mono ?_
  rintro e w1 ⟨rb, rfl, hr, ha, hd⟩
  have ht := term_any 1 w1 rb 0 1 hd (by omega) (by omega) (by omega) (by omega)
  clear hopen hd
  go_wp2_with fail
  refine ht.mono ?_
  rintro e w2 ⟨s1, q1, rfl, hz1, hq1, hg1, hd1⟩
  have ht2 := term_any 1 w2 rb q1 1 hd1 (by omega) (by omega) (by omega) (by omega)
  clear ht hd1
  go_wp2_with fail
  refine ht2.mono ?_
  rintro e w3 ⟨s2, q2, rfl, hz2, hq2, hg2, hd2⟩
  have ha3 := after_open ha (grown_trans hg1 hg2) hr
  obtain ⟨l1, rfl⟩ : ∃ l : List UInt8, s1 = ⟨l.toArray⟩ := ⟨s1.data.toList, by simp⟩
  obtain ⟨l2, rfl⟩ : ∃ l : List UInt8, s2 = ⟨l.toArray⟩ := ⟨s2.data.toList, by simp⟩
  rw [ssize] at hz1 hz2
  have hpair := spec_pair w3 l1 l2 (by omega) (by omega)
  unfold SNumOne at hpair
  have HD := Lib.hid hd2
  have HA := Lib.hid ha3
  clear ht2 hd2 ha3 hg1 hg2
  cases hp : pPair l1 l2 with
  | none =>
    rw [hp] at hpair
    go_wp2_with fail
    refine hpair.mono ?_
    rintro e w4 ⟨rfl, ha4⟩
    have hodd := odd_any w4 rb q2 (HD.out.after ha4) (by omega)
    clear hpair hp
    go_wp2_with fail
    refine hodd.mono ?_
    rintro e w5 ⟨s, q, rfl, hs, hq, hg, hd⟩
    clear hodd hd
    go_wp2_with fail
    go_ret
    exact ⟨s, rfl, by omega, after_open (HA.out.trans ha4) hg hr⟩
  | some x =>
    rw [hp] at hpair
    have hx := pair_len hp
    go_wp2_with fail
    refine hpair.mono ?_
    rintro e w4 ⟨rfl, ha4⟩
    have hpk := pick_any w4 rb q2 4 (HD.out.after ha4) (by omega) (by decide) (by decide)
    clear hpair hp
    go_wp2_with fail
    refine hpk.mono ?_
    rintro e w5 ⟨k, hk, rfl, hg5, hd5⟩
    have HD5 := Lib.hid hd5
    have ha5 := after_open (HA.out.trans ha4) hg5 hr
    clear hpk hd5
    by_cases hk0 : k = 0
    · subst hk0
      have hodd := odd_any w5 rb (q2 + 1) HD5.out (by omega)
      go_wp2_with fail
      refine hodd.mono ?_
      rintro e w6 ⟨s, q, rfl, hs, hq, hg, hd⟩
      clear hodd hd
      go_wp2_with fail
      go_ret
      exact ⟨s, rfl, by omega, after_open ha5 hg hr⟩
    · have hk1 : (0 : Int) < (k : Int) := by omega
      go_wp2_with fail
      go_ret
      exact ⟨⟨x.toArray⟩, rfl, by rw [ssize]; omega, ha5⟩

theorem num_len (k : Nat) (hk : k ≤ 60) : (Tm.num k).text.length ≤ 5000 := by
  have h1 := Tm.text_le _ (Tm.good_num k)
  have h2 := Tm.size_num k
  omega

theorem pNumber_nat (k : Nat) (hk : k ≤ 60) : pNumber (k : Int) = some (Tm.num k).text := by
  unfold pNumber
  rw [if_pos (by omega)]
  rfl

theorem draw_bit (w : World) (v : Value) (n : Nat) (h : CodeArg w v n) : Calls Try.prog 28 #[v] w (DrawPost w) := by
  have hopen := open_any w v n h
  clear h
  go_enter Try.func28, Try.ntmps28
  go_wp2_with fail
  refine hopen.mono ?_
  rintro e w1 ⟨rb, rfl, hr, ha, hd⟩
  have hp1 := pick_any w1 rb 0 4 hd (by omega) (by decide) (by decide)
  clear hopen hd
  go_wp2_with fail
  refine hp1.mono ?_
  rintro e w2 ⟨k, hk, rfl, hg2, hd2⟩
  have hnum := spec_number w2 (k : Int)
  unfold SNumOne at hnum
  rw [pNumber_nat k (by omega)] at hnum
  have hnl := num_len k (by omega)
  generalize (Tm.num k).text = x at hnum hnl
  clear hp1
  have HD2 := Lib.hid hd2
  clear hd2
  go_wp2_with fail
  refine hnum.mono ?_
  rintro e w3 ⟨rfl, ha3⟩
  have hdat := spec_data w3 [122, 101, 114, 111]
  unfold SNumOne at hdat
  rw [show pData [122, 101, 114, 111] = some Tm.first.text from rfl] at hdat
  have hfl : Tm.first.text.length ≤ 1000 := by decide +kernel
  generalize Tm.first.text = y at hdat hfl
  clear hnum
  go_wp2_with fail
  refine hdat.mono ?_
  rintro e w4 ⟨rfl, ha4⟩
  have hp2 := pick_any w4 rb (0 + 1) 3 ((HD2.out.after ha3).after ha4) (by omega) (by decide) (by decide)
  clear hdat
  go_wp2_with fail
  refine hp2.mono ?_
  rintro e w5 ⟨j, hj, rfl, hg5, hd5⟩
  have HD5 := Lib.hid hd5
  have ha5 := after_open (((after_open ha hg2 hr).trans ha3).trans ha4) hg5 hr
  clear hp2 hd5
  by_cases hj0 : j = 0
  · subst hj0
    have hodd := odd_any w5 rb (0 + 1 + 1) HD5.out (by omega)
    go_wp2_with fail
    refine hodd.mono ?_
    rintro e w6 ⟨s, q, rfl, hs, hq, hg, hd⟩
    clear hodd hd
    go_wp2_with fail
    go_ret
    exact ⟨s, rfl, by omega, after_open ha5 hg hr⟩
  · have hj1 : ((j : Int) == 0) = false := by rw [beq_eq_false_iff_ne]; omega
    have zx := ssize x
    have zy := ssize y
    have q1 : (⟨#[40]⟩ : ByteArray).size = 1 := rfl
    have q2 : (⟨#[32]⟩ : ByteArray).size = 1 := rfl
    have q3 : (⟨#[41]⟩ : ByteArray).size = 1 := rfl
    obtain ⟨c1, z1, e1⟩ := cat2 ⟨#[40]⟩ ⟨y.toArray⟩ (by omega)
    obtain ⟨c2, z2, e2⟩ := cat2 c1 ⟨#[32]⟩ (by omega)
    obtain ⟨c3, z3, e3⟩ := cat2 c2 ⟨x.toArray⟩ (by omega)
    obtain ⟨c4, z4, e4⟩ := cat2 c3 ⟨#[41]⟩ (by omega)
    have hfin : c4.size ≤ 100000 := by omega
    clear zx zy q1 q2 q3 z1 z2 z3 z4
    go_wp2_with fail
    go_ret
    exact ⟨c4, rfl, hfin, ha5⟩

def sgL : List (List UInt8) := [[115, 117, 99, 99], [112, 114, 101, 100]]

theorem draw_numread (w : World) (v : Value) (n : Nat) (h : CodeArg w v n) : Calls Try.prog 25 #[v] w (DrawPost w) := by
  have hopen := open_any w v n h
  clear h
  go_enter Try.func25, Try.ntmps25
  go_wp2_with fail
  refine hopen.mono ?_
  rintro e w1 ⟨rb, rfl, hr, ha, hd⟩
  have hp1 := pick_any w1 rb 0 8 hd (by omega) (by decide) (by decide)
  clear hopen hd
  go_wp2_with fail
  refine hp1.mono ?_
  rintro e w2 ⟨k, hk, rfl, hg2, hd2⟩
  have hnum := spec_number w2 (k : Int)
  unfold SNumOne at hnum
  rw [pNumber_nat k (by omega)] at hnum
  have hnl := num_len k (by omega)
  generalize (Tm.num k).text = x at hnum hnl
  clear hp1
  have HD2 := Lib.hid hd2
  clear hd2
  go_wp2_with fail
  refine hnum.mono ?_
  rintro e w3 ⟨rfl, ha3⟩
  have hd3 := HD2.out.after ha3
  have hlt := hd3.lt
  have hof := of_any (w3.alloc (.cells (sgL.map str).toArray 9)) rb (0 + 1) w3.heap.size (0, 0) sgL (heap_top w3 _) (by decide) (by decide) (by omega) (hd3.after (below_new w3 _)) (by omega)
  have ha3' := (after_open ha hg2 hr).trans ha3
  clear hnum hd3
  go_wp2_with fail
  refine hof.mono ?_
  rintro e w4 ⟨s, hs, rfl, hg4, hd4⟩
  have ha4 := after_open ha3' (grown_new hg4 hlt) hr
  have hdat := spec_data w4 s
  unfold SNumOne at hdat
  obtain ⟨y, hy, hyl⟩ : ∃ y, pData s = some y ∧ y.length ≤ 1000 := by
    simp only [sgL, List.mem_cons, List.not_mem_nil, or_false] at hs
    rcases hs with rfl | rfl
    · exact ⟨Tm.succ.text, rfl, by decide +kernel⟩
    · exact ⟨Tm.pred.text, rfl, by decide +kernel⟩
  rw [hy] at hdat
  have HD4 := Lib.hid hd4
  clear hof hd4 hs hy
  go_wp2_with fail
  refine hdat.mono ?_
  rintro e w5 ⟨rfl, ha5⟩
  have hp2 := pick_any w5 rb (0 + 1 + 1) 5 (HD4.out.after ha5) (by omega) (by decide) (by decide)
  clear hdat
  go_wp2_with fail
  refine hp2.mono ?_
  rintro e w6 ⟨j, hj, rfl, hg6, hd6⟩
  have HD6 := Lib.hid hd6
  have ha6 := after_open (ha4.trans ha5) hg6 hr
  clear hp2 hd6
  have zx := ssize x
  have zy := ssize y
  have q1 : (⟨#[40]⟩ : ByteArray).size = 1 := rfl
  have q2 : (⟨#[32]⟩ : ByteArray).size = 1 := rfl
  have q3 : (⟨#[41]⟩ : ByteArray).size = 1 := rfl
  have q4 : (⟨#[32, 40]⟩ : ByteArray).size = 2 := rfl
  have q5 : (⟨#[41, 41]⟩ : ByteArray).size = 2 := rfl
  by_cases hj0 : j = 0
  · subst hj0
    have hodd := odd_any w6 rb (0 + 1 + 1 + 1) HD6.out (by omega)
    clear zx zy q1 q2 q3 q4 q5
    go_wp2_with fail
    refine hodd.mono ?_
    rintro e w7 ⟨s, q, rfl, hs, hq, hg, hd⟩
    clear hodd hd
    go_wp2_with fail
    go_ret
    exact ⟨s, rfl, by omega, after_open ha6 hg hr⟩
  · have hj1 : ((j : Int) == 0) = false := by rw [beq_eq_false_iff_ne]; omega
    by_cases hj2 : j = 1
    · subst hj2
      clear q1 q2 q3 q4 q5
      go_wp2_with fail
      go_ret
      exact ⟨⟨x.toArray⟩, rfl, by rw [ssize]; omega, ha6⟩
    · have hj3 : ((j : Int) == 1) = false := by rw [beq_eq_false_iff_ne]; omega
      by_cases hj4 : j = 2
      · subst hj4
        obtain ⟨c1, z1, e1⟩ := cat2 ⟨#[40]⟩ ⟨y.toArray⟩ (by omega)
        obtain ⟨c2, z2, e2⟩ := cat2 c1 ⟨#[32, 40]⟩ (by omega)
        obtain ⟨c3, z3, e3⟩ := cat2 c2 ⟨y.toArray⟩ (by omega)
        obtain ⟨c4, z4, e4⟩ := cat2 c3 ⟨#[32]⟩ (by omega)
        obtain ⟨c5, z5, e5⟩ := cat2 c4 ⟨x.toArray⟩ (by omega)
        obtain ⟨c6, z6, e6⟩ := cat2 c5 ⟨#[41, 41]⟩ (by omega)
        have hfin : c6.size ≤ 100000 := by omega
        clear zx zy q1 q2 q3 q4 q5 z1 z2 z3 z4 z5 z6
        go_wp2_with fail
        go_ret
        exact ⟨c6, rfl, hfin, ha6⟩
      · have hj5 : ((j : Int) == 2) = false := by rw [beq_eq_false_iff_ne]; omega
        obtain ⟨c1, z1, e1⟩ := cat2 ⟨#[40]⟩ ⟨y.toArray⟩ (by omega)
        obtain ⟨c2, z2, e2⟩ := cat2 c1 ⟨#[32]⟩ (by omega)
        obtain ⟨c3, z3, e3⟩ := cat2 c2 ⟨x.toArray⟩ (by omega)
        obtain ⟨c4, z4, e4⟩ := cat2 c3 ⟨#[41]⟩ (by omega)
        have hfin : c4.size ≤ 100000 := by omega
        clear zx zy q1 q2 q3 q4 q5 z1 z2 z3 z4
        go_wp2_with fail
        go_ret
        exact ⟨c4, rfl, hfin, ha6⟩
end Go.Proofs.Ytmkmladlpgfniaa
