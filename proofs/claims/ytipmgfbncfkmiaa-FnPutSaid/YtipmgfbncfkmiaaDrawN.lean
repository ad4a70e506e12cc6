/-
  The drawing of inputs: terms, names, numbers for more promises of chapters 1 and 2.
-/
import Derived.Test.YtipmgfbncfkmiaaPkD
import Derived.Test.YtipmgfbncfkmiaaPromN
import Derived.Test.YtipmgfbncfkmiaaPkE
import Derived.Test.YtipmgfbncfkmiaaPkU
namespace Go.Proofs.Ytipmgfbncfkmiaa
open Go.RowKit

set_option maxHeartbeats 1000000
set_option maxRecDepth 100000

/-- Two texts. -/
def DrawTwo (w : World) (e : Ending) (w' : World) : Prop := ∃ l m : List UInt8, e = .returned (.tuple #[str l, str m]) ∧ l.length ≤ 100000 ∧ m.length ≤ 100000 ∧ After w w'

theorem step_len {l x : List UInt8} (h : Tm.pStep l = some x) : x.length ≤ 21000 := by
  unfold Tm.pStep at h
  cases hp : Tm.parse l with
  | none => rw [hp] at h; cases h
  | some t =>
    rw [hp] at h
    obtain ⟨rfl, hg, hf⟩ := parse_text_iff hp
    simp only [Option.map_eq_some_iff] at h
    obtain ⟨u, hu, rfl⟩ := h
    unfold Tm.stepFit at hu
    cases hs : Tm.step t with
    | none => rw [hs] at hu; cases hu
    | some v =>
      rw [hs] at hu
      simp only at hu
      split at hu
      · rename_i hfv
        obtain rfl := Option.some.inj hu
        exact (Tm.parse_facts (Tm.parse_text (Tm.step_good hs hg) hfv)).2.2.2.2
      · cases hu

theorem draw_size (w : World) (v : Value) (n : Nat) (h : CodeArg w v n) : Calls Try.prog 15 #[v] w (DrawPost w) := by
  have hopen := open_any w v n h
  clear h
  go_enter Try.func15, Try.ntmps15
  go_wp2_with fail
  refine hopen.mono ?_
  rintro e w1 ⟨rb, rfl, hr, ha, hd⟩
  have hodd := odd_any w1 rb 0 hd (by omega)
  clear hopen hd
  go_wp2_with fail
  refine hodd.mono ?_
  rintro e w2 ⟨s, q, rfl, hs, hq, hg, hd⟩
  clear hodd
  clear hd
  go_wp2_with fail
  go_ret
  exact ⟨s, rfl, by omega, after_open ha hg hr⟩

theorem draw_names (w : World) (v : Value) (n : Nat) (h : CodeArg w v n) : Calls Try.prog 21 #[v] w (DrawPost w) := by
  have hopen := open_any w v n h
  clear h
  go_enter Try.func21, Try.ntmps21
  go_wp2_with fail
  refine hopen.mono ?_
  rintro e w1 ⟨rb, rfl, hr, ha, hd⟩
  have hodd := odd_any w1 rb 0 hd (by omega)
  clear hopen hd
  go_wp2_with fail
  refine hodd.mono ?_
  rintro e w2 ⟨s, q, rfl, hs, hq, hg, hd⟩
  clear hodd
  clear hd
  go_wp2_with fail
  go_ret
  exact ⟨s, rfl, by omega, after_open ha hg hr⟩

theorem draw_step (w : World) (v : Value) (n : Nat) (h : CodeArg w v n) : Calls Try.prog 28 #[v] w (DrawPost w) := by
  have hopen := open_any w v n h
  clear h
  go_enter Try.func28, Try.ntmps28
  go_wp2_with fail
  refine hopen.mono ?_
  rintro e w1 ⟨rb, rfl, hr, ha, hd⟩
  have hodd := odd_any w1 rb 0 hd (by omega)
  clear hopen hd
  go_wp2_with fail
  refine hodd.mono ?_
  rintro e w2 ⟨s, q, rfl, hs, hq, hg, hd⟩
  clear hodd
  clear hd
  go_wp2_with fail
  go_ret
  exact ⟨s, rfl, by omega, after_open ha hg hr⟩

theorem draw_normof (w : World) (v : Value) (n : Nat) (h : CodeArg w v n) : Calls Try.prog 37 #[v] w (DrawPost w) := by
  have hopen := open_any w v n h
  clear h
  go_enter Try.func37, Try.ntmps37
  go_wp2_with fail
  refine hopen.mono ?_
  rintro e w1 ⟨rb, rfl, hr, ha, hd⟩
  have hodd := odd_any w1 rb 0 hd (by omega)
  clear hopen hd
  go_wp2_with fail
  refine hodd.mono ?_
  rintro e w2 ⟨s, q, rfl, hs, hq, hg, hd⟩
  clear hodd
  clear hd
  go_wp2_with fail
  go_ret
  exact ⟨s, rfl, by omega, after_open ha hg hr⟩

def badNm : List (List UInt8) := [[], [107], [97], [120, 49, 50, 51, 52]]
def okNm : List (List UInt8) := [[120], [121], [122, 49], [117]]
def zNm : List (List UInt8) := [[122, 48], [122], [40, 122, 48, 32, 122, 49, 41]]

theorem name_any (w : World) (rb p : Nat) (h : Dr w rb p) (hp : p ≤ 900000) :
    Calls Try.prog 74 #[.pointer (some ⟨rb, 0, none⟩)] w (StrPost w rb p 1000 200) := by
  have hp1 := pick_any w rb p 16 h (by omega) (by decide) (by decide)
  clear h
  go_enter Try.func74, Try.ntmps74
  go_wp2_with fail
  refine hp1.mono ?_
  rintro e w1 ⟨k, hk, rfl, hg1, hd1⟩
  have hlt := hd1.lt
  have HD1 := Lib.hid hd1
  clear hd1 hp1
  by_cases hk0 : k = 0
  · subst hk0
    have hof := of_any (w1.alloc (.cells ((badNm).map str).toArray 9)) rb (p + 1) w1.heap.size (0, 0) badNm (heap_top w1 _) (by decide) (by decide) (by omega) (HD1.out.after (below_new w1 _)) (by omega)
    have HL := Lib.hid (show ∀ s ∈ badNm, s.length ≤ 1000 by decide)
    go_wp2_with fail
    refine hof.mono ?_
    rintro e w2 ⟨s, hs, rfl, hg2, hd2⟩
    have HD := Lib.hid hd2
    have HS := Lib.hid hs
    clear hd2 hof hs
    go_wp2_with fail
    go_ret
    exact ⟨⟨s.toArray⟩, p + 1 + 1, rfl, by rw [ssize]; exact HL.out s HS.out, by omega, grown_trans hg1 (grown_new hg2 hlt), HD.out⟩
  · have hk1 : ((k : Int) == 0) = false := by rw [beq_eq_false_iff_ne]; omega
    have hof := of_any (w1.alloc (.cells ((okNm).map str).toArray 9)) rb (p + 1) w1.heap.size (0, 0) okNm (heap_top w1 _) (by decide) (by decide) (by omega) (HD1.out.after (below_new w1 _)) (by omega)
    have HL := Lib.hid (show ∀ s ∈ okNm, s.length ≤ 1000 by decide)
    go_wp2_with fail
    refine hof.mono ?_
    rintro e w2 ⟨s, hs, rfl, hg2, hd2⟩
    have HD := Lib.hid hd2
    have HS := Lib.hid hs
    clear hd2 hof hs
    go_wp2_with fail
    go_ret
    exact ⟨⟨s.toArray⟩, p + 1 + 1, rfl, by rw [ssize]; exact HL.out s HS.out, by omega, grown_trans hg1 (grown_new hg2 hlt), HD.out⟩

theorem draw_apply (w : World) (v : Value) (n : Nat) (h : CodeArg w v n) : Calls Try.prog 39 #[v] w (DrawTwo w) := by
  have hopen := open_any w v n h
  clear h
  go_enter Try.func39, Try.ntmps39
  go_wp2_with fail
  refine hopen.mono ?_
  rintro e w1 ⟨rb, rfl, hr, ha, hd⟩
  have hodd := odd_any w1 rb 0 hd (by omega)
  clear hopen hd
  go_wp2_with fail
  refine hodd.mono ?_
  rintro e w2 ⟨s, q, rfl, hs, hq, hg, hd⟩
  clear hodd
  obtain ⟨l, rfl⟩ : ∃ l : List UInt8, s = ⟨l.toArray⟩ := ⟨s.data.toList, by simp⟩
  rw [ssize] at hs
  have hodd2 := odd_any w2 rb q hd (by omega)
  clear hd
  go_wp2_with fail
  refine hodd2.mono ?_
  rintro e w3 ⟨s2, q2, rfl, hs2, hq2, hg2, hd2⟩
  obtain ⟨l2, rfl⟩ : ∃ l : List UInt8, s2 = ⟨l.toArray⟩ := ⟨s2.data.toList, by simp⟩
  rw [ssize] at hs2
  clear hodd2 hd2
  go_wp2_with fail
  go_ret2
  exact ⟨l, l2, rfl, by omega, by omega, after_open ha (grown_trans hg hg2) hr⟩

theorem draw_put (w : World) (v : Value) (n : Nat) (h : CodeArg w v n) : Calls Try.prog 25 #[v] w fun e w' => ∃ l m k : List UInt8, e = .returned (.tuple #[str l, str m, str k]) ∧ l.length ≤ 100000 ∧ m.length ≤ 100000 ∧ k.length ≤ 100000 ∧ After w w' := by
  have hopen := open_any w v n h
  clear h
  go_enter Try.func25, Try.ntmps25
  go_wp2_with fail
  refine hopen.mono ?_
  rintro e w1 ⟨rb, rfl, hr, ha, hd⟩
  have hodd := odd_any w1 rb 0 hd (by omega)
  clear hopen hd
  go_wp2_with fail
  refine hodd.mono ?_
  rintro e w2 ⟨s, q, rfl, hs, hq, hg, hd⟩
  clear hodd
  obtain ⟨l, rfl⟩ : ∃ l : List UInt8, s = ⟨l.toArray⟩ := ⟨s.data.toList, by simp⟩
  rw [ssize] at hs
  have hnm := name_any w2 rb q hd (by omega)
  clear hd
  go_wp2_with fail
  refine hnm.mono ?_
  rintro e w3 ⟨s2, q2, rfl, hs2, hq2, hg2, hd2⟩
  obtain ⟨l2, rfl⟩ : ∃ l : List UInt8, s2 = ⟨l.toArray⟩ := ⟨s2.data.toList, by simp⟩
  rw [ssize] at hs2
  have hodd2 := odd_any w3 rb q2 hd2 (by omega)
  clear hnm hd2
  go_wp2_with fail
  refine hodd2.mono ?_
  rintro e w4 ⟨s3, q3, rfl, hs3, hq3, hg3, hd3⟩
  obtain ⟨l3, rfl⟩ : ∃ l : List UInt8, s3 = ⟨l.toArray⟩ := ⟨s3.data.toList, by simp⟩
  rw [ssize] at hs3
  clear hodd2 hd3
  go_wp2_with fail
  go_ret3
  exact ⟨l, l2, l3, rfl, by omega, by omega, by omega, after_open ha (grown_trans (grown_trans hg hg2) hg3) hr⟩

theorem draw_pairof (w : World) (v : Value) (n : Nat) (h : CodeArg w v n) : Calls Try.prog 45 #[v] w (DrawTwo w) := by
  have hopen := open_any w v n h
  clear h
  go_enter Try.func45, Try.ntmps45
  go_wp2_with fail
  refine hopen.mono ?_
  rintro e w1 ⟨rb, rfl, hr, ha, hd⟩
  have hodd := odd_any w1 rb 0 hd (by omega)
  clear hopen hd
  go_wp2_with fail
  refine hodd.mono ?_
  rintro e w2 ⟨s, q, rfl, hs, hq, hg, hd⟩
  clear hodd
  obtain ⟨l, rfl⟩ : ∃ l : List UInt8, s = ⟨l.toArray⟩ := ⟨s.data.toList, by simp⟩
  rw [ssize] at hs
  have hp := pick_any w2 rb q 8 hd (by omega) (by decide) (by decide)
  clear hd
  go_wp2_with fail
  refine hp.mono ?_
  rintro e w3 ⟨k, hk, rfl, hg3, hd3⟩
  have hlt := hd3.lt
  have HD3 := Lib.hid hd3
  clear hp hd3
  by_cases hk0 : k = 0
  · subst hk0
    have hof := of_any (w3.alloc (.cells ((zNm).map str).toArray 9)) rb (q + 1) w3.heap.size (0, 0) zNm (heap_top w3 _) (by decide) (by decide) (by omega) (HD3.out.after (below_new w3 _)) (by omega)
    have HL := Lib.hid (show ∀ s ∈ zNm, s.length ≤ 1000 by decide)
    go_wp2_with fail
    refine hof.mono ?_
    rintro e w4 ⟨s2, hs2, rfl, hg4, hd4⟩
    have HS := Lib.hid hs2
    clear hd4 hof hs2
    go_wp2_with fail
    go_ret2
    exact ⟨l, s2, rfl, by omega, by have := HL.out s2 HS.out; omega, after_open ha (grown_trans (grown_trans hg hg3) (grown_new hg4 hlt)) hr⟩
  · have hk1 : ((k : Int) == 0) = false := by rw [beq_eq_false_iff_ne]; omega
    have hodd2 := odd_any w3 rb (q + 1) HD3.out (by omega)
    go_wp2_with fail
    refine hodd2.mono ?_
    rintro e w4 ⟨s2, q2, rfl, hs2, hq2, hg4, hd4⟩
    obtain ⟨l2, rfl⟩ : ∃ l : List UInt8, s2 = ⟨l.toArray⟩ := ⟨s2.data.toList, by simp⟩
    rw [ssize] at hs2
    clear hodd2 hd4
    go_wp2_with fail
    go_ret2
    exact ⟨l, l2, rfl, by omega, by omega, after_open ha (grown_trans (grown_trans hg hg3) hg4) hr⟩

theorem draw_equal (w : World) (v : Value) (n : Nat) (h : CodeArg w v n) : Calls Try.prog 42 #[v] w (DrawTwo w) := by
  have hopen := open_any w v n h
  clear h
  go_enter Try.func42, Try.ntmps42
  go_wp2_with fail
  refine hopen.mono ?_
  rintro e w1 ⟨rb, rfl, hr, ha, hd⟩
  have hodd := odd_any w1 rb 0 hd (by omega)
  clear hopen hd
  go_wp2_with fail
  refine hodd.mono ?_
  rintro e w2 ⟨s, q, rfl, hs, hq, hg, hd⟩
  clear hodd
  obtain ⟨l, rfl⟩ : ∃ l : List UInt8, s = ⟨l.toArray⟩ := ⟨s.data.toList, by simp⟩
  rw [ssize] at hs
  have hst := spec_step w2 l (by omega)
  unfold SText at hst
  have HD := Lib.hid hd
  have hlt := hd.lt
  clear hd
  cases hp : Tm.pStep l with
  | none =>
    simp only [hp, Option.getD_none, Option.isSome_none] at hst
    clear hp
    go_wp2_with fail
    refine hst.mono ?_
    rintro e w3 ⟨rfl, ha3⟩
    have hodd2 := odd_any w3 rb q (HD.out.after ha3) (by omega)
    clear hst
    go_wp2_with fail
    refine hodd2.mono ?_
    rintro e w4 ⟨s2, q2, rfl, hs2, hq2, hg4, hd4⟩
    obtain ⟨l2, rfl⟩ : ∃ l : List UInt8, s2 = ⟨l.toArray⟩ := ⟨s2.data.toList, by simp⟩
    rw [ssize] at hs2
    clear hodd2 hd4
    go_wp2_with fail
    go_ret2
    exact ⟨l, l2, rfl, by omega, by omega, after_open ((after_open ha hg hr).trans ha3) hg4 hr⟩
  | some x =>
    have hx := step_len hp
    simp only [hp, Option.getD_some, Option.isSome_some] at hst
    clear hp
    go_wp2_with fail
    refine hst.mono ?_
    rintro e w3 ⟨rfl, ha3⟩
    have hpk := pick_any w3 rb q 3 (HD.out.after ha3) (by omega) (by decide) (by decide)
    clear hst
    go_wp2_with fail
    refine hpk.mono ?_
    rintro e w4 ⟨k, hk, rfl, hg4, hd4⟩
    have HD4 := Lib.hid hd4
    clear hpk hd4
    by_cases hk0 : k = 0
    · subst hk0
      have hodd2 := odd_any w4 rb (q + 1) HD4.out (by omega)
      go_wp2_with fail
      refine hodd2.mono ?_
      rintro e w5 ⟨s2, q2, rfl, hs2, hq2, hg5, hd5⟩
      obtain ⟨l2, rfl⟩ : ∃ l : List UInt8, s2 = ⟨l.toArray⟩ := ⟨s2.data.toList, by simp⟩
      rw [ssize] at hs2
      clear hodd2 hd5
      go_wp2_with fail
      go_ret2
      exact ⟨l, l2, rfl, by omega, by omega, after_open ((after_open ha hg hr).trans ha3) (grown_trans hg4 hg5) hr⟩
    · have hk1 : (0 : Int) < (k : Int) := by omega
      go_wp2_with fail
      go_ret2
      exact ⟨l, x, rfl, by omega, by omega, after_open ((after_open ha hg hr).trans ha3) hg4 hr⟩

theorem draw_normal (w : World) (v : Value) (n : Nat) (h : CodeArg w v n) : Calls Try.prog 35 #[v] w (TextPost w) := by
  have hopen := open_any w v n h
  clear h
  go_enter Try.func35, Try.ntmps35
  go_wp2_with fail
  refine hopen.mono ?_
  rintro e w1 ⟨rb, rfl, hr, ha, hd⟩
  have hodd := odd_any w1 rb 0 hd (by omega)
  clear hopen hd
  go_wp2_with fail
  refine hodd.mono ?_
  rintro e w2 ⟨s, q, rfl, hs, hq, hg, hd⟩
  clear hodd
  obtain ⟨l, rfl⟩ : ∃ l : List UInt8, s = ⟨l.toArray⟩ := ⟨s.data.toList, by simp⟩
  rw [ssize] at hs
  have hst := spec_norm w2 l (by omega)
  unfold SNum at hst
  have HD := Lib.hid hd
  clear hd
  cases hp : Tm.pNorm l with
  | none =>
    simp only [hp, Option.map_none, Option.getD_none, Option.isSome_none] at hst
    clear hp
    go_wp2_with fail
    refine hst.mono ?_
    rintro e w3 ⟨rfl, ha3⟩
    clear hst
    go_wp2_with fail
    go_ret
    exact ⟨l, rfl, by omega, (after_open ha hg hr).trans ha3⟩
  | some x =>
    obtain ⟨x, i⟩ := x
    have hx := (Tm.normof_facts hp).2.2.2
    simp only [hp, Option.map_some, Option.getD_some, Option.isSome_some] at hst
    clear hp
    go_wp2_with fail
    refine hst.mono ?_
    rintro e w3 ⟨rfl, ha3⟩
    have hpk := pick_any w3 rb q 2 (HD.out.after ha3) (by omega) (by decide) (by decide)
    clear hst
    go_wp2_with fail
    refine hpk.mono ?_
    rintro e w4 ⟨k, hk, rfl, hg4, hd4⟩
    clear hpk hd4
    by_cases hk0 : k = 0
    · subst hk0
      go_wp2_with fail
      go_ret
      exact ⟨x, rfl, by omega, after_open ((after_open ha hg hr).trans ha3) hg4 hr⟩
    · have hk1 : ((k : Int) == 0) = false := by rw [beq_eq_false_iff_ne]; omega
      go_wp2_with fail
      go_ret
      exact ⟨l, rfl, by omega, after_open ((after_open ha hg hr).trans ha3) hg4 hr⟩

theorem draw_many (w : World) (v : Value) (n : Nat) (h : CodeArg w v n) : Calls Try.prog 32 #[v] w fun e w' => ∃ (l : List UInt8) (z : Int), e = .returned (.tuple #[str l, .int .i64 z]) ∧ l.length ≤ 100000 ∧ z ≤ 11 ∧ -12 ≤ z ∧ After w w' := by
  have hopen := open_any w v n h
  clear h
  go_enter Try.func32, Try.ntmps32
  go_wp2_with fail
  refine hopen.mono ?_
  rintro e w1 ⟨rb, rfl, hr, ha, hd⟩
  have hodd := odd_any w1 rb 0 hd (by omega)
  clear hopen hd
  go_wp2_with fail
  refine hodd.mono ?_
  rintro e w2 ⟨s, q, rfl, hs, hq, hg, hd⟩
  clear hodd
  obtain ⟨l, rfl⟩ : ∃ l : List UInt8, s = ⟨l.toArray⟩ := ⟨s.data.toList, by simp⟩
  rw [ssize] at hs
  have hpk := pick_any w2 rb q 12 hd (by omega) (by decide) (by decide)
  clear hd
  go_wp2_with fail
  refine hpk.mono ?_
  rintro e w3 ⟨k, hk, rfl, hg3, hd3⟩
  have hpk2 := pick_any w3 rb (q + 1) 20 hd3 (by omega) (by decide) (by decide)
  clear hpk hd3
  go_wp2_with fail
  refine hpk2.mono ?_
  rintro e w4 ⟨j, hj, rfl, hg4, hd4⟩
  clear hpk2 hd4
  go_wp2_with fail
  go_ret2
  exact ⟨l, _, rfl, by omega, by omega, by omega, after_open ha (grown_trans (grown_trans hg hg3) hg4) hr⟩

theorem draw_number (w : World) (v : Value) (n : Nat) (h : CodeArg w v n) : Calls Try.prog 50 #[v] w fun e w' => ∃ z : Int, e = .returned (.int .i64 z) ∧ After w w' := by
  have hopen := open_any w v n h
  clear h
  go_enter Try.func50, Try.ntmps50
  go_wp2_with fail
  refine hopen.mono ?_
  rintro e w1 ⟨rb, rfl, hr, ha, hd⟩
  have hp1 := pick_any w1 rb 0 12 hd (by omega) (by decide) (by decide)
  clear hopen hd
  go_wp2_with fail
  refine hp1.mono ?_
  rintro e w2 ⟨k, hk, rfl, hg2, hd2⟩
  have hp2 := pick_any w2 rb (0 + 1) 20 hd2 (by omega) (by decide) (by decide)
  clear hp1 hd2
  go_wp2_with fail
  refine hp2.mono ?_
  rintro e w3 ⟨j, hj, rfl, hg3, hd3⟩
  have hp3 := pick_any w3 rb (0 + 1 + 1) 20 hd3 (by omega) (by decide) (by decide)
  clear hp2 hd3
  go_wp2_with fail
  refine hp3.mono ?_
  rintro e w4 ⟨i, hi, rfl, hg4, hd4⟩
  clear hp3 hd4
  go_wp2_with fail
  go_ret
  exact ⟨_, rfl, after_open ha (grown_trans (grown_trans hg2 hg3) hg4) hr⟩
end Go.Proofs.Ytipmgfbncfkmiaa
