/-
  The walk of a promise's law: an abstraction applied is the term with what it is applied to: whatever the code, the law returns true.
-/
import Derived.Test.YtfjohagdlaiapaaPkD
import Derived.Test.YtfjohagdlaiapaaPromAm
import Derived.Test.YtfjohagdlaiapaaSFnAbs
import Derived.Test.YtfjohagdlaiapaaPkE
import Derived.Test.YtfjohagdlaiapaaPkU
import Derived.BigQuiet
import Derived.Deep.QuietTactic
namespace Go.Proofs.Ytfjohagdlaiapaa
open Go.RowKit

set_option maxHeartbeats 2000000
set_option maxRecDepth 100000

def DrawAbs (w : World) (e : Ending) (w' : World) : Prop := ∃ (g cap : Nat) (ns : List (List UInt8)) (l : List UInt8), e = .returned (.tuple #[.slice (some ⟨g, 0, none⟩) ns.length cap, str l]) ∧ ns.length ≤ 3 ∧ ns.length ≤ cap ∧ cap ≤ 3 ∧ (∀ y ∈ ns, y.length ≤ 4) ∧ l.length ≤ 100000 ∧ g < w'.heap.size ∧
  (∀ j, j < ns.length → w'.cell? ⟨g, 0 + j, none⟩ = some (str (ns[j]?.getD []))) ∧ After w w'

theorem lit_cells {W : World} {g : Nat} {fr : Nat × Nat} {ns : List (List UInt8)} {m : Nat} (h : W.heap[g]? = some (.cells (ns.map str).toArray 9 fr)) (hm : m ≤ ns.length) :
    ∀ j, j < (ns.take m).length → W.cell? ⟨g, 0 + j, none⟩ = some (str ((ns.take m)[j]?.getD [])) := fun j hj => by
  have hj' : j < m := by simpa using (Nat.lt_of_lt_of_le hj (by simp; omega))
  rw [Nat.zero_add, cell_of_heap h]
  simp [hj', List.getElem?_eq_getElem (show j < ns.length by omega)]

theorem draw_abstract (w : World) (v : Value) (n : Nat) (h : CodeArg w v n) : Calls Try.prog 8 #[v] w (DrawAbs w) := by
  have hopen := open_any w v n h
  clear h
  go_enter Try.func8, Try.ntmps8
  go_wp2_with fail
  refine hopen.mono ?_
  rintro e w1 ⟨rb, rfl, hr, ha, hd⟩
  have hodd := odd_any w1 rb 0 hd (by omega)
  clear hopen hd
  go_wp2_with fail
  refine hodd.mono ?_
  rintro e w2 ⟨s, q, rfl, hs, hq, hg, hd⟩
  obtain ⟨l, rfl⟩ : ∃ l : List UInt8, s = ⟨l.toArray⟩ := ⟨s.data.toList, by simp⟩
  rw [ssize] at hs
  have hpk := pick_any w2 rb q 12 hd (by omega) (by decide) (by decide)
  clear hodd hd
  go_wp2_with fail
  refine hpk.mono ?_
  rintro e w3 ⟨k, hk, rfl, hg3, hd3⟩
  have HD3 := Lib.hid hd3
  have HA3 := Lib.hid (after_open ha (grown_trans hg hg3) hr)
  clear hpk hd3
  by_cases hk0 : k = 0
  · subst hk0
    have ht := heap_top w3 (.cells #[str [120], str [120]] 9)
    have hn := After.new w3 (.cells #[str [120], str [120]] 9)
    have HT := Lib.hid ht
    have HN := Lib.hid hn
    clear ht hn
    go_wp2_with fail
    go_ret2
    exact ⟨w3.heap.size, 2, [[120], [120]], l, rfl, by decide, by decide, by decide, by decide, by omega, by simp, lit_cells (ns := [[120], [120]]) (m := 2) HT.out (by decide), HA3.out.trans HN.out⟩
  by_cases hk1 : k = 1
  · subst hk1
    have ht := heap_top w3 (.cells #[str [107]] 9)
    have hn := After.new w3 (.cells #[str [107]] 9)
    have HT := Lib.hid ht
    have HN := Lib.hid hn
    clear ht hn
    go_wp2_with fail
    go_ret2
    exact ⟨w3.heap.size, 1, [[107]], l, rfl, by decide, by decide, by decide, by decide, by omega, by simp, lit_cells (ns := [[107]]) (m := 1) HT.out (by decide), HA3.out.trans HN.out⟩
  by_cases hk2 : k = 2
  · subst hk2
    have hn := After.new w3 (.cells #[] 9)
    have HN := Lib.hid hn
    clear hn
    go_wp2_with fail
    go_ret2
    exact ⟨w3.heap.size, 0, [], l, rfl, by decide, by decide, by decide, by decide, by omega, by simp, fun j hj => absurd hj (Nat.not_lt_zero j), HA3.out.trans HN.out⟩
  have e0 : ((k : Int) == 0) = false := by rw [beq_eq_false_iff_ne]; omega
  have e1 : ((k : Int) == 1) = false := by rw [beq_eq_false_iff_ne]; omega
  have e2 : ((k : Int) == 2) = false := by rw [beq_eq_false_iff_ne]; omega
  have hb := below_new w3 (.cells #[str [120], str [121], str [122, 49]] 9)
  have hpk2 := pick_any (w3.alloc (.cells #[str [120], str [121], str [122, 49]] 9)) rb (q + 1) 3 (HD3.out.after hb) (by omega) (by decide) (by decide)
  have hlt := HD3.out.lt
  have hn := After.new w3 (.cells #[str [120], str [121], str [122, 49]] 9)
  have HN := Lib.hid hn
  have ht := heap_top w3 (.cells #[str [120], str [121], str [122, 49]] 9)
  have HT := Lib.hid ht
  clear hn ht hb
  go_wp2_with fail
  refine hpk2.mono ?_
  rintro e w4 ⟨j, hj, rfl, hg4, hd4⟩
  have ht4 : w4.heap[w3.heap.size]? = some (.cells #[str [120], str [121], str [122, 49]] 9 (0, 0)) := by
    rw [hg4.block _ (by simp) (fun e => by injection e with e; omega)]
    exact HT.out
  have HT4 := Lib.hid ht4
  have HA4 := Lib.hid (after_open (HA3.out.trans HN.out) hg4 hr)
  have hsz4 : w3.heap.size < w4.heap.size := (Array.getElem?_eq_some_iff.1 ht4).1
  have HZ4 := Lib.hid hsz4
  clear hpk2 hd4 hg4 ht4 hsz4
  have j1 : (0 : Int) ≤ 1 + (j : Int) := by omega
  have j2 : (1 : Int) + (j : Int) ≤ 3 := by omega
  have j3 : (1 + (j : Int)).toNat = 1 + j := by omega
  go_wp2_with fail
  go_ret2
  have hl3 : (([[120], [121], [122, 49]] : List (List UInt8)).take (1 + j)).length = 1 + j := by simp; omega
  refine ⟨w3.heap.size, 3, ([[120], [121], [122, 49]] : List (List UInt8)).take (1 + j), l, by rw [hl3]; first | rfl | (simp; done), by rw [hl3]; omega, by rw [hl3]; omega, by decide, fun y hy => ?_, by omega, HZ4.out, lit_cells (ns := [[120], [121], [122, 49]]) (m := 1 + j) HT4.out (by simp; omega), HA4.out⟩
  have := List.mem_of_mem_take hy
  revert this
  simp
  rintro (rfl | rfl | rfl) <;> decide

theorem law_pabstract (w : World) (v : Value) (n : Nat) (h : CodeArg w v n) :
    Calls Try.prog 3 #[v] w fun e w' => e = .returned (.bool true) ∧ After w w' := by
  obtain ⟨a0, cap, rfl⟩ := h.form
  have hdraw := draw_abstract w _ n h
  clear h
  by_cases hbig : (1048576 : Int) < (n : Int)
  · go_enter Try.func3, Try.ntmps3
    go_wp2_with fail
    go_ret
    exact ⟨rfl, After.refl _⟩
  · go_enter Try.func3, Try.ntmps3
    go_wp2_with fail
    refine hdraw.mono ?_
    rintro e w1 ⟨g, cap, ns, l, rfl, hn3, hnc, hcm, hsh, hl, hgl, hcell, ha⟩
    have HA := Lib.hid ha
    clear hdraw ha
    have hi := fun W (hW : After w1 W) => impl_abs_some W g 0 cap ns l (by omega) (by omega) (fun y hy => by have := hsh y hy; omega) hnc (Nat.lt_of_lt_of_le hgl hW.size) (fun j hj => hW.cell (hcell j hj))
    have hs := fun W (hW : After w1 W) => spec_abs_some W g 0 cap ns l (by omega) (by omega) (fun y hy => by have := hsh y hy; omega) hnc (fun j hj => hW.cell (hcell j hj))
    unfold AbsRes at hi
    unfold SAbsRes at hs
    have HI := Lib.hid hi
    have HS := Lib.hid hs
    clear hi hs
    cases hb : pAbs ns l with
    | none =>
      have hi : ∀ W, After w1 W → _ := HI.out
      have hs : ∀ W, After w1 W → _ := HS.out
      simp only [hb, Option.getD_none, Option.isSome_none] at hi hs
      clear hb
      go_wp2_with fail
      refine (hi _ (After.refl _)).mono ?_
      rintro e w2 ⟨rfl, hb2⟩
      go_wp2_with fail
      refine (hs _ hb2).mono ?_
      rintro e w3 ⟨rfl, hb3⟩
      go_wp2_with fail
      go_ret
      exact ⟨by simp, (HA.out.trans hb2).trans hb3⟩
    | some x =>
      have hi : ∀ W, After w1 W → _ := HI.out
      have hs : ∀ W, After w1 W → _ := HS.out
      simp only [hb, Option.getD_some, Option.isSome_some] at hi hs
      obtain ⟨t, o, hp, hl0, hgt, hft, hx, hgo, hfo, hnd, hok, hK0, hhas, hpx⟩ := Tm.pAbs_facts hb
      have hol : o.text.length ≤ 21000 := (Tm.parse_facts hpx).2.2.2.2
      have hxl : x.length ≤ 21000 := by rw [hx]; exact hol
      have hnm := fun W => impl_names W x (by omega)
      obtain ⟨aas, haas⟩ : ∃ aas, aas = Tm.names [] o := ⟨_, rfl⟩
      rw [show Tm.pNames x = some aas by rw [haas]; simp [Tm.pNames, hpx]] at hnm
      obtain ⟨a1, _, a3, _⟩ := Tm.names_facts haas hgo
      have hal : aas.length ≤ 3000 := by have := (fits_size hfo).1; omega
      have hnot : ∀ j, j < ns.length → decide (ns.getD j [] ∈ aas) = false := fun j hj => decide_eq_false fun hm => by
        have h1 := (a1 _).1 hm
        rw [hhas _ (Tm.getD_mem hj)] at h1
        cases h1
      have hput : ∀ j Y, Tm.AbsK ns o t j Y → j < ns.length → ∃ Y', Tm.AbsK ns o t (j + 1) Y' ∧ ∀ W, Calls Try.prog 13 #[str Y.text, str (ns.getD j []), str [107]] W fun e w' => e = .returned (.tuple #[str Y'.text, .bool true]) ∧ Below W.heap.size W w' := fun j Y hY hj => by
        obtain ⟨Y', q1, q2⟩ := Tm.absK_step hY hft hnd hj (hok _ (Tm.getD_mem hj))
        have hsl := hsh _ (Tm.getD_mem hj)
        refine ⟨Y', q2, fun W => ?_⟩
        have hlY : Y.text.length ≤ 1000000 := by
          have := Tm.text_le Y hY.1
          have := hY.2.1
          have := hY.2.2.1
          have := fits_size hft
          omega
        have := impl_put W Y.text (ns.getD j []) [107] (by omega) (by omega) (by decide)
        unfold TextRes at this
        rw [q1] at this
        exact this
      have hend : ∀ Y, Tm.AbsK ns o t ns.length Y → ∃ (b1 b2 : Bool) (x1 x2 : List UInt8) (m1 m2 : Nat), (∀ W, Calls Try.prog 14 #[str (Tm.appK ns.length o).text] W fun e w' => e = .returned (.tuple #[str x1, .int .i64 ((m1 : Nat) : Int), .bool b1]) ∧ Below W.heap.size W w') ∧
          (∀ W, Calls Try.prog 14 #[str Y.text] W fun e w' => e = .returned (.tuple #[str x2, .int .i64 ((m2 : Nat) : Int), .bool b2]) ∧ Below W.heap.size W w') ∧ (b1 = true → b2 = true → x2 = x1) := fun Y hY => by
        have hlY : Y.text.length ≤ 1000000 := by
          have := Tm.text_le Y hY.1
          have := hY.2.1
          have := hY.2.2.1
          have := fits_size hft
          omega
        have hlX := Tm.appK_len o ns.length
        have h1 := fun W => impl_norm W (Tm.appK ns.length o).text (by omega)
        have h2 := fun W => impl_norm W Y.text (by omega)
        unfold NumRes at h1 h2
        exact ⟨_, _, _, _, _, _, h1, h2, fun c1 c2 => (Tm.absK_end hY hgo (some_pair (x := []) (y := 0) c1) (some_pair (x := []) (y := 0) c2)).symm⟩
      have hlen : ∀ j, j ≤ 3 → (Tm.appK j o).text.length ≤ 30000 := fun j hj => by have := Tm.appK_len o j; omega
      have hsucc : ∀ j, (Tm.appK (j + 1) o).text = 40 :: ((Tm.appK j o).text ++ 32 :: ([107] ++ [41])) := fun j => rfl
      have HNOT := Lib.hid hnot
      have HPUT := Lib.hid hput
      have HEND := Lib.hid hend
      have HLEN := Lib.hid hlen
      have HSUCC := Lib.hid hsucc
      have hstart : ∃ Y X : Tm, str x = str X.text ∧ str l = str Y.text ∧ Hid (X = Tm.appK 0 o) ∧ Hid (Tm.AbsK ns o t 0 Y) := ⟨t, o, by rw [hx], by rw [hl0], rfl, hK0⟩
      have HCELL := Lib.hid hcell
      clear hput hend hnot hlen hsucc hb hp hl0 hgt hft hx hgo hfo hnd hok hK0 hhas hpx hol a1 a3 haas hsh HI HS hcell
      go_wp2_with fail
      refine (hi _ (After.refl _)).mono ?_
      rintro e w2 ⟨rfl, hb2⟩
      go_wp2_with fail
      refine (hs _ hb2).mono ?_
      rintro e w3 ⟨rfl, hb3⟩
      go_wp2_with fail
      refine (hnm _).mono ?_
      rintro e w4 hn4
      obtain ⟨ao1, cap1, rfl, hb4, hu1⟩ := names_row_some hn4
      have HU1 := Lib.hid hu1
      have hA14 : After w1 w4 := ((After.refl _).trans hb2 |>.trans hb3).trans hb4
      have HA14 := Lib.hid hA14
      have HA4 := Lib.hid (HA.out.trans hA14)
      clear hn4 hu1 hi hs hnm hA14
      go_wp2_with fail
      go_loopw [11, 12, 13] (fun xv yv i wr => ∃ (k : Nat) (X Y : Tm), i = .int .i64 k ∧ xv = str X.text ∧ yv = str Y.text ∧ k ≤ ns.length ∧ Hid (X = Tm.appK k o) ∧ Hid (Tm.AbsK ns o t k Y) ∧ After w4 wr) (fun _ _ i _ => ns.length - (intOf i).toNat)
      case atStart =>
        obtain ⟨Y, X, e1, e2, h1, h2⟩ := hstart
        exact ⟨0, X, Y, rfl, e1, e2, Nat.zero_le _, h1, h2, After.refl _⟩
      case round =>
        obtain ⟨k, X, Y, rfl, rfl, rfl, hk, hX, hY, hAw⟩ := hrel
        clear hstart
        by_cases hlt : k < ns.length
        · have h1 : wr.cell? ⟨g, 0 + k, none⟩ = some (str (ns.getD k [])) := (HA14.out.trans hAw).cell (HCELL.out k hlt)
          have h1b : wr.cell? ⟨g, k, none⟩ = some (str (ns.getD k [])) := by rw [Nat.zero_add] at h1; exact h1
          obtain ⟨Y', hY', hput⟩ := HPUT.out k Y hY.out hlt
          have HY' := Lib.hid hY'
          have hN := HNOT.out k hlt
          have hhas := l_has_same wr _ aas (ns.getD k []) (HU1.out.later hAw) (by omega)
          rw [hN] at hhas
          have hXl : X.text.length ≤ 30000 := by rw [hX.out]; exact HLEN.out k (by omega)
          have hXs : (Tm.app X .k).text = 40 :: (X.text ++ 32 :: ([107] ++ [41])) := rfl
          have HX' : Hid (Tm.app X .k = Tm.appK (k + 1) o) := by show _ = _; rw [hX.out]; rfl
          generalize ns.getD k [] = y at h1 h1b hput hN hhas
          have hlt' : (k : Int) < (ns.length : Int) := by omega
          have zl := ssize X.text
          have q1 : (⟨#[40]⟩ : ByteArray).size = 1 := rfl
          have q2 : (⟨#[32, 107, 41]⟩ : ByteArray).size = 3 := rfl
          obtain ⟨c1, d1, z1, e1⟩ := cat ⟨#[40]⟩ ⟨X.text.toArray⟩ (by omega)
          obtain ⟨c2, d2, z2, e2⟩ := cat c1 ⟨#[32, 107, 41]⟩ (by omega)
          have hfin : str (Tm.app X .k).text = .string c2 := by
            refine congrArg Value.string (ByteArray.ext (Array.ext' ?_))
            rw [d2, d1, hXs]
            simp
          have HFIN := Lib.hid hfin
          clear hfin d1 d2 z1 z2 q1 q2 zl hXs hN hY' hXl
          go_wp2_with fail
          refine hhas.mono ?_
          rintro e w5 ⟨rfl, rfl⟩
          go_wp2_with fail
          refine (hput _).mono ?_
          rintro e w6 ⟨rfl, hb6⟩
          go_wp2_with fail
          go_roundw
          case rel => exact ⟨k + 1, Tm.app X .k, Y', by go_num, HFIN.out.symm, rfl, by omega, HX', HY', hAw.trans hb6⟩
          case measure => simp [intOf]; omega
        · obtain rfl : k = ns.length := by omega
          obtain ⟨b1, b2, x1, x2, m1, m2, hn1, hn2, hA⟩ := HEND.out Y hY.out
          rw [← hX.out] at hn1
          go_wp2_with fail
          refine (hn1 _).mono ?_
          rintro e w5 ⟨rfl, hb5⟩
          go_wp2_with fail
          refine (hn2 _).mono ?_
          rintro e w6 ⟨rfl, hb6⟩
          cases b1 <;> cases b2
          all_goals
            try (have hA' := hA rfl rfl; subst hA')
            clear hA
            go_wp2_with fail
            go_ret
            exact ⟨by simp, ((HA4.out.trans hAw).trans hb5).trans hb6⟩
end Go.Proofs.Ytfjohagdlaiapaa
