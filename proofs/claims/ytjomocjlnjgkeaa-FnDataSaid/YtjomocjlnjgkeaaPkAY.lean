/-
  The walks of the laws of TermNames and TermClosed.
-/
import Derived.Test.YtjomocjlnjgkeaaPkAW
import Derived.Test.YtjomocjlnjgkeaaPkAX
import Derived.Test.YtjomocjlnjgkeaaPkAR
namespace Go.Proofs.Ytjomocjlnjgkeaa
open Go.RowKit

set_option maxHeartbeats 1000000
set_option maxRecDepth 100000

theorem law_closed (w : World) (l : List UInt8) :
    Calls Try.prog 3 #[str l] w fun e w' => e = .returned (.bool true) ∧ After w w' := by
  have hsz := str_size l
  by_cases hbig : (1048576 : Int) < (l.length : Int)
  · go_enter Try.func3, Try.ntmps3
    go_wp2_with fail
    go_ret
    exact ⟨rfl, After.refl _⟩
  · have hs := fun W => spec_closed W l (by omega)
    have hi := fun W => impl_closed W l (by omega)
    generalize Tm.pClosed l = b at *
    go_enter Try.func3, Try.ntmps3
    cases b
    all_goals
      go_wp2_with (first
        | (go_at_call 11; refine (hs _).mono ?_; rintro e w1 ⟨rfl, hb1⟩)
        | (go_at_call 12; refine (hi _).mono ?_; rintro e w2 ⟨rfl, hb2⟩))
      go_ret
      exact ⟨rfl, After.trans hb1 hb2⟩

theorem ownsRow_after {w w' : World} {base n size : Nat} {T : TypeId} {v : Value} {xs : List Value} (h : w.ownsRow base T size v n xs) (hb : After w w') : w'.ownsRow base T size v n xs :=
  h.kept (grew_after hb) (by cases v.ownBlock with | none => exact Or.inl rfl | some k => exact Or.inr (by simp))

theorem After.grew {w a b : World} {r : Option Nat} (h : After w a) (hg : a.grownBy b r) (hr : ∀ k, r = some k → w.heap.size ≤ k) : After w b := Below.grown h hg h.size hr

theorem pNames_len (l : List UInt8) : ((Tm.pNames l).getD []).length ≤ 3000 := by
  unfold Tm.pNames
  cases hp : Tm.parse l with
  | none => simp
  | some t =>
    obtain ⟨_, _, hs, _, _⟩ := Tm.parse_facts hp
    have := Tm.names_len t []
    simp at this ⊢
    omega

end Go.Proofs.Ytjomocjlnjgkeaa

namespace Go.Proofs.Ytjomocjlnjgkeaa
open Go.RowKit

set_option maxHeartbeats 2000000
set_option maxRecDepth 100000

def lastL : List (List UInt8) → Tm → Tm
  | [], t => t
  | x :: xs, t => if (Tm.abs x t).fits = true then lastL xs (Tm.abs x t) else Tm.abs x t

theorem absL_last : ∀ (xs : List (List UInt8)) {t : Tm}, t.fits = true → absL xs t = if (lastL xs t).fits = true then some (lastL xs t) else none
  | [], t, h => by simp [absL, lastL, h]
  | x :: xs, t, _ => by
    by_cases hf : (Tm.abs x t).fits = true
    · have hl : lastL (x :: xs) t = lastL xs (Tm.abs x t) := by simp [lastL, hf]
      rw [hl]
      simp only [absL, if_pos hf]
      exact absL_last xs hf
    · have hl : lastL (x :: xs) t = Tm.abs x t := by simp [lastL, hf]
      rw [hl, if_neg hf]
      simp [absL, hf]

theorem abs_good (x : List UInt8) : ∀ {t : Tm}, t.good = true → (Tm.abs x t).good = true
  | .k, _ => rfl
  | .s, _ => rfl
  | .nm n, hn => by by_cases he : n = x <;> simp [Tm.abs, he, Tm.I, Tm.good] <;> simpa [Tm.good] using hn
  | .app f a, h => by
    have h' := h
    simp only [Tm.good, Bool.and_eq_true] at h'
    simp only [Tm.abs]
    split
    · simpa [Tm.good] using h'
    · split
      · exact h'.1
      · simp [Tm.good, abs_good x h'.1, abs_good x h'.2]

theorem last_good : ∀ (xs : List (List UInt8)) {t : Tm}, t.good = true → t.fits = true → (lastL xs t).good = true ∧ (lastL xs t).size ≤ 12000
  | [], t, hg, hf => ⟨hg, by have := fits_size hf; simp only [lastL]; omega⟩
  | x :: xs, t, hg, hf => by
    simp only [lastL]
    have hga := abs_good x hg
    have hsz := abs_size x t
    have hfs := fits_size hf
    split
    · rename_i h; exact last_good xs hga h
    · exact ⟨hga, by omega⟩

theorem name_not3 {n : List UInt8} (h : Tm.nameOk n = true) : ([] == n) = false ∧ ([107] == n) = false ∧ ([115] == n) = false := by
  refine ⟨?_, ?_, ?_⟩ <;> (rw [beq_eq_false_iff_ne]; rintro rfl; revert h; decide)

theorem s_all (w : World) (b off cap : Nat) (names : List (List UInt8)) (t : Tm) (s : List UInt8) (ao : Option Addr) (m c : Nat) (h : ST w t (.agg #[str s, .slice ao m c])) (hg : t.good = true) (hf : t.fits = true) (hn : names.length ≤ 8) (h1 : ∀ x ∈ names, Tm.nameOk x = true)
    (hc : ∀ j, j < names.length → w.cell? ⟨b, off + j, none⟩ = some (str (names[j]?.getD []))) :
    Calls Try.prog 62 #[.slice (some ⟨b, off, none⟩) names.length cap, .agg #[str s, .slice ao m c]] w (TreePost w (lastL names.reverse t)) := by
  obtain ⟨N, hN⟩ : ∃ N, N = names.length := ⟨_, rfl⟩
  obtain ⟨L, hL⟩ : ∃ L, L = lastL names.reverse t := ⟨_, rfl⟩
  rw [← hN, ← hL]
  rw [← hN] at hn
  have HN := Lib.hid hN
  have HC := Lib.hid hc
  have H1 := Lib.hid h1
  have hstart : Hid (L = lastL (names.reverse.drop 0) t) := by show _ = _; rw [hL]; simp
  have hbox0 := heap_old2 w (.cells #[str s, .slice ao m c] 40) (.cells #[.string ⟨#[]⟩, .slice none 0 0] 40)
  have hres0 := heap_new2 w _ (.cells #[str s, .slice ao m c] 40) (.cells #[.string ⟨#[]⟩, .slice none 0 0] 40) rfl
  have hA0 := (After.new w (.cells #[str s, .slice ao m c] 40)).alloc (.cells #[.string ⟨#[]⟩, .slice none 0 0] 40)
  have HT0 := Lib.hid (h.later hA0)
  have HB0 := Lib.hid hbox0
  have HR0 := Lib.hid hres0
  have HA0 := Lib.hid hA0
  have HG := Lib.hid hg
  have HF := Lib.hid hf
  clear hN hL hc h1 h hg hf hbox0 hres0 hA0
  go_enter Try.func62, Try.ntmps62
  go_wp2_with fail
  go_loopw [5] (fun i wr => ∃ (k : Nat) (u : Tm) (s : List UInt8) (ao : Option Addr) (m c : Nat), Hid (i = .int .i64 ((N : Int) - 1 - k)) ∧ k ≤ N ∧ Hid (wr.heap[w.heap.size]? = some (.cells #[str s, .slice ao m c] 40 (0, 0))) ∧ Hid (wr.heap[w.heap.size + 1]? = some (.cells #[.string ⟨#[]⟩, .slice none 0 0] 40 (0, 0))) ∧
    Hid (ST wr u (.agg #[str s, .slice ao m c])) ∧ u.good = true ∧ u.fits = true ∧ Hid (After w wr) ∧ Hid (L = lastL (names.reverse.drop k) u)) (fun i _ => (intOf i + 1).toNat)
  case atStart => exact ⟨0, t, s, ao, m, c, by show _ = _; simp, Nat.zero_le _, HB0, HR0, HT0, HG.out, HF.out, HA0, hstart⟩
  case round =>
    clear hstart HB0 HR0 HT0 HA0
    obtain ⟨k, u, s, ao, m, c, hi, hk, hbox, hres, hu, hg, hf, hA, hr⟩ := hrel
    obtain ⟨k0, k1, z2, z3, l1⟩ := pair_facts hbox.out (After.refl _)
    have hfz := fits_size hf
    by_cases hlt : k < N
    · obtain ⟨q, hq⟩ : ∃ q : Nat, q = N - 1 - k := ⟨_, rfl⟩
      have hqi : (N : Int) - 1 - k = (q : Int) := by omega
      have hql : q < N := by omega
      have hqn : q < names.length := by rw [← HN.out]; exact hql
      have hi' := hi.out
      rw [hqi] at hi'
      subst hi'
      have hcx := hA.out.cell (HC.out q hqn)
      have hgd : names[q]?.getD [] = names[q] := by simp [hqn]
      have hdrop : names.reverse.drop k = names[q] :: names.reverse.drop (k + 1) := by
        have hkr : k < names.reverse.length := by simp; rw [← HN.out]; exact hlt
        rw [List.drop_eq_getElem_cons hkr]
        congr 1
        rw [List.getElem_reverse]
        congr 1
        rw [hq, HN.out]
      rw [hdrop, lastL] at hr
      rw [hgd] at hcx
      obtain ⟨n1, n2, n3⟩ := name_not3 (H1.out names[q] (List.getElem_mem hqn))
      have HQ := Lib.hid hq
      have HQI := Lib.hid hqi
      generalize names[q] = x at hcx hr n1 n2 n3
      clear hgd hdrop hq hqi hi
      have hsz := abs_size x u
      have hga := abs_good x hg
      have habs := fun W (hW : After wr W) => (hu.out.later hW).abs x n1 n2 n3 (Tm.plain_good hg) (by omega)
      unfold TreePost at habs
      have hself := After.refl wr
      obtain ⟨fb, hfb⟩ : ∃ fb, fb = (Tm.abs x u).fits := ⟨_, rfl⟩
      rw [← hfb] at hr
      have HFB := Lib.hid hfb
      have HGA := Lib.hid hga
      have HSZ := Lib.hid hsz
      have hq0 : (0 : Int) ≤ (q : Int) := by omega
      clear hfb hga hsz
      cases fb
      all_goals
        go_wp2_with fail
        go_region_with (go_at_call 64; refine (habs _ (by first | exact hself.drew | exact hself)).mono ?_; rintro e w1 ⟨s1, ao1, n1, c1, rfl, hb1, ht1⟩; have HT1 := Lib.hid ht1; clear ht1; have hb1' := After.trans (by first | exact hself.drew | exact hself) hb1; obtain ⟨k0', k1', z2', z3', l1'⟩ := pair_facts hbox.out hb1')
      all_goals
        have hbx1 := hb1'.heap hbox.out
        have hrs1 := hb1'.heap hres.out
        have hbox2 := heap_sets2 (u := str s1) (u' := .slice ao1 n1 c1) hbx1
        have hres2 := (heap_sets2_ne (W := w1) (b := w.heap.size) (c := w.heap.size + 1) (i := 0) (j := 1) (u := str s1) (u' := .slice ao1 n1 c1) (by omega)).trans hrs1
        have hst2 := HT1.out.sets2 hbx1 (u := str s1) (u' := .slice ao1 n1 c1) (i := 0) (j := 1)
        have hfine := hst2.fine HGA.out (by have := HSZ.out; omega)
        rw [← HFB.out] at hfine
        have hA2 : After w ((w1.setCell ⟨w.heap.size, 0, none⟩ (str s1)).setCell ⟨w.heap.size, 1, none⟩ (.slice ao1 n1 c1)) := Below.setCell (Below.setCell (hA.out.trans hb1') (by simp) _) (by simp) _
        obtain ⟨j0, j1, _, _, _⟩ := pair_facts hbox2 (After.refl _)
        have HBX2 := Lib.hid hbox2
        have HRS2 := Lib.hid hres2
        have HST2 := Lib.hid hst2
        have HA2 := Lib.hid hA2
        clear hbx1 hrs1 hbox2 hres2 hst2 hA2
        go_wp2_with fail
        refine hfine.mono ?_
        rintro e w2 ⟨rfl, hb2⟩
        obtain ⟨i0, i1, i2, i3, i4⟩ := pair_facts HBX2.out hb2
        obtain ⟨y0, y1, y2, y3, y4⟩ := pair_facts HRS2.out hb2
        clear hfine j0 j1
        go_wp2_with fail
        first
          | (refine bodyPost_ret (v := .agg #[str s1, .slice ao1 n1 c1]) (by simp [results, Try.results62, go_sem, y0, y1]) rfl
               ⟨s1, ao1, n1, c1, rfl, Below.setCell (Below.setCell (HA2.out.trans hb2) (by simp) _) (by simp) _, by rw [hr.out]; exact (HST2.out.later hb2).sets2 (hb2.heap HRS2.out)⟩)
          | (go_roundw
             case rel => exact ⟨k + 1, Tm.abs x u, s1, ao1, n1, c1, by show Value.int .i64 _ = Value.int .i64 _; congr 1; have := HQI.out; push_cast; omega, by omega, hb2.heap HBX2.out, hb2.heap HRS2.out, HST2.out.later hb2, HGA.out, HFB.out.symm, HA2.out.trans hb2, by show _ = _; rw [hr.out]; rfl⟩
             case measure => simp [intOf])
    · obtain rfl : k = N := by omega
      have hi' := hi.out
      rw [show (k : Int) - 1 - k = -1 by omega] at hi'
      subst hi'
      have HL : Hid (L = u) := by show _ = _; rw [hr.out, List.drop_eq_nil_of_le (by simp; rw [← HN.out]; exact Nat.le_refl _)]; rfl
      clear hr hi
      obtain ⟨y0, y1, y2, y3, l2⟩ := pair_facts hres.out (After.refl _)
      go_wp2_with fail
      refine bodyPost_ret (v := .agg #[str s, .slice ao m c]) (by simp [results, Try.results62, go_sem, y0, y1]) rfl
        ⟨s, ao, m, c, rfl, Below.setCell (Below.setCell hA.out (by simp) _) (by simp) _, by rw [HL.out]; exact hu.out.sets2 hres.out⟩
end Go.Proofs.Ytjomocjlnjgkeaa
