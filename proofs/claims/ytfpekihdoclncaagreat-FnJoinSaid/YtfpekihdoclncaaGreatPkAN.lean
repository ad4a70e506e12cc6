/-
  The program's exported functions StepMany, TermNormal, NormalOf against the plain mathematics.
-/
import Derived.Test.YtfpekihdoclncaaGreatPkAM
import Derived.Test.YtfpekihdoclncaaGreatPkAF
import Derived.Test.YtfpekihdoclncaaGreatPkAH
import Derived.Test.YtfpekihdoclncaaGreatPkAL
namespace Go.Proofs.YtfpekihdoclncaaGreat
open Go.RowKit

set_option maxHeartbeats 400000
set_option maxRecDepth 100000

theorem normal_none (t : Tm) : t.normal = t.step.isNone := by
  rw [Bool.eq_iff_iff, normal_step, Option.isNone_iff_eq_none]

theorem norm_eq (t : Tm) : t.norm = if (t.many 6000).1.normal = true then some (t.many 6000) else none := by
  unfold Tm.norm
  simp only [normal_step]

/-- A text and a number handed back, or nothing. -/
def NumRes (w : World) (r : Option (List UInt8 × Nat)) (e : Ending) (w' : World) : Prop :=
  e = .returned (.tuple #[str ((r.map Prod.fst).getD []), .int .i64 (((r.map Prod.snd).getD 0 : Nat) : Int), .bool r.isSome]) ∧ Below w.heap.size w w'

end Go.Proofs.YtfpekihdoclncaaGreat

namespace Go.Proofs.YtfpekihdoclncaaGreat

namespace Tm
def U : Tm := .nm [117]
def VV : Tm := .nm [118]
def kC : Tm := abs [120] (abs [121] (abs [122] X))
def sC : Tm := abs [120] (abs [121] (abs [122] Y))
def appC (f a : Tm) : Tm := app k (app k (pair f a))
/-- The code of a term; a name stands for any code. -/
def code : Tm → Tm
  | k => kC
  | s => sC
  | nm n => nm n
  | app f a => appC (code f) (code a)
def recC (a b c : Tm) : Tm := app fix (abs [117] (abs [118] (app (app (app VV a) b) (abs [120] (abs [121] c)))))
def runC : Tm := recC k s (app (app U X) (app U Y))
def joinC : Tm := abs [117] (abs [118] (abs [120] (abs [121] (abs [122] (app (app Z U) VV)))))
def quoteC : Tm := recC (code kC) (code sC) (app (app joinC (app (app joinC (code joinC)) (app U X))) (app U Y))

theorem kC_size : kC.size = 4 := by decide +kernel
theorem sC_size : sC.size = 2 := by decide +kernel
theorem code_size_le : ∀ t : Tm, (code t).size + 9 ≤ 13 * t.size
  | k => by rw [code, kC_size]; decide
  | s => by rw [code, sC_size]; decide
  | nm n => by simp [code, size]
  | app f a => by
    have := code_size_le f
    have := code_size_le a
    simp only [code, appC, size, size_pair]
    omega
/-- Codes of closed terms are large. -/
theorem code_size_ge : ∀ t : Tm, (∀ n, t ≠ nm n) → (∀ x ∈ names [] t, False) → 11 * t.size ≤ (code t).size + 9
  | k, _, _ => by rw [code, kC_size]; decide
  | s, _, _ => by rw [code, sC_size]; decide
  | nm n, h, _ => absurd rfl (h n)
  | app f a, _, h => by
    have hn : ∀ x, has x (app f a) = false := fun x => by
      cases hx : has x (app f a) with
      | false => rfl
      | true => exact (h x ((mem_names x (app f a) []).2 (Or.inr hx))).elim
    have hfa : ∀ x, has x f = false ∧ has x a = false := fun x => by have := hn x; simpa [has] using this
    have hf : ∀ x ∈ names [] f, False := fun x hx => by
      rcases (mem_names x f []).1 hx with h' | h'
      · cases h'
      · rw [(hfa x).1] at h'; cases h'
    have ha : ∀ x ∈ names [] a, False := fun x hx => by
      rcases (mem_names x a []).1 hx with h' | h'
      · cases h'
      · rw [(hfa x).2] at h'; cases h'
    have nf : ∀ n, f ≠ nm n := fun n e => by
      subst e
      have := (hfa n).1
      simp [has] at this
    have na : ∀ n, a ≠ nm n := fun n e => by
      subst e
      have := (hfa n).2
      simp [has] at this
    have := code_size_ge f nf hf
    have := code_size_ge a na ha
    simp only [code, appC, size, size_pair]
    omega
theorem code_good : ∀ t : Tm, t.good = true → (code t).good = true
  | k, _ => by decide +kernel
  | s, _ => by decide +kernel
  | nm n, h => h
  | app f a, h => by
    simp only [good, Bool.and_eq_true] at h
    simp only [code, appC, good, good_pair, code_good f h.1, code_good a h.2]
    rfl
/-- A closed term read from a text. -/
def closedOf (l : List UInt8) : Option Tm := match parse l with
  | some t => if (names [] t).isEmpty then some t else none
  | none => none
/-- The code of the closed term of a text, if it is a term. -/
def codeT (l : List UInt8) : Option Tm := match closedOf l with
  | some t => if (code t).fits then some (code t) else none
  | none => none
theorem closed_facts {l : List UInt8} {t : Tm} (h : closedOf l = some t) : parse l = some t ∧ names [] t = [] := by
  unfold closedOf at h
  cases hp : parse l with
  | none => rw [hp] at h; cases h
  | some u =>
    rw [hp] at h
    by_cases hn : (names [] u).isEmpty = true
    · simp only [hn, if_true] at h
      obtain rfl := Option.some.inj h
      exact ⟨rfl, List.isEmpty_iff.1 hn⟩
    · simp only [hn] at h
      cases h
theorem codeT_facts {l : List UInt8} {c : Tm} (h : codeT l = some c) : ∃ t, closedOf l = some t ∧ c = code t ∧ c.fits = true ∧ c.good = true := by
  unfold codeT at h
  cases hp : closedOf l with
  | none => rw [hp] at h; cases h
  | some u =>
    rw [hp] at h
    by_cases hn : (code u).fits = true
    · simp only [hn, if_true] at h
      obtain rfl := Option.some.inj h
      exact ⟨u, rfl, rfl, hn, code_good u (parse_facts (closed_facts hp).1).1⟩
    · simp only [hn] at h
      cases h
/-- What an application comes to, if it is a term. -/
def endOf (t : Tm) : Option Tm := if t.fits then t.norm.map Prod.fst else none
def pCodeOf (l : List UInt8) : Option (List UInt8) := (codeT l).map text
def pCodeRun (l : List UInt8) : Option (List UInt8) := (codeT l).bind fun c => (endOf (app runC c)).map text
def pCodeJoin (l m : List UInt8) : Option (List UInt8) := (codeT l).bind fun c => (codeT m).bind fun d => (endOf (app (app joinC c) d)).map text
def pCodeQuote (l : List UInt8) : Option (List UInt8) := (codeT l).bind fun c => (endOf (app runC (code c))).map text
def pFixOf (l : List UInt8) : Option (List UInt8) := (parse l).bind fun t => if (app fix t).fits then some (text (app fix t)) else none
def pFixApply (l m : List UInt8) : Option (List UInt8) := match parse l, parse m with
  | some t, some u => (endOf (app (app fix t) u)).map text
  | _, _ => none
def word (w : List UInt8) : Option Tm :=
  if w = [114, 117, 110] then some runC else if w = [106, 111, 105, 110] then some joinC else if w = [113, 117, 111, 116, 101] then some quoteC else none
def pWord (w : List UInt8) : Option (List UInt8) := (word w).map text
theorem word_good {w : List UInt8} {t : Tm} (h : word w = some t) : t.good = true ∧ t.text.length ≤ 100000 := by
  unfold word at h
  repeat' split at h
  all_goals first | (obtain rfl := Option.some.inj h; exact ⟨by decide +kernel, by decide +kernel⟩) | cases h
theorem endOf_eq (t : Tm) : endOf t = if t.fits = true then (if (t.many 6000).1.normal = true then some (t.many 6000).1 else none) else none := by
  unfold endOf
  rw [norm_eq]
  split
  · split <;> rfl
  · rfl
theorem endOf_facts {t u : Tm} (h : endOf t = some u) (hg : t.good = true) : u.good = true ∧ u.fits = true := by
  rw [endOf_eq] at h
  split at h
  · rename_i hf
    split at h
    · obtain rfl := Option.some.inj h
      exact many_good 6000 _ hg hf
    · cases h
  · cases h
end Tm
end Go.Proofs.YtfpekihdoclncaaGreat

namespace Go.Proofs.YtfpekihdoclncaaGreat
open Go.RowKit

set_option maxHeartbeats 2000000
set_option maxRecDepth 100000

def lastL : List (List UInt8) → Tm → Tm
  | [], t => t
  | x :: xs, t => if (Tm.abs x t).fits = true then lastL xs (Tm.abs x t) else Tm.abs x t

theorem absL_last : ∀ (xs : List (List UInt8)) {t : Tm}, t.fits = true → absL xs t = if (lastL xs t).fits = true then some (lastL xs t) else none
  | [], t, h => by simp [absL, lastL, h]
  | x :: xs, t, _ => by
    by_cases hf : (Tm.abs x t).fits = true
    · have hl : lastL (x :: xs) t = lastL xs (Tm.abs x t) := by simp [lastL, hf]
      rw [hl]
      simp only [absL, if_pos hf]
      exact absL_last xs hf
    · have hl : lastL (x :: xs) t = Tm.abs x t := by simp [lastL, hf]
      rw [hl, if_neg hf]
      simp [absL, hf]

theorem abs_good (x : List UInt8) : ∀ {t : Tm}, t.good = true → (Tm.abs x t).good = true
  | .k, _ => rfl
  | .s, _ => rfl
  | .nm n, hn => by by_cases he : n = x <;> simp [Tm.abs, he, Tm.I, Tm.good] <;> simpa [Tm.good] using hn
  | .app f a, h => by
    have h' := h
    simp only [Tm.good, Bool.and_eq_true] at h'
    simp only [Tm.abs]
    split
    · simpa [Tm.good] using h'
    · split
      · exact h'.1
      · simp [Tm.good, abs_good x h'.1, abs_good x h'.2]

theorem last_good : ∀ (xs : List (List UInt8)) {t : Tm}, t.good = true → t.fits = true → (lastL xs t).good = true ∧ (lastL xs t).size ≤ 12000
  | [], t, hg, hf => ⟨hg, by have := fits_size hf; simp only [lastL]; omega⟩
  | x :: xs, t, hg, hf => by
    simp only [lastL]
    have hga := abs_good x hg
    have hsz := abs_size x t
    have hfs := fits_size hf
    split
    · rename_i h; exact last_good xs hga h
    · exact ⟨hga, by omega⟩

theorem name_not3 {n : List UInt8} (h : Tm.nameOk n = true) : ([] == n) = false ∧ ([107] == n) = false ∧ ([115] == n) = false := by
  refine ⟨?_, ?_, ?_⟩ <;> (rw [beq_eq_false_iff_ne]; rintro rfl; revert h; decide)

theorem s_all (w : World) (b off cap : Nat) (names : List (List UInt8)) (t : Tm) (s : List UInt8) (ao : Option Addr) (m c : Nat) (h : ST w t (.agg #[str s, .slice ao m c])) (hg : t.good = true) (hf : t.fits = true) (hn : names.length ≤ 8) (h1 : ∀ x ∈ names, Tm.nameOk x = true)
    (hc : ∀ j, j < names.length → w.cell? ⟨b, off + j, none⟩ = some (str (names[j]?.getD []))) :
    Calls Tryz.prog 40 #[.slice (some ⟨b, off, none⟩) names.length cap, .agg #[str s, .slice ao m c]] w (TreePost w (lastL names.reverse t)) := by
  obtain ⟨N, hN⟩ : ∃ N, N = names.length := ⟨_, rfl⟩
  obtain ⟨L, hL⟩ : ∃ L, L = lastL names.reverse t := ⟨_, rfl⟩
  rw [← hN, ← hL]
  rw [← hN] at hn
  have HN := Lib.hid hN
  have HC := Lib.hid hc
  have H1 := Lib.hid h1
  have hstart : Hid (L = lastL (names.reverse.drop 0) t) := by show _ = _; rw [hL]; simp
  have hbox0 := heap_old2 w (.cells #[str s, .slice ao m c] 42) (.cells #[.string ⟨#[]⟩, .slice none 0 0] 42)
  have hres0 := heap_new2 w _ (.cells #[str s, .slice ao m c] 42) (.cells #[.string ⟨#[]⟩, .slice none 0 0] 42) rfl
  have hA0 := (After.new w (.cells #[str s, .slice ao m c] 42)).alloc (.cells #[.string ⟨#[]⟩, .slice none 0 0] 42)
  have HT0 := Lib.hid (h.later hA0)
  have HB0 := Lib.hid hbox0
  have HR0 := Lib.hid hres0
  have HA0 := Lib.hid hA0
  have HG := Lib.hid hg
  have HF := Lib.hid hf
  clear hN hL hc h1 h hg hf hbox0 hres0 hA0
  go_enter Tryz.func40, Tryz.ntmps40
  go_wp2_with fail
  go_loopw [5] (fun i wr => ∃ (k : Nat) (u : Tm) (s : List UInt8) (ao : Option Addr) (m c : Nat), Hid (i = .int .i64 ((N : Int) - 1 - k)) ∧ k ≤ N ∧ Hid (wr.heap[w.heap.size]? = some (.cells #[str s, .slice ao m c] 42 (0, 0))) ∧ Hid (wr.heap[w.heap.size + 1]? = some (.cells #[.string ⟨#[]⟩, .slice none 0 0] 42 (0, 0))) ∧
    Hid (ST wr u (.agg #[str s, .slice ao m c])) ∧ u.good = true ∧ u.fits = true ∧ Hid (After w wr) ∧ Hid (L = lastL (names.reverse.drop k) u)) (fun i _ => (intOf i + 1).toNat)
  case atStart => exact ⟨0, t, s, ao, m, c, by show _ = _; simp, Nat.zero_le _, HB0, HR0, HT0, HG.out, HF.out, HA0, hstart⟩
  case round =>
    clear hstart HB0 HR0 HT0 HA0
    obtain ⟨k, u, s, ao, m, c, hi, hk, hbox, hres, hu, hg, hf, hA, hr⟩ := hrel
    obtain ⟨k0, k1, z2, z3, l1⟩ := pair_facts hbox.out (After.refl _)
    have hfz := fits_size hf
    by_cases hlt : k < N
    · obtain ⟨q, hq⟩ : ∃ q : Nat, q = N - 1 - k := ⟨_, rfl⟩
      have hqi : (N : Int) - 1 - k = (q : Int) := by omega
      have hql : q < N := by omega
      have hqn : q < names.length := by rw [← HN.out]; exact hql
      have hi' := hi.out
      rw [hqi] at hi'
      subst hi'
      have hcx := hA.out.cell (HC.out q hqn)
      have hgd : names[q]?.getD [] = names[q] := by simp [hqn]
      have hdrop : names.reverse.drop k = names[q] :: names.reverse.drop (k + 1) := by
        have hkr : k < names.reverse.length := by simp; rw [← HN.out]; exact hlt
        rw [List.drop_eq_getElem_cons hkr]
        congr 1
        rw [List.getElem_reverse]
        congr 1
        rw [hq, HN.out]
      rw [hdrop, lastL] at hr
      rw [hgd] at hcx
      obtain ⟨n1, n2, n3⟩ := name_not3 (H1.out names[q] (List.getElem_mem hqn))
      have HQ := Lib.hid hq
      have HQI := Lib.hid hqi
      generalize names[q] = x at hcx hr n1 n2 n3
      clear hgd hdrop hq hqi hi
      have hsz := abs_size x u
      have hga := abs_good x hg
      have habs := fun W (hW : After wr W) => (hu.out.later hW).abs x n1 n2 n3 (Tm.plain_good hg) (by omega)
      unfold TreePost at habs
      have hself := After.refl wr
      obtain ⟨fb, hfb⟩ : ∃ fb, fb = (Tm.abs x u).fits := ⟨_, rfl⟩
      rw [← hfb] at hr
      have HFB := Lib.hid hfb
      have HGA := Lib.hid hga
      have HSZ := Lib.hid hsz
      have hq0 : (0 : Int) ≤ (q : Int) := by omega
      clear hfb hga hsz
      cases fb
      all_goals
        go_wp2_with fail
        go_region_with (go_at_call 60; refine (habs _ (by first | exact hself.drew | exact hself)).mono ?_; rintro e w1 ⟨s1, ao1, n1, c1, rfl, hb1, ht1⟩; have HT1 := Lib.hid ht1; clear ht1; have hb1' := After.trans (by first | exact hself.drew | exact hself) hb1; obtain ⟨k0', k1', z2', z3', l1'⟩ := pair_facts hbox.out hb1')
      all_goals
        have hbx1 := hb1'.heap hbox.out
        have hrs1 := hb1'.heap hres.out
        have hbox2 := heap_sets2 (u := str s1) (u' := .slice ao1 n1 c1) hbx1
        have hres2 := (heap_sets2_ne (W := w1) (b := w.heap.size) (c := w.heap.size + 1) (i := 0) (j := 1) (u := str s1) (u' := .slice ao1 n1 c1) (by omega)).trans hrs1
        have hst2 := HT1.out.sets2 hbx1 (u := str s1) (u' := .slice ao1 n1 c1) (i := 0) (j := 1)
        have hfine := hst2.fine HGA.out (by have := HSZ.out; omega)
        rw [← HFB.out] at hfine
        have hA2 : After w ((w1.setCell ⟨w.heap.size, 0, none⟩ (str s1)).setCell ⟨w.heap.size, 1, none⟩ (.slice ao1 n1 c1)) := Below.setCell (Below.setCell (hA.out.trans hb1') (by simp) _) (by simp) _
        obtain ⟨j0, j1, _, _, _⟩ := pair_facts hbox2 (After.refl _)
        have HBX2 := Lib.hid hbox2
        have HRS2 := Lib.hid hres2
        have HST2 := Lib.hid hst2
        have HA2 := Lib.hid hA2
        clear hbx1 hrs1 hbox2 hres2 hst2 hA2
        go_wp2_with fail
        refine hfine.mono ?_
        rintro e w2 ⟨rfl, hb2⟩
        obtain ⟨i0, i1, i2, i3, i4⟩ := pair_facts HBX2.out hb2
        obtain ⟨y0, y1, y2, y3, y4⟩ := pair_facts HRS2.out hb2
        clear hfine j0 j1
        go_wp2_with fail
        first
          | (refine bodyPost_ret (v := .agg #[str s1, .slice ao1 n1 c1]) (by simp [results, Tryz.results40, go_sem, y0, y1]) rfl
               ⟨s1, ao1, n1, c1, rfl, Below.setCell (Below.setCell (HA2.out.trans hb2) (by simp) _) (by simp) _, by rw [hr.out]; exact (HST2.out.later hb2).sets2 (hb2.heap HRS2.out)⟩)
          | (go_roundw
             case rel => exact ⟨k + 1, Tm.abs x u, s1, ao1, n1, c1, by show Value.int .i64 _ = Value.int .i64 _; congr 1; have := HQI.out; push_cast; omega, by omega, hb2.heap HBX2.out, hb2.heap HRS2.out, HST2.out.later hb2, HGA.out, HFB.out.symm, HA2.out.trans hb2, by show _ = _; rw [hr.out]; rfl⟩
             case measure => simp [intOf])
    · obtain rfl : k = N := by omega
      have hi' := hi.out
      rw [show (k : Int) - 1 - k = -1 by omega] at hi'
      subst hi'
      have HL : Hid (L = u) := by show _ = _; rw [hr.out, List.drop_eq_nil_of_le (by simp; rw [← HN.out]; exact Nat.le_refl _)]; rfl
      clear hr hi
      obtain ⟨y0, y1, y2, y3, l2⟩ := pair_facts hres.out (After.refl _)
      go_wp2_with fail
      refine bodyPost_ret (v := .agg #[str s, .slice ao m c]) (by simp [results, Tryz.results40, go_sem, y0, y1]) rfl
        ⟨s, ao, m, c, rfl, Below.setCell (Below.setCell hA.out (by simp) _) (by simp) _, by rw [HL.out]; exact hu.out.sets2 hres.out⟩
end Go.Proofs.YtfpekihdoclncaaGreat
