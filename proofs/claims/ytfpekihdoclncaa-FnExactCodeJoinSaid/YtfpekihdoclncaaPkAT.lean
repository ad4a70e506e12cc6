/-
  Codes in plain mathematics: the code of a term, the interpreter, the joiner, the quoter; what the functions of chapter 4 answer.
-/
import Derived.Test.YtfpekihdoclncaaPkAP
import Derived.Test.YtfpekihdoclncaaPkAI
import Derived.Test.YtfpekihdoclncaaPkAS
namespace Go.Proofs.Ytfpekihdoclncaa

namespace Tm
def U : Tm := .nm [117]
def VV : Tm := .nm [118]
def kC : Tm := abs [120] (abs [121] (abs [122] X))
def sC : Tm := abs [120] (abs [121] (abs [122] Y))
def appC (f a : Tm) : Tm := app k (app k (pair f a))
/-- The code of a term; a name stands for any code. -/
def code : Tm → Tm
  | k => kC
  | s => sC
  | nm n => nm n
  | app f a => appC (code f) (code a)
def recC (a b c : Tm) : Tm := app fix (abs [117] (abs [118] (app (app (app VV a) b) (abs [120] (abs [121] c)))))
def runC : Tm := recC k s (app (app U X) (app U Y))
def joinC : Tm := abs [117] (abs [118] (abs [120] (abs [121] (abs [122] (app (app Z U) VV)))))
def quoteC : Tm := recC (code kC) (code sC) (app (app joinC (app (app joinC (code joinC)) (app U X))) (app U Y))

theorem kC_size : kC.size = 4 := by decide +kernel
theorem sC_size : sC.size = 2 := by decide +kernel
theorem code_size_le : ∀ t : Tm, (code t).size + 9 ≤ 13 * t.size
  | k => by rw [code, kC_size]; decide
  | s => by rw [code, sC_size]; decide
  | nm n => by simp [code, size]
  | app f a => by
    have := code_size_le f
    have := code_size_le a
    simp only [code, appC, size, size_pair]
    omega
/-- Codes of closed terms are large. -/
theorem code_size_ge : ∀ t : Tm, (∀ n, t ≠ nm n) → (∀ x ∈ names [] t, False) → 11 * t.size ≤ (code t).size + 9
  | k, _, _ => by rw [code, kC_size]; decide
  | s, _, _ => by rw [code, sC_size]; decide
  | nm n, h, _ => absurd rfl (h n)
  | app f a, _, h => by
    have hn : ∀ x, has x (app f a) = false := fun x => by
      cases hx : has x (app f a) with
      | false => rfl
      | true => exact (h x ((mem_names x (app f a) []).2 (Or.inr hx))).elim
    have hfa : ∀ x, has x f = false ∧ has x a = false := fun x => by have := hn x; simpa [has] using this
    have hf : ∀ x ∈ names [] f, False := fun x hx => by
      rcases (mem_names x f []).1 hx with h' | h'
      · cases h'
      · rw [(hfa x).1] at h'; cases h'
    have ha : ∀ x ∈ names [] a, False := fun x hx => by
      rcases (mem_names x a []).1 hx with h' | h'
      · cases h'
      · rw [(hfa x).2] at h'; cases h'
    have nf : ∀ n, f ≠ nm n := fun n e => by
      subst e
      have := (hfa n).1
      simp [has] at this
    have na : ∀ n, a ≠ nm n := fun n e => by
      subst e
      have := (hfa n).2
      simp [has] at this
    have := code_size_ge f nf hf
    have := code_size_ge a na ha
    simp only [code, appC, size, size_pair]
    omega
theorem code_good : ∀ t : Tm, t.good = true → (code t).good = true
  | k, _ => by decide +kernel
  | s, _ => by decide +kernel
  | nm n, h => h
  | app f a, h => by
    simp only [good, Bool.and_eq_true] at h
    simp only [code, appC, good, good_pair, code_good f h.1, code_good a h.2]
    rfl
/-- A closed term read from a text. -/
def closedOf (l : List UInt8) : Option Tm := match parse l with
  | some t => if (names [] t).isEmpty then some t else none
  | none => none
/-- The code of the closed term of a text, if it is a term. -/
def codeT (l : List UInt8) : Option Tm := match closedOf l with
  | some t => if (code t).fits then some (code t) else none
  | none => none
theorem closed_facts {l : List UInt8} {t : Tm} (h : closedOf l = some t) : parse l = some t ∧ names [] t = [] := by
  unfold closedOf at h
  cases hp : parse l with
  | none => rw [hp] at h; cases h
  | some u =>
    rw [hp] at h
    by_cases hn : (names [] u).isEmpty = true
    · simp only [hn, if_true] at h
      obtain rfl := Option.some.inj h
      exact ⟨rfl, List.isEmpty_iff.1 hn⟩
    · simp only [hn] at h
      cases h
theorem codeT_facts {l : List UInt8} {c : Tm} (h : codeT l = some c) : ∃ t, closedOf l = some t ∧ c = code t ∧ c.fits = true ∧ c.good = true := by
  unfold codeT at h
  cases hp : closedOf l with
  | none => rw [hp] at h; cases h
  | some u =>
    rw [hp] at h
    by_cases hn : (code u).fits = true
    · simp only [hn, if_true] at h
      obtain rfl := Option.some.inj h
      exact ⟨u, rfl, rfl, hn, code_good u (parse_facts (closed_facts hp).1).1⟩
    · simp only [hn] at h
      cases h
/-- What an application comes to, if it is a term. -/
def endOf (t : Tm) : Option Tm := if t.fits then t.norm.map Prod.fst else none
def pCodeOf (l : List UInt8) : Option (List UInt8) := (codeT l).map text
def pCodeRun (l : List UInt8) : Option (List UInt8) := (codeT l).bind fun c => (endOf (app runC c)).map text
def pCodeJoin (l m : List UInt8) : Option (List UInt8) := (codeT l).bind fun c => (codeT m).bind fun d => (endOf (app (app joinC c) d)).map text
def pCodeQuote (l : List UInt8) : Option (List UInt8) := (codeT l).bind fun c => (endOf (app runC (code c))).map text
def pFixOf (l : List UInt8) : Option (List UInt8) := (parse l).bind fun t => if (app fix t).fits then some (text (app fix t)) else none
def pFixApply (l m : List UInt8) : Option (List UInt8) := match parse l, parse m with
  | some t, some u => (endOf (app (app fix t) u)).map text
  | _, _ => none
def word (w : List UInt8) : Option Tm :=
  if w = [114, 117, 110] then some runC else if w = [106, 111, 105, 110] then some joinC else if w = [113, 117, 111, 116, 101] then some quoteC else none
def pWord (w : List UInt8) : Option (List UInt8) := (word w).map text
theorem word_good {w : List UInt8} {t : Tm} (h : word w = some t) : t.good = true ∧ t.text.length ≤ 100000 := by
  unfold word at h
  repeat' split at h
  all_goals first | (obtain rfl := Option.some.inj h; exact ⟨by decide +kernel, by decide +kernel⟩) | cases h
theorem endOf_eq (t : Tm) : endOf t = if t.fits = true then (if (t.many 6000).1.normal = true then some (t.many 6000).1 else none) else none := by
  unfold endOf
  rw [norm_eq]
  split
  · split <;> rfl
  · rfl
theorem endOf_facts {t u : Tm} (h : endOf t = some u) (hg : t.good = true) : u.good = true ∧ u.fits = true := by
  rw [endOf_eq] at h
  split at h
  · rename_i hf
    split at h
    · obtain rfl := Option.some.inj h
      exact many_good 6000 _ hg hf
    · cases h
  · cases h
end Tm
end Go.Proofs.Ytfpekihdoclncaa

namespace Go.Proofs.Ytfpekihdoclncaa
open Go.RowKit

set_option maxHeartbeats 1000000
set_option maxRecDepth 100000

theorem ST.code4 : ∀ {t : Tm} {w : World} {v : Value}, ST w t v → (∀ n, Tm.has n t = false) → Calls Try.prog 59 #[v] w (TreePost w t.code) := by
  intro t
  induction t with
  | k =>
    intro w v h _
    obtain rfl : v = .agg #[str [107], .slice none 0 0] := h
    obtain ⟨Y, hY⟩ : ∃ Y, Y = ((w.alloc (.cells #[str [107], .slice none 0 0] 32)).alloc (.cells #[.string ⟨#[]⟩, .slice none 0 0] 32)).alloc (.cells #[str [120], str [121], str [122]] 9) := ⟨_, rfl⟩
    obtain ⟨os, hos⟩ : ∃ os : List Obj, os = [.cells #[str [107], .slice none 0 0] 32, .cells #[.string ⟨#[]⟩, .slice none 0 0] 32, .cells #[str [120], str [121], str [122]] 9] := ⟨_, rfl⟩
    have hX : Y = allocL w os := by rw [hY, hos]; rfl
    have hA : After w Y := by rw [hY]; exact (((After.new _ _).alloc _).alloc _)
    have g0 : Y.heap[w.heap.size]? = some (.cells #[str [107], .slice none 0 0] 32 (0, 0)) := by rw [hX]; have := allocL_heap w os 0 (by rw [hos]; simp); simpa [hos] using this
    have G0 := Lib.hid g0
    have g1 : Y.heap[w.heap.size + 1]? = some (.cells #[.string ⟨#[]⟩, .slice none 0 0] 32 (0, 0)) := by rw [hX]; have := allocL_heap w os 1 (by rw [hos]; simp); simpa [hos] using this
    have G1 := Lib.hid g1
    have g2 : Y.heap[w.heap.size + 1 + 1]? = some (.cells #[str [120], str [121], str [122]] 9 (0, 0)) := by rw [hX]; have := allocL_heap w os 2 (by rw [hos]; simp); simpa [hos] using this
    have G2 := Lib.hid g2
    have HA := Lib.hid hA
    have hself := (After.refl Y).drew
    clear hX hos hA g0 g1 g2
    have hn := s_nm Y [120]
    go_enter Try.func59, Try.ntmps59
    go_wp2_with fail
    rw [← hY]
    clear hY
    refine hn.mono ?_
    rintro e w1 ⟨rfl, hb1⟩
    have k1 := s_all3 w1 (w.heap.size + 1 + 1) Tm.X [120] none 0 0 rfl (by decide +kernel) (by kernel_rfl) (hb1.heap G2.out)
    rw [show lastL [[122], [121], [120]] Tm.X = Tm.kC by kernel_rfl] at k1
    unfold TreePost at k1
    clear hn
    go_wp2_with fail
    refine k1.mono ?_
    rintro e w2 ⟨s2, ao2, n2, c2, rfl, hb2, ht2⟩
    have G := (hb1.trans hb2).heap G1.out
    obtain ⟨z0, z1, z2, z3, _⟩ := pair_facts G (After.refl _)
    have HT := Lib.hid (ht2.sets2 (i := 0) (j := 1) (u := str s2) (u' := .slice ao2 n2 c2) G)
    have hAW := HA.out.trans (hb1.trans hb2)
    clear ht2 k1
    go_wp2_with fail
    refine bodyPost_ret (v := .agg #[str s2, .slice ao2 n2 c2]) (by simp [results, Try.results59, go_sem, z0, z1]) rfl
      ⟨s2, ao2, n2, c2, rfl, after_sets2 hAW G (by omega) _ _, HT.out⟩
  | s =>
    intro w v h _
    obtain rfl : v = .agg #[str [115], .slice none 0 0] := h
    obtain ⟨Y, hY⟩ : ∃ Y, Y = ((w.alloc (.cells #[str [115], .slice none 0 0] 32)).alloc (.cells #[.string ⟨#[]⟩, .slice none 0 0] 32)).alloc (.cells #[str [120], str [121], str [122]] 9) := ⟨_, rfl⟩
    obtain ⟨os, hos⟩ : ∃ os : List Obj, os = [.cells #[str [115], .slice none 0 0] 32, .cells #[.string ⟨#[]⟩, .slice none 0 0] 32, .cells #[str [120], str [121], str [122]] 9] := ⟨_, rfl⟩
    have hX : Y = allocL w os := by rw [hY, hos]; rfl
    have hA : After w Y := by rw [hY]; exact (((After.new _ _).alloc _).alloc _)
    have g0 : Y.heap[w.heap.size]? = some (.cells #[str [115], .slice none 0 0] 32 (0, 0)) := by rw [hX]; have := allocL_heap w os 0 (by rw [hos]; simp); simpa [hos] using this
    have G0 := Lib.hid g0
    have g1 : Y.heap[w.heap.size + 1]? = some (.cells #[.string ⟨#[]⟩, .slice none 0 0] 32 (0, 0)) := by rw [hX]; have := allocL_heap w os 1 (by rw [hos]; simp); simpa [hos] using this
    have G1 := Lib.hid g1
    have g2 : Y.heap[w.heap.size + 1 + 1]? = some (.cells #[str [120], str [121], str [122]] 9 (0, 0)) := by rw [hX]; have := allocL_heap w os 2 (by rw [hos]; simp); simpa [hos] using this
    have G2 := Lib.hid g2
    have HA := Lib.hid hA
    have hself := (After.refl Y).drew
    clear hX hos hA g0 g1 g2
    have hn := s_nm Y [121]
    go_enter Try.func59, Try.ntmps59
    go_wp2_with fail
    rw [← hY]
    clear hY
    refine hn.mono ?_
    rintro e w1 ⟨rfl, hb1⟩
    have k1 := s_all3 w1 (w.heap.size + 1 + 1) Tm.Y [121] none 0 0 rfl (by decide +kernel) (by kernel_rfl) (hb1.heap G2.out)
    rw [show lastL [[122], [121], [120]] Tm.Y = Tm.sC by kernel_rfl] at k1
    unfold TreePost at k1
    clear hn
    go_wp2_with fail
    refine k1.mono ?_
    rintro e w2 ⟨s2, ao2, n2, c2, rfl, hb2, ht2⟩
    have G := (hb1.trans hb2).heap G1.out
    obtain ⟨z0, z1, z2, z3, _⟩ := pair_facts G (After.refl _)
    have HT := Lib.hid (ht2.sets2 (i := 0) (j := 1) (u := str s2) (u' := .slice ao2 n2 c2) G)
    have hAW := HA.out.trans (hb1.trans hb2)
    clear ht2 k1
    go_wp2_with fail
    refine bodyPost_ret (v := .agg #[str s2, .slice ao2 n2 c2]) (by simp [results, Try.results59, go_sem, z0, z1]) rfl
      ⟨s2, ao2, n2, c2, rfl, after_sets2 hAW G (by omega) _ _, HT.out⟩
  | nm n =>
    intro w v _ h
    have := h n
    simp [Tm.has] at this
  | app f a ihf iha =>
    intro w v h hn
    have hnf : ∀ n, Tm.has n f = false := fun n => by have := hn n; simp [Tm.has] at this; exact this.1
    have hna : ∀ n, Tm.has n a = false := fun n => by have := hn n; simp [Tm.has] at this; exact this.2
    obtain ⟨g, cap, fr, s0, p0, s1, p1, rfl, hh, hf, ha⟩ := h
    have ihf : ∀ {W : World} {v : Value}, ST W f v → Calls Try.prog 59 #[v] W (TreePost W f.code) := fun h => ihf h hnf
    have iha : ∀ {W : World} {v : Value}, ST W a v → Calls Try.prog 59 #[v] W (TreePost W a.code) := fun h => iha h hna
    obtain ⟨Y, hY⟩ : ∃ Y, Y = (((w.alloc (.cells #[str [], .slice (some ⟨g, 0, none⟩) 2 cap] 32)).alloc (.cells #[.string ⟨#[]⟩, .slice none 0 0] 32)).alloc (.cells #[str [120], str [121], str [122]] 9)).alloc (.cells #[str [107], .slice none 0 0] 32) := ⟨_, rfl⟩
    obtain ⟨os, hos⟩ : ∃ os : List Obj, os = [.cells #[str [], .slice (some ⟨g, 0, none⟩) 2 cap] 32, .cells #[.string ⟨#[]⟩, .slice none 0 0] 32, .cells #[str [120], str [121], str [122]] 9, .cells #[str [107], .slice none 0 0] 32] := ⟨_, rfl⟩
    have hX : Y = allocL w os := by rw [hY, hos]; rfl
    have hA : After w Y := by rw [hY]; exact ((((After.new _ _).alloc _).alloc _).alloc _)
    have g0 : Y.heap[w.heap.size]? = some (.cells #[str [], .slice (some ⟨g, 0, none⟩) 2 cap] 32 (0, 0)) := by rw [hX]; have := allocL_heap w os 0 (by rw [hos]; simp); simpa [hos] using this
    have G0 := Lib.hid g0
    have g1 : Y.heap[w.heap.size + 1]? = some (.cells #[.string ⟨#[]⟩, .slice none 0 0] 32 (0, 0)) := by rw [hX]; have := allocL_heap w os 1 (by rw [hos]; simp); simpa [hos] using this
    have G1 := Lib.hid g1
    have g2 : Y.heap[w.heap.size + 1 + 1]? = some (.cells #[str [120], str [121], str [122]] 9 (0, 0)) := by rw [hX]; have := allocL_heap w os 2 (by rw [hos]; simp); simpa [hos] using this
    have G2 := Lib.hid g2
    have g3 : Y.heap[w.heap.size + 1 + 1 + 1]? = some (.cells #[str [107], .slice none 0 0] 32 (0, 0)) := by rw [hX]; have := allocL_heap w os 3 (by rw [hos]; simp); simpa [hos] using this
    have G3 := Lib.hid g3
    have HA := Lib.hid hA
    have hself := (After.refl Y).drew
    clear hX hos hA g0 g1 g2 g3
    have HF := Lib.hid (hf.later HA.out)
    have HT := Lib.hid (ha.later HA.out)
    have HH := Lib.hid (HA.out.heap hh)
    clear hf ha hh hn
    have hcode : Tm.code (.app f a) = .app .k (.app .k (Tm.pair (Tm.code f) (Tm.code a))) := rfl
    rw [hcode]
    clear hcode
    go_enter Try.func59, Try.ntmps59
    go_wp2_with fail
    rw [← hY]
    clear hY
    rename_i KK hKK
    refine wp_region_reg1 (n := 17) (by kernel_rfl) (by kernel_rfl) (by kernel_rfl) (by kernel_rfl) After After.refl (fun _ _ _ h g => h.trans g)
      (yds [.tree (.k), .tree (.k), .lit (.pointer (some ⟨w.heap.size, 1, none⟩)), .lit (.slice (some ⟨g, 0, none⟩) 2 cap), .lit (.pointer (some ⟨g, 0, none⟩)), .tree (f), .tree (Tm.code f), .lit (.pointer (some ⟨w.heap.size, 1, none⟩)), .lit (.slice (some ⟨g, 0, none⟩) 2 cap), .lit (.pointer (some ⟨g, 2, none⟩)), .tree (a), .tree (Tm.code a), .tree (Tm.pair (Tm.code f) (Tm.code a)), .row [Tm.pair (Tm.code f) (Tm.code a)], .tree (.app (.k) (Tm.pair (Tm.code f) (Tm.code a))), .row [.app (.k) (Tm.pair (Tm.code f) (Tm.code a))], .tree (.app (.k) (.app (.k) (Tm.pair (Tm.code f) (Tm.code a))))]) yds_later (lt17 ?_ ?_ ?_ ?_ ?_ ?_ ?_ ?_ ?_ ?_ ?_ ?_ ?_ ?_ ?_ ?_ ?_) ?_
    · intro vs W hE hd K hK
      have hE' : After Y W := hself.trans hE
      have G := hE'.heap G3.out
      exact do_load (.tree (.k)) (x := .tmp 4) (by kernel_rfl) (by kernel_rfl) (by kernel_rfl) (by kernel_rfl) (cell_of_heap (i := 0) G) (cell_of_heap (i := 1) G) ⟨_, _, _, _, rfl, rfl⟩ hK
    · intro vs W hE hd K hK
      have hE' : After Y W := hself.trans hE
      have G := hE'.heap G3.out
      exact do_load (.tree (.k)) (x := .tmp 4) (by kernel_rfl) (by kernel_rfl) (by kernel_rfl) (by kernel_rfl) (cell_of_heap (i := 0) G) (cell_of_heap (i := 1) G) ⟨_, _, _, _, rfl, rfl⟩ hK
    · intro vs W hE hd K hK
      have hE' : After Y W := hself.trans hE
      exact do_pure (v := .pointer (some ⟨w.heap.size, 1, none⟩)) (.lit (.pointer (some ⟨w.heap.size, 1, none⟩))) (by kernel_rfl) (by kernel_rfl) (by kernel_rfl) rfl hK
    · intro vs W hE hd K hK
      have hE' : After Y W := hself.trans hE
      have G := hE'.heap G0.out
      exact do_load1 (.lit (.slice (some ⟨g, 0, none⟩) 2 cap)) (x := .tmp 21) (u := vs 2) (by kernel_rfl) (by kernel_rfl) (by kernel_rfl) (by kernel_rfl) (hd 2 (by kernel_rfl)) (cell_of_heap (i := 1) G) rfl hK
    · intro vs W hE hd K hK
      have hE' : After Y W := hself.trans hE
      exact do_index0 (x := .tmp 22) (u := vs 3) (by kernel_rfl) (by kernel_rfl) (by kernel_rfl) (by kernel_rfl) (hd 3 (by kernel_rfl)) hK
    · intro vs W hE hd K hK
      have hE' : After Y W := hself.trans hE
      have G := hE'.heap HH.out
      exact do_loadu (.tree (f)) (x := .tmp 23) (u := vs 4) (by kernel_rfl) (by kernel_rfl) (by kernel_rfl) (by kernel_rfl) (hd 4 (by kernel_rfl)) (cell_of_heap (i := 0) G) (cell_of_heap (i := 1) G) (treeOf (HF.out.later hE')) hK
    · intro vs W hE hd K hK
      have hE' : After Y W := hself.trans hE
      exact do_call (Tm.code f) (f := 59) (args := #[vs 5]) (by kernel_rfl) (by kernel_rfl) (by kernel_rfl) (ihf (stOf (hd 5 (by kernel_rfl)))) hK
    · intro vs W hE hd K hK
      have hE' : After Y W := hself.trans hE
      exact do_pure (v := .pointer (some ⟨w.heap.size, 1, none⟩)) (.lit (.pointer (some ⟨w.heap.size, 1, none⟩))) (by kernel_rfl) (by kernel_rfl) (by kernel_rfl) rfl hK
    · intro vs W hE hd K hK
      have hE' : After Y W := hself.trans hE
      have G := hE'.heap G0.out
      exact do_load1 (.lit (.slice (some ⟨g, 0, none⟩) 2 cap)) (x := .tmp 26) (u := vs 7) (by kernel_rfl) (by kernel_rfl) (by kernel_rfl) (by kernel_rfl) (hd 7 (by kernel_rfl)) (cell_of_heap (i := 1) G) rfl hK
    · intro vs W hE hd K hK
      have hE' : After Y W := hself.trans hE
      exact do_index1 (x := .tmp 27) (u := vs 8) (by kernel_rfl) (by kernel_rfl) (by kernel_rfl) (by kernel_rfl) (hd 8 (by kernel_rfl)) hK
    · intro vs W hE hd K hK
      have hE' : After Y W := hself.trans hE
      have G := hE'.heap HH.out
      exact do_loadu (.tree (a)) (x := .tmp 28) (u := vs 9) (by kernel_rfl) (by kernel_rfl) (by kernel_rfl) (by kernel_rfl) (hd 9 (by kernel_rfl)) (cell_of_heap (i := 2) G) (cell_of_heap (i := 3) G) (treeOf (HT.out.later hE')) hK
    · intro vs W hE hd K hK
      have hE' : After Y W := hself.trans hE
      exact do_call (Tm.code a) (f := 59) (args := #[vs 10]) (by kernel_rfl) (by kernel_rfl) (by kernel_rfl) (iha (stOf (hd 10 (by kernel_rfl)))) hK
    · intro vs W hE hd K hK
      have hE' : After Y W := hself.trans hE
      exact do_call (Tm.pair (Tm.code f) (Tm.code a)) (f := 85) (args := #[vs 6, vs 11]) (by kernel_rfl) (by kernel_rfl) (by kernel_rfl) (s_pair4' W _ _ _ _ (hd 6 (by kernel_rfl)) (hd 11 (by kernel_rfl))) hK
    · intro vs W hE hd K hK
      have hE' : After Y W := hself.trans hE
      exact do_row1 (x := .tmp 31) (u := vs 12) (by kernel_rfl) (by kernel_rfl) (by kernel_rfl) (by kernel_rfl) (hd 12 (by kernel_rfl)) hK
    · intro vs W hE hd K hK
      have hE' : After Y W := hself.trans hE
      exact do_app (u1 := vs 1) (u2 := vs 13) (us := [Tm.pair (Tm.code f) (Tm.code a)]) (by kernel_rfl) (by kernel_rfl) (by kernel_rfl) (hd 1 (by kernel_rfl)) (hd 13 (by kernel_rfl)) (by simp) hK
    · intro vs W hE hd K hK
      have hE' : After Y W := hself.trans hE
      exact do_row1 (x := .tmp 33) (u := vs 14) (by kernel_rfl) (by kernel_rfl) (by kernel_rfl) (by kernel_rfl) (hd 14 (by kernel_rfl)) hK
    · intro vs W hE hd K hK
      have hE' : After Y W := hself.trans hE
      exact do_app (u1 := vs 0) (u2 := vs 15) (us := [.app (.k) (Tm.pair (Tm.code f) (Tm.code a))]) (by kernel_rfl) (by kernel_rfl) (by kernel_rfl) (hd 0 (by kernel_rfl)) (hd 15 (by kernel_rfl)) (by simp) hK
    intro vs W hE hd K hK
    have hE' : After Y W := hself.trans hE
    have G := hE'.heap G1.out
    refine do_store (.app (.k) (.app (.k) (Tm.pair (Tm.code f) (Tm.code a)))) (x := .tmp 2) (y := .tmp 35) (v := vs 16) (by kernel_rfl) (by kernel_rfl) (by kernel_rfl) (by kernel_rfl) (by kernel_rfl) (by kernel_rfl) (hd 16 (by decide)) G (fun rs ra rn rc hst => hK _ _ ?_)
    refine hKK _ _ ?_
    generalize hAA : frame _ _ vs = AA
    obtain rfl : AA = ⟨#[.agg #[str [], .slice (some ⟨g, 0, none⟩) 2 cap], .pointer (some ⟨w.heap.size, 0, none⟩), .pointer (some ⟨w.heap.size + 1, 0, none⟩), .slice (some ⟨w.heap.size + 1 + 1, 0, none⟩) 3 3, .pointer (some ⟨w.heap.size + 1 + 1 + 1, 0, none⟩), .slice (some ⟨w.heap.size + 1 + 1, 0, none⟩) 3 3, .pointer (some ⟨w.heap.size, 0, none⟩), str [], .bool false, .bool false, undef, undef, undef, .bool false, .bool false, undef, undef, undef, .agg #[str [107], .slice none 0 0], vs 0, vs 1, vs 2, vs 3, vs 4, vs 5, vs 6, vs 7, vs 8, vs 9, vs 10, vs 11, vs 12, vs 13, vs 14, vs 15, vs 16], []⟩ := by rw [← hAA]; kernel_rfl
    clear hAA hK
    obtain ⟨z0, z1, _, _, _⟩ := pair_facts G (After.refl _)
    have hAW := HA.out.trans hE'
    clear hd
    go_wp2_with fail
    refine bodyPost_ret (v := .agg #[str rs, .slice ra rn rc]) (by simp [results, Try.results59, go_sem, z0, z1]) rfl
      ⟨rs, ra, rn, rc, rfl, after_sets2 hAW G (by omega) _ _, hst⟩
end Go.Proofs.Ytfpekihdoclncaa

namespace Go.Proofs.Ytfpekihdoclncaa
open Go.RowKit

set_option maxHeartbeats 2000000
set_option maxRecDepth 100000

theorem s_run4 (w : World) : Calls Try.prog 37 #[] w (TreePost w Tm.runC) := by
  obtain ⟨Z, hZ⟩ : ∃ Z, Z = w.alloc (.cells #[.string ⟨#[]⟩, .slice none 0 0] 32) := ⟨_, rfl⟩
  have hAZ : After w Z := by rw [hZ]; exact After.new _ _
  have hGZ : Z.heap[w.heap.size]? = some (.cells #[.string ⟨#[]⟩, .slice none 0 0] 32 (0, 0)) := by rw [hZ]; exact heap_new' _ _
  have hn := s_nm Z [117]
  have HAZ := Lib.hid hAZ
  have HGZ := Lib.hid hGZ
  clear hAZ hGZ
  go_enter Try.func37, Try.ntmps37
  go_wp2_with fail
  rw [← hZ]
  clear hZ
  refine hn.mono ?_
  rintro e w1 ⟨rfl, hb1⟩
  clear hn
  go_wp2_with fail
  obtain ⟨Y, hY⟩ : ∃ Y, Y = w1.alloc (.cells #[str [117], .slice none 0 0] 32) := ⟨_, rfl⟩
  have hAY : After Z Y := by rw [hY]; exact hb1.alloc _
  have hGU : Y.heap[w1.heap.size]? = some (.cells #[str [117], .slice none 0 0] 32 (0, 0)) := by rw [hY]; exact heap_new' _ _
  have GU := Lib.hid hGU
  have GR0 := Lib.hid (hAY.heap HGZ.out)
  have AY := Lib.hid (HAZ.out.trans hAY)
  have hself := (After.refl Y).drew
  rw [← hY]
  clear hY hGU hAY hb1
  generalize w1.heap.size = u at GU ⊢
  rename_i KK2 hKK2
  refine wp_region_reg1 (n := 13) (by kernel_rfl) (by kernel_rfl) (by kernel_rfl) (by kernel_rfl) After After.refl (fun _ _ _ h g => h.trans g)
    (yds [.names [[120], [121]], .tree (Tm.U), .tree (.nm [120]), .row [.nm [120]], .tree (.app (Tm.U) (.nm [120])), .tree (Tm.U), .tree (.nm [121]), .row [.nm [121]], .tree (.app (Tm.U) (.nm [121])), .row [.app (Tm.U) (.nm [121])], .tree (.app (.app (Tm.U) (.nm [120])) (.app (Tm.U) (.nm [121]))), .tree (lastL [[121], [120]] (.app (.app (Tm.U) (.nm [120])) (.app (Tm.U) (.nm [121])))), .cell (Y.heap.size)]) yds_later (lt13 ?_ ?_ ?_ ?_ ?_ ?_ ?_ ?_ ?_ ?_ ?_ ?_ ?_) ?_
  · intro vs2 W2 hE2 hd2 K hK
    have hE2' : After Y W2 := hself.trans hE2
    exact do_names (xs := [[120], [121]]) (by kernel_rfl) (by kernel_rfl) (by kernel_rfl) hK
  · intro vs2 W2 hE2 hd2 K hK
    have hE2' : After Y W2 := hself.trans hE2
    have G2 := hE2'.heap GU.out
    exact do_load (.tree (Tm.U)) (x := .tmp 1) (by kernel_rfl) (by kernel_rfl) (by kernel_rfl) (by kernel_rfl) (cell_of_heap (i := 0) G2) (cell_of_heap (i := 1) G2) ⟨_, _, _, _, rfl, rfl⟩ hK
  · intro vs2 W2 hE2 hd2 K hK
    have hE2' : After Y W2 := hself.trans hE2
    exact do_name (x := [120]) (by kernel_rfl) (by kernel_rfl) (by kernel_rfl) hK
  · intro vs2 W2 hE2 hd2 K hK
    have hE2' : After Y W2 := hself.trans hE2
    exact do_row1 (x := .tmp 7) (u := vs2 2) (by kernel_rfl) (by kernel_rfl) (by kernel_rfl) (by kernel_rfl) (hd2 2 (by kernel_rfl)) hK
  · intro vs2 W2 hE2 hd2 K hK
    have hE2' : After Y W2 := hself.trans hE2
    exact do_app (u1 := vs2 1) (u2 := vs2 3) (us := [.nm [120]]) (by kernel_rfl) (by kernel_rfl) (by kernel_rfl) (hd2 1 (by kernel_rfl)) (hd2 3 (by kernel_rfl)) (by simp) hK
  · intro vs2 W2 hE2 hd2 K hK
    have hE2' : After Y W2 := hself.trans hE2
    have G2 := hE2'.heap GU.out
    exact do_load (.tree (Tm.U)) (x := .tmp 1) (by kernel_rfl) (by kernel_rfl) (by kernel_rfl) (by kernel_rfl) (cell_of_heap (i := 0) G2) (cell_of_heap (i := 1) G2) ⟨_, _, _, _, rfl, rfl⟩ hK
  · intro vs2 W2 hE2 hd2 K hK
    have hE2' : After Y W2 := hself.trans hE2
    exact do_name (x := [121]) (by kernel_rfl) (by kernel_rfl) (by kernel_rfl) hK
  · intro vs2 W2 hE2 hd2 K hK
    have hE2' : After Y W2 := hself.trans hE2
    exact do_row1 (x := .tmp 11) (u := vs2 6) (by kernel_rfl) (by kernel_rfl) (by kernel_rfl) (by kernel_rfl) (hd2 6 (by kernel_rfl)) hK
  · intro vs2 W2 hE2 hd2 K hK
    have hE2' : After Y W2 := hself.trans hE2
    exact do_app (u1 := vs2 5) (u2 := vs2 7) (us := [.nm [121]]) (by kernel_rfl) (by kernel_rfl) (by kernel_rfl) (hd2 5 (by kernel_rfl)) (hd2 7 (by kernel_rfl)) (by simp) hK
  · intro vs2 W2 hE2 hd2 K hK
    have hE2' : After Y W2 := hself.trans hE2
    exact do_row1 (x := .tmp 13) (u := vs2 8) (by kernel_rfl) (by kernel_rfl) (by kernel_rfl) (by kernel_rfl) (hd2 8 (by kernel_rfl)) hK
  · intro vs2 W2 hE2 hd2 K hK
    have hE2' : After Y W2 := hself.trans hE2
    exact do_app (u1 := vs2 4) (u2 := vs2 9) (us := [.app (Tm.U) (.nm [121])]) (by kernel_rfl) (by kernel_rfl) (by kernel_rfl) (hd2 4 (by kernel_rfl)) (hd2 9 (by kernel_rfl)) (by simp) hK
  · intro vs2 W2 hE2 hd2 K hK
    have hE2' : After Y W2 := hself.trans hE2
    exact do_all (u1 := vs2 0) (u2 := vs2 10) (xs := [[120], [121]]) (t := .app (.app (Tm.U) (.nm [120])) (.app (Tm.U) (.nm [121]))) (by kernel_rfl) (by kernel_rfl) (by kernel_rfl) (hd2 0 (by kernel_rfl)) (hd2 10 (by kernel_rfl)) (by decide) (by decide) (by decide +kernel) (by kernel_rfl) hK
  · intro vs2 W2 hE2 hd2 K hK
    have hE2' : After Y W2 := hself.trans hE2
    exact do_cell (by kernel_rfl) (by kernel_rfl) hE2'.size (by kernel_rfl) hK
  intro vs2 W2 hE2 hd2 K hK
  have hE2' : After Y W2 := hself.trans hE2
  obtain ⟨gg2, c02, c12, ec2, hg2, G2⟩ := hd2 12 (by decide)
  refine do_store_at (lastL [[121], [120]] (.app (.app (Tm.U) (.nm [120])) (.app (Tm.U) (.nm [121])))) (x := .tmp 2) (y := .tmp 16) (v := vs2 11) (p := c02) (q := c12) (u := vs2 12) (by kernel_rfl) (by kernel_rfl) (by kernel_rfl) (by kernel_rfl) (by kernel_rfl) ec2 (by kernel_rfl) (hd2 11 (by decide)) G2 (fun rs2 ra2 rn2 rc2 hst2 => hK _ _ ?_)
  refine hKK2 _ _ ?_
  generalize hAA : frame _ _ vs2 = AA
  obtain rfl : AA = ⟨#[.pointer (some ⟨w.heap.size, 0, none⟩), .pointer (some ⟨u, 0, none⟩), .pointer (some ⟨gg2, 0, none⟩), undef, .agg #[str [117], .slice none 0 0], vs2 0, vs2 1, vs2 2, vs2 3, vs2 4, vs2 5, vs2 6, vs2 7, vs2 8, vs2 9, vs2 10, vs2 11, undef, undef, undef, undef, undef, undef, undef, undef, undef, undef, undef, undef], []⟩ := by rw [← hAA, ← ec2]; kernel_rfl
  clear hAA hK
  obtain ⟨Y3, hY3⟩ : ∃ X, X = (W2.setCell ⟨gg2, 0, none⟩ (str rs2)).setCell ⟨gg2, 1, none⟩ (.slice ra2 rn2 rc2) := ⟨_, rfl⟩
  have hAY3 : After Y Y3 := by rw [hY3]; exact after_sets2 hE2' G2 hg2 _ _
  have hGY3 : Y3.heap[gg2]? = some (.cells #[str rs2, .slice ra2 rn2 rc2] 32 (0, 0)) := by rw [hY3]; exact heap_sets2 G2
  rw [← hY3] at hst2 ⊢
  have GY3 := Lib.hid hGY3
  have SY3 := Lib.hid hst2
  have AY3 := Lib.hid hAY3
  have hselfY3 := (After.refl Y3).drew
  clear hY3 hGY3 hst2 hAY3 G2 hd2 hE2 hE2' hg2 ec2
  go_wp2_with fail
  rename_i KK3 hKK3
  refine wp_region_reg1 (n := 9) (by kernel_rfl) (by kernel_rfl) (by kernel_rfl) (by kernel_rfl) After After.refl (fun _ _ _ h g => h.trans g)
    (yds [.names [[117], [118]], .tree (.nm [118]), .tree .k, .tree .s, .tree (lastL [[121], [120]] (.app (.app (Tm.U) (.nm [120])) (.app (Tm.U) (.nm [121])))), .row [.k, .s, lastL [[121], [120]] (.app (.app (Tm.U) (.nm [120])) (.app (Tm.U) (.nm [121])))], .tree (.app (.app (.app (.nm [118]) (.k)) (.s)) (lastL [[121], [120]] (.app (.app (Tm.U) (.nm [120])) (.app (Tm.U) (.nm [121]))))), .tree (lastL [[118], [117]] (.app (.app (.app (.nm [118]) (.k)) (.s)) (lastL [[121], [120]] (.app (.app (Tm.U) (.nm [120])) (.app (Tm.U) (.nm [121])))))), .cell (Y3.heap.size)]) yds_later (lt9 ?_ ?_ ?_ ?_ ?_ ?_ ?_ ?_ ?_) ?_
  · intro vs3 W3 hE3 hd3 K hK
    have hE3' : After Y3 W3 := hselfY3.trans hE3
    exact do_names (xs := [[117], [118]]) (by kernel_rfl) (by kernel_rfl) (by kernel_rfl) hK
  · intro vs3 W3 hE3 hd3 K hK
    have hE3' : After Y3 W3 := hselfY3.trans hE3
    exact do_name (x := [118]) (by kernel_rfl) (by kernel_rfl) (by kernel_rfl) hK
  · intro vs3 W3 hE3 hd3 K hK
    have hE3' : After Y3 W3 := hselfY3.trans hE3
    exact do_pure (v := .agg #[str [107], .slice none 0 0]) (.tree .k) (by kernel_rfl) (by kernel_rfl) (by kernel_rfl) ⟨_, _, _, _, rfl, rfl⟩ hK
  · intro vs3 W3 hE3 hd3 K hK
    have hE3' : After Y3 W3 := hselfY3.trans hE3
    exact do_pure (v := .agg #[str [115], .slice none 0 0]) (.tree .s) (by kernel_rfl) (by kernel_rfl) (by kernel_rfl) ⟨_, _, _, _, rfl, rfl⟩ hK
  · intro vs3 W3 hE3 hd3 K hK
    have hE3' : After Y3 W3 := hselfY3.trans hE3
    have G3 := hE3'.heap GY3.out
    exact do_load (.tree (lastL [[121], [120]] (.app (.app (Tm.U) (.nm [120])) (.app (Tm.U) (.nm [121]))))) (x := .tmp 2) (by kernel_rfl) (by kernel_rfl) (by kernel_rfl) (by kernel_rfl) (cell_of_heap (i := 0) G3) (cell_of_heap (i := 1) G3) ⟨_, _, _, _, rfl, SY3.out.later hE3'⟩ hK
  · intro vs3 W3 hE3 hd3 K hK
    have hE3' : After Y3 W3 := hselfY3.trans hE3
    exact do_row3 (x := .tmp 19) (y := .tmp 20) (z := .tmp 21) (u := vs3 2) (v := vs3 3) (q := vs3 4) (by kernel_rfl) (by kernel_rfl) (by kernel_rfl) (by kernel_rfl) (by kernel_rfl) (by kernel_rfl) (hd3 2 (by kernel_rfl)) (hd3 3 (by kernel_rfl)) (hd3 4 (by kernel_rfl)) hK
  · intro vs3 W3 hE3 hd3 K hK
    have hE3' : After Y3 W3 := hselfY3.trans hE3
    exact do_app (u1 := vs3 1) (u2 := vs3 5) (us := [.k, .s, lastL [[121], [120]] (.app (.app (Tm.U) (.nm [120])) (.app (Tm.U) (.nm [121])))]) (by kernel_rfl) (by kernel_rfl) (by kernel_rfl) (hd3 1 (by kernel_rfl)) (hd3 5 (by kernel_rfl)) (by simp) hK
  · intro vs3 W3 hE3 hd3 K hK
    have hE3' : After Y3 W3 := hselfY3.trans hE3
    exact do_all (u1 := vs3 0) (u2 := vs3 6) (xs := [[117], [118]]) (t := .app (.app (.app (.nm [118]) (.k)) (.s)) (lastL [[121], [120]] (.app (.app (Tm.U) (.nm [120])) (.app (Tm.U) (.nm [121]))))) (by kernel_rfl) (by kernel_rfl) (by kernel_rfl) (hd3 0 (by kernel_rfl)) (hd3 6 (by kernel_rfl)) (by decide) (by decide) (by decide +kernel) (by kernel_rfl) hK
  · intro vs3 W3 hE3 hd3 K hK
    have hE3' : After Y3 W3 := hselfY3.trans hE3
    exact do_cell (by kernel_rfl) (by kernel_rfl) hE3'.size (by kernel_rfl) hK
  intro vs3 W3 hE3 hd3 K hK
  have hE3' : After Y3 W3 := hselfY3.trans hE3
  obtain ⟨gg3, c03, c13, ec3, hg3, G3⟩ := hd3 8 (by decide)
  refine do_store_at (lastL [[118], [117]] (.app (.app (.app (.nm [118]) (.k)) (.s)) (lastL [[121], [120]] (.app (.app (Tm.U) (.nm [120])) (.app (Tm.U) (.nm [121])))))) (x := .tmp 3) (y := .tmp 24) (v := vs3 7) (p := c03) (q := c13) (u := vs3 8) (by kernel_rfl) (by kernel_rfl) (by kernel_rfl) (by kernel_rfl) (by kernel_rfl) ec3 (by kernel_rfl) (hd3 7 (by decide)) G3 (fun rs3 ra3 rn3 rc3 hst3 => hK _ _ ?_)
  refine hKK3 _ _ ?_
  generalize hAA : frame _ _ vs3 = AA
  obtain rfl : AA = ⟨#[.pointer (some ⟨w.heap.size, 0, none⟩), .pointer (some ⟨u, 0, none⟩), .pointer (some ⟨gg2, 0, none⟩), .pointer (some ⟨gg3, 0, none⟩), .agg #[str [117], .slice none 0 0], vs2 0, vs2 1, vs2 2, vs2 3, vs2 4, vs2 5, vs2 6, vs2 7, vs2 8, vs2 9, vs2 10, vs2 11, vs3 0, vs3 1, vs3 2, vs3 3, vs3 4, vs3 5, vs3 6, vs3 7, undef, undef, undef, undef], []⟩ := by rw [← hAA, ← ec3]; kernel_rfl
  clear hAA hK
  obtain ⟨Y4, hY4⟩ : ∃ X, X = (W3.setCell ⟨gg3, 0, none⟩ (str rs3)).setCell ⟨gg3, 1, none⟩ (.slice ra3 rn3 rc3) := ⟨_, rfl⟩
  have hAY4 : After Y3 Y4 := by rw [hY4]; exact after_sets2 hE3' G3 hg3 _ _
  have hGY4 : Y4.heap[gg3]? = some (.cells #[str rs3, .slice ra3 rn3 rc3] 32 (0, 0)) := by rw [hY4]; exact heap_sets2 G3
  rw [← hY4] at hst3 ⊢
  have GY4 := Lib.hid hGY4
  have SY4 := Lib.hid hst3
  have AY4 := Lib.hid hAY4
  have hselfY4 := (After.refl Y4).drew
  clear hY4 hGY4 hst3 hAY4 G3 hd3 hE3 hE3' hg3 ec3
  have GR := Lib.hid (AY4.out.heap (AY3.out.heap GR0.out))
  go_wp2_with fail
  rename_i KK4 hKK4
  refine wp_region_reg1 (n := 4) (by kernel_rfl) (by kernel_rfl) (by kernel_rfl) (by kernel_rfl) After After.refl (fun _ _ _ h g => h.trans g)
    (yds [.tree (Tm.fix), .tree (lastL [[118], [117]] (.app (.app (.app (.nm [118]) (.k)) (.s)) (lastL [[121], [120]] (.app (.app (Tm.U) (.nm [120])) (.app (Tm.U) (.nm [121])))))), .row [lastL [[118], [117]] (.app (.app (.app (.nm [118]) (.k)) (.s)) (lastL [[121], [120]] (.app (.app (Tm.U) (.nm [120])) (.app (Tm.U) (.nm [121])))))], .tree (.app (Tm.fix) (lastL [[118], [117]] (.app (.app (.app (.nm [118]) (.k)) (.s)) (lastL [[121], [120]] (.app (.app (Tm.U) (.nm [120])) (.app (Tm.U) (.nm [121])))))))]) yds_later (lt4 ?_ ?_ ?_ ?_) ?_
  · intro vs4 W4 hE4 hd4 K hK
    have hE4' : After Y4 W4 := hselfY4.trans hE4
    exact do_call (Tm.fix) (f := 43) (args := #[]) (by kernel_rfl) (by kernel_rfl) (by kernel_rfl) (s_fix W4) hK
  · intro vs4 W4 hE4 hd4 K hK
    have hE4' : After Y4 W4 := hselfY4.trans hE4
    have G4 := hE4'.heap GY4.out
    exact do_load (.tree (lastL [[118], [117]] (.app (.app (.app (.nm [118]) (.k)) (.s)) (lastL [[121], [120]] (.app (.app (Tm.U) (.nm [120])) (.app (Tm.U) (.nm [121]))))))) (x := .tmp 3) (by kernel_rfl) (by kernel_rfl) (by kernel_rfl) (by kernel_rfl) (cell_of_heap (i := 0) G4) (cell_of_heap (i := 1) G4) ⟨_, _, _, _, rfl, SY4.out.later hE4'⟩ hK
  · intro vs4 W4 hE4 hd4 K hK
    have hE4' : After Y4 W4 := hselfY4.trans hE4
    exact do_row1 (x := .tmp 26) (u := vs4 1) (by kernel_rfl) (by kernel_rfl) (by kernel_rfl) (by kernel_rfl) (hd4 1 (by kernel_rfl)) hK
  · intro vs4 W4 hE4 hd4 K hK
    have hE4' : After Y4 W4 := hselfY4.trans hE4
    exact do_app (u1 := vs4 0) (u2 := vs4 2) (us := [lastL [[118], [117]] (.app (.app (.app (.nm [118]) (.k)) (.s)) (lastL [[121], [120]] (.app (.app (Tm.U) (.nm [120])) (.app (Tm.U) (.nm [121])))))]) (by kernel_rfl) (by kernel_rfl) (by kernel_rfl) (hd4 0 (by kernel_rfl)) (hd4 2 (by kernel_rfl)) (by simp) hK
  intro vs4 W4 hE4 hd4 K hK
  have hE4' : After Y4 W4 := hselfY4.trans hE4
  have G4 := hE4'.heap GR.out
  refine do_store (.app (Tm.fix) (lastL [[118], [117]] (.app (.app (.app (.nm [118]) (.k)) (.s)) (lastL [[121], [120]] (.app (.app (Tm.U) (.nm [120])) (.app (Tm.U) (.nm [121]))))))) (x := .tmp 0) (y := .tmp 28) (v := vs4 3) (by kernel_rfl) (by kernel_rfl) (by kernel_rfl) (by kernel_rfl) (by kernel_rfl) (by kernel_rfl) (hd4 3 (by decide)) G4 (fun rs4 ra4 rn4 rc4 hst4 => hK _ _ ?_)
  refine hKK4 _ _ ?_
  generalize hAA : frame _ _ vs4 = AA
  obtain rfl : AA = ⟨#[.pointer (some ⟨w.heap.size, 0, none⟩), .pointer (some ⟨u, 0, none⟩), .pointer (some ⟨gg2, 0, none⟩), .pointer (some ⟨gg3, 0, none⟩), .agg #[str [117], .slice none 0 0], vs2 0, vs2 1, vs2 2, vs2 3, vs2 4, vs2 5, vs2 6, vs2 7, vs2 8, vs2 9, vs2 10, vs2 11, vs3 0, vs3 1, vs3 2, vs3 3, vs3 4, vs3 5, vs3 6, vs3 7, vs4 0, vs4 1, vs4 2, vs4 3], []⟩ := by rw [← hAA]; kernel_rfl
  clear hAA hK
  obtain ⟨z0, z1, _, _, _⟩ := pair_facts G4 (After.refl _)
  have hAW := ((AY.out.trans AY3.out).trans AY4.out).trans hE4'
  rw [show (.app (Tm.fix) (lastL [[118], [117]] (.app (.app (.app (.nm [118]) (.k)) (.s)) (lastL [[121], [120]] (.app (.app (Tm.U) (.nm [120])) (.app (Tm.U) (.nm [121])))))) : Tm) = Tm.runC by kernel_rfl] at hst4
  clear hd4
  go_wp2_with fail
  refine bodyPost_ret (v := .agg #[str rs4, .slice ra4 rn4 rc4]) (by simp [results, Try.results37, go_sem, z0, z1]) rfl
    ⟨rs4, ra4, rn4, rc4, rfl, after_sets2 hAW G4 (Nat.le_refl _) _ _, hst4⟩
end Go.Proofs.Ytfpekihdoclncaa
