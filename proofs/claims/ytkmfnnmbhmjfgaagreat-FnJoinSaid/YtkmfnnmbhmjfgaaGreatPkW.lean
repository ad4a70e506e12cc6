/-
  Codes in plain mathematics: the code of a term, the interpreter, the joiner, the quoter; what the functions of chapter 4 answer.
-/
import Derived.Test.YtkmfnnmbhmjfgaaGreatPkB
import Derived.Test.YtkmfnnmbhmjfgaaGreatPkU
import Derived.Test.YtkmfnnmbhmjfgaaGreatPkC
namespace Go.Proofs.YtkmfnnmbhmjfgaaGreat

namespace Tm
def U : Tm := .nm [117]
def VV : Tm := .nm [118]
def kC : Tm := abs [120] (abs [121] (abs [122] X))
def sC : Tm := abs [120] (abs [121] (abs [122] Y))
def appC (f a : Tm) : Tm := app k (app k (pair f a))
/-- The code of a term; a name stands for any code. -/
def code : Tm → Tm
  | k => kC
  | s => sC
  | nm n => nm n
  | app f a => appC (code f) (code a)
def recC (a b c : Tm) : Tm := app fix (abs [117] (abs [118] (app (app (app VV a) b) (abs [120] (abs [121] c)))))
def runC : Tm := recC k s (app (app U X) (app U Y))
def joinC : Tm := abs [117] (abs [118] (abs [120] (abs [121] (abs [122] (app (app Z U) VV)))))
def quoteC : Tm := recC (code kC) (code sC) (app (app joinC (app (app joinC (code joinC)) (app U X))) (app U Y))

theorem kC_size : kC.size = 4 := by decide +kernel
theorem sC_size : sC.size = 2 := by decide +kernel
theorem code_size_le : ∀ t : Tm, (code t).size + 9 ≤ 13 * t.size
  | k => by rw [code, kC_size]; decide
  | s => by rw [code, sC_size]; decide
  | nm n => by simp [code, size]
  | app f a => by
    have := code_size_le f
    have := code_size_le a
    simp only [code, appC, size, size_pair]
    omega
/-- Codes of closed terms are large. -/
theorem code_size_ge : ∀ t : Tm, (∀ n, t ≠ nm n) → (∀ x ∈ names [] t, False) → 11 * t.size ≤ (code t).size + 9
  | k, _, _ => by rw [code, kC_size]; decide
  | s, _, _ => by rw [code, sC_size]; decide
  | nm n, h, _ => absurd rfl (h n)
  | app f a, _, h => by
    have hn : ∀ x, has x (app f a) = false := fun x => by
      cases hx : has x (app f a) with
      | false => rfl
      | true => exact (h x ((mem_names x (app f a) []).2 (Or.inr hx))).elim
    have hfa : ∀ x, has x f = false ∧ has x a = false := fun x => by have := hn x; simpa [has] using this
    have hf : ∀ x ∈ names [] f, False := fun x hx => by
      rcases (mem_names x f []).1 hx with h' | h'
      · cases h'
      · rw [(hfa x).1] at h'; cases h'
    have ha : ∀ x ∈ names [] a, False := fun x hx => by
      rcases (mem_names x a []).1 hx with h' | h'
      · cases h'
      · rw [(hfa x).2] at h'; cases h'
    have nf : ∀ n, f ≠ nm n := fun n e => by
      subst e
      have := (hfa n).1
      simp [has] at this
    have na : ∀ n, a ≠ nm n := fun n e => by
      subst e
      have := (hfa n).2
      simp [has] at this
    have := code_size_ge f nf hf
    have := code_size_ge a na ha
    simp only [code, appC, size, size_pair]
    omega
theorem code_good : ∀ t : Tm, t.good = true → (code t).good = true
  | k, _ => by decide +kernel
  | s, _ => by decide +kernel
  | nm n, h => h
  | app f a, h => by
    simp only [good, Bool.and_eq_true] at h
    simp only [code, appC, good, good_pair, code_good f h.1, code_good a h.2]
    rfl
/-- A closed term read from a text. -/
def closedOf (l : List UInt8) : Option Tm := match parse l with
  | some t => if (names [] t).isEmpty then some t else none
  | none => none
/-- The code of the closed term of a text, if it is a term. -/
def codeT (l : List UInt8) : Option Tm := match closedOf l with
  | some t => if (code t).fits then some (code t) else none
  | none => none
theorem closed_facts {l : List UInt8} {t : Tm} (h : closedOf l = some t) : parse l = some t ∧ names [] t = [] := by
  unfold closedOf at h
  cases hp : parse l with
  | none => rw [hp] at h; cases h
  | some u =>
    rw [hp] at h
    by_cases hn : (names [] u).isEmpty = true
    · simp only [hn, if_true] at h
      obtain rfl := Option.some.inj h
      exact ⟨rfl, List.isEmpty_iff.1 hn⟩
    · simp only [hn] at h
      cases h
theorem codeT_facts {l : List UInt8} {c : Tm} (h : codeT l = some c) : ∃ t, closedOf l = some t ∧ c = code t ∧ c.fits = true ∧ c.good = true := by
  unfold codeT at h
  cases hp : closedOf l with
  | none => rw [hp] at h; cases h
  | some u =>
    rw [hp] at h
    by_cases hn : (code u).fits = true
    · simp only [hn, if_true] at h
      obtain rfl := Option.some.inj h
      exact ⟨u, rfl, rfl, hn, code_good u (parse_facts (closed_facts hp).1).1⟩
    · simp only [hn] at h
      cases h
/-- What an application comes to, if it is a term. -/
def endOf (t : Tm) : Option Tm := if t.fits then t.norm.map Prod.fst else none
def pCodeOf (l : List UInt8) : Option (List UInt8) := (codeT l).map text
def pCodeRun (l : List UInt8) : Option (List UInt8) := (codeT l).bind fun c => (endOf (app runC c)).map text
def pCodeJoin (l m : List UInt8) : Option (List UInt8) := (codeT l).bind fun c => (codeT m).bind fun d => (endOf (app (app joinC c) d)).map text
def pCodeQuote (l : List UInt8) : Option (List UInt8) := (codeT l).bind fun c => (endOf (app runC (code c))).map text
def pFixOf (l : List UInt8) : Option (List UInt8) := (parse l).bind fun t => if (app fix t).fits then some (text (app fix t)) else none
def pFixApply (l m : List UInt8) : Option (List UInt8) := match parse l, parse m with
  | some t, some u => (endOf (app (app fix t) u)).map text
  | _, _ => none
def word (w : List UInt8) : Option Tm :=
  if w = [114, 117, 110] then some runC else if w = [106, 111, 105, 110] then some joinC else if w = [113, 117, 111, 116, 101] then some quoteC else none
def pWord (w : List UInt8) : Option (List UInt8) := (word w).map text
theorem word_good {w : List UInt8} {t : Tm} (h : word w = some t) : t.good = true ∧ t.text.length ≤ 100000 := by
  unfold word at h
  repeat' split at h
  all_goals first | (obtain rfl := Option.some.inj h; exact ⟨by decide +kernel, by decide +kernel⟩) | cases h
theorem endOf_eq (t : Tm) : endOf t = if t.fits = true then (if (t.many 6000).1.normal = true then some (t.many 6000).1 else none) else none := by
  unfold endOf
  rw [norm_eq]
  split
  · split <;> rfl
  · rfl
theorem endOf_facts {t u : Tm} (h : endOf t = some u) (hg : t.good = true) : u.good = true ∧ u.fits = true := by
  rw [endOf_eq] at h
  split at h
  · rename_i hf
    split at h
    · obtain rfl := Option.some.inj h
      exact many_good 6000 _ hg hf
    · cases h
  · cases h
end Tm
end Go.Proofs.YtkmfnnmbhmjfgaaGreat

namespace Go.Proofs.YtkmfnnmbhmjfgaaGreat
open Go.RowKit

set_option maxHeartbeats 1000000
set_option maxRecDepth 100000

theorem code_names (w : World) : Calls Tryz.prog 63 #[] w fun e w' => e = .returned (.slice (some ⟨w.heap.size, 0, none⟩) 3 3) ∧ w' = w.alloc (.cells #[str [120], str [121], str [122]] 9 (0, 0)) := by
  go_enter Tryz.func63, Tryz.ntmps63
  go_wp2_with fail
  go_ret
  exact ⟨rfl, rfl⟩

/-- Names in a block. -/
theorem strsB_of {W : World} {g m : Nat} (xs : List (List UInt8)) {fr : Nat × Nat} (hg : g < m) (h : W.heap[g]? = some (.cells (xs.map str).toArray 9 fr)) : StrsB m W (.slice (some ⟨g, 0, none⟩) xs.length xs.length) xs :=
  Or.inr ⟨g, 0, xs.length, rfl, hg, fun j hj => by
    rw [Nat.zero_add, cell_of_heap h]
    simp [hj]⟩

theorem kcode_any (w : World) (B : Nat) (hB : B ≤ w.heap.size) : Calls Tryz.prog 48 #[] w (TermPost w B Tm.kC) := by
  obtain ⟨os, hos⟩ : ∃ os : List Obj, os = [.cells #[str [120], str [121], str [122]] 9, .cells #[str [120]] 71] := ⟨_, rfl⟩
  have hX : allocL w os = (w.alloc (.cells #[str [120], str [121], str [122]] 9)).alloc (.cells #[str [120]] 71) := by rw [hos]; rfl
  have hA := allocL_below w os
  have hsz := allocL_size w os
  have h0 : (allocL w os).heap[w.heap.size]? = some (.cells #[str [120], str [121], str [122]] 9 (0, 0)) := by have := allocL_heap w os 0 (by rw [hos]; simp); simpa [hos] using this
  have h1 : (allocL w os).heap[w.heap.size + 1]? = some (.cells #[str [120]] 71 (0, 0)) := by have := allocL_heap w os 1 (by rw [hos]; simp); simpa [hos] using this
  have hx := nm_val (B := B) h1 (by omega)
  have hc := absAll_any (allocL w os) B [[120], [121], [122]] _ Tm.X _ (strsB_of (m := (allocL w os).heap.size) [[120], [121], [122]] (by rw [hsz, hos]; simp) h0) hx (Nat.le_trans hB hA.size) (by decide) (by decide +kernel)
  rw [show FT.absAll [[120], [121], [122]] Tm.X = Tm.kC by kernel_rfl] at hc
  rw [hX] at hc hA
  unfold TermPost at hc
  have hn := code_names w
  clear hx h0 h1 hX hsz hos
  go_enter Tryz.func48, Tryz.ntmps48
  go_wp2_with fail
  refine hn.mono ?_
  rintro e w1 ⟨rfl, rfl⟩
  clear hn
  go_wp2_with fail
  refine hc.mono ?_
  rintro e w2 ⟨v2, rfl, hb2, ht2⟩
  have HT := Lib.hid ht2
  clear ht2 hc
  go_wp2_with fail
  go_ret
  exact ⟨_, rfl, below_trans hA hb2, HT.out⟩

theorem scode_any (w : World) (B : Nat) (hB : B ≤ w.heap.size) : Calls Tryz.prog 49 #[] w (TermPost w B Tm.sC) := by
  obtain ⟨os, hos⟩ : ∃ os : List Obj, os = [.cells #[str [120], str [121], str [122]] 9, .cells #[str [121]] 71] := ⟨_, rfl⟩
  have hX : allocL w os = (w.alloc (.cells #[str [120], str [121], str [122]] 9)).alloc (.cells #[str [121]] 71) := by rw [hos]; rfl
  have hA := allocL_below w os
  have hsz := allocL_size w os
  have h0 : (allocL w os).heap[w.heap.size]? = some (.cells #[str [120], str [121], str [122]] 9 (0, 0)) := by have := allocL_heap w os 0 (by rw [hos]; simp); simpa [hos] using this
  have h1 : (allocL w os).heap[w.heap.size + 1]? = some (.cells #[str [121]] 71 (0, 0)) := by have := allocL_heap w os 1 (by rw [hos]; simp); simpa [hos] using this
  have hx := nm_val (B := B) h1 (by omega)
  have hc := absAll_any (allocL w os) B [[120], [121], [122]] _ Tm.Y _ (strsB_of (m := (allocL w os).heap.size) [[120], [121], [122]] (by rw [hsz, hos]; simp) h0) hx (Nat.le_trans hB hA.size) (by decide) (by decide +kernel)
  rw [show FT.absAll [[120], [121], [122]] Tm.Y = Tm.sC by kernel_rfl] at hc
  rw [hX] at hc hA
  unfold TermPost at hc
  have hn := code_names w
  clear hx h0 h1 hX hsz hos
  go_enter Tryz.func49, Tryz.ntmps49
  go_wp2_with fail
  refine hn.mono ?_
  rintro e w1 ⟨rfl, rfl⟩
  clear hn
  go_wp2_with fail
  refine hc.mono ?_
  rintro e w2 ⟨v2, rfl, hb2, ht2⟩
  have HT := Lib.hid ht2
  clear ht2 hc
  go_wp2_with fail
  go_ret
  exact ⟨_, rfl, below_trans hA hb2, HT.out⟩

theorem appC_any (w : World) (B : Nat) (f a : Tm) (v1 v2 : Value) (h1 : TV w B f v1) (h2 : TV w B a v2) (hB : B ≤ w.heap.size) (hz : f.size + a.size ≤ 100000000) :
    Calls Tryz.prog 50 #[v1, v2] w (TermPost w B (Tm.appC f a)) := by
  obtain ⟨os, hos⟩ : ∃ os : List Obj, os = [.cells #[] 92, .cells #[] 92] := ⟨_, rfl⟩
  have hX : allocL w os = (w.alloc (.cells #[] 92)).alloc (.cells #[] 92) := by rw [hos]; rfl
  have hA := allocL_below w os
  have g0 : (allocL w os).heap[w.heap.size]? = some (.cells #[] 92 (0, 0)) := by have := allocL_heap w os 0 (by rw [hos]; simp); simpa [hos] using this
  have g1 : (allocL w os).heap[w.heap.size + 1]? = some (.cells #[] 92 (0, 0)) := by have := allocL_heap w os 1 (by rw [hos]; simp); simpa [hos] using this
  have hk0 : TV (allocL w os) B .k (.iface 90 (.pointer (some ⟨w.heap.size, 0, none⟩))) := ⟨_, _, rfl, hB, g0⟩
  have hk1 : TV (allocL w os) B .k (.iface 90 (.pointer (some ⟨w.heap.size + 1, 0, none⟩))) := ⟨_, _, rfl, by omega, g1⟩
  have hp := pair_any (allocL w os) B f a v1 v2 (h1.below hA) (h2.below hA) (Nat.le_trans hB hA.size) hz
  have hps := Tm.size_pair f a
  unfold TermPost at hp
  rw [hX] at hp hk0 hk1 hA
  have HK0 := Lib.hid hk0
  have HK1 := Lib.hid hk1
  obtain ⟨T1, x1, rfl, _⟩ := h1.asks
  obtain ⟨T2, x2, rfl, _⟩ := h2.asks
  have hk : Tm.k.size = 1 := rfl
  clear g0 g1 hk0 hk1 hX hos h1 h2
  go_enter Tryz.func50, Tryz.ntmps50
  go_wp2_with fail
  refine hp.mono ?_
  rintro e w1 ⟨v3, rfl, hb1, ht1⟩
  have hb01 := below_trans hA hb1
  have hc2 := apply_any w1 B .k _ _ v3 (HK1.out.below hb1) ht1 (Nat.le_trans hB hb01.size) (by omega)
  clear ht1 hp
  go_wp2_with fail
  refine hc2.mono ?_
  rintro e w2 ⟨v4, rfl, hb2, ht2⟩
  have hb02 := below_trans hb01 hb2
  have hc3 := apply_any w2 B .k _ _ v4 (HK0.out.below (below_trans hb1 hb2)) ht2 (Nat.le_trans hB hb02.size) (by simp only [Tm.size]; omega)
  clear ht2 hc2
  go_wp2_with fail
  refine hc3.mono ?_
  rintro e w3 ⟨v5, rfl, hb3, ht3⟩
  have HT := Lib.hid ht3
  clear ht3 hc3
  go_wp2_with fail
  go_ret
  exact ⟨_, rfl, below_trans hb02 hb3, HT.out⟩

theorem as_k_k (W : World) (x : Value) : (Instr.typeAssert (.iface 90 x) 33 90 true).run Tryz.prog W = .ok (.tuple #[x, .bool true]) W := by kernel_rfl
theorem as_k_s (W : World) (x : Value) : (Instr.typeAssert (.iface 93 x) 33 90 true).run Tryz.prog W = .ok (.tuple #[.pointer none, .bool false]) W := by kernel_rfl
theorem as_k_n (W : World) (x : Value) : (Instr.typeAssert (.iface 67 x) 33 90 true).run Tryz.prog W = .ok (.tuple #[.pointer none, .bool false]) W := by kernel_rfl
theorem as_k_a (W : World) (x : Value) : (Instr.typeAssert (.iface 63 x) 33 90 true).run Tryz.prog W = .ok (.tuple #[.pointer none, .bool false]) W := by kernel_rfl
theorem as_s_s (W : World) (x : Value) : (Instr.typeAssert (.iface 93 x) 33 93 true).run Tryz.prog W = .ok (.tuple #[x, .bool true]) W := by kernel_rfl
theorem as_s_n (W : World) (x : Value) : (Instr.typeAssert (.iface 67 x) 33 93 true).run Tryz.prog W = .ok (.tuple #[.pointer none, .bool false]) W := by kernel_rfl
theorem as_s_a (W : World) (x : Value) : (Instr.typeAssert (.iface 63 x) 33 93 true).run Tryz.prog W = .ok (.tuple #[.pointer none, .bool false]) W := by kernel_rfl

theorem codeOf_any : ∀ {t : Tm} {w : World} {B : Nat} {v : Value}, TV w B t v → B ≤ w.heap.size → t.size ≤ 1000000 → Calls Tryz.prog 28 #[v] w (TermPost w B t.code) := by
  intro t
  induction t with
  | k =>
    intro w B v h hB _
    obtain ⟨b, fr, rfl, _, _⟩ := h
    have ha1 := as_k_k w (.pointer (some ⟨b, 0, none⟩))
    have hc := kcode_any w B hB
    unfold TermPost at hc
    go_enter Tryz.func28, Tryz.ntmps28
    go_wp2_with fail
    refine hc.mono ?_
    rintro e w1 ⟨v1, rfl, hb1, ht1⟩
    have HT := Lib.hid ht1
    clear ht1 hc
    go_wp2_with fail
    go_ret
    exact ⟨_, rfl, hb1, HT.out⟩
  | s =>
    intro w B v h hB _
    obtain ⟨b, fr, rfl, _, _⟩ := h
    have ha1 := as_k_s w (.pointer (some ⟨b, 0, none⟩))
    have ha2 := as_s_s w (.pointer (some ⟨b, 0, none⟩))
    have hc := scode_any w B hB
    unfold TermPost at hc
    go_enter Tryz.func28, Tryz.ntmps28
    go_wp2_with fail
    refine hc.mono ?_
    rintro e w1 ⟨v1, rfl, hb1, ht1⟩
    have HT := Lib.hid ht1
    clear ht1 hc
    go_wp2_with fail
    go_ret
    exact ⟨_, rfl, hb1, HT.out⟩
  | nm n =>
    intro w B v h hB _
    have HT := Lib.hid h
    obtain ⟨b, fr, rfl, _, _⟩ := h
    have ha1 := as_k_n w (.pointer (some ⟨b, 0, none⟩))
    have ha2 := as_s_n w (.pointer (some ⟨b, 0, none⟩))
    have ha3 := assert_n w (.pointer (some ⟨b, 0, none⟩))
    go_enter Tryz.func28, Tryz.ntmps28
    go_wp2_with fail
    go_ret
    exact ⟨_, rfl, Below.refl _ _, HT.out⟩
  | app f a ihf iha =>
    intro w B v h hB hz
    obtain ⟨b, fr, vf, va, rfl, hb, hh, hf, ha⟩ := h
    obtain ⟨T1, x1, rfl, _⟩ := hf.asks
    obtain ⟨T2, x2, rfl, _⟩ := ha.asks
    simp only [Tm.size] at hz
    have hzf := Tm.code_size_le f
    have hza := Tm.code_size_le a
    have h0 := cell_later' (cell_of_heap (i := 0) hh)
    have h1 := cell_later' (cell_of_heap (i := 1) hh)
    simp at h0 h1
    have ihf' := fun W' (hW : Below w.heap.size w W') => ihf (hf.below hW) (Nat.le_trans hB hW.size) (by omega)
    have iha' := fun W' (hW : Below w.heap.size w W') => iha (ha.below hW) (Nat.le_trans hB hW.size) (by omega)
    have ha1 := as_k_a w (.pointer (some ⟨b, 0, none⟩))
    have ha2 := as_s_a w (.pointer (some ⟨b, 0, none⟩))
    have ha3 := assert_app w (.pointer (some ⟨b, 0, none⟩))
    have hself := Below.refl w.heap.size w
    unfold TermPost at ihf' iha'
    clear ihf iha hf ha hh
    rw [show Tm.code (.app f a) = Tm.appC f.code a.code from rfl]
    go_enter Tryz.func28, Tryz.ntmps28
    go_wp2_with fail
    go_region_held3 (fun W' => Below w.heap.size w W') (first | assumption | exact hself.drew | go_keep)
      (first
        | (go_at_call_of 28 x1; refine (ihf' _ (by first | assumption | exact hself.drew)).mono ?_; rintro e w1 ⟨r1, rfl, hb1, ht1⟩; have HT1 := Lib.hid ht1; clear ht1; have hb1' := below_trans (by first | assumption | exact hself.drew) hb1)
        | (go_at_call_of 28 x2; refine (iha' _ (by assumption)).mono ?_; rintro e w2 ⟨r2, rfl, hb2, ht2⟩; have HT2 := Lib.hid ht2; clear ht2; have hb2' := below_trans (by assumption) hb2)
        | (go_at_call 50; refine (appC_any _ B f.code a.code r1 r2 (HT1.out.below hb2) HT2.out (Nat.le_trans hB hb2'.size) (by omega)).mono ?_; rintro e w3 ⟨r3, rfl, hb3, ht3⟩; have HT3 := Lib.hid ht3; clear ht3; have hb3' := below_trans hb2' hb3))
    all_goals
      go_wp2_with fail
      go_ret
      exact ⟨_, rfl, hb3', HT3.out⟩

end Go.Proofs.YtkmfnnmbhmjfgaaGreat

namespace Go.Proofs.YtkmfnnmbhmjfgaaGreat
open Go.RowKit

set_option maxHeartbeats 1000000
set_option maxRecDepth 100000

theorem codeOfText_any (w : World) (B : Nat) (l : List UInt8) (hB : B ≤ w.heap.size) (hl : l.length ≤ 1000000000) :
    Calls Tryz.prog 11 #[str l] w (DataPost w B (Tm.codeT l)) := by
  have hread := readTerm_any w B l hB hl
  unfold ParsePost at hread
  cases hp : Tm.parse l with
  | none =>
    have hfin : Tm.codeT l = none := by simp [Tm.codeT, Tm.closedOf, hp]
    rw [hp] at hread
    rw [hfin]
    clear hp hfin
    go_enter Tryz.func11, Tryz.ntmps11
    go_wp2_with (go_at_call 21; refine hread.mono ?_; rintro e w1 ⟨v1, rfl, hb1, hv1⟩; clear hv1)
    go_ret2
    exact ⟨_, rfl, hb1, fun t h => by cases h⟩
  | some t =>
    obtain ⟨hg, hf, hs, _, _⟩ := Tm.parse_facts hp
    rw [hp] at hread
    obtain ⟨k, hk⟩ : ∃ k, k = (t.names []).length := ⟨_, rfl⟩
    have hcode : Tm.codeT l = if k = 0 then (if (Tm.code t).fits = true then some (Tm.code t) else none) else none := by
      unfold Tm.codeT Tm.closedOf
      rw [hp, hk]
      by_cases h0 : (t.names []) = []
      · simp [h0]
      · have : ¬ (t.names []).length = 0 := fun e => h0 (List.length_eq_zero_iff.1 e)
        have h0' : (t.names []).isEmpty = false := by simpa using h0
        simp [h0', this]
    have HK := Lib.hid hk
    rw [hcode]
    clear hcode hp hk
    by_cases hk0 : k = 0
    · subst hk0
      have hcz := Tm.code_size_le t
      simp only [if_true]
      obtain ⟨b, hb⟩ : ∃ b, b = (Tm.code t).fits := ⟨_, rfl⟩
      have hpost : ∀ W v, Below w.heap.size w W → TV W B (Tm.code t) v → DataPost w B (if (Tm.code t).fits = true then some (Tm.code t) else none) (.returned (.tuple #[v, .bool b])) W := fun W v hb' ht => by
        rw [← hb]
        cases b with
        | true => exact ⟨_, rfl, hb', fun t' h => by obtain rfl := Option.some.inj h; exact ht⟩
        | false => exact ⟨_, rfl, hb', fun t' h => by cases h⟩
      generalize (if (Tm.code t).fits = true then some (Tm.code t) else none) = R at hpost ⊢
      have HPOST := Lib.hid hpost
      have HB := Lib.hid hb
      clear hpost hb
      go_enter Tryz.func11, Tryz.ntmps11
      go_wp2_with fail
      refine hread.mono ?_
      rintro e w1 ⟨v1, rfl, hb1, hv1⟩
      have ht1 := hv1 t rfl
      have hn := namesOf_any w1 _ t v1 ht1 hg (by omega)
      have HT1 := Lib.hid ht1
      clear hv1 hread ht1
      go_wp2_with (go_at_call 27; refine hn.mono ?_; rintro e w2 ⟨sv, rfl, hb2, ho2⟩; rw [← HK.out] at ho2; obtain ⟨ao, ac, rfl⟩ := own_slice_len ho2; clear ho2)
      have hb12 := below_trans hb1 hb2
      have hcall := codeOf_any (HT1.out.below hb2) (Nat.le_trans hB hb12.size) (by omega)
      unfold TermPost at hcall
      clear hn
      refine hcall.mono ?_
      rintro e w3 ⟨v3, rfl, hb3, ht3⟩
      have hfit := fits_any w3 B _ v3 ht3
      rw [← HB.out] at hfit
      have HT3 := Lib.hid ht3
      clear ht3 hcall
      go_wp2_with (go_at_call 29; refine hfit.mono ?_; rintro e w4 ⟨rfl, hb4⟩)
      go_ret2
      exact HPOST.out _ _ (below_trans (below_trans hb12 hb3) hb4) (HT3.out.below hb4)
    · have hk1 : 0 < (k : Int) := by omega
      rw [if_neg hk0]
      go_enter Tryz.func11, Tryz.ntmps11
      go_wp2_with fail
      refine hread.mono ?_
      rintro e w1 ⟨v1, rfl, hb1, hv1⟩
      have hn := namesOf_any w1 _ t v1 (hv1 t rfl) hg (by omega)
      clear hv1 hread
      go_wp2_with (go_at_call 27; refine hn.mono ?_; rintro e w2 ⟨sv, rfl, hb2, ho2⟩; rw [← HK.out] at ho2; obtain ⟨ao, ac, rfl⟩ := own_slice_len ho2; clear ho2)
      go_ret2
      exact ⟨_, rfl, below_trans hb1 hb2, fun t h => by cases h⟩

theorem applyNormal_any (w : World) (B : Nat) (f a : Tm) (vf va : Value) (hf : TV w B f vf) (ha : TV w B a va) (hB : B ≤ w.heap.size) (hz : f.size + a.size ≤ 1000000000) :
    Calls Tryz.prog 12 #[vf, va] w (DataPost w B (Tm.endOf (.app f a))) := by
  have happ := apply_any w B f a vf va hf ha hB (by omega)
  rw [Tm.endOf_eq]
  clear hf ha
  cases hfa : (Tm.app f a).fits with
  | false =>
    simp only [Bool.false_eq_true, if_false]
    go_enter Tryz.func12, Tryz.ntmps12
    go_wp2_with fail
    refine happ.mono ?_
    rintro e w2 ⟨v3, rfl, hb2, hv3⟩
    have hfit := fits_any w2 _ _ v3 hv3
    rw [hfa] at hfit
    clear hv3
    go_wp2_with (go_at_call 29; refine hfit.mono ?_; rintro e w4 ⟨rfl, hb4⟩)
    go_ret2
    exact ⟨_, rfl, below_trans hb2 hb4, fun t h => by cases h⟩
  | true =>
    have hnorm := fun W v h hB => normalTerm_any W B (Tm.app f a) v h hB hfa
    unfold NormPost at hnorm
    simp only [if_true]
    generalize hmm : (Tm.app f a).many 6000 = mm at *
    clear hmm
    obtain ⟨x, c⟩ := mm
    simp only at hnorm ⊢
    generalize hb : x.normal = b at *
    have HF := Lib.hid hfa
    clear hb hfa
    have hpost : ∀ W v, Below w.heap.size w W → TV W B x v → DataPost w B (if b = true then some x else none) (.returned (.tuple #[v, .bool b])) W := fun W v hb' ht => by
      cases b with
      | true => exact ⟨_, rfl, hb', fun t' h => by obtain rfl := Option.some.inj h; exact ht⟩
      | false => exact ⟨_, rfl, hb', fun t' h => by cases h⟩
    generalize (if b = true then some x else none) = R at hpost ⊢
    have HPOST := Lib.hid hpost
    clear hpost
    go_enter Tryz.func12, Tryz.ntmps12
    go_wp2_with fail
    refine happ.mono ?_
    rintro e w2 ⟨v3, rfl, hb2, hv3⟩
    have hfit := fits_any w2 _ _ v3 hv3
    rw [HF.out] at hfit
    have HV3 := Lib.hid hv3
    clear hv3 happ
    go_wp2_with (go_at_call 29; refine hfit.mono ?_; rintro e w4 ⟨rfl, hb4⟩)
    have hb24 := below_trans hb2 hb4
    have hcall2 := hnorm w4 v3 (HV3.out.below hb4) (Nat.le_trans hB hb24.size)
    clear hnorm hfit
    refine hcall2.mono ?_
    rintro e w6 ⟨v6, rfl, hb6, hv6⟩
    have HV6 := Lib.hid hv6
    clear hv6 hcall2
    go_wp2_with fail
    go_ret2
    exact HPOST.out _ _ (below_trans hb24 hb6) HV6.out
end Go.Proofs.YtkmfnnmbhmjfgaaGreat

namespace Go.Proofs.YtkmfnnmbhmjfgaaGreat
open Go.RowKit

set_option maxHeartbeats 1000000
set_option maxRecDepth 100000

theorem join_any (w : World) (B : Nat) (hB : B ≤ w.heap.size) : Calls Tryz.prog 14 #[] w (TermPost w B Tm.joinC) := by
  obtain ⟨os, hos⟩ : ∃ os : List Obj, os = [.cells #[str [117]] 71, .cells #[str [118]] 71, .cells #[str [122]] 71, .cells #[str [117], str [118], str [120], str [121], str [122]] 9, .cells #[.iface 67 (.pointer (some ⟨w.heap.size, 0, none⟩)), .iface 67 (.pointer (some ⟨w.heap.size + 1, 0, none⟩))] 33] := ⟨_, rfl⟩
  have hX : allocL w os = ((((w.alloc (.cells #[str [117]] 71)).alloc (.cells #[str [118]] 71)).alloc (.cells #[str [122]] 71)).alloc (.cells #[str [117], str [118], str [120], str [121], str [122]] 9)).alloc (.cells #[.iface 67 (.pointer (some ⟨w.heap.size, 0, none⟩)), .iface 67 (.pointer (some ⟨w.heap.size + 1, 0, none⟩))] 33) := by rw [hos]; rfl
  have hA := allocL_below w os
  have g0 : (allocL w os).heap[w.heap.size]? = some (.cells #[str [117]] 71 (0, 0)) := by have := allocL_heap w os 0 (by rw [hos]; simp); simpa [hos] using this
  have g1 : (allocL w os).heap[w.heap.size + 1]? = some (.cells #[str [118]] 71 (0, 0)) := by have := allocL_heap w os 1 (by rw [hos]; simp); simpa [hos] using this
  have g2 : (allocL w os).heap[w.heap.size + 1 + 1]? = some (.cells #[str [122]] 71 (0, 0)) := by have := allocL_heap w os 2 (by rw [hos]; simp); simpa [hos] using this
  have g3 : (allocL w os).heap[w.heap.size + 1 + 1 + 1]? = some (.cells #[str [117], str [118], str [120], str [121], str [122]] 9 (0, 0)) := by have := allocL_heap w os 3 (by rw [hos]; simp); simpa [hos] using this
  have g4 : (allocL w os).heap[w.heap.size + 1 + 1 + 1 + 1]? = some (.cells #[.iface 67 (.pointer (some ⟨w.heap.size, 0, none⟩)), .iface 67 (.pointer (some ⟨w.heap.size + 1, 0, none⟩))] 33 (0, 0)) := by have := allocL_heap w os 4 (by rw [hos]; simp); simpa [hos] using this
  have k1 := applyAll2 (allocL w os) B _ Tm.Z Tm.U Tm.VV _ _ _ (0, 0) g4 (nm_val g2 (by omega)) (nm_val g0 hB) (nm_val g1 (by omega)) (Nat.le_trans hB hA.size) (by decide)
  unfold TermPost at k1
  have hcell : ∀ W, Below (allocL w os).heap.size (allocL w os) W → StrsB W.heap.size W (.slice (some ⟨w.heap.size + 1 + 1 + 1, 0, none⟩) 5 5) [[117], [118], [120], [121], [122]] := fun W hW =>
    strsB_of (m := W.heap.size) [[117], [118], [120], [121], [122]] (Nat.lt_of_lt_of_le (Array.getElem?_eq_some_iff.1 g3).1 hW.size) (heap_later g3 hW)
  rw [hX] at k1 hA hcell
  have HC := Lib.hid hcell
  clear g0 g1 g2 g3 g4 hX hos hcell
  go_enter Tryz.func14, Tryz.ntmps14
  go_wp2_with fail
  refine k1.mono ?_
  rintro e w1 ⟨r1, rfl, hb1, ht1⟩
  have hb01 := below_trans hA hb1
  have k2 := absAll_any w1 B [[117], [118], [120], [121], [122]] _ _ r1 (HC.out w1 hb1) ht1 (Nat.le_trans hB hb01.size) (by decide) (by decide)
  rw [show FT.absAll [[117], [118], [120], [121], [122]] (Tm.app (.app Tm.Z Tm.U) Tm.VV) = Tm.joinC from rfl] at k2
  unfold TermPost at k2
  clear ht1 k1 HC
  go_wp2_with fail
  refine k2.mono ?_
  rintro e w2 ⟨r2, rfl, hb2, ht2⟩
  have HT := Lib.hid ht2
  clear ht2 k2
  go_wp2_with fail
  go_ret
  exact ⟨_, rfl, below_trans hb01 hb2, HT.out⟩

end Go.Proofs.YtkmfnnmbhmjfgaaGreat

namespace Go.Proofs.YtkmfnnmbhmjfgaaGreat
open Go.RowKit

set_option maxHeartbeats 1000000
set_option maxRecDepth 100000

/-- A text handed back, or nothing. -/
def TextRes' (w : World) (r : Option (List UInt8)) (e : Ending) (w' : World) : Prop :=
  e = .returned (.tuple #[str (r.getD []), .bool r.isSome]) ∧ Below w.heap.size w w'

theorem text_small {t : Tm} (hg : t.good = true) (hf : t.fits = true) : t.text.length ≤ 1000000 := by
  have htm := Tm.text_le _ hg
  have hsm := fits_size hf
  omega

theorem impl_codeOf (w : World) (l : List UInt8) (hl : l.length ≤ 1000000000) :
    Calls Tryz.prog 7 #[str l] w (TextRes' w (Tm.pCodeOf l)) := by
  have hc := codeOfText_any w w.heap.size l (Nat.le_refl _) hl
  unfold DataPost at hc
  unfold Tm.pCodeOf
  cases hp : Tm.codeT l with
  | none =>
    rw [hp] at hc
    clear hp
    go_enter Tryz.func7, Tryz.ntmps7
    go_wp2_with fail
    refine hc.mono ?_
    rintro e w1 ⟨v1, rfl, hb1, hv1⟩
    clear hv1 hc
    go_wp2_with fail
    go_ret2
    exact ⟨rfl, hb1⟩
  | some c =>
    obtain ⟨hf, hg⟩ : c.fits = true ∧ c.good = true := by obtain ⟨_, _, _, hf, hg⟩ := Tm.codeT_facts hp; exact ⟨hf, hg⟩
    have htx := text_small hg hf
    rw [hp] at hc
    clear hp
    go_enter Tryz.func7, Tryz.ntmps7
    go_wp2_with fail
    refine hc.mono ?_
    rintro e w1 ⟨v1, rfl, hb1, hv1⟩
    have htext := textOf_any w1 _ c v1 (hv1 c rfl) hg htx
    clear hv1 hc
    go_wp2_with (go_at_call 15; refine htext.mono ?_; rintro e w2 ⟨rfl, hb2⟩)
    go_ret2
    exact ⟨rfl, below_trans hb1 hb2⟩

end Go.Proofs.YtkmfnnmbhmjfgaaGreat

namespace Go.Proofs.YtkmfnnmbhmjfgaaGreat
open Go.RowKit

set_option maxHeartbeats 1000000
set_option maxRecDepth 100000

/-- What an end is written as. -/
theorem end_small {t u : Tm} (h : Tm.endOf t = some u) (hg : t.good = true) : u.good = true ∧ u.text.length ≤ 1000000 :=
  ⟨(Tm.endOf_facts h hg).1, text_small (Tm.endOf_facts h hg).1 (Tm.endOf_facts h hg).2⟩

theorem pApply_end (l m : List UInt8) : Tm.pApply l m = match Tm.parse l, Tm.parse m with
  | some t, some u => (Tm.endOf (.app t u)).map Tm.text
  | _, _ => none := by
  unfold Tm.pApply Tm.endOf
  split
  · rename_i t u h1 h2
    simp only [h1, h2]
    split
    · cases ((t.app u).norm) <;> rfl
    · rfl
  · rename_i h
    split
    · rename_i t u h1 h2; exact absurd h2 (h t u h1)
    · rfl

end Go.Proofs.YtkmfnnmbhmjfgaaGreat

namespace Go.Proofs.YtkmfnnmbhmjfgaaGreat
open Go.RowKit

set_option maxHeartbeats 1000000
set_option maxRecDepth 100000

theorem run_good : Tm.runC.good = true ∧ Tm.runC.size ≤ 1000 := ⟨by decide +kernel, by decide +kernel⟩
theorem join_good : Tm.joinC.good = true ∧ Tm.joinC.size ≤ 1000 := ⟨by decide +kernel, by decide +kernel⟩

theorem impl_codeJoin (w : World) (l m : List UInt8) (hl : l.length ≤ 1000000000) (hm : m.length ≤ 1000000000) :
    Calls Tryz.prog 5 #[str l, str m] w (TextRes' w (Tm.pCodeJoin l m)) := by
  have hc := codeOfText_any w w.heap.size l (Nat.le_refl _) hl
  have hd := fun W hB => codeOfText_any W w.heap.size m hB hm
  unfold DataPost at hc hd
  unfold Tm.pCodeJoin
  cases hp : Tm.codeT l with
  | none =>
    rw [hp] at hc
    clear hp hd
    go_enter Tryz.func5, Tryz.ntmps5
    go_wp2_with fail
    refine hc.mono ?_
    rintro e w1 ⟨v1, rfl, hb1, hv1⟩
    clear hv1 hc
    go_wp2_with fail
    go_ret2
    exact ⟨rfl, hb1⟩
  | some c =>
    obtain ⟨hf, hg⟩ : c.fits = true ∧ c.good = true := by obtain ⟨_, _, _, hf, hg⟩ := Tm.codeT_facts hp; exact ⟨hf, hg⟩
    have hcs := fits_size hf
    rw [hp] at hc
    clear hp
    show Calls _ _ _ _ (TextRes' w ((Tm.codeT m).bind fun d => (Tm.endOf (.app (.app Tm.joinC c) d)).map Tm.text))
    cases hq : Tm.codeT m with
    | none =>
      simp only [hq] at hd
      clear hq
      go_enter Tryz.func5, Tryz.ntmps5
      go_wp2_with fail
      refine hc.mono ?_
      rintro e w1 ⟨v1, rfl, hb1, hv1⟩
      clear hv1 hc
      go_wp2_with fail
      refine (hd _ hb1.size).mono ?_
      rintro e w2 ⟨v2, rfl, hb2, hv2⟩
      clear hv2 hd
      go_wp2_with fail
      go_ret2
      exact ⟨rfl, below_trans hb1 hb2⟩
    | some d =>
      obtain ⟨hfd, hgd⟩ : d.fits = true ∧ d.good = true := by obtain ⟨_, _, _, hf, hg⟩ := Tm.codeT_facts hq; exact ⟨hf, hg⟩
      have hds := fits_size hfd
      simp only [hq] at hd
      clear hq
      obtain ⟨rg, rz⟩ := join_good
      have hga : (Tm.app (.app Tm.joinC c) d).good = true := by simp [Tm.good, rg, hg, hgd]
      show Calls _ _ _ _ (TextRes' w ((Tm.endOf (.app (.app Tm.joinC c) d)).map Tm.text))
      have hjoin := fun W hB => join_any W w.heap.size hB
      have hcall := fun W v1 v2 h1 h2 hB => applyNormal_any W w.heap.size (.app Tm.joinC c) d v1 v2 h1 h2 hB (by simp only [Tm.size]; omega)
      unfold DataPost at hcall
      unfold TermPost at hjoin
      cases hE : Tm.endOf (.app (.app Tm.joinC c) d) with
      | none =>
        simp only [hE] at hcall
        clear hE
        go_enter Tryz.func5, Tryz.ntmps5
        go_wp2_with fail
        refine hc.mono ?_
        rintro e w1 ⟨v1, rfl, hb1, hv1⟩
        have HV1 := Lib.hid (hv1 c rfl)
        clear hv1 hc
        go_wp2_with fail
        refine (hd _ hb1.size).mono ?_
        rintro e w2 ⟨v2, rfl, hb2, hv2⟩
        have HV2 := Lib.hid (hv2 d rfl)
        have hb12 := below_trans hb1 hb2
        clear hv2 hd
        go_wp2_with fail
        refine (hjoin _ hb12.size).mono ?_
        rintro e w3 ⟨v3, rfl, hb3, ht3⟩
        have hb13 := below_trans hb12 hb3
        have happ := apply_any w3 _ _ _ v3 v1 ht3 (HV1.out.below (below_trans hb2 hb3)) hb13.size (by omega)
        clear ht3 hjoin
        go_wp2_with fail
        refine happ.mono ?_
        rintro e w4 ⟨v4, rfl, hb4, ht4⟩
        have hb14 := below_trans hb13 hb4
        have hn := hcall w4 v4 v2 ht4 (HV2.out.below (below_trans hb3 hb4)) hb14.size
        clear ht4 happ hcall
        go_wp2_with fail
        refine hn.mono ?_
        rintro e w5 ⟨v5, rfl, hb5, hv5⟩
        clear hv5 hn
        go_wp2_with fail
        go_ret2
        exact ⟨rfl, below_trans hb14 hb5⟩
      | some x =>
        obtain ⟨hgx, htx⟩ := end_small hE hga
        simp only [hE] at hcall
        clear hE
        go_enter Tryz.func5, Tryz.ntmps5
        go_wp2_with fail
        refine hc.mono ?_
        rintro e w1 ⟨v1, rfl, hb1, hv1⟩
        have HV1 := Lib.hid (hv1 c rfl)
        clear hv1 hc
        go_wp2_with fail
        refine (hd _ hb1.size).mono ?_
        rintro e w2 ⟨v2, rfl, hb2, hv2⟩
        have HV2 := Lib.hid (hv2 d rfl)
        have hb12 := below_trans hb1 hb2
        clear hv2 hd
        go_wp2_with fail
        refine (hjoin _ hb12.size).mono ?_
        rintro e w3 ⟨v3, rfl, hb3, ht3⟩
        have hb13 := below_trans hb12 hb3
        have happ := apply_any w3 _ _ _ v3 v1 ht3 (HV1.out.below (below_trans hb2 hb3)) hb13.size (by omega)
        clear ht3 hjoin
        go_wp2_with fail
        refine happ.mono ?_
        rintro e w4 ⟨v4, rfl, hb4, ht4⟩
        have hb14 := below_trans hb13 hb4
        have hn := hcall w4 v4 v2 ht4 (HV2.out.below (below_trans hb3 hb4)) hb14.size
        clear ht4 happ hcall
        go_wp2_with fail
        refine hn.mono ?_
        rintro e w5 ⟨v5, rfl, hb5, hv5⟩
        have htext := textOf_any w5 _ x v5 (hv5 x rfl) hgx htx
        clear hv5 hn
        go_wp2_with (go_at_call 15; refine htext.mono ?_; rintro e w7 ⟨rfl, hb7⟩)
        go_ret2
        exact ⟨rfl, below_trans (below_trans hb14 hb5) hb7⟩

end Go.Proofs.YtkmfnnmbhmjfgaaGreat
