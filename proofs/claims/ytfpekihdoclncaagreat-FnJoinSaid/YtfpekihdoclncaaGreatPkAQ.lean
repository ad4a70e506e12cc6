/-
  The program's codes: codeNames, kCode, sCode, applicationCode, codeOf, codeOfText, applyNormal.
-/
import Derived.Test.YtfpekihdoclncaaGreatPkAN
import Derived.Test.YtfpekihdoclncaaGreatPkAP
import Derived.Test.YtfpekihdoclncaaGreatPkAI
import Derived.Laws.OwnMore
namespace Go.Proofs.YtfpekihdoclncaaGreat
open Go.RowKit

set_option maxHeartbeats 1000000
set_option maxRecDepth 100000

theorem code_names (w : World) : Calls Tryz.prog 64 #[] w fun e w' => e = .returned (.slice (some ⟨w.heap.size, 0, none⟩) 3 3) ∧ w' = w.alloc (.cells #[str [120], str [121], str [122]] 9 (0, 0)) := by
  go_enter Tryz.func64, Tryz.ntmps64
  go_wp2_with fail
  go_ret
  exact ⟨rfl, rfl⟩

/-- Names in a block. -/
theorem strsB_of {W : World} {g m : Nat} (xs : List (List UInt8)) {fr : Nat × Nat} (hg : g < m) (h : W.heap[g]? = some (.cells (xs.map str).toArray 9 fr)) : StrsB m W (.slice (some ⟨g, 0, none⟩) xs.length xs.length) xs :=
  Or.inr ⟨g, 0, xs.length, rfl, hg, fun j hj => by
    rw [Nat.zero_add, cell_of_heap h]
    simp [hj]⟩

theorem kcode_any (w : World) (B : Nat) (hB : B ≤ w.heap.size) : Calls Tryz.prog 49 #[] w (TermPost w B Tm.kC) := by
  obtain ⟨os, hos⟩ : ∃ os : List Obj, os = [.cells #[str [120], str [121], str [122]] 9, .cells #[str [120]] 67] := ⟨_, rfl⟩
  have hX : allocL w os = (w.alloc (.cells #[str [120], str [121], str [122]] 9)).alloc (.cells #[str [120]] 67) := by rw [hos]; rfl
  have hA := allocL_below w os
  have hsz := allocL_size w os
  have h0 : (allocL w os).heap[w.heap.size]? = some (.cells #[str [120], str [121], str [122]] 9 (0, 0)) := by have := allocL_heap w os 0 (by rw [hos]; simp); simpa [hos] using this
  have h1 : (allocL w os).heap[w.heap.size + 1]? = some (.cells #[str [120]] 67 (0, 0)) := by have := allocL_heap w os 1 (by rw [hos]; simp); simpa [hos] using this
  have hx := nm_val (B := B) h1 (by omega)
  have hc := absAll_any (allocL w os) B [[120], [121], [122]] _ Tm.X _ (strsB_of (m := (allocL w os).heap.size) [[120], [121], [122]] (by rw [hsz, hos]; simp) h0) hx (Nat.le_trans hB hA.size) (by decide) (by decide +kernel)
  rw [show FT.absAll [[120], [121], [122]] Tm.X = Tm.kC by kernel_rfl] at hc
  rw [hX] at hc hA
  unfold TermPost at hc
  have hn := code_names w
  clear hx h0 h1 hX hsz hos
  go_enter Tryz.func49, Tryz.ntmps49
  go_wp2_with fail
  refine hn.mono ?_
  rintro e w1 ⟨rfl, rfl⟩
  clear hn
  go_wp2_with fail
  refine hc.mono ?_
  rintro e w2 ⟨v2, rfl, hb2, ht2⟩
  have HT := Lib.hid ht2
  clear ht2 hc
  go_wp2_with fail
  go_ret
  exact ⟨_, rfl, below_trans hA hb2, HT.out⟩

theorem scode_any (w : World) (B : Nat) (hB : B ≤ w.heap.size) : Calls Tryz.prog 50 #[] w (TermPost w B Tm.sC) := by
  obtain ⟨os, hos⟩ : ∃ os : List Obj, os = [.cells #[str [120], str [121], str [122]] 9, .cells #[str [121]] 67] := ⟨_, rfl⟩
  have hX : allocL w os = (w.alloc (.cells #[str [120], str [121], str [122]] 9)).alloc (.cells #[str [121]] 67) := by rw [hos]; rfl
  have hA := allocL_below w os
  have hsz := allocL_size w os
  have h0 : (allocL w os).heap[w.heap.size]? = some (.cells #[str [120], str [121], str [122]] 9 (0, 0)) := by have := allocL_heap w os 0 (by rw [hos]; simp); simpa [hos] using this
  have h1 : (allocL w os).heap[w.heap.size + 1]? = some (.cells #[str [121]] 67 (0, 0)) := by have := allocL_heap w os 1 (by rw [hos]; simp); simpa [hos] using this
  have hx := nm_val (B := B) h1 (by omega)
  have hc := absAll_any (allocL w os) B [[120], [121], [122]] _ Tm.Y _ (strsB_of (m := (allocL w os).heap.size) [[120], [121], [122]] (by rw [hsz, hos]; simp) h0) hx (Nat.le_trans hB hA.size) (by decide) (by decide +kernel)
  rw [show FT.absAll [[120], [121], [122]] Tm.Y = Tm.sC by kernel_rfl] at hc
  rw [hX] at hc hA
  unfold TermPost at hc
  have hn := code_names w
  clear hx h0 h1 hX hsz hos
  go_enter Tryz.func50, Tryz.ntmps50
  go_wp2_with fail
  refine hn.mono ?_
  rintro e w1 ⟨rfl, rfl⟩
  clear hn
  go_wp2_with fail
  refine hc.mono ?_
  rintro e w2 ⟨v2, rfl, hb2, ht2⟩
  have HT := Lib.hid ht2
  clear ht2 hc
  go_wp2_with fail
  go_ret
  exact ⟨_, rfl, below_trans hA hb2, HT.out⟩

theorem appC_any (w : World) (B : Nat) (f a : Tm) (v1 v2 : Value) (h1 : TV w B f v1) (h2 : TV w B a v2) (hB : B ≤ w.heap.size) (hz : f.size + a.size ≤ 100000000) :
    Calls Tryz.prog 51 #[v1, v2] w (TermPost w B (Tm.appC f a)) := by
  obtain ⟨os, hos⟩ : ∃ os : List Obj, os = [.cells #[] 89, .cells #[] 89] := ⟨_, rfl⟩
  have hX : allocL w os = (w.alloc (.cells #[] 89)).alloc (.cells #[] 89) := by rw [hos]; rfl
  have hA := allocL_below w os
  have g0 : (allocL w os).heap[w.heap.size]? = some (.cells #[] 89 (0, 0)) := by have := allocL_heap w os 0 (by rw [hos]; simp); simpa [hos] using this
  have g1 : (allocL w os).heap[w.heap.size + 1]? = some (.cells #[] 89 (0, 0)) := by have := allocL_heap w os 1 (by rw [hos]; simp); simpa [hos] using this
  have hk0 : TV (allocL w os) B .k (.iface 87 (.pointer (some ⟨w.heap.size, 0, none⟩))) := ⟨_, _, rfl, hB, g0⟩
  have hk1 : TV (allocL w os) B .k (.iface 87 (.pointer (some ⟨w.heap.size + 1, 0, none⟩))) := ⟨_, _, rfl, by omega, g1⟩
  have hp := pair_any (allocL w os) B f a v1 v2 (h1.below hA) (h2.below hA) (Nat.le_trans hB hA.size) hz
  have hps := Tm.size_pair f a
  unfold TermPost at hp
  rw [hX] at hp hk0 hk1 hA
  have HK0 := Lib.hid hk0
  have HK1 := Lib.hid hk1
  obtain ⟨T1, x1, rfl, _⟩ := h1.asks
  obtain ⟨T2, x2, rfl, _⟩ := h2.asks
  have hk : Tm.k.size = 1 := rfl
  clear g0 g1 hk0 hk1 hX hos h1 h2
  go_enter Tryz.func51, Tryz.ntmps51
  go_wp2_with fail
  refine hp.mono ?_
  rintro e w1 ⟨v3, rfl, hb1, ht1⟩
  have hb01 := below_trans hA hb1
  have hc2 := apply_any w1 B .k _ _ v3 (HK1.out.below hb1) ht1 (Nat.le_trans hB hb01.size) (by omega)
  clear ht1 hp
  go_wp2_with fail
  refine hc2.mono ?_
  rintro e w2 ⟨v4, rfl, hb2, ht2⟩
  have hb02 := below_trans hb01 hb2
  have hc3 := apply_any w2 B .k _ _ v4 (HK0.out.below (below_trans hb1 hb2)) ht2 (Nat.le_trans hB hb02.size) (by simp only [Tm.size]; omega)
  clear ht2 hc2
  go_wp2_with fail
  refine hc3.mono ?_
  rintro e w3 ⟨v5, rfl, hb3, ht3⟩
  have HT := Lib.hid ht3
  clear ht3 hc3
  go_wp2_with fail
  go_ret
  exact ⟨_, rfl, below_trans hb02 hb3, HT.out⟩

theorem as_k_k (W : World) (x : Value) : (Instr.typeAssert (.iface 87 x) 33 87 true).run Tryz.prog W = .ok (.tuple #[x, .bool true]) W := by kernel_rfl
theorem as_k_s (W : World) (x : Value) : (Instr.typeAssert (.iface 90 x) 33 87 true).run Tryz.prog W = .ok (.tuple #[.pointer none, .bool false]) W := by kernel_rfl
theorem as_k_n (W : World) (x : Value) : (Instr.typeAssert (.iface 63 x) 33 87 true).run Tryz.prog W = .ok (.tuple #[.pointer none, .bool false]) W := by kernel_rfl
theorem as_k_a (W : World) (x : Value) : (Instr.typeAssert (.iface 59 x) 33 87 true).run Tryz.prog W = .ok (.tuple #[.pointer none, .bool false]) W := by kernel_rfl
theorem as_s_s (W : World) (x : Value) : (Instr.typeAssert (.iface 90 x) 33 90 true).run Tryz.prog W = .ok (.tuple #[x, .bool true]) W := by kernel_rfl
theorem as_s_n (W : World) (x : Value) : (Instr.typeAssert (.iface 63 x) 33 90 true).run Tryz.prog W = .ok (.tuple #[.pointer none, .bool false]) W := by kernel_rfl
theorem as_s_a (W : World) (x : Value) : (Instr.typeAssert (.iface 59 x) 33 90 true).run Tryz.prog W = .ok (.tuple #[.pointer none, .bool false]) W := by kernel_rfl

theorem codeOf_any : ∀ {t : Tm} {w : World} {B : Nat} {v : Value}, TV w B t v → B ≤ w.heap.size → t.size ≤ 1000000 → Calls Tryz.prog 28 #[v] w (TermPost w B t.code) := by
  intro t
  induction t with
  | k =>
    intro w B v h hB _
    obtain ⟨b, fr, rfl, _, _⟩ := h
    have ha1 := as_k_k w (.pointer (some ⟨b, 0, none⟩))
    have hc := kcode_any w B hB
    unfold TermPost at hc
    go_enter Tryz.func28, Tryz.ntmps28
    go_wp2_with fail
    refine hc.mono ?_
    rintro e w1 ⟨v1, rfl, hb1, ht1⟩
    have HT := Lib.hid ht1
    clear ht1 hc
    go_wp2_with fail
    go_ret
    exact ⟨_, rfl, hb1, HT.out⟩
  | s =>
    intro w B v h hB _
    obtain ⟨b, fr, rfl, _, _⟩ := h
    have ha1 := as_k_s w (.pointer (some ⟨b, 0, none⟩))
    have ha2 := as_s_s w (.pointer (some ⟨b, 0, none⟩))
    have hc := scode_any w B hB
    unfold TermPost at hc
    go_enter Tryz.func28, Tryz.ntmps28
    go_wp2_with fail
    refine hc.mono ?_
    rintro e w1 ⟨v1, rfl, hb1, ht1⟩
    have HT := Lib.hid ht1
    clear ht1 hc
    go_wp2_with fail
    go_ret
    exact ⟨_, rfl, hb1, HT.out⟩
  | nm n =>
    intro w B v h hB _
    have HT := Lib.hid h
    obtain ⟨b, fr, rfl, _, _⟩ := h
    have ha1 := as_k_n w (.pointer (some ⟨b, 0, none⟩))
    have ha2 := as_s_n w (.pointer (some ⟨b, 0, none⟩))
    have ha3 := assert_n w (.pointer (some ⟨b, 0, none⟩))
    go_enter Tryz.func28, Tryz.ntmps28
    go_wp2_with fail
    go_ret
    exact ⟨_, rfl, Below.refl _ _, HT.out⟩
  | app f a ihf iha =>
    intro w B v h hB hz
    obtain ⟨b, fr, vf, va, rfl, hb, hh, hf, ha⟩ := h
    obtain ⟨T1, x1, rfl, _⟩ := hf.asks
    obtain ⟨T2, x2, rfl, _⟩ := ha.asks
    simp only [Tm.size] at hz
    have hzf := Tm.code_size_le f
    have hza := Tm.code_size_le a
    have h0 := cell_later' (cell_of_heap (i := 0) hh)
    have h1 := cell_later' (cell_of_heap (i := 1) hh)
    simp at h0 h1
    have ihf' := fun W' (hW : Below w.heap.size w W') => ihf (hf.below hW) (Nat.le_trans hB hW.size) (by omega)
    have iha' := fun W' (hW : Below w.heap.size w W') => iha (ha.below hW) (Nat.le_trans hB hW.size) (by omega)
    have ha1 := as_k_a w (.pointer (some ⟨b, 0, none⟩))
    have ha2 := as_s_a w (.pointer (some ⟨b, 0, none⟩))
    have ha3 := assert_app w (.pointer (some ⟨b, 0, none⟩))
    have hself := Below.refl w.heap.size w
    unfold TermPost at ihf' iha'
    clear ihf iha hf ha hh
    rw [show Tm.code (.app f a) = Tm.appC f.code a.code from rfl]
    go_enter Tryz.func28, Tryz.ntmps28
    go_wp2_with fail
    go_region_held3 (fun W' => Below w.heap.size w W') (first | assumption | exact hself.drew | go_keep)
      (first
        | (go_at_call_of 28 x1; refine (ihf' _ (by first | assumption | exact hself.drew)).mono ?_; rintro e w1 ⟨r1, rfl, hb1, ht1⟩; have HT1 := Lib.hid ht1; clear ht1; have hb1' := below_trans (by first | assumption | exact hself.drew) hb1)
        | (go_at_call_of 28 x2; refine (iha' _ (by assumption)).mono ?_; rintro e w2 ⟨r2, rfl, hb2, ht2⟩; have HT2 := Lib.hid ht2; clear ht2; have hb2' := below_trans (by assumption) hb2)
        | (go_at_call 51; refine (appC_any _ B f.code a.code r1 r2 (HT1.out.below hb2) HT2.out (Nat.le_trans hB hb2'.size) (by omega)).mono ?_; rintro e w3 ⟨r3, rfl, hb3, ht3⟩; have HT3 := Lib.hid ht3; clear ht3; have hb3' := below_trans hb2' hb3))
    all_goals
      go_wp2_with fail
      go_ret
      exact ⟨_, rfl, hb3', HT3.out⟩

end Go.Proofs.YtfpekihdoclncaaGreat

namespace Go.Proofs.YtfpekihdoclncaaGreat
open Go.RowKit

set_option maxHeartbeats 1000000
set_option maxRecDepth 100000

/-- What a term is told by at its root. -/
def atV : Tm → Value
  | .k => .agg #[.int .u8 107, str []]
  | .s => .agg #[.int .u8 115, str []]
  | .nm n => .agg #[.int .u8 (n.headD 0).toNat, str n.tail]
  | .app _ _ => .agg #[.int .u8 0, str []]

theorem below_two {w : World} (o : Obj) (i j : Nat) (u v : Value) : Below w.heap.size w (((w.alloc o).setCell ⟨w.heap.size, i, none⟩ u).setCell ⟨w.heap.size, j, none⟩ v) :=
  (below_alloc (Below.refl _ _) o |>.setCell (Nat.le_refl _) _).setCell (Nat.le_refl _) _

theorem atom_k (w : World) (x : Value) : Calls Tryz.prog 63 #[.iface 87 x] w fun e w' => e = .returned (atV .k) ∧ Below w.heap.size w w' := by
  have ha1 := as_k_k (w.alloc (.cells #[.int .u8 0, .string ⟨#[]⟩] 116)) x
  have hh := heap_top w (.cells #[.int .u8 107, .string ⟨#[]⟩] 116)
  have z0 := cell_of_heap (i := 0) hh
  have z1 := cell_of_heap (i := 1) hh
  go_enter Tryz.func63, Tryz.ntmps63
  go_wp2_with fail
  exact bodyPost_ret (v := atV .k) (by simp [results, Tryz.results63, go_sem, z0, atV]) rfl ⟨rfl, below_alloc (Below.refl _ _) _⟩

theorem atom_s (w : World) (x : Value) : Calls Tryz.prog 63 #[.iface 90 x] w fun e w' => e = .returned (atV .s) ∧ Below w.heap.size w w' := by
  have ha1 := as_k_s (w.alloc (.cells #[.int .u8 0, .string ⟨#[]⟩] 116)) x
  have ha2 := as_s_s (w.alloc (.cells #[.int .u8 0, .string ⟨#[]⟩] 116)) x
  have hh := heap_top w (.cells #[.int .u8 115, .string ⟨#[]⟩] 116)
  have z0 := cell_of_heap (i := 0) hh
  have z1 := cell_of_heap (i := 1) hh
  go_enter Tryz.func63, Tryz.ntmps63
  go_wp2_with fail
  exact bodyPost_ret (v := atV .s) (by simp [results, Tryz.results63, go_sem, z0, atV]) rfl ⟨rfl, below_alloc (Below.refl _ _) _⟩

theorem as_n_n (W : World) (x : Value) : (Instr.typeAssert (.iface 63 x) 33 63 true).run Tryz.prog W = .ok (.tuple #[x, .bool true]) W := by kernel_rfl

theorem atom_app (w : World) (f a : Tm) (x : Value) : Calls Tryz.prog 63 #[.iface 59 x] w fun e w' => e = .returned (atV (.app f a)) ∧ Below w.heap.size w w' := by
  have ha1 := as_k_a (w.alloc (.cells #[.int .u8 0, .string ⟨#[]⟩] 116)) x
  have ha2 := as_s_a (w.alloc (.cells #[.int .u8 0, .string ⟨#[]⟩] 116)) x
  have ha3 := assert_nm_a (w.alloc (.cells #[.int .u8 0, .string ⟨#[]⟩] 116)) x
  have hh := heap_top w (.cells #[.int .u8 0, .string ⟨#[]⟩] 116)
  have z0 := cell_of_heap (i := 0) hh
  have z1 := cell_of_heap (i := 1) hh
  go_enter Tryz.func63, Tryz.ntmps63
  go_wp2_with fail
  exact bodyPost_ret (v := atV (.app f a)) (by simp [results, Tryz.results63, go_sem, z0, atV]) rfl ⟨rfl, below_alloc (Below.refl _ _) _⟩

theorem str_tail (c : UInt8) (l : List UInt8) : (⟨(c :: l).toArray⟩ : ByteArray).extract 1 (l.length + 1) = ⟨l.toArray⟩ := by
  refine ByteArray.ext (Array.ext' ?_)
  simp

theorem atom_nm (w : World) (b : Nat) (c : UInt8) (l : List UInt8) (fr : Nat × Nat) (hh : w.heap[b]? = some (.cells #[str (c :: l)] 67 fr)) : Calls Tryz.prog 63 #[.iface 63 (.pointer (some ⟨b, 0, none⟩))] w fun e w' => e = .returned (atV (.nm (c :: l))) ∧ Below w.heap.size w w' := by
  have ha1 := as_k_n (w.alloc (.cells #[.int .u8 0, .string ⟨#[]⟩] 116)) (.pointer (some ⟨b, 0, none⟩))
  have ha2 := as_s_n (w.alloc (.cells #[.int .u8 0, .string ⟨#[]⟩] 116)) (.pointer (some ⟨b, 0, none⟩))
  have ha3 := as_n_n (w.alloc (.cells #[.int .u8 0, .string ⟨#[]⟩] 116)) (.pointer (some ⟨b, 0, none⟩))
  have hA : Below w.heap.size w (w.alloc (.cells #[.int .u8 0, .string ⟨#[]⟩] 116)) := below_alloc (Below.refl _ _) _
  have hb := heap_later hh hA
  have c0 := cell_of_heap (i := 0) hb
  simp at c0
  have htop := heap_top w (.cells #[.int .u8 0, .string ⟨#[]⟩] 116)
  have hsz : (⟨(c :: l).toArray⟩ : ByteArray).size = l.length + 1 := by show (c :: l).toArray.size = _; simp
  have hby := fun h => byte_at (c :: l) 0 (by simp) h
  have htl := str_tail c l
  clear hh hb
  go_enter Tryz.func63, Tryz.ntmps63
  go_wp2_with fail
  go_region
  all_goals
    have hh2 := heap_top w (.cells #[.int .u8 (c.toNat : Nat), str l] 116)
    have z0 : ((w.alloc (.cells #[.int .u8 (c.toNat : Nat), str l] 116)).drew).cell? ⟨w.heap.size, 0, none⟩ = some (.int .u8 (c.toNat : Nat)) := cell_of_heap (i := 0) hh2
    have z1 : ((w.alloc (.cells #[.int .u8 (c.toNat : Nat), str l] 116)).drew).cell? ⟨w.heap.size, 1, none⟩ = some (str l) := cell_of_heap (i := 1) hh2
    clear c0 hh2
    go_wp2_with fail
    exact bodyPost_ret (v := atV (.nm (c :: l))) (by simp [results, Tryz.results63, go_sem, z0, z1, atV]) rfl ⟨rfl, (below_alloc (Below.refl _ _) _).drew⟩

theorem atomOf_any (w : World) (B : Nat) (t : Tm) (v : Value) (h : TV w B t v) (hg : t.good = true) : Calls Tryz.prog 63 #[v] w fun e w' => e = .returned (atV t) ∧ Below w.heap.size w w' := by
  cases t with
  | k => obtain ⟨b, fr, rfl, _, _⟩ := h; exact atom_k w _
  | s => obtain ⟨b, fr, rfl, _, _⟩ := h; exact atom_s w _
  | nm n =>
    obtain ⟨b, fr, rfl, _, hh⟩ := h
    cases n with
    | nil => simp [Tm.good, Tm.nameOk] at hg
    | cons c l => exact atom_nm w b c l fr hh
  | app f a => obtain ⟨b, fr, vf, va, rfl, _⟩ := h; exact atom_app w f a _
end Go.Proofs.YtfpekihdoclncaaGreat

namespace Go.Proofs.YtfpekihdoclncaaGreat
open Go.RowKit

set_option maxHeartbeats 2000000
set_option maxRecDepth 100000

/-- What stands at the names of a term, read along another one. -/
def Tm.mt : Tm → Tm → Option (List Tm)
  | .nm _, t => some [t]
  | .app f a, .app g b => (Tm.mt f g).bind fun xs => (Tm.mt a b).bind fun ys => some (xs ++ ys)
  | .k, .k => some []
  | .s, .s => some []
  | _, _ => none

/-- A value is the pattern of a term. -/
def PV (w : World) : Tm → Value → Prop
  | .nm _, v => ∃ b fr, v = .pointer (some ⟨b, 0, none⟩) ∧ w.heap[b]? = some (.cells #[.bool true, .int .u8 0, str [], .pointer none, .pointer none] 118 fr)
  | .k, v => ∃ b fr, v = .pointer (some ⟨b, 0, none⟩) ∧ w.heap[b]? = some (.cells #[.bool false, .int .u8 107, str [], .pointer none, .pointer none] 118 fr)
  | .s, v => ∃ b fr, v = .pointer (some ⟨b, 0, none⟩) ∧ w.heap[b]? = some (.cells #[.bool false, .int .u8 115, str [], .pointer none, .pointer none] 118 fr)
  | .app f a, v => ∃ b fr vf va, v = .pointer (some ⟨b, 0, none⟩) ∧ w.heap[b]? = some (.cells #[.bool false, .int .u8 0, str [], vf, va] 118 fr) ∧ PV w f vf ∧ PV w a va

theorem PV.below {w W : World} (hb : Below w.heap.size w W) : ∀ {u : Tm} {v : Value}, PV w u v → PV W u v
  | .nm _, _, ⟨b, fr, e, h⟩ => ⟨b, fr, e, heap_later h hb⟩
  | .k, _, ⟨b, fr, e, h⟩ => ⟨b, fr, e, heap_later h hb⟩
  | .s, _, ⟨b, fr, e, h⟩ => ⟨b, fr, e, heap_later h hb⟩
  | .app _ _, _, ⟨b, fr, vf, va, e, h, h1, h2⟩ => ⟨b, fr, vf, va, e, heap_later h hb, PV.below hb h1, PV.below hb h2⟩
theorem PV.form {w : World} : ∀ {u : Tm} {v : Value}, PV w u v → ∃ b, v = .pointer (some ⟨b, 0, none⟩)
  | .nm _, _, ⟨b, _, e, _⟩ => ⟨b, e⟩
  | .k, _, ⟨b, _, e, _⟩ => ⟨b, e⟩
  | .s, _, ⟨b, _, e, _⟩ => ⟨b, e⟩
  | .app _ _, _, ⟨b, _, _, _, e, _⟩ => ⟨b, e⟩

def PatPost (w : World) (u : Tm) (e : Ending) (w' : World) : Prop := ∃ p, e = .returned p ∧ Below w.heap.size w w' ∧ PV w' u p

theorem patternOf_any : ∀ {u : Tm} {w : World} {B : Nat} {v : Value}, TV w B u v → u.good = true → Calls Tryz.prog 44 #[v] w (PatPost w u) := by
  intro u
  induction u with
  | k =>
    intro w B v h hg
    have hc := atomOf_any w B .k v h hg
    obtain ⟨b, fr, rfl, _, _⟩ := h
    have ha1 := assert_nm_k w (.pointer (some ⟨b, 0, none⟩))
    have ha2 := assert_k w (.pointer (some ⟨b, 0, none⟩))
    rw [show atV .k = .agg #[.int .u8 107, str []] from rfl] at hc
    go_enter Tryz.func44, Tryz.ntmps44
    go_wp2_with fail
    refine hc.mono ?_
    rintro e w1 ⟨rfl, hb1⟩
    have hh := heap_top w1 (.cells #[.bool false, .int .u8 107, str [], .pointer none, .pointer none] 118)
    have HH := Lib.hid hh
    clear hh hc
    go_wp2_with fail
    go_ret
    exact ⟨_, rfl, below_trans hb1 (below_new w1 _), _, _, rfl, HH.out⟩
  | s =>
    intro w B v h hg
    have hc := atomOf_any w B .s v h hg
    obtain ⟨b, fr, rfl, _, _⟩ := h
    have ha1 := assert_nm_s w (.pointer (some ⟨b, 0, none⟩))
    have ha2 := assert_s w (.pointer (some ⟨b, 0, none⟩))
    rw [show atV .s = .agg #[.int .u8 115, str []] from rfl] at hc
    go_enter Tryz.func44, Tryz.ntmps44
    go_wp2_with fail
    refine hc.mono ?_
    rintro e w1 ⟨rfl, hb1⟩
    have hh := heap_top w1 (.cells #[.bool false, .int .u8 115, str [], .pointer none, .pointer none] 118)
    have HH := Lib.hid hh
    clear hh hc
    go_wp2_with fail
    go_ret
    exact ⟨_, rfl, below_trans hb1 (below_new w1 _), _, _, rfl, HH.out⟩
  | nm n =>
    intro w B v h hg
    obtain ⟨b, fr, rfl, _, _⟩ := h
    have ha1 := as_n_n w (.pointer (some ⟨b, 0, none⟩))
    have hh := heap_top w (.cells #[.bool true, .int .u8 0, str [], .pointer none, .pointer none] 118)
    have HH := Lib.hid hh
    clear hh
    go_enter Tryz.func44, Tryz.ntmps44
    go_wp2_with fail
    go_ret
    exact ⟨_, rfl, below_new w _, _, _, rfl, HH.out⟩
  | app f a ihf iha =>
    intro w B v h hg
    obtain ⟨b, fr, vf, va, rfl, hb, hh, hf, ha⟩ := h
    simp only [Tm.good, Bool.and_eq_true] at hg
    obtain ⟨T1, x1, rfl, _⟩ := hf.asks
    obtain ⟨T2, x2, rfl, _⟩ := ha.asks
    have h0 := cell_later' (cell_of_heap (i := 0) hh)
    have h1 := cell_later' (cell_of_heap (i := 1) hh)
    simp at h0 h1
    have ihf' := fun W' (hW : Below w.heap.size w W') => ihf (hf.below hW) hg.1
    have iha' := fun W' (hW : Below w.heap.size w W') => iha (ha.below hW) hg.2
    have ha1 := assert_nm_a w (.pointer (some ⟨b, 0, none⟩))
    have ha3 := assert_app w (.pointer (some ⟨b, 0, none⟩))
    have hself := Below.refl w.heap.size w
    unfold PatPost at ihf' iha'
    clear ihf iha hf ha hh hg
    go_enter Tryz.func44, Tryz.ntmps44
    go_wp2_with fail
    go_region_held3 (fun W' => Below w.heap.size w W') (first | assumption | exact hself.drew | exact below_alloc (by assumption) _ | go_keep)
      (first
        | (go_at_call_of 44 x1; refine (ihf' _ (by first | assumption | exact hself.drew)).mono ?_; rintro e w1 ⟨r1, rfl, hb1, ht1⟩; obtain ⟨q1, rfl⟩ := ht1.form; have HT1 := Lib.hid ht1; clear ht1; have hb1' := below_trans (by first | assumption | exact hself.drew) hb1)
        | (go_at_call_of 44 x2; refine (iha' _ (by assumption)).mono ?_; rintro e w2 ⟨r2, rfl, hb2, ht2⟩; obtain ⟨q2, rfl⟩ := ht2.form; have HT2 := Lib.hid ht2; clear ht2; have hb2' := below_trans (by assumption) hb2))
    all_goals
      have hh2 := heap_top w2 (.cells #[.bool false, .int .u8 0, str [], .pointer (some ⟨q1, 0, none⟩), .pointer (some ⟨q2, 0, none⟩)] 118)
      have HH := Lib.hid hh2
      clear hh2
      go_wp2_with fail
      go_ret
      exact ⟨_, rfl, below_trans hb2' (below_new w2 _), _, _, _, _, rfl, HH.out, (HT1.out.below hb2).below (below_new w2 _), HT2.out.below (below_new w2 _)⟩
end Go.Proofs.YtfpekihdoclncaaGreat
