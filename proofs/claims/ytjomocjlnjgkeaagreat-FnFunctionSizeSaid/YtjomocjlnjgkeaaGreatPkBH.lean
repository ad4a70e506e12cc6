/-
  The program's readFunction; FunctionArity, FunctionSize, FunctionTotal.
-/
import Derived.Test.YtjomocjlnjgkeaaGreatPkBG
namespace Go.Proofs.YtjomocjlnjgkeaaGreat
open Go.RowKit

set_option maxHeartbeats 2000000
set_option maxRecDepth 100000

theorem after_own2 {w w' : World} {o : Obj} (h : (w.alloc o).grownBy w' (some w.heap.size)) : After w w' :=
  ⟨h.os, h.tape, h.output, by have := h.size; simp at this; omega, fun k hk => by
    rw [h.block k (by simp; omega) (fun e => by injection e with e; omega)]
    exact (below_new w o).block k hk⟩

theorem readFunction_any (w : World) (l : List UInt8) (hl : l.length ≤ 1000000000) :
    Calls Tryz.prog 34 #[str l] w (WFPost w w.heap.size (FT.parse l)) := by
  obtain ⟨W1, hW1⟩ : ∃ W1, W1 = w.alloc (.cells #[str l, .int .i64 0, .int .i64 0] 110 (0, 0)) := ⟨_, rfl⟩
  have h1 : FRd W1 w.heap.size l 0 0 := by rw [hW1]; exact heap_top _ _
  have hg : ∀ w', W1.grownBy w' (some w.heap.size) → After w w' := fun w' h => by rw [hW1] at h; exact after_own2 h
  have hs1 : W1.heap.size = w.heap.size + 1 := by rw [hW1]; simp
  have k1 := fread_any l hl 40 40 W1 w.heap.size 0 0 (Nat.le_refl _) (Nat.zero_le _) h1 rfl
  have HW1 := Lib.hid hW1
  have HG := Lib.hid hg
  have HS := Lib.hid hs1
  clear hW1 h1 hg hs1
  cases hp : FT.pread l 40 0 40 with
  | none =>
    have H := Lib.hid (show FT.parse l = none by simp [FT.parse, hp])
    rw [hp] at k1
    clear hp
    go_enter Tryz.func34, Tryz.ntmps34
    go_wp2_with fail
    rw [← HW1.out]
    refine k1.mono ?_
    rintro e w2 ⟨v2, rfl, g2, hv2⟩
    clear hv2 k1
    go_wp2_with fail
    go_ret2
    rw [H.out]
    exact wf_no (HG.out _ g2) _
  | some q =>
    obtain ⟨t, j, k'⟩ := q
    obtain ⟨_, _, hj, _⟩ := pread_facts l (Nat.zero_le _) hp
    by_cases hje : j = l.length
    · have H := Lib.hid (show FT.parse l = some t by simp [FT.parse, hp, hje])
      rw [hp] at k1
      have hd : decide (j = l.length) = true := by simp [hje]
      clear hp
      go_enter Tryz.func34, Tryz.ntmps34
      go_wp2_with fail
      rw [← HW1.out]
      refine k1.mono ?_
      rintro e w2 ⟨v2, rfl, g2, hv2⟩
      obtain ⟨⟨n', hF, _⟩, hc⟩ := hv2 t j k' rfl
      have k2 := ended_any w2 w.heap.size j l (cell_of_heap (i := 0) hF) (cell_of_heap (i := 1) hF) hl
      rw [hd] at k2
      have HC := Lib.hid hc
      clear hv2 k1 hF hc hd
      go_wp2_with (go_at_call 70; refine k2.mono ?_; rintro e w3 ⟨rfl, q3, rfl⟩)
      go_ret2
      rw [H.out]
      refine ⟨_, rfl, below_drews (HG.out _ g2) _, fun u hu => ?_⟩
      obtain rfl := Option.some.inj hu
      exact (HC.out.less (by have := HS.out; omega)).after (below_drews (After.refl w2) _)
    · have H := Lib.hid (show FT.parse l = none by simp [FT.parse, hp, hje])
      rw [hp] at k1
      have hd : decide (j = l.length) = false := by simp [hje]
      clear hp hje
      go_enter Tryz.func34, Tryz.ntmps34
      go_wp2_with fail
      rw [← HW1.out]
      refine k1.mono ?_
      rintro e w2 ⟨v2, rfl, g2, hv2⟩
      obtain ⟨⟨n', hF, _⟩, hc⟩ := hv2 t j k' rfl
      have k2 := ended_any w2 w.heap.size j l (cell_of_heap (i := 0) hF) (cell_of_heap (i := 1) hF) hl
      rw [hd] at k2
      clear hv2 k1 hF hd hc
      go_wp2_with (go_at_call 70; refine k2.mono ?_; rintro e w3 ⟨rfl, q3, rfl⟩)
      go_ret2
      rw [H.out]
      exact wf_no (below_drews (HG.out _ g2) _) _

def IntPost (w : World) (n : Int) (e : Ending) (w' : World) : Prop := e = .returned (.int .i64 n) ∧ After w w'
def pArity (l : List UInt8) : Int := match FT.parse l with | some t => (FT.arity t : Nat) | none => -1
def pSizeF (l : List UInt8) : Int := match FT.parse l with | some t => (FT.size t : Nat) | none => -1
def pTotal (l : List UInt8) : Bool := match FT.parse l with | some t => FT.total t | none => false

theorem impl_arity (w : World) (l : List UInt8) (hl : l.length ≤ 1000000000) : Calls Tryz.prog 12 #[str l] w (IntPost w (pArity l)) := by
  have k1 := readFunction_any w l hl
  cases hp : FT.parse l with
  | none =>
    have H := Lib.hid (show pArity l = -1 by simp [pArity, hp])
    rw [hp] at k1
    clear hp
    go_enter Tryz.func12, Tryz.ntmps12
    go_wp2_with fail
    refine k1.mono ?_
    rintro e w2 ⟨v2, rfl, a2, hv2⟩
    clear hv2 k1
    go_wp2_with fail
    go_ret
    exact ⟨by rw [H.out]; rfl, a2⟩
  | some t =>
    have H := Lib.hid (show pArity l = (FT.arity t : Nat) by simp [pArity, hp])
    rw [hp] at k1
    clear hp
    go_enter Tryz.func12, Tryz.ntmps12
    go_wp2_with fail
    refine k1.mono ?_
    rintro e w2 ⟨v2, rfl, a2, hv2⟩
    obtain ⟨b, T, x, vf, rfl, _, hh, _, _⟩ := (hv2 t rfl).fields
    have c0 : w2.cell? ⟨b, 0, none⟩ = some (.int .i64 (FT.arity t : Nat)) := cell_of_heap (i := 0) hh
    clear hv2 k1 hh
    go_wp2_with fail
    go_ret
    exact ⟨by rw [H.out]; rfl, a2⟩

theorem impl_fsize (w : World) (l : List UInt8) (hl : l.length ≤ 1000000000) : Calls Tryz.prog 18 #[str l] w (IntPost w (pSizeF l)) := by
  have k1 := readFunction_any w l hl
  cases hp : FT.parse l with
  | none =>
    have H := Lib.hid (show pSizeF l = -1 by simp [pSizeF, hp])
    rw [hp] at k1
    clear hp
    go_enter Tryz.func18, Tryz.ntmps18
    go_wp2_with fail
    refine k1.mono ?_
    rintro e w2 ⟨v2, rfl, a2, hv2⟩
    clear hv2 k1
    go_wp2_with fail
    go_ret
    exact ⟨by rw [H.out]; rfl, a2⟩
  | some t =>
    have H := Lib.hid (show pSizeF l = (FT.size t : Nat) by simp [pSizeF, hp])
    rw [hp] at k1
    clear hp
    go_enter Tryz.func18, Tryz.ntmps18
    go_wp2_with fail
    refine k1.mono ?_
    rintro e w2 ⟨v2, rfl, a2, hv2⟩
    obtain ⟨b, T, x, vf, rfl, _, hh, _, _⟩ := (hv2 t rfl).fields
    have c1 : w2.cell? ⟨b, 1, none⟩ = some (.int .i64 (FT.size t : Nat)) := cell_of_heap (i := 1) hh
    clear hv2 k1 hh
    go_wp2_with fail
    go_ret
    exact ⟨by rw [H.out]; rfl, a2⟩

end Go.Proofs.YtjomocjlnjgkeaaGreat

namespace Go.Proofs.YtjomocjlnjgkeaaGreat
open Go.RowKit

set_option maxHeartbeats 1000000
set_option maxRecDepth 100000

theorem KidsV.at {w : World} {B : Nat} {sv : Value} {ps : List FT} (h : KidsV w B sv ps) (j : Nat) (hj : j < ps.length) : ∃ b cap ao n c, sv = .slice (some ⟨b, 0, none⟩) ps.length cap ∧ w.cell? ⟨b, j * 3, none⟩ = some (str (FT.atomOf ps[j])) ∧
    w.cell? ⟨b, j * 3 + 1, none⟩ = some (.slice ao n c) ∧ w.cell? ⟨b, j * 3 + 2, none⟩ = some (.int .i64 (FT.arity ps[j] : Nat)) ∧ SF w B ps[j] (.agg #[str (FT.atomOf ps[j]), .slice ao n c, .int .i64 (FT.arity ps[j] : Nat)]) ∧ B ≤ b := by
  rcases h with ⟨rfl, _⟩ | ⟨b, cap, cs, fr, _, hv, hb, hh, hc⟩
  · simp at hj
  · obtain ⟨x, y, z, e1, e2, e3, h5⟩ := hc j hj
    obtain ⟨ao, n, c, hf⟩ := h5.form
    injection hf with hf
    injection hf with hf
    injection hf with f1 hf
    injection hf with f2 hf
    injection hf with f3 hf
    subst f1
    subst f2
    subst f3
    exact ⟨b, cap, ao, n, c, hv, by rw [cell_of_heap hh, Nat.mul_comm]; exact e1, by rw [cell_of_heap hh, Nat.mul_comm]; exact e2, by rw [cell_of_heap hh, Nat.mul_comm]; exact e3, h5, hb⟩

theorem KidsV.form {w : World} {B : Nat} {sv : Value} {ps : List FT} (h : KidsV w B sv ps) : ∃ ao cap, sv = .slice ao ps.length cap := by
  rcases h with ⟨rfl, rfl⟩ | ⟨b, cap, cs, fr, _, rfl, _⟩
  · exact ⟨_, _, rfl⟩
  · exact ⟨_, _, rfl⟩

theorem sar_m (w : World) (B : Nat) (sv : Value) (ps : List FT) (a : Int) (h : KidsV w B sv ps) (ho : ∀ f ∈ ps, FT.arity f ≤ 3) (hn : ps.length ≤ 1000) :
    Calls Tryz.prog 99 #[.agg #[str [109], sv, .int .i64 a]] w (IntPost w (if searOk ps then (FT.arity (ps.headD .inc) : Int) - 1 else -1)) := by
  obtain ⟨ao, cap, rfl⟩ := h.form
  by_cases h1 : ps.length = 1
  · obtain ⟨f, rfl⟩ : ∃ f, ps = [f] := by
      match ps, h1 with
      | [f], _ => exact ⟨_, rfl⟩
    obtain ⟨b, cap', ao0, n0, c0', hsv, _, _, hc2, _⟩ := h.at 0 (by simp)
    injection hsv with e1 e2 e3
    subst e1
    subst e3
    have ha := ho f (by simp)
    have c2 : ∀ W, After w W → W.cell? ⟨b, 2, none⟩ = some (.int .i64 (FT.arity f : Nat)) := fun W hW => cell_later' hc2 W hW
    have hW1 := After.new w (.cells #[str [109], .slice (some ⟨b, 0, none⟩) 1 cap, .int .i64 a] 63)
    have hself := After.refl w
    simp only [List.length_cons, List.length_nil, Nat.zero_add, List.headD_cons]
    by_cases h0 : 0 < FT.arity f
    · rw [show searOk [f] = true by simp [searOk, h0]]
      simp only [if_true]
      have h0' : (1 : Int) ≤ (FT.arity f : Int) := by omega
      clear h hc2 ho
      generalize FT.arity f = m at *
      go_enter Tryz.func99, Tryz.ntmps99
      go_wp2_with fail
      go_quiet (fail)
      go_wp2_with fail
      go_ret
      exact ⟨rfl, below_drews (After.new _ _) _⟩
    · rw [show searOk [f] = false by simp [searOk, h0]]
      simp only [Bool.false_eq_true, if_false]
      have h0' : decide ((1 : Int) ≤ (FT.arity f : Int)) = false := decide_eq_false (by omega)
      clear h hc2 ho h0
      generalize FT.arity f = m at *
      go_enter Tryz.func99, Tryz.ntmps99
      go_wp2_with fail
      go_quiet (fail)
      go_wp2_with fail
      go_ret
      exact ⟨rfl, below_drews (After.new _ _) _⟩
  · rw [show searOk ps = false from ?_]
    · simp only [Bool.false_eq_true, if_false]
      have h1' : ((ps.length : Int) == 1) = false := beq_eq_false_iff_ne.2 (by omega)
      clear h ho h1
      generalize ps.length = n at *
      go_enter Tryz.func99, Tryz.ntmps99
      go_wp2_with fail
      go_quiet (fail)
      go_wp2_with fail
      go_ret
      exact ⟨rfl, below_drews (After.new _ _) _⟩
    · match ps, h1 with
      | [], _ => rfl
      | [_], h1 => simp at h1
      | _ :: _ :: _, _ => rfl

theorem sar_r (w : World) (B : Nat) (sv : Value) (ps : List FT) (a : Int) (h : KidsV w B sv ps) (ho : ∀ f ∈ ps, FT.arity f ≤ 3) (hn : ps.length ≤ 1000) :
    Calls Tryz.prog 99 #[.agg #[str [114], sv, .int .i64 a]] w (IntPost w (if recOk ps then (FT.arity (ps.headD .inc) : Int) + 1 else -1)) := by
  obtain ⟨ao, cap, rfl⟩ := h.form
  by_cases h1 : ps.length = 2
  · obtain ⟨f, g, rfl⟩ : ∃ f g, ps = [f, g] := by
      match ps, h1 with
      | [f, g], _ => exact ⟨_, _, rfl⟩
    obtain ⟨b, cap', ao0, n0, c0', hsv, _, _, hc2, _⟩ := h.at 0 (by simp)
    injection hsv with e1 e2 e3
    subst e1
    subst e3
    obtain ⟨b', cap'', ao1, n1, c1', hsv, _, _, hc5, _⟩ := h.at 1 (by simp)
    injection hsv with e1 e2 e3
    injection e1 with e1
    injection e1 with e1 e4
    subst e1
    subst e3
    have ha := ho f (by simp)
    have hb := ho g (by simp)
    have c2 : ∀ W, After w W → W.cell? ⟨b, 2, none⟩ = some (.int .i64 (FT.arity f : Nat)) := fun W hW => cell_later' hc2 W hW
    have c5 : ∀ W, After w W → W.cell? ⟨b, 5, none⟩ = some (.int .i64 (FT.arity g : Nat)) := fun W hW => cell_later' hc5 W hW
    have hW1 := After.new w (.cells #[str [114], .slice (some ⟨b, 0, none⟩) 2 cap, .int .i64 a] 63)
    have d2 := c2 _ hW1
    have d5 := c5 _ hW1
    simp only [List.length_cons, List.length_nil, Nat.zero_add, List.headD_cons, Nat.reduceAdd]
    by_cases h0 : FT.arity f ≤ 2
    · have h0' : decide ((FT.arity f : Int) ≤ 2) = true := decide_eq_true (by omega)
      by_cases h2 : FT.arity g = FT.arity f + 2
      · rw [show recOk [f, g] = true by simp [recOk, h2]]
        simp only [if_true]
        have h2' : ((FT.arity g : Int) == (FT.arity f : Int) + 2) = true := beq_iff_eq.2 (by omega)
        clear h hc2 hc5 ho h2
        generalize FT.arity f = m at *
        generalize FT.arity g = k at *
        go_enter Tryz.func99, Tryz.ntmps99
        go_wp2_with fail
        go_quiet (fail)
        go_wp2_with fail
        go_ret
        exact ⟨rfl, below_drews (After.new _ _) _⟩
      · rw [show recOk [f, g] = false by simp [recOk, h2]]
        simp only [Bool.false_eq_true, if_false]
        have h2' : ((FT.arity g : Int) == (FT.arity f : Int) + 2) = false := beq_eq_false_iff_ne.2 (by omega)
        clear h hc2 hc5 ho h2
        generalize FT.arity f = m at *
        generalize FT.arity g = k at *
        go_enter Tryz.func99, Tryz.ntmps99
        go_wp2_with fail
        go_quiet (fail)
        go_wp2_with fail
        go_ret
        exact ⟨rfl, below_drews (After.new _ _) _⟩
    · have h0' : decide ((FT.arity f : Int) ≤ 2) = false := decide_eq_false (by omega)
      rw [show recOk [f, g] = false by simp [recOk]; omega]
      simp only [Bool.false_eq_true, if_false]
      clear h hc2 hc5 ho h0
      generalize FT.arity f = m at *
      generalize FT.arity g = k at *
      go_enter Tryz.func99, Tryz.ntmps99
      go_wp2_with fail
      go_quiet (fail)
      go_wp2_with fail
      go_ret
      exact ⟨rfl, below_drews (After.new _ _) _⟩
  · rw [show recOk ps = false from ?_]
    · simp only [Bool.false_eq_true, if_false]
      have h1' : ((ps.length : Int) == 2) = false := beq_eq_false_iff_ne.2 (by omega)
      clear h ho h1
      generalize ps.length = n at *
      go_enter Tryz.func99, Tryz.ntmps99
      go_wp2_with fail
      go_quiet (fail)
      go_wp2_with fail
      go_ret
      exact ⟨rfl, below_drews (After.new _ _) _⟩
    · match ps, h1 with
      | [], _ => rfl
      | [_], _ => rfl
      | [_, _], h1 => simp at h1
      | _ :: _ :: _ :: _, _ => rfl

theorem sar_o (w : World) (B : Nat) (sv : Value) (ps : List FT) (a : Int) (l : List UInt8) (h : KidsV w B sv ps) (n1 : (l == [99]) = false) (n2 : (l == [114]) = false) (n3 : (l == [109]) = false) :
    Calls Tryz.prog 99 #[.agg #[str l, sv, .int .i64 a]] w (IntPost w (-1)) := by
  obtain ⟨ao, cap, rfl⟩ := h.form
  clear h
  generalize ps.length = n at *
  go_enter Tryz.func99, Tryz.ntmps99
  go_wp2_with fail
  go_quiet (fail)
  go_wp2_with fail
  go_ret
  exact ⟨rfl, below_drews (After.new _ _) _⟩

theorem sar_c (w : World) (B : Nat) (sv : Value) (ps : List FT) (a : Int) (h : KidsV w B sv ps) (ho : ∀ f ∈ ps, FT.arity f ≤ 3) (hn : ps.length ≤ 1000) :
    Calls Tryz.prog 99 #[.agg #[str [99], sv, .int .i64 a]] w (IntPost w (if compOk ps then (FT.arity (ps.getD 1 .inc) : Int) else -1)) := by
  obtain ⟨ao, cap, rfl⟩ := h.form
  by_cases h2 : ps.length < 2
  · rw [show compOk ps = false from ?_]
    · simp only [Bool.false_eq_true, if_false]
      have h2' : decide ((2 : Int) ≤ (ps.length : Int)) = false := decide_eq_false (by omega)
      clear h ho h2
      generalize ps.length = n at *
      go_enter Tryz.func99, Tryz.ntmps99
      go_wp2_with fail
      go_quiet (fail)
      go_wp2_with fail
      go_ret
      exact ⟨rfl, below_drews (After.new _ _) _⟩
    · match ps, h2 with
      | [], _ => rfl
      | [_], _ => rfl
  · obtain ⟨f, g, gs, rfl⟩ : ∃ f g gs, ps = f :: g :: gs := by
      match ps, h2 with
      | f :: g :: gs, _ => exact ⟨_, _, _, rfl⟩
      | [], h => simp at h
      | [_], h => simp at h
    obtain ⟨b, cap', ao0, n0, c0', hsv, _, _, hc2, _⟩ := h.at 0 (by simp)
    injection hsv with e1 e2 e3
    subst e1
    subst e3
    obtain ⟨b', cap'', ao1, n1, c1', hsv, _, _, hc5, _⟩ := h.at 1 (by simp)
    injection hsv with e1 e2 e3
    injection e1 with e1
    injection e1 with e1 e4
    subst e1
    subst e3
    have ha := ho f (by simp)
    have hb := ho g (by simp)
    obtain ⟨n, hnn⟩ : ∃ n, n = gs.length := ⟨_, rfl⟩
    have hl : (f :: g :: gs).length = n + 2 := by simp [hnn]
    have HP := Lib.hid h
    obtain ⟨R, hR⟩ : ∃ R : Int, R = if compOk (f :: g :: gs) then (FT.arity ((f :: g :: gs).getD 1 .inc) : Int) else -1 := ⟨_, rfl⟩
    rw [← hR]
    have HR := Lib.hid hR
    clear hR
    rw [hl] at HP ⊢
    obtain ⟨W1, hW1⟩ : ∃ W1, W1 = w.alloc (.cells #[str [99], .slice (some ⟨b, 0, none⟩) (n + 2) cap, .int .i64 a] 63 (0, 0)) := ⟨_, rfl⟩
    have aW1 : After w W1 := by rw [hW1]; exact After.new _ _
    have d2 : W1.cell? ⟨b, 2, none⟩ = some (.int .i64 (FT.arity f : Nat)) := cell_later' hc2 W1 aW1
    have d5 : ∀ W, After W1 W → W.cell? ⟨b, 5, none⟩ = some (.int .i64 (FT.arity g : Nat)) := fun W hW => cell_later' hc5 W (aW1.trans hW)
    have hh := heap_top w (.cells #[str [99], .slice (some ⟨b, 0, none⟩) (n + 2) cap, .int .i64 a] 63 (0, 0))
    rw [← hW1] at hh
    have b0 : W1.cell? ⟨w.heap.size, 0, none⟩ = some (str [99]) := cell_of_heap (i := 0) hh
    have b1 : W1.cell? ⟨w.heap.size, 1, none⟩ = some (.slice (some ⟨b, 0, none⟩) (n + 2) cap) := cell_of_heap (i := 1) hh
    have HW1 := Lib.hid hW1
    have hn1 : n ≤ 1000 := by omega
    have hl2 : decide ((2 : Int) ≤ (n : Int) + 2) = true := decide_eq_true (by omega)
    by_cases hfa : FT.arity f = n + 1
    · have hx : ((FT.arity f : Int) == (n : Int) + 2 - 1) = true := beq_iff_eq.2 (by omega)
      have hcOk := Lib.hid (compOk_cons f g gs (by omega))
      have HN := Lib.hid hnn
      have hn2 : n ≤ 2 := by omega
      have hself := After.refl W1
      rw [hW1] at d2 d5 b0 b1 aW1 hself
      clear h hc2 hc5 hnn hl h2 hW1 hh hfa HW1
      go_enter Tryz.func99, Tryz.ntmps99
      go_wp2_with fail
      have HL := Lib.hid (show (g :: gs).length = n + 1 by rw [List.length_cons, HN.out])
      go_loopw [5] (fun i wr => ∃ k : Nat, i = .int .i64 k ∧ 2 ≤ k ∧ k ≤ n + 2 ∧ Hid (∀ j (hj : j < (g :: gs).length), j + 1 < k → FT.arity ((g :: gs)[j]) = FT.arity g) ∧ After (w.alloc (.cells #[str [99], .slice (some ⟨b, 0, none⟩) (n + 2) cap, .int .i64 a] 63 (0, 0))) wr) (fun i _ => n + 2 - (intOf i).toNat)
      case atStart => exact ⟨2, rfl, by omega, by omega, fun j hj h => by
        obtain rfl : j = 0 := by omega
        rfl, hself⟩
      case round =>
        obtain ⟨k, rfl, hk2, hk, HE, hr⟩ := hrel
        clear d2 hx b0 b1
        have d5r := d5 _ hr
        by_cases hlt : k < n + 2
        · obtain ⟨k', hk'⟩ : ∃ k', k' + 1 = k := ⟨k - 1, by omega⟩
          have hgl : k' < (g :: gs).length := by rw [HL.out]; omega
          have hkl : k < (f :: g :: gs).length := by rw [List.length_cons, HL.out]; omega
          obtain ⟨b', cap', ao1, n1, c1', hsv, _, _, hck, _⟩ := (HP.out.after (aW1.trans hr)).at k hkl
          injection hsv with e1 e2 e3
          injection e1 with e1
          injection e1 with e1 e4
          subst e1
          clear e2 e3
          rw [show (f :: g :: gs)[k] = (g :: gs)[k'] by subst hk'; rfl] at hck
          have hgz : FT.arity ((g :: gs)[k']) ≤ 3 := ho _ (by simp only [List.mem_cons]; exact Or.inr (List.mem_cons.1 (List.getElem_mem hgl)))
          have hkn : (k : Int) < (n : Int) + 2 := by omega
          have HQ := Lib.hid hk'
          clear hk'
          by_cases hak : FT.arity ((g :: gs)[k']) = FT.arity g
          · have hne : ((FT.arity ((g :: gs)[k']) : Int) != (FT.arity g : Int)) = false := by simp [hak]
            have HX := Lib.hid (show ∀ j (hj : j < (g :: gs).length), j + 1 < k + 1 → FT.arity ((g :: gs)[j]) = FT.arity g from fun j hj h => by
              by_cases hjk : j = k'
              · subst hjk; exact hak
              · exact HE.out j hj (by have := HQ.out; omega))
            clear hak ho HE hgz
            generalize FT.arity ((g :: gs)[k']) = mk at *
            go_wp2_with fail
            go_quiet (fail)
            go_wp2_with fail
            go_roundw
            case rel => exact ⟨k + 1, by go_num, by omega, by omega, HX, below_drews hr _⟩
            case measure => simp [intOf]; omega
          · have hne : ((FT.arity ((g :: gs)[k']) : Int) != (FT.arity g : Int)) = true := by simp; omega
            have hfin := Lib.hid (show R = -1 by
              rw [HR.out, hcOk.out, if_neg]
              rw [Bool.not_eq_true, List.all_eq_false]
              exact ⟨(g :: gs)[k'], List.getElem_mem hgl, by simpa using hak⟩)
            clear hak ho HE hgz
            generalize FT.arity ((g :: gs)[k']) = mk at *
            go_wp2_with fail
            go_quiet (fail)
            go_wp2_with fail
            go_ret
            exact ⟨by rw [hfin.out]; rfl, aW1.trans (below_drews hr _)⟩
        · obtain rfl : k = n + 2 := by omega
          have hfin := Lib.hid (show R = (FT.arity g : Nat) by
            rw [HR.out, hcOk.out, if_pos]
            · rfl
            · rw [List.all_eq_true]
              intro h hh
              obtain ⟨j, hj, rfl⟩ := List.getElem_of_mem hh
              rw [HE.out j hj (by have := HL.out; omega)]
              simp)
          clear ho HE
          go_wp2_with fail
          go_ret
          exact ⟨by rw [hfin.out]; rfl, aW1.trans hr⟩
    · have hx : ((FT.arity f : Int) == (n : Int) + 2 - 1) = false := beq_eq_false_iff_ne.2 (by omega)
      have hfin := Lib.hid (show R = -1 by
        rw [HR.out, if_neg]
        simp only [compOk]
        rw [decide_eq_false (by omega)]
        simp)
      rw [hW1] at d2
      clear h hc2 hc5 hnn hl h2 hW1 hh hfa HW1 ho HP b0 b1
      generalize FT.arity f = m at *
      go_enter Tryz.func99, Tryz.ntmps99
      go_wp2_with fail
      go_quiet (fail)
      go_wp2_with fail
      go_ret
      exact ⟨by rw [hfin.out]; rfl, below_drews (After.new _ _) _⟩

def arityL (l : List UInt8) (ps : List FT) : Int := match FT.comb l ps with | some t => (FT.arity t : Nat) | none => -1

theorem s_arity (w : World) (B : Nat) (l : List UInt8) (sv : Value) (ps : List FT) (a : Int) (h : KidsV w B sv ps) (ho : ∀ f ∈ ps, FT.arity f ≤ 3) (hn : ps.length ≤ 1000) :
    Calls Tryz.prog 99 #[.agg #[str l, sv, .int .i64 a]] w (IntPost w (arityL l ps)) := by
  by_cases hc : l = [99]
  · subst hc
    have := sar_c w B sv ps a h ho hn
    rwa [show (if compOk ps then (FT.arity (ps.getD 1 .inc) : Int) else -1) = arityL [99] ps from ?_] at this
    match ps, ho with
    | [], _ => rfl
    | [_], _ => rfl
    | [f, g], _ => by_cases h1 : FT.arity f = 1 <;> simp [compOk, arityL, FT.comb, h1, FT.arity]
    | [f, g, k], _ => by_cases h1 : FT.arity f = 2 <;> by_cases h2 : FT.arity k = FT.arity g <;> simp [compOk, arityL, FT.comb, h1, h2, FT.arity]
    | [f, g, k, i], _ => by_cases h1 : FT.arity f = 3 <;> by_cases h2 : FT.arity k = FT.arity g <;> by_cases h3 : FT.arity i = FT.arity g <;> simp [compOk, arityL, FT.comb, h1, h2, h3, FT.arity]
    | f :: g :: k :: i :: j :: r, ho =>
      have h1 := ho f (by simp)
      have : ¬ FT.arity f = r.length + 1 + 1 + 1 + 1 := by omega
      simp [compOk, arityL, FT.comb, this]
  by_cases hr : l = [114]
  · subst hr
    have := sar_r w B sv ps a h ho hn
    rwa [show (if recOk ps then (FT.arity (ps.headD .inc) : Int) + 1 else -1) = arityL [114] ps from ?_] at this
    match ps with
    | [] => rfl
    | [_] => rfl
    | [f, g] => by_cases h1 : FT.arity g = FT.arity f + 2 <;> simp [recOk, arityL, FT.comb, h1, FT.arity]
    | _ :: _ :: _ :: _ => rfl
  by_cases hm : l = [109]
  · subst hm
    have := sar_m w B sv ps a h ho hn
    rwa [show (if searOk ps then (FT.arity (ps.headD .inc) : Int) - 1 else -1) = arityL [109] ps from ?_] at this
    match ps with
    | [] => rfl
    | [f] => by_cases h1 : 0 < FT.arity f <;> simp [searOk, arityL, FT.comb, h1, FT.arity]; omega
    | _ :: _ :: _ => rfl
  rw [show arityL l ps = -1 by simp [arityL, FT.comb, hc, hr, hm]]
  exact sar_o w B sv ps a l h (by simpa using hc) (by simpa using hr) (by simpa using hm)
end Go.Proofs.YtjomocjlnjgkeaaGreat

namespace Go.Proofs.YtjomocjlnjgkeaaGreat
open Go.RowKit

set_option maxHeartbeats 1000000
set_option maxRecDepth 100000

def place3 : Option (FT × Nat) → Int
  | some (_, j) => (j : Nat)
  | none => -1

def S3Post (w : World) (o : Option (FT × Nat)) (e : Ending) (w' : World) : Prop :=
  ∃ s ao n c a, e = .returned (.tuple #[.agg #[str s, .slice ao n c, .int .i64 a], .int .i64 (place3 o)]) ∧ After w w' ∧ ∀ t j, o = some (t, j) → SF w' w.heap.size t (.agg #[str s, .slice ao n c, .int .i64 a])

theorem S3Post.no {w w' : World} {o : Option (FT × Nat)} (ho : o = none) (h : After w w') (s : List UInt8) (ao : Option Addr) (n c : Nat) (a : Int) : S3Post w o (.returned (.tuple #[.agg #[str s, .slice ao n c, .int .i64 a], .int .i64 (-1)])) w' :=
  ⟨s, ao, n, c, a, by rw [ho]; rfl, h, fun t j ht => by rw [ho] at ht; cases ht⟩

/-- What is known of a result's box in a later world. -/
theorem box3 {w W : World} {x y z : Value} {T : TypeId} (h : After (w.alloc (.cells #[x, y, z] T)) W) :
    W.cell? ⟨w.heap.size, 0, none⟩ = some x ∧ W.cell? ⟨w.heap.size, 1, none⟩ = some y ∧ W.cell? ⟨w.heap.size, 2, none⟩ = some z ∧ W.frozen? ⟨w.heap.size, 0, none⟩ = false ∧ W.frozen? ⟨w.heap.size, 1, none⟩ = false ∧ W.frozen? ⟨w.heap.size, 2, none⟩ = false ∧ w.heap.size < W.heap.size := by
  have hh := h.heap (heap_new' w (.cells #[x, y, z] T))
  exact ⟨cell_of_heap hh, cell_of_heap hh, cell_of_heap hh, by simp [World.frozen?, hh], by simp [World.frozen?, hh], by simp [World.frozen?, hh], (Array.getElem?_eq_some_iff.1 hh).1⟩

theorem cells3 {W : World} {q : Nat} {x y z : Value} {T : TypeId} (h : W.heap[q]? = some (.cells #[x, y, z] T (0, 0))) :
    W.cell? ⟨q, 0, none⟩ = some x ∧ W.cell? ⟨q, 1, none⟩ = some y ∧ W.cell? ⟨q, 2, none⟩ = some z ∧ W.frozen? ⟨q, 0, none⟩ = false ∧ W.frozen? ⟨q, 1, none⟩ = false ∧ W.frozen? ⟨q, 2, none⟩ = false ∧ q < W.heap.size :=
  ⟨cell_of_heap h, cell_of_heap h, cell_of_heap h, by simp [World.frozen?, h], by simp [World.frozen?, h], by simp [World.frozen?, h], (Array.getElem?_eq_some_iff.1 h).1⟩

theorem set3_heap (W : World) (q b : Nat) (x y z : Value) (h : b ≠ q) : (((W.setCell ⟨q, 0, none⟩ x).setCell ⟨q, 1, none⟩ y).setCell ⟨q, 2, none⟩ z).heap[b]? = W.heap[b]? := by
  rw [Below.heap_setCell _ _ _ _ h, Below.heap_setCell _ _ _ _ h, Below.heap_setCell _ _ _ _ h]

/-- A function text stays behind a store into a box below it, and a new block. -/
theorem SF.set3 {W : World} {B B' q : Nat} {t : FT} {v : Value} (h : SF W B t v) (hq : B' < B) (hqe : q < B) (x y z : Value) (o : Obj) : SF ((((W.setCell ⟨q, 0, none⟩ x).setCell ⟨q, 1, none⟩ y).setCell ⟨q, 2, none⟩ z).alloc o) B' t v := by
  refine h.move (Nat.le_of_lt hq) (fun b hb hl => ?_)
  have e := set3_heap W q b x y z (by omega)
  rw [← e]
  exact (below_new _ o).block b (by simpa [World.setCell] using hl)

theorem s_fread_deep (w : World) (l : List UInt8) (k : Nat) : Calls Tryz.prog 71 #[str l, .int .i64 (k : Nat), .int .i64 41] w (S3Post w none) := by
  go_enter Tryz.func71, Tryz.ntmps71
  go_wp2_with fail
  exact bodyPost_ret (v := .tuple #[.agg #[.string ⟨#[]⟩, .slice none 0 0, .int .i64 0], .int .i64 (-1)]) (by simp [results, Tryz.results71, go_sem]) rfl (S3Post.no rfl (After.new _ _) _ _ _ _ _)

theorem s_fread_word (w : World) (l : List UInt8) (hl : l.length ≤ 1000000000) (d k : Nat) (a : Int) (ha : 0 ≤ a) (ha2 : a ≤ 40) (hk : k < l.length) (h40 : ¬ l[k]? = some 40) :
    Calls Tryz.prog 71 #[str l, .int .i64 (k : Nat), .int .i64 a] w (S3Post w (FT.mread l (d + 1) k)) := by
  have hsz : (⟨l.toArray⟩ : ByteArray).size = l.length := by show l.toArray.size = _; simp
  have hget : l[k]? = some l[k] := List.getElem?_eq_getElem hk
  have h40e : ((((⟨l.toArray⟩ : ByteArray)[k]'(by rw [hsz]; exact hk)).toNat : Int) != 40) = true := by
    rw [byte_at l k hk (by rw [hsz]; exact hk), byte_ne_lit' l[k] 40 40 rfl rfl]
    rw [hget] at h40
    simpa using h40
  have hat := fun W => s_atom W l k hl (Nat.le_of_lt hk)
  obtain ⟨m, hm⟩ : ∃ m, m = Tm.atomEnd l k := ⟨_, rfl⟩
  have hword : (⟨l.toArray⟩ : ByteArray).extract k m = ⟨((l.drop k).take (m - k)).toArray⟩ := bytes_ext l k m
  have hend := Tm.atomEnd_le l k (Nat.le_of_lt hk)
  have hmr : FT.mread l (d + 1) k = match FT.word ((l.drop k).take (m - k)) with | none => none | some t => some (t, m) := by
    rw [hm]
    simp only [FT.mread, if_neg (show ¬ l.length ≤ k by omega), if_neg h40, FT.sl]
    cases FT.word ((l.drop k).take (Tm.atomEnd l k - k)) <;> rfl
  rw [← hm] at hend hat
  obtain ⟨x, hx⟩ : ∃ x, x = (l.drop k).take (m - k) := ⟨_, rfl⟩
  rw [← hx] at hword hmr
  have hxl : x.length ≤ 1000000000 := by rw [hx]; simp; omega
  have hwd := fun W => s_word W x hxl
  obtain ⟨hm1, hm2⟩ := hend
  have hk0 : (k : Int) < (l.length : Int) := by omega
  have HM := Lib.hid hmr
  clear hmr hx hm h40 hget
  cases hw : FT.word x with
  | none =>
    have H := Lib.hid (show FT.mread l (d + 1) k = none by rw [HM.out, hw])
    rw [hw] at hwd
    clear HM hw
    go_enter Tryz.func71, Tryz.ntmps71
    go_wp2_with (go_at_call 86; refine (hat _).mono ?_; rintro e w' ⟨rfl, rfl⟩)
    refine (hwd _).mono ?_
    rintro e w1 ⟨s1, ao1, n1, c1, a1, rfl, hb1, ht1⟩
    clear ht1 hwd
    obtain ⟨r0, r1, r2, f0, f1, f2, hz⟩ := box3 hb1
    go_wp2_with fail
    exact bodyPost_ret (v := .tuple #[.agg #[str s1, .slice ao1 n1 c1, .int .i64 a1], .int .i64 (-1)]) (by simp [results, Tryz.results71, go_sem, r0, r1, r2, hz]) rfl (S3Post.no H.out (After.alloc (After.set3 hb1 _ _ _) _) _ _ _ _ _)
  | some t =>
    have H := Lib.hid (show FT.mread l (d + 1) k = some (t, m) by rw [HM.out, hw])
    rw [hw] at hwd
    clear HM hw
    go_enter Tryz.func71, Tryz.ntmps71
    go_wp2_with (go_at_call 86; refine (hat _).mono ?_; rintro e w' ⟨rfl, rfl⟩)
    refine (hwd _).mono ?_
    rintro e w1 ⟨s1, ao1, n1, c1, a1, rfl, hb1, ht1⟩
    have hst := ht1 t rfl
    have HST := Lib.hid hst
    clear ht1 hwd hst
    obtain ⟨r0, r1, r2, f0, f1, f2, hz⟩ := box3 hb1
    go_wp2_with fail
    exact bodyPost_ret (v := .tuple #[.agg #[str s1, .slice ao1 n1 c1, .int .i64 a1], .int .i64 (m : Nat)]) (by simp [results, Tryz.results71, go_sem, r0, r1, r2, hz]) rfl
      ⟨s1, ao1, n1, c1, a1, by rw [H.out]; rfl, After.alloc (After.set3 hb1 _ _ _) _, fun t' j he => by
        rw [H.out] at he
        simp only [Option.some.injEq, Prod.mk.injEq] at he
        obtain ⟨rfl, rfl⟩ := he
        exact HST.out.set3 (by simp) (by simp) _ _ _ _⟩

/-- What holds ahead of each round of l3Read's loop. -/
def SLoop (l lt : List UInt8) (d : Nat) (R : Option (List FT × Nat)) (W2 : World) (q : Nat) (m : Nat) (wr : World) : Prop :=
  ∃ fuel ps xs ao n c, FT.mparts (FT.mread l d) l fuel m ps = R ∧ l.length < fuel + m ∧ wr.heap[q]? = some (.cells #[str lt, .slice ao n c, .int .i64 0] 63 (0, 0)) ∧ RowS wr W2.heap.size (.slice ao n c) ps xs ∧ W2.grownBy wr (some q) ∧ (∀ f ∈ ps, FT.ok f) ∧ ps.length ≤ m

set_option maxHeartbeats 4000000 in
theorem s_fread (l : List UInt8) (hl : l.length ≤ 400) : ∀ (d k : Nat) (a : Int) (w : World), a + d = 41 → d ≤ 41 → k ≤ l.length →
    Calls Tryz.prog 71 #[str l, .int .i64 (k : Nat), .int .i64 a] w (S3Post w (FT.mread l d k)) := by
  intro d
  induction d with
  | zero => intro k a w ha _ _; obtain rfl : a = 41 := by omega
            exact s_fread_deep w l k
  | succ d ih =>
    intro k a w ha hd hk
    have hsz : (⟨l.toArray⟩ : ByteArray).size = l.length := by show l.toArray.size = _; simp
    have ha0 : 0 ≤ a := by omega
    have ha40 : a ≤ 40 := by omega
    by_cases hlen : l.length ≤ k
    · have H := Lib.hid (show FT.mread l (d + 1) k = none by simp only [FT.mread, if_pos hlen])
      have hk0 : (l.length : Int) ≤ (k : Int) := by omega
      clear ih hlen ha
      go_enter Tryz.func71, Tryz.ntmps71
      go_wp2_with fail
      exact bodyPost_ret (v := .tuple #[.agg #[.string ⟨#[]⟩, .slice none 0 0, .int .i64 0], .int .i64 (-1)]) (by simp [results, Tryz.results71, go_sem]) rfl (S3Post.no H.out (After.new _ _) _ _ _ _ _)
    have hlt : k < l.length := by omega
    by_cases h0 : l[k]? = some 40
    case neg => exact s_fread_word w l (by omega) d k a ha0 ha40 hlt h0
    have h40e : ((((⟨l.toArray⟩ : ByteArray)[k]'(by rw [hsz]; exact hlt)).toNat : Int) != 40) = false := by
      rw [byte_at l k hlt (by rw [hsz]; exact hlt), byte_ne_lit' l[k] 40 40 rfl rfl]
      rw [List.getElem?_eq_getElem hlt] at h0
      simpa using h0
    have hi1 : k + 1 ≤ l.length := hlt
    obtain ⟨e1, he1⟩ : ∃ e1, e1 = Tm.atomEnd l (k + 1) := ⟨_, rfl⟩
    obtain ⟨lt, hltr⟩ : ∃ lt, lt = FT.sl l (k + 1) e1 := ⟨_, rfl⟩
    obtain ⟨R, hR⟩ : ∃ R, R = FT.mparts (FT.mread l d) l (l.length + 1) e1 [] := ⟨_, rfl⟩
    have hel := FT.atomEnd_le l (k + 1) hi1
    have heg := FT.atomEnd_ge l (k + 1)
    rw [← he1] at hel heg
    have hnone : R = none → FT.mread l (d + 1) k = none := fun e => by
      rw [hR, he1] at e
      simp only [FT.mread, if_neg hlen, if_pos h0, e]
    have hsome : ∀ ps j, R = some (ps, j) → FT.mread l (d + 1) k = if l[j]? = some 41 then (match FT.comb lt ps with | none => none | some t => some (t, j + 1)) else none := fun ps j e => by
      rw [hR, he1] at e
      rw [hltr, he1]
      simp only [FT.mread, if_neg hlen, if_pos h0, e]
      cases FT.comb (FT.sl l (k + 1) (Tm.atomEnd l (k + 1))) ps <;> rfl
    have hat : ∀ W (i : Int), i = (k : Int) + 1 → Calls Tryz.prog 86 #[str l, .int .i64 i] W fun e w' => e = .returned (.int .i64 (e1 : Nat)) ∧ W = w' := fun W i hi => by
      rw [hi, he1, show (k : Int) + 1 = ((k + 1 : Nat) : Int) by omega]; exact s_atom W l (k + 1) (by omega) hi1
    have hword : ∀ i : Nat, i = k + 1 → (⟨l.toArray⟩ : ByteArray).extract i e1 = ⟨lt.toArray⟩ := fun i hi => by rw [hi, hltr]; exact bytes_ext l (k + 1) e1
    have hwd := hword (k + 1) rfl
    have hk1 : (k : Int) + 1 ≤ (e1 : Int) := by omega
    have hk2 : (e1 : Int) ≤ (l.length : Int) := by omega
    have hk0 : (k : Int) < (l.length : Int) := by omega
    have HNO := Lib.hid hnone
    have HSO := Lib.hid hsome
    have HR := Lib.hid hR
    have HIH := Lib.hid ih
    have HA := Lib.hid ha
    clear hnone hsome hR hltr he1 ih h0 ha hlen hword
    go_enter Tryz.func71, Tryz.ntmps71
    go_wp2_with (go_at_call 86; refine (hat _ _ (by first | rfl | omega)).mono ?_; rintro e w' ⟨rfl, rfl⟩)
    obtain ⟨W2, hW2⟩ : ∃ W2, W2 = (w.alloc (.cells #[.string ⟨#[]⟩, .slice none 0 0, .int .i64 0] 63 (0, 0))).alloc (.cells #[.string ⟨lt.toArray⟩, .slice none 0 0, .int .i64 0] 63 (0, 0)) := ⟨_, rfl⟩
    rw [← hW2]
    have aW2 : After w W2 := by rw [hW2]; exact (After.new _ _).alloc _
    have hq0 : W2.heap[w.heap.size]? = some (.cells #[.string ⟨#[]⟩, .slice none 0 0, .int .i64 0] 63 (0, 0)) := by rw [hW2]; exact heap_below2 _ _ _
    have hq1 : W2.heap[w.heap.size + 1]? = some (.cells #[str lt, .slice none 0 0, .int .i64 0] 63 (0, 0)) := by rw [hW2]; exact heap_top2 _ _ _
    have hs2 : W2.heap.size = w.heap.size + 2 := by rw [hW2]; simp
    have HQ0 := Lib.hid hq0
    have HQ1 := Lib.hid hq1
    have HS2 := Lib.hid hs2
    clear hW2 hq0 hq1 hs2 hwd
    go_loopw [11] (fun e wr => ∃ m : Nat, e = .int .i64 m ∧ m ≤ l.length ∧ Hid (SLoop l lt d R W2 (w.heap.size + 1) m wr)) (fun e _ => l.length - (intOf e).toNat)
    case atStart =>
      exact ⟨e1, rfl, hel, l.length + 1, [], [], none, 0, 0, HR.out.symm, by omega, HQ1.out, RowS.nil _ _, World.grownBy.refl _ _, by simp, by simp⟩
    case round =>
      obtain ⟨m, rfl, hm, HSL⟩ := hrel
      obtain ⟨fuel, ps, xs, ao, n, c, hP, hfm, hq, hRow, hG, hok, hpm⟩ := HSL.out
      obtain ⟨fu, rfl⟩ : ∃ fu, fuel = fu + 1 := ⟨fuel - 1, by omega⟩
      have b0 : wr.cell? ⟨w.heap.size + 1, 0, none⟩ = some (str lt) := cell_of_heap (i := 0) hq
      have b1 : wr.cell? ⟨w.heap.size + 1, 1, none⟩ = some (.slice ao n c) := cell_of_heap (i := 1) hq
      have b2 : wr.cell? ⟨w.heap.size + 1, 2, none⟩ = some (.int .i64 0) := cell_of_heap (i := 2) hq
      have g1 : wr.frozen? ⟨w.heap.size + 1, 1, none⟩ = false := by simp [World.frozen?, hq]
      have g2 : wr.frozen? ⟨w.heap.size + 1, 2, none⟩ = false := by simp [World.frozen?, hq]
      have hr0 : wr.heap[w.heap.size]? = some (.cells #[.string ⟨#[]⟩, .slice none 0 0, .int .i64 0] 63 (0, 0)) := by
        rw [hG.block w.heap.size (by have := HS2.out; omega) (fun e => by injection e with e; omega)]; exact HQ0.out
      have r0 : wr.cell? ⟨w.heap.size, 0, none⟩ = some (.string ⟨#[]⟩) := cell_of_heap (i := 0) hr0
      have r1 : wr.cell? ⟨w.heap.size, 1, none⟩ = some (.slice none 0 0) := cell_of_heap (i := 1) hr0
      have r2 : wr.cell? ⟨w.heap.size, 2, none⟩ = some (.int .i64 0) := cell_of_heap (i := 2) hr0
      have f0 : wr.frozen? ⟨w.heap.size, 0, none⟩ = false := by simp [World.frozen?, hr0]
      have f1 : wr.frozen? ⟨w.heap.size, 1, none⟩ = false := by simp [World.frozen?, hr0]
      have f2 : wr.frozen? ⟨w.heap.size, 2, none⟩ = false := by simp [World.frozen?, hr0]
      have hwz : w.heap.size + 1 < wr.heap.size := (Array.getElem?_eq_some_iff.1 hq).1
      have awr : After w wr := after_own aW2 (by omega) hG
      have HRow := Lib.hid hRow
      have HG := Lib.hid hG
      have HOK := Lib.hid hok
      have HP := Lib.hid hP
      have HHQ := Lib.hid hq
      have HHR := Lib.hid hr0
      clear hRow hG hok hP hq hr0 HSL
      by_cases h32 : l[m]? = some 32
      · have hm1 : m < l.length := (List.getElem?_eq_some_iff.1 h32).1
        have h32e : ((((⟨l.toArray⟩ : ByteArray)[m]'(by rw [hsz]; exact hm1)).toNat : Int) == 32) = true := by
          have hv := (List.getElem?_eq_some_iff.1 h32).2
          rw [byte_at l m hm1 (by rw [hsz]; exact hm1), hv]; rfl
        have hm1i : (m : Int) < (l.length : Int) := by omega
        have k1 := fun W => HIH.out (m + 1) (a + 1) W (by have := HA.out; omega) (by omega) hm1
        have hcast : ((m + 1 : Nat) : Int) = (m : Int) + 1 := by omega
        rw [hcast] at k1
        have H32 := Lib.hid h32
        clear h32 hcast
        cases hp : FT.mread l d (m + 1) with
        | none =>
          rw [hp] at k1
          have HF := Lib.hid (HNO.out (by rw [← HP.out]; simp [FT.mparts, H32.out, hp]))
          clear hp
          go_wp2_with fail
          refine (k1 _).mono ?_
          rintro e w1 ⟨s1, ao1, n1, c1, a1, rfl, hb1, ht1⟩
          clear ht1 k1 b0 b1 b2 g1 g2 r0 r1 r2 f0 f1 f2
          have hq1 := After.heap hb1 HHQ.out
          have hr1 := After.heap hb1 HHR.out
          obtain ⟨b0, b1, b2, g0, g1, g2, gz⟩ := cells3 hq1
          obtain ⟨r0, r1, r2, f0, f1, f2, hz⟩ := cells3 hr1
          clear hq1 hr1
          go_wp2_with fail
          exact bodyPost_ret (v := .tuple #[.agg #[str lt, .slice ao n c, .int .i64 0], .int .i64 (-1)]) (by simp [results, Tryz.results71, go_sem, r0, r1, r2, hz]) rfl (S3Post.no HF.out (by repeat (first | exact awr.trans hb1 | exact awr | refine After.alloc ?_ _ | refine Below.setCell ?_ (by first | exact Nat.le_refl _ | exact Nat.le_succ _) _)) _ _ _ _ _)
        | some p =>
          obtain ⟨t, j⟩ := p
          rw [hp] at k1
          obtain ⟨ht, hj1, hj2, _⟩ := FT.mread_facts l d (m + 1) t j hm1 hp
          have HPn := Lib.hid (show FT.mparts (FT.mread l d) l fu j (ps ++ [t]) = R by rw [← HP.out]; simp [FT.mparts, H32.out, hp])
          clear hp
          go_wp2_with fail
          refine (k1 _).mono ?_
          rintro e w1 ⟨s1, ao1, n1, c1, a1, rfl, hb1, ht1⟩
          have HT1 := Lib.hid (ht1 t j rfl)
          clear ht1 k1 b0 b1 b2 g1 g2 r0 r1 r2 f0 f1 f2
          have hq1 := After.heap hb1 HHQ.out
          obtain ⟨b0, b1, b2, g0, g1, g2, gz⟩ := cells3 hq1
          have hpl : place3 (some (t, j)) = (j : Int) := rfl
          have hgq : wr.grownBy w1 (some (w.heap.size + 1)) := grown_after hb1
          have hbase : w.heap.size + 1 < W2.heap.size := by have := HS2.out; omega
          have hR1 := HRow.out.grown hgq hbase
          have hgS : ∀ g, (Value.slice ao n c).ownBlock = some g → g < wr.heap.size := fun g hg => (HRow.out.1.lt g hg).2
          have hlen : n = ps.length := by obtain ⟨_, _, e⟩ := o_slice_len HRow.out.1; injection e
          subst hlen
          obtain ⟨i0, hi0, hz0, hz1, hz2⟩ : ∃ i, (Tryz.prog).info? 63 = some i ∧ i.zero = some (.agg #[.string ⟨#[]⟩, .slice none 0 0, .int .i64 0]) ∧ i.size = 3 ∧ i.bytes = 48 := ⟨_, rfl, rfl, rfl, rfl⟩
          have hun : Tryz.prog.underlying 61 = some (.slice 63) := by kernel_rfl
          have hown := World.ownsRow.alloc (World.ownsRow.alloc hR1.1 (.cells #[str s1, .slice ao1 n1 c1, .int .i64 a1] 63)) (.cells #[str s1, .slice ao1 n1 c1, .int .i64 a1] 63)
          have hnew : ∀ i u, [str s1, .slice ao1 n1 c1, .int .i64 a1][i]? = some u → ((w1.alloc (.cells #[str s1, .slice ao1 n1 c1, .int .i64 a1] 63)).alloc (.cells #[str s1, .slice ao1 n1 c1, .int .i64 a1] 63)).cell? ((⟨w1.heap.size + 1, 0, none⟩ : Addr).add i) = some u := fun i u h => by
            rw [show ((⟨w1.heap.size + 1, 0, none⟩ : Addr).add i) = ⟨w1.heap.size + 1, i, none⟩ by unfold Addr.add; split <;> simp_all, cell_of_heap (heap_top2 w1 (.cells #[str s1, .slice ao1 n1 c1, .int .i64 a1] 63) (.cells #[str s1, .slice ao1 n1 c1, .int .i64 a1] 63))]
            simpa using h
          have hone : ∀ u ∈ [str s1, .slice ao1 n1 c1, .int .i64 a1], u.oneCell' = true := by simp [Value.oneCell']
          have hmax : ps.length + 1 ≤ maxLen := by unfold maxLen; omega
          have hm8 : (ps.length + 1) * 48 ≤ 140737488355328 := by omega
          have hw12 : wr.heap.size ≤ w1.heap.size := After.le hb1
          have hW2r := HG.out.size
          have hszb : W2.heap.size ≤ ((w1.alloc (.cells #[str s1, .slice ao1 n1 c1, .int .i64 a1] 63)).alloc (.cells #[str s1, .slice ao1 n1 c1, .int .i64 a1] 63)).heap.size := by simp; omega
          have HR1 := Lib.hid hR1
          have HGS := Lib.hid hgS
          have HHQ1 := Lib.hid (After.heap hb1 HHQ.out)
          clear hq1 hR1 hgS
          go_wp2_with (at_builtin; refine wpList_append_at _ rfl _ _ 61 rfl W2.heap.size 63 i0 (.agg #[.string ⟨#[]⟩, .slice none 0 0, .int .i64 0]) 3 48 hun hi0 hz0 hz1 hz2 rfl (by decide) _ _ _ rfl hown ⟨w1.heap.size + 1, 0, none⟩ 1 1 [str s1, .slice ao1 n1 c1, .int .i64 a1] rfl rfl hnew hone hmax hm8 hszb (by decide) ?_; intro v6 w6 ho6 hg6 hw6; obtain ⟨bo, bn, bc, rfl⟩ := o_slice ho6; have hq6 := (hg6.block (w.heap.size + 1) (by simp; omega) (fun e => by have := (hown.lt _ e.symm).1; omega)).trans (After.heap (After.alloc (After.new w1 _) _) HHQ1.out); obtain ⟨b0, b1, b2, g0, g1, g2, gz⟩ := cells3 hq6; have HQ6 := Lib.hid hq6; have HO6 := Lib.hid ho6; have HG6 := Lib.hid hg6; have HW6 := Lib.hid hw6; clear ho6 hg6 hw6 hq6)
          go_roundw
          case measure => simp [intOf]; omega
          case rel =>
            have hHQ7 : (w6.setCell ⟨w.heap.size + 1, 1, none⟩ (.slice bo bn bc)).heap[w.heap.size + 1]? = some (.cells #[str lt, .slice bo bn bc, .int .i64 0] 63 (0, 0)) := by
              have := HQ6.out
              simp [World.setCell, Array.getElem?_modify, this]
            have hR7 : RowS w6 W2.heap.size (.slice bo bn bc) (ps ++ [t]) (xs ++ [str s1, .slice ao1 n1 c1, .int .i64 a1]) :=
              RowS.push (w := w1.alloc (.cells #[str s1, .slice ao1 n1 c1, .int .i64 a1] 63)) (S := wr.heap.size) (HR1.out.grown (grown_after (After.new w1 _)) hbase) hW2r HGS.out (HT1.out.after (After.new w1 _)) _ HO6.out HG6.out HW6.out
            have hlow : ∀ g, (Value.slice ao ps.length c).ownBlock = some g → W2.heap.size ≤ g := fun g hg => (hown.lt g hg).1
            have hG1 : W2.grownBy w1 (some (w.heap.size + 1)) := grown_trans HG.out hgq
            have hG6 : W2.grownBy w6 (some (w.heap.size + 1)) := by
              have h45s := hG1.size
              refine ⟨HG6.out.os.trans hG1.os, HG6.out.tape.trans hG1.tape, HG6.out.output.trans hG1.output, by have := HG6.out.size; simp at this; omega, fun q hq hne => ?_⟩
              rw [HG6.out.block q (by simp; omega) (fun e => by have := hlow q e.symm; omega)]
              rw [((After.new w1 (.cells #[str s1, .slice ao1 n1 c1, .int .i64 a1] 63)).alloc _).block q (by omega)]
              exact hG1.block q hq hne
            refine ⟨j, rfl, hj2, fu, ps ++ [t], _, bo, bn, bc, HPn.out, by omega, hHQ7, hR7.grown (grown_setx _ _ _ _) hbase, grown_trans hG6 (grown_setx _ _ _ _), ?_, by simp; omega⟩
            intro f hf
            rcases List.mem_append.1 hf with hf | hf
            · exact HOK.out f hf
            · simp at hf; subst hf; exact ht
      · have hfinR : R = some (ps, m) := by rw [← HP.out]; simp [FT.mparts, h32]
        have hS := HSO.out ps m hfinR
        have hK := HRow.out.kids (Nat.le_refl W2.heap.size)
        by_cases hml : m = l.length
        · have hS2 : FT.mread l (d + 1) k = none := by rw [hS, if_neg]; rw [hml]; simp
          have HF := Lib.hid hS2
          have hmi : (m : Int) = (l.length : Int) := by omega
          clear hS hS2 hfinR h32 hK
          subst hml
          go_wp2_with fail
          exact bodyPost_ret (v := .tuple #[.agg #[str lt, .slice ao n c, .int .i64 0], .int .i64 (-1)]) (by simp [results, Tryz.results71, go_sem, r0, r1, r2]; try omega) rfl (S3Post.no HF.out (by repeat (first | exact awr.trans hb1 | exact awr | refine After.alloc ?_ _ | refine Below.setCell ?_ (by first | exact Nat.le_refl _ | exact Nat.le_succ _) _)) _ _ _ _ _)
        · have hm1 : m < l.length := by omega
          have h32e : ((((⟨l.toArray⟩ : ByteArray)[m]'(by rw [hsz]; exact hm1)).toNat : Int) == 32) = false := by
            rw [byte_at l m hm1 (by rw [hsz]; exact hm1)]
            rw [List.getElem?_eq_getElem hm1] at h32
            rw [beq_eq_false_iff_ne]
            exact fun e => h32 (congrArg some (UInt8.toNat_inj.1 (by show (l[m]).toNat = 32; omega)))
          have hm1i : (m : Int) < (l.length : Int) := by omega
          by_cases h41 : l[m]? = some 41
          · have h41e : ((((⟨l.toArray⟩ : ByteArray)[m]'(by rw [hsz]; exact hm1)).toNat : Int) != 41) = false := by
              have hv := (List.getElem?_eq_some_iff.1 h41).2
              rw [byte_at l m hm1 (by rw [hsz]; exact hm1), hv]; rfl
            rw [if_pos h41] at hS
            have hpl : ps.length ≤ 1000 := by omega
            have k1 := fun W (hW : After wr W) => s_arity W W2.heap.size lt _ ps 0 (hK.after hW) (fun f hf => FT.arity_le (HOK.out f hf)) hpl
            have HS := Lib.hid hS
            have HK := Lib.hid hK
            clear hS hfinR h32 hK h41
            cases hcb : FT.comb lt ps with
            | none =>
              have HF := Lib.hid (show FT.mread l (d + 1) k = none by rw [HS.out, hcb])
              rw [show arityL lt ps = -1 by simp [arityL, hcb]] at k1
              clear hcb HS
              go_wp2_with fail
              refine (k1 _ (After.refl _)).mono ?_
              rintro e w1 ⟨rfl, hb1⟩
              clear k1 b0 b1 b2 g1 g2 r0 r1 r2 f0 f1 f2
              obtain ⟨b0, b1, b2, g0, g1, g2, gz⟩ := cells3 (After.heap hb1 HHQ.out)
              obtain ⟨r0, r1, r2, f0, f1, f2, hz⟩ := cells3 (After.heap hb1 HHR.out)
              go_wp2_with fail
              exact bodyPost_ret (v := .tuple #[.agg #[str lt, .slice ao n c, .int .i64 (-1)], .int .i64 (-1)]) (by simp [results, Tryz.results71, go_sem, r0, r1, r2]; try omega) rfl (S3Post.no HF.out (by repeat (first | exact awr.trans hb1 | exact awr | refine After.alloc ?_ _ | refine Below.setCell ?_ (by first | exact Nat.le_refl _ | exact Nat.le_succ _) _)) _ _ _ _ _)
            | some t =>
              have HF := Lib.hid (show FT.mread l (d + 1) k = some (t, m + 1) by rw [HS.out, hcb])
              obtain ⟨hat1, hat2⟩ := FT.comb_atom hcb
              obtain ⟨hokt, _, _⟩ := FT.comb_facts hcb HOK.out
              have har := FT.arity_le hokt
              rw [show arityL lt ps = (FT.arity t : Nat) by simp [arityL, hcb]] at k1
              have HSF := Lib.hid (show SF wr W2.heap.size t (.agg #[str lt, .slice ao n c, .int .i64 (FT.arity t : Nat)]) by rw [hat1]; exact SF.mk (by rw [hat2]; exact HK.out))
              clear hcb HS hat1 hat2 hokt
              have ha1 : ¬ ((FT.arity t : Int) < 0) := by omega
              have ha2 : ¬ ((3 : Int) < (FT.arity t : Int)) := by omega
              generalize har' : FT.arity t = art at *
              go_wp2_with fail
              refine (k1 _ (After.refl _)).mono ?_
              rintro e w1 ⟨rfl, hb1⟩
              clear k1 b0 b1 b2 g1 g2 r0 r1 r2 f0 f1 f2
              obtain ⟨b0, b1, b2, g0, g1, g2, gz⟩ := cells3 (After.heap hb1 HHQ.out)
              obtain ⟨r0, r1, r2, f0, f1, f2, hz⟩ := cells3 (After.heap hb1 HHR.out)
              go_wp2_with fail
              refine bodyPost_ret (v := .tuple #[.agg #[str lt, .slice ao n c, .int .i64 (art : Nat)], .int .i64 ((m : Int) + 1)]) (by simp [results, Tryz.results71, go_sem, r0, r1, r2]; try omega) rfl ?_
              refine ⟨lt, ao, n, c, (art : Nat), by rw [HF.out]; rfl, (by repeat (first | exact awr.trans hb1 | exact awr | refine After.alloc ?_ _ | refine Below.setCell ?_ (by first | exact Nat.le_refl _ | exact Nat.le_succ _) _)), fun t' j' he => ?_⟩
              rw [HF.out] at he
              simp only [Option.some.injEq, Prod.mk.injEq] at he
              obtain ⟨rfl, rfl⟩ := he
              refine HSF.out.move (by have := HS2.out; omega) (fun b hb hl => ?_)
              have hs2 := HS2.out
              have hbl := hb1.block b hl
              rw [← hbl]
              rw [Below.heap_setCell _ _ _ _ (show b ≠ w.heap.size by omega), Below.heap_setCell _ _ _ _ (show b ≠ w.heap.size by omega), Below.heap_setCell _ _ _ _ (show b ≠ w.heap.size by omega)]
              exact Below.heap_setCell _ _ _ _ (show b ≠ w.heap.size + 1 by omega)
          · have h41e : ((((⟨l.toArray⟩ : ByteArray)[m]'(by rw [hsz]; exact hm1)).toNat : Int) != 41) = true := by
              rw [byte_at l m hm1 (by rw [hsz]; exact hm1), byte_ne_lit' l[m] 41 41 rfl rfl]
              rw [List.getElem?_eq_getElem hm1] at h41
              simpa using h41
            rw [if_neg h41] at hS
            have HF := Lib.hid hS
            clear hS hfinR h32 hK h41
            go_wp2_with fail
            exact bodyPost_ret (v := .tuple #[.agg #[str lt, .slice ao n c, .int .i64 0], .int .i64 (-1)]) (by simp [results, Tryz.results71, go_sem, r0, r1, r2]; try omega) rfl (S3Post.no HF.out (by repeat (first | exact awr.trans hb1 | exact awr | refine After.alloc ?_ _ | refine Below.setCell ?_ (by first | exact Nat.le_refl _ | exact Nat.le_succ _) _)) _ _ _ _ _)
end Go.Proofs.YtjomocjlnjgkeaaGreat
