/-
  The model's l3Value: its memory, states that have failed, words.
-/
import Derived.Test.YtjomocjlnjgkeaaGreatPkBI
import Derived.Test.YtjomocjlnjgkeaaGreatPkBL
namespace Go.Proofs.YtjomocjlnjgkeaaGreat
open Go.RowKit

set_option maxHeartbeats 1000000
set_option maxRecDepth 100000

def MSt (w : World) (rb s : Nat) (bad : Bool) : Prop := w.heap[rb]? = some (.cells #[.int .i64 (s : Nat), .bool bad] 74 (0, 0))
theorem MSt.after {w W : World} {rb s : Nat} {bad : Bool} (h : MSt w rb s bad) (ha : After w W) : MSt W rb s bad := ha.heap h
theorem MSt.set0 {w : World} {rb s : Nat} {bad : Bool} (h : MSt w rb s bad) (n : Nat) : MSt (w.setCell ⟨rb, 0, none⟩ (.int .i64 (n : Nat))) rb n bad := by
  unfold MSt at *
  simp [World.setCell, Array.getElem?_modify, h]
theorem MSt.set1 {w : World} {rb s : Nat} {bad : Bool} (h : MSt w rb s bad) (b : Bool) : MSt (w.setCell ⟨rb, 1, none⟩ (.bool b)) rb s b := by
  unfold MSt at *
  simp [World.setCell, Array.getElem?_modify, h]
theorem MSt.c0 {w : World} {rb s : Nat} {bad : Bool} (h : MSt w rb s bad) : w.cell? ⟨rb, 0, none⟩ = some (.int .i64 (s : Nat)) := cell_of_heap (i := 0) h
theorem MSt.c1 {w : World} {rb s : Nat} {bad : Bool} (h : MSt w rb s bad) : w.cell? ⟨rb, 1, none⟩ = some (.bool bad) := cell_of_heap (i := 1) h
theorem MSt.fr {w : World} {rb s : Nat} {bad : Bool} (h : MSt w rb s bad) (i : Nat) : w.frozen? ⟨rb, i, none⟩ = false := by unfold MSt at h; simp [World.frozen?, h]
theorem MSt.lt {w : World} {rb s : Nat} {bad : Bool} (h : MSt w rb s bad) : rb < w.heap.size := (Array.getElem?_eq_some_iff.1 h).1

def MPost (w : World) (rb N : Nat) (o : Option (Nat × Nat)) (e : Ending) (w' : World) : Prop :=
  w.grownBy w' (some rb) ∧ ∃ x : Int, e = .returned (.int .i64 x) ∧ match o with
    | none => ∃ s', s' ≤ N ∧ MSt w' rb s' true
    | some (v, s) => x = (v : Nat) ∧ MSt w' rb s false

/-- What stands behind the count. -/
theorem ms_ahead {w : World} {rb s : Nat} {bad : Bool} (h : MSt w rb s bad) (o : Obj) : ∃ W1, W1 = (w.alloc o).setCell ⟨rb, 0, none⟩ (.int .i64 ((s : Int) + 1)) ∧ MSt W1 rb (s + 1) bad ∧ w.grownBy W1 (some rb) ∧ W1.heap[w.heap.size]? = some o ∧
    (w.alloc o).cell? ⟨rb, 0, none⟩ = some (.int .i64 (s : Nat)) ∧ (w.alloc o).frozen? ⟨rb, 0, none⟩ = false ∧ ((w.alloc o).setCell ⟨rb, 0, none⟩ (.int .i64 ((s : Int) + 1))).cell? ⟨rb, 0, none⟩ = some (.int .i64 ((s : Int) + 1)) ∧
    ((w.alloc o).setCell ⟨rb, 0, none⟩ (.int .i64 ((s : Int) + 1))).cell? ⟨rb, 1, none⟩ = some (.bool bad) ∧ ((w.alloc o).setCell ⟨rb, 0, none⟩ (.int .i64 ((s : Int) + 1))).frozen? ⟨rb, 1, none⟩ = false := by
  have h1 : MSt (w.alloc o) rb s bad := h.after (After.new _ _)
  have h2 : MSt ((w.alloc o).setCell ⟨rb, 0, none⟩ (.int .i64 ((s : Int) + 1))) rb (s + 1) bad := by have := h1.set0 (s + 1); simpa using this
  refine ⟨_, rfl, h2, grown_trans (grown_alloc w rb o) (grown_setx _ _ _ _), ?_, h1.c0, h1.fr 0, by have := h2.c0; simpa using this, h2.c1, h2.fr 1⟩
  rw [Below.heap_setCell _ _ _ _ (by have := h.lt; show w.heap.size ≠ rb; omega)]
  exact heap_top w o

theorem grown_cell' {w w' : World} {g rb i : Nat} {v : Value} (h : w.cell? ⟨g, i, none⟩ = some v) (hne : g ≠ rb) (hg : w.grownBy w' (some rb)) : w'.cell? ⟨g, i, none⟩ = some v := by
  have hb := hg.block g (World.block_lt_of_cell? _ _ h) (fun e => by injection e with e; exact hne e)
  simp only [World.cell?] at *
  rw [hb]
  exact h

theorem sv_stop (w : World) (rb s : Nat) (bad : Bool) (a : List UInt8) (ao : Option Addr) (n c : Nat) (ar : Int) (sv : Value) (h : MSt w rb s bad) (hs : s ≤ 1000000) (hb : bad = true ∨ 2000 < s + 1) :
    Calls Tryz.prog 40 #[ptr rb, .agg #[str a, .slice ao n c, .int .i64 ar], sv] w fun e w' => w.grownBy w' (some rb) ∧ e = .returned (.int .i64 0) ∧ MSt w' rb (s + 1) true := by
  obtain ⟨W1, hW1, hm1, hg1, _, c0, f0, d0, d1, f1⟩ := ms_ahead h (.cells #[str a, .slice ao n c, .int .i64 ar] 63)
  have HW1 := Lib.hid hW1
  have HM := Lib.hid hm1
  have HG := Lib.hid hg1
  have hfin : ∀ W, W = W1.setCell ⟨rb, 1, none⟩ (.bool true) → w.grownBy W (some rb) ∧ MSt W rb (s + 1) true := fun W hW => by
    rw [hW]
    exact ⟨grown_trans HG.out (grown_setx _ _ _ _), HM.out.set1 true⟩
  have HF := Lib.hid hfin
  clear h hW1 hm1 hg1 hfin
  cases bad with
  | true =>
    clear hb
    go_enter Tryz.func40, Tryz.ntmps40
    go_wp2_with fail
    go_ret
    obtain ⟨q1, q2⟩ := HF.out _ (by rw [HW1.out])
    exact ⟨q1, rfl, q2⟩
  | false =>
    have hb' : (2000 : Int) < (s : Int) + 1 := by rcases hb with h | h; cases h; omega
    clear hb
    go_enter Tryz.func40, Tryz.ntmps40
    go_wp2_with fail
    go_ret
    obtain ⟨q1, q2⟩ := HF.out _ (by rw [HW1.out])
    exact ⟨q1, rfl, q2⟩

theorem MPost.stop {w w' : World} {rb s N : Nat} {e : Ending} (hN : s + 1 ≤ N) (h : w.grownBy w' (some rb) ∧ e = .returned (.int .i64 0) ∧ MSt w' rb (s + 1) true) : MPost w rb N none e w' := ⟨h.1, 0, h.2.1, s + 1, hN, h.2.2⟩

theorem sv_zw (w : World) (rb s : Nat) (d : UInt8) (ar : Int) (sv : Value) (h : MSt w rb s false) (h2 : ¬ 2000 < s + 1) :
    Calls Tryz.prog 40 #[ptr rb, .agg #[str [122, d], .slice none 0 0, .int .i64 ar], sv] w fun e w' => w.grownBy w' (some rb) ∧ e = .returned (.int .i64 0) ∧ MSt w' rb (s + 1) false := by
  obtain ⟨W1, hW1, hm1, hg1, hh, c0, f0, d0, d1, f1⟩ := ms_ahead h (.cells #[str [122, d], .slice none 0 0, .int .i64 ar] 63)
  have t0 := cell_of_heap (i := 0) hh
  rw [hW1] at t0
  have t0' : ((w.alloc (.cells #[str [122, d], .slice none 0 0, .int .i64 ar] 63)).setCell ⟨rb, 0, none⟩ (.int .i64 ((s : Int) + 1))).cell? ⟨w.heap.size, 0, none⟩ = some (str [122, d]) := t0
  have h2' : ¬ (2000 : Int) < (s : Int) + 1 := by omega
  have hsb : s ≤ 2000 := by omega
  have HW1 := Lib.hid hW1
  have HM := Lib.hid hm1
  have HG := Lib.hid hg1
  clear h hW1 hm1 hg1 hh t0 h2
  go_enter Tryz.func40, Tryz.ntmps40
  go_wp2_with fail
  go_ret
  rw [← HW1.out]
  exact ⟨HG.out, rfl, HM.out⟩

theorem sv_inc (w : World) (rb s x : Nat) (ar : Int) (sv : Value) (h : MSt w rb s false) (h2 : ¬ 2000 < s + 1) (hv : IntsV w rb sv [x]) (hx : x ≤ 10000) :
    Calls Tryz.prog 40 #[ptr rb, .agg #[str [105, 110, 99], .slice none 0 0, .int .i64 ar], sv] w fun e w' => w.grownBy w' (some rb) ∧ e = .returned (.int .i64 ((x : Int) + 1)) ∧ MSt w' rb (s + 1) (decide (1000 ≤ x)) := by
  rcases hv with ⟨hv, _⟩ | ⟨b, o, cap, rfl, hl, hne, hb, hc⟩
  · cases hv
  have hc0 := hc 0 (by simp)
  rw [Nat.add_zero] at hc0
  have hc0' : w.cell? ⟨b, o, none⟩ = some (.int .i64 (x : Nat)) := hc0
  obtain ⟨W1, hW1, hm1, hg1, hh, c0, f0, d0, d1, f1⟩ := ms_ahead h (.cells #[str [105, 110, 99], .slice none 0 0, .int .i64 ar] 63)
  have t0 := cell_of_heap (i := 0) hh
  rw [hW1] at t0
  have t0' : ((w.alloc (.cells #[str [105, 110, 99], .slice none 0 0, .int .i64 ar] 63)).setCell ⟨rb, 0, none⟩ (.int .i64 ((s : Int) + 1))).cell? ⟨w.heap.size, 0, none⟩ = some (str [105, 110, 99]) := t0
  have hb1 : W1.cell? ⟨b, o, none⟩ = some (.int .i64 (x : Nat)) := grown_cell' hc0' hne hg1
  rw [hW1] at hb1
  have hb2 : (W1.setCell ⟨rb, 1, none⟩ (.bool (decide (1000 ≤ (x : Int))))).cell? ⟨b, o, none⟩ = some (.int .i64 (x : Nat)) := grown_cell' hc0' hne (grown_trans hg1 (grown_setx _ _ _ _))
  rw [hW1] at hb2
  have h2' : ¬ (2000 : Int) < (s : Int) + 1 := by omega
  have hsb : s ≤ 2000 := by omega
  have HW1 := Lib.hid hW1
  have HM := Lib.hid hm1
  have HG := Lib.hid hg1
  clear h hW1 hm1 hg1 hh t0 h2 hc hc0 hc0'
  simp only [List.length_singleton]
  go_enter Tryz.func40, Tryz.ntmps40
  go_wp2_with fail
  go_ret
  rw [← HW1.out]
  refine ⟨grown_trans HG.out (grown_setx _ _ _ _), rfl, ?_⟩
  have := HM.out.set1 (decide (1000 ≤ (x : Int)))
  rw [show decide (1000 ≤ x) = decide (1000 ≤ (x : Int)) by rw [decide_eq_decide]; omega]
  exact this

theorem sv_p (w : World) (rb s i : Nat) (hi : i ≤ 2) (d : UInt8) (ar : Int) (sv : Value) (az : List Nat) (h : MSt w rb s false) (h2 : ¬ 2000 < s + 1) (hv : IntsV w rb sv az) (hl : i < az.length) :
    Calls Tryz.prog 40 #[ptr rb, .agg #[str [112, UInt8.ofNat (48 + i), d], .slice none 0 0, .int .i64 ar], sv] w fun e w' => w.grownBy w' (some rb) ∧ e = .returned (.int .i64 (az.getD i 0 : Nat)) ∧ MSt w' rb (s + 1) false := by
  rcases hv with ⟨hv, _⟩ | ⟨b, o, cap, rfl, hle, hne, hb, hc⟩
  · rw [hv] at hl; simp at hl
  have hc0 := hc i hl
  obtain ⟨c, hcc⟩ : ∃ c, c = UInt8.ofNat (48 + i) := ⟨_, rfl⟩
  have hdig : digI c = (i : Int) := by
    subst hcc
    match i, hi with
    | 0, _ => decide +kernel
    | 1, _ => decide +kernel
    | 2, _ => decide +kernel
  rw [← hcc]
  obtain ⟨W1, hW1, hm1, hg1, hh, c0, f0, d0, d1, f1⟩ := ms_ahead h (.cells #[str [112, c, d], .slice none 0 0, .int .i64 ar] 63)
  have t0 := cell_of_heap (i := 0) hh
  have t0' : W1.cell? ⟨w.heap.size, 0, none⟩ = some (str [112, c, d]) := t0
  have hb1 : W1.cell? ⟨b, o + i, none⟩ = some (.int .i64 (az.getD i 0 : Nat)) := grown_cell' hc0 hne hg1
  rw [hW1] at t0' hb1
  have h2' : ¬ (2000 : Int) < (s : Int) + 1 := by omega
  have hsb : s ≤ 2000 := by omega
  have hii : (i : Int) < (az.length : Int) := by omega
  generalize hx : az.getD i 0 = x at *
  generalize az.length = n at *
  have HW1 := Lib.hid hW1
  have HM := Lib.hid hm1
  have HG := Lib.hid hg1
  clear h hW1 hm1 hg1 hh t0 h2 hc hc0 hx hcc
  go_enter Tryz.func40, Tryz.ntmps40
  go_wp2_with (go_at_call 72; refine (s_digit _ c _ rfl).mono ?_; rintro e w2 ⟨rfl, m, rfl⟩; rw [hdig])
  go_ret
  rw [← HW1.out]
  exact ⟨grown_trans HG.out (grown_drawn _ rb m), rfl, HM.out⟩

/-- l3Value does for g what it has to. -/
def VK (w0 : World) (S : Nat) (g : FT) : Prop := ∀ (w : World) (rb s : Nat) (bad : Bool) (v sv : Value) (az : List Nat) (ao : Option Addr) (n c : Nat), SF w0 S g v → Agree w0 w S → w0.heap.size ≤ rb → MSt w rb s bad → s ≤ 100000 → sv = .slice ao n c →
  (bad = true → Calls Tryz.prog 40 #[ptr rb, v, sv] w fun e w' => w.grownBy w' (some rb) ∧ e = .returned (.int .i64 0) ∧ MSt w' rb (s + 1) true) ∧
  (bad = false → s ≤ 2000 → IntsV w rb sv az → az.length = FT.arity g → (∀ a ∈ az, a ≤ 1000) → Calls Tryz.prog 40 #[ptr rb, v, sv] w (MPost w rb (2001 + 4 * FT.size g) (FT.mv g az s)))

theorem vk_of {w0 : World} {S : Nat} {g : FT} (h : ∀ (w : World) (rb s : Nat) (sv : Value) (az : List Nat) (v0 : Value), KidsV w0 S v0 (FT.partsOf g) → Agree w0 w S → w0.heap.size ≤ rb → MSt w rb s false → s ≤ 2000 → ¬ 2000 < s + 1 → IntsV w rb sv az → az.length = FT.arity g → (∀ a ∈ az, a ≤ 1000) →
    Calls Tryz.prog 40 #[ptr rb, .agg #[str (FT.atomOf g), v0, .int .i64 (FT.arity g : Nat)], sv] w (MPost w rb (2001 + 4 * FT.size g) (FT.mv g az s))) (hover : ∀ az s, 2000 < s + 1 → FT.mv g az s = none) : VK w0 S g := by
  intro w rb s bad v sv az ao n c hS hA hr hm hs hsv
  obtain ⟨ao', n', c', rfl⟩ := hS.form
  refine ⟨fun hb => sv_stop w rb s bad _ _ _ _ _ sv hm (by omega) (Or.inl hb), fun hb hs2 hv hl haz => ?_⟩
  subst hb
  by_cases h2 : 2000 < s + 1
  · rw [hover az s h2]
    exact (sv_stop w rb s false _ _ _ _ _ sv hm (by omega) (Or.inr h2)).mono fun e w' hp => .stop (by have := FT.size_pos g; omega) hp
  · obtain ⟨v0, hv0, hk⟩ := hS.kids
    rw [hv0]
    exact h w rb s sv az v0 hk hA hr hm hs2 h2 hv hl haz

theorem vk_z (w0 : World) (S a : Nat) : VK w0 S (.z a) := by
  refine vk_of (fun w rb s sv az v0 hk hA hr hm hs h2 hv hl haz => ?_) (fun az s h => by simp only [FT.mv]; rw [if_pos h])
  rcases hk with ⟨_, rfl⟩ | ⟨_, _, _, _, h, _⟩
  · refine (sv_zw w rb s _ _ sv hm h2).mono ?_
    rintro e w' ⟨hg, rfl, hm'⟩
    refine ⟨hg, 0, rfl, ?_⟩
    simp only [FT.mv]
    rw [if_neg h2]
    exact ⟨rfl, hm'⟩
  · exact absurd rfl h

theorem vk_inc (w0 : World) (S : Nat) : VK w0 S .inc := by
  refine vk_of (fun w rb s sv az v0 hk hA hr hm hs h2 hv hl haz => ?_) (fun az s h => by simp only [FT.mv]; rw [if_pos h])
  rcases hk with ⟨_, rfl⟩ | ⟨_, _, _, _, h, _⟩
  · match az, hl, hv, haz with
    | [x], _, hv, haz =>
      have hx := haz x (by simp)
      refine (sv_inc w rb s x _ sv hm h2 hv (by omega)).mono ?_
      rintro e w' ⟨hg, rfl, hm'⟩
      refine ⟨hg, _, rfl, ?_⟩
      by_cases h1 : 1000 ≤ x
      · rw [show FT.mv .inc [x] s = none by simp only [FT.mv]; rw [if_neg h2, if_pos (show 1000 ≤ [x].headD 0 from h1)]]
        rw [decide_eq_true h1] at hm'
        exact ⟨s + 1, by simp [FT.size]; omega, hm'⟩
      · rw [show FT.mv .inc [x] s = some (x + 1, s + 1) by simp only [FT.mv]; rw [if_neg h2, if_neg (show ¬ 1000 ≤ [x].headD 0 from h1)]; rfl]
        rw [decide_eq_false h1] at hm'
        exact ⟨by omega, hm'⟩
  · exact absurd rfl h

theorem vk_p (w0 : World) (S i a : Nat) (hi : i < a) (ha : a ≤ 3) : VK w0 S (.p i a) := by
  refine vk_of (fun w rb s sv az v0 hk hA hr hm hs h2 hv hl haz => ?_) (fun az s h => by simp only [FT.mv]; rw [if_pos h])
  rcases hk with ⟨_, rfl⟩ | ⟨_, _, _, _, h, _⟩
  · refine (sv_p w rb s i (by omega) _ _ sv az hm h2 hv (by rw [hl]; exact hi)).mono ?_
    rintro e w' ⟨hg, rfl, hm'⟩
    refine ⟨hg, _, rfl, ?_⟩
    simp only [FT.mv]
    rw [if_neg h2]
    exact ⟨rfl, hm'⟩
  · exact absurd rfl h
end Go.Proofs.YtjomocjlnjgkeaaGreat

namespace Go.Proofs.YtjomocjlnjgkeaaGreat
open Go.RowKit

set_option maxHeartbeats 2000000
set_option maxRecDepth 100000

theorem KidsV.agree {w0 w : World} {S : Nat} {sv : Value} {ps : List FT} (h : KidsV w0 S sv ps) (hA : Agree w0 w S) (j : Nat) (hj : j < ps.length) : ∃ b cap ao n c, sv = .slice (some ⟨b, 0, none⟩) ps.length cap ∧ w.cell? ⟨b, j * 3, none⟩ = some (str (FT.atomOf ps[j])) ∧
    w.cell? ⟨b, j * 3 + 1, none⟩ = some (.slice ao n c) ∧ w.cell? ⟨b, j * 3 + 2, none⟩ = some (.int .i64 (FT.arity ps[j] : Nat)) ∧ SF w0 S ps[j] (.agg #[str (FT.atomOf ps[j]), .slice ao n c, .int .i64 (FT.arity ps[j] : Nat)]) := by
  obtain ⟨b, cap, ao, n, c, hv, h1, h2, h3, h4, hb⟩ := h.at j hj
  have hk : ∀ {i : Nat} {v : Value}, w0.cell? ⟨b, i, none⟩ = some v → w.cell? ⟨b, i, none⟩ = some v := fun {i v} h => by
    have := hA.2 b hb (World.block_lt_of_cell? _ _ h)
    simp only [World.cell?] at *
    rw [this]
    exact h
  exact ⟨b, cap, ao, n, c, hv, hk h1, hk h2, hk h3, h4⟩

theorem map_int (ys : List Nat) : (ys.map fun (x : Nat) => (x : Int)).map (fun x => Value.int .i64 x) = intL ys := by
  simp [intL]

theorem sv_c (w0 : World) (S : Nat) (f : FT) (gs : List FT) (hg1 : 1 ≤ gs.length) (hg3 : gs.length ≤ 3) (v0 : Value) (hk : KidsV w0 S v0 (f :: gs)) (ihf : VK w0 S f) (ih : ∀ g ∈ gs, VK w0 S g) (w : World) (rb s : Nat) (sv : Value) (az : List Nat) (hA : Agree w0 w S) (hr : w0.heap.size ≤ rb) (hm : MSt w rb s false) (hs : s ≤ 2000) (h2 : ¬ 2000 < s + 1)
    (hv : IntsV w rb sv az) (har : ∀ g ∈ gs, az.length = FT.arity g) (hfl : gs.length = FT.arity f) (haz : ∀ a ∈ az, a ≤ 1000) (ar : Int) (N M : Nat) (hM : ∀ g ∈ f :: gs, 2001 + 4 * FT.size g ≤ M) (hN : M + 4 ≤ N) (hMs : M ≤ 50000) :
    Calls Tryz.prog 40 #[ptr rb, .agg #[str [99], v0, .int .i64 ar], sv] w (MPost w rb N (evComp f gs az (s + 1))) := by
  obtain ⟨kb, cap, ao0, n0, cp0, rfl, _, _, _, _⟩ := hk.agree hA 0 (by simp)
  obtain ⟨ao, sc, rfl⟩ := hv.form
  obtain ⟨P, hP⟩ : ∃ P, P = gs.length := ⟨_, rfl⟩
  obtain ⟨K, hK⟩ : ∃ K, K = (f :: gs).length := ⟨_, rfl⟩
  have hKP : K = P + 1 := by rw [hK, hP]; rfl
  rw [← hK]
  obtain ⟨R, hR⟩ : ∃ R, R = evComp f gs az (s + 1) := ⟨_, rfl⟩
  rw [← hR]
  obtain ⟨m, hmm⟩ : ∃ m, m = az.length := ⟨_, rfl⟩
  have hkids : ∀ j (hj : j < (f :: gs).length) W, GB w rb W → ∃ ao n c, W.cell? ⟨kb, j * 3, none⟩ = some (str (FT.atomOf (f :: gs)[j])) ∧
      W.cell? ⟨kb, j * 3 + 1, none⟩ = some (.slice ao n c) ∧ W.cell? ⟨kb, j * 3 + 2, none⟩ = some (.int .i64 (FT.arity (f :: gs)[j] : Nat)) ∧ SF w0 S (f :: gs)[j] (.agg #[str (FT.atomOf (f :: gs)[j]), .slice ao n c, .int .i64 (FT.arity (f :: gs)[j] : Nat)]) := fun j hj W hW => by
    obtain ⟨b', cap', ao', n', c', hv', r1, r2, r3, r4⟩ := hk.agree (hA.grown hW hr) j hj
    injection hv' with e1 e2 e3
    injection e1 with e1
    injection e1 with e1 e4
    subst e1
    exact ⟨ao', n', c', r1, r2, r3, r4⟩
  obtain ⟨W1, hW1, hm1, hgw1, hh, c0, f0, d0, d1, f1⟩ := ms_ahead hm (.cells #[str [99], .slice (some ⟨kb, 0, none⟩) K cap, .int .i64 ar] 63)
  have t0 : W1.cell? ⟨w.heap.size, 0, none⟩ = some (str [99]) := cell_of_heap (i := 0) hh
  have hqr : w.heap.size ≠ rb := by have := hm.lt; omega
  have t1 : ∀ W, GB W1 rb W → W.cell? ⟨w.heap.size, 1, none⟩ = some (.slice (some ⟨kb, 0, none⟩) K cap) := fun W hW => grown_cell' (cell_of_heap (i := 1) hh) hqr hW
  rw [hW1] at t0
  obtain ⟨W2, hW2⟩ : ∃ W2, W2 = W1.alloc (.cells #[] 3) := ⟨_, rfl⟩
  have hm2 : MSt W2 rb (s + 1) false := by rw [hW2]; exact hm1.after (After.new _ _)
  have hg12 : GB W1 rb W2 := by rw [hW2]; exact GB.after (After.new _ _) rb
  have hrow : W2.ownsRow W1.heap.size 3 1 (.slice (some ⟨W1.heap.size, 0, none⟩) 0 0) 0 [] := by
    rw [hW2]
    exact ⟨rfl, Or.inr ⟨W1.heap.size, 0, #[], rfl, Nat.le_refl _, heap_top W1 _, Nat.le_refl _, by unfold maxLen; omega, rfl, rfl⟩⟩
  have hrb1 : rb < W1.heap.size := hm1.lt
  have h2' : ¬ (2000 : Int) < (s : Int) + 1 := by omega
  obtain ⟨base, hbase⟩ : ∃ base, base = W1.heap.size := ⟨_, rfl⟩
  rw [← hbase] at hrow hrb1
  have hW2s : base ≤ W2.heap.size := by rw [hbase, hW2]; simp
  have hK4 : K ≤ 4 := by omega
  have HB := Lib.hid hbase
  have HP := Lib.hid hP
  have HK := Lib.hid hK
  have HKP := Lib.hid hKP
  have HR := Lib.hid hR
  have HMM := Lib.hid hmm
  have HKIDS := Lib.hid hkids
  have HIF := Lib.hid ihf
  have HIH := Lib.hid ih
  have HA := Lib.hid hA
  have HV := Lib.hid hv
  have HAR := Lib.hid har
  have HFL := Lib.hid hfl
  have HAZ := Lib.hid haz
  have HM := Lib.hid hM
  have HW1 := Lib.hid hW1
  have HW2 := Lib.hid hW2
  have HM2 := Lib.hid hm2
  have HROW := Lib.hid hrow
  have HG12 := Lib.hid hg12
  have HGW1 := Lib.hid hgw1
  have HT1 := Lib.hid t1
  rw [← hmm]
  clear hbase hP hK hKP hR hmm hkids ihf ih hA hv har hfl haz hM hW1 hW2 hm1 hm2 hrow hgw1 hg12 t1 hk hm hh h2
  go_enter Tryz.func40, Tryz.ntmps40
  go_wp2_with fail
  rw [← HW1.out, ← HW2.out]
  go_loopw [7, 8] (fun vs i wr => ∃ (j k : Nat) (xs : List Int) (sk : Nat) (bad : Bool), i = .int .i64 (j : Nat) ∧ Hid (j = k + 1) ∧ j ≤ K ∧ sk ≤ 60000 ∧ Hid (wr.ownsRow base 3 1 vs k (xs.map fun x => Value.int .i64 x)) ∧ Hid (MSt wr rb sk bad) ∧ Hid (GB W1 rb wr) ∧
    Hid (bad = false → sk ≤ 2000 ∧ ∃ ys, evAll (gs.take k) az (s + 1) = some (ys, sk) ∧ xs = ys.map fun (x : Nat) => (x : Int)) ∧ Hid (bad = true → evAll gs az (s + 1) = none ∧ sk ≤ M + k)) (fun _ i _ => K + 1 - (intOf i).toNat)
  case atStart =>
    refine ⟨1, 0, [], s + 1, false, rfl, rfl, by have := HKP.out; omega, by omega, ?_, HM2.out, HG12.out, fun _ => ⟨by omega, [], rfl, rfl⟩, fun h => by cases h⟩
    have hb : base = w.heap.size + 1 := by rw [HB.out, HW1.out]; simp [World.setCell]
    rw [← hb]
    exact HROW.out
  case round =>
    obtain ⟨j, k, xs, sk, bad, rfl, HJ, hjK, hsk, HO, HST, HG, HGOOD, HBAD⟩ := hrel
    have hgw : GB w rb wr := GB.trans HGW1.out HG.out
    have b1 := HT1.out wr HG.out
    have hs1 := HST.out
    by_cases hlt : j < K
    · have hjl : j < (f :: gs).length := by rw [← HK.out]; exact hlt
      obtain ⟨ao1, n1, cc1, k0, k1, k2, hkid⟩ := HKIDS.out j hjl wr hgw
      have hkl : k < gs.length := by have := HJ.out; have := HK.out; simp at this; omega
      have hgk : (f :: gs)[j] = gs[k] := by
        have e := HJ.out
        subst e
        rfl
      rw [hgk] at k0 k2 hkid
      have hmem : gs[k] ∈ gs := List.getElem_mem hkl
      obtain ⟨vk1, vk2⟩ := HIH.out _ hmem wr rb sk bad _ (.slice ao m sc) az ao m sc hkid (HA.out.grown hgw hr) hr HST.out (by omega) rfl
      have hivr : IntsV wr rb (.slice ao m sc) az := by rw [HMM.out]; exact HV.out.grown hgw
      have hMk := HM.out gs[k] (List.mem_cons_of_mem _ hmem)
      have hcall : Calls Tryz.prog 40 #[ptr rb, .agg #[str (FT.atomOf gs[k]), .slice ao1 n1 cc1, .int .i64 (FT.arity gs[k] : Nat)], .slice ao m sc] wr fun e w1 => wr.grownBy w1 (some rb) ∧ ∃ (x : Int) (sk' : Nat) (bad' : Bool), e = .returned (.int .i64 x) ∧ MSt w1 rb sk' bad' ∧ sk' ≤ 60000 ∧
          (bad' = false → sk' ≤ 2000 ∧ ∃ ys, evAll (gs.take (k + 1)) az (s + 1) = some (ys, sk') ∧ xs ++ [x] = ys.map fun (x : Nat) => (x : Int)) ∧ (bad' = true → evAll gs az (s + 1) = none ∧ sk' ≤ M + (k + 1)) := by
        cases bad with
        | true =>
          obtain ⟨q1, q2⟩ := HBAD.out rfl
          refine (vk1 rfl).mono ?_
          rintro e w1 ⟨hg1, rfl, hst⟩
          exact ⟨hg1, 0, sk + 1, true, rfl, hst, by omega, (fun h => by cases h), fun _ => ⟨q1, by omega⟩⟩
        | false =>
          obtain ⟨q1, ys, q2, q3⟩ := HGOOD.out rfl
          have hv2 := vk2 rfl q1 hivr (HAR.out _ hmem) HAZ.out
          rw [FT.mv_eq gs[k] az sk HAZ.out] at hv2
          have hnext : evAll (gs.take (k + 1)) az (s + 1) = match FT.ev gs[k] az sk with | none => none | some (x, s2) => some (ys ++ [x], s2) := by
            rw [List.take_succ_eq_append_getElem hkl, evAll_append, q2]
            simp only [evAll_one]
            cases FT.ev gs[k] az sk with
            | none => rfl
            | some p => rfl
          refine hv2.mono ?_
          rintro e w1 ⟨hg1, x, rfl, hx⟩
          cases hev : FT.ev gs[k] az sk with
          | none =>
            rw [hev] at hx hnext
            obtain ⟨s', hs', hst⟩ := hx
            exact ⟨hg1, x, s', true, rfl, hst, by omega, (fun h => by cases h), fun _ => ⟨evAll_none hnext, by omega⟩⟩
          | some p =>
            obtain ⟨y, s1⟩ := p
            rw [hev] at hx hnext
            obtain ⟨rfl, hst⟩ := hx
            have hr2 := ((FT.ev_runs gs[k] az sk).small _ _ hev).2.2
            exact ⟨hg1, y, s1, false, rfl, hst, by omega, (fun _ => ⟨hr2, ys ++ [y], hnext, by rw [q3]; simp⟩), fun h => by cases h⟩
      obtain ⟨bo, bc, rfl⟩ := o_slice_len HO.out
      have hk3 : k ≤ 3 := by omega
      have HMEM := Lib.hid hmem
      clear vk1 vk2 hivr hMk hmem hgk hs1 HGOOD HBAD
      generalize gs[k] = gk at *
      generalize FT.atomOf gk = atk at *
      generalize ((FT.arity gk : Nat) : Int) = ark at *
      go_wp2_with fail
      refine hcall.mono ?_
      rintro e w1 ⟨hg1, x, sk', bad', rfl, hst', hsk', hgood', hbad'⟩
      have hg0 := GB.trans HG.out hg1
      have hO1 : w1.ownsRow base 3 1 (.slice bo k bc) k (xs.map fun x => Value.int .i64 x) := HO.out.kept hg1 (by
        cases hv : (Value.slice bo k bc).ownBlock with
        | none => exact Or.inl rfl
        | some g => exact Or.inr (fun e => by injection e with e; have := (HO.out.lt g hv).1; omega))
      obtain ⟨i0, hi0, hz0, hz1, hz2⟩ : ∃ i, (Tryz.prog).info? 3 = some i ∧ i.zero = some (.int .i64 0) ∧ i.size = 1 ∧ i.bytes = 8 := ⟨_, rfl, rfl, rfl, rfl⟩
      have hun : Tryz.prog.underlying 30 = some (.slice 3) := by kernel_rfl
      have hown := World.ownsRow.alloc hO1 (.cells #[.int .i64 x] 3)
      have hnew : ∀ j u, [Value.int .i64 x][j]? = some u → (w1.alloc (.cells #[.int .i64 x] 3)).cell? ((⟨w1.heap.size, 0, none⟩ : Addr).add j) = some u := fun j u h => by
        match j with
        | 0 =>
          simp at h
          subst h
          rw [show ((⟨w1.heap.size, 0, none⟩ : Addr).add 0) = ⟨w1.heap.size, 0, none⟩ from rfl, cell_of_heap (heap_top w1 (.cells #[.int .i64 x] 3))]
          rfl
        | j + 1 => simp at h
      have hone : ∀ u ∈ [Value.int .i64 x], u.oneCell' = true := by simp [Value.oneCell']
      have hmax : k + 1 ≤ maxLen := by unfold maxLen; omega
      have hm8 : (k + 1) * 8 ≤ 140737488355328 := by omega
      have hb1 : base ≤ w1.heap.size := by rw [HB.out]; exact hg0.size
      have hsz : base ≤ (w1.alloc (.cells #[.int .i64 x] 3)).heap.size := by simp; omega
      have HG0 := Lib.hid hg0
      have HST1 := Lib.hid hst'
      have HGD := Lib.hid hgood'
      have HBD := Lib.hid hbad'
      clear hcall hg1 hst' hO1 hg0 hgood' hbad' HST
      go_wp2_with (at_builtin; refine wpList_append_own _ rfl _ _ 30 rfl base 3 i0 (.int .i64 0) 1 8 hun hi0 hz0 hz1 hz2 rfl (by decide) _ _ _ rfl hown ⟨w1.heap.size, 0, none⟩ 1 1 [.int .i64 x] rfl rfl hnew hone hmax hm8 hsz ?_; intro v2 w2 ho2 hg2 hiff; clear hiff; obtain ⟨co, cn, cc, rfl⟩ := o_slice ho2; have HO2 := Lib.hid ho2; have HG2 := Lib.hid hg2; clear ho2 hg2)
      go_roundw
      case measure => simp [intOf]; omega
      case rel =>
        have hlow : ∀ g, (Value.slice bo k bc).ownBlock = some g → base ≤ g := fun g hg => (hown.lt g hg).1
        have h1lt : rb < w1.heap.size := HST1.out.lt
        have hg02 : GB W1 rb w2 := by
          have h45 := HG0.out
          have h45s := h45.size
          have hbe := HB.out
          refine ⟨HG2.out.os.trans h45.os, HG2.out.tape.trans h45.tape, HG2.out.output.trans h45.output, by have := HG2.out.size; simp at *; omega, fun q hq hne => ?_⟩
          rw [HG2.out.block q (by simp; omega) (fun e => by have := hlow q e.symm; omega)]
          rw [(below_new w1 _).block q (by omega)]
          exact h45.block q hq hne
        have h6 := HG2.out.block rb (by simp; omega) (fun e => by have := hlow rb e.symm; omega)
        have h7 := (below_new w1 (.cells #[.int .i64 x] 3)).block rb h1lt
        exact ⟨j + 1, k + 1, xs ++ [x], sk', bad', by go_num, by have := HJ.out; show j + 1 = k + 1 + 1; omega, by omega, hsk', by show World.ownsRow _ _ _ _ _ _ _; simpa using HO2.out, (h6.trans h7).trans HST1.out, hg02, HGD.out, HBD.out⟩
    · have e := HJ.out
      have hkP : k = P := by have := HKP.out; omega
      have hkg : k = gs.length := by rw [hkP]; exact HP.out
      obtain ⟨ao1, n1, cc1, k0, k1, k2, hkid⟩ := HKIDS.out 0 (by simp) wr hgw
      rw [List.getElem_cons_zero] at k0 k2 hkid
      obtain ⟨bo, bc, rfl⟩ := o_slice_len HO.out
      have hcall : Calls Tryz.prog 40 #[ptr rb, .agg #[str (FT.atomOf f), .slice ao1 n1 cc1, .int .i64 (FT.arity f : Nat)], .slice bo k bc] wr (MPost wr rb N R) := by
        cases bad with
        | true =>
          obtain ⟨q1, q2⟩ := HBAD.out rfl
          obtain ⟨vk1, _⟩ := HIF.out wr rb sk true _ (.slice bo k bc) [] bo k bc hkid (HA.out.grown hgw hr) hr HST.out (by omega) rfl
          refine (vk1 rfl).mono ?_
          rintro e w1 ⟨hg1, rfl, hst⟩
          refine ⟨hg1, 0, rfl, ?_⟩
          rw [show R = none by rw [HR.out]; simp [evComp, q1]]
          exact ⟨sk + 1, by omega, hst⟩
        | false =>
          obtain ⟨q1, ys, q2, q3⟩ := HGOOD.out rfl
          rw [hkg, List.take_length] at q2
          obtain ⟨hyl, hy1, _⟩ := evAll_facts q2
          have hiv : IntsV wr rb (.slice bo k bc) ys := ints_own ys (by rw [hyl, hkg]) (by rw [q3, map_int]) HO.out hrb1
          obtain ⟨_, vk2⟩ := HIF.out wr rb sk false _ (.slice bo k bc) ys bo k bc hkid (HA.out.grown hgw hr) hr HST.out (by omega) rfl
          refine (vk2 rfl q1 hiv (by rw [hyl]; exact HFL.out) hy1).mono ?_
          rintro e w1 ⟨hg1, x, rfl, hx⟩
          rw [FT.mv_eq f ys sk hy1] at hx
          refine ⟨hg1, x, rfl, ?_⟩
          rw [show R = FT.ev f ys sk by rw [HR.out]; simp [evComp, q2]]
          have hMf := HM.out f (by simp)
          cases hev : FT.ev f ys sk with
          | none =>
            rw [hev] at hx
            obtain ⟨s', hs', hst⟩ := hx
            exact ⟨s', by omega, hst⟩
          | some p =>
            rw [hev] at hx
            exact hx
      have hgw' := HG.out
      have HGF := Lib.hid (GB.trans HGW1.out HG.out)
      simp only [Nat.zero_mul, Nat.zero_add] at k0 k1 k2
      have hK0 : (0 : Int) < (K : Int) := by have := HKP.out; omega
      clear HGOOD HBAD hkid e hs1 hkP hkg
      generalize FT.atomOf f = atk at *
      generalize ((FT.arity f : Nat) : Int) = ark at *
      go_wp2_with fail
      refine hcall.mono ?_
      rintro e w1 ⟨hg1, x, rfl, hx⟩
      have HX := Lib.hid hx
      clear hcall hx
      go_wp2_with fail
      go_ret
      exact ⟨GB.trans HGF.out hg1, x, rfl, HX.out⟩
end Go.Proofs.YtjomocjlnjgkeaaGreat

namespace Go.Proofs.YtjomocjlnjgkeaaGreat
open Go.RowKit

set_option maxHeartbeats 2000000
set_option maxRecDepth 100000

theorem KidsV.fix {w0 : World} {S : Nat} {sv : Value} {ps : List FT} (h : KidsV w0 S sv ps) (j : Nat) (hj : j < ps.length) : ∃ b cap ao n c, sv = .slice (some ⟨b, 0, none⟩) ps.length cap ∧ SF w0 S ps[j] (.agg #[str (FT.atomOf ps[j]), .slice ao n c, .int .i64 (FT.arity ps[j] : Nat)]) ∧
    ∀ w, Agree w0 w S → w.cell? ⟨b, j * 3, none⟩ = some (str (FT.atomOf ps[j])) ∧ w.cell? ⟨b, j * 3 + 1, none⟩ = some (.slice ao n c) ∧ w.cell? ⟨b, j * 3 + 2, none⟩ = some (.int .i64 (FT.arity ps[j] : Nat)) := by
  obtain ⟨b, cap, ao, n, c, hv, h1, h2, h3, h4, hb⟩ := h.at j hj
  refine ⟨b, cap, ao, n, c, hv, h4, fun w hA => ?_⟩
  have hk : ∀ {i : Nat} {v : Value}, w0.cell? ⟨b, i, none⟩ = some v → w.cell? ⟨b, i, none⟩ = some v := fun {i v} h => by
    have := hA.2 b hb (World.block_lt_of_cell? _ _ h)
    simp only [World.cell?] at *
    rw [this]
    exact h
  exact ⟨hk h1, hk h2, hk h3⟩

theorem row_callS {w0 : World} {S : Nat} {f : FT} {v : Value} (ih : VK w0 S f) (hf : SF w0 S f v) (wr : World) (rb s : Nat) (hA : Agree w0 wr S) (hr : w0.heap.size ≤ rb) (hs : MSt wr rb s false) (hs2 : s ≤ 2000) (xs : List Nat) (hl : xs.length = FT.arity f) (hx : ∀ a ∈ xs, a ≤ 1000)
    (W : World) (u : Value) (n : Nat) (vs : List Value) (hn : n = xs.length) (hvs : vs = intL xs) (ho : W.ownsRow wr.heap.size 3 1 u n vs) (ha : After wr W) : Calls Tryz.prog 40 #[ptr rb, v, u] W (MPost W rb (2001 + 4 * FT.size f) (FT.ev f xs s)) := by
  have hrb : rb < wr.heap.size := hs.lt
  obtain ⟨ao, c, rfl⟩ := o_slice_len ho
  have := (ih W rb s false v _ xs _ _ _ hf (hA.after ha) hr (hs.after ha) (by omega) rfl).2 rfl hs2 (ints_own xs hn hvs ho hrb) hl hx
  rwa [FT.mv_eq f xs s hx] at this

theorem sv_r_at (w0 : World) (S : Nat) (f g : FT) (v0 : Value) (hk : KidsV w0 S v0 [f, g]) (ihf : VK w0 S f) (ihg : VK w0 S g) (hgf : FT.arity g = FT.arity f + 2) (h3 : FT.arity g ≤ 3)
    (w : World) (rb s b o cap n0 : Nat) (rest : List Nat) (sv2 : Value) (hA : Agree w0 w S) (hr : w0.heap.size ≤ rb) (hm : MSt w rb s false) (hs : s ≤ 2000) (h2 : ¬ 2000 < s + 1) (hv : IntsV w rb (.slice (some ⟨b, o, none⟩) (rest.length + 1) cap) (n0 :: rest)) (hl : rest.length = FT.arity f) (haz : ∀ a ∈ n0 :: rest, a ≤ 1000)
    (hmc0 : rest.length + 1 ≤ cap) (hsv2 : (cap = 1 ∧ sv2 = .slice (some ⟨b, o, none⟩) rest.length 0) ∨ (¬ cap = 1 ∧ sv2 = .slice (some ⟨b, o + 1, none⟩) rest.length (cap - 1))) (hiv2 : IntsV w rb sv2 rest) (ar : Int) (N : Nat) (hNf : 2001 + 4 * FT.size f ≤ N) (hNg : 2001 + 4 * FT.size g ≤ N) (hNs : N ≤ 50000) :
    Calls Tryz.prog 40 #[ptr rb, .agg #[str [114], v0, .int .i64 ar], .slice (some ⟨b, o, none⟩) (rest.length + 1) cap] w (MPost w rb N (evRec f g (n0 :: rest) (s + 1))) := by
  obtain ⟨kb, kcap, fo, fn, fc, rfl, hkf, hcf⟩ := hk.fix 0 (by simp)
  obtain ⟨kb', kcap', go, gn, gc, hvv, hkg, hcg⟩ := hk.fix 1 (by simp)
  injection hvv with e1 e2 e3
  injection e1 with e1
  injection e1 with e1 e4
  subst e1
  clear e2 e3 e4
  simp only [List.getElem_cons_zero, List.getElem_cons_succ] at hkf hkg hcf hcg
  simp only [Nat.zero_mul, Nat.zero_add, Nat.one_mul, Nat.reduceAdd] at hcf hcg
  have p0 : ∀ W, GB w rb W → W.cell? ⟨kb, 0, none⟩ = some (str (FT.atomOf f)) := fun W hW => (hcf W (hA.grown hW hr)).1
  have p1 : ∀ W, GB w rb W → W.cell? ⟨kb, 1, none⟩ = some (.slice fo fn fc) := fun W hW => (hcf W (hA.grown hW hr)).2.1
  have p2 : ∀ W, GB w rb W → W.cell? ⟨kb, 2, none⟩ = some (.int .i64 (FT.arity f : Nat)) := fun W hW => (hcf W (hA.grown hW hr)).2.2
  have p3 : ∀ W, GB w rb W → W.cell? ⟨kb, 3, none⟩ = some (str (FT.atomOf g)) := fun W hW => (hcg W (hA.grown hW hr)).1
  have p4 : ∀ W, GB w rb W → W.cell? ⟨kb, 4, none⟩ = some (.slice go gn gc) := fun W hW => (hcg W (hA.grown hW hr)).2.1
  have p5 : ∀ W, GB w rb W → W.cell? ⟨kb, 5, none⟩ = some (.int .i64 (FT.arity g : Nat)) := fun W hW => (hcg W (hA.grown hW hr)).2.2
  have cn : ∀ w', GB w rb w' → w'.cell? ⟨b, o, none⟩ = some (.int .i64 (n0 : Nat)) := fun w' hg => by
    rcases IntsV.grown hv hg with ⟨h, _⟩ | ⟨b', o', cap', hv, hl, hne, hb, hc⟩
    · cases h
    · injection hv with e1 e2 e3
      injection e1 with e1
      injection e1 with e1 e4
      subst e1
      subst e4
      exact hc 0 (by simp)
  have hlen2 : ([f, g] : List FT).length = 2 := rfl
  rw [hlen2]
  have hqr : w.heap.size ≠ rb := by have := hm.lt; omega
  obtain ⟨W1, hW1, hm1, hgw1, hh, c0, f0, d0, d1, f1⟩ := ms_ahead hm (.cells #[str [114], .slice (some ⟨kb, 0, none⟩) 2 kcap, .int .i64 ar] 63)
  have t0 : W1.cell? ⟨w.heap.size, 0, none⟩ = some (str [114]) := cell_of_heap (i := 0) hh
  have t1 : ∀ W, GB W1 rb W → W.cell? ⟨w.heap.size, 1, none⟩ = some (.slice (some ⟨kb, 0, none⟩) 2 kcap) := fun W hW => grown_cell' (cell_of_heap (i := 1) hh) hqr hW
  have hgw : ∀ W, GB W1 rb W → GB w rb W := fun W hW => GB.trans hgw1 hW
  have hself1 := GB.refl W1 rb
  obtain ⟨R, hR⟩ : ∃ R, R = evRec f g (n0 :: rest) (s + 1) := ⟨_, rfl⟩
  rw [← hR]
  have hRe : R = match FT.ev f rest (s + 1) with | none => none | some (v, s1) => FT.loopR (FT.ev g) rest n0 0 v s1 := hR
  obtain ⟨m, hmm⟩ : ∃ m, m = rest.length := ⟨_, rfl⟩
  have hlg : m + 2 = FT.arity g := by omega
  have hm1' : m ≤ 1 := by omega
  have hmc : m + 1 ≤ cap := by omega
  have hmi : (1 : Int) ≤ (m : Int) + 1 := by omega
  have h2' : ¬ (2000 : Int) < (s : Int) + 1 := by omega
  have hn0 : n0 ≤ 1000 := haz n0 (by simp)
  obtain ⟨so, sn, sc, hsv⟩ : ∃ so sn sc, sv2 = .slice so sn sc := by
    obtain ⟨a, c, h⟩ := hiv2.form
    exact ⟨_, _, _, h⟩
  have hfr := FT.ev_runs f rest (s + 1)
  have hfirst : ∀ W, GB W1 rb W → MSt W rb (s + 1) false → Calls Tryz.prog 40 #[ptr rb, .agg #[str (FT.atomOf f), .slice fo fn fc, .int .i64 (FT.arity f : Nat)], sv2] W fun e w1 => W.grownBy w1 (some rb) ∧ ∃ (x : Int) (s' : Nat) (bad' : Bool), e = .returned (.int .i64 x) ∧ MSt w1 rb s' bad' ∧ s' ≤ 60000 ∧
      (bad' = true → R = none ∧ s' ≤ N) ∧ (bad' = false → ∃ v : Nat, v ≤ 1000 ∧ x = v ∧ s' ≤ 2000 ∧ R = FT.loopR (FT.ev g) rest n0 0 v s') := fun W hW hmW => by
    have hr1 : ∀ a ∈ rest, a ≤ 1000 := fun a h => haz a (by simp [h])
    have := (ihf W rb (s + 1) false _ sv2 rest so sn sc hkf (hA.grown (hgw W hW) hr) hr hmW (by omega) hsv).2 rfl (by omega) (hiv2.grown (hgw W hW)) hl hr1
    rw [FT.mv_eq f rest (s + 1) hr1] at this
    refine this.mono ?_
    rintro e w1 ⟨hg1, x, rfl, hx⟩
    cases hev : FT.ev f rest (s + 1) with
    | none =>
      rw [hev] at hx hRe
      obtain ⟨s', hs', hst⟩ := hx
      exact ⟨hg1, x, s', true, rfl, hst, by omega, (fun _ => ⟨hRe, by omega⟩), fun h => by cases h⟩
    | some p =>
      obtain ⟨v, s1⟩ := p
      have hb := hfr.small _ _ hev
      rw [hev] at hx hRe
      obtain ⟨rfl, hst⟩ := hx
      exact ⟨hg1, _, s1, false, rfl, hst, by omega, (fun h => by cases h), fun _ => ⟨v, hb.1, rfl, hb.2.2, hRe⟩⟩
  have hun : Tryz.prog.underlying 30 = some (.slice 3) := by kernel_rfl
  obtain ⟨i0, hi0, hz0, hz1, hz2⟩ : ∃ i, (Tryz.prog).info? 3 = some i ∧ i.zero = some (.int .i64 0) ∧ i.size = 1 ∧ i.bytes = 8 := ⟨_, rfl, rfl, rfl, rfl⟩
  have hone := one_ints rest
  have hnl : (intL rest).length = m := by simp [intL, hmm]
  have T0 := Lib.hid t0
  have q0 : ∀ W, GB W1 rb W → W.cell? ⟨kb, 0, none⟩ = some (str (FT.atomOf f)) := fun W hW => p0 W (hgw W hW)
  have q1 : ∀ W, GB W1 rb W → W.cell? ⟨kb, 1, none⟩ = some (.slice fo fn fc) := fun W hW => p1 W (hgw W hW)
  have q2 : ∀ W, GB W1 rb W → W.cell? ⟨kb, 2, none⟩ = some (.int .i64 (FT.arity f : Nat)) := fun W hW => p2 W (hgw W hW)
  rw [hW1] at t0
  rw [← hmm] at hsv2 ⊢
  have HM := Lib.hid hmm
  have HLG := Lib.hid hlg
  have HRE := Lib.hid hRe
  have HIG := Lib.hid ihg
  have HKG := Lib.hid hkg
  have HA := Lib.hid hA
  have HV := Lib.hid hiv2
  have HAZ := Lib.hid haz
  have HCN := Lib.hid cn
  have HONE := Lib.hid hone
  have HNL := Lib.hid hnl
  have HW1 := Lib.hid hW1
  have HM1 := Lib.hid hm1
  have HFIRST := Lib.hid hfirst
  have HGW1 := Lib.hid hgw1
  have HP := Lib.hid (And.intro p3 (And.intro p4 p5))
  have HQR := Lib.hid hqr
  have HT1 := Lib.hid (show ∀ W, GB W1 rb W → W.cell? ⟨w.heap.size, 1, none⟩ = some (.slice (some ⟨kb, 0, none⟩) 2 kcap) from fun W hW => grown_cell' (cell_of_heap (i := 1) hh) hqr hW)
  clear hR hRe hkf hkg ihf ihg hA hv haz hl hmm hlg hone hnl hgf h3 hiv2 hk hm hcf hcg hsv hmc0 hW1 hm1 hgw1 p0 p1 p2 p3 p4 p5 cn hqr hh h2 hgw hfr hfirst
  rcases hsv2 with ⟨hc1, rfl⟩ | ⟨hc1, rfl⟩
  · have hm0 : m = 0 := by omega
    subst hm0
    subst hc1
    go_enter Tryz.func40, Tryz.ntmps40
    go_wp2_with fail
    rw [← HW1.out]
    go_region_held3 (fun W' => GB W1 rb W') (first | assumption | exact hself1.drew | exact GB.drew (by assumption) | exact GB.alloc (by assumption) _ | exact GB.drew (GB.alloc (by assumption) _))
      (first
        | (go_at_call 40; refine (HFIRST.out _ (GB.drew hself1) HM1.out).mono ?_; rintro e w1 ⟨hg1, x1, s1, bad1, rfl, hst1, hs1, hbad1, hgood1⟩; have hb1 : GB W1 rb w1 := GB.trans (GB.drew hself1) hg1; have HST1 := Lib.hid hst1; have HBAD1 := Lib.hid hbad1; have HGOOD1 := Lib.hid hgood1; clear hst1 hbad1 hgood1))
    all_goals
      clear t0 t1 q0 q1 q2 c0 f0 d0 d1 f1
      go_wp2_with fail
      go_loopw [9, 10] (fun out i wr => ∃ (k : Nat) (x : Int) (sk : Nat) (bad : Bool), out = .int .i64 x ∧ i = .int .i64 (k : Nat) ∧ k ≤ n0 ∧ sk ≤ 60000 ∧ Hid (MSt wr rb sk bad) ∧ Hid (GB W1 rb wr) ∧ Hid (bad = true → R = none ∧ sk ≤ N) ∧ Hid (bad = false → ∃ v : Nat, v ≤ 1000 ∧ x = v ∧ sk ≤ 2000 ∧ R = FT.loopR (FT.ev g) rest (n0 - k) k v sk)) (fun _ i _ => n0 - (intOf i).toNat)
      case atStart => exact ⟨0, x1, s1, bad1, rfl, rfl, by omega, hs1, HST1.out, hb1, HBAD1.out, HGOOD1.out⟩
      case round =>
        obtain ⟨k, x, sk, bad, rfl, rfl, hk, hsk, HST, HGR, HBAD, HGOOD⟩ := hrel
        have hgwr : GB w rb wr := GB.trans HGW1.out HGR.out
        have HGWR := Lib.hid hgwr
        have cnr := HCN.out wr hgwr
        have b1 := HT1.out wr HGR.out
        have r1 := HST.out.c1
        cases bad with
        | true =>
          obtain ⟨hR0, hskN⟩ := HBAD.out rfl
          have HN0 := Lib.hid hR0
          clear hR0
          by_cases hlt : k < n0
          · have hltI : (k : Int) < (n0 : Int) := by omega
            go_wp2_with fail
            go_ret
            exact ⟨HGWR.out, x, rfl, by rw [HN0.out]; exact ⟨sk, hskN, HST.out⟩⟩
          · have hltI : ¬ (k : Int) < (n0 : Int) := by omega
            go_wp2_with fail
            go_ret
            exact ⟨HGWR.out, x, rfl, by rw [HN0.out]; exact ⟨sk, hskN, HST.out⟩⟩
        | false =>
          obtain ⟨v, hv1, rfl, hsk2, hRk⟩ := HGOOD.out rfl
          have HRK := Lib.hid hRk
          clear hRk
          by_cases hlt : k < n0
          · have hltI : (k : Int) < (n0 : Int) := by omega
            have hself := GB.refl wr rb
            obtain ⟨p3, p4, p5⟩ := HP.out
            have q3 : ∀ W, GB wr rb W → W.cell? ⟨kb, 3, none⟩ = some (str (FT.atomOf g)) := fun W hW => p3 W (GB.trans hgwr hW)
            have q4 : ∀ W, GB wr rb W → W.cell? ⟨kb, 4, none⟩ = some (.slice go gn gc) := fun W hW => p4 W (GB.trans hgwr hW)
            have q5 : ∀ W, GB wr rb W → W.cell? ⟨kb, 5, none⟩ = some (.int .i64 (FT.arity g : Nat)) := fun W hW => p5 W (GB.trans hgwr hW)
            have b1' : ∀ W, GB wr rb W → W.cell? ⟨w.heap.size, 1, none⟩ = some (.slice (some ⟨kb, 0, none⟩) 2 kcap) := fun W hW => HT1.out W (GB.trans HGR.out hW)
            have hcall0 := row_callS HIG.out HKG.out wr rb sk (HA.out.grown hgwr hr) hr HST.out hsk2 (k :: v :: rest) (by simp only [List.length_cons, ← HM.out]; exact HLG.out) (fun a h => by
              rcases List.mem_cons.1 h with rfl | h
              · omega
              · rcases List.mem_cons.1 h with rfl | h
                · omega
                · exact HAZ.out a (List.mem_cons_of_mem _ h))
            have hruns := FT.ev_runs g (k :: v :: rest) sk
            have hstep := HRK.out.trans (loopR_step g rest n0 k v sk hlt)
            have hcall : ∀ (W : World) (u : Value) (n : Nat) (vs : List Value), n = (k :: v :: rest).length → vs = intL (k :: v :: rest) → W.ownsRow wr.heap.size 3 1 u n vs → After wr W → Calls Tryz.prog 40 #[ptr rb, .agg #[str (FT.atomOf g), .slice go gn gc, .int .i64 (FT.arity g : Nat)], u] W fun e w1 => W.grownBy w1 (some rb) ∧ ∃ (x : Int) (s' : Nat) (bad' : Bool), e = .returned (.int .i64 x) ∧ MSt w1 rb s' bad' ∧ s' ≤ 60000 ∧
                (bad' = true → R = none ∧ s' ≤ N) ∧ (bad' = false → ∃ v : Nat, v ≤ 1000 ∧ x = v ∧ s' ≤ 2000 ∧ R = FT.loopR (FT.ev g) rest (n0 - (k + 1)) (k + 1) v s') := fun W u n vs h1 h2 h3 h4 => by
              refine (hcall0 W u n vs h1 h2 h3 h4).mono ?_
              rintro e w1 ⟨hg1, x, rfl, hx⟩
              cases hev : FT.ev g (k :: v :: rest) sk with
              | none =>
                rw [hev] at hx hstep
                obtain ⟨s', hs', hst⟩ := hx
                exact ⟨hg1, x, s', true, rfl, hst, by omega, (fun _ => ⟨hstep, by omega⟩), fun h => by cases h⟩
              | some p =>
                obtain ⟨y, s2⟩ := p
                have hb := hruns.small _ _ hev
                rw [hev] at hx hstep
                obtain ⟨rfl, hst⟩ := hx
                exact ⟨hg1, _, s2, false, rfl, hst, by omega, (fun h => by cases h), fun _ => ⟨y, hb.1, rfl, hb.2.2, hstep⟩⟩
            have hwr : After wr ((wr.alloc (.cells #[.int .i64 (k : Nat), .int .i64 (v : Nat)] 3)).drew) := After.drew (After.new _ _)
            have hsrc := src_ints (HV.out.grown hgwr) hwr
            have hl2 : 2 + (intL rest).length = (k :: v :: rest).length := by simp only [intL, List.length_map, List.length_cons]; omega
            have hl3 : [Value.int .i64 (k : Nat), Value.int .i64 (v : Nat)] ++ intL rest = intL (k :: v :: rest) := rfl
            have hmax : 2 + (intL rest).length ≤ maxLen := by rw [HNL.out]; unfold maxLen; omega
            have hm8 : (2 + (intL rest).length) * 8 ≤ 140737488355328 := by rw [HNL.out]; omega
            have hsz : wr.heap.size ≤ ((wr.alloc (.cells #[.int .i64 (k : Nat), .int .i64 (v : Nat)] 3)).drew).heap.size := hwr.size
            have HSRC := Lib.hid hsrc
            have HL2 := Lib.hid hl2
            have HL3 := Lib.hid hl3
            have HMAX := Lib.hid hmax
            have HM8 := Lib.hid hm8
            have HCALL := Lib.hid hcall
            have hgwr' := hgwr
            clear hcall0 hcall hsrc hl2 hl3 hstep hmax hm8 hruns p3 p4 p5 hgwr hgwr'
            go_wp2_with fail
            go_region_held3 (fun W' => GB wr rb W') (first | assumption | exact hself.drew | exact GB.drew (by assumption) | exact GB.alloc (by assumption) _ | exact GB.drew (GB.alloc (by assumption) _))
              (first
                | (refine step_app _ (by rfl) _ _ 30 (by rfl) wr.heap.size 3 i0 (.int .i64 0) 8 hun hi0 hz0 hz1 hz2 rfl _ 2 [.int .i64 (k : Nat), .int .i64 (v : Nat)] (by rfl) ((owns_two wr (.int .i64 (k : Nat)) (.int .i64 (v : Nat)) _).drew) _ (intL rest) (by rfl) HSRC.out HONE.out HMAX.out HM8.out hsz ?_; intro v2 w2 ho2 hg2; obtain ⟨co, cn, cc, rfl⟩ := o_slice ho2; have ha2 := after_own2 (undrew hg2); have HA2 := Lib.hid ha2; have HO2 := Lib.hid ho2; have hb2 : GB wr rb w2 := GB.after ha2 rb; clear ho2 hg2 ha2)
                | (go_at_call 40; refine (HCALL.out _ _ _ _ HL2.out HL3.out HO2.out HA2.out).mono ?_; rintro e w3 ⟨hg3, x3, s3, bad3, rfl, hst3, hs3, hbad3, hgood3⟩; have hb3 : GB wr rb w3 := GB.trans hb2 hg3; have HST3 := Lib.hid hst3; have HBAD3 := Lib.hid hbad3; have HGOOD3 := Lib.hid hgood3; clear hst3 hbad3 hgood3))
            all_goals
              go_wp2_with fail
              go_roundw
              case rel => exact ⟨k + 1, x3, s3, bad3, rfl, by go_num, by omega, hs3, HST3.out, GB.trans HGR.out hb3, HBAD3.out, HGOOD3.out⟩
              case measure => simp [intOf]; omega
          · have hltI : ¬ (k : Int) < (n0 : Int) := by omega
            have HN0 := Lib.hid (show R = some (v, sk) by rw [HRK.out, show n0 - k = 0 by omega]; rfl)
            go_wp2_with fail
            go_ret
            exact ⟨HGWR.out, v, rfl, by rw [HN0.out]; exact ⟨rfl, HST.out⟩⟩
  · go_enter Tryz.func40, Tryz.ntmps40
    go_wp2_with fail
    rw [← HW1.out]
    go_region_held3 (fun W' => GB W1 rb W') (first | assumption | exact hself1.drew | exact GB.drew (by assumption) | exact GB.alloc (by assumption) _ | exact GB.drew (GB.alloc (by assumption) _))
      (first
        | (go_at_call 40; refine (HFIRST.out _ (GB.drew hself1) HM1.out).mono ?_; rintro e w1 ⟨hg1, x1, s1, bad1, rfl, hst1, hs1, hbad1, hgood1⟩; have hb1 : GB W1 rb w1 := GB.trans (GB.drew hself1) hg1; have HST1 := Lib.hid hst1; have HBAD1 := Lib.hid hbad1; have HGOOD1 := Lib.hid hgood1; clear hst1 hbad1 hgood1))
    all_goals
      clear t0 t1 q0 q1 q2 c0 f0 d0 d1 f1
      go_wp2_with fail
      go_loopw [9, 10] (fun out i wr => ∃ (k : Nat) (x : Int) (sk : Nat) (bad : Bool), out = .int .i64 x ∧ i = .int .i64 (k : Nat) ∧ k ≤ n0 ∧ sk ≤ 60000 ∧ Hid (MSt wr rb sk bad) ∧ Hid (GB W1 rb wr) ∧ Hid (bad = true → R = none ∧ sk ≤ N) ∧ Hid (bad = false → ∃ v : Nat, v ≤ 1000 ∧ x = v ∧ sk ≤ 2000 ∧ R = FT.loopR (FT.ev g) rest (n0 - k) k v sk)) (fun _ i _ => n0 - (intOf i).toNat)
      case atStart => exact ⟨0, x1, s1, bad1, rfl, rfl, by omega, hs1, HST1.out, hb1, HBAD1.out, HGOOD1.out⟩
      case round =>
        obtain ⟨k, x, sk, bad, rfl, rfl, hk, hsk, HST, HGR, HBAD, HGOOD⟩ := hrel
        have hgwr : GB w rb wr := GB.trans HGW1.out HGR.out
        have HGWR := Lib.hid hgwr
        have cnr := HCN.out wr hgwr
        have b1 := HT1.out wr HGR.out
        have r1 := HST.out.c1
        cases bad with
        | true =>
          obtain ⟨hR0, hskN⟩ := HBAD.out rfl
          have HN0 := Lib.hid hR0
          clear hR0
          by_cases hlt : k < n0
          · have hltI : (k : Int) < (n0 : Int) := by omega
            go_wp2_with fail
            go_ret
            exact ⟨HGWR.out, x, rfl, by rw [HN0.out]; exact ⟨sk, hskN, HST.out⟩⟩
          · have hltI : ¬ (k : Int) < (n0 : Int) := by omega
            go_wp2_with fail
            go_ret
            exact ⟨HGWR.out, x, rfl, by rw [HN0.out]; exact ⟨sk, hskN, HST.out⟩⟩
        | false =>
          obtain ⟨v, hv1, rfl, hsk2, hRk⟩ := HGOOD.out rfl
          have HRK := Lib.hid hRk
          clear hRk
          by_cases hlt : k < n0
          · have hltI : (k : Int) < (n0 : Int) := by omega
            have hself := GB.refl wr rb
            obtain ⟨p3, p4, p5⟩ := HP.out
            have q3 : ∀ W, GB wr rb W → W.cell? ⟨kb, 3, none⟩ = some (str (FT.atomOf g)) := fun W hW => p3 W (GB.trans hgwr hW)
            have q4 : ∀ W, GB wr rb W → W.cell? ⟨kb, 4, none⟩ = some (.slice go gn gc) := fun W hW => p4 W (GB.trans hgwr hW)
            have q5 : ∀ W, GB wr rb W → W.cell? ⟨kb, 5, none⟩ = some (.int .i64 (FT.arity g : Nat)) := fun W hW => p5 W (GB.trans hgwr hW)
            have b1' : ∀ W, GB wr rb W → W.cell? ⟨w.heap.size, 1, none⟩ = some (.slice (some ⟨kb, 0, none⟩) 2 kcap) := fun W hW => HT1.out W (GB.trans HGR.out hW)
            have hcall0 := row_callS HIG.out HKG.out wr rb sk (HA.out.grown hgwr hr) hr HST.out hsk2 (k :: v :: rest) (by simp only [List.length_cons, ← HM.out]; exact HLG.out) (fun a h => by
              rcases List.mem_cons.1 h with rfl | h
              · omega
              · rcases List.mem_cons.1 h with rfl | h
                · omega
                · exact HAZ.out a (List.mem_cons_of_mem _ h))
            have hruns := FT.ev_runs g (k :: v :: rest) sk
            have hstep := HRK.out.trans (loopR_step g rest n0 k v sk hlt)
            have hcall : ∀ (W : World) (u : Value) (n : Nat) (vs : List Value), n = (k :: v :: rest).length → vs = intL (k :: v :: rest) → W.ownsRow wr.heap.size 3 1 u n vs → After wr W → Calls Tryz.prog 40 #[ptr rb, .agg #[str (FT.atomOf g), .slice go gn gc, .int .i64 (FT.arity g : Nat)], u] W fun e w1 => W.grownBy w1 (some rb) ∧ ∃ (x : Int) (s' : Nat) (bad' : Bool), e = .returned (.int .i64 x) ∧ MSt w1 rb s' bad' ∧ s' ≤ 60000 ∧
                (bad' = true → R = none ∧ s' ≤ N) ∧ (bad' = false → ∃ v : Nat, v ≤ 1000 ∧ x = v ∧ s' ≤ 2000 ∧ R = FT.loopR (FT.ev g) rest (n0 - (k + 1)) (k + 1) v s') := fun W u n vs h1 h2 h3 h4 => by
              refine (hcall0 W u n vs h1 h2 h3 h4).mono ?_
              rintro e w1 ⟨hg1, x, rfl, hx⟩
              cases hev : FT.ev g (k :: v :: rest) sk with
              | none =>
                rw [hev] at hx hstep
                obtain ⟨s', hs', hst⟩ := hx
                exact ⟨hg1, x, s', true, rfl, hst, by omega, (fun _ => ⟨hstep, by omega⟩), fun h => by cases h⟩
              | some p =>
                obtain ⟨y, s2⟩ := p
                have hb := hruns.small _ _ hev
                rw [hev] at hx hstep
                obtain ⟨rfl, hst⟩ := hx
                exact ⟨hg1, _, s2, false, rfl, hst, by omega, (fun h => by cases h), fun _ => ⟨y, hb.1, rfl, hb.2.2, hstep⟩⟩
            have hwr : After wr ((wr.alloc (.cells #[.int .i64 (k : Nat), .int .i64 (v : Nat)] 3)).drew) := After.drew (After.new _ _)
            have hsrc := src_ints (HV.out.grown hgwr) hwr
            have hl2 : 2 + (intL rest).length = (k :: v :: rest).length := by simp only [intL, List.length_map, List.length_cons]; omega
            have hl3 : [Value.int .i64 (k : Nat), Value.int .i64 (v : Nat)] ++ intL rest = intL (k :: v :: rest) := rfl
            have hmax : 2 + (intL rest).length ≤ maxLen := by rw [HNL.out]; unfold maxLen; omega
            have hm8 : (2 + (intL rest).length) * 8 ≤ 140737488355328 := by rw [HNL.out]; omega
            have hsz : wr.heap.size ≤ ((wr.alloc (.cells #[.int .i64 (k : Nat), .int .i64 (v : Nat)] 3)).drew).heap.size := hwr.size
            have HSRC := Lib.hid hsrc
            have HL2 := Lib.hid hl2
            have HL3 := Lib.hid hl3
            have HMAX := Lib.hid hmax
            have HM8 := Lib.hid hm8
            have HCALL := Lib.hid hcall
            have hgwr' := hgwr
            clear hcall0 hcall hsrc hl2 hl3 hstep hmax hm8 hruns p3 p4 p5 hgwr hgwr'
            go_wp2_with fail
            go_region_held3 (fun W' => GB wr rb W') (first | assumption | exact hself.drew | exact GB.drew (by assumption) | exact GB.alloc (by assumption) _ | exact GB.drew (GB.alloc (by assumption) _))
              (first
                | (refine step_app _ (by rfl) _ _ 30 (by rfl) wr.heap.size 3 i0 (.int .i64 0) 8 hun hi0 hz0 hz1 hz2 rfl _ 2 [.int .i64 (k : Nat), .int .i64 (v : Nat)] (by rfl) ((owns_two wr (.int .i64 (k : Nat)) (.int .i64 (v : Nat)) _).drew) _ (intL rest) (by rfl) HSRC.out HONE.out HMAX.out HM8.out hsz ?_; intro v2 w2 ho2 hg2; obtain ⟨co, cn, cc, rfl⟩ := o_slice ho2; have ha2 := after_own2 (undrew hg2); have HA2 := Lib.hid ha2; have HO2 := Lib.hid ho2; have hb2 : GB wr rb w2 := GB.after ha2 rb; clear ho2 hg2 ha2)
                | (go_at_call 40; refine (HCALL.out _ _ _ _ HL2.out HL3.out HO2.out HA2.out).mono ?_; rintro e w3 ⟨hg3, x3, s3, bad3, rfl, hst3, hs3, hbad3, hgood3⟩; have hb3 : GB wr rb w3 := GB.trans hb2 hg3; have HST3 := Lib.hid hst3; have HBAD3 := Lib.hid hbad3; have HGOOD3 := Lib.hid hgood3; clear hst3 hbad3 hgood3))
            all_goals
              go_wp2_with fail
              go_roundw
              case rel => exact ⟨k + 1, x3, s3, bad3, rfl, by go_num, by omega, hs3, HST3.out, GB.trans HGR.out hb3, HBAD3.out, HGOOD3.out⟩
              case measure => simp [intOf]; omega
          · have hltI : ¬ (k : Int) < (n0 : Int) := by omega
            have HN0 := Lib.hid (show R = some (v, sk) by rw [HRK.out, show n0 - k = 0 by omega]; rfl)
            go_wp2_with fail
            go_ret
            exact ⟨HGWR.out, v, rfl, by rw [HN0.out]; exact ⟨rfl, HST.out⟩⟩
end Go.Proofs.YtjomocjlnjgkeaaGreat
