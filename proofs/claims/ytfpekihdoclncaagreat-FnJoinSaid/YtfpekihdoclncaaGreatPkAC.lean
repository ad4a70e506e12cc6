/-
  From the walk of a law over one text to its row.
-/
import Derived.Test.YtfpekihdoclncaaGreatRows
import Derived.Test.YtfpekihdoclncaaGreatPkAB
import Derived.ProofKit
import Derived.WalkKit
namespace Go.Proofs.YtfpekihdoclncaaGreat
open Go.ChangeShapes Go.WideShapes Go.ChangeAt Go.RowKit
open Go.ChangeMaps (open_string shut_string)

theorem own_knob : ownKnob Tryz.prog.godebug = none := by kernel_rfl

theorem ba_list (s : ByteArray) : Value.string s = str s.data.toList := by
  show Value.string s = Value.string ⟨s.data.toList.toArray⟩
  cases s
  simp
end Go.Proofs.YtfpekihdoclncaaGreat

namespace Go.Proofs.YtfpekihdoclncaaGreat
open Go.RowKit

set_option maxHeartbeats 400000
set_option maxRecDepth 100000

theorem normal_step (t : Tm) : t.normal = true ↔ t.step = none := by
  induction t with
  | app f a ihf iha =>
    constructor
    · intro h
      simp only [Tm.normal, Bool.and_eq_true, bne_iff_ne, ne_eq] at h
      simp [Tm.step, redex_none h.1, ihf.1 h.2.1, iha.1 h.2.2]
    · intro h
      obtain ⟨h1, h2, h3⟩ := Tm.step_none h
      simp only [Tm.normal, Bool.and_eq_true, bne_iff_ne, ne_eq]
      refine ⟨fun hl => ?_, ihf.2 h2, iha.2 h3⟩
      obtain ⟨u, hu⟩ := redex_some (f := f) (a := a) hl
      rw [h1] at hu
      simp at hu
  | _ => simp [Tm.normal, Tm.step]

def StepPost (w : World) (B : Nat) (t : Tm) (e : Ending) (w' : World) : Prop :=
  ∃ v', e = .returned (.tuple #[v', .bool t.step.isSome]) ∧ Below w.heap.size w w' ∧ ∀ u, t.step = some u → TV w' B u v'

def StepOk (w : World) (B : Nat) (v : Value) (t : Tm) : Prop :=
  ∃ T x f y, v = .iface T x ∧ (∀ W, Below w.heap.size w W → (method 265 T x "loop.example/realizers/impl.step").run Tryz.prog W = .ok (f, y) W) ∧ (∀ args w', (callFunc f args).run Tryz.prog w' = .ok (.enter f args) w') ∧
    ∀ W, Below w.heap.size w W → Calls Tryz.prog f #[y] W (StepPost w B t)

theorem leaf_step (w : World) : Calls Tryz.prog 111 #[.agg #[]] w fun e w' => e = .returned (.tuple #[.nilIface, .bool false]) ∧ w' = w.alloc (.cells #[] 65) := by
  go_enter Tryz.func111, Tryz.ntmps111
  go_wp2_with fail
  go_ret2
  exact ⟨rfl, rfl⟩

theorem row_one {W : World} {B : Nat} {t : Tm} {v : Value} (T : TypeId) (h : TV W B t v) : Row ((W.alloc (.cells #[v] T)).drew) B W.heap.size [t] [v] := by
  have hn : ((W.alloc (.cells #[v] T)).drew).heap[W.heap.size]? = some (.cells #[v] T (0, 0)) := by
    show (W.heap.push _)[_]? = _
    simp
  refine ⟨rfl, fun i u h => ?_, fun i t' u h1 h2 => ?_⟩
  · rw [cell_of_heap hn]
    simpa using h
  · cases i with
    | zero =>
      obtain rfl := Option.some.inj h1
      obtain rfl := Option.some.inj h2
      exact h.below (((Below.refl _ _).alloc (Nat.le_refl _) _).drew)
    | succ i => simp at h1

section
variable (w : World) (B b : Nat) (T1 T2 : TypeId) (x1 x2 : Value) (f a : Tm) (W : World) (hW : Below w.heap.size w W) (hB : B ≤ w.heap.size)
  (h0 : ∀ W, Below w.heap.size w W → W.cell? ⟨b, 0, none⟩ = some (.iface T1 x1)) (h1 : ∀ W, Below w.heap.size w W → W.cell? ⟨b, 1, none⟩ = some (.iface T2 x2)) (h5 : ∀ W, Below w.heap.size w W → W.cell? ⟨b, 5, none⟩ = some (.bool (f.app a).normal))
  (hf : TV w B f (.iface T1 x1)) (ha : TV w B a (.iface T2 x2))
include hW h5
theorem step_normal (hn : (f.app a).normal = true) :
    Calls Tryz.prog 102 #[.pointer (some ⟨b, 0, none⟩)] W fun e w' => e = .returned (.tuple #[.nilIface, .bool false]) ∧ Below w.heap.size w w' := by
  rw [hn] at h5
  go_enter Tryz.func102, Tryz.ntmps102
  go_wp2_with fail
  go_ret2
  exact ⟨rfl, hW⟩

include h0 h1 hf
theorem step_fire (u : Tm) (hn : (f.app a).normal = false) (hl : f.lacks = 1) (hF : FireOk w B (.iface T1 x1) [a] u) (ha : TV w B a (.iface T2 x2)) :
    Calls Tryz.prog 102 #[.pointer (some ⟨b, 0, none⟩)] W fun e w' => ∃ v', e = .returned (.tuple #[v', .bool true]) ∧ Below w.heap.size w w' ∧ TV w' B u v' := by
  rw [hn] at h5
  obtain ⟨_, _, e0, _, _, ⟨f3, y3, m3, n3, c3⟩, _⟩ := hf.asks
  injection e0 with e1 e2
  subst e1; subst e2
  obtain ⟨_, _, g4, z4, e0, k4, l4, d4⟩ := hF
  injection e0 with e1 e2
  subst e1; subst e2
  rw [hl] at c3
  have htW := ha.below hW
  go_enter Tryz.func102, Tryz.ntmps102
  go_wp2_with (go_at_fn f3; refine (c3 _ (by assumption)).mono ?_; rintro e w1 ⟨rfl, hb1⟩)
  have hF1 := row_one 33 (ha.below hb1)
  have hb2 := (below_alloc hb1 (.cells #[.iface T2 x2] 33)).drew
  go_region_held3 (fun W' => Below w.heap.size w W') (first | assumption | exact hb1.drew | go_keep)
    (first | (go_at_fn g4; refine (d4 _ hb2 _ 1 _ [.iface T2 x2] rfl hF1).mono ?_; rintro e w2 ⟨v', rfl, hb3, hv3⟩))
  go_wp2_with fail
  go_ret2
  exact ⟨_, rfl, hb3, hv3⟩

theorem step_function (u : Tm) (hn : (f.app a).normal = false) (hl : f.lacks ≠ 1) (hs : f.step = some u) (hF : StepOk w B (.iface T1 x1) f) (ha : TV w B a (.iface T2 x2)) (hB : B ≤ w.heap.size) (hz : u.size + a.size ≤ 4000000) :
    Calls Tryz.prog 102 #[.pointer (some ⟨b, 0, none⟩)] W fun e w' => ∃ v', e = .returned (.tuple #[v', .bool true]) ∧ Below w.heap.size w w' ∧ TV w' B (u.app a) v' := by
  rw [hn] at h5
  obtain ⟨_, _, e0, _, _, ⟨f3, y3, m3, n3, c3⟩, _⟩ := hf.asks
  injection e0 with e1 e2
  subst e1; subst e2
  obtain ⟨_, _, g4, z4, e0, k4, l4, d4⟩ := hF
  injection e0 with e1 e2
  subst e1; subst e2
  have hl1 : ((f.lacks : Int) == 1) = false := by rw [beq_eq_false_iff_ne]; omega
  have hsome : f.step.isSome = true := by rw [hs]; rfl
  have HS := Lib.hid hs
  clear hs
  go_enter Tryz.func102, Tryz.ntmps102
  go_wp2_with (first
    | (go_at_fn f3; refine (c3 _ (by assumption)).mono ?_; rintro e w1 ⟨rfl, hb1⟩)
    | (go_at_fn g4; refine (d4 _ (by assumption)).mono ?_; rintro e w2 ⟨v2, rfl, hb2, hv2⟩; have HV := Lib.hid (hv2 u HS.out); clear hv2)
    | (go_at_call 13; refine (apply_any _ B u a _ _ HV.out (ha.below hb2) (Nat.le_trans hB hb2.size) (by omega)).mono ?_; rintro e w3 ⟨v3, rfl, hb3, hv3⟩))
  go_ret2
  exact ⟨_, rfl, below_trans hb2 hb3, hv3⟩

theorem step_argument (u : Tm) (hn : (f.app a).normal = false) (hl : f.lacks ≠ 1) (hs : f.step = none) (hF : StepOk w B (.iface T1 x1) f) (hs2 : a.step = some u) (hA : StepOk w B (.iface T2 x2) a) (hB : B ≤ w.heap.size) (hz : f.size + u.size ≤ 4000000) :
    Calls Tryz.prog 102 #[.pointer (some ⟨b, 0, none⟩)] W fun e w' => ∃ v', e = .returned (.tuple #[v', .bool true]) ∧ Below w.heap.size w w' ∧ TV w' B (f.app u) v' := by
  rw [hn] at h5
  obtain ⟨_, _, e0, _, _, ⟨f3, y3, m3, n3, c3⟩, _⟩ := hf.asks
  injection e0 with e1 e2
  subst e1; subst e2
  obtain ⟨_, _, g4, z4, e0, k4, l4, d4⟩ := hF
  injection e0 with e1 e2
  subst e1; subst e2
  obtain ⟨_, _, g5, z5, e0, k5, l5, d5⟩ := hA
  injection e0 with e1 e2
  subst e1; subst e2
  have hl1 : ((f.lacks : Int) == 1) = false := by rw [beq_eq_false_iff_ne]; omega
  have hsome : f.step.isSome = false := by rw [hs]; rfl
  have hsome2 : a.step.isSome = true := by rw [hs2]; rfl
  have HS := Lib.hid hs2
  clear hs hs2
  go_enter Tryz.func102, Tryz.ntmps102
  go_wp2_with (first
    | (go_at_fn f3; refine (c3 _ (by assumption)).mono ?_; rintro e w1 ⟨rfl, hb1⟩)
    | (go_at_fn g4; refine (d4 _ (by assumption)).mono ?_; rintro e w2 ⟨v2, rfl, hb2, hv2⟩; clear hv2)
    | (go_at_fn g5; refine (d5 _ (by assumption)).mono ?_; rintro e w4 ⟨v4, rfl, hb4, hv4⟩; have HV := Lib.hid (hv4 u HS.out); clear hv4)
    | (go_at_call 13; refine (apply_any _ B f u _ _ (hf.below hb4) HV.out (Nat.le_trans hB hb4.size) (by omega)).mono ?_; rintro e w3 ⟨v3, rfl, hb3, hv3⟩))
  go_ret2
  exact ⟨_, rfl, below_trans hb4 hb3, hv3⟩
end

theorem redex_size {t u : Tm} (h : Tm.redex t = some u) : u.size ≤ 2 * t.size := by
  unfold Tm.redex at h
  split at h
  · obtain rfl := Option.some.inj h; simp only [Tm.size]; omega
  · obtain rfl := Option.some.inj h; simp only [Tm.size]; omega
  · simp at h

theorem step_size {t u : Tm} : t.step = some u → u.size ≤ 2 * t.size := by
  induction t generalizing u with
  | app f a ihf iha =>
    intro h
    simp only [Tm.step] at h
    split at h
    · rename_i r hr; obtain rfl := Option.some.inj h; exact redex_size hr
    · split at h
      · rename_i f' hf; obtain rfl := Option.some.inj h; have := ihf hf; simp only [Tm.size]; omega
      · split at h
        · rename_i a' ha; obtain rfl := Option.some.inj h; have := iha ha; simp only [Tm.size]; omega
        · simp at h
  | _ => intro h; simp [Tm.step] at h

theorem TV.stepOk {w : World} {B : Nat} (hB : B ≤ w.heap.size) : ∀ {t : Tm} {v : Value}, TV w B t v → t.size ≤ 1000000 → StepOk w B v t
  | .k, _, ⟨b, fr, hv, _, h⟩, _ => ⟨_, _, _, _, hv, fun W hb => (meth_kLetter_step b W fr _ (heap_later h hb)).1, (meth_kLetter_step b w fr _ h).2, fun W hb => (leaf_step W).mono fun e w' ⟨he, hw⟩ => ⟨_, he, hw ▸ below_alloc hb _, fun u hu => by simp [Tm.step] at hu⟩⟩
  | .s, _, ⟨b, fr, hv, _, h⟩, _ => ⟨_, _, _, _, hv, fun W hb => (meth_sLetter_step b W fr _ (heap_later h hb)).1, (meth_sLetter_step b w fr _ h).2, fun W hb => (leaf_step W).mono fun e w' ⟨he, hw⟩ => ⟨_, he, hw ▸ below_alloc hb _, fun u hu => by simp [Tm.step] at hu⟩⟩
  | .nm _, _, ⟨b, fr, hv, _, h⟩, _ => ⟨_, _, _, _, hv, fun W hb => (meth_nameAtom_step b W fr _ (heap_later h hb)).1, (meth_nameAtom_step b w fr _ h).2, fun W hb => (leaf_step W).mono fun e w' ⟨he, hw⟩ => ⟨_, he, hw ▸ below_alloc hb _, fun u hu => by simp [Tm.step] at hu⟩⟩
  | .app f a, _, ⟨b, fr, vf, va, hv, _, h, hf, ha⟩, hz => by
    simp only [Tm.size] at hz
    have sf := TV.stepOk hB hf (by omega)
    have sa := TV.stepOk hB ha (by omega)
    obtain ⟨T1, x1, rfl, _⟩ := hf.asks
    obtain ⟨T2, x2, rfl, _⟩ := ha.asks
    refine ⟨_, _, _, _, hv, fun W _ => (meth_application_step _ W).1, (meth_application_step ⟨b, 0, none⟩ w).2, fun W hW => ?_⟩
    have h0 := cell_later' (cell_of_heap (i := 0) h)
    have h1 := cell_later' (cell_of_heap (i := 1) h)
    have h5 := cell_later' (cell_of_heap (i := 5) h)
    cases hn : (f.app a).normal with
    | true =>
      have hs := (normal_step _).1 hn
      refine (step_normal w b f a W hW h5 hn).mono fun e w' ⟨he, hb⟩ => ⟨_, by rw [hs]; exact he, hb, fun u hu => by rw [hs] at hu; simp at hu⟩
    | false =>
      by_cases hl : f.lacks = 1
      · obtain ⟨u, hu⟩ := redex_some (a := a) hl
        have hs : (f.app a).step = some u := by simp [Tm.step, hu]
        refine (step_fire w B b T1 T2 x1 x2 f a W hW h0 h1 h5 hf u hn hl (fire_redex hf hB hl (by omega) hu) ha).mono fun e w' ⟨v', he, hb, ht⟩ => ⟨v', by rw [hs]; exact he, hb, fun u' hu' => by rw [hs] at hu'; obtain rfl := Option.some.inj hu'; exact ht⟩
      · have hr := redex_none (a := a) hl
        cases hfs : f.step with
        | some u =>
          have hs : (f.app a).step = some (u.app a) := by simp [Tm.step, hr, hfs]
          have := step_size hfs
          refine (step_function w B b T1 T2 x1 x2 f a W hW h0 h1 h5 hf u hn hl hfs sf ha hB (by omega)).mono fun e w' ⟨v', he, hb, ht⟩ => ⟨v', by rw [hs]; exact he, hb, fun u' hu' => by rw [hs] at hu'; obtain rfl := Option.some.inj hu'; exact ht⟩
        | none =>
          cases has : a.step with
          | some u =>
            have hs : (f.app a).step = some (f.app u) := by simp [Tm.step, hr, hfs, has]
            have := step_size has
            refine (step_argument w B b T1 T2 x1 x2 f a W hW h0 h1 h5 hf u hn hl hfs sf has sa hB (by omega)).mono fun e w' ⟨v', he, hb, ht⟩ => ⟨v', by rw [hs]; exact he, hb, fun u' hu' => by rw [hs] at hu'; obtain rfl := Option.some.inj hu'; exact ht⟩
          | none =>
            have hs : (f.app a).step = none := by simp [Tm.step, hr, hfs, has]
            rw [(normal_step _).2 hs] at hn
            simp at hn
end Go.Proofs.YtfpekihdoclncaaGreat

namespace Go.Proofs.YtfpekihdoclncaaGreat
open Go.RowKit

set_option maxHeartbeats 400000
set_option maxRecDepth 100000

theorem fits_any (w : World) (B : Nat) (t : Tm) (v : Value) (h : TV w B t v) :
    Calls Tryz.prog 29 #[v] w fun e w' => e = .returned (.bool t.fits) ∧ Below w.heap.size w w' := by
  obtain ⟨T1, x1, rfl, ⟨f1, y1, m1, n1, c1⟩, ⟨f2, y2, m2, n2, c2⟩, _⟩ := h.asks
  have hb0 := Below.refl w.heap.size w
  by_cases h1 : t.size ≤ 3000
  · by_cases h2 : t.depth ≤ 1500
    · have hf : t.fits = true := by simp [Tm.fits, h1, h2]
      rw [hf]
      clear hf
      go_enter Tryz.func29, Tryz.ntmps29
      go_wp2_with (first
        | (go_at_fn f1; refine (c1 _ (by assumption)).mono ?_; rintro e w1 ⟨rfl, hb⟩)
        | (go_at_fn f2; refine (c2 _ (by assumption)).mono ?_; rintro e w1 ⟨rfl, hb⟩))
      go_ret
      exact ⟨by simp; omega, hb⟩
    · have hf : t.fits = false := by simp [Tm.fits, h2]
      rw [hf]
      clear hf
      go_enter Tryz.func29, Tryz.ntmps29
      go_wp2_with (first
        | (go_at_fn f1; refine (c1 _ (by assumption)).mono ?_; rintro e w1 ⟨rfl, hb⟩)
        | (go_at_fn f2; refine (c2 _ (by assumption)).mono ?_; rintro e w1 ⟨rfl, hb⟩))
      go_ret
      exact ⟨by simp; omega, hb⟩
  · have hf : t.fits = false := by simp [Tm.fits, h1]
    rw [hf]
    clear hf
    go_enter Tryz.func29, Tryz.ntmps29
    go_wp2_with (first
      | (go_at_fn f1; refine (c1 _ (by assumption)).mono ?_; rintro e w1 ⟨rfl, hb⟩)
      | (go_at_fn f2; refine (c2 _ (by assumption)).mono ?_; rintro e w1 ⟨rfl, hb⟩))
    go_ret
    exact ⟨by simp, by assumption⟩

def FitPost (w : World) (B : Nat) (t : Tm) (e : Ending) (w' : World) : Prop :=
  ∃ v', e = .returned (.tuple #[v', .bool t.stepFit.isSome]) ∧ Below w.heap.size w w' ∧ ∀ u, t.stepFit = some u → TV w' B u v'

theorem stepTerm_any (w : World) (B : Nat) (t : Tm) (v : Value) (h : TV w B t v) (hB : B ≤ w.heap.size) (hz : t.size ≤ 1000000) :
    Calls Tryz.prog 76 #[v] w (FitPost w B t) := by
  obtain ⟨T1, x1, f1, y1, rfl, m1, n1, c1⟩ := h.stepOk hB hz
  have hb0 := Below.refl w.heap.size w
  cases hs : t.step with
  | none =>
    have hsome : t.step.isSome = false := by rw [hs]; rfl
    have hfin : t.stepFit = none := by simp [Tm.stepFit, hs]
    have H := Lib.hid hfin
    clear hs hfin
    go_enter Tryz.func76, Tryz.ntmps76
    go_wp2_with (go_at_fn f1; refine (c1 _ (by assumption)).mono ?_; rintro e w1 ⟨v1, rfl, hb1, hv1⟩; clear hv1)
    go_ret2
    exact ⟨_, by rw [H.out]; rfl, hb1, fun u hu => by rw [H.out] at hu; simp at hu⟩
  | some u =>
    have hsome : t.step.isSome = true := by rw [hs]; rfl
    have HS := Lib.hid hs
    cases hf : u.fits with
    | false =>
      have hfin : t.stepFit = none := by simp [Tm.stepFit, hs, hf]
      have H := Lib.hid hfin
      clear hs hfin
      go_enter Tryz.func76, Tryz.ntmps76
      go_wp2_with (first
        | (go_at_fn f1; refine (c1 _ (by assumption)).mono ?_; rintro e w1 ⟨v1, rfl, hb1, hv1⟩; have HV := Lib.hid (hv1 u HS.out); clear hv1)
        | (go_at_call 29; refine (fits_any _ B u _ HV.out).mono ?_; rintro e w2 ⟨rfl, hb2⟩))
      go_ret2
      exact ⟨_, by rw [H.out]; rfl, below_trans hb1 hb2, fun u hu => by rw [H.out] at hu; simp at hu⟩
    | true =>
      have hfin : t.stepFit = some u := by simp [Tm.stepFit, hs, hf]
      have H := Lib.hid hfin
      clear hs hfin
      go_enter Tryz.func76, Tryz.ntmps76
      go_wp2_with (first
        | (go_at_fn f1; refine (c1 _ (by assumption)).mono ?_; rintro e w1 ⟨v1, rfl, hb1, hv1⟩; have HV := Lib.hid (hv1 u HS.out); clear hv1)
        | (go_at_call 29; refine (fits_any _ B u _ HV.out).mono ?_; rintro e w2 ⟨rfl, hb2⟩))
      go_ret2
      refine ⟨_, by rw [H.out]; rfl, below_trans hb1 hb2, fun u' hu => ?_⟩
      rw [H.out] at hu
      obtain rfl := Option.some.inj hu
      exact HV.out.below hb2

theorem fits_size {t : Tm} (h : t.fits = true) : t.size ≤ 3000 ∧ t.depth ≤ 1500 := by
  simp only [Tm.fits, Bool.and_eq_true, decide_eq_true_eq] at h; exact h

theorem stepFit_fits {t u : Tm} (h : t.stepFit = some u) : u.fits = true := by
  unfold Tm.stepFit at h
  split at h
  · split at h
    · obtain rfl := Option.some.inj h; assumption
    · simp at h
  · simp at h
end Go.Proofs.YtfpekihdoclncaaGreat
