/-
  Many steps of a term in memory: stepTerms, normalTerm.
-/
import Derived.Test.YtjomocjlnjgkeaaGreatPkAC
import Derived.Test.YtjomocjlnjgkeaaGreatPkAE
import Derived.Test.YtjomocjlnjgkeaaGreatPkAF
import Derived.Test.YtjomocjlnjgkeaaGreatPkAH
namespace Go.Proofs.YtjomocjlnjgkeaaGreat
open Go.RowKit

set_option maxHeartbeats 400000
set_option maxRecDepth 100000

def ManyPost (w : World) (B n : Nat) (t : Tm) (e : Ending) (w' : World) : Prop :=
  ∃ v', e = .returned (.tuple #[v', .int .i64 ((t.many n).2 : Nat)]) ∧ Below w.heap.size w w' ∧ TV w' B (t.many n).1 v'

/-- After k rounds. -/
def Rounds (w : World) (B n : Nat) (t : Tm) (v i : Value) (wr : World) : Prop :=
  ∃ (k : Nat) (u : Tm), i = .int .i64 k ∧ k ≤ n ∧ TV wr B u v ∧ u.fits = true ∧ Below w.heap.size w wr ∧ Hid (t.many n = ((u.many (n - k)).1, (u.many (n - k)).2 + k))

theorem stepTerms_any (w : World) (B n : Nat) (t : Tm) (v : Value) (h : TV w B t v) (hB : B ≤ w.heap.size) (hz : t.fits = true) (hn : n ≤ 1000000) :
    Calls Tryz.prog 82 #[v, .int .i64 n] w (ManyPost w B n t) := by
  go_enter Tryz.func82, Tryz.ntmps82
  go_wp2_with fail
  go_loopw [0, 10] (fun v i wr => Rounds w B n t v i wr) (fun _ i _ => n - (intOf i).toNat)
  case atStart => exact ⟨0, t, rfl, Nat.zero_le _, h, hz, Below.refl _ _, by simp [Hid]⟩
  case round =>
    obtain ⟨k, u, rfl, hk, hu, hf, hb, hm⟩ := hrel
    have hs := fits_size hf
    have hBr := Nat.le_trans hB hb.size
    by_cases hlt : k < n
    · cases hst : u.stepFit with
      | none =>
        have hsome : u.stepFit.isSome = false := by rw [hst]; rfl
        have hfin : t.many n = (u, k) := by
          rw [hm.out, show n - k = (n - k - 1) + 1 by omega, Tm.many_succ, hst]; simp
        have H := Lib.hid hfin
        clear hst hfin hm
        go_wp2_with (go_at_call 102; refine (stepTerm_any _ B u _ hu hBr (by omega)).mono ?_; rintro e w1 ⟨v1, rfl, hb1, hv1⟩; clear hv1)
        go_ret2
        exact ⟨_, by rw [H.out]; rfl, below_trans hb hb1, by rw [H.out]; exact hu.below hb1⟩
      | some u' =>
        have hsome : u.stepFit.isSome = true := by rw [hst]; rfl
        have hf' := stepFit_fits hst
        have hfin : t.many n = ((u'.many (n - (k + 1))).1, (u'.many (n - (k + 1))).2 + (k + 1)) := by
          rw [hm.out, show n - k = (n - (k + 1)) + 1 by omega, Tm.many_succ, hst]; simp; omega
        have H := Lib.hid hfin
        have H2 := Lib.hid hst
        clear hst hfin hm
        go_wp2_with (go_at_call 102; refine (stepTerm_any _ B u _ hu hBr (by omega)).mono ?_; rintro e w1 ⟨v1, rfl, hb1, hv1⟩; have HV := Lib.hid (hv1 u' H2.out); clear hv1)
        go_roundw
        case rel => exact ⟨k + 1, u', by go_num, by omega, HV.out, hf', below_trans hb hb1, H⟩
        case measure => simp [intOf]; omega
    · have hfin : t.many n = (u, n) := by
        rw [hm.out, show n - k = 0 by omega]; simp [Tm.many]; omega
      have H := Lib.hid hfin
      clear hfin hm
      go_wp2_with fail
      go_ret2
      exact ⟨_, by rw [H.out]; rfl, hb, by rw [H.out]; exact hu⟩

def NormPost (w : World) (B : Nat) (t : Tm) (e : Ending) (w' : World) : Prop :=
  ∃ v', e = .returned (.tuple #[v', .int .i64 ((t.many 6000).2 : Nat), .bool (t.many 6000).1.normal]) ∧ Below w.heap.size w w' ∧ TV w' B (t.many 6000).1 v'

theorem normalTerm_any (w : World) (B : Nat) (t : Tm) (v : Value) (h : TV w B t v) (hB : B ≤ w.heap.size) (hz : t.fits = true) :
    Calls Tryz.prog 47 #[v] w (NormPost w B t) := by
  go_enter Tryz.func47, Tryz.ntmps47
  go_wp2_with fail
  refine (stepTerms_any _ B 6000 t _ h hB hz (by omega)).mono ?_
  rintro e w1 ⟨v1, rfl, hb1, hv1⟩
  obtain ⟨T1, x1, rfl, _, _, _, ⟨f1, y1, m1, n1, c1⟩⟩ := hv1.asks
  have hb0 := Below.refl w1.heap.size w1
  generalize hn : (t.many 6000).2 = n
  generalize hl : (t.many 6000).1 = l at *
  have HN := Lib.hid hn
  have HL := Lib.hid hl
  clear hn hl
  go_wp2_with (go_at_fn f1; refine (c1 _ (by assumption)).mono ?_; rintro e w2 ⟨rfl, hb2⟩)
  go_ret3
  exact ⟨_, by rw [HN.out, HL.out]; rfl, below_trans hb1 hb2, by rw [HL.out]; exact hv1.below hb2⟩
end Go.Proofs.YtjomocjlnjgkeaaGreat

namespace Go.Proofs.YtjomocjlnjgkeaaGreat
open Go.RowKit

set_option maxHeartbeats 400000
set_option maxRecDepth 100000

def BothPost (w : World) (B : Nat) (l m : List UInt8) (e : Ending) (w' : World) : Prop :=
  ∃ v1 v2, e = .returned (.tuple #[v1, v2, .bool ((Tm.parse l).isSome && (Tm.parse m).isSome)]) ∧ Below w.heap.size w w' ∧ ∀ t u, Tm.parse l = some t → Tm.parse m = some u → TV w' B t v1 ∧ TV w' B u v2

end Go.Proofs.YtjomocjlnjgkeaaGreat

namespace Go.Proofs.YtjomocjlnjgkeaaGreat
open Go.RowKit

set_option maxHeartbeats 400000
set_option maxRecDepth 100000

theorem normal_none (t : Tm) : t.normal = t.step.isNone := by
  rw [Bool.eq_iff_iff, normal_step, Option.isNone_iff_eq_none]

theorem norm_eq (t : Tm) : t.norm = if (t.many 6000).1.normal = true then some (t.many 6000) else none := by
  unfold Tm.norm
  simp only [normal_step]

/-- A text and a number handed back, or nothing. -/
def NumRes (w : World) (r : Option (List UInt8 × Nat)) (e : Ending) (w' : World) : Prop :=
  e = .returned (.tuple #[str ((r.map Prod.fst).getD []), .int .i64 (((r.map Prod.snd).getD 0 : Nat) : Int), .bool r.isSome]) ∧ Below w.heap.size w w'

end Go.Proofs.YtjomocjlnjgkeaaGreat
