/-
  The program's succTerm, fixTerm, dataTerm and DataOf.
-/
import Derived.Test.YtfpekihdoclncaaGreatPkAL
import Derived.Test.YtfpekihdoclncaaGreatPkAH
import Derived.Test.YtfpekihdoclncaaGreatPkAC
import Derived.Test.YtfpekihdoclncaaGreatPkAE
namespace Go.Proofs.YtfpekihdoclncaaGreat
open Go.RowKit

set_option maxHeartbeats 1000000
set_option maxRecDepth 100000

namespace Tm
def X : Tm := .nm [120]
def Y : Tm := .nm [121]
def Z : Tm := .nm [122]
def half : Tm := abs [120] (abs [121] (app Y (app (app X X) Y)))
def fix : Tm := app half half
def succ : Tm := abs [120] (pair no X)
def pairC : Tm := abs [120] (abs [121] (abs [122] (app (app Z X) Y)))
def first : Tm := abs [120] (app X k)
def second : Tm := abs [120] (app X no)
def pred : Tm := abs [120] (app (app (app X k) I) (app X no))
/-- The closed term of a word. -/
def data (w : List UInt8) : Option Tm :=
  if w = [105] then some I else if w = [116, 114, 117, 101] then some k else if w = [102, 97, 108, 115, 101] then some no
  else if w = [112, 97, 105, 114] then some pairC else if w = [102, 105, 114, 115, 116] then some first else if w = [122, 101, 114, 111] then some first
  else if w = [115, 101, 99, 111, 110, 100] then some second else if w = [115, 117, 99, 99] then some succ else if w = [112, 114, 101, 100] then some pred
  else if w = [102, 105, 120] then some fix else none
theorem data_good {w : List UInt8} {t : Tm} (h : data w = some t) : t.good = true ∧ t.size ≤ 1000 := by
  unfold data at h
  repeat' split at h
  all_goals first | (obtain rfl := Option.some.inj h; exact ⟨by decide +kernel, by decide +kernel⟩) | cases h
end Tm

theorem nm_val {W : World} {B b : Nat} {n : List UInt8} {fr : Nat × Nat} (h : W.heap[b]? = some (.cells #[str n] 67 fr)) (hB : B ≤ b) : TV W B (.nm n) (.iface 63 (.pointer (some ⟨b, 0, none⟩))) := ⟨b, fr, rfl, hB, h⟩

theorem applyAll2 (w : World) (B g : Nat) (f a b : Tm) (vf va vb : Value) (fr : Nat × Nat) (hg : w.heap[g]? = some (.cells #[va, vb] 33 fr)) (hf : TV w B f vf) (ha : TV w B a va) (hb : TV w B b vb) (hB : B ≤ w.heap.size) (hz : f.size + a.size + b.size ≤ 1000000) :
    Calls Tryz.prog 32 #[vf, .slice (some ⟨g, 0, none⟩) 2 2] w (TermPost w B (.app (.app f a) b)) :=
  applyAll_any w B g f vf [a, b] [va, vb] fr rfl hg hf (fun j hj => by
    match j, hj with
    | 0, _ => exact ha
    | 1, _ => exact hb) hB (by simp; omega) (by simp)

theorem applyAll3 (w : World) (B g : Nat) (f a b c : Tm) (vf va vb vc : Value) (fr : Nat × Nat) (hg : w.heap[g]? = some (.cells #[va, vb, vc] 33 fr)) (hf : TV w B f vf) (ha : TV w B a va) (hb : TV w B b vb) (hc : TV w B c vc) (hB : B ≤ w.heap.size) (hz : f.size + a.size + b.size + c.size ≤ 1000000) :
    Calls Tryz.prog 32 #[vf, .slice (some ⟨g, 0, none⟩) 3 3] w (TermPost w B (.app (.app (.app f a) b) c)) :=
  applyAll_any w B g f vf [a, b, c] [va, vb, vc] fr rfl hg hf (fun j hj => by
    match j, hj with
    | 0, _ => exact ha
    | 1, _ => exact hb
    | 2, _ => exact hc) hB (by simp; omega) (by simp)

def DataPost (w : World) (B : Nat) (r : Option Tm) (e : Ending) (w' : World) : Prop :=
  ∃ v, e = .returned (.tuple #[v, .bool r.isSome]) ∧ Below w.heap.size w w' ∧ ∀ t, r = some t → TV w' B t v

/-- What is there behind the first lines of dataTerm. -/
structure DataPre (w : World) (B : Nat) (W : World) : Prop where
  below : Below w.heap.size w W
  x : TV W B Tm.X (.iface 63 (.pointer (some ⟨w.heap.size, 0, none⟩)))
  y : TV W B Tm.Y (.iface 63 (.pointer (some ⟨w.heap.size + 1, 0, none⟩)))
  z : TV W B Tm.Z (.iface 63 (.pointer (some ⟨w.heap.size + 1 + 1, 0, none⟩)))

def pData (l : List UInt8) : Option (List UInt8) := (Tm.data l).map Tm.text

end Go.Proofs.YtfpekihdoclncaaGreat

namespace Go.Proofs.YtfpekihdoclncaaGreat
open Go.RowKit

set_option maxHeartbeats 400000
set_option maxRecDepth 100000

def ManyPost (w : World) (B n : Nat) (t : Tm) (e : Ending) (w' : World) : Prop :=
  ∃ v', e = .returned (.tuple #[v', .int .i64 ((t.many n).2 : Nat)]) ∧ Below w.heap.size w w' ∧ TV w' B (t.many n).1 v'

/-- After k rounds. -/
def Rounds (w : World) (B n : Nat) (t : Tm) (v i : Value) (wr : World) : Prop :=
  ∃ (k : Nat) (u : Tm), i = .int .i64 k ∧ k ≤ n ∧ TV wr B u v ∧ u.fits = true ∧ Below w.heap.size w wr ∧ Hid (t.many n = ((u.many (n - k)).1, (u.many (n - k)).2 + k))

theorem stepTerms_any (w : World) (B n : Nat) (t : Tm) (v : Value) (h : TV w B t v) (hB : B ≤ w.heap.size) (hz : t.fits = true) (hn : n ≤ 1000000) :
    Calls Tryz.prog 66 #[v, .int .i64 n] w (ManyPost w B n t) := by
  go_enter Tryz.func66, Tryz.ntmps66
  go_wp2_with fail
  go_loopw [0, 10] (fun v i wr => Rounds w B n t v i wr) (fun _ i _ => n - (intOf i).toNat)
  case atStart => exact ⟨0, t, rfl, Nat.zero_le _, h, hz, Below.refl _ _, by simp [Hid]⟩
  case round =>
    obtain ⟨k, u, rfl, hk, hu, hf, hb, hm⟩ := hrel
    have hs := fits_size hf
    have hBr := Nat.le_trans hB hb.size
    by_cases hlt : k < n
    · cases hst : u.stepFit with
      | none =>
        have hsome : u.stepFit.isSome = false := by rw [hst]; rfl
        have hfin : t.many n = (u, k) := by
          rw [hm.out, show n - k = (n - k - 1) + 1 by omega, Tm.many_succ, hst]; simp
        have H := Lib.hid hfin
        clear hst hfin hm
        go_wp2_with (go_at_call 76; refine (stepTerm_any _ B u _ hu hBr (by omega)).mono ?_; rintro e w1 ⟨v1, rfl, hb1, hv1⟩; clear hv1)
        go_ret2
        exact ⟨_, by rw [H.out]; rfl, below_trans hb hb1, by rw [H.out]; exact hu.below hb1⟩
      | some u' =>
        have hsome : u.stepFit.isSome = true := by rw [hst]; rfl
        have hf' := stepFit_fits hst
        have hfin : t.many n = ((u'.many (n - (k + 1))).1, (u'.many (n - (k + 1))).2 + (k + 1)) := by
          rw [hm.out, show n - k = (n - (k + 1)) + 1 by omega, Tm.many_succ, hst]; simp; omega
        have H := Lib.hid hfin
        have H2 := Lib.hid hst
        clear hst hfin hm
        go_wp2_with (go_at_call 76; refine (stepTerm_any _ B u _ hu hBr (by omega)).mono ?_; rintro e w1 ⟨v1, rfl, hb1, hv1⟩; have HV := Lib.hid (hv1 u' H2.out); clear hv1)
        go_roundw
        case rel => exact ⟨k + 1, u', by go_num, by omega, HV.out, hf', below_trans hb hb1, H⟩
        case measure => simp [intOf]; omega
    · have hfin : t.many n = (u, n) := by
        rw [hm.out, show n - k = 0 by omega]; simp [Tm.many]; omega
      have H := Lib.hid hfin
      clear hfin hm
      go_wp2_with fail
      go_ret2
      exact ⟨_, by rw [H.out]; rfl, hb, by rw [H.out]; exact hu⟩

def NormPost (w : World) (B : Nat) (t : Tm) (e : Ending) (w' : World) : Prop :=
  ∃ v', e = .returned (.tuple #[v', .int .i64 ((t.many 6000).2 : Nat), .bool (t.many 6000).1.normal]) ∧ Below w.heap.size w w' ∧ TV w' B (t.many 6000).1 v'

theorem normalTerm_any (w : World) (B : Nat) (t : Tm) (v : Value) (h : TV w B t v) (hB : B ≤ w.heap.size) (hz : t.fits = true) :
    Calls Tryz.prog 52 #[v] w (NormPost w B t) := by
  go_enter Tryz.func52, Tryz.ntmps52
  go_wp2_with fail
  refine (stepTerms_any _ B 6000 t _ h hB hz (by omega)).mono ?_
  rintro e w1 ⟨v1, rfl, hb1, hv1⟩
  obtain ⟨T1, x1, rfl, _, _, _, ⟨f1, y1, m1, n1, c1⟩⟩ := hv1.asks
  have hb0 := Below.refl w1.heap.size w1
  generalize hn : (t.many 6000).2 = n
  generalize hl : (t.many 6000).1 = l at *
  have HN := Lib.hid hn
  have HL := Lib.hid hl
  clear hn hl
  go_wp2_with (go_at_fn f1; refine (c1 _ (by assumption)).mono ?_; rintro e w2 ⟨rfl, hb2⟩)
  go_ret3
  exact ⟨_, by rw [HN.out, HL.out]; rfl, below_trans hb1 hb2, by rw [HL.out]; exact hv1.below hb2⟩
end Go.Proofs.YtfpekihdoclncaaGreat

namespace Go.Proofs.YtfpekihdoclncaaGreat
open Go.RowKit

set_option maxHeartbeats 400000
set_option maxRecDepth 100000

def BothPost (w : World) (B : Nat) (l m : List UInt8) (e : Ending) (w' : World) : Prop :=
  ∃ v1 v2, e = .returned (.tuple #[v1, v2, .bool ((Tm.parse l).isSome && (Tm.parse m).isSome)]) ∧ Below w.heap.size w w' ∧ ∀ t u, Tm.parse l = some t → Tm.parse m = some u → TV w' B t v1 ∧ TV w' B u v2

end Go.Proofs.YtfpekihdoclncaaGreat
