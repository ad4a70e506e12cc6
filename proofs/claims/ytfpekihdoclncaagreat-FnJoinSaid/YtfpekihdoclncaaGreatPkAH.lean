/-
  The drawing of inputs: small closed terms.
-/
import Derived.Test.YtfpekihdoclncaaGreatPkAG
import Derived.Test.YtfpekihdoclncaaGreatPkAA
import Derived.Test.YtfpekihdoclncaaGreatPkAC
namespace Go.Proofs.YtfpekihdoclncaaGreat
open Go.RowKit

set_option maxHeartbeats 1000000
set_option maxRecDepth 100000

theorem small_any (w : World) (rb p : Nat) (h : Dr w rb p) (hp : p ≤ 890000) :
    Calls Tryz.prog 10 #[.pointer (some ⟨rb, 0, none⟩)] w (StrPost w rb p 1000 201) := by
  have hpk := pick_any w rb p 8 h (by omega) (by decide) (by decide)
  clear h
  go_enter Tryz.func10, Tryz.ntmps10
  go_wp2_with fail
  refine hpk.mono ?_
  rintro e w1 ⟨k, hk, rfl, hg1, hd1⟩
  have HD := Lib.hid hd1
  clear hpk hd1
  by_cases hk0 : k = 0
  · subst hk0
    have hodd := odd_any w1 rb (p + 1) HD.out (by omega)
    go_wp2_with fail
    refine hodd.mono ?_
    rintro e w2 ⟨s, q, rfl, hs, hq, hg, hd⟩
    have HD2 := Lib.hid hd
    clear hodd hd
    go_wp2_with fail
    go_ret
    exact ⟨s, q, rfl, hs, by omega, grown_trans hg1 hg, HD2.out⟩
  · have hk1 : ¬ (k : Int) = 0 := by omega
    have hk2 : ((k : Int) == 0) = false := beq_eq_false_iff_ne.2 hk1
    have hp3 := pick_any w1 rb (p + 1) 3 HD.out (by omega) (by decide) (by decide)
    go_wp2_with fail
    refine hp3.mono ?_
    rintro e w2 ⟨d, hd3, rfl, hg2, hd2⟩
    have hc := closed_any 2 w2 rb (p + 1 + 1) (d : Nat) hd2 (by omega) (by omega) (by omega) (by omega)
    clear hp3 hd2
    go_wp2_with fail
    refine hc.mono ?_
    rintro e w3 ⟨s, q, rfl, hs, hq, hg, hd⟩
    have HD3 := Lib.hid hd
    clear hc hd
    go_wp2_with fail
    go_ret
    exact ⟨s, q, rfl, by omega, by omega, grown_trans (grown_trans hg1 hg2) hg, HD3.out⟩

end Go.Proofs.YtfpekihdoclncaaGreat

namespace Go.Proofs.YtfpekihdoclncaaGreat
namespace Tm

theorem parse_facts {l : List UInt8} {t : Tm} (h : parse l = some t) : good t = true ∧ fits t = true ∧ size t ≤ 3000 ∧ depth t ≤ 1500 ∧ t.text.length ≤ 21000 := by
  obtain ⟨_, h2, h3⟩ := parse_iff.1 h
  have h4 := h3
  simp only [fits, Bool.and_eq_true, decide_eq_true_eq] at h4
  have := text_le t h2
  exact ⟨h2, h3, h4.1, h4.2, by omega⟩

def pSize (l : List UInt8) : Int := match parse l with | some t => (size t : Nat) | none => -1
def pNames (l : List UInt8) : Option (List (List UInt8)) := (parse l).map (names [])
def pClosed (l : List UInt8) : Bool := match parse l with | some t => (names [] t).isEmpty | none => false
def pPut (l n b : List UInt8) : Option (List UInt8) := match parse l, parse b with
  | some t, some u => if nameOk n && fits (put t n u) then some (text (put t n u)) else none
  | _, _ => none
def pStep (l : List UInt8) : Option (List UInt8) := match parse l with
  | some t => (stepFit t).map text
  | none => none
def pMany (l : List UInt8) (n : Int) : Option (List UInt8 × Nat) := match parse l with
  | some t => if 0 ≤ n ∧ n ≤ 6000 then some (text (many n.toNat t).1, (many n.toNat t).2) else none
  | none => none
def pNormal (l : List UInt8) : Bool := match parse l with | some t => (step t).isNone | none => false
def pNorm (l : List UInt8) : Option (List UInt8 × Nat) := match parse l with
  | some t => (norm t).map fun p => (text p.1, p.2)
  | none => none
def pApply (l m : List UInt8) : Option (List UInt8) := match parse l, parse m with
  | some t, some u => if fits (app t u) then (norm (app t u)).map fun p => text p.1 else none
  | _, _ => none
def pEqual (l m : List UInt8) : Bool := match pNorm l, pNorm m with
  | some p, some q => decide (p.1 = q.1)
  | _, _ => false

end Tm
end Go.Proofs.YtfpekihdoclncaaGreat

namespace Go.Proofs.YtfpekihdoclncaaGreat
open Go.RowKit

set_option maxHeartbeats 1000000
set_option maxRecDepth 100000

theorem AbsOk.later {w W : World} {B : Nat} {v : Value} {t : Tm} (h : AbsOk w B v t) (hb : Below w.heap.size w W) : AbsOk W B v t := by
  obtain ⟨T, x, f, y, hv, hm, hc, hd⟩ := h
  exact ⟨T, x, f, y, hv, hm, hc, fun W' hW' => hd W' (below_trans hb hW')⟩

theorem BV.absOk {w : World} {B : Nat} (hB : B ≤ w.heap.size) : ∀ {b : Bd} {v : Value}, BV w B b v → b.term.size ≤ 999999999 → AbsOk w B v b.term
  | .itself, _, h, _ => ⟨_, _, _, _, h, meth_itself, fun _ _ => by kernel_rfl, fun W hW => itself_abs W B (Nat.le_trans hB hW.size)⟩
  | .without t, _, ⟨x, hv, h⟩, hz => ⟨_, _, _, _, hv, fun W => meth_without W x, fun _ _ => by kernel_rfl, fun W hW => without_abs W B t x (h.below hW) (Nat.le_trans hB hW.size) (by simp only [Bd.term, Tm.size] at hz; omega)⟩
  | .atEnd t, _, ⟨x, hv, h⟩, hz => ⟨_, _, _, _, hv, fun W => meth_atEnd W x, fun _ _ => by kernel_rfl, fun W hW => atEnd_abs W B t x (h.below hW)⟩
  | .inside f a, _, ⟨x, y, hv, hf, ha⟩, hz => by
    simp only [Bd.term, Tm.size] at hz
    have sf := BV.absOk hB hf (by omega)
    have sa := BV.absOk hB ha (by omega)
    exact ⟨_, _, _, _, hv, fun W => meth_inside W x y, fun _ _ => by kernel_rfl, fun W hW => inside_abs W B _ _ x y (sf.later hW) (sa.later hW) (Nat.le_trans hB hW.size) (by omega)⟩

theorem pair_any (w : World) (B : Nat) (m n : Tm) (v1 v2 : Value) (h1 : TV w B m v1) (h2 : TV w B n v2) (hB : B ≤ w.heap.size) (hz : m.size + n.size ≤ 100000000) :
    Calls Tryz.prog 65 #[v1, v2] w (TermPost w B (Tm.pair m n)) := by
  have hx := BV.absOk (b := .inside .itself (.without m)) (v := .iface 141 (.agg #[.iface 137 (.agg #[]), .iface 139 (.agg #[v1])])) hB ⟨_, _, rfl, rfl, _, rfl, h1⟩ (by simp [Bd.term, Tm.I, Tm.size]; omega)
  have hy := BV.absOk (b := .without n) (v := .iface 139 (.agg #[v2])) hB ⟨_, rfl, h2⟩ (by simp [Bd.term, Tm.size]; omega)
  have hcall := inside_abs w B _ _ _ _ hx hy hB (by simp [Bd.term, Tm.I, Tm.size]; omega)
  obtain ⟨T1, x1, rfl, _⟩ := h1.asks
  obtain ⟨T2, x2, rfl, _⟩ := h2.asks
  have hfin : (Tm.app (.app .s (Bd.term (.inside .itself (.without m)))) (Bd.term (.without n))) = Tm.pair m n := rfl
  rw [hfin] at hcall
  unfold TermPost at hcall
  clear hx hy h1 h2 hfin
  go_enter Tryz.func65, Tryz.ntmps65
  go_wp2_with fail
  refine hcall.mono ?_
  rintro e w1 ⟨v3, rfl, hb1, ht1⟩
  have HT := Lib.hid ht1
  clear ht1 hcall
  go_wp2_with fail
  go_ret
  exact ⟨_, rfl, hb1, HT.out⟩

/-- What NumberOf answers. -/
def pNumber (n : Int) : Option (List UInt8) := if 0 ≤ n ∧ n ≤ 60 then some (Tm.num n.toNat).text else none

def NumOne (w : World) (r : Option (List UInt8)) (e : Ending) (w' : World) : Prop :=
  e = .returned (.tuple #[str (r.getD []), .bool r.isSome]) ∧ Below w.heap.size w w'

end Go.Proofs.YtfpekihdoclncaaGreat
