/-
  The program's readClosedFormula, FormulaClosed; the law of FormulaClosed.
-/
import Derived.Test.YtdjoafnohkmneaaGreatDoorPkN
import Derived.Test.YtdjoafnohkmneaaGreatDoorPkM
import Derived.Test.YtdjoafnohkmneaaGreatDoorPkB
import Derived.Test.YtdjoafnohkmneaaGreatDoorPkC
import Derived.Test.YtdjoafnohkmneaaGreatDoorPkK
import Derived.Test.YtdjoafnohkmneaaGreatDoorPkI
import Derived.Test.YtdjoafnohkmneaaGreatDoorPkL
import Derived.Test.YtdjoafnohkmneaaGreatDoorPkJ
import Derived.Test.YtdjoafnohkmneaaGreatDoorPkH
namespace Go.Proofs.YtdjoafnohkmneaaGreatDoor
open Go.RowKit

set_option maxHeartbeats 2000000
set_option maxRecDepth 100000

theorem FoV.lf : ∀ {f : Fo} {w : World} {B : Nat} {v : Value}, FoV w B f v → Fm.okm f → Fm.atoms f ≤ 1000 → ∀ mb, w.heap.size ≤ mb → LFOk "loop.example/realizers/impl.listFree" w mb v (Fm.occ f) (Fm.atoms f)
  | .top, w, _, _, h, _, _, mb, _ => ⟨_, _, 151, .agg #[], h, fun _ => by kernel_rfl, fun _ _ => by kernel_rfl, fun W hW ns hn _ => (top_list W _).mono fun e w' h => by
      rw [h.1]; exact post_same hn h.2 (by have := hn.lt; omega)⟩
  | .bot, w, _, _, h, _, _, mb, _ => ⟨_, _, 184, .agg #[], h, fun _ => by kernel_rfl, fun _ _ => by kernel_rfl, fun W hW ns hn _ => (bot_list W _).mono fun e w' h => by
      rw [h.1]; exact post_same hn h.2 (by have := hn.lt; omega)⟩
  | .eq a b, w, _, _, ⟨x, y, h, ha, hb⟩, ho, hl, mb, hm => by
    simp only [Fm.atoms] at hl
    have k1 := ha.lf hm ho.1 (by omega)
    have k2 := hb.lf hm ho.2 (by omega)
    obtain ⟨T1, x1, rfl⟩ := ha.form
    obtain ⟨T2, x2, rfl⟩ := hb.form
    exact ⟨_, _, 156, .agg #[.iface T1 x1, .iface T2 x2], h, fun _ => by kernel_rfl, fun _ _ => by kernel_rfl, fun W hW ns hn hl => equality_list w W mb T1 T2 x1 x2 _ _ _ _ ns hW k1 k2 hn (by simp only [Fm.atoms] at hl; omega) (Fm.occE_len a)⟩
  | .and f g, w, _, _, ⟨x, y, h, hf, hg⟩, ho, hl, mb, hm => by
    simp only [Fm.atoms] at hl
    have k1 := hf.lf ho.1 (by omega) mb hm
    have k2 := hg.lf ho.2 (by omega) mb hm
    obtain ⟨T1, x1, rfl⟩ := hf.form
    obtain ⟨T2, x2, rfl⟩ := hg.form
    exact ⟨_, _, 161, .agg #[.iface T1 x1, .iface T2 x2], h, fun _ => by kernel_rfl, fun _ _ => by kernel_rfl, fun W hW ns hn hl => joined_list w W mb T1 T2 x1 x2 _ _ _ _ ns hW k1 k2 hn (by simp only [Fm.atoms] at hl; omega) (Fm.occ_len f)⟩
  | .or f g, w, _, _, ⟨x, y, h, hf, hg⟩, ho, hl, mb, hm => by
    simp only [Fm.atoms] at hl
    have k1 := hf.lf ho.1 (by omega) mb hm
    have k2 := hg.lf ho.2 (by omega) mb hm
    obtain ⟨T1, x1, rfl⟩ := hf.form
    obtain ⟨T2, x2, rfl⟩ := hg.form
    exact ⟨_, _, 161, .agg #[.iface T1 x1, .iface T2 x2], h, fun _ => by kernel_rfl, fun _ _ => by kernel_rfl, fun W hW ns hn hl => joined_list w W mb T1 T2 x1 x2 _ _ _ _ ns hW k1 k2 hn (by simp only [Fm.atoms] at hl; omega) (Fm.occ_len f)⟩
  | .imp f g, w, _, _, ⟨x, y, h, hf, hg⟩, ho, hl, mb, hm => by
    simp only [Fm.atoms] at hl
    have k1 := hf.lf ho.1 (by omega) mb hm
    have k2 := hg.lf ho.2.1 (by omega) mb hm
    obtain ⟨T1, x1, rfl⟩ := hf.form
    obtain ⟨T2, x2, rfl⟩ := hg.form
    exact ⟨_, _, 161, .agg #[.iface T1 x1, .iface T2 x2], h, fun _ => by kernel_rfl, fun _ _ => by kernel_rfl, fun W hW ns hn hl => joined_list w W mb T1 T2 x1 x2 _ _ _ _ ns hW k1 k2 hn (by simp only [Fm.atoms] at hl; omega) (Fm.occ_len f)⟩
  | .all x n f, w, B, _, ⟨y, h, hf⟩, ho, hl, mb, hm => by
    simp only [Fm.atoms] at hl
    have hfree : ∀ W, Below mb w W → mb ≤ W.heap.size → Calls Tryz.prog 62 #[y] W (FNPost W (Fm.occ f)) := fun W hW hs =>
      freeNames_of W y _ _ ((show FoV W B f y from hf.move (Nat.le_refl _) fun b _ hl => hW.block b (by omega)).lf ho.2.2.2 (by omega) W.heap.size (Nat.le_refl _)) (by omega)
    obtain ⟨T1, x1, rfl⟩ := hf.form
    exact ⟨_, _, 173, .agg #[str x, .int .i64 (n : Nat), .iface T1 x1], h, fun _ => by kernel_rfl, fun _ _ => by kernel_rfl, fun W hW ns hn hl => bound_list w W mb x n T1 x1 _ ns hW hn hfree (Fm.occ_ok f ho.2.2.2) (by have := Fm.occ_len f; simp only [Fm.atoms] at hl; omega)⟩
  | .ex x n f, w, B, _, ⟨y, h, hf⟩, ho, hl, mb, hm => by
    simp only [Fm.atoms] at hl
    have hfree : ∀ W, Below mb w W → mb ≤ W.heap.size → Calls Tryz.prog 62 #[y] W (FNPost W (Fm.occ f)) := fun W hW hs =>
      freeNames_of W y _ _ ((show FoV W B f y from hf.move (Nat.le_refl _) fun b _ hl => hW.block b (by omega)).lf ho.2.2.2 (by omega) W.heap.size (Nat.le_refl _)) (by omega)
    obtain ⟨T1, x1, rfl⟩ := hf.form
    exact ⟨_, _, 173, .agg #[str x, .int .i64 (n : Nat), .iface T1 x1], h, fun _ => by kernel_rfl, fun _ _ => by kernel_rfl, fun W hW ns hn hl => bound_list w W mb x n T1 x1 _ ns hW hn hfree (Fm.occ_ok f ho.2.2.2) (by have := Fm.occ_len f; simp only [Fm.atoms] at hl; omega)⟩

theorem readClosed_fo (w : World) (l : List UInt8) (hl : l.length ≤ 1000000000) (hS : LaidS w) :
    Calls Tryz.prog 40 #[str l] w (RFPost w (Fm.pclosed l)) := by
  have k1 := readFormula_any w l hl hS
  have hpc := fun f => @Fm.pclosed_iff l f
  cases hp : Fm.parse l with
  | none =>
    have e : Fm.pclosed l = none := by unfold Fm.pclosed; rw [hp]
    rw [hp] at k1
    rw [e]
    unfold RFPost at *
    clear hpc hp e hS
    go_enter Tryz.func40, Tryz.ntmps40
    go_wp2_with fail
    refine k1.mono ?_
    rintro e w2 ⟨v, rfl, hA, _, hi⟩
    have HI := Lib.hid hi
    clear k1 hi
    go_wp2_with fail
    go_ret2
    exact ⟨v, rfl, hA, (fun f h => by cases h), HI.out⟩
  | some f =>
    have e : Fm.pclosed l = if Fm.occ f = [] then some f else none := by unfold Fm.pclosed; rw [hp]
    have hom := (Fm.parse_okm hp).1
    have hat := (Fm.parse_okm hp).2.1
    rw [hp] at k1
    rw [e]
    obtain ⟨R, hR⟩ : ∃ R, R = if Fm.occ f = [] then some f else none := ⟨_, rfl⟩
    rw [← hR]
    have HR := Lib.hid hR
    clear hR
    unfold RFPost at *
    obtain ⟨b0, hb0⟩ : ∃ b0, b0 = decide (Fm.occ f = []) := ⟨_, rfl⟩
    have hlen : (((Fm.addA [] (Fm.occ f)).length : Int) == 0) = b0 := by
      rw [hb0]
      by_cases h0 : Fm.occ f = []
      · rw [h0]; rfl
      · have : (Fm.free f).length ≠ 0 := fun e => h0 ((Fm.free_nil f).1 (List.length_eq_zero_iff.1 e))
        have h2 : ((Fm.addA [] (Fm.occ f)).length : Int) ≠ 0 := by have h3 : (Fm.addA [] (Fm.occ f)).length ≠ 0 := this; omega
        rw [decide_eq_false h0]
        exact beq_eq_false_iff_ne.2 h2
    have HB := Lib.hid hb0
    have HOM := Lib.hid hom
    have HAT := Lib.hid hat
    generalize hn : (Fm.addA [] (Fm.occ f)).length = n0 at *
    have HN := Lib.hid hn
    have HLE := Lib.hid hlen
    clear hpc hp e hS hb0 hom hat hn hlen
    go_enter Tryz.func40, Tryz.ntmps40
    go_wp2_with fail
    refine k1.mono ?_
    rintro e w2 ⟨v, rfl, hA, hv, hi⟩
    have hfv := hv f rfl
    have hfree := freeNames_of w2 v _ _ (hfv.lf HOM.out (by have := HAT.out; omega) w2.heap.size (Nat.le_refl _)) (by have := HAT.out; omega)
    unfold FNPost at hfree
    rw [HN.out] at hfree
    have HI := Lib.hid hi
    have HFV := Lib.hid hfv
    clear k1 hi hv hfv
    go_wp2_with fail
    refine hfree.mono ?_
    rintro e w3 ⟨sv, rfl, ha3, ho3⟩
    obtain ⟨ao, cap, rfl⟩ := own_slice_len ho3
    clear hfree ho3
    have hlen := HLE.out
    go_wp2_with fail
    go_ret2
    refine ⟨v, ?_, hA.trans ha3, fun g hg => ?_, HI.out⟩
    · rw [HR.out]
      by_cases h0 : Fm.occ f = []
      · rw [if_pos h0, HB.out, decide_eq_true h0]; rfl
      · rw [if_neg h0, HB.out, decide_eq_false h0]; rfl
    · rw [HR.out] at hg
      split at hg
      · obtain rfl := Option.some.inj hg; exact HFV.out.after ha3
      · cases hg

theorem impl_formulaClosed (w : World) (l : List UInt8) (hl : l.length ≤ 1000000000) (hS : LaidS w) :
    Calls Tryz.prog 19 #[str l] w fun e w' => e = .returned (.bool (Fm.pclosed l).isSome) ∧ After w w' := by
  have k1 := readClosed_fo w l hl hS
  generalize Fm.pclosed l = o at *
  unfold RFPost at k1
  clear hS
  go_enter Tryz.func19, Tryz.ntmps19
  go_wp2_with fail
  refine k1.mono ?_
  rintro e w2 ⟨v, rfl, hA, _, hi⟩
  clear k1
  go_wp2_with fail
  go_ret
  exact ⟨rfl, hA⟩

theorem spec_formulaClosed (w : World) (l : List UInt8) :
    Calls Tryz.prog 21 #[str l] w fun e w' => e = .returned (.bool (Fm.mclosed l).isSome) ∧ After w w' := by
  have hc := s_closedf w l
  generalize Fm.mclosed l = o at *
  unfold MFPost at hc
  go_enter Tryz.func21, Tryz.ntmps21
  go_wp2_with fail
  refine hc.mono ?_
  rintro e w1 ⟨s, ao, n, c, rfl, ha, _⟩
  have ha2 := ha.alloc (.cells #[str s, .slice ao n c] 35)
  clear hc
  go_wp2_with fail
  go_ret
  exact ⟨rfl, ha2⟩

end Go.Proofs.YtdjoafnohkmneaaGreatDoor

namespace Go.Proofs.YtdjoafnohkmneaaGreatDoor
open Go.RowKit

set_option maxHeartbeats 2000000
set_option maxRecDepth 100000

namespace Fm
/-- What FormulaHolds answers. -/
def pHolds (l : List UInt8) : Bool := match pclosed l with
  | some f => holdsF 151 f
  | none => false
theorem pclosed_facts {l : List UInt8} {f : Fo} (h : pclosed l = some f) : okm f ∧ atoms f ≤ 60 ∧ occ f = [] ∧ sxDepth (tree f) < 151 := by
  obtain ⟨h1, h2⟩ := pclosed_iff.1 h
  obtain ⟨h3, h4, _⟩ := parse_okm h1
  exact ⟨h3, h4, h2, by have := (tree_ok f h3).2.1; omega⟩
end Fm

theorem impl_formulaHolds (w : World) (l : List UInt8) (hl : l.length ≤ 1000000000) (hS : LaidS w) (hH : HandleS w) :
    Calls Tryz.prog 15 #[str l] w fun e w' => e = .returned (.bool (Fm.pHolds l)) ∧ After w w' := by
  have k1 := readClosed_fo w l hl hS
  have hf := fun f => @Fm.pclosed_facts l f
  obtain ⟨R, hR⟩ : ∃ R, R = Fm.pHolds l := ⟨_, rfl⟩
  rw [← hR]
  unfold Fm.pHolds at hR
  generalize Fm.pclosed l = o at *
  unfold RFPost at k1
  have HH := Lib.hid hH
  clear hS hH
  cases o with
  | none =>
    subst hR
    clear hf
    go_enter Tryz.func15, Tryz.ntmps15
    go_wp2_with fail
    refine k1.mono ?_
    rintro e w2 ⟨v, rfl, hA, _, hi⟩
    clear k1
    go_wp2_with fail
    go_ret
    exact ⟨rfl, hA⟩
  | some f =>
    obtain ⟨h1, h2, h3, h4⟩ := hf f rfl
    have hho := fun w v (hv : FoV w 0 f v) (hH : HandleS w) => holds_any 151 f w w v hv h1 h3 h4 hH (After.refl w)
    rw [← show R = Fm.holdsF 151 f from hR] at hho
    have HHO := Lib.hid hho
    clear hho hR hf
    go_enter Tryz.func15, Tryz.ntmps15
    go_wp2_with fail
    refine k1.mono ?_
    rintro e w2 ⟨v, rfl, hA, hv, hi⟩
    have hfv := (hv f rfl).less (Nat.zero_le _)
    have k2 := HHO.out w2 v hfv (HH.out.after hA)
    have HA := Lib.hid hA
    obtain ⟨T, y, rfl⟩ := hfv.form
    clear k1 hA hv hfv hi
    go_wp2_with fail
    refine k2.mono ?_
    rintro e w3 ⟨rfl, hA3⟩
    clear k2
    go_wp2_with fail
    go_ret
    exact ⟨rfl, HA.out.trans hA3⟩

theorem spec_formulaHolds (w : World) (l : List UInt8) :
    Calls Tryz.prog 14 #[str l] w fun e w' => e = .returned (.bool (Fm.pHolds l)) ∧ After w w' := by
  have hc := s_closedf w l
  rw [Fm.mclosed_eq] at hc
  have hf := fun f => @Fm.pclosed_facts l f
  obtain ⟨R, hR⟩ : ∃ R, R = Fm.pHolds l := ⟨_, rfl⟩
  rw [← hR]
  unfold Fm.pHolds at hR
  generalize Fm.pclosed l = o at *
  unfold MFPost at hc
  cases o with
  | none =>
    subst hR
    clear hf
    go_enter Tryz.func14, Tryz.ntmps14
    go_wp2_with fail
    refine hc.mono ?_
    rintro e w1 ⟨s, ao, n, c, rfl, ha, _⟩
    have ha2 := ha.alloc (.cells #[str s, .slice ao n c] 35)
    clear hc
    go_wp2_with fail
    go_ret
    exact ⟨rfl, ha2⟩
  | some f =>
    obtain ⟨h1, h2, h3, h4⟩ := hf f rfl
    have hho := fun w B v (hv : SV w B (Fm.tree f) v) => s_holds 151 (Nat.le_refl _) f w B v hv h1 h3 h4 (by omega)
    rw [← show R = Fm.holdsF 151 f from hR] at hho
    unfold HoldS at hho
    have HHO := Lib.hid hho
    clear hho hR hf
    go_enter Tryz.func14, Tryz.ntmps14
    go_wp2_with fail
    refine hc.mono ?_
    rintro e w1 ⟨s, ao, n, c, rfl, ha, hv⟩
    have ha2 := ha.alloc (.cells #[str s, .slice ao n c] 35)
    have hn := After.new w1 (.cells #[str s, .slice ao n c] 35)
    have k2 := HHO.out (w1.alloc (.cells #[str s, .slice ao n c] 35)) _ _ ((hv _ rfl).after hn)
    clear hc hv hn
    go_wp2_with fail
    refine k2.mono ?_
    rintro e w3 ⟨rfl, hA3⟩
    clear k2
    go_wp2_with fail
    go_ret
    exact ⟨rfl, ha2.trans hA3⟩

theorem law_formulaHolds (w : World) (l : List UInt8) (hS : LaidS w) (hH : HandleS w) :
    Calls Tryz.prog 5 #[str l] w fun e w' => e = .returned (.bool true) ∧ After w w' := by
  have hsz : (⟨l.toArray⟩ : ByteArray).size = l.length := by show l.toArray.size = _; simp
  by_cases hbig : 1048576 < l.length
  · have hb : (1048576 : Int) < (l.length : Int) := by omega
    clear hbig
    go_enter Tryz.func5, Tryz.ntmps5
    go_wp2_with fail
    go_ret
    exact ⟨rfl, After.refl _⟩
  have hb : (l.length : Int) ≤ 1048576 := by omega
  have hs := spec_formulaHolds w l
  have hi := fun W (hW : After w W) => impl_formulaHolds W l (by omega) (hS.after hW) (hH.after hW)
  generalize Fm.pHolds l = r at *
  clear hbig hS hH
  go_enter Tryz.func5, Tryz.ntmps5
  go_wp2_with fail
  refine hs.mono ?_
  rintro e w1 ⟨rfl, ha⟩
  have hi1 := hi w1 ha
  clear hs hi
  go_wp2_with fail
  refine hi1.mono ?_
  rintro e w2 ⟨rfl, ha2⟩
  clear hi1
  cases r with
  | true =>
    go_wp2_with fail
    go_ret
    exact ⟨rfl, ha.trans ha2⟩
  | false =>
    go_wp2_with fail
    go_ret
    exact ⟨rfl, ha.trans ha2⟩
end Go.Proofs.YtdjoafnohkmneaaGreatDoor

namespace Go.Proofs.YtdjoafnohkmneaaGreatDoor
open Go.RowKit

set_option maxHeartbeats 1000000
set_option maxRecDepth 100000

/-- The reader of a code lies in block rb. -/
def DR (w : World) (rb : Nat) (v : Value) (p : Nat) : Prop := w.heap[rb]? = some (.cells #[v, .int .i64 p] 104 (0, 0))

/-- The bytes of a code can be read. -/
def CodeOk (w : World) (rb : Nat) (v : Value) : Prop :=
  (∃ a0 cap, v = .slice a0 0 cap) ∨ ∃ b o n cap, 0 < n ∧ n ≤ 2000 ∧ v = .slice (some ⟨b, o, none⟩) n cap ∧ b ≠ rb ∧
    ∃ z : Nat → Nat, ∀ i, i < n → w.cell? ⟨b, o + i, none⟩ = some (.int .u8 (z i)) ∧ z i ≤ 255

def Dr (w : World) (rb p : Nat) : Prop := ∃ v, DR w rb v p ∧ CodeOk w rb v

def PickPost (w : World) (rb p m : Nat) (e : Ending) (w' : World) : Prop :=
  ∃ k : Nat, k < m ∧ e = .returned (.int .i64 k) ∧ w.grownBy w' (some rb) ∧ Dr w' rb (p + 1)

theorem DR.set {w : World} {rb p : Nat} {v : Value} (h : DR w rb v p) (q : Nat) : DR (w.setCell ⟨rb, 1, none⟩ (.int .i64 q)) rb v q := by
  unfold DR at *
  simp [World.setCell, Array.getElem?_modify, h]

theorem grown_set1 (w : World) (b i : Nat) (v : Value) : w.grownBy (w.setCell ⟨b, i, none⟩ v) (some b) := by
  refine ⟨rfl, rfl, rfl, by simp [World.setCell], fun k hk hne => ?_⟩
  have : b ≠ k := fun e => hne (e ▸ rfl)
  simp [World.setCell, Array.getElem?_modify, this]

theorem pick_none (w : World) (rb p : Nat) (a0 : Option Addr) (cap m : Nat) (h : DR w rb (.slice a0 0 cap) p) (hp : p ≤ 1000000) (hm : 1 ≤ m) :
    Calls Tryz.prog 44 #[.pointer (some ⟨rb, 0, none⟩), .int .i64 m] w (PickPost w rb p m) := by
  have c0 : w.cell? ⟨rb, 0, none⟩ = some (.slice a0 0 cap) := cell_of_heap h
  have c1 : w.cell? ⟨rb, 1, none⟩ = some (.int .i64 (p : Nat)) := cell_of_heap h
  have f1 : w.frozen? ⟨rb, 1, none⟩ = false := by unfold DR at h; simp [World.frozen?, h]
  have H := Lib.hid h
  clear h
  go_enter Tryz.func44, Tryz.ntmps44
  go_wp2_with fail
  go_ret
  exact ⟨0, by omega, rfl, grown_set1 _ _ _ _, _, H.out.set (p + 1), Or.inl ⟨_, _, rfl⟩⟩
theorem cell_set_other {w : World} {rb b i : Nat} (hne : b ≠ rb) (v : Value) : (w.setCell ⟨rb, 1, none⟩ v).cell? ⟨b, i, none⟩ = w.cell? ⟨b, i, none⟩ := by
  have : ¬ rb = b := fun e => hne e.symm
  simp [World.setCell, World.cell?, Array.getElem?_modify, this]

theorem pick_in (w : World) (rb p : Nat) (b o n cap m : Nat) (z : Nat → Nat) (h : DR w rb (.slice (some ⟨b, o, none⟩) n cap) p) (hn : n ≤ 2000) (hne : b ≠ rb) (hz : ∀ i, i < n → w.cell? ⟨b, o + i, none⟩ = some (.int .u8 (z i)) ∧ z i ≤ 255) (hp : p < n) (hm : 1 ≤ m) (hm2 : m ≤ 1000) :
    Calls Tryz.prog 44 #[.pointer (some ⟨rb, 0, none⟩), .int .i64 m] w (PickPost w rb p m) := by
  have c0 : w.cell? ⟨rb, 0, none⟩ = some (.slice (some ⟨b, o, none⟩) n cap) := cell_of_heap h
  have c1 : w.cell? ⟨rb, 1, none⟩ = some (.int .i64 (p : Nat)) := cell_of_heap h
  have f1 : w.frozen? ⟨rb, 1, none⟩ = false := by unfold DR at h; simp [World.frozen?, h]
  have H := Lib.hid h
  obtain ⟨hz1, hz2⟩ := hz p hp
  have hz3 := fun v => (cell_set_other (w := w) (i := o + p) hne v).trans hz1
  have HZ := Lib.hid hz
  have hp' : (p : Int) < (n : Int) := by omega
  have hm' : (1 : Int) ≤ (m : Int) := by omega
  have hn' : ((n : Int) == 0) = false := by rw [beq_eq_false_iff_ne]; omega
  clear h hz
  go_enter Tryz.func44, Tryz.ntmps44
  go_wp2_with fail
  go_ret
  refine ⟨z p % m, Nat.mod_lt _ (by omega), ?_, grown_set1 _ _ _ _, _, H.out.set (p + 1), Or.inr ⟨b, o, n, cap, by omega, hn, rfl, hne, z, fun i hi => ?_⟩⟩
  · show Ending.returned (.int .i64 _) = _; rfl
  · rw [cell_set_other hne]; exact HZ.out i hi

theorem wrap64_small (x : Int) (h0 : 0 ≤ x) (h1 : x < 9223372036854775808) : wrap64 x = x := by unfold wrap64; omega

theorem bits_xor_i64_nat (a b : Nat) (ha : a < 4611686018427387904) (hb : b < 4611686018427387904) : bits .xor .i64 (a : Int) (b : Int) = ((a ^^^ b : Nat) : Int) := by
  have hx : a ^^^ b < 2 ^ 62 := Nat.xor_lt_two_pow (by omega) (by omega)
  have h1 : (BitVec.ofInt 64 (a : Int)).toNat = a := by
    rw [BitVec.ofInt_natCast, BitVec.toNat_ofNat]; exact Nat.mod_eq_of_lt (by omega)
  have h2 : (BitVec.ofInt 64 (b : Int)).toNat = b := by
    rw [BitVec.ofInt_natCast, BitVec.toNat_ofNat]; exact Nat.mod_eq_of_lt (by omega)
  show IntKind.i64.wrap ((BitVec.ofInt 64 (a : Int) ^^^ BitVec.ofInt 64 (b : Int)).toNat : Int) = _
  rw [BitVec.toNat_xor, h1, h2, IntWalk.i64_in _ (by omega)]

theorem rem_xor (x y : Int) (m : Nat) (hx : 0 ≤ x) (hx2 : x < 1099511627776) (hy : 0 ≤ y) (hy2 : y < 1099511627776) (hm : 1 ≤ m) : ∃ k : Nat, k < m ∧ (bits .xor .i64 x y).tmod (m : Int) = (k : Int) := by
  obtain ⟨a, rfl⟩ := Int.eq_ofNat_of_zero_le hx
  obtain ⟨b, rfl⟩ := Int.eq_ofNat_of_zero_le hy
  rw [bits_xor_i64_nat a b (by omega) (by omega)]
  exact ⟨(a ^^^ b) % m, Nat.mod_lt _ (by omega), rfl⟩

theorem mix_range (p n m y z : Nat) (hp : p ≤ 1000000) (hy : y ≤ 255) (hz : z ≤ 255) (hm : 1 ≤ m) : ∃ k : Nat, k < m ∧
    (bits .xor .i64 (wrap64 ((y : Int) * 131 + (z : Int) * 1117 + (p : Int) * 29 + wrap64 (wrap64 ((p : Int) / (n : Int)) * 53)))
      (wrap64 ((wrap64 ((y : Int) * 131 + (z : Int) * 1117 + (p : Int) * 29 + wrap64 (wrap64 ((p : Int) / (n : Int)) * 53))).tdiv 64))).tmod (m : Int) = (k : Int) := by
  have d0 : (p : Int) / (n : Int) = ((p / n : Nat) : Int) := by simp
  have d1 : p / n ≤ p := Nat.div_le_self _ _
  rw [d0]
  generalize p / n = q at d1
  clear d0
  rw [wrap64_small (q : Int) (by omega) (by omega), wrap64_small ((q : Int) * 53) (by omega) (by omega)]
  rw [wrap64_small ((y : Int) * 131 + (z : Int) * 1117 + (p : Int) * 29 + (q : Int) * 53) (by omega) (by omega)]
  generalize hX : (y : Int) * 131 + (z : Int) * 1117 + (p : Int) * 29 + (q : Int) * 53 = X
  have h0 : 0 ≤ X := by omega
  have h1 : X < 1000000000 := by omega
  have e : X.tdiv 64 = X / 64 := Int.tdiv_eq_ediv_of_nonneg h0
  rw [e, wrap64_small (X / 64) (by omega) (by omega)]
  exact rem_xor _ _ m h0 (by omega) (by omega) (by omega) hm

theorem pick_past (w : World) (rb p : Nat) (b o n cap m : Nat) (z : Nat → Nat) (h : DR w rb (.slice (some ⟨b, o, none⟩) n cap) p) (hn : n ≤ 2000) (hne : b ≠ rb) (hz : ∀ i, i < n → w.cell? ⟨b, o + i, none⟩ = some (.int .u8 (z i)) ∧ z i ≤ 255) (hp : n ≤ p) (hp2 : p ≤ 1000000) (hn0 : 0 < n) (hm : 1 ≤ m) (hm2 : m ≤ 1000) :
    Calls Tryz.prog 44 #[.pointer (some ⟨rb, 0, none⟩), .int .i64 m] w (PickPost w rb p m) := by
  have c0 : w.cell? ⟨rb, 0, none⟩ = some (.slice (some ⟨b, o, none⟩) n cap) := cell_of_heap h
  have c1 : w.cell? ⟨rb, 1, none⟩ = some (.int .i64 (p : Nat)) := cell_of_heap h
  have f1 : w.frozen? ⟨rb, 1, none⟩ = false := by unfold DR at h; simp [World.frozen?, h]
  have H := Lib.hid h
  have l1 : p % n < n := Nat.mod_lt _ hn0
  have l2 : (p * 7 + 3) % n < n := Nat.mod_lt _ hn0
  obtain ⟨hz1, hz2⟩ := hz _ l1
  obtain ⟨hy1, hy2⟩ := hz _ l2
  have hz3 := fun v => (cell_set_other (w := w) (i := o + p % n) hne v).trans hz1
  have hy3 := fun v => (cell_set_other (w := w) (i := o + (p * 7 + 3) % n) hne v).trans hy1
  obtain ⟨k, hk, he⟩ := mix_range p n m (z (p % n)) (z ((p * 7 + 3) % n)) hp2 hz2 hy2 hm
  have HE := Lib.hid he
  clear he
  have HZ := Lib.hid hz
  have hp' : ¬ (p : Int) < (n : Int) := by omega
  have hm' : (1 : Int) ≤ (m : Int) := by omega
  have hn' : ((n : Int) == 0) = false := by rw [beq_eq_false_iff_ne]; omega
  have hn1 : ¬ n = 0 := by omega
  have hn2 : (0 : Int) < (n : Int) := by omega
  have q0 : 0 ≤ (p : Int) % (n : Int) := Int.emod_nonneg _ (by omega)
  have q1 : (p : Int) % (n : Int) < (n : Int) := Int.emod_lt_of_pos _ hn2
  have q2 : ((p : Int) % (n : Int)).toNat = p % n := by rw [← Int.natCast_emod]; rfl
  have r0 : 0 ≤ ((p : Int) * 7 + 3) % (n : Int) := Int.emod_nonneg _ (by omega)
  have r1 : ((p : Int) * 7 + 3) % (n : Int) < (n : Int) := Int.emod_lt_of_pos _ hn2
  have r2 : (((p : Int) * 7 + 3) % (n : Int)).toNat = (p * 7 + 3) % n := by
    rw [show ((p : Int) * 7 + 3) = ((p * 7 + 3 : Nat) : Int) by omega, ← Int.natCast_emod]; rfl
  have ht2 : ((p : Int) * 7 + 3).tmod (n : Int) = ((p : Int) * 7 + 3) % (n : Int) := Int.tmod_eq_emod_of_nonneg (by omega)
  clear h hz
  go_enter Tryz.func44, Tryz.ntmps44
  go_wp2_with fail
  go_quiet (fail)
  go_wp2_with fail
  go_ret
  refine ⟨k, hk, ?_, grown_trans (grown_set1 _ _ _ _) (grown_drawn _ rb _), _, H.out.set (p + 1), Or.inr ⟨b, o, n, cap, by omega, hn, rfl, hne, z, fun i hi => ?_⟩⟩
  · exact congrArg (fun x => Ending.returned (.int .i64 x)) HE.out
  · exact (cell_set_other hne _).trans (HZ.out i hi).1 |> fun h => ⟨h, (HZ.out i hi).2⟩

theorem pick_any (w : World) (rb p m : Nat) (h : Dr w rb p) (hp : p ≤ 1000000) (hm : 1 ≤ m) (hm2 : m ≤ 1000) :
    Calls Tryz.prog 44 #[.pointer (some ⟨rb, 0, none⟩), .int .i64 m] w (PickPost w rb p m) := by
  obtain ⟨v, h, hc⟩ := h
  rcases hc with ⟨a0, cap, rfl⟩ | ⟨b, o, n, cap, hn0, hn, rfl, hne, z, hz⟩
  · exact pick_none w rb p a0 cap m h hp hm
  · by_cases hlt : p < n
    · exact pick_in w rb p b o n cap m z h hn hne hz hlt hm hm2
    · exact pick_past w rb p b o n cap m z h hn hne hz (by omega) hp hn0 hm hm2
end Go.Proofs.YtdjoafnohkmneaaGreatDoor

namespace Go.Proofs.YtdjoafnohkmneaaGreatDoor
open Go.RowKit

set_option maxHeartbeats 1000000
set_option maxRecDepth 100000

theorem Dr.lt {w : World} {rb p : Nat} (h : Dr w rb p) : rb < w.heap.size := by obtain ⟨v, h, _⟩ := h; exact (Array.getElem?_eq_some_iff.1 h).1

theorem CodeOk.after {w W : World} {rb : Nat} {v : Value} (h : CodeOk w rb v) (hw : Below w.heap.size w W) : CodeOk W rb v := by
  rcases h with h | ⟨b, o, n, cap, hn0, hn, rfl, hne, z, hz⟩
  · exact Or.inl h
  · exact Or.inr ⟨b, o, n, cap, hn0, hn, rfl, hne, z, fun i hi => ⟨cell_later' (hz i hi).1 W hw, (hz i hi).2⟩⟩

theorem Dr.after {w W : World} {rb p : Nat} (h : Dr w rb p) (hw : Below w.heap.size w W) : Dr W rb p := by
  obtain ⟨v, h, hc⟩ := h
  exact ⟨v, heap_later h hw, hc.after hw⟩

def OfPost (w : World) (rb p : Nat) (L : List (List UInt8)) (e : Ending) (w' : World) : Prop :=
  ∃ s, s ∈ L ∧ e = .returned (str s) ∧ w.grownBy w' (some rb) ∧ Dr w' rb (p + 1)

theorem grown_cell {w w' : World} {g rb i : Nat} {v : Value} (h : w.cell? ⟨g, i, none⟩ = some v) (hne : g ≠ rb) (hg : w.grownBy w' (some rb)) : w'.cell? ⟨g, i, none⟩ = some v := by
  have hb := hg.block g (World.block_lt_of_cell? _ _ h) (fun e => by injection e with e; exact hne e)
  simp only [World.cell?] at *
  rw [hb]
  exact h

theorem of_any (w : World) (rb p g : Nat) (fr : Nat × Nat) (L : List (List UInt8)) (hL : w.heap[g]? = some (.cells (L.map str).toArray 9 fr)) (h0 : 0 < L.length) (h1 : L.length ≤ 1000) (hne : g ≠ rb) (h : Dr w rb p) (hp : p ≤ 1000000) :
    Calls Tryz.prog 47 #[.pointer (some ⟨rb, 0, none⟩), .slice (some ⟨g, 0, none⟩) L.length L.length] w (OfPost w rb p L) := by
  have hpick := pick_any w rb p L.length h hp (by omega) h1
  have hcell : ∀ k, k < L.length → w.cell? ⟨g, k, none⟩ = some (str (L.getD k [])) := fun k hk => by
    rw [cell_of_heap hL]
    simp [List.getD_eq_getElem?_getD, List.getElem?_eq_getElem hk]
  obtain ⟨N, hN⟩ : ∃ N, N = L.length := ⟨_, rfl⟩
  rw [← hN] at hpick h0 h1 hcell ⊢
  have HN := Lib.hid hN
  clear hN hL h
  go_enter Tryz.func47, Tryz.ntmps47
  go_wp2_with fail
  refine hpick.mono ?_
  rintro e w1 ⟨k, hk, rfl, hg1, hd1⟩
  have hc := grown_cell (hcell k hk) hne hg1
  have hk' : (k : Int) < (N : Int) := by omega
  have HD := Lib.hid hd1
  clear hd1 hpick hcell
  go_wp2_with fail
  go_ret
  refine ⟨L.getD k [], ?_, rfl, hg1, HD.out⟩
  have := HN.out
  rw [List.getD_eq_getElem?_getD, List.getElem?_eq_getElem (by omega)]
  exact List.getElem_mem _

/-- Some text of at most b bytes, behind at most c draws. -/
def StrPost (w : World) (rb p b c : Nat) (e : Ending) (w' : World) : Prop :=
  ∃ (s : ByteArray) (q : Nat), e = .returned (.string s) ∧ s.size ≤ b ∧ q ≤ p + c ∧ w.grownBy w' (some rb) ∧ Dr w' rb q

theorem cat2 (a b : ByteArray) (h : a.size + b.size ≤ 1000000000000) : ∃ c : ByteArray, c.size = a.size + b.size ∧ ∀ W, (Op.stringOp .add a b).run Tryz.prog W = .ok (.string c) W :=
  ⟨a ++ b, by simp, fun W => run_string_add_sum W a b (by omega)⟩

theorem ssize (l : List UInt8) : (⟨l.toArray⟩ : ByteArray).size = l.length := by show l.toArray.size = _; simp

def termL : List (List UInt8) := [[107], [115], [107], [120], [121], [115], [122, 49], [40, 40, 115, 32, 107, 41, 32, 107, 41]]

theorem grown_new {w w' : World} {o : Obj} {rb : Nat} (hg : (w.alloc o).grownBy w' (some rb)) (_h : rb < w.heap.size) : w.grownBy w' (some rb) := by
  have hb := below_new w o
  refine ⟨hg.os.trans hb.os, hg.tape.trans hb.tape, hg.output.trans hb.output, Nat.le_trans hb.size hg.size, fun k hk hne => ?_⟩
  rw [hg.block k (Nat.lt_of_lt_of_le hk hb.size) hne]
  exact hb.block k hk

theorem pow_pos4 (n : Nat) : 1 ≤ 4 ^ n := by have := Nat.pow_le_pow_right (n := 4) (by decide) (Nat.zero_le n); simpa using this

end Go.Proofs.YtdjoafnohkmneaaGreatDoor

namespace Go.Proofs.YtdjoafnohkmneaaGreatDoor
open Go.RowKit

set_option maxHeartbeats 1000000
set_option maxRecDepth 100000

def closedL : List (List UInt8) := [[107], [115], [107], [40, 40, 115, 32, 107, 41, 32, 107, 41], [40, 107, 32, 40, 40, 115, 32, 107, 41, 32, 107, 41, 41]]

def oddL : List (List UInt8) := [[], [97], [40, 107, 41], [40, 107, 32, 115, 32, 107, 41], [107, 32], [40, 107, 32, 32, 115, 41], [120, 48, 48, 48, 48], [40, 40, 115, 32, 107, 41, 107, 41]]
def bigL : List (List UInt8) := [[40, 40, 40, 40, 115, 32, 40, 40, 115, 32, 107, 41, 32, 107, 41, 41, 32, 40, 40, 115, 32, 107, 41, 32, 107, 41, 41, 41, 32, 40, 40, 40, 115, 32, 40, 40, 115, 32, 107, 41, 32, 107, 41, 41, 32, 40, 40, 115, 32, 107, 41, 32, 107, 41, 41, 41, 41], [40, 40, 40, 115, 32, 40, 40, 115, 32, 107, 41, 32, 107, 41, 41, 32, 40, 40, 115, 32, 107, 41, 32, 107, 41, 41, 32, 40, 40, 115, 32, 40, 40, 115, 32, 107, 41, 32, 107, 41, 41, 32, 40, 40, 115, 32, 107, 41, 32, 107, 41, 41, 41], [40, 40, 40, 115, 32, 115, 41, 32, 107, 41, 32, 120, 41]]

/-- A code as it comes in. -/
def CodeArg (w : World) (v : Value) (n : Nat) : Prop :=
  (∃ a0 cap, v = .slice a0 0 cap ∧ n = 0) ∨ ∃ b o cap, 0 < n ∧ n ≤ cap ∧ cap ≤ 9223372036854775807 ∧ v = .slice (some ⟨b, o, none⟩) n cap ∧
    ∃ z : Nat → Nat, ∀ i, i < n → w.cell? ⟨b, o + i, none⟩ = some (.int .u8 (z i)) ∧ z i ≤ 255

def OpenPost (w : World) (e : Ending) (w' : World) : Prop := ∃ rb, e = .returned (.pointer (some ⟨rb, 0, none⟩)) ∧ w.heap.size ≤ rb ∧ After w w' ∧ Dr w' rb 0

theorem open_any (w : World) (v : Value) (n : Nat) (h : CodeArg w v n) :
    Calls Tryz.prog 43 #[v] w (OpenPost w) := by
  rcases h with ⟨a0, cap, rfl, rfl⟩ | ⟨b, o, cap, hn0, hnc, hcm, rfl, z, hz⟩
  · go_enter Tryz.func43, Tryz.ntmps43
    go_wp2_with fail
    go_ret
    exact ⟨_, rfl, Nat.le_refl _, After.new _ _, _, heap_top _ _, Or.inl ⟨_, _, rfl⟩⟩
  · have hb : b < w.heap.size := World.block_lt_of_cell? _ _ (hz 0 hn0).1
    by_cases hbig : 2000 < n
    · have hbig' : (2000 : Int) < (n : Int) := by omega
      have hc : (2000 : Int) ≤ (cap : Int) := by omega
      have HZ := Lib.hid hz
      clear hz
      go_enter Tryz.func43, Tryz.ntmps43
      go_wp2_with fail
      go_ret
      exact ⟨_, rfl, Nat.le_refl _, After.new _ _, _, heap_top _ _, Or.inr ⟨b, o, 2000, cap, by omega, by omega, rfl, by omega, z, fun i hi => ⟨cell_later' (HZ.out i (by omega)).1 _ (below_new w _), (HZ.out i (by omega)).2⟩⟩⟩
    · have hbig' : ¬ (2000 : Int) < (n : Int) := by omega
      have HZ := Lib.hid hz
      clear hz
      go_enter Tryz.func43, Tryz.ntmps43
      go_wp2_with fail
      go_ret
      exact ⟨_, rfl, Nat.le_refl _, After.new _ _, _, heap_top _ _, Or.inr ⟨b, o, n, cap, hn0, by omega, rfl, by omega, z, fun i hi => ⟨cell_later' (HZ.out i hi).1 _ (below_new w _), (HZ.out i hi).2⟩⟩⟩

/-- Some text. -/
def DrawPost (w : World) (e : Ending) (w' : World) : Prop := ∃ s : ByteArray, e = .returned (.string s) ∧ s.size ≤ 100000 ∧ After w w'

theorem after_open {w W w' : World} {rb : Nat} (h : After w W) (g : W.grownBy w' (some rb)) (hr : w.heap.size ≤ rb) : After w w' :=
  ⟨g.os.trans h.os, g.tape.trans h.tape, g.output.trans h.output, Nat.le_trans h.size g.size, fun k hk => by
    rw [g.block k (Nat.lt_of_lt_of_le hk h.size) (fun e => by injection e with e; omega)]; exact h.block k hk⟩

def wordL : List (List UInt8) := [[105], [116, 114, 117, 101], [102, 97, 108, 115, 101], [112, 97, 105, 114], [102, 105, 114, 115, 116], [115, 101, 99, 111, 110, 100], [122, 101, 114, 111], [115, 117, 99, 99], [112, 114, 101, 100], [102, 105, 120], [], [80, 97, 105, 114]]

end Go.Proofs.YtdjoafnohkmneaaGreatDoor

namespace Go.Proofs.YtdjoafnohkmneaaGreatDoor
open Go.RowKit

set_option maxHeartbeats 4000000
set_option maxRecDepth 100000

/-- A row of names, in a block of its own. -/
def NmRow (w : World) (rb : Nat) (nv : Value) (n : Nat) : Prop := ∃ b cap, nv = .slice (some ⟨b, 0, none⟩) n cap ∧ b ≠ rb ∧ b < w.heap.size ∧ ∀ i, i < n → ∃ s : ByteArray, w.cell? ⟨b, i, none⟩ = some (.string s) ∧ s.size ≤ 2
theorem NmRow.grown {w w' : World} {rb n : Nat} {nv : Value} (h : NmRow w rb nv n) (hg : w.grownBy w' (some rb)) : NmRow w' rb nv n := by
  obtain ⟨b, cap, rfl, hne, hlt, hc⟩ := h
  refine ⟨b, cap, rfl, hne, Nat.lt_of_lt_of_le hlt hg.size, fun i hi => ?_⟩
  obtain ⟨s, h1, h2⟩ := hc i hi
  exact ⟨s, grown_cell h1 hne hg, h2⟩
theorem NmRow.form {w : World} {rb n : Nat} {nv : Value} (h : NmRow w rb nv n) : ∃ b cap, nv = .slice (some ⟨b, 0, none⟩) n cap ∧ b ≠ rb ∧ ∀ i, i < n → ∃ s : ByteArray, w.cell? ⟨b, i, none⟩ = some (.string s) ∧ s.size ≤ 2 := by
  obtain ⟨b, cap, h1, h2, _, h3⟩ := h
  exact ⟨b, cap, h1, h2, h3⟩
def numL5 : List (List UInt8) := [[48], [49], [50], [49], [51]]
def topL : List (List UInt8) := [[116, 111, 112], [98, 111, 116], [116, 111, 112]]
def xyuL : List (List UInt8) := [[120], [121], [117]]
def oddLf : List (List UInt8) := [[], [101, 113], [40, 101, 113, 32, 48, 41], [40, 105, 109, 112, 32, 40, 97, 108, 108, 32, 120, 32, 50, 32, 116, 111, 112, 41, 32, 116, 111, 112, 41], [40, 97, 108, 108, 32, 120, 32, 48, 32, 116, 111, 112, 41], [40, 97, 108, 108, 32, 120, 32, 55, 32, 116, 111, 112, 41], [40, 101, 113, 32, 120, 32, 49, 41], [40, 101, 120, 32, 107, 32, 50, 32, 116, 111, 112, 41], [40, 101, 113, 32, 54, 49, 32, 54, 49, 41], [40, 101, 113, 32, 48, 49, 32, 49, 41]]
def nameL : List (List UInt8) := [[120], [121], [122, 49], [117]]
def oddN : List (List UInt8) := [[], [107], [97], [120, 49, 50, 51, 52]]

def ExDr (top : Int) (B M : Nat) : Prop := ∀ (w : World) (rb p n : Nat) (nv : Value) (d : Int), Dr w rb p → p + M ≤ 900000 → NmRow w rb nv n → n ≤ 20 → d ≤ top →
  Calls Tryz.prog 48 #[.pointer (some ⟨rb, 0, none⟩), nv, .int .i64 d] w (StrPost w rb p B M)


theorem dex_leaf : ExDr 0 2 4 := by
  intro w rb p n nv d h hp hN hn hd
  obtain ⟨b, cap, rfl, hne, hc⟩ := hN.form
  have HC := Lib.hid hc
  have HN := Lib.hid hN
  have HD := Lib.hid h
  have hrefl : w.grownBy w (some rb) := World.grownBy.refl _ _
  clear h hN hc
  go_enter Tryz.func48, Tryz.ntmps48
  by_cases hn0 : 0 < n
  · have hn0i : (0 : Int) < (n : Int) := by omega
    have hp1 := pick_any w rb (p) 2 HD.out (by omega) (by decide) (by decide)
    go_wp2_with fail
    refine hp1.mono ?_
    rintro e wp3 ⟨k2, k2lt, rfl, gp4, dp5⟩
    have DP6 := Lib.hid dp5
    have GG7 := Lib.hid (grown_trans hrefl gp4)
    clear hp1 dp5 gp4
    by_cases k2z : k2 = 0
    · subst k2z
      have hp8 := pick_any wp3 rb (p + 1) n DP6.out (by omega) (by omega) (by omega)
      go_wp2_with fail
      refine hp8.mono ?_
      rintro e wp10 ⟨k9, k9lt, rfl, gp11, dp12⟩
      have DP13 := Lib.hid dp12
      have GG14 := Lib.hid (grown_trans GG7.out gp11)
      clear hp8 dp12 gp11
      obtain ⟨sx, hsx, hsz⟩ := HC.out k9 k9lt
      have hcx := grown_cell hsx hne GG14.out
      have hji : (k9 : Int) < (n : Int) := by omega
      go_wp2_with fail
      go_ret
      exact ⟨sx, _, rfl, by omega, by omega, GG14.out, DP13.out⟩
    · have k2b : ((k2 : Int) == 0) = false := by rw [beq_eq_false_iff_ne]; omega
      have lt23 := DP6.out.lt
      have ho15 := of_any (wp3.alloc (.cells (numL5.map str).toArray 9)) rb (p + 1) wp3.heap.size (0, 0) numL5 (heap_top wp3 _) (by decide) (by decide) (by omega) (DP6.out.after (below_new wp3 _)) (by omega)
      go_wp2_with fail
      refine ho15.mono ?_
      rintro e wo17 ⟨s16, hs24, rfl, go18, do_19⟩
      have z22 : (⟨s16.toArray⟩ : ByteArray).size ≤ 1 := by rw [ssize]; exact (show ∀ s ∈ numL5, s.length ≤ 1 by decide) _ hs24
      have DO20 := Lib.hid do_19
      have GG21 := Lib.hid (grown_trans GG7.out (grown_new go18 lt23))
      clear ho15 do_19 go18 hs24 lt23
      go_wp2_with fail
      go_ret
      exact ⟨⟨s16.toArray⟩, _, rfl, by omega, by omega, GG21.out, DO20.out⟩
  · have hn0i : ¬ (0 : Int) < (n : Int) := by omega
    have lt33 := HD.out.lt
    have ho25 := of_any (w.alloc (.cells (numL5.map str).toArray 9)) rb (p) w.heap.size (0, 0) numL5 (heap_top w _) (by decide) (by decide) (by omega) (HD.out.after (below_new w _)) (by omega)
    go_wp2_with fail
    refine ho25.mono ?_
    rintro e wo27 ⟨s26, hs34, rfl, go28, do_29⟩
    have z32 : (⟨s26.toArray⟩ : ByteArray).size ≤ 1 := by rw [ssize]; exact (show ∀ s ∈ numL5, s.length ≤ 1 by decide) _ hs34
    have DO30 := Lib.hid do_29
    have GG31 := Lib.hid (grown_trans hrefl (grown_new go28 lt33))
    clear ho25 do_29 go28 hs34 lt33
    go_wp2_with fail
    go_ret
    exact ⟨⟨s26.toArray⟩, _, rfl, by omega, by omega, GG31.out, DO30.out⟩

theorem dex_step (B M : Nat) (hB2 : 2 ≤ B) (hB : B ≤ 100000) (hM : M ≤ 100000) (t : Int) (ht : t ≤ 100) (ih : ExDr t B M) : ExDr (t + 1) (2 * B + 7) (2 * M + 6) := by
  intro w rb p n nv d h hp hN hn hd
  obtain ⟨b, cap, rfl, hne, hc⟩ := hN.form
  have HC := Lib.hid hc
  have HN := Lib.hid hN
  have HD := Lib.hid h
  have hrefl : w.grownBy w (some rb) := World.grownBy.refl _ _
  clear h hN hc
  have HIH := Lib.hid ih
  clear ih
  by_cases hd0 : d ≤ 0
  · go_enter Tryz.func48, Tryz.ntmps48
    by_cases hn0 : 0 < n
    · have hn0i : (0 : Int) < (n : Int) := by omega
      have hp35 := pick_any w rb (p) 2 HD.out (by omega) (by decide) (by decide)
      go_wp2_with fail
      refine hp35.mono ?_
      rintro e wp37 ⟨k36, k36lt, rfl, gp38, dp39⟩
      have DP40 := Lib.hid dp39
      have GG41 := Lib.hid (grown_trans hrefl gp38)
      clear hp35 dp39 gp38
      by_cases k36z : k36 = 0
      · subst k36z
        have hp42 := pick_any wp37 rb (p + 1) n DP40.out (by omega) (by omega) (by omega)
        go_wp2_with fail
        refine hp42.mono ?_
        rintro e wp44 ⟨k43, k43lt, rfl, gp45, dp46⟩
        have DP47 := Lib.hid dp46
        have GG48 := Lib.hid (grown_trans GG41.out gp45)
        clear hp42 dp46 gp45
        obtain ⟨sx, hsx, hsz⟩ := HC.out k43 k43lt
        have hcx := grown_cell hsx hne GG48.out
        have hji : (k43 : Int) < (n : Int) := by omega
        go_wp2_with fail
        go_ret
        exact ⟨sx, _, rfl, by omega, by omega, GG48.out, DP47.out⟩
      · have k36b : ((k36 : Int) == 0) = false := by rw [beq_eq_false_iff_ne]; omega
        have lt57 := DP40.out.lt
        have ho49 := of_any (wp37.alloc (.cells (numL5.map str).toArray 9)) rb (p + 1) wp37.heap.size (0, 0) numL5 (heap_top wp37 _) (by decide) (by decide) (by omega) (DP40.out.after (below_new wp37 _)) (by omega)
        go_wp2_with fail
        refine ho49.mono ?_
        rintro e wo51 ⟨s50, hs58, rfl, go52, do_53⟩
        have z56 : (⟨s50.toArray⟩ : ByteArray).size ≤ 1 := by rw [ssize]; exact (show ∀ s ∈ numL5, s.length ≤ 1 by decide) _ hs58
        have DO54 := Lib.hid do_53
        have GG55 := Lib.hid (grown_trans GG41.out (grown_new go52 lt57))
        clear ho49 do_53 go52 hs58 lt57
        go_wp2_with fail
        go_ret
        exact ⟨⟨s50.toArray⟩, _, rfl, by omega, by omega, GG55.out, DO54.out⟩
    · have hn0i : ¬ (0 : Int) < (n : Int) := by omega
      have lt67 := HD.out.lt
      have ho59 := of_any (w.alloc (.cells (numL5.map str).toArray 9)) rb (p) w.heap.size (0, 0) numL5 (heap_top w _) (by decide) (by decide) (by omega) (HD.out.after (below_new w _)) (by omega)
      go_wp2_with fail
      refine ho59.mono ?_
      rintro e wo61 ⟨s60, hs68, rfl, go62, do_63⟩
      have z66 : (⟨s60.toArray⟩ : ByteArray).size ≤ 1 := by rw [ssize]; exact (show ∀ s ∈ numL5, s.length ≤ 1 by decide) _ hs68
      have DO64 := Lib.hid do_63
      have GG65 := Lib.hid (grown_trans hrefl (grown_new go62 lt67))
      clear ho59 do_63 go62 hs68 lt67
      go_wp2_with fail
      go_ret
      exact ⟨⟨s60.toArray⟩, _, rfl, by omega, by omega, GG65.out, DO64.out⟩
  have hd0p : 0 < d := by omega
  go_enter Tryz.func48, Tryz.ntmps48
  have hp69 := pick_any w rb (p) 3 HD.out (by omega) (by decide) (by decide)
  go_wp2_with fail
  refine hp69.mono ?_
  rintro e wp71 ⟨k70, k70lt, rfl, gp72, dp73⟩
  have DP74 := Lib.hid dp73
  have GG75 := Lib.hid (grown_trans hrefl gp72)
  clear hp69 dp73 gp72
  by_cases k70z : k70 = 0
  · subst k70z
    by_cases hn0 : 0 < n
    · have hn0i : (0 : Int) < (n : Int) := by omega
      have hp76 := pick_any wp71 rb (p + 1) 2 DP74.out (by omega) (by decide) (by decide)
      go_wp2_with fail
      refine hp76.mono ?_
      rintro e wp78 ⟨k77, k77lt, rfl, gp79, dp80⟩
      have DP81 := Lib.hid dp80
      have GG82 := Lib.hid (grown_trans GG75.out gp79)
      clear hp76 dp80 gp79
      by_cases k77z : k77 = 0
      · subst k77z
        have hp83 := pick_any wp78 rb (p + 1 + 1) n DP81.out (by omega) (by omega) (by omega)
        go_wp2_with fail
        refine hp83.mono ?_
        rintro e wp85 ⟨k84, k84lt, rfl, gp86, dp87⟩
        have DP88 := Lib.hid dp87
        have GG89 := Lib.hid (grown_trans GG82.out gp86)
        clear hp83 dp87 gp86
        obtain ⟨sx, hsx, hsz⟩ := HC.out k84 k84lt
        have hcx := grown_cell hsx hne GG89.out
        have hji : (k84 : Int) < (n : Int) := by omega
        go_wp2_with fail
        go_ret
        exact ⟨sx, _, rfl, by omega, by omega, GG89.out, DP88.out⟩
      · have k77b : ((k77 : Int) == 0) = false := by rw [beq_eq_false_iff_ne]; omega
        have lt98 := DP81.out.lt
        have ho90 := of_any (wp78.alloc (.cells (numL5.map str).toArray 9)) rb (p + 1 + 1) wp78.heap.size (0, 0) numL5 (heap_top wp78 _) (by decide) (by decide) (by omega) (DP81.out.after (below_new wp78 _)) (by omega)
        go_wp2_with fail
        refine ho90.mono ?_
        rintro e wo92 ⟨s91, hs99, rfl, go93, do_94⟩
        have z97 : (⟨s91.toArray⟩ : ByteArray).size ≤ 1 := by rw [ssize]; exact (show ∀ s ∈ numL5, s.length ≤ 1 by decide) _ hs99
        have DO95 := Lib.hid do_94
        have GG96 := Lib.hid (grown_trans GG82.out (grown_new go93 lt98))
        clear ho90 do_94 go93 hs99 lt98
        go_wp2_with fail
        go_ret
        exact ⟨⟨s91.toArray⟩, _, rfl, by omega, by omega, GG96.out, DO95.out⟩
    · have hn0i : ¬ (0 : Int) < (n : Int) := by omega
      have lt108 := DP74.out.lt
      have ho100 := of_any (wp71.alloc (.cells (numL5.map str).toArray 9)) rb (p + 1) wp71.heap.size (0, 0) numL5 (heap_top wp71 _) (by decide) (by decide) (by omega) (DP74.out.after (below_new wp71 _)) (by omega)
      go_wp2_with fail
      refine ho100.mono ?_
      rintro e wo102 ⟨s101, hs109, rfl, go103, do_104⟩
      have z107 : (⟨s101.toArray⟩ : ByteArray).size ≤ 1 := by rw [ssize]; exact (show ∀ s ∈ numL5, s.length ≤ 1 by decide) _ hs109
      have DO105 := Lib.hid do_104
      have GG106 := Lib.hid (grown_trans GG75.out (grown_new go103 lt108))
      clear ho100 do_104 go103 hs109 lt108
      go_wp2_with fail
      go_ret
      exact ⟨⟨s101.toArray⟩, _, rfl, by omega, by omega, GG106.out, DO105.out⟩
  have k70b : ((k70 : Int) == 0) = false := by rw [beq_eq_false_iff_ne]; omega
  clear k70z
  have hp110 := pick_any wp71 rb (p + 1) 3 DP74.out (by omega) (by decide) (by decide)
  go_wp2_with fail
  refine hp110.mono ?_
  rintro e wp112 ⟨k111, k111lt, rfl, gp113, dp114⟩
  have DP115 := Lib.hid dp114
  have GG116 := Lib.hid (grown_trans GG75.out gp113)
  clear hp110 dp114 gp113
  have k111c : k111 = 0 ∨ k111 = 1 ∨ k111 = 2 := by omega
  rcases k111c with rfl | rfl | rfl
  · skip
    have hc126 := HIH.out wp112 rb (p + 1 + 1) n _ (d - 1) DP115.out (by omega) (HN.out.grown GG116.out) hn (by omega)
    go_wp2_with fail
    refine hc126.mono ?_
    rintro e wf119 ⟨s117, q118, rfl, hs120, hq121, gf122, df123⟩
    have DF124 := Lib.hid df123
    have GG125 := Lib.hid (grown_trans GG116.out gf122)
    clear hc126 df123 gf122
    have l127 : (⟨#[40, 115, 117, 99, 32]⟩ : ByteArray).size = 5 := rfl
    have l128 : (⟨#[41]⟩ : ByteArray).size = 1 := rfl
    obtain ⟨t129, z130, e131⟩ := cat2 ⟨#[40, 115, 117, 99, 32]⟩ s117 (by have := l127; have := hs120; omega)
    have z130b : t129.size = (⟨#[40, 115, 117, 99, 32]⟩ : ByteArray).size + (s117 : ByteArray).size := z130
    clear z130
    obtain ⟨t132, z133, e134⟩ := cat2 t129 ⟨#[41]⟩ (by have := z130b; have := l128; omega)
    have z133b : t132.size = (t129 : ByteArray).size + (⟨#[41]⟩ : ByteArray).size := z133
    clear z133
    go_wp2_with fail
    go_ret
    exact ⟨t132, _, rfl, by omega, by omega, GG125.out, DF124.out⟩
  · skip
    have hc144 := HIH.out wp112 rb (p + 1 + 1) n _ (d - 1) DP115.out (by omega) (HN.out.grown GG116.out) hn (by omega)
    go_wp2_with fail
    refine hc144.mono ?_
    rintro e wf137 ⟨s135, q136, rfl, hs138, hq139, gf140, df141⟩
    have DF142 := Lib.hid df141
    have GG143 := Lib.hid (grown_trans GG116.out gf140)
    clear hc144 df141 gf140
    have l145 : (⟨#[40, 109, 117, 108, 32]⟩ : ByteArray).size = 5 := rfl
    have l146 : (⟨#[32]⟩ : ByteArray).size = 1 := rfl
    have l147 : (⟨#[41]⟩ : ByteArray).size = 1 := rfl
    obtain ⟨t148, z149, e150⟩ := cat2 ⟨#[40, 109, 117, 108, 32]⟩ s135 (by have := l145; have := hs138; omega)
    have z149b : t148.size = (⟨#[40, 109, 117, 108, 32]⟩ : ByteArray).size + (s135 : ByteArray).size := z149
    clear z149
    obtain ⟨t151, z152, e153⟩ := cat2 t148 ⟨#[32]⟩ (by have := z149b; have := l146; omega)
    have z152b : t151.size = (t148 : ByteArray).size + (⟨#[32]⟩ : ByteArray).size := z152
    clear z152
    have hc163 := HIH.out wf137 rb (q136) n _ (d - 1) DF142.out (by omega) (HN.out.grown GG143.out) hn (by omega)
    go_wp2_with fail
    refine hc163.mono ?_
    rintro e wf156 ⟨s154, q155, rfl, hs157, hq158, gf159, df160⟩
    have DF161 := Lib.hid df160
    have GG162 := Lib.hid (grown_trans GG143.out gf159)
    clear hc163 df160 gf159
    obtain ⟨t164, z165, e166⟩ := cat2 t151 s154 (by have := z152b; have := hs157; omega)
    have z165b : t164.size = (t151 : ByteArray).size + (s154 : ByteArray).size := z165
    clear z165
    obtain ⟨t167, z168, e169⟩ := cat2 t164 ⟨#[41]⟩ (by have := z165b; have := l147; omega)
    have z168b : t167.size = (t164 : ByteArray).size + (⟨#[41]⟩ : ByteArray).size := z168
    clear z168
    go_wp2_with fail
    go_ret
    exact ⟨t167, _, rfl, by omega, by omega, GG162.out, DF161.out⟩
  · skip
    have hc179 := HIH.out wp112 rb (p + 1 + 1) n _ (d - 1) DP115.out (by omega) (HN.out.grown GG116.out) hn (by omega)
    go_wp2_with fail
    refine hc179.mono ?_
    rintro e wf172 ⟨s170, q171, rfl, hs173, hq174, gf175, df176⟩
    have DF177 := Lib.hid df176
    have GG178 := Lib.hid (grown_trans GG116.out gf175)
    clear hc179 df176 gf175
    have l180 : (⟨#[40, 97, 100, 100, 32]⟩ : ByteArray).size = 5 := rfl
    have l181 : (⟨#[32]⟩ : ByteArray).size = 1 := rfl
    have l182 : (⟨#[41]⟩ : ByteArray).size = 1 := rfl
    obtain ⟨t183, z184, e185⟩ := cat2 ⟨#[40, 97, 100, 100, 32]⟩ s170 (by have := l180; have := hs173; omega)
    have z184b : t183.size = (⟨#[40, 97, 100, 100, 32]⟩ : ByteArray).size + (s170 : ByteArray).size := z184
    clear z184
    obtain ⟨t186, z187, e188⟩ := cat2 t183 ⟨#[32]⟩ (by have := z184b; have := l181; omega)
    have z187b : t186.size = (t183 : ByteArray).size + (⟨#[32]⟩ : ByteArray).size := z187
    clear z187
    have hc198 := HIH.out wf172 rb (q171) n _ (d - 1) DF177.out (by omega) (HN.out.grown GG178.out) hn (by omega)
    go_wp2_with fail
    refine hc198.mono ?_
    rintro e wf191 ⟨s189, q190, rfl, hs192, hq193, gf194, df195⟩
    have DF196 := Lib.hid df195
    have GG197 := Lib.hid (grown_trans GG178.out gf194)
    clear hc198 df195 gf194
    obtain ⟨t199, z200, e201⟩ := cat2 t186 s189 (by have := z187b; have := hs192; omega)
    have z200b : t199.size = (t186 : ByteArray).size + (s189 : ByteArray).size := z200
    clear z200
    obtain ⟨t202, z203, e204⟩ := cat2 t199 ⟨#[41]⟩ (by have := z200b; have := l182; omega)
    have z203b : t202.size = (t199 : ByteArray).size + (⟨#[41]⟩ : ByteArray).size := z203
    clear z203
    go_wp2_with fail
    go_ret
    exact ⟨t202, _, rfl, by omega, by omega, GG197.out, DF196.out⟩

theorem dex_one : ExDr 1 11 14 := dex_step 2 4 (by decide) (by decide) (by decide) 0 (by decide) dex_leaf
end Go.Proofs.YtdjoafnohkmneaaGreatDoor

namespace Go.Proofs.YtdjoafnohkmneaaGreatDoor
open Go.RowKit

set_option maxHeartbeats 4000000
set_option maxRecDepth 100000


def FoDr (top : Int) (K B M : Nat) : Prop := ∀ (w : World) (rb p n : Nat) (nv : Value) (d : Int) (sb : Bool), Dr w rb p → p + M ≤ 900000 → NmRow w rb nv n → n ≤ K → d ≤ top →
  Calls Tryz.prog 45 #[.pointer (some ⟨rb, 0, none⟩), nv, .int .i64 d, .bool sb] w (StrPost w rb p B M)


theorem dfo_leaf : FoDr 0 20 28 30 := by
  intro w rb p n nv d sb h hp hN hn hd
  obtain ⟨b, cap, rfl, hne, hc⟩ := hN.form
  have HC := Lib.hid hc
  have HN := Lib.hid hN
  have HD := Lib.hid h
  have hrefl : w.grownBy w (some rb) := World.grownBy.refl _ _
  clear h hN hc
  go_enter Tryz.func45, Tryz.ntmps45
  have hp205 := pick_any w rb (p) 4 HD.out (by omega) (by decide) (by decide)
  go_wp2_with fail
  refine hp205.mono ?_
  rintro e wp207 ⟨k206, k206lt, rfl, gp208, dp209⟩
  have DP210 := Lib.hid dp209
  have GG211 := Lib.hid (grown_trans hrefl gp208)
  clear hp205 dp209 gp208
  by_cases k206z : k206 = 0
  · subst k206z
    have lt220 := DP210.out.lt
    have ho212 := of_any (wp207.alloc (.cells (topL.map str).toArray 9)) rb (p + 1) wp207.heap.size (0, 0) topL (heap_top wp207 _) (by decide) (by decide) (by omega) (DP210.out.after (below_new wp207 _)) (by omega)
    go_wp2_with fail
    refine ho212.mono ?_
    rintro e wo214 ⟨s213, hs221, rfl, go215, do_216⟩
    have z219 : (⟨s213.toArray⟩ : ByteArray).size ≤ 3 := by rw [ssize]; exact (show ∀ s ∈ topL, s.length ≤ 3 by decide) _ hs221
    have DO217 := Lib.hid do_216
    have GG218 := Lib.hid (grown_trans GG211.out (grown_new go215 lt220))
    clear ho212 do_216 go215 hs221 lt220
    go_wp2_with fail
    go_ret
    exact ⟨⟨s213.toArray⟩, _, rfl, by omega, by omega, GG218.out, DO217.out⟩
  have k206b : ((k206 : Int) == 0) = false := by rw [beq_eq_false_iff_ne]; omega
  by_cases k206y : k206 = 1
  · subst k206y
    have hc231 := dex_one wp207 rb (p + 1) n _ 1 DP210.out (by omega) (HN.out.grown GG211.out) (by omega) (by decide)
    go_wp2_with fail
    refine hc231.mono ?_
    rintro e wf224 ⟨s222, q223, rfl, hs225, hq226, gf227, df228⟩
    have DF229 := Lib.hid df228
    have GG230 := Lib.hid (grown_trans GG211.out gf227)
    clear hc231 df228 gf227
    have l232 : (⟨#[40, 101, 113, 32]⟩ : ByteArray).size = 4 := rfl
    have l233 : (⟨#[32]⟩ : ByteArray).size = 1 := rfl
    have l234 : (⟨#[41]⟩ : ByteArray).size = 1 := rfl
    obtain ⟨t235, z236, e237⟩ := cat2 ⟨#[40, 101, 113, 32]⟩ s222 (by have := l232; have := hs225; omega)
    have z236b : t235.size = (⟨#[40, 101, 113, 32]⟩ : ByteArray).size + (s222 : ByteArray).size := z236
    clear z236
    obtain ⟨t238, z239, e240⟩ := cat2 t235 ⟨#[32]⟩ (by have := z236b; have := l233; omega)
    have z239b : t238.size = (t235 : ByteArray).size + (⟨#[32]⟩ : ByteArray).size := z239
    clear z239
    obtain ⟨t241, z242, e243⟩ := cat2 t238 s222 (by have := z239b; have := hs225; omega)
    have z242b : t241.size = (t238 : ByteArray).size + (s222 : ByteArray).size := z242
    clear z242
    obtain ⟨t244, z245, e246⟩ := cat2 t241 ⟨#[41]⟩ (by have := z242b; have := l234; omega)
    have z245b : t244.size = (t241 : ByteArray).size + (⟨#[41]⟩ : ByteArray).size := z245
    clear z245
    go_wp2_with fail
    go_ret
    exact ⟨t244, _, rfl, by omega, by omega, GG230.out, DF229.out⟩
  have k206d : ((k206 : Int) == 1) = false := by rw [beq_eq_false_iff_ne]; omega
  have hc256 := dex_one wp207 rb (p + 1) n _ 1 DP210.out (by omega) (HN.out.grown GG211.out) (by omega) (by decide)
  go_wp2_with fail
  refine hc256.mono ?_
  rintro e wf249 ⟨s247, q248, rfl, hs250, hq251, gf252, df253⟩
  have DF254 := Lib.hid df253
  have GG255 := Lib.hid (grown_trans GG211.out gf252)
  clear hc256 df253 gf252
  have l257 : (⟨#[40, 101, 113, 32]⟩ : ByteArray).size = 4 := rfl
  have l258 : (⟨#[32]⟩ : ByteArray).size = 1 := rfl
  have l259 : (⟨#[41]⟩ : ByteArray).size = 1 := rfl
  obtain ⟨t260, z261, e262⟩ := cat2 ⟨#[40, 101, 113, 32]⟩ s247 (by have := l257; have := hs250; omega)
  have z261b : t260.size = (⟨#[40, 101, 113, 32]⟩ : ByteArray).size + (s247 : ByteArray).size := z261
  clear z261
  obtain ⟨t263, z264, e265⟩ := cat2 t260 ⟨#[32]⟩ (by have := z261b; have := l258; omega)
  have z264b : t263.size = (t260 : ByteArray).size + (⟨#[32]⟩ : ByteArray).size := z264
  clear z264
  have hc275 := dex_one wf249 rb (q248) n _ 1 DF254.out (by omega) (HN.out.grown GG255.out) (by omega) (by decide)
  go_wp2_with fail
  refine hc275.mono ?_
  rintro e wf268 ⟨s266, q267, rfl, hs269, hq270, gf271, df272⟩
  have DF273 := Lib.hid df272
  have GG274 := Lib.hid (grown_trans GG255.out gf271)
  clear hc275 df272 gf271
  obtain ⟨t276, z277, e278⟩ := cat2 t263 s266 (by have := z264b; have := hs269; omega)
  have z277b : t276.size = (t263 : ByteArray).size + (s266 : ByteArray).size := z277
  clear z277
  obtain ⟨t279, z280, e281⟩ := cat2 t276 ⟨#[41]⟩ (by have := z277b; have := l259; omega)
  have z280b : t279.size = (t276 : ByteArray).size + (⟨#[41]⟩ : ByteArray).size := z280
  clear z280
  go_wp2_with fail
  go_ret
  exact ⟨t279, _, rfl, by omega, by omega, GG274.out, DF273.out⟩

/-- The wider row of names. -/
theorem NmRow.wide {w' : World} {rb n g0 : Nat} {v' : Value} {vs : List Value} (hg : rb < g0) (_ : g0 ≤ w'.heap.size) (hn : vs.length = n) (ho : w'.ownsRow g0 9 1 v' n vs) (h0 : 0 < n) (hv : ∀ u ∈ vs, ∃ s : ByteArray, u = .string s ∧ s.size ≤ 2) : NmRow w' rb v' n := by
  obtain ⟨g, cap, rfl, hb, hlt⟩ := ho.form h0
  refine ⟨g, cap, rfl, by omega, hlt, fun i hi => ?_⟩
  obtain ⟨s, hs, hz⟩ := hv vs[i] (List.getElem_mem (by omega))
  refine ⟨s, ?_, hz⟩
  rw [ho.cellAt i (by omega), List.getElem?_eq_getElem (by omega), hs]

theorem aft_grown {w w' : World} (rb : Nat) (h : After w w') : w.grownBy w' (some rb) := ⟨h.os, h.tape, h.output, h.size, fun k hk _ => h.block k hk⟩
theorem wide_size {W Wa : World} (h : After W Wa) (o : Obj) : W.heap.size ≤ (Wa.alloc o).heap.size := by have := h.size; simp; omega
theorem wide_first {W Wa : World} {va : Value} {ns : List Value} {n : Nat} {o : Obj} (hl : ns.length = n) (hoa : Wa.ownsRow W.heap.size 9 1 va (0 + ns.length) ([] ++ ns)) (hga : (W.alloc o).grownBy Wa (Value.slice (some ⟨W.heap.size, 0, none⟩) 0 0).ownBlock) :
    After W Wa ∧ Wa.ownsRow W.heap.size 9 1 va n ns := by
  refine ⟨Below.grown (After.new W o) hga (by simp) fun g hg => ?_, by simpa [hl] using hoa⟩
  have e : W.heap.size = g := by simpa [Value.ownBlock] using hg
  omega
theorem wide_second {W Wa Wb : World} {va vb : Value} {ns xs : List Value} {n m : Nat} {o : Obj} (h : After W Wa) (ho : (Wa.alloc o).ownsRow W.heap.size 9 1 va n ns) (hob : Wb.ownsRow W.heap.size 9 1 vb m xs) (hgb : (Wa.alloc o).grownBy Wb va.ownBlock) :
    After W Wb ∧ Wb.ownsRow W.heap.size 9 1 vb m xs :=
  ⟨Below.grown (h.alloc o) hgb (wide_size h o) fun g hg => (ho.lt g hg).1, hob⟩

theorem dfo_step (K B M : Nat) (hK : K ≤ 20) (hB28 : 28 ≤ B) (hB : B ≤ 100000) (hM : M ≤ 100000) (hM30 : 30 ≤ M) (t : Int) (ht0 : 0 ≤ t) (ht : t ≤ 100) (ih : FoDr t (K + 1) B M) : FoDr (t + 1) K (2 * B + 20) (2 * M + 40) := by
  intro w rb p n nv d sb h hp hN hn hd
  obtain ⟨b, cap, rfl, hne, hc⟩ := hN.form
  have HC := Lib.hid hc
  have HN := Lib.hid hN
  have HD := Lib.hid h
  have hrefl : w.grownBy w (some rb) := World.grownBy.refl _ _
  clear h hN hc
  have HIH := Lib.hid ih
  clear ih
  by_cases hd0 : d ≤ 0
  · go_enter Tryz.func45, Tryz.ntmps45
    have hp282 := pick_any w rb (p) 4 HD.out (by omega) (by decide) (by decide)
    go_wp2_with fail
    refine hp282.mono ?_
    rintro e wp284 ⟨k283, k283lt, rfl, gp285, dp286⟩
    have DP287 := Lib.hid dp286
    have GG288 := Lib.hid (grown_trans hrefl gp285)
    clear hp282 dp286 gp285
    by_cases k283z : k283 = 0
    · subst k283z
      have lt297 := DP287.out.lt
      have ho289 := of_any (wp284.alloc (.cells (topL.map str).toArray 9)) rb (p + 1) wp284.heap.size (0, 0) topL (heap_top wp284 _) (by decide) (by decide) (by omega) (DP287.out.after (below_new wp284 _)) (by omega)
      go_wp2_with fail
      refine ho289.mono ?_
      rintro e wo291 ⟨s290, hs298, rfl, go292, do_293⟩
      have z296 : (⟨s290.toArray⟩ : ByteArray).size ≤ 3 := by rw [ssize]; exact (show ∀ s ∈ topL, s.length ≤ 3 by decide) _ hs298
      have DO294 := Lib.hid do_293
      have GG295 := Lib.hid (grown_trans GG288.out (grown_new go292 lt297))
      clear ho289 do_293 go292 hs298 lt297
      go_wp2_with fail
      go_ret
      exact ⟨⟨s290.toArray⟩, _, rfl, by omega, by omega, GG295.out, DO294.out⟩
    have k283b : ((k283 : Int) == 0) = false := by rw [beq_eq_false_iff_ne]; omega
    by_cases k283y : k283 = 1
    · subst k283y
      have hc308 := dex_one wp284 rb (p + 1) n _ 1 DP287.out (by omega) (HN.out.grown GG288.out) (by omega) (by decide)
      go_wp2_with fail
      refine hc308.mono ?_
      rintro e wf301 ⟨s299, q300, rfl, hs302, hq303, gf304, df305⟩
      have DF306 := Lib.hid df305
      have GG307 := Lib.hid (grown_trans GG288.out gf304)
      clear hc308 df305 gf304
      have l309 : (⟨#[40, 101, 113, 32]⟩ : ByteArray).size = 4 := rfl
      have l310 : (⟨#[32]⟩ : ByteArray).size = 1 := rfl
      have l311 : (⟨#[41]⟩ : ByteArray).size = 1 := rfl
      obtain ⟨t312, z313, e314⟩ := cat2 ⟨#[40, 101, 113, 32]⟩ s299 (by have := l309; have := hs302; omega)
      have z313b : t312.size = (⟨#[40, 101, 113, 32]⟩ : ByteArray).size + (s299 : ByteArray).size := z313
      clear z313
      obtain ⟨t315, z316, e317⟩ := cat2 t312 ⟨#[32]⟩ (by have := z313b; have := l310; omega)
      have z316b : t315.size = (t312 : ByteArray).size + (⟨#[32]⟩ : ByteArray).size := z316
      clear z316
      obtain ⟨t318, z319, e320⟩ := cat2 t315 s299 (by have := z316b; have := hs302; omega)
      have z319b : t318.size = (t315 : ByteArray).size + (s299 : ByteArray).size := z319
      clear z319
      obtain ⟨t321, z322, e323⟩ := cat2 t318 ⟨#[41]⟩ (by have := z319b; have := l311; omega)
      have z322b : t321.size = (t318 : ByteArray).size + (⟨#[41]⟩ : ByteArray).size := z322
      clear z322
      go_wp2_with fail
      go_ret
      exact ⟨t321, _, rfl, by omega, by omega, GG307.out, DF306.out⟩
    have k283d : ((k283 : Int) == 1) = false := by rw [beq_eq_false_iff_ne]; omega
    have hc333 := dex_one wp284 rb (p + 1) n _ 1 DP287.out (by omega) (HN.out.grown GG288.out) (by omega) (by decide)
    go_wp2_with fail
    refine hc333.mono ?_
    rintro e wf326 ⟨s324, q325, rfl, hs327, hq328, gf329, df330⟩
    have DF331 := Lib.hid df330
    have GG332 := Lib.hid (grown_trans GG288.out gf329)
    clear hc333 df330 gf329
    have l334 : (⟨#[40, 101, 113, 32]⟩ : ByteArray).size = 4 := rfl
    have l335 : (⟨#[32]⟩ : ByteArray).size = 1 := rfl
    have l336 : (⟨#[41]⟩ : ByteArray).size = 1 := rfl
    obtain ⟨t337, z338, e339⟩ := cat2 ⟨#[40, 101, 113, 32]⟩ s324 (by have := l334; have := hs327; omega)
    have z338b : t337.size = (⟨#[40, 101, 113, 32]⟩ : ByteArray).size + (s324 : ByteArray).size := z338
    clear z338
    obtain ⟨t340, z341, e342⟩ := cat2 t337 ⟨#[32]⟩ (by have := z338b; have := l335; omega)
    have z341b : t340.size = (t337 : ByteArray).size + (⟨#[32]⟩ : ByteArray).size := z341
    clear z341
    have hc352 := dex_one wf326 rb (q325) n _ 1 DF331.out (by omega) (HN.out.grown GG332.out) (by omega) (by decide)
    go_wp2_with fail
    refine hc352.mono ?_
    rintro e wf345 ⟨s343, q344, rfl, hs346, hq347, gf348, df349⟩
    have DF350 := Lib.hid df349
    have GG351 := Lib.hid (grown_trans GG332.out gf348)
    clear hc352 df349 gf348
    obtain ⟨t353, z354, e355⟩ := cat2 t340 s343 (by have := z341b; have := hs346; omega)
    have z354b : t353.size = (t340 : ByteArray).size + (s343 : ByteArray).size := z354
    clear z354
    obtain ⟨t356, z357, e358⟩ := cat2 t353 ⟨#[41]⟩ (by have := z354b; have := l336; omega)
    have z357b : t356.size = (t353 : ByteArray).size + (⟨#[41]⟩ : ByteArray).size := z357
    clear z357
    go_wp2_with fail
    go_ret
    exact ⟨t356, _, rfl, by omega, by omega, GG351.out, DF350.out⟩
  have hd0p : 0 < d := by omega
  go_enter Tryz.func45, Tryz.ntmps45
  have hp359 := pick_any w rb (p) 4 HD.out (by omega) (by decide) (by decide)
  go_wp2_with fail
  refine hp359.mono ?_
  rintro e wp361 ⟨k360, k360lt, rfl, gp362, dp363⟩
  have DP364 := Lib.hid dp363
  have GG365 := Lib.hid (grown_trans hrefl gp362)
  clear hp359 dp363 gp362
  by_cases k360z : k360 = 0
  · subst k360z
    have hp366 := pick_any wp361 rb (p + 1) 4 DP364.out (by omega) (by decide) (by decide)
    go_wp2_with fail
    refine hp366.mono ?_
    rintro e wp368 ⟨k367, k367lt, rfl, gp369, dp370⟩
    have DP371 := Lib.hid dp370
    have GG372 := Lib.hid (grown_trans GG365.out gp369)
    clear hp366 dp370 gp369
    by_cases k367z : k367 = 0
    · subst k367z
      have lt381 := DP371.out.lt
      have ho373 := of_any (wp368.alloc (.cells (topL.map str).toArray 9)) rb (p + 1 + 1) wp368.heap.size (0, 0) topL (heap_top wp368 _) (by decide) (by decide) (by omega) (DP371.out.after (below_new wp368 _)) (by omega)
      go_wp2_with fail
      refine ho373.mono ?_
      rintro e wo375 ⟨s374, hs382, rfl, go376, do_377⟩
      have z380 : (⟨s374.toArray⟩ : ByteArray).size ≤ 3 := by rw [ssize]; exact (show ∀ s ∈ topL, s.length ≤ 3 by decide) _ hs382
      have DO378 := Lib.hid do_377
      have GG379 := Lib.hid (grown_trans GG372.out (grown_new go376 lt381))
      clear ho373 do_377 go376 hs382 lt381
      go_wp2_with fail
      go_ret
      exact ⟨⟨s374.toArray⟩, _, rfl, by omega, by omega, GG379.out, DO378.out⟩
    have k367b : ((k367 : Int) == 0) = false := by rw [beq_eq_false_iff_ne]; omega
    by_cases k367y : k367 = 1
    · subst k367y
      have hc392 := dex_one wp368 rb (p + 1 + 1) n _ 1 DP371.out (by omega) (HN.out.grown GG372.out) (by omega) (by decide)
      go_wp2_with fail
      refine hc392.mono ?_
      rintro e wf385 ⟨s383, q384, rfl, hs386, hq387, gf388, df389⟩
      have DF390 := Lib.hid df389
      have GG391 := Lib.hid (grown_trans GG372.out gf388)
      clear hc392 df389 gf388
      have l393 : (⟨#[40, 101, 113, 32]⟩ : ByteArray).size = 4 := rfl
      have l394 : (⟨#[32]⟩ : ByteArray).size = 1 := rfl
      have l395 : (⟨#[41]⟩ : ByteArray).size = 1 := rfl
      obtain ⟨t396, z397, e398⟩ := cat2 ⟨#[40, 101, 113, 32]⟩ s383 (by have := l393; have := hs386; omega)
      have z397b : t396.size = (⟨#[40, 101, 113, 32]⟩ : ByteArray).size + (s383 : ByteArray).size := z397
      clear z397
      obtain ⟨t399, z400, e401⟩ := cat2 t396 ⟨#[32]⟩ (by have := z397b; have := l394; omega)
      have z400b : t399.size = (t396 : ByteArray).size + (⟨#[32]⟩ : ByteArray).size := z400
      clear z400
      obtain ⟨t402, z403, e404⟩ := cat2 t399 s383 (by have := z400b; have := hs386; omega)
      have z403b : t402.size = (t399 : ByteArray).size + (s383 : ByteArray).size := z403
      clear z403
      obtain ⟨t405, z406, e407⟩ := cat2 t402 ⟨#[41]⟩ (by have := z403b; have := l395; omega)
      have z406b : t405.size = (t402 : ByteArray).size + (⟨#[41]⟩ : ByteArray).size := z406
      clear z406
      go_wp2_with fail
      go_ret
      exact ⟨t405, _, rfl, by omega, by omega, GG391.out, DF390.out⟩
    have k367d : ((k367 : Int) == 1) = false := by rw [beq_eq_false_iff_ne]; omega
    have hc417 := dex_one wp368 rb (p + 1 + 1) n _ 1 DP371.out (by omega) (HN.out.grown GG372.out) (by omega) (by decide)
    go_wp2_with fail
    refine hc417.mono ?_
    rintro e wf410 ⟨s408, q409, rfl, hs411, hq412, gf413, df414⟩
    have DF415 := Lib.hid df414
    have GG416 := Lib.hid (grown_trans GG372.out gf413)
    clear hc417 df414 gf413
    have l418 : (⟨#[40, 101, 113, 32]⟩ : ByteArray).size = 4 := rfl
    have l419 : (⟨#[32]⟩ : ByteArray).size = 1 := rfl
    have l420 : (⟨#[41]⟩ : ByteArray).size = 1 := rfl
    obtain ⟨t421, z422, e423⟩ := cat2 ⟨#[40, 101, 113, 32]⟩ s408 (by have := l418; have := hs411; omega)
    have z422b : t421.size = (⟨#[40, 101, 113, 32]⟩ : ByteArray).size + (s408 : ByteArray).size := z422
    clear z422
    obtain ⟨t424, z425, e426⟩ := cat2 t421 ⟨#[32]⟩ (by have := z422b; have := l419; omega)
    have z425b : t424.size = (t421 : ByteArray).size + (⟨#[32]⟩ : ByteArray).size := z425
    clear z425
    have hc436 := dex_one wf410 rb (q409) n _ 1 DF415.out (by omega) (HN.out.grown GG416.out) (by omega) (by decide)
    go_wp2_with fail
    refine hc436.mono ?_
    rintro e wf429 ⟨s427, q428, rfl, hs430, hq431, gf432, df433⟩
    have DF434 := Lib.hid df433
    have GG435 := Lib.hid (grown_trans GG416.out gf432)
    clear hc436 df433 gf432
    obtain ⟨t437, z438, e439⟩ := cat2 t424 s427 (by have := z425b; have := hs430; omega)
    have z438b : t437.size = (t424 : ByteArray).size + (s427 : ByteArray).size := z438
    clear z438
    obtain ⟨t440, z441, e442⟩ := cat2 t437 ⟨#[41]⟩ (by have := z438b; have := l420; omega)
    have z441b : t440.size = (t437 : ByteArray).size + (⟨#[41]⟩ : ByteArray).size := z441
    clear z441
    go_wp2_with fail
    go_ret
    exact ⟨t440, _, rfl, by omega, by omega, GG435.out, DF434.out⟩
  have k360b : ((k360 : Int) == 0) = false := by rw [beq_eq_false_iff_ne]; omega
  clear k360z
  have lt451 := DP364.out.lt
  have ho443 := of_any (wp361.alloc (.cells (xyuL.map str).toArray 9)) rb (p + 1) wp361.heap.size (0, 0) xyuL (heap_top wp361 _) (by decide) (by decide) (by omega) (DP364.out.after (below_new wp361 _)) (by omega)
  go_wp2_with fail
  refine ho443.mono ?_
  rintro e wo445 ⟨s444, hs452, rfl, go446, do_447⟩
  have z450 : (⟨s444.toArray⟩ : ByteArray).size ≤ 1 := by rw [ssize]; exact (show ∀ s ∈ xyuL, s.length ≤ 1 by decide) _ hs452
  have DO448 := Lib.hid do_447
  have GG449 := Lib.hid (grown_trans GG365.out (grown_new go446 lt451))
  clear ho443 do_447 go446 hs452 lt451
  have hrb2 := DO448.out.lt
  obtain ⟨i0, hi0, hz0, hz1, hz2⟩ : ∃ i, (Tryz.prog).info? 9 = some i ∧ i.zero = some (.string ⟨#[]⟩) ∧ i.size = 1 ∧ i.bytes = 16 := ⟨_, rfl, rfl, rfl, rfl⟩
  have hun := Tryz.underlying52
  have hown0 : (wo445.alloc (.cells #[] 9)).ownsRow wo445.heap.size 9 1 (.slice (some ⟨wo445.heap.size, 0, none⟩) 0 0) 0 [] := ⟨rfl, Or.inr ⟨wo445.heap.size, 0, #[], rfl, Nat.le_refl _, heap_new' _ _, Nat.le_refl _, Nat.zero_le _, rfl, rfl⟩⟩
  obtain ⟨ns, hnl, hns, hcells⟩ : ∃ ns : List Value, ns.length = n ∧ (∀ u ∈ ns, ∃ s : ByteArray, u = .string s ∧ s.size ≤ 2) ∧ ∀ j u, ns[j]? = some u → w.cell? ⟨b, j, none⟩ = some u := by
    refine ⟨(List.range n).map fun i => (w.cell? ⟨b, i, none⟩).getD undef, by simp, fun u hu => ?_, fun j u hj => ?_⟩
    · obtain ⟨i, hi, rfl⟩ := List.mem_map.1 hu
      obtain ⟨s, h1, h2⟩ := HC.out i (List.mem_range.1 hi)
      exact ⟨s, by rw [h1]; rfl, h2⟩
    · have hjn : j < n := by
        rcases Nat.lt_or_ge j n with h1 | h1
        · exact h1
        · rw [List.getElem?_eq_none (by simpa using h1)] at hj; cases hj
      obtain ⟨s, h1, h2⟩ := HC.out j hjn
      rw [List.getElem?_map, List.getElem?_range hjn, Option.map_some, h1] at hj
      rw [h1]
      exact hj
  have hsrc : SrcOk (wo445.alloc (.cells #[] 9)) (.slice (some ⟨b, 0, none⟩) n cap) ns := by
    by_cases hn0 : n = 0
    · subst hn0
      exact Or.inl ⟨List.length_eq_zero_iff.1 hnl, _, _, rfl⟩
    · refine Or.inr ⟨⟨b, 0, none⟩, n, cap, rfl, by omega, hnl, fun j u hj => ?_⟩
      have h1 := grown_cell (hcells j u hj) hne GG449.out
      have h2 : (⟨b, 0, none⟩ : Addr).add j = ⟨b, j, none⟩ := by rw [Addr.add_lit]; simp
      rw [h2]
      exact (After.new wo445 _).cell h1
  have h1c : ∀ u ∈ ns, u.oneCell' = true := fun u hu => by obtain ⟨s, rfl, _⟩ := hns u hu; rfl
  have HOWN := Lib.hid hown0
  have HSRC := Lib.hid hsrc
  have H1C := Lib.hid h1c
  have HNS := Lib.hid hns
  have HNL := Lib.hid hnl
  have HM1 : Hid (0 + ns.length ≤ maxLen ∧ (0 + ns.length) * 16 ≤ 140737488355328 ∧ n + 1 ≤ maxLen ∧ (n + 1) * 16 ≤ 140737488355328) := (by show _ ∧ _; unfold maxLen; omega)
  clear hown0 hsrc h1c hns hnl hcells
  go_wp2_with (at_builtin; first
    | (refine wpList_app _ (by rfl) _ _ 52 (by rfl) wo445.heap.size 9 i0 (.string ⟨#[]⟩) 16 hun hi0 hz0 hz1 hz2 rfl _ _ _ (by rfl) HOWN.out _ _ (by rfl) HSRC.out H1C.out HM1.out.1 HM1.out.2.1 (by simp) ?_; intro va Wa hoa hga; have HWA := Lib.hid (wide_first HNL.out hoa hga); have HOC := Lib.hid (World.ownsRow.alloc HWA.out.2 (.cells #[.string ⟨s444.toArray⟩] 9)); have HBC := Lib.hid (wide_size HWA.out.1 (.cells #[.string ⟨s444.toArray⟩] 9)); clear hoa hga)
    | (refine Go.wpList_append_own _ (by rfl) _ _ 52 (by rfl) wo445.heap.size 9 i0 (.string ⟨#[]⟩) 1 16 hun hi0 hz0 hz1 hz2 rfl (by decide) _ _ _ (by rfl) HOC.out ⟨Wa.heap.size, 0, none⟩ 1 1 [.string ⟨s444.toArray⟩] (by rfl) (by rfl) (World.news_of_block (heap_new' Wa _)) (by simp [Value.oneCell']) HM1.out.2.2.1 HM1.out.2.2.2 HBC.out ?_; intro vb Wb hob hgb _; have HWB := Lib.hid (wide_second HWA.out.1 HOC.out hob hgb); clear hob hgb))
  have HNW : Hid (NmRow Wb rb vb (n + 1)) := NmRow.wide hrb2 (by have := HWB.out.1.size; omega) (by simp [HNL.out]) HWB.out.2 (by omega) (fun u hu => by
    rcases List.mem_append.1 hu with h | h
    · exact HNS.out u h
    · exact ⟨_, List.mem_singleton.1 h, by omega⟩)
  have HDB := Lib.hid (DO448.out.after HWB.out.1)
  have HGB := Lib.hid (grown_trans GG449.out (aft_grown rb HWB.out.1))
  clear hi0 hz0 hz1 hz2 hun hrb2
  have hxr : Wb.grownBy Wb (some rb) := World.grownBy.refl _ _
  have hp453 := pick_any Wb rb (p + 1 + 1) 3 HDB.out (by omega) (by decide) (by decide)
  go_wp2_with fail
  refine hp453.mono ?_
  rintro e wp455 ⟨k454, k454lt, rfl, gp456, dp457⟩
  have DP458 := Lib.hid dp457
  have GG459 := Lib.hid (grown_trans HGB.out gp456)
  have GX460 := Lib.hid (grown_trans hxr gp456)
  clear hp453 dp457 gp456
  obtain ⟨m, hm⟩ : ∃ m : Nat, ((m : Nat) : Int) = 1 + (k454 : Int) := ⟨1 + k454, by simp⟩
  have hde := dec_any 0 m wp455 (by have : (10:Nat) ^ (0 + 1) = 10 := rfl; omega) (by decide)
  rw [hm] at hde
  go_wp2_with fail
  refine hde.mono ?_
  rintro e Wd ⟨rfl, hdd⟩
  have xl := Tm.decs_len (0 + 1) m
  generalize Tm.decs (0 + 1) m = xd at *
  have zxd : (⟨xd.toArray⟩ : ByteArray).size ≤ 1 := by rw [ssize]; omega
  have HDD := Lib.hid (DP458.out.after hdd)
  have HGD := Lib.hid (grown_trans GG459.out (aft_grown rb hdd))
  have HXD := Lib.hid (grown_trans GX460.out (aft_grown rb hdd))
  clear hde hdd hm
  have hp462 := pick_any Wd rb (p + 1 + 1 + 1) 6 HDD.out (by omega) (by decide) (by decide)
  go_wp2_with fail
  refine hp462.mono ?_
  rintro e wp464 ⟨k463, k463lt, rfl, gp465, dp466⟩
  have DP467 := Lib.hid dp466
  have GG468 := Lib.hid (grown_trans HGD.out gp465)
  have GX469 := Lib.hid (grown_trans HXD.out gp465)
  clear hp462 dp466 gp465

  by_cases c0 : k463 = 0
  · subst c0
    have hc479 := HIH.out wp464 rb (p + 1 + 1 + 1 + 1) n _ (d - 1) sb DP467.out (by omega) (HN.out.grown GG468.out) (by omega) (by omega)
    go_wp2_with fail
    refine hc479.mono ?_
    rintro e wf472 ⟨s470, q471, rfl, hs473, hq474, gf475, df476⟩
    have DF477 := Lib.hid df476
    have GG478 := Lib.hid (grown_trans GG468.out gf475)
    have GX480 := Lib.hid (grown_trans GX469.out gf475)
    clear hc479 df476 gf475
    have l481 : (⟨#[40, 97, 110, 100, 32]⟩ : ByteArray).size = 5 := rfl
    have l482 : (⟨#[32]⟩ : ByteArray).size = 1 := rfl
    have l483 : (⟨#[41]⟩ : ByteArray).size = 1 := rfl
    obtain ⟨t484, z485, e486⟩ := cat2 ⟨#[40, 97, 110, 100, 32]⟩ s470 (by have := l481; have := hs473; omega)
    have z485b : t484.size = (⟨#[40, 97, 110, 100, 32]⟩ : ByteArray).size + (s470 : ByteArray).size := z485
    clear z485
    obtain ⟨t487, z488, e489⟩ := cat2 t484 ⟨#[32]⟩ (by have := z485b; have := l482; omega)
    have z488b : t487.size = (t484 : ByteArray).size + (⟨#[32]⟩ : ByteArray).size := z488
    clear z488
    have hc499 := HIH.out wf472 rb (q471) n _ (d - 1) sb DF477.out (by omega) (HN.out.grown GG478.out) (by omega) (by omega)
    go_wp2_with fail
    refine hc499.mono ?_
    rintro e wf492 ⟨s490, q491, rfl, hs493, hq494, gf495, df496⟩
    have DF497 := Lib.hid df496
    have GG498 := Lib.hid (grown_trans GG478.out gf495)
    have GX500 := Lib.hid (grown_trans GX480.out gf495)
    clear hc499 df496 gf495
    obtain ⟨t501, z502, e503⟩ := cat2 t487 s490 (by have := z488b; have := hs493; omega)
    have z502b : t501.size = (t487 : ByteArray).size + (s490 : ByteArray).size := z502
    clear z502
    obtain ⟨t504, z505, e506⟩ := cat2 t501 ⟨#[41]⟩ (by have := z502b; have := l483; omega)
    have z505b : t504.size = (t501 : ByteArray).size + (⟨#[41]⟩ : ByteArray).size := z505
    clear z505
    go_wp2_with fail
    go_ret
    exact ⟨t504, _, rfl, by omega, by omega, GG498.out, DF497.out⟩
  have c0b : ((k463 : Int) == 0) = false := by rw [beq_eq_false_iff_ne]; omega
  by_cases c1 : k463 = 1
  · subst c1
    have hc516 := HIH.out wp464 rb (p + 1 + 1 + 1 + 1) n _ (d - 1) sb DP467.out (by omega) (HN.out.grown GG468.out) (by omega) (by omega)
    go_wp2_with fail
    refine hc516.mono ?_
    rintro e wf509 ⟨s507, q508, rfl, hs510, hq511, gf512, df513⟩
    have DF514 := Lib.hid df513
    have GG515 := Lib.hid (grown_trans GG468.out gf512)
    have GX517 := Lib.hid (grown_trans GX469.out gf512)
    clear hc516 df513 gf512
    have l518 : (⟨#[40, 111, 114, 32]⟩ : ByteArray).size = 4 := rfl
    have l519 : (⟨#[32]⟩ : ByteArray).size = 1 := rfl
    have l520 : (⟨#[41]⟩ : ByteArray).size = 1 := rfl
    obtain ⟨t521, z522, e523⟩ := cat2 ⟨#[40, 111, 114, 32]⟩ s507 (by have := l518; have := hs510; omega)
    have z522b : t521.size = (⟨#[40, 111, 114, 32]⟩ : ByteArray).size + (s507 : ByteArray).size := z522
    clear z522
    obtain ⟨t524, z525, e526⟩ := cat2 t521 ⟨#[32]⟩ (by have := z522b; have := l519; omega)
    have z525b : t524.size = (t521 : ByteArray).size + (⟨#[32]⟩ : ByteArray).size := z525
    clear z525
    have hc536 := HIH.out wf509 rb (q508) n _ (d - 1) sb DF514.out (by omega) (HN.out.grown GG515.out) (by omega) (by omega)
    go_wp2_with fail
    refine hc536.mono ?_
    rintro e wf529 ⟨s527, q528, rfl, hs530, hq531, gf532, df533⟩
    have DF534 := Lib.hid df533
    have GG535 := Lib.hid (grown_trans GG515.out gf532)
    have GX537 := Lib.hid (grown_trans GX517.out gf532)
    clear hc536 df533 gf532
    obtain ⟨t538, z539, e540⟩ := cat2 t524 s527 (by have := z525b; have := hs530; omega)
    have z539b : t538.size = (t524 : ByteArray).size + (s527 : ByteArray).size := z539
    clear z539
    obtain ⟨t541, z542, e543⟩ := cat2 t538 ⟨#[41]⟩ (by have := z539b; have := l520; omega)
    have z542b : t541.size = (t538 : ByteArray).size + (⟨#[41]⟩ : ByteArray).size := z542
    clear z542
    go_wp2_with fail
    go_ret
    exact ⟨t541, _, rfl, by omega, by omega, GG535.out, DF534.out⟩
  have c1b : ((k463 : Int) == 1) = false := by rw [beq_eq_false_iff_ne]; omega
  by_cases c2 : k463 = 2
  · subst c2
    have l544 : (⟨#[40, 101, 120, 32]⟩ : ByteArray).size = 4 := rfl
    have l545 : (⟨#[32]⟩ : ByteArray).size = 1 := rfl
    have l546 : (⟨#[41]⟩ : ByteArray).size = 1 := rfl
    obtain ⟨t547, z548, e549⟩ := cat2 ⟨#[40, 101, 120, 32]⟩ ⟨s444.toArray⟩ (by have := l544; have := z450; omega)
    have z548b : t547.size = (⟨#[40, 101, 120, 32]⟩ : ByteArray).size + (⟨s444.toArray⟩ : ByteArray).size := z548
    clear z548
    obtain ⟨t550, z551, e552⟩ := cat2 t547 ⟨#[32]⟩ (by have := z548b; have := l545; omega)
    have z551b : t550.size = (t547 : ByteArray).size + (⟨#[32]⟩ : ByteArray).size := z551
    clear z551
    obtain ⟨t553, z554, e555⟩ := cat2 t550 ⟨xd.toArray⟩ (by have := z551b; have := zxd; omega)
    have z554b : t553.size = (t550 : ByteArray).size + (⟨xd.toArray⟩ : ByteArray).size := z554
    clear z554
    obtain ⟨t556, z557, e558⟩ := cat2 t553 ⟨#[32]⟩ (by have := z554b; have := l545; omega)
    have z557b : t556.size = (t553 : ByteArray).size + (⟨#[32]⟩ : ByteArray).size := z557
    clear z557
    have hc568 := HIH.out wp464 rb (p + 1 + 1 + 1 + 1) (n + 1) _ (d - 1) sb DP467.out (by omega) (HNW.out.grown GX469.out) (by omega) (by omega)
    go_wp2_with fail
    refine hc568.mono ?_
    rintro e wf561 ⟨s559, q560, rfl, hs562, hq563, gf564, df565⟩
    have DF566 := Lib.hid df565
    have GG567 := Lib.hid (grown_trans GG468.out gf564)
    have GX569 := Lib.hid (grown_trans GX469.out gf564)
    clear hc568 df565 gf564
    obtain ⟨t570, z571, e572⟩ := cat2 t556 s559 (by have := z557b; have := hs562; omega)
    have z571b : t570.size = (t556 : ByteArray).size + (s559 : ByteArray).size := z571
    clear z571
    obtain ⟨t573, z574, e575⟩ := cat2 t570 ⟨#[41]⟩ (by have := z571b; have := l546; omega)
    have z574b : t573.size = (t570 : ByteArray).size + (⟨#[41]⟩ : ByteArray).size := z574
    clear z574
    go_wp2_with fail
    go_ret
    exact ⟨t573, _, rfl, by omega, by omega, GG567.out, DF566.out⟩
  have c2b : ((k463 : Int) == 2) = false := by rw [beq_eq_false_iff_ne]; omega
  cases sb with
  | true =>
    have hc585 := HIH.out wp464 rb (p + 1 + 1 + 1 + 1) n _ (d - 1) true DP467.out (by omega) (HN.out.grown GG468.out) (by omega) (by omega)
    go_wp2_with fail
    refine hc585.mono ?_
    rintro e wf578 ⟨s576, q577, rfl, hs579, hq580, gf581, df582⟩
    have DF583 := Lib.hid df582
    have GG584 := Lib.hid (grown_trans GG468.out gf581)
    have GX586 := Lib.hid (grown_trans GX469.out gf581)
    clear hc585 df582 gf581
    have l587 : (⟨#[40, 111, 114, 32]⟩ : ByteArray).size = 4 := rfl
    have l588 : (⟨#[32, 116, 111, 112, 41]⟩ : ByteArray).size = 5 := rfl
    obtain ⟨t589, z590, e591⟩ := cat2 ⟨#[40, 111, 114, 32]⟩ s576 (by have := l587; have := hs579; omega)
    have z590b : t589.size = (⟨#[40, 111, 114, 32]⟩ : ByteArray).size + (s576 : ByteArray).size := z590
    clear z590
    obtain ⟨t592, z593, e594⟩ := cat2 t589 ⟨#[32, 116, 111, 112, 41]⟩ (by have := z590b; have := l588; omega)
    have z593b : t592.size = (t589 : ByteArray).size + (⟨#[32, 116, 111, 112, 41]⟩ : ByteArray).size := z593
    clear z593
    go_wp2_with fail
    go_ret
    exact ⟨t592, _, rfl, by omega, by omega, GG584.out, DF583.out⟩
  | false =>
    have hp595 := pick_any wp464 rb (p + 1 + 1 + 1 + 1) 2 DP467.out (by omega) (by decide) (by decide)
    go_wp2_with fail
    refine hp595.mono ?_
    rintro e wp597 ⟨k596, k596lt, rfl, gp598, dp599⟩
    have DP600 := Lib.hid dp599
    have GG601 := Lib.hid (grown_trans GG468.out gp598)
    have GX602 := Lib.hid (grown_trans GX469.out gp598)
    clear hp595 dp599 gp598
    by_cases k596z : k596 = 0
    · subst k596z
      have hc612 := HIH.out wp597 rb (p + 1 + 1 + 1 + 1 + 1) n _ (d - 1) true DP600.out (by omega) (HN.out.grown GG601.out) (by omega) (by omega)
      go_wp2_with fail
      refine hc612.mono ?_
      rintro e wf605 ⟨s603, q604, rfl, hs606, hq607, gf608, df609⟩
      have DF610 := Lib.hid df609
      have GG611 := Lib.hid (grown_trans GG601.out gf608)
      have GX613 := Lib.hid (grown_trans GX602.out gf608)
      clear hc612 df609 gf608
      have l614 : (⟨#[40, 105, 109, 112, 32]⟩ : ByteArray).size = 5 := rfl
      have l615 : (⟨#[32]⟩ : ByteArray).size = 1 := rfl
      have l616 : (⟨#[41]⟩ : ByteArray).size = 1 := rfl
      obtain ⟨t617, z618, e619⟩ := cat2 ⟨#[40, 105, 109, 112, 32]⟩ s603 (by have := l614; have := hs606; omega)
      have z618b : t617.size = (⟨#[40, 105, 109, 112, 32]⟩ : ByteArray).size + (s603 : ByteArray).size := z618
      clear z618
      obtain ⟨t620, z621, e622⟩ := cat2 t617 ⟨#[32]⟩ (by have := z618b; have := l615; omega)
      have z621b : t620.size = (t617 : ByteArray).size + (⟨#[32]⟩ : ByteArray).size := z621
      clear z621
      have hc632 := HIH.out wf605 rb (q604) n _ (d - 1) false DF610.out (by omega) (HN.out.grown GG611.out) (by omega) (by omega)
      go_wp2_with fail
      refine hc632.mono ?_
      rintro e wf625 ⟨s623, q624, rfl, hs626, hq627, gf628, df629⟩
      have DF630 := Lib.hid df629
      have GG631 := Lib.hid (grown_trans GG611.out gf628)
      have GX633 := Lib.hid (grown_trans GX613.out gf628)
      clear hc632 df629 gf628
      obtain ⟨t634, z635, e636⟩ := cat2 t620 s623 (by have := z621b; have := hs626; omega)
      have z635b : t634.size = (t620 : ByteArray).size + (s623 : ByteArray).size := z635
      clear z635
      obtain ⟨t637, z638, e639⟩ := cat2 t634 ⟨#[41]⟩ (by have := z635b; have := l616; omega)
      have z638b : t637.size = (t634 : ByteArray).size + (⟨#[41]⟩ : ByteArray).size := z638
      clear z638
      go_wp2_with fail
      go_ret
      exact ⟨t637, _, rfl, by omega, by omega, GG631.out, DF630.out⟩
    have k596b : ((k596 : Int) == 0) = false := by rw [beq_eq_false_iff_ne]; omega
    have l640 : (⟨#[40, 97, 108, 108, 32]⟩ : ByteArray).size = 5 := rfl
    have l641 : (⟨#[32]⟩ : ByteArray).size = 1 := rfl
    have l642 : (⟨#[41]⟩ : ByteArray).size = 1 := rfl
    obtain ⟨t643, z644, e645⟩ := cat2 ⟨#[40, 97, 108, 108, 32]⟩ ⟨s444.toArray⟩ (by have := l640; have := z450; omega)
    have z644b : t643.size = (⟨#[40, 97, 108, 108, 32]⟩ : ByteArray).size + (⟨s444.toArray⟩ : ByteArray).size := z644
    clear z644
    obtain ⟨t646, z647, e648⟩ := cat2 t643 ⟨#[32]⟩ (by have := z644b; have := l641; omega)
    have z647b : t646.size = (t643 : ByteArray).size + (⟨#[32]⟩ : ByteArray).size := z647
    clear z647
    obtain ⟨t649, z650, e651⟩ := cat2 t646 ⟨xd.toArray⟩ (by have := z647b; have := zxd; omega)
    have z650b : t649.size = (t646 : ByteArray).size + (⟨xd.toArray⟩ : ByteArray).size := z650
    clear z650
    obtain ⟨t652, z653, e654⟩ := cat2 t649 ⟨#[32]⟩ (by have := z650b; have := l641; omega)
    have z653b : t652.size = (t649 : ByteArray).size + (⟨#[32]⟩ : ByteArray).size := z653
    clear z653
    have hc664 := HIH.out wp597 rb (p + 1 + 1 + 1 + 1 + 1) (n + 1) _ (d - 1) false DP600.out (by omega) (HNW.out.grown GX602.out) (by omega) (by omega)
    go_wp2_with fail
    refine hc664.mono ?_
    rintro e wf657 ⟨s655, q656, rfl, hs658, hq659, gf660, df661⟩
    have DF662 := Lib.hid df661
    have GG663 := Lib.hid (grown_trans GG601.out gf660)
    have GX665 := Lib.hid (grown_trans GX602.out gf660)
    clear hc664 df661 gf660
    obtain ⟨t666, z667, e668⟩ := cat2 t652 s655 (by have := z653b; have := hs658; omega)
    have z667b : t666.size = (t652 : ByteArray).size + (s655 : ByteArray).size := z667
    clear z667
    obtain ⟨t669, z670, e671⟩ := cat2 t666 ⟨#[41]⟩ (by have := z667b; have := l642; omega)
    have z670b : t669.size = (t666 : ByteArray).size + (⟨#[41]⟩ : ByteArray).size := z670
    clear z670
    go_wp2_with fail
    go_ret
    exact ⟨t669, _, rfl, by omega, by omega, GG663.out, DF662.out⟩

theorem dfo_two (K : Nat) (hK : K ≤ 18) : FoDr 2 K 172 240 :=
  dfo_step K 76 100 (by omega) (by decide) (by decide) (by decide) (by decide) 1 (by decide) (by decide) (dfo_step (K + 1) 28 30 (by omega) (by decide) (by decide) (by decide) (by decide) 0 (by decide) (by decide) (fun w rb p n nv d sb h hp hN hn hd => dfo_leaf w rb p n nv d sb h hp hN (by omega) hd))
theorem dfo_three (K : Nat) (hK : K ≤ 17) : FoDr 3 K 364 520 :=
  dfo_step K 172 240 (by omega) (by decide) (by decide) (by decide) (by decide) 2 (by decide) (by decide) (dfo_two (K + 1) (by omega))

end Go.Proofs.YtdjoafnohkmneaaGreatDoor

namespace Go.Proofs.YtdjoafnohkmneaaGreatDoor
open Go.RowKit

set_option maxHeartbeats 4000000
set_option maxRecDepth 100000
theorem NmRow.lit {w : World} {rb : Nat} (L : List (List UInt8)) (h : w.heap.size > rb) (hL : ∀ s ∈ L, s.length ≤ 2) : NmRow (w.alloc (.cells (L.map str).toArray 9)) rb (.slice (some ⟨w.heap.size, 0, none⟩) L.length L.length) L.length := by
  refine ⟨w.heap.size, _, rfl, by omega, by simp, fun i hi => ⟨⟨(L[i]).toArray⟩, ?_, by rw [ssize]; exact hL _ (List.getElem_mem hi)⟩⟩
  rw [cell_of_heap (i := i) (heap_new' w _)]
  simp [hi]

def oddTail (rb : Nat) : Nat := rb
theorem dodd_fo (w : World) (rb p : Nat) (h : Dr w rb p) (hp : p ≤ 800000) : Calls Tryz.prog 42 #[.pointer (some ⟨rb, 0, none⟩)] w (StrPost w rb p 364 530) := by
  have HD := Lib.hid h
  have hrefl : w.grownBy w (some rb) := World.grownBy.refl _ _
  clear h
  go_enter Tryz.func42, Tryz.ntmps42
  have hp672 := pick_any w rb (p) 12 HD.out (by omega) (by decide) (by decide)
  go_wp2_with fail
  refine hp672.mono ?_
  rintro e wp674 ⟨k673, k673lt, rfl, gp675, dp676⟩
  have DP677 := Lib.hid dp676
  have GG678 := Lib.hid (grown_trans hrefl gp675)
  clear hp672 dp676 gp675
  by_cases k673z : k673 = 0
  · subst k673z
    have lt687 := DP677.out.lt
    have ho679 := of_any (wp674.alloc (.cells (oddLf.map str).toArray 9)) rb (p + 1) wp674.heap.size (0, 0) oddLf (heap_top wp674 _) (by decide) (by decide) (by omega) (DP677.out.after (below_new wp674 _)) (by omega)
    go_wp2_with fail
    refine ho679.mono ?_
    rintro e wo681 ⟨s680, hs688, rfl, go682, do_683⟩
    have z686 : (⟨s680.toArray⟩ : ByteArray).size ≤ 23 := by rw [ssize]; exact (show ∀ s ∈ oddLf, s.length ≤ 23 by decide) _ hs688
    have DO684 := Lib.hid do_683
    have GG685 := Lib.hid (grown_trans GG678.out (grown_new go682 lt687))
    clear ho679 do_683 go682 hs688 lt687
    go_wp2_with fail
    go_ret
    exact ⟨⟨s680.toArray⟩, _, rfl, by omega, by omega, GG685.out, DO684.out⟩
  have k673b : ((k673 : Int) == 0) = false := by rw [beq_eq_false_iff_ne]; omega
  have hlt := DP677.out.lt
  have HNR : Hid (NmRow (wp674.alloc (.cells #[] 9)) rb (.slice (some ⟨wp674.heap.size, 0, none⟩) 0 0) 0) := NmRow.lit (w := wp674) [] hlt (by simp)
  have HDA := Lib.hid (DP677.out.after (below_new wp674 (.cells #[] 9)))
  have HGA := Lib.hid (grown_trans GG678.out (aft_grown rb (After.new wp674 (.cells #[] 9))))
  clear hlt
  have hxr : (wp674.alloc (.cells #[] 9)).grownBy (wp674.alloc (.cells #[] 9)) (some rb) := World.grownBy.refl _ _
  have hp689 := pick_any (wp674.alloc (.cells #[] 9)) rb (p + 1) 3 HDA.out (by omega) (by decide) (by decide)
  go_wp2_with fail
  refine hp689.mono ?_
  rintro e wp691 ⟨k690, k690lt, rfl, gp692, dp693⟩
  have DP694 := Lib.hid dp693
  have GG695 := Lib.hid (grown_trans HGA.out gp692)
  have GX696 := Lib.hid (grown_trans hxr gp692)
  clear hp689 dp693 gp692
  obtain ⟨bb, hbb⟩ : ∃ bb, bb = ((k690 : Int) == 0) := ⟨_, rfl⟩
  have hf := dfo_three 0 (by decide) wp691 rb (p + 1 + 1) 0 _ 3 bb DP694.out (by omega) (HNR.out.grown GX696.out) (Nat.le_refl _) (by decide)
  rw [hbb] at hf
  clear hbb
  go_wp2_with fail
  refine hf.mono ?_
  rintro e wz ⟨sz, qz, rfl, hsz, hqz, gz, dz⟩
  have HDZ := Lib.hid dz
  clear hf dz
  go_wp2_with fail
  go_ret
  exact ⟨sz, _, rfl, by omega, by omega, grown_trans GG695.out gz, HDZ.out⟩

theorem draw_fvalid (w : World) (v : Value) (n : Nat) (h : CodeArg w v n) : Calls Tryz.prog 16 #[v] w (DrawPost w) := by
    have hopen := open_any w v n h
    clear h
    go_enter Tryz.func16, Tryz.ntmps16
    go_wp2_with fail
    refine hopen.mono ?_
    rintro e w1 ⟨rb, rfl, hr, ha, hd⟩
    have hodd := dodd_fo w1 rb 0 hd (by omega)
    clear hopen hd
    go_wp2_with fail
    refine hodd.mono ?_
    rintro e w2 ⟨s, q, rfl, hs, hq, hg, hd⟩
    clear hodd hd
    go_wp2_with fail
    go_ret
    exact ⟨s, rfl, by omega, after_open ha hg hr⟩
end Go.Proofs.YtdjoafnohkmneaaGreatDoor

namespace Go.Proofs.YtdjoafnohkmneaaGreatDoor
open Go.RowKit

set_option maxHeartbeats 4000000
set_option maxRecDepth 100000

def xzL : List (List UInt8) := [[120], [122, 50]]
def xyL : List (List UInt8) := [[120], [121]]

theorem draw_fclosed (w : World) (v : Value) (n : Nat) (h : CodeArg w v n) : Calls Tryz.prog 20 #[v] w (DrawPost w) := by
  have hopen := open_any w v n h
  clear h
  go_enter Tryz.func20, Tryz.ntmps20
  go_wp2_with fail
  refine hopen.mono ?_
  rintro e w1 ⟨rb, rfl, hr, ha, hd⟩
  have hp1 := pick_any w1 rb 0 4 hd (by omega) (by decide) (by decide)
  have HA := Lib.hid ha
  clear hopen hd ha
  go_wp2_with fail
  refine hp1.mono ?_
  rintro e w2 ⟨k, hk, rfl, hg2, hd2⟩
  have HG2 := Lib.hid hg2
  have HD2 := Lib.hid hd2
  clear hp1 hg2 hd2
  by_cases hk0 : k = 0
  · subst hk0
    have hlt := HD2.out.lt
    have hf := dfo_two 2 (by decide) (w2.alloc (.cells (xzL.map str).toArray 9)) rb (0 + 1) 2 _ 2 false (HD2.out.after (below_new w2 _)) (by omega) (NmRow.lit xzL hlt (by decide)) (by decide) (by decide)
    have HGA := Lib.hid (grown_trans HG2.out (aft_grown rb (After.new w2 (.cells (xzL.map str).toArray 9))))
    clear hlt
    go_wp2_with fail
    refine hf.mono ?_
    rintro e w3 ⟨s, q, rfl, hs, hq, hg, hd⟩
    have HG3 := Lib.hid hg
    clear hf hg hd
    go_wp2_with fail
    go_ret
    exact ⟨s, rfl, by omega, after_open HA.out (grown_trans HGA.out HG3.out) hr⟩
  · have hk0b : ((k : Int) == 0) = false := by rw [beq_eq_false_iff_ne]; omega
    have hodd := dodd_fo w2 rb (0 + 1) HD2.out (by omega)
    clear hk0
    go_wp2_with fail
    refine hodd.mono ?_
    rintro e w3 ⟨s, q, rfl, hs, hq, hg, hd⟩
    have HG3 := Lib.hid hg
    clear hodd hg hd
    go_wp2_with fail
    go_ret
    exact ⟨s, rfl, by omega, after_open HA.out (grown_trans HG2.out HG3.out) hr⟩

theorem name_draw (w : World) (rb p : Nat) (h : Dr w rb p) (hp : p ≤ 900000) : Calls Tryz.prog 46 #[.pointer (some ⟨rb, 0, none⟩)] w (StrPost w rb p 5 2) := by
  have hp1 := pick_any w rb p 16 h (by omega) (by decide) (by decide)
  clear h
  go_enter Tryz.func46, Tryz.ntmps46
  go_wp2_with fail
  refine hp1.mono ?_
  rintro e w1 ⟨k, hk, rfl, hg1, hd1⟩
  have hlt := hd1.lt
  have HD1 := Lib.hid hd1
  have HG1 := Lib.hid hg1
  clear hd1 hp1 hg1
  by_cases hk0 : k = 0
  · subst hk0
    have hof := of_any (w1.alloc (.cells (oddN.map str).toArray 9)) rb (p + 1) w1.heap.size (0, 0) oddN (heap_top w1 _) (by decide) (by decide) (by omega) (HD1.out.after (below_new w1 _)) (by omega)
    go_wp2_with fail
    refine hof.mono ?_
    rintro e w2 ⟨s, hs, rfl, hg2, hd2⟩
    have HD := Lib.hid hd2
    have HG2 := Lib.hid (grown_new hg2 hlt)
    have HS := Lib.hid hs
    clear hd2 hof hs hg2
    go_wp2_with fail
    go_ret
    exact ⟨⟨s.toArray⟩, _, rfl, by rw [ssize]; exact (show ∀ s ∈ oddN, s.length ≤ 5 by decide) s HS.out, by omega, grown_trans HG1.out HG2.out, HD.out⟩
  · have hk0b : ((k : Int) == 0) = false := by rw [beq_eq_false_iff_ne]; omega
    have hof := of_any (w1.alloc (.cells (nameL.map str).toArray 9)) rb (p + 1) w1.heap.size (0, 0) nameL (heap_top w1 _) (by decide) (by decide) (by omega) (HD1.out.after (below_new w1 _)) (by omega)
    clear hk0
    go_wp2_with fail
    refine hof.mono ?_
    rintro e w2 ⟨s, hs, rfl, hg2, hd2⟩
    have HD := Lib.hid hd2
    have HG2 := Lib.hid (grown_new hg2 hlt)
    have HS := Lib.hid hs
    clear hd2 hof hs hg2
    go_wp2_with fail
    go_ret
    exact ⟨⟨s.toArray⟩, _, rfl, by rw [ssize]; exact (show ∀ s ∈ nameL, s.length ≤ 5 by decide) s HS.out, by omega, grown_trans HG1.out HG2.out, HD.out⟩

/-- A formula, a name, a number. -/
def DrPutPost (w : World) (e : Ending) (w' : World) : Prop := ∃ (s x : ByteArray) (m : Int), e = .returned (.tuple #[.string s, .string x, .int .i64 m]) ∧ s.size ≤ 100000 ∧ x.size ≤ 100000 ∧ After w w'

theorem draw_fput (w : World) (v : Value) (n : Nat) (h : CodeArg w v n) : Calls Tryz.prog 22 #[v] w (DrPutPost w) := by
  have hopen := open_any w v n h
  clear h
  go_enter Tryz.func22, Tryz.ntmps22
  go_wp2_with fail
  refine hopen.mono ?_
  rintro e w1 ⟨rb, rfl, hr, ha, hd⟩
  have HA := Lib.hid ha
  have HD1 := Lib.hid hd
  have hlt := hd.lt
  have hf := dfo_two 2 (by decide) (w1.alloc (.cells (xyL.map str).toArray 9)) rb 0 2 _ 2 false (HD1.out.after (below_new w1 _)) (by omega) (NmRow.lit xyL hlt (by decide)) (by decide) (by decide)
  have HGA := Lib.hid (aft_grown rb (After.new w1 (.cells (xyL.map str).toArray 9)))
  clear hopen hd ha hlt
  go_wp2_with fail
  refine hf.mono ?_
  rintro e w2 ⟨s, q, rfl, hs, hq, hg2, hd2⟩
  have HD2 := Lib.hid hd2
  have HG2 := Lib.hid (grown_trans HGA.out hg2)
  have hp2 := pick_any w2 rb q 12 hd2 (by omega) (by decide) (by decide)
  clear hf hd2 hg2
  go_wp2_with fail
  refine hp2.mono ?_
  rintro e w3 ⟨k, hk, rfl, hg3, hd3⟩
  have HD3 := Lib.hid hd3
  have HG3 := Lib.hid (grown_trans HG2.out hg3)
  clear hp2 hg3 hd3
  by_cases hk0 : k = 0
  · subst hk0
    have hodd := dodd_fo w3 rb (q + 1) HD3.out (by omega)
    go_wp2_with fail
    refine hodd.mono ?_
    rintro e w4 ⟨s4, q4, rfl, hs4, hq4, hg4, hd4⟩
    have HG4 := Lib.hid (grown_trans HG3.out hg4)
    have hnm := name_draw w4 rb q4 hd4 (by omega)
    clear hodd hg4 hd4
    go_wp2_with fail
    refine hnm.mono ?_
    rintro e w5 ⟨s5, q5, rfl, hs5, hq5, hg5, hd5⟩
    have HG5 := Lib.hid (grown_trans HG4.out hg5)
    have hpa := pick_any w5 rb q5 6 hd5 (by omega) (by decide) (by decide)
    clear hnm hg5 hd5
    go_wp2_with fail
    refine hpa.mono ?_
    rintro e w6 ⟨ka, hka, rfl, hg6, hd6⟩
    have HG6 := Lib.hid (grown_trans HG5.out hg6)
    have hpb := pick_any w6 rb (q5 + 1) 20 hd6 (by omega) (by decide) (by decide)
    clear hpa hg6 hd6
    go_wp2_with fail
    refine hpb.mono ?_
    rintro e w7 ⟨kb, hkb, rfl, hg7, hd7⟩
    have HG7 := Lib.hid (grown_trans HG6.out hg7)
    have hpc := pick_any w7 rb (q5 + 1 + 1) 20 hd7 (by omega) (by decide) (by decide)
    clear hpb hg7 hd7
    go_wp2_with fail
    refine hpc.mono ?_
    rintro e w8 ⟨kc, hkc, rfl, hg8, hd8⟩
    have HG8 := Lib.hid (grown_trans HG7.out hg8)
    clear hpc hg8 hd8
    go_wp2_with fail
    go_ret3
    exact ⟨s4, s5, _, rfl, by omega, by omega, after_open HA.out HG8.out hr⟩
  · have hk0b : ((k : Int) == 0) = false := by rw [beq_eq_false_iff_ne]; omega
    have hnm := name_draw w3 rb (q + 1) HD3.out (by omega)
    clear hk0
    go_wp2_with fail
    refine hnm.mono ?_
    rintro e w5 ⟨s5, q5, rfl, hs5, hq5, hg5, hd5⟩
    have HG5 := Lib.hid (grown_trans HG3.out hg5)
    have hpa := pick_any w5 rb q5 6 hd5 (by omega) (by decide) (by decide)
    clear hnm hg5 hd5
    go_wp2_with fail
    refine hpa.mono ?_
    rintro e w6 ⟨ka, hka, rfl, hg6, hd6⟩
    have HG6 := Lib.hid (grown_trans HG5.out hg6)
    have hpb := pick_any w6 rb (q5 + 1) 20 hd6 (by omega) (by decide) (by decide)
    clear hpa hg6 hd6
    go_wp2_with fail
    refine hpb.mono ?_
    rintro e w7 ⟨kb, hkb, rfl, hg7, hd7⟩
    have HG7 := Lib.hid (grown_trans HG6.out hg7)
    have hpc := pick_any w7 rb (q5 + 1 + 1) 20 hd7 (by omega) (by decide) (by decide)
    clear hpb hg7 hd7
    go_wp2_with fail
    refine hpc.mono ?_
    rintro e w8 ⟨kc, hkc, rfl, hg8, hd8⟩
    have HG8 := Lib.hid (grown_trans HG7.out hg8)
    clear hpc hg8 hd8
    go_wp2_with fail
    go_ret3
    exact ⟨s, s5, _, rfl, by omega, by omega, after_open HA.out HG8.out hr⟩
end Go.Proofs.YtdjoafnohkmneaaGreatDoor

namespace Go.Proofs.YtdjoafnohkmneaaGreatDoor
namespace Fm

theorem text_atoms {f g : Fo} (hf : okm f) (hg : okm g) (h : text f = text g) : atoms f = atoms g := by
  have h1 := tree_ok f hf
  have h2 := tree_ok g hg
  obtain ⟨d, hd⟩ : ∃ d, d = max (sxDepth (tree f)) (sxDepth (tree g)) + 1 := ⟨_, rfl⟩
  have r1 := sread_of (text f) d 0 (tree f) [] (by simp [tree_text]) h1.1 (Or.inl rfl) (by omega)
  have r2 := sread_of (text g) d 0 (tree g) [] (by simp [tree_text]) h2.1 (Or.inl rfl) (by omega)
  rw [h, r2] at r1
  have e : tree g = tree f := by simpa using (congrArg (fun o => o.map Prod.fst) r1)
  rw [← szS_fo f d (by omega), ← szS_fo g d (by omega), e]

theorem ok_okm {f : Fo} (h : ok 1 f) : okm f := ((ok_iff f 1 (Nat.le_refl _) (by decide)).1 h).1

theorem parse_text {f g : Fo} (hf : ok 1 f) (h : parse (text f) = some g) : g = f ∧ atoms f ≤ 60 := by
  obtain ⟨h1, h2, h3⟩ := parse_iff.1 h
  have ha := text_atoms (ok_okm hf) (ok_okm h2) h1
  have h4 : parse (text f) = some f := parse_iff.2 ⟨rfl, hf, by omega⟩
  rw [h4] at h
  exact ⟨(Option.some.inj h).symm, by omega⟩
theorem parse_ok {l : List UInt8} {f : Fo} (h : parse l = some f) : l = text f ∧ ok 1 f ∧ atoms f ≤ 60 := parse_iff.1 h

/-- A formula and top. -/
theorem and_top {s : List UInt8} {f : Fo} (h : parse s = some f) (h2 : (parse (40 :: (wAnd ++ 32 :: (s ++ 32 :: (wTop ++ [41]))))).isSome = true) : (pclosed (40 :: (wAnd ++ 32 :: (s ++ 32 :: (wTop ++ [41]))))).isSome = (pclosed s).isSome := by
  obtain ⟨rfl, ho, ha⟩ := parse_ok h
  obtain ⟨g, hg⟩ := Option.isSome_iff_exists.1 h2
  have e : (40 :: (wAnd ++ 32 :: (text f ++ 32 :: (wTop ++ [41])))) = text (.and f .top) := rfl
  rw [e] at hg ⊢
  obtain ⟨rfl, _⟩ := parse_text (f := .and f .top) ⟨ho, trivial⟩ hg
  unfold pclosed
  rw [hg, h]
  by_cases he : occ f = [] <;> simp [occ, he]
end Fm
end Go.Proofs.YtdjoafnohkmneaaGreatDoor

namespace Go.Proofs.YtdjoafnohkmneaaGreatDoor
namespace Fm

theorem holdsF_fuel : ∀ (d : Nat) (f : Fo) (d' : Nat), sxDepth (tree f) < d → sxDepth (tree f) < d' → holdsF d f = holdsF d' f
  | 0, _, _, h, _ => absurd h (Nat.not_lt_zero _)
  | d + 1, f, 0, _, h => absurd h (Nat.not_lt_zero _)
  | d + 1, f, d' + 1, h, h' => by
    have ih := fun g hg hg' => holdsF_fuel d g d' hg hg'
    cases f with
    | top => rfl
    | bot => rfl
    | eq a b => rfl
    | and f g =>
      simp only [tree, sxDepth, sxDepths] at h h'
      simp only [holdsF, ih f (by omega) (by omega), ih g (by omega) (by omega)]
    | or f g =>
      simp only [tree, sxDepth, sxDepths] at h h'
      simp only [holdsF, ih f (by omega) (by omega), ih g (by omega) (by omega)]
    | imp f g =>
      simp only [tree, sxDepth, sxDepths] at h h'
      simp only [holdsF, ih f (by omega) (by omega), ih g (by omega) (by omega)]
    | all x n f =>
      simp only [tree, sxDepth, sxDepths] at h h'
      simp only [holdsF]
      congr 1
      funext m
      exact ih _ (by rw [depth_put]; omega) (by rw [depth_put]; omega)
    | ex x n f =>
      simp only [tree, sxDepth, sxDepths] at h h'
      simp only [holdsF]
      congr 1
      funext m
      exact ih _ (by rw [depth_put]; omega) (by rw [depth_put]; omega)

/-- What is read of a text is of the tree of this text. -/
theorem text_tree {t : SX} {g : Fo} (ht : sxOk t) (hg : okm g) (h : sxText t = text g) : t = tree g := by
  have h2 := tree_ok g hg
  obtain ⟨d, hd⟩ : ∃ d, d = max (sxDepth t) (sxDepth (tree g)) + 1 := ⟨_, rfl⟩
  have r1 := sread_of (sxText t) d 0 t [] (by simp) ht (Or.inl rfl) (by omega)
  have r2 := sread_of (text g) d 0 (tree g) [] (by simp [tree_text]) h2.1 (Or.inl rfl) (by omega)
  rw [h, r2] at r1
  have e : tree g = t := by simpa using (congrArg (fun o => o.map Prod.fst) r1)
  exact e.symm
theorem tree_inj {f g : Fo} (hf : ok 1 f) (hfa : atoms f ≤ 60) (hg : ok 1 g) (h : tree f = tree g) : f = g := by
  have e : text f = text g := by rw [← tree_text, ← tree_text, h]
  have h1 : parse (text f) = some f := parse_iff.2 ⟨rfl, hf, hfa⟩
  have ha := text_atoms (ok_okm hf) (ok_okm hg) e
  have h2 : parse (text g) = some g := parse_iff.2 ⟨rfl, hg, by omega⟩
  rw [e, h2] at h1
  exact (Option.some.inj h1).symm
theorem ok_le {r : Nat} {f : Fo} (hr : 1 ≤ r) (hr3 : r ≤ 300) (h : ok r f) : ok 1 f := by
  obtain ⟨h1, h2⟩ := (ok_iff f r hr hr3).1 h
  refine (ok_iff f 1 (Nat.le_refl _) (by decide)).2 ⟨h1, ?_⟩
  have : 1 * wide f ≤ r * wide f := Nat.mul_le_mul_right _ hr
  omega

/-- An implication of bot. -/
theorem parse_impbot {f g : Fo} (hf : ok 1 f) (hfa : atoms f ≤ 60) (h : parse (text (.imp f .bot)) = some g) : g = .imp f .bot := by
  obtain ⟨h1, h2, h3⟩ := parse_iff.1 h
  have hok := tree_ok f (ok_okm hf)
  have hsx : sxOk (tree (.imp f .bot)) := by
    simp only [tree, sxOk, sxOks]
    refine ⟨by simp, ⟨by decide, by decide⟩, hok.1, ⟨by decide, by decide⟩, trivial⟩
  have ht := text_tree hsx (ok_okm h2) (by rw [tree_text]; exact h1)
  cases g with
  | imp f' g' =>
    simp only [tree, SX.node.injEq, List.cons.injEq, and_true, true_and] at ht
    obtain ⟨e1, e2⟩ := ht
    have e := tree_inj hf hfa h2.1 e1
    subst e
    cases g' with
    | bot => rfl
    | top => simp [tree, wBot, wTop] at e2
    | _ => simp [tree] at e2
  | top => simp [tree] at ht
  | bot => simp [tree] at ht
  | _ => simp [tree, wImp, wEq, wAnd, wOr, wAll, wEx] at ht

/-- For all numbers below 3. -/
theorem parse_all3 {x : List UInt8} {f g : Fo} (hx : Tm.nameOk x = true) (hf : ok 1 f) (hfa : atoms f ≤ 60) (h : parse (text (.all x 3 f)) = some g) : g = .all x 3 f := by
  obtain ⟨h1, h2, h3⟩ := parse_iff.1 h
  have hok := tree_ok f (ok_okm hf)
  have hsx : sxOk (tree (.all x 3 f)) := by
    simp only [tree, sxOk, sxOks]
    refine ⟨by simp, ⟨by decide, by decide⟩, ⟨(name_len4 hx).2, name_letters hx⟩, ⟨by decide, by decide⟩, hok.1, trivial⟩
  have ht := text_tree hsx (ok_okm h2) (by rw [tree_text]; exact h1)
  cases g with
  | all y n f' =>
    simp only [tree, SX.node.injEq, List.cons.injEq, SX.atom.injEq, and_true, true_and] at ht
    obtain ⟨e1, e2, e3⟩ := ht
    have hn : n = 3 := by
      have := h2.2.2.1
      exact (dec_inj (by decide) (by omega) e2).symm
    subst e1 hn
    have e := tree_inj hf hfa (ok_le (by decide) (by decide) h2.2.2.2.2) e3
    rw [e]
  | top => simp [tree] at ht
  | bot => simp [tree] at ht
  | _ => simp [tree, wImp, wEq, wAnd, wOr, wAll, wEx] at ht

/-- A formula that is put into. -/
theorem parse_put {l x : List UInt8} {f : Fo} {m : Nat} (h : parse l = some f) (hm : m ≤ 60) : parse (text (putF x (.num m) f)) = some (putF x (.num m) f) := by
  obtain ⟨_, h2, h3⟩ := parse_ok h
  exact parse_iff.2 ⟨rfl, ok_put x m hm f 1 h2, by rw [atoms_put]; exact h3⟩
end Fm
end Go.Proofs.YtdjoafnohkmneaaGreatDoor

namespace Go.Proofs.YtdjoafnohkmneaaGreatDoor
open Go.RowKit

set_option maxHeartbeats 2000000
set_option maxRecDepth 100000

theorem spec_formulaValid (w : World) (l : List UInt8) :
    Calls Tryz.prog 18 #[str l] w fun e w' => e = .returned (.bool (Fm.mform l).isSome) ∧ After w w' := by
  have hc := s_form w l
  generalize Fm.mform l = o at *
  unfold MFPost at hc
  go_enter Tryz.func18, Tryz.ntmps18
  go_wp2_with fail
  refine hc.mono ?_
  rintro e w1 ⟨s, ao, n, c, rfl, ha, _⟩
  have ha2 := ha.alloc (.cells #[str s, .slice ao n c] 35)
  clear hc
  go_wp2_with fail
  go_ret
  exact ⟨rfl, ha2⟩

end Go.Proofs.YtdjoafnohkmneaaGreatDoor
