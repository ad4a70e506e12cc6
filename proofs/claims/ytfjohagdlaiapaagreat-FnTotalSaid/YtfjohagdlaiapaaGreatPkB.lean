/-
  The reader of the program: skip, nameLength, readAtom, read, readTerm.
-/
import Derived.Test.YtfjohagdlaiapaaGreatPkA
import Derived.Deep.QuietTactic
import Derived.BigQuiet
import Derived.RangeFuncNested
import Derived.RangeFuncBound
import Derived.RangeFuncCalls
import Derived.RangeFuncLeaves
import Derived.Shelf.Abstract
import Derived.WalkKit
import Derived.OwnWalkIn
import Derived.TacticsInMore
import Derived.LoopNIn
import Derived.LoopIn
import Derived.Lib.Hide
namespace Go.Proofs.YtfjohagdlaiapaaGreat
open Go.RowKit

set_option maxHeartbeats 400000
set_option maxRecDepth 100000

/-- The reader lies in block b: the text and the place. -/
def Rd (w : World) (b : Nat) (l : List UInt8) (i : Nat) : Prop := w.heap[b]? = some (.cells #[str l, .int .i64 i] 104 (0, 0))

theorem Rd.set {w : World} {b i : Nat} {l : List UInt8} (h : Rd w b l i) (m j : Nat) : Rd ((w.drewN m).setCell ⟨b, 1, none⟩ (.int .i64 j)) b l j := by
  unfold Rd at *
  simp [World.setCell, Array.getElem?_modify, h]

theorem Rd.drawn {w : World} {b i : Nat} {l : List UInt8} (h : Rd w b l i) (m : Nat) : Rd (w.drewN m) b l i := h

theorem grown_drawn (w : World) (b m : Nat) : w.grownBy (w.drewN m) (some b) := ⟨rfl, rfl, rfl, Nat.le_refl _, fun _ _ _ => rfl⟩

theorem grown_set (w : World) (b m i : Nat) (v : Value) : w.grownBy ((w.drewN m).setCell ⟨b, i, none⟩ v) (some b) := by
  refine ⟨rfl, rfl, rfl, by simp [World.setCell], fun k hk hne => ?_⟩
  have : b ≠ k := fun e => hne (e ▸ rfl)
  simp [World.setCell, Array.getElem?_modify, this]

def SkipPost (w : World) (b : Nat) (l : List UInt8) (i : Nat) (r : Bool) (e : Ending) (w' : World) : Prop :=
  e = .returned (.bool r) ∧ w.grownBy w' (some b) ∧ Rd w' b l (if r then i + 1 else i)

theorem byte_at (l : List UInt8) (i : Nat) (_h : i < l.length) (h' : i < (⟨l.toArray⟩ : ByteArray).size) : (⟨l.toArray⟩ : ByteArray)[i]'h' = l[i] := rfl

theorem byte_ne (x y : UInt8) : ((x.toNat : Int) != (y.toNat : Int)) = (x != y) := by
  rw [Bool.eq_iff_iff]
  simp only [bne_iff_ne, ne_eq, Int.natCast_inj]
  constructor
  · exact fun h e => h (e ▸ rfl)
  · exact fun h e => h (UInt8.toNat_inj.1 e)

theorem ended_any (w : World) (b i : Nat) (l : List UInt8) (c0 : w.cell? ⟨b, 0, none⟩ = some (str l)) (c1 : w.cell? ⟨b, 1, none⟩ = some (.int .i64 (i : Nat))) (_hl : l.length ≤ 1000000000) :
    Calls Tryz.prog 42 #[.pointer (some ⟨b, 0, none⟩)] w fun e w' => e = .returned (.bool (decide (i = l.length))) ∧ ∃ m, w' = w.drewN m := by
  have hsz : (⟨l.toArray⟩ : ByteArray).size = l.length := by show l.toArray.size = _; simp
  by_cases hie : i = l.length
  · have hr : decide (i = l.length) = true := by simp [hie]
    rw [hr]
    subst hie
    clear hr
    go_enter Tryz.func42, Tryz.ntmps42
    go_wp2_with fail
    go_quiet (fail)
    go_wp2_with fail
    go_ret
    exact ⟨rfl, _, rfl⟩
  · have hr : decide (i = l.length) = false := by simp [hie]
    rw [hr]
    have hne : ((i : Int) == (l.length : Int)) = false := by rw [beq_eq_false_iff_ne]; omega
    clear hr
    go_enter Tryz.func42, Tryz.ntmps42
    go_wp2_with fail
    go_quiet (fail)
    go_wp2_with fail
    go_ret
    exact ⟨rfl, _, rfl⟩

/-- What skip leaves in the cells of its block. -/
def SkipOn (w : World) (b : Nat) (cs : Array Value) (T : TypeId) (i : Nat) (r : Bool) (e : Ending) (w' : World) : Prop :=
  e = .returned (.bool r) ∧ w.grownBy w' (some b) ∧ w'.heap[b]? = some (.cells (if r then cs.setIfInBounds 1 (.int .i64 ((i + 1 : Nat) : Int)) else cs) T (0, 0))

theorem skip_on (w : World) (b i : Nat) (l : List UInt8) (n : Int) (c : UInt8) (hn : n = c.toNat) (cs : Array Value) (T : TypeId) (h : w.heap[b]? = some (.cells cs T (0, 0))) (h0 : cs[0]? = some (str l)) (h1 : cs[1]? = some (.int .i64 (i : Nat))) (hl : l.length ≤ 1000000000) (hi : i ≤ l.length) :
    Calls Tryz.prog 69 #[.pointer (some ⟨b, 0, none⟩), .int .u8 n] w (SkipOn w b cs T i (decide (l[i]? = some c))) := by
  have c0 : w.cell? ⟨b, 0, none⟩ = some (str l) := by rw [cell_of_heap h]; exact h0
  have c1 : w.cell? ⟨b, 1, none⟩ = some (.int .i64 (i : Nat)) := by rw [cell_of_heap h]; exact h1
  have f1 : w.frozen? ⟨b, 1, none⟩ = false := by simp [World.frozen?, h]
  have hsz : (⟨l.toArray⟩ : ByteArray).size = l.length := by show l.toArray.size = _; simp
  have hi0 : (0 : Int) ≤ (i : Int) := by omega
  have hend := fun m => ended_any (w.drewN m) b i l c0 c1 hl
  have HR := Lib.hid h
  subst hn
  clear h h0 h1
  by_cases hie : i = l.length
  · subst hie
    have hr : decide (l[l.length]? = some c) = false := by simp
    have hd : decide (l.length = l.length) = true := by simp
    rw [hr]
    rw [hd] at hend
    clear hr hd
    go_enter Tryz.func69, Tryz.ntmps69
    go_wp2_with fail
    go_quiet ((go_at_call 42; exact Calls.quiet_of (hend _)))
    go_wp2_with fail
    go_ret
    exact ⟨rfl, grown_drawn _ _ _, HR.out⟩
  · have hlt : i < l.length := by omega
    have hd : decide (i = l.length) = false := by simp [hie]
    rw [hd] at hend
    have hi1 : (i : Int) < (l.length : Int) := by omega
    have hg : l[i]? = some l[i] := List.getElem?_eq_getElem hlt
    have hb := byte_ne l[i] c
    have hat := byte_at l i hlt (by rw [hsz]; exact hlt)
    clear hd hie
    by_cases hc : l[i] = c
    · have hr : decide (l[i]? = some c) = true := by rw [hg, hc]; simp
      rw [hr]
      have hb2 : (((⟨l.toArray⟩ : ByteArray)[i]'(by rw [hsz]; exact hlt)).toNat : Int) = (c.toNat : Int) := by rw [hat, hc]
      clear hr hg hb hat hc
      go_enter Tryz.func69, Tryz.ntmps69
      go_wp2_with fail
      go_quiet ((go_at_call 42; exact Calls.quiet_of (hend _)))
      go_wp2_with fail
      go_ret
      refine ⟨rfl, grown_set _ _ _ _ _, ?_⟩
      have := HR.out
      simp [World.setCell, Array.getElem?_modify, this]
    · have hr : decide (l[i]? = some c) = false := by rw [hg]; simp [hc]
      rw [hr]
      have hb2 : (((((⟨l.toArray⟩ : ByteArray)[i]'(by rw [hsz]; exact hlt)).toNat : Int) != (c.toNat : Int))) = true := by rw [hat, hb]; simpa using hc
      clear hr hg hb hat hc
      go_enter Tryz.func69, Tryz.ntmps69
      go_wp2_with fail
      go_quiet ((go_at_call 42; exact Calls.quiet_of (hend _)))
      go_wp2_with fail
      go_ret
      exact ⟨rfl, grown_drawn _ _ _, HR.out⟩

theorem skip_any (w : World) (b i : Nat) (l : List UInt8) (n : Int) (c : UInt8) (hn : n = c.toNat) (h : Rd w b l i) (hl : l.length ≤ 1000000000) (hi : i ≤ l.length) :
    Calls Tryz.prog 69 #[.pointer (some ⟨b, 0, none⟩), .int .u8 n] w (SkipPost w b l i (decide (l[i]? = some c))) := by
  refine (skip_on w b i l n c hn _ _ h rfl rfl hl hi).mono ?_
  rintro e w' ⟨he, hg, hh⟩
  refine ⟨he, hg, ?_⟩
  generalize decide (l[i]? = some c) = r at *
  cases r
  · exact hh
  · exact hh

/-! ### the length of a name -/

theorem lead_int (c : UInt8) : Tm.lead c = true ↔ (117 : Int) ≤ (c.toNat : Int) ∧ (c.toNat : Int) ≤ 122 := by
  simp only [Tm.lead, Bool.and_eq_true, decide_eq_true_eq, UInt8.le_iff_toNat_le]
  have h1 : (117 : UInt8).toNat = 117 := rfl
  have h2 : (122 : UInt8).toNat = 122 := rfl
  omega
theorem dig_int (c : UInt8) : Tm.dig c = true ↔ (48 : Int) ≤ (c.toNat : Int) ∧ (c.toNat : Int) ≤ 57 := by
  simp only [Tm.dig, Bool.and_eq_true, decide_eq_true_eq, UInt8.le_iff_toNat_le]
  have h1 : (48 : UInt8).toNat = 48 := rfl
  have h2 : (57 : UInt8).toNat = 57 := rfl
  omega

theorem nameLength_any (w : World) (l : List UInt8) (hl : l.length ≤ 1000000000) :
    Calls Tryz.prog 108 #[str l] w fun e w' => e = .returned (.int .i64 (Tm.nameLen l 0 : Nat)) ∧ w = w' := by
  have hsz : (⟨l.toArray⟩ : ByteArray).size = l.length := by show l.toArray.size = _; simp
  cases hcs : l with
  | nil =>
    go_enter Tryz.func108, Tryz.ntmps108
    go_wp2_with fail
    go_ret
    exact ⟨by simp [Tm.nameLen], rfl⟩
  | cons c ds =>
    rw [← hcs]
    have hpos : 0 < l.length := by rw [hcs]; simp
    have h0 : l[0] = c := by simp [hcs]
    have hat := byte_at l 0 hpos (by rw [hsz]; exact hpos)
    rw [h0] at hat
    have hemp : l.isEmpty = false := by rw [hcs]; rfl
    have hget : l[0]? = some c := by simp [hcs]
    clear hcs h0
    by_cases hlead : Tm.lead c = true
    · have hfin : Tm.nameLen l 0 = 1 + Tm.digs l 3 1 := by simp [Tm.nameLen, hget, hlead]
      have HF := Lib.hid hfin
      obtain ⟨hl1, hl2⟩ := (lead_int c).1 hlead
      clear hfin hget hlead
      go_enter Tryz.func108, Tryz.ntmps108
      go_wp2_with fail
      go_loop [3] (fun n => ∃ k : Nat, 1 ≤ k ∧ k ≤ 4 ∧ k ≤ l.length ∧ n = .int .i64 k ∧ Hid (Tm.nameLen l 0 = k + Tm.digs l (4 - k) k)) (fun n => (5 - intOf n).toNat)
      case atStart => exact ⟨1, by omega, by omega, by omega, rfl, HF⟩
      case round =>
        obtain ⟨k, hk1, hk4, hkl, rfl, hk⟩ := hrel
        have hexit : (Tm.digs l (4 - k) k = 0) → Tm.nameLen l 0 = k := fun h => by rw [hk.out, h, Nat.add_zero]
        have HX := Lib.hid hexit
        clear hexit hat
        by_cases hlt : k < l.length
        · have hatk := byte_at l k hlt (by rw [hsz]; exact hlt)
          have hgetk : l[k]? = some l[k] := List.getElem?_eq_getElem hlt
          by_cases h3 : k ≤ 3
          · by_cases hd : Tm.dig l[k] = true
            · have hstep : Tm.nameLen l 0 = (k + 1) + Tm.digs l (4 - (k + 1)) (k + 1) := by
                rw [hk.out, show 4 - k = (4 - (k + 1)) + 1 by omega, Tm.digs, hgetk]; simp [hd]; omega
              have HS := Lib.hid hstep
              obtain ⟨hd1, hd2⟩ := (dig_int _).1 hd
              rw [← hatk] at hd1 hd2
              clear hstep hd hgetk hatk hk
              go_wp2_with fail
              go_round
              case rel => exact ⟨k + 1, by omega, by omega, by omega, by go_num, HS⟩
              case measure => simp [intOf]; omega
            · have hfin := HX.out (by rw [show 4 - k = (3 - k) + 1 by omega, Tm.digs, hgetk]; simp [hd])
              have HS := Lib.hid hfin
              rw [dig_int, ← hatk] at hd
              clear hfin hgetk hatk hk
              by_cases hd1 : (48 : Int) ≤ (((⟨l.toArray⟩ : ByteArray)[k]'(by rw [hsz]; exact hlt)).toNat : Int)
              · have hd2 : ¬ (((⟨l.toArray⟩ : ByteArray)[k]'(by rw [hsz]; exact hlt)).toNat : Int) ≤ 57 := fun h => hd ⟨hd1, h⟩
                clear hd
                go_wp2_with fail
                go_ret
                exact ⟨by rw [HS.out]; rfl, rfl⟩
              · clear hd
                go_wp2_with fail
                go_ret
                exact ⟨by rw [HS.out]; rfl, rfl⟩
          · have hfin := HX.out (by rw [show 4 - k = 0 by omega, Tm.digs])
            have HS := Lib.hid hfin
            clear hfin hgetk hatk hk
            go_wp2_with fail
            go_ret
            exact ⟨by rw [HS.out]; rfl, rfl⟩
        · have hfin := HX.out (by
            cases h4 : 4 - k with
            | zero => rw [Tm.digs]
            | succ m => rw [Tm.digs, List.getElem?_eq_none (by omega)])
          have HS := Lib.hid hfin
          clear hfin hk
          go_wp2_with fail
          go_ret
          exact ⟨by rw [HS.out]; rfl, rfl⟩
    · have hfin : Tm.nameLen l 0 = 0 := by simp [Tm.nameLen, hget, hlead]
      rw [hfin]
      rw [lead_int] at hlead
      clear hfin hget
      by_cases h1 : (c.toNat : Int) < 117
      · go_enter Tryz.func108, Tryz.ntmps108
        go_wp2_with fail
        go_ret
        exact ⟨rfl, rfl⟩
      · have h2 : (122 : Int) < (c.toNat : Int) := by omega
        clear hlead
        go_enter Tryz.func108, Tryz.ntmps108
        go_wp2_with fail
        go_ret
        exact ⟨rfl, rfl⟩
end Go.Proofs.YtfjohagdlaiapaaGreat

namespace Go.Proofs.YtfjohagdlaiapaaGreat
open Go.RowKit

set_option maxHeartbeats 400000
set_option maxRecDepth 100000

def AtomPost (w : World) (b : Nat) (l : List UInt8) (r : Option (Tm × Nat)) (e : Ending) (w' : World) : Prop :=
  ∃ v, e = .returned (.tuple #[v, .bool r.isSome]) ∧ w.grownBy w' (some b) ∧ ∀ t j, r = some (t, j) → Rd w' b l j ∧ TV w' (b + 1) t v

theorem grown_trans {w w' w'' : World} {b : Nat} (h : w.grownBy w' (some b)) (g : w'.grownBy w'' (some b)) : w.grownBy w'' (some b) :=
  ⟨g.os.trans h.os, g.tape.trans h.tape, g.output.trans h.output, Nat.le_trans h.size g.size, fun k hk hne => (g.block k (Nat.lt_of_lt_of_le hk h.size) hne).trans (h.block k hk hne)⟩

theorem grown_alloc (w : World) (b : Nat) (o : Obj) : w.grownBy (w.alloc o) (some b) := ⟨rfl, rfl, rfl, by simp, fun k hk _ => Below.heap_alloc _ _ _ hk⟩

theorem Rd.alloc {w : World} {b i : Nat} {l : List UInt8} (h : Rd w b l i) (o : Obj) : Rd (w.alloc o) b l i := by
  unfold Rd at *
  rw [Below.heap_alloc _ _ _ (Array.getElem?_eq_some_iff.1 h).1]; exact h

theorem Rd.lt {w : World} {b i : Nat} {l : List UInt8} (h : Rd w b l i) : b < w.heap.size := (Array.getElem?_eq_some_iff.1 h).1

theorem heap_new (w : World) (o : Obj) : (w.alloc o).heap[w.heap.size]? = some o := by
  show (w.heap.push _)[_]? = _
  simp

theorem heap_new_set (w : World) (m : Nat) (a : Addr) (v : Value) (o : Obj) : (((w.drewN m).setCell a v).alloc o).heap[w.heap.size]? = some o := by
  have h : ((w.drewN m).setCell a v).heap.size = w.heap.size := by simp [World.setCell]
  rw [← h]
  exact heap_new _ _

theorem bytes_ext (l : List UInt8) (i j : Nat) : (⟨l.toArray⟩ : ByteArray).extract i j = ⟨((l.drop i).take (j - i)).toArray⟩ := by
  apply ByteArray.ext
  simp [ByteArray.data_extract]

theorem digs_drop (l : List UInt8) (i m k : Nat) : Tm.digs (l.drop i) m k = Tm.digs l m (i + k) := by
  induction m generalizing k with
  | zero => rfl
  | succ m ih =>
    simp only [Tm.digs, List.getElem?_drop]
    rw [ih (k + 1)]
    rfl

theorem nameLen_drop (l : List UInt8) (i : Nat) : Tm.nameLen (l.drop i) 0 = Tm.nameLen l i := by
  simp only [Tm.nameLen, List.getElem?_drop, Nat.add_zero]
  rw [digs_drop]

theorem readAtom_any (w : World) (b i : Nat) (l : List UInt8) (h : Rd w b l i) (hl : l.length ≤ 1000000000) (hi : i ≤ l.length) :
    Calls Tryz.prog 87 #[.pointer (some ⟨b, 0, none⟩)] w (AtomPost w b l (Tm.readAtom l i)) := by
  have HL := Lib.hid hl
  by_cases hk : l[i]? = some 107
  · have hfin : Tm.readAtom l i = some (.k, i + 1) := by simp [Tm.readAtom, hk]
    rw [hfin]
    have hd : decide (l[i]? = some 107) = true := by simp [hk]
    have hsk := skip_any w b i l 107 107 rfl h hl hi
    rw [hd] at hsk
    clear hd hk hfin hi hl h
    go_enter Tryz.func87, Tryz.ntmps87
    go_wp2_with (go_at_call 69; refine hsk.mono ?_; rintro e w1 ⟨rfl, hg1, hr1⟩)
    go_ret2
    refine ⟨_, rfl, grown_trans hg1 (grown_alloc _ _ _), fun t j he => ?_⟩
    simp only [Option.some.injEq, Prod.mk.injEq] at he
    obtain ⟨rfl, rfl⟩ := he
    exact ⟨Rd.alloc hr1 _, ⟨_, _, rfl, Nat.succ_le_of_lt (Rd.lt hr1), heap_new _ _⟩⟩
  · by_cases hs : l[i]? = some 115
    · have hfin : Tm.readAtom l i = some (.s, i + 1) := by simp [Tm.readAtom, hs]
      rw [hfin]
      have hd : decide (l[i]? = some 107) = false := by simp [hk]
      have hd2 : decide (l[i]? = some 115) = true := by simp [hs]
      have hsk := skip_any w b i l 107 107 rfl h hl hi
      rw [hd] at hsk
      have HI := Lib.hid hi
      clear hd hk hs hfin hi hl h
      go_enter Tryz.func87, Tryz.ntmps87
      go_wp2_with fail
      refine hsk.mono ?_
      rintro e w1 ⟨rfl, hg1, hr1⟩
      have hsk2 := skip_any w1 b i l 115 115 rfl hr1 HL.out HI.out
      rw [hd2] at hsk2
      clear hsk hd2
      go_wp2_with fail
      refine hsk2.mono ?_
      rintro e w2 ⟨rfl, hg2, hr2⟩
      go_wp2_with fail
      go_ret2
      refine ⟨_, rfl, grown_trans (grown_trans hg1 hg2) (grown_alloc _ _ _), fun t j he => ?_⟩
      simp only [Option.some.injEq, Prod.mk.injEq] at he
      obtain ⟨rfl, rfl⟩ := he
      exact ⟨Rd.alloc hr2 _, ⟨_, _, rfl, Nat.succ_le_of_lt (Rd.lt hr2), heap_new _ _⟩⟩
    · have hd : decide (l[i]? = some 107) = false := by simp [hk]
      have hd2 : decide (l[i]? = some 115) = false := by simp [hs]
      have hsk := skip_any w b i l 107 107 rfl h hl hi
      rw [hd] at hsk
      have HI := Lib.hid hi
      clear hd h hl
      go_enter Tryz.func87, Tryz.ntmps87
      go_wp2_with fail
      refine hsk.mono ?_
      rintro e w1 ⟨rfl, hg1, hr1⟩
      have hsk2 := skip_any w1 b i l 115 115 rfl hr1 HL.out HI.out
      rw [hd2] at hsk2
      clear hsk hd2
      go_wp2_with fail
      refine hsk2.mono ?_
      rintro e w2 ⟨rfl, hg2, hr2⟩
      have c0 : w2.cell? ⟨b, 0, none⟩ = some (str l) := cell_of_heap hr2
      have c1 : w2.cell? ⟨b, 1, none⟩ = some (.int .i64 (i : Nat)) := cell_of_heap hr2
      have hsz : (⟨l.toArray⟩ : ByteArray).size = l.length := by show l.toArray.size = _; simp
      have hi0 : (0 : Int) ≤ (i : Int) := by omega
      have hext : (⟨l.toArray⟩ : ByteArray).extract i l.length = ⟨(l.drop i).toArray⟩ := by
        rw [bytes_ext, List.take_of_length_le (by simp)]
      have hlen := HL.out
      have hnl : ∀ W, Calls Tryz.prog 108 #[str (l.drop i)] W fun e w' => e = .returned (.int .i64 (Tm.nameLen l i : Nat)) ∧ W = w' := fun W => by
        have := nameLength_any W (l.drop i) (by simp; omega)
        rw [nameLen_drop] at this
        exact this
      have hsound := Tm.nameLen_sound l i
      by_cases hz : Tm.nameLen l i = 0
      · have hfin : Tm.readAtom l i = none := by simp [Tm.readAtom, hk, hs, hz]
        rw [hz] at hnl
        have H := Lib.hid hfin
        clear hfin hsound hz hk hs
        go_wp2_with fail
        go_quiet ((go_at_call 108; exact Calls.quiet_of_same ((hnl _).mono fun e w' ⟨he, hw⟩ => ⟨he, hw.symm⟩)))
        go_wp2_with fail
        go_ret2
        exact ⟨_, by rw [H.out]; rfl, grown_trans (grown_trans hg1 hg2) (grown_drawn _ _ _), fun t j he => by rw [H.out] at he; simp at he⟩
      · obtain ⟨hok, hle⟩ := hsound hz
        obtain ⟨n, hn⟩ : ∃ n, n = Tm.nameLen l i := ⟨_, rfl⟩
        have hfin : Tm.readAtom l i = some (.nm ((l.drop i).take n), i + n) := by simp [Tm.readAtom, hk, hs, hz, hn]
        rw [← hn] at hnl hle hz
        have hz2 : ((n : Int) == 0) = false := by rw [beq_eq_false_iff_ne]; omega
        have hlo : (0 : Int) ≤ (i : Int) + (n : Int) := by omega
        have hhi : (i : Int) + (n : Int) ≤ (l.length : Int) := by omega
        have hin : (i : Int) ≤ (i : Int) + (n : Int) := by omega
        have hext2 : (⟨l.toArray⟩ : ByteArray).extract i (i + n) = ⟨((l.drop i).take n).toArray⟩ := by
          rw [bytes_ext, Nat.add_sub_cancel_left]
        have f1 : w2.frozen? ⟨b, 1, none⟩ = false := by unfold Rd at hr2; simp [World.frozen?, hr2]
        have H := Lib.hid hfin
        have HR := Lib.hid hr2
        have HI2 := Lib.hid hext2
        clear hfin hsound hz hk hs hok hn hr2
        go_wp2_with fail
        go_quiet ((go_at_call 108; exact Calls.quiet_of_same ((hnl _).mono fun e w' ⟨he, hw⟩ => ⟨he, hw.symm⟩)))
        go_wp2_with fail
        clear hext
        go_quiet (fail)
        go_wp2_with fail
        go_ret2
        have e : (i : Int) + (n : Int) = ((i + n : Nat) : Int) := by omega
        rw [e]
        refine ⟨_, by rw [H.out]; rfl, grown_trans (grown_trans (grown_trans hg1 hg2) (grown_set _ _ _ _ _)) (grown_alloc _ _ _), fun t j he => ?_⟩
        rw [H.out] at he
        simp only [Option.some.injEq, Prod.mk.injEq] at he
        obtain ⟨rfl, rfl⟩ := he
        exact ⟨Rd.alloc (Rd.set HR.out _ _) _, ⟨_, _, rfl, Nat.succ_le_of_lt (Rd.lt HR.out), heap_new_set _ _ _ _ _⟩⟩
end Go.Proofs.YtfjohagdlaiapaaGreat

namespace Go.Proofs.YtfjohagdlaiapaaGreat
open Go.RowKit

set_option maxHeartbeats 400000
set_option maxRecDepth 100000

theorem TV.grown {w w' : World} {b : Nat} {t : Tm} {v : Value} (h : TV w (b + 1) t v) (hg : w.grownBy w' (some b)) : TV w' (b + 1) t v :=
  h.same fun k hk hl => hg.block k hl (fun e => by injection e with e; omega)

theorem size_le_text (t : Tm) (h : t.good = true) : t.size ≤ t.text.length := by
  induction t with
  | nm n => simp only [Tm.good] at h; cases n with
    | nil => simp [Tm.nameOk] at h
    | cons c ds => simp [Tm.size, Tm.text]
  | app f a ihf iha => simp only [Tm.good, Bool.and_eq_true] at h; have := ihf h.1; have := iha h.2; simp [Tm.size, Tm.text]; omega
  | _ => simp [Tm.size, Tm.text]

theorem reads_size {l : List UInt8} {d i j : Nat} {t : Tm} (h : Tm.Reads l d i t j) : t.size ≤ l.length ∧ j ≤ l.length := by
  obtain ⟨h1, h2, h3, h4, h5⟩ := h
  have := size_le_text t h4
  have e := congrArg List.length h1
  simp at e
  omega

theorem AtomPost.no {w w' : World} {b : Nat} {l : List UInt8} {r : Option (Tm × Nat)} (hr : r = none) (hg : w.grownBy w' (some b)) (v : Value) : AtomPost w b l r (.returned (.tuple #[v, .bool false])) w' :=
  ⟨v, by rw [hr]; rfl, hg, fun t j he => by rw [hr] at he; simp at he⟩

theorem read_any (l : List UInt8) (hl : l.length ≤ 1000000000) : ∀ (d : Nat) (a : Int) (w : World) (b i : Nat), Rd w b l i → i ≤ l.length → a + d = 1501 → d ≤ 1501 →
    Calls Tryz.prog 63 #[.pointer (some ⟨b, 0, none⟩), .int .i64 a] w (AtomPost w b l (Tm.read l d i)) := by
  intro d
  induction d with
  | zero =>
    intro a w b i h hi ha _
    have h1 : (1500 : Int) < a := by omega
    go_enter Tryz.func63, Tryz.ntmps63
    go_wp2_with fail
    go_ret2
    exact AtomPost.no rfl (grown_drawn w b 0) _
  | succ d ih =>
    intro a w b i h hi ha hd
    have h1 : a ≤ 1500 := by omega
    have h2 : 0 ≤ a := by omega
    have hsk := skip_any w b i l 40 40 rfl h hl hi
    by_cases h0 : l[i]? = some 40
    · have hdec : decide (l[i]? = some 40) = true := by simp [h0]
      rw [hdec] at hsk
      have hi1 : i + 1 ≤ l.length := (List.getElem?_eq_some_iff.1 h0).1
      cases hf : Tm.read l d (i + 1) with
      | none =>
        have hfin : Tm.read l (d + 1) i = none := by simp [Tm.read, h0, hf]
        have H := Lib.hid hfin
        have HF := Lib.hid hf
        have HA := Lib.hid ha
        have HIH := Lib.hid ih
        clear hfin hf ha ih hdec h0 h hi
        go_enter Tryz.func63, Tryz.ntmps63
        go_wp2_with fail
        refine hsk.mono ?_
        rintro e w1 ⟨rfl, hg1, hr1⟩
        go_wp2_with fail
        refine (HIH.out (a + 1) _ b (i + 1) hr1 hi1 (by have := HA.out; omega) (by omega)).mono ?_
        rintro e w2 ⟨v2, rfl, hg2, hr2⟩
        rw [HF.out]
        clear hr2
        go_wp2_with fail
        go_ret2
        exact AtomPost.no H.out (grown_trans hg1 hg2) _
      | some p =>
        obtain ⟨f, j⟩ := p
        obtain ⟨zf, hj⟩ := reads_size (Tm.read_sound hf)
        have H0 := Lib.hid h0
        have HF := Lib.hid hf
        have HA := Lib.hid ha
        have HIH := Lib.hid ih
        clear hf ha ih hdec h0 h hi
        by_cases h32 : l[j]? = some 32
        · have hj1 : j + 1 ≤ l.length := (List.getElem?_eq_some_iff.1 h32).1
          have hdec : decide (l[j]? = some 32) = true := by simp [h32]
          have HD := Lib.hid hdec
          cases hq : Tm.read l d (j + 1) with
          | none =>
            have hfin : Tm.read l (d + 1) i = none := by simp [Tm.read, H0.out, HF.out, h32, hq]
            have H := Lib.hid hfin
            have HQ := Lib.hid hq
            clear hfin hq hdec h32
            go_enter Tryz.func63, Tryz.ntmps63
            go_wp2_with fail
            refine hsk.mono ?_
            rintro e w1 ⟨rfl, hg1, hr1⟩
            go_wp2_with fail
            refine (HIH.out (a + 1) _ b (i + 1) hr1 hi1 (by have := HA.out; omega) (by omega)).mono ?_
            rintro e w2 ⟨v2, rfl, hg2, hr2⟩
            rw [HF.out]
            obtain ⟨hr2, ht2⟩ := hr2 f j HF.out
            have hsk2 := skip_any w2 b j l 32 32 rfl hr2 hl hj
            rw [HD.out] at hsk2
            go_wp2_with fail
            refine hsk2.mono ?_
            rintro e w3 ⟨rfl, hg3, hr3⟩
            clear hsk hsk2
            go_wp2_with fail
            refine (HIH.out (a + 1) _ b (j + 1) hr3 hj1 (by have := HA.out; omega) (by omega)).mono ?_
            rintro e w4 ⟨v4, rfl, hg4, hr4⟩
            rw [HQ.out]
            clear hr4
            go_wp2_with fail
            go_ret2
            exact AtomPost.no H.out (grown_trans (grown_trans hg1 hg2) (grown_trans hg3 hg4)) _
          | some p =>
            obtain ⟨g, m⟩ := p
            obtain ⟨zg, hm⟩ := reads_size (Tm.read_sound hq)
            by_cases h41 : l[m]? = some 41
            · have hdec2 : decide (l[m]? = some 41) = true := by simp [h41]
              have hfin : Tm.read l (d + 1) i = some (f.app g, m + 1) := by simp [Tm.read, H0.out, HF.out, h32, hq, h41]
              have H := Lib.hid hfin
              have HQ := Lib.hid hq
              have HD2 := Lib.hid hdec2
              clear hfin hq hdec h32 hdec2 h41
              go_enter Tryz.func63, Tryz.ntmps63
              go_wp2_with fail
              refine hsk.mono ?_
              rintro e w1 ⟨rfl, hg1, hr1⟩
              go_wp2_with fail
              refine (HIH.out (a + 1) _ b (i + 1) hr1 hi1 (by have := HA.out; omega) (by omega)).mono ?_
              rintro e w2 ⟨v2, rfl, hg2, hr2⟩
              rw [HF.out]
              obtain ⟨hr2, ht2⟩ := hr2 f j HF.out
              have hsk2 := skip_any w2 b j l 32 32 rfl hr2 hl hj
              rw [HD.out] at hsk2
              go_wp2_with fail
              refine hsk2.mono ?_
              rintro e w3 ⟨rfl, hg3, hr3⟩
              clear hsk hsk2
              go_wp2_with fail
              refine (HIH.out (a + 1) _ b (j + 1) hr3 hj1 (by have := HA.out; omega) (by omega)).mono ?_
              rintro e w4 ⟨v4, rfl, hg4, hr4⟩
              rw [HQ.out]
              obtain ⟨hr4, ht4⟩ := hr4 g m HQ.out
              have hsk3 := skip_any w4 b m l 41 41 rfl hr4 hl hm
              rw [HD2.out] at hsk3
              go_wp2_with fail
              refine hsk3.mono ?_
              rintro e w5 ⟨rfl, hg5, hr5⟩
              clear hsk3
              have htf := ((ht2.grown hg3).grown hg4).grown hg5
              have hta := ht4.grown hg5
              have hlt5 := Rd.lt hr5
              go_wp2_with fail
              refine (apply_any _ (b + 1) f g _ _ htf hta hlt5 (by omega)).mono ?_
              rintro e w6 ⟨v6, rfl, hb6, hv6⟩
              go_wp2_with fail
              go_ret2
              have hr6 : Rd w6 b l (m + 1) := by unfold Rd at *; rw [hb6.block b hlt5]; exact hr5
              have hg6 : w5.grownBy w6 (some b) := ⟨hb6.os, hb6.tape, hb6.output, hb6.size, fun k hk _ => hb6.block k hk⟩
              refine ⟨_, by rw [H.out]; rfl, grown_trans (grown_trans (grown_trans hg1 hg2) (grown_trans hg3 hg4)) (grown_trans hg5 hg6), fun t j' he => ?_⟩
              rw [H.out] at he
              simp only [Option.some.injEq, Prod.mk.injEq] at he
              obtain ⟨rfl, rfl⟩ := he
              exact ⟨hr6, hv6⟩
            · have hdec2 : decide (l[m]? = some 41) = false := by simp [h41]
              have hfin : Tm.read l (d + 1) i = none := by simp [Tm.read, H0.out, HF.out, h32, hq, h41]
              have H := Lib.hid hfin
              have HQ := Lib.hid hq
              have HD2 := Lib.hid hdec2
              clear hfin hq hdec h32 hdec2 h41
              go_enter Tryz.func63, Tryz.ntmps63
              go_wp2_with fail
              refine hsk.mono ?_
              rintro e w1 ⟨rfl, hg1, hr1⟩
              go_wp2_with fail
              refine (HIH.out (a + 1) _ b (i + 1) hr1 hi1 (by have := HA.out; omega) (by omega)).mono ?_
              rintro e w2 ⟨v2, rfl, hg2, hr2⟩
              rw [HF.out]
              obtain ⟨hr2, ht2⟩ := hr2 f j HF.out
              have hsk2 := skip_any w2 b j l 32 32 rfl hr2 hl hj
              rw [HD.out] at hsk2
              go_wp2_with fail
              refine hsk2.mono ?_
              rintro e w3 ⟨rfl, hg3, hr3⟩
              clear hsk hsk2
              go_wp2_with fail
              refine (HIH.out (a + 1) _ b (j + 1) hr3 hj1 (by have := HA.out; omega) (by omega)).mono ?_
              rintro e w4 ⟨v4, rfl, hg4, hr4⟩
              rw [HQ.out]
              obtain ⟨hr4, ht4⟩ := hr4 g m HQ.out
              have hsk3 := skip_any w4 b m l 41 41 rfl hr4 hl hm
              rw [HD2.out] at hsk3
              go_wp2_with fail
              refine hsk3.mono ?_
              rintro e w5 ⟨rfl, hg5, hr5⟩
              clear hsk3
              go_wp2_with fail
              go_ret2
              exact AtomPost.no H.out (grown_trans (grown_trans (grown_trans hg1 hg2) (grown_trans hg3 hg4)) hg5) _
        · have hdec : decide (l[j]? = some 32) = false := by simp [h32]
          have hfin : Tm.read l (d + 1) i = none := by simp [Tm.read, H0.out, HF.out, h32]
          have H := Lib.hid hfin
          have HD := Lib.hid hdec
          clear hfin hdec h32
          go_enter Tryz.func63, Tryz.ntmps63
          go_wp2_with fail
          refine hsk.mono ?_
          rintro e w1 ⟨rfl, hg1, hr1⟩
          go_wp2_with fail
          refine (HIH.out (a + 1) _ b (i + 1) hr1 hi1 (by have := HA.out; omega) (by omega)).mono ?_
          rintro e w2 ⟨v2, rfl, hg2, hr2⟩
          rw [HF.out]
          obtain ⟨hr2, ht2⟩ := hr2 f j HF.out
          have hsk2 := skip_any w2 b j l 32 32 rfl hr2 hl hj
          rw [HD.out] at hsk2
          go_wp2_with fail
          refine hsk2.mono ?_
          rintro e w3 ⟨rfl, hg3, hr3⟩
          clear hsk hsk2
          go_wp2_with fail
          go_ret2
          exact AtomPost.no H.out (grown_trans (grown_trans hg1 hg2) hg3) _
    · have hdec : decide (l[i]? = some 40) = false := by simp [h0]
      rw [hdec] at hsk
      have hfin : Tm.read l (d + 1) i = Tm.readAtom l i := by simp [Tm.read, h0]
      rw [hfin]
      have HI := Lib.hid hi
      clear hdec hfin h0 h ih hi
      go_enter Tryz.func63, Tryz.ntmps63
      go_wp2_with fail
      refine hsk.mono ?_
      rintro e w1 ⟨rfl, hg1, hr1⟩
      go_wp2_with fail
      refine (readAtom_any _ b i l hr1 hl HI.out).mono ?_
      rintro e w2 ⟨v2, rfl, hg2, hr2⟩
      have HR := Lib.hid hr2
      clear hr2
      go_wp2_with fail
      go_ret2
      exact ⟨_, rfl, grown_trans hg1 hg2, HR.out⟩

def ParsePost (w : World) (B : Nat) (l : List UInt8) (e : Ending) (w' : World) : Prop :=
  ∃ v, e = .returned (.tuple #[v, .bool (Tm.parse l).isSome]) ∧ Below w.heap.size w w' ∧ ∀ t, Tm.parse l = some t → TV w' B t v

theorem ParsePost.no {w w' : World} {B : Nat} {l : List UInt8} (hr : Tm.parse l = none) (hg : Below w.heap.size w w') (v : Value) : ParsePost w B l (.returned (.tuple #[v, .bool false])) w' :=
  ⟨v, by rw [hr]; rfl, hg, fun t he => by rw [hr] at he; simp at he⟩

theorem below_grown {w w' : World} {o : Obj} (hg : (w.alloc o).grownBy w' (some w.heap.size)) : Below w.heap.size w w' :=
  ((Below.refl _ _).alloc (Nat.le_refl _) o).grown hg (by simp) (fun k hk => by injection hk with hk; omega)

theorem below_drews {n : Nat} {a b : World} (h : Below n a b) (m : Nat) : Below n a (b.drewN m) := ⟨h.os, h.tape, h.output, h.size, h.block⟩

theorem readTerm_any (w : World) (B : Nat) (l : List UInt8) (hB : B ≤ w.heap.size) (hl : l.length ≤ 1000000000) :
    Calls Tryz.prog 34 #[str l] w (ParsePost w B l) := by
  have hrd : Rd (w.alloc (.cells #[str l, .int .i64 0] 104)) w.heap.size l 0 := heap_new _ _
  have hread := read_any l hl 1501 0 _ _ 0 hrd (Nat.zero_le _) (by omega) (by omega)
  have hsz : (⟨l.toArray⟩ : ByteArray).size = l.length := by show l.toArray.size = _; simp
  cases hq : Tm.read l 1501 0 with
  | none =>
    have hfin : Tm.parse l = none := by simp [Tm.parse, hq]
    have H := Lib.hid hfin
    rw [hq] at hread
    clear hfin hq hrd
    go_enter Tryz.func34, Tryz.ntmps34
    go_wp2_with fail
    refine hread.mono ?_
    rintro e w1 ⟨v1, rfl, hg1, hr1⟩
    clear hr1 hread
    go_wp2_with fail
    go_ret2
    exact ParsePost.no H.out (below_grown hg1) _
  | some p =>
    obtain ⟨t, j⟩ := p
    obtain ⟨zt, hj⟩ := reads_size (Tm.read_sound hq)
    rw [hq] at hread
    have hpf : Tm.parse l = if j = l.length ∧ t.fits = true then some t else none := by simp only [Tm.parse, hq]
    have HP := Lib.hid hpf
    clear hpf hq hrd
    by_cases hje : j = l.length
    · have hd : decide (j = l.length) = true := by simp [hje]
      cases hf : t.fits with
      | true =>
        have H := Lib.hid (show Tm.parse l = some t by rw [HP.out, hje, hf]; simp)
        have HF := Lib.hid hf
        clear hf HP
        go_enter Tryz.func34, Tryz.ntmps34
        go_wp2_with fail
        refine hread.mono ?_
        rintro e w1 ⟨v1, rfl, hg1, hr1⟩
        obtain ⟨hr1, ht1⟩ := hr1 t j rfl
        have hend := ended_any w1 _ j l (cell_of_heap hr1) (cell_of_heap hr1) hl
        rw [hd] at hend
        have hfit := fun m => fits_any (w1.drewN m) _ t v1 (TV.same (w := w1) (w' := w1.drewN m) (fun _ _ _ => rfl) ht1)
        rw [HF.out] at hfit
        clear hread hd
        go_wp2_with fail
        refine hend.mono ?_
        rintro e w3 ⟨rfl, m, rfl⟩
        go_wp2_with (go_at_call 48; refine (hfit _).mono ?_; rintro e w2 ⟨rfl, hb2⟩)
        go_ret2
        have hb2' : Below w1.heap.size w1 w2 := (below_drews (Below.refl _ _) m).trans hb2
        refine ⟨_, by rw [H.out]; rfl, (below_grown hg1).trans (hb2'.mono (Nat.le_of_lt (Rd.lt hr1))), fun t' he => ?_⟩
        rw [H.out] at he
        obtain rfl := Option.some.inj he
        exact (ht1.less (by omega)).below hb2'
      | false =>
        have H := Lib.hid (show Tm.parse l = none by rw [HP.out, hf]; simp)
        have HF := Lib.hid hf
        clear hf HP
        go_enter Tryz.func34, Tryz.ntmps34
        go_wp2_with fail
        refine hread.mono ?_
        rintro e w1 ⟨v1, rfl, hg1, hr1⟩
        obtain ⟨hr1, ht1⟩ := hr1 t j rfl
        have hend := ended_any w1 _ j l (cell_of_heap hr1) (cell_of_heap hr1) hl
        rw [hd] at hend
        have hfit := fun m => fits_any (w1.drewN m) _ t v1 (TV.same (w := w1) (w' := w1.drewN m) (fun _ _ _ => rfl) ht1)
        rw [HF.out] at hfit
        clear hread hd
        go_wp2_with fail
        refine hend.mono ?_
        rintro e w3 ⟨rfl, m, rfl⟩
        go_wp2_with (go_at_call 48; refine (hfit _).mono ?_; rintro e w2 ⟨rfl, hb2⟩)
        go_ret2
        have hb2' : Below w1.heap.size w1 w2 := (below_drews (Below.refl _ _) m).trans hb2
        exact ParsePost.no H.out ((below_grown hg1).trans (hb2'.mono (Nat.le_of_lt (Rd.lt hr1)))) _
    · have H := Lib.hid (show Tm.parse l = none by rw [HP.out]; simp [hje])
      have hd : decide (j = l.length) = false := by simp [hje]
      clear HP
      go_enter Tryz.func34, Tryz.ntmps34
      go_wp2_with fail
      refine hread.mono ?_
      rintro e w1 ⟨v1, rfl, hg1, hr1⟩
      obtain ⟨hr1, ht1⟩ := hr1 t j rfl
      have hend := ended_any w1 _ j l (cell_of_heap hr1) (cell_of_heap hr1) hl
      rw [hd] at hend
      clear hread hd
      go_wp2_with fail
      refine hend.mono ?_
      rintro e w3 ⟨rfl, m, rfl⟩
      go_wp2_with fail
      go_ret2
      exact ParsePost.no H.out (below_drews (below_grown hg1) _) _
end Go.Proofs.YtfjohagdlaiapaaGreat

namespace Go.Proofs.YtfjohagdlaiapaaGreat
open Go.RowKit

set_option maxHeartbeats 1000000
set_option maxRecDepth 100000

namespace Tm
def behind (F : List UInt8) : Tm → Option Tm
  | app f a => if text f = F then some a else none
  | _ => none
def parts : Tm → Option (Tm × Tm)
  | app x y => match behind [107] y with
    | none => none
    | some n => match behind [115] x with
      | none => none
      | some left => match behind [40, 115, 32, 40, 40, 115, 32, 107, 41, 32, 107, 41, 41] left with
        | none => none
        | some front => match behind [107] front with
          | none => none
          | some m => some (m, n)
  | _ => none
theorem behind_good {F : List UInt8} {t a : Tm} (h : behind F t = some a) (hg : good t = true) : good a = true ∧ a.size < t.size := by
  cases t with
  | app f b =>
    simp only [behind] at h
    split at h
    · obtain rfl := Option.some.inj h
      simp only [good, Bool.and_eq_true] at hg
      exact ⟨hg.2, by simp only [size]; have := size_pos f; omega⟩
    · simp at h
  | _ => simp [behind] at h
end Tm

def BehindPost (w : World) (B : Nat) (r : Option Tm) (e : Ending) (w' : World) : Prop :=
  ∃ v, e = .returned (.tuple #[v, .bool r.isSome]) ∧ Below w.heap.size w w' ∧ ∀ a, r = some a → TV w' B a v

theorem assert_app (W : World) (x : Value) : (Instr.typeAssert (.iface 108 x) 38 108 true).run Tryz.prog W = .ok (.tuple #[x, .bool true]) W := by kernel_rfl
theorem assert_k (W : World) (x : Value) : (Instr.typeAssert (.iface 86 x) 38 108 true).run Tryz.prog W = .ok (.tuple #[.pointer none, .bool false]) W := by kernel_rfl
theorem assert_s (W : World) (x : Value) : (Instr.typeAssert (.iface 91 x) 38 108 true).run Tryz.prog W = .ok (.tuple #[.pointer none, .bool false]) W := by kernel_rfl
theorem assert_n (W : World) (x : Value) : (Instr.typeAssert (.iface 122 x) 38 108 true).run Tryz.prog W = .ok (.tuple #[.pointer none, .bool false]) W := by kernel_rfl

def PartsPost (w : World) (B : Nat) (r : Option (Tm × Tm)) (e : Ending) (w' : World) : Prop :=
  ∃ v1 v2, e = .returned (.tuple #[v1, v2, .bool r.isSome]) ∧ Below w.heap.size w w' ∧ ∀ m n, r = some (m, n) → TV w' B m v1 ∧ TV w' B n v2

/-- What PairParts answers. -/
def pParts (l : List UInt8) : Option (List UInt8 × List UInt8) := match Tm.parse l with
  | some t => t.parts.map fun p => (p.1.text, p.2.text)
  | none => none

def TwoRes (w : World) (r : Option (List UInt8 × List UInt8)) (e : Ending) (w' : World) : Prop :=
  e = .returned (.tuple #[str ((r.map Prod.fst).getD []), str ((r.map Prod.snd).getD []), .bool r.isSome]) ∧ Below w.heap.size w w'

theorem parts_good {t m n : Tm} (h : t.parts = some (m, n)) (hg : t.good = true) : m.good = true ∧ n.good = true ∧ m.size < t.size ∧ n.size < t.size := by
  cases t with
  | app x y =>
    simp only [Tm.good, Bool.and_eq_true] at hg
    simp only [Tm.parts] at h
    split at h
    · simp at h
    · rename_i n' e1
      split at h
      · simp at h
      · rename_i left e2
        split at h
        · simp at h
        · rename_i front e3
          split at h
          · simp at h
          · rename_i m' e4
            simp only [Option.some.injEq, Prod.mk.injEq] at h
            obtain ⟨rfl, rfl⟩ := h
            have g1 := Tm.behind_good e1 hg.2
            have g2 := Tm.behind_good e2 hg.1
            have g3 := Tm.behind_good e3 g2.1
            have g4 := Tm.behind_good e4 g3.1
            simp only [Tm.size]
            exact ⟨g4.1, g1.1, by omega, by omega⟩
  | _ => simp [Tm.parts] at h

end Go.Proofs.YtfjohagdlaiapaaGreat

namespace Go.Proofs.YtfjohagdlaiapaaGreat
open Go.RowKit

set_option maxHeartbeats 2000000
set_option maxRecDepth 100000

def Bd.comb (f a : Tm) : Bd → Bd → Bd
  | .without _, .without _ => .without (.app f a)
  | .without _, .itself => .atEnd f
  | b1, b2 => .inside b1 b2
def Bd.of (x : List UInt8) : Tm → Bd
  | .nm n => if n = x then .itself else .without (.nm n)
  | .app f a => Bd.comb f a (Bd.of x f) (Bd.of x a)
  | t => .without t

def BodyPost (w : World) (B : Nat) (b : Bd) (e : Ending) (w' : World) : Prop := ∃ v, e = .returned v ∧ Below w.heap.size w w' ∧ BV w' B b v

theorem BV.form {w : World} {B : Nat} {b : Bd} {v : Value} (h : BV w B b v) : ∃ T x, v = .iface T x := by
  cases b with
  | itself => exact ⟨_, _, h⟩
  | without t => obtain ⟨x, rfl, _⟩ := h; exact ⟨_, _, rfl⟩
  | atEnd t => obtain ⟨x, rfl, _⟩ := h; exact ⟨_, _, rfl⟩
  | inside f a => obtain ⟨x, y, rfl, _⟩ := h; exact ⟨_, _, rfl⟩

theorem assert_nm_n (W : World) (x : Value) : (Instr.typeAssert (.iface 122 x) 38 122 true).run Tryz.prog W = .ok (.tuple #[x, .bool true]) W := by kernel_rfl
theorem assert_nm_k (W : World) (x : Value) : (Instr.typeAssert (.iface 86 x) 38 122 true).run Tryz.prog W = .ok (.tuple #[.pointer none, .bool false]) W := by kernel_rfl
theorem assert_nm_s (W : World) (x : Value) : (Instr.typeAssert (.iface 91 x) 38 122 true).run Tryz.prog W = .ok (.tuple #[.pointer none, .bool false]) W := by kernel_rfl
theorem assert_nm_a (W : World) (x : Value) : (Instr.typeAssert (.iface 108 x) 38 122 true).run Tryz.prog W = .ok (.tuple #[.pointer none, .bool false]) W := by kernel_rfl
theorem assert_wo_w (W : World) (x : Value) : (Instr.typeAssert (.iface 156 (.agg #[x])) 158 156 true).run Tryz.prog W = .ok (.tuple #[.agg #[x], .bool true]) W := by kernel_rfl
theorem assert_wo_i (W : World) (x : Value) : (Instr.typeAssert (.iface 154 x) 158 156 true).run Tryz.prog W = .ok (.tuple #[.agg #[.nilIface], .bool false]) W := by kernel_rfl
theorem assert_wo_e (W : World) (x : Value) : (Instr.typeAssert (.iface 191 x) 158 156 true).run Tryz.prog W = .ok (.tuple #[.agg #[.nilIface], .bool false]) W := by kernel_rfl
theorem assert_wo_s (W : World) (x : Value) : (Instr.typeAssert (.iface 160 x) 158 156 true).run Tryz.prog W = .ok (.tuple #[.agg #[.nilIface], .bool false]) W := by kernel_rfl
theorem assert_it_i (W : World) : (Instr.typeAssert (.iface 154 (.agg #[])) 158 154 true).run Tryz.prog W = .ok (.tuple #[.agg #[], .bool true]) W := by kernel_rfl
theorem assert_it_e (W : World) (x : Value) : (Instr.typeAssert (.iface 191 x) 158 154 true).run Tryz.prog W = .ok (.tuple #[.agg #[], .bool false]) W := by kernel_rfl
theorem assert_it_s (W : World) (x : Value) : (Instr.typeAssert (.iface 160 x) 158 154 true).run Tryz.prog W = .ok (.tuple #[.agg #[], .bool false]) W := by kernel_rfl

theorem body_leaf (w : World) (B : Nat) (x : List UInt8) (T : TypeId) (b : Nat) (t : Tm) (hT : T = 86 ∨ T = 91) (h : TV w B t (.iface T (.pointer (some ⟨b, 0, none⟩)))) :
    Calls Tryz.prog 129 #[.iface T (.pointer (some ⟨b, 0, none⟩)), str x] w (BodyPost w B (.without t)) := by
  have HT := Lib.hid h
  clear h
  have ha1 := assert_k w (.pointer (some ⟨b, 0, none⟩))
  have ha2 := assert_s w (.pointer (some ⟨b, 0, none⟩))
  have ha3 := assert_nm_k w (.pointer (some ⟨b, 0, none⟩))
  have ha4 := assert_nm_s w (.pointer (some ⟨b, 0, none⟩))
  rcases hT with rfl | rfl
  all_goals
    go_enter Tryz.func129, Tryz.ntmps129
    go_wp2_with fail
    go_ret
    exact ⟨_, rfl, Below.refl _ _, _, rfl, HT.out⟩

theorem body_name (w : World) (B : Nat) (x n : List UInt8) (b : Nat) (h : TV w B (.nm n) (.iface 122 (.pointer (some ⟨b, 0, none⟩)))) :
    Calls Tryz.prog 129 #[.iface 122 (.pointer (some ⟨b, 0, none⟩)), str x] w (BodyPost w B (Bd.of x (.nm n))) := by
  have HT := Lib.hid h
  obtain ⟨b', fr, hv, hb, hh⟩ := h
  injection hv with _ hv
  injection hv with hv
  injection hv with hv
  injection hv with hv _ _
  subst hv
  have c0 : w.cell? ⟨b, 0, none⟩ = some (str n) := cell_of_heap hh
  have ha1 := assert_nm_n w (.pointer (some ⟨b, 0, none⟩))
  have ha2 := assert_n w (.pointer (some ⟨b, 0, none⟩))
  clear hh
  by_cases hn : n = x
  · subst hn
    rw [show Bd.of n (.nm n) = .itself by simp [Bd.of]]
    go_enter Tryz.func129, Tryz.ntmps129
    go_wp2_with fail
    go_ret
    exact ⟨_, rfl, Below.refl _ _, rfl⟩
  · have hne : (n == x) = false := beq_eq_false_iff_ne.2 hn
    rw [show Bd.of x (.nm n) = .without (.nm n) by simp [Bd.of, hn]]
    clear hn
    go_enter Tryz.func129, Tryz.ntmps129
    go_wp2_with fail
    go_ret
    exact ⟨_, rfl, Below.refl _ _, _, rfl, HT.out⟩

/-- What is known when the parts of an application are looked at. -/
theorem body_parts (W : World) (B b : Nat) (x : List UInt8) (f a : Tm) (b1 b2 : Bd) (T1 T2 : TypeId) (x1 x2 : Value) (hT : TV W B (.app f a) (.iface 108 (.pointer (some ⟨b, 0, none⟩)))) (hTf : TV W B f (.iface T1 x1))
    (h0 : ∀ W', Below W.heap.size W W' → W'.cell? ⟨b, 0, none⟩ = some (.iface T1 x1)) (h1 : ∀ W', Below W.heap.size W W' → W'.cell? ⟨b, 1, none⟩ = some (.iface T2 x2))
    (hf : ∀ W', Below W.heap.size W W' → Calls Tryz.prog 129 #[.iface T1 x1, str x] W' (BodyPost W' B b1))
    (ha : ∀ W', Below W.heap.size W W' → Calls Tryz.prog 129 #[.iface T2 x2, str x] W' (BodyPost W' B b2)) :
    Calls Tryz.prog 139 #[.pointer (some ⟨b, 0, none⟩), str x] W (BodyPost W B (Bd.comb f a b1 b2)) := by
  have hself := Below.refl W.heap.size W
  have HT := Lib.hid hT
  have HTF := Lib.hid hTf
  clear hT hTf
  unfold BodyPost at hf ha
  cases b1 with
  | itself =>
    rw [show Bd.comb f a .itself b2 = .inside .itself b2 by cases b2 <;> rfl]
    go_enter Tryz.func139, Tryz.ntmps139
    go_wp2_with fail
    go_region_held3 (fun W' => Below W.heap.size W W') (first | assumption | exact hself.drew | go_keep)
      (first
        | (go_at_call_of 129 x1; refine (hf _ (by first | assumption | exact hself.drew)).mono ?_; rintro e w1 ⟨r1, rfl, hb1, hv1⟩; (obtain rfl : r1 = .iface 154 (.agg #[]) := hv1); have hb1' := below_trans (by first | assumption | exact hself.drew) hb1)
        | (go_at_call_of 129 x2; refine (ha _ (by assumption)).mono ?_; rintro e w2 ⟨r2, rfl, hb2, hv2⟩; obtain ⟨T4, x4, rfl⟩ := hv2.form; have HV2 := Lib.hid hv2; clear hv2; have hb2' := below_trans (by assumption) hb2))
    all_goals
      have has := fun W' => assert_wo_i W' (.agg #[])
      go_wp2_with fail
      go_ret
      exact ⟨_, rfl, (hb2'.alloc hb2'.size _), _, _, rfl, rfl, HV2.out.below (below_new _ _)⟩
  | atEnd t =>
    rw [show Bd.comb f a (.atEnd t) b2 = .inside (.atEnd t) b2 by cases b2 <;> rfl]
    go_enter Tryz.func139, Tryz.ntmps139
    go_wp2_with fail
    go_region_held3 (fun W' => Below W.heap.size W W') (first | assumption | exact hself.drew | go_keep)
      (first
        | (go_at_call_of 129 x1; refine (hf _ (by first | assumption | exact hself.drew)).mono ?_; rintro e w1 ⟨r1, rfl, hb1, hv1⟩; obtain ⟨y1, rfl, hy1⟩ := hv1; have HY1 := Lib.hid hy1; clear hy1; have hb1' := below_trans (by first | assumption | exact hself.drew) hb1)
        | (go_at_call_of 129 x2; refine (ha _ (by assumption)).mono ?_; rintro e w2 ⟨r2, rfl, hb2, hv2⟩; obtain ⟨T4, x4, rfl⟩ := hv2.form; have HV2 := Lib.hid hv2; clear hv2; have hb2' := below_trans (by assumption) hb2))
    all_goals
      have has := fun W' => assert_wo_e W' (.agg #[y1])
      go_wp2_with fail
      go_ret
      exact ⟨_, rfl, (hb2'.alloc hb2'.size _), _, _, rfl, ⟨_, rfl, HY1.out.below (below_trans hb2 (below_new _ _))⟩, HV2.out.below (below_new _ _)⟩
  | inside c d =>
    rw [show Bd.comb f a (.inside c d) b2 = .inside (.inside c d) b2 by cases b2 <;> rfl]
    go_enter Tryz.func139, Tryz.ntmps139
    go_wp2_with fail
    go_region_held3 (fun W' => Below W.heap.size W W') (first | assumption | exact hself.drew | go_keep)
      (first
        | (go_at_call_of 129 x1; refine (hf _ (by first | assumption | exact hself.drew)).mono ?_; rintro e w1 ⟨r1, rfl, hb1, hv1⟩; obtain ⟨y1, z1, rfl, hy1, hz1⟩ := hv1; have HY1 := Lib.hid hy1; have HZ1 := Lib.hid hz1; clear hy1 hz1; have hb1' := below_trans (by first | assumption | exact hself.drew) hb1)
        | (go_at_call_of 129 x2; refine (ha _ (by assumption)).mono ?_; rintro e w2 ⟨r2, rfl, hb2, hv2⟩; obtain ⟨T4, x4, rfl⟩ := hv2.form; have HV2 := Lib.hid hv2; clear hv2; have hb2' := below_trans (by assumption) hb2))
    all_goals
      have has := fun W' => assert_wo_s W' (.agg #[y1, z1])
      go_wp2_with fail
      go_ret
      exact ⟨_, rfl, (hb2'.alloc hb2'.size _), _, _, rfl, ⟨_, _, rfl, HY1.out.below (below_trans hb2 (below_new _ _)), HZ1.out.below (below_trans hb2 (below_new _ _))⟩, HV2.out.below (below_new _ _)⟩
  | without t =>
    cases b2 with
    | itself =>
      rw [show Bd.comb f a (.without t) .itself = .atEnd f from rfl]
      go_enter Tryz.func139, Tryz.ntmps139
      go_wp2_with fail
      go_region_held3 (fun W' => Below W.heap.size W W') (first | assumption | exact hself.drew | go_keep)
        (first
          | (go_at_call_of 129 x1; refine (hf _ (by first | assumption | exact hself.drew)).mono ?_; rintro e w1 ⟨r1, rfl, hb1, hv1⟩; obtain ⟨y1, rfl, hy1⟩ := hv1; obtain ⟨S1, z1, rfl, _⟩ := hy1.asks; clear hy1; have hb1' := below_trans (by first | assumption | exact hself.drew) hb1)
          | (go_at_call_of 129 x2; refine (ha _ (by assumption)).mono ?_; rintro e w2 ⟨r2, rfl, hb2, hv2⟩; (obtain rfl : r2 = .iface 154 (.agg #[]) := hv2); have hb2' := below_trans (by assumption) hb2))
      all_goals
        have has := fun W' => assert_wo_w W' (.iface S1 z1)
        have has2 := fun W' => assert_wo_i W' (.agg #[])
        have has3 := assert_it_i
        have h0' := h0 _ (hb2'.alloc hb2'.size (.cells #[.iface S1 z1] 156))
        go_wp2_with fail
        go_ret
        exact ⟨_, rfl, (hb2'.alloc hb2'.size _), _, rfl, HTF.out.below (hb2'.alloc hb2'.size _)⟩
    | atEnd u =>
      rw [show Bd.comb f a (.without t) (.atEnd u) = .inside (.without t) (.atEnd u) from rfl]
      go_enter Tryz.func139, Tryz.ntmps139
      go_wp2_with fail
      go_region_held3 (fun W' => Below W.heap.size W W') (first | assumption | exact hself.drew | go_keep)
        (first
          | (go_at_call_of 129 x1; refine (hf _ (by first | assumption | exact hself.drew)).mono ?_; rintro e w1 ⟨r1, rfl, hb1, hv1⟩; obtain ⟨y1, rfl, hy1⟩ := hv1; obtain ⟨S1, z1, rfl, _⟩ := hy1.asks; have HY1 := Lib.hid hy1; clear hy1; have hb1' := below_trans (by first | assumption | exact hself.drew) hb1)
          | (go_at_call_of 129 x2; refine (ha _ (by assumption)).mono ?_; rintro e w2 ⟨r2, rfl, hb2, hv2⟩; obtain ⟨y2, rfl, hy2⟩ := hv2; have HY2 := Lib.hid hy2; clear hy2; have hb2' := below_trans (by assumption) hb2))
      all_goals
        have has := fun W' => assert_wo_w W' (.iface S1 z1)
        have has2 := fun W' => assert_wo_e W' (.agg #[y2])
        have has3 := fun W' => assert_it_e W' (.agg #[y2])
        go_wp2_with fail
        go_ret
        exact ⟨_, rfl, (hb2'.alloc hb2'.size _), _, _, rfl, ⟨_, rfl, HY1.out.below (below_trans hb2 (below_new _ _))⟩, ⟨_, rfl, HY2.out.below (below_new _ _)⟩⟩
    | inside c d =>
      rw [show Bd.comb f a (.without t) (.inside c d) = .inside (.without t) (.inside c d) from rfl]
      go_enter Tryz.func139, Tryz.ntmps139
      go_wp2_with fail
      go_region_held3 (fun W' => Below W.heap.size W W') (first | assumption | exact hself.drew | go_keep)
        (first
          | (go_at_call_of 129 x1; refine (hf _ (by first | assumption | exact hself.drew)).mono ?_; rintro e w1 ⟨r1, rfl, hb1, hv1⟩; obtain ⟨y1, rfl, hy1⟩ := hv1; obtain ⟨S1, z1, rfl, _⟩ := hy1.asks; have HY1 := Lib.hid hy1; clear hy1; have hb1' := below_trans (by first | assumption | exact hself.drew) hb1)
          | (go_at_call_of 129 x2; refine (ha _ (by assumption)).mono ?_; rintro e w2 ⟨r2, rfl, hb2, hv2⟩; obtain ⟨y2, z2, rfl, hy2, hz2⟩ := hv2; have HY2 := Lib.hid hy2; have HZ2 := Lib.hid hz2; clear hy2 hz2; have hb2' := below_trans (by assumption) hb2))
      all_goals
        have has := fun W' => assert_wo_w W' (.iface S1 z1)
        have has2 := fun W' => assert_wo_s W' (.agg #[y2, z2])
        have has3 := fun W' => assert_it_s W' (.agg #[y2, z2])
        go_wp2_with fail
        go_ret
        exact ⟨_, rfl, (hb2'.alloc hb2'.size _), _, _, rfl, ⟨_, rfl, HY1.out.below (below_trans hb2 (below_new _ _))⟩, ⟨_, _, rfl, HY2.out.below (below_new _ _), HZ2.out.below (below_new _ _)⟩⟩
    | without u =>
      rw [show Bd.comb f a (.without t) (.without u) = .without (.app f a) from rfl]
      go_enter Tryz.func139, Tryz.ntmps139
      go_wp2_with fail
      go_region_held3 (fun W' => Below W.heap.size W W') (first | assumption | exact hself.drew | go_keep)
        (first
          | (go_at_call_of 129 x1; refine (hf _ (by first | assumption | exact hself.drew)).mono ?_; rintro e w1 ⟨r1, rfl, hb1, hv1⟩; obtain ⟨y1, rfl, hy1⟩ := hv1; obtain ⟨S1, z1, rfl, _⟩ := hy1.asks; clear hy1; have hb1' := below_trans (by first | assumption | exact hself.drew) hb1)
          | (go_at_call_of 129 x2; refine (ha _ (by assumption)).mono ?_; rintro e w2 ⟨r2, rfl, hb2, hv2⟩; obtain ⟨y2, rfl, hy2⟩ := hv2; obtain ⟨S2, z2, rfl, _⟩ := hy2.asks; clear hy2; have hb2' := below_trans (by assumption) hb2))
      all_goals
        have has := fun W' => assert_wo_w W' (.iface S1 z1)
        have has2 := fun W' => assert_wo_w W' (.iface S2 z2)
        go_wp2_with fail
        go_ret
        exact ⟨_, rfl, (hb2'.alloc hb2'.size _), _, rfl, HT.out.below (hb2'.alloc hb2'.size _)⟩
end Go.Proofs.YtfjohagdlaiapaaGreat

namespace Go.Proofs.YtfjohagdlaiapaaGreat
open Go.RowKit

set_option maxHeartbeats 400000
set_option maxRecDepth 100000

theorem deep_atom (w : World) (s : List UInt8) (v : Value) (hs : s ≠ []) :
    Calls Tryz.prog 84 #[.agg #[str s, v]] w fun e w' => e = .returned (.int .i64 0) ∧ After w w' := by
  have he : s.isEmpty = false := by cases s with | nil => exact absurd rfl hs | cons => rfl
  clear hs
  go_enter Tryz.func84, Tryz.ntmps84
  go_wp2_with fail
  go_ret
  exact ⟨rfl, After.new _ _⟩

theorem deep_app (w : World) (g cap : Nat) (fr : Nat × Nat) (s0 s1 : List UInt8) (a0 a1 : Option Addr) (n0 c0 n1 c1 : Nat) (f a : Tm) (hh : w.heap[g]? = some (.cells #[str s0, .slice a0 n0 c0, str s1, .slice a1 n1 c1] 55 fr))
    (hf : ∀ W, After w W → Calls Tryz.prog 84 #[.agg #[str s0, .slice a0 n0 c0]] W fun e w' => e = .returned (.int .i64 (f.depth : Nat)) ∧ After W w')
    (ha : ∀ W, After w W → Calls Tryz.prog 84 #[.agg #[str s1, .slice a1 n1 c1]] W fun e w' => e = .returned (.int .i64 (a.depth : Nat)) ∧ After W w') (hz : f.depth + a.depth ≤ 1000000000000) :
    Calls Tryz.prog 84 #[.agg #[str [], .slice (some ⟨g, 0, none⟩) 2 cap]] w fun e w' => e = .returned (.int .i64 ((f.app a).depth : Nat)) ∧ After w w' := by
  obtain ⟨hnew, hself, b0, b1, g0, g1, g2, g3⟩ := kid_facts w g cap fr s0 s1 a0 a1 n0 c0 n1 c1 hh
  have hdd : (((f.app a).depth : Nat) : Int) = 1 + max (f.depth : Int) (a.depth : Int) := by simp only [Tm.depth]; omega
  rw [hdd]
  clear hdd
  have hw1 : IntKind.i64.wrap (1 + (f.depth : Int)) = 1 + (f.depth : Int) := IntWalk.i64_in _ (by omega)
  have hw2 : IntKind.i64.wrap (1 + (a.depth : Int)) = 1 + (a.depth : Int) := IntWalk.i64_in _ (by omega)
  have HD := Lib.hid hz
  go_enter Tryz.func84, Tryz.ntmps84
  go_wp2_with fail
  go_region_held3 (fun W' => After (w.alloc (.cells #[str [], .slice (some ⟨g, 0, none⟩) 2 cap] 55)) W') (first | assumption | exact hself.drew | go_keep)
    (first
      | (go_at_call_of 84 a0; refine (hf _ (hnew.trans (by assumption))).mono ?_; rintro e w1 ⟨rfl, hb1⟩; have hb1' := After.trans (by assumption) hb1)
      | (go_at_call_of 84 a1; refine (ha _ (hnew.trans (by assumption))).mono ?_; rintro e w2 ⟨rfl, hb2⟩; have hb2' := After.trans (by assumption) hb2))
  go_wp2_with fail
  all_goals
    go_ret
    exact ⟨congrArg Ending.returned (congrArg (Value.int .i64) (by omega)), hnew.trans hb2'⟩

theorem text_atom (w : World) (s : List UInt8) (v : Value) (hs : s ≠ []) :
    Calls Tryz.prog 59 #[.agg #[str s, v]] w fun e w' => e = .returned (str s) ∧ After w w' := by
  have he : s.isEmpty = false := by cases s with | nil => exact absurd rfl hs | cons => rfl
  clear hs
  go_enter Tryz.func59, Tryz.ntmps59
  go_wp2_with fail
  go_ret
  exact ⟨rfl, After.new _ _⟩

theorem cat (a b : ByteArray) (h : a.size + b.size ≤ 1000000000000) : ∃ c : ByteArray, c.data.toList = a.data.toList ++ b.data.toList ∧ c.size = a.size + b.size ∧ ∀ W, (Op.stringOp .add a b).run Tryz.prog W = .ok (.string c) W :=
  ⟨a ++ b, by simp, by simp, fun W => run_string_add_sum W a b (by omega)⟩

theorem text_app (w : World) (g cap : Nat) (fr : Nat × Nat) (s0 s1 : List UInt8) (a0 a1 : Option Addr) (n0 c0 n1 c1 : Nat) (f a : Tm) (hh : w.heap[g]? = some (.cells #[str s0, .slice a0 n0 c0, str s1, .slice a1 n1 c1] 55 fr))
    (hf : ∀ W, After w W → Calls Tryz.prog 59 #[.agg #[str s0, .slice a0 n0 c0]] W fun e w' => e = .returned (str f.text) ∧ After W w')
    (ha : ∀ W, After w W → Calls Tryz.prog 59 #[.agg #[str s1, .slice a1 n1 c1]] W fun e w' => e = .returned (str a.text) ∧ After W w') (hz : f.text.length + a.text.length ≤ 1000000000) :
    Calls Tryz.prog 59 #[.agg #[str [], .slice (some ⟨g, 0, none⟩) 2 cap]] w fun e w' => e = .returned (str (f.app a).text) ∧ After w w' := by
  obtain ⟨hnew, hself, b0, b1, g0, g1, g2, g3⟩ := kid_facts w g cap fr s0 s1 a0 a1 n0 c0 n1 c1 hh
  have zf : (⟨f.text.toArray⟩ : ByteArray).size = f.text.length := by show f.text.toArray.size = _; simp
  have za : (⟨a.text.toArray⟩ : ByteArray).size = a.text.length := by show a.text.toArray.size = _; simp
  have q1 : (⟨#[40]⟩ : ByteArray).size = 1 := rfl
  have q2 : (⟨#[32]⟩ : ByteArray).size = 1 := rfl
  have q3 : (⟨#[41]⟩ : ByteArray).size = 1 := rfl
  obtain ⟨t1, l1, z1, e1⟩ := cat ⟨#[40]⟩ ⟨f.text.toArray⟩ (by omega)
  obtain ⟨t2, l2, z2, e2⟩ := cat t1 ⟨#[32]⟩ (by omega)
  obtain ⟨t3, l3, z3, e3⟩ := cat t2 ⟨a.text.toArray⟩ (by omega)
  obtain ⟨t4, l4, z4, e4⟩ := cat t3 ⟨#[41]⟩ (by omega)
  have hfin : str (f.app a).text = .string t4 := by
    refine congrArg Value.string (ByteArray.ext (Array.ext' ?_))
    rw [l4, l3, l2, l1]
    simp [Tm.text]
  rw [hfin]
  clear hfin zf za q1 q2 q3 l1 l2 l3 l4 z1 z2 z3 z4

  go_enter Tryz.func59, Tryz.ntmps59
  go_wp2_with fail
  go_region_held3 (fun W' => After (w.alloc (.cells #[str [], .slice (some ⟨g, 0, none⟩) 2 cap] 55)) W') (first | assumption | exact hself.drew | go_keep)
    (first
      | (go_at_call_of 59 a0; refine (hf _ (hnew.trans (by assumption))).mono ?_; rintro e w1 ⟨rfl, hb1⟩; have hb1' := After.trans (by assumption) hb1)
      | (go_at_call_of 59 a1; refine (ha _ (hnew.trans (by assumption))).mono ?_; rintro e w2 ⟨rfl, hb2⟩; have hb2' := After.trans (by assumption) hb2))
  go_wp2_with fail
  go_ret
  exact ⟨rfl, hnew.trans hb2'⟩

theorem ST.deep {t : Tm} : ∀ {w : World} {v : Value}, ST w t v → t.good = true → t.size ≤ 1000000000 → Calls Tryz.prog 84 #[v] w fun e w' => e = .returned (.int .i64 (t.depth : Nat)) ∧ After w w' := by
  induction t with
  | k => intro w v h _ _; simp only [ST] at h; subst h; exact deep_atom w _ _ (by simp [Tm.text])
  | s => intro w v h _ _; simp only [ST] at h; subst h; exact deep_atom w _ _ (by simp [Tm.text])
  | nm n => intro w v h hg _; simp only [ST] at h; subst h; exact deep_atom w _ _ (Tm.text_ne _ hg)
  | app f a ihf iha =>
    intro w v h hg hz
    obtain ⟨g, cap, fr, s0, p0, s1, p1, rfl, hh, hf, ha⟩ := h
    simp only [Tm.good, Bool.and_eq_true] at hg
    have d1 := Tm.depth_lt f; have d2 := Tm.depth_lt a; simp only [Tm.size] at hz
    obtain ⟨x0, a0, n0, c0, e0⟩ := hf.form
    obtain ⟨x1, a1, n1, c1, e1⟩ := ha.form
    simp only [Value.agg.injEq, Array.mk.injEq, List.cons.injEq, and_true] at e0 e1
    obtain ⟨rfl, rfl⟩ := e0
    obtain ⟨rfl, rfl⟩ := e1
    exact deep_app w g cap fr x0 x1 a0 a1 n0 c0 n1 c1 f a hh (fun W hW => ihf (hf.later hW) hg.1 (by omega)) (fun W hW => iha (ha.later hW) hg.2 (by omega)) (by omega)

theorem ST.text {t : Tm} : ∀ {w : World} {v : Value}, ST w t v → t.good = true → t.text.length ≤ 100000000 → Calls Tryz.prog 59 #[v] w fun e w' => e = .returned (str t.text) ∧ After w w' := by
  induction t with
  | k => intro w v h _ _; simp only [ST] at h; subst h; exact text_atom w _ _ (by simp [Tm.text])
  | s => intro w v h _ _; simp only [ST] at h; subst h; exact text_atom w _ _ (by simp [Tm.text])
  | nm n => intro w v h hg _; simp only [ST] at h; subst h; exact text_atom w _ _ (Tm.text_ne _ hg)
  | app f a ihf iha =>
    intro w v h hg hz
    obtain ⟨g, cap, fr, s0, p0, s1, p1, rfl, hh, hf, ha⟩ := h
    simp only [Tm.good, Bool.and_eq_true] at hg
    simp only [Tm.text, List.length_cons, List.length_append, List.length_nil] at hz
    obtain ⟨x0, a0, n0, c0, e0⟩ := hf.form
    obtain ⟨x1, a1, n1, c1, e1⟩ := ha.form
    simp only [Value.agg.injEq, Array.mk.injEq, List.cons.injEq, and_true] at e0 e1
    obtain ⟨rfl, rfl⟩ := e0
    obtain ⟨rfl, rfl⟩ := e1
    exact text_app w g cap fr x0 x1 a0 a1 n0 c0 n1 c1 f a hh (fun W hW => ihf (hf.later hW) hg.1 (by omega)) (fun W hW => iha (ha.later hW) hg.2 (by omega)) (by omega)

theorem ST.fine {t : Tm} {w : World} {v : Value} (h : ST w t v) (hg : t.good = true) (hz : t.size ≤ 1000000000) :
    Calls Tryz.prog 57 #[v] w fun e w' => e = .returned (.bool t.fits) ∧ After w w' := by
  obtain ⟨x, ao, n, c, rfl⟩ := h.form
  have hnew := After.new w (.cells #[str x, .slice ao n c] 55)
  have hbox := heap_new' w (.cells #[str x, .slice ao n c] 55)
  have b0 : ∀ W, After (w.alloc (.cells #[str x, .slice ao n c] 55)) W → W.cell? ⟨w.heap.size, 0, none⟩ = some (str x) := fun W hW => hW.cell (cell_of_heap hbox)
  have b1 : ∀ W, After (w.alloc (.cells #[str x, .slice ao n c] 55)) W → W.cell? ⟨w.heap.size, 1, none⟩ = some (.slice ao n c) := fun W hW => hW.cell (cell_of_heap hbox)
  have hself := After.refl (w.alloc (.cells #[str x, .slice ao n c] 55))
  have hsize : ∀ W, After (w.alloc (.cells #[str x, .slice ao n c] 55)) W → Calls Tryz.prog 55 #[.agg #[str x, .slice ao n c]] W fun e w' => e = .returned (.int .i64 (t.size : Nat)) ∧ After (w.alloc (.cells #[str x, .slice ao n c] 55)) w' :=
    fun W hW => ((h.later (hnew.trans hW)).size hg hz).mono fun e w' ⟨he, hb⟩ => ⟨he, hW.trans hb⟩
  have hdeep : ∀ W, After (w.alloc (.cells #[str x, .slice ao n c] 55)) W → Calls Tryz.prog 84 #[.agg #[str x, .slice ao n c]] W fun e w' => e = .returned (.int .i64 (t.depth : Nat)) ∧ After (w.alloc (.cells #[str x, .slice ao n c] 55)) w' :=
    fun W hW => ((h.later (hnew.trans hW)).deep hg hz).mono fun e w' ⟨he, hb⟩ => ⟨he, hW.trans hb⟩
  clear hbox
  by_cases h1 : t.size ≤ 3000
  · by_cases h2 : t.depth ≤ 1500
    · have hf : t.fits = true := by simp [Tm.fits, h1, h2]
      rw [hf]
      clear hf
      go_enter Tryz.func57, Tryz.ntmps57
      go_wp2_with (first
        | (go_at_call 55; refine (hsize _ (by assumption)).mono ?_; rintro e w1 ⟨rfl, hb⟩)
        | (go_at_call 84; refine (hdeep _ (by assumption)).mono ?_; rintro e w1 ⟨rfl, hb⟩))
      go_ret
      exact ⟨by simp; omega, hnew.trans hb⟩
    · have hf : t.fits = false := by simp [Tm.fits, h2]
      rw [hf]
      clear hf
      go_enter Tryz.func57, Tryz.ntmps57
      go_wp2_with (first
        | (go_at_call 55; refine (hsize _ (by assumption)).mono ?_; rintro e w1 ⟨rfl, hb⟩)
        | (go_at_call 84; refine (hdeep _ (by assumption)).mono ?_; rintro e w1 ⟨rfl, hb⟩))
      go_ret
      exact ⟨by simp; omega, hnew.trans hb⟩
  · have hf : t.fits = false := by simp [Tm.fits, h1]
    rw [hf]
    clear hf
    go_enter Tryz.func57, Tryz.ntmps57
    go_wp2_with (first
      | (go_at_call 55; refine (hsize _ (by assumption)).mono ?_; rintro e w1 ⟨rfl, hb⟩)
      | (go_at_call 84; refine (hdeep _ (by assumption)).mono ?_; rintro e w1 ⟨rfl, hb⟩))
    go_ret
    exact ⟨by simp, hnew.trans hb⟩
end Go.Proofs.YtfjohagdlaiapaaGreat

namespace Go.Proofs.YtfjohagdlaiapaaGreat
open Go.RowKit

set_option maxHeartbeats 400000
set_option maxRecDepth 100000

theorem in_any (w : World) (n lo hi : Int) : Calls Tryz.prog 130 #[.int .i64 n, .int .i64 lo, .int .i64 hi] w fun e w' => e = .returned (.bool (decide (lo ≤ n ∧ n ≤ hi))) ∧ w = w' := by
  by_cases h1 : lo ≤ n
  · by_cases h2 : n ≤ hi
    · rw [show decide (lo ≤ n ∧ n ≤ hi) = true by simp [h1, h2]]
      go_enter Tryz.func130, Tryz.ntmps130
      go_wp2_with fail
      go_ret
      exact ⟨by simp, rfl⟩
    · rw [show decide (lo ≤ n ∧ n ≤ hi) = false by simp [h2]]
      go_enter Tryz.func130, Tryz.ntmps130
      go_wp2_with fail
      go_ret
      exact ⟨by simp, rfl⟩
  · rw [show decide (lo ≤ n ∧ n ≤ hi) = false by simp [h1]]
    go_enter Tryz.func130, Tryz.ntmps130
    go_wp2_with fail
    go_ret
    exact ⟨by simp, rfl⟩

theorem s_name (w : World) (l : List UInt8) (hl : l.length ≤ 1000000000) : Calls Tryz.prog 104 #[str l] w fun e w' => e = .returned (.bool (Tm.nameOk l)) ∧ w = w' := by
  have hsz : (⟨l.toArray⟩ : ByteArray).size = l.length := by show l.toArray.size = _; simp
  have hin := in_any w (l.length : Nat) 1 4
  by_cases hlen : 1 ≤ l.length ∧ l.length ≤ 4
  · rw [show decide ((1 : Int) ≤ ((l.length : Nat) : Int) ∧ ((l.length : Nat) : Int) ≤ 4) = true by rw [decide_eq_true_eq]; omega] at hin
    cases hcs : l with
    | nil => rw [hcs] at hlen; simp at hlen
    | cons c ds =>
      rw [← hcs]
      have hpos : 0 < l.length := by omega
      have hat : (⟨l.toArray⟩ : ByteArray)[0]'(by rw [hsz]; exact hpos) = c := by rw [byte_at l 0 hpos]; simp [hcs]
      have hok : Tm.nameOk l = (Tm.lead c && (l.drop 1).all Tm.dig) := by
        have : ds.length ≤ 3 := by have := hlen.2; rw [hcs] at this; simp at this; omega
        rw [hcs]; simp [Tm.nameOk, this]
      obtain ⟨hlen1, hlen4⟩ := hlen
      clear hcs
      by_cases hlead : Tm.lead c = true
      · have hfin : Hid (Tm.nameOk l = (l.drop 1).all Tm.dig) := by show _ = _; rw [hok, hlead]; rfl
        obtain ⟨hl1, hl2⟩ := (lead_int c).1 hlead
        clear hok hlead
        go_enter Tryz.func104, Tryz.ntmps104
        go_wp2_with (go_at_call 130; refine hin.mono ?_; rintro e w' ⟨rfl, rfl⟩)
        go_loop [3] (fun n => ∃ k : Nat, 1 ≤ k ∧ k ≤ l.length ∧ n = .int .i64 k ∧ Hid (Tm.nameOk l = (l.drop k).all Tm.dig)) (fun n => l.length - (intOf n).toNat)
        case atStart => exact ⟨1, by omega, by omega, rfl, hfin⟩
        case round =>
          obtain ⟨k, hk1, hkl, rfl, hk⟩ := hrel
          clear hat hfin
          by_cases hlt : k < l.length
          · have hatk := byte_at l k hlt (by rw [hsz]; exact hlt)
            have hdrop := List.drop_eq_getElem_cons hlt
            by_cases hd : Tm.dig l[k] = true
            · have HS : Hid (Tm.nameOk l = (l.drop (k + 1)).all Tm.dig) := by show _ = _; rw [hk.out, hdrop, List.all_cons, hd]; rfl
              obtain ⟨hd1, hd2⟩ := (dig_int _).1 hd
              rw [← hatk] at hd1 hd2
              clear hd hdrop hatk hk
              go_wp2_with fail
              go_round
              case rel => exact ⟨k + 1, by omega, by omega, by go_num, HS⟩
              case measure => simp [intOf]; omega
            · have HS : Hid (Tm.nameOk l = false) := by show _ = _; rw [hk.out, hdrop, List.all_cons]; simp [hd]
              rw [dig_int, ← hatk] at hd
              clear hdrop hatk hk
              by_cases hd1 : (48 : Int) ≤ (((⟨l.toArray⟩ : ByteArray)[k]'(by rw [hsz]; exact hlt)).toNat : Int)
              · have hd2 : (57 : Int) < (((⟨l.toArray⟩ : ByteArray)[k]'(by rw [hsz]; exact hlt)).toNat : Int) := by
                  have := fun h => hd ⟨hd1, h⟩
                  omega
                clear hd
                go_wp2_with fail
                go_ret
                exact ⟨by rw [HS.out]; rfl, rfl⟩
              · have hd2 : (((⟨l.toArray⟩ : ByteArray)[k]'(by rw [hsz]; exact hlt)).toNat : Int) < 48 := by omega
                clear hd hd1
                go_wp2_with fail
                go_ret
                exact ⟨by rw [HS.out]; rfl, rfl⟩
          · have HS : Hid (Tm.nameOk l = true) := by show _ = _; rw [hk.out, List.drop_eq_nil_of_le (by omega)]; rfl
            clear hk
            go_wp2_with fail
            go_ret
            exact ⟨by rw [HS.out]; rfl, rfl⟩
      · have hfin : Tm.nameOk l = false := by rw [hok]; simp [hlead]
        rw [hfin]
        rw [lead_int] at hlead
        clear hfin hok
        by_cases h1 : (c.toNat : Int) < 117
        · go_enter Tryz.func104, Tryz.ntmps104
          go_wp2_with (go_at_call 130; refine hin.mono ?_; rintro e w' ⟨rfl, rfl⟩)
          go_ret
          exact ⟨rfl, rfl⟩
        · have h2 : (122 : Int) < (c.toNat : Int) := by omega
          clear hlead
          go_enter Tryz.func104, Tryz.ntmps104
          go_wp2_with (go_at_call 130; refine hin.mono ?_; rintro e w' ⟨rfl, rfl⟩)
          go_ret
          exact ⟨rfl, rfl⟩
  · rw [show decide ((1 : Int) ≤ ((l.length : Nat) : Int) ∧ ((l.length : Nat) : Int) ≤ 4) = false by rw [decide_eq_false_iff_not]; omega] at hin
    have hfin : Tm.nameOk l = false := by
      cases hcs : l with
      | nil => rfl
      | cons c ds =>
        rw [hcs] at hlen
        simp at hlen
        have : ¬ ds.length ≤ 3 := by omega
        simp [Tm.nameOk, this]
    rw [hfin]
    clear hfin hlen
    go_enter Tryz.func104, Tryz.ntmps104
    go_wp2_with (go_at_call 130; refine hin.mono ?_; rintro e w' ⟨rfl, rfl⟩)
    go_ret
    exact ⟨rfl, rfl⟩

theorem atomEnd_mid (l : List UInt8) (k : Nat) (h : k < l.length) (hm : Tm.mid l[k] = true) : Tm.atomEnd l k = Tm.atomEnd l (k + 1) := by
  unfold Tm.atomEnd
  rw [List.drop_eq_getElem_cons h, List.takeWhile_cons]
  unfold Tm.mid at hm
  rw [hm]
  simp
  omega

theorem atomEnd_stop (l : List UInt8) (k : Nat) (h : k < l.length → Tm.mid (l.getD k 0) = false) : Tm.atomEnd l k = k := by
  unfold Tm.atomEnd
  by_cases hk : k < l.length
  · have hm := h hk
    rw [List.getD_eq_getElem?_getD, List.getElem?_eq_getElem hk] at hm
    rw [List.drop_eq_getElem_cons hk, List.takeWhile_cons]
    unfold Tm.mid at hm
    simp only [Option.getD_some] at hm
    rw [hm]
    simp
  · rw [List.drop_eq_nil_of_le (by omega)]
    simp

theorem byte_ne_lit (x : UInt8) (n : Nat) (h : n < 256) : ((x.toNat : Int) != (n : Int)) = (x != UInt8.ofNat n) := by
  have := byte_ne x (UInt8.ofNat n)
  rw [UInt8.toNat_ofNat_of_lt' (by simpa using h)] at this
  exact this

theorem s_atom (w : World) (l : List UInt8) (i : Nat) (hl : l.length ≤ 1000000000) (hi : i ≤ l.length) :
    Calls Tryz.prog 73 #[str l, .int .i64 i] w fun e w' => e = .returned (.int .i64 (Tm.atomEnd l i : Nat)) ∧ w = w' := by
  have hsz : (⟨l.toArray⟩ : ByteArray).size = l.length := by show l.toArray.size = _; simp
  go_enter Tryz.func73, Tryz.ntmps73
  go_wp2_with fail
  go_loop [1] (fun n => ∃ k : Nat, i ≤ k ∧ k ≤ l.length ∧ n = .int .i64 k ∧ Hid (Tm.atomEnd l i = Tm.atomEnd l k)) (fun n => l.length - (intOf n).toNat)
  case atStart => exact ⟨i, Nat.le_refl _, hi, rfl, rfl⟩
  case round =>
    obtain ⟨k, hk1, hkl, rfl, hk⟩ := hrel
    by_cases hlt : k < l.length
    · have hatk := byte_at l k hlt (by rw [hsz]; exact hlt)
      have n1 : ((l[k].toNat : Int) != 32) = (l[k] != (32 : UInt8)) := byte_ne_lit l[k] 32 (by omega)
      have n2 : ((l[k].toNat : Int) != 40) = (l[k] != (40 : UInt8)) := byte_ne_lit l[k] 40 (by omega)
      have n3 : ((l[k].toNat : Int) != 41) = (l[k] != (41 : UInt8)) := byte_ne_lit l[k] 41 (by omega)
      rw [← hatk] at n1 n2 n3
      by_cases hm : Tm.mid l[k] = true
      · have HS : Hid (Tm.atomEnd l i = Tm.atomEnd l (k + 1)) := by show _ = _; rw [hk.out, atomEnd_mid l k hlt hm]
        rw [← hatk] at hm
        simp only [Tm.mid, Bool.and_eq_true] at hm
        rw [hm.1.1] at n1
        rw [hm.1.2] at n2
        rw [hm.2] at n3
        clear hm hatk hk
        go_wp2_with fail
        go_round
        case rel => exact ⟨k + 1, by omega, by omega, by go_num, HS⟩
        case measure => simp [intOf]; omega
      · have HS : Hid (Tm.atomEnd l i = k) := by
          show _ = _
          rw [hk.out]
          exact atomEnd_stop l k (fun h => by rw [List.getD_eq_getElem?_getD, List.getElem?_eq_getElem h]; simpa using hm)
        rw [← hatk] at hm
        simp only [Tm.mid, Bool.and_eq_true, not_and, Bool.not_eq_true] at hm
        clear hatk hk
        cases m1 : ((((⟨l.toArray⟩ : ByteArray)[k]'(by rw [hsz]; exact hlt))) != (32 : UInt8)) with
        | false =>
          rw [m1] at n1
          clear m1 hm n2 n3
          go_wp2_with fail
          go_ret
          exact ⟨by rw [HS.out]; rfl, rfl⟩
        | true =>
          rw [m1] at n1
          cases m2 : ((((⟨l.toArray⟩ : ByteArray)[k]'(by rw [hsz]; exact hlt))) != (40 : UInt8)) with
          | false =>
            rw [m2] at n2
            clear m1 m2 hm n3
            go_wp2_with fail
            go_ret
            exact ⟨by rw [HS.out]; rfl, rfl⟩
          | true =>
            have m3 := hm ⟨m1, m2⟩
            rw [m2] at n2
            rw [m3] at n3
            clear m1 m2 m3 hm
            go_wp2_with fail
            go_ret
            exact ⟨by rw [HS.out]; rfl, rfl⟩
    · have HS : Hid (Tm.atomEnd l i = k) := by
        show _ = _
        rw [hk.out]
        exact atomEnd_stop l k (fun h => absurd h hlt)
      clear hk
      go_wp2_with fail
      go_ret
      exact ⟨by rw [HS.out]; rfl, rfl⟩
end Go.Proofs.YtfjohagdlaiapaaGreat

namespace Go.Proofs.YtfjohagdlaiapaaGreat
open Go.RowKit

set_option maxHeartbeats 400000
set_option maxRecDepth 100000

def place : Option (Tm × Nat) → Int
  | some (_, j) => (j : Nat)
  | none => -1

def SReadPost (w : World) (r : Option (Tm × Nat)) (e : Ending) (w' : World) : Prop :=
  ∃ s ao n c, e = .returned (.tuple #[.agg #[str s, .slice ao n c], .int .i64 (place r)]) ∧ After w w' ∧ ∀ t j, r = some (t, j) → ST w' t (.agg #[str s, .slice ao n c])

theorem box2 {w W : World} {x y : Value} {T : TypeId} (h : After (w.alloc (.cells #[x, y] T)) W) :
    W.cell? ⟨w.heap.size, 0, none⟩ = some x ∧ W.cell? ⟨w.heap.size, 1, none⟩ = some y ∧ W.frozen? ⟨w.heap.size, 0, none⟩ = false ∧ W.frozen? ⟨w.heap.size, 1, none⟩ = false ∧ w.heap.size < W.heap.size := by
  have hh := h.heap (heap_new' w (.cells #[x, y] T))
  refine ⟨cell_of_heap hh, cell_of_heap hh, by simp [World.frozen?, hh], by simp [World.frozen?, hh], (Array.getElem?_eq_some_iff.1 hh).1⟩

theorem byte_ne_lit' (x : UInt8) (n : Int) (c : UInt8) (hn : n = (c.toNat : Nat)) (_h : c = c) : ((x.toNat : Int) != n) = (x != c) := by
  subst hn; exact byte_ne x c

theorem ST_atom (w : World) (t : Tm) (h : t.depth = 0) : ST w t (.agg #[str t.text, .slice none 0 0]) := by
  cases t with
  | app f a => simp [Tm.depth] at h
  | k => rfl
  | s => rfl
  | nm n => rfl

theorem After.set {w W : World} {o : Obj} (h : After (w.alloc o) W) (i : Nat) (v : Value) : After w (W.setCell ⟨w.heap.size, i, none⟩ v) :=
  Below.setCell ((After.new w o).trans h) (Nat.le_refl _) v

theorem After.set2 {w W : World} {o : Obj} (h : After (w.alloc o) W) {i j : Nat} {v u : Value} : After w ((W.setCell ⟨w.heap.size, i, none⟩ v).setCell ⟨w.heap.size, j, none⟩ u) :=
  Below.setCell (h.set i v) (Nat.le_refl _) u

theorem SReadPost.no {w w' : World} {r : Option (Tm × Nat)} (hr : r = none) (hb : After w w') : SReadPost w r (.returned (.tuple #[.agg #[.string ⟨#[]⟩, .slice none 0 0], .int .i64 (-1)])) w' :=
  ⟨[], none, 0, 0, by rw [hr]; rfl, hb, fun t j he => by rw [hr] at he; simp at he⟩

theorem heap_new2 (W : World) (n : Nat) (o p : Obj) (h : W.heap.size = n) : ((W.alloc o).alloc p).heap[n + 1]? = some p := by
  have := heap_new' (W.alloc o) p
  rw [show (W.alloc o).heap.size = n + 1 by simp [h]] at this
  exact this

theorem ST.kept {W W' : World} (hk : ∀ (g : Nat) (cs : Array Value) (T : TypeId) (fr : Nat × Nat), cs.size = 4 → W.heap[g]? = some (.cells cs T fr) → W'.heap[g]? = some (.cells cs T fr)) : ∀ {t : Tm} {v : Value}, ST W t v → ST W' t v
  | .k, _, h => h
  | .s, _, h => h
  | .nm _, _, h => h
  | .app _ _, _, ⟨g, cap, fr, s0, p0, s1, p1, hv, hh, hf, ha⟩ => ⟨g, cap, fr, s0, p0, s1, p1, hv, hk _ _ _ _ rfl hh, hf.kept hk, ha.kept hk⟩

theorem ST.sets {w W : World} {x y u u' : Value} {T : TypeId} {t : Tm} {v : Value} (h : ST W t v) (hb : After (w.alloc (.cells #[x, y] T)) W) {i j : Nat} : ST ((W.setCell ⟨w.heap.size, i, none⟩ u).setCell ⟨w.heap.size, j, none⟩ u') t v := by
  have hh := hb.heap (heap_new' w (.cells #[x, y] T))
  refine h.kept fun g cs T' fr hs hg => ?_
  have hne : g ≠ w.heap.size := by
    rintro rfl
    rw [hh] at hg
    injection hg with hg
    injection hg with hg _ _
    subst hg
    simp at hs
  rw [Below.heap_setCell _ _ _ _ hne, Below.heap_setCell _ _ _ _ hne]
  exact hg

set_option maxHeartbeats 8000000 in
theorem s_read (l : List UInt8) (hl : l.length ≤ 1000000000) : ∀ (d : Nat) (i a : Int) (k : Nat) (w : World), i = k → k ≤ l.length → a + d = 1501 → d ≤ 1501 →
    Calls Tryz.prog 81 #[str l, .int .i64 i, .int .i64 a] w (SReadPost w (Tm.mread l d k)) := by
  intro d
  induction d with
  | zero =>
    intro i a k w hi hk ha _
    subst hi
    have h1 : (1500 : Int) < a := by omega
    clear ha
    go_enter Tryz.func81, Tryz.ntmps81
    go_wp2_with fail
    exact bodyPost_ret (v := .tuple #[.agg #[.string ⟨#[]⟩, .slice none 0 0], .int .i64 (-1)]) (by simp [results, Tryz.results81, go_sem]) rfl (SReadPost.no rfl (After.new _ _))
  | succ d ih =>
    intro i a k w hi hk ha hd
    subst hi
    have h1 : a ≤ 1500 := by omega
    have h2 : 0 ≤ a := by omega
    have hsz : (⟨l.toArray⟩ : ByteArray).size = l.length := by show l.toArray.size = _; simp
    by_cases hlen : l.length ≤ k
    · have hfin : Tm.mread l (d + 1) k = none := by simp [Tm.mread, hlen]
      rw [hfin]
      clear hfin ih ha
      go_enter Tryz.func81, Tryz.ntmps81
      go_wp2_with fail
      exact bodyPost_ret (v := .tuple #[.agg #[.string ⟨#[]⟩, .slice none 0 0], .int .i64 (-1)]) (by simp [results, Tryz.results81, go_sem]) rfl (SReadPost.no rfl (After.new _ _))
    · have hlt : k < l.length := by omega
      have hatk := byte_at l k hlt (by rw [hsz]; exact hlt)
      have hget : l[k]? = some l[k] := List.getElem?_eq_getElem hlt
      have h40e : ((((⟨l.toArray⟩ : ByteArray)[k]'(by rw [hsz]; exact hlt)).toNat : Int) != 40) = (l[k] != (40 : UInt8)) := by
        rw [hatk]; exact byte_ne_lit l[k] 40 (by omega)
      by_cases h40 : l[k] = 40
      · have hne : (l[k] != (40 : UInt8)) = false := by simpa using h40
        rw [hne] at h40e
        have h0 : l[k]? = some 40 := by rw [hget, h40]
        have HA := Lib.hid ha
        have HIH := Lib.hid ih
        have call1 : ∀ W, Calls Tryz.prog 81 #[str l, .int .i64 ((k : Int) + 1), .int .i64 (a + 1)] W (SReadPost W (Tm.mread l d (k + 1))) := fun W => ih _ _ (k + 1) W (by omega) (by omega) (by omega) (by omega)
        clear hne h40 hget hatk ha ih
        cases hf : Tm.mread l d (k + 1) with
        | none =>
          have hfin : Tm.mread l (d + 1) k = none := by simp [Tm.mread, hlen, h0, hf]
          rw [hfin]
          rw [hf] at call1
          clear hfin hf h0 hlen
          go_enter Tryz.func81, Tryz.ntmps81
          go_wp2_with fail
          refine (call1 _).mono ?_
          rintro e w1 ⟨s1, ao1, n1, c1, rfl, hb1, ht1⟩
          clear ht1 call1
          obtain ⟨r0, r1, f0, f1, hz⟩ := box2 hb1
          have hpl : place none = -1 := rfl
          go_wp2_with fail
          exact bodyPost_ret (v := .tuple #[.agg #[.string ⟨#[]⟩, .slice none 0 0], .int .i64 (-1)]) (by simp [results, Tryz.results81, go_sem, r0, r1, hz]) rfl (SReadPost.no rfl (After.alloc (After.set2 hb1) _))
        | some p =>
          obtain ⟨f, j⟩ := p
          obtain ⟨zf, hj⟩ := reads_size (Tm.mread_sound hf)
          rw [hf] at call1
          have hpl : place (some (f, j)) = (j : Int) := rfl
          by_cases h32 : l[j]? = some 32
          · obtain ⟨jlt, hjv⟩ := List.getElem?_eq_some_iff.1 h32
            have hatj : ((((⟨l.toArray⟩ : ByteArray)[j]'(by rw [hsz]; exact jlt)).toNat : Int) != 32) = false := by
              rw [byte_at l j jlt, byte_ne_lit' l[j] 32 32 rfl rfl, hjv]; rfl
            have call2 : ∀ W, Calls Tryz.prog 81 #[str l, .int .i64 ((j : Int) + 1), .int .i64 (a + 1)] W (SReadPost W (Tm.mread l d (j + 1))) := fun W => HIH.out _ _ (j + 1) W (by omega) (by omega) (by have := HA.out; omega) (by omega)
            cases hq : Tm.mread l d (j + 1) with
            | none =>
              have H := Lib.hid (show Tm.mread l (d + 1) k = none by simp [Tm.mread, hlen, h0, hf, h32, hq])
              rw [hq] at call2
              have hpl2 : place none = -1 := rfl
              clear hq hf h32 h0 hlen hjv
              go_enter Tryz.func81, Tryz.ntmps81
              go_wp2_with fail
              refine (call1 _).mono ?_
              rintro e w1 ⟨s1, ao1, n1, c1, rfl, hb1, ht1⟩
              have ht1' := Lib.hid (ht1 f _ rfl)
              clear ht1 call1
              obtain ⟨r0, r1, f0, f1, hz⟩ := box2 hb1
              go_wp2_with fail
              refine (call2 _).mono ?_
              rintro e w2 ⟨s2, ao2, n2, c2, rfl, hb2, ht2⟩
              have hb12 : After (w.alloc (.cells #[.string ⟨#[]⟩, .slice none 0 0] 55)) w2 := (After.alloc hb1 _).trans hb2
              clear r0 r1 f0 f1 hz call2
              obtain ⟨r0, r1, f0, f1, hz⟩ := box2 hb12
              clear ht2
              go_wp2_with fail
              exact bodyPost_ret (v := .tuple #[.agg #[.string ⟨#[]⟩, .slice none 0 0], .int .i64 (-1)]) (by simp [results, Tryz.results81, go_sem, r0, r1, hz]) rfl (SReadPost.no H.out (After.alloc (After.set2 hb12) _))
            | some p =>
              obtain ⟨g, m⟩ := p
              obtain ⟨zg, hm⟩ := reads_size (Tm.mread_sound hq)
              rw [hq] at call2
              have hpl2 : place (some (g, m)) = (m : Int) := rfl
              by_cases h41 : l[m]? = some 41
              · obtain ⟨mlt, hmv⟩ := List.getElem?_eq_some_iff.1 h41
                have hatm : ((((⟨l.toArray⟩ : ByteArray)[m]'(by rw [hsz]; exact mlt)).toNat : Int) != 41) = false := by
                  rw [byte_at l m mlt, byte_ne_lit' l[m] 41 41 rfl rfl, hmv]; rfl
                have H := Lib.hid (show Tm.mread l (d + 1) k = some (f.app g, m + 1) by simp [Tm.mread, hlen, h0, hf, h32, hq, h41])
                clear hq hf h32 h0 hlen hjv h41 hmv
                go_enter Tryz.func81, Tryz.ntmps81
                go_wp2_with fail
                refine (call1 _).mono ?_
                rintro e w1 ⟨s1, ao1, n1, c1, rfl, hb1, ht1⟩
                have ht1' := Lib.hid (ht1 f _ rfl)
                clear ht1 call1
                obtain ⟨r0, r1, f0, f1, hz⟩ := box2 hb1
                go_wp2_with fail
                refine (call2 _).mono ?_
                rintro e w2 ⟨s2, ao2, n2, c2, rfl, hb2, ht2⟩
                have hb12 : After (w.alloc (.cells #[.string ⟨#[]⟩, .slice none 0 0] 55)) w2 := (After.alloc hb1 _).trans hb2
                clear r0 r1 f0 f1 hz call2
                obtain ⟨r0, r1, f0, f1, hz⟩ := box2 hb12
                have ht2' := Lib.hid (ht2 g m rfl)
                clear ht2
                have a1 : w2.cell? ⟨w1.heap.size, 0, none⟩ = some (str s1) ∧ w2.cell? ⟨w1.heap.size, 1, none⟩ = some (.slice ao1 n1 c1) ∧ w1.heap.size < w2.heap.size := by
                  obtain ⟨q0, q1, _, _, q4⟩ := box2 hb2
                  exact ⟨q0, q1, q4⟩
                obtain ⟨q0, q1, q4⟩ := a1
                go_wp2_with fail
                refine bodyPost_ret (v := .tuple #[.agg #[.string ⟨#[]⟩, .slice (some ⟨w2.heap.size + 1, 0, none⟩) 2 2], .int .i64 ((m : Int) + 1)]) (by simp [results, Tryz.results81, go_sem, r0, r1, hz]) rfl ?_
                refine ⟨[], some ⟨w2.heap.size + 1, 0, none⟩, 2, 2, by rw [H.out]; rfl, After.alloc (After.alloc (After.set2 hb12) _) _, fun t j' he => ?_⟩
                rw [H.out] at he
                simp only [Option.some.injEq, Prod.mk.injEq] at he
                obtain ⟨rfl, rfl⟩ := he
                have k1 := (((ht1'.out.later ((After.new w1 _).trans hb2)).sets (i := 0) (j := 1) (u := .string ⟨#[]⟩) (u' := .slice (some ⟨w2.heap.size + 1, 0, none⟩) 2 2) hb12).later (After.new _ (.cells #[.string ⟨s2.toArray⟩, .slice ao2 n2 c2] 55))).later (After.new _ (.cells #[str s1, .slice ao1 n1 c1, .string ⟨s2.toArray⟩, .slice ao2 n2 c2] 55))
                have k2 := ((ht2'.out.sets (i := 0) (j := 1) (u := .string ⟨#[]⟩) (u' := .slice (some ⟨w2.heap.size + 1, 0, none⟩) 2 2) hb12).later (After.new _ (.cells #[.string ⟨s2.toArray⟩, .slice ao2 n2 c2] 55))).later (After.new _ (.cells #[str s1, .slice ao1 n1 c1, .string ⟨s2.toArray⟩, .slice ao2 n2 c2] 55))
                refine ⟨w2.heap.size + 1, 2, (0, 0), _, _, _, _, rfl, ?_, k1, k2⟩
                exact heap_new2 _ _ _ _ (by simp [World.setCell])
              · have H := Lib.hid (show Tm.mread l (d + 1) k = none by simp [Tm.mread, hlen, h0, hf, h32, hq, h41])
                by_cases hml : m = l.length
                · subst hml
                  clear hq hf h32 h0 hlen hjv h41
                  go_enter Tryz.func81, Tryz.ntmps81
                  go_wp2_with fail
                  refine (call1 _).mono ?_
                  rintro e w1 ⟨s1, ao1, n1, c1, rfl, hb1, ht1⟩
                  have ht1' := Lib.hid (ht1 f _ rfl)
                  clear ht1 call1
                  obtain ⟨r0, r1, f0, f1, hz⟩ := box2 hb1
                  go_wp2_with fail
                  refine (call2 _).mono ?_
                  rintro e w2 ⟨s2, ao2, n2, c2, rfl, hb2, ht2⟩
                  have hb12 : After (w.alloc (.cells #[.string ⟨#[]⟩, .slice none 0 0] 55)) w2 := (After.alloc hb1 _).trans hb2
                  clear r0 r1 f0 f1 hz call2
                  obtain ⟨r0, r1, f0, f1, hz⟩ := box2 hb12
                  clear ht2
                  go_wp2_with fail
                  exact bodyPost_ret (v := .tuple #[.agg #[.string ⟨#[]⟩, .slice none 0 0], .int .i64 (-1)]) (by simp [results, Tryz.results81, go_sem, r0, r1, hz]) rfl (SReadPost.no H.out (After.alloc (After.set2 hb12) _))
                · have mlt : m < l.length := by omega
                  have hatm : ((((⟨l.toArray⟩ : ByteArray)[m]'(by rw [hsz]; exact mlt)).toNat : Int) != 41) = true := by
                    rw [byte_at l m mlt, byte_ne_lit' l[m] 41 41 rfl rfl]
                    rw [List.getElem?_eq_getElem mlt] at h41
                    simpa using h41
                  clear hq hf h32 h0 hlen hjv h41
                  go_enter Tryz.func81, Tryz.ntmps81
                  go_wp2_with fail
                  refine (call1 _).mono ?_
                  rintro e w1 ⟨s1, ao1, n1, c1, rfl, hb1, ht1⟩
                  have ht1' := Lib.hid (ht1 f _ rfl)
                  clear ht1 call1
                  obtain ⟨r0, r1, f0, f1, hz⟩ := box2 hb1
                  go_wp2_with fail
                  refine (call2 _).mono ?_
                  rintro e w2 ⟨s2, ao2, n2, c2, rfl, hb2, ht2⟩
                  have hb12 : After (w.alloc (.cells #[.string ⟨#[]⟩, .slice none 0 0] 55)) w2 := (After.alloc hb1 _).trans hb2
                  clear r0 r1 f0 f1 hz call2
                  obtain ⟨r0, r1, f0, f1, hz⟩ := box2 hb12
                  clear ht2
                  go_wp2_with fail
                  exact bodyPost_ret (v := .tuple #[.agg #[.string ⟨#[]⟩, .slice none 0 0], .int .i64 (-1)]) (by simp [results, Tryz.results81, go_sem, r0, r1, hz]) rfl (SReadPost.no H.out (After.alloc (After.set2 hb12) _))
          · have H := Lib.hid (show Tm.mread l (d + 1) k = none by simp [Tm.mread, hlen, h0, hf, h32])
            by_cases hjl : j = l.length
            · subst hjl
              clear hf h32 h0 hlen
              go_enter Tryz.func81, Tryz.ntmps81
              go_wp2_with fail
              refine (call1 _).mono ?_
              rintro e w1 ⟨s1, ao1, n1, c1, rfl, hb1, ht1⟩
              have ht1' := Lib.hid (ht1 f _ rfl)
              clear ht1 call1
              obtain ⟨r0, r1, f0, f1, hz⟩ := box2 hb1
              go_wp2_with fail
              exact bodyPost_ret (v := .tuple #[.agg #[.string ⟨#[]⟩, .slice none 0 0], .int .i64 (-1)]) (by simp [results, Tryz.results81, go_sem, r0, r1, hz]) rfl (SReadPost.no H.out (After.alloc (After.set2 hb1) _))
            · have jlt : j < l.length := by omega
              have hatj : ((((⟨l.toArray⟩ : ByteArray)[j]'(by rw [hsz]; exact jlt)).toNat : Int) != 32) = true := by
                rw [byte_at l j jlt, byte_ne_lit' l[j] 32 32 rfl rfl]
                rw [List.getElem?_eq_getElem jlt] at h32
                simpa using h32
              clear hf h32 h0 hlen
              go_enter Tryz.func81, Tryz.ntmps81
              go_wp2_with fail
              refine (call1 _).mono ?_
              rintro e w1 ⟨s1, ao1, n1, c1, rfl, hb1, ht1⟩
              have ht1' := Lib.hid (ht1 f _ rfl)
              clear ht1 call1
              obtain ⟨r0, r1, f0, f1, hz⟩ := box2 hb1
              go_wp2_with fail
              exact bodyPost_ret (v := .tuple #[.agg #[.string ⟨#[]⟩, .slice none 0 0], .int .i64 (-1)]) (by simp [results, Tryz.results81, go_sem, r0, r1, hz]) rfl (SReadPost.no H.out (After.alloc (After.set2 hb1) _))
      · have hne : (l[k] != (40 : UInt8)) = true := by simpa using h40
        rw [hne] at h40e
        have hend := Tm.atomEnd_le l k hk
        have hat := s_atom w l k hl hk
        have hat' := fun W => s_atom W l k hl hk
        obtain ⟨m, hm⟩ : ∃ m, m = Tm.atomEnd l k := ⟨_, rfl⟩
        have hword : (⟨l.toArray⟩ : ByteArray).extract k m = ⟨((l.drop k).take (m - k)).toArray⟩ := bytes_ext l k m
        have hmr : Tm.mread l (d + 1) k = match Tm.mkAtom ((l.drop k).take (m - k)) with | some t => some (t, m) | none => none := by
          rw [hm]; simp [Tm.mread, hlen, hget, h40]; rfl
        rw [← hm] at hend hat'
        obtain ⟨x, hx⟩ : ∃ x, x = (l.drop k).take (m - k) := ⟨_, rfl⟩
        rw [← hx] at hword hmr
        have hxl : x.length ≤ 1000000000 := by rw [hx]; simp; omega
        have hname := fun W => s_name W x hxl
        have HM := Lib.hid hmr
        clear hmr hx hm hat hne h40 hatk hget ih hlen ha
        obtain ⟨hm1, hm2⟩ := hend
        cases hmk : Tm.mkAtom x with
        | none =>
          have hfin : Tm.mread l (d + 1) k = none := by rw [HM.out, hmk]
          have e1 : (x == [107]) = false := by
            rw [beq_eq_false_iff_ne]; rintro rfl; simp [Tm.mkAtom] at hmk
          have e2 : (x == [115]) = false := by
            rw [beq_eq_false_iff_ne]; rintro rfl; simp [Tm.mkAtom] at hmk
          have e3 : Tm.nameOk x = false := by
            cases hq : Tm.nameOk x with
            | false => rfl
            | true => simp only [beq_eq_false_iff_ne, ne_eq] at e1 e2; simp [Tm.mkAtom, e1, e2, hq] at hmk
          rw [e3] at hname
          rw [hfin]
          clear hfin hmk HM e3
          go_enter Tryz.func81, Tryz.ntmps81
          go_wp2_with (first
            | (go_at_call 73; refine (hat' _).mono ?_; rintro e w' ⟨rfl, rfl⟩)
            | (go_at_call 104; refine (hname _).mono ?_; rintro e w' ⟨rfl, rfl⟩))
          exact bodyPost_ret (v := .tuple #[.agg #[.string ⟨#[]⟩, .slice none 0 0], .int .i64 (-1)]) (by simp [results, Tryz.results81, go_sem]) rfl (SReadPost.no rfl (After.new _ _))
        | some t =>
          have hfin : Tm.mread l (d + 1) k = some (t, m) := by rw [HM.out, hmk]
          obtain ⟨ht, _, hd0, _, _⟩ := Tm.mkAtom_sound hmk
          rw [hfin]
          have hpost : ∀ W', After w W' → SReadPost w (some (t, m)) (.returned (.tuple #[.agg #[str x, .slice none 0 0], .int .i64 (m : Nat)])) W' := fun W' hb =>
            ⟨x, none, 0, 0, rfl, hb, fun t' j he => by
              simp only [Option.some.injEq, Prod.mk.injEq] at he
              obtain ⟨rfl, rfl⟩ := he
              rw [← ht]
              exact ST_atom _ _ hd0⟩
          have HP := Lib.hid hpost
          clear hpost
          by_cases e1 : x = [107]
          · subst e1
            clear hfin hmk HM hname ht hd0
            go_enter Tryz.func81, Tryz.ntmps81
            go_wp2_with (go_at_call 73; refine (hat' _).mono ?_; rintro e w' ⟨rfl, rfl⟩)
            exact bodyPost_ret (v := .tuple #[.agg #[str [107], .slice none 0 0], .int .i64 (m : Nat)]) (by simp [results, Tryz.results81, go_sem]) rfl (HP.out _ (After.new _ _))
          · by_cases e2 : x = [115]
            · subst e2
              clear hfin hmk HM hname ht hd0 e1
              go_enter Tryz.func81, Tryz.ntmps81
              go_wp2_with (go_at_call 73; refine (hat' _).mono ?_; rintro e w' ⟨rfl, rfl⟩)
              exact bodyPost_ret (v := .tuple #[.agg #[str [115], .slice none 0 0], .int .i64 (m : Nat)]) (by simp [results, Tryz.results81, go_sem]) rfl (HP.out _ (After.new _ _))
            · have e3 : Tm.nameOk x = true := by
                cases hq : Tm.nameOk x with
                | true => rfl
                | false => simp [Tm.mkAtom, e1, e2, hq] at hmk
              rw [e3] at hname
              have n1 : (x == [107]) = false := beq_eq_false_iff_ne.2 e1
              have n2 : (x == [115]) = false := beq_eq_false_iff_ne.2 e2
              clear hfin hmk HM ht hd0 e1 e2 e3
              go_enter Tryz.func81, Tryz.ntmps81
              go_wp2_with (first
                | (go_at_call 73; refine (hat' _).mono ?_; rintro e w' ⟨rfl, rfl⟩)
                | (go_at_call 104; refine (hname _).mono ?_; rintro e w' ⟨rfl, rfl⟩))
              exact bodyPost_ret (v := .tuple #[.agg #[str x, .slice none 0 0], .int .i64 (m : Nat)]) (by simp [results, Tryz.results81, go_sem]) rfl (HP.out _ (After.new _ _))
end Go.Proofs.YtfjohagdlaiapaaGreat

namespace Go.Proofs.YtfjohagdlaiapaaGreat
open Go.RowKit

set_option maxHeartbeats 4000000
set_option maxRecDepth 100000

def TreePost (w : World) (t : Tm) (e : Ending) (w' : World) : Prop :=
  ∃ s ao n c, e = .returned (.agg #[str s, .slice ao n c]) ∧ After w w' ∧ ST w' t (.agg #[str s, .slice ao n c])

theorem s_app (w : World) (f a : Tm) (s1 s2 : List UInt8) (a1 a2 : Option Addr) (n1 c1 n2 c2 g : Nat) (fr : Nat × Nat) (hf : ST w f (.agg #[str s1, .slice a1 n1 c1])) (ha : ST w a (.agg #[str s2, .slice a2 n2 c2]))
    (hg : w.heap[g]? = some (.cells #[str s2, .slice a2 n2 c2] 55 fr)) :
    Calls Tryz.prog 32 #[.agg #[str s1, .slice a1 n1 c1], .slice (some ⟨g, 0, none⟩) 1 1] w (TreePost w (f.app a)) := by
  have k0 : w.cell? ⟨g, 0, none⟩ = some (str s2) := cell_of_heap hg
  have k1 : w.cell? ⟨g, 1, none⟩ = some (.slice a2 n2 c2) := cell_of_heap hg
  have hlt := (Array.getElem?_eq_some_iff.1 hg).1
  have HF := Lib.hid hf
  have HA := Lib.hid ha
  clear hf ha hg
  go_enter Tryz.func32, Tryz.ntmps32
  go_wp2_with fail
  refine wp_loop_rounds 2 ?_
  rw [rounds_succ]
  go_wp2_with fail
  go_region
  go_wp2_with fail
  rw [rounds_succ]
  go_wp2_with fail
  have hx := ((After.new w (.cells #[.string ⟨#[]⟩, .slice (some ⟨w.heap.size + 1 + 1, 0, none⟩) 2 2] 55)).alloc (.cells #[.string ⟨#[]⟩, .slice (some ⟨w.heap.size + 1 + 1, 0, none⟩) 2 2] 55)).alloc (.cells #[str s1, .slice a1 n1 c1, str s2, .slice a2 n2 c2] 55)
  refine bodyPost_ret (v := .agg #[.string ⟨#[]⟩, .slice (some ⟨w.heap.size + 1 + 1, 0, none⟩) 2 2]) (by simp [results, Tryz.results32, go_sem]) rfl ⟨[], some ⟨w.heap.size + 1 + 1, 0, none⟩, 2, 2, rfl, hx.drew, ?_⟩
  exact ⟨w.heap.size + 1 + 1, 2, (0, 0), _, _, _, _, rfl, heap_new2 _ _ _ _ (by simp), HF.out.later hx.drew, HA.out.later hx.drew⟩

def RedexPost (w : World) (r : Option Tm) (e : Ending) (w' : World) : Prop :=
  ∃ s ao n c, e = .returned (.tuple #[.agg #[str s, .slice ao n c], .bool r.isSome]) ∧ After w w' ∧ ∀ u, r = some u → ST w' u (.agg #[str s, .slice ao n c])

theorem RedexPost.no {w w' : World} (hb : After w w') (s : List UInt8) (ao : Option Addr) (n c : Nat) : RedexPost w none (.returned (.tuple #[.agg #[str s, .slice ao n c], .bool false])) w' :=
  ⟨s, ao, n, c, rfl, hb, fun u hu => by simp at hu⟩

/-- W is X but for new blocks and block r. -/
def ButFor (X : World) (r : Nat) (W : World) : Prop := X.heap.size ≤ W.heap.size ∧ ∀ k, k < X.heap.size → k ≠ r → W.heap[k]? = X.heap[k]?

theorem ButFor.cell {X W : World} {r b i : Nat} {v : Value} (h : ButFor X r W) (hr : b ≠ r) (hc : X.cell? ⟨b, i, none⟩ = some v) : W.cell? ⟨b, i, none⟩ = some v := by
  rw [World.cell?_of_block (w := X) (a := ⟨b, i, none⟩) (h.2 b (World.block_lt_of_cell? _ _ hc) hr)]; exact hc
theorem ButFor.alloc {X W : World} {r : Nat} (h : ButFor X r W) (o : Obj) : ButFor X r (W.alloc o) := ⟨by simp; have := h.1; omega, fun k hk hr => by rw [Below.heap_alloc _ _ _ (Nat.lt_of_lt_of_le hk h.1)]; exact h.2 k hk hr⟩
theorem ButFor.after {X W W' : World} {r : Nat} (h : ButFor X r W) (g : After W W') : ButFor X r W' := ⟨Nat.le_trans h.1 g.size, fun k hk hr => by rw [g.block k (Nat.lt_of_lt_of_le hk h.1)]; exact h.2 k hk hr⟩
theorem ButFor.set {X W : World} {r : Nat} (h : ButFor X r W) (i : Nat) (v : Value) : ButFor X r (W.setCell ⟨r, i, none⟩ v) := ⟨by simp [World.setCell]; exact h.1, fun k hk hr => by rw [Below.heap_setCell _ _ _ _ (by simpa using hr)]; exact h.2 k hk hr⟩

theorem After.butFor {X W : World} {r : Nat} (h : After X W) : ButFor X r W := ⟨h.size, fun k hk _ => h.block k hk⟩
theorem ST.sets2 {W : World} {b : Nat} {x y u u' : Value} {T : TypeId} {fr : Nat × Nat} {t : Tm} {v : Value} (h : ST W t v) (hh : W.heap[b]? = some (.cells #[x, y] T fr)) {i j : Nat} : ST ((W.setCell ⟨b, i, none⟩ u).setCell ⟨b, j, none⟩ u') t v := by
  refine h.kept fun g cs T' fr' hs hg => ?_
  have hne : g ≠ b := by
    rintro rfl
    rw [hh] at hg
    injection hg with hg
    injection hg with hg _ _
    subst hg
    simp at hs
  rw [Below.heap_setCell _ _ _ _ hne, Below.heap_setCell _ _ _ _ hne]
  exact hg

theorem heap_old2 (W : World) (o p : Obj) : ((W.alloc o).alloc p).heap[W.heap.size]? = some o := by
  rw [Below.heap_alloc _ _ _ (by simp)]; exact heap_new' W o

theorem heap_new3 (w : World) (a b c : Obj) : (((w.alloc a).alloc b).alloc c).heap[w.heap.size + 1 + 1]? = some c := heap_new2 (w.alloc a) (w.heap.size + 1) b c (by simp)
theorem heap_new4 (w : World) (a b c d : Obj) : ((((w.alloc a).alloc b).alloc c).alloc d).heap[w.heap.size + 1 + 1 + 1]? = some d := heap_new2 ((w.alloc a).alloc b) (w.heap.size + 1 + 1) c d (by simp)

theorem redex_atom (w : World) (x : List UInt8) (ao : Option Addr) (n c : Nat) (hx : x ≠ []) : Calls Tryz.prog 131 #[.agg #[str x, .slice ao n c]] w (RedexPost w none) := by
  have he : x.isEmpty = false := by cases x with | nil => exact absurd rfl hx | cons => rfl
  clear hx
  go_enter Tryz.func131, Tryz.ntmps131
  go_wp2_with fail
  exact bodyPost_ret (v := .tuple #[.agg #[str x, .slice ao n c], .bool false]) (by simp [results, Tryz.results131, go_sem]) rfl (RedexPost.no ((After.new _ _).alloc _) _ _ _ _)

theorem redex_atom2 (w : World) (g1 q1 : Nat) (x1 : List UInt8) (k0 : w.cell? ⟨g1, 0, none⟩ = some (str x1)) (hlt : g1 < w.heap.size) (hx : x1 ≠ []) : Calls Tryz.prog 131 #[.agg #[str [], .slice (some ⟨g1, 0, none⟩) 2 q1]] w (RedexPost w none) := by
  have he : x1.isEmpty = false := by cases x1 with | nil => exact absurd rfl hx | cons => rfl
  clear hx
  go_enter Tryz.func131, Tryz.ntmps131
  go_wp2_with fail
  exact bodyPost_ret (v := .tuple #[.agg #[str [], .slice (some ⟨g1, 0, none⟩) 2 q1], .bool false]) (by simp [results, Tryz.results131, go_sem]) rfl (RedexPost.no ((After.new _ _).alloc _) _ _ _ _)

section
variable (w : World) (g1 q1 g2 q2 : Nat) (y1 x2 y2 : List UInt8) (b1 a2 b2 : Option Addr) (m1 d1 n2 m2 c2 d2 : Nat)
  (k0 : w.cell? ⟨g1, 0, none⟩ = some (str [])) (k1 : w.cell? ⟨g1, 1, none⟩ = some (.slice (some ⟨g2, 0, none⟩) 2 q2)) (k2 : w.cell? ⟨g1, 2, none⟩ = some (str y1)) (k3 : w.cell? ⟨g1, 3, none⟩ = some (.slice b1 m1 d1)) (hlt : g1 < w.heap.size)
  (j0 : w.cell? ⟨g2, 0, none⟩ = some (str x2)) (j1 : w.cell? ⟨g2, 1, none⟩ = some (.slice a2 n2 c2)) (j2 : w.cell? ⟨g2, 2, none⟩ = some (str y2)) (j3 : w.cell? ⟨g2, 3, none⟩ = some (.slice b2 m2 d2)) (hlt2 : g2 < w.heap.size)
include k0 k1 k2 k3 hlt j0 j1 j2 j3 hlt2
theorem redex_k (hx : x2 = [107]) (m : Tm) (hm : ST w m (.agg #[str y2, .slice b2 m2 d2])) : Calls Tryz.prog 131 #[.agg #[str [], .slice (some ⟨g1, 0, none⟩) 2 q1]] w (RedexPost w (some m)) := by
  have _u := And.intro k2 (And.intro k3 j1)
  clear _u
  subst hx
  have u1 : g1 < w.heap.size + 1 := by omega
  have u2 : g1 < w.heap.size + 1 + 1 := by omega
  have u3 : g2 < w.heap.size + 1 := by omega
  have u4 : g2 < w.heap.size + 1 + 1 := by omega
  have HM := Lib.hid hm
  clear hm
  go_enter Tryz.func131, Tryz.ntmps131
  go_wp2_with fail
  have hb : After w (((w.alloc (.cells #[str [], .slice (some ⟨g1, 0, none⟩) 2 q1] 55)).alloc (.cells #[str y2, .slice b2 m2 d2] 55)).alloc (.cells #[str [], .slice (some ⟨g2, 0, none⟩) 2 q2] 55)) := ((After.new _ _).alloc _).alloc _
  exact bodyPost_ret (v := .tuple #[.agg #[str y2, .slice b2 m2 d2], .bool true]) (by simp [results, Tryz.results131, go_sem]) rfl ⟨_, _, _, _, rfl, hb, fun u hu => by obtain rfl := Option.some.inj hu; exact HM.out.later hb⟩

theorem redex_atom3 (hx : x2 ≠ []) (hk : x2 ≠ [107]) : Calls Tryz.prog 131 #[.agg #[str [], .slice (some ⟨g1, 0, none⟩) 2 q1]] w (RedexPost w none) := by
  have _u := And.intro k2 (And.intro k3 (And.intro j1 (And.intro j2 j3)))
  clear _u
  have u1 : g1 < w.heap.size + 1 := by omega
  have u2 : g1 < w.heap.size + 1 + 1 := by omega
  have u3 : g2 < w.heap.size + 1 := by omega
  have u4 : g2 < w.heap.size + 1 + 1 := by omega
  have he : x2.isEmpty = false := by cases x2 with | nil => exact absurd rfl hx | cons => rfl
  have hk' : (x2 == [107]) = false := beq_eq_false_iff_ne.2 hk
  clear hx hk
  go_enter Tryz.func131, Tryz.ntmps131
  go_wp2_with fail
  exact bodyPost_ret (v := .tuple #[.agg #[str [], .slice (some ⟨g1, 0, none⟩) 2 q1], .bool false]) (by simp [results, Tryz.results131, go_sem]) rfl (RedexPost.no (((After.new _ _).alloc _).alloc _) _ _ _ _)
end

section
variable (w : World) (g1 q1 g2 q2 g3 q3 : Nat) (y1 y2 x3 y3 : List UInt8) (b1 b2 a3 b3 : Option Addr) (m1 d1 m2 d2 n3 c3 m3 d3 : Nat)
  (k0 : w.cell? ⟨g1, 0, none⟩ = some (str [])) (k1 : w.cell? ⟨g1, 1, none⟩ = some (.slice (some ⟨g2, 0, none⟩) 2 q2)) (k2 : w.cell? ⟨g1, 2, none⟩ = some (str y1)) (k3 : w.cell? ⟨g1, 3, none⟩ = some (.slice b1 m1 d1)) (hlt : g1 < w.heap.size)
  (j0 : w.cell? ⟨g2, 0, none⟩ = some (str [])) (j1 : w.cell? ⟨g2, 1, none⟩ = some (.slice (some ⟨g3, 0, none⟩) 2 q3)) (j2 : w.cell? ⟨g2, 2, none⟩ = some (str y2)) (j3 : w.cell? ⟨g2, 3, none⟩ = some (.slice b2 m2 d2)) (hlt2 : g2 < w.heap.size)
  (i0 : w.cell? ⟨g3, 0, none⟩ = some (str x3)) (i1 : w.cell? ⟨g3, 1, none⟩ = some (.slice a3 n3 c3)) (i2 : w.cell? ⟨g3, 2, none⟩ = some (str y3)) (i3 : w.cell? ⟨g3, 3, none⟩ = some (.slice b3 m3 d3)) (hlt3 : g3 < w.heap.size)
include k0 k1 k2 k3 hlt j0 j1 j2 j3 hlt2 i0 i1 i2 i3 hlt3
theorem redex_deep (hx : x3 ≠ [115]) : Calls Tryz.prog 131 #[.agg #[str [], .slice (some ⟨g1, 0, none⟩) 2 q1]] w (RedexPost w none) := by
  have _u := And.intro k2 (And.intro k3 (And.intro j2 (And.intro j3 (And.intro i1 (And.intro i2 i3)))))
  clear _u
  have u1 : g1 < w.heap.size + 1 := by omega
  have u2 : g1 < w.heap.size + 1 + 1 := by omega
  have u3 : g2 < w.heap.size + 1 := by omega
  have u4 : g2 < w.heap.size + 1 + 1 := by omega
  have u5 : g3 < w.heap.size + 1 := by omega
  have u6 : g3 < w.heap.size + 1 + 1 := by omega
  have hk' : (x3 == [115]) = false := beq_eq_false_iff_ne.2 hx
  clear hx
  go_enter Tryz.func131, Tryz.ntmps131
  go_wp2_with fail
  exact bodyPost_ret (v := .tuple #[.agg #[str [], .slice (some ⟨g1, 0, none⟩) 2 q1], .bool false]) (by simp [results, Tryz.results131, go_sem]) rfl (RedexPost.no (((After.new _ _).alloc _).alloc _) _ _ _ _)

theorem redex_s (hx : x3 = [115]) (m n p : Tm) (hm : ST w m (.agg #[str y3, .slice b3 m3 d3])) (hn : ST w n (.agg #[str y2, .slice b2 m2 d2])) (hp : ST w p (.agg #[str y1, .slice b1 m1 d1])) :
    Calls Tryz.prog 131 #[.agg #[str [], .slice (some ⟨g1, 0, none⟩) 2 q1]] w (RedexPost w (some ((m.app p).app (n.app p)))) := by
  have _u := And.intro k2 i1
  clear _u
  subst hx
  have u1 : g1 < w.heap.size + 1 := by omega
  have u2 : g1 < w.heap.size + 1 + 1 := by omega
  have u3 : g2 < w.heap.size + 1 := by omega
  have u4 : g2 < w.heap.size + 1 + 1 := by omega
  have u5 : g3 < w.heap.size + 1 := by omega
  have u6 : g3 < w.heap.size + 1 + 1 := by omega
  have v1 : g1 < w.heap.size + 1 + 1 + 1 := by omega
  have v2 : g2 < w.heap.size + 1 + 1 + 1 := by omega
  have v3 : g3 < w.heap.size + 1 + 1 + 1 := by omega
  have HM := Lib.hid hm
  have HN := Lib.hid hn
  have HP := Lib.hid hp
  clear hm hn hp
  go_enter Tryz.func131, Tryz.ntmps131
  go_wp2_with fail
  obtain ⟨X, hX⟩ : ∃ X, X = ((((w.alloc (.cells #[str [], .slice (some ⟨g1, 0, none⟩) 2 q1] 55)).alloc (.cells #[.string ⟨#[]⟩, .slice none 0 0] 55)).alloc (.cells #[str [], .slice (some ⟨g2, 0, none⟩) 2 q2] 55)).alloc (.cells #[str y1, .slice b1 m1 d1] 55)) := ⟨_, rfl⟩
  have hwX : After w X := by rw [hX]; exact (((After.new _ _).alloc _).alloc _).alloc _
  have hF : X.heap[w.heap.size + 1 + 1]? = some (.cells #[str [], .slice (some ⟨g2, 0, none⟩) 2 q2] 55 (0, 0)) := by
    rw [hX, Below.heap_alloc _ _ _ (by simp)]; exact heap_new3 _ _ _ _
  have hP : X.heap[w.heap.size + 1 + 1 + 1]? = some (.cells #[str y1, .slice b1 m1 d1] 55 (0, 0)) := by
    rw [hX]; exact heap_new4 _ _ _ _ _
  have hR : X.heap[w.heap.size + 1]? = some (.cells #[.string ⟨#[]⟩, .slice none 0 0] 55 (0, 0)) := by
    rw [hX, Below.heap_alloc _ _ _ (by simp), Below.heap_alloc _ _ _ (by simp)]; exact heap_new2 _ _ _ _ rfl
  have hsz : X.heap.size = w.heap.size + 1 + 1 + 1 + 1 := by rw [hX]; simp
  have o1 : ∀ W, ButFor X (w.heap.size + 1) W → W.cell? ⟨w.heap.size + 1 + 1, 1, none⟩ = some (.slice (some ⟨g2, 0, none⟩) 2 q2) := fun W hW => hW.cell (by omega) (cell_of_heap hF)
  have o2 : ∀ W, ButFor X (w.heap.size + 1) W → W.cell? ⟨w.heap.size + 1 + 1 + 1, 0, none⟩ = some (str y1) := fun W hW => hW.cell (by omega) (cell_of_heap hP)
  have o3 : ∀ W, ButFor X (w.heap.size + 1) W → W.cell? ⟨w.heap.size + 1 + 1 + 1, 1, none⟩ = some (.slice b1 m1 d1) := fun W hW => hW.cell (by omega) (cell_of_heap hP)
  have o4 : ∀ W, ButFor X (w.heap.size + 1) W → W.cell? ⟨g2, 1, none⟩ = some (.slice (some ⟨g3, 0, none⟩) 2 q3) := fun W hW => hW.cell (by omega) (hwX.cell j1)
  have o5 : ∀ W, ButFor X (w.heap.size + 1) W → W.cell? ⟨g2, 2, none⟩ = some (str y2) := fun W hW => hW.cell (by omega) (hwX.cell j2)
  have o6 : ∀ W, ButFor X (w.heap.size + 1) W → W.cell? ⟨g2, 3, none⟩ = some (.slice b2 m2 d2) := fun W hW => hW.cell (by omega) (hwX.cell j3)
  have o7 : ∀ W, ButFor X (w.heap.size + 1) W → W.cell? ⟨g3, 2, none⟩ = some (str y3) := fun W hW => hW.cell (by omega) (hwX.cell i2)
  have o8 : ∀ W, ButFor X (w.heap.size + 1) W → W.cell? ⟨g3, 3, none⟩ = some (.slice b3 m3 d3) := fun W hW => hW.cell (by omega) (hwX.cell i3)
  have hself := After.refl X
  have hbf : ButFor X (w.heap.size + 1) X.drew := ⟨Nat.le_refl _, fun _ _ _ => rfl⟩
  have hres : ∀ W, After X W → W.cell? ⟨w.heap.size + 1, 0, none⟩ = some (.string ⟨#[]⟩) ∧ W.cell? ⟨w.heap.size + 1, 1, none⟩ = some (.slice none 0 0) ∧ W.frozen? ⟨w.heap.size + 1, 0, none⟩ = false ∧ W.frozen? ⟨w.heap.size + 1, 1, none⟩ = false := fun W hW => by
    have hh := hW.heap hR
    exact ⟨cell_of_heap hh, cell_of_heap hh, by simp [World.frozen?, hh], by simp [World.frozen?, hh]⟩
  rw [← hX]
  have HMX := Lib.hid (HM.out.later hwX)
  have HNX := Lib.hid (HN.out.later hwX)
  have HPX := Lib.hid (HP.out.later hwX)
  have HRES := Lib.hid hres
  have HWX := Lib.hid hwX
  clear hres HM HN HP k0 k1 k2 k3 j0 j1 j2 j3 i0 i1 i2 i3 hF hP hwX u1 u2 u3 u4 u5 u6 v1 v2 v3
  have HR := Lib.hid hR
  have HSZ := Lib.hid hsz
  clear hR hsz hX
  go_region_held3 (fun W' => ButFor X (w.heap.size + 1) W') (first | assumption | exact hbf | exact After.butFor (by assumption) | exact ButFor.alloc (by assumption) _ | exact ButFor.set (ButFor.set (by assumption) _ _) _ _ | go_keep)
    (first
      | (go_at_call_of 32 b3; refine (s_app _ m p y3 y1 b3 b1 m3 d3 m1 d1 _ (0, 0) ?_ ?_ ?_).mono ?_; exact HMX.out.later ((hself.alloc _).drew); exact HPX.out.later ((hself.alloc _).drew); exact heap_new' _ _; rintro e w1 ⟨t1, ao1, nn1, cc1, rfl, hb1, hs1⟩; have hA1 := After.trans ((hself.alloc _).drew) hb1)
      | (go_at_call_of 32 b3; refine (s_app _ m p y3 y1 b3 b1 m3 d3 m1 d1 _ (0, 0) ?_ ?_ ?_).mono ?_; exact HMX.out.later (((hself.alloc _).alloc _).drew); exact HPX.out.later (((hself.alloc _).alloc _).drew); exact heap_new2 _ _ _ _ rfl; rintro e w1 ⟨t1, ao1, nn1, cc1, rfl, hb1, hs1⟩; have hA1 := After.trans (((hself.alloc _).alloc _).drew) hb1)
      | (go_at_call_of 32 b3; refine (s_app _ m p y3 y1 b3 b1 m3 d3 m1 d1 _ (0, 0) ?_ ?_ ?_).mono ?_; exact HMX.out.later (((hself.alloc _).alloc _).drew); exact HPX.out.later (((hself.alloc _).alloc _).drew); exact heap_old2 _ _ _; rintro e w1 ⟨t1, ao1, nn1, cc1, rfl, hb1, hs1⟩; have hA1 := After.trans (((hself.alloc _).alloc _).drew) hb1)
      | (go_at_call_of 32 b2; refine (s_app _ n p y2 y1 b2 b1 m2 d2 m1 d1 _ (0, 0) ?_ ?_ ?_).mono ?_; exact HNX.out.later (hA1.alloc _); exact HPX.out.later (hA1.alloc _); exact heap_new' _ _; rintro e w2 ⟨t2, ao2, nn2, cc2, rfl, hb2, hs2⟩; have hA2 := After.trans (hA1.alloc _) hb2; have hs1' := hs1.later (After.trans (After.new _ _) hb2))
      | (go_at_call_of 32 b2; refine (s_app _ n p y2 y1 b2 b1 m2 d2 m1 d1 _ (0, 0) ?_ ?_ ?_).mono ?_; exact HNX.out.later (hA1); exact HPX.out.later (hA1); exact hb1.heap (heap_new2 _ _ _ _ rfl); rintro e w2 ⟨t2, ao2, nn2, cc2, rfl, hb2, hs2⟩; have hA2 := After.trans (hA1) hb2; have hs1' := hs1.later (After.trans (After.refl _) hb2))
      | (go_at_call_of 32 b2; refine (s_app _ n p y2 y1 b2 b1 m2 d2 m1 d1 _ (0, 0) ?_ ?_ ?_).mono ?_; exact HNX.out.later (hA1); exact HPX.out.later (hA1); exact hb1.heap (heap_old2 _ _ _); rintro e w2 ⟨t2, ao2, nn2, cc2, rfl, hb2, hs2⟩; have hA2 := After.trans (hA1) hb2; have hs1' := hs1.later (After.trans (After.refl _) hb2))
      | (go_at_call_of 32 ao1; refine (s_app _ (m.app p) (n.app p) t1 t2 ao1 ao2 nn1 cc1 nn2 cc2 _ (0, 0) ?_ ?_ ?_).mono ?_; exact hs1'.later (After.new _ _); exact hs2.later (After.new _ _); exact heap_new' _ _; rintro e w3 ⟨t3, ao3, nn3, cc3, rfl, hb3, hs3⟩; have hA3 := After.trans (hA2.alloc _) hb3; obtain ⟨p0, p1, p2, p3⟩ := HRES.out _ hA3))
  all_goals
    go_wp2_with fail
    refine bodyPost_ret (v := .tuple #[.agg #[str t3, .slice ao3 nn3 cc3], .bool true]) (by simp [results, Tryz.results131, go_sem, p0, p1]) rfl ⟨t3, ao3, nn3, cc3, rfl, Below.setCell (Below.setCell (HWX.out.trans hA3) (by simp) _) (by simp) _, fun u hu => ?_⟩
    obtain rfl := Option.some.inj hu
    exact hs3.sets2 (hA3.heap HR.out)
end
end Go.Proofs.YtfjohagdlaiapaaGreat

namespace Go.Proofs.YtfjohagdlaiapaaGreat
open Go.RowKit

set_option maxHeartbeats 4000000
set_option maxRecDepth 100000

theorem name_not {n : List UInt8} (h : Tm.nameOk n = true) : n ≠ [] ∧ n ≠ [107] ∧ n ≠ [115] := by
  refine ⟨?_, ?_, ?_⟩ <;> (rintro rfl; revert h; decide)

theorem parts_form {w : World} {t : Tm} {x y : Value} (h : ST w t (.agg #[x, y])) : ∃ s ao n c, x = str s ∧ y = .slice ao n c := by
  obtain ⟨s, ao, n, c, e⟩ := h.form
  simp only [Value.agg.injEq, Array.mk.injEq, List.cons.injEq, and_true] at e
  exact ⟨s, ao, n, c, e.1, e.2⟩

theorem atom_form {w : World} {t : Tm} {s : List UInt8} {y : Value} (h : ST w t (.agg #[str s, y])) (hd : t.depth = 0) : s = t.text := by
  cases t with
  | app f a => simp [Tm.depth] at hd
  | k => simp only [ST, Value.agg.injEq, Array.mk.injEq, List.cons.injEq, and_true, Value.string.injEq, ByteArray.mk.injEq] at h; simpa using h.1
  | s => simp only [ST, Value.agg.injEq, Array.mk.injEq, List.cons.injEq, and_true, Value.string.injEq, ByteArray.mk.injEq] at h; simpa using h.1
  | nm n => simp only [ST, Value.agg.injEq, Array.mk.injEq, List.cons.injEq, and_true, Value.string.injEq, ByteArray.mk.injEq] at h; simpa using h.1

theorem app_form {w : World} {f a : Tm} {s : List UInt8} {y : Value} (h : ST w (f.app a) (.agg #[str s, y])) : s = [] ∧ ∃ g q fr s0 p0 s1 p1, y = .slice (some ⟨g, 0, none⟩) 2 q ∧ w.heap[g]? = some (.cells #[s0, p0, s1, p1] 55 fr) ∧ ST w f (.agg #[s0, p0]) ∧ ST w a (.agg #[s1, p1]) := by
  obtain ⟨g, q, fr, s0, p0, s1, p1, e, hh, hf, ha⟩ := h
  simp only [Value.agg.injEq, Array.mk.injEq, List.cons.injEq, and_true, Value.string.injEq, ByteArray.mk.injEq] at e
  exact ⟨by simpa using e.1, g, q, fr, s0, p0, s1, p1, e.2, hh, hf, ha⟩

theorem s_redex {w : World} {t : Tm} {v : Value} (h : ST w t v) (hg : t.good = true) : Calls Tryz.prog 131 #[v] w (RedexPost w t.redex) := by
  cases t with
  | k => simp only [ST] at h; subst h; exact redex_atom w _ _ _ _ (by simp [Tm.text])
  | s => simp only [ST] at h; subst h; exact redex_atom w _ _ _ _ (by simp [Tm.text])
  | nm n => simp only [ST] at h; subst h; exact redex_atom w _ _ _ _ (Tm.text_ne _ hg)
  | app f a =>
    obtain ⟨g1, q1, fr1, s0, p0, s1, p1, rfl, hh, hf, ha⟩ := h
    obtain ⟨x1, a1, n1, c1, rfl, rfl⟩ := parts_form hf
    obtain ⟨y1, b1, m1, d1, rfl, rfl⟩ := parts_form ha
    have hlt := (Array.getElem?_eq_some_iff.1 hh).1
    simp only [Tm.good, Bool.and_eq_true] at hg
    cases f with
    | k => exact redex_atom2 w g1 q1 x1 (cell_of_heap hh) hlt (by rw [atom_form hf rfl]; simp [Tm.text])
    | s => exact redex_atom2 w g1 q1 x1 (cell_of_heap hh) hlt (by rw [atom_form hf rfl]; simp [Tm.text])
    | nm n => exact redex_atom2 w g1 q1 x1 (cell_of_heap hh) hlt (by rw [atom_form hf rfl]; exact Tm.text_ne _ hg.1)
    | app g m =>
      obtain ⟨rfl, g2, q2, fr2, s2, p2, s3, p3, e2, hh2, hg2, hm⟩ := app_form hf
      injection e2 with e3 e4 e5
      subst e3; subst e4; subst e5
      obtain ⟨x2, a2, n2, c2, rfl, rfl⟩ := parts_form hg2
      obtain ⟨y2, b2, m2, d2, rfl, rfl⟩ := parts_form hm
      have hlt2 := (Array.getElem?_eq_some_iff.1 hh2).1
      have hgg := hg.1
      simp only [Tm.good, Bool.and_eq_true] at hgg
      cases g with
      | k => exact redex_k w g1 q1 g2 _ y1 x2 y2 b1 a2 b2 m1 d1 n2 m2 c2 d2 (cell_of_heap hh) (cell_of_heap hh) (cell_of_heap hh) (cell_of_heap hh) hlt (cell_of_heap hh2) (cell_of_heap hh2) (cell_of_heap hh2) (cell_of_heap hh2) hlt2 (atom_form hg2 rfl) m hm
      | s => exact redex_atom3 w g1 q1 g2 _ y1 x2 y2 b1 a2 b2 m1 d1 n2 m2 c2 d2 (cell_of_heap hh) (cell_of_heap hh) (cell_of_heap hh) (cell_of_heap hh) hlt (cell_of_heap hh2) (cell_of_heap hh2) (cell_of_heap hh2) (cell_of_heap hh2) hlt2 (by rw [atom_form hg2 rfl]; simp [Tm.text]) (by rw [atom_form hg2 rfl]; simp [Tm.text])
      | nm n =>
        have hn := name_not hgg.1
        exact redex_atom3 w g1 q1 g2 _ y1 x2 y2 b1 a2 b2 m1 d1 n2 m2 c2 d2 (cell_of_heap hh) (cell_of_heap hh) (cell_of_heap hh) (cell_of_heap hh) hlt (cell_of_heap hh2) (cell_of_heap hh2) (cell_of_heap hh2) (cell_of_heap hh2) hlt2 (by rw [atom_form hg2 rfl]; exact hn.1) (by rw [atom_form hg2 rfl]; exact hn.2.1)
      | app h x =>
        obtain ⟨rfl, g3, q3, fr3, s4, p4, s5, p5, e2, hh3, hh4, hx⟩ := app_form hg2
        injection e2 with e3 e4 e5
        subst e3; subst e4; subst e5
        obtain ⟨x3, a3, n3, c3, rfl, rfl⟩ := parts_form hh4
        obtain ⟨y3, b3, m3, d3, rfl, rfl⟩ := parts_form hx
        have hlt3 := (Array.getElem?_eq_some_iff.1 hh3).1
        have hggg := hgg.1
        simp only [Tm.good, Bool.and_eq_true] at hggg
        have deep : x3 ≠ [115] → Calls Tryz.prog 131 #[.agg #[str [], .slice (some ⟨g1, 0, none⟩) 2 q1]] w (RedexPost w none) := fun hne =>
          redex_deep w g1 q1 g2 _ g3 _ y1 y2 x3 y3 b1 b2 a3 b3 m1 d1 m2 d2 n3 c3 m3 d3 (cell_of_heap hh) (cell_of_heap hh) (cell_of_heap hh) (cell_of_heap hh) hlt (cell_of_heap hh2) (cell_of_heap hh2) (cell_of_heap hh2) (cell_of_heap hh2) hlt2 (cell_of_heap hh3) (cell_of_heap hh3) (cell_of_heap hh3) (cell_of_heap hh3) hlt3 hne
        cases h with
        | k => exact deep (by rw [atom_form hh4 rfl]; simp [Tm.text])
        | nm n => exact deep (by rw [atom_form hh4 rfl]; exact (name_not hggg.1).2.2)
        | app h1 h2 => obtain ⟨rfl, _⟩ := app_form hh4; exact deep (by simp)
        | s => exact redex_s w g1 q1 g2 _ g3 _ y1 y2 x3 y3 b1 b2 a3 b3 m1 d1 m2 d2 n3 c3 m3 d3 (cell_of_heap hh) (cell_of_heap hh) (cell_of_heap hh) (cell_of_heap hh) hlt (cell_of_heap hh2) (cell_of_heap hh2) (cell_of_heap hh2) (cell_of_heap hh2) hlt2 (cell_of_heap hh3) (cell_of_heap hh3) (cell_of_heap hh3) (cell_of_heap hh3) hlt3 (atom_form hh4 rfl) x m a hx hm ha

def SStepPost (w : World) (t : Tm) (e : Ending) (w' : World) : Prop :=
  ∃ s ao n c, e = .returned (.tuple #[.agg #[str s, .slice ao n c], .bool t.step.isSome]) ∧ After w w' ∧ ST w' (t.step.getD t) (.agg #[str s, .slice ao n c])

theorem box_facts (w : World) (x y : Value) (o : Obj) : ∀ W, After ((w.alloc (.cells #[x, y] 55)).alloc o) W → W.cell? ⟨w.heap.size, 0, none⟩ = some x ∧ W.cell? ⟨w.heap.size, 1, none⟩ = some y ∧ W.frozen? ⟨w.heap.size, 0, none⟩ = false ∧ W.frozen? ⟨w.heap.size, 1, none⟩ = false ∧ w.heap.size + 1 < W.heap.size := fun W hW => by
  have hh := hW.heap (heap_old2 w (.cells #[x, y] 55) o)
  have h2 := hW.heap (heap_new2 w w.heap.size (.cells #[x, y] 55) o rfl)
  exact ⟨cell_of_heap hh, cell_of_heap hh, by simp [World.frozen?, hh], by simp [World.frozen?, hh], (Array.getElem?_eq_some_iff.1 h2).1⟩

theorem box_facts2 (w : World) (x y : Value) (o : Obj) : ∀ W, After ((w.alloc o).alloc (.cells #[x, y] 55)) W → W.heap[w.heap.size + 1]? = some (.cells #[x, y] 55 (0, 0)) ∧ W.cell? ⟨w.heap.size + 1, 0, none⟩ = some x ∧ W.cell? ⟨w.heap.size + 1, 1, none⟩ = some y ∧ W.frozen? ⟨w.heap.size + 1, 0, none⟩ = false ∧ W.frozen? ⟨w.heap.size + 1, 1, none⟩ = false := fun W hW => by
  have hh := hW.heap (heap_new2 w w.heap.size o (.cells #[x, y] 55) rfl)
  exact ⟨hh, cell_of_heap hh, cell_of_heap hh, by simp [World.frozen?, hh], by simp [World.frozen?, hh]⟩

theorem step_redex (w : World) (t u : Tm) (x : List UInt8) (ao : Option Addr) (n c : Nat) (h : ST w t (.agg #[str x, .slice ao n c])) (hg : t.good = true) (hu : t.redex = some u) (hs : t.step = some u) :
    Calls Tryz.prog 106 #[.agg #[str x, .slice ao n c]] w (SStepPost w t) := by
  have hX : After w ((w.alloc (.cells #[str x, .slice ao n c] 55)).alloc (.cells #[.string ⟨#[]⟩, .slice none 0 0] 55)) := (After.new _ _).alloc _
  have hcall := s_redex (h.later hX) hg
  rw [hu] at hcall
  have H := Lib.hid hs
  have HX := Lib.hid hX
  clear hs hu h hX
  go_enter Tryz.func106, Tryz.ntmps106
  go_wp2_with fail
  refine hcall.mono ?_
  rintro e w1 ⟨s1, ao1, n1, c1, rfl, hb1, ht1⟩
  have HT := Lib.hid (ht1 u rfl)
  clear ht1 hcall
  obtain ⟨hr, r0, r1, f0, f1⟩ := box_facts2 w _ _ _ w1 hb1
  have hz := (Array.getElem?_eq_some_iff.1 hr).1
  have HR := Lib.hid hr
  clear hr
  go_wp2_with fail
  refine bodyPost_ret (v := .tuple #[.agg #[str s1, .slice ao1 n1 c1], .bool true]) (by simp [results, Tryz.results106, go_sem, r0, r1, hz]) rfl ⟨s1, ao1, n1, c1, by rw [H.out]; rfl, After.alloc (Below.setCell (Below.setCell (HX.out.trans hb1) (by simp) _) (by simp) _) _, ?_⟩
  rw [H.out]
  exact (HT.out.sets2 HR.out).later (After.new _ _)

theorem step_atom (w : World) (t : Tm) (x : List UInt8) (ao : Option Addr) (n c : Nat) (h : ST w t (.agg #[str x, .slice ao n c])) (hg : t.good = true) (hd : t.depth = 0) :
    Calls Tryz.prog 106 #[.agg #[str x, .slice ao n c]] w (SStepPost w t) := by
  have hX : After w ((w.alloc (.cells #[str x, .slice ao n c] 55)).alloc (.cells #[.string ⟨#[]⟩, .slice none 0 0] 55)) := (After.new _ _).alloc _
  have hcall := s_redex (h.later hX) hg
  have hu : t.redex = none := by cases t with
    | app f a => simp [Tm.depth] at hd
    | _ => rfl
  have hs : t.step = none := by cases t with
    | app f a => simp [Tm.depth] at hd
    | _ => rfl
  have hx : x.isEmpty = false := by
    have := Tm.text_ne t hg
    rw [← atom_form h hd] at this
    cases x with
    | nil => exact absurd rfl this
    | cons => rfl
  rw [hu] at hcall
  have H := Lib.hid hs
  have HX := Lib.hid hX
  have HT := Lib.hid h
  clear hs hu h hX
  go_enter Tryz.func106, Tryz.ntmps106
  go_wp2_with fail
  refine hcall.mono ?_
  rintro e w1 ⟨s1, ao1, n1, c1, rfl, hb1, ht1⟩
  clear ht1 hcall
  obtain ⟨hr, r0, r1, f0, f1⟩ := box_facts2 w _ _ _ w1 hb1
  obtain ⟨p0, p1, _, _, _⟩ := box_facts w _ _ _ w1 hb1
  have hz := (Array.getElem?_eq_some_iff.1 hr).1
  have hz2 : w.heap.size < w1.heap.size := by omega
  have HR := Lib.hid hr
  clear hr
  go_wp2_with fail
  refine bodyPost_ret (v := .tuple #[.agg #[str x, .slice ao n c], .bool false]) (by simp [results, Tryz.results106, go_sem, r0, r1, hz]) rfl ⟨x, ao, n, c, by rw [H.out]; rfl, After.alloc (Below.setCell (Below.setCell (HX.out.trans hb1) (by simp) _) (by simp) _) _, ?_⟩
  rw [H.out]
  exact ((HT.out.later (HX.out.trans hb1)).sets2 HR.out).later (After.new _ _)
end Go.Proofs.YtfjohagdlaiapaaGreat

namespace Go.Proofs.YtfjohagdlaiapaaGreat
open Go.RowKit

set_option maxHeartbeats 4000000
set_option maxRecDepth 100000

theorem step_fun (w : World) (f a : Tm) (g1 q1 : Nat) (x1 y1 : List UInt8) (a1 b1 : Option Addr) (n1 c1 m1 d1 : Nat) (fr : Nat × Nat) (hh : w.heap[g1]? = some (.cells #[str x1, .slice a1 n1 c1, str y1, .slice b1 m1 d1] 55 fr))
    (hf : ST w f (.agg #[str x1, .slice a1 n1 c1])) (ha : ST w a (.agg #[str y1, .slice b1 m1 d1])) (hg : (f.app a).good = true) (hr : (f.app a).redex = none)
    (ihf : ∀ W, After w W → Calls Tryz.prog 106 #[.agg #[str x1, .slice a1 n1 c1]] W (SStepPost W f)) (u : Tm) (hu : f.step = some u) :
    Calls Tryz.prog 106 #[.agg #[str [], .slice (some ⟨g1, 0, none⟩) 2 q1]] w (SStepPost w (f.app a)) := by
  have hs : (f.app a).step = some (u.app a) := by simp [Tm.step, hr, hu]
  have H := Lib.hid hs
  have HU := Lib.hid hu
  have hsome : f.step.isSome = true := by rw [hu]; rfl
  clear hs hu
  have hX : After w ((w.alloc (.cells #[str [], .slice (some ⟨g1, 0, none⟩) 2 q1] 55)).alloc (.cells #[.string ⟨#[]⟩, .slice none 0 0] 55)) := (After.new _ _).alloc _
  have htree : ST w (f.app a) (.agg #[str [], .slice (some ⟨g1, 0, none⟩) 2 q1]) := ⟨g1, q1, fr, _, _, _, _, rfl, hh, hf, ha⟩
  have hcall := s_redex (htree.later hX) hg
  rw [hr] at hcall
  have HX := Lib.hid hX
  have HF := Lib.hid hf
  have HA := Lib.hid ha
  have HH := Lib.hid hh
  have hlt := (Array.getElem?_eq_some_iff.1 hh).1
  clear hr hX htree hf ha
  go_enter Tryz.func106, Tryz.ntmps106
  go_wp2_with fail
  refine hcall.mono ?_
  rintro e w1 ⟨s1, ao1, nn1, cc1, rfl, hb1, ht1⟩
  clear ht1 hcall
  obtain ⟨p0, p1, _, _, hz⟩ := box_facts w _ _ _ w1 hb1
  have hz2 : w.heap.size < w1.heap.size := by omega
  have hw1 := HX.out.trans hb1
  have k0 : w1.cell? ⟨g1, 0, none⟩ = some (str x1) := cell_of_heap (hw1.heap hh)
  have k1 : w1.cell? ⟨g1, 1, none⟩ = some (.slice a1 n1 c1) := cell_of_heap (hw1.heap hh)
  have hlt1 : g1 < w1.heap.size := by omega
  clear hh
  go_wp2_with fail
  refine (ihf _ (hw1.alloc _)).mono ?_
  rintro e w2 ⟨s2, ao2, nn2, cc2, rfl, hb2, ht2⟩
  have HT2 := Lib.hid ht2
  have hb12 := (After.alloc hb1 (.cells #[str s1, .slice ao1 nn1 cc1] 55)).trans hb2
  have hw2 := HX.out.trans hb12
  clear ht2 p0 p1 hz2 k0 k1 hlt1 hz
  obtain ⟨p0, p1, _, _, hz⟩ := box_facts w _ _ _ w2 hb12
  have hz2 : w.heap.size < w2.heap.size := by omega
  go_wp2_with fail
  obtain ⟨X, hX⟩ : ∃ X, X = w2.alloc (.cells #[str s2, .slice ao2 nn2 cc2] 55) := ⟨_, rfl⟩
  have h2X : After w2 X := by rw [hX]; exact After.new _ _
  have hwX := hw2.trans h2X
  have hRX := (box_facts2 w _ _ _ X (hb12.trans h2X)).1
  have hBX : X.heap[w2.heap.size]? = some (.cells #[str s2, .slice ao2 nn2 cc2] 55 (0, 0)) := by rw [hX]; exact heap_new' _ _
  have hTX := (box_facts w _ _ _ X (hb12.trans h2X))
  have hne : w2.heap.size ≠ w.heap.size + 1 := by omega
  have hne2 : g1 ≠ w.heap.size + 1 := by omega
  have o1 : ∀ W, ButFor X (w.heap.size + 1) W → W.cell? ⟨w2.heap.size, 0, none⟩ = some (str s2) := fun W hW => hW.cell hne (cell_of_heap hBX)
  have o2 : ∀ W, ButFor X (w.heap.size + 1) W → W.cell? ⟨w2.heap.size, 1, none⟩ = some (.slice ao2 nn2 cc2) := fun W hW => hW.cell hne (cell_of_heap hBX)
  have o3 : ∀ W, ButFor X (w.heap.size + 1) W → W.cell? ⟨w.heap.size, 1, none⟩ = some (.slice (some ⟨g1, 0, none⟩) 2 q1) := fun W hW => hW.cell (by omega) hTX.2.1
  have o4 : ∀ W, ButFor X (w.heap.size + 1) W → W.cell? ⟨g1, 2, none⟩ = some (str y1) := fun W hW => hW.cell hne2 (cell_of_heap (hwX.heap HH.out))
  have o5 : ∀ W, ButFor X (w.heap.size + 1) W → W.cell? ⟨g1, 3, none⟩ = some (.slice b1 m1 d1) := fun W hW => hW.cell hne2 (cell_of_heap (hwX.heap HH.out))
  have hself := After.refl X
  have hbf : ButFor X (w.heap.size + 1) X.drew := ⟨Nat.le_refl _, fun _ _ _ => rfl⟩
  have hres : ∀ W, After X W → W.cell? ⟨w.heap.size + 1, 0, none⟩ = some (.string ⟨#[]⟩) ∧ W.cell? ⟨w.heap.size + 1, 1, none⟩ = some (.slice none 0 0) ∧ W.frozen? ⟨w.heap.size + 1, 0, none⟩ = false ∧ W.frozen? ⟨w.heap.size + 1, 1, none⟩ = false := fun W hW => by
    have hh := hW.heap hRX
    exact ⟨cell_of_heap hh, cell_of_heap hh, by simp [World.frozen?, hh], by simp [World.frozen?, hh]⟩
  rw [← hX]
  have HUX : Hid (ST X u (.agg #[str s2, .slice ao2 nn2 cc2])) := by
    have := HT2.out.later h2X
    rw [HU.out] at this
    exact this
  have HAX := Lib.hid (HA.out.later hwX)
  have HRES := Lib.hid hres
  have HWX := Lib.hid hwX
  have HRX := Lib.hid hRX
  clear hres hRX hBX hTX hwX hX p0 p1 hz hz2 hw1 hw2 hb12 h2X hb1 hb2
  go_region_held3 (fun W' => ButFor X (w.heap.size + 1) W') (first | assumption | exact hbf | exact After.butFor (by assumption) | exact ButFor.alloc (by assumption) _ | exact ButFor.set (ButFor.set (by assumption) _ _) _ _ | go_keep)
    (first | (go_at_call 32; refine (s_app _ u a s2 y1 ao2 b1 nn2 cc2 m1 d1 _ (0, 0) ?_ ?_ ?_).mono ?_; exact HUX.out.later (hself.alloc _).drew; exact HAX.out.later (hself.alloc _).drew; exact heap_new' _ _; rintro e w3 ⟨t3, ao3, nn3, cc3, rfl, hb3, hs3⟩; have hA3 := After.trans (hself.alloc _).drew hb3; obtain ⟨q0, q1, q2, q3⟩ := HRES.out _ hA3))
  all_goals
    go_wp2_with fail
    refine bodyPost_ret (v := .tuple #[.agg #[str t3, .slice ao3 nn3 cc3], .bool true]) (by simp [results, Tryz.results106, go_sem, q0, q1]) rfl ⟨t3, ao3, nn3, cc3, by rw [H.out]; rfl, Below.setCell (Below.setCell (HWX.out.trans hA3) (by simp) _) (by simp) _, ?_⟩
    rw [H.out]
    exact hs3.sets2 (hA3.heap HRX.out)

theorem step_arg (w : World) (f a : Tm) (g1 q1 : Nat) (x1 y1 : List UInt8) (a1 b1 : Option Addr) (n1 c1 m1 d1 : Nat) (fr : Nat × Nat) (hh : w.heap[g1]? = some (.cells #[str x1, .slice a1 n1 c1, str y1, .slice b1 m1 d1] 55 fr))
    (hf : ST w f (.agg #[str x1, .slice a1 n1 c1])) (ha : ST w a (.agg #[str y1, .slice b1 m1 d1])) (hg : (f.app a).good = true) (hr : (f.app a).redex = none)
    (ihf : ∀ W, After w W → Calls Tryz.prog 106 #[.agg #[str x1, .slice a1 n1 c1]] W (SStepPost W f)) (hu : f.step = none) (iha : ∀ W, After w W → Calls Tryz.prog 106 #[.agg #[str y1, .slice b1 m1 d1]] W (SStepPost W a)) :
    Calls Tryz.prog 106 #[.agg #[str [], .slice (some ⟨g1, 0, none⟩) 2 q1]] w (SStepPost w (f.app a)) := by
  have hs1 : (f.app a).step.isSome = a.step.isSome := by cases h : a.step <;> simp [Tm.step, hr, hu, h]
  have hs2 : (f.app a).step.getD (f.app a) = f.app (a.step.getD a) := by cases h : a.step <;> simp [Tm.step, hr, hu, h]
  have H1 := Lib.hid hs1
  have H2 := Lib.hid hs2
  have hsome : f.step.isSome = false := by rw [hu]; rfl
  clear hs1 hs2 hu
  have hX : After w ((w.alloc (.cells #[str [], .slice (some ⟨g1, 0, none⟩) 2 q1] 55)).alloc (.cells #[.string ⟨#[]⟩, .slice none 0 0] 55)) := (After.new _ _).alloc _
  have htree : ST w (f.app a) (.agg #[str [], .slice (some ⟨g1, 0, none⟩) 2 q1]) := ⟨g1, q1, fr, _, _, _, _, rfl, hh, hf, ha⟩
  have hcall := s_redex (htree.later hX) hg
  rw [hr] at hcall
  have HX := Lib.hid hX
  have HF := Lib.hid hf
  have HA := Lib.hid ha
  have HH := Lib.hid hh
  have hlt := (Array.getElem?_eq_some_iff.1 hh).1
  clear hr hX htree hf ha
  go_enter Tryz.func106, Tryz.ntmps106
  go_wp2_with fail
  refine hcall.mono ?_
  rintro e w1 ⟨s1, ao1, nn1, cc1, rfl, hb1, ht1⟩
  clear ht1 hcall
  obtain ⟨p0, p1, _, _, hz⟩ := box_facts w _ _ _ w1 hb1
  have hz2 : w.heap.size < w1.heap.size := by omega
  have hw1 := HX.out.trans hb1
  have k0 : w1.cell? ⟨g1, 0, none⟩ = some (str x1) := cell_of_heap (hw1.heap hh)
  have k1 : w1.cell? ⟨g1, 1, none⟩ = some (.slice a1 n1 c1) := cell_of_heap (hw1.heap hh)
  have hlt1 : g1 < w1.heap.size := by omega
  clear hh
  go_wp2_with fail
  refine (ihf _ (hw1.alloc _)).mono ?_
  rintro e w2 ⟨s2, ao2, nn2, cc2, rfl, hb2, ht2⟩
  have HT2 := Lib.hid ht2
  have hb12 := (After.alloc hb1 (.cells #[str s1, .slice ao1 nn1 cc1] 55)).trans hb2
  have hw2 := HX.out.trans hb12
  clear ht2 p0 p1 hz2 k0 k1 hlt1 hz
  clear HT2
  obtain ⟨p0, p1, _, _, hz⟩ := box_facts w _ _ _ w2 hb12
  have hz2 : w.heap.size < w2.heap.size := by omega
  have k2 : w2.cell? ⟨g1, 2, none⟩ = some (str y1) := cell_of_heap (hw2.heap HH.out)
  have k3 : w2.cell? ⟨g1, 3, none⟩ = some (.slice b1 m1 d1) := cell_of_heap (hw2.heap HH.out)
  have hlt1 : g1 < w2.heap.size := by omega
  go_wp2_with fail
  refine (iha _ (hw2.alloc _)).mono ?_
  rintro e w3 ⟨s3, ao3, nn3, cc3, rfl, hb3, ht3⟩
  have HT3 := Lib.hid ht3
  have hb13 := (After.alloc hb12 (.cells #[str s2, .slice ao2 nn2 cc2] 55)).trans hb3
  have hw3 := HX.out.trans hb13
  clear ht3 p0 p1 hz2 k2 k3 hlt1 hz
  obtain ⟨p0, p1, _, _, hz⟩ := box_facts w _ _ _ w3 hb13
  have hz2 : w.heap.size < w3.heap.size := by omega
  obtain ⟨gd, hgd⟩ : ∃ b, b = a.step.isSome := ⟨_, rfl⟩
  rw [← hgd]
  have HGD := Lib.hid hgd
  clear hgd
  go_wp2_with fail
  obtain ⟨X, hX⟩ : ∃ X, X = w3.alloc (.cells #[str s3, .slice ao3 nn3 cc3] 55) := ⟨_, rfl⟩
  have h3X : After w3 X := by rw [hX]; exact After.new _ _
  have hwX := hw3.trans h3X
  have hRX := (box_facts2 w _ _ _ X (hb13.trans h3X)).1
  have hBX : X.heap[w3.heap.size]? = some (.cells #[str s3, .slice ao3 nn3 cc3] 55 (0, 0)) := by rw [hX]; exact heap_new' _ _
  have hTX := (box_facts w _ _ _ X (hb13.trans h3X))
  have hne : w3.heap.size ≠ w.heap.size + 1 := by omega
  have hne2 : g1 ≠ w.heap.size + 1 := by omega
  have o1 : ∀ W, ButFor X (w.heap.size + 1) W → W.cell? ⟨w3.heap.size, 0, none⟩ = some (str s3) := fun W hW => hW.cell hne (cell_of_heap hBX)
  have o2 : ∀ W, ButFor X (w.heap.size + 1) W → W.cell? ⟨w3.heap.size, 1, none⟩ = some (.slice ao3 nn3 cc3) := fun W hW => hW.cell hne (cell_of_heap hBX)
  have o3 : ∀ W, ButFor X (w.heap.size + 1) W → W.cell? ⟨w.heap.size, 1, none⟩ = some (.slice (some ⟨g1, 0, none⟩) 2 q1) := fun W hW => hW.cell (by omega) hTX.2.1
  have o4 : ∀ W, ButFor X (w.heap.size + 1) W → W.cell? ⟨g1, 0, none⟩ = some (str x1) := fun W hW => hW.cell hne2 (cell_of_heap (hwX.heap HH.out))
  have o5 : ∀ W, ButFor X (w.heap.size + 1) W → W.cell? ⟨g1, 1, none⟩ = some (.slice a1 n1 c1) := fun W hW => hW.cell hne2 (cell_of_heap (hwX.heap HH.out))
  have hself := After.refl X
  have hbf : ButFor X (w.heap.size + 1) X.drew := ⟨Nat.le_refl _, fun _ _ _ => rfl⟩
  have hres : ∀ W, After X W → W.cell? ⟨w.heap.size + 1, 0, none⟩ = some (.string ⟨#[]⟩) ∧ W.cell? ⟨w.heap.size + 1, 1, none⟩ = some (.slice none 0 0) ∧ W.frozen? ⟨w.heap.size + 1, 0, none⟩ = false ∧ W.frozen? ⟨w.heap.size + 1, 1, none⟩ = false := fun W hW => by
    have hh := hW.heap hRX
    exact ⟨cell_of_heap hh, cell_of_heap hh, by simp [World.frozen?, hh], by simp [World.frozen?, hh]⟩
  rw [← hX]
  have HUX := Lib.hid (HT3.out.later h3X)
  have HFX := Lib.hid (HF.out.later hwX)
  have HRES := Lib.hid hres
  have HWX := Lib.hid hwX
  have HRX := Lib.hid hRX
  clear hres hRX hBX hTX hwX hX p0 p1 hz hz2 hw1 hw2 hw3 hb12 hb13 h3X hb1 hb2 hb3
  go_region_held3 (fun W' => ButFor X (w.heap.size + 1) W') (first | assumption | exact hbf | exact After.butFor (by assumption) | exact ButFor.alloc (by assumption) _ | exact ButFor.set (ButFor.set (by assumption) _ _) _ _ | go_keep)
    (first | (go_at_call 32; refine (s_app _ f (a.step.getD a) x1 s3 a1 ao3 n1 c1 nn3 cc3 _ (0, 0) ?_ ?_ ?_).mono ?_; exact HFX.out.later (hself.alloc _).drew; exact HUX.out.later (hself.alloc _).drew; exact heap_new' _ _; rintro e w4 ⟨t4, ao4, nn4, cc4, rfl, hb4, hs4⟩; have hA4 := After.trans (hself.alloc _).drew hb4; obtain ⟨q0, q1, q2, q3⟩ := HRES.out _ hA4))
  all_goals
    go_wp2_with fail
    refine bodyPost_ret (v := .tuple #[.agg #[str t4, .slice ao4 nn4 cc4], .bool gd]) (by simp [results, Tryz.results106, go_sem, q0, q1]) rfl ⟨t4, ao4, nn4, cc4, by rw [H1.out, HGD.out], Below.setCell (Below.setCell (HWX.out.trans hA4) (by simp) _) (by simp) _, ?_⟩
    rw [H2.out]
    exact hs4.sets2 (hA4.heap HRX.out)

theorem s_step {t : Tm} : ∀ {w : World} {v : Value}, ST w t v → t.good = true → Calls Tryz.prog 106 #[v] w (SStepPost w t) := by
  induction t with
  | k => intro w v h hg; obtain ⟨x, ao, n, c, rfl⟩ := h.form; exact step_atom w _ x ao n c h hg rfl
  | s => intro w v h hg; obtain ⟨x, ao, n, c, rfl⟩ := h.form; exact step_atom w _ x ao n c h hg rfl
  | nm m => intro w v h hg; obtain ⟨x, ao, n, c, rfl⟩ := h.form; exact step_atom w _ x ao n c h hg rfl
  | app f a ihf iha =>
    intro w v h hg
    cases hr : (f.app a).redex with
    | some u =>
      obtain ⟨x, ao, n, c, rfl⟩ := h.form
      exact step_redex w _ u x ao n c h hg hr (by simp [Tm.step, hr])
    | none =>
      obtain ⟨g1, q1, fr, s0, p0, s1, p1, rfl, hh, hf, ha⟩ := h
      obtain ⟨x1, a1, n1, c1, rfl, rfl⟩ := parts_form hf
      obtain ⟨y1, b1, m1, d1, rfl, rfl⟩ := parts_form ha
      have hg' := hg
      simp only [Tm.good, Bool.and_eq_true] at hg'
      cases hfs : f.step with
      | some u => exact step_fun w f a g1 q1 x1 y1 a1 b1 n1 c1 m1 d1 fr hh hf ha hg hr (fun W hW => ihf (hf.later hW) hg'.1) u hfs
      | none => exact step_arg w f a g1 q1 x1 y1 a1 b1 n1 c1 m1 d1 fr hh hf ha hg hr (fun W hW => ihf (hf.later hW) hg'.1) hfs (fun W hW => iha (ha.later hW) hg'.2)
end Go.Proofs.YtfjohagdlaiapaaGreat

namespace Go.Proofs.YtfjohagdlaiapaaGreat
open Go.RowKit

set_option maxHeartbeats 1000000
set_option maxRecDepth 100000

theorem heap_sets2 {W : World} {b : Nat} {x y u u' : Value} {T : TypeId} {fr : Nat × Nat} (hh : W.heap[b]? = some (.cells #[x, y] T fr)) : ((W.setCell ⟨b, 0, none⟩ u).setCell ⟨b, 1, none⟩ u').heap[b]? = some (.cells #[u, u'] T fr) := by
  simp [World.setCell, Array.getElem?_modify, hh]

theorem heap_sets2_ne {W : World} {b c i j : Nat} {u u' : Value} (hne : c ≠ b) : ((W.setCell ⟨b, i, none⟩ u).setCell ⟨b, j, none⟩ u').heap[c]? = W.heap[c]? := by
  rw [Below.heap_setCell _ _ _ _ hne, Below.heap_setCell _ _ _ _ hne]

theorem pair_facts {W : World} {b : Nat} {x y : Value} {T : TypeId} (h : W.heap[b]? = some (.cells #[x, y] T (0, 0))) {W' : World} (hW : After W W') :
    W'.cell? ⟨b, 0, none⟩ = some x ∧ W'.cell? ⟨b, 1, none⟩ = some y ∧ W'.frozen? ⟨b, 0, none⟩ = false ∧ W'.frozen? ⟨b, 1, none⟩ = false ∧ b < W'.heap.size := by
  have hh := hW.heap h
  exact ⟨cell_of_heap hh, cell_of_heap hh, by simp [World.frozen?, hh], by simp [World.frozen?, hh], (Array.getElem?_eq_some_iff.1 hh).1⟩

def SManyPost (w : World) (t : Tm) (n : Nat) (e : Ending) (w' : World) : Prop :=
  ∃ s ao m c, e = .returned (.tuple #[.agg #[str s, .slice ao m c], .int .i64 (((t.many n).2 : Nat) : Int), .bool (t.many n).1.step.isNone]) ∧ After w w' ∧ ST w' (t.many n).1 (.agg #[str s, .slice ao m c])

/-- After k rounds. -/
def SRounds (w : World) (n : Nat) (t : Tm) (i : Value) (wr : World) : Prop :=
  ∃ (k : Nat) (u : Tm) (s : List UInt8) (ao : Option Addr) (m c : Nat), i = .int .i64 k ∧ k ≤ n ∧ wr.heap[w.heap.size]? = some (.cells #[str s, .slice ao m c] 55 (0, 0)) ∧ wr.heap[w.heap.size + 1]? = some (.cells #[.string ⟨#[]⟩, .slice none 0 0] 55 (0, 0)) ∧
    ST wr u (.agg #[str s, .slice ao m c]) ∧ u.good = true ∧ u.fits = true ∧ After w wr ∧ Hid (t.many n = ((u.many (n - k)).1, (u.many (n - k)).2 + k))

theorem s_many (w : World) (n : Nat) (t : Tm) (s : List UInt8) (ao : Option Addr) (m c : Nat) (h : ST w t (.agg #[str s, .slice ao m c])) (hg : t.good = true) (hz : t.fits = true) (hn : n ≤ 1000000) :
    Calls Tryz.prog 85 #[.agg #[str s, .slice ao m c], .int .i64 n] w (SManyPost w t n) := by
  have hstart : SRounds w n t (.int .i64 0) ((w.alloc (.cells #[str s, .slice ao m c] 55)).alloc (.cells #[.string ⟨#[]⟩, .slice none 0 0] 55)) :=
    ⟨0, t, s, ao, m, c, rfl, Nat.zero_le _, heap_old2 _ _ _, heap_new2 _ _ _ _ rfl, h.later ((After.new _ _).alloc _), hg, hz, (After.new _ _).alloc _, by simp [Hid]⟩
  go_enter Tryz.func85, Tryz.ntmps85
  go_wp2_with fail
  go_loopw [7] (fun i wr => SRounds w n t i wr) (fun i _ => n - (intOf i).toNat)
  case atStart => exact hstart
  case round =>
    clear hstart h hg hz
    obtain ⟨k, u, s, ao, m, c, rfl, hk, hbox, hres, hu, hg, hf, hA, hm⟩ := hrel
    have hfz := fits_size hf
    have hstep := s_step hu hg
    unfold SStepPost at hstep
    obtain ⟨k0, k1, _, _, l1⟩ := pair_facts hbox (After.refl _)
    have HU := Lib.hid hu
    by_cases hlt : k < n
    · cases hst : u.step with
      | none =>
        have hfin : t.many n = (u, k) := by
          rw [hm.out, show n - k = (n - k - 1) + 1 by omega, Tm.many_normal _ _ hst]; simp
        have H := Lib.hid hfin
        have HST := Lib.hid hst
        rw [hst] at hstep
        clear hst hfin hm hu
        go_wp2_with fail
        refine hstep.mono ?_
        rintro e w1 ⟨s1, ao1, m1, c1, rfl, hb1, ht1⟩
        clear ht1 k0 k1
        obtain ⟨k0, k1, _, _, l1⟩ := pair_facts hbox (After.alloc hb1 (.cells #[str s1, .slice ao1 m1 c1] 55))
        obtain ⟨z0, z1, z2, z3, l2⟩ := pair_facts hres (After.alloc hb1 (.cells #[str s1, .slice ao1 m1 c1] 55))
        go_wp2_with fail
        refine bodyPost_ret (v := .tuple #[.agg #[str s, .slice ao m c], .int .i64 k, .bool true]) (by simp [results, Tryz.results85, go_sem, z0, z1]) rfl
          ⟨s, ao, m, c, by rw [H.out]; simp [HST.out], Below.setCell (Below.setCell (hA.trans (After.alloc hb1 _)) (by simp) _) (by simp) _, ?_⟩
        rw [H.out]
        exact (HU.out.later (After.alloc hb1 _)).sets2 ((After.alloc hb1 _).heap hres)
      | some u1 =>
        have hg1 := Tm.step_good hst hg
        have hs1 := step_size hst
        have HST := Lib.hid hst
        rw [hst] at hstep
        simp only [Option.isSome_some, Option.getD_some] at hstep
        cases hf1 : u1.fits with
        | false =>
          have hfin : t.many n = (u, k) := by
            rw [hm.out, show n - k = (n - k - 1) + 1 by omega]; simp [Tm.many, hst, hf1]
          have H := Lib.hid hfin
          clear hst hfin hm hu
          go_wp2_with fail
          refine hstep.mono ?_
          rintro e w1 ⟨s1, ao1, m1, c1, rfl, hb1, ht1⟩
          have hfine := (ht1.later (After.new w1 (.cells #[str s1, .slice ao1 m1 c1] 55))).fine hg1 (by omega)
          rw [hf1] at hfine
          have hw1 := After.alloc hb1 (.cells #[str s1, .slice ao1 m1 c1] 55)
          clear ht1 k0 k1 hstep
          go_wp2_with fail
          refine hfine.mono ?_
          rintro e w2 ⟨rfl, hb2⟩
          obtain ⟨k0, k1, _, _, l1⟩ := pair_facts hbox (hw1.trans hb2)
          obtain ⟨z0, z1, z2, z3, l2⟩ := pair_facts hres (hw1.trans hb2)
          go_wp2_with fail
          refine bodyPost_ret (v := .tuple #[.agg #[str s, .slice ao m c], .int .i64 k, .bool false]) (by simp [results, Tryz.results85, go_sem, z0, z1]) rfl
            ⟨s, ao, m, c, by rw [H.out]; simp [HST.out], Below.setCell (Below.setCell (hA.trans (hw1.trans hb2)) (by simp) _) (by simp) _, ?_⟩
          rw [H.out]
          exact (HU.out.later (hw1.trans hb2)).sets2 ((hw1.trans hb2).heap hres)
        | true =>
          have hfin : t.many n = ((u1.many (n - (k + 1))).1, (u1.many (n - (k + 1))).2 + (k + 1)) := by
            rw [hm.out, show n - k = (n - (k + 1)) + 1 by omega]; simp [Tm.many, hst, hf1]; omega
          have H := Lib.hid hfin
          clear hst hfin hm hu
          go_wp2_with fail
          refine hstep.mono ?_
          rintro e w1 ⟨s1, ao1, m1, c1, rfl, hb1, ht1⟩
          have hT1 := ht1.later (After.new w1 (.cells #[str s1, .slice ao1 m1 c1] 55))
          have hfine := hT1.fine hg1 (by omega)
          rw [hf1] at hfine
          have hw1 := After.alloc hb1 (.cells #[str s1, .slice ao1 m1 c1] 55)
          clear ht1 k0 k1 hstep
          go_wp2_with fail
          refine hfine.mono ?_
          rintro e w2 ⟨rfl, hb2⟩
          obtain ⟨k0, k1, f0, f1, l1⟩ := pair_facts hbox (hw1.trans hb2)
          obtain ⟨n0, n1, _, _, l3⟩ := pair_facts (hb2.heap (heap_new' w1 (.cells #[str s1, .slice ao1 m1 c1] 55))) (After.refl _)
          have hbox2 := (hw1.trans hb2).heap hbox
          have hres2 := (hw1.trans hb2).heap hres
          have HT2 := Lib.hid (hT1.later hb2)
          clear hT1
          go_wp2_with fail
          go_roundw
          case rel =>
            exact ⟨k + 1, u1, s1, ao1, m1, c1, by go_num, by omega, heap_sets2 hbox2, by rw [heap_sets2_ne (by omega)]; exact hres2, HT2.out.sets2 hbox2, hg1, hf1,
              Below.setCell (Below.setCell (hA.trans (hw1.trans hb2)) (by simp) _) (by simp) _, H⟩
          case measure => simp [intOf]; omega
    · have hkn : k = n := by omega
      subst hkn
      have hfin : t.many k = (u, k) := by rw [hm.out]; simp [Tm.many]
      have H := Lib.hid hfin
      obtain ⟨b, hb⟩ : ∃ b, b = u.step.isSome := ⟨_, rfl⟩
      rw [← hb] at hstep
      have HB := Lib.hid hb
      clear hfin hm hu hb
      go_wp2_with fail
      refine hstep.mono ?_
      rintro e w1 ⟨s1, ao1, m1, c1, rfl, hb1, ht1⟩
      clear ht1 k0 k1
      obtain ⟨k0, k1, _, _, l1⟩ := pair_facts hbox (After.alloc hb1 (.cells #[str s1, .slice ao1 m1 c1] 55))
      obtain ⟨z0, z1, z2, z3, l2⟩ := pair_facts hres (After.alloc hb1 (.cells #[str s1, .slice ao1 m1 c1] 55))
      go_wp2_with fail
      refine bodyPost_ret (v := .tuple #[.agg #[str s, .slice ao m c], .int .i64 k, .bool (!b)]) (by simp [results, Tryz.results85, go_sem, z0, z1]) rfl
        ⟨s, ao, m, c, by rw [H.out, HB.out]; cases u.step <;> rfl, Below.setCell (Below.setCell (hA.trans (After.alloc hb1 _)) (by simp) _) (by simp) _, ?_⟩
      rw [H.out]
      exact (HU.out.later (After.alloc hb1 _)).sets2 ((After.alloc hb1 _).heap hres)

def SNormPost (w : World) (t : Tm) (b : Bool) (e : Ending) (w' : World) : Prop :=
  ∃ s ao m c, e = .returned (.tuple #[.agg #[str s, .slice ao m c], .bool b]) ∧ After w w' ∧ ST w' t (.agg #[str s, .slice ao m c])

theorem s_normal_no (w : World) (t : Tm) (s : List UInt8) (ao : Option Addr) (m c : Nat) (h : ST w t (.agg #[str s, .slice ao m c])) (hg : t.good = true) (hz : t.size ≤ 1000000) (hf : t.fits = false) :
    Calls Tryz.prog 58 #[.agg #[str s, .slice ao m c]] w (SNormPost w t false) := by
  obtain ⟨X, hX⟩ : ∃ X, X = (w.alloc (.cells #[str s, .slice ao m c] 55)).alloc (.cells #[.string ⟨#[]⟩, .slice none 0 0] 55) := ⟨_, rfl⟩
  have hAX : After w X := by rw [hX]; exact (After.new _ _).alloc _
  have hbox : X.heap[w.heap.size]? = some (.cells #[str s, .slice ao m c] 55 (0, 0)) := by rw [hX]; exact heap_old2 _ _ _
  have hres : X.heap[w.heap.size + 1]? = some (.cells #[.string ⟨#[]⟩, .slice none 0 0] 55 (0, 0)) := by rw [hX]; exact heap_new2 _ _ _ _ rfl
  have hfine := (h.later hAX).fine hg (by omega)
  rw [hf] at hfine
  have HT := Lib.hid (h.later hAX)
  obtain ⟨k0, k1, _, _, l1⟩ := pair_facts hbox (After.refl _)
  clear h
  go_enter Tryz.func58, Tryz.ntmps58
  go_wp2_with fail
  rw [← hX]
  clear hX
  go_wp2_with fail
  refine hfine.mono ?_
  rintro e w1 ⟨rfl, hb1⟩
  clear k0 k1
  obtain ⟨k0, k1, _, _, l1⟩ := pair_facts hbox hb1
  obtain ⟨z0, z1, z2, z3, l2⟩ := pair_facts hres hb1
  go_wp2_with fail
  refine bodyPost_ret (v := .tuple #[.agg #[str s, .slice ao m c], .bool false]) (by simp [results, Tryz.results58, go_sem, z0, z1]) rfl
    ⟨s, ao, m, c, rfl, Below.setCell (Below.setCell (hAX.trans hb1) (by simp) _) (by simp) _, ?_⟩
  exact (HT.out.later hb1).sets2 (hb1.heap hres)

theorem s_normal (w : World) (t : Tm) (s : List UInt8) (ao : Option Addr) (m c : Nat) (h : ST w t (.agg #[str s, .slice ao m c])) (hg : t.good = true) (hf : t.fits = true) :
    Calls Tryz.prog 58 #[.agg #[str s, .slice ao m c]] w (SNormPost w (t.many 6000).1 (t.many 6000).1.step.isNone) := by
  obtain ⟨X, hX⟩ : ∃ X, X = (w.alloc (.cells #[str s, .slice ao m c] 55)).alloc (.cells #[.string ⟨#[]⟩, .slice none 0 0] 55) := ⟨_, rfl⟩
  have hAX : After w X := by rw [hX]; exact (After.new _ _).alloc _
  have hbox : X.heap[w.heap.size]? = some (.cells #[str s, .slice ao m c] 55 (0, 0)) := by rw [hX]; exact heap_old2 _ _ _
  have hres : X.heap[w.heap.size + 1]? = some (.cells #[.string ⟨#[]⟩, .slice none 0 0] 55 (0, 0)) := by rw [hX]; exact heap_new2 _ _ _ _ rfl
  have hfz := fits_size hf
  have hfine := (h.later hAX).fine hg (by omega)
  rw [hf] at hfine
  have hmany := fun W (hW : After X W) => s_many W 6000 t s ao m c ((h.later hAX).later hW) hg hf (by omega)
  unfold SManyPost at hmany
  generalize hmm : t.many 6000 = mm at *
  obtain ⟨u, i⟩ := mm
  simp only at hmany ⊢
  generalize hb : u.step.isNone = b at *
  obtain ⟨k0, k1, _, _, l1⟩ := pair_facts hbox (After.refl _)
  clear h hmm hb
  go_enter Tryz.func58, Tryz.ntmps58
  go_wp2_with fail
  rw [← hX]
  clear hX
  go_wp2_with fail
  refine hfine.mono ?_
  rintro e w1 ⟨rfl, hb1⟩
  have hcall := hmany w1 hb1
  clear k0 k1 hmany hfine
  obtain ⟨k0, k1, _, _, l1⟩ := pair_facts hbox hb1
  go_wp2_with fail
  refine hcall.mono ?_
  rintro e w2 ⟨s2, ao2, m2, c2, rfl, hb2, ht2⟩
  have HT2 := Lib.hid ht2
  have hw2 := After.alloc (hb1.trans hb2) (.cells #[str s2, .slice ao2 m2 c2] 55)
  clear ht2 k0 k1
  obtain ⟨z0, z1, z2, z3, l2⟩ := pair_facts hres hw2
  have hne : w2.heap.size ≠ w.heap.size + 1 := by have := (Array.getElem?_eq_some_iff.1 ((hb1.trans hb2).heap hres)).1; omega
  go_wp2_with fail
  refine bodyPost_ret (v := .tuple #[.agg #[str s2, .slice ao2 m2 c2], .bool b]) (by simp [results, Tryz.results58, go_sem, z0, z1]) rfl
    ⟨s2, ao2, m2, c2, rfl, Below.setCell (Below.setCell (hAX.trans hw2) (by simp) _) (by simp) _, ?_⟩
  exact (HT2.out.later (After.new w2 _)).sets2 (hw2.heap hres)
end Go.Proofs.YtfjohagdlaiapaaGreat

namespace Go.Proofs.YtfjohagdlaiapaaGreat
open Go.RowKit

set_option maxHeartbeats 1000000
set_option maxRecDepth 100000

theorem s_app2 (w : World) (f a b : Tm) (s1 s2 s3 : List UInt8) (a1 a2 a3 : Option Addr) (n1 c1 n2 c2 n3 c3 g : Nat) (fr : Nat × Nat) (hf : ST w f (.agg #[str s1, .slice a1 n1 c1])) (ha : ST w a (.agg #[str s2, .slice a2 n2 c2])) (hb : ST w b (.agg #[str s3, .slice a3 n3 c3]))
    (hg : w.heap[g]? = some (.cells #[str s2, .slice a2 n2 c2, str s3, .slice a3 n3 c3] 55 fr)) :
    Calls Tryz.prog 32 #[.agg #[str s1, .slice a1 n1 c1], .slice (some ⟨g, 0, none⟩) 2 2] w (TreePost w ((f.app a).app b)) := by
  have k0 : w.cell? ⟨g, 0, none⟩ = some (str s2) := cell_of_heap hg
  have k1 : w.cell? ⟨g, 1, none⟩ = some (.slice a2 n2 c2) := cell_of_heap hg
  have k2 : w.cell? ⟨g, 2, none⟩ = some (str s3) := cell_of_heap hg
  have k3 : w.cell? ⟨g, 3, none⟩ = some (.slice a3 n3 c3) := cell_of_heap hg
  have hlt := (Array.getElem?_eq_some_iff.1 hg).1
  have HF := Lib.hid hf
  have HA := Lib.hid ha
  have HB := Lib.hid hb
  clear hf ha hb hg
  go_enter Tryz.func32, Tryz.ntmps32
  go_wp2_with fail
  refine wp_loop_rounds 3 ?_
  rw [rounds_succ]
  go_wp2_with fail
  go_region
  go_wp2_with fail
  have hx := ((After.new w (.cells #[.string ⟨#[]⟩, .slice (some ⟨w.heap.size + 1 + 1, 0, none⟩) 2 2] 55)).alloc (.cells #[.string ⟨#[]⟩, .slice none 0 0] 55)).alloc (.cells #[str s1, .slice a1 n1 c1, str s2, .slice a2 n2 c2] 55)
  have x2 := hx.cell k2
  have x3 := hx.cell k3
  have hlt2 : g < w.heap.size + 1 + 1 + 1 := by omega
  rw [rounds_succ]
  go_wp2_with fail
  go_region
  go_wp2_with fail
  rw [rounds_succ]
  go_wp2_with fail
  obtain ⟨os, hos⟩ : ∃ os : List Obj, os = [.cells #[.string ⟨#[]⟩, .slice (some ⟨w.heap.size + 1 + 1 + 1, 0, none⟩) 2 2] 55, .cells #[.string ⟨#[]⟩, .slice (some ⟨w.heap.size + 1 + 1 + 1, 0, none⟩) 2 2] 55, .cells #[str s1, .slice a1 n1 c1, str s2, .slice a2 n2 c2] 55, .cells #[.string ⟨#[]⟩, .slice (some ⟨w.heap.size + 1 + 1, 0, none⟩) 2 2, str s3, .slice a3 n3 c3] 55] := ⟨_, rfl⟩
  have hX : allocL w os = (((w.alloc (.cells #[.string ⟨#[]⟩, .slice (some ⟨w.heap.size + 1 + 1 + 1, 0, none⟩) 2 2] 55)).alloc (.cells #[.string ⟨#[]⟩, .slice (some ⟨w.heap.size + 1 + 1 + 1, 0, none⟩) 2 2] 55)).alloc (.cells #[str s1, .slice a1 n1 c1, str s2, .slice a2 n2 c2] 55)).alloc (.cells #[.string ⟨#[]⟩, .slice (some ⟨w.heap.size + 1 + 1, 0, none⟩) 2 2, str s3, .slice a3 n3 c3] 55) := by rw [hos]; rfl
  have hy : After w (allocL w os) := allocL_below w os
  have h2 : (allocL w os).heap[w.heap.size + 1 + 1]? = some (.cells #[str s1, .slice a1 n1 c1, str s2, .slice a2 n2 c2] 55 (0, 0)) := by have := allocL_heap w os 2 (by rw [hos]; simp); simpa [hos] using this
  have h3 : (allocL w os).heap[w.heap.size + 1 + 1 + 1]? = some (.cells #[.string ⟨#[]⟩, .slice (some ⟨w.heap.size + 1 + 1, 0, none⟩) 2 2, str s3, .slice a3 n3 c3] 55 (0, 0)) := by have := allocL_heap w os 3 (by rw [hos]; simp); simpa [hos] using this
  rw [hX] at hy h2 h3
  refine bodyPost_ret (v := .agg #[.string ⟨#[]⟩, .slice (some ⟨w.heap.size + 1 + 1 + 1, 0, none⟩) 2 2]) (by simp [results, Tryz.results32, go_sem]) rfl ⟨[], some ⟨w.heap.size + 1 + 1 + 1, 0, none⟩, 2, 2, rfl, hy.drew.drew, ?_⟩
  exact ⟨_, 2, (0, 0), _, _, _, _, rfl, h3, ⟨_, 2, (0, 0), _, _, _, _, rfl, h2, HF.out.later hy.drew.drew, HA.out.later hy.drew.drew⟩, HB.out.later hy.drew.drew⟩

theorem s_i (w : World) : Calls Tryz.prog 105 #[] w (TreePost w Tm.I) := by
  have hAX : After w ((w.alloc (.cells #[.string ⟨#[]⟩, .slice none 0 0] 55)).alloc (.cells #[str [107], .slice none 0 0, str [107], .slice none 0 0] 55)) := (After.new _ _).alloc _
  have hres := heap_old2 w (.cells #[.string ⟨#[]⟩, .slice none 0 0] 55) (.cells #[str [107], .slice none 0 0, str [107], .slice none 0 0] 55)
  have hcall := s_app2 _ .s .k .k [115] [107] [107] none none none 0 0 0 0 0 0 (w.heap.size + 1) (0, 0) rfl rfl rfl (heap_new2 w _ (.cells #[.string ⟨#[]⟩, .slice none 0 0] 55) (.cells #[str [107], .slice none 0 0, str [107], .slice none 0 0] 55) rfl)
  unfold TreePost at hcall
  have HRES := Lib.hid hres
  clear hres
  go_enter Tryz.func105, Tryz.ntmps105
  go_wp2_with fail
  refine hcall.mono ?_
  rintro e w1 ⟨t1, ao1, n1, c1, rfl, hb1, ht1⟩
  have HT := Lib.hid ht1
  obtain ⟨z0, z1, z2, z3, l2⟩ := pair_facts HRES.out hb1
  clear ht1 hcall
  go_wp2_with fail
  refine bodyPost_ret (v := .agg #[str t1, .slice ao1 n1 c1]) (by simp [results, Tryz.results105, go_sem, z0, z1]) rfl
    ⟨t1, ao1, n1, c1, rfl, Below.setCell (Below.setCell (hAX.trans hb1) (by simp) _) (by simp) _, HT.out.sets2 (hb1.heap HRES.out)⟩

end Go.Proofs.YtfjohagdlaiapaaGreat

namespace Go.Proofs.YtfjohagdlaiapaaGreat
open Go.RowKit

set_option maxHeartbeats 2000000
set_option maxRecDepth 100000

namespace Tm
/-- No atom without letters. -/
def Plain : Tm → Prop
  | nm n => n ≠ []
  | app f a => Plain f ∧ Plain a
  | _ => True
def isNm (x : List UInt8) : Tm → Bool
  | nm n => n == x
  | _ => false
def abs (x : List UInt8) : Tm → Tm
  | nm n => if n = x then I else app k (nm n)
  | app f a => if uses x (app f a) = 0 then app k (app f a) else if isNm x a = true ∧ uses x f = 0 then f else app (app s (abs x f)) (abs x a)
  | t => app k t
theorem plain_good {t : Tm} : t.good = true → t.Plain := by
  induction t with
  | nm n => intro h; exact text_ne (.nm n) h
  | app f a ihf iha => intro h; simp only [good, Bool.and_eq_true] at h; exact ⟨ihf h.1, iha h.2⟩
  | k => intro _; trivial
  | s => intro _; trivial
end Tm

theorem usesG_atom (w : World) (s name : List UInt8) (v : Value) (hs : s ≠ []) (b : Bool) (hb : (s == name) = b) :
    Calls Tryz.prog 107 #[.agg #[str s, v], str name] w fun e w' => e = .returned (.int .i64 (if b then 1 else 0)) ∧ After w w' := by
  have he : s.isEmpty = false := by cases s with | nil => exact absurd rfl hs | cons => rfl
  clear hs
  cases b
  all_goals
    try simp only [beq_iff_eq] at hb
    try subst hb
    go_enter Tryz.func107, Tryz.ntmps107
    go_wp2_with fail
    go_ret
    exact ⟨rfl, After.new _ _⟩

theorem usesG_app (w : World) (name : List UInt8) (g cap : Nat) (fr : Nat × Nat) (s0 s1 : List UInt8) (a0 a1 : Option Addr) (n0 c0 n1 c1 : Nat) (f a : Tm) (hh : w.heap[g]? = some (.cells #[str s0, .slice a0 n0 c0, str s1, .slice a1 n1 c1] 55 fr))
    (hf : ∀ W, After w W → Calls Tryz.prog 107 #[.agg #[str s0, .slice a0 n0 c0], str name] W fun e w' => e = .returned (.int .i64 (f.uses name : Nat)) ∧ After W w')
    (ha : ∀ W, After w W → Calls Tryz.prog 107 #[.agg #[str s1, .slice a1 n1 c1], str name] W fun e w' => e = .returned (.int .i64 (a.uses name : Nat)) ∧ After W w') (hz : f.uses name + a.uses name ≤ 1000000000000) :
    Calls Tryz.prog 107 #[.agg #[str [], .slice (some ⟨g, 0, none⟩) 2 cap], str name] w fun e w' => e = .returned (.int .i64 ((f.app a).uses name : Nat)) ∧ After w w' := by
  obtain ⟨hnew, hself, b0, b1, g0, g1, g2, g3⟩ := kid_facts w g cap fr s0 s1 a0 a1 n0 c0 n1 c1 hh
  have hw : IntKind.i64.wrap ((f.uses name : Int) + (a.uses name : Int)) = (((f.app a).uses name : Nat) : Int) := by rw [IntWalk.i64_in _ (by omega)]; simp [Tm.uses]
  have HW := Lib.hid hw
  clear hw
  go_enter Tryz.func107, Tryz.ntmps107
  go_wp2_with fail
  go_region_held3 (fun W' => After (w.alloc (.cells #[str [], .slice (some ⟨g, 0, none⟩) 2 cap] 55)) W') (first | assumption | exact hself.drew | go_keep)
    (first
      | (go_at_call_of 107 a0; refine (hf _ (hnew.trans (by assumption))).mono ?_; rintro e w1 ⟨rfl, hb1⟩; have hb1' := After.trans (by assumption) hb1)
      | (go_at_call_of 107 a1; refine (ha _ (hnew.trans (by assumption))).mono ?_; rintro e w2 ⟨rfl, hb2⟩; have hb2' := After.trans (by assumption) hb2))
  go_wp2_with fail
  go_ret
  exact ⟨by rw [← HW.out]; rfl, hnew.trans hb2'⟩

theorem ST.usesG {t : Tm} (name : List UInt8) (hk : ([107] == name) = false) (hs : ([115] == name) = false) : ∀ {w : World} {v : Value}, ST w t v → t.Plain → t.size ≤ 1000000000 → Calls Tryz.prog 107 #[v, str name] w fun e w' => e = .returned (.int .i64 (t.uses name : Nat)) ∧ After w w' := by
  induction t with
  | k => intro w v h _ _; simp only [ST] at h; subst h; exact usesG_atom w _ name _ (by simp [Tm.text]) false hk
  | s => intro w v h _ _; simp only [ST] at h; subst h; exact usesG_atom w _ name _ (by simp [Tm.text]) false hs
  | nm n =>
    intro w v h hg _; simp only [ST] at h; subst h
    refine (usesG_atom w _ name _ hg _ rfl).mono ?_
    rintro e w' ⟨rfl, hb⟩
    refine ⟨?_, hb⟩
    by_cases hx : n = name <;> simp [Tm.uses, hx]
  | app f a ihf iha =>
    intro w v h hg hz
    obtain ⟨g, cap, fr, s0, p0, s1, p1, rfl, hh, hf, ha⟩ := h
    simp only [Tm.size] at hz
    obtain ⟨x0, a0, n0, c0, rfl, rfl⟩ := parts_form hf
    obtain ⟨x1, a1, n1, c1, rfl, rfl⟩ := parts_form ha
    have h1 := Tm.uses_le name f
    have h2 := Tm.uses_le name a
    exact usesG_app w name g cap fr x0 x1 a0 a1 n0 c0 n1 c1 f a hh (fun W hW => ihf (hf.later hW) hg.1 (by omega)) (fun W hW => iha (ha.later hW) hg.2 (by omega)) (by omega)

/-! ### l2Abs -/

theorem abs_i (w : World) (x : List UInt8) (ao : Option Addr) (n c : Nat) : Calls Tryz.prog 86 #[str x, .agg #[str x, .slice ao n c]] w (TreePost w Tm.I) := by
  have hA : After w ((w.alloc (.cells #[str x, .slice ao n c] 55)).alloc (.cells #[.string ⟨#[]⟩, .slice none 0 0] 55)) := (After.new _ _).alloc _
  have hres := heap_new2 w _ (.cells #[str x, .slice ao n c] 55) (.cells #[.string ⟨#[]⟩, .slice none 0 0] 55) rfl
  have hI := s_i ((w.alloc (.cells #[str x, .slice ao n c] 55)).alloc (.cells #[.string ⟨#[]⟩, .slice none 0 0] 55))
  unfold TreePost at hI
  have HRES := Lib.hid hres
  clear hres
  go_enter Tryz.func86, Tryz.ntmps86
  go_wp2_with fail
  refine hI.mono ?_
  rintro e w1 ⟨t1, ao1, n1, c1, rfl, hb1, ht1⟩
  have HT := Lib.hid ht1
  obtain ⟨z0, z1, z2, z3, l2⟩ := pair_facts HRES.out hb1
  clear ht1 hI
  go_wp2_with fail
  refine bodyPost_ret (v := .agg #[str t1, .slice ao1 n1 c1]) (by simp [results, Tryz.results86, go_sem, z0, z1]) rfl
    ⟨t1, ao1, n1, c1, rfl, Below.setCell (Below.setCell (hA.trans hb1) (by simp) _) (by simp) _, HT.out.sets2 (hb1.heap HRES.out)⟩

theorem abs_k (w : World) (x s : List UInt8) (ao : Option Addr) (n c : Nat) (t : Tm) (h : ST w t (.agg #[str s, .slice ao n c])) (hne : (s == x) = false)
    (hu : ∀ W, After w W → Calls Tryz.prog 107 #[.agg #[str s, .slice ao n c], str x] W fun e w' => e = .returned (.int .i64 0) ∧ After W w') :
    Calls Tryz.prog 86 #[str x, .agg #[str s, .slice ao n c]] w (TreePost w (.app .k t)) := by
  have hA : After w ((w.alloc (.cells #[str s, .slice ao n c] 55)).alloc (.cells #[.string ⟨#[]⟩, .slice none 0 0] 55)) := (After.new _ _).alloc _
  have hres := heap_new2 w _ (.cells #[str s, .slice ao n c] 55) (.cells #[.string ⟨#[]⟩, .slice none 0 0] 55) rfl
  have hbox := heap_old2 w (.cells #[str s, .slice ao n c] 55) (.cells #[.string ⟨#[]⟩, .slice none 0 0] 55)
  have hcall := hu _ hA
  have HRES := Lib.hid hres
  have HBOX := Lib.hid hbox
  have HT0 := Lib.hid (h.later hA)
  clear hres hbox hu h
  go_enter Tryz.func86, Tryz.ntmps86
  go_wp2_with fail
  refine hcall.mono ?_
  rintro e w1 ⟨rfl, hb1⟩
  obtain ⟨k0, k1, _, _, l1⟩ := pair_facts HBOX.out hb1
  have happ := s_app (w1.alloc (.cells #[str s, .slice ao n c] 55)) .k t [107] s none ao 0 0 n c w1.heap.size (0, 0) rfl (HT0.out.later (After.alloc hb1 _)) (heap_new' _ _)
  unfold TreePost at happ
  have hA1 := After.alloc hb1 (.cells #[str s, .slice ao n c] 55)
  clear hcall
  go_wp2_with fail
  refine happ.mono ?_
  rintro e w2 ⟨t2, ao2, n2, c2, rfl, hb2, ht2⟩
  have HT := Lib.hid ht2
  have hA2 := hA1.trans hb2
  obtain ⟨z0, z1, z2, z3, l2⟩ := pair_facts HRES.out hA2
  clear ht2 happ k0 k1
  go_wp2_with fail
  refine bodyPost_ret (v := .agg #[str t2, .slice ao2 n2 c2]) (by simp [results, Tryz.results86, go_sem, z0, z1]) rfl
    ⟨t2, ao2, n2, c2, rfl, Below.setCell (Below.setCell (hA.trans hA2) (by simp) _) (by simp) _, HT.out.sets2 (hA2.heap HRES.out)⟩

theorem abs_end (w : World) (x : List UInt8) (g q : Nat) (fr : Nat × Nat) (s0 : List UInt8) (a0 a1 : Option Addr) (n0 c0 n1 c1 : Nat) (f : Tm) (u : Nat) (hh : w.heap[g]? = some (.cells #[str s0, .slice a0 n0 c0, str x, .slice a1 n1 c1] 55 fr)) (hf : ST w f (.agg #[str s0, .slice a0 n0 c0])) (hx : ([] == x) = false) (hu0 : 0 < u)
    (hu : ∀ W, After w W → Calls Tryz.prog 107 #[.agg #[str [], .slice (some ⟨g, 0, none⟩) 2 q], str x] W fun e w' => e = .returned (.int .i64 u) ∧ After W w')
    (hu2 : ∀ W, After w W → Calls Tryz.prog 107 #[.agg #[str s0, .slice a0 n0 c0], str x] W fun e w' => e = .returned (.int .i64 0) ∧ After W w') :
    Calls Tryz.prog 86 #[str x, .agg #[str [], .slice (some ⟨g, 0, none⟩) 2 q]] w (TreePost w f) := by
  have hA : After w ((w.alloc (.cells #[str [], .slice (some ⟨g, 0, none⟩) 2 q] 55)).alloc (.cells #[.string ⟨#[]⟩, .slice none 0 0] 55)) := (After.new _ _).alloc _
  have hres := heap_new2 w _ (.cells #[str [], .slice (some ⟨g, 0, none⟩) 2 q] 55) (.cells #[.string ⟨#[]⟩, .slice none 0 0] 55) rfl
  have hbox := heap_old2 w (.cells #[str [], .slice (some ⟨g, 0, none⟩) 2 q] 55) (.cells #[.string ⟨#[]⟩, .slice none 0 0] 55)
  have hcall := hu _ hA
  have hu0' : ((u : Int) == 0) = false := by rw [beq_eq_false_iff_ne]; omega
  have HRES := Lib.hid hres
  have HBOX := Lib.hid hbox
  have HH := Lib.hid (hA.heap hh)
  have HU2 := Lib.hid hu2
  have HF := Lib.hid (hf.later hA)
  clear hres hbox hu hf hh hu2 hu0
  go_enter Tryz.func86, Tryz.ntmps86
  go_wp2_with fail
  refine hcall.mono ?_
  rintro e w1 ⟨rfl, hb1⟩
  obtain ⟨k0, k1, _, _, l1⟩ := pair_facts HBOX.out hb1
  have g0 : w1.cell? ⟨g, 0, none⟩ = some (str s0) := cell_of_heap (hb1.heap HH.out)
  have g1 : w1.cell? ⟨g, 1, none⟩ = some (.slice a0 n0 c0) := cell_of_heap (hb1.heap HH.out)
  have g2 : w1.cell? ⟨g, 2, none⟩ = some (str x) := cell_of_heap (hb1.heap HH.out)
  have hcall2 := HU2.out _ (hA.trans hb1)
  clear hcall
  go_wp2_with fail
  refine hcall2.mono ?_
  rintro e w2 ⟨rfl, hb2⟩
  have hb12 := After.trans hb1 hb2
  clear k0 k1 g0 g1 g2 l1
  obtain ⟨k0, k1, _, _, l1⟩ := pair_facts HBOX.out hb12
  have g0 : w2.cell? ⟨g, 0, none⟩ = some (str s0) := cell_of_heap (hb12.heap HH.out)
  have g1 : w2.cell? ⟨g, 1, none⟩ = some (.slice a0 n0 c0) := cell_of_heap (hb12.heap HH.out)
  obtain ⟨z0, z1, z2, z3, l2⟩ := pair_facts HRES.out hb12
  clear hcall2
  go_wp2_with fail
  refine bodyPost_ret (v := .agg #[str s0, .slice a0 n0 c0]) (by simp [results, Tryz.results86, go_sem, z0, z1]) rfl
    ⟨s0, a0, n0, c0, rfl, Below.setCell (Below.setCell (hA.trans hb12) (by simp) _) (by simp) _, (HF.out.later hb12).sets2 (hb12.heap HRES.out)⟩

theorem abs_s (w : World) (x : List UInt8) (g q : Nat) (fr : Nat × Nat) (s0 s1 : List UInt8) (a0 a1 : Option Addr) (n0 c0 n1 c1 : Nat) (F A : Tm) (u u2 : Nat) (b : Bool) (hh : w.heap[g]? = some (.cells #[str s0, .slice a0 n0 c0, str s1, .slice a1 n1 c1] 55 fr)) (hx : ([] == x) = false) (hu0 : 0 < u) (hb : (s1 == x) = b) (hu20 : b = true → 0 < u2)
    (hu : ∀ W, After w W → Calls Tryz.prog 107 #[.agg #[str [], .slice (some ⟨g, 0, none⟩) 2 q], str x] W fun e w' => e = .returned (.int .i64 u) ∧ After W w')
    (hu2 : ∀ W, After w W → Calls Tryz.prog 107 #[.agg #[str s0, .slice a0 n0 c0], str x] W fun e w' => e = .returned (.int .i64 u2) ∧ After W w')
    (hrf : ∀ W, After w W → Calls Tryz.prog 86 #[str x, .agg #[str s0, .slice a0 n0 c0]] W (TreePost W F))
    (hra : ∀ W, After w W → Calls Tryz.prog 86 #[str x, .agg #[str s1, .slice a1 n1 c1]] W (TreePost W A)) :
    Calls Tryz.prog 86 #[str x, .agg #[str [], .slice (some ⟨g, 0, none⟩) 2 q]] w (TreePost w (.app (.app .s F) A)) := by
  have hA : After w ((w.alloc (.cells #[str [], .slice (some ⟨g, 0, none⟩) 2 q] 55)).alloc (.cells #[.string ⟨#[]⟩, .slice none 0 0] 55)) := (After.new _ _).alloc _
  have hres := heap_new2 w _ (.cells #[str [], .slice (some ⟨g, 0, none⟩) 2 q] 55) (.cells #[.string ⟨#[]⟩, .slice none 0 0] 55) rfl
  have hbox := heap_old2 w (.cells #[str [], .slice (some ⟨g, 0, none⟩) 2 q] 55) (.cells #[.string ⟨#[]⟩, .slice none 0 0] 55)
  have hcall := hu _ hA
  have hglt := (Array.getElem?_eq_some_iff.1 hh).1
  have hu0' : ((u : Int) == 0) = false := by rw [beq_eq_false_iff_ne]; omega
  have HRES := Lib.hid hres
  have HBOX := Lib.hid hbox
  have HH := Lib.hid (hA.heap hh)
  have HU2 := Lib.hid hu2
  have HU20 := Lib.hid hu20
  have HRF := Lib.hid hrf
  have HRA := Lib.hid hra
  clear hres hbox hu hh hu2 hu0 hu20 hrf hra
  cases b
  · go_enter Tryz.func86, Tryz.ntmps86
    go_wp2_with fail
    refine hcall.mono ?_
    rintro e Y ⟨rfl, hY⟩
    obtain ⟨k0, k1, _, _, l1⟩ := pair_facts HBOX.out hY
    have g2 : Y.cell? ⟨g, 2, none⟩ = some (str s1) := cell_of_heap (hY.heap HH.out)
    clear hcall
    go_wp2_with fail
    clear k0 k1 g2 l1
    have hwY := hA.trans hY
    have hgY := hY.heap HH.out
    have hbY := hY.heap HBOX.out
    have hrY := hY.heap HRES.out
    have o1 : ∀ W, ButFor Y (w.heap.size + 1) W → W.cell? ⟨w.heap.size, 1, none⟩ = some (.slice (some ⟨g, 0, none⟩) 2 q) := fun W hW => hW.cell (by omega) (cell_of_heap hbY)
    have q0 : ∀ W, ButFor Y (w.heap.size + 1) W → W.cell? ⟨g, 0, none⟩ = some (str s0) := fun W hW => hW.cell (by omega) (cell_of_heap hgY)
    have q1 : ∀ W, ButFor Y (w.heap.size + 1) W → W.cell? ⟨g, 1, none⟩ = some (.slice a0 n0 c0) := fun W hW => hW.cell (by omega) (cell_of_heap hgY)
    have q2 : ∀ W, ButFor Y (w.heap.size + 1) W → W.cell? ⟨g, 2, none⟩ = some (str s1) := fun W hW => hW.cell (by omega) (cell_of_heap hgY)
    have q3 : ∀ W, ButFor Y (w.heap.size + 1) W → W.cell? ⟨g, 3, none⟩ = some (.slice a1 n1 c1) := fun W hW => hW.cell (by omega) (cell_of_heap hgY)
    have hbf : ButFor Y (w.heap.size + 1) Y.drew := ⟨Nat.le_refl _, fun _ _ _ => rfl⟩
    have hself := After.refl Y
    have hzres : ∀ W, After Y W → W.cell? ⟨w.heap.size + 1, 0, none⟩ = some (.string ⟨#[]⟩) ∧ W.cell? ⟨w.heap.size + 1, 1, none⟩ = some (.slice none 0 0) ∧ W.frozen? ⟨w.heap.size + 1, 0, none⟩ = false ∧ W.frozen? ⟨w.heap.size + 1, 1, none⟩ = false := fun W hW => by
      obtain ⟨a1, a2, a3, a4, _⟩ := pair_facts hrY hW
      exact ⟨a1, a2, a3, a4⟩
    have HZ := Lib.hid hzres
    have HWY := Lib.hid hwY
    have HRY := Lib.hid hrY
    clear hzres hwY hgY hbY hrY hY hA HH HBOX HRES
    go_region_held3 (fun W' => ButFor Y (w.heap.size + 1) W') (first | assumption | exact hbf | exact After.butFor (by assumption) | exact ButFor.alloc (by assumption) _ | exact ButFor.set (ButFor.set (by assumption) _ _) _ _ | go_keep)
      (first
        | (go_at_call_of 86 a0; refine (HRF.out _ (HWY.out.trans hself.drew)).mono ?_; rintro e w3 ⟨t3, ao3, nn3, cc3, rfl, hbb3, hs3⟩; have hA3 := After.trans hself.drew hbb3)
        | (go_at_call_of 86 a1; refine (HRA.out _ (HWY.out.trans hA3)).mono ?_; rintro e w4 ⟨t4, ao4, nn4, cc4, rfl, hbb4, hs4⟩; have hA4 := After.trans hA3 hbb4; have hs3' := hs3.later hbb4)
        | (go_at_call 32; refine (s_app2 _ .s F A [115] t3 t4 none ao3 ao4 0 0 nn3 cc3 nn4 cc4 _ (0, 0) rfl ?_ ?_ ?_).mono ?_; exact hs3'.later (After.new _ _); exact hs4.later (After.new _ _); exact heap_new' _ _; rintro e w5 ⟨t5, ao5, nn5, cc5, rfl, hbb5, hs5⟩; have hA5 := After.trans (hA4.alloc _) hbb5; obtain ⟨z0, z1, z2, z3⟩ := HZ.out _ hA5))
    all_goals
      go_wp2_with fail
      refine bodyPost_ret (v := .agg #[str t5, .slice ao5 nn5 cc5]) (by simp [results, Tryz.results86, go_sem, z0, z1]) rfl ⟨t5, ao5, nn5, cc5, rfl, Below.setCell (Below.setCell (HWY.out.trans hA5) (by simp) _) (by simp) _, ?_⟩
      exact hs5.sets2 (hA5.heap HRY.out)
  · simp only [beq_iff_eq] at hb
    subst hb
    have hu2' : ((u2 : Int) == 0) = false := by rw [beq_eq_false_iff_ne]; have := HU20.out rfl; omega
    go_enter Tryz.func86, Tryz.ntmps86
    go_wp2_with fail
    refine hcall.mono ?_
    rintro e w1 ⟨rfl, hb1⟩
    obtain ⟨k0, k1, _, _, l1⟩ := pair_facts HBOX.out hb1
    have g0 : w1.cell? ⟨g, 0, none⟩ = some (str s0) := cell_of_heap (hb1.heap HH.out)
    have g1 : w1.cell? ⟨g, 1, none⟩ = some (.slice a0 n0 c0) := cell_of_heap (hb1.heap HH.out)
    have g2 : w1.cell? ⟨g, 2, none⟩ = some (str s1) := cell_of_heap (hb1.heap HH.out)
    have hcall2 := HU2.out _ (hA.trans hb1)
    clear hcall
    go_wp2_with fail
    refine hcall2.mono ?_
    rintro e Y ⟨rfl, hb2⟩
    have hY := After.trans hb1 hb2
    clear hcall2 k0 k1 g0 g1 g2 l1
    go_wp2_with fail
    have hwY := hA.trans hY
    have hgY := hY.heap HH.out
    have hbY := hY.heap HBOX.out
    have hrY := hY.heap HRES.out
    have o1 : ∀ W, ButFor Y (w.heap.size + 1) W → W.cell? ⟨w.heap.size, 1, none⟩ = some (.slice (some ⟨g, 0, none⟩) 2 q) := fun W hW => hW.cell (by omega) (cell_of_heap hbY)
    have q0 : ∀ W, ButFor Y (w.heap.size + 1) W → W.cell? ⟨g, 0, none⟩ = some (str s0) := fun W hW => hW.cell (by omega) (cell_of_heap hgY)
    have q1 : ∀ W, ButFor Y (w.heap.size + 1) W → W.cell? ⟨g, 1, none⟩ = some (.slice a0 n0 c0) := fun W hW => hW.cell (by omega) (cell_of_heap hgY)
    have q2 : ∀ W, ButFor Y (w.heap.size + 1) W → W.cell? ⟨g, 2, none⟩ = some (str s1) := fun W hW => hW.cell (by omega) (cell_of_heap hgY)
    have q3 : ∀ W, ButFor Y (w.heap.size + 1) W → W.cell? ⟨g, 3, none⟩ = some (.slice a1 n1 c1) := fun W hW => hW.cell (by omega) (cell_of_heap hgY)
    have hbf : ButFor Y (w.heap.size + 1) Y.drew := ⟨Nat.le_refl _, fun _ _ _ => rfl⟩
    have hself := After.refl Y
    have hzres : ∀ W, After Y W → W.cell? ⟨w.heap.size + 1, 0, none⟩ = some (.string ⟨#[]⟩) ∧ W.cell? ⟨w.heap.size + 1, 1, none⟩ = some (.slice none 0 0) ∧ W.frozen? ⟨w.heap.size + 1, 0, none⟩ = false ∧ W.frozen? ⟨w.heap.size + 1, 1, none⟩ = false := fun W hW => by
      obtain ⟨a1, a2, a3, a4, _⟩ := pair_facts hrY hW
      exact ⟨a1, a2, a3, a4⟩
    have HZ := Lib.hid hzres
    have HWY := Lib.hid hwY
    have HRY := Lib.hid hrY
    clear hzres hwY hgY hbY hrY hY hA HH HBOX HRES hb1 hb2
    go_region_held3 (fun W' => ButFor Y (w.heap.size + 1) W') (first | assumption | exact hbf | exact After.butFor (by assumption) | exact ButFor.alloc (by assumption) _ | exact ButFor.set (ButFor.set (by assumption) _ _) _ _ | go_keep)
      (first
        | (go_at_call_of 86 a0; refine (HRF.out _ (HWY.out.trans hself.drew)).mono ?_; rintro e w3 ⟨t3, ao3, nn3, cc3, rfl, hbb3, hs3⟩; have hA3 := After.trans hself.drew hbb3)
        | (go_at_call_of 86 a1; refine (HRA.out _ (HWY.out.trans hA3)).mono ?_; rintro e w4 ⟨t4, ao4, nn4, cc4, rfl, hbb4, hs4⟩; have hA4 := After.trans hA3 hbb4; have hs3' := hs3.later hbb4)
        | (go_at_call 32; refine (s_app2 _ .s F A [115] t3 t4 none ao3 ao4 0 0 nn3 cc3 nn4 cc4 _ (0, 0) rfl ?_ ?_ ?_).mono ?_; exact hs3'.later (After.new _ _); exact hs4.later (After.new _ _); exact heap_new' _ _; rintro e w5 ⟨t5, ao5, nn5, cc5, rfl, hbb5, hs5⟩; have hA5 := After.trans (hA4.alloc _) hbb5; obtain ⟨z0, z1, z2, z3⟩ := HZ.out _ hA5))
    all_goals
      go_wp2_with fail
      refine bodyPost_ret (v := .agg #[str t5, .slice ao5 nn5 cc5]) (by simp [results, Tryz.results86, go_sem, z0, z1]) rfl ⟨t5, ao5, nn5, cc5, rfl, Below.setCell (Below.setCell (HWY.out.trans hA5) (by simp) _) (by simp) _, ?_⟩
      exact hs5.sets2 (hA5.heap HRY.out)

theorem nm_eq {w : World} {a : Tm} {s : List UInt8} {y : Value} (x : List UInt8) (h : ST w a (.agg #[str s, y])) (hx : ([] == x) = false) (hk : ([107] == x) = false) (hs : ([115] == x) = false) : (s == x) = a.isNm x := by
  cases a with
  | app f a => obtain ⟨rfl, _⟩ := app_form h; rw [hx]; rfl
  | k => obtain rfl := atom_form h rfl; simp only [Tm.text]; rw [hk]; rfl
  | s => obtain rfl := atom_form h rfl; simp only [Tm.text]; rw [hs]; rfl
  | nm n => obtain rfl := atom_form h rfl; rfl

theorem ST.abs {t : Tm} (x : List UInt8) (hx : ([] == x) = false) (hk : ([107] == x) = false) (hs : ([115] == x) = false) : ∀ {w : World} {v : Value}, ST w t v → t.Plain → t.size ≤ 1000000000 → Calls Tryz.prog 86 #[str x, v] w (TreePost w (t.abs x)) := by
  induction t with
  | k => intro w v h hp hz; have hu := fun W (hW : After w W) => (h.later hW).usesG x hk hs hp hz; simp only [ST] at h; subst h; exact abs_k w x _ none 0 0 .k rfl hk hu
  | s => intro w v h hp hz; have hu := fun W (hW : After w W) => (h.later hW).usesG x hk hs hp hz; simp only [ST] at h; subst h; exact abs_k w x _ none 0 0 .s rfl hs hu
  | nm n =>
    intro w v h hp hz
    have hu := fun W (hW : After w W) => (h.later hW).usesG x hk hs hp hz
    simp only [ST] at h
    subst h
    by_cases hn : n = x
    · subst hn
      rw [show (Tm.nm n).abs n = Tm.I by simp [Tm.abs]]
      exact abs_i w n none 0 0
    · rw [show (Tm.nm n).abs x = .app .k (.nm n) by simp [Tm.abs, hn]]
      have hu0 : (Tm.nm n).uses x = 0 := by simp [Tm.uses, hn]
      rw [hu0] at hu
      exact abs_k w x n none 0 0 (.nm n) rfl (beq_eq_false_iff_ne.2 hn) hu
  | app f a ihf iha =>
    intro w v h hp hz
    have hu := fun W (hW : After w W) => (h.later hW).usesG x hk hs hp hz
    have h' := h
    obtain ⟨g, cap, fr, s0, p0, s1, p1, rfl, hh, hf, ha⟩ := h
    simp only [Tm.size] at hz
    obtain ⟨x0, a0, n0, c0, rfl, rfl⟩ := parts_form hf
    obtain ⟨x1, a1, n1, c1, rfl, rfl⟩ := parts_form ha
    by_cases h0 : (f.app a).uses x = 0
    · rw [show (f.app a).abs x = .app .k (f.app a) by simp only [Tm.abs, h0, if_true]]
      rw [h0] at hu
      exact abs_k w x [] (some ⟨g, 0, none⟩) 2 cap _ h' hx hu
    · have hu2 := fun W (hW : After w W) => (hf.later hW).usesG x hk hs hp.1 (by omega)
      have hb := nm_eq x ha hx hk hs
      by_cases hend : a.isNm x = true ∧ f.uses x = 0
      · rw [show (f.app a).abs x = f by simp only [Tm.abs, if_neg h0, if_pos hend]]
        rw [hend.1, beq_iff_eq] at hb
        subst hb
        rw [hend.2] at hu2
        exact abs_end w x1 g cap fr x0 a0 a1 n0 c0 n1 c1 f _ hh hf hx (Nat.pos_of_ne_zero h0) hu hu2
      · rw [show (f.app a).abs x = .app (.app .s (f.abs x)) (a.abs x) by simp only [Tm.abs, if_neg h0, if_neg hend]]
        exact abs_s w x g cap fr x0 x1 a0 a1 n0 c0 n1 c1 (f.abs x) (a.abs x) _ _ (a.isNm x) hh hx (Nat.pos_of_ne_zero h0) hb (fun h => Nat.pos_of_ne_zero fun h2 => hend ⟨h, h2⟩) hu hu2
          (fun W hW => ihf (hf.later hW) hp.1 (by omega)) (fun W hW => iha (ha.later hW) hp.2 (by omega))
end Go.Proofs.YtfjohagdlaiapaaGreat

namespace Go.Proofs.YtfjohagdlaiapaaGreat
open Go.RowKit

set_option maxHeartbeats 2000000
set_option maxRecDepth 100000

namespace Tm
theorem abs_none (x : List UInt8) (t : Tm) (h : uses x t = 0) : abs x t = app k t := by
  cases t with
  | nm n => simp only [uses] at h; split at h; · simp at h
            rename_i hn; simp [abs, hn]
  | app f a => simp only [abs, h, if_true]
  | k => rfl
  | s => rfl
theorem isNm_uses (x : List UInt8) (t : Tm) (h : uses x t = 0) : isNm x t = false := by
  cases t with
  | nm n => simp only [uses] at h; split at h; · simp at h
            rename_i hn; simp [isNm, hn]
  | _ => rfl
theorem pair_abs (x : List UInt8) (a b : Tm) (ha : uses x a = 0) (hb : uses x b = 0) : abs x (app (app (nm x) a) b) = pair a b := by
  have h1 : uses x (app (app (nm x) a) b) = 1 := by simp [uses, ha, hb]
  have h2 : uses x (app (nm x) a) = 1 := by simp [uses, ha]
  rw [abs, h1, if_neg (by decide), isNm_uses x b hb, if_neg (by simp), abs_none x b hb, abs, h2, if_neg (by decide), isNm_uses x a ha, if_neg (by simp), abs_none x a ha]
  simp [abs, pair]
theorem uses_bad (x : List UInt8) (hx : nameOk x = false) : ∀ {t : Tm}, good t = true → uses x t = 0
  | nm n, h => by
    simp only [uses]
    split
    · rename_i hn; subst hn; simp only [good] at h; rw [hx] at h; simp at h
    · rfl
  | app f a, h => by simp only [good, Bool.and_eq_true] at h; simp only [uses, uses_bad x hx h.1, uses_bad x hx h.2]
  | k, _ => rfl
  | s, _ => rfl
end Tm

theorem s_nm (w : World) (x : List UInt8) : Calls Tryz.prog 60 #[str x] w fun e w' => e = .returned (.agg #[str x, .slice none 0 0]) ∧ After w w' := by
  have hA := After.new w (.cells #[str x, .slice none 0 0] 55)
  go_enter Tryz.func60, Tryz.ntmps60
  go_wp2_with fail
  exact bodyPost_ret (v := .agg #[str x, .slice none 0 0]) (by simp [results, Tryz.results60, go_sem]) rfl ⟨rfl, hA⟩

def SNumOne (w : World) (r : Option (List UInt8)) (e : Ending) (w' : World) : Prop :=
  e = .returned (.tuple #[str (r.getD []), .bool r.isSome]) ∧ After w w'

end Go.Proofs.YtfjohagdlaiapaaGreat

namespace Go.Proofs.YtfjohagdlaiapaaGreat
open Go.RowKit

set_option maxHeartbeats 1000000
set_option maxRecDepth 100000

theorem bodyOf_any (x : List UInt8) : ∀ {t : Tm} {w : World} {B : Nat} {v : Value}, TV w B t v → Calls Tryz.prog 129 #[v, str x] w (BodyPost w B (Bd.of x t)) := by
  intro t
  induction t with
  | k => intro w B v h; obtain ⟨b, fr, rfl, _⟩ := id h; exact body_leaf w B x _ b .k (Or.inl rfl) h
  | s => intro w B v h; obtain ⟨b, fr, rfl, _⟩ := id h; exact body_leaf w B x _ b .s (Or.inr rfl) h
  | nm n => intro w B v h; obtain ⟨b, fr, rfl, _⟩ := id h; exact body_name w B x n b h
  | app f a ihf iha =>
    intro w B v h
    have h' := h
    obtain ⟨b, fr, vf, va, rfl, hb, hh, hf, ha⟩ := h
    obtain ⟨T1, x1, rfl, _⟩ := hf.asks
    obtain ⟨T2, x2, rfl, _⟩ := ha.asks
    have hcall := body_parts w B b x f a (Bd.of x f) (Bd.of x a) T1 T2 x1 x2 h' hf (cell_later' (cell_of_heap (i := 0) hh)) (cell_later' (cell_of_heap (i := 1) hh)) (fun W' hW' => ihf (hf.below hW')) (fun W' hW' => iha (ha.below hW'))
    rw [show Bd.of x (.app f a) = Bd.comb f a (Bd.of x f) (Bd.of x a) from rfl]
    generalize Bd.comb f a (Bd.of x f) (Bd.of x a) = c at hcall ⊢
    unfold BodyPost at hcall
    have ha1 := assert_nm_a w (.pointer (some ⟨b, 0, none⟩))
    have ha2 := assert_app w (.pointer (some ⟨b, 0, none⟩))
    clear h' hh hf ha ihf iha
    go_enter Tryz.func129, Tryz.ntmps129
    go_wp2_with fail
    refine hcall.mono ?_
    rintro e w1 ⟨v1, rfl, hb1, hv1⟩
    have HV := Lib.hid hv1
    clear hv1 hcall
    go_wp2_with fail
    go_ret
    exact ⟨_, rfl, hb1, HV.out⟩

theorem comb_in {f a : Tm} {b1 b2 : Bd} (h : ∀ u, b1 ≠ .without u) : Bd.comb f a b1 b2 = .inside b1 b2 := by
  cases b1 with
  | without u => exact absurd rfl (h u)
  | itself => cases b2 <;> rfl
  | atEnd u => cases b2 <;> rfl
  | inside c d => cases b2 <;> rfl

theorem comb_in2 {f a : Tm} {b1 b2 : Bd} (h : ∀ u, b2 ≠ .without u) (h2 : b2 ≠ .itself) : Bd.comb f a b1 b2 = .inside b1 b2 := by
  cases b2 with
  | without u => exact absurd rfl (h u)
  | itself => exact absurd rfl h2
  | atEnd u => cases b1 <;> rfl
  | inside c d => cases b1 <;> rfl

theorem of_none (x : List UInt8) : ∀ {t : Tm}, Tm.uses x t = 0 → Bd.of x t = .without t
  | .k, _ => rfl
  | .s, _ => rfl
  | .nm n, h => by
    simp only [Tm.uses] at h
    split at h
    · simp at h
    · rename_i hn; simp [Bd.of, hn]
  | .app f a, h => by
    simp only [Tm.uses] at h
    rw [Bd.of, of_none x (t := f) (by omega), of_none x (t := a) (by omega)]
    rfl

theorem of_some (x : List UInt8) : ∀ {t : Tm}, Tm.uses x t ≠ 0 → (∀ u, Bd.of x t ≠ .without u) ∧ (Bd.of x t = .itself ↔ Tm.isNm x t = true)
  | .k, h => absurd rfl h
  | .s, h => absurd rfl h
  | .nm n, h => by
    simp only [Tm.uses] at h
    split at h
    · rename_i hn; simp [Bd.of, hn, Tm.isNm]
    · exact absurd rfl h
  | .app f a, h => by
    by_cases hf : Tm.uses x f = 0
    · have ha : Tm.uses x a ≠ 0 := by simp only [Tm.uses] at h; omega
      have ih := of_some x ha
      rw [Bd.of, of_none x hf]
      cases hb : Bd.of x a with
      | without u => exact absurd hb (ih.1 u)
      | itself => exact ⟨fun u => by simp [Bd.comb], by simp [Bd.comb, Tm.isNm]⟩
      | atEnd u => exact ⟨fun u => by simp [Bd.comb], by simp [Bd.comb, Tm.isNm]⟩
      | inside c d => exact ⟨fun u => by simp [Bd.comb], by simp [Bd.comb, Tm.isNm]⟩
    · have ih := of_some x hf
      rw [Bd.of, comb_in ih.1]
      exact ⟨fun u => by simp, by simp [Tm.isNm]⟩

theorem of_term (x : List UInt8) : ∀ t : Tm, (Bd.of x t).term = Tm.abs x t
  | .k => rfl
  | .s => rfl
  | .nm n => by by_cases hn : n = x <;> simp [Bd.of, Tm.abs, hn, Bd.term]
  | .app f a => by
    have ihf := of_term x f
    have iha := of_term x a
    by_cases h0 : Tm.uses x (.app f a) = 0
    · rw [of_none x h0, Tm.abs_none x _ h0]; rfl
    · rw [Tm.abs, if_neg h0]
      by_cases hf : Tm.uses x f = 0
      · have ha : Tm.uses x a ≠ 0 := by simp only [Tm.uses] at h0; omega
        have ha' := of_some x ha
        by_cases hn : Tm.isNm x a = true
        · rw [if_pos ⟨hn, hf⟩, Bd.of, of_none x hf, ha'.2.2 hn]; rfl
        · rw [if_neg (fun h => hn h.1), Bd.of, comb_in2 ha'.1 (fun h => hn (ha'.2.1 h)), Bd.term, ihf, iha]
      · rw [if_neg (fun h => hf h.2), Bd.of, comb_in (of_some x hf).1, Bd.term, ihf, iha]

theorem abs_size (x : List UInt8) : ∀ t : Tm, (Tm.abs x t).size + 1 ≤ 4 * t.size
  | .k => by simp [Tm.abs, Tm.size]
  | .s => by simp [Tm.abs, Tm.size]
  | .nm n => by by_cases hn : n = x <;> simp [Tm.abs, hn, Tm.size, Tm.I]
  | .app f a => by
    have ihf := abs_size x f
    have iha := abs_size x a
    have hf := Tm.size_pos f
    have ha := Tm.size_pos a
    rw [Tm.abs]
    split
    · simp only [Tm.size]; omega
    · split
      · simp only [Tm.size]; omega
      · simp only [Tm.size]; omega

theorem abstraction_any (w : World) (B : Nat) (x : List UInt8) (t : Tm) (v : Value) (h : TV w B t v) (hB : B ≤ w.heap.size) (hz : t.size ≤ 1000000) :
    Calls Tryz.prog 103 #[str x, v] w (TermPost w B (Tm.abs x t)) := by
  have hbody := bodyOf_any x h
  have hsz := abs_size x t
  unfold BodyPost at hbody
  rw [← of_term] at hsz ⊢
  generalize Bd.of x t = b at *
  go_enter Tryz.func103, Tryz.ntmps103
  go_wp2_with fail
  refine hbody.mono ?_
  rintro e w1 ⟨v1, rfl, hb1, hv1⟩
  obtain ⟨T1, x1, f1, y1, rfl, m1, n1, d1⟩ := BV.absOk (Nat.le_trans hB hb1.size) hv1 (by omega)
  have hcall := d1 w1 (Below.refl _ _)
  unfold TermPost at hcall
  clear hv1 hbody d1
  go_wp2_with (go_at_fn f1; refine hcall.mono ?_; rintro e w2 ⟨v2, rfl, hb2, ht2⟩; have HT := Lib.hid ht2; clear ht2)
  go_ret
  exact ⟨_, rfl, below_trans hb1 hb2, HT.out⟩
end Go.Proofs.YtfjohagdlaiapaaGreat

namespace Go.Proofs.YtfjohagdlaiapaaGreat
open Go.RowKit Go.Shelf

attribute [local go_sem] Oper.semAt_some

/-- What has come when k rounds are over. -/
def upto {α : Type} (f : Nat → α) (k : Nat) : List α := (List.range k).map f
theorem upto_succ {α : Type} (f : Nat → α) (k : Nat) : upto f (k + 1) = upto f k ++ [f k] := by simp [upto, List.range_succ]
theorem upto_length {α : Type} (f : Nat → α) (k : Nat) : (upto f k).length = k := by simp [upto]

/-- The blocks below m and the block Bs are as they were. -/
def KeepB (m Bs : Nat) (W W' : World) : Prop := ∀ k, (k < m ∨ k = Bs) → W'.heap[k]? = W.heap[k]?
theorem KeepB.trans {m Bs : Nat} {A B C : World} (h : KeepB m Bs A B) (k : KeepB m Bs B C) : KeepB m Bs A C := fun i hi => (k i hi).trans (h i hi)
theorem KeepB.refl (m Bs : Nat) (W : World) : KeepB m Bs W W := fun _ _ => rfl
theorem KeepB.cell {m Bs b i : Nat} {W W' : World} {v : Value} (h : KeepB m Bs W W') (hb : b < m ∨ b = Bs) (hc : W.cell? ⟨b, i, none⟩ = some v) : W'.cell? ⟨b, i, none⟩ = some v := by
  rw [World.cell?_of_block (w := W) (a := ⟨b, i, none⟩) (h b hb)]; exact hc

set_option maxRecDepth 100000 in
set_option maxHeartbeats 2000000 in
theorem back1_in (F : Fence) (n : Nat) (h8 : F.fn 128) (hro : F.round = none) (hn : 1 ≤ n) (l Bs m b off len cap : Nat) (zs : List (List UInt8)) (hreach : len ≤ 1000000000) (hb : b < m) (J Jx : List (Nat × List UInt8) → World → Prop)
    (hY : ∀ pre x W, J pre W → pre.length < len → YieldAt F (n - 1) Tryz.prog l #[.int .i64 (x.1 : Int), str x.2] W fun e W' =>
      (e = .returned (.bool true) ∧ J (pre ++ [x]) W' ∧ KeepB m Bs W W') ∨ (e = .returned (.bool false) ∧ Jx (pre ++ [x]) W'))
    (W : World) (hBs : W.cell? ⟨Bs, 0, none⟩ = some (.slice (some ⟨b, off, none⟩) len cap)) (hc : ∀ j, j < len → W.cell? ⟨b, off + j, none⟩ = some (str (zs[j]?.getD []))) (h0 : J [] W) :
    CallsIn F n Tryz.prog 128 #[.func (.yield l) #[] #[], .pointer (some ⟨Bs, 0, none⟩)] W fun e W' => (∃ v, e = .returned v) ∧
      ((∃ ys, ys = upto (fun j => (len - 1 - j, zs[len - 1 - j]?.getD [])) len ∧ J ys W') ∨ (∃ pre, (∃ k, k ≤ len ∧ pre = upto (fun j => (len - 1 - j, zs[len - 1 - j]?.getD [])) k) ∧ Jx pre W')) := by
  refine callsIn_of_wp Tryz.func128 rfl h8 ?_ hro
  simp only [Tryz.ntmps128, List.size_toArray, List.length_cons, List.length_nil, Nat.reduceAdd, Nat.reduceSub, Array.replicate_succ, Array.replicate_zero, List.push_toArray, List.append_toArray, List.nil_append, List.cons_append]
  gi_wp2
  gi_loopw [3] (fun i wr => ∃ k : Nat, k ≤ len ∧ i = .int .i64 ((len : Int) - 1 - k) ∧ J (upto (fun j => (len - 1 - j, zs[len - 1 - j]?.getD [])) k) wr ∧ KeepB m Bs W wr)
    (fun i _ => (intOf i + 1).toNat)
  case atStart => exact ⟨0, Nat.zero_le _, by simp, h0, KeepB.refl _ _ _⟩
  case round =>
    obtain ⟨k, hk, rfl, hJs, hnx⟩ := hrel
    have hBs' := hnx.cell (Or.inr rfl) hBs
    by_cases hlt : k < len
    · obtain ⟨q, hq⟩ : ∃ q : Nat, q = len - 1 - k := ⟨_, rfl⟩
      have hqi : (len : Int) - 1 - k = (q : Int) := by omega
      have hql : q < len := by omega
      have hcx := hnx.cell (Or.inl hb) (hc q hql)
      obtain ⟨fn, tmps, assign, body, hy, hR⟩ := hY _ (q, zs[q]?.getD []) wr hJs (by rw [upto_length]; exact hlt)
      dsimp only at hy
      simp only [hqi]
      have HQ := Lib.hid hq
      have HQI := Lib.hid hqi
      clear hq hqi
      gi_wp2
      refine hR.mono ?_
      rintro e W3 (⟨rfl, hJ3, hk3⟩ | ⟨rfl, hJx3⟩)
      · gi_wp2
        go_roundw
        case rel => exact ⟨k + 1, by omega, by have := HQI.out; simp; omega, by rw [upto_succ, ← HQ.out]; exact hJ3, hnx.trans hk3⟩
        case measure => simp [intOf]
      · gi_wp2
        refine bodyPost_ret (results_none rfl _ _ _) rfl ?_
        exact ⟨⟨_, rfl⟩, .inr ⟨_, ⟨k + 1, by omega, by rw [upto_succ, ← HQ.out]⟩, hJx3⟩⟩
    · obtain rfl : k = len := by omega
      gi_wp2
      go_end0
      exact ⟨⟨_, rfl⟩, .inl ⟨_, rfl, hJs⟩⟩

set_option maxRecDepth 100000 in
set_option maxHeartbeats 1000000 in
theorem back1_nil_in (F : Fence) (n : Nat) (h8 : F.fn 128) (hro : F.round = none) (l Bs : Nat) (J : List (Nat × List UInt8) → World → Prop) (W : World) (ao : Option Addr) (cap : Nat) (hBs : W.cell? ⟨Bs, 0, none⟩ = some (.slice ao 0 cap)) (h0 : J [] W) :
    CallsIn F n Tryz.prog 128 #[.func (.yield l) #[] #[], .pointer (some ⟨Bs, 0, none⟩)] W fun e W' => (∃ v, e = .returned v) ∧ J [] W' := by
  refine callsIn_of_wp Tryz.func128 rfl h8 ?_ hro
  simp only [Tryz.ntmps128, List.size_toArray, List.length_cons, List.length_nil, Nat.reduceAdd, Nat.reduceSub, Array.replicate_succ, Array.replicate_zero, List.push_toArray, List.append_toArray, List.nil_append, List.cons_append]
  gi_wp2
  gi_loopw [3] (fun i wr => i = .int .i64 (-1) ∧ J [] wr) (fun _ _ => 0)
  case atStart => exact ⟨rfl, h0⟩
  case round =>
    obtain ⟨rfl, hJs⟩ := hrel
    gi_wp2
    go_end0
    exact ⟨⟨_, rfl⟩, hJs⟩

set_option maxHeartbeats 1000000 in
/-- slices.Backward(s): the slice value is boxed; the function value captures the box. -/
theorem back_in (F : Fence) (n : Nat) (h6 : F.fn 102) (hro : F.round = none) (a : Option Addr) (len cap : Nat) (w : World) :
    CallsIn F n Tryz.prog 102 #[.slice a len cap] w fun e w' => e = .returned (.func (.func 128) #[] #[.pointer (some ⟨w.heap.size, 0, none⟩)]) ∧ w' = w.alloc (.cells #[.slice a len cap] 66) := by
  refine callsIn_of_wp Tryz.func102 rfl h6 ?_ hro
  simp only [Tryz.ntmps102, List.size_toArray, List.length_cons, List.length_nil, Nat.reduceAdd, Nat.reduceSub, Array.replicate_succ, Array.replicate_zero, List.push_toArray, List.append_toArray, List.nil_append, List.cons_append]
  gi_wp2
  go_ret
  exact ⟨rfl, rfl⟩

/-- The slice value holds these texts, in a block below m. -/
def StrsB (m : Nat) (W : World) (sv : Value) (zs : List (List UInt8)) : Prop :=
  (∃ ao cap, sv = .slice ao 0 cap ∧ zs = []) ∨ ∃ b off cap, sv = .slice (some ⟨b, off, none⟩) zs.length cap ∧ b < m ∧ ∀ j, j < zs.length → W.cell? ⟨b, off + j, none⟩ = some (str (zs[j]?.getD []))

theorem back_stops (F : Fence) (n : Nat) (h8 : F.fn 128) (hro : F.round = none) (hn : 1 ≤ n) (Bs m : Nat) (sv : Value) (zs : List (List UInt8)) (hreach : zs.length ≤ 1000000000) (w : World) (hBs : Bs < w.heap.size) (hm : m ≤ w.heap.size)
    (hc : w.cell? ⟨Bs, 0, none⟩ = some sv) (hI : StrsB m w sv zs) :
    SeqStopsK F n Tryz.prog 128 #[.pointer (some ⟨Bs, 0, none⟩)] (fun x : Nat × List UInt8 => #[Value.int .i64 (x.1 : Int), str x.2]) (KeepB m Bs) (fun ys => ys = upto (fun j => (zs.length - 1 - j, zs[zs.length - 1 - j]?.getD [])) zs.length)
      (fun pre => ∃ k, k ≤ zs.length ∧ pre = upto (fun j => (zs.length - 1 - j, zs[zs.length - 1 - j]?.getD [])) k) zs.length w := fun l J Jx W hW _ _ hY h0 => by
  have hc' := (hW.cell (p := ⟨Bs, 0, none⟩) hBs).trans hc
  rcases hI with ⟨ao, cap, rfl, rfl⟩ | ⟨b, off, cap, rfl, hb, hcs⟩
  · exact (back1_nil_in F n h8 hro l Bs J W ao cap hc' h0).mono fun e W' ⟨he, hj⟩ => ⟨he, .inl ⟨_, rfl, hj⟩⟩
  · exact back1_in F n h8 hro hn l Bs m b off zs.length cap zs hreach hb J Jx hY W hc' (fun j hj => (hW.cell (p := ⟨b, off + j, none⟩) (show b < w.heap.size by omega)).trans (hcs j hj)) h0

theorem keepB_b {m Bs : Nat} {w : World} (hm : m ≤ w.heap.size) (hBs : Bs < w.heap.size) (W : World) (l : Nat) (o o' : Obj) (hl : w.heap.size ≤ l) (h : W.heap[l]? = some o) (_ : o.isCells = false) (_ : o.isWalk = false) : KeepB m Bs W (W.putObj l o') := fun k hk => by
  have hg := grownBy_putObj' W l o'
  have hlt := (Array.getElem?_eq_some_iff.1 h).1
  exact hg.block k (by omega) (fun e => by injection e with e; omega)
end Go.Proofs.YtfjohagdlaiapaaGreat

namespace Go.Proofs.YtfjohagdlaiapaaGreat
open Go.RowKit Go.Shelf

attribute [local go_sem] Oper.semAt_some

/-- Names abstracted one after the other, each result looked at. -/
def absL : List (List UInt8) → Tm → Option Tm
  | [], t => some t
  | x :: xs, t => if (Tm.abs x t).fits = true then absL xs (Tm.abs x t) else none

theorem absL_snoc (xs : List (List UInt8)) (x : List UInt8) : ∀ t, absL (xs ++ [x]) t = (absL xs t).bind fun u => if (Tm.abs x u).fits = true then some (Tm.abs x u) else none := by
  induction xs with
  | nil => intro t; simp [absL]
  | cons y ys ih => intro t; simp only [List.cons_append, absL]; split
                    · exact ih _
                    · rfl

theorem TV.keptCells {A C : World} {B : Nat} (hk : ∀ (b : Nat) (cs : Array Value) (T : TypeId) (fr : Nat × Nat), T ≠ 38 → T ≠ 4 → A.heap[b]? = some (.cells cs T fr) → C.heap[b]? = some (.cells cs T fr)) : ∀ {t : Tm} {v : Value}, TV A B t v → TV C B t v
  | .k, _, ⟨b, fr, hv, hb, h⟩ => ⟨b, fr, hv, hb, hk _ _ _ _ (by decide) (by decide) h⟩
  | .s, _, ⟨b, fr, hv, hb, h⟩ => ⟨b, fr, hv, hb, hk _ _ _ _ (by decide) (by decide) h⟩
  | .nm _, _, ⟨b, fr, hv, hb, h⟩ => ⟨b, fr, hv, hb, hk _ _ _ _ (by decide) (by decide) h⟩
  | .app _ _, _, ⟨b, fr, vf, va, hv, hb, h, hf, ha⟩ => ⟨b, fr, vf, va, hv, hb, hk _ _ _ _ (by decide) (by decide) h, hf.keptCells hk, ha.keptCells hk⟩

theorem TV.grownCells {A C : World} {B : Nat} {row : Option Nat} {t : Tm} {v : Value} (h : TV A B t v) (hg : A.grownBy C row) (hr : ∀ r, row = some r → ∃ o : Obj, A.heap[r]? = some o ∧ o.isCells = false) : TV C B t v :=
  h.keptCells fun b cs T fr _ _ hb => by
    rw [hg.block b (Array.getElem?_eq_some_iff.1 hb).1 (fun e => by obtain ⟨o, ho, hc⟩ := hr b e.symm; rw [hb] at ho; injection ho with ho; subst ho; simp [Obj.isCells] at hc)]
    exact hb

theorem TV.boxSet {A : World} {B b : Nat} {x u : Value} {t : Tm} {v : Value} (h : TV A B t v) (hb : Boxed A b 38 x) : TV (A.setCell ⟨b, 0, none⟩ u) B t v :=
  h.keptCells fun b' cs T fr hT _ hb' => by
    have hne : b' ≠ b := by
      rintro rfl
      rw [show A.heap[b']? = _ from hb] at hb'
      injection hb' with hb'
      injection hb' with _ hb' _
      exact hT hb'.symm
    rw [Below.heap_setCell _ _ _ _ hne]
    exact hb'

theorem TV.boolSet {A : World} {B b : Nat} {x u : Value} {t : Tm} {v : Value} (h : TV A B t v) (hb : Boxed A b 4 x) : TV (A.setCell ⟨b, 0, none⟩ u) B t v :=
  h.keptCells fun b' cs T fr _ hT hb' => by
    have hne : b' ≠ b := by
      rintro rfl
      rw [show A.heap[b']? = _ from hb] at hb'
      injection hb' with hb'
      injection hb' with _ hb' _
      exact hT hb'.symm
    rw [Below.heap_setCell _ _ _ _ hne]
    exact hb'

theorem absL_append (xs ys : List (List UInt8)) : ∀ t, absL (xs ++ ys) t = (absL xs t).bind (absL ys) := by
  induction xs with
  | nil => intro t; simp [absL]
  | cons x xs ih => intro t; simp only [List.cons_append, absL]; split
                    · exact ih _
                    · rfl

theorem back_take (zs : List (List UInt8)) (k : Nat) (hk : k ≤ zs.length) : (upto (fun j => (zs.length - 1 - j, zs[zs.length - 1 - j]?.getD [])) k).map Prod.snd = zs.reverse.take k := by
  apply List.ext_getElem
  · simp [upto, hk]
  · intro i h1 h2
    have hi : i < k := by simpa [upto] using h1
    have hz : zs.length - 1 - i < zs.length := by omega
    simp [upto, hz]

theorem box_kept {A C : World} {b : Nat} {T : TypeId} {x : Value} {row : Option Nat} (h : Boxed A b T x) (hg : A.grownBy C row) (hr : ∀ r, row = some r → ∃ o : Obj, A.heap[r]? = some o ∧ o.isCells = false) : Boxed C b T x :=
  Boxed.kept h hg fun e => by obtain ⟨o, ho, hc⟩ := hr b e.symm; rw [show A.heap[b]? = _ from h] at ho; injection ho with ho; subst ho; simp [Obj.isCells] at hc

theorem box_later {A C : World} {b : Nat} {T : TypeId} {x : Value} (h : Boxed A b T x) (hb : Below A.heap.size A C) : Boxed C b T x := heap_later h hb
theorem keepsOthers_below {A C : World} (h : Below A.heap.size A C) : KeepsOthers A C := ⟨h.size, fun _ _ hk _ => heap_later hk h⟩
theorem keepB_below {m Bs : Nat} {A C : World} (h : Below A.heap.size A C) (hm : m ≤ A.heap.size) (hBs : Bs < A.heap.size) : KeepB m Bs A C := fun k hk => h.block k (by omega)
theorem keepB_set {m Bs b : Nat} {A : World} (v : Value) (h1 : m ≤ b) (h2 : Bs ≠ b) : KeepB m Bs A (A.setCell ⟨b, 0, none⟩ v) := fun k hk => Below.heap_setCell _ _ _ _ (show k ≠ b by omega)

end Go.Proofs.YtfjohagdlaiapaaGreat

namespace Go.Proofs.YtfjohagdlaiapaaGreat
open Go.RowKit

set_option maxHeartbeats 1000000
set_option maxRecDepth 100000

namespace Tm
def X : Tm := .nm [120]
def Y : Tm := .nm [121]
def Z : Tm := .nm [122]
def half : Tm := abs [120] (abs [121] (app Y (app (app X X) Y)))
def fix : Tm := app half half
def succ : Tm := abs [120] (pair no X)
def pairC : Tm := abs [120] (abs [121] (abs [122] (app (app Z X) Y)))
def first : Tm := abs [120] (app X k)
def second : Tm := abs [120] (app X no)
def pred : Tm := abs [120] (app (app (app X k) I) (app X no))
/-- The closed term of a word. -/
def data (w : List UInt8) : Option Tm :=
  if w = [105] then some I else if w = [116, 114, 117, 101] then some k else if w = [102, 97, 108, 115, 101] then some no
  else if w = [112, 97, 105, 114] then some pairC else if w = [102, 105, 114, 115, 116] then some first else if w = [122, 101, 114, 111] then some first
  else if w = [115, 101, 99, 111, 110, 100] then some second else if w = [115, 117, 99, 99] then some succ else if w = [112, 114, 101, 100] then some pred
  else if w = [102, 105, 120] then some fix else none
theorem data_good {w : List UInt8} {t : Tm} (h : data w = some t) : t.good = true ∧ t.size ≤ 1000 := by
  unfold data at h
  repeat' split at h
  all_goals first | (obtain rfl := Option.some.inj h; exact ⟨by decide +kernel, by decide +kernel⟩) | cases h
end Tm

theorem nm_val {W : World} {B b : Nat} {n : List UInt8} {fr : Nat × Nat} (h : W.heap[b]? = some (.cells #[str n] 124 fr)) (hB : B ≤ b) : TV W B (.nm n) (.iface 122 (.pointer (some ⟨b, 0, none⟩))) := ⟨b, fr, rfl, hB, h⟩

theorem succ_any (w : World) (B : Nat) (hB : B ≤ w.heap.size) : Calls Tryz.prog 113 #[] w (TermPost w B Tm.succ) := by
  have hbit := bit_any w B false hB
  unfold TermPost at hbit
  simp only [Bool.false_eq_true, if_false] at hbit
  go_enter Tryz.func113, Tryz.ntmps113
  go_wp2_with fail
  refine hbit.mono ?_
  rintro e w1 ⟨v1, rfl, hb1, ht1⟩
  have hs1 := hb1.size
  have hnm := nm_val (heap_top w1 (.cells #[str [120]] 124)) (Nat.le_trans hB hs1)
  have hcall := pair_any (w1.alloc (.cells #[str [120]] 124)) B Tm.no Tm.X v1 _ (ht1.below (below_new _ _)) hnm (by simp; omega) (by decide +kernel)
  unfold TermPost at hcall
  have hb2 := below_trans hb1 (below_new w1 (.cells #[str [120]] 124))
  clear ht1 hnm hbit
  go_wp2_with fail
  refine hcall.mono ?_
  rintro e w2 ⟨v2, rfl, hb3, ht2⟩
  have hb4 := below_trans hb2 hb3
  have hcall2 := abstraction_any w2 B [120] _ v2 ht2 (Nat.le_trans hB hb4.size) (by decide +kernel)
  rw [show Tm.abs [120] (Tm.pair Tm.no Tm.X) = Tm.succ from rfl] at hcall2
  unfold TermPost at hcall2
  clear ht2 hcall
  go_wp2_with fail
  refine hcall2.mono ?_
  rintro e w3 ⟨v3, rfl, hb5, ht3⟩
  have HT := Lib.hid ht3
  clear ht3 hcall2
  go_wp2_with fail
  go_ret
  exact ⟨_, rfl, below_trans hb4 hb5, HT.out⟩

theorem applyAll2 (w : World) (B g : Nat) (f a b : Tm) (vf va vb : Value) (fr : Nat × Nat) (hg : w.heap[g]? = some (.cells #[va, vb] 38 fr)) (hf : TV w B f vf) (ha : TV w B a va) (hb : TV w B b vb) (hB : B ≤ w.heap.size) (hz : f.size + a.size + b.size ≤ 1000000) :
    Calls Tryz.prog 79 #[vf, .slice (some ⟨g, 0, none⟩) 2 2] w (TermPost w B (.app (.app f a) b)) :=
  applyAll_any w B g f vf [a, b] [va, vb] fr rfl hg hf (fun j hj => by
    match j, hj with
    | 0, _ => exact ha
    | 1, _ => exact hb) hB (by simp; omega) (by simp)

theorem applyAll3 (w : World) (B g : Nat) (f a b c : Tm) (vf va vb vc : Value) (fr : Nat × Nat) (hg : w.heap[g]? = some (.cells #[va, vb, vc] 38 fr)) (hf : TV w B f vf) (ha : TV w B a va) (hb : TV w B b vb) (hc : TV w B c vc) (hB : B ≤ w.heap.size) (hz : f.size + a.size + b.size + c.size ≤ 1000000) :
    Calls Tryz.prog 79 #[vf, .slice (some ⟨g, 0, none⟩) 3 3] w (TermPost w B (.app (.app (.app f a) b) c)) :=
  applyAll_any w B g f vf [a, b, c] [va, vb, vc] fr rfl hg hf (fun j hj => by
    match j, hj with
    | 0, _ => exact ha
    | 1, _ => exact hb
    | 2, _ => exact hc) hB (by simp; omega) (by simp)

theorem fix_any (w : World) (B : Nat) (hB : B ≤ w.heap.size) : Calls Tryz.prog 80 #[] w (TermPost w B Tm.fix) := by
  obtain ⟨os, hos⟩ : ∃ os : List Obj, os = [.cells #[str [120]] 124, .cells #[str [121]] 124, .cells #[.iface 122 (.pointer (some ⟨w.heap.size, 0, none⟩)), .iface 122 (.pointer (some ⟨w.heap.size + 1, 0, none⟩))] 38] := ⟨_, rfl⟩
  have hX : allocL w os = ((w.alloc (.cells #[str [120]] 124)).alloc (.cells #[str [121]] 124)).alloc (.cells #[.iface 122 (.pointer (some ⟨w.heap.size, 0, none⟩)), .iface 122 (.pointer (some ⟨w.heap.size + 1, 0, none⟩))] 38) := by rw [hos]; rfl
  have hA := allocL_below w os
  have h0 : (allocL w os).heap[w.heap.size]? = some (.cells #[str [120]] 124 (0, 0)) := by have := allocL_heap w os 0 (by rw [hos]; simp); simpa [hos] using this
  have h1 : (allocL w os).heap[w.heap.size + 1]? = some (.cells #[str [121]] 124 (0, 0)) := by have := allocL_heap w os 1 (by rw [hos]; simp); simpa [hos] using this
  have h2 : (allocL w os).heap[w.heap.size + 1 + 1]? = some (.cells #[.iface 122 (.pointer (some ⟨w.heap.size, 0, none⟩)), .iface 122 (.pointer (some ⟨w.heap.size + 1, 0, none⟩))] 38 (0, 0)) := by have := allocL_heap w os 2 (by rw [hos]; simp); simpa [hos] using this
  rw [hX] at hA h0 h1 h2
  have hx := nm_val h0 hB
  have hy := nm_val h1 (Nat.le_trans hB (Nat.le_succ _))
  have hc1 := applyAll2 _ B _ Tm.X Tm.X Tm.Y _ _ _ (0, 0) h2 hx hx hy (Nat.le_trans hB hA.size) (by decide +kernel)
  unfold TermPost at hc1
  have HX := Lib.hid hx
  have HY := Lib.hid hy
  clear hx hy h0 h1 h2 hX hos
  go_enter Tryz.func80, Tryz.ntmps80
  go_wp2_with fail
  refine hc1.mono ?_
  rintro e w1 ⟨v1, rfl, hb1, ht1⟩
  have hc2 := apply_any w1 B Tm.Y _ _ v1 (HY.out.below hb1) ht1 (Nat.le_trans hB (below_trans hA hb1).size) (by decide +kernel)
  clear ht1 hc1
  go_wp2_with fail
  refine hc2.mono ?_
  rintro e w2 ⟨v2, rfl, hb2, ht2⟩
  have hB2 := below_trans (below_trans hA hb1) hb2
  have hc3 := abstraction_any w2 B [121] _ v2 ht2 (Nat.le_trans hB hB2.size) (by decide +kernel)
  unfold TermPost at hc3
  clear ht2 hc2
  go_wp2_with fail
  refine hc3.mono ?_
  rintro e w3 ⟨v3, rfl, hb3, ht3⟩
  have hB3 := below_trans hB2 hb3
  have hc4 := abstraction_any w3 B [120] _ v3 ht3 (Nat.le_trans hB hB3.size) (by decide +kernel)
  unfold TermPost at hc4
  clear ht3 hc3
  go_wp2_with fail
  refine hc4.mono ?_
  rintro e w4 ⟨v4, rfl, hb4, ht4⟩
  have hB4 := below_trans hB3 hb4
  have hc5 := apply_any w4 B _ _ v4 v4 ht4 ht4 (Nat.le_trans hB hB4.size) (by decide +kernel)
  clear ht4 hc4
  go_wp2_with fail
  refine hc5.mono ?_
  rintro e w5 ⟨v5, rfl, hb5, ht5⟩
  have HT := Lib.hid ht5
  clear ht5 hc5
  go_wp2_with fail
  go_ret
  exact ⟨_, rfl, below_trans hB4 hb5, HT.out⟩

def DataPost (w : World) (B : Nat) (r : Option Tm) (e : Ending) (w' : World) : Prop :=
  ∃ v, e = .returned (.tuple #[v, .bool r.isSome]) ∧ Below w.heap.size w w' ∧ ∀ t, r = some t → TV w' B t v

/-- What is there behind the first lines of dataTerm. -/
structure DataPre (w : World) (B : Nat) (W : World) : Prop where
  below : Below w.heap.size w W
  x : TV W B Tm.X (.iface 122 (.pointer (some ⟨w.heap.size, 0, none⟩)))
  y : TV W B Tm.Y (.iface 122 (.pointer (some ⟨w.heap.size + 1, 0, none⟩)))
  z : TV W B Tm.Z (.iface 122 (.pointer (some ⟨w.heap.size + 1 + 1, 0, none⟩)))

def pData (l : List UInt8) : Option (List UInt8) := (Tm.data l).map Tm.text

end Go.Proofs.YtfjohagdlaiapaaGreat

namespace Go.Proofs.YtfjohagdlaiapaaGreat
open Go.RowKit

set_option maxHeartbeats 2000000
set_option maxRecDepth 100000

def lastL : List (List UInt8) → Tm → Tm
  | [], t => t
  | x :: xs, t => if (Tm.abs x t).fits = true then lastL xs (Tm.abs x t) else Tm.abs x t

theorem absL_last : ∀ (xs : List (List UInt8)) {t : Tm}, t.fits = true → absL xs t = if (lastL xs t).fits = true then some (lastL xs t) else none
  | [], t, h => by simp [absL, lastL, h]
  | x :: xs, t, _ => by
    by_cases hf : (Tm.abs x t).fits = true
    · have hl : lastL (x :: xs) t = lastL xs (Tm.abs x t) := by simp [lastL, hf]
      rw [hl]
      simp only [absL, if_pos hf]
      exact absL_last xs hf
    · have hl : lastL (x :: xs) t = Tm.abs x t := by simp [lastL, hf]
      rw [hl, if_neg hf]
      simp [absL, hf]

theorem abs_good (x : List UInt8) : ∀ {t : Tm}, t.good = true → (Tm.abs x t).good = true
  | .k, _ => rfl
  | .s, _ => rfl
  | .nm n, hn => by by_cases he : n = x <;> simp [Tm.abs, he, Tm.I, Tm.good] <;> simpa [Tm.good] using hn
  | .app f a, h => by
    have h' := h
    simp only [Tm.good, Bool.and_eq_true] at h'
    simp only [Tm.abs]
    split
    · simpa [Tm.good] using h'
    · split
      · exact h'.1
      · simp [Tm.good, abs_good x h'.1, abs_good x h'.2]

theorem last_good : ∀ (xs : List (List UInt8)) {t : Tm}, t.good = true → t.fits = true → (lastL xs t).good = true ∧ (lastL xs t).size ≤ 12000
  | [], t, hg, hf => ⟨hg, by have := fits_size hf; simp only [lastL]; omega⟩
  | x :: xs, t, hg, hf => by
    simp only [lastL]
    have hga := abs_good x hg
    have hsz := abs_size x t
    have hfs := fits_size hf
    split
    · rename_i h; exact last_good xs hga h
    · exact ⟨hga, by omega⟩

theorem name_not3 {n : List UInt8} (h : Tm.nameOk n = true) : ([] == n) = false ∧ ([107] == n) = false ∧ ([115] == n) = false := by
  refine ⟨?_, ?_, ?_⟩ <;> (rw [beq_eq_false_iff_ne]; rintro rfl; revert h; decide)

theorem s_all (w : World) (b off cap : Nat) (names : List (List UInt8)) (t : Tm) (s : List UInt8) (ao : Option Addr) (m c : Nat) (h : ST w t (.agg #[str s, .slice ao m c])) (hg : t.good = true) (hf : t.fits = true) (hn : names.length ≤ 8) (h1 : ∀ x ∈ names, Tm.nameOk x = true)
    (hc : ∀ j, j < names.length → w.cell? ⟨b, off + j, none⟩ = some (str (names[j]?.getD []))) :
    Calls Tryz.prog 61 #[.slice (some ⟨b, off, none⟩) names.length cap, .agg #[str s, .slice ao m c]] w (TreePost w (lastL names.reverse t)) := by
  obtain ⟨N, hN⟩ : ∃ N, N = names.length := ⟨_, rfl⟩
  obtain ⟨L, hL⟩ : ∃ L, L = lastL names.reverse t := ⟨_, rfl⟩
  rw [← hN, ← hL]
  rw [← hN] at hn
  have HN := Lib.hid hN
  have HC := Lib.hid hc
  have H1 := Lib.hid h1
  have hstart : Hid (L = lastL (names.reverse.drop 0) t) := by show _ = _; rw [hL]; simp
  have hbox0 := heap_old2 w (.cells #[str s, .slice ao m c] 55) (.cells #[.string ⟨#[]⟩, .slice none 0 0] 55)
  have hres0 := heap_new2 w _ (.cells #[str s, .slice ao m c] 55) (.cells #[.string ⟨#[]⟩, .slice none 0 0] 55) rfl
  have hA0 := (After.new w (.cells #[str s, .slice ao m c] 55)).alloc (.cells #[.string ⟨#[]⟩, .slice none 0 0] 55)
  have HT0 := Lib.hid (h.later hA0)
  have HB0 := Lib.hid hbox0
  have HR0 := Lib.hid hres0
  have HA0 := Lib.hid hA0
  have HG := Lib.hid hg
  have HF := Lib.hid hf
  clear hN hL hc h1 h hg hf hbox0 hres0 hA0
  go_enter Tryz.func61, Tryz.ntmps61
  go_wp2_with fail
  go_loopw [5] (fun i wr => ∃ (k : Nat) (u : Tm) (s : List UInt8) (ao : Option Addr) (m c : Nat), Hid (i = .int .i64 ((N : Int) - 1 - k)) ∧ k ≤ N ∧ Hid (wr.heap[w.heap.size]? = some (.cells #[str s, .slice ao m c] 55 (0, 0))) ∧ Hid (wr.heap[w.heap.size + 1]? = some (.cells #[.string ⟨#[]⟩, .slice none 0 0] 55 (0, 0))) ∧
    Hid (ST wr u (.agg #[str s, .slice ao m c])) ∧ u.good = true ∧ u.fits = true ∧ Hid (After w wr) ∧ Hid (L = lastL (names.reverse.drop k) u)) (fun i _ => (intOf i + 1).toNat)
  case atStart => exact ⟨0, t, s, ao, m, c, by show _ = _; simp, Nat.zero_le _, HB0, HR0, HT0, HG.out, HF.out, HA0, hstart⟩
  case round =>
    clear hstart HB0 HR0 HT0 HA0
    obtain ⟨k, u, s, ao, m, c, hi, hk, hbox, hres, hu, hg, hf, hA, hr⟩ := hrel
    obtain ⟨k0, k1, z2, z3, l1⟩ := pair_facts hbox.out (After.refl _)
    have hfz := fits_size hf
    by_cases hlt : k < N
    · obtain ⟨q, hq⟩ : ∃ q : Nat, q = N - 1 - k := ⟨_, rfl⟩
      have hqi : (N : Int) - 1 - k = (q : Int) := by omega
      have hql : q < N := by omega
      have hqn : q < names.length := by rw [← HN.out]; exact hql
      have hi' := hi.out
      rw [hqi] at hi'
      subst hi'
      have hcx := hA.out.cell (HC.out q hqn)
      have hgd : names[q]?.getD [] = names[q] := by simp [hqn]
      have hdrop : names.reverse.drop k = names[q] :: names.reverse.drop (k + 1) := by
        have hkr : k < names.reverse.length := by simp; rw [← HN.out]; exact hlt
        rw [List.drop_eq_getElem_cons hkr]
        congr 1
        rw [List.getElem_reverse]
        congr 1
        rw [hq, HN.out]
      rw [hdrop, lastL] at hr
      rw [hgd] at hcx
      obtain ⟨n1, n2, n3⟩ := name_not3 (H1.out names[q] (List.getElem_mem hqn))
      have HQ := Lib.hid hq
      have HQI := Lib.hid hqi
      generalize names[q] = x at hcx hr n1 n2 n3
      clear hgd hdrop hq hqi hi
      have hsz := abs_size x u
      have hga := abs_good x hg
      have habs := fun W (hW : After wr W) => (hu.out.later hW).abs x n1 n2 n3 (Tm.plain_good hg) (by omega)
      unfold TreePost at habs
      have hself := After.refl wr
      obtain ⟨fb, hfb⟩ : ∃ fb, fb = (Tm.abs x u).fits := ⟨_, rfl⟩
      rw [← hfb] at hr
      have HFB := Lib.hid hfb
      have HGA := Lib.hid hga
      have HSZ := Lib.hid hsz
      have hq0 : (0 : Int) ≤ (q : Int) := by omega
      clear hfb hga hsz
      cases fb
      all_goals
        go_wp2_with fail
        go_region_with (go_at_call 86; refine (habs _ (by first | exact hself.drew | exact hself)).mono ?_; rintro e w1 ⟨s1, ao1, n1, c1, rfl, hb1, ht1⟩; have HT1 := Lib.hid ht1; clear ht1; have hb1' := After.trans (by first | exact hself.drew | exact hself) hb1; obtain ⟨k0', k1', z2', z3', l1'⟩ := pair_facts hbox.out hb1')
      all_goals
        have hbx1 := hb1'.heap hbox.out
        have hrs1 := hb1'.heap hres.out
        have hbox2 := heap_sets2 (u := str s1) (u' := .slice ao1 n1 c1) hbx1
        have hres2 := (heap_sets2_ne (W := w1) (b := w.heap.size) (c := w.heap.size + 1) (i := 0) (j := 1) (u := str s1) (u' := .slice ao1 n1 c1) (by omega)).trans hrs1
        have hst2 := HT1.out.sets2 hbx1 (u := str s1) (u' := .slice ao1 n1 c1) (i := 0) (j := 1)
        have hfine := hst2.fine HGA.out (by have := HSZ.out; omega)
        rw [← HFB.out] at hfine
        have hA2 : After w ((w1.setCell ⟨w.heap.size, 0, none⟩ (str s1)).setCell ⟨w.heap.size, 1, none⟩ (.slice ao1 n1 c1)) := Below.setCell (Below.setCell (hA.out.trans hb1') (by simp) _) (by simp) _
        obtain ⟨j0, j1, _, _, _⟩ := pair_facts hbox2 (After.refl _)
        have HBX2 := Lib.hid hbox2
        have HRS2 := Lib.hid hres2
        have HST2 := Lib.hid hst2
        have HA2 := Lib.hid hA2
        clear hbx1 hrs1 hbox2 hres2 hst2 hA2
        go_wp2_with fail
        refine hfine.mono ?_
        rintro e w2 ⟨rfl, hb2⟩
        obtain ⟨i0, i1, i2, i3, i4⟩ := pair_facts HBX2.out hb2
        obtain ⟨y0, y1, y2, y3, y4⟩ := pair_facts HRS2.out hb2
        clear hfine j0 j1
        go_wp2_with fail
        first
          | (refine bodyPost_ret (v := .agg #[str s1, .slice ao1 n1 c1]) (by simp [results, Tryz.results61, go_sem, y0, y1]) rfl
               ⟨s1, ao1, n1, c1, rfl, Below.setCell (Below.setCell (HA2.out.trans hb2) (by simp) _) (by simp) _, by rw [hr.out]; exact (HST2.out.later hb2).sets2 (hb2.heap HRS2.out)⟩)
          | (go_roundw
             case rel => exact ⟨k + 1, Tm.abs x u, s1, ao1, n1, c1, by show Value.int .i64 _ = Value.int .i64 _; congr 1; have := HQI.out; push_cast; omega, by omega, hb2.heap HBX2.out, hb2.heap HRS2.out, HST2.out.later hb2, HGA.out, HFB.out.symm, HA2.out.trans hb2, by show _ = _; rw [hr.out]; rfl⟩
             case measure => simp [intOf])
    · obtain rfl : k = N := by omega
      have hi' := hi.out
      rw [show (k : Int) - 1 - k = -1 by omega] at hi'
      subst hi'
      have HL : Hid (L = u) := by show _ = _; rw [hr.out, List.drop_eq_nil_of_le (by simp; rw [← HN.out]; exact Nat.le_refl _)]; rfl
      clear hr hi
      obtain ⟨y0, y1, y2, y3, l2⟩ := pair_facts hres.out (After.refl _)
      go_wp2_with fail
      refine bodyPost_ret (v := .agg #[str s, .slice ao m c]) (by simp [results, Tryz.results61, go_sem, y0, y1]) rfl
        ⟨s, ao, m, c, rfl, Below.setCell (Below.setCell hA.out (by simp) _) (by simp) _, by rw [HL.out]; exact hu.out.sets2 hres.out⟩
end Go.Proofs.YtfjohagdlaiapaaGreat
