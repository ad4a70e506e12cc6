/-
  The reader of the program: skip, nameLength, readAtom, read, readTerm.
-/
import Derived.Test.YtidpkmkhcomcdaaGreatPkA
import Derived.Deep.QuietTactic
import Derived.BigQuiet
import Derived.OwnWalk
import Derived.Laws.OwnMore
namespace Go.Proofs.YtidpkmkhcomcdaaGreat
open Go.RowKit

set_option maxHeartbeats 400000
set_option maxRecDepth 100000

/-- The reader lies in block b: the text and the place. -/
def Rd (w : World) (b : Nat) (l : List UInt8) (i : Nat) : Prop := w.heap[b]? = some (.cells #[str l, .int .i64 i] 134 (0, 0))

theorem Rd.set {w : World} {b i : Nat} {l : List UInt8} (h : Rd w b l i) (m j : Nat) : Rd ((w.drewN m).setCell ⟨b, 1, none⟩ (.int .i64 j)) b l j := by
  unfold Rd at *
  simp [World.setCell, Array.getElem?_modify, h]

theorem Rd.drawn {w : World} {b i : Nat} {l : List UInt8} (h : Rd w b l i) (m : Nat) : Rd (w.drewN m) b l i := h

theorem grown_drawn (w : World) (b m : Nat) : w.grownBy (w.drewN m) (some b) := ⟨rfl, rfl, rfl, Nat.le_refl _, fun _ _ _ => rfl⟩

theorem grown_set (w : World) (b m i : Nat) (v : Value) : w.grownBy ((w.drewN m).setCell ⟨b, i, none⟩ v) (some b) := by
  refine ⟨rfl, rfl, rfl, by simp [World.setCell], fun k hk hne => ?_⟩
  have : b ≠ k := fun e => hne (e ▸ rfl)
  simp [World.setCell, Array.getElem?_modify, this]

def SkipPost (w : World) (b : Nat) (l : List UInt8) (i : Nat) (r : Bool) (e : Ending) (w' : World) : Prop :=
  e = .returned (.bool r) ∧ w.grownBy w' (some b) ∧ Rd w' b l (if r then i + 1 else i)

theorem byte_at (l : List UInt8) (i : Nat) (_h : i < l.length) (h' : i < (⟨l.toArray⟩ : ByteArray).size) : (⟨l.toArray⟩ : ByteArray)[i]'h' = l[i] := rfl

theorem byte_ne (x y : UInt8) : ((x.toNat : Int) != (y.toNat : Int)) = (x != y) := by
  rw [Bool.eq_iff_iff]
  simp only [bne_iff_ne, ne_eq, Int.natCast_inj]
  constructor
  · exact fun h e => h (e ▸ rfl)
  · exact fun h e => h (UInt8.toNat_inj.1 e)

theorem ended_any (w : World) (b i : Nat) (l : List UInt8) (c0 : w.cell? ⟨b, 0, none⟩ = some (str l)) (c1 : w.cell? ⟨b, 1, none⟩ = some (.int .i64 (i : Nat))) (_hl : l.length ≤ 1000000000) :
    Calls Tryz.prog 88 #[.pointer (some ⟨b, 0, none⟩)] w fun e w' => e = .returned (.bool (decide (i = l.length))) ∧ ∃ m, w' = w.drewN m := by
  have hsz : (⟨l.toArray⟩ : ByteArray).size = l.length := by show l.toArray.size = _; simp
  by_cases hie : i = l.length
  · have hr : decide (i = l.length) = true := by simp [hie]
    rw [hr]
    subst hie
    clear hr
    go_enter Tryz.func88, Tryz.ntmps88
    go_wp2_with fail
    go_quiet (fail)
    go_wp2_with fail
    go_ret
    exact ⟨rfl, _, rfl⟩
  · have hr : decide (i = l.length) = false := by simp [hie]
    rw [hr]
    have hne : ((i : Int) == (l.length : Int)) = false := by rw [beq_eq_false_iff_ne]; omega
    clear hr
    go_enter Tryz.func88, Tryz.ntmps88
    go_wp2_with fail
    go_quiet (fail)
    go_wp2_with fail
    go_ret
    exact ⟨rfl, _, rfl⟩

/-- What skip leaves in the cells of its block. -/
def SkipOn (w : World) (b : Nat) (cs : Array Value) (T : TypeId) (i : Nat) (r : Bool) (e : Ending) (w' : World) : Prop :=
  e = .returned (.bool r) ∧ w.grownBy w' (some b) ∧ w'.heap[b]? = some (.cells (if r then cs.setIfInBounds 1 (.int .i64 ((i + 1 : Nat) : Int)) else cs) T (0, 0))

theorem skip_on (w : World) (b i : Nat) (l : List UInt8) (n : Int) (c : UInt8) (hn : n = c.toNat) (cs : Array Value) (T : TypeId) (h : w.heap[b]? = some (.cells cs T (0, 0))) (h0 : cs[0]? = some (str l)) (h1 : cs[1]? = some (.int .i64 (i : Nat))) (hl : l.length ≤ 1000000000) (hi : i ≤ l.length) :
    Calls Tryz.prog 104 #[.pointer (some ⟨b, 0, none⟩), .int .u8 n] w (SkipOn w b cs T i (decide (l[i]? = some c))) := by
  have c0 : w.cell? ⟨b, 0, none⟩ = some (str l) := by rw [cell_of_heap h]; exact h0
  have c1 : w.cell? ⟨b, 1, none⟩ = some (.int .i64 (i : Nat)) := by rw [cell_of_heap h]; exact h1
  have f1 : w.frozen? ⟨b, 1, none⟩ = false := by simp [World.frozen?, h]
  have hsz : (⟨l.toArray⟩ : ByteArray).size = l.length := by show l.toArray.size = _; simp
  have hi0 : (0 : Int) ≤ (i : Int) := by omega
  have hend := fun m => ended_any (w.drewN m) b i l c0 c1 hl
  have HR := Lib.hid h
  subst hn
  clear h h0 h1
  by_cases hie : i = l.length
  · subst hie
    have hr : decide (l[l.length]? = some c) = false := by simp
    have hd : decide (l.length = l.length) = true := by simp
    rw [hr]
    rw [hd] at hend
    clear hr hd
    go_enter Tryz.func104, Tryz.ntmps104
    go_wp2_with fail
    go_quiet ((go_at_call 88; exact Calls.quiet_of (hend _)))
    go_wp2_with fail
    go_ret
    exact ⟨rfl, grown_drawn _ _ _, HR.out⟩
  · have hlt : i < l.length := by omega
    have hd : decide (i = l.length) = false := by simp [hie]
    rw [hd] at hend
    have hi1 : (i : Int) < (l.length : Int) := by omega
    have hg : l[i]? = some l[i] := List.getElem?_eq_getElem hlt
    have hb := byte_ne l[i] c
    have hat := byte_at l i hlt (by rw [hsz]; exact hlt)
    clear hd hie
    by_cases hc : l[i] = c
    · have hr : decide (l[i]? = some c) = true := by rw [hg, hc]; simp
      rw [hr]
      have hb2 : (((⟨l.toArray⟩ : ByteArray)[i]'(by rw [hsz]; exact hlt)).toNat : Int) = (c.toNat : Int) := by rw [hat, hc]
      clear hr hg hb hat hc
      go_enter Tryz.func104, Tryz.ntmps104
      go_wp2_with fail
      go_quiet ((go_at_call 88; exact Calls.quiet_of (hend _)))
      go_wp2_with fail
      go_ret
      refine ⟨rfl, grown_set _ _ _ _ _, ?_⟩
      have := HR.out
      simp [World.setCell, Array.getElem?_modify, this]
    · have hr : decide (l[i]? = some c) = false := by rw [hg]; simp [hc]
      rw [hr]
      have hb2 : (((((⟨l.toArray⟩ : ByteArray)[i]'(by rw [hsz]; exact hlt)).toNat : Int) != (c.toNat : Int))) = true := by rw [hat, hb]; simpa using hc
      clear hr hg hb hat hc
      go_enter Tryz.func104, Tryz.ntmps104
      go_wp2_with fail
      go_quiet ((go_at_call 88; exact Calls.quiet_of (hend _)))
      go_wp2_with fail
      go_ret
      exact ⟨rfl, grown_drawn _ _ _, HR.out⟩

theorem skip_any (w : World) (b i : Nat) (l : List UInt8) (n : Int) (c : UInt8) (hn : n = c.toNat) (h : Rd w b l i) (hl : l.length ≤ 1000000000) (hi : i ≤ l.length) :
    Calls Tryz.prog 104 #[.pointer (some ⟨b, 0, none⟩), .int .u8 n] w (SkipPost w b l i (decide (l[i]? = some c))) := by
  refine (skip_on w b i l n c hn _ _ h rfl rfl hl hi).mono ?_
  rintro e w' ⟨he, hg, hh⟩
  refine ⟨he, hg, ?_⟩
  generalize decide (l[i]? = some c) = r at *
  cases r
  · exact hh
  · exact hh

/-! ### the length of a name -/

theorem lead_int (c : UInt8) : Tm.lead c = true ↔ (117 : Int) ≤ (c.toNat : Int) ∧ (c.toNat : Int) ≤ 122 := by
  simp only [Tm.lead, Bool.and_eq_true, decide_eq_true_eq, UInt8.le_iff_toNat_le]
  have h1 : (117 : UInt8).toNat = 117 := rfl
  have h2 : (122 : UInt8).toNat = 122 := rfl
  omega
theorem dig_int (c : UInt8) : Tm.dig c = true ↔ (48 : Int) ≤ (c.toNat : Int) ∧ (c.toNat : Int) ≤ 57 := by
  simp only [Tm.dig, Bool.and_eq_true, decide_eq_true_eq, UInt8.le_iff_toNat_le]
  have h1 : (48 : UInt8).toNat = 48 := rfl
  have h2 : (57 : UInt8).toNat = 57 := rfl
  omega

theorem nameLength_any (w : World) (l : List UInt8) (hl : l.length ≤ 1000000000) :
    Calls Tryz.prog 116 #[str l] w fun e w' => e = .returned (.int .i64 (Tm.nameLen l 0 : Nat)) ∧ w = w' := by
  have hsz : (⟨l.toArray⟩ : ByteArray).size = l.length := by show l.toArray.size = _; simp
  cases hcs : l with
  | nil =>
    go_enter Tryz.func116, Tryz.ntmps116
    go_wp2_with fail
    go_ret
    exact ⟨by simp [Tm.nameLen], rfl⟩
  | cons c ds =>
    rw [← hcs]
    have hpos : 0 < l.length := by rw [hcs]; simp
    have h0 : l[0] = c := by simp [hcs]
    have hat := byte_at l 0 hpos (by rw [hsz]; exact hpos)
    rw [h0] at hat
    have hemp : l.isEmpty = false := by rw [hcs]; rfl
    have hget : l[0]? = some c := by simp [hcs]
    clear hcs h0
    by_cases hlead : Tm.lead c = true
    · have hfin : Tm.nameLen l 0 = 1 + Tm.digs l 3 1 := by simp [Tm.nameLen, hget, hlead]
      have HF := Lib.hid hfin
      obtain ⟨hl1, hl2⟩ := (lead_int c).1 hlead
      clear hfin hget hlead
      go_enter Tryz.func116, Tryz.ntmps116
      go_wp2_with fail
      go_loop [3] (fun n => ∃ k : Nat, 1 ≤ k ∧ k ≤ 4 ∧ k ≤ l.length ∧ n = .int .i64 k ∧ Hid (Tm.nameLen l 0 = k + Tm.digs l (4 - k) k)) (fun n => (5 - intOf n).toNat)
      case atStart => exact ⟨1, by omega, by omega, by omega, rfl, HF⟩
      case round =>
        obtain ⟨k, hk1, hk4, hkl, rfl, hk⟩ := hrel
        have hexit : (Tm.digs l (4 - k) k = 0) → Tm.nameLen l 0 = k := fun h => by rw [hk.out, h, Nat.add_zero]
        have HX := Lib.hid hexit
        clear hexit hat
        by_cases hlt : k < l.length
        · have hatk := byte_at l k hlt (by rw [hsz]; exact hlt)
          have hgetk : l[k]? = some l[k] := List.getElem?_eq_getElem hlt
          by_cases h3 : k ≤ 3
          · by_cases hd : Tm.dig l[k] = true
            · have hstep : Tm.nameLen l 0 = (k + 1) + Tm.digs l (4 - (k + 1)) (k + 1) := by
                rw [hk.out, show 4 - k = (4 - (k + 1)) + 1 by omega, Tm.digs, hgetk]; simp [hd]; omega
              have HS := Lib.hid hstep
              obtain ⟨hd1, hd2⟩ := (dig_int _).1 hd
              rw [← hatk] at hd1 hd2
              clear hstep hd hgetk hatk hk
              go_wp2_with fail
              go_round
              case rel => exact ⟨k + 1, by omega, by omega, by omega, by go_num, HS⟩
              case measure => simp [intOf]; omega
            · have hfin := HX.out (by rw [show 4 - k = (3 - k) + 1 by omega, Tm.digs, hgetk]; simp [hd])
              have HS := Lib.hid hfin
              rw [dig_int, ← hatk] at hd
              clear hfin hgetk hatk hk
              by_cases hd1 : (48 : Int) ≤ (((⟨l.toArray⟩ : ByteArray)[k]'(by rw [hsz]; exact hlt)).toNat : Int)
              · have hd2 : ¬ (((⟨l.toArray⟩ : ByteArray)[k]'(by rw [hsz]; exact hlt)).toNat : Int) ≤ 57 := fun h => hd ⟨hd1, h⟩
                clear hd
                go_wp2_with fail
                go_ret
                exact ⟨by rw [HS.out]; rfl, rfl⟩
              · clear hd
                go_wp2_with fail
                go_ret
                exact ⟨by rw [HS.out]; rfl, rfl⟩
          · have hfin := HX.out (by rw [show 4 - k = 0 by omega, Tm.digs])
            have HS := Lib.hid hfin
            clear hfin hgetk hatk hk
            go_wp2_with fail
            go_ret
            exact ⟨by rw [HS.out]; rfl, rfl⟩
        · have hfin := HX.out (by
            cases h4 : 4 - k with
            | zero => rw [Tm.digs]
            | succ m => rw [Tm.digs, List.getElem?_eq_none (by omega)])
          have HS := Lib.hid hfin
          clear hfin hk
          go_wp2_with fail
          go_ret
          exact ⟨by rw [HS.out]; rfl, rfl⟩
    · have hfin : Tm.nameLen l 0 = 0 := by simp [Tm.nameLen, hget, hlead]
      rw [hfin]
      rw [lead_int] at hlead
      clear hfin hget
      by_cases h1 : (c.toNat : Int) < 117
      · go_enter Tryz.func116, Tryz.ntmps116
        go_wp2_with fail
        go_ret
        exact ⟨rfl, rfl⟩
      · have h2 : (122 : Int) < (c.toNat : Int) := by omega
        clear hlead
        go_enter Tryz.func116, Tryz.ntmps116
        go_wp2_with fail
        go_ret
        exact ⟨rfl, rfl⟩
end Go.Proofs.YtidpkmkhcomcdaaGreat

namespace Go.Proofs.YtidpkmkhcomcdaaGreat
open Go.RowKit

set_option maxHeartbeats 400000
set_option maxRecDepth 100000

def AtomPost (w : World) (b : Nat) (l : List UInt8) (r : Option (Tm × Nat)) (e : Ending) (w' : World) : Prop :=
  ∃ v, e = .returned (.tuple #[v, .bool r.isSome]) ∧ w.grownBy w' (some b) ∧ ∀ t j, r = some (t, j) → Rd w' b l j ∧ TV w' (b + 1) t v

theorem grown_trans {w w' w'' : World} {b : Nat} (h : w.grownBy w' (some b)) (g : w'.grownBy w'' (some b)) : w.grownBy w'' (some b) :=
  ⟨g.os.trans h.os, g.tape.trans h.tape, g.output.trans h.output, Nat.le_trans h.size g.size, fun k hk hne => (g.block k (Nat.lt_of_lt_of_le hk h.size) hne).trans (h.block k hk hne)⟩

theorem grown_alloc (w : World) (b : Nat) (o : Obj) : w.grownBy (w.alloc o) (some b) := ⟨rfl, rfl, rfl, by simp, fun k hk _ => Below.heap_alloc _ _ _ hk⟩

theorem Rd.alloc {w : World} {b i : Nat} {l : List UInt8} (h : Rd w b l i) (o : Obj) : Rd (w.alloc o) b l i := by
  unfold Rd at *
  rw [Below.heap_alloc _ _ _ (Array.getElem?_eq_some_iff.1 h).1]; exact h

theorem Rd.lt {w : World} {b i : Nat} {l : List UInt8} (h : Rd w b l i) : b < w.heap.size := (Array.getElem?_eq_some_iff.1 h).1

theorem heap_new (w : World) (o : Obj) : (w.alloc o).heap[w.heap.size]? = some o := by
  show (w.heap.push _)[_]? = _
  simp

theorem heap_new_set (w : World) (m : Nat) (a : Addr) (v : Value) (o : Obj) : (((w.drewN m).setCell a v).alloc o).heap[w.heap.size]? = some o := by
  have h : ((w.drewN m).setCell a v).heap.size = w.heap.size := by simp [World.setCell]
  rw [← h]
  exact heap_new _ _

theorem bytes_ext (l : List UInt8) (i j : Nat) : (⟨l.toArray⟩ : ByteArray).extract i j = ⟨((l.drop i).take (j - i)).toArray⟩ := by
  apply ByteArray.ext
  simp [ByteArray.data_extract]

theorem digs_drop (l : List UInt8) (i m k : Nat) : Tm.digs (l.drop i) m k = Tm.digs l m (i + k) := by
  induction m generalizing k with
  | zero => rfl
  | succ m ih =>
    simp only [Tm.digs, List.getElem?_drop]
    rw [ih (k + 1)]
    rfl

theorem nameLen_drop (l : List UInt8) (i : Nat) : Tm.nameLen (l.drop i) 0 = Tm.nameLen l i := by
  simp only [Tm.nameLen, List.getElem?_drop, Nat.add_zero]
  rw [digs_drop]

theorem readAtom_any (w : World) (b i : Nat) (l : List UInt8) (h : Rd w b l i) (hl : l.length ≤ 1000000000) (hi : i ≤ l.length) :
    Calls Tryz.prog 105 #[.pointer (some ⟨b, 0, none⟩)] w (AtomPost w b l (Tm.readAtom l i)) := by
  have HL := Lib.hid hl
  by_cases hk : l[i]? = some 107
  · have hfin : Tm.readAtom l i = some (.k, i + 1) := by simp [Tm.readAtom, hk]
    rw [hfin]
    have hd : decide (l[i]? = some 107) = true := by simp [hk]
    have hsk := skip_any w b i l 107 107 rfl h hl hi
    rw [hd] at hsk
    clear hd hk hfin hi hl h
    go_enter Tryz.func105, Tryz.ntmps105
    go_wp2_with (go_at_call 104; refine hsk.mono ?_; rintro e w1 ⟨rfl, hg1, hr1⟩)
    go_ret2
    refine ⟨_, rfl, grown_trans hg1 (grown_alloc _ _ _), fun t j he => ?_⟩
    simp only [Option.some.injEq, Prod.mk.injEq] at he
    obtain ⟨rfl, rfl⟩ := he
    exact ⟨Rd.alloc hr1 _, ⟨_, _, rfl, Nat.succ_le_of_lt (Rd.lt hr1), heap_new _ _⟩⟩
  · by_cases hs : l[i]? = some 115
    · have hfin : Tm.readAtom l i = some (.s, i + 1) := by simp [Tm.readAtom, hs]
      rw [hfin]
      have hd : decide (l[i]? = some 107) = false := by simp [hk]
      have hd2 : decide (l[i]? = some 115) = true := by simp [hs]
      have hsk := skip_any w b i l 107 107 rfl h hl hi
      rw [hd] at hsk
      have HI := Lib.hid hi
      clear hd hk hs hfin hi hl h
      go_enter Tryz.func105, Tryz.ntmps105
      go_wp2_with fail
      refine hsk.mono ?_
      rintro e w1 ⟨rfl, hg1, hr1⟩
      have hsk2 := skip_any w1 b i l 115 115 rfl hr1 HL.out HI.out
      rw [hd2] at hsk2
      clear hsk hd2
      go_wp2_with fail
      refine hsk2.mono ?_
      rintro e w2 ⟨rfl, hg2, hr2⟩
      go_wp2_with fail
      go_ret2
      refine ⟨_, rfl, grown_trans (grown_trans hg1 hg2) (grown_alloc _ _ _), fun t j he => ?_⟩
      simp only [Option.some.injEq, Prod.mk.injEq] at he
      obtain ⟨rfl, rfl⟩ := he
      exact ⟨Rd.alloc hr2 _, ⟨_, _, rfl, Nat.succ_le_of_lt (Rd.lt hr2), heap_new _ _⟩⟩
    · have hd : decide (l[i]? = some 107) = false := by simp [hk]
      have hd2 : decide (l[i]? = some 115) = false := by simp [hs]
      have hsk := skip_any w b i l 107 107 rfl h hl hi
      rw [hd] at hsk
      have HI := Lib.hid hi
      clear hd h hl
      go_enter Tryz.func105, Tryz.ntmps105
      go_wp2_with fail
      refine hsk.mono ?_
      rintro e w1 ⟨rfl, hg1, hr1⟩
      have hsk2 := skip_any w1 b i l 115 115 rfl hr1 HL.out HI.out
      rw [hd2] at hsk2
      clear hsk hd2
      go_wp2_with fail
      refine hsk2.mono ?_
      rintro e w2 ⟨rfl, hg2, hr2⟩
      have c0 : w2.cell? ⟨b, 0, none⟩ = some (str l) := cell_of_heap hr2
      have c1 : w2.cell? ⟨b, 1, none⟩ = some (.int .i64 (i : Nat)) := cell_of_heap hr2
      have hsz : (⟨l.toArray⟩ : ByteArray).size = l.length := by show l.toArray.size = _; simp
      have hi0 : (0 : Int) ≤ (i : Int) := by omega
      have hext : (⟨l.toArray⟩ : ByteArray).extract i l.length = ⟨(l.drop i).toArray⟩ := by
        rw [bytes_ext, List.take_of_length_le (by simp)]
      have hlen := HL.out
      have hnl : ∀ W, Calls Tryz.prog 116 #[str (l.drop i)] W fun e w' => e = .returned (.int .i64 (Tm.nameLen l i : Nat)) ∧ W = w' := fun W => by
        have := nameLength_any W (l.drop i) (by simp; omega)
        rw [nameLen_drop] at this
        exact this
      have hsound := Tm.nameLen_sound l i
      by_cases hz : Tm.nameLen l i = 0
      · have hfin : Tm.readAtom l i = none := by simp [Tm.readAtom, hk, hs, hz]
        rw [hz] at hnl
        have H := Lib.hid hfin
        clear hfin hsound hz hk hs
        go_wp2_with fail
        go_quiet ((go_at_call 116; exact Calls.quiet_of_same ((hnl _).mono fun e w' ⟨he, hw⟩ => ⟨he, hw.symm⟩)))
        go_wp2_with fail
        go_ret2
        exact ⟨_, by rw [H.out]; rfl, grown_trans (grown_trans hg1 hg2) (grown_drawn _ _ _), fun t j he => by rw [H.out] at he; simp at he⟩
      · obtain ⟨hok, hle⟩ := hsound hz
        obtain ⟨n, hn⟩ : ∃ n, n = Tm.nameLen l i := ⟨_, rfl⟩
        have hfin : Tm.readAtom l i = some (.nm ((l.drop i).take n), i + n) := by simp [Tm.readAtom, hk, hs, hz, hn]
        rw [← hn] at hnl hle hz
        have hz2 : ((n : Int) == 0) = false := by rw [beq_eq_false_iff_ne]; omega
        have hlo : (0 : Int) ≤ (i : Int) + (n : Int) := by omega
        have hhi : (i : Int) + (n : Int) ≤ (l.length : Int) := by omega
        have hin : (i : Int) ≤ (i : Int) + (n : Int) := by omega
        have hext2 : (⟨l.toArray⟩ : ByteArray).extract i (i + n) = ⟨((l.drop i).take n).toArray⟩ := by
          rw [bytes_ext, Nat.add_sub_cancel_left]
        have f1 : w2.frozen? ⟨b, 1, none⟩ = false := by unfold Rd at hr2; simp [World.frozen?, hr2]
        have H := Lib.hid hfin
        have HR := Lib.hid hr2
        have HI2 := Lib.hid hext2
        clear hfin hsound hz hk hs hok hn hr2
        go_wp2_with fail
        go_quiet ((go_at_call 116; exact Calls.quiet_of_same ((hnl _).mono fun e w' ⟨he, hw⟩ => ⟨he, hw.symm⟩)))
        go_wp2_with fail
        clear hext
        go_quiet (fail)
        go_wp2_with fail
        go_ret2
        have e : (i : Int) + (n : Int) = ((i + n : Nat) : Int) := by omega
        rw [e]
        refine ⟨_, by rw [H.out]; rfl, grown_trans (grown_trans (grown_trans hg1 hg2) (grown_set _ _ _ _ _)) (grown_alloc _ _ _), fun t j he => ?_⟩
        rw [H.out] at he
        simp only [Option.some.injEq, Prod.mk.injEq] at he
        obtain ⟨rfl, rfl⟩ := he
        exact ⟨Rd.alloc (Rd.set HR.out _ _) _, ⟨_, _, rfl, Nat.succ_le_of_lt (Rd.lt HR.out), heap_new_set _ _ _ _ _⟩⟩
end Go.Proofs.YtidpkmkhcomcdaaGreat

namespace Go.Proofs.YtidpkmkhcomcdaaGreat
open Go.RowKit

set_option maxHeartbeats 400000
set_option maxRecDepth 100000

theorem in_any (w : World) (n lo hi : Int) : Calls Tryz.prog 31 #[.int .i64 n, .int .i64 lo, .int .i64 hi] w fun e w' => e = .returned (.bool (decide (lo ≤ n ∧ n ≤ hi))) ∧ w = w' := by
  by_cases h1 : lo ≤ n
  · by_cases h2 : n ≤ hi
    · rw [show decide (lo ≤ n ∧ n ≤ hi) = true by simp [h1, h2]]
      go_enter Tryz.func31, Tryz.ntmps31
      go_wp2_with fail
      go_ret
      exact ⟨by simp, rfl⟩
    · rw [show decide (lo ≤ n ∧ n ≤ hi) = false by simp [h2]]
      go_enter Tryz.func31, Tryz.ntmps31
      go_wp2_with fail
      go_ret
      exact ⟨by simp, rfl⟩
  · rw [show decide (lo ≤ n ∧ n ≤ hi) = false by simp [h1]]
    go_enter Tryz.func31, Tryz.ntmps31
    go_wp2_with fail
    go_ret
    exact ⟨by simp, rfl⟩

theorem s_name (w : World) (l : List UInt8) (hl : l.length ≤ 1000000000) : Calls Tryz.prog 113 #[str l] w fun e w' => e = .returned (.bool (Tm.nameOk l)) ∧ w = w' := by
  have hsz : (⟨l.toArray⟩ : ByteArray).size = l.length := by show l.toArray.size = _; simp
  have hin := in_any w (l.length : Nat) 1 4
  by_cases hlen : 1 ≤ l.length ∧ l.length ≤ 4
  · rw [show decide ((1 : Int) ≤ ((l.length : Nat) : Int) ∧ ((l.length : Nat) : Int) ≤ 4) = true by rw [decide_eq_true_eq]; omega] at hin
    cases hcs : l with
    | nil => rw [hcs] at hlen; simp at hlen
    | cons c ds =>
      rw [← hcs]
      have hpos : 0 < l.length := by omega
      have hat : (⟨l.toArray⟩ : ByteArray)[0]'(by rw [hsz]; exact hpos) = c := by rw [byte_at l 0 hpos]; simp [hcs]
      have hok : Tm.nameOk l = (Tm.lead c && (l.drop 1).all Tm.dig) := by
        have : ds.length ≤ 3 := by have := hlen.2; rw [hcs] at this; simp at this; omega
        rw [hcs]; simp [Tm.nameOk, this]
      obtain ⟨hlen1, hlen4⟩ := hlen
      clear hcs
      by_cases hlead : Tm.lead c = true
      · have hfin : Hid (Tm.nameOk l = (l.drop 1).all Tm.dig) := by show _ = _; rw [hok, hlead]; rfl
        obtain ⟨hl1, hl2⟩ := (lead_int c).1 hlead
        clear hok hlead
        go_enter Tryz.func113, Tryz.ntmps113
        go_wp2_with (go_at_call 31; refine hin.mono ?_; rintro e w' ⟨rfl, rfl⟩)
        go_loop [3] (fun n => ∃ k : Nat, 1 ≤ k ∧ k ≤ l.length ∧ n = .int .i64 k ∧ Hid (Tm.nameOk l = (l.drop k).all Tm.dig)) (fun n => l.length - (intOf n).toNat)
        case atStart => exact ⟨1, by omega, by omega, rfl, hfin⟩
        case round =>
          obtain ⟨k, hk1, hkl, rfl, hk⟩ := hrel
          clear hat hfin
          by_cases hlt : k < l.length
          · have hatk := byte_at l k hlt (by rw [hsz]; exact hlt)
            have hdrop := List.drop_eq_getElem_cons hlt
            by_cases hd : Tm.dig l[k] = true
            · have HS : Hid (Tm.nameOk l = (l.drop (k + 1)).all Tm.dig) := by show _ = _; rw [hk.out, hdrop, List.all_cons, hd]; rfl
              obtain ⟨hd1, hd2⟩ := (dig_int _).1 hd
              rw [← hatk] at hd1 hd2
              clear hd hdrop hatk hk
              go_wp2_with fail
              go_round
              case rel => exact ⟨k + 1, by omega, by omega, by go_num, HS⟩
              case measure => simp [intOf]; omega
            · have HS : Hid (Tm.nameOk l = false) := by show _ = _; rw [hk.out, hdrop, List.all_cons]; simp [hd]
              rw [dig_int, ← hatk] at hd
              clear hdrop hatk hk
              by_cases hd1 : (48 : Int) ≤ (((⟨l.toArray⟩ : ByteArray)[k]'(by rw [hsz]; exact hlt)).toNat : Int)
              · have hd2 : (57 : Int) < (((⟨l.toArray⟩ : ByteArray)[k]'(by rw [hsz]; exact hlt)).toNat : Int) := by
                  have := fun h => hd ⟨hd1, h⟩
                  omega
                clear hd
                go_wp2_with fail
                go_ret
                exact ⟨by rw [HS.out]; rfl, rfl⟩
              · have hd2 : (((⟨l.toArray⟩ : ByteArray)[k]'(by rw [hsz]; exact hlt)).toNat : Int) < 48 := by omega
                clear hd hd1
                go_wp2_with fail
                go_ret
                exact ⟨by rw [HS.out]; rfl, rfl⟩
          · have HS : Hid (Tm.nameOk l = true) := by show _ = _; rw [hk.out, List.drop_eq_nil_of_le (by omega)]; rfl
            clear hk
            go_wp2_with fail
            go_ret
            exact ⟨by rw [HS.out]; rfl, rfl⟩
      · have hfin : Tm.nameOk l = false := by rw [hok]; simp [hlead]
        rw [hfin]
        rw [lead_int] at hlead
        clear hfin hok
        by_cases h1 : (c.toNat : Int) < 117
        · go_enter Tryz.func113, Tryz.ntmps113
          go_wp2_with (go_at_call 31; refine hin.mono ?_; rintro e w' ⟨rfl, rfl⟩)
          go_ret
          exact ⟨rfl, rfl⟩
        · have h2 : (122 : Int) < (c.toNat : Int) := by omega
          clear hlead
          go_enter Tryz.func113, Tryz.ntmps113
          go_wp2_with (go_at_call 31; refine hin.mono ?_; rintro e w' ⟨rfl, rfl⟩)
          go_ret
          exact ⟨rfl, rfl⟩
  · rw [show decide ((1 : Int) ≤ ((l.length : Nat) : Int) ∧ ((l.length : Nat) : Int) ≤ 4) = false by rw [decide_eq_false_iff_not]; omega] at hin
    have hfin : Tm.nameOk l = false := by
      cases hcs : l with
      | nil => rfl
      | cons c ds =>
        rw [hcs] at hlen
        simp at hlen
        have : ¬ ds.length ≤ 3 := by omega
        simp [Tm.nameOk, this]
    rw [hfin]
    clear hfin hlen
    go_enter Tryz.func113, Tryz.ntmps113
    go_wp2_with (go_at_call 31; refine hin.mono ?_; rintro e w' ⟨rfl, rfl⟩)
    go_ret
    exact ⟨rfl, rfl⟩

theorem atomEnd_mid (l : List UInt8) (k : Nat) (h : k < l.length) (hm : Tm.mid l[k] = true) : Tm.atomEnd l k = Tm.atomEnd l (k + 1) := by
  unfold Tm.atomEnd
  rw [List.drop_eq_getElem_cons h, List.takeWhile_cons]
  unfold Tm.mid at hm
  rw [hm]
  simp
  omega

theorem atomEnd_stop (l : List UInt8) (k : Nat) (h : k < l.length → Tm.mid (l.getD k 0) = false) : Tm.atomEnd l k = k := by
  unfold Tm.atomEnd
  by_cases hk : k < l.length
  · have hm := h hk
    rw [List.getD_eq_getElem?_getD, List.getElem?_eq_getElem hk] at hm
    rw [List.drop_eq_getElem_cons hk, List.takeWhile_cons]
    unfold Tm.mid at hm
    simp only [Option.getD_some] at hm
    rw [hm]
    simp
  · rw [List.drop_eq_nil_of_le (by omega)]
    simp

theorem byte_ne_lit (x : UInt8) (n : Nat) (h : n < 256) : ((x.toNat : Int) != (n : Int)) = (x != UInt8.ofNat n) := by
  have := byte_ne x (UInt8.ofNat n)
  rw [UInt8.toNat_ofNat_of_lt' (by simpa using h)] at this
  exact this

theorem s_atom (w : World) (l : List UInt8) (i : Nat) (hl : l.length ≤ 1000000000) (hi : i ≤ l.length) :
    Calls Tryz.prog 112 #[str l, .int .i64 i] w fun e w' => e = .returned (.int .i64 (Tm.atomEnd l i : Nat)) ∧ w = w' := by
  have hsz : (⟨l.toArray⟩ : ByteArray).size = l.length := by show l.toArray.size = _; simp
  go_enter Tryz.func112, Tryz.ntmps112
  go_wp2_with fail
  go_loop [1] (fun n => ∃ k : Nat, i ≤ k ∧ k ≤ l.length ∧ n = .int .i64 k ∧ Hid (Tm.atomEnd l i = Tm.atomEnd l k)) (fun n => l.length - (intOf n).toNat)
  case atStart => exact ⟨i, Nat.le_refl _, hi, rfl, rfl⟩
  case round =>
    obtain ⟨k, hk1, hkl, rfl, hk⟩ := hrel
    by_cases hlt : k < l.length
    · have hatk := byte_at l k hlt (by rw [hsz]; exact hlt)
      have n1 : ((l[k].toNat : Int) != 32) = (l[k] != (32 : UInt8)) := byte_ne_lit l[k] 32 (by omega)
      have n2 : ((l[k].toNat : Int) != 40) = (l[k] != (40 : UInt8)) := byte_ne_lit l[k] 40 (by omega)
      have n3 : ((l[k].toNat : Int) != 41) = (l[k] != (41 : UInt8)) := byte_ne_lit l[k] 41 (by omega)
      rw [← hatk] at n1 n2 n3
      by_cases hm : Tm.mid l[k] = true
      · have HS : Hid (Tm.atomEnd l i = Tm.atomEnd l (k + 1)) := by show _ = _; rw [hk.out, atomEnd_mid l k hlt hm]
        rw [← hatk] at hm
        simp only [Tm.mid, Bool.and_eq_true] at hm
        rw [hm.1.1] at n1
        rw [hm.1.2] at n2
        rw [hm.2] at n3
        clear hm hatk hk
        go_wp2_with fail
        go_round
        case rel => exact ⟨k + 1, by omega, by omega, by go_num, HS⟩
        case measure => simp [intOf]; omega
      · have HS : Hid (Tm.atomEnd l i = k) := by
          show _ = _
          rw [hk.out]
          exact atomEnd_stop l k (fun h => by rw [List.getD_eq_getElem?_getD, List.getElem?_eq_getElem h]; simpa using hm)
        rw [← hatk] at hm
        simp only [Tm.mid, Bool.and_eq_true, not_and, Bool.not_eq_true] at hm
        clear hatk hk
        cases m1 : ((((⟨l.toArray⟩ : ByteArray)[k]'(by rw [hsz]; exact hlt))) != (32 : UInt8)) with
        | false =>
          rw [m1] at n1
          clear m1 hm n2 n3
          go_wp2_with fail
          go_ret
          exact ⟨by rw [HS.out]; rfl, rfl⟩
        | true =>
          rw [m1] at n1
          cases m2 : ((((⟨l.toArray⟩ : ByteArray)[k]'(by rw [hsz]; exact hlt))) != (40 : UInt8)) with
          | false =>
            rw [m2] at n2
            clear m1 m2 hm n3
            go_wp2_with fail
            go_ret
            exact ⟨by rw [HS.out]; rfl, rfl⟩
          | true =>
            have m3 := hm ⟨m1, m2⟩
            rw [m2] at n2
            rw [m3] at n3
            clear m1 m2 m3 hm
            go_wp2_with fail
            go_ret
            exact ⟨by rw [HS.out]; rfl, rfl⟩
    · have HS : Hid (Tm.atomEnd l i = k) := by
        show _ = _
        rw [hk.out]
        exact atomEnd_stop l k (fun h => absurd h hlt)
      clear hk
      go_wp2_with fail
      go_ret
      exact ⟨by rw [HS.out]; rfl, rfl⟩
end Go.Proofs.YtidpkmkhcomcdaaGreat

namespace Go.Proofs.YtidpkmkhcomcdaaGreat
open Go.RowKit

set_option maxHeartbeats 400000
set_option maxRecDepth 100000

theorem TV.grown {w w' : World} {b : Nat} {t : Tm} {v : Value} (h : TV w (b + 1) t v) (hg : w.grownBy w' (some b)) : TV w' (b + 1) t v :=
  h.same fun k hk hl => hg.block k hl (fun e => by injection e with e; omega)

theorem size_le_text (t : Tm) (h : t.good = true) : t.size ≤ t.text.length := by
  induction t with
  | nm n => simp only [Tm.good] at h; cases n with
    | nil => simp [Tm.nameOk] at h
    | cons c ds => simp [Tm.size, Tm.text]
  | app f a ihf iha => simp only [Tm.good, Bool.and_eq_true] at h; have := ihf h.1; have := iha h.2; simp [Tm.size, Tm.text]; omega
  | _ => simp [Tm.size, Tm.text]

theorem reads_size {l : List UInt8} {d i j : Nat} {t : Tm} (h : Tm.Reads l d i t j) : t.size ≤ l.length ∧ j ≤ l.length := by
  obtain ⟨h1, h2, h3, h4, h5⟩ := h
  have := size_le_text t h4
  have e := congrArg List.length h1
  simp at e
  omega

theorem AtomPost.no {w w' : World} {b : Nat} {l : List UInt8} {r : Option (Tm × Nat)} (hr : r = none) (hg : w.grownBy w' (some b)) (v : Value) : AtomPost w b l r (.returned (.tuple #[v, .bool false])) w' :=
  ⟨v, by rw [hr]; rfl, hg, fun t j he => by rw [hr] at he; simp at he⟩

theorem read_any (l : List UInt8) (hl : l.length ≤ 1000000000) : ∀ (d : Nat) (a : Int) (w : World) (b i : Nat), Rd w b l i → i ≤ l.length → a + d = 1501 → d ≤ 1501 →
    Calls Tryz.prog 87 #[.pointer (some ⟨b, 0, none⟩), .int .i64 a] w (AtomPost w b l (Tm.read l d i)) := by
  intro d
  induction d with
  | zero =>
    intro a w b i h hi ha _
    have h1 : (1500 : Int) < a := by omega
    go_enter Tryz.func87, Tryz.ntmps87
    go_wp2_with fail
    go_ret2
    exact AtomPost.no rfl (grown_drawn w b 0) _
  | succ d ih =>
    intro a w b i h hi ha hd
    have h1 : a ≤ 1500 := by omega
    have h2 : 0 ≤ a := by omega
    have hsk := skip_any w b i l 40 40 rfl h hl hi
    by_cases h0 : l[i]? = some 40
    · have hdec : decide (l[i]? = some 40) = true := by simp [h0]
      rw [hdec] at hsk
      have hi1 : i + 1 ≤ l.length := (List.getElem?_eq_some_iff.1 h0).1
      cases hf : Tm.read l d (i + 1) with
      | none =>
        have hfin : Tm.read l (d + 1) i = none := by simp [Tm.read, h0, hf]
        have H := Lib.hid hfin
        have HF := Lib.hid hf
        have HA := Lib.hid ha
        have HIH := Lib.hid ih
        clear hfin hf ha ih hdec h0 h hi
        go_enter Tryz.func87, Tryz.ntmps87
        go_wp2_with fail
        refine hsk.mono ?_
        rintro e w1 ⟨rfl, hg1, hr1⟩
        go_wp2_with fail
        refine (HIH.out (a + 1) _ b (i + 1) hr1 hi1 (by have := HA.out; omega) (by omega)).mono ?_
        rintro e w2 ⟨v2, rfl, hg2, hr2⟩
        rw [HF.out]
        clear hr2
        go_wp2_with fail
        go_ret2
        exact AtomPost.no H.out (grown_trans hg1 hg2) _
      | some p =>
        obtain ⟨f, j⟩ := p
        obtain ⟨zf, hj⟩ := reads_size (Tm.read_sound hf)
        have H0 := Lib.hid h0
        have HF := Lib.hid hf
        have HA := Lib.hid ha
        have HIH := Lib.hid ih
        clear hf ha ih hdec h0 h hi
        by_cases h32 : l[j]? = some 32
        · have hj1 : j + 1 ≤ l.length := (List.getElem?_eq_some_iff.1 h32).1
          have hdec : decide (l[j]? = some 32) = true := by simp [h32]
          have HD := Lib.hid hdec
          cases hq : Tm.read l d (j + 1) with
          | none =>
            have hfin : Tm.read l (d + 1) i = none := by simp [Tm.read, H0.out, HF.out, h32, hq]
            have H := Lib.hid hfin
            have HQ := Lib.hid hq
            clear hfin hq hdec h32
            go_enter Tryz.func87, Tryz.ntmps87
            go_wp2_with fail
            refine hsk.mono ?_
            rintro e w1 ⟨rfl, hg1, hr1⟩
            go_wp2_with fail
            refine (HIH.out (a + 1) _ b (i + 1) hr1 hi1 (by have := HA.out; omega) (by omega)).mono ?_
            rintro e w2 ⟨v2, rfl, hg2, hr2⟩
            rw [HF.out]
            obtain ⟨hr2, ht2⟩ := hr2 f j HF.out
            have hsk2 := skip_any w2 b j l 32 32 rfl hr2 hl hj
            rw [HD.out] at hsk2
            go_wp2_with fail
            refine hsk2.mono ?_
            rintro e w3 ⟨rfl, hg3, hr3⟩
            clear hsk hsk2
            go_wp2_with fail
            refine (HIH.out (a + 1) _ b (j + 1) hr3 hj1 (by have := HA.out; omega) (by omega)).mono ?_
            rintro e w4 ⟨v4, rfl, hg4, hr4⟩
            rw [HQ.out]
            clear hr4
            go_wp2_with fail
            go_ret2
            exact AtomPost.no H.out (grown_trans (grown_trans hg1 hg2) (grown_trans hg3 hg4)) _
          | some p =>
            obtain ⟨g, m⟩ := p
            obtain ⟨zg, hm⟩ := reads_size (Tm.read_sound hq)
            by_cases h41 : l[m]? = some 41
            · have hdec2 : decide (l[m]? = some 41) = true := by simp [h41]
              have hfin : Tm.read l (d + 1) i = some (f.app g, m + 1) := by simp [Tm.read, H0.out, HF.out, h32, hq, h41]
              have H := Lib.hid hfin
              have HQ := Lib.hid hq
              have HD2 := Lib.hid hdec2
              clear hfin hq hdec h32 hdec2 h41
              go_enter Tryz.func87, Tryz.ntmps87
              go_wp2_with fail
              refine hsk.mono ?_
              rintro e w1 ⟨rfl, hg1, hr1⟩
              go_wp2_with fail
              refine (HIH.out (a + 1) _ b (i + 1) hr1 hi1 (by have := HA.out; omega) (by omega)).mono ?_
              rintro e w2 ⟨v2, rfl, hg2, hr2⟩
              rw [HF.out]
              obtain ⟨hr2, ht2⟩ := hr2 f j HF.out
              have hsk2 := skip_any w2 b j l 32 32 rfl hr2 hl hj
              rw [HD.out] at hsk2
              go_wp2_with fail
              refine hsk2.mono ?_
              rintro e w3 ⟨rfl, hg3, hr3⟩
              clear hsk hsk2
              go_wp2_with fail
              refine (HIH.out (a + 1) _ b (j + 1) hr3 hj1 (by have := HA.out; omega) (by omega)).mono ?_
              rintro e w4 ⟨v4, rfl, hg4, hr4⟩
              rw [HQ.out]
              obtain ⟨hr4, ht4⟩ := hr4 g m HQ.out
              have hsk3 := skip_any w4 b m l 41 41 rfl hr4 hl hm
              rw [HD2.out] at hsk3
              go_wp2_with fail
              refine hsk3.mono ?_
              rintro e w5 ⟨rfl, hg5, hr5⟩
              clear hsk3
              have htf := ((ht2.grown hg3).grown hg4).grown hg5
              have hta := ht4.grown hg5
              have hlt5 := Rd.lt hr5
              go_wp2_with fail
              refine (apply_any _ (b + 1) f g _ _ htf hta hlt5 (by omega)).mono ?_
              rintro e w6 ⟨v6, rfl, hb6, hv6⟩
              go_wp2_with fail
              go_ret2
              have hr6 : Rd w6 b l (m + 1) := by unfold Rd at *; rw [hb6.block b hlt5]; exact hr5
              have hg6 : w5.grownBy w6 (some b) := ⟨hb6.os, hb6.tape, hb6.output, hb6.size, fun k hk _ => hb6.block k hk⟩
              refine ⟨_, by rw [H.out]; rfl, grown_trans (grown_trans (grown_trans hg1 hg2) (grown_trans hg3 hg4)) (grown_trans hg5 hg6), fun t j' he => ?_⟩
              rw [H.out] at he
              simp only [Option.some.injEq, Prod.mk.injEq] at he
              obtain ⟨rfl, rfl⟩ := he
              exact ⟨hr6, hv6⟩
            · have hdec2 : decide (l[m]? = some 41) = false := by simp [h41]
              have hfin : Tm.read l (d + 1) i = none := by simp [Tm.read, H0.out, HF.out, h32, hq, h41]
              have H := Lib.hid hfin
              have HQ := Lib.hid hq
              have HD2 := Lib.hid hdec2
              clear hfin hq hdec h32 hdec2 h41
              go_enter Tryz.func87, Tryz.ntmps87
              go_wp2_with fail
              refine hsk.mono ?_
              rintro e w1 ⟨rfl, hg1, hr1⟩
              go_wp2_with fail
              refine (HIH.out (a + 1) _ b (i + 1) hr1 hi1 (by have := HA.out; omega) (by omega)).mono ?_
              rintro e w2 ⟨v2, rfl, hg2, hr2⟩
              rw [HF.out]
              obtain ⟨hr2, ht2⟩ := hr2 f j HF.out
              have hsk2 := skip_any w2 b j l 32 32 rfl hr2 hl hj
              rw [HD.out] at hsk2
              go_wp2_with fail
              refine hsk2.mono ?_
              rintro e w3 ⟨rfl, hg3, hr3⟩
              clear hsk hsk2
              go_wp2_with fail
              refine (HIH.out (a + 1) _ b (j + 1) hr3 hj1 (by have := HA.out; omega) (by omega)).mono ?_
              rintro e w4 ⟨v4, rfl, hg4, hr4⟩
              rw [HQ.out]
              obtain ⟨hr4, ht4⟩ := hr4 g m HQ.out
              have hsk3 := skip_any w4 b m l 41 41 rfl hr4 hl hm
              rw [HD2.out] at hsk3
              go_wp2_with fail
              refine hsk3.mono ?_
              rintro e w5 ⟨rfl, hg5, hr5⟩
              clear hsk3
              go_wp2_with fail
              go_ret2
              exact AtomPost.no H.out (grown_trans (grown_trans (grown_trans hg1 hg2) (grown_trans hg3 hg4)) hg5) _
        · have hdec : decide (l[j]? = some 32) = false := by simp [h32]
          have hfin : Tm.read l (d + 1) i = none := by simp [Tm.read, H0.out, HF.out, h32]
          have H := Lib.hid hfin
          have HD := Lib.hid hdec
          clear hfin hdec h32
          go_enter Tryz.func87, Tryz.ntmps87
          go_wp2_with fail
          refine hsk.mono ?_
          rintro e w1 ⟨rfl, hg1, hr1⟩
          go_wp2_with fail
          refine (HIH.out (a + 1) _ b (i + 1) hr1 hi1 (by have := HA.out; omega) (by omega)).mono ?_
          rintro e w2 ⟨v2, rfl, hg2, hr2⟩
          rw [HF.out]
          obtain ⟨hr2, ht2⟩ := hr2 f j HF.out
          have hsk2 := skip_any w2 b j l 32 32 rfl hr2 hl hj
          rw [HD.out] at hsk2
          go_wp2_with fail
          refine hsk2.mono ?_
          rintro e w3 ⟨rfl, hg3, hr3⟩
          clear hsk hsk2
          go_wp2_with fail
          go_ret2
          exact AtomPost.no H.out (grown_trans (grown_trans hg1 hg2) hg3) _
    · have hdec : decide (l[i]? = some 40) = false := by simp [h0]
      rw [hdec] at hsk
      have hfin : Tm.read l (d + 1) i = Tm.readAtom l i := by simp [Tm.read, h0]
      rw [hfin]
      have HI := Lib.hid hi
      clear hdec hfin h0 h ih hi
      go_enter Tryz.func87, Tryz.ntmps87
      go_wp2_with fail
      refine hsk.mono ?_
      rintro e w1 ⟨rfl, hg1, hr1⟩
      go_wp2_with fail
      refine (readAtom_any _ b i l hr1 hl HI.out).mono ?_
      rintro e w2 ⟨v2, rfl, hg2, hr2⟩
      have HR := Lib.hid hr2
      clear hr2
      go_wp2_with fail
      go_ret2
      exact ⟨_, rfl, grown_trans hg1 hg2, HR.out⟩

def ParsePost (w : World) (B : Nat) (l : List UInt8) (e : Ending) (w' : World) : Prop :=
  ∃ v, e = .returned (.tuple #[v, .bool (Tm.parse l).isSome]) ∧ Below w.heap.size w w' ∧ ∀ t, Tm.parse l = some t → TV w' B t v

theorem ParsePost.no {w w' : World} {B : Nat} {l : List UInt8} (hr : Tm.parse l = none) (hg : Below w.heap.size w w') (v : Value) : ParsePost w B l (.returned (.tuple #[v, .bool false])) w' :=
  ⟨v, by rw [hr]; rfl, hg, fun t he => by rw [hr] at he; simp at he⟩

theorem below_grown {w w' : World} {o : Obj} (hg : (w.alloc o).grownBy w' (some w.heap.size)) : Below w.heap.size w w' :=
  ((Below.refl _ _).alloc (Nat.le_refl _) o).grown hg (by simp) (fun k hk => by injection hk with hk; omega)

theorem below_drews {n : Nat} {a b : World} (h : Below n a b) (m : Nat) : Below n a (b.drewN m) := ⟨h.os, h.tape, h.output, h.size, h.block⟩

theorem readTerm_any (w : World) (B : Nat) (l : List UInt8) (hB : B ≤ w.heap.size) (hl : l.length ≤ 1000000000) :
    Calls Tryz.prog 67 #[str l] w (ParsePost w B l) := by
  have hrd : Rd (w.alloc (.cells #[str l, .int .i64 0] 134)) w.heap.size l 0 := heap_new _ _
  have hread := read_any l hl 1501 0 _ _ 0 hrd (Nat.zero_le _) (by omega) (by omega)
  have hsz : (⟨l.toArray⟩ : ByteArray).size = l.length := by show l.toArray.size = _; simp
  cases hq : Tm.read l 1501 0 with
  | none =>
    have hfin : Tm.parse l = none := by simp [Tm.parse, hq]
    have H := Lib.hid hfin
    rw [hq] at hread
    clear hfin hq hrd
    go_enter Tryz.func67, Tryz.ntmps67
    go_wp2_with fail
    refine hread.mono ?_
    rintro e w1 ⟨v1, rfl, hg1, hr1⟩
    clear hr1 hread
    go_wp2_with fail
    go_ret2
    exact ParsePost.no H.out (below_grown hg1) _
  | some p =>
    obtain ⟨t, j⟩ := p
    obtain ⟨zt, hj⟩ := reads_size (Tm.read_sound hq)
    rw [hq] at hread
    have hpf : Tm.parse l = if j = l.length ∧ t.fits = true then some t else none := by simp only [Tm.parse, hq]
    have HP := Lib.hid hpf
    clear hpf hq hrd
    by_cases hje : j = l.length
    · have hd : decide (j = l.length) = true := by simp [hje]
      cases hf : t.fits with
      | true =>
        have H := Lib.hid (show Tm.parse l = some t by rw [HP.out, hje, hf]; simp)
        have HF := Lib.hid hf
        clear hf HP
        go_enter Tryz.func67, Tryz.ntmps67
        go_wp2_with fail
        refine hread.mono ?_
        rintro e w1 ⟨v1, rfl, hg1, hr1⟩
        obtain ⟨hr1, ht1⟩ := hr1 t j rfl
        have hend := ended_any w1 _ j l (cell_of_heap hr1) (cell_of_heap hr1) hl
        rw [hd] at hend
        have hfit := fun m => fits_any (w1.drewN m) _ t v1 (TV.same (w := w1) (w' := w1.drewN m) (fun _ _ _ => rfl) ht1)
        rw [HF.out] at hfit
        clear hread hd
        go_wp2_with fail
        refine hend.mono ?_
        rintro e w3 ⟨rfl, m, rfl⟩
        go_wp2_with (go_at_call 84; refine (hfit _).mono ?_; rintro e w2 ⟨rfl, hb2⟩)
        go_ret2
        have hb2' : Below w1.heap.size w1 w2 := (below_drews (Below.refl _ _) m).trans hb2
        refine ⟨_, by rw [H.out]; rfl, (below_grown hg1).trans (hb2'.mono (Nat.le_of_lt (Rd.lt hr1))), fun t' he => ?_⟩
        rw [H.out] at he
        obtain rfl := Option.some.inj he
        exact (ht1.less (by omega)).below hb2'
      | false =>
        have H := Lib.hid (show Tm.parse l = none by rw [HP.out, hf]; simp)
        have HF := Lib.hid hf
        clear hf HP
        go_enter Tryz.func67, Tryz.ntmps67
        go_wp2_with fail
        refine hread.mono ?_
        rintro e w1 ⟨v1, rfl, hg1, hr1⟩
        obtain ⟨hr1, ht1⟩ := hr1 t j rfl
        have hend := ended_any w1 _ j l (cell_of_heap hr1) (cell_of_heap hr1) hl
        rw [hd] at hend
        have hfit := fun m => fits_any (w1.drewN m) _ t v1 (TV.same (w := w1) (w' := w1.drewN m) (fun _ _ _ => rfl) ht1)
        rw [HF.out] at hfit
        clear hread hd
        go_wp2_with fail
        refine hend.mono ?_
        rintro e w3 ⟨rfl, m, rfl⟩
        go_wp2_with (go_at_call 84; refine (hfit _).mono ?_; rintro e w2 ⟨rfl, hb2⟩)
        go_ret2
        have hb2' : Below w1.heap.size w1 w2 := (below_drews (Below.refl _ _) m).trans hb2
        exact ParsePost.no H.out ((below_grown hg1).trans (hb2'.mono (Nat.le_of_lt (Rd.lt hr1)))) _
    · have H := Lib.hid (show Tm.parse l = none by rw [HP.out]; simp [hje])
      have hd : decide (j = l.length) = false := by simp [hje]
      clear HP
      go_enter Tryz.func67, Tryz.ntmps67
      go_wp2_with fail
      refine hread.mono ?_
      rintro e w1 ⟨v1, rfl, hg1, hr1⟩
      obtain ⟨hr1, ht1⟩ := hr1 t j rfl
      have hend := ended_any w1 _ j l (cell_of_heap hr1) (cell_of_heap hr1) hl
      rw [hd] at hend
      clear hread hd
      go_wp2_with fail
      refine hend.mono ?_
      rintro e w3 ⟨rfl, m, rfl⟩
      go_wp2_with fail
      go_ret2
      exact ParsePost.no H.out (below_drews (below_grown hg1) _) _
end Go.Proofs.YtidpkmkhcomcdaaGreat

namespace Go.Proofs.YtidpkmkhcomcdaaGreat
open Go.RowKit

set_option maxHeartbeats 400000
set_option maxRecDepth 100000

def place : Option (Tm × Nat) → Int
  | some (_, j) => (j : Nat)
  | none => -1

def SReadPost (w : World) (r : Option (Tm × Nat)) (e : Ending) (w' : World) : Prop :=
  ∃ s ao n c, e = .returned (.tuple #[.agg #[str s, .slice ao n c], .int .i64 (place r)]) ∧ After w w' ∧ ∀ t j, r = some (t, j) → ST w' t (.agg #[str s, .slice ao n c])

theorem box2 {w W : World} {x y : Value} {T : TypeId} (h : After (w.alloc (.cells #[x, y] T)) W) :
    W.cell? ⟨w.heap.size, 0, none⟩ = some x ∧ W.cell? ⟨w.heap.size, 1, none⟩ = some y ∧ W.frozen? ⟨w.heap.size, 0, none⟩ = false ∧ W.frozen? ⟨w.heap.size, 1, none⟩ = false ∧ w.heap.size < W.heap.size := by
  have hh := h.heap (heap_new' w (.cells #[x, y] T))
  refine ⟨cell_of_heap hh, cell_of_heap hh, by simp [World.frozen?, hh], by simp [World.frozen?, hh], (Array.getElem?_eq_some_iff.1 hh).1⟩

theorem byte_ne_lit' (x : UInt8) (n : Int) (c : UInt8) (hn : n = (c.toNat : Nat)) (_h : c = c) : ((x.toNat : Int) != n) = (x != c) := by
  subst hn; exact byte_ne x c

theorem ST_atom (w : World) (t : Tm) (h : t.depth = 0) : ST w t (.agg #[str t.text, .slice none 0 0]) := by
  cases t with
  | app f a => simp [Tm.depth] at h
  | k => rfl
  | s => rfl
  | nm n => rfl

theorem After.set {w W : World} {o : Obj} (h : After (w.alloc o) W) (i : Nat) (v : Value) : After w (W.setCell ⟨w.heap.size, i, none⟩ v) :=
  Below.setCell ((After.new w o).trans h) (Nat.le_refl _) v

theorem After.set2 {w W : World} {o : Obj} (h : After (w.alloc o) W) {i j : Nat} {v u : Value} : After w ((W.setCell ⟨w.heap.size, i, none⟩ v).setCell ⟨w.heap.size, j, none⟩ u) :=
  Below.setCell (h.set i v) (Nat.le_refl _) u

theorem SReadPost.no {w w' : World} {r : Option (Tm × Nat)} (hr : r = none) (hb : After w w') : SReadPost w r (.returned (.tuple #[.agg #[.string ⟨#[]⟩, .slice none 0 0], .int .i64 (-1)])) w' :=
  ⟨[], none, 0, 0, by rw [hr]; rfl, hb, fun t j he => by rw [hr] at he; simp at he⟩

theorem heap_new2 (W : World) (n : Nat) (o p : Obj) (h : W.heap.size = n) : ((W.alloc o).alloc p).heap[n + 1]? = some p := by
  have := heap_new' (W.alloc o) p
  rw [show (W.alloc o).heap.size = n + 1 by simp [h]] at this
  exact this

theorem ST.kept {W W' : World} (hk : ∀ (g : Nat) (cs : Array Value) (T : TypeId) (fr : Nat × Nat), cs.size = 4 → W.heap[g]? = some (.cells cs T fr) → W'.heap[g]? = some (.cells cs T fr)) : ∀ {t : Tm} {v : Value}, ST W t v → ST W' t v
  | .k, _, h => h
  | .s, _, h => h
  | .nm _, _, h => h
  | .app _ _, _, ⟨g, cap, fr, s0, p0, s1, p1, hv, hh, hf, ha⟩ => ⟨g, cap, fr, s0, p0, s1, p1, hv, hk _ _ _ _ rfl hh, hf.kept hk, ha.kept hk⟩

theorem ST.sets {w W : World} {x y u u' : Value} {T : TypeId} {t : Tm} {v : Value} (h : ST W t v) (hb : After (w.alloc (.cells #[x, y] T)) W) {i j : Nat} : ST ((W.setCell ⟨w.heap.size, i, none⟩ u).setCell ⟨w.heap.size, j, none⟩ u') t v := by
  have hh := hb.heap (heap_new' w (.cells #[x, y] T))
  refine h.kept fun g cs T' fr hs hg => ?_
  have hne : g ≠ w.heap.size := by
    rintro rfl
    rw [hh] at hg
    injection hg with hg
    injection hg with hg _ _
    subst hg
    simp at hs
  rw [Below.heap_setCell _ _ _ _ hne, Below.heap_setCell _ _ _ _ hne]
  exact hg

set_option maxHeartbeats 8000000 in
theorem s_read (l : List UInt8) (hl : l.length ≤ 1000000000) : ∀ (d : Nat) (i a : Int) (k : Nat) (w : World), i = k → k ≤ l.length → a + d = 1501 → d ≤ 1501 →
    Calls Tryz.prog 97 #[str l, .int .i64 i, .int .i64 a] w (SReadPost w (Tm.mread l d k)) := by
  intro d
  induction d with
  | zero =>
    intro i a k w hi hk ha _
    subst hi
    have h1 : (1500 : Int) < a := by omega
    clear ha
    go_enter Tryz.func97, Tryz.ntmps97
    go_wp2_with fail
    exact bodyPost_ret (v := .tuple #[.agg #[.string ⟨#[]⟩, .slice none 0 0], .int .i64 (-1)]) (by simp [results, Tryz.results97, go_sem]) rfl (SReadPost.no rfl (After.new _ _))
  | succ d ih =>
    intro i a k w hi hk ha hd
    subst hi
    have h1 : a ≤ 1500 := by omega
    have h2 : 0 ≤ a := by omega
    have hsz : (⟨l.toArray⟩ : ByteArray).size = l.length := by show l.toArray.size = _; simp
    by_cases hlen : l.length ≤ k
    · have hfin : Tm.mread l (d + 1) k = none := by simp [Tm.mread, hlen]
      rw [hfin]
      clear hfin ih ha
      go_enter Tryz.func97, Tryz.ntmps97
      go_wp2_with fail
      exact bodyPost_ret (v := .tuple #[.agg #[.string ⟨#[]⟩, .slice none 0 0], .int .i64 (-1)]) (by simp [results, Tryz.results97, go_sem]) rfl (SReadPost.no rfl (After.new _ _))
    · have hlt : k < l.length := by omega
      have hatk := byte_at l k hlt (by rw [hsz]; exact hlt)
      have hget : l[k]? = some l[k] := List.getElem?_eq_getElem hlt
      have h40e : ((((⟨l.toArray⟩ : ByteArray)[k]'(by rw [hsz]; exact hlt)).toNat : Int) != 40) = (l[k] != (40 : UInt8)) := by
        rw [hatk]; exact byte_ne_lit l[k] 40 (by omega)
      by_cases h40 : l[k] = 40
      · have hne : (l[k] != (40 : UInt8)) = false := by simpa using h40
        rw [hne] at h40e
        have h0 : l[k]? = some 40 := by rw [hget, h40]
        have HA := Lib.hid ha
        have HIH := Lib.hid ih
        have call1 : ∀ W, Calls Tryz.prog 97 #[str l, .int .i64 ((k : Int) + 1), .int .i64 (a + 1)] W (SReadPost W (Tm.mread l d (k + 1))) := fun W => ih _ _ (k + 1) W (by omega) (by omega) (by omega) (by omega)
        clear hne h40 hget hatk ha ih
        cases hf : Tm.mread l d (k + 1) with
        | none =>
          have hfin : Tm.mread l (d + 1) k = none := by simp [Tm.mread, hlen, h0, hf]
          rw [hfin]
          rw [hf] at call1
          clear hfin hf h0 hlen
          go_enter Tryz.func97, Tryz.ntmps97
          go_wp2_with fail
          refine (call1 _).mono ?_
          rintro e w1 ⟨s1, ao1, n1, c1, rfl, hb1, ht1⟩
          clear ht1 call1
          obtain ⟨r0, r1, f0, f1, hz⟩ := box2 hb1
          have hpl : place none = -1 := rfl
          go_wp2_with fail
          exact bodyPost_ret (v := .tuple #[.agg #[.string ⟨#[]⟩, .slice none 0 0], .int .i64 (-1)]) (by simp [results, Tryz.results97, go_sem, r0, r1, hz]) rfl (SReadPost.no rfl (After.alloc (After.set2 hb1) _))
        | some p =>
          obtain ⟨f, j⟩ := p
          obtain ⟨zf, hj⟩ := reads_size (Tm.mread_sound hf)
          rw [hf] at call1
          have hpl : place (some (f, j)) = (j : Int) := rfl
          by_cases h32 : l[j]? = some 32
          · obtain ⟨jlt, hjv⟩ := List.getElem?_eq_some_iff.1 h32
            have hatj : ((((⟨l.toArray⟩ : ByteArray)[j]'(by rw [hsz]; exact jlt)).toNat : Int) != 32) = false := by
              rw [byte_at l j jlt, byte_ne_lit' l[j] 32 32 rfl rfl, hjv]; rfl
            have call2 : ∀ W, Calls Tryz.prog 97 #[str l, .int .i64 ((j : Int) + 1), .int .i64 (a + 1)] W (SReadPost W (Tm.mread l d (j + 1))) := fun W => HIH.out _ _ (j + 1) W (by omega) (by omega) (by have := HA.out; omega) (by omega)
            cases hq : Tm.mread l d (j + 1) with
            | none =>
              have H := Lib.hid (show Tm.mread l (d + 1) k = none by simp [Tm.mread, hlen, h0, hf, h32, hq])
              rw [hq] at call2
              have hpl2 : place none = -1 := rfl
              clear hq hf h32 h0 hlen hjv
              go_enter Tryz.func97, Tryz.ntmps97
              go_wp2_with fail
              refine (call1 _).mono ?_
              rintro e w1 ⟨s1, ao1, n1, c1, rfl, hb1, ht1⟩
              have ht1' := Lib.hid (ht1 f _ rfl)
              clear ht1 call1
              obtain ⟨r0, r1, f0, f1, hz⟩ := box2 hb1
              go_wp2_with fail
              refine (call2 _).mono ?_
              rintro e w2 ⟨s2, ao2, n2, c2, rfl, hb2, ht2⟩
              have hb12 : After (w.alloc (.cells #[.string ⟨#[]⟩, .slice none 0 0] 53)) w2 := (After.alloc hb1 _).trans hb2
              clear r0 r1 f0 f1 hz call2
              obtain ⟨r0, r1, f0, f1, hz⟩ := box2 hb12
              clear ht2
              go_wp2_with fail
              exact bodyPost_ret (v := .tuple #[.agg #[.string ⟨#[]⟩, .slice none 0 0], .int .i64 (-1)]) (by simp [results, Tryz.results97, go_sem, r0, r1, hz]) rfl (SReadPost.no H.out (After.alloc (After.set2 hb12) _))
            | some p =>
              obtain ⟨g, m⟩ := p
              obtain ⟨zg, hm⟩ := reads_size (Tm.mread_sound hq)
              rw [hq] at call2
              have hpl2 : place (some (g, m)) = (m : Int) := rfl
              by_cases h41 : l[m]? = some 41
              · obtain ⟨mlt, hmv⟩ := List.getElem?_eq_some_iff.1 h41
                have hatm : ((((⟨l.toArray⟩ : ByteArray)[m]'(by rw [hsz]; exact mlt)).toNat : Int) != 41) = false := by
                  rw [byte_at l m mlt, byte_ne_lit' l[m] 41 41 rfl rfl, hmv]; rfl
                have H := Lib.hid (show Tm.mread l (d + 1) k = some (f.app g, m + 1) by simp [Tm.mread, hlen, h0, hf, h32, hq, h41])
                clear hq hf h32 h0 hlen hjv h41 hmv
                go_enter Tryz.func97, Tryz.ntmps97
                go_wp2_with fail
                refine (call1 _).mono ?_
                rintro e w1 ⟨s1, ao1, n1, c1, rfl, hb1, ht1⟩
                have ht1' := Lib.hid (ht1 f _ rfl)
                clear ht1 call1
                obtain ⟨r0, r1, f0, f1, hz⟩ := box2 hb1
                go_wp2_with fail
                refine (call2 _).mono ?_
                rintro e w2 ⟨s2, ao2, n2, c2, rfl, hb2, ht2⟩
                have hb12 : After (w.alloc (.cells #[.string ⟨#[]⟩, .slice none 0 0] 53)) w2 := (After.alloc hb1 _).trans hb2
                clear r0 r1 f0 f1 hz call2
                obtain ⟨r0, r1, f0, f1, hz⟩ := box2 hb12
                have ht2' := Lib.hid (ht2 g m rfl)
                clear ht2
                have a1 : w2.cell? ⟨w1.heap.size, 0, none⟩ = some (str s1) ∧ w2.cell? ⟨w1.heap.size, 1, none⟩ = some (.slice ao1 n1 c1) ∧ w1.heap.size < w2.heap.size := by
                  obtain ⟨q0, q1, _, _, q4⟩ := box2 hb2
                  exact ⟨q0, q1, q4⟩
                obtain ⟨q0, q1, q4⟩ := a1
                go_wp2_with fail
                refine bodyPost_ret (v := .tuple #[.agg #[.string ⟨#[]⟩, .slice (some ⟨w2.heap.size + 1, 0, none⟩) 2 2], .int .i64 ((m : Int) + 1)]) (by simp [results, Tryz.results97, go_sem, r0, r1, hz]) rfl ?_
                refine ⟨[], some ⟨w2.heap.size + 1, 0, none⟩, 2, 2, by rw [H.out]; rfl, After.alloc (After.alloc (After.set2 hb12) _) _, fun t j' he => ?_⟩
                rw [H.out] at he
                simp only [Option.some.injEq, Prod.mk.injEq] at he
                obtain ⟨rfl, rfl⟩ := he
                have k1 := (((ht1'.out.later ((After.new w1 _).trans hb2)).sets (i := 0) (j := 1) (u := .string ⟨#[]⟩) (u' := .slice (some ⟨w2.heap.size + 1, 0, none⟩) 2 2) hb12).later (After.new _ (.cells #[.string ⟨s2.toArray⟩, .slice ao2 n2 c2] 53))).later (After.new _ (.cells #[str s1, .slice ao1 n1 c1, .string ⟨s2.toArray⟩, .slice ao2 n2 c2] 53))
                have k2 := ((ht2'.out.sets (i := 0) (j := 1) (u := .string ⟨#[]⟩) (u' := .slice (some ⟨w2.heap.size + 1, 0, none⟩) 2 2) hb12).later (After.new _ (.cells #[.string ⟨s2.toArray⟩, .slice ao2 n2 c2] 53))).later (After.new _ (.cells #[str s1, .slice ao1 n1 c1, .string ⟨s2.toArray⟩, .slice ao2 n2 c2] 53))
                refine ⟨w2.heap.size + 1, 2, (0, 0), _, _, _, _, rfl, ?_, k1, k2⟩
                exact heap_new2 _ _ _ _ (by simp [World.setCell])
              · have H := Lib.hid (show Tm.mread l (d + 1) k = none by simp [Tm.mread, hlen, h0, hf, h32, hq, h41])
                by_cases hml : m = l.length
                · subst hml
                  clear hq hf h32 h0 hlen hjv h41
                  go_enter Tryz.func97, Tryz.ntmps97
                  go_wp2_with fail
                  refine (call1 _).mono ?_
                  rintro e w1 ⟨s1, ao1, n1, c1, rfl, hb1, ht1⟩
                  have ht1' := Lib.hid (ht1 f _ rfl)
                  clear ht1 call1
                  obtain ⟨r0, r1, f0, f1, hz⟩ := box2 hb1
                  go_wp2_with fail
                  refine (call2 _).mono ?_
                  rintro e w2 ⟨s2, ao2, n2, c2, rfl, hb2, ht2⟩
                  have hb12 : After (w.alloc (.cells #[.string ⟨#[]⟩, .slice none 0 0] 53)) w2 := (After.alloc hb1 _).trans hb2
                  clear r0 r1 f0 f1 hz call2
                  obtain ⟨r0, r1, f0, f1, hz⟩ := box2 hb12
                  clear ht2
                  go_wp2_with fail
                  exact bodyPost_ret (v := .tuple #[.agg #[.string ⟨#[]⟩, .slice none 0 0], .int .i64 (-1)]) (by simp [results, Tryz.results97, go_sem, r0, r1, hz]) rfl (SReadPost.no H.out (After.alloc (After.set2 hb12) _))
                · have mlt : m < l.length := by omega
                  have hatm : ((((⟨l.toArray⟩ : ByteArray)[m]'(by rw [hsz]; exact mlt)).toNat : Int) != 41) = true := by
                    rw [byte_at l m mlt, byte_ne_lit' l[m] 41 41 rfl rfl]
                    rw [List.getElem?_eq_getElem mlt] at h41
                    simpa using h41
                  clear hq hf h32 h0 hlen hjv h41
                  go_enter Tryz.func97, Tryz.ntmps97
                  go_wp2_with fail
                  refine (call1 _).mono ?_
                  rintro e w1 ⟨s1, ao1, n1, c1, rfl, hb1, ht1⟩
                  have ht1' := Lib.hid (ht1 f _ rfl)
                  clear ht1 call1
                  obtain ⟨r0, r1, f0, f1, hz⟩ := box2 hb1
                  go_wp2_with fail
                  refine (call2 _).mono ?_
                  rintro e w2 ⟨s2, ao2, n2, c2, rfl, hb2, ht2⟩
                  have hb12 : After (w.alloc (.cells #[.string ⟨#[]⟩, .slice none 0 0] 53)) w2 := (After.alloc hb1 _).trans hb2
                  clear r0 r1 f0 f1 hz call2
                  obtain ⟨r0, r1, f0, f1, hz⟩ := box2 hb12
                  clear ht2
                  go_wp2_with fail
                  exact bodyPost_ret (v := .tuple #[.agg #[.string ⟨#[]⟩, .slice none 0 0], .int .i64 (-1)]) (by simp [results, Tryz.results97, go_sem, r0, r1, hz]) rfl (SReadPost.no H.out (After.alloc (After.set2 hb12) _))
          · have H := Lib.hid (show Tm.mread l (d + 1) k = none by simp [Tm.mread, hlen, h0, hf, h32])
            by_cases hjl : j = l.length
            · subst hjl
              clear hf h32 h0 hlen
              go_enter Tryz.func97, Tryz.ntmps97
              go_wp2_with fail
              refine (call1 _).mono ?_
              rintro e w1 ⟨s1, ao1, n1, c1, rfl, hb1, ht1⟩
              have ht1' := Lib.hid (ht1 f _ rfl)
              clear ht1 call1
              obtain ⟨r0, r1, f0, f1, hz⟩ := box2 hb1
              go_wp2_with fail
              exact bodyPost_ret (v := .tuple #[.agg #[.string ⟨#[]⟩, .slice none 0 0], .int .i64 (-1)]) (by simp [results, Tryz.results97, go_sem, r0, r1, hz]) rfl (SReadPost.no H.out (After.alloc (After.set2 hb1) _))
            · have jlt : j < l.length := by omega
              have hatj : ((((⟨l.toArray⟩ : ByteArray)[j]'(by rw [hsz]; exact jlt)).toNat : Int) != 32) = true := by
                rw [byte_at l j jlt, byte_ne_lit' l[j] 32 32 rfl rfl]
                rw [List.getElem?_eq_getElem jlt] at h32
                simpa using h32
              clear hf h32 h0 hlen
              go_enter Tryz.func97, Tryz.ntmps97
              go_wp2_with fail
              refine (call1 _).mono ?_
              rintro e w1 ⟨s1, ao1, n1, c1, rfl, hb1, ht1⟩
              have ht1' := Lib.hid (ht1 f _ rfl)
              clear ht1 call1
              obtain ⟨r0, r1, f0, f1, hz⟩ := box2 hb1
              go_wp2_with fail
              exact bodyPost_ret (v := .tuple #[.agg #[.string ⟨#[]⟩, .slice none 0 0], .int .i64 (-1)]) (by simp [results, Tryz.results97, go_sem, r0, r1, hz]) rfl (SReadPost.no H.out (After.alloc (After.set2 hb1) _))
      · have hne : (l[k] != (40 : UInt8)) = true := by simpa using h40
        rw [hne] at h40e
        have hend := Tm.atomEnd_le l k hk
        have hat := s_atom w l k hl hk
        have hat' := fun W => s_atom W l k hl hk
        obtain ⟨m, hm⟩ : ∃ m, m = Tm.atomEnd l k := ⟨_, rfl⟩
        have hword : (⟨l.toArray⟩ : ByteArray).extract k m = ⟨((l.drop k).take (m - k)).toArray⟩ := bytes_ext l k m
        have hmr : Tm.mread l (d + 1) k = match Tm.mkAtom ((l.drop k).take (m - k)) with | some t => some (t, m) | none => none := by
          rw [hm]; simp [Tm.mread, hlen, hget, h40]; rfl
        rw [← hm] at hend hat'
        obtain ⟨x, hx⟩ : ∃ x, x = (l.drop k).take (m - k) := ⟨_, rfl⟩
        rw [← hx] at hword hmr
        have hxl : x.length ≤ 1000000000 := by rw [hx]; simp; omega
        have hname := fun W => s_name W x hxl
        have HM := Lib.hid hmr
        clear hmr hx hm hat hne h40 hatk hget ih hlen ha
        obtain ⟨hm1, hm2⟩ := hend
        cases hmk : Tm.mkAtom x with
        | none =>
          have hfin : Tm.mread l (d + 1) k = none := by rw [HM.out, hmk]
          have e1 : (x == [107]) = false := by
            rw [beq_eq_false_iff_ne]; rintro rfl; simp [Tm.mkAtom] at hmk
          have e2 : (x == [115]) = false := by
            rw [beq_eq_false_iff_ne]; rintro rfl; simp [Tm.mkAtom] at hmk
          have e3 : Tm.nameOk x = false := by
            cases hq : Tm.nameOk x with
            | false => rfl
            | true => simp only [beq_eq_false_iff_ne, ne_eq] at e1 e2; simp [Tm.mkAtom, e1, e2, hq] at hmk
          rw [e3] at hname
          rw [hfin]
          clear hfin hmk HM e3
          go_enter Tryz.func97, Tryz.ntmps97
          go_wp2_with (first
            | (go_at_call 112; refine (hat' _).mono ?_; rintro e w' ⟨rfl, rfl⟩)
            | (go_at_call 113; refine (hname _).mono ?_; rintro e w' ⟨rfl, rfl⟩))
          exact bodyPost_ret (v := .tuple #[.agg #[.string ⟨#[]⟩, .slice none 0 0], .int .i64 (-1)]) (by simp [results, Tryz.results97, go_sem]) rfl (SReadPost.no rfl (After.new _ _))
        | some t =>
          have hfin : Tm.mread l (d + 1) k = some (t, m) := by rw [HM.out, hmk]
          obtain ⟨ht, _, hd0, _, _⟩ := Tm.mkAtom_sound hmk
          rw [hfin]
          have hpost : ∀ W', After w W' → SReadPost w (some (t, m)) (.returned (.tuple #[.agg #[str x, .slice none 0 0], .int .i64 (m : Nat)])) W' := fun W' hb =>
            ⟨x, none, 0, 0, rfl, hb, fun t' j he => by
              simp only [Option.some.injEq, Prod.mk.injEq] at he
              obtain ⟨rfl, rfl⟩ := he
              rw [← ht]
              exact ST_atom _ _ hd0⟩
          have HP := Lib.hid hpost
          clear hpost
          by_cases e1 : x = [107]
          · subst e1
            clear hfin hmk HM hname ht hd0
            go_enter Tryz.func97, Tryz.ntmps97
            go_wp2_with (go_at_call 112; refine (hat' _).mono ?_; rintro e w' ⟨rfl, rfl⟩)
            exact bodyPost_ret (v := .tuple #[.agg #[str [107], .slice none 0 0], .int .i64 (m : Nat)]) (by simp [results, Tryz.results97, go_sem]) rfl (HP.out _ (After.new _ _))
          · by_cases e2 : x = [115]
            · subst e2
              clear hfin hmk HM hname ht hd0 e1
              go_enter Tryz.func97, Tryz.ntmps97
              go_wp2_with (go_at_call 112; refine (hat' _).mono ?_; rintro e w' ⟨rfl, rfl⟩)
              exact bodyPost_ret (v := .tuple #[.agg #[str [115], .slice none 0 0], .int .i64 (m : Nat)]) (by simp [results, Tryz.results97, go_sem]) rfl (HP.out _ (After.new _ _))
            · have e3 : Tm.nameOk x = true := by
                cases hq : Tm.nameOk x with
                | true => rfl
                | false => simp [Tm.mkAtom, e1, e2, hq] at hmk
              rw [e3] at hname
              have n1 : (x == [107]) = false := beq_eq_false_iff_ne.2 e1
              have n2 : (x == [115]) = false := beq_eq_false_iff_ne.2 e2
              clear hfin hmk HM ht hd0 e1 e2 e3
              go_enter Tryz.func97, Tryz.ntmps97
              go_wp2_with (first
                | (go_at_call 112; refine (hat' _).mono ?_; rintro e w' ⟨rfl, rfl⟩)
                | (go_at_call 113; refine (hname _).mono ?_; rintro e w' ⟨rfl, rfl⟩))
              exact bodyPost_ret (v := .tuple #[.agg #[str x, .slice none 0 0], .int .i64 (m : Nat)]) (by simp [results, Tryz.results97, go_sem]) rfl (HP.out _ (After.new _ _))
end Go.Proofs.YtidpkmkhcomcdaaGreat

namespace Go.Proofs.YtidpkmkhcomcdaaGreat
open Go.RowKit

set_option maxHeartbeats 4000000
set_option maxRecDepth 100000

def TreePost (w : World) (t : Tm) (e : Ending) (w' : World) : Prop :=
  ∃ s ao n c, e = .returned (.agg #[str s, .slice ao n c]) ∧ After w w' ∧ ST w' t (.agg #[str s, .slice ao n c])

theorem s_app (w : World) (f a : Tm) (s1 s2 : List UInt8) (a1 a2 : Option Addr) (n1 c1 n2 c2 g : Nat) (fr : Nat × Nat) (hf : ST w f (.agg #[str s1, .slice a1 n1 c1])) (ha : ST w a (.agg #[str s2, .slice a2 n2 c2]))
    (hg : w.heap[g]? = some (.cells #[str s2, .slice a2 n2 c2] 53 fr)) :
    Calls Tryz.prog 78 #[.agg #[str s1, .slice a1 n1 c1], .slice (some ⟨g, 0, none⟩) 1 1] w (TreePost w (f.app a)) := by
  have k0 : w.cell? ⟨g, 0, none⟩ = some (str s2) := cell_of_heap hg
  have k1 : w.cell? ⟨g, 1, none⟩ = some (.slice a2 n2 c2) := cell_of_heap hg
  have hlt := (Array.getElem?_eq_some_iff.1 hg).1
  have HF := Lib.hid hf
  have HA := Lib.hid ha
  clear hf ha hg
  go_enter Tryz.func78, Tryz.ntmps78
  go_wp2_with fail
  refine wp_loop_rounds 2 ?_
  rw [rounds_succ]
  go_wp2_with fail
  go_region
  go_wp2_with fail
  rw [rounds_succ]
  go_wp2_with fail
  have hx := ((After.new w (.cells #[.string ⟨#[]⟩, .slice (some ⟨w.heap.size + 1 + 1, 0, none⟩) 2 2] 53)).alloc (.cells #[.string ⟨#[]⟩, .slice (some ⟨w.heap.size + 1 + 1, 0, none⟩) 2 2] 53)).alloc (.cells #[str s1, .slice a1 n1 c1, str s2, .slice a2 n2 c2] 53)
  refine bodyPost_ret (v := .agg #[.string ⟨#[]⟩, .slice (some ⟨w.heap.size + 1 + 1, 0, none⟩) 2 2]) (by simp [results, Tryz.results78, go_sem]) rfl ⟨[], some ⟨w.heap.size + 1 + 1, 0, none⟩, 2, 2, rfl, hx.drew, ?_⟩
  exact ⟨w.heap.size + 1 + 1, 2, (0, 0), _, _, _, _, rfl, heap_new2 _ _ _ _ (by simp), HF.out.later hx.drew, HA.out.later hx.drew⟩

def RedexPost (w : World) (r : Option Tm) (e : Ending) (w' : World) : Prop :=
  ∃ s ao n c, e = .returned (.tuple #[.agg #[str s, .slice ao n c], .bool r.isSome]) ∧ After w w' ∧ ∀ u, r = some u → ST w' u (.agg #[str s, .slice ao n c])

theorem RedexPost.no {w w' : World} (hb : After w w') (s : List UInt8) (ao : Option Addr) (n c : Nat) : RedexPost w none (.returned (.tuple #[.agg #[str s, .slice ao n c], .bool false])) w' :=
  ⟨s, ao, n, c, rfl, hb, fun u hu => by simp at hu⟩

/-- W is X but for new blocks and block r. -/
def ButFor (X : World) (r : Nat) (W : World) : Prop := X.heap.size ≤ W.heap.size ∧ ∀ k, k < X.heap.size → k ≠ r → W.heap[k]? = X.heap[k]?

theorem ButFor.cell {X W : World} {r b i : Nat} {v : Value} (h : ButFor X r W) (hr : b ≠ r) (hc : X.cell? ⟨b, i, none⟩ = some v) : W.cell? ⟨b, i, none⟩ = some v := by
  rw [World.cell?_of_block (w := X) (a := ⟨b, i, none⟩) (h.2 b (World.block_lt_of_cell? _ _ hc) hr)]; exact hc
theorem ButFor.alloc {X W : World} {r : Nat} (h : ButFor X r W) (o : Obj) : ButFor X r (W.alloc o) := ⟨by simp; have := h.1; omega, fun k hk hr => by rw [Below.heap_alloc _ _ _ (Nat.lt_of_lt_of_le hk h.1)]; exact h.2 k hk hr⟩
theorem ButFor.after {X W W' : World} {r : Nat} (h : ButFor X r W) (g : After W W') : ButFor X r W' := ⟨Nat.le_trans h.1 g.size, fun k hk hr => by rw [g.block k (Nat.lt_of_lt_of_le hk h.1)]; exact h.2 k hk hr⟩
theorem ButFor.set {X W : World} {r : Nat} (h : ButFor X r W) (i : Nat) (v : Value) : ButFor X r (W.setCell ⟨r, i, none⟩ v) := ⟨by simp [World.setCell]; exact h.1, fun k hk hr => by rw [Below.heap_setCell _ _ _ _ (by simpa using hr)]; exact h.2 k hk hr⟩

theorem After.butFor {X W : World} {r : Nat} (h : After X W) : ButFor X r W := ⟨h.size, fun k hk _ => h.block k hk⟩
theorem ST.sets2 {W : World} {b : Nat} {x y u u' : Value} {T : TypeId} {fr : Nat × Nat} {t : Tm} {v : Value} (h : ST W t v) (hh : W.heap[b]? = some (.cells #[x, y] T fr)) {i j : Nat} : ST ((W.setCell ⟨b, i, none⟩ u).setCell ⟨b, j, none⟩ u') t v := by
  refine h.kept fun g cs T' fr' hs hg => ?_
  have hne : g ≠ b := by
    rintro rfl
    rw [hh] at hg
    injection hg with hg
    injection hg with hg _ _
    subst hg
    simp at hs
  rw [Below.heap_setCell _ _ _ _ hne, Below.heap_setCell _ _ _ _ hne]
  exact hg

theorem heap_old2 (W : World) (o p : Obj) : ((W.alloc o).alloc p).heap[W.heap.size]? = some o := by
  rw [Below.heap_alloc _ _ _ (by simp)]; exact heap_new' W o

theorem heap_new3 (w : World) (a b c : Obj) : (((w.alloc a).alloc b).alloc c).heap[w.heap.size + 1 + 1]? = some c := heap_new2 (w.alloc a) (w.heap.size + 1) b c (by simp)
theorem heap_new4 (w : World) (a b c d : Obj) : ((((w.alloc a).alloc b).alloc c).alloc d).heap[w.heap.size + 1 + 1 + 1]? = some d := heap_new2 ((w.alloc a).alloc b) (w.heap.size + 1 + 1) c d (by simp)

theorem redex_atom (w : World) (x : List UInt8) (ao : Option Addr) (n c : Nat) (hx : x ≠ []) : Calls Tryz.prog 98 #[.agg #[str x, .slice ao n c]] w (RedexPost w none) := by
  have he : x.isEmpty = false := by cases x with | nil => exact absurd rfl hx | cons => rfl
  clear hx
  go_enter Tryz.func98, Tryz.ntmps98
  go_wp2_with fail
  exact bodyPost_ret (v := .tuple #[.agg #[str x, .slice ao n c], .bool false]) (by simp [results, Tryz.results98, go_sem]) rfl (RedexPost.no ((After.new _ _).alloc _) _ _ _ _)

theorem redex_atom2 (w : World) (g1 q1 : Nat) (x1 : List UInt8) (k0 : w.cell? ⟨g1, 0, none⟩ = some (str x1)) (hlt : g1 < w.heap.size) (hx : x1 ≠ []) : Calls Tryz.prog 98 #[.agg #[str [], .slice (some ⟨g1, 0, none⟩) 2 q1]] w (RedexPost w none) := by
  have he : x1.isEmpty = false := by cases x1 with | nil => exact absurd rfl hx | cons => rfl
  clear hx
  go_enter Tryz.func98, Tryz.ntmps98
  go_wp2_with fail
  exact bodyPost_ret (v := .tuple #[.agg #[str [], .slice (some ⟨g1, 0, none⟩) 2 q1], .bool false]) (by simp [results, Tryz.results98, go_sem]) rfl (RedexPost.no ((After.new _ _).alloc _) _ _ _ _)

section
variable (w : World) (g1 q1 g2 q2 : Nat) (y1 x2 y2 : List UInt8) (b1 a2 b2 : Option Addr) (m1 d1 n2 m2 c2 d2 : Nat)
  (k0 : w.cell? ⟨g1, 0, none⟩ = some (str [])) (k1 : w.cell? ⟨g1, 1, none⟩ = some (.slice (some ⟨g2, 0, none⟩) 2 q2)) (k2 : w.cell? ⟨g1, 2, none⟩ = some (str y1)) (k3 : w.cell? ⟨g1, 3, none⟩ = some (.slice b1 m1 d1)) (hlt : g1 < w.heap.size)
  (j0 : w.cell? ⟨g2, 0, none⟩ = some (str x2)) (j1 : w.cell? ⟨g2, 1, none⟩ = some (.slice a2 n2 c2)) (j2 : w.cell? ⟨g2, 2, none⟩ = some (str y2)) (j3 : w.cell? ⟨g2, 3, none⟩ = some (.slice b2 m2 d2)) (hlt2 : g2 < w.heap.size)
include k0 k1 k2 k3 hlt j0 j1 j2 j3 hlt2
theorem redex_k (hx : x2 = [107]) (m : Tm) (hm : ST w m (.agg #[str y2, .slice b2 m2 d2])) : Calls Tryz.prog 98 #[.agg #[str [], .slice (some ⟨g1, 0, none⟩) 2 q1]] w (RedexPost w (some m)) := by
  have _u := And.intro k2 (And.intro k3 j1)
  clear _u
  subst hx
  have u1 : g1 < w.heap.size + 1 := by omega
  have u2 : g1 < w.heap.size + 1 + 1 := by omega
  have u3 : g2 < w.heap.size + 1 := by omega
  have u4 : g2 < w.heap.size + 1 + 1 := by omega
  have HM := Lib.hid hm
  clear hm
  go_enter Tryz.func98, Tryz.ntmps98
  go_wp2_with fail
  have hb : After w (((w.alloc (.cells #[str [], .slice (some ⟨g1, 0, none⟩) 2 q1] 53)).alloc (.cells #[str y2, .slice b2 m2 d2] 53)).alloc (.cells #[str [], .slice (some ⟨g2, 0, none⟩) 2 q2] 53)) := ((After.new _ _).alloc _).alloc _
  exact bodyPost_ret (v := .tuple #[.agg #[str y2, .slice b2 m2 d2], .bool true]) (by simp [results, Tryz.results98, go_sem]) rfl ⟨_, _, _, _, rfl, hb, fun u hu => by obtain rfl := Option.some.inj hu; exact HM.out.later hb⟩

theorem redex_atom3 (hx : x2 ≠ []) (hk : x2 ≠ [107]) : Calls Tryz.prog 98 #[.agg #[str [], .slice (some ⟨g1, 0, none⟩) 2 q1]] w (RedexPost w none) := by
  have _u := And.intro k2 (And.intro k3 (And.intro j1 (And.intro j2 j3)))
  clear _u
  have u1 : g1 < w.heap.size + 1 := by omega
  have u2 : g1 < w.heap.size + 1 + 1 := by omega
  have u3 : g2 < w.heap.size + 1 := by omega
  have u4 : g2 < w.heap.size + 1 + 1 := by omega
  have he : x2.isEmpty = false := by cases x2 with | nil => exact absurd rfl hx | cons => rfl
  have hk' : (x2 == [107]) = false := beq_eq_false_iff_ne.2 hk
  clear hx hk
  go_enter Tryz.func98, Tryz.ntmps98
  go_wp2_with fail
  exact bodyPost_ret (v := .tuple #[.agg #[str [], .slice (some ⟨g1, 0, none⟩) 2 q1], .bool false]) (by simp [results, Tryz.results98, go_sem]) rfl (RedexPost.no (((After.new _ _).alloc _).alloc _) _ _ _ _)
end

section
variable (w : World) (g1 q1 g2 q2 g3 q3 : Nat) (y1 y2 x3 y3 : List UInt8) (b1 b2 a3 b3 : Option Addr) (m1 d1 m2 d2 n3 c3 m3 d3 : Nat)
  (k0 : w.cell? ⟨g1, 0, none⟩ = some (str [])) (k1 : w.cell? ⟨g1, 1, none⟩ = some (.slice (some ⟨g2, 0, none⟩) 2 q2)) (k2 : w.cell? ⟨g1, 2, none⟩ = some (str y1)) (k3 : w.cell? ⟨g1, 3, none⟩ = some (.slice b1 m1 d1)) (hlt : g1 < w.heap.size)
  (j0 : w.cell? ⟨g2, 0, none⟩ = some (str [])) (j1 : w.cell? ⟨g2, 1, none⟩ = some (.slice (some ⟨g3, 0, none⟩) 2 q3)) (j2 : w.cell? ⟨g2, 2, none⟩ = some (str y2)) (j3 : w.cell? ⟨g2, 3, none⟩ = some (.slice b2 m2 d2)) (hlt2 : g2 < w.heap.size)
  (i0 : w.cell? ⟨g3, 0, none⟩ = some (str x3)) (i1 : w.cell? ⟨g3, 1, none⟩ = some (.slice a3 n3 c3)) (i2 : w.cell? ⟨g3, 2, none⟩ = some (str y3)) (i3 : w.cell? ⟨g3, 3, none⟩ = some (.slice b3 m3 d3)) (hlt3 : g3 < w.heap.size)
include k0 k1 k2 k3 hlt j0 j1 j2 j3 hlt2 i0 i1 i2 i3 hlt3
theorem redex_deep (hx : x3 ≠ [115]) : Calls Tryz.prog 98 #[.agg #[str [], .slice (some ⟨g1, 0, none⟩) 2 q1]] w (RedexPost w none) := by
  have _u := And.intro k2 (And.intro k3 (And.intro j2 (And.intro j3 (And.intro i1 (And.intro i2 i3)))))
  clear _u
  have u1 : g1 < w.heap.size + 1 := by omega
  have u2 : g1 < w.heap.size + 1 + 1 := by omega
  have u3 : g2 < w.heap.size + 1 := by omega
  have u4 : g2 < w.heap.size + 1 + 1 := by omega
  have u5 : g3 < w.heap.size + 1 := by omega
  have u6 : g3 < w.heap.size + 1 + 1 := by omega
  have hk' : (x3 == [115]) = false := beq_eq_false_iff_ne.2 hx
  clear hx
  go_enter Tryz.func98, Tryz.ntmps98
  go_wp2_with fail
  exact bodyPost_ret (v := .tuple #[.agg #[str [], .slice (some ⟨g1, 0, none⟩) 2 q1], .bool false]) (by simp [results, Tryz.results98, go_sem]) rfl (RedexPost.no (((After.new _ _).alloc _).alloc _) _ _ _ _)

theorem redex_s (hx : x3 = [115]) (m n p : Tm) (hm : ST w m (.agg #[str y3, .slice b3 m3 d3])) (hn : ST w n (.agg #[str y2, .slice b2 m2 d2])) (hp : ST w p (.agg #[str y1, .slice b1 m1 d1])) :
    Calls Tryz.prog 98 #[.agg #[str [], .slice (some ⟨g1, 0, none⟩) 2 q1]] w (RedexPost w (some ((m.app p).app (n.app p)))) := by
  have _u := And.intro k2 i1
  clear _u
  subst hx
  have u1 : g1 < w.heap.size + 1 := by omega
  have u2 : g1 < w.heap.size + 1 + 1 := by omega
  have u3 : g2 < w.heap.size + 1 := by omega
  have u4 : g2 < w.heap.size + 1 + 1 := by omega
  have u5 : g3 < w.heap.size + 1 := by omega
  have u6 : g3 < w.heap.size + 1 + 1 := by omega
  have v1 : g1 < w.heap.size + 1 + 1 + 1 := by omega
  have v2 : g2 < w.heap.size + 1 + 1 + 1 := by omega
  have v3 : g3 < w.heap.size + 1 + 1 + 1 := by omega
  have HM := Lib.hid hm
  have HN := Lib.hid hn
  have HP := Lib.hid hp
  clear hm hn hp
  go_enter Tryz.func98, Tryz.ntmps98
  go_wp2_with fail
  obtain ⟨X, hX⟩ : ∃ X, X = ((((w.alloc (.cells #[str [], .slice (some ⟨g1, 0, none⟩) 2 q1] 53)).alloc (.cells #[.string ⟨#[]⟩, .slice none 0 0] 53)).alloc (.cells #[str [], .slice (some ⟨g2, 0, none⟩) 2 q2] 53)).alloc (.cells #[str y1, .slice b1 m1 d1] 53)) := ⟨_, rfl⟩
  have hwX : After w X := by rw [hX]; exact (((After.new _ _).alloc _).alloc _).alloc _
  have hF : X.heap[w.heap.size + 1 + 1]? = some (.cells #[str [], .slice (some ⟨g2, 0, none⟩) 2 q2] 53 (0, 0)) := by
    rw [hX, Below.heap_alloc _ _ _ (by simp)]; exact heap_new3 _ _ _ _
  have hP : X.heap[w.heap.size + 1 + 1 + 1]? = some (.cells #[str y1, .slice b1 m1 d1] 53 (0, 0)) := by
    rw [hX]; exact heap_new4 _ _ _ _ _
  have hR : X.heap[w.heap.size + 1]? = some (.cells #[.string ⟨#[]⟩, .slice none 0 0] 53 (0, 0)) := by
    rw [hX, Below.heap_alloc _ _ _ (by simp), Below.heap_alloc _ _ _ (by simp)]; exact heap_new2 _ _ _ _ rfl
  have hsz : X.heap.size = w.heap.size + 1 + 1 + 1 + 1 := by rw [hX]; simp
  have o1 : ∀ W, ButFor X (w.heap.size + 1) W → W.cell? ⟨w.heap.size + 1 + 1, 1, none⟩ = some (.slice (some ⟨g2, 0, none⟩) 2 q2) := fun W hW => hW.cell (by omega) (cell_of_heap hF)
  have o2 : ∀ W, ButFor X (w.heap.size + 1) W → W.cell? ⟨w.heap.size + 1 + 1 + 1, 0, none⟩ = some (str y1) := fun W hW => hW.cell (by omega) (cell_of_heap hP)
  have o3 : ∀ W, ButFor X (w.heap.size + 1) W → W.cell? ⟨w.heap.size + 1 + 1 + 1, 1, none⟩ = some (.slice b1 m1 d1) := fun W hW => hW.cell (by omega) (cell_of_heap hP)
  have o4 : ∀ W, ButFor X (w.heap.size + 1) W → W.cell? ⟨g2, 1, none⟩ = some (.slice (some ⟨g3, 0, none⟩) 2 q3) := fun W hW => hW.cell (by omega) (hwX.cell j1)
  have o5 : ∀ W, ButFor X (w.heap.size + 1) W → W.cell? ⟨g2, 2, none⟩ = some (str y2) := fun W hW => hW.cell (by omega) (hwX.cell j2)
  have o6 : ∀ W, ButFor X (w.heap.size + 1) W → W.cell? ⟨g2, 3, none⟩ = some (.slice b2 m2 d2) := fun W hW => hW.cell (by omega) (hwX.cell j3)
  have o7 : ∀ W, ButFor X (w.heap.size + 1) W → W.cell? ⟨g3, 2, none⟩ = some (str y3) := fun W hW => hW.cell (by omega) (hwX.cell i2)
  have o8 : ∀ W, ButFor X (w.heap.size + 1) W → W.cell? ⟨g3, 3, none⟩ = some (.slice b3 m3 d3) := fun W hW => hW.cell (by omega) (hwX.cell i3)
  have hself := After.refl X
  have hbf : ButFor X (w.heap.size + 1) X.drew := ⟨Nat.le_refl _, fun _ _ _ => rfl⟩
  have hres : ∀ W, After X W → W.cell? ⟨w.heap.size + 1, 0, none⟩ = some (.string ⟨#[]⟩) ∧ W.cell? ⟨w.heap.size + 1, 1, none⟩ = some (.slice none 0 0) ∧ W.frozen? ⟨w.heap.size + 1, 0, none⟩ = false ∧ W.frozen? ⟨w.heap.size + 1, 1, none⟩ = false := fun W hW => by
    have hh := hW.heap hR
    exact ⟨cell_of_heap hh, cell_of_heap hh, by simp [World.frozen?, hh], by simp [World.frozen?, hh]⟩
  rw [← hX]
  have HMX := Lib.hid (HM.out.later hwX)
  have HNX := Lib.hid (HN.out.later hwX)
  have HPX := Lib.hid (HP.out.later hwX)
  have HRES := Lib.hid hres
  have HWX := Lib.hid hwX
  clear hres HM HN HP k0 k1 k2 k3 j0 j1 j2 j3 i0 i1 i2 i3 hF hP hwX u1 u2 u3 u4 u5 u6 v1 v2 v3
  have HR := Lib.hid hR
  have HSZ := Lib.hid hsz
  clear hR hsz hX
  go_region_held3 (fun W' => ButFor X (w.heap.size + 1) W') (first | assumption | exact hbf | exact After.butFor (by assumption) | exact ButFor.alloc (by assumption) _ | exact ButFor.set (ButFor.set (by assumption) _ _) _ _ | go_keep)
    (first
      | (go_at_call_of 78 b3; refine (s_app _ m p y3 y1 b3 b1 m3 d3 m1 d1 _ (0, 0) ?_ ?_ ?_).mono ?_; exact HMX.out.later ((hself.alloc _).drew); exact HPX.out.later ((hself.alloc _).drew); exact heap_new' _ _; rintro e w1 ⟨t1, ao1, nn1, cc1, rfl, hb1, hs1⟩; have hA1 := After.trans ((hself.alloc _).drew) hb1)
      | (go_at_call_of 78 b3; refine (s_app _ m p y3 y1 b3 b1 m3 d3 m1 d1 _ (0, 0) ?_ ?_ ?_).mono ?_; exact HMX.out.later (((hself.alloc _).alloc _).drew); exact HPX.out.later (((hself.alloc _).alloc _).drew); exact heap_new2 _ _ _ _ rfl; rintro e w1 ⟨t1, ao1, nn1, cc1, rfl, hb1, hs1⟩; have hA1 := After.trans (((hself.alloc _).alloc _).drew) hb1)
      | (go_at_call_of 78 b3; refine (s_app _ m p y3 y1 b3 b1 m3 d3 m1 d1 _ (0, 0) ?_ ?_ ?_).mono ?_; exact HMX.out.later (((hself.alloc _).alloc _).drew); exact HPX.out.later (((hself.alloc _).alloc _).drew); exact heap_old2 _ _ _; rintro e w1 ⟨t1, ao1, nn1, cc1, rfl, hb1, hs1⟩; have hA1 := After.trans (((hself.alloc _).alloc _).drew) hb1)
      | (go_at_call_of 78 b2; refine (s_app _ n p y2 y1 b2 b1 m2 d2 m1 d1 _ (0, 0) ?_ ?_ ?_).mono ?_; exact HNX.out.later (hA1.alloc _); exact HPX.out.later (hA1.alloc _); exact heap_new' _ _; rintro e w2 ⟨t2, ao2, nn2, cc2, rfl, hb2, hs2⟩; have hA2 := After.trans (hA1.alloc _) hb2; have hs1' := hs1.later (After.trans (After.new _ _) hb2))
      | (go_at_call_of 78 b2; refine (s_app _ n p y2 y1 b2 b1 m2 d2 m1 d1 _ (0, 0) ?_ ?_ ?_).mono ?_; exact HNX.out.later (hA1); exact HPX.out.later (hA1); exact hb1.heap (heap_new2 _ _ _ _ rfl); rintro e w2 ⟨t2, ao2, nn2, cc2, rfl, hb2, hs2⟩; have hA2 := After.trans (hA1) hb2; have hs1' := hs1.later (After.trans (After.refl _) hb2))
      | (go_at_call_of 78 b2; refine (s_app _ n p y2 y1 b2 b1 m2 d2 m1 d1 _ (0, 0) ?_ ?_ ?_).mono ?_; exact HNX.out.later (hA1); exact HPX.out.later (hA1); exact hb1.heap (heap_old2 _ _ _); rintro e w2 ⟨t2, ao2, nn2, cc2, rfl, hb2, hs2⟩; have hA2 := After.trans (hA1) hb2; have hs1' := hs1.later (After.trans (After.refl _) hb2))
      | (go_at_call_of 78 ao1; refine (s_app _ (m.app p) (n.app p) t1 t2 ao1 ao2 nn1 cc1 nn2 cc2 _ (0, 0) ?_ ?_ ?_).mono ?_; exact hs1'.later (After.new _ _); exact hs2.later (After.new _ _); exact heap_new' _ _; rintro e w3 ⟨t3, ao3, nn3, cc3, rfl, hb3, hs3⟩; have hA3 := After.trans (hA2.alloc _) hb3; obtain ⟨p0, p1, p2, p3⟩ := HRES.out _ hA3))
  all_goals
    go_wp2_with fail
    refine bodyPost_ret (v := .tuple #[.agg #[str t3, .slice ao3 nn3 cc3], .bool true]) (by simp [results, Tryz.results98, go_sem, p0, p1]) rfl ⟨t3, ao3, nn3, cc3, rfl, Below.setCell (Below.setCell (HWX.out.trans hA3) (by simp) _) (by simp) _, fun u hu => ?_⟩
    obtain rfl := Option.some.inj hu
    exact hs3.sets2 (hA3.heap HR.out)
end
end Go.Proofs.YtidpkmkhcomcdaaGreat

namespace Go.Proofs.YtidpkmkhcomcdaaGreat
open Go.RowKit

set_option maxHeartbeats 4000000
set_option maxRecDepth 100000

theorem name_not {n : List UInt8} (h : Tm.nameOk n = true) : n ≠ [] ∧ n ≠ [107] ∧ n ≠ [115] := by
  refine ⟨?_, ?_, ?_⟩ <;> (rintro rfl; revert h; decide)

theorem parts_form {w : World} {t : Tm} {x y : Value} (h : ST w t (.agg #[x, y])) : ∃ s ao n c, x = str s ∧ y = .slice ao n c := by
  obtain ⟨s, ao, n, c, e⟩ := h.form
  simp only [Value.agg.injEq, Array.mk.injEq, List.cons.injEq, and_true] at e
  exact ⟨s, ao, n, c, e.1, e.2⟩

theorem atom_form {w : World} {t : Tm} {s : List UInt8} {y : Value} (h : ST w t (.agg #[str s, y])) (hd : t.depth = 0) : s = t.text := by
  cases t with
  | app f a => simp [Tm.depth] at hd
  | k => simp only [ST, Value.agg.injEq, Array.mk.injEq, List.cons.injEq, and_true, Value.string.injEq, ByteArray.mk.injEq] at h; simpa using h.1
  | s => simp only [ST, Value.agg.injEq, Array.mk.injEq, List.cons.injEq, and_true, Value.string.injEq, ByteArray.mk.injEq] at h; simpa using h.1
  | nm n => simp only [ST, Value.agg.injEq, Array.mk.injEq, List.cons.injEq, and_true, Value.string.injEq, ByteArray.mk.injEq] at h; simpa using h.1

theorem app_form {w : World} {f a : Tm} {s : List UInt8} {y : Value} (h : ST w (f.app a) (.agg #[str s, y])) : s = [] ∧ ∃ g q fr s0 p0 s1 p1, y = .slice (some ⟨g, 0, none⟩) 2 q ∧ w.heap[g]? = some (.cells #[s0, p0, s1, p1] 53 fr) ∧ ST w f (.agg #[s0, p0]) ∧ ST w a (.agg #[s1, p1]) := by
  obtain ⟨g, q, fr, s0, p0, s1, p1, e, hh, hf, ha⟩ := h
  simp only [Value.agg.injEq, Array.mk.injEq, List.cons.injEq, and_true, Value.string.injEq, ByteArray.mk.injEq] at e
  exact ⟨by simpa using e.1, g, q, fr, s0, p0, s1, p1, e.2, hh, hf, ha⟩

theorem s_redex {w : World} {t : Tm} {v : Value} (h : ST w t v) (hg : t.good = true) : Calls Tryz.prog 98 #[v] w (RedexPost w t.redex) := by
  cases t with
  | k => simp only [ST] at h; subst h; exact redex_atom w _ _ _ _ (by simp [Tm.text])
  | s => simp only [ST] at h; subst h; exact redex_atom w _ _ _ _ (by simp [Tm.text])
  | nm n => simp only [ST] at h; subst h; exact redex_atom w _ _ _ _ (Tm.text_ne _ hg)
  | app f a =>
    obtain ⟨g1, q1, fr1, s0, p0, s1, p1, rfl, hh, hf, ha⟩ := h
    obtain ⟨x1, a1, n1, c1, rfl, rfl⟩ := parts_form hf
    obtain ⟨y1, b1, m1, d1, rfl, rfl⟩ := parts_form ha
    have hlt := (Array.getElem?_eq_some_iff.1 hh).1
    simp only [Tm.good, Bool.and_eq_true] at hg
    cases f with
    | k => exact redex_atom2 w g1 q1 x1 (cell_of_heap hh) hlt (by rw [atom_form hf rfl]; simp [Tm.text])
    | s => exact redex_atom2 w g1 q1 x1 (cell_of_heap hh) hlt (by rw [atom_form hf rfl]; simp [Tm.text])
    | nm n => exact redex_atom2 w g1 q1 x1 (cell_of_heap hh) hlt (by rw [atom_form hf rfl]; exact Tm.text_ne _ hg.1)
    | app g m =>
      obtain ⟨rfl, g2, q2, fr2, s2, p2, s3, p3, e2, hh2, hg2, hm⟩ := app_form hf
      injection e2 with e3 e4 e5
      subst e3; subst e4; subst e5
      obtain ⟨x2, a2, n2, c2, rfl, rfl⟩ := parts_form hg2
      obtain ⟨y2, b2, m2, d2, rfl, rfl⟩ := parts_form hm
      have hlt2 := (Array.getElem?_eq_some_iff.1 hh2).1
      have hgg := hg.1
      simp only [Tm.good, Bool.and_eq_true] at hgg
      cases g with
      | k => exact redex_k w g1 q1 g2 _ y1 x2 y2 b1 a2 b2 m1 d1 n2 m2 c2 d2 (cell_of_heap hh) (cell_of_heap hh) (cell_of_heap hh) (cell_of_heap hh) hlt (cell_of_heap hh2) (cell_of_heap hh2) (cell_of_heap hh2) (cell_of_heap hh2) hlt2 (atom_form hg2 rfl) m hm
      | s => exact redex_atom3 w g1 q1 g2 _ y1 x2 y2 b1 a2 b2 m1 d1 n2 m2 c2 d2 (cell_of_heap hh) (cell_of_heap hh) (cell_of_heap hh) (cell_of_heap hh) hlt (cell_of_heap hh2) (cell_of_heap hh2) (cell_of_heap hh2) (cell_of_heap hh2) hlt2 (by rw [atom_form hg2 rfl]; simp [Tm.text]) (by rw [atom_form hg2 rfl]; simp [Tm.text])
      | nm n =>
        have hn := name_not hgg.1
        exact redex_atom3 w g1 q1 g2 _ y1 x2 y2 b1 a2 b2 m1 d1 n2 m2 c2 d2 (cell_of_heap hh) (cell_of_heap hh) (cell_of_heap hh) (cell_of_heap hh) hlt (cell_of_heap hh2) (cell_of_heap hh2) (cell_of_heap hh2) (cell_of_heap hh2) hlt2 (by rw [atom_form hg2 rfl]; exact hn.1) (by rw [atom_form hg2 rfl]; exact hn.2.1)
      | app h x =>
        obtain ⟨rfl, g3, q3, fr3, s4, p4, s5, p5, e2, hh3, hh4, hx⟩ := app_form hg2
        injection e2 with e3 e4 e5
        subst e3; subst e4; subst e5
        obtain ⟨x3, a3, n3, c3, rfl, rfl⟩ := parts_form hh4
        obtain ⟨y3, b3, m3, d3, rfl, rfl⟩ := parts_form hx
        have hlt3 := (Array.getElem?_eq_some_iff.1 hh3).1
        have hggg := hgg.1
        simp only [Tm.good, Bool.and_eq_true] at hggg
        have deep : x3 ≠ [115] → Calls Tryz.prog 98 #[.agg #[str [], .slice (some ⟨g1, 0, none⟩) 2 q1]] w (RedexPost w none) := fun hne =>
          redex_deep w g1 q1 g2 _ g3 _ y1 y2 x3 y3 b1 b2 a3 b3 m1 d1 m2 d2 n3 c3 m3 d3 (cell_of_heap hh) (cell_of_heap hh) (cell_of_heap hh) (cell_of_heap hh) hlt (cell_of_heap hh2) (cell_of_heap hh2) (cell_of_heap hh2) (cell_of_heap hh2) hlt2 (cell_of_heap hh3) (cell_of_heap hh3) (cell_of_heap hh3) (cell_of_heap hh3) hlt3 hne
        cases h with
        | k => exact deep (by rw [atom_form hh4 rfl]; simp [Tm.text])
        | nm n => exact deep (by rw [atom_form hh4 rfl]; exact (name_not hggg.1).2.2)
        | app h1 h2 => obtain ⟨rfl, _⟩ := app_form hh4; exact deep (by simp)
        | s => exact redex_s w g1 q1 g2 _ g3 _ y1 y2 x3 y3 b1 b2 a3 b3 m1 d1 m2 d2 n3 c3 m3 d3 (cell_of_heap hh) (cell_of_heap hh) (cell_of_heap hh) (cell_of_heap hh) hlt (cell_of_heap hh2) (cell_of_heap hh2) (cell_of_heap hh2) (cell_of_heap hh2) hlt2 (cell_of_heap hh3) (cell_of_heap hh3) (cell_of_heap hh3) (cell_of_heap hh3) hlt3 (atom_form hh4 rfl) x m a hx hm ha

def SStepPost (w : World) (t : Tm) (e : Ending) (w' : World) : Prop :=
  ∃ s ao n c, e = .returned (.tuple #[.agg #[str s, .slice ao n c], .bool t.step.isSome]) ∧ After w w' ∧ ST w' (t.step.getD t) (.agg #[str s, .slice ao n c])

theorem box_facts (w : World) (x y : Value) (o : Obj) : ∀ W, After ((w.alloc (.cells #[x, y] 53)).alloc o) W → W.cell? ⟨w.heap.size, 0, none⟩ = some x ∧ W.cell? ⟨w.heap.size, 1, none⟩ = some y ∧ W.frozen? ⟨w.heap.size, 0, none⟩ = false ∧ W.frozen? ⟨w.heap.size, 1, none⟩ = false ∧ w.heap.size + 1 < W.heap.size := fun W hW => by
  have hh := hW.heap (heap_old2 w (.cells #[x, y] 53) o)
  have h2 := hW.heap (heap_new2 w w.heap.size (.cells #[x, y] 53) o rfl)
  exact ⟨cell_of_heap hh, cell_of_heap hh, by simp [World.frozen?, hh], by simp [World.frozen?, hh], (Array.getElem?_eq_some_iff.1 h2).1⟩

theorem box_facts2 (w : World) (x y : Value) (o : Obj) : ∀ W, After ((w.alloc o).alloc (.cells #[x, y] 53)) W → W.heap[w.heap.size + 1]? = some (.cells #[x, y] 53 (0, 0)) ∧ W.cell? ⟨w.heap.size + 1, 0, none⟩ = some x ∧ W.cell? ⟨w.heap.size + 1, 1, none⟩ = some y ∧ W.frozen? ⟨w.heap.size + 1, 0, none⟩ = false ∧ W.frozen? ⟨w.heap.size + 1, 1, none⟩ = false := fun W hW => by
  have hh := hW.heap (heap_new2 w w.heap.size o (.cells #[x, y] 53) rfl)
  exact ⟨hh, cell_of_heap hh, cell_of_heap hh, by simp [World.frozen?, hh], by simp [World.frozen?, hh]⟩

theorem step_redex (w : World) (t u : Tm) (x : List UInt8) (ao : Option Addr) (n c : Nat) (h : ST w t (.agg #[str x, .slice ao n c])) (hg : t.good = true) (hu : t.redex = some u) (hs : t.step = some u) :
    Calls Tryz.prog 75 #[.agg #[str x, .slice ao n c]] w (SStepPost w t) := by
  have hX : After w ((w.alloc (.cells #[str x, .slice ao n c] 53)).alloc (.cells #[.string ⟨#[]⟩, .slice none 0 0] 53)) := (After.new _ _).alloc _
  have hcall := s_redex (h.later hX) hg
  rw [hu] at hcall
  have H := Lib.hid hs
  have HX := Lib.hid hX
  clear hs hu h hX
  go_enter Tryz.func75, Tryz.ntmps75
  go_wp2_with fail
  refine hcall.mono ?_
  rintro e w1 ⟨s1, ao1, n1, c1, rfl, hb1, ht1⟩
  have HT := Lib.hid (ht1 u rfl)
  clear ht1 hcall
  obtain ⟨hr, r0, r1, f0, f1⟩ := box_facts2 w _ _ _ w1 hb1
  have hz := (Array.getElem?_eq_some_iff.1 hr).1
  have HR := Lib.hid hr
  clear hr
  go_wp2_with fail
  refine bodyPost_ret (v := .tuple #[.agg #[str s1, .slice ao1 n1 c1], .bool true]) (by simp [results, Tryz.results75, go_sem, r0, r1, hz]) rfl ⟨s1, ao1, n1, c1, by rw [H.out]; rfl, After.alloc (Below.setCell (Below.setCell (HX.out.trans hb1) (by simp) _) (by simp) _) _, ?_⟩
  rw [H.out]
  exact (HT.out.sets2 HR.out).later (After.new _ _)

theorem step_atom (w : World) (t : Tm) (x : List UInt8) (ao : Option Addr) (n c : Nat) (h : ST w t (.agg #[str x, .slice ao n c])) (hg : t.good = true) (hd : t.depth = 0) :
    Calls Tryz.prog 75 #[.agg #[str x, .slice ao n c]] w (SStepPost w t) := by
  have hX : After w ((w.alloc (.cells #[str x, .slice ao n c] 53)).alloc (.cells #[.string ⟨#[]⟩, .slice none 0 0] 53)) := (After.new _ _).alloc _
  have hcall := s_redex (h.later hX) hg
  have hu : t.redex = none := by cases t with
    | app f a => simp [Tm.depth] at hd
    | _ => rfl
  have hs : t.step = none := by cases t with
    | app f a => simp [Tm.depth] at hd
    | _ => rfl
  have hx : x.isEmpty = false := by
    have := Tm.text_ne t hg
    rw [← atom_form h hd] at this
    cases x with
    | nil => exact absurd rfl this
    | cons => rfl
  rw [hu] at hcall
  have H := Lib.hid hs
  have HX := Lib.hid hX
  have HT := Lib.hid h
  clear hs hu h hX
  go_enter Tryz.func75, Tryz.ntmps75
  go_wp2_with fail
  refine hcall.mono ?_
  rintro e w1 ⟨s1, ao1, n1, c1, rfl, hb1, ht1⟩
  clear ht1 hcall
  obtain ⟨hr, r0, r1, f0, f1⟩ := box_facts2 w _ _ _ w1 hb1
  obtain ⟨p0, p1, _, _, _⟩ := box_facts w _ _ _ w1 hb1
  have hz := (Array.getElem?_eq_some_iff.1 hr).1
  have hz2 : w.heap.size < w1.heap.size := by omega
  have HR := Lib.hid hr
  clear hr
  go_wp2_with fail
  refine bodyPost_ret (v := .tuple #[.agg #[str x, .slice ao n c], .bool false]) (by simp [results, Tryz.results75, go_sem, r0, r1, hz]) rfl ⟨x, ao, n, c, by rw [H.out]; rfl, After.alloc (Below.setCell (Below.setCell (HX.out.trans hb1) (by simp) _) (by simp) _) _, ?_⟩
  rw [H.out]
  exact ((HT.out.later (HX.out.trans hb1)).sets2 HR.out).later (After.new _ _)
end Go.Proofs.YtidpkmkhcomcdaaGreat

namespace Go.Proofs.YtidpkmkhcomcdaaGreat
open Go.RowKit

set_option maxHeartbeats 4000000
set_option maxRecDepth 100000

theorem step_fun (w : World) (f a : Tm) (g1 q1 : Nat) (x1 y1 : List UInt8) (a1 b1 : Option Addr) (n1 c1 m1 d1 : Nat) (fr : Nat × Nat) (hh : w.heap[g1]? = some (.cells #[str x1, .slice a1 n1 c1, str y1, .slice b1 m1 d1] 53 fr))
    (hf : ST w f (.agg #[str x1, .slice a1 n1 c1])) (ha : ST w a (.agg #[str y1, .slice b1 m1 d1])) (hg : (f.app a).good = true) (hr : (f.app a).redex = none)
    (ihf : ∀ W, After w W → Calls Tryz.prog 75 #[.agg #[str x1, .slice a1 n1 c1]] W (SStepPost W f)) (u : Tm) (hu : f.step = some u) :
    Calls Tryz.prog 75 #[.agg #[str [], .slice (some ⟨g1, 0, none⟩) 2 q1]] w (SStepPost w (f.app a)) := by
  have hs : (f.app a).step = some (u.app a) := by simp [Tm.step, hr, hu]
  have H := Lib.hid hs
  have HU := Lib.hid hu
  have hsome : f.step.isSome = true := by rw [hu]; rfl
  clear hs hu
  have hX : After w ((w.alloc (.cells #[str [], .slice (some ⟨g1, 0, none⟩) 2 q1] 53)).alloc (.cells #[.string ⟨#[]⟩, .slice none 0 0] 53)) := (After.new _ _).alloc _
  have htree : ST w (f.app a) (.agg #[str [], .slice (some ⟨g1, 0, none⟩) 2 q1]) := ⟨g1, q1, fr, _, _, _, _, rfl, hh, hf, ha⟩
  have hcall := s_redex (htree.later hX) hg
  rw [hr] at hcall
  have HX := Lib.hid hX
  have HF := Lib.hid hf
  have HA := Lib.hid ha
  have HH := Lib.hid hh
  have hlt := (Array.getElem?_eq_some_iff.1 hh).1
  clear hr hX htree hf ha
  go_enter Tryz.func75, Tryz.ntmps75
  go_wp2_with fail
  refine hcall.mono ?_
  rintro e w1 ⟨s1, ao1, nn1, cc1, rfl, hb1, ht1⟩
  clear ht1 hcall
  obtain ⟨p0, p1, _, _, hz⟩ := box_facts w _ _ _ w1 hb1
  have hz2 : w.heap.size < w1.heap.size := by omega
  have hw1 := HX.out.trans hb1
  have k0 : w1.cell? ⟨g1, 0, none⟩ = some (str x1) := cell_of_heap (hw1.heap hh)
  have k1 : w1.cell? ⟨g1, 1, none⟩ = some (.slice a1 n1 c1) := cell_of_heap (hw1.heap hh)
  have hlt1 : g1 < w1.heap.size := by omega
  clear hh
  go_wp2_with fail
  refine (ihf _ (hw1.alloc _)).mono ?_
  rintro e w2 ⟨s2, ao2, nn2, cc2, rfl, hb2, ht2⟩
  have HT2 := Lib.hid ht2
  have hb12 := (After.alloc hb1 (.cells #[str s1, .slice ao1 nn1 cc1] 53)).trans hb2
  have hw2 := HX.out.trans hb12
  clear ht2 p0 p1 hz2 k0 k1 hlt1 hz
  obtain ⟨p0, p1, _, _, hz⟩ := box_facts w _ _ _ w2 hb12
  have hz2 : w.heap.size < w2.heap.size := by omega
  go_wp2_with fail
  obtain ⟨X, hX⟩ : ∃ X, X = w2.alloc (.cells #[str s2, .slice ao2 nn2 cc2] 53) := ⟨_, rfl⟩
  have h2X : After w2 X := by rw [hX]; exact After.new _ _
  have hwX := hw2.trans h2X
  have hRX := (box_facts2 w _ _ _ X (hb12.trans h2X)).1
  have hBX : X.heap[w2.heap.size]? = some (.cells #[str s2, .slice ao2 nn2 cc2] 53 (0, 0)) := by rw [hX]; exact heap_new' _ _
  have hTX := (box_facts w _ _ _ X (hb12.trans h2X))
  have hne : w2.heap.size ≠ w.heap.size + 1 := by omega
  have hne2 : g1 ≠ w.heap.size + 1 := by omega
  have o1 : ∀ W, ButFor X (w.heap.size + 1) W → W.cell? ⟨w2.heap.size, 0, none⟩ = some (str s2) := fun W hW => hW.cell hne (cell_of_heap hBX)
  have o2 : ∀ W, ButFor X (w.heap.size + 1) W → W.cell? ⟨w2.heap.size, 1, none⟩ = some (.slice ao2 nn2 cc2) := fun W hW => hW.cell hne (cell_of_heap hBX)
  have o3 : ∀ W, ButFor X (w.heap.size + 1) W → W.cell? ⟨w.heap.size, 1, none⟩ = some (.slice (some ⟨g1, 0, none⟩) 2 q1) := fun W hW => hW.cell (by omega) hTX.2.1
  have o4 : ∀ W, ButFor X (w.heap.size + 1) W → W.cell? ⟨g1, 2, none⟩ = some (str y1) := fun W hW => hW.cell hne2 (cell_of_heap (hwX.heap HH.out))
  have o5 : ∀ W, ButFor X (w.heap.size + 1) W → W.cell? ⟨g1, 3, none⟩ = some (.slice b1 m1 d1) := fun W hW => hW.cell hne2 (cell_of_heap (hwX.heap HH.out))
  have hself := After.refl X
  have hbf : ButFor X (w.heap.size + 1) X.drew := ⟨Nat.le_refl _, fun _ _ _ => rfl⟩
  have hres : ∀ W, After X W → W.cell? ⟨w.heap.size + 1, 0, none⟩ = some (.string ⟨#[]⟩) ∧ W.cell? ⟨w.heap.size + 1, 1, none⟩ = some (.slice none 0 0) ∧ W.frozen? ⟨w.heap.size + 1, 0, none⟩ = false ∧ W.frozen? ⟨w.heap.size + 1, 1, none⟩ = false := fun W hW => by
    have hh := hW.heap hRX
    exact ⟨cell_of_heap hh, cell_of_heap hh, by simp [World.frozen?, hh], by simp [World.frozen?, hh]⟩
  rw [← hX]
  have HUX : Hid (ST X u (.agg #[str s2, .slice ao2 nn2 cc2])) := by
    have := HT2.out.later h2X
    rw [HU.out] at this
    exact this
  have HAX := Lib.hid (HA.out.later hwX)
  have HRES := Lib.hid hres
  have HWX := Lib.hid hwX
  have HRX := Lib.hid hRX
  clear hres hRX hBX hTX hwX hX p0 p1 hz hz2 hw1 hw2 hb12 h2X hb1 hb2
  go_region_held3 (fun W' => ButFor X (w.heap.size + 1) W') (first | assumption | exact hbf | exact After.butFor (by assumption) | exact ButFor.alloc (by assumption) _ | exact ButFor.set (ButFor.set (by assumption) _ _) _ _ | go_keep)
    (first | (go_at_call 78; refine (s_app _ u a s2 y1 ao2 b1 nn2 cc2 m1 d1 _ (0, 0) ?_ ?_ ?_).mono ?_; exact HUX.out.later (hself.alloc _).drew; exact HAX.out.later (hself.alloc _).drew; exact heap_new' _ _; rintro e w3 ⟨t3, ao3, nn3, cc3, rfl, hb3, hs3⟩; have hA3 := After.trans (hself.alloc _).drew hb3; obtain ⟨q0, q1, q2, q3⟩ := HRES.out _ hA3))
  all_goals
    go_wp2_with fail
    refine bodyPost_ret (v := .tuple #[.agg #[str t3, .slice ao3 nn3 cc3], .bool true]) (by simp [results, Tryz.results75, go_sem, q0, q1]) rfl ⟨t3, ao3, nn3, cc3, by rw [H.out]; rfl, Below.setCell (Below.setCell (HWX.out.trans hA3) (by simp) _) (by simp) _, ?_⟩
    rw [H.out]
    exact hs3.sets2 (hA3.heap HRX.out)

theorem step_arg (w : World) (f a : Tm) (g1 q1 : Nat) (x1 y1 : List UInt8) (a1 b1 : Option Addr) (n1 c1 m1 d1 : Nat) (fr : Nat × Nat) (hh : w.heap[g1]? = some (.cells #[str x1, .slice a1 n1 c1, str y1, .slice b1 m1 d1] 53 fr))
    (hf : ST w f (.agg #[str x1, .slice a1 n1 c1])) (ha : ST w a (.agg #[str y1, .slice b1 m1 d1])) (hg : (f.app a).good = true) (hr : (f.app a).redex = none)
    (ihf : ∀ W, After w W → Calls Tryz.prog 75 #[.agg #[str x1, .slice a1 n1 c1]] W (SStepPost W f)) (hu : f.step = none) (iha : ∀ W, After w W → Calls Tryz.prog 75 #[.agg #[str y1, .slice b1 m1 d1]] W (SStepPost W a)) :
    Calls Tryz.prog 75 #[.agg #[str [], .slice (some ⟨g1, 0, none⟩) 2 q1]] w (SStepPost w (f.app a)) := by
  have hs1 : (f.app a).step.isSome = a.step.isSome := by cases h : a.step <;> simp [Tm.step, hr, hu, h]
  have hs2 : (f.app a).step.getD (f.app a) = f.app (a.step.getD a) := by cases h : a.step <;> simp [Tm.step, hr, hu, h]
  have H1 := Lib.hid hs1
  have H2 := Lib.hid hs2
  have hsome : f.step.isSome = false := by rw [hu]; rfl
  clear hs1 hs2 hu
  have hX : After w ((w.alloc (.cells #[str [], .slice (some ⟨g1, 0, none⟩) 2 q1] 53)).alloc (.cells #[.string ⟨#[]⟩, .slice none 0 0] 53)) := (After.new _ _).alloc _
  have htree : ST w (f.app a) (.agg #[str [], .slice (some ⟨g1, 0, none⟩) 2 q1]) := ⟨g1, q1, fr, _, _, _, _, rfl, hh, hf, ha⟩
  have hcall := s_redex (htree.later hX) hg
  rw [hr] at hcall
  have HX := Lib.hid hX
  have HF := Lib.hid hf
  have HA := Lib.hid ha
  have HH := Lib.hid hh
  have hlt := (Array.getElem?_eq_some_iff.1 hh).1
  clear hr hX htree hf ha
  go_enter Tryz.func75, Tryz.ntmps75
  go_wp2_with fail
  refine hcall.mono ?_
  rintro e w1 ⟨s1, ao1, nn1, cc1, rfl, hb1, ht1⟩
  clear ht1 hcall
  obtain ⟨p0, p1, _, _, hz⟩ := box_facts w _ _ _ w1 hb1
  have hz2 : w.heap.size < w1.heap.size := by omega
  have hw1 := HX.out.trans hb1
  have k0 : w1.cell? ⟨g1, 0, none⟩ = some (str x1) := cell_of_heap (hw1.heap hh)
  have k1 : w1.cell? ⟨g1, 1, none⟩ = some (.slice a1 n1 c1) := cell_of_heap (hw1.heap hh)
  have hlt1 : g1 < w1.heap.size := by omega
  clear hh
  go_wp2_with fail
  refine (ihf _ (hw1.alloc _)).mono ?_
  rintro e w2 ⟨s2, ao2, nn2, cc2, rfl, hb2, ht2⟩
  have HT2 := Lib.hid ht2
  have hb12 := (After.alloc hb1 (.cells #[str s1, .slice ao1 nn1 cc1] 53)).trans hb2
  have hw2 := HX.out.trans hb12
  clear ht2 p0 p1 hz2 k0 k1 hlt1 hz
  clear HT2
  obtain ⟨p0, p1, _, _, hz⟩ := box_facts w _ _ _ w2 hb12
  have hz2 : w.heap.size < w2.heap.size := by omega
  have k2 : w2.cell? ⟨g1, 2, none⟩ = some (str y1) := cell_of_heap (hw2.heap HH.out)
  have k3 : w2.cell? ⟨g1, 3, none⟩ = some (.slice b1 m1 d1) := cell_of_heap (hw2.heap HH.out)
  have hlt1 : g1 < w2.heap.size := by omega
  go_wp2_with fail
  refine (iha _ (hw2.alloc _)).mono ?_
  rintro e w3 ⟨s3, ao3, nn3, cc3, rfl, hb3, ht3⟩
  have HT3 := Lib.hid ht3
  have hb13 := (After.alloc hb12 (.cells #[str s2, .slice ao2 nn2 cc2] 53)).trans hb3
  have hw3 := HX.out.trans hb13
  clear ht3 p0 p1 hz2 k2 k3 hlt1 hz
  obtain ⟨p0, p1, _, _, hz⟩ := box_facts w _ _ _ w3 hb13
  have hz2 : w.heap.size < w3.heap.size := by omega
  obtain ⟨gd, hgd⟩ : ∃ b, b = a.step.isSome := ⟨_, rfl⟩
  rw [← hgd]
  have HGD := Lib.hid hgd
  clear hgd
  go_wp2_with fail
  obtain ⟨X, hX⟩ : ∃ X, X = w3.alloc (.cells #[str s3, .slice ao3 nn3 cc3] 53) := ⟨_, rfl⟩
  have h3X : After w3 X := by rw [hX]; exact After.new _ _
  have hwX := hw3.trans h3X
  have hRX := (box_facts2 w _ _ _ X (hb13.trans h3X)).1
  have hBX : X.heap[w3.heap.size]? = some (.cells #[str s3, .slice ao3 nn3 cc3] 53 (0, 0)) := by rw [hX]; exact heap_new' _ _
  have hTX := (box_facts w _ _ _ X (hb13.trans h3X))
  have hne : w3.heap.size ≠ w.heap.size + 1 := by omega
  have hne2 : g1 ≠ w.heap.size + 1 := by omega
  have o1 : ∀ W, ButFor X (w.heap.size + 1) W → W.cell? ⟨w3.heap.size, 0, none⟩ = some (str s3) := fun W hW => hW.cell hne (cell_of_heap hBX)
  have o2 : ∀ W, ButFor X (w.heap.size + 1) W → W.cell? ⟨w3.heap.size, 1, none⟩ = some (.slice ao3 nn3 cc3) := fun W hW => hW.cell hne (cell_of_heap hBX)
  have o3 : ∀ W, ButFor X (w.heap.size + 1) W → W.cell? ⟨w.heap.size, 1, none⟩ = some (.slice (some ⟨g1, 0, none⟩) 2 q1) := fun W hW => hW.cell (by omega) hTX.2.1
  have o4 : ∀ W, ButFor X (w.heap.size + 1) W → W.cell? ⟨g1, 0, none⟩ = some (str x1) := fun W hW => hW.cell hne2 (cell_of_heap (hwX.heap HH.out))
  have o5 : ∀ W, ButFor X (w.heap.size + 1) W → W.cell? ⟨g1, 1, none⟩ = some (.slice a1 n1 c1) := fun W hW => hW.cell hne2 (cell_of_heap (hwX.heap HH.out))
  have hself := After.refl X
  have hbf : ButFor X (w.heap.size + 1) X.drew := ⟨Nat.le_refl _, fun _ _ _ => rfl⟩
  have hres : ∀ W, After X W → W.cell? ⟨w.heap.size + 1, 0, none⟩ = some (.string ⟨#[]⟩) ∧ W.cell? ⟨w.heap.size + 1, 1, none⟩ = some (.slice none 0 0) ∧ W.frozen? ⟨w.heap.size + 1, 0, none⟩ = false ∧ W.frozen? ⟨w.heap.size + 1, 1, none⟩ = false := fun W hW => by
    have hh := hW.heap hRX
    exact ⟨cell_of_heap hh, cell_of_heap hh, by simp [World.frozen?, hh], by simp [World.frozen?, hh]⟩
  rw [← hX]
  have HUX := Lib.hid (HT3.out.later h3X)
  have HFX := Lib.hid (HF.out.later hwX)
  have HRES := Lib.hid hres
  have HWX := Lib.hid hwX
  have HRX := Lib.hid hRX
  clear hres hRX hBX hTX hwX hX p0 p1 hz hz2 hw1 hw2 hw3 hb12 hb13 h3X hb1 hb2 hb3
  go_region_held3 (fun W' => ButFor X (w.heap.size + 1) W') (first | assumption | exact hbf | exact After.butFor (by assumption) | exact ButFor.alloc (by assumption) _ | exact ButFor.set (ButFor.set (by assumption) _ _) _ _ | go_keep)
    (first | (go_at_call 78; refine (s_app _ f (a.step.getD a) x1 s3 a1 ao3 n1 c1 nn3 cc3 _ (0, 0) ?_ ?_ ?_).mono ?_; exact HFX.out.later (hself.alloc _).drew; exact HUX.out.later (hself.alloc _).drew; exact heap_new' _ _; rintro e w4 ⟨t4, ao4, nn4, cc4, rfl, hb4, hs4⟩; have hA4 := After.trans (hself.alloc _).drew hb4; obtain ⟨q0, q1, q2, q3⟩ := HRES.out _ hA4))
  all_goals
    go_wp2_with fail
    refine bodyPost_ret (v := .tuple #[.agg #[str t4, .slice ao4 nn4 cc4], .bool gd]) (by simp [results, Tryz.results75, go_sem, q0, q1]) rfl ⟨t4, ao4, nn4, cc4, by rw [H1.out, HGD.out], Below.setCell (Below.setCell (HWX.out.trans hA4) (by simp) _) (by simp) _, ?_⟩
    rw [H2.out]
    exact hs4.sets2 (hA4.heap HRX.out)

theorem s_step {t : Tm} : ∀ {w : World} {v : Value}, ST w t v → t.good = true → Calls Tryz.prog 75 #[v] w (SStepPost w t) := by
  induction t with
  | k => intro w v h hg; obtain ⟨x, ao, n, c, rfl⟩ := h.form; exact step_atom w _ x ao n c h hg rfl
  | s => intro w v h hg; obtain ⟨x, ao, n, c, rfl⟩ := h.form; exact step_atom w _ x ao n c h hg rfl
  | nm m => intro w v h hg; obtain ⟨x, ao, n, c, rfl⟩ := h.form; exact step_atom w _ x ao n c h hg rfl
  | app f a ihf iha =>
    intro w v h hg
    cases hr : (f.app a).redex with
    | some u =>
      obtain ⟨x, ao, n, c, rfl⟩ := h.form
      exact step_redex w _ u x ao n c h hg hr (by simp [Tm.step, hr])
    | none =>
      obtain ⟨g1, q1, fr, s0, p0, s1, p1, rfl, hh, hf, ha⟩ := h
      obtain ⟨x1, a1, n1, c1, rfl, rfl⟩ := parts_form hf
      obtain ⟨y1, b1, m1, d1, rfl, rfl⟩ := parts_form ha
      have hg' := hg
      simp only [Tm.good, Bool.and_eq_true] at hg'
      cases hfs : f.step with
      | some u => exact step_fun w f a g1 q1 x1 y1 a1 b1 n1 c1 m1 d1 fr hh hf ha hg hr (fun W hW => ihf (hf.later hW) hg'.1) u hfs
      | none => exact step_arg w f a g1 q1 x1 y1 a1 b1 n1 c1 m1 d1 fr hh hf ha hg hr (fun W hW => ihf (hf.later hW) hg'.1) hfs (fun W hW => iha (ha.later hW) hg'.2)
end Go.Proofs.YtidpkmkhcomcdaaGreat

namespace Go.Proofs.YtidpkmkhcomcdaaGreat
open Go.RowKit

set_option maxHeartbeats 1000000
set_option maxRecDepth 100000

theorem heap_sets2 {W : World} {b : Nat} {x y u u' : Value} {T : TypeId} {fr : Nat × Nat} (hh : W.heap[b]? = some (.cells #[x, y] T fr)) : ((W.setCell ⟨b, 0, none⟩ u).setCell ⟨b, 1, none⟩ u').heap[b]? = some (.cells #[u, u'] T fr) := by
  simp [World.setCell, Array.getElem?_modify, hh]

theorem heap_sets2_ne {W : World} {b c i j : Nat} {u u' : Value} (hne : c ≠ b) : ((W.setCell ⟨b, i, none⟩ u).setCell ⟨b, j, none⟩ u').heap[c]? = W.heap[c]? := by
  rw [Below.heap_setCell _ _ _ _ hne, Below.heap_setCell _ _ _ _ hne]

theorem pair_facts {W : World} {b : Nat} {x y : Value} {T : TypeId} (h : W.heap[b]? = some (.cells #[x, y] T (0, 0))) {W' : World} (hW : After W W') :
    W'.cell? ⟨b, 0, none⟩ = some x ∧ W'.cell? ⟨b, 1, none⟩ = some y ∧ W'.frozen? ⟨b, 0, none⟩ = false ∧ W'.frozen? ⟨b, 1, none⟩ = false ∧ b < W'.heap.size := by
  have hh := hW.heap h
  exact ⟨cell_of_heap hh, cell_of_heap hh, by simp [World.frozen?, hh], by simp [World.frozen?, hh], (Array.getElem?_eq_some_iff.1 hh).1⟩

def SManyPost (w : World) (t : Tm) (n : Nat) (e : Ending) (w' : World) : Prop :=
  ∃ s ao m c, e = .returned (.tuple #[.agg #[str s, .slice ao m c], .int .i64 (((t.many n).2 : Nat) : Int), .bool (t.many n).1.step.isNone]) ∧ After w w' ∧ ST w' (t.many n).1 (.agg #[str s, .slice ao m c])

/-- After k rounds. -/
def SRounds (w : World) (n : Nat) (t : Tm) (i : Value) (wr : World) : Prop :=
  ∃ (k : Nat) (u : Tm) (s : List UInt8) (ao : Option Addr) (m c : Nat), i = .int .i64 k ∧ k ≤ n ∧ wr.heap[w.heap.size]? = some (.cells #[str s, .slice ao m c] 53 (0, 0)) ∧ wr.heap[w.heap.size + 1]? = some (.cells #[.string ⟨#[]⟩, .slice none 0 0] 53 (0, 0)) ∧
    ST wr u (.agg #[str s, .slice ao m c]) ∧ u.good = true ∧ u.fits = true ∧ After w wr ∧ Hid (t.many n = ((u.many (n - k)).1, (u.many (n - k)).2 + k))

theorem s_many (w : World) (n : Nat) (t : Tm) (s : List UInt8) (ao : Option Addr) (m c : Nat) (h : ST w t (.agg #[str s, .slice ao m c])) (hg : t.good = true) (hz : t.fits = true) (hn : n ≤ 1000000) :
    Calls Tryz.prog 108 #[.agg #[str s, .slice ao m c], .int .i64 n] w (SManyPost w t n) := by
  have hstart : SRounds w n t (.int .i64 0) ((w.alloc (.cells #[str s, .slice ao m c] 53)).alloc (.cells #[.string ⟨#[]⟩, .slice none 0 0] 53)) :=
    ⟨0, t, s, ao, m, c, rfl, Nat.zero_le _, heap_old2 _ _ _, heap_new2 _ _ _ _ rfl, h.later ((After.new _ _).alloc _), hg, hz, (After.new _ _).alloc _, by simp [Hid]⟩
  go_enter Tryz.func108, Tryz.ntmps108
  go_wp2_with fail
  go_loopw [7] (fun i wr => SRounds w n t i wr) (fun i _ => n - (intOf i).toNat)
  case atStart => exact hstart
  case round =>
    clear hstart h hg hz
    obtain ⟨k, u, s, ao, m, c, rfl, hk, hbox, hres, hu, hg, hf, hA, hm⟩ := hrel
    have hfz := fits_size hf
    have hstep := s_step hu hg
    unfold SStepPost at hstep
    obtain ⟨k0, k1, _, _, l1⟩ := pair_facts hbox (After.refl _)
    have HU := Lib.hid hu
    by_cases hlt : k < n
    · cases hst : u.step with
      | none =>
        have hfin : t.many n = (u, k) := by
          rw [hm.out, show n - k = (n - k - 1) + 1 by omega, Tm.many_normal _ _ hst]; simp
        have H := Lib.hid hfin
        have HST := Lib.hid hst
        rw [hst] at hstep
        clear hst hfin hm hu
        go_wp2_with fail
        refine hstep.mono ?_
        rintro e w1 ⟨s1, ao1, m1, c1, rfl, hb1, ht1⟩
        clear ht1 k0 k1
        obtain ⟨k0, k1, _, _, l1⟩ := pair_facts hbox (After.alloc hb1 (.cells #[str s1, .slice ao1 m1 c1] 53))
        obtain ⟨z0, z1, z2, z3, l2⟩ := pair_facts hres (After.alloc hb1 (.cells #[str s1, .slice ao1 m1 c1] 53))
        go_wp2_with fail
        refine bodyPost_ret (v := .tuple #[.agg #[str s, .slice ao m c], .int .i64 k, .bool true]) (by simp [results, Tryz.results108, go_sem, z0, z1]) rfl
          ⟨s, ao, m, c, by rw [H.out]; simp [HST.out], Below.setCell (Below.setCell (hA.trans (After.alloc hb1 _)) (by simp) _) (by simp) _, ?_⟩
        rw [H.out]
        exact (HU.out.later (After.alloc hb1 _)).sets2 ((After.alloc hb1 _).heap hres)
      | some u1 =>
        have hg1 := Tm.step_good hst hg
        have hs1 := step_size hst
        have HST := Lib.hid hst
        rw [hst] at hstep
        simp only [Option.isSome_some, Option.getD_some] at hstep
        cases hf1 : u1.fits with
        | false =>
          have hfin : t.many n = (u, k) := by
            rw [hm.out, show n - k = (n - k - 1) + 1 by omega]; simp [Tm.many, hst, hf1]
          have H := Lib.hid hfin
          clear hst hfin hm hu
          go_wp2_with fail
          refine hstep.mono ?_
          rintro e w1 ⟨s1, ao1, m1, c1, rfl, hb1, ht1⟩
          have hfine := (ht1.later (After.new w1 (.cells #[str s1, .slice ao1 m1 c1] 53))).fine hg1 (by omega)
          rw [hf1] at hfine
          have hw1 := After.alloc hb1 (.cells #[str s1, .slice ao1 m1 c1] 53)
          clear ht1 k0 k1 hstep
          go_wp2_with fail
          refine hfine.mono ?_
          rintro e w2 ⟨rfl, hb2⟩
          obtain ⟨k0, k1, _, _, l1⟩ := pair_facts hbox (hw1.trans hb2)
          obtain ⟨z0, z1, z2, z3, l2⟩ := pair_facts hres (hw1.trans hb2)
          go_wp2_with fail
          refine bodyPost_ret (v := .tuple #[.agg #[str s, .slice ao m c], .int .i64 k, .bool false]) (by simp [results, Tryz.results108, go_sem, z0, z1]) rfl
            ⟨s, ao, m, c, by rw [H.out]; simp [HST.out], Below.setCell (Below.setCell (hA.trans (hw1.trans hb2)) (by simp) _) (by simp) _, ?_⟩
          rw [H.out]
          exact (HU.out.later (hw1.trans hb2)).sets2 ((hw1.trans hb2).heap hres)
        | true =>
          have hfin : t.many n = ((u1.many (n - (k + 1))).1, (u1.many (n - (k + 1))).2 + (k + 1)) := by
            rw [hm.out, show n - k = (n - (k + 1)) + 1 by omega]; simp [Tm.many, hst, hf1]; omega
          have H := Lib.hid hfin
          clear hst hfin hm hu
          go_wp2_with fail
          refine hstep.mono ?_
          rintro e w1 ⟨s1, ao1, m1, c1, rfl, hb1, ht1⟩
          have hT1 := ht1.later (After.new w1 (.cells #[str s1, .slice ao1 m1 c1] 53))
          have hfine := hT1.fine hg1 (by omega)
          rw [hf1] at hfine
          have hw1 := After.alloc hb1 (.cells #[str s1, .slice ao1 m1 c1] 53)
          clear ht1 k0 k1 hstep
          go_wp2_with fail
          refine hfine.mono ?_
          rintro e w2 ⟨rfl, hb2⟩
          obtain ⟨k0, k1, f0, f1, l1⟩ := pair_facts hbox (hw1.trans hb2)
          obtain ⟨n0, n1, _, _, l3⟩ := pair_facts (hb2.heap (heap_new' w1 (.cells #[str s1, .slice ao1 m1 c1] 53))) (After.refl _)
          have hbox2 := (hw1.trans hb2).heap hbox
          have hres2 := (hw1.trans hb2).heap hres
          have HT2 := Lib.hid (hT1.later hb2)
          clear hT1
          go_wp2_with fail
          go_roundw
          case rel =>
            exact ⟨k + 1, u1, s1, ao1, m1, c1, by go_num, by omega, heap_sets2 hbox2, by rw [heap_sets2_ne (by omega)]; exact hres2, HT2.out.sets2 hbox2, hg1, hf1,
              Below.setCell (Below.setCell (hA.trans (hw1.trans hb2)) (by simp) _) (by simp) _, H⟩
          case measure => simp [intOf]; omega
    · have hkn : k = n := by omega
      subst hkn
      have hfin : t.many k = (u, k) := by rw [hm.out]; simp [Tm.many]
      have H := Lib.hid hfin
      obtain ⟨b, hb⟩ : ∃ b, b = u.step.isSome := ⟨_, rfl⟩
      rw [← hb] at hstep
      have HB := Lib.hid hb
      clear hfin hm hu hb
      go_wp2_with fail
      refine hstep.mono ?_
      rintro e w1 ⟨s1, ao1, m1, c1, rfl, hb1, ht1⟩
      clear ht1 k0 k1
      obtain ⟨k0, k1, _, _, l1⟩ := pair_facts hbox (After.alloc hb1 (.cells #[str s1, .slice ao1 m1 c1] 53))
      obtain ⟨z0, z1, z2, z3, l2⟩ := pair_facts hres (After.alloc hb1 (.cells #[str s1, .slice ao1 m1 c1] 53))
      go_wp2_with fail
      refine bodyPost_ret (v := .tuple #[.agg #[str s, .slice ao m c], .int .i64 k, .bool (!b)]) (by simp [results, Tryz.results108, go_sem, z0, z1]) rfl
        ⟨s, ao, m, c, by rw [H.out, HB.out]; cases u.step <;> rfl, Below.setCell (Below.setCell (hA.trans (After.alloc hb1 _)) (by simp) _) (by simp) _, ?_⟩
      rw [H.out]
      exact (HU.out.later (After.alloc hb1 _)).sets2 ((After.alloc hb1 _).heap hres)

def SNormPost (w : World) (t : Tm) (b : Bool) (e : Ending) (w' : World) : Prop :=
  ∃ s ao m c, e = .returned (.tuple #[.agg #[str s, .slice ao m c], .bool b]) ∧ After w w' ∧ ST w' t (.agg #[str s, .slice ao m c])

end Go.Proofs.YtidpkmkhcomcdaaGreat

namespace Go.Proofs.YtidpkmkhcomcdaaGreat
open Go.RowKit

set_option maxHeartbeats 1000000
set_option maxRecDepth 100000

def fillS (n : Nat) (k : Nat) (ns : List (List UInt8)) : List Value := (ns.take k).map str ++ List.replicate (n - k) (str [])

theorem fillS_len (n k : Nat) (ns : List (List UInt8)) (h : ns.length = n) (hk : k ≤ n) : (fillS n k ns).length = n := by
  simp [fillS, h]; omega

theorem fillS_at (n k : Nat) (ns : List (List UInt8)) (h : ns.length = n) (hk : k < n) : (fillS n k ns)[k]? = some (str []) := by
  have e : ((ns.take k).map str).length = k := by simp; omega
  rw [fillS, List.getElem?_append_right (by omega), e, Nat.sub_self, List.getElem?_replicate]
  simp; omega

theorem fillS_set (n k : Nat) (ns : List (List UInt8)) (h : ns.length = n) (hk : k < n) : (fillS n k ns).set k (str (ns[k]?.getD [])) = fillS n (k + 1) ns := by
  have e : ((ns.take k).map str).length = k := by simp; omega
  rw [fillS, List.set_append_right _ _ (by omega), e, Nat.sub_self, show n - k = (n - (k + 1)) + 1 by omega, List.replicate_succ, List.set_cons_zero, fillS]
  have hk' : k < ns.length := by omega
  rw [List.take_add_one, List.getElem?_eq_getElem hk', List.map_append, List.append_assoc]
  rfl

theorem made_fill (n : Nat) (ns : List (List UInt8)) : (madeCells (str []).cells (n * 1)).toList = fillS n 0 ns := by
  apply List.ext_getElem?
  intro i
  have e : ∀ x : Nat, (#[str []] : Array Value)[x % 1]! = str [] := fun x => by rw [Nat.mod_one]; rfl
  have e2 : (str []).cells = #[str []] := rfl
  have e3 : (#[str []] : Array Value).size = 1 := rfl
  simp only [madeCells, fillS, e2, e3, e, Array.toList_map, Array.toList_range, List.take_zero, List.map_nil, List.nil_append, Nat.sub_zero, Nat.mul_one]
  rw [List.getElem?_map, List.getElem?_replicate]
  by_cases h : i < n
  · rw [if_pos h, List.getElem?_eq_getElem (by simpa using h)]; rfl
  · rw [if_neg h, List.getElem?_eq_none (by simpa using h)]; rfl

end Go.Proofs.YtidpkmkhcomcdaaGreat

namespace Go.Proofs.YtidpkmkhcomcdaaGreat
open Go.RowKit

set_option maxHeartbeats 1000000
set_option maxRecDepth 100000

theorem str_sizeZ (l : List UInt8) : (⟨l.toArray⟩ : ByteArray).size = l.length := rfl

end Go.Proofs.YtidpkmkhcomcdaaGreat
