/-
  The reader of the program: skip, nameLength, readAtom, read, readTerm.
-/
import Derived.Test.YtfpekihdoclncaaGreatPkAC
import Derived.Deep.QuietTactic
import Derived.BigQuiet
import Derived.Test.YtfpekihdoclncaaGreatPkAB
namespace Go.Proofs.YtfpekihdoclncaaGreat
open Go.RowKit

set_option maxHeartbeats 400000
set_option maxRecDepth 100000

/-- The reader lies in block b: the text and the place. -/
def Rd (w : World) (b : Nat) (l : List UInt8) (i : Nat) : Prop := w.heap[b]? = some (.cells #[str l, .int .i64 i] 83 (0, 0))

theorem Rd.set {w : World} {b i : Nat} {l : List UInt8} (h : Rd w b l i) (m j : Nat) : Rd ((w.drewN m).setCell ⟨b, 1, none⟩ (.int .i64 j)) b l j := by
  unfold Rd at *
  simp [World.setCell, Array.getElem?_modify, h]

theorem Rd.drawn {w : World} {b i : Nat} {l : List UInt8} (h : Rd w b l i) (m : Nat) : Rd (w.drewN m) b l i := h

theorem grown_drawn (w : World) (b m : Nat) : w.grownBy (w.drewN m) (some b) := ⟨rfl, rfl, rfl, Nat.le_refl _, fun _ _ _ => rfl⟩

theorem grown_set (w : World) (b m i : Nat) (v : Value) : w.grownBy ((w.drewN m).setCell ⟨b, i, none⟩ v) (some b) := by
  refine ⟨rfl, rfl, rfl, by simp [World.setCell], fun k hk hne => ?_⟩
  have : b ≠ k := fun e => hne (e ▸ rfl)
  simp [World.setCell, Array.getElem?_modify, this]

def SkipPost (w : World) (b : Nat) (l : List UInt8) (i : Nat) (r : Bool) (e : Ending) (w' : World) : Prop :=
  e = .returned (.bool r) ∧ w.grownBy w' (some b) ∧ Rd w' b l (if r then i + 1 else i)

theorem byte_at (l : List UInt8) (i : Nat) (_h : i < l.length) (h' : i < (⟨l.toArray⟩ : ByteArray).size) : (⟨l.toArray⟩ : ByteArray)[i]'h' = l[i] := rfl

theorem byte_ne (x y : UInt8) : ((x.toNat : Int) != (y.toNat : Int)) = (x != y) := by
  rw [Bool.eq_iff_iff]
  simp only [bne_iff_ne, ne_eq, Int.natCast_inj]
  constructor
  · exact fun h e => h (e ▸ rfl)
  · exact fun h e => h (UInt8.toNat_inj.1 e)

theorem ended_any (w : World) (b i : Nat) (l : List UInt8) (c0 : w.cell? ⟨b, 0, none⟩ = some (str l)) (c1 : w.cell? ⟨b, 1, none⟩ = some (.int .i64 (i : Nat))) (_hl : l.length ≤ 1000000000) :
    Calls Tryz.prog 43 #[.pointer (some ⟨b, 0, none⟩)] w fun e w' => e = .returned (.bool (decide (i = l.length))) ∧ ∃ m, w' = w.drewN m := by
  have hsz : (⟨l.toArray⟩ : ByteArray).size = l.length := by show l.toArray.size = _; simp
  by_cases hie : i = l.length
  · have hr : decide (i = l.length) = true := by simp [hie]
    rw [hr]
    subst hie
    clear hr
    go_enter Tryz.func43, Tryz.ntmps43
    go_wp2_with fail
    go_quiet (fail)
    go_wp2_with fail
    go_ret
    exact ⟨rfl, _, rfl⟩
  · have hr : decide (i = l.length) = false := by simp [hie]
    rw [hr]
    have hne : ((i : Int) == (l.length : Int)) = false := by rw [beq_eq_false_iff_ne]; omega
    clear hr
    go_enter Tryz.func43, Tryz.ntmps43
    go_wp2_with fail
    go_quiet (fail)
    go_wp2_with fail
    go_ret
    exact ⟨rfl, _, rfl⟩

/-- What skip leaves in the cells of its block. -/
def SkipOn (w : World) (b : Nat) (cs : Array Value) (T : TypeId) (i : Nat) (r : Bool) (e : Ending) (w' : World) : Prop :=
  e = .returned (.bool r) ∧ w.grownBy w' (some b) ∧ w'.heap[b]? = some (.cells (if r then cs.setIfInBounds 1 (.int .i64 ((i + 1 : Nat) : Int)) else cs) T (0, 0))

theorem skip_on (w : World) (b i : Nat) (l : List UInt8) (n : Int) (c : UInt8) (hn : n = c.toNat) (cs : Array Value) (T : TypeId) (h : w.heap[b]? = some (.cells cs T (0, 0))) (h0 : cs[0]? = some (str l)) (h1 : cs[1]? = some (.int .i64 (i : Nat))) (hl : l.length ≤ 1000000000) (hi : i ≤ l.length) :
    Calls Tryz.prog 61 #[.pointer (some ⟨b, 0, none⟩), .int .u8 n] w (SkipOn w b cs T i (decide (l[i]? = some c))) := by
  have c0 : w.cell? ⟨b, 0, none⟩ = some (str l) := by rw [cell_of_heap h]; exact h0
  have c1 : w.cell? ⟨b, 1, none⟩ = some (.int .i64 (i : Nat)) := by rw [cell_of_heap h]; exact h1
  have f1 : w.frozen? ⟨b, 1, none⟩ = false := by simp [World.frozen?, h]
  have hsz : (⟨l.toArray⟩ : ByteArray).size = l.length := by show l.toArray.size = _; simp
  have hi0 : (0 : Int) ≤ (i : Int) := by omega
  have hend := fun m => ended_any (w.drewN m) b i l c0 c1 hl
  have HR := Lib.hid h
  subst hn
  clear h h0 h1
  by_cases hie : i = l.length
  · subst hie
    have hr : decide (l[l.length]? = some c) = false := by simp
    have hd : decide (l.length = l.length) = true := by simp
    rw [hr]
    rw [hd] at hend
    clear hr hd
    go_enter Tryz.func61, Tryz.ntmps61
    go_wp2_with fail
    go_quiet ((go_at_call 43; exact Calls.quiet_of (hend _)))
    go_wp2_with fail
    go_ret
    exact ⟨rfl, grown_drawn _ _ _, HR.out⟩
  · have hlt : i < l.length := by omega
    have hd : decide (i = l.length) = false := by simp [hie]
    rw [hd] at hend
    have hi1 : (i : Int) < (l.length : Int) := by omega
    have hg : l[i]? = some l[i] := List.getElem?_eq_getElem hlt
    have hb := byte_ne l[i] c
    have hat := byte_at l i hlt (by rw [hsz]; exact hlt)
    clear hd hie
    by_cases hc : l[i] = c
    · have hr : decide (l[i]? = some c) = true := by rw [hg, hc]; simp
      rw [hr]
      have hb2 : (((⟨l.toArray⟩ : ByteArray)[i]'(by rw [hsz]; exact hlt)).toNat : Int) = (c.toNat : Int) := by rw [hat, hc]
      clear hr hg hb hat hc
      go_enter Tryz.func61, Tryz.ntmps61
      go_wp2_with fail
      go_quiet ((go_at_call 43; exact Calls.quiet_of (hend _)))
      go_wp2_with fail
      go_ret
      refine ⟨rfl, grown_set _ _ _ _ _, ?_⟩
      have := HR.out
      simp [World.setCell, Array.getElem?_modify, this]
    · have hr : decide (l[i]? = some c) = false := by rw [hg]; simp [hc]
      rw [hr]
      have hb2 : (((((⟨l.toArray⟩ : ByteArray)[i]'(by rw [hsz]; exact hlt)).toNat : Int) != (c.toNat : Int))) = true := by rw [hat, hb]; simpa using hc
      clear hr hg hb hat hc
      go_enter Tryz.func61, Tryz.ntmps61
      go_wp2_with fail
      go_quiet ((go_at_call 43; exact Calls.quiet_of (hend _)))
      go_wp2_with fail
      go_ret
      exact ⟨rfl, grown_drawn _ _ _, HR.out⟩

theorem skip_any (w : World) (b i : Nat) (l : List UInt8) (n : Int) (c : UInt8) (hn : n = c.toNat) (h : Rd w b l i) (hl : l.length ≤ 1000000000) (hi : i ≤ l.length) :
    Calls Tryz.prog 61 #[.pointer (some ⟨b, 0, none⟩), .int .u8 n] w (SkipPost w b l i (decide (l[i]? = some c))) := by
  refine (skip_on w b i l n c hn _ _ h rfl rfl hl hi).mono ?_
  rintro e w' ⟨he, hg, hh⟩
  refine ⟨he, hg, ?_⟩
  generalize decide (l[i]? = some c) = r at *
  cases r
  · exact hh
  · exact hh

/-! ### the length of a name -/

theorem lead_int (c : UInt8) : Tm.lead c = true ↔ (117 : Int) ≤ (c.toNat : Int) ∧ (c.toNat : Int) ≤ 122 := by
  simp only [Tm.lead, Bool.and_eq_true, decide_eq_true_eq, UInt8.le_iff_toNat_le]
  have h1 : (117 : UInt8).toNat = 117 := rfl
  have h2 : (122 : UInt8).toNat = 122 := rfl
  omega
theorem dig_int (c : UInt8) : Tm.dig c = true ↔ (48 : Int) ≤ (c.toNat : Int) ∧ (c.toNat : Int) ≤ 57 := by
  simp only [Tm.dig, Bool.and_eq_true, decide_eq_true_eq, UInt8.le_iff_toNat_le]
  have h1 : (48 : UInt8).toNat = 48 := rfl
  have h2 : (57 : UInt8).toNat = 57 := rfl
  omega

theorem nameLength_any (w : World) (l : List UInt8) (hl : l.length ≤ 1000000000) :
    Calls Tryz.prog 74 #[str l] w fun e w' => e = .returned (.int .i64 (Tm.nameLen l 0 : Nat)) ∧ w = w' := by
  have hsz : (⟨l.toArray⟩ : ByteArray).size = l.length := by show l.toArray.size = _; simp
  cases hcs : l with
  | nil =>
    go_enter Tryz.func74, Tryz.ntmps74
    go_wp2_with fail
    go_ret
    exact ⟨by simp [Tm.nameLen], rfl⟩
  | cons c ds =>
    rw [← hcs]
    have hpos : 0 < l.length := by rw [hcs]; simp
    have h0 : l[0] = c := by simp [hcs]
    have hat := byte_at l 0 hpos (by rw [hsz]; exact hpos)
    rw [h0] at hat
    have hemp : l.isEmpty = false := by rw [hcs]; rfl
    have hget : l[0]? = some c := by simp [hcs]
    clear hcs h0
    by_cases hlead : Tm.lead c = true
    · have hfin : Tm.nameLen l 0 = 1 + Tm.digs l 3 1 := by simp [Tm.nameLen, hget, hlead]
      have HF := Lib.hid hfin
      obtain ⟨hl1, hl2⟩ := (lead_int c).1 hlead
      clear hfin hget hlead
      go_enter Tryz.func74, Tryz.ntmps74
      go_wp2_with fail
      go_loop [3] (fun n => ∃ k : Nat, 1 ≤ k ∧ k ≤ 4 ∧ k ≤ l.length ∧ n = .int .i64 k ∧ Hid (Tm.nameLen l 0 = k + Tm.digs l (4 - k) k)) (fun n => (5 - intOf n).toNat)
      case atStart => exact ⟨1, by omega, by omega, by omega, rfl, HF⟩
      case round =>
        obtain ⟨k, hk1, hk4, hkl, rfl, hk⟩ := hrel
        have hexit : (Tm.digs l (4 - k) k = 0) → Tm.nameLen l 0 = k := fun h => by rw [hk.out, h, Nat.add_zero]
        have HX := Lib.hid hexit
        clear hexit hat
        by_cases hlt : k < l.length
        · have hatk := byte_at l k hlt (by rw [hsz]; exact hlt)
          have hgetk : l[k]? = some l[k] := List.getElem?_eq_getElem hlt
          by_cases h3 : k ≤ 3
          · by_cases hd : Tm.dig l[k] = true
            · have hstep : Tm.nameLen l 0 = (k + 1) + Tm.digs l (4 - (k + 1)) (k + 1) := by
                rw [hk.out, show 4 - k = (4 - (k + 1)) + 1 by omega, Tm.digs, hgetk]; simp [hd]; omega
              have HS := Lib.hid hstep
              obtain ⟨hd1, hd2⟩ := (dig_int _).1 hd
              rw [← hatk] at hd1 hd2
              clear hstep hd hgetk hatk hk
              go_wp2_with fail
              go_round
              case rel => exact ⟨k + 1, by omega, by omega, by omega, by go_num, HS⟩
              case measure => simp [intOf]; omega
            · have hfin := HX.out (by rw [show 4 - k = (3 - k) + 1 by omega, Tm.digs, hgetk]; simp [hd])
              have HS := Lib.hid hfin
              rw [dig_int, ← hatk] at hd
              clear hfin hgetk hatk hk
              by_cases hd1 : (48 : Int) ≤ (((⟨l.toArray⟩ : ByteArray)[k]'(by rw [hsz]; exact hlt)).toNat : Int)
              · have hd2 : ¬ (((⟨l.toArray⟩ : ByteArray)[k]'(by rw [hsz]; exact hlt)).toNat : Int) ≤ 57 := fun h => hd ⟨hd1, h⟩
                clear hd
                go_wp2_with fail
                go_ret
                exact ⟨by rw [HS.out]; rfl, rfl⟩
              · clear hd
                go_wp2_with fail
                go_ret
                exact ⟨by rw [HS.out]; rfl, rfl⟩
          · have hfin := HX.out (by rw [show 4 - k = 0 by omega, Tm.digs])
            have HS := Lib.hid hfin
            clear hfin hgetk hatk hk
            go_wp2_with fail
            go_ret
            exact ⟨by rw [HS.out]; rfl, rfl⟩
        · have hfin := HX.out (by
            cases h4 : 4 - k with
            | zero => rw [Tm.digs]
            | succ m => rw [Tm.digs, List.getElem?_eq_none (by omega)])
          have HS := Lib.hid hfin
          clear hfin hk
          go_wp2_with fail
          go_ret
          exact ⟨by rw [HS.out]; rfl, rfl⟩
    · have hfin : Tm.nameLen l 0 = 0 := by simp [Tm.nameLen, hget, hlead]
      rw [hfin]
      rw [lead_int] at hlead
      clear hfin hget
      by_cases h1 : (c.toNat : Int) < 117
      · go_enter Tryz.func74, Tryz.ntmps74
        go_wp2_with fail
        go_ret
        exact ⟨rfl, rfl⟩
      · have h2 : (122 : Int) < (c.toNat : Int) := by omega
        clear hlead
        go_enter Tryz.func74, Tryz.ntmps74
        go_wp2_with fail
        go_ret
        exact ⟨rfl, rfl⟩
end Go.Proofs.YtfpekihdoclncaaGreat

namespace Go.Proofs.YtfpekihdoclncaaGreat
open Go.RowKit

set_option maxHeartbeats 400000
set_option maxRecDepth 100000

def AtomPost (w : World) (b : Nat) (l : List UInt8) (r : Option (Tm × Nat)) (e : Ending) (w' : World) : Prop :=
  ∃ v, e = .returned (.tuple #[v, .bool r.isSome]) ∧ w.grownBy w' (some b) ∧ ∀ t j, r = some (t, j) → Rd w' b l j ∧ TV w' (b + 1) t v

theorem grown_trans {w w' w'' : World} {b : Nat} (h : w.grownBy w' (some b)) (g : w'.grownBy w'' (some b)) : w.grownBy w'' (some b) :=
  ⟨g.os.trans h.os, g.tape.trans h.tape, g.output.trans h.output, Nat.le_trans h.size g.size, fun k hk hne => (g.block k (Nat.lt_of_lt_of_le hk h.size) hne).trans (h.block k hk hne)⟩

theorem grown_alloc (w : World) (b : Nat) (o : Obj) : w.grownBy (w.alloc o) (some b) := ⟨rfl, rfl, rfl, by simp, fun k hk _ => Below.heap_alloc _ _ _ hk⟩

theorem Rd.alloc {w : World} {b i : Nat} {l : List UInt8} (h : Rd w b l i) (o : Obj) : Rd (w.alloc o) b l i := by
  unfold Rd at *
  rw [Below.heap_alloc _ _ _ (Array.getElem?_eq_some_iff.1 h).1]; exact h

theorem Rd.lt {w : World} {b i : Nat} {l : List UInt8} (h : Rd w b l i) : b < w.heap.size := (Array.getElem?_eq_some_iff.1 h).1

theorem heap_new (w : World) (o : Obj) : (w.alloc o).heap[w.heap.size]? = some o := by
  show (w.heap.push _)[_]? = _
  simp

theorem heap_new_set (w : World) (m : Nat) (a : Addr) (v : Value) (o : Obj) : (((w.drewN m).setCell a v).alloc o).heap[w.heap.size]? = some o := by
  have h : ((w.drewN m).setCell a v).heap.size = w.heap.size := by simp [World.setCell]
  rw [← h]
  exact heap_new _ _

theorem bytes_ext (l : List UInt8) (i j : Nat) : (⟨l.toArray⟩ : ByteArray).extract i j = ⟨((l.drop i).take (j - i)).toArray⟩ := by
  apply ByteArray.ext
  simp [ByteArray.data_extract]

theorem digs_drop (l : List UInt8) (i m k : Nat) : Tm.digs (l.drop i) m k = Tm.digs l m (i + k) := by
  induction m generalizing k with
  | zero => rfl
  | succ m ih =>
    simp only [Tm.digs, List.getElem?_drop]
    rw [ih (k + 1)]
    rfl

theorem nameLen_drop (l : List UInt8) (i : Nat) : Tm.nameLen (l.drop i) 0 = Tm.nameLen l i := by
  simp only [Tm.nameLen, List.getElem?_drop, Nat.add_zero]
  rw [digs_drop]

theorem readAtom_any (w : World) (b i : Nat) (l : List UInt8) (h : Rd w b l i) (hl : l.length ≤ 1000000000) (hi : i ≤ l.length) :
    Calls Tryz.prog 62 #[.pointer (some ⟨b, 0, none⟩)] w (AtomPost w b l (Tm.readAtom l i)) := by
  have HL := Lib.hid hl
  by_cases hk : l[i]? = some 107
  · have hfin : Tm.readAtom l i = some (.k, i + 1) := by simp [Tm.readAtom, hk]
    rw [hfin]
    have hd : decide (l[i]? = some 107) = true := by simp [hk]
    have hsk := skip_any w b i l 107 107 rfl h hl hi
    rw [hd] at hsk
    clear hd hk hfin hi hl h
    go_enter Tryz.func62, Tryz.ntmps62
    go_wp2_with (go_at_call 61; refine hsk.mono ?_; rintro e w1 ⟨rfl, hg1, hr1⟩)
    go_ret2
    refine ⟨_, rfl, grown_trans hg1 (grown_alloc _ _ _), fun t j he => ?_⟩
    simp only [Option.some.injEq, Prod.mk.injEq] at he
    obtain ⟨rfl, rfl⟩ := he
    exact ⟨Rd.alloc hr1 _, ⟨_, _, rfl, Nat.succ_le_of_lt (Rd.lt hr1), heap_new _ _⟩⟩
  · by_cases hs : l[i]? = some 115
    · have hfin : Tm.readAtom l i = some (.s, i + 1) := by simp [Tm.readAtom, hs]
      rw [hfin]
      have hd : decide (l[i]? = some 107) = false := by simp [hk]
      have hd2 : decide (l[i]? = some 115) = true := by simp [hs]
      have hsk := skip_any w b i l 107 107 rfl h hl hi
      rw [hd] at hsk
      have HI := Lib.hid hi
      clear hd hk hs hfin hi hl h
      go_enter Tryz.func62, Tryz.ntmps62
      go_wp2_with fail
      refine hsk.mono ?_
      rintro e w1 ⟨rfl, hg1, hr1⟩
      have hsk2 := skip_any w1 b i l 115 115 rfl hr1 HL.out HI.out
      rw [hd2] at hsk2
      clear hsk hd2
      go_wp2_with fail
      refine hsk2.mono ?_
      rintro e w2 ⟨rfl, hg2, hr2⟩
      go_wp2_with fail
      go_ret2
      refine ⟨_, rfl, grown_trans (grown_trans hg1 hg2) (grown_alloc _ _ _), fun t j he => ?_⟩
      simp only [Option.some.injEq, Prod.mk.injEq] at he
      obtain ⟨rfl, rfl⟩ := he
      exact ⟨Rd.alloc hr2 _, ⟨_, _, rfl, Nat.succ_le_of_lt (Rd.lt hr2), heap_new _ _⟩⟩
    · have hd : decide (l[i]? = some 107) = false := by simp [hk]
      have hd2 : decide (l[i]? = some 115) = false := by simp [hs]
      have hsk := skip_any w b i l 107 107 rfl h hl hi
      rw [hd] at hsk
      have HI := Lib.hid hi
      clear hd h hl
      go_enter Tryz.func62, Tryz.ntmps62
      go_wp2_with fail
      refine hsk.mono ?_
      rintro e w1 ⟨rfl, hg1, hr1⟩
      have hsk2 := skip_any w1 b i l 115 115 rfl hr1 HL.out HI.out
      rw [hd2] at hsk2
      clear hsk hd2
      go_wp2_with fail
      refine hsk2.mono ?_
      rintro e w2 ⟨rfl, hg2, hr2⟩
      have c0 : w2.cell? ⟨b, 0, none⟩ = some (str l) := cell_of_heap hr2
      have c1 : w2.cell? ⟨b, 1, none⟩ = some (.int .i64 (i : Nat)) := cell_of_heap hr2
      have hsz : (⟨l.toArray⟩ : ByteArray).size = l.length := by show l.toArray.size = _; simp
      have hi0 : (0 : Int) ≤ (i : Int) := by omega
      have hext : (⟨l.toArray⟩ : ByteArray).extract i l.length = ⟨(l.drop i).toArray⟩ := by
        rw [bytes_ext, List.take_of_length_le (by simp)]
      have hlen := HL.out
      have hnl : ∀ W, Calls Tryz.prog 74 #[str (l.drop i)] W fun e w' => e = .returned (.int .i64 (Tm.nameLen l i : Nat)) ∧ W = w' := fun W => by
        have := nameLength_any W (l.drop i) (by simp; omega)
        rw [nameLen_drop] at this
        exact this
      have hsound := Tm.nameLen_sound l i
      by_cases hz : Tm.nameLen l i = 0
      · have hfin : Tm.readAtom l i = none := by simp [Tm.readAtom, hk, hs, hz]
        rw [hz] at hnl
        have H := Lib.hid hfin
        clear hfin hsound hz hk hs
        go_wp2_with fail
        go_quiet ((go_at_call 74; exact Calls.quiet_of_same ((hnl _).mono fun e w' ⟨he, hw⟩ => ⟨he, hw.symm⟩)))
        go_wp2_with fail
        go_ret2
        exact ⟨_, by rw [H.out]; rfl, grown_trans (grown_trans hg1 hg2) (grown_drawn _ _ _), fun t j he => by rw [H.out] at he; simp at he⟩
      · obtain ⟨hok, hle⟩ := hsound hz
        obtain ⟨n, hn⟩ : ∃ n, n = Tm.nameLen l i := ⟨_, rfl⟩
        have hfin : Tm.readAtom l i = some (.nm ((l.drop i).take n), i + n) := by simp [Tm.readAtom, hk, hs, hz, hn]
        rw [← hn] at hnl hle hz
        have hz2 : ((n : Int) == 0) = false := by rw [beq_eq_false_iff_ne]; omega
        have hlo : (0 : Int) ≤ (i : Int) + (n : Int) := by omega
        have hhi : (i : Int) + (n : Int) ≤ (l.length : Int) := by omega
        have hin : (i : Int) ≤ (i : Int) + (n : Int) := by omega
        have hext2 : (⟨l.toArray⟩ : ByteArray).extract i (i + n) = ⟨((l.drop i).take n).toArray⟩ := by
          rw [bytes_ext, Nat.add_sub_cancel_left]
        have f1 : w2.frozen? ⟨b, 1, none⟩ = false := by unfold Rd at hr2; simp [World.frozen?, hr2]
        have H := Lib.hid hfin
        have HR := Lib.hid hr2
        have HI2 := Lib.hid hext2
        clear hfin hsound hz hk hs hok hn hr2
        go_wp2_with fail
        go_quiet ((go_at_call 74; exact Calls.quiet_of_same ((hnl _).mono fun e w' ⟨he, hw⟩ => ⟨he, hw.symm⟩)))
        go_wp2_with fail
        clear hext
        go_quiet (fail)
        go_wp2_with fail
        go_ret2
        have e : (i : Int) + (n : Int) = ((i + n : Nat) : Int) := by omega
        rw [e]
        refine ⟨_, by rw [H.out]; rfl, grown_trans (grown_trans (grown_trans hg1 hg2) (grown_set _ _ _ _ _)) (grown_alloc _ _ _), fun t j he => ?_⟩
        rw [H.out] at he
        simp only [Option.some.injEq, Prod.mk.injEq] at he
        obtain ⟨rfl, rfl⟩ := he
        exact ⟨Rd.alloc (Rd.set HR.out _ _) _, ⟨_, _, rfl, Nat.succ_le_of_lt (Rd.lt HR.out), heap_new_set _ _ _ _ _⟩⟩
end Go.Proofs.YtfpekihdoclncaaGreat

namespace Go.Proofs.YtfpekihdoclncaaGreat
open Go.RowKit

set_option maxHeartbeats 400000
set_option maxRecDepth 100000

theorem deep_atom (w : World) (s : List UInt8) (v : Value) (hs : s ≠ []) :
    Calls Tryz.prog 58 #[.agg #[str s, v]] w fun e w' => e = .returned (.int .i64 0) ∧ After w w' := by
  have he : s.isEmpty = false := by cases s with | nil => exact absurd rfl hs | cons => rfl
  clear hs
  go_enter Tryz.func58, Tryz.ntmps58
  go_wp2_with fail
  go_ret
  exact ⟨rfl, After.new _ _⟩

theorem deep_app (w : World) (g cap : Nat) (fr : Nat × Nat) (s0 s1 : List UInt8) (a0 a1 : Option Addr) (n0 c0 n1 c1 : Nat) (f a : Tm) (hh : w.heap[g]? = some (.cells #[str s0, .slice a0 n0 c0, str s1, .slice a1 n1 c1] 42 fr))
    (hf : ∀ W, After w W → Calls Tryz.prog 58 #[.agg #[str s0, .slice a0 n0 c0]] W fun e w' => e = .returned (.int .i64 (f.depth : Nat)) ∧ After W w')
    (ha : ∀ W, After w W → Calls Tryz.prog 58 #[.agg #[str s1, .slice a1 n1 c1]] W fun e w' => e = .returned (.int .i64 (a.depth : Nat)) ∧ After W w') (hz : f.depth + a.depth ≤ 1000000000000) :
    Calls Tryz.prog 58 #[.agg #[str [], .slice (some ⟨g, 0, none⟩) 2 cap]] w fun e w' => e = .returned (.int .i64 ((f.app a).depth : Nat)) ∧ After w w' := by
  obtain ⟨hnew, hself, b0, b1, g0, g1, g2, g3⟩ := kid_facts w g cap fr s0 s1 a0 a1 n0 c0 n1 c1 hh
  have hdd : (((f.app a).depth : Nat) : Int) = 1 + max (f.depth : Int) (a.depth : Int) := by simp only [Tm.depth]; omega
  rw [hdd]
  clear hdd
  have hw1 : IntKind.i64.wrap (1 + (f.depth : Int)) = 1 + (f.depth : Int) := IntWalk.i64_in _ (by omega)
  have hw2 : IntKind.i64.wrap (1 + (a.depth : Int)) = 1 + (a.depth : Int) := IntWalk.i64_in _ (by omega)
  have HD := Lib.hid hz
  go_enter Tryz.func58, Tryz.ntmps58
  go_wp2_with fail
  go_region_held3 (fun W' => After (w.alloc (.cells #[str [], .slice (some ⟨g, 0, none⟩) 2 cap] 42)) W') (first | assumption | exact hself.drew | go_keep)
    (first
      | (go_at_call_of 58 a0; refine (hf _ (hnew.trans (by assumption))).mono ?_; rintro e w1 ⟨rfl, hb1⟩; have hb1' := After.trans (by assumption) hb1)
      | (go_at_call_of 58 a1; refine (ha _ (hnew.trans (by assumption))).mono ?_; rintro e w2 ⟨rfl, hb2⟩; have hb2' := After.trans (by assumption) hb2))
  go_wp2_with fail
  all_goals
    go_ret
    exact ⟨congrArg Ending.returned (congrArg (Value.int .i64) (by omega)), hnew.trans hb2'⟩

theorem text_atom (w : World) (s : List UInt8) (v : Value) (hs : s ≠ []) :
    Calls Tryz.prog 39 #[.agg #[str s, v]] w fun e w' => e = .returned (str s) ∧ After w w' := by
  have he : s.isEmpty = false := by cases s with | nil => exact absurd rfl hs | cons => rfl
  clear hs
  go_enter Tryz.func39, Tryz.ntmps39
  go_wp2_with fail
  go_ret
  exact ⟨rfl, After.new _ _⟩

theorem cat (a b : ByteArray) (h : a.size + b.size ≤ 1000000000000) : ∃ c : ByteArray, c.data.toList = a.data.toList ++ b.data.toList ∧ c.size = a.size + b.size ∧ ∀ W, (Op.stringOp .add a b).run Tryz.prog W = .ok (.string c) W :=
  ⟨a ++ b, by simp, by simp, fun W => run_string_add_sum W a b (by omega)⟩

theorem text_app (w : World) (g cap : Nat) (fr : Nat × Nat) (s0 s1 : List UInt8) (a0 a1 : Option Addr) (n0 c0 n1 c1 : Nat) (f a : Tm) (hh : w.heap[g]? = some (.cells #[str s0, .slice a0 n0 c0, str s1, .slice a1 n1 c1] 42 fr))
    (hf : ∀ W, After w W → Calls Tryz.prog 39 #[.agg #[str s0, .slice a0 n0 c0]] W fun e w' => e = .returned (str f.text) ∧ After W w')
    (ha : ∀ W, After w W → Calls Tryz.prog 39 #[.agg #[str s1, .slice a1 n1 c1]] W fun e w' => e = .returned (str a.text) ∧ After W w') (hz : f.text.length + a.text.length ≤ 1000000000) :
    Calls Tryz.prog 39 #[.agg #[str [], .slice (some ⟨g, 0, none⟩) 2 cap]] w fun e w' => e = .returned (str (f.app a).text) ∧ After w w' := by
  obtain ⟨hnew, hself, b0, b1, g0, g1, g2, g3⟩ := kid_facts w g cap fr s0 s1 a0 a1 n0 c0 n1 c1 hh
  have zf : (⟨f.text.toArray⟩ : ByteArray).size = f.text.length := by show f.text.toArray.size = _; simp
  have za : (⟨a.text.toArray⟩ : ByteArray).size = a.text.length := by show a.text.toArray.size = _; simp
  have q1 : (⟨#[40]⟩ : ByteArray).size = 1 := rfl
  have q2 : (⟨#[32]⟩ : ByteArray).size = 1 := rfl
  have q3 : (⟨#[41]⟩ : ByteArray).size = 1 := rfl
  obtain ⟨t1, l1, z1, e1⟩ := cat ⟨#[40]⟩ ⟨f.text.toArray⟩ (by omega)
  obtain ⟨t2, l2, z2, e2⟩ := cat t1 ⟨#[32]⟩ (by omega)
  obtain ⟨t3, l3, z3, e3⟩ := cat t2 ⟨a.text.toArray⟩ (by omega)
  obtain ⟨t4, l4, z4, e4⟩ := cat t3 ⟨#[41]⟩ (by omega)
  have hfin : str (f.app a).text = .string t4 := by
    refine congrArg Value.string (ByteArray.ext (Array.ext' ?_))
    rw [l4, l3, l2, l1]
    simp [Tm.text]
  rw [hfin]
  clear hfin zf za q1 q2 q3 l1 l2 l3 l4 z1 z2 z3 z4

  go_enter Tryz.func39, Tryz.ntmps39
  go_wp2_with fail
  go_region_held3 (fun W' => After (w.alloc (.cells #[str [], .slice (some ⟨g, 0, none⟩) 2 cap] 42)) W') (first | assumption | exact hself.drew | go_keep)
    (first
      | (go_at_call_of 39 a0; refine (hf _ (hnew.trans (by assumption))).mono ?_; rintro e w1 ⟨rfl, hb1⟩; have hb1' := After.trans (by assumption) hb1)
      | (go_at_call_of 39 a1; refine (ha _ (hnew.trans (by assumption))).mono ?_; rintro e w2 ⟨rfl, hb2⟩; have hb2' := After.trans (by assumption) hb2))
  go_wp2_with fail
  go_ret
  exact ⟨rfl, hnew.trans hb2'⟩

theorem ST.deep {t : Tm} : ∀ {w : World} {v : Value}, ST w t v → t.good = true → t.size ≤ 1000000000 → Calls Tryz.prog 58 #[v] w fun e w' => e = .returned (.int .i64 (t.depth : Nat)) ∧ After w w' := by
  induction t with
  | k => intro w v h _ _; simp only [ST] at h; subst h; exact deep_atom w _ _ (by simp [Tm.text])
  | s => intro w v h _ _; simp only [ST] at h; subst h; exact deep_atom w _ _ (by simp [Tm.text])
  | nm n => intro w v h hg _; simp only [ST] at h; subst h; exact deep_atom w _ _ (Tm.text_ne _ hg)
  | app f a ihf iha =>
    intro w v h hg hz
    obtain ⟨g, cap, fr, s0, p0, s1, p1, rfl, hh, hf, ha⟩ := h
    simp only [Tm.good, Bool.and_eq_true] at hg
    have d1 := Tm.depth_lt f; have d2 := Tm.depth_lt a; simp only [Tm.size] at hz
    obtain ⟨x0, a0, n0, c0, e0⟩ := hf.form
    obtain ⟨x1, a1, n1, c1, e1⟩ := ha.form
    simp only [Value.agg.injEq, Array.mk.injEq, List.cons.injEq, and_true] at e0 e1
    obtain ⟨rfl, rfl⟩ := e0
    obtain ⟨rfl, rfl⟩ := e1
    exact deep_app w g cap fr x0 x1 a0 a1 n0 c0 n1 c1 f a hh (fun W hW => ihf (hf.later hW) hg.1 (by omega)) (fun W hW => iha (ha.later hW) hg.2 (by omega)) (by omega)

theorem ST.text {t : Tm} : ∀ {w : World} {v : Value}, ST w t v → t.good = true → t.text.length ≤ 100000000 → Calls Tryz.prog 39 #[v] w fun e w' => e = .returned (str t.text) ∧ After w w' := by
  induction t with
  | k => intro w v h _ _; simp only [ST] at h; subst h; exact text_atom w _ _ (by simp [Tm.text])
  | s => intro w v h _ _; simp only [ST] at h; subst h; exact text_atom w _ _ (by simp [Tm.text])
  | nm n => intro w v h hg _; simp only [ST] at h; subst h; exact text_atom w _ _ (Tm.text_ne _ hg)
  | app f a ihf iha =>
    intro w v h hg hz
    obtain ⟨g, cap, fr, s0, p0, s1, p1, rfl, hh, hf, ha⟩ := h
    simp only [Tm.good, Bool.and_eq_true] at hg
    simp only [Tm.text, List.length_cons, List.length_append, List.length_nil] at hz
    obtain ⟨x0, a0, n0, c0, e0⟩ := hf.form
    obtain ⟨x1, a1, n1, c1, e1⟩ := ha.form
    simp only [Value.agg.injEq, Array.mk.injEq, List.cons.injEq, and_true] at e0 e1
    obtain ⟨rfl, rfl⟩ := e0
    obtain ⟨rfl, rfl⟩ := e1
    exact text_app w g cap fr x0 x1 a0 a1 n0 c0 n1 c1 f a hh (fun W hW => ihf (hf.later hW) hg.1 (by omega)) (fun W hW => iha (ha.later hW) hg.2 (by omega)) (by omega)

theorem ST.fine {t : Tm} {w : World} {v : Value} (h : ST w t v) (hg : t.good = true) (hz : t.size ≤ 1000000000) :
    Calls Tryz.prog 37 #[v] w fun e w' => e = .returned (.bool t.fits) ∧ After w w' := by
  obtain ⟨x, ao, n, c, rfl⟩ := h.form
  have hnew := After.new w (.cells #[str x, .slice ao n c] 42)
  have hbox := heap_new' w (.cells #[str x, .slice ao n c] 42)
  have b0 : ∀ W, After (w.alloc (.cells #[str x, .slice ao n c] 42)) W → W.cell? ⟨w.heap.size, 0, none⟩ = some (str x) := fun W hW => hW.cell (cell_of_heap hbox)
  have b1 : ∀ W, After (w.alloc (.cells #[str x, .slice ao n c] 42)) W → W.cell? ⟨w.heap.size, 1, none⟩ = some (.slice ao n c) := fun W hW => hW.cell (cell_of_heap hbox)
  have hself := After.refl (w.alloc (.cells #[str x, .slice ao n c] 42))
  have hsize : ∀ W, After (w.alloc (.cells #[str x, .slice ao n c] 42)) W → Calls Tryz.prog 35 #[.agg #[str x, .slice ao n c]] W fun e w' => e = .returned (.int .i64 (t.size : Nat)) ∧ After (w.alloc (.cells #[str x, .slice ao n c] 42)) w' :=
    fun W hW => ((h.later (hnew.trans hW)).size hg hz).mono fun e w' ⟨he, hb⟩ => ⟨he, hW.trans hb⟩
  have hdeep : ∀ W, After (w.alloc (.cells #[str x, .slice ao n c] 42)) W → Calls Tryz.prog 58 #[.agg #[str x, .slice ao n c]] W fun e w' => e = .returned (.int .i64 (t.depth : Nat)) ∧ After (w.alloc (.cells #[str x, .slice ao n c] 42)) w' :=
    fun W hW => ((h.later (hnew.trans hW)).deep hg hz).mono fun e w' ⟨he, hb⟩ => ⟨he, hW.trans hb⟩
  clear hbox
  by_cases h1 : t.size ≤ 3000
  · by_cases h2 : t.depth ≤ 1500
    · have hf : t.fits = true := by simp [Tm.fits, h1, h2]
      rw [hf]
      clear hf
      go_enter Tryz.func37, Tryz.ntmps37
      go_wp2_with (first
        | (go_at_call 35; refine (hsize _ (by assumption)).mono ?_; rintro e w1 ⟨rfl, hb⟩)
        | (go_at_call 58; refine (hdeep _ (by assumption)).mono ?_; rintro e w1 ⟨rfl, hb⟩))
      go_ret
      exact ⟨by simp; omega, hnew.trans hb⟩
    · have hf : t.fits = false := by simp [Tm.fits, h2]
      rw [hf]
      clear hf
      go_enter Tryz.func37, Tryz.ntmps37
      go_wp2_with (first
        | (go_at_call 35; refine (hsize _ (by assumption)).mono ?_; rintro e w1 ⟨rfl, hb⟩)
        | (go_at_call 58; refine (hdeep _ (by assumption)).mono ?_; rintro e w1 ⟨rfl, hb⟩))
      go_ret
      exact ⟨by simp; omega, hnew.trans hb⟩
  · have hf : t.fits = false := by simp [Tm.fits, h1]
    rw [hf]
    clear hf
    go_enter Tryz.func37, Tryz.ntmps37
    go_wp2_with (first
      | (go_at_call 35; refine (hsize _ (by assumption)).mono ?_; rintro e w1 ⟨rfl, hb⟩)
      | (go_at_call 58; refine (hdeep _ (by assumption)).mono ?_; rintro e w1 ⟨rfl, hb⟩))
    go_ret
    exact ⟨by simp, hnew.trans hb⟩
end Go.Proofs.YtfpekihdoclncaaGreat
