/-
  The reader of the program: skip, nameLength, readAtom, read, readTerm.
-/
import Derived.Test.YtjfdindlfakmcaaPkA
import Derived.Deep.QuietTactic
import Derived.BigQuiet
namespace Go.Proofs.Ytjfdindlfakmcaa
open Go.RowKit

set_option maxHeartbeats 400000
set_option maxRecDepth 100000

/-- The reader lies in block b: the text and the place. -/
def Rd (w : World) (b : Nat) (l : List UInt8) (i : Nat) : Prop := w.heap[b]? = some (.cells #[str l, .int .i64 i] 83 (0, 0))

theorem Rd.set {w : World} {b i : Nat} {l : List UInt8} (h : Rd w b l i) (m j : Nat) : Rd ((w.drewN m).setCell ⟨b, 1, none⟩ (.int .i64 j)) b l j := by
  unfold Rd at *
  simp [World.setCell, Array.getElem?_modify, h]

theorem Rd.drawn {w : World} {b i : Nat} {l : List UInt8} (h : Rd w b l i) (m : Nat) : Rd (w.drewN m) b l i := h

theorem grown_drawn (w : World) (b m : Nat) : w.grownBy (w.drewN m) (some b) := ⟨rfl, rfl, rfl, Nat.le_refl _, fun _ _ _ => rfl⟩

theorem grown_set (w : World) (b m i : Nat) (v : Value) : w.grownBy ((w.drewN m).setCell ⟨b, i, none⟩ v) (some b) := by
  refine ⟨rfl, rfl, rfl, by simp [World.setCell], fun k hk hne => ?_⟩
  have : b ≠ k := fun e => hne (e ▸ rfl)
  simp [World.setCell, Array.getElem?_modify, this]

def SkipPost (w : World) (b : Nat) (l : List UInt8) (i : Nat) (r : Bool) (e : Ending) (w' : World) : Prop :=
  e = .returned (.bool r) ∧ w.grownBy w' (some b) ∧ Rd w' b l (if r then i + 1 else i)

theorem byte_at (l : List UInt8) (i : Nat) (_h : i < l.length) (h' : i < (⟨l.toArray⟩ : ByteArray).size) : (⟨l.toArray⟩ : ByteArray)[i]'h' = l[i] := rfl

theorem byte_ne (x y : UInt8) : ((x.toNat : Int) != (y.toNat : Int)) = (x != y) := by
  rw [Bool.eq_iff_iff]
  simp only [bne_iff_ne, ne_eq, Int.natCast_inj]
  constructor
  · exact fun h e => h (e ▸ rfl)
  · exact fun h e => h (UInt8.toNat_inj.1 e)

theorem ended_any (w : World) (b i : Nat) (l : List UInt8) (c0 : w.cell? ⟨b, 0, none⟩ = some (str l)) (c1 : w.cell? ⟨b, 1, none⟩ = some (.int .i64 (i : Nat))) (_hl : l.length ≤ 1000000000) :
    Calls Try.prog 36 #[.pointer (some ⟨b, 0, none⟩)] w fun e w' => e = .returned (.bool (decide (i = l.length))) ∧ ∃ m, w' = w.drewN m := by
  have hsz : (⟨l.toArray⟩ : ByteArray).size = l.length := by show l.toArray.size = _; simp
  by_cases hie : i = l.length
  · have hr : decide (i = l.length) = true := by simp [hie]
    rw [hr]
    subst hie
    clear hr
    go_enter Try.func36, Try.ntmps36
    go_wp2_with fail
    go_quiet (fail)
    go_wp2_with fail
    go_ret
    exact ⟨rfl, _, rfl⟩
  · have hr : decide (i = l.length) = false := by simp [hie]
    rw [hr]
    have hne : ((i : Int) == (l.length : Int)) = false := by rw [beq_eq_false_iff_ne]; omega
    clear hr
    go_enter Try.func36, Try.ntmps36
    go_wp2_with fail
    go_quiet (fail)
    go_wp2_with fail
    go_ret
    exact ⟨rfl, _, rfl⟩

/-- What skip leaves in the cells of its block. -/
def SkipOn (w : World) (b : Nat) (cs : Array Value) (T : TypeId) (i : Nat) (r : Bool) (e : Ending) (w' : World) : Prop :=
  e = .returned (.bool r) ∧ w.grownBy w' (some b) ∧ w'.heap[b]? = some (.cells (if r then cs.setIfInBounds 1 (.int .i64 ((i + 1 : Nat) : Int)) else cs) T (0, 0))

theorem skip_on (w : World) (b i : Nat) (l : List UInt8) (n : Int) (c : UInt8) (hn : n = c.toNat) (cs : Array Value) (T : TypeId) (h : w.heap[b]? = some (.cells cs T (0, 0))) (h0 : cs[0]? = some (str l)) (h1 : cs[1]? = some (.int .i64 (i : Nat))) (hl : l.length ≤ 1000000000) (hi : i ≤ l.length) :
    Calls Try.prog 43 #[.pointer (some ⟨b, 0, none⟩), .int .u8 n] w (SkipOn w b cs T i (decide (l[i]? = some c))) := by
  have c0 : w.cell? ⟨b, 0, none⟩ = some (str l) := by rw [cell_of_heap h]; exact h0
  have c1 : w.cell? ⟨b, 1, none⟩ = some (.int .i64 (i : Nat)) := by rw [cell_of_heap h]; exact h1
  have f1 : w.frozen? ⟨b, 1, none⟩ = false := by simp [World.frozen?, h]
  have hsz : (⟨l.toArray⟩ : ByteArray).size = l.length := by show l.toArray.size = _; simp
  have hi0 : (0 : Int) ≤ (i : Int) := by omega
  have hend := fun m => ended_any (w.drewN m) b i l c0 c1 hl
  have HR := Lib.hid h
  subst hn
  clear h h0 h1
  by_cases hie : i = l.length
  · subst hie
    have hr : decide (l[l.length]? = some c) = false := by simp
    have hd : decide (l.length = l.length) = true := by simp
    rw [hr]
    rw [hd] at hend
    clear hr hd
    go_enter Try.func43, Try.ntmps43
    go_wp2_with fail
    go_quiet ((go_at_call 36; exact Calls.quiet_of (hend _)))
    go_wp2_with fail
    go_ret
    exact ⟨rfl, grown_drawn _ _ _, HR.out⟩
  · have hlt : i < l.length := by omega
    have hd : decide (i = l.length) = false := by simp [hie]
    rw [hd] at hend
    have hi1 : (i : Int) < (l.length : Int) := by omega
    have hg : l[i]? = some l[i] := List.getElem?_eq_getElem hlt
    have hb := byte_ne l[i] c
    have hat := byte_at l i hlt (by rw [hsz]; exact hlt)
    clear hd hie
    by_cases hc : l[i] = c
    · have hr : decide (l[i]? = some c) = true := by rw [hg, hc]; simp
      rw [hr]
      have hb2 : (((⟨l.toArray⟩ : ByteArray)[i]'(by rw [hsz]; exact hlt)).toNat : Int) = (c.toNat : Int) := by rw [hat, hc]
      clear hr hg hb hat hc
      go_enter Try.func43, Try.ntmps43
      go_wp2_with fail
      go_quiet ((go_at_call 36; exact Calls.quiet_of (hend _)))
      go_wp2_with fail
      go_ret
      refine ⟨rfl, grown_set _ _ _ _ _, ?_⟩
      have := HR.out
      simp [World.setCell, Array.getElem?_modify, this]
    · have hr : decide (l[i]? = some c) = false := by rw [hg]; simp [hc]
      rw [hr]
      have hb2 : (((((⟨l.toArray⟩ : ByteArray)[i]'(by rw [hsz]; exact hlt)).toNat : Int) != (c.toNat : Int))) = true := by rw [hat, hb]; simpa using hc
      clear hr hg hb hat hc
      go_enter Try.func43, Try.ntmps43
      go_wp2_with fail
      go_quiet ((go_at_call 36; exact Calls.quiet_of (hend _)))
      go_wp2_with fail
      go_ret
      exact ⟨rfl, grown_drawn _ _ _, HR.out⟩

theorem skip_any (w : World) (b i : Nat) (l : List UInt8) (n : Int) (c : UInt8) (hn : n = c.toNat) (h : Rd w b l i) (hl : l.length ≤ 1000000000) (hi : i ≤ l.length) :
    Calls Try.prog 43 #[.pointer (some ⟨b, 0, none⟩), .int .u8 n] w (SkipPost w b l i (decide (l[i]? = some c))) := by
  refine (skip_on w b i l n c hn _ _ h rfl rfl hl hi).mono ?_
  rintro e w' ⟨he, hg, hh⟩
  refine ⟨he, hg, ?_⟩
  generalize decide (l[i]? = some c) = r at *
  cases r
  · exact hh
  · exact hh

/-! ### the length of a name -/

theorem lead_int (c : UInt8) : Tm.lead c = true ↔ (117 : Int) ≤ (c.toNat : Int) ∧ (c.toNat : Int) ≤ 122 := by
  simp only [Tm.lead, Bool.and_eq_true, decide_eq_true_eq, UInt8.le_iff_toNat_le]
  have h1 : (117 : UInt8).toNat = 117 := rfl
  have h2 : (122 : UInt8).toNat = 122 := rfl
  omega
theorem dig_int (c : UInt8) : Tm.dig c = true ↔ (48 : Int) ≤ (c.toNat : Int) ∧ (c.toNat : Int) ≤ 57 := by
  simp only [Tm.dig, Bool.and_eq_true, decide_eq_true_eq, UInt8.le_iff_toNat_le]
  have h1 : (48 : UInt8).toNat = 48 := rfl
  have h2 : (57 : UInt8).toNat = 57 := rfl
  omega

theorem nameLength_any (w : World) (l : List UInt8) (hl : l.length ≤ 1000000000) :
    Calls Try.prog 48 #[str l] w fun e w' => e = .returned (.int .i64 (Tm.nameLen l 0 : Nat)) ∧ w = w' := by
  have hsz : (⟨l.toArray⟩ : ByteArray).size = l.length := by show l.toArray.size = _; simp
  cases hcs : l with
  | nil =>
    go_enter Try.func48, Try.ntmps48
    go_wp2_with fail
    go_ret
    exact ⟨by simp [Tm.nameLen], rfl⟩
  | cons c ds =>
    rw [← hcs]
    have hpos : 0 < l.length := by rw [hcs]; simp
    have h0 : l[0] = c := by simp [hcs]
    have hat := byte_at l 0 hpos (by rw [hsz]; exact hpos)
    rw [h0] at hat
    have hemp : l.isEmpty = false := by rw [hcs]; rfl
    have hget : l[0]? = some c := by simp [hcs]
    clear hcs h0
    by_cases hlead : Tm.lead c = true
    · have hfin : Tm.nameLen l 0 = 1 + Tm.digs l 3 1 := by simp [Tm.nameLen, hget, hlead]
      have HF := Lib.hid hfin
      obtain ⟨hl1, hl2⟩ := (lead_int c).1 hlead
      clear hfin hget hlead
      go_enter Try.func48, Try.ntmps48
      go_wp2_with fail
      go_loop [3] (fun n => ∃ k : Nat, 1 ≤ k ∧ k ≤ 4 ∧ k ≤ l.length ∧ n = .int .i64 k ∧ Hid (Tm.nameLen l 0 = k + Tm.digs l (4 - k) k)) (fun n => (5 - intOf n).toNat)
      case atStart => exact ⟨1, by omega, by omega, by omega, rfl, HF⟩
      case round =>
        obtain ⟨k, hk1, hk4, hkl, rfl, hk⟩ := hrel
        have hexit : (Tm.digs l (4 - k) k = 0) → Tm.nameLen l 0 = k := fun h => by rw [hk.out, h, Nat.add_zero]
        have HX := Lib.hid hexit
        clear hexit hat
        by_cases hlt : k < l.length
        · have hatk := byte_at l k hlt (by rw [hsz]; exact hlt)
          have hgetk : l[k]? = some l[k] := List.getElem?_eq_getElem hlt
          by_cases h3 : k ≤ 3
          · by_cases hd : Tm.dig l[k] = true
            · have hstep : Tm.nameLen l 0 = (k + 1) + Tm.digs l (4 - (k + 1)) (k + 1) := by
                rw [hk.out, show 4 - k = (4 - (k + 1)) + 1 by omega, Tm.digs, hgetk]; simp [hd]; omega
              have HS := Lib.hid hstep
              obtain ⟨hd1, hd2⟩ := (dig_int _).1 hd
              rw [← hatk] at hd1 hd2
              clear hstep hd hgetk hatk hk
              go_wp2_with fail
              go_round
              case rel => exact ⟨k + 1, by omega, by omega, by omega, by go_num, HS⟩
              case measure => simp [intOf]; omega
            · have hfin := HX.out (by rw [show 4 - k = (3 - k) + 1 by omega, Tm.digs, hgetk]; simp [hd])
              have HS := Lib.hid hfin
              rw [dig_int, ← hatk] at hd
              clear hfin hgetk hatk hk
              by_cases hd1 : (48 : Int) ≤ (((⟨l.toArray⟩ : ByteArray)[k]'(by rw [hsz]; exact hlt)).toNat : Int)
              · have hd2 : ¬ (((⟨l.toArray⟩ : ByteArray)[k]'(by rw [hsz]; exact hlt)).toNat : Int) ≤ 57 := fun h => hd ⟨hd1, h⟩
                clear hd
                go_wp2_with fail
                go_ret
                exact ⟨by rw [HS.out]; rfl, rfl⟩
              · clear hd
                go_wp2_with fail
                go_ret
                exact ⟨by rw [HS.out]; rfl, rfl⟩
          · have hfin := HX.out (by rw [show 4 - k = 0 by omega, Tm.digs])
            have HS := Lib.hid hfin
            clear hfin hgetk hatk hk
            go_wp2_with fail
            go_ret
            exact ⟨by rw [HS.out]; rfl, rfl⟩
        · have hfin := HX.out (by
            cases h4 : 4 - k with
            | zero => rw [Tm.digs]
            | succ m => rw [Tm.digs, List.getElem?_eq_none (by omega)])
          have HS := Lib.hid hfin
          clear hfin hk
          go_wp2_with fail
          go_ret
          exact ⟨by rw [HS.out]; rfl, rfl⟩
    · have hfin : Tm.nameLen l 0 = 0 := by simp [Tm.nameLen, hget, hlead]
      rw [hfin]
      rw [lead_int] at hlead
      clear hfin hget
      by_cases h1 : (c.toNat : Int) < 117
      · go_enter Try.func48, Try.ntmps48
        go_wp2_with fail
        go_ret
        exact ⟨rfl, rfl⟩
      · have h2 : (122 : Int) < (c.toNat : Int) := by omega
        clear hlead
        go_enter Try.func48, Try.ntmps48
        go_wp2_with fail
        go_ret
        exact ⟨rfl, rfl⟩
end Go.Proofs.Ytjfdindlfakmcaa

namespace Go.Proofs.Ytjfdindlfakmcaa
open Go.RowKit

set_option maxHeartbeats 400000
set_option maxRecDepth 100000

def AtomPost (w : World) (b : Nat) (l : List UInt8) (r : Option (Tm × Nat)) (e : Ending) (w' : World) : Prop :=
  ∃ v, e = .returned (.tuple #[v, .bool r.isSome]) ∧ w.grownBy w' (some b) ∧ ∀ t j, r = some (t, j) → Rd w' b l j ∧ TV w' (b + 1) t v

theorem grown_trans {w w' w'' : World} {b : Nat} (h : w.grownBy w' (some b)) (g : w'.grownBy w'' (some b)) : w.grownBy w'' (some b) :=
  ⟨g.os.trans h.os, g.tape.trans h.tape, g.output.trans h.output, Nat.le_trans h.size g.size, fun k hk hne => (g.block k (Nat.lt_of_lt_of_le hk h.size) hne).trans (h.block k hk hne)⟩

theorem grown_alloc (w : World) (b : Nat) (o : Obj) : w.grownBy (w.alloc o) (some b) := ⟨rfl, rfl, rfl, by simp, fun k hk _ => Below.heap_alloc _ _ _ hk⟩

theorem Rd.alloc {w : World} {b i : Nat} {l : List UInt8} (h : Rd w b l i) (o : Obj) : Rd (w.alloc o) b l i := by
  unfold Rd at *
  rw [Below.heap_alloc _ _ _ (Array.getElem?_eq_some_iff.1 h).1]; exact h

theorem Rd.lt {w : World} {b i : Nat} {l : List UInt8} (h : Rd w b l i) : b < w.heap.size := (Array.getElem?_eq_some_iff.1 h).1

theorem heap_new (w : World) (o : Obj) : (w.alloc o).heap[w.heap.size]? = some o := by
  show (w.heap.push _)[_]? = _
  simp

theorem heap_new_set (w : World) (m : Nat) (a : Addr) (v : Value) (o : Obj) : (((w.drewN m).setCell a v).alloc o).heap[w.heap.size]? = some o := by
  have h : ((w.drewN m).setCell a v).heap.size = w.heap.size := by simp [World.setCell]
  rw [← h]
  exact heap_new _ _

theorem bytes_ext (l : List UInt8) (i j : Nat) : (⟨l.toArray⟩ : ByteArray).extract i j = ⟨((l.drop i).take (j - i)).toArray⟩ := by
  apply ByteArray.ext
  simp [ByteArray.data_extract]

theorem digs_drop (l : List UInt8) (i m k : Nat) : Tm.digs (l.drop i) m k = Tm.digs l m (i + k) := by
  induction m generalizing k with
  | zero => rfl
  | succ m ih =>
    simp only [Tm.digs, List.getElem?_drop]
    rw [ih (k + 1)]
    rfl

theorem nameLen_drop (l : List UInt8) (i : Nat) : Tm.nameLen (l.drop i) 0 = Tm.nameLen l i := by
  simp only [Tm.nameLen, List.getElem?_drop, Nat.add_zero]
  rw [digs_drop]

theorem readAtom_any (w : World) (b i : Nat) (l : List UInt8) (h : Rd w b l i) (hl : l.length ≤ 1000000000) (hi : i ≤ l.length) :
    Calls Try.prog 44 #[.pointer (some ⟨b, 0, none⟩)] w (AtomPost w b l (Tm.readAtom l i)) := by
  have HL := Lib.hid hl
  by_cases hk : l[i]? = some 107
  · have hfin : Tm.readAtom l i = some (.k, i + 1) := by simp [Tm.readAtom, hk]
    rw [hfin]
    have hd : decide (l[i]? = some 107) = true := by simp [hk]
    have hsk := skip_any w b i l 107 107 rfl h hl hi
    rw [hd] at hsk
    clear hd hk hfin hi hl h
    go_enter Try.func44, Try.ntmps44
    go_wp2_with (go_at_call 43; refine hsk.mono ?_; rintro e w1 ⟨rfl, hg1, hr1⟩)
    go_ret2
    refine ⟨_, rfl, grown_trans hg1 (grown_alloc _ _ _), fun t j he => ?_⟩
    simp only [Option.some.injEq, Prod.mk.injEq] at he
    obtain ⟨rfl, rfl⟩ := he
    exact ⟨Rd.alloc hr1 _, ⟨_, _, rfl, Nat.succ_le_of_lt (Rd.lt hr1), heap_new _ _⟩⟩
  · by_cases hs : l[i]? = some 115
    · have hfin : Tm.readAtom l i = some (.s, i + 1) := by simp [Tm.readAtom, hs]
      rw [hfin]
      have hd : decide (l[i]? = some 107) = false := by simp [hk]
      have hd2 : decide (l[i]? = some 115) = true := by simp [hs]
      have hsk := skip_any w b i l 107 107 rfl h hl hi
      rw [hd] at hsk
      have HI := Lib.hid hi
      clear hd hk hs hfin hi hl h
      go_enter Try.func44, Try.ntmps44
      go_wp2_with fail
      refine hsk.mono ?_
      rintro e w1 ⟨rfl, hg1, hr1⟩
      have hsk2 := skip_any w1 b i l 115 115 rfl hr1 HL.out HI.out
      rw [hd2] at hsk2
      clear hsk hd2
      go_wp2_with fail
      refine hsk2.mono ?_
      rintro e w2 ⟨rfl, hg2, hr2⟩
      go_wp2_with fail
      go_ret2
      refine ⟨_, rfl, grown_trans (grown_trans hg1 hg2) (grown_alloc _ _ _), fun t j he => ?_⟩
      simp only [Option.some.injEq, Prod.mk.injEq] at he
      obtain ⟨rfl, rfl⟩ := he
      exact ⟨Rd.alloc hr2 _, ⟨_, _, rfl, Nat.succ_le_of_lt (Rd.lt hr2), heap_new _ _⟩⟩
    · have hd : decide (l[i]? = some 107) = false := by simp [hk]
      have hd2 : decide (l[i]? = some 115) = false := by simp [hs]
      have hsk := skip_any w b i l 107 107 rfl h hl hi
      rw [hd] at hsk
      have HI := Lib.hid hi
      clear hd h hl
      go_enter Try.func44, Try.ntmps44
      go_wp2_with fail
      refine hsk.mono ?_
      rintro e w1 ⟨rfl, hg1, hr1⟩
      have hsk2 := skip_any w1 b i l 115 115 rfl hr1 HL.out HI.out
      rw [hd2] at hsk2
      clear hsk hd2
      go_wp2_with fail
      refine hsk2.mono ?_
      rintro e w2 ⟨rfl, hg2, hr2⟩
      have c0 : w2.cell? ⟨b, 0, none⟩ = some (str l) := cell_of_heap hr2
      have c1 : w2.cell? ⟨b, 1, none⟩ = some (.int .i64 (i : Nat)) := cell_of_heap hr2
      have hsz : (⟨l.toArray⟩ : ByteArray).size = l.length := by show l.toArray.size = _; simp
      have hi0 : (0 : Int) ≤ (i : Int) := by omega
      have hext : (⟨l.toArray⟩ : ByteArray).extract i l.length = ⟨(l.drop i).toArray⟩ := by
        rw [bytes_ext, List.take_of_length_le (by simp)]
      have hlen := HL.out
      have hnl : ∀ W, Calls Try.prog 48 #[str (l.drop i)] W fun e w' => e = .returned (.int .i64 (Tm.nameLen l i : Nat)) ∧ W = w' := fun W => by
        have := nameLength_any W (l.drop i) (by simp; omega)
        rw [nameLen_drop] at this
        exact this
      have hsound := Tm.nameLen_sound l i
      by_cases hz : Tm.nameLen l i = 0
      · have hfin : Tm.readAtom l i = none := by simp [Tm.readAtom, hk, hs, hz]
        rw [hz] at hnl
        have H := Lib.hid hfin
        clear hfin hsound hz hk hs
        go_wp2_with fail
        go_quiet ((go_at_call 48; exact Calls.quiet_of_same ((hnl _).mono fun e w' ⟨he, hw⟩ => ⟨he, hw.symm⟩)))
        go_wp2_with fail
        go_ret2
        exact ⟨_, by rw [H.out]; rfl, grown_trans (grown_trans hg1 hg2) (grown_drawn _ _ _), fun t j he => by rw [H.out] at he; simp at he⟩
      · obtain ⟨hok, hle⟩ := hsound hz
        obtain ⟨n, hn⟩ : ∃ n, n = Tm.nameLen l i := ⟨_, rfl⟩
        have hfin : Tm.readAtom l i = some (.nm ((l.drop i).take n), i + n) := by simp [Tm.readAtom, hk, hs, hz, hn]
        rw [← hn] at hnl hle hz
        have hz2 : ((n : Int) == 0) = false := by rw [beq_eq_false_iff_ne]; omega
        have hlo : (0 : Int) ≤ (i : Int) + (n : Int) := by omega
        have hhi : (i : Int) + (n : Int) ≤ (l.length : Int) := by omega
        have hin : (i : Int) ≤ (i : Int) + (n : Int) := by omega
        have hext2 : (⟨l.toArray⟩ : ByteArray).extract i (i + n) = ⟨((l.drop i).take n).toArray⟩ := by
          rw [bytes_ext, Nat.add_sub_cancel_left]
        have f1 : w2.frozen? ⟨b, 1, none⟩ = false := by unfold Rd at hr2; simp [World.frozen?, hr2]
        have H := Lib.hid hfin
        have HR := Lib.hid hr2
        have HI2 := Lib.hid hext2
        clear hfin hsound hz hk hs hok hn hr2
        go_wp2_with fail
        go_quiet ((go_at_call 48; exact Calls.quiet_of_same ((hnl _).mono fun e w' ⟨he, hw⟩ => ⟨he, hw.symm⟩)))
        go_wp2_with fail
        clear hext
        go_quiet (fail)
        go_wp2_with fail
        go_ret2
        have e : (i : Int) + (n : Int) = ((i + n : Nat) : Int) := by omega
        rw [e]
        refine ⟨_, by rw [H.out]; rfl, grown_trans (grown_trans (grown_trans hg1 hg2) (grown_set _ _ _ _ _)) (grown_alloc _ _ _), fun t j he => ?_⟩
        rw [H.out] at he
        simp only [Option.some.injEq, Prod.mk.injEq] at he
        obtain ⟨rfl, rfl⟩ := he
        exact ⟨Rd.alloc (Rd.set HR.out _ _) _, ⟨_, _, rfl, Nat.succ_le_of_lt (Rd.lt HR.out), heap_new_set _ _ _ _ _⟩⟩
end Go.Proofs.Ytjfdindlfakmcaa

namespace Go.Proofs.Ytjfdindlfakmcaa
open Go.RowKit

set_option maxHeartbeats 400000
set_option maxRecDepth 100000

theorem TV.grown {w w' : World} {b : Nat} {t : Tm} {v : Value} (h : TV w (b + 1) t v) (hg : w.grownBy w' (some b)) : TV w' (b + 1) t v :=
  h.same fun k hk hl => hg.block k hl (fun e => by injection e with e; omega)

theorem size_le_text (t : Tm) (h : t.good = true) : t.size ≤ t.text.length := by
  induction t with
  | nm n => simp only [Tm.good] at h; cases n with
    | nil => simp [Tm.nameOk] at h
    | cons c ds => simp [Tm.size, Tm.text]
  | app f a ihf iha => simp only [Tm.good, Bool.and_eq_true] at h; have := ihf h.1; have := iha h.2; simp [Tm.size, Tm.text]; omega
  | _ => simp [Tm.size, Tm.text]

theorem reads_size {l : List UInt8} {d i j : Nat} {t : Tm} (h : Tm.Reads l d i t j) : t.size ≤ l.length ∧ j ≤ l.length := by
  obtain ⟨h1, h2, h3, h4, h5⟩ := h
  have := size_le_text t h4
  have e := congrArg List.length h1
  simp at e
  omega

theorem AtomPost.no {w w' : World} {b : Nat} {l : List UInt8} {r : Option (Tm × Nat)} (hr : r = none) (hg : w.grownBy w' (some b)) (v : Value) : AtomPost w b l r (.returned (.tuple #[v, .bool false])) w' :=
  ⟨v, by rw [hr]; rfl, hg, fun t j he => by rw [hr] at he; simp at he⟩

theorem read_any (l : List UInt8) (hl : l.length ≤ 1000000000) : ∀ (d : Nat) (a : Int) (w : World) (b i : Nat), Rd w b l i → i ≤ l.length → a + d = 1501 → d ≤ 1501 →
    Calls Try.prog 35 #[.pointer (some ⟨b, 0, none⟩), .int .i64 a] w (AtomPost w b l (Tm.read l d i)) := by
  intro d
  induction d with
  | zero =>
    intro a w b i h hi ha _
    have h1 : (1500 : Int) < a := by omega
    go_enter Try.func35, Try.ntmps35
    go_wp2_with fail
    go_ret2
    exact AtomPost.no rfl (grown_drawn w b 0) _
  | succ d ih =>
    intro a w b i h hi ha hd
    have h1 : a ≤ 1500 := by omega
    have h2 : 0 ≤ a := by omega
    have hsk := skip_any w b i l 40 40 rfl h hl hi
    by_cases h0 : l[i]? = some 40
    · have hdec : decide (l[i]? = some 40) = true := by simp [h0]
      rw [hdec] at hsk
      have hi1 : i + 1 ≤ l.length := (List.getElem?_eq_some_iff.1 h0).1
      cases hf : Tm.read l d (i + 1) with
      | none =>
        have hfin : Tm.read l (d + 1) i = none := by simp [Tm.read, h0, hf]
        have H := Lib.hid hfin
        have HF := Lib.hid hf
        have HA := Lib.hid ha
        have HIH := Lib.hid ih
        clear hfin hf ha ih hdec h0 h hi
        go_enter Try.func35, Try.ntmps35
        go_wp2_with fail
        refine hsk.mono ?_
        rintro e w1 ⟨rfl, hg1, hr1⟩
        go_wp2_with fail
        refine (HIH.out (a + 1) _ b (i + 1) hr1 hi1 (by have := HA.out; omega) (by omega)).mono ?_
        rintro e w2 ⟨v2, rfl, hg2, hr2⟩
        rw [HF.out]
        clear hr2
        go_wp2_with fail
        go_ret2
        exact AtomPost.no H.out (grown_trans hg1 hg2) _
      | some p =>
        obtain ⟨f, j⟩ := p
        obtain ⟨zf, hj⟩ := reads_size (Tm.read_sound hf)
        have H0 := Lib.hid h0
        have HF := Lib.hid hf
        have HA := Lib.hid ha
        have HIH := Lib.hid ih
        clear hf ha ih hdec h0 h hi
        by_cases h32 : l[j]? = some 32
        · have hj1 : j + 1 ≤ l.length := (List.getElem?_eq_some_iff.1 h32).1
          have hdec : decide (l[j]? = some 32) = true := by simp [h32]
          have HD := Lib.hid hdec
          cases hq : Tm.read l d (j + 1) with
          | none =>
            have hfin : Tm.read l (d + 1) i = none := by simp [Tm.read, H0.out, HF.out, h32, hq]
            have H := Lib.hid hfin
            have HQ := Lib.hid hq
            clear hfin hq hdec h32
            go_enter Try.func35, Try.ntmps35
            go_wp2_with fail
            refine hsk.mono ?_
            rintro e w1 ⟨rfl, hg1, hr1⟩
            go_wp2_with fail
            refine (HIH.out (a + 1) _ b (i + 1) hr1 hi1 (by have := HA.out; omega) (by omega)).mono ?_
            rintro e w2 ⟨v2, rfl, hg2, hr2⟩
            rw [HF.out]
            obtain ⟨hr2, ht2⟩ := hr2 f j HF.out
            have hsk2 := skip_any w2 b j l 32 32 rfl hr2 hl hj
            rw [HD.out] at hsk2
            go_wp2_with fail
            refine hsk2.mono ?_
            rintro e w3 ⟨rfl, hg3, hr3⟩
            clear hsk hsk2
            go_wp2_with fail
            refine (HIH.out (a + 1) _ b (j + 1) hr3 hj1 (by have := HA.out; omega) (by omega)).mono ?_
            rintro e w4 ⟨v4, rfl, hg4, hr4⟩
            rw [HQ.out]
            clear hr4
            go_wp2_with fail
            go_ret2
            exact AtomPost.no H.out (grown_trans (grown_trans hg1 hg2) (grown_trans hg3 hg4)) _
          | some p =>
            obtain ⟨g, m⟩ := p
            obtain ⟨zg, hm⟩ := reads_size (Tm.read_sound hq)
            by_cases h41 : l[m]? = some 41
            · have hdec2 : decide (l[m]? = some 41) = true := by simp [h41]
              have hfin : Tm.read l (d + 1) i = some (f.app g, m + 1) := by simp [Tm.read, H0.out, HF.out, h32, hq, h41]
              have H := Lib.hid hfin
              have HQ := Lib.hid hq
              have HD2 := Lib.hid hdec2
              clear hfin hq hdec h32 hdec2 h41
              go_enter Try.func35, Try.ntmps35
              go_wp2_with fail
              refine hsk.mono ?_
              rintro e w1 ⟨rfl, hg1, hr1⟩
              go_wp2_with fail
              refine (HIH.out (a + 1) _ b (i + 1) hr1 hi1 (by have := HA.out; omega) (by omega)).mono ?_
              rintro e w2 ⟨v2, rfl, hg2, hr2⟩
              rw [HF.out]
              obtain ⟨hr2, ht2⟩ := hr2 f j HF.out
              have hsk2 := skip_any w2 b j l 32 32 rfl hr2 hl hj
              rw [HD.out] at hsk2
              go_wp2_with fail
              refine hsk2.mono ?_
              rintro e w3 ⟨rfl, hg3, hr3⟩
              clear hsk hsk2
              go_wp2_with fail
              refine (HIH.out (a + 1) _ b (j + 1) hr3 hj1 (by have := HA.out; omega) (by omega)).mono ?_
              rintro e w4 ⟨v4, rfl, hg4, hr4⟩
              rw [HQ.out]
              obtain ⟨hr4, ht4⟩ := hr4 g m HQ.out
              have hsk3 := skip_any w4 b m l 41 41 rfl hr4 hl hm
              rw [HD2.out] at hsk3
              go_wp2_with fail
              refine hsk3.mono ?_
              rintro e w5 ⟨rfl, hg5, hr5⟩
              clear hsk3
              have htf := ((ht2.grown hg3).grown hg4).grown hg5
              have hta := ht4.grown hg5
              have hlt5 := Rd.lt hr5
              go_wp2_with fail
              refine (apply_any _ (b + 1) f g _ _ htf hta hlt5 (by omega)).mono ?_
              rintro e w6 ⟨v6, rfl, hb6, hv6⟩
              go_wp2_with fail
              go_ret2
              have hr6 : Rd w6 b l (m + 1) := by unfold Rd at *; rw [hb6.block b hlt5]; exact hr5
              have hg6 : w5.grownBy w6 (some b) := ⟨hb6.os, hb6.tape, hb6.output, hb6.size, fun k hk _ => hb6.block k hk⟩
              refine ⟨_, by rw [H.out]; rfl, grown_trans (grown_trans (grown_trans hg1 hg2) (grown_trans hg3 hg4)) (grown_trans hg5 hg6), fun t j' he => ?_⟩
              rw [H.out] at he
              simp only [Option.some.injEq, Prod.mk.injEq] at he
              obtain ⟨rfl, rfl⟩ := he
              exact ⟨hr6, hv6⟩
            · have hdec2 : decide (l[m]? = some 41) = false := by simp [h41]
              have hfin : Tm.read l (d + 1) i = none := by simp [Tm.read, H0.out, HF.out, h32, hq, h41]
              have H := Lib.hid hfin
              have HQ := Lib.hid hq
              have HD2 := Lib.hid hdec2
              clear hfin hq hdec h32 hdec2 h41
              go_enter Try.func35, Try.ntmps35
              go_wp2_with fail
              refine hsk.mono ?_
              rintro e w1 ⟨rfl, hg1, hr1⟩
              go_wp2_with fail
              refine (HIH.out (a + 1) _ b (i + 1) hr1 hi1 (by have := HA.out; omega) (by omega)).mono ?_
              rintro e w2 ⟨v2, rfl, hg2, hr2⟩
              rw [HF.out]
              obtain ⟨hr2, ht2⟩ := hr2 f j HF.out
              have hsk2 := skip_any w2 b j l 32 32 rfl hr2 hl hj
              rw [HD.out] at hsk2
              go_wp2_with fail
              refine hsk2.mono ?_
              rintro e w3 ⟨rfl, hg3, hr3⟩
              clear hsk hsk2
              go_wp2_with fail
              refine (HIH.out (a + 1) _ b (j + 1) hr3 hj1 (by have := HA.out; omega) (by omega)).mono ?_
              rintro e w4 ⟨v4, rfl, hg4, hr4⟩
              rw [HQ.out]
              obtain ⟨hr4, ht4⟩ := hr4 g m HQ.out
              have hsk3 := skip_any w4 b m l 41 41 rfl hr4 hl hm
              rw [HD2.out] at hsk3
              go_wp2_with fail
              refine hsk3.mono ?_
              rintro e w5 ⟨rfl, hg5, hr5⟩
              clear hsk3
              go_wp2_with fail
              go_ret2
              exact AtomPost.no H.out (grown_trans (grown_trans (grown_trans hg1 hg2) (grown_trans hg3 hg4)) hg5) _
        · have hdec : decide (l[j]? = some 32) = false := by simp [h32]
          have hfin : Tm.read l (d + 1) i = none := by simp [Tm.read, H0.out, HF.out, h32]
          have H := Lib.hid hfin
          have HD := Lib.hid hdec
          clear hfin hdec h32
          go_enter Try.func35, Try.ntmps35
          go_wp2_with fail
          refine hsk.mono ?_
          rintro e w1 ⟨rfl, hg1, hr1⟩
          go_wp2_with fail
          refine (HIH.out (a + 1) _ b (i + 1) hr1 hi1 (by have := HA.out; omega) (by omega)).mono ?_
          rintro e w2 ⟨v2, rfl, hg2, hr2⟩
          rw [HF.out]
          obtain ⟨hr2, ht2⟩ := hr2 f j HF.out
          have hsk2 := skip_any w2 b j l 32 32 rfl hr2 hl hj
          rw [HD.out] at hsk2
          go_wp2_with fail
          refine hsk2.mono ?_
          rintro e w3 ⟨rfl, hg3, hr3⟩
          clear hsk hsk2
          go_wp2_with fail
          go_ret2
          exact AtomPost.no H.out (grown_trans (grown_trans hg1 hg2) hg3) _
    · have hdec : decide (l[i]? = some 40) = false := by simp [h0]
      rw [hdec] at hsk
      have hfin : Tm.read l (d + 1) i = Tm.readAtom l i := by simp [Tm.read, h0]
      rw [hfin]
      have HI := Lib.hid hi
      clear hdec hfin h0 h ih hi
      go_enter Try.func35, Try.ntmps35
      go_wp2_with fail
      refine hsk.mono ?_
      rintro e w1 ⟨rfl, hg1, hr1⟩
      go_wp2_with fail
      refine (readAtom_any _ b i l hr1 hl HI.out).mono ?_
      rintro e w2 ⟨v2, rfl, hg2, hr2⟩
      have HR := Lib.hid hr2
      clear hr2
      go_wp2_with fail
      go_ret2
      exact ⟨_, rfl, grown_trans hg1 hg2, HR.out⟩

def ParsePost (w : World) (B : Nat) (l : List UInt8) (e : Ending) (w' : World) : Prop :=
  ∃ v, e = .returned (.tuple #[v, .bool (Tm.parse l).isSome]) ∧ Below w.heap.size w w' ∧ ∀ t, Tm.parse l = some t → TV w' B t v

theorem ParsePost.no {w w' : World} {B : Nat} {l : List UInt8} (hr : Tm.parse l = none) (hg : Below w.heap.size w w') (v : Value) : ParsePost w B l (.returned (.tuple #[v, .bool false])) w' :=
  ⟨v, by rw [hr]; rfl, hg, fun t he => by rw [hr] at he; simp at he⟩

theorem below_grown {w w' : World} {o : Obj} (hg : (w.alloc o).grownBy w' (some w.heap.size)) : Below w.heap.size w w' :=
  ((Below.refl _ _).alloc (Nat.le_refl _) o).grown hg (by simp) (fun k hk => by injection hk with hk; omega)

theorem below_drews {n : Nat} {a b : World} (h : Below n a b) (m : Nat) : Below n a (b.drewN m) := ⟨h.os, h.tape, h.output, h.size, h.block⟩

theorem readTerm_any (w : World) (B : Nat) (l : List UInt8) (hB : B ≤ w.heap.size) (hl : l.length ≤ 1000000000) :
    Calls Try.prog 22 #[str l] w (ParsePost w B l) := by
  have hrd : Rd (w.alloc (.cells #[str l, .int .i64 0] 83)) w.heap.size l 0 := heap_new _ _
  have hread := read_any l hl 1501 0 _ _ 0 hrd (Nat.zero_le _) (by omega) (by omega)
  have hsz : (⟨l.toArray⟩ : ByteArray).size = l.length := by show l.toArray.size = _; simp
  cases hq : Tm.read l 1501 0 with
  | none =>
    have hfin : Tm.parse l = none := by simp [Tm.parse, hq]
    have H := Lib.hid hfin
    rw [hq] at hread
    clear hfin hq hrd
    go_enter Try.func22, Try.ntmps22
    go_wp2_with fail
    refine hread.mono ?_
    rintro e w1 ⟨v1, rfl, hg1, hr1⟩
    clear hr1 hread
    go_wp2_with fail
    go_ret2
    exact ParsePost.no H.out (below_grown hg1) _
  | some p =>
    obtain ⟨t, j⟩ := p
    obtain ⟨zt, hj⟩ := reads_size (Tm.read_sound hq)
    rw [hq] at hread
    have hpf : Tm.parse l = if j = l.length ∧ t.fits = true then some t else none := by simp only [Tm.parse, hq]
    have HP := Lib.hid hpf
    clear hpf hq hrd
    by_cases hje : j = l.length
    · have hd : decide (j = l.length) = true := by simp [hje]
      cases hf : t.fits with
      | true =>
        have H := Lib.hid (show Tm.parse l = some t by rw [HP.out, hje, hf]; simp)
        have HF := Lib.hid hf
        clear hf HP
        go_enter Try.func22, Try.ntmps22
        go_wp2_with fail
        refine hread.mono ?_
        rintro e w1 ⟨v1, rfl, hg1, hr1⟩
        obtain ⟨hr1, ht1⟩ := hr1 t j rfl
        have hend := ended_any w1 _ j l (cell_of_heap hr1) (cell_of_heap hr1) hl
        rw [hd] at hend
        have hfit := fun m => fits_any (w1.drewN m) _ t v1 (TV.same (w := w1) (w' := w1.drewN m) (fun _ _ _ => rfl) ht1)
        rw [HF.out] at hfit
        clear hread hd
        go_wp2_with fail
        refine hend.mono ?_
        rintro e w3 ⟨rfl, m, rfl⟩
        go_wp2_with (go_at_call 14; refine (hfit _).mono ?_; rintro e w2 ⟨rfl, hb2⟩)
        go_ret2
        have hb2' : Below w1.heap.size w1 w2 := (below_drews (Below.refl _ _) m).trans hb2
        refine ⟨_, by rw [H.out]; rfl, (below_grown hg1).trans (hb2'.mono (Nat.le_of_lt (Rd.lt hr1))), fun t' he => ?_⟩
        rw [H.out] at he
        obtain rfl := Option.some.inj he
        exact (ht1.less (by omega)).below hb2'
      | false =>
        have H := Lib.hid (show Tm.parse l = none by rw [HP.out, hf]; simp)
        have HF := Lib.hid hf
        clear hf HP
        go_enter Try.func22, Try.ntmps22
        go_wp2_with fail
        refine hread.mono ?_
        rintro e w1 ⟨v1, rfl, hg1, hr1⟩
        obtain ⟨hr1, ht1⟩ := hr1 t j rfl
        have hend := ended_any w1 _ j l (cell_of_heap hr1) (cell_of_heap hr1) hl
        rw [hd] at hend
        have hfit := fun m => fits_any (w1.drewN m) _ t v1 (TV.same (w := w1) (w' := w1.drewN m) (fun _ _ _ => rfl) ht1)
        rw [HF.out] at hfit
        clear hread hd
        go_wp2_with fail
        refine hend.mono ?_
        rintro e w3 ⟨rfl, m, rfl⟩
        go_wp2_with (go_at_call 14; refine (hfit _).mono ?_; rintro e w2 ⟨rfl, hb2⟩)
        go_ret2
        have hb2' : Below w1.heap.size w1 w2 := (below_drews (Below.refl _ _) m).trans hb2
        exact ParsePost.no H.out ((below_grown hg1).trans (hb2'.mono (Nat.le_of_lt (Rd.lt hr1)))) _
    · have H := Lib.hid (show Tm.parse l = none by rw [HP.out]; simp [hje])
      have hd : decide (j = l.length) = false := by simp [hje]
      clear HP
      go_enter Try.func22, Try.ntmps22
      go_wp2_with fail
      refine hread.mono ?_
      rintro e w1 ⟨v1, rfl, hg1, hr1⟩
      obtain ⟨hr1, ht1⟩ := hr1 t j rfl
      have hend := ended_any w1 _ j l (cell_of_heap hr1) (cell_of_heap hr1) hl
      rw [hd] at hend
      clear hread hd
      go_wp2_with fail
      refine hend.mono ?_
      rintro e w3 ⟨rfl, m, rfl⟩
      go_wp2_with fail
      go_ret2
      exact ParsePost.no H.out (below_drews (below_grown hg1) _) _
end Go.Proofs.Ytjfdindlfakmcaa

namespace Go.Proofs.Ytjfdindlfakmcaa
open Go.RowKit

set_option maxHeartbeats 1000000
set_option maxRecDepth 100000

namespace Tm
def behind (F : List UInt8) : Tm → Option Tm
  | app f a => if text f = F then some a else none
  | _ => none
def parts : Tm → Option (Tm × Tm)
  | app x y => match behind [107] y with
    | none => none
    | some n => match behind [115] x with
      | none => none
      | some left => match behind [40, 115, 32, 40, 40, 115, 32, 107, 41, 32, 107, 41, 41] left with
        | none => none
        | some front => match behind [107] front with
          | none => none
          | some m => some (m, n)
  | _ => none
theorem behind_good {F : List UInt8} {t a : Tm} (h : behind F t = some a) (hg : good t = true) : good a = true ∧ a.size < t.size := by
  cases t with
  | app f b =>
    simp only [behind] at h
    split at h
    · obtain rfl := Option.some.inj h
      simp only [good, Bool.and_eq_true] at hg
      exact ⟨hg.2, by simp only [size]; have := size_pos f; omega⟩
    · simp at h
  | _ => simp [behind] at h
end Tm

def BehindPost (w : World) (B : Nat) (r : Option Tm) (e : Ending) (w' : World) : Prop :=
  ∃ v, e = .returned (.tuple #[v, .bool r.isSome]) ∧ Below w.heap.size w w' ∧ ∀ a, r = some a → TV w' B a v

theorem assert_app (W : World) (x : Value) : (Instr.typeAssert (.iface 70 x) 35 70 true).run Try.prog W = .ok (.tuple #[x, .bool true]) W := by kernel_rfl
theorem assert_k (W : World) (x : Value) : (Instr.typeAssert (.iface 110 x) 35 70 true).run Try.prog W = .ok (.tuple #[.pointer none, .bool false]) W := by kernel_rfl
theorem assert_s (W : World) (x : Value) : (Instr.typeAssert (.iface 113 x) 35 70 true).run Try.prog W = .ok (.tuple #[.pointer none, .bool false]) W := by kernel_rfl
theorem assert_n (W : World) (x : Value) : (Instr.typeAssert (.iface 40 x) 35 70 true).run Try.prog W = .ok (.tuple #[.pointer none, .bool false]) W := by kernel_rfl

def PartsPost (w : World) (B : Nat) (r : Option (Tm × Tm)) (e : Ending) (w' : World) : Prop :=
  ∃ v1 v2, e = .returned (.tuple #[v1, v2, .bool r.isSome]) ∧ Below w.heap.size w w' ∧ ∀ m n, r = some (m, n) → TV w' B m v1 ∧ TV w' B n v2

/-- What PairParts answers. -/
def pParts (l : List UInt8) : Option (List UInt8 × List UInt8) := match Tm.parse l with
  | some t => t.parts.map fun p => (p.1.text, p.2.text)
  | none => none

def TwoRes (w : World) (r : Option (List UInt8 × List UInt8)) (e : Ending) (w' : World) : Prop :=
  e = .returned (.tuple #[str ((r.map Prod.fst).getD []), str ((r.map Prod.snd).getD []), .bool r.isSome]) ∧ Below w.heap.size w w'

theorem parts_good {t m n : Tm} (h : t.parts = some (m, n)) (hg : t.good = true) : m.good = true ∧ n.good = true ∧ m.size < t.size ∧ n.size < t.size := by
  cases t with
  | app x y =>
    simp only [Tm.good, Bool.and_eq_true] at hg
    simp only [Tm.parts] at h
    split at h
    · simp at h
    · rename_i n' e1
      split at h
      · simp at h
      · rename_i left e2
        split at h
        · simp at h
        · rename_i front e3
          split at h
          · simp at h
          · rename_i m' e4
            simp only [Option.some.injEq, Prod.mk.injEq] at h
            obtain ⟨rfl, rfl⟩ := h
            have g1 := Tm.behind_good e1 hg.2
            have g2 := Tm.behind_good e2 hg.1
            have g3 := Tm.behind_good e3 g2.1
            have g4 := Tm.behind_good e4 g3.1
            simp only [Tm.size]
            exact ⟨g4.1, g1.1, by omega, by omega⟩
  | _ => simp [Tm.parts] at h

end Go.Proofs.Ytjfdindlfakmcaa

namespace Go.Proofs.Ytjfdindlfakmcaa
open Go.RowKit

set_option maxHeartbeats 2000000
set_option maxRecDepth 100000

def Bd.comb (f a : Tm) : Bd → Bd → Bd
  | .without _, .without _ => .without (.app f a)
  | .without _, .itself => .atEnd f
  | b1, b2 => .inside b1 b2
def Bd.of (x : List UInt8) : Tm → Bd
  | .nm n => if n = x then .itself else .without (.nm n)
  | .app f a => Bd.comb f a (Bd.of x f) (Bd.of x a)
  | t => .without t

def BodyPost (w : World) (B : Nat) (b : Bd) (e : Ending) (w' : World) : Prop := ∃ v, e = .returned v ∧ Below w.heap.size w w' ∧ BV w' B b v

theorem BV.form {w : World} {B : Nat} {b : Bd} {v : Value} (h : BV w B b v) : ∃ T x, v = .iface T x := by
  cases b with
  | itself => exact ⟨_, _, h⟩
  | without t => obtain ⟨x, rfl, _⟩ := h; exact ⟨_, _, rfl⟩
  | atEnd t => obtain ⟨x, rfl, _⟩ := h; exact ⟨_, _, rfl⟩
  | inside f a => obtain ⟨x, y, rfl, _⟩ := h; exact ⟨_, _, rfl⟩

theorem assert_nm_n (W : World) (x : Value) : (Instr.typeAssert (.iface 40 x) 35 40 true).run Try.prog W = .ok (.tuple #[x, .bool true]) W := by kernel_rfl
theorem assert_nm_k (W : World) (x : Value) : (Instr.typeAssert (.iface 110 x) 35 40 true).run Try.prog W = .ok (.tuple #[.pointer none, .bool false]) W := by kernel_rfl
theorem assert_nm_s (W : World) (x : Value) : (Instr.typeAssert (.iface 113 x) 35 40 true).run Try.prog W = .ok (.tuple #[.pointer none, .bool false]) W := by kernel_rfl
theorem assert_nm_a (W : World) (x : Value) : (Instr.typeAssert (.iface 70 x) 35 40 true).run Try.prog W = .ok (.tuple #[.pointer none, .bool false]) W := by kernel_rfl
theorem assert_wo_w (W : World) (x : Value) : (Instr.typeAssert (.iface 96 (.agg #[x])) 66 96 true).run Try.prog W = .ok (.tuple #[.agg #[x], .bool true]) W := by kernel_rfl
theorem assert_wo_i (W : World) (x : Value) : (Instr.typeAssert (.iface 93 x) 66 96 true).run Try.prog W = .ok (.tuple #[.agg #[.nilIface], .bool false]) W := by kernel_rfl
theorem assert_wo_e (W : World) (x : Value) : (Instr.typeAssert (.iface 108 x) 66 96 true).run Try.prog W = .ok (.tuple #[.agg #[.nilIface], .bool false]) W := by kernel_rfl
theorem assert_wo_s (W : World) (x : Value) : (Instr.typeAssert (.iface 106 x) 66 96 true).run Try.prog W = .ok (.tuple #[.agg #[.nilIface], .bool false]) W := by kernel_rfl
theorem assert_it_i (W : World) : (Instr.typeAssert (.iface 93 (.agg #[])) 66 93 true).run Try.prog W = .ok (.tuple #[.agg #[], .bool true]) W := by kernel_rfl
theorem assert_it_e (W : World) (x : Value) : (Instr.typeAssert (.iface 108 x) 66 93 true).run Try.prog W = .ok (.tuple #[.agg #[], .bool false]) W := by kernel_rfl
theorem assert_it_s (W : World) (x : Value) : (Instr.typeAssert (.iface 106 x) 66 93 true).run Try.prog W = .ok (.tuple #[.agg #[], .bool false]) W := by kernel_rfl

theorem body_leaf (w : World) (B : Nat) (x : List UInt8) (T : TypeId) (b : Nat) (t : Tm) (hT : T = 110 ∨ T = 113) (h : TV w B t (.iface T (.pointer (some ⟨b, 0, none⟩)))) :
    Calls Try.prog 28 #[.iface T (.pointer (some ⟨b, 0, none⟩)), str x] w (BodyPost w B (.without t)) := by
  have HT := Lib.hid h
  clear h
  have ha1 := assert_k w (.pointer (some ⟨b, 0, none⟩))
  have ha2 := assert_s w (.pointer (some ⟨b, 0, none⟩))
  have ha3 := assert_nm_k w (.pointer (some ⟨b, 0, none⟩))
  have ha4 := assert_nm_s w (.pointer (some ⟨b, 0, none⟩))
  rcases hT with rfl | rfl
  all_goals
    go_enter Try.func28, Try.ntmps28
    go_wp2_with fail
    go_ret
    exact ⟨_, rfl, Below.refl _ _, _, rfl, HT.out⟩

theorem body_name (w : World) (B : Nat) (x n : List UInt8) (b : Nat) (h : TV w B (.nm n) (.iface 40 (.pointer (some ⟨b, 0, none⟩)))) :
    Calls Try.prog 28 #[.iface 40 (.pointer (some ⟨b, 0, none⟩)), str x] w (BodyPost w B (Bd.of x (.nm n))) := by
  have HT := Lib.hid h
  obtain ⟨b', fr, hv, hb, hh⟩ := h
  injection hv with _ hv
  injection hv with hv
  injection hv with hv
  injection hv with hv _ _
  subst hv
  have c0 : w.cell? ⟨b, 0, none⟩ = some (str n) := cell_of_heap hh
  have ha1 := assert_nm_n w (.pointer (some ⟨b, 0, none⟩))
  have ha2 := assert_n w (.pointer (some ⟨b, 0, none⟩))
  clear hh
  by_cases hn : n = x
  · subst hn
    rw [show Bd.of n (.nm n) = .itself by simp [Bd.of]]
    go_enter Try.func28, Try.ntmps28
    go_wp2_with fail
    go_ret
    exact ⟨_, rfl, Below.refl _ _, rfl⟩
  · have hne : (n == x) = false := beq_eq_false_iff_ne.2 hn
    rw [show Bd.of x (.nm n) = .without (.nm n) by simp [Bd.of, hn]]
    clear hn
    go_enter Try.func28, Try.ntmps28
    go_wp2_with fail
    go_ret
    exact ⟨_, rfl, Below.refl _ _, _, rfl, HT.out⟩

/-- What is known when the parts of an application are looked at. -/
theorem body_parts (W : World) (B b : Nat) (x : List UInt8) (f a : Tm) (b1 b2 : Bd) (T1 T2 : TypeId) (x1 x2 : Value) (hT : TV W B (.app f a) (.iface 70 (.pointer (some ⟨b, 0, none⟩)))) (hTf : TV W B f (.iface T1 x1))
    (h0 : ∀ W', Below W.heap.size W W' → W'.cell? ⟨b, 0, none⟩ = some (.iface T1 x1)) (h1 : ∀ W', Below W.heap.size W W' → W'.cell? ⟨b, 1, none⟩ = some (.iface T2 x2))
    (hf : ∀ W', Below W.heap.size W W' → Calls Try.prog 28 #[.iface T1 x1, str x] W' (BodyPost W' B b1))
    (ha : ∀ W', Below W.heap.size W W' → Calls Try.prog 28 #[.iface T2 x2, str x] W' (BodyPost W' B b2)) :
    Calls Try.prog 40 #[.pointer (some ⟨b, 0, none⟩), str x] W (BodyPost W B (Bd.comb f a b1 b2)) := by
  have hself := Below.refl W.heap.size W
  have HT := Lib.hid hT
  have HTF := Lib.hid hTf
  clear hT hTf
  unfold BodyPost at hf ha
  cases b1 with
  | itself =>
    rw [show Bd.comb f a .itself b2 = .inside .itself b2 by cases b2 <;> rfl]
    go_enter Try.func40, Try.ntmps40
    go_wp2_with fail
    go_region_held3 (fun W' => Below W.heap.size W W') (first | assumption | exact hself.drew | go_keep)
      (first
        | (go_at_call_of 28 x1; refine (hf _ (by first | assumption | exact hself.drew)).mono ?_; rintro e w1 ⟨r1, rfl, hb1, hv1⟩; (obtain rfl : r1 = .iface 93 (.agg #[]) := hv1); have hb1' := below_trans (by first | assumption | exact hself.drew) hb1)
        | (go_at_call_of 28 x2; refine (ha _ (by assumption)).mono ?_; rintro e w2 ⟨r2, rfl, hb2, hv2⟩; obtain ⟨T4, x4, rfl⟩ := hv2.form; have HV2 := Lib.hid hv2; clear hv2; have hb2' := below_trans (by assumption) hb2))
    all_goals
      have has := fun W' => assert_wo_i W' (.agg #[])
      go_wp2_with fail
      go_ret
      exact ⟨_, rfl, (hb2'.alloc hb2'.size _), _, _, rfl, rfl, HV2.out.below (below_new _ _)⟩
  | atEnd t =>
    rw [show Bd.comb f a (.atEnd t) b2 = .inside (.atEnd t) b2 by cases b2 <;> rfl]
    go_enter Try.func40, Try.ntmps40
    go_wp2_with fail
    go_region_held3 (fun W' => Below W.heap.size W W') (first | assumption | exact hself.drew | go_keep)
      (first
        | (go_at_call_of 28 x1; refine (hf _ (by first | assumption | exact hself.drew)).mono ?_; rintro e w1 ⟨r1, rfl, hb1, hv1⟩; obtain ⟨y1, rfl, hy1⟩ := hv1; have HY1 := Lib.hid hy1; clear hy1; have hb1' := below_trans (by first | assumption | exact hself.drew) hb1)
        | (go_at_call_of 28 x2; refine (ha _ (by assumption)).mono ?_; rintro e w2 ⟨r2, rfl, hb2, hv2⟩; obtain ⟨T4, x4, rfl⟩ := hv2.form; have HV2 := Lib.hid hv2; clear hv2; have hb2' := below_trans (by assumption) hb2))
    all_goals
      have has := fun W' => assert_wo_e W' (.agg #[y1])
      go_wp2_with fail
      go_ret
      exact ⟨_, rfl, (hb2'.alloc hb2'.size _), _, _, rfl, ⟨_, rfl, HY1.out.below (below_trans hb2 (below_new _ _))⟩, HV2.out.below (below_new _ _)⟩
  | inside c d =>
    rw [show Bd.comb f a (.inside c d) b2 = .inside (.inside c d) b2 by cases b2 <;> rfl]
    go_enter Try.func40, Try.ntmps40
    go_wp2_with fail
    go_region_held3 (fun W' => Below W.heap.size W W') (first | assumption | exact hself.drew | go_keep)
      (first
        | (go_at_call_of 28 x1; refine (hf _ (by first | assumption | exact hself.drew)).mono ?_; rintro e w1 ⟨r1, rfl, hb1, hv1⟩; obtain ⟨y1, z1, rfl, hy1, hz1⟩ := hv1; have HY1 := Lib.hid hy1; have HZ1 := Lib.hid hz1; clear hy1 hz1; have hb1' := below_trans (by first | assumption | exact hself.drew) hb1)
        | (go_at_call_of 28 x2; refine (ha _ (by assumption)).mono ?_; rintro e w2 ⟨r2, rfl, hb2, hv2⟩; obtain ⟨T4, x4, rfl⟩ := hv2.form; have HV2 := Lib.hid hv2; clear hv2; have hb2' := below_trans (by assumption) hb2))
    all_goals
      have has := fun W' => assert_wo_s W' (.agg #[y1, z1])
      go_wp2_with fail
      go_ret
      exact ⟨_, rfl, (hb2'.alloc hb2'.size _), _, _, rfl, ⟨_, _, rfl, HY1.out.below (below_trans hb2 (below_new _ _)), HZ1.out.below (below_trans hb2 (below_new _ _))⟩, HV2.out.below (below_new _ _)⟩
  | without t =>
    cases b2 with
    | itself =>
      rw [show Bd.comb f a (.without t) .itself = .atEnd f from rfl]
      go_enter Try.func40, Try.ntmps40
      go_wp2_with fail
      go_region_held3 (fun W' => Below W.heap.size W W') (first | assumption | exact hself.drew | go_keep)
        (first
          | (go_at_call_of 28 x1; refine (hf _ (by first | assumption | exact hself.drew)).mono ?_; rintro e w1 ⟨r1, rfl, hb1, hv1⟩; obtain ⟨y1, rfl, hy1⟩ := hv1; obtain ⟨S1, z1, rfl, _⟩ := hy1.asks; clear hy1; have hb1' := below_trans (by first | assumption | exact hself.drew) hb1)
          | (go_at_call_of 28 x2; refine (ha _ (by assumption)).mono ?_; rintro e w2 ⟨r2, rfl, hb2, hv2⟩; (obtain rfl : r2 = .iface 93 (.agg #[]) := hv2); have hb2' := below_trans (by assumption) hb2))
      all_goals
        have has := fun W' => assert_wo_w W' (.iface S1 z1)
        have has2 := fun W' => assert_wo_i W' (.agg #[])
        have has3 := assert_it_i
        have h0' := h0 _ (hb2'.alloc hb2'.size (.cells #[.iface S1 z1] 96))
        go_wp2_with fail
        go_ret
        exact ⟨_, rfl, (hb2'.alloc hb2'.size _), _, rfl, HTF.out.below (hb2'.alloc hb2'.size _)⟩
    | atEnd u =>
      rw [show Bd.comb f a (.without t) (.atEnd u) = .inside (.without t) (.atEnd u) from rfl]
      go_enter Try.func40, Try.ntmps40
      go_wp2_with fail
      go_region_held3 (fun W' => Below W.heap.size W W') (first | assumption | exact hself.drew | go_keep)
        (first
          | (go_at_call_of 28 x1; refine (hf _ (by first | assumption | exact hself.drew)).mono ?_; rintro e w1 ⟨r1, rfl, hb1, hv1⟩; obtain ⟨y1, rfl, hy1⟩ := hv1; obtain ⟨S1, z1, rfl, _⟩ := hy1.asks; have HY1 := Lib.hid hy1; clear hy1; have hb1' := below_trans (by first | assumption | exact hself.drew) hb1)
          | (go_at_call_of 28 x2; refine (ha _ (by assumption)).mono ?_; rintro e w2 ⟨r2, rfl, hb2, hv2⟩; obtain ⟨y2, rfl, hy2⟩ := hv2; have HY2 := Lib.hid hy2; clear hy2; have hb2' := below_trans (by assumption) hb2))
      all_goals
        have has := fun W' => assert_wo_w W' (.iface S1 z1)
        have has2 := fun W' => assert_wo_e W' (.agg #[y2])
        have has3 := fun W' => assert_it_e W' (.agg #[y2])
        go_wp2_with fail
        go_ret
        exact ⟨_, rfl, (hb2'.alloc hb2'.size _), _, _, rfl, ⟨_, rfl, HY1.out.below (below_trans hb2 (below_new _ _))⟩, ⟨_, rfl, HY2.out.below (below_new _ _)⟩⟩
    | inside c d =>
      rw [show Bd.comb f a (.without t) (.inside c d) = .inside (.without t) (.inside c d) from rfl]
      go_enter Try.func40, Try.ntmps40
      go_wp2_with fail
      go_region_held3 (fun W' => Below W.heap.size W W') (first | assumption | exact hself.drew | go_keep)
        (first
          | (go_at_call_of 28 x1; refine (hf _ (by first | assumption | exact hself.drew)).mono ?_; rintro e w1 ⟨r1, rfl, hb1, hv1⟩; obtain ⟨y1, rfl, hy1⟩ := hv1; obtain ⟨S1, z1, rfl, _⟩ := hy1.asks; have HY1 := Lib.hid hy1; clear hy1; have hb1' := below_trans (by first | assumption | exact hself.drew) hb1)
          | (go_at_call_of 28 x2; refine (ha _ (by assumption)).mono ?_; rintro e w2 ⟨r2, rfl, hb2, hv2⟩; obtain ⟨y2, z2, rfl, hy2, hz2⟩ := hv2; have HY2 := Lib.hid hy2; have HZ2 := Lib.hid hz2; clear hy2 hz2; have hb2' := below_trans (by assumption) hb2))
      all_goals
        have has := fun W' => assert_wo_w W' (.iface S1 z1)
        have has2 := fun W' => assert_wo_s W' (.agg #[y2, z2])
        have has3 := fun W' => assert_it_s W' (.agg #[y2, z2])
        go_wp2_with fail
        go_ret
        exact ⟨_, rfl, (hb2'.alloc hb2'.size _), _, _, rfl, ⟨_, rfl, HY1.out.below (below_trans hb2 (below_new _ _))⟩, ⟨_, _, rfl, HY2.out.below (below_new _ _), HZ2.out.below (below_new _ _)⟩⟩
    | without u =>
      rw [show Bd.comb f a (.without t) (.without u) = .without (.app f a) from rfl]
      go_enter Try.func40, Try.ntmps40
      go_wp2_with fail
      go_region_held3 (fun W' => Below W.heap.size W W') (first | assumption | exact hself.drew | go_keep)
        (first
          | (go_at_call_of 28 x1; refine (hf _ (by first | assumption | exact hself.drew)).mono ?_; rintro e w1 ⟨r1, rfl, hb1, hv1⟩; obtain ⟨y1, rfl, hy1⟩ := hv1; obtain ⟨S1, z1, rfl, _⟩ := hy1.asks; clear hy1; have hb1' := below_trans (by first | assumption | exact hself.drew) hb1)
          | (go_at_call_of 28 x2; refine (ha _ (by assumption)).mono ?_; rintro e w2 ⟨r2, rfl, hb2, hv2⟩; obtain ⟨y2, rfl, hy2⟩ := hv2; obtain ⟨S2, z2, rfl, _⟩ := hy2.asks; clear hy2; have hb2' := below_trans (by assumption) hb2))
      all_goals
        have has := fun W' => assert_wo_w W' (.iface S1 z1)
        have has2 := fun W' => assert_wo_w W' (.iface S2 z2)
        go_wp2_with fail
        go_ret
        exact ⟨_, rfl, (hb2'.alloc hb2'.size _), _, rfl, HT.out.below (hb2'.alloc hb2'.size _)⟩
end Go.Proofs.Ytjfdindlfakmcaa

namespace Go.Proofs.Ytjfdindlfakmcaa
open Go.RowKit

set_option maxHeartbeats 400000
set_option maxRecDepth 100000

theorem deep_atom (w : World) (s : List UInt8) (v : Value) (hs : s ≠ []) :
    Calls Try.prog 34 #[.agg #[str s, v]] w fun e w' => e = .returned (.int .i64 0) ∧ After w w' := by
  have he : s.isEmpty = false := by cases s with | nil => exact absurd rfl hs | cons => rfl
  clear hs
  go_enter Try.func34, Try.ntmps34
  go_wp2_with fail
  go_ret
  exact ⟨rfl, After.new _ _⟩

theorem deep_app (w : World) (g cap : Nat) (fr : Nat × Nat) (s0 s1 : List UInt8) (a0 a1 : Option Addr) (n0 c0 n1 c1 : Nat) (f a : Tm) (hh : w.heap[g]? = some (.cells #[str s0, .slice a0 n0 c0, str s1, .slice a1 n1 c1] 49 fr))
    (hf : ∀ W, After w W → Calls Try.prog 34 #[.agg #[str s0, .slice a0 n0 c0]] W fun e w' => e = .returned (.int .i64 (f.depth : Nat)) ∧ After W w')
    (ha : ∀ W, After w W → Calls Try.prog 34 #[.agg #[str s1, .slice a1 n1 c1]] W fun e w' => e = .returned (.int .i64 (a.depth : Nat)) ∧ After W w') (hz : f.depth + a.depth ≤ 1000000000000) :
    Calls Try.prog 34 #[.agg #[str [], .slice (some ⟨g, 0, none⟩) 2 cap]] w fun e w' => e = .returned (.int .i64 ((f.app a).depth : Nat)) ∧ After w w' := by
  obtain ⟨hnew, hself, b0, b1, g0, g1, g2, g3⟩ := kid_facts w g cap fr s0 s1 a0 a1 n0 c0 n1 c1 hh
  have hdd : (((f.app a).depth : Nat) : Int) = 1 + max (f.depth : Int) (a.depth : Int) := by simp only [Tm.depth]; omega
  rw [hdd]
  clear hdd
  have hw1 : IntKind.i64.wrap (1 + (f.depth : Int)) = 1 + (f.depth : Int) := IntWalk.i64_in _ (by omega)
  have hw2 : IntKind.i64.wrap (1 + (a.depth : Int)) = 1 + (a.depth : Int) := IntWalk.i64_in _ (by omega)
  have HD := Lib.hid hz
  go_enter Try.func34, Try.ntmps34
  go_wp2_with fail
  go_region_held3 (fun W' => After (w.alloc (.cells #[str [], .slice (some ⟨g, 0, none⟩) 2 cap] 49)) W') (first | assumption | exact hself.drew | go_keep)
    (first
      | (go_at_call_of 34 a0; refine (hf _ (hnew.trans (by assumption))).mono ?_; rintro e w1 ⟨rfl, hb1⟩; have hb1' := After.trans (by assumption) hb1)
      | (go_at_call_of 34 a1; refine (ha _ (hnew.trans (by assumption))).mono ?_; rintro e w2 ⟨rfl, hb2⟩; have hb2' := After.trans (by assumption) hb2))
  go_wp2_with fail
  all_goals
    go_ret
    exact ⟨congrArg Ending.returned (congrArg (Value.int .i64) (by omega)), hnew.trans hb2'⟩

theorem text_atom (w : World) (s : List UInt8) (v : Value) (hs : s ≠ []) :
    Calls Try.prog 21 #[.agg #[str s, v]] w fun e w' => e = .returned (str s) ∧ After w w' := by
  have he : s.isEmpty = false := by cases s with | nil => exact absurd rfl hs | cons => rfl
  clear hs
  go_enter Try.func21, Try.ntmps21
  go_wp2_with fail
  go_ret
  exact ⟨rfl, After.new _ _⟩

theorem cat (a b : ByteArray) (h : a.size + b.size ≤ 1000000000000) : ∃ c : ByteArray, c.data.toList = a.data.toList ++ b.data.toList ∧ c.size = a.size + b.size ∧ ∀ W, (Op.stringOp .add a b).run Try.prog W = .ok (.string c) W :=
  ⟨a ++ b, by simp, by simp, fun W => run_string_add_sum W a b (by omega)⟩

theorem text_app (w : World) (g cap : Nat) (fr : Nat × Nat) (s0 s1 : List UInt8) (a0 a1 : Option Addr) (n0 c0 n1 c1 : Nat) (f a : Tm) (hh : w.heap[g]? = some (.cells #[str s0, .slice a0 n0 c0, str s1, .slice a1 n1 c1] 49 fr))
    (hf : ∀ W, After w W → Calls Try.prog 21 #[.agg #[str s0, .slice a0 n0 c0]] W fun e w' => e = .returned (str f.text) ∧ After W w')
    (ha : ∀ W, After w W → Calls Try.prog 21 #[.agg #[str s1, .slice a1 n1 c1]] W fun e w' => e = .returned (str a.text) ∧ After W w') (hz : f.text.length + a.text.length ≤ 1000000000) :
    Calls Try.prog 21 #[.agg #[str [], .slice (some ⟨g, 0, none⟩) 2 cap]] w fun e w' => e = .returned (str (f.app a).text) ∧ After w w' := by
  obtain ⟨hnew, hself, b0, b1, g0, g1, g2, g3⟩ := kid_facts w g cap fr s0 s1 a0 a1 n0 c0 n1 c1 hh
  have zf : (⟨f.text.toArray⟩ : ByteArray).size = f.text.length := by show f.text.toArray.size = _; simp
  have za : (⟨a.text.toArray⟩ : ByteArray).size = a.text.length := by show a.text.toArray.size = _; simp
  have q1 : (⟨#[40]⟩ : ByteArray).size = 1 := rfl
  have q2 : (⟨#[32]⟩ : ByteArray).size = 1 := rfl
  have q3 : (⟨#[41]⟩ : ByteArray).size = 1 := rfl
  obtain ⟨t1, l1, z1, e1⟩ := cat ⟨#[40]⟩ ⟨f.text.toArray⟩ (by omega)
  obtain ⟨t2, l2, z2, e2⟩ := cat t1 ⟨#[32]⟩ (by omega)
  obtain ⟨t3, l3, z3, e3⟩ := cat t2 ⟨a.text.toArray⟩ (by omega)
  obtain ⟨t4, l4, z4, e4⟩ := cat t3 ⟨#[41]⟩ (by omega)
  have hfin : str (f.app a).text = .string t4 := by
    refine congrArg Value.string (ByteArray.ext (Array.ext' ?_))
    rw [l4, l3, l2, l1]
    simp [Tm.text]
  rw [hfin]
  clear hfin zf za q1 q2 q3 l1 l2 l3 l4 z1 z2 z3 z4

  go_enter Try.func21, Try.ntmps21
  go_wp2_with fail
  go_region_held3 (fun W' => After (w.alloc (.cells #[str [], .slice (some ⟨g, 0, none⟩) 2 cap] 49)) W') (first | assumption | exact hself.drew | go_keep)
    (first
      | (go_at_call_of 21 a0; refine (hf _ (hnew.trans (by assumption))).mono ?_; rintro e w1 ⟨rfl, hb1⟩; have hb1' := After.trans (by assumption) hb1)
      | (go_at_call_of 21 a1; refine (ha _ (hnew.trans (by assumption))).mono ?_; rintro e w2 ⟨rfl, hb2⟩; have hb2' := After.trans (by assumption) hb2))
  go_wp2_with fail
  go_ret
  exact ⟨rfl, hnew.trans hb2'⟩

theorem ST.deep {t : Tm} : ∀ {w : World} {v : Value}, ST w t v → t.good = true → t.size ≤ 1000000000 → Calls Try.prog 34 #[v] w fun e w' => e = .returned (.int .i64 (t.depth : Nat)) ∧ After w w' := by
  induction t with
  | k => intro w v h _ _; simp only [ST] at h; subst h; exact deep_atom w _ _ (by simp [Tm.text])
  | s => intro w v h _ _; simp only [ST] at h; subst h; exact deep_atom w _ _ (by simp [Tm.text])
  | nm n => intro w v h hg _; simp only [ST] at h; subst h; exact deep_atom w _ _ (Tm.text_ne _ hg)
  | app f a ihf iha =>
    intro w v h hg hz
    obtain ⟨g, cap, fr, s0, p0, s1, p1, rfl, hh, hf, ha⟩ := h
    simp only [Tm.good, Bool.and_eq_true] at hg
    have d1 := Tm.depth_lt f; have d2 := Tm.depth_lt a; simp only [Tm.size] at hz
    obtain ⟨x0, a0, n0, c0, e0⟩ := hf.form
    obtain ⟨x1, a1, n1, c1, e1⟩ := ha.form
    simp only [Value.agg.injEq, Array.mk.injEq, List.cons.injEq, and_true] at e0 e1
    obtain ⟨rfl, rfl⟩ := e0
    obtain ⟨rfl, rfl⟩ := e1
    exact deep_app w g cap fr x0 x1 a0 a1 n0 c0 n1 c1 f a hh (fun W hW => ihf (hf.later hW) hg.1 (by omega)) (fun W hW => iha (ha.later hW) hg.2 (by omega)) (by omega)

theorem ST.text {t : Tm} : ∀ {w : World} {v : Value}, ST w t v → t.good = true → t.text.length ≤ 100000000 → Calls Try.prog 21 #[v] w fun e w' => e = .returned (str t.text) ∧ After w w' := by
  induction t with
  | k => intro w v h _ _; simp only [ST] at h; subst h; exact text_atom w _ _ (by simp [Tm.text])
  | s => intro w v h _ _; simp only [ST] at h; subst h; exact text_atom w _ _ (by simp [Tm.text])
  | nm n => intro w v h hg _; simp only [ST] at h; subst h; exact text_atom w _ _ (Tm.text_ne _ hg)
  | app f a ihf iha =>
    intro w v h hg hz
    obtain ⟨g, cap, fr, s0, p0, s1, p1, rfl, hh, hf, ha⟩ := h
    simp only [Tm.good, Bool.and_eq_true] at hg
    simp only [Tm.text, List.length_cons, List.length_append, List.length_nil] at hz
    obtain ⟨x0, a0, n0, c0, e0⟩ := hf.form
    obtain ⟨x1, a1, n1, c1, e1⟩ := ha.form
    simp only [Value.agg.injEq, Array.mk.injEq, List.cons.injEq, and_true] at e0 e1
    obtain ⟨rfl, rfl⟩ := e0
    obtain ⟨rfl, rfl⟩ := e1
    exact text_app w g cap fr x0 x1 a0 a1 n0 c0 n1 c1 f a hh (fun W hW => ihf (hf.later hW) hg.1 (by omega)) (fun W hW => iha (ha.later hW) hg.2 (by omega)) (by omega)

theorem ST.fine {t : Tm} {w : World} {v : Value} (h : ST w t v) (hg : t.good = true) (hz : t.size ≤ 1000000000) :
    Calls Try.prog 20 #[v] w fun e w' => e = .returned (.bool t.fits) ∧ After w w' := by
  obtain ⟨x, ao, n, c, rfl⟩ := h.form
  have hnew := After.new w (.cells #[str x, .slice ao n c] 49)
  have hbox := heap_new' w (.cells #[str x, .slice ao n c] 49)
  have b0 : ∀ W, After (w.alloc (.cells #[str x, .slice ao n c] 49)) W → W.cell? ⟨w.heap.size, 0, none⟩ = some (str x) := fun W hW => hW.cell (cell_of_heap hbox)
  have b1 : ∀ W, After (w.alloc (.cells #[str x, .slice ao n c] 49)) W → W.cell? ⟨w.heap.size, 1, none⟩ = some (.slice ao n c) := fun W hW => hW.cell (cell_of_heap hbox)
  have hself := After.refl (w.alloc (.cells #[str x, .slice ao n c] 49))
  have hsize : ∀ W, After (w.alloc (.cells #[str x, .slice ao n c] 49)) W → Calls Try.prog 33 #[.agg #[str x, .slice ao n c]] W fun e w' => e = .returned (.int .i64 (t.size : Nat)) ∧ After (w.alloc (.cells #[str x, .slice ao n c] 49)) w' :=
    fun W hW => ((h.later (hnew.trans hW)).size hg hz).mono fun e w' ⟨he, hb⟩ => ⟨he, hW.trans hb⟩
  have hdeep : ∀ W, After (w.alloc (.cells #[str x, .slice ao n c] 49)) W → Calls Try.prog 34 #[.agg #[str x, .slice ao n c]] W fun e w' => e = .returned (.int .i64 (t.depth : Nat)) ∧ After (w.alloc (.cells #[str x, .slice ao n c] 49)) w' :=
    fun W hW => ((h.later (hnew.trans hW)).deep hg hz).mono fun e w' ⟨he, hb⟩ => ⟨he, hW.trans hb⟩
  clear hbox
  by_cases h1 : t.size ≤ 3000
  · by_cases h2 : t.depth ≤ 1500
    · have hf : t.fits = true := by simp [Tm.fits, h1, h2]
      rw [hf]
      clear hf
      go_enter Try.func20, Try.ntmps20
      go_wp2_with (first
        | (go_at_call 33; refine (hsize _ (by assumption)).mono ?_; rintro e w1 ⟨rfl, hb⟩)
        | (go_at_call 34; refine (hdeep _ (by assumption)).mono ?_; rintro e w1 ⟨rfl, hb⟩))
      go_ret
      exact ⟨by simp; omega, hnew.trans hb⟩
    · have hf : t.fits = false := by simp [Tm.fits, h2]
      rw [hf]
      clear hf
      go_enter Try.func20, Try.ntmps20
      go_wp2_with (first
        | (go_at_call 33; refine (hsize _ (by assumption)).mono ?_; rintro e w1 ⟨rfl, hb⟩)
        | (go_at_call 34; refine (hdeep _ (by assumption)).mono ?_; rintro e w1 ⟨rfl, hb⟩))
      go_ret
      exact ⟨by simp; omega, hnew.trans hb⟩
  · have hf : t.fits = false := by simp [Tm.fits, h1]
    rw [hf]
    clear hf
    go_enter Try.func20, Try.ntmps20
    go_wp2_with (first
      | (go_at_call 33; refine (hsize _ (by assumption)).mono ?_; rintro e w1 ⟨rfl, hb⟩)
      | (go_at_call 34; refine (hdeep _ (by assumption)).mono ?_; rintro e w1 ⟨rfl, hb⟩))
    go_ret
    exact ⟨by simp, hnew.trans hb⟩
end Go.Proofs.Ytjfdindlfakmcaa

namespace Go.Proofs.Ytjfdindlfakmcaa
open Go.RowKit

set_option maxHeartbeats 400000
set_option maxRecDepth 100000

theorem in_any (w : World) (n lo hi : Int) : Calls Try.prog 49 #[.int .i64 n, .int .i64 lo, .int .i64 hi] w fun e w' => e = .returned (.bool (decide (lo ≤ n ∧ n ≤ hi))) ∧ w = w' := by
  by_cases h1 : lo ≤ n
  · by_cases h2 : n ≤ hi
    · rw [show decide (lo ≤ n ∧ n ≤ hi) = true by simp [h1, h2]]
      go_enter Try.func49, Try.ntmps49
      go_wp2_with fail
      go_ret
      exact ⟨by simp, rfl⟩
    · rw [show decide (lo ≤ n ∧ n ≤ hi) = false by simp [h2]]
      go_enter Try.func49, Try.ntmps49
      go_wp2_with fail
      go_ret
      exact ⟨by simp, rfl⟩
  · rw [show decide (lo ≤ n ∧ n ≤ hi) = false by simp [h1]]
    go_enter Try.func49, Try.ntmps49
    go_wp2_with fail
    go_ret
    exact ⟨by simp, rfl⟩

theorem s_name (w : World) (l : List UInt8) (hl : l.length ≤ 1000000000) : Calls Try.prog 47 #[str l] w fun e w' => e = .returned (.bool (Tm.nameOk l)) ∧ w = w' := by
  have hsz : (⟨l.toArray⟩ : ByteArray).size = l.length := by show l.toArray.size = _; simp
  have hin := in_any w (l.length : Nat) 1 4
  by_cases hlen : 1 ≤ l.length ∧ l.length ≤ 4
  · rw [show decide ((1 : Int) ≤ ((l.length : Nat) : Int) ∧ ((l.length : Nat) : Int) ≤ 4) = true by rw [decide_eq_true_eq]; omega] at hin
    cases hcs : l with
    | nil => rw [hcs] at hlen; simp at hlen
    | cons c ds =>
      rw [← hcs]
      have hpos : 0 < l.length := by omega
      have hat : (⟨l.toArray⟩ : ByteArray)[0]'(by rw [hsz]; exact hpos) = c := by rw [byte_at l 0 hpos]; simp [hcs]
      have hok : Tm.nameOk l = (Tm.lead c && (l.drop 1).all Tm.dig) := by
        have : ds.length ≤ 3 := by have := hlen.2; rw [hcs] at this; simp at this; omega
        rw [hcs]; simp [Tm.nameOk, this]
      obtain ⟨hlen1, hlen4⟩ := hlen
      clear hcs
      by_cases hlead : Tm.lead c = true
      · have hfin : Hid (Tm.nameOk l = (l.drop 1).all Tm.dig) := by show _ = _; rw [hok, hlead]; rfl
        obtain ⟨hl1, hl2⟩ := (lead_int c).1 hlead
        clear hok hlead
        go_enter Try.func47, Try.ntmps47
        go_wp2_with (go_at_call 49; refine hin.mono ?_; rintro e w' ⟨rfl, rfl⟩)
        go_loop [3] (fun n => ∃ k : Nat, 1 ≤ k ∧ k ≤ l.length ∧ n = .int .i64 k ∧ Hid (Tm.nameOk l = (l.drop k).all Tm.dig)) (fun n => l.length - (intOf n).toNat)
        case atStart => exact ⟨1, by omega, by omega, rfl, hfin⟩
        case round =>
          obtain ⟨k, hk1, hkl, rfl, hk⟩ := hrel
          clear hat hfin
          by_cases hlt : k < l.length
          · have hatk := byte_at l k hlt (by rw [hsz]; exact hlt)
            have hdrop := List.drop_eq_getElem_cons hlt
            by_cases hd : Tm.dig l[k] = true
            · have HS : Hid (Tm.nameOk l = (l.drop (k + 1)).all Tm.dig) := by show _ = _; rw [hk.out, hdrop, List.all_cons, hd]; rfl
              obtain ⟨hd1, hd2⟩ := (dig_int _).1 hd
              rw [← hatk] at hd1 hd2
              clear hd hdrop hatk hk
              go_wp2_with fail
              go_round
              case rel => exact ⟨k + 1, by omega, by omega, by go_num, HS⟩
              case measure => simp [intOf]; omega
            · have HS : Hid (Tm.nameOk l = false) := by show _ = _; rw [hk.out, hdrop, List.all_cons]; simp [hd]
              rw [dig_int, ← hatk] at hd
              clear hdrop hatk hk
              by_cases hd1 : (48 : Int) ≤ (((⟨l.toArray⟩ : ByteArray)[k]'(by rw [hsz]; exact hlt)).toNat : Int)
              · have hd2 : (57 : Int) < (((⟨l.toArray⟩ : ByteArray)[k]'(by rw [hsz]; exact hlt)).toNat : Int) := by
                  have := fun h => hd ⟨hd1, h⟩
                  omega
                clear hd
                go_wp2_with fail
                go_ret
                exact ⟨by rw [HS.out]; rfl, rfl⟩
              · have hd2 : (((⟨l.toArray⟩ : ByteArray)[k]'(by rw [hsz]; exact hlt)).toNat : Int) < 48 := by omega
                clear hd hd1
                go_wp2_with fail
                go_ret
                exact ⟨by rw [HS.out]; rfl, rfl⟩
          · have HS : Hid (Tm.nameOk l = true) := by show _ = _; rw [hk.out, List.drop_eq_nil_of_le (by omega)]; rfl
            clear hk
            go_wp2_with fail
            go_ret
            exact ⟨by rw [HS.out]; rfl, rfl⟩
      · have hfin : Tm.nameOk l = false := by rw [hok]; simp [hlead]
        rw [hfin]
        rw [lead_int] at hlead
        clear hfin hok
        by_cases h1 : (c.toNat : Int) < 117
        · go_enter Try.func47, Try.ntmps47
          go_wp2_with (go_at_call 49; refine hin.mono ?_; rintro e w' ⟨rfl, rfl⟩)
          go_ret
          exact ⟨rfl, rfl⟩
        · have h2 : (122 : Int) < (c.toNat : Int) := by omega
          clear hlead
          go_enter Try.func47, Try.ntmps47
          go_wp2_with (go_at_call 49; refine hin.mono ?_; rintro e w' ⟨rfl, rfl⟩)
          go_ret
          exact ⟨rfl, rfl⟩
  · rw [show decide ((1 : Int) ≤ ((l.length : Nat) : Int) ∧ ((l.length : Nat) : Int) ≤ 4) = false by rw [decide_eq_false_iff_not]; omega] at hin
    have hfin : Tm.nameOk l = false := by
      cases hcs : l with
      | nil => rfl
      | cons c ds =>
        rw [hcs] at hlen
        simp at hlen
        have : ¬ ds.length ≤ 3 := by omega
        simp [Tm.nameOk, this]
    rw [hfin]
    clear hfin hlen
    go_enter Try.func47, Try.ntmps47
    go_wp2_with (go_at_call 49; refine hin.mono ?_; rintro e w' ⟨rfl, rfl⟩)
    go_ret
    exact ⟨rfl, rfl⟩

theorem atomEnd_mid (l : List UInt8) (k : Nat) (h : k < l.length) (hm : Tm.mid l[k] = true) : Tm.atomEnd l k = Tm.atomEnd l (k + 1) := by
  unfold Tm.atomEnd
  rw [List.drop_eq_getElem_cons h, List.takeWhile_cons]
  unfold Tm.mid at hm
  rw [hm]
  simp
  omega

theorem atomEnd_stop (l : List UInt8) (k : Nat) (h : k < l.length → Tm.mid (l.getD k 0) = false) : Tm.atomEnd l k = k := by
  unfold Tm.atomEnd
  by_cases hk : k < l.length
  · have hm := h hk
    rw [List.getD_eq_getElem?_getD, List.getElem?_eq_getElem hk] at hm
    rw [List.drop_eq_getElem_cons hk, List.takeWhile_cons]
    unfold Tm.mid at hm
    simp only [Option.getD_some] at hm
    rw [hm]
    simp
  · rw [List.drop_eq_nil_of_le (by omega)]
    simp

theorem byte_ne_lit (x : UInt8) (n : Nat) (h : n < 256) : ((x.toNat : Int) != (n : Int)) = (x != UInt8.ofNat n) := by
  have := byte_ne x (UInt8.ofNat n)
  rw [UInt8.toNat_ofNat_of_lt' (by simpa using h)] at this
  exact this

theorem s_atom (w : World) (l : List UInt8) (i : Nat) (hl : l.length ≤ 1000000000) (hi : i ≤ l.length) :
    Calls Try.prog 46 #[str l, .int .i64 i] w fun e w' => e = .returned (.int .i64 (Tm.atomEnd l i : Nat)) ∧ w = w' := by
  have hsz : (⟨l.toArray⟩ : ByteArray).size = l.length := by show l.toArray.size = _; simp
  go_enter Try.func46, Try.ntmps46
  go_wp2_with fail
  go_loop [1] (fun n => ∃ k : Nat, i ≤ k ∧ k ≤ l.length ∧ n = .int .i64 k ∧ Hid (Tm.atomEnd l i = Tm.atomEnd l k)) (fun n => l.length - (intOf n).toNat)
  case atStart => exact ⟨i, Nat.le_refl _, hi, rfl, rfl⟩
  case round =>
    obtain ⟨k, hk1, hkl, rfl, hk⟩ := hrel
    by_cases hlt : k < l.length
    · have hatk := byte_at l k hlt (by rw [hsz]; exact hlt)
      have n1 : ((l[k].toNat : Int) != 32) = (l[k] != (32 : UInt8)) := byte_ne_lit l[k] 32 (by omega)
      have n2 : ((l[k].toNat : Int) != 40) = (l[k] != (40 : UInt8)) := byte_ne_lit l[k] 40 (by omega)
      have n3 : ((l[k].toNat : Int) != 41) = (l[k] != (41 : UInt8)) := byte_ne_lit l[k] 41 (by omega)
      rw [← hatk] at n1 n2 n3
      by_cases hm : Tm.mid l[k] = true
      · have HS : Hid (Tm.atomEnd l i = Tm.atomEnd l (k + 1)) := by show _ = _; rw [hk.out, atomEnd_mid l k hlt hm]
        rw [← hatk] at hm
        simp only [Tm.mid, Bool.and_eq_true] at hm
        rw [hm.1.1] at n1
        rw [hm.1.2] at n2
        rw [hm.2] at n3
        clear hm hatk hk
        go_wp2_with fail
        go_round
        case rel => exact ⟨k + 1, by omega, by omega, by go_num, HS⟩
        case measure => simp [intOf]; omega
      · have HS : Hid (Tm.atomEnd l i = k) := by
          show _ = _
          rw [hk.out]
          exact atomEnd_stop l k (fun h => by rw [List.getD_eq_getElem?_getD, List.getElem?_eq_getElem h]; simpa using hm)
        rw [← hatk] at hm
        simp only [Tm.mid, Bool.and_eq_true, not_and, Bool.not_eq_true] at hm
        clear hatk hk
        cases m1 : ((((⟨l.toArray⟩ : ByteArray)[k]'(by rw [hsz]; exact hlt))) != (32 : UInt8)) with
        | false =>
          rw [m1] at n1
          clear m1 hm n2 n3
          go_wp2_with fail
          go_ret
          exact ⟨by rw [HS.out]; rfl, rfl⟩
        | true =>
          rw [m1] at n1
          cases m2 : ((((⟨l.toArray⟩ : ByteArray)[k]'(by rw [hsz]; exact hlt))) != (40 : UInt8)) with
          | false =>
            rw [m2] at n2
            clear m1 m2 hm n3
            go_wp2_with fail
            go_ret
            exact ⟨by rw [HS.out]; rfl, rfl⟩
          | true =>
            have m3 := hm ⟨m1, m2⟩
            rw [m2] at n2
            rw [m3] at n3
            clear m1 m2 m3 hm
            go_wp2_with fail
            go_ret
            exact ⟨by rw [HS.out]; rfl, rfl⟩
    · have HS : Hid (Tm.atomEnd l i = k) := by
        show _ = _
        rw [hk.out]
        exact atomEnd_stop l k (fun h => absurd h hlt)
      clear hk
      go_wp2_with fail
      go_ret
      exact ⟨by rw [HS.out]; rfl, rfl⟩
end Go.Proofs.Ytjfdindlfakmcaa

namespace Go.Proofs.Ytjfdindlfakmcaa
open Go.RowKit

set_option maxHeartbeats 400000
set_option maxRecDepth 100000

def place : Option (Tm × Nat) → Int
  | some (_, j) => (j : Nat)
  | none => -1

def SReadPost (w : World) (r : Option (Tm × Nat)) (e : Ending) (w' : World) : Prop :=
  ∃ s ao n c, e = .returned (.tuple #[.agg #[str s, .slice ao n c], .int .i64 (place r)]) ∧ After w w' ∧ ∀ t j, r = some (t, j) → ST w' t (.agg #[str s, .slice ao n c])

theorem box2 {w W : World} {x y : Value} {T : TypeId} (h : After (w.alloc (.cells #[x, y] T)) W) :
    W.cell? ⟨w.heap.size, 0, none⟩ = some x ∧ W.cell? ⟨w.heap.size, 1, none⟩ = some y ∧ W.frozen? ⟨w.heap.size, 0, none⟩ = false ∧ W.frozen? ⟨w.heap.size, 1, none⟩ = false ∧ w.heap.size < W.heap.size := by
  have hh := h.heap (heap_new' w (.cells #[x, y] T))
  refine ⟨cell_of_heap hh, cell_of_heap hh, by simp [World.frozen?, hh], by simp [World.frozen?, hh], (Array.getElem?_eq_some_iff.1 hh).1⟩

theorem byte_ne_lit' (x : UInt8) (n : Int) (c : UInt8) (hn : n = (c.toNat : Nat)) (_h : c = c) : ((x.toNat : Int) != n) = (x != c) := by
  subst hn; exact byte_ne x c

theorem ST_atom (w : World) (t : Tm) (h : t.depth = 0) : ST w t (.agg #[str t.text, .slice none 0 0]) := by
  cases t with
  | app f a => simp [Tm.depth] at h
  | k => rfl
  | s => rfl
  | nm n => rfl

theorem After.set {w W : World} {o : Obj} (h : After (w.alloc o) W) (i : Nat) (v : Value) : After w (W.setCell ⟨w.heap.size, i, none⟩ v) :=
  Below.setCell ((After.new w o).trans h) (Nat.le_refl _) v

theorem After.set2 {w W : World} {o : Obj} (h : After (w.alloc o) W) {i j : Nat} {v u : Value} : After w ((W.setCell ⟨w.heap.size, i, none⟩ v).setCell ⟨w.heap.size, j, none⟩ u) :=
  Below.setCell (h.set i v) (Nat.le_refl _) u

theorem SReadPost.no {w w' : World} {r : Option (Tm × Nat)} (hr : r = none) (hb : After w w') : SReadPost w r (.returned (.tuple #[.agg #[.string ⟨#[]⟩, .slice none 0 0], .int .i64 (-1)])) w' :=
  ⟨[], none, 0, 0, by rw [hr]; rfl, hb, fun t j he => by rw [hr] at he; simp at he⟩

theorem heap_new2 (W : World) (n : Nat) (o p : Obj) (h : W.heap.size = n) : ((W.alloc o).alloc p).heap[n + 1]? = some p := by
  have := heap_new' (W.alloc o) p
  rw [show (W.alloc o).heap.size = n + 1 by simp [h]] at this
  exact this

theorem ST.kept {W W' : World} (hk : ∀ (g : Nat) (cs : Array Value) (T : TypeId) (fr : Nat × Nat), cs.size = 4 → W.heap[g]? = some (.cells cs T fr) → W'.heap[g]? = some (.cells cs T fr)) : ∀ {t : Tm} {v : Value}, ST W t v → ST W' t v
  | .k, _, h => h
  | .s, _, h => h
  | .nm _, _, h => h
  | .app _ _, _, ⟨g, cap, fr, s0, p0, s1, p1, hv, hh, hf, ha⟩ => ⟨g, cap, fr, s0, p0, s1, p1, hv, hk _ _ _ _ rfl hh, hf.kept hk, ha.kept hk⟩

theorem ST.sets {w W : World} {x y u u' : Value} {T : TypeId} {t : Tm} {v : Value} (h : ST W t v) (hb : After (w.alloc (.cells #[x, y] T)) W) {i j : Nat} : ST ((W.setCell ⟨w.heap.size, i, none⟩ u).setCell ⟨w.heap.size, j, none⟩ u') t v := by
  have hh := hb.heap (heap_new' w (.cells #[x, y] T))
  refine h.kept fun g cs T' fr hs hg => ?_
  have hne : g ≠ w.heap.size := by
    rintro rfl
    rw [hh] at hg
    injection hg with hg
    injection hg with hg _ _
    subst hg
    simp at hs
  rw [Below.heap_setCell _ _ _ _ hne, Below.heap_setCell _ _ _ _ hne]
  exact hg

set_option maxHeartbeats 8000000 in
theorem s_read (l : List UInt8) (hl : l.length ≤ 1000000000) : ∀ (d : Nat) (i a : Int) (k : Nat) (w : World), i = k → k ≤ l.length → a + d = 1501 → d ≤ 1501 →
    Calls Try.prog 41 #[str l, .int .i64 i, .int .i64 a] w (SReadPost w (Tm.mread l d k)) := by
  intro d
  induction d with
  | zero =>
    intro i a k w hi hk ha _
    subst hi
    have h1 : (1500 : Int) < a := by omega
    clear ha
    go_enter Try.func41, Try.ntmps41
    go_wp2_with fail
    exact bodyPost_ret (v := .tuple #[.agg #[.string ⟨#[]⟩, .slice none 0 0], .int .i64 (-1)]) (by simp [results, Try.results41, go_sem]) rfl (SReadPost.no rfl (After.new _ _))
  | succ d ih =>
    intro i a k w hi hk ha hd
    subst hi
    have h1 : a ≤ 1500 := by omega
    have h2 : 0 ≤ a := by omega
    have hsz : (⟨l.toArray⟩ : ByteArray).size = l.length := by show l.toArray.size = _; simp
    by_cases hlen : l.length ≤ k
    · have hfin : Tm.mread l (d + 1) k = none := by simp [Tm.mread, hlen]
      rw [hfin]
      clear hfin ih ha
      go_enter Try.func41, Try.ntmps41
      go_wp2_with fail
      exact bodyPost_ret (v := .tuple #[.agg #[.string ⟨#[]⟩, .slice none 0 0], .int .i64 (-1)]) (by simp [results, Try.results41, go_sem]) rfl (SReadPost.no rfl (After.new _ _))
    · have hlt : k < l.length := by omega
      have hatk := byte_at l k hlt (by rw [hsz]; exact hlt)
      have hget : l[k]? = some l[k] := List.getElem?_eq_getElem hlt
      have h40e : ((((⟨l.toArray⟩ : ByteArray)[k]'(by rw [hsz]; exact hlt)).toNat : Int) != 40) = (l[k] != (40 : UInt8)) := by
        rw [hatk]; exact byte_ne_lit l[k] 40 (by omega)
      by_cases h40 : l[k] = 40
      · have hne : (l[k] != (40 : UInt8)) = false := by simpa using h40
        rw [hne] at h40e
        have h0 : l[k]? = some 40 := by rw [hget, h40]
        have HA := Lib.hid ha
        have HIH := Lib.hid ih
        have call1 : ∀ W, Calls Try.prog 41 #[str l, .int .i64 ((k : Int) + 1), .int .i64 (a + 1)] W (SReadPost W (Tm.mread l d (k + 1))) := fun W => ih _ _ (k + 1) W (by omega) (by omega) (by omega) (by omega)
        clear hne h40 hget hatk ha ih
        cases hf : Tm.mread l d (k + 1) with
        | none =>
          have hfin : Tm.mread l (d + 1) k = none := by simp [Tm.mread, hlen, h0, hf]
          rw [hfin]
          rw [hf] at call1
          clear hfin hf h0 hlen
          go_enter Try.func41, Try.ntmps41
          go_wp2_with fail
          refine (call1 _).mono ?_
          rintro e w1 ⟨s1, ao1, n1, c1, rfl, hb1, ht1⟩
          clear ht1 call1
          obtain ⟨r0, r1, f0, f1, hz⟩ := box2 hb1
          have hpl : place none = -1 := rfl
          go_wp2_with fail
          exact bodyPost_ret (v := .tuple #[.agg #[.string ⟨#[]⟩, .slice none 0 0], .int .i64 (-1)]) (by simp [results, Try.results41, go_sem, r0, r1, hz]) rfl (SReadPost.no rfl (After.alloc (After.set2 hb1) _))
        | some p =>
          obtain ⟨f, j⟩ := p
          obtain ⟨zf, hj⟩ := reads_size (Tm.mread_sound hf)
          rw [hf] at call1
          have hpl : place (some (f, j)) = (j : Int) := rfl
          by_cases h32 : l[j]? = some 32
          · obtain ⟨jlt, hjv⟩ := List.getElem?_eq_some_iff.1 h32
            have hatj : ((((⟨l.toArray⟩ : ByteArray)[j]'(by rw [hsz]; exact jlt)).toNat : Int) != 32) = false := by
              rw [byte_at l j jlt, byte_ne_lit' l[j] 32 32 rfl rfl, hjv]; rfl
            have call2 : ∀ W, Calls Try.prog 41 #[str l, .int .i64 ((j : Int) + 1), .int .i64 (a + 1)] W (SReadPost W (Tm.mread l d (j + 1))) := fun W => HIH.out _ _ (j + 1) W (by omega) (by omega) (by have := HA.out; omega) (by omega)
            cases hq : Tm.mread l d (j + 1) with
            | none =>
              have H := Lib.hid (show Tm.mread l (d + 1) k = none by simp [Tm.mread, hlen, h0, hf, h32, hq])
              rw [hq] at call2
              have hpl2 : place none = -1 := rfl
              clear hq hf h32 h0 hlen hjv
              go_enter Try.func41, Try.ntmps41
              go_wp2_with fail
              refine (call1 _).mono ?_
              rintro e w1 ⟨s1, ao1, n1, c1, rfl, hb1, ht1⟩
              have ht1' := Lib.hid (ht1 f _ rfl)
              clear ht1 call1
              obtain ⟨r0, r1, f0, f1, hz⟩ := box2 hb1
              go_wp2_with fail
              refine (call2 _).mono ?_
              rintro e w2 ⟨s2, ao2, n2, c2, rfl, hb2, ht2⟩
              have hb12 : After (w.alloc (.cells #[.string ⟨#[]⟩, .slice none 0 0] 49)) w2 := (After.alloc hb1 _).trans hb2
              clear r0 r1 f0 f1 hz call2
              obtain ⟨r0, r1, f0, f1, hz⟩ := box2 hb12
              clear ht2
              go_wp2_with fail
              exact bodyPost_ret (v := .tuple #[.agg #[.string ⟨#[]⟩, .slice none 0 0], .int .i64 (-1)]) (by simp [results, Try.results41, go_sem, r0, r1, hz]) rfl (SReadPost.no H.out (After.alloc (After.set2 hb12) _))
            | some p =>
              obtain ⟨g, m⟩ := p
              obtain ⟨zg, hm⟩ := reads_size (Tm.mread_sound hq)
              rw [hq] at call2
              have hpl2 : place (some (g, m)) = (m : Int) := rfl
              by_cases h41 : l[m]? = some 41
              · obtain ⟨mlt, hmv⟩ := List.getElem?_eq_some_iff.1 h41
                have hatm : ((((⟨l.toArray⟩ : ByteArray)[m]'(by rw [hsz]; exact mlt)).toNat : Int) != 41) = false := by
                  rw [byte_at l m mlt, byte_ne_lit' l[m] 41 41 rfl rfl, hmv]; rfl
                have H := Lib.hid (show Tm.mread l (d + 1) k = some (f.app g, m + 1) by simp [Tm.mread, hlen, h0, hf, h32, hq, h41])
                clear hq hf h32 h0 hlen hjv h41 hmv
                go_enter Try.func41, Try.ntmps41
                go_wp2_with fail
                refine (call1 _).mono ?_
                rintro e w1 ⟨s1, ao1, n1, c1, rfl, hb1, ht1⟩
                have ht1' := Lib.hid (ht1 f _ rfl)
                clear ht1 call1
                obtain ⟨r0, r1, f0, f1, hz⟩ := box2 hb1
                go_wp2_with fail
                refine (call2 _).mono ?_
                rintro e w2 ⟨s2, ao2, n2, c2, rfl, hb2, ht2⟩
                have hb12 : After (w.alloc (.cells #[.string ⟨#[]⟩, .slice none 0 0] 49)) w2 := (After.alloc hb1 _).trans hb2
                clear r0 r1 f0 f1 hz call2
                obtain ⟨r0, r1, f0, f1, hz⟩ := box2 hb12
                have ht2' := Lib.hid (ht2 g m rfl)
                clear ht2
                have a1 : w2.cell? ⟨w1.heap.size, 0, none⟩ = some (str s1) ∧ w2.cell? ⟨w1.heap.size, 1, none⟩ = some (.slice ao1 n1 c1) ∧ w1.heap.size < w2.heap.size := by
                  obtain ⟨q0, q1, _, _, q4⟩ := box2 hb2
                  exact ⟨q0, q1, q4⟩
                obtain ⟨q0, q1, q4⟩ := a1
                go_wp2_with fail
                refine bodyPost_ret (v := .tuple #[.agg #[.string ⟨#[]⟩, .slice (some ⟨w2.heap.size + 1, 0, none⟩) 2 2], .int .i64 ((m : Int) + 1)]) (by simp [results, Try.results41, go_sem, r0, r1, hz]) rfl ?_
                refine ⟨[], some ⟨w2.heap.size + 1, 0, none⟩, 2, 2, by rw [H.out]; rfl, After.alloc (After.alloc (After.set2 hb12) _) _, fun t j' he => ?_⟩
                rw [H.out] at he
                simp only [Option.some.injEq, Prod.mk.injEq] at he
                obtain ⟨rfl, rfl⟩ := he
                have k1 := (((ht1'.out.later ((After.new w1 _).trans hb2)).sets (i := 0) (j := 1) (u := .string ⟨#[]⟩) (u' := .slice (some ⟨w2.heap.size + 1, 0, none⟩) 2 2) hb12).later (After.new _ (.cells #[.string ⟨s2.toArray⟩, .slice ao2 n2 c2] 49))).later (After.new _ (.cells #[str s1, .slice ao1 n1 c1, .string ⟨s2.toArray⟩, .slice ao2 n2 c2] 49))
                have k2 := ((ht2'.out.sets (i := 0) (j := 1) (u := .string ⟨#[]⟩) (u' := .slice (some ⟨w2.heap.size + 1, 0, none⟩) 2 2) hb12).later (After.new _ (.cells #[.string ⟨s2.toArray⟩, .slice ao2 n2 c2] 49))).later (After.new _ (.cells #[str s1, .slice ao1 n1 c1, .string ⟨s2.toArray⟩, .slice ao2 n2 c2] 49))
                refine ⟨w2.heap.size + 1, 2, (0, 0), _, _, _, _, rfl, ?_, k1, k2⟩
                exact heap_new2 _ _ _ _ (by simp [World.setCell])
              · have H := Lib.hid (show Tm.mread l (d + 1) k = none by simp [Tm.mread, hlen, h0, hf, h32, hq, h41])
                by_cases hml : m = l.length
                · subst hml
                  clear hq hf h32 h0 hlen hjv h41
                  go_enter Try.func41, Try.ntmps41
                  go_wp2_with fail
                  refine (call1 _).mono ?_
                  rintro e w1 ⟨s1, ao1, n1, c1, rfl, hb1, ht1⟩
                  have ht1' := Lib.hid (ht1 f _ rfl)
                  clear ht1 call1
                  obtain ⟨r0, r1, f0, f1, hz⟩ := box2 hb1
                  go_wp2_with fail
                  refine (call2 _).mono ?_
                  rintro e w2 ⟨s2, ao2, n2, c2, rfl, hb2, ht2⟩
                  have hb12 : After (w.alloc (.cells #[.string ⟨#[]⟩, .slice none 0 0] 49)) w2 := (After.alloc hb1 _).trans hb2
                  clear r0 r1 f0 f1 hz call2
                  obtain ⟨r0, r1, f0, f1, hz⟩ := box2 hb12
                  clear ht2
                  go_wp2_with fail
                  exact bodyPost_ret (v := .tuple #[.agg #[.string ⟨#[]⟩, .slice none 0 0], .int .i64 (-1)]) (by simp [results, Try.results41, go_sem, r0, r1, hz]) rfl (SReadPost.no H.out (After.alloc (After.set2 hb12) _))
                · have mlt : m < l.length := by omega
                  have hatm : ((((⟨l.toArray⟩ : ByteArray)[m]'(by rw [hsz]; exact mlt)).toNat : Int) != 41) = true := by
                    rw [byte_at l m mlt, byte_ne_lit' l[m] 41 41 rfl rfl]
                    rw [List.getElem?_eq_getElem mlt] at h41
                    simpa using h41
                  clear hq hf h32 h0 hlen hjv h41
                  go_enter Try.func41, Try.ntmps41
                  go_wp2_with fail
                  refine (call1 _).mono ?_
                  rintro e w1 ⟨s1, ao1, n1, c1, rfl, hb1, ht1⟩
                  have ht1' := Lib.hid (ht1 f _ rfl)
                  clear ht1 call1
                  obtain ⟨r0, r1, f0, f1, hz⟩ := box2 hb1
                  go_wp2_with fail
                  refine (call2 _).mono ?_
                  rintro e w2 ⟨s2, ao2, n2, c2, rfl, hb2, ht2⟩
                  have hb12 : After (w.alloc (.cells #[.string ⟨#[]⟩, .slice none 0 0] 49)) w2 := (After.alloc hb1 _).trans hb2
                  clear r0 r1 f0 f1 hz call2
                  obtain ⟨r0, r1, f0, f1, hz⟩ := box2 hb12
                  clear ht2
                  go_wp2_with fail
                  exact bodyPost_ret (v := .tuple #[.agg #[.string ⟨#[]⟩, .slice none 0 0], .int .i64 (-1)]) (by simp [results, Try.results41, go_sem, r0, r1, hz]) rfl (SReadPost.no H.out (After.alloc (After.set2 hb12) _))
          · have H := Lib.hid (show Tm.mread l (d + 1) k = none by simp [Tm.mread, hlen, h0, hf, h32])
            by_cases hjl : j = l.length
            · subst hjl
              clear hf h32 h0 hlen
              go_enter Try.func41, Try.ntmps41
              go_wp2_with fail
              refine (call1 _).mono ?_
              rintro e w1 ⟨s1, ao1, n1, c1, rfl, hb1, ht1⟩
              have ht1' := Lib.hid (ht1 f _ rfl)
              clear ht1 call1
              obtain ⟨r0, r1, f0, f1, hz⟩ := box2 hb1
              go_wp2_with fail
              exact bodyPost_ret (v := .tuple #[.agg #[.string ⟨#[]⟩, .slice none 0 0], .int .i64 (-1)]) (by simp [results, Try.results41, go_sem, r0, r1, hz]) rfl (SReadPost.no H.out (After.alloc (After.set2 hb1) _))
            · have jlt : j < l.length := by omega
              have hatj : ((((⟨l.toArray⟩ : ByteArray)[j]'(by rw [hsz]; exact jlt)).toNat : Int) != 32) = true := by
                rw [byte_at l j jlt, byte_ne_lit' l[j] 32 32 rfl rfl]
                rw [List.getElem?_eq_getElem jlt] at h32
                simpa using h32
              clear hf h32 h0 hlen
              go_enter Try.func41, Try.ntmps41
              go_wp2_with fail
              refine (call1 _).mono ?_
              rintro e w1 ⟨s1, ao1, n1, c1, rfl, hb1, ht1⟩
              have ht1' := Lib.hid (ht1 f _ rfl)
              clear ht1 call1
              obtain ⟨r0, r1, f0, f1, hz⟩ := box2 hb1
              go_wp2_with fail
              exact bodyPost_ret (v := .tuple #[.agg #[.string ⟨#[]⟩, .slice none 0 0], .int .i64 (-1)]) (by simp [results, Try.results41, go_sem, r0, r1, hz]) rfl (SReadPost.no H.out (After.alloc (After.set2 hb1) _))
      · have hne : (l[k] != (40 : UInt8)) = true := by simpa using h40
        rw [hne] at h40e
        have hend := Tm.atomEnd_le l k hk
        have hat := s_atom w l k hl hk
        have hat' := fun W => s_atom W l k hl hk
        obtain ⟨m, hm⟩ : ∃ m, m = Tm.atomEnd l k := ⟨_, rfl⟩
        have hword : (⟨l.toArray⟩ : ByteArray).extract k m = ⟨((l.drop k).take (m - k)).toArray⟩ := bytes_ext l k m
        have hmr : Tm.mread l (d + 1) k = match Tm.mkAtom ((l.drop k).take (m - k)) with | some t => some (t, m) | none => none := by
          rw [hm]; simp [Tm.mread, hlen, hget, h40]; rfl
        rw [← hm] at hend hat'
        obtain ⟨x, hx⟩ : ∃ x, x = (l.drop k).take (m - k) := ⟨_, rfl⟩
        rw [← hx] at hword hmr
        have hxl : x.length ≤ 1000000000 := by rw [hx]; simp; omega
        have hname := fun W => s_name W x hxl
        have HM := Lib.hid hmr
        clear hmr hx hm hat hne h40 hatk hget ih hlen ha
        obtain ⟨hm1, hm2⟩ := hend
        cases hmk : Tm.mkAtom x with
        | none =>
          have hfin : Tm.mread l (d + 1) k = none := by rw [HM.out, hmk]
          have e1 : (x == [107]) = false := by
            rw [beq_eq_false_iff_ne]; rintro rfl; simp [Tm.mkAtom] at hmk
          have e2 : (x == [115]) = false := by
            rw [beq_eq_false_iff_ne]; rintro rfl; simp [Tm.mkAtom] at hmk
          have e3 : Tm.nameOk x = false := by
            cases hq : Tm.nameOk x with
            | false => rfl
            | true => simp only [beq_eq_false_iff_ne, ne_eq] at e1 e2; simp [Tm.mkAtom, e1, e2, hq] at hmk
          rw [e3] at hname
          rw [hfin]
          clear hfin hmk HM e3
          go_enter Try.func41, Try.ntmps41
          go_wp2_with (first
            | (go_at_call 46; refine (hat' _).mono ?_; rintro e w' ⟨rfl, rfl⟩)
            | (go_at_call 47; refine (hname _).mono ?_; rintro e w' ⟨rfl, rfl⟩))
          exact bodyPost_ret (v := .tuple #[.agg #[.string ⟨#[]⟩, .slice none 0 0], .int .i64 (-1)]) (by simp [results, Try.results41, go_sem]) rfl (SReadPost.no rfl (After.new _ _))
        | some t =>
          have hfin : Tm.mread l (d + 1) k = some (t, m) := by rw [HM.out, hmk]
          obtain ⟨ht, _, hd0, _, _⟩ := Tm.mkAtom_sound hmk
          rw [hfin]
          have hpost : ∀ W', After w W' → SReadPost w (some (t, m)) (.returned (.tuple #[.agg #[str x, .slice none 0 0], .int .i64 (m : Nat)])) W' := fun W' hb =>
            ⟨x, none, 0, 0, rfl, hb, fun t' j he => by
              simp only [Option.some.injEq, Prod.mk.injEq] at he
              obtain ⟨rfl, rfl⟩ := he
              rw [← ht]
              exact ST_atom _ _ hd0⟩
          have HP := Lib.hid hpost
          clear hpost
          by_cases e1 : x = [107]
          · subst e1
            clear hfin hmk HM hname ht hd0
            go_enter Try.func41, Try.ntmps41
            go_wp2_with (go_at_call 46; refine (hat' _).mono ?_; rintro e w' ⟨rfl, rfl⟩)
            exact bodyPost_ret (v := .tuple #[.agg #[str [107], .slice none 0 0], .int .i64 (m : Nat)]) (by simp [results, Try.results41, go_sem]) rfl (HP.out _ (After.new _ _))
          · by_cases e2 : x = [115]
            · subst e2
              clear hfin hmk HM hname ht hd0 e1
              go_enter Try.func41, Try.ntmps41
              go_wp2_with (go_at_call 46; refine (hat' _).mono ?_; rintro e w' ⟨rfl, rfl⟩)
              exact bodyPost_ret (v := .tuple #[.agg #[str [115], .slice none 0 0], .int .i64 (m : Nat)]) (by simp [results, Try.results41, go_sem]) rfl (HP.out _ (After.new _ _))
            · have e3 : Tm.nameOk x = true := by
                cases hq : Tm.nameOk x with
                | true => rfl
                | false => simp [Tm.mkAtom, e1, e2, hq] at hmk
              rw [e3] at hname
              have n1 : (x == [107]) = false := beq_eq_false_iff_ne.2 e1
              have n2 : (x == [115]) = false := beq_eq_false_iff_ne.2 e2
              clear hfin hmk HM ht hd0 e1 e2 e3
              go_enter Try.func41, Try.ntmps41
              go_wp2_with (first
                | (go_at_call 46; refine (hat' _).mono ?_; rintro e w' ⟨rfl, rfl⟩)
                | (go_at_call 47; refine (hname _).mono ?_; rintro e w' ⟨rfl, rfl⟩))
              exact bodyPost_ret (v := .tuple #[.agg #[str x, .slice none 0 0], .int .i64 (m : Nat)]) (by simp [results, Try.results41, go_sem]) rfl (HP.out _ (After.new _ _))
end Go.Proofs.Ytjfdindlfakmcaa

namespace Go.Proofs.Ytjfdindlfakmcaa
open Go.RowKit

set_option maxHeartbeats 4000000
set_option maxRecDepth 100000

def TreePost (w : World) (t : Tm) (e : Ending) (w' : World) : Prop :=
  ∃ s ao n c, e = .returned (.agg #[str s, .slice ao n c]) ∧ After w w' ∧ ST w' t (.agg #[str s, .slice ao n c])

theorem s_app (w : World) (f a : Tm) (s1 s2 : List UInt8) (a1 a2 : Option Addr) (n1 c1 n2 c2 g : Nat) (fr : Nat × Nat) (hf : ST w f (.agg #[str s1, .slice a1 n1 c1])) (ha : ST w a (.agg #[str s2, .slice a2 n2 c2]))
    (hg : w.heap[g]? = some (.cells #[str s2, .slice a2 n2 c2] 49 fr)) :
    Calls Try.prog 18 #[.agg #[str s1, .slice a1 n1 c1], .slice (some ⟨g, 0, none⟩) 1 1] w (TreePost w (f.app a)) := by
  have k0 : w.cell? ⟨g, 0, none⟩ = some (str s2) := cell_of_heap hg
  have k1 : w.cell? ⟨g, 1, none⟩ = some (.slice a2 n2 c2) := cell_of_heap hg
  have hlt := (Array.getElem?_eq_some_iff.1 hg).1
  have HF := Lib.hid hf
  have HA := Lib.hid ha
  clear hf ha hg
  go_enter Try.func18, Try.ntmps18
  go_wp2_with fail
  refine wp_loop_rounds 2 ?_
  rw [rounds_succ]
  go_wp2_with fail
  go_region
  go_wp2_with fail
  rw [rounds_succ]
  go_wp2_with fail
  have hx := ((After.new w (.cells #[.string ⟨#[]⟩, .slice (some ⟨w.heap.size + 1 + 1, 0, none⟩) 2 2] 49)).alloc (.cells #[.string ⟨#[]⟩, .slice (some ⟨w.heap.size + 1 + 1, 0, none⟩) 2 2] 49)).alloc (.cells #[str s1, .slice a1 n1 c1, str s2, .slice a2 n2 c2] 49)
  refine bodyPost_ret (v := .agg #[.string ⟨#[]⟩, .slice (some ⟨w.heap.size + 1 + 1, 0, none⟩) 2 2]) (by simp [results, Try.results18, go_sem]) rfl ⟨[], some ⟨w.heap.size + 1 + 1, 0, none⟩, 2, 2, rfl, hx.drew, ?_⟩
  exact ⟨w.heap.size + 1 + 1, 2, (0, 0), _, _, _, _, rfl, heap_new2 _ _ _ _ (by simp), HF.out.later hx.drew, HA.out.later hx.drew⟩

def RedexPost (w : World) (r : Option Tm) (e : Ending) (w' : World) : Prop :=
  ∃ s ao n c, e = .returned (.tuple #[.agg #[str s, .slice ao n c], .bool r.isSome]) ∧ After w w' ∧ ∀ u, r = some u → ST w' u (.agg #[str s, .slice ao n c])

theorem RedexPost.no {w w' : World} (hb : After w w') (s : List UInt8) (ao : Option Addr) (n c : Nat) : RedexPost w none (.returned (.tuple #[.agg #[str s, .slice ao n c], .bool false])) w' :=
  ⟨s, ao, n, c, rfl, hb, fun u hu => by simp at hu⟩

/-- W is X but for new blocks and block r. -/
def ButFor (X : World) (r : Nat) (W : World) : Prop := X.heap.size ≤ W.heap.size ∧ ∀ k, k < X.heap.size → k ≠ r → W.heap[k]? = X.heap[k]?

theorem ButFor.cell {X W : World} {r b i : Nat} {v : Value} (h : ButFor X r W) (hr : b ≠ r) (hc : X.cell? ⟨b, i, none⟩ = some v) : W.cell? ⟨b, i, none⟩ = some v := by
  rw [World.cell?_of_block (w := X) (a := ⟨b, i, none⟩) (h.2 b (World.block_lt_of_cell? _ _ hc) hr)]; exact hc
theorem ButFor.alloc {X W : World} {r : Nat} (h : ButFor X r W) (o : Obj) : ButFor X r (W.alloc o) := ⟨by simp; have := h.1; omega, fun k hk hr => by rw [Below.heap_alloc _ _ _ (Nat.lt_of_lt_of_le hk h.1)]; exact h.2 k hk hr⟩
theorem ButFor.after {X W W' : World} {r : Nat} (h : ButFor X r W) (g : After W W') : ButFor X r W' := ⟨Nat.le_trans h.1 g.size, fun k hk hr => by rw [g.block k (Nat.lt_of_lt_of_le hk h.1)]; exact h.2 k hk hr⟩
theorem ButFor.set {X W : World} {r : Nat} (h : ButFor X r W) (i : Nat) (v : Value) : ButFor X r (W.setCell ⟨r, i, none⟩ v) := ⟨by simp [World.setCell]; exact h.1, fun k hk hr => by rw [Below.heap_setCell _ _ _ _ (by simpa using hr)]; exact h.2 k hk hr⟩

theorem After.butFor {X W : World} {r : Nat} (h : After X W) : ButFor X r W := ⟨h.size, fun k hk _ => h.block k hk⟩
theorem ST.sets2 {W : World} {b : Nat} {x y u u' : Value} {T : TypeId} {fr : Nat × Nat} {t : Tm} {v : Value} (h : ST W t v) (hh : W.heap[b]? = some (.cells #[x, y] T fr)) {i j : Nat} : ST ((W.setCell ⟨b, i, none⟩ u).setCell ⟨b, j, none⟩ u') t v := by
  refine h.kept fun g cs T' fr' hs hg => ?_
  have hne : g ≠ b := by
    rintro rfl
    rw [hh] at hg
    injection hg with hg
    injection hg with hg _ _
    subst hg
    simp at hs
  rw [Below.heap_setCell _ _ _ _ hne, Below.heap_setCell _ _ _ _ hne]
  exact hg

theorem heap_old2 (W : World) (o p : Obj) : ((W.alloc o).alloc p).heap[W.heap.size]? = some o := by
  rw [Below.heap_alloc _ _ _ (by simp)]; exact heap_new' W o

theorem heap_new3 (w : World) (a b c : Obj) : (((w.alloc a).alloc b).alloc c).heap[w.heap.size + 1 + 1]? = some c := heap_new2 (w.alloc a) (w.heap.size + 1) b c (by simp)
theorem heap_new4 (w : World) (a b c d : Obj) : ((((w.alloc a).alloc b).alloc c).alloc d).heap[w.heap.size + 1 + 1 + 1]? = some d := heap_new2 ((w.alloc a).alloc b) (w.heap.size + 1 + 1) c d (by simp)

section
variable (w : World) (g1 q1 g2 q2 : Nat) (y1 x2 y2 : List UInt8) (b1 a2 b2 : Option Addr) (m1 d1 n2 m2 c2 d2 : Nat)
  (k0 : w.cell? ⟨g1, 0, none⟩ = some (str [])) (k1 : w.cell? ⟨g1, 1, none⟩ = some (.slice (some ⟨g2, 0, none⟩) 2 q2)) (k2 : w.cell? ⟨g1, 2, none⟩ = some (str y1)) (k3 : w.cell? ⟨g1, 3, none⟩ = some (.slice b1 m1 d1)) (hlt : g1 < w.heap.size)
  (j0 : w.cell? ⟨g2, 0, none⟩ = some (str x2)) (j1 : w.cell? ⟨g2, 1, none⟩ = some (.slice a2 n2 c2)) (j2 : w.cell? ⟨g2, 2, none⟩ = some (str y2)) (j3 : w.cell? ⟨g2, 3, none⟩ = some (.slice b2 m2 d2)) (hlt2 : g2 < w.heap.size)
include k0 k1 k2 k3 hlt j0 j1 j2 j3 hlt2
end

section
variable (w : World) (g1 q1 g2 q2 g3 q3 : Nat) (y1 y2 x3 y3 : List UInt8) (b1 b2 a3 b3 : Option Addr) (m1 d1 m2 d2 n3 c3 m3 d3 : Nat)
  (k0 : w.cell? ⟨g1, 0, none⟩ = some (str [])) (k1 : w.cell? ⟨g1, 1, none⟩ = some (.slice (some ⟨g2, 0, none⟩) 2 q2)) (k2 : w.cell? ⟨g1, 2, none⟩ = some (str y1)) (k3 : w.cell? ⟨g1, 3, none⟩ = some (.slice b1 m1 d1)) (hlt : g1 < w.heap.size)
  (j0 : w.cell? ⟨g2, 0, none⟩ = some (str [])) (j1 : w.cell? ⟨g2, 1, none⟩ = some (.slice (some ⟨g3, 0, none⟩) 2 q3)) (j2 : w.cell? ⟨g2, 2, none⟩ = some (str y2)) (j3 : w.cell? ⟨g2, 3, none⟩ = some (.slice b2 m2 d2)) (hlt2 : g2 < w.heap.size)
  (i0 : w.cell? ⟨g3, 0, none⟩ = some (str x3)) (i1 : w.cell? ⟨g3, 1, none⟩ = some (.slice a3 n3 c3)) (i2 : w.cell? ⟨g3, 2, none⟩ = some (str y3)) (i3 : w.cell? ⟨g3, 3, none⟩ = some (.slice b3 m3 d3)) (hlt3 : g3 < w.heap.size)
include k0 k1 k2 k3 hlt j0 j1 j2 j3 hlt2 i0 i1 i2 i3 hlt3
end
end Go.Proofs.Ytjfdindlfakmcaa

namespace Go.Proofs.Ytjfdindlfakmcaa
open Go.RowKit

set_option maxHeartbeats 4000000
set_option maxRecDepth 100000

theorem name_not {n : List UInt8} (h : Tm.nameOk n = true) : n ≠ [] ∧ n ≠ [107] ∧ n ≠ [115] := by
  refine ⟨?_, ?_, ?_⟩ <;> (rintro rfl; revert h; decide)

theorem parts_form {w : World} {t : Tm} {x y : Value} (h : ST w t (.agg #[x, y])) : ∃ s ao n c, x = str s ∧ y = .slice ao n c := by
  obtain ⟨s, ao, n, c, e⟩ := h.form
  simp only [Value.agg.injEq, Array.mk.injEq, List.cons.injEq, and_true] at e
  exact ⟨s, ao, n, c, e.1, e.2⟩

theorem atom_form {w : World} {t : Tm} {s : List UInt8} {y : Value} (h : ST w t (.agg #[str s, y])) (hd : t.depth = 0) : s = t.text := by
  cases t with
  | app f a => simp [Tm.depth] at hd
  | k => simp only [ST, Value.agg.injEq, Array.mk.injEq, List.cons.injEq, and_true, Value.string.injEq, ByteArray.mk.injEq] at h; simpa using h.1
  | s => simp only [ST, Value.agg.injEq, Array.mk.injEq, List.cons.injEq, and_true, Value.string.injEq, ByteArray.mk.injEq] at h; simpa using h.1
  | nm n => simp only [ST, Value.agg.injEq, Array.mk.injEq, List.cons.injEq, and_true, Value.string.injEq, ByteArray.mk.injEq] at h; simpa using h.1

theorem app_form {w : World} {f a : Tm} {s : List UInt8} {y : Value} (h : ST w (f.app a) (.agg #[str s, y])) : s = [] ∧ ∃ g q fr s0 p0 s1 p1, y = .slice (some ⟨g, 0, none⟩) 2 q ∧ w.heap[g]? = some (.cells #[s0, p0, s1, p1] 49 fr) ∧ ST w f (.agg #[s0, p0]) ∧ ST w a (.agg #[s1, p1]) := by
  obtain ⟨g, q, fr, s0, p0, s1, p1, e, hh, hf, ha⟩ := h
  simp only [Value.agg.injEq, Array.mk.injEq, List.cons.injEq, and_true, Value.string.injEq, ByteArray.mk.injEq] at e
  exact ⟨by simpa using e.1, g, q, fr, s0, p0, s1, p1, e.2, hh, hf, ha⟩

def SStepPost (w : World) (t : Tm) (e : Ending) (w' : World) : Prop :=
  ∃ s ao n c, e = .returned (.tuple #[.agg #[str s, .slice ao n c], .bool t.step.isSome]) ∧ After w w' ∧ ST w' (t.step.getD t) (.agg #[str s, .slice ao n c])

theorem box_facts (w : World) (x y : Value) (o : Obj) : ∀ W, After ((w.alloc (.cells #[x, y] 49)).alloc o) W → W.cell? ⟨w.heap.size, 0, none⟩ = some x ∧ W.cell? ⟨w.heap.size, 1, none⟩ = some y ∧ W.frozen? ⟨w.heap.size, 0, none⟩ = false ∧ W.frozen? ⟨w.heap.size, 1, none⟩ = false ∧ w.heap.size + 1 < W.heap.size := fun W hW => by
  have hh := hW.heap (heap_old2 w (.cells #[x, y] 49) o)
  have h2 := hW.heap (heap_new2 w w.heap.size (.cells #[x, y] 49) o rfl)
  exact ⟨cell_of_heap hh, cell_of_heap hh, by simp [World.frozen?, hh], by simp [World.frozen?, hh], (Array.getElem?_eq_some_iff.1 h2).1⟩

theorem box_facts2 (w : World) (x y : Value) (o : Obj) : ∀ W, After ((w.alloc o).alloc (.cells #[x, y] 49)) W → W.heap[w.heap.size + 1]? = some (.cells #[x, y] 49 (0, 0)) ∧ W.cell? ⟨w.heap.size + 1, 0, none⟩ = some x ∧ W.cell? ⟨w.heap.size + 1, 1, none⟩ = some y ∧ W.frozen? ⟨w.heap.size + 1, 0, none⟩ = false ∧ W.frozen? ⟨w.heap.size + 1, 1, none⟩ = false := fun W hW => by
  have hh := hW.heap (heap_new2 w w.heap.size o (.cells #[x, y] 49) rfl)
  exact ⟨hh, cell_of_heap hh, cell_of_heap hh, by simp [World.frozen?, hh], by simp [World.frozen?, hh]⟩

end Go.Proofs.Ytjfdindlfakmcaa

namespace Go.Proofs.Ytjfdindlfakmcaa
open Go.RowKit

set_option maxHeartbeats 4000000
set_option maxRecDepth 100000

end Go.Proofs.Ytjfdindlfakmcaa

namespace Go.Proofs.Ytjfdindlfakmcaa
open Go.RowKit

set_option maxHeartbeats 1000000
set_option maxRecDepth 100000

theorem heap_sets2 {W : World} {b : Nat} {x y u u' : Value} {T : TypeId} {fr : Nat × Nat} (hh : W.heap[b]? = some (.cells #[x, y] T fr)) : ((W.setCell ⟨b, 0, none⟩ u).setCell ⟨b, 1, none⟩ u').heap[b]? = some (.cells #[u, u'] T fr) := by
  simp [World.setCell, Array.getElem?_modify, hh]

theorem heap_sets2_ne {W : World} {b c i j : Nat} {u u' : Value} (hne : c ≠ b) : ((W.setCell ⟨b, i, none⟩ u).setCell ⟨b, j, none⟩ u').heap[c]? = W.heap[c]? := by
  rw [Below.heap_setCell _ _ _ _ hne, Below.heap_setCell _ _ _ _ hne]

theorem pair_facts {W : World} {b : Nat} {x y : Value} {T : TypeId} (h : W.heap[b]? = some (.cells #[x, y] T (0, 0))) {W' : World} (hW : After W W') :
    W'.cell? ⟨b, 0, none⟩ = some x ∧ W'.cell? ⟨b, 1, none⟩ = some y ∧ W'.frozen? ⟨b, 0, none⟩ = false ∧ W'.frozen? ⟨b, 1, none⟩ = false ∧ b < W'.heap.size := by
  have hh := hW.heap h
  exact ⟨cell_of_heap hh, cell_of_heap hh, by simp [World.frozen?, hh], by simp [World.frozen?, hh], (Array.getElem?_eq_some_iff.1 hh).1⟩

def SManyPost (w : World) (t : Tm) (n : Nat) (e : Ending) (w' : World) : Prop :=
  ∃ s ao m c, e = .returned (.tuple #[.agg #[str s, .slice ao m c], .int .i64 (((t.many n).2 : Nat) : Int), .bool (t.many n).1.step.isNone]) ∧ After w w' ∧ ST w' (t.many n).1 (.agg #[str s, .slice ao m c])

/-- After k rounds. -/
def SRounds (w : World) (n : Nat) (t : Tm) (i : Value) (wr : World) : Prop :=
  ∃ (k : Nat) (u : Tm) (s : List UInt8) (ao : Option Addr) (m c : Nat), i = .int .i64 k ∧ k ≤ n ∧ wr.heap[w.heap.size]? = some (.cells #[str s, .slice ao m c] 49 (0, 0)) ∧ wr.heap[w.heap.size + 1]? = some (.cells #[.string ⟨#[]⟩, .slice none 0 0] 49 (0, 0)) ∧
    ST wr u (.agg #[str s, .slice ao m c]) ∧ u.good = true ∧ u.fits = true ∧ After w wr ∧ Hid (t.many n = ((u.many (n - k)).1, (u.many (n - k)).2 + k))

def SNormPost (w : World) (t : Tm) (b : Bool) (e : Ending) (w' : World) : Prop :=
  ∃ s ao m c, e = .returned (.tuple #[.agg #[str s, .slice ao m c], .bool b]) ∧ After w w' ∧ ST w' t (.agg #[str s, .slice ao m c])

end Go.Proofs.Ytjfdindlfakmcaa
