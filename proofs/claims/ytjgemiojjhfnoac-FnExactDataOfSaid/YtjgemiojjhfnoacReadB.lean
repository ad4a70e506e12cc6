/-
  The reader of the program, further: readAtom.
-/
import Derived.Test.YtjgemiojjhfnoacRead
namespace Go.Proofs.Ytjgemiojjhfnoac
open Go.RowKit

set_option maxHeartbeats 400000
set_option maxRecDepth 100000

def AtomPost (w : World) (b : Nat) (l : List UInt8) (r : Option (Tm × Nat)) (e : Ending) (w' : World) : Prop :=
  ∃ v, e = .returned (.tuple #[v, .bool r.isSome]) ∧ w.grownBy w' (some b) ∧ ∀ t j, r = some (t, j) → Rd w' b l j ∧ TV w' (b + 1) t v

theorem grown_trans {w w' w'' : World} {b : Nat} (h : w.grownBy w' (some b)) (g : w'.grownBy w'' (some b)) : w.grownBy w'' (some b) :=
  ⟨g.os.trans h.os, g.tape.trans h.tape, g.output.trans h.output, Nat.le_trans h.size g.size, fun k hk hne => (g.block k (Nat.lt_of_lt_of_le hk h.size) hne).trans (h.block k hk hne)⟩

theorem grown_alloc (w : World) (b : Nat) (o : Obj) : w.grownBy (w.alloc o) (some b) := ⟨rfl, rfl, rfl, by simp, fun k hk _ => Below.heap_alloc _ _ _ hk⟩

theorem Rd.alloc {w : World} {b i : Nat} {l : List UInt8} (h : Rd w b l i) (o : Obj) : Rd (w.alloc o) b l i := by
  unfold Rd at *
  rw [Below.heap_alloc _ _ _ (Array.getElem?_eq_some_iff.1 h).1]; exact h

theorem Rd.lt {w : World} {b i : Nat} {l : List UInt8} (h : Rd w b l i) : b < w.heap.size := (Array.getElem?_eq_some_iff.1 h).1

theorem heap_new (w : World) (o : Obj) : (w.alloc o).heap[w.heap.size]? = some o := by
  show (w.heap.push _)[_]? = _
  simp

theorem heap_new_set (w : World) (m : Nat) (a : Addr) (v : Value) (o : Obj) : (((w.drewN m).setCell a v).alloc o).heap[w.heap.size]? = some o := by
  have h : ((w.drewN m).setCell a v).heap.size = w.heap.size := by simp [World.setCell]
  rw [← h]
  exact heap_new _ _

theorem bytes_ext (l : List UInt8) (i j : Nat) : (⟨l.toArray⟩ : ByteArray).extract i j = ⟨((l.drop i).take (j - i)).toArray⟩ := by
  apply ByteArray.ext
  simp [ByteArray.data_extract]

theorem digs_drop (l : List UInt8) (i m k : Nat) : Tm.digs (l.drop i) m k = Tm.digs l m (i + k) := by
  induction m generalizing k with
  | zero => rfl
  | succ m ih =>
    simp only [Tm.digs, List.getElem?_drop]
    rw [ih (k + 1)]
    rfl

theorem nameLen_drop (l : List UInt8) (i : Nat) : Tm.nameLen (l.drop i) 0 = Tm.nameLen l i := by
  simp only [Tm.nameLen, List.getElem?_drop, Nat.add_zero]
  rw [digs_drop]

theorem readAtom_any (w : World) (b i : Nat) (l : List UInt8) (h : Rd w b l i) (hl : l.length ≤ 1000000000) (hi : i ≤ l.length) :
    Calls Try.prog 81 #[.pointer (some ⟨b, 0, none⟩)] w (AtomPost w b l (Tm.readAtom l i)) := by
  have HL := Lib.hid hl
  by_cases hk : l[i]? = some 107
  · have hfin : Tm.readAtom l i = some (.k, i + 1) := by simp [Tm.readAtom, hk]
    rw [hfin]
    have hd : decide (l[i]? = some 107) = true := by simp [hk]
    have hsk := skip_any w b i l 107 107 rfl h hl hi
    rw [hd] at hsk
    clear hd hk hfin hi hl h
    go_enter Try.func81, Try.ntmps81
    go_wp2_with (go_at_call 80; refine hsk.mono ?_; rintro e w1 ⟨rfl, hg1, hr1⟩)
    go_ret2
    refine ⟨_, rfl, grown_trans hg1 (grown_alloc _ _ _), fun t j he => ?_⟩
    simp only [Option.some.injEq, Prod.mk.injEq] at he
    obtain ⟨rfl, rfl⟩ := he
    exact ⟨Rd.alloc hr1 _, ⟨_, _, rfl, Nat.succ_le_of_lt (Rd.lt hr1), heap_new _ _⟩⟩
  · by_cases hs : l[i]? = some 115
    · have hfin : Tm.readAtom l i = some (.s, i + 1) := by simp [Tm.readAtom, hs]
      rw [hfin]
      have hd : decide (l[i]? = some 107) = false := by simp [hk]
      have hd2 : decide (l[i]? = some 115) = true := by simp [hs]
      have hsk := skip_any w b i l 107 107 rfl h hl hi
      rw [hd] at hsk
      have HI := Lib.hid hi
      clear hd hk hs hfin hi hl h
      go_enter Try.func81, Try.ntmps81
      go_wp2_with fail
      refine hsk.mono ?_
      rintro e w1 ⟨rfl, hg1, hr1⟩
      have hsk2 := skip_any w1 b i l 115 115 rfl hr1 HL.out HI.out
      rw [hd2] at hsk2
      clear hsk hd2
      go_wp2_with fail
      refine hsk2.mono ?_
      rintro e w2 ⟨rfl, hg2, hr2⟩
      go_wp2_with fail
      go_ret2
      refine ⟨_, rfl, grown_trans (grown_trans hg1 hg2) (grown_alloc _ _ _), fun t j he => ?_⟩
      simp only [Option.some.injEq, Prod.mk.injEq] at he
      obtain ⟨rfl, rfl⟩ := he
      exact ⟨Rd.alloc hr2 _, ⟨_, _, rfl, Nat.succ_le_of_lt (Rd.lt hr2), heap_new _ _⟩⟩
    · have hd : decide (l[i]? = some 107) = false := by simp [hk]
      have hd2 : decide (l[i]? = some 115) = false := by simp [hs]
      have hsk := skip_any w b i l 107 107 rfl h hl hi
      rw [hd] at hsk
      have HI := Lib.hid hi
      clear hd h hl
      go_enter Try.func81, Try.ntmps81
      go_wp2_with fail
      refine hsk.mono ?_
      rintro e w1 ⟨rfl, hg1, hr1⟩
      have hsk2 := skip_any w1 b i l 115 115 rfl hr1 HL.out HI.out
      rw [hd2] at hsk2
      clear hsk hd2
      go_wp2_with fail
      refine hsk2.mono ?_
      rintro e w2 ⟨rfl, hg2, hr2⟩
      have c0 : w2.cell? ⟨b, 0, none⟩ = some (str l) := cell_of_heap hr2
      have c1 : w2.cell? ⟨b, 1, none⟩ = some (.int .i64 (i : Nat)) := cell_of_heap hr2
      have hsz : (⟨l.toArray⟩ : ByteArray).size = l.length := by show l.toArray.size = _; simp
      have hi0 : (0 : Int) ≤ (i : Int) := by omega
      have hext : (⟨l.toArray⟩ : ByteArray).extract i l.length = ⟨(l.drop i).toArray⟩ := by
        rw [bytes_ext, List.take_of_length_le (by simp)]
      have hlen := HL.out
      have hnl : ∀ W, Calls Try.prog 56 #[str (l.drop i)] W fun e w' => e = .returned (.int .i64 (Tm.nameLen l i : Nat)) ∧ W = w' := fun W => by
        have := nameLength_any W (l.drop i) (by simp; omega)
        rw [nameLen_drop] at this
        exact this
      have hsound := Tm.nameLen_sound l i
      by_cases hz : Tm.nameLen l i = 0
      · have hfin : Tm.readAtom l i = none := by simp [Tm.readAtom, hk, hs, hz]
        rw [hz] at hnl
        have H := Lib.hid hfin
        clear hfin hsound hz hk hs
        go_wp2_with fail
        go_quiet ((go_at_call 56; exact Calls.quiet_of_same ((hnl _).mono fun e w' ⟨he, hw⟩ => ⟨he, hw.symm⟩)))
        go_wp2_with fail
        go_ret2
        exact ⟨_, by rw [H.out]; rfl, grown_trans (grown_trans hg1 hg2) (grown_drawn _ _ _), fun t j he => by rw [H.out] at he; simp at he⟩
      · obtain ⟨hok, hle⟩ := hsound hz
        obtain ⟨n, hn⟩ : ∃ n, n = Tm.nameLen l i := ⟨_, rfl⟩
        have hfin : Tm.readAtom l i = some (.nm ((l.drop i).take n), i + n) := by simp [Tm.readAtom, hk, hs, hz, hn]
        rw [← hn] at hnl hle hz
        have hz2 : ((n : Int) == 0) = false := by rw [beq_eq_false_iff_ne]; omega
        have hlo : (0 : Int) ≤ (i : Int) + (n : Int) := by omega
        have hhi : (i : Int) + (n : Int) ≤ (l.length : Int) := by omega
        have hin : (i : Int) ≤ (i : Int) + (n : Int) := by omega
        have hext2 : (⟨l.toArray⟩ : ByteArray).extract i (i + n) = ⟨((l.drop i).take n).toArray⟩ := by
          rw [bytes_ext, Nat.add_sub_cancel_left]
        have f1 : w2.frozen? ⟨b, 1, none⟩ = false := by unfold Rd at hr2; simp [World.frozen?, hr2]
        have H := Lib.hid hfin
        have HR := Lib.hid hr2
        have HI2 := Lib.hid hext2
        clear hfin hsound hz hk hs hok hn hr2
        go_wp2_with fail
        go_quiet ((go_at_call 56; exact Calls.quiet_of_same ((hnl _).mono fun e w' ⟨he, hw⟩ => ⟨he, hw.symm⟩)))
        go_wp2_with fail
        clear hext
        go_quiet (fail)
        go_wp2_with fail
        go_ret2
        have e : (i : Int) + (n : Int) = ((i + n : Nat) : Int) := by omega
        rw [e]
        refine ⟨_, by rw [H.out]; rfl, grown_trans (grown_trans (grown_trans hg1 hg2) (grown_set _ _ _ _ _)) (grown_alloc _ _ _), fun t j he => ?_⟩
        rw [H.out] at he
        simp only [Option.some.injEq, Prod.mk.injEq] at he
        obtain ⟨rfl, rfl⟩ := he
        exact ⟨Rd.alloc (Rd.set HR.out _ _) _, ⟨_, _, rfl, Nat.succ_le_of_lt (Rd.lt HR.out), heap_new_set _ _ _ _ _⟩⟩
