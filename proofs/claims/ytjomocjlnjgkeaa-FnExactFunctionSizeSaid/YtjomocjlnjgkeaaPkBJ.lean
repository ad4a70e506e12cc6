/-
  Worlds that grow but for one block.
-/
import Derived.Test.YtjomocjlnjgkeaaPkAC
import Derived.Test.YtjomocjlnjgkeaaPkAF
import Derived.Test.YtjomocjlnjgkeaaPkBI
import Derived.Test.YtjomocjlnjgkeaaPkBH
namespace Go.Proofs.Ytjomocjlnjgkeaa
open Go.RowKit

theorem after_grown {w W : World} (b : Nat) (h : After w W) : w.grownBy W (some b) := ⟨h.os, h.tape, h.output, h.size, fun k hk _ => h.block k hk⟩
theorem grown_setx (w : World) (b i : Nat) (v : Value) : w.grownBy (w.setCell ⟨b, i, none⟩ v) (some b) := by
  refine ⟨rfl, rfl, rfl, by simp [World.setCell], fun k hk hne => ?_⟩
  have : b ≠ k := fun e => hne (e ▸ rfl)
  simp [World.setCell, Array.getElem?_modify, this]

theorem after_own {w w3 wr : World} {b : Nat} (ha : After w w3) (hb : w.heap.size ≤ b) (hg : w3.grownBy wr (some b)) : After w wr :=
  ⟨hg.os.trans ha.os, hg.tape.trans ha.tape, hg.output.trans ha.output, Nat.le_trans ha.size hg.size, fun q hq => by
    rw [hg.block q (Nat.lt_of_lt_of_le hq ha.size) (fun e => by injection e with e; omega)]
    exact ha.block q hq⟩

end Go.Proofs.Ytjomocjlnjgkeaa

namespace Go.Proofs.Ytjomocjlnjgkeaa
open Go.RowKit

set_option maxHeartbeats 1000000
set_option maxRecDepth 100000

theorem indexAny_mid : ∀ l : List UInt8, Lib.indexAny l delims.data.toList = if (l.takeWhile fun c => c != 32 && c != 40 && c != 41).length < l.length then (((l.takeWhile fun c => c != 32 && c != 40 && c != 41).length : Nat) : Int) else -1
  | [] => rfl
  | b :: l => by
    rw [Lib.indexAny, indexAny_mid l, delim_mem]
    have hm : Tm.mid b = (b != 32 && b != 40 && b != 41) := rfl
    rw [List.takeWhile_cons, ← hm]
    have hle : (l.takeWhile fun c => c != 32 && c != 40 && c != 41).length ≤ l.length := (List.takeWhile_prefix _).length_le
    cases Tm.mid b with
    | false => simp
    | true =>
      simp only [Bool.not_true, if_true, List.length_cons]
      generalize (l.takeWhile fun c => c != 32 && c != 40 && c != 41).length = m at *
      by_cases h : m < l.length
      · have : (((m : Nat) : Int) == -1) = false := by rw [beq_eq_false_iff_ne]; omega
        simp [h, this]
      · simp [h]

/-- The reader of a function text lies in block b: the text, the place, the atoms. -/
def FRd (w : World) (b : Nat) (l : List UInt8) (i n : Nat) : Prop := w.heap[b]? = some (.cells #[str l, .int .i64 i, .int .i64 n] 123 (0, 0))

theorem FRd.set1 {w : World} {b i n : Nat} {l : List UInt8} (h : FRd w b l i n) (j : Nat) : FRd (w.setCell ⟨b, 1, none⟩ (.int .i64 j)) b l j n := by
  unfold FRd at *
  simp [World.setCell, Array.getElem?_modify, h]
theorem FRd.set2 {w : World} {b i n : Nat} {l : List UInt8} (h : FRd w b l i n) (j : Nat) : FRd (w.setCell ⟨b, 2, none⟩ (.int .i64 j)) b l i j := by
  unfold FRd at *
  simp [World.setCell, Array.getElem?_modify, h]
theorem FRd.after {w W : World} {b i n : Nat} {l : List UInt8} (h : FRd w b l i n) (ha : After w W) : FRd W b l i n := ha.heap h
theorem FRd.lt {w : World} {b i n : Nat} {l : List UInt8} (h : FRd w b l i n) : b < w.heap.size := (Array.getElem?_eq_some_iff.1 h).1

def WordPost (w : World) (b : Nat) (l : List UInt8) (i n : Nat) (e : Ending) (w' : World) : Prop :=
  e = .returned (str (FT.sl l i (Tm.atomEnd l i))) ∧ w.grownBy w' (some b) ∧ FRd w' b l (Tm.atomEnd l i) n

theorem str_drop (l : List UInt8) (i j : Nat) (h : j = l.length) : (⟨l.toArray⟩ : ByteArray).extract i j = ⟨(l.drop i).toArray⟩ := by
  subst h
  refine ByteArray.ext (Array.ext' ?_)
  simp [ByteArray.data_extract]
  exact List.take_of_length_le (by simp)

theorem readWord_any (w : World) (b i n : Nat) (l : List UInt8) (h : FRd w b l i n) (hl : l.length ≤ 1000000000) (hi : i ≤ l.length) :
    Calls Try.prog 101 #[.pointer (some ⟨b, 0, none⟩)] w (WordPost w b l i n) := by
  have c0 : w.cell? ⟨b, 0, none⟩ = some (str l) := cell_of_heap h
  have c1 : w.cell? ⟨b, 1, none⟩ = some (.int .i64 (i : Nat)) := cell_of_heap h
  have hsz : (⟨l.toArray⟩ : ByteArray).size = l.length := by show l.toArray.size = _; simp
  have H := Lib.hid h
  clear h
  go_enter Try.func101, Try.ntmps101
  go_wp2_with fail
  go_quiet (fail)
  go_wp2_with fail
  obtain ⟨r, hr⟩ : ∃ r, r = (⟨l.toArray⟩ : ByteArray).extract i l.length := ⟨_, rfl⟩
  rw [← hr]
  rw [str_drop l i l.length rfl] at hr
  have hrl : r.data.toList = l.drop i := by rw [hr]
  have hrs : r.size = l.length - i := by rw [hr, ByteArray.size]; simp
  have hidx := index_any (w.drewN nq) r (by omega)
  rw [hrl, indexAny_mid] at hidx
  have hend : Tm.atomEnd l i = i + ((l.drop i).takeWhile fun c => c != 32 && c != 40 && c != 41).length := rfl
  have hle : ((l.drop i).takeWhile fun c => c != 32 && c != 40 && c != 41).length ≤ (l.drop i).length := (List.takeWhile_prefix _).length_le
  rw [List.length_drop] at hle hidx
  unfold WordPost
  generalize ((l.drop i).takeWhile fun c => c != 32 && c != 40 && c != 41).length = m at *
  rw [hend]
  have hres : ∀ k, k = m → Value.string (r.extract 0 k) = str (FT.sl l i (i + m)) := fun k hk => by
    subst hk
    refine congrArg Value.string (ByteArray.ext (Array.ext' ?_))
    simp [ByteArray.data_extract, hrl, FT.sl]
  have HR := Lib.hid hres
  have HE := Lib.hid hend
  clear hr hrl hend hres
  by_cases hm : m < l.length - i
  · rw [if_pos hm] at hidx
    have hneg : ¬ ((m : Int) < 0) := by omega
    refine hidx.mono ?_
    rintro e w1 ⟨rfl, ha⟩
    have hg0 := grown_drawn w b nq
    have H1 : FRd w1 b l i n := (show FRd (w.drewN nq) b l i n from H.out).after ha
    have hg1 := after_grown b ha
    have c1' : w1.cell? ⟨b, 1, none⟩ = some (.int .i64 (i : Nat)) := cell_of_heap H1
    have f1 : w1.frozen? ⟨b, 1, none⟩ = false := by unfold FRd at H1; simp [World.frozen?, H1]
    have hmr : (m : Int) ≤ (r.size : Int) := by omega
    have HH := Lib.hid H1
    clear hidx H1 ha
    go_wp2_with fail
    go_ret
    exact ⟨congrArg Ending.returned ((HR.out m rfl).trans (by rw [HE.out])), grown_trans (grown_trans hg0 hg1) (grown_setx _ _ _ _), by have := HH.out.set1 (i + m); rw [HE.out]; simpa using this⟩
  · rw [if_neg hm] at hidx
    refine hidx.mono ?_
    rintro e w1 ⟨rfl, ha⟩
    have hg0 := grown_drawn w b nq
    have H1 : FRd w1 b l i n := (show FRd (w.drewN nq) b l i n from H.out).after ha
    have hg1 := after_grown b ha
    have c1' : w1.cell? ⟨b, 1, none⟩ = some (.int .i64 (i : Nat)) := cell_of_heap H1
    have f1 : w1.frozen? ⟨b, 1, none⟩ = false := by unfold FRd at H1; simp [World.frozen?, H1]
    have hmD : l.length - i = m := by omega
    have HM := Lib.hid hmD
    clear hmD
    have HH := Lib.hid H1
    clear hidx H1 ha
    go_wp2_with fail
    go_ret
    exact ⟨congrArg Ending.returned ((HR.out _ HM.out).trans (by rw [HE.out])), grown_trans (grown_trans hg0 hg1) (grown_setx _ _ _ _), by have := HH.out.set1 (i + (l.length - i)); rw [HE.out, ← HM.out]; simpa using this⟩
end Go.Proofs.Ytjomocjlnjgkeaa
