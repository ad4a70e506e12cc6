/-
  What the laws do with a list of texts of an argument: toStringS.
-/
import Derived.Test.YtipmgfbncfkmiaaPkB
import Derived.BigQuiet
import Derived.OwnWalk
import Derived.Laws.OwnMore
import Derived.Deep.QuietTactic
import Derived.Deep.RegionHeld3
import Derived.Test.YtipmgfbncfkmiaaPkA
import Derived.Deep.Strs
import Derived.Carry
namespace Go.Proofs.Ytipmgfbncfkmiaa
open Go.RowKit

set_option maxHeartbeats 1000000
set_option maxRecDepth 100000

def fillS (n : Nat) (k : Nat) (ns : List (List UInt8)) : List Value := (ns.take k).map str ++ List.replicate (n - k) (str [])

theorem fillS_len (n k : Nat) (ns : List (List UInt8)) (h : ns.length = n) (hk : k ≤ n) : (fillS n k ns).length = n := by
  simp [fillS, h]; omega

theorem fillS_at (n k : Nat) (ns : List (List UInt8)) (h : ns.length = n) (hk : k < n) : (fillS n k ns)[k]? = some (str []) := by
  have e : ((ns.take k).map str).length = k := by simp; omega
  rw [fillS, List.getElem?_append_right (by omega), e, Nat.sub_self, List.getElem?_replicate]
  simp; omega

theorem fillS_set (n k : Nat) (ns : List (List UInt8)) (h : ns.length = n) (hk : k < n) : (fillS n k ns).set k (str (ns[k]?.getD [])) = fillS n (k + 1) ns := by
  have e : ((ns.take k).map str).length = k := by simp; omega
  rw [fillS, List.set_append_right _ _ (by omega), e, Nat.sub_self, show n - k = (n - (k + 1)) + 1 by omega, List.replicate_succ, List.set_cons_zero, fillS]
  have hk' : k < ns.length := by omega
  rw [List.take_add_one, List.getElem?_eq_getElem hk', List.map_append, List.append_assoc]
  rfl

theorem made_fill (n : Nat) (ns : List (List UInt8)) : (madeCells (str []).cells (n * 1)).toList = fillS n 0 ns := by
  apply List.ext_getElem?
  intro i
  have e : ∀ x : Nat, (#[str []] : Array Value)[x % 1]! = str [] := fun x => by rw [Nat.mod_one]; rfl
  have e2 : (str []).cells = #[str []] := rfl
  have e3 : (#[str []] : Array Value).size = 1 := rfl
  simp only [madeCells, fillS, e2, e3, e, Array.toList_map, Array.toList_range, List.take_zero, List.map_nil, List.nil_append, Nat.sub_zero, Nat.mul_one]
  rw [List.getElem?_map, List.getElem?_replicate]
  by_cases h : i < n
  · rw [if_pos h, List.getElem?_eq_getElem (by simpa using h)]; rfl
  · rw [if_neg h, List.getElem?_eq_none (by simpa using h)]; rfl

theorem l_to_some (w : World) (b off cap : Nat) (ns : List (List UInt8)) (hn : ns.length ≤ 1048576) (hb : b < w.heap.size)
    (hc : ∀ j, j < ns.length → w.cell? ⟨b, off + j, none⟩ = some (str (ns[j]?.getD []))) :
    Calls Try.prog 138 #[.slice (some ⟨b, off, none⟩) ns.length cap] w fun e w' =>
      e = .returned (.slice (some ⟨w.heap.size, 0, none⟩) ns.length ns.length) ∧ w'.ownsRow w.heap.size 9 1 (.slice (some ⟨w.heap.size, 0, none⟩) ns.length ns.length) ns.length (ns.map str) ∧ w.grownBy w' none := by
  obtain ⟨n, hnn⟩ : ∃ n, n = ns.length := ⟨_, rfl⟩
  rw [← hnn] at hn hc ⊢
  have HN := Lib.hid hnn
  have HC := Lib.hid hc
  clear hnn hc
  have hi : ∃ i, (Try.prog).info? 9 = some i ∧ i.zero = some (str []) ∧ i.size = 1 ∧ i.bytes = 16 := ⟨_, rfl, rfl, rfl, rfl⟩
  obtain ⟨i0, hi, hz0, hz1, hz2⟩ := hi
  go_enter Try.func138, Try.ntmps138
  go_wp2_with (at_make; refine wpList_make_full _ rfl _ _ _ rfl w.heap.size 9 i0 (str []) 1 rfl hi hz0 hz1 .i64 .i64 _ _ n rfl rfl rfl rfl (by rw [hz2]; omega) (by unfold maxLen; omega) (Nat.le_refl _) ?_; intro w1 ho hg)
  rw [made_fill n ns] at ho
  have hstart : Hid (w1.ownsRow w.heap.size 9 1 (.slice (some ⟨w.heap.size, 0, none⟩) n n) n (fillS n 0 ns)) := ho
  obtain ⟨g, hgg⟩ : ∃ g, g = w.heap.size := ⟨_, rfl⟩
  rw [← hgg] at hstart hb
  have HG := Lib.hid hgg
  simp only [← hgg]
  clear ho hgg
  go_loopw [4] (fun i wr => ∃ k : Nat, i = .int .i64 k ∧ k ≤ n ∧ Hid (wr.ownsRow g 9 1 (.slice (some ⟨g, 0, none⟩) n n) n (fillS n k ns)) ∧ w.grownBy wr none) (fun i _ => n - (intOf i).toNat)
  case atStart => exact ⟨0, rfl, Nat.zero_le _, hstart, hg⟩
  case round =>
    obtain ⟨k, rfl, hk, hrow, hgr⟩ := hrel
    clear hstart hg
    by_cases hlt : k < n
    · have h1 : _ = some (str (ns[k]?.getD [])) := After.cell (⟨hgr.os, hgr.tape, hgr.output, hgr.size, fun q hq => hgr.block q hq (by simp)⟩ : After w wr) (HC.out k hlt)
      have h2 := (hrow.out.cellAt k (by omega)).trans (fillS_at n k ns HN.out.symm hlt)
      have h3 := hrow.out.frozenAt k
      have hlt' : (k : Int) < (n : Int) := by omega
      obtain ⟨z, hz⟩ : ∃ z, z = ns[k]?.getD [] := ⟨_, rfl⟩
      rw [← hz] at h1
      have HZ := Lib.hid hz
      clear hz
      have hbg : b ≠ g := by omega
      go_wp2_with fail
      go_roundw
      case rel =>
        refine ⟨k + 1, by go_num, by omega, ?_, ?_⟩
        · have h := (hrow.out.stored k (str z)).1
          rw [HZ.out, fillS_set n k ns HN.out.symm hlt, ← HZ.out] at h
          exact h
        · refine ⟨hgr.os, hgr.tape, hgr.output, by have h1 := hgr.size; simp [World.setCell]; omega, fun b' hb' hne => ?_⟩
          rw [Below.heap_setCell _ _ _ _ (fun e => absurd ((show b' = g from e).trans HG.out) (Nat.ne_of_lt hb'))]
          exact hgr.block b' hb' hne
      case measure => simp [intOf]; omega
    · obtain rfl : k = n := by omega
      have HR := Lib.hid hrow.out
      clear hrow
      go_wp2_with fail
      go_ret
      have h := HR.out
      rw [← HG.out]
      refine ⟨rfl, ?_, hgr⟩
      rw [fillS, Nat.sub_self, List.replicate_zero, List.append_nil, List.take_of_length_le (by rw [← HN.out]; exact Nat.le_refl _)] at h
      exact h

theorem l_to_none (w : World) (ao : Option Addr) (cap : Nat) :
    Calls Try.prog 138 #[.slice ao 0 cap] w fun e w' =>
      e = .returned (.slice (some ⟨w.heap.size, 0, none⟩) 0 0) ∧ w.grownBy w' none ∧ w.heap.size < w'.heap.size := by
  have hi : ∃ i, (Try.prog).info? 9 = some i ∧ i.zero = some (str []) ∧ i.size = 1 ∧ i.bytes = 16 := ⟨_, rfl, rfl, rfl, rfl⟩
  obtain ⟨i0, hi, hz0, hz1, hz2⟩ := hi
  go_enter Try.func138, Try.ntmps138
  go_wp2_with (at_make; refine wpList_make_full _ rfl _ _ _ rfl w.heap.size 9 i0 (str []) 1 rfl hi hz0 hz1 .i64 .i64 _ _ 0 rfl rfl rfl rfl (by rw [hz2]; omega) (by unfold maxLen; omega) (Nat.le_refl _) ?_; intro w1 ho hg)
  have hsz : w.heap.size < w1.heap.size := by
    rcases ho.2 with ⟨h, _⟩ | ⟨g, cp, cur, h, _, hh, _⟩
    · cases h
    · cases h
      exact (Array.getElem?_eq_some_iff.1 hh).1
  clear ho
  go_loop [4] (fun i => i = .int .i64 0) (fun _ => 0)
  case atStart => rfl
  case round =>
    obtain rfl := hrel
    go_wp2_with fail
    go_ret
    exact ⟨rfl, hg, hsz⟩
end Go.Proofs.Ytipmgfbncfkmiaa

namespace Go.Proofs.Ytipmgfbncfkmiaa
open Go.RowKit

set_option maxHeartbeats 1000000
set_option maxRecDepth 100000

theorem str_sizeZ (l : List UInt8) : (⟨l.toArray⟩ : ByteArray).size = l.length := rfl

theorem l_sz_some (w : World) (b off cap n : Nat) (Z : Nat → List UInt8) (hn : n ≤ 9223372036854775807) (hz : ∀ j, j < n → (Z j).length ≤ 9223372036854775807)
    (hc : ∀ j, j < n → w.cell? ⟨b, off + j, none⟩ = some (str (Z j))) :
    Calls Try.prog 136 #[.slice (some ⟨b, off, none⟩) n cap, .int .i64 1048576] w fun e w' =>
      (∃ r : Int, e = .returned (.int .i64 r) ∧ r ≤ 1048576 ∧ -9223372036854775808 ≤ r ∧ (0 ≤ r → n ≤ 1048576 ∧ ∀ j, j < n → (Z j).length ≤ 1048576)) ∧ w = w' := by
  have HC := Lib.hid hc
  have HZ := Lib.hid hz
  clear hc hz
  by_cases hbig : (1048576 : Int) - (n : Int) < 0
  · go_enter Try.func136, Try.ntmps136
    go_wp2_with fail
    go_ret
    exact ⟨⟨-1, rfl, by omega, by omega, fun h => absurd h (by omega)⟩, rfl⟩
  · go_enter Try.func136, Try.ntmps136
    go_wp2_with fail
    go_loop [1, 5] (fun l i => ∃ (k : Nat) (L : Int), l = .int .i64 L ∧ i = .int .i64 k ∧ k ≤ n ∧ 0 ≤ L ∧ L ≤ 1048576 ∧ ∀ j, j < k → (Z j).length ≤ 1048576) (fun _ i => n - (intOf i).toNat)
    case atStart => exact ⟨0, _, rfl, rfl, Nat.zero_le _, by omega, by omega, fun j hj => absurd hj (Nat.not_lt_zero j)⟩
    case round =>
      obtain ⟨k, L, rfl, rfl, hk, hL0, hL1, hall⟩ := hrel
      have HL := Lib.hid hall
      clear hall
      by_cases hlt : k < n
      · have h1 := HC.out k hlt
        have h2 := HZ.out k hlt
        obtain ⟨z, hz⟩ : ∃ z, z = Z k := ⟨_, rfl⟩
        rw [← hz] at h1 h2
        have HZ2 := Lib.hid hz
        clear hz
        have hlt' : (k : Int) < (n : Int) := by omega
        have hsz := str_sizeZ z
        by_cases hneg : L - (z.length : Int) < 0
        · go_wp2_with fail
          go_ret
          exact ⟨⟨-1, rfl, by omega, by omega, fun h => absurd h (by omega)⟩, rfl⟩
        · go_wp2_with fail
          go_round
          case rel =>
            refine ⟨k + 1, L - z.length, by go_num, by go_num, by omega, by omega, by omega, fun j hj => ?_⟩
            by_cases e : j = k
            · rw [e, ← HZ2.out]; omega
            · exact HL.out j (by omega)
          case measure => simp [intOf]; omega
      · obtain rfl : k = n := by omega
        go_wp2_with fail
        go_ret
        exact ⟨⟨L, rfl, by omega, by omega, fun _ => ⟨by omega, HL.out⟩⟩, rfl⟩

theorem l_sz_none (w : World) (ao : Option Addr) (cap : Nat) :
    Calls Try.prog 136 #[.slice ao 0 cap, .int .i64 1048576] w fun e w' => e = .returned (.int .i64 1048576) ∧ w = w' := by
  go_enter Try.func136, Try.ntmps136
  go_wp2_with fail
  go_loop [1, 5] (fun l i => l = .int .i64 1048576 ∧ i = .int .i64 0) (fun _ _ => 0)
  case atStart => exact ⟨rfl, rfl⟩
  case round =>
    obtain ⟨rfl, rfl⟩ := hrel
    go_wp2_with fail
    go_ret
    exact ⟨rfl, rfl⟩

theorem l_eqv (w : World) (x y xo yo xc yc n : Nat) (Z : Nat → List UInt8) (hn : n ≤ 1000000000)
    (hx : ∀ j, j < n → w.cell? ⟨x, xo + j, none⟩ = some (str (Z j))) (hy : ∀ j, j < n → w.cell? ⟨y, yo + j, none⟩ = some (str (Z j))) :
    Calls Try.prog 142 #[.slice (some ⟨x, xo, none⟩) n xc, .slice (some ⟨y, yo, none⟩) n yc] w fun e w' => e = .returned (.bool true) ∧ After w w' := by
  have HA := Lib.hid hx
  have HB := Lib.hid hy
  clear hx hy
  go_enter Try.func142, Try.ntmps142
  go_wp2_with fail
  go_loopw [5] (fun i wr => ∃ k : Nat, i = .int .i64 k ∧ k ≤ n ∧ After w wr) (fun i _ => n - (intOf i).toNat)
  case atStart => exact ⟨0, rfl, Nat.zero_le _, After.refl _⟩
  case round =>
    obtain ⟨k, rfl, hk, hA⟩ := hrel
    by_cases hlt : k < n
    · have h1 := hA.cell (HA.out k hlt)
      have h2 := hA.cell (HB.out k hlt)
      generalize Z k = z at h1 h2
      have hlt' : (k : Int) < (n : Int) := by omega
      go_wp2_with fail
      go_quiet (fail)
      go_wp2_with fail
      go_roundw
      case rel => exact ⟨k + 1, by go_num, by omega, ⟨hA.os, hA.tape, hA.output, hA.size, hA.block⟩⟩
      case measure => simp [intOf]; omega
    · go_wp2_with fail
      go_ret
      exact ⟨rfl, hA⟩
end Go.Proofs.Ytipmgfbncfkmiaa

namespace Go.Proofs.Ytipmgfbncfkmiaa
open Go.RowKit

set_option maxHeartbeats 1000000
set_option maxRecDepth 100000

/-- A slice of n cells, each with f j, in a block from B on. -/
def RowU (B : Nat) (w : World) (sv : Value) (n : Nat) (f : Nat → Value) : Prop :=
  ∃ ao cap, sv = .slice ao n cap ∧ ∀ j, j < n → ∃ b off, ao = some ⟨b, off, none⟩ ∧ (B ≤ b ∧ n ≤ cap ∧ cap ≤ 9223372036854775807) ∧ w.cell? ⟨b, off + j, none⟩ = some (f j)

def StrsU (B : Nat) (w : World) (sv : Value) (ns : List (List UInt8)) : Prop := RowU B w sv ns.length (fun j => str (ns.getD j []))

def SSU (B : Nat) (w : World) (sv : Value) (a : List (List (List UInt8))) : Prop :=
  ∃ f, RowU B w sv a.length f ∧ ∀ j, j < a.length → StrsU B w (f j) (a.getD j [])

theorem RowU.later {B : Nat} {w W : World} {sv : Value} {n : Nat} {f : Nat → Value} (h : RowU B w sv n f) (hA : After w W) : RowU B W sv n f := by
  obtain ⟨ao, cap, rfl, hc⟩ := h
  exact ⟨ao, cap, rfl, fun j hj => by obtain ⟨b, off, e, hb, h⟩ := hc j hj; exact ⟨b, off, e, hb, hA.cell h⟩⟩

theorem RowU.mono {B C : Nat} {w : World} {sv : Value} {n : Nat} {f : Nat → Value} (h : RowU B w sv n f) (hC : C ≤ B) : RowU C w sv n f := by
  obtain ⟨ao, cap, rfl, hc⟩ := h
  exact ⟨ao, cap, rfl, fun j hj => by obtain ⟨b, off, e, hb, h⟩ := hc j hj; exact ⟨b, off, e, ⟨by omega, hb.2⟩, h⟩⟩

theorem cell_same {w W : World} {b i : Nat} {v : Value} (h : w.cell? ⟨b, i, none⟩ = some v) (e : W.heap[b]? = w.heap[b]?) : W.cell? ⟨b, i, none⟩ = some v := by
  unfold World.cell? at h ⊢
  simp only at h ⊢
  rw [e]
  exact h

theorem RowU.same {B : Nat} {w W : World} {sv : Value} {n : Nat} {f : Nat → Value} (h : RowU B w sv n f) (hA : ∀ b, B ≤ b → b < w.heap.size → W.heap[b]? = w.heap[b]?) : RowU B W sv n f := by
  obtain ⟨ao, cap, rfl, hc⟩ := h
  exact ⟨ao, cap, rfl, fun j hj => by obtain ⟨b, off, e, hb, h⟩ := hc j hj; exact ⟨b, off, e, hb, cell_same h (hA b hb.1 (World.block_lt_of_cell? _ _ h))⟩⟩

theorem StrsU.later {B : Nat} {w W : World} {sv : Value} {ns : List (List UInt8)} (h : StrsU B w sv ns) (hA : After w W) : StrsU B W sv ns := RowU.later h hA
theorem SSU.later {B : Nat} {w W : World} {sv : Value} {a : List (List (List UInt8))} (h : SSU B w sv a) (hA : After w W) : SSU B W sv a := by
  obtain ⟨f, h1, h2⟩ := h
  exact ⟨f, h1.later hA, fun j hj => (h2 j hj).later hA⟩
theorem SSU.mono {B C : Nat} {w : World} {sv : Value} {a : List (List (List UInt8))} (h : SSU B w sv a) (hC : C ≤ B) : SSU C w sv a := by
  obtain ⟨f, h1, h2⟩ := h
  exact ⟨f, h1.mono hC, fun j hj => RowU.mono (h2 j hj) hC⟩

/-! ### sizes -/

theorem l_szU (w : World) (sv : Value) (ns : List (List UInt8)) (L0 : Int) (h : StrsU 0 w sv ns) (hn : ns.length ≤ 9223372036854775807) (hz : ∀ s ∈ ns, s.length ≤ 9223372036854775807) (h0 : 0 ≤ L0) (h1 : L0 ≤ 1048576) :
    Calls Try.prog 136 #[sv, .int .i64 L0] w fun e w' =>
      (∃ r : Int, e = .returned (.int .i64 r) ∧ r ≤ 1048576 ∧ -9223372036854775808 ≤ r ∧ (0 ≤ r → ns.length ≤ 1048576 ∧ ∀ s ∈ ns, s.length ≤ 1048576)) ∧ w = w' := by
  obtain ⟨ao, cap, rfl, hc⟩ := h
  obtain ⟨n, hn'⟩ : ∃ n, n = ns.length := ⟨_, rfl⟩
  have hz' : ∀ j, j < n → (ns.getD j []).length ≤ 9223372036854775807 := fun j hj => by
    have hj' : j < ns.length := by omega
    rw [List.getD, List.getElem?_eq_getElem hj']
    exact hz _ (List.getElem_mem hj')
  have hall : (∀ j, j < n → (ns.getD j []).length ≤ 1048576) → ∀ s ∈ ns, s.length ≤ 1048576 := fun h s hs => by
    obtain ⟨j, hj, rfl⟩ := List.getElem_of_mem hs
    have := h j (by omega)
    rwa [List.getD, List.getElem?_eq_getElem hj] at this
  rw [← hn'] at hc hn ⊢
  have HN := Lib.hid hn'
  have HC := Lib.hid hc
  have HZ := Lib.hid hz'
  have HALL := Lib.hid hall
  clear hn' hc hz hz' hall
  by_cases hbig : L0 - (n : Int) < 0
  · go_enter Try.func136, Try.ntmps136
    go_wp2_with fail
    go_ret
    exact ⟨⟨-1, rfl, by omega, by omega, fun h => absurd h (by omega)⟩, rfl⟩
  · go_enter Try.func136, Try.ntmps136
    go_wp2_with fail
    go_loop [1, 5] (fun l i => ∃ (k : Nat) (L : Int), l = .int .i64 L ∧ i = .int .i64 k ∧ k ≤ n ∧ 0 ≤ L ∧ L ≤ 1048576 ∧ ∀ j, j < k → (ns.getD j []).length ≤ 1048576) (fun _ i => n - (intOf i).toNat)
    case atStart => exact ⟨0, _, rfl, rfl, Nat.zero_le _, by omega, by omega, fun j hj => absurd hj (Nat.not_lt_zero j)⟩
    case round =>
      obtain ⟨k, L, rfl, rfl, hk, hL0, hL1, hall⟩ := hrel
      have HL := Lib.hid hall
      clear hall
      by_cases hlt : k < n
      · obtain ⟨b, off, rfl, _, h1⟩ := HC.out k hlt
        have h2 := HZ.out k hlt
        obtain ⟨z, hz⟩ : ∃ z, z = ns.getD k [] := ⟨_, rfl⟩
        rw [← hz] at h1 h2
        have HZ2 := Lib.hid hz
        clear hz
        have hlt' : (k : Int) < (n : Int) := by omega
        have hsz := str_sizeZ z
        by_cases hneg : L - (z.length : Int) < 0
        · go_wp2_with fail
          go_ret
          exact ⟨⟨-1, rfl, by omega, by omega, fun h => absurd h (by omega)⟩, rfl⟩
        · go_wp2_with fail
          go_round
          case rel =>
            refine ⟨k + 1, L - z.length, by go_num, by go_num, by omega, by omega, by omega, fun j hj => ?_⟩
            by_cases e : j = k
            · rw [e, ← HZ2.out]; omega
            · exact HL.out j (by omega)
          case measure => simp [intOf]; omega
      · obtain rfl : k = n := by omega
        go_wp2_with fail
        go_ret
        exact ⟨⟨L, rfl, by omega, by omega, fun _ => ⟨by omega, HALL.out HL.out⟩⟩, rfl⟩

/-- Every length is one of Go's. -/
def Lens (m : Nat) (a : List (List (List UInt8))) : Prop := a.length ≤ m ∧ ∀ ns ∈ a, ns.length ≤ m ∧ ∀ s ∈ ns, s.length ≤ m

theorem l_szSS (w : World) (sv : Value) (a : List (List (List UInt8))) (L0 : Int) (h : SSU 0 w sv a) (hl : Lens 9223372036854775807 a) (h0 : 0 ≤ L0) (h1 : L0 ≤ 1048576) :
    Calls Try.prog 102 #[sv, .int .i64 L0] w fun e w' =>
      (∃ r : Int, e = .returned (.int .i64 r) ∧ r ≤ 1048576 ∧ -9223372036854775808 ≤ r ∧ (0 ≤ r → Lens 1048576 a)) ∧ w = w' := by
  obtain ⟨f, ⟨ao, cap, rfl, hc⟩, hf⟩ := h
  obtain ⟨hn, hz⟩ := hl
  obtain ⟨n, hn'⟩ : ∃ n, n = a.length := ⟨_, rfl⟩
  have hcall : ∀ j, j < n → ∀ L : Int, 0 ≤ L → L ≤ 1048576 → Calls Try.prog 136 #[f j, .int .i64 L] w fun e w' =>
      (∃ r : Int, e = .returned (.int .i64 r) ∧ r ≤ 1048576 ∧ -9223372036854775808 ≤ r ∧ (0 ≤ r → (a.getD j []).length ≤ 1048576 ∧ ∀ s ∈ a.getD j [], s.length ≤ 1048576)) ∧ w = w' := fun j hj L hL0 hL1 => by
    have hj' : j < a.length := by omega
    have hm : a.getD j [] ∈ a := by rw [List.getD, List.getElem?_eq_getElem hj']; exact List.getElem_mem hj'
    exact l_szU w (f j) _ L (hf j hj') (hz _ hm).1 (hz _ hm).2 hL0 hL1
  have hform : ∀ j, j < n → ∃ ao' m c, f j = .slice ao' m c := fun j hj => by
    obtain ⟨ao', c, e, _⟩ := hf j (by omega)
    exact ⟨_, _, _, e⟩
  have hall : n ≤ 1048576 → (∀ j, j < n → (a.getD j []).length ≤ 1048576 ∧ ∀ s ∈ a.getD j [], s.length ≤ 1048576) → Lens 1048576 a := fun hb h => ⟨by omega, fun ns hs => by
    obtain ⟨j, hj, rfl⟩ := List.getElem_of_mem hs
    have := h j (by omega)
    rwa [List.getD, List.getElem?_eq_getElem hj] at this⟩
  rw [← hn'] at hc hn ⊢
  have HN := Lib.hid hn'
  have HC := Lib.hid hc
  have HALL := Lib.hid hall
  have HCALL := Lib.hid hcall
  have HF := Lib.hid hform
  clear hn' hc hz hall hcall hform hf
  by_cases hbig : L0 - (n : Int) < 0
  · go_enter Try.func102, Try.ntmps102
    go_wp2_with fail
    go_ret
    exact ⟨⟨-1, rfl, by omega, by omega, fun h => absurd h (by omega)⟩, rfl⟩
  · go_enter Try.func102, Try.ntmps102
    go_wp2_with fail
    go_loopw [1, 5] (fun l i wr => ∃ (k : Nat) (L : Int), l = .int .i64 L ∧ i = .int .i64 k ∧ k ≤ n ∧ 0 ≤ L ∧ L ≤ 1048576 ∧ (∀ j, j < k → (a.getD j []).length ≤ 1048576 ∧ ∀ s ∈ a.getD j [], s.length ≤ 1048576) ∧ wr = w) (fun _ i _ => n - (intOf i).toNat)
    case atStart => exact ⟨0, _, rfl, rfl, Nat.zero_le _, by omega, by omega, fun j hj => absurd hj (Nat.not_lt_zero j), rfl⟩
    case round =>
      obtain ⟨k, L, rfl, rfl, hk, hL0, hL1, hall, rfl⟩ := hrel
      have HL := Lib.hid hall
      clear hall
      by_cases hlt : k < n
      · obtain ⟨b, off, rfl, _, h1⟩ := HC.out k hlt
        have hcall := HCALL.out k hlt L hL0 hL1
        obtain ⟨ao', m', c', hfk⟩ := HF.out k hlt
        rw [hfk] at h1 hcall
        have hlt' : (k : Int) < (n : Int) := by omega
        clear hfk
        go_wp2_with fail
        refine hcall.mono ?_
        rintro e w1 ⟨⟨r, rfl, hr1, hr2, hr⟩, rfl⟩
        have HR := Lib.hid hr
        clear hr hcall
        by_cases hneg : r < 0
        · go_wp2_with fail
          go_ret
          exact ⟨⟨-1, rfl, by omega, by omega, fun h => absurd h (by omega)⟩, rfl⟩
        · go_wp2_with fail
          go_roundw
          case rel =>
            refine ⟨k + 1, r, rfl, by go_num, by omega, by omega, by omega, fun j hj => ?_, by first | rfl | trivial⟩
            by_cases e : j = k
            · rw [e]; exact HR.out (by omega)
            · exact HL.out j (by omega)
          case measure => simp [intOf]; omega
      · obtain rfl : k = n := by omega
        go_wp2_with fail
        go_ret
        exact ⟨⟨L, rfl, by omega, by omega, fun _ => HALL.out (by omega) HL.out⟩, rfl⟩

theorem l_szAsm (w : World) (sv : Value) (a : List (List (List UInt8))) (h : SSU 0 w sv a) (hl : Lens 9223372036854775807 a) (L0 : Int) (h0 : 0 ≤ L0) (h1 : L0 ≤ 1048576) :
    Calls Try.prog 55 #[.agg #[sv], .int .i64 L0] w fun e w' =>
      (∃ r : Int, e = .returned (.int .i64 r) ∧ r ≤ 1048576 ∧ -9223372036854775808 ≤ r ∧ (0 ≤ r → Lens 1048576 a)) ∧ After w w' := by
  have hcall := fun W (hW : After w W) => l_szSS W sv a L0 (h.later hW) hl h0 h1
  obtain ⟨ao, n, cap, rfl⟩ : ∃ ao n cap, sv = .slice ao n cap := by obtain ⟨f, ⟨ao, cap, e, _⟩, _⟩ := h; exact ⟨_, _, _, e⟩
  have hA := After.new w (.cells #[.slice ao n cap] 54)
  clear h hl
  go_enter Try.func55, Try.ntmps55
  go_wp2_with fail
  refine (hcall _ hA).mono ?_
  rintro e w1 ⟨⟨r, rfl, hr1, hr2, hr⟩, rfl⟩
  have HR := Lib.hid hr
  clear hr hcall
  by_cases hneg : r < 0
  · go_wp2_with fail
    go_ret
    exact ⟨⟨-1, rfl, by omega, by omega, fun h => absurd h (by omega)⟩, hA⟩
  · go_wp2_with fail
    go_ret
    exact ⟨⟨r, rfl, by omega, by omega, HR.out⟩, hA⟩
end Go.Proofs.Ytipmgfbncfkmiaa

namespace Go.Proofs.Ytipmgfbncfkmiaa
open Go.RowKit

set_option maxHeartbeats 1000000
set_option maxRecDepth 100000

theorem l_toU (w : World) (sv : Value) (ns : List (List UInt8)) (h : StrsU 0 w sv ns) (hn : ns.length ≤ 1048576) :
    Calls Try.prog 138 #[sv] w fun e w' =>
      e = .returned (.slice (some ⟨w.heap.size, 0, none⟩) ns.length ns.length) ∧ StrsU w.heap.size w' (.slice (some ⟨w.heap.size, 0, none⟩) ns.length ns.length) ns ∧ After w w' := by
  obtain ⟨ao, cap, rfl, hc⟩ := h
  by_cases h0 : ns = []
  · subst h0
    refine (l_to_none w ao cap).mono ?_
    rintro e w' ⟨rfl, hg, hs⟩
    exact ⟨rfl, ⟨_, _, rfl, fun j hj => absurd hj (Nat.not_lt_zero j)⟩, (Below.refl _ _).grown hg (Nat.le_refl _) (fun k hk => by cases hk)⟩
  · have hpos : 0 < ns.length := List.length_pos_iff.2 h0
    obtain ⟨b, off, rfl, _, hc0⟩ := hc 0 hpos
    have hc' : ∀ j, j < ns.length → w.cell? ⟨b, off + j, none⟩ = some (str (ns[j]?.getD [])) := fun j hj => by
      obtain ⟨b', off', e, _, h⟩ := hc j hj
      simp only [Option.some.injEq, Addr.mk.injEq, and_true] at e
      obtain ⟨rfl, rfl⟩ := e
      exact h
    refine (l_to_some w b off cap ns hn (World.block_lt_of_cell? _ _ hc0) hc').mono ?_
    rintro e w' ⟨rfl, ho, hg⟩
    refine ⟨rfl, ⟨_, _, rfl, fun j hj => ⟨_, _, rfl, ⟨Nat.le_refl _, Nat.le_refl _, by omega⟩, ?_⟩⟩, (Below.refl _ _).grown hg (Nat.le_refl _) (fun k hk => by cases hk)⟩
    rw [Nat.zero_add]
    exact (ho.cellAt j (by omega)).trans (by simp [List.getD, hj])

theorem fill_set {n k : Nat} {fs : List Value} {v z : Value} (h : fs.length = k) (hk : k < n) : (fs ++ List.replicate (n - k) z).set k v = (fs ++ [v]) ++ List.replicate (n - (k + 1)) z := by
  subst h
  rw [List.set_append_right _ _ (Nat.le_refl _), Nat.sub_self, show n - fs.length = (n - (fs.length + 1)) + 1 by omega, List.replicate_succ, List.set_cons_zero, List.append_assoc]
  rfl

theorem fill_at {n k : Nat} {fs : List Value} {z : Value} (h : fs.length = k) (hk : k < n) : (fs ++ List.replicate (n - k) z)[k]? = some z := by
  subst h
  rw [List.getElem?_append_right (Nat.le_refl _), Nat.sub_self, List.getElem?_replicate, if_pos (by omega)]

theorem made_nils (n : Nat) : (madeCells (Value.slice none 0 0).cells (n * 1)).toList = List.replicate n (Value.slice none 0 0) := by
  apply List.ext_getElem?
  intro i
  have e : ∀ x : Nat, (#[Value.slice none 0 0] : Array Value)[x % 1]! = Value.slice none 0 0 := fun x => by rw [Nat.mod_one]; rfl
  have e2 : (Value.slice none 0 0).cells = #[Value.slice none 0 0] := rfl
  have e3 : (#[Value.slice none 0 0] : Array Value).size = 1 := rfl
  simp only [madeCells, e2, e3, e, Array.toList_map, Array.toList_range, Nat.mul_one]
  rw [List.getElem?_map, List.getElem?_replicate]
  by_cases h : i < n
  · rw [if_pos h, List.getElem?_eq_getElem (by simpa using h)]; rfl
  · rw [if_neg h, List.getElem?_eq_none (by simpa using h)]; rfl

theorem l_toSS (w : World) (sv : Value) (a : List (List (List UInt8))) (h : SSU 0 w sv a) (hl : Lens 1048576 a) :
    Calls Try.prog 106 #[sv] w fun e w' =>
      ∃ sv', e = .returned sv' ∧ SSU w.heap.size w' sv' a ∧ After w w' := by
  obtain ⟨f, ⟨ao, cap, rfl, hc⟩, hf⟩ := h
  obtain ⟨hn, hz⟩ := hl
  obtain ⟨n, hn'⟩ : ∃ n, n = a.length := ⟨_, rfl⟩
  have hcall : ∀ j, j < n → ∀ W, After w W → Calls Try.prog 138 #[f j] W fun e w' =>
      e = .returned (.slice (some ⟨W.heap.size, 0, none⟩) (a.getD j []).length (a.getD j []).length) ∧ StrsU W.heap.size w' (.slice (some ⟨W.heap.size, 0, none⟩) (a.getD j []).length (a.getD j []).length) (a.getD j []) ∧ After W w' := fun j hj W hW => by
    have hj' : j < a.length := by omega
    have hm : a.getD j [] ∈ a := by rw [List.getD, List.getElem?_eq_getElem hj']; exact List.getElem_mem hj'
    exact l_toU W (f j) _ ((hf j hj').later hW) (hz _ hm).1
  have hform : ∀ j, j < n → ∃ ao' m c, f j = .slice ao' m c := fun j hj => by
    obtain ⟨ao', c, e, _⟩ := hf j (by omega)
    exact ⟨_, _, _, e⟩
  rw [← hn'] at hc hn ⊢
  have HN := Lib.hid hn'
  have HC := Lib.hid hc
  have HCALL := Lib.hid hcall
  have HF := Lib.hid hform
  clear hn' hc hz hcall hform hf
  have hi : ∃ i, (Try.prog).info? 25 = some i ∧ i.zero = some (.slice none 0 0) ∧ i.size = 1 ∧ i.bytes = 24 := ⟨_, rfl, rfl, rfl, rfl⟩
  obtain ⟨i0, hi, hz0, hz1, hz2⟩ := hi
  go_enter Try.func106, Try.ntmps106
  go_wp2_with (at_make; refine wpList_make_full _ rfl _ _ _ rfl w.heap.size 25 i0 (.slice none 0 0) 1 rfl hi hz0 hz1 .i64 .i64 _ _ n rfl rfl rfl rfl (by rw [hz2]; omega) (by unfold maxLen; omega) (Nat.le_refl _) ?_; intro w1 ho hg)
  rw [made_nils n] at ho
  have hstart : Hid (w1.ownsRow w.heap.size 25 1 (.slice (some ⟨w.heap.size, 0, none⟩) n n) n (List.replicate n (Value.slice none 0 0))) := ho
  obtain ⟨g, hgg⟩ : ∃ g, g = w.heap.size := ⟨_, rfl⟩
  have hgw1 : g < w1.heap.size := by
    rcases ho.2 with ⟨h, _⟩ | ⟨g', cp, cur, h, _, hh, _⟩
    · cases h
    · cases h
      rw [hgg]
      exact (Array.getElem?_eq_some_iff.1 hh).1
  rw [← hgg] at hstart
  have HG := Lib.hid hgg
  simp only [← hgg]
  clear ho hgg
  go_loopw [4] (fun i wr => ∃ (k : Nat) (fs : List Value), i = .int .i64 k ∧ k ≤ n ∧ Hid (fs.length = k) ∧ Hid (wr.ownsRow g 25 1 (.slice (some ⟨g, 0, none⟩) n n) n (fs ++ List.replicate (n - k) (Value.slice none 0 0))) ∧ Hid (∀ j, j < k → StrsU (g + 1) wr (fs.getD j undef) (a.getD j [])) ∧ g < wr.heap.size ∧ w.grownBy wr none) (fun i _ => n - (intOf i).toNat)
  case atStart => exact ⟨0, [], rfl, Nat.zero_le _, by show _ = _; rfl, by show World.ownsRow _ _ _ _ _ _ _; exact hstart.out, by show ∀ j, _; exact fun j hj => absurd hj (Nat.not_lt_zero j), hgw1, hg⟩
  case round =>
    obtain ⟨k, fs, rfl, hk, hfs, hrow, hrows, hgs, hgr⟩ := hrel
    clear hstart hg hgw1
    have hA : After w wr := ⟨hgr.os, hgr.tape, hgr.output, hgr.size, fun q hq => hgr.block q hq (by simp)⟩
    by_cases hlt : k < n
    · obtain ⟨b, off, rfl, _, h1⟩ := HC.out k hlt
      obtain ⟨ao', m', c', hfk⟩ := HF.out k hlt
      have hcall := HCALL.out k hlt wr hA
      have h1' := hA.cell h1
      rw [hfk] at h1' hcall
      have hlt' : (k : Int) < (n : Int) := by omega
      clear hfk h1
      go_wp2_with fail
      refine hcall.mono ?_
      rintro e w2 ⟨rfl, hst, hb2⟩
      have hrow2 := hrow.out.kept (row := none) (⟨hb2.os, hb2.tape, hb2.output, hb2.size, fun k hk _ => hb2.block k hk⟩) (Or.inr (by simp [Value.ownBlock]))
      have h2 := (hrow2.cellAt k (by omega)).trans (fill_at hfs.out hlt)
      have h3 := hrow2.frozenAt k
      have HR2 := Lib.hid hrow2
      have HST := Lib.hid hst
      clear hrow2 hst hcall
      obtain ⟨m, hm⟩ : ∃ m, m = (a.getD k []).length := ⟨_, rfl⟩
      rw [← hm]
      have HM := Lib.hid hm
      clear hm
      go_wp2_with fail
      go_roundw
      case rel =>
        refine ⟨k + 1, fs ++ [.slice (some ⟨wr.heap.size, 0, none⟩) m m], by go_num, by omega, ?_, ?_, ?_, ?_, ?_⟩
        · show _ = _; simp [hfs.out]
        · show World.ownsRow _ _ _ _ _ _ _
          have h := (HR2.out.stored k (.slice (some ⟨wr.heap.size, 0, none⟩) m m)).1
          rw [fill_set hfs.out hlt] at h
          exact h
        · show ∀ j, _
          intro j hj
          have hset : ∀ b, g + 1 ≤ b → b < w2.heap.size → (w2.setCell ⟨g, k, none⟩ (.slice (some ⟨wr.heap.size, 0, none⟩) m m)).heap[b]? = w2.heap[b]? := fun b hb _ => by
            rw [Below.heap_setCell _ _ _ _ (fun e => by have : b = g := e; omega)]
          by_cases hjk : j < k
          · rw [List.getD, List.getElem?_append_left (by rw [hfs.out]; exact hjk), ← List.getD]
            exact RowU.same ((hrows.out j hjk).later hb2) hset
          · obtain rfl : j = k := by omega
            rw [List.getD, List.getElem?_append_right (by rw [hfs.out]; exact Nat.le_refl _), hfs.out, Nat.sub_self]
            have h := HST.out
            rw [← HM.out] at h
            exact RowU.same (RowU.mono h (by omega)) hset
        · have := hb2.size
          show g < (w2.setCell _ _).heap.size
          simp [World.setCell]; omega
        · refine ⟨hb2.os.trans hgr.os, hb2.tape.trans hgr.tape, hb2.output.trans hgr.output, by have h1 := hgr.size; have h2 := hb2.size; simp [World.setCell]; omega, fun b' hb' hne => ?_⟩
          rw [Below.heap_setCell _ _ _ _ (fun e => absurd ((show b' = g from e).trans HG.out) (Nat.ne_of_lt hb')), hb2.block b' (Nat.lt_of_lt_of_le hb' hgr.size)]
          exact hgr.block b' hb' hne
      case measure => simp [intOf]; omega
    · obtain rfl : k = n := by omega
      have HR := Lib.hid hrow.out
      clear hrow
      go_wp2_with fail
      go_ret
      have h := HR.out
      rw [Nat.sub_self, List.replicate_zero, List.append_nil] at h
      rw [← HG.out]
      refine ⟨.slice (some ⟨g, 0, none⟩) k k, rfl, ⟨fun j => fs.getD j undef, ⟨some ⟨g, 0, none⟩, k, by rw [← HN.out], fun j hj => ⟨g, 0, rfl, ⟨Nat.le_refl _, by rw [← HN.out]; exact Nat.le_refl _, by omega⟩, ?_⟩⟩, fun j hj => RowU.mono (hrows.out j (by rw [HN.out]; exact hj)) (by omega)⟩, hA⟩
      have hj' : j < k := by rw [HN.out]; exact hj
      rw [Nat.zero_add]
      have hjf : j < fs.length := by rw [hfs.out]; exact hj'
      exact (h.cellAt j (by omega)).trans (by simp [List.getD, hjf])
end Go.Proofs.Ytipmgfbncfkmiaa

namespace Go.Proofs.Ytipmgfbncfkmiaa
open Go.RowKit

set_option maxHeartbeats 1000000
set_option maxRecDepth 100000

theorem one_facts {W : World} {b : Nat} {x : Value} {T : TypeId} (h : W.heap[b]? = some (.cells #[x] T (0, 0))) {W' : World} (hW : After W W') :
    W'.cell? ⟨b, 0, none⟩ = some x ∧ W'.frozen? ⟨b, 0, none⟩ = false ∧ b < W'.heap.size := by
  have hh := hW.heap h
  exact ⟨cell_of_heap hh, by simp [World.frozen?, hh], (Array.getElem?_eq_some_iff.1 hh).1⟩

theorem SSU.form {B : Nat} {w : World} {sv : Value} {a : List (List (List UInt8))} (h : SSU B w sv a) : ∃ ao cap, sv = .slice ao a.length cap := by
  obtain ⟨f, ⟨ao, cap, e, _⟩, _⟩ := h
  exact ⟨_, _, e⟩

theorem SSU.same {B : Nat} {w W : World} {sv : Value} {a : List (List (List UInt8))} (h : SSU B w sv a) (hA : ∀ b, B ≤ b → b < w.heap.size → W.heap[b]? = w.heap[b]?) : SSU B W sv a := by
  obtain ⟨f, h1, h2⟩ := h
  exact ⟨f, h1.same hA, fun j hj => RowU.same (h2 j hj) hA⟩

theorem l_toAsm (w : World) (sv : Value) (a : List (List (List UInt8))) (h : SSU 0 w sv a) (hl : Lens 1048576 a) :
    Calls Try.prog 57 #[.agg #[sv]] w fun e w' =>
      ∃ sv', e = .returned (.agg #[sv']) ∧ SSU w.heap.size w' sv' a ∧ After w w' := by
  have hcall := fun W (hW : After w W) => l_toSS W sv a (h.later hW) hl
  obtain ⟨ao, cap, rfl⟩ := h.form
  generalize a.length = n at *
  obtain ⟨os, hos⟩ : ∃ os : List Obj, os = [.cells #[.slice ao n cap] 54, .cells #[.slice none 0 0] 58, .cells #[.slice none 0 0] 58] := ⟨_, rfl⟩
  have hX : allocL w os = ((w.alloc (.cells #[.slice ao n cap] 54)).alloc (.cells #[.slice none 0 0] 58)).alloc (.cells #[.slice none 0 0] 58) := by rw [hos]; rfl
  have hA : After w (allocL w os) := allocL_below w os
  have h1 : (allocL w os).heap[w.heap.size + 1]? = some (.cells #[.slice none 0 0] 58 (0, 0)) := by have := allocL_heap w os 1 (by rw [hos]; simp); simpa [hos] using this
  have h2 : (allocL w os).heap[w.heap.size + 1 + 1]? = some (.cells #[.slice none 0 0] 58 (0, 0)) := by have := allocL_heap w os 2 (by rw [hos]; simp); simpa [hos] using this
  have hs : (allocL w os).heap.size = w.heap.size + 3 := by rw [hX]; simp
  rw [hX] at hA h1 h2 hs
  have H1 := Lib.hid h1
  have H2 := Lib.hid h2
  have HS := Lib.hid hs
  have hc := hcall _ hA
  have HA := Lib.hid hA
  clear hos hX h h1 h2 hs hcall hA hl
  go_enter Try.func57, Try.ntmps57
  go_wp2_with fail
  refine hc.mono ?_
  rintro e w1 ⟨sv', rfl, hsv, hb1⟩
  obtain ⟨ao', cap', rfl⟩ := hsv.form
  obtain ⟨r0, f0, z0⟩ := one_facts H1.out hb1
  obtain ⟨r1, f1, z1⟩ := one_facts H2.out hb1
  have HSV := Lib.hid hsv
  clear hc hsv
  generalize a.length = n' at *
  go_wp2_with fail
  refine bodyPost_ret (v := .agg #[.slice ao' n' cap']) (by simp [results, Try.results57, go_sem, r0]) rfl ⟨_, rfl, ?_, ?_⟩
  · refine SSU.mono (B := w.heap.size + 3) (SSU.same (by have := HSV.out; rw [HS.out] at this; exact this) fun b hb _ => ?_) (by omega)
    rw [Below.heap_setCell _ _ _ _ (fun e => by have : b = w.heap.size + 1 := e; omega), Below.heap_setCell _ _ _ _ (fun e => by have : b = w.heap.size + 1 + 1 := e; omega)]
  · exact Below.setCell (Below.setCell (HA.out.trans hb1) (by show w.heap.size ≤ w.heap.size + 1 + 1; omega) _) (by show w.heap.size ≤ w.heap.size + 1; omega) _

theorem l_eqU (w : World) (x y : Value) (ns : List (List UInt8)) (hx : StrsU 0 w x ns) (hy : StrsU 0 w y ns) (hn : ns.length ≤ 1000000000) :
    Calls Try.prog 142 #[x, y] w fun e w' => e = .returned (.bool true) ∧ After w w' := by
  obtain ⟨ao, ac, rfl, ha⟩ := hx
  obtain ⟨bo, bc, rfl, hb⟩ := hy
  generalize ns.length = n at *
  have HA := Lib.hid ha
  have HB := Lib.hid hb
  clear ha hb
  go_enter Try.func142, Try.ntmps142
  go_wp2_with fail
  go_loopw [5] (fun i wr => ∃ k : Nat, i = .int .i64 k ∧ k ≤ n ∧ After w wr) (fun i _ => n - (intOf i).toNat)
  case atStart => exact ⟨0, rfl, Nat.zero_le _, After.refl _⟩
  case round =>
    obtain ⟨k, rfl, hk, hA⟩ := hrel
    by_cases hlt : k < n
    · obtain ⟨b, off, rfl, _, h1⟩ := HA.out k hlt
      obtain ⟨b2, off2, rfl, _, h2⟩ := HB.out k hlt
      replace h1 := hA.cell h1
      replace h2 := hA.cell h2
      generalize ns.getD k [] = z at h1 h2
      have hlt' : (k : Int) < (n : Int) := by omega
      go_wp2_with fail
      go_quiet (fail)
      go_wp2_with fail
      go_roundw
      case rel => exact ⟨k + 1, by go_num, by omega, ⟨hA.os, hA.tape, hA.output, hA.size, hA.block⟩⟩
      case measure => simp [intOf]; omega
    · go_wp2_with fail
      go_ret
      exact ⟨rfl, hA⟩

theorem l_eqSS (w : World) (x y : Value) (a : List (List (List UInt8))) (hx : SSU 0 w x a) (hy : SSU 0 w y a) (hl : Lens 1000000000 a) :
    Calls Try.prog 109 #[x, y] w fun e w' => e = .returned (.bool true) ∧ After w w' := by
  obtain ⟨f, ⟨ao, ac, rfl, ha⟩, hf⟩ := hx
  obtain ⟨f', ⟨bo, bc, rfl, hb⟩, hf'⟩ := hy
  obtain ⟨hn, hz⟩ := hl
  have hcall : ∀ j, j < a.length → ∀ W, After w W → Calls Try.prog 142 #[f j, f' j] W fun e w' => e = .returned (.bool true) ∧ After W w' := fun j hj W hW =>
    l_eqU W _ _ (a.getD j []) ((hf j hj).later hW) ((hf' j hj).later hW) (hz _ (by rw [List.getD, List.getElem?_eq_getElem hj]; exact List.getElem_mem hj)).1
  have hform : ∀ j, j < a.length → (∃ ao' m c, f j = .slice ao' m c) ∧ ∃ ao' m c, f' j = .slice ao' m c := fun j hj => by
    obtain ⟨ao', c, e, _⟩ := hf j hj
    obtain ⟨ao2, c2, e2, _⟩ := hf' j hj
    exact ⟨⟨_, _, _, e⟩, _, _, _, e2⟩
  clear hf hf' hz
  generalize a.length = n at *
  have HA := Lib.hid ha
  have HB := Lib.hid hb
  have HCALL := Lib.hid hcall
  have HF := Lib.hid hform
  clear ha hb hcall hform
  go_enter Try.func109, Try.ntmps109
  go_wp2_with fail
  go_loopw [5] (fun i wr => ∃ k : Nat, i = .int .i64 k ∧ k ≤ n ∧ After w wr) (fun i _ => n - (intOf i).toNat)
  case atStart => exact ⟨0, rfl, Nat.zero_le _, After.refl _⟩
  case round =>
    obtain ⟨k, rfl, hk, hA⟩ := hrel
    by_cases hlt : k < n
    · obtain ⟨b, off, rfl, _, h1⟩ := HA.out k hlt
      obtain ⟨b2, off2, rfl, _, h2⟩ := HB.out k hlt
      have hcall := HCALL.out k hlt
      obtain ⟨⟨ao1, m1, c1, e1⟩, ao2, m2, c2, e2⟩ := HF.out k hlt
      rw [e1] at h1 hcall
      rw [e2] at h2 hcall
      have h1' : ∀ W, After wr W → W.cell? ⟨b, off + k, none⟩ = _ := fun W hW => (hA.trans hW).cell h1
      have h2' : ∀ W, After wr W → W.cell? ⟨b2, off2 + k, none⟩ = _ := fun W hW => (hA.trans hW).cell h2
      have hself := After.refl wr
      have hlt' : (k : Int) < (n : Int) := by omega
      have HC := Lib.hid (fun W (hW : After wr W) => hcall W (hA.trans hW))
      clear e1 e2 h1 h2 hcall
      go_wp2_with fail
      go_region_held3 (fun W' => After wr W') (first | assumption | exact hself.drew | go_keep)
        ((go_at_call 142; refine (HC.out _ (by first | assumption | exact hself.drew)).mono ?_; rintro e w1 ⟨rfl, hb1⟩; have hb1' := After.trans (by first | assumption | exact hself.drew) hb1))
      all_goals
        go_wp2_with fail
        go_roundw
        case rel => exact ⟨k + 1, by go_num, by omega, hA.trans hb1'⟩
        case measure => simp [intOf]; omega
    · go_wp2_with fail
      go_ret
      exact ⟨rfl, hA⟩

theorem l_eqAsm (w : World) (x y : Value) (a : List (List (List UInt8))) (hx : SSU 0 w x a) (hy : SSU 0 w y a) (hl : Lens 1000000000 a) :
    Calls Try.prog 60 #[.agg #[x], .agg #[y]] w fun e w' => e = .returned (.bool true) ∧ After w w' := by
  have hcall := fun W (hW : After w W) => l_eqSS W x y a (hx.later hW) (hy.later hW) hl
  obtain ⟨ao, cap, rfl⟩ := hx.form
  obtain ⟨ao2, cap2, rfl⟩ := hy.form
  have hA := (After.new w (.cells #[.slice ao a.length cap] 58)).alloc (.cells #[.slice ao2 a.length cap2] 58)
  have hc := hcall _ hA
  clear hx hy hl hcall
  generalize a.length = n at *
  go_enter Try.func60, Try.ntmps60
  go_wp2_with fail
  refine hc.mono ?_
  rintro e w1 ⟨rfl, hb1⟩
  go_wp2_with fail
  go_ret
  exact ⟨rfl, hA.trans hb1⟩
end Go.Proofs.Ytipmgfbncfkmiaa

namespace Go.Proofs.Ytipmgfbncfkmiaa
open Go.ChangeShapes Go.WideShapes Go.ChangeAt Go.RowKit Go.Deep

set_option maxHeartbeats 1000000
set_option maxRecDepth 100000

theorem laid_out : laidOutB Try.prog = true := by kernel_rfl
theorem add_plainU (b off i : Nat) : (Addr.mk b off none).add i = ⟨b, off + i, none⟩ := Addr.add_lit ..

section
variable {H : Type} {enc : TypeId × Value → H} {W : World} {base : Nat}

theorem open_strsU {fuel : Nat} {v : Value} {x : DataW H × List MemPlace} (h : DataW.trod enc Try.prog W 0 (fun _ => true) true fuel 25 [v] = some x) :
    ∃ ns : List (List UInt8), StrsU 0 W v ns ∧ ns.length ≤ 9223372036854775807 ∧ ∀ s ∈ ns, s.length ≤ 9223372036854775807 := by
  have hcz : Try.prog.cellsOf 9 = 1 := by kernel_rfl
  rcases open_strs Try.underlying25 Try.underlying9 hcz h with ⟨hcs, _⟩ | ⟨a, len, cap, m, Sx, hcs, _, hl, hm, hmm, _, hcell⟩
  · injection hcs with hcs
    subst hcs
    exact ⟨[], ⟨none, 0, rfl, fun j hj => absurd hj (Nat.not_lt_zero j)⟩, by simp, by simp⟩
  · injection hcs with hcs
    subst hcs
    simp only [if_true] at hmm
    have hmm' := hmm.symm
    subst hmm'
    have hm' : cap ≤ 9223372036854775807 := by unfold maxLen at hm; omega
    refine ⟨(List.range len).map fun j => (Sx j).data.toList, ⟨some a, cap, by simp, fun j hj => ?_⟩, by simp; omega, fun s hs => ?_⟩
    · simp only [List.length_map, List.length_range] at hj ⊢
      obtain ⟨b, off, spot⟩ := a
      have hspot : spot = none := by simpa [Addr.add] using World.cell?_spot (hcell 0 (by omega)).1
      subst hspot
      refine ⟨b, off, rfl, ⟨Nat.zero_le _, hl, hm'⟩, ?_⟩
      have := (hcell j (by omega)).1
      rw [add_plainU] at this
      rw [this]
      have hgd : ((List.range len).map fun j => (Sx j).data.toList).getD j [] = (Sx j).data.toList := by simp [List.getD, hj]
      show some (Value.string (Sx j)) = some (str (((List.range len).map fun j => (Sx j).data.toList).getD j []))
      rw [hgd]
    · obtain ⟨j, hj, rfl⟩ := List.mem_map.1 hs
      have := (hcell j (by have := List.mem_range.1 hj; omega)).2
      unfold maxLen at this
      exact this

theorem open_ssU {fuel : Nat} {v : Value} {x : DataW H × List MemPlace} (h : DataW.trod enc Try.prog W 0 (fun _ => true) true fuel 52 [v] = some x) :
    ∃ a : List (List (List UInt8)), SSU 0 W v a ∧ Lens 9223372036854775807 a := by
  have hcz : Try.prog.cellsOf 25 = 1 := by kernel_rfl
  rcases open_slice1 Try.underlying52 hcz h with ⟨hcs, _⟩ | ⟨a, len, cap, m, n, V, D, Pl, hcs, _, hl, hm, hmm, _, hcell⟩
  · injection hcs with hcs
    subst hcs
    exact ⟨[], ⟨fun _ => undef, ⟨none, 0, rfl, fun j hj => absurd hj (Nat.not_lt_zero j)⟩, fun j hj => absurd hj (Nat.not_lt_zero j)⟩, ⟨by simp, fun ns hs => absurd hs (by simp)⟩⟩
  · injection hcs with hcs
    subst hcs
    simp only [if_true] at hmm
    have hmm' := hmm.symm
    subst hmm'
    have hm' : cap ≤ 9223372036854775807 := by unfold maxLen at hm; omega
    obtain ⟨R, hR⟩ := choose_lt (α := List (List UInt8)) (n := cap) (p := fun i ns => StrsU 0 W (V i) ns ∧ ns.length ≤ 9223372036854775807 ∧ ∀ s ∈ ns, s.length ≤ 9223372036854775807) (fun i hi => open_strsU (hcell i hi).2)
    have hg : ∀ j, j < len → ((List.range len).map R).getD j [] = R j := fun j hj => by simp [List.getD, hj]
    refine ⟨(List.range len).map R, ⟨V, ⟨some a, cap, by simp, fun j hj => ?_⟩, fun j hj => ?_⟩, by simp; omega, fun ns hs => ?_⟩
    · simp only [List.length_map, List.length_range] at hj ⊢
      obtain ⟨b, off, spot⟩ := a
      have hspot : spot = none := by simpa [Addr.add] using World.cell?_spot (hcell 0 (by omega)).1
      subst hspot
      refine ⟨b, off, rfl, ⟨Nat.zero_le _, hl, hm'⟩, ?_⟩
      have := (hcell j (by omega)).1
      rwa [add_plainU] at this
    · simp only [List.length_map, List.length_range] at hj
      rw [hg j hj]
      exact (hR j (by omega)).1
    · obtain ⟨j, hj, rfl⟩ := List.mem_map.1 hs
      exact (hR j (by have := List.mem_range.1 hj; omega)).2

theorem open_asm {v : Value} {d : DataW H} {ps : List MemPlace} (hok : Value.okWide Try.prog W .any base 54 v) (h : DataW.Trod enc Try.prog W 0 (fun _ => true) true 54 v d ps) :
    ∃ sv a, v = .agg #[sv] ∧ SSU 0 W sv a ∧ Lens 9223372036854775807 a := by
  have hs : ∃ f : Field, Try.prog.underlying 54 = some (.struct #[f]) ∧ f.type = 52 ∧ f.offset = 0 := ⟨_, rfl, rfl, rfl⟩
  obtain ⟨f, hu, hft, hfo⟩ := hs
  have hcz : Try.prog.cellsOf 54 = 1 := by kernel_rfl
  have hcz2 : Try.prog.cellsOf 52 = 1 := by kernel_rfl
  obtain ⟨cs, rfl, hsz⟩ := okWide_struct hu hok
  rw [hcz] at hsz
  obtain ⟨fuel, hf⟩ := h
  obtain ⟨xs, n, _, _, _, hlen, hfs⟩ := DataW.trod_struct hu hf
  have h0 := hfs 0 f rfl
  rw [hft, hfo, hcz2] at h0
  obtain ⟨sv, rfl⟩ : ∃ sv, cs = #[sv] := by
    obtain ⟨l⟩ := cs
    match l, hsz with
    | [x], _ => exact ⟨x, rfl⟩
  obtain ⟨y, hy⟩ : ∃ y, xs[0]? = some y := by
    have : 0 < xs.length := by rw [hlen]; simp
    exact ⟨_, List.getElem?_eq_getElem this⟩
  rw [hy] at h0
  obtain ⟨a, h1, h2⟩ := open_ssU (v := sv) (by simpa [Value.cells] using h0)
  exact ⟨sv, a, rfl, h1, h2⟩
end
end Go.Proofs.Ytipmgfbncfkmiaa
