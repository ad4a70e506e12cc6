/-
  The drawing of inputs: a reader of codes (l6Rd): pick answers a number in its range, whatever the code.
-/
import Derived.Test.YtidpkmkhcomcdaaGreatPkB
import Derived.Test.YtidpkmkhcomcdaaGreatPkC
import Derived.Test.YtidpkmkhcomcdaaGreatPkE
import Derived.Test.YtidpkmkhcomcdaaGreatPkJ
import Derived.Test.YtidpkmkhcomcdaaGreatPkI
import Derived.Test.YtidpkmkhcomcdaaGreatPkD
import Derived.Test.YtidpkmkhcomcdaaGreatPkA
import Derived.Test.YtidpkmkhcomcdaaGreatPkF
import Derived.Test.YtidpkmkhcomcdaaGreatPkH
namespace Go.Proofs.YtidpkmkhcomcdaaGreat
open Go.RowKit

set_option maxHeartbeats 1000000
set_option maxRecDepth 100000

/-- The reader of a code lies in block rb. -/
def DR (w : World) (rb : Nat) (v : Value) (p : Nat) : Prop := w.heap[rb]? = some (.cells #[v, .int .i64 p] 84 (0, 0))

/-- The bytes of a code can be read. -/
def CodeOk (w : World) (rb : Nat) (v : Value) : Prop :=
  (∃ a0 cap, v = .slice a0 0 cap) ∨ ∃ b o n cap, 0 < n ∧ n ≤ 2000 ∧ v = .slice (some ⟨b, o, none⟩) n cap ∧ b ≠ rb ∧
    ∃ z : Nat → Nat, ∀ i, i < n → w.cell? ⟨b, o + i, none⟩ = some (.int .u8 (z i)) ∧ z i ≤ 255

def Dr (w : World) (rb p : Nat) : Prop := ∃ v, DR w rb v p ∧ CodeOk w rb v

def PickPost (w : World) (rb p m : Nat) (e : Ending) (w' : World) : Prop :=
  ∃ k : Nat, k < m ∧ e = .returned (.int .i64 k) ∧ w.grownBy w' (some rb) ∧ Dr w' rb (p + 1)

theorem DR.set {w : World} {rb p : Nat} {v : Value} (h : DR w rb v p) (q : Nat) : DR (w.setCell ⟨rb, 1, none⟩ (.int .i64 q)) rb v q := by
  unfold DR at *
  simp [World.setCell, Array.getElem?_modify, h]

theorem grown_set1 (w : World) (b i : Nat) (v : Value) : w.grownBy (w.setCell ⟨b, i, none⟩ v) (some b) := by
  refine ⟨rfl, rfl, rfl, by simp [World.setCell], fun k hk hne => ?_⟩
  have : b ≠ k := fun e => hne (e ▸ rfl)
  simp [World.setCell, Array.getElem?_modify, this]

theorem pick_none (w : World) (rb p : Nat) (a0 : Option Addr) (cap m : Nat) (h : DR w rb (.slice a0 0 cap) p) (hp : p ≤ 1000000) (hm : 1 ≤ m) :
    Calls Tryz.prog 27 #[.pointer (some ⟨rb, 0, none⟩), .int .i64 m] w (PickPost w rb p m) := by
  have c0 : w.cell? ⟨rb, 0, none⟩ = some (.slice a0 0 cap) := cell_of_heap h
  have c1 : w.cell? ⟨rb, 1, none⟩ = some (.int .i64 (p : Nat)) := cell_of_heap h
  have f1 : w.frozen? ⟨rb, 1, none⟩ = false := by unfold DR at h; simp [World.frozen?, h]
  have H := Lib.hid h
  clear h
  go_enter Tryz.func27, Tryz.ntmps27
  go_wp2_with fail
  go_ret
  exact ⟨0, by omega, rfl, grown_set1 _ _ _ _, _, H.out.set (p + 1), Or.inl ⟨_, _, rfl⟩⟩
theorem cell_set_other {w : World} {rb b i : Nat} (hne : b ≠ rb) (v : Value) : (w.setCell ⟨rb, 1, none⟩ v).cell? ⟨b, i, none⟩ = w.cell? ⟨b, i, none⟩ := by
  have : ¬ rb = b := fun e => hne e.symm
  simp [World.setCell, World.cell?, Array.getElem?_modify, this]

theorem pick_in (w : World) (rb p : Nat) (b o n cap m : Nat) (z : Nat → Nat) (h : DR w rb (.slice (some ⟨b, o, none⟩) n cap) p) (hn : n ≤ 2000) (hne : b ≠ rb) (hz : ∀ i, i < n → w.cell? ⟨b, o + i, none⟩ = some (.int .u8 (z i)) ∧ z i ≤ 255) (hp : p < n) (hm : 1 ≤ m) (hm2 : m ≤ 1000) :
    Calls Tryz.prog 27 #[.pointer (some ⟨rb, 0, none⟩), .int .i64 m] w (PickPost w rb p m) := by
  have c0 : w.cell? ⟨rb, 0, none⟩ = some (.slice (some ⟨b, o, none⟩) n cap) := cell_of_heap h
  have c1 : w.cell? ⟨rb, 1, none⟩ = some (.int .i64 (p : Nat)) := cell_of_heap h
  have f1 : w.frozen? ⟨rb, 1, none⟩ = false := by unfold DR at h; simp [World.frozen?, h]
  have H := Lib.hid h
  obtain ⟨hz1, hz2⟩ := hz p hp
  have hz3 := fun v => (cell_set_other (w := w) (i := o + p) hne v).trans hz1
  have HZ := Lib.hid hz
  have hp' : (p : Int) < (n : Int) := by omega
  have hm' : (1 : Int) ≤ (m : Int) := by omega
  have hn' : ((n : Int) == 0) = false := by rw [beq_eq_false_iff_ne]; omega
  clear h hz
  go_enter Tryz.func27, Tryz.ntmps27
  go_wp2_with fail
  go_ret
  refine ⟨z p % m, Nat.mod_lt _ (by omega), ?_, grown_set1 _ _ _ _, _, H.out.set (p + 1), Or.inr ⟨b, o, n, cap, by omega, hn, rfl, hne, z, fun i hi => ?_⟩⟩
  · show Ending.returned (.int .i64 _) = _; rfl
  · rw [cell_set_other hne]; exact HZ.out i hi

theorem wrap64_small (x : Int) (h0 : 0 ≤ x) (h1 : x < 9223372036854775808) : wrap64 x = x := by unfold wrap64; omega

theorem bits_xor_i64_nat (a b : Nat) (ha : a < 4611686018427387904) (hb : b < 4611686018427387904) : bits .xor .i64 (a : Int) (b : Int) = ((a ^^^ b : Nat) : Int) := by
  have hx : a ^^^ b < 2 ^ 62 := Nat.xor_lt_two_pow (by omega) (by omega)
  have h1 : (BitVec.ofInt 64 (a : Int)).toNat = a := by
    rw [BitVec.ofInt_natCast, BitVec.toNat_ofNat]; exact Nat.mod_eq_of_lt (by omega)
  have h2 : (BitVec.ofInt 64 (b : Int)).toNat = b := by
    rw [BitVec.ofInt_natCast, BitVec.toNat_ofNat]; exact Nat.mod_eq_of_lt (by omega)
  show IntKind.i64.wrap ((BitVec.ofInt 64 (a : Int) ^^^ BitVec.ofInt 64 (b : Int)).toNat : Int) = _
  rw [BitVec.toNat_xor, h1, h2, IntWalk.i64_in _ (by omega)]

theorem rem_xor (x y : Int) (m : Nat) (hx : 0 ≤ x) (hx2 : x < 1099511627776) (hy : 0 ≤ y) (hy2 : y < 1099511627776) (hm : 1 ≤ m) : ∃ k : Nat, k < m ∧ (bits .xor .i64 x y).tmod (m : Int) = (k : Int) := by
  obtain ⟨a, rfl⟩ := Int.eq_ofNat_of_zero_le hx
  obtain ⟨b, rfl⟩ := Int.eq_ofNat_of_zero_le hy
  rw [bits_xor_i64_nat a b (by omega) (by omega)]
  exact ⟨(a ^^^ b) % m, Nat.mod_lt _ (by omega), rfl⟩

theorem mix_range (p n m y z : Nat) (hp : p ≤ 1000000) (hy : y ≤ 255) (hz : z ≤ 255) (hm : 1 ≤ m) : ∃ k : Nat, k < m ∧
    (bits .xor .i64 (wrap64 ((y : Int) * 131 + (z : Int) * 1117 + (p : Int) * 29 + wrap64 (wrap64 ((p : Int) / (n : Int)) * 53)))
      (wrap64 ((wrap64 ((y : Int) * 131 + (z : Int) * 1117 + (p : Int) * 29 + wrap64 (wrap64 ((p : Int) / (n : Int)) * 53))).tdiv 64))).tmod (m : Int) = (k : Int) := by
  have d0 : (p : Int) / (n : Int) = ((p / n : Nat) : Int) := by simp
  have d1 : p / n ≤ p := Nat.div_le_self _ _
  rw [d0]
  generalize p / n = q at d1
  clear d0
  rw [wrap64_small (q : Int) (by omega) (by omega), wrap64_small ((q : Int) * 53) (by omega) (by omega)]
  rw [wrap64_small ((y : Int) * 131 + (z : Int) * 1117 + (p : Int) * 29 + (q : Int) * 53) (by omega) (by omega)]
  generalize hX : (y : Int) * 131 + (z : Int) * 1117 + (p : Int) * 29 + (q : Int) * 53 = X
  have h0 : 0 ≤ X := by omega
  have h1 : X < 1000000000 := by omega
  have e : X.tdiv 64 = X / 64 := Int.tdiv_eq_ediv_of_nonneg h0
  rw [e, wrap64_small (X / 64) (by omega) (by omega)]
  exact rem_xor _ _ m h0 (by omega) (by omega) (by omega) hm

theorem pick_past (w : World) (rb p : Nat) (b o n cap m : Nat) (z : Nat → Nat) (h : DR w rb (.slice (some ⟨b, o, none⟩) n cap) p) (hn : n ≤ 2000) (hne : b ≠ rb) (hz : ∀ i, i < n → w.cell? ⟨b, o + i, none⟩ = some (.int .u8 (z i)) ∧ z i ≤ 255) (hp : n ≤ p) (hp2 : p ≤ 1000000) (hn0 : 0 < n) (hm : 1 ≤ m) (hm2 : m ≤ 1000) :
    Calls Tryz.prog 27 #[.pointer (some ⟨rb, 0, none⟩), .int .i64 m] w (PickPost w rb p m) := by
  have c0 : w.cell? ⟨rb, 0, none⟩ = some (.slice (some ⟨b, o, none⟩) n cap) := cell_of_heap h
  have c1 : w.cell? ⟨rb, 1, none⟩ = some (.int .i64 (p : Nat)) := cell_of_heap h
  have f1 : w.frozen? ⟨rb, 1, none⟩ = false := by unfold DR at h; simp [World.frozen?, h]
  have H := Lib.hid h
  have l1 : p % n < n := Nat.mod_lt _ hn0
  have l2 : (p * 7 + 3) % n < n := Nat.mod_lt _ hn0
  obtain ⟨hz1, hz2⟩ := hz _ l1
  obtain ⟨hy1, hy2⟩ := hz _ l2
  have hz3 := fun v => (cell_set_other (w := w) (i := o + p % n) hne v).trans hz1
  have hy3 := fun v => (cell_set_other (w := w) (i := o + (p * 7 + 3) % n) hne v).trans hy1
  obtain ⟨k, hk, he⟩ := mix_range p n m (z (p % n)) (z ((p * 7 + 3) % n)) hp2 hz2 hy2 hm
  have HE := Lib.hid he
  clear he
  have HZ := Lib.hid hz
  have hp' : ¬ (p : Int) < (n : Int) := by omega
  have hm' : (1 : Int) ≤ (m : Int) := by omega
  have hn' : ((n : Int) == 0) = false := by rw [beq_eq_false_iff_ne]; omega
  have hn1 : ¬ n = 0 := by omega
  have hn2 : (0 : Int) < (n : Int) := by omega
  have q0 : 0 ≤ (p : Int) % (n : Int) := Int.emod_nonneg _ (by omega)
  have q1 : (p : Int) % (n : Int) < (n : Int) := Int.emod_lt_of_pos _ hn2
  have q2 : ((p : Int) % (n : Int)).toNat = p % n := by rw [← Int.natCast_emod]; rfl
  have r0 : 0 ≤ ((p : Int) * 7 + 3) % (n : Int) := Int.emod_nonneg _ (by omega)
  have r1 : ((p : Int) * 7 + 3) % (n : Int) < (n : Int) := Int.emod_lt_of_pos _ hn2
  have r2 : (((p : Int) * 7 + 3) % (n : Int)).toNat = (p * 7 + 3) % n := by
    rw [show ((p : Int) * 7 + 3) = ((p * 7 + 3 : Nat) : Int) by omega, ← Int.natCast_emod]; rfl
  have ht2 : ((p : Int) * 7 + 3).tmod (n : Int) = ((p : Int) * 7 + 3) % (n : Int) := Int.tmod_eq_emod_of_nonneg (by omega)
  clear h hz
  go_enter Tryz.func27, Tryz.ntmps27
  go_wp2_with fail
  go_quiet (fail)
  go_wp2_with fail
  go_ret
  refine ⟨k, hk, ?_, grown_trans (grown_set1 _ _ _ _) (grown_drawn _ rb _), _, H.out.set (p + 1), Or.inr ⟨b, o, n, cap, by omega, hn, rfl, hne, z, fun i hi => ?_⟩⟩
  · exact congrArg (fun x => Ending.returned (.int .i64 x)) HE.out
  · exact (cell_set_other hne _).trans (HZ.out i hi).1 |> fun h => ⟨h, (HZ.out i hi).2⟩

theorem pick_any (w : World) (rb p m : Nat) (h : Dr w rb p) (hp : p ≤ 1000000) (hm : 1 ≤ m) (hm2 : m ≤ 1000) :
    Calls Tryz.prog 27 #[.pointer (some ⟨rb, 0, none⟩), .int .i64 m] w (PickPost w rb p m) := by
  obtain ⟨v, h, hc⟩ := h
  rcases hc with ⟨a0, cap, rfl⟩ | ⟨b, o, n, cap, hn0, hn, rfl, hne, z, hz⟩
  · exact pick_none w rb p a0 cap m h hp hm
  · by_cases hlt : p < n
    · exact pick_in w rb p b o n cap m z h hn hne hz hlt hm hm2
    · exact pick_past w rb p b o n cap m z h hn hne hz (by omega) hp hn0 hm hm2
end Go.Proofs.YtidpkmkhcomcdaaGreat

namespace Go.Proofs.YtidpkmkhcomcdaaGreat
open Go.RowKit

set_option maxHeartbeats 1000000
set_option maxRecDepth 100000

theorem Dr.lt {w : World} {rb p : Nat} (h : Dr w rb p) : rb < w.heap.size := by obtain ⟨v, h, _⟩ := h; exact (Array.getElem?_eq_some_iff.1 h).1

theorem CodeOk.after {w W : World} {rb : Nat} {v : Value} (h : CodeOk w rb v) (hw : Below w.heap.size w W) : CodeOk W rb v := by
  rcases h with h | ⟨b, o, n, cap, hn0, hn, rfl, hne, z, hz⟩
  · exact Or.inl h
  · exact Or.inr ⟨b, o, n, cap, hn0, hn, rfl, hne, z, fun i hi => ⟨cell_later' (hz i hi).1 W hw, (hz i hi).2⟩⟩

theorem Dr.after {w W : World} {rb p : Nat} (h : Dr w rb p) (hw : Below w.heap.size w W) : Dr W rb p := by
  obtain ⟨v, h, hc⟩ := h
  exact ⟨v, heap_later h hw, hc.after hw⟩

def OfPost (w : World) (rb p : Nat) (L : List (List UInt8)) (e : Ending) (w' : World) : Prop :=
  ∃ s, s ∈ L ∧ e = .returned (str s) ∧ w.grownBy w' (some rb) ∧ Dr w' rb (p + 1)

theorem grown_cell {w w' : World} {g rb i : Nat} {v : Value} (h : w.cell? ⟨g, i, none⟩ = some v) (hne : g ≠ rb) (hg : w.grownBy w' (some rb)) : w'.cell? ⟨g, i, none⟩ = some v := by
  have hb := hg.block g (World.block_lt_of_cell? _ _ h) (fun e => by injection e with e; exact hne e)
  simp only [World.cell?] at *
  rw [hb]
  exact h

theorem of_any (w : World) (rb p g : Nat) (fr : Nat × Nat) (L : List (List UInt8)) (hL : w.heap[g]? = some (.cells (L.map str).toArray 9 fr)) (h0 : 0 < L.length) (h1 : L.length ≤ 1000) (hne : g ≠ rb) (h : Dr w rb p) (hp : p ≤ 1000000) :
    Calls Tryz.prog 109 #[.pointer (some ⟨rb, 0, none⟩), .slice (some ⟨g, 0, none⟩) L.length L.length] w (OfPost w rb p L) := by
  have hpick := pick_any w rb p L.length h hp (by omega) h1
  have hcell : ∀ k, k < L.length → w.cell? ⟨g, k, none⟩ = some (str (L.getD k [])) := fun k hk => by
    rw [cell_of_heap hL]
    simp [List.getD_eq_getElem?_getD, List.getElem?_eq_getElem hk]
  obtain ⟨N, hN⟩ : ∃ N, N = L.length := ⟨_, rfl⟩
  rw [← hN] at hpick h0 h1 hcell ⊢
  have HN := Lib.hid hN
  clear hN hL h
  go_enter Tryz.func109, Tryz.ntmps109
  go_wp2_with fail
  refine hpick.mono ?_
  rintro e w1 ⟨k, hk, rfl, hg1, hd1⟩
  have hc := grown_cell (hcell k hk) hne hg1
  have hk' : (k : Int) < (N : Int) := by omega
  have HD := Lib.hid hd1
  clear hd1 hpick hcell
  go_wp2_with fail
  go_ret
  refine ⟨L.getD k [], ?_, rfl, hg1, HD.out⟩
  have := HN.out
  rw [List.getD_eq_getElem?_getD, List.getElem?_eq_getElem (by omega)]
  exact List.getElem_mem _

/-- Some text of at most b bytes, behind at most c draws. -/
def StrPost (w : World) (rb p b c : Nat) (e : Ending) (w' : World) : Prop :=
  ∃ (s : ByteArray) (q : Nat), e = .returned (.string s) ∧ s.size ≤ b ∧ q ≤ p + c ∧ w.grownBy w' (some rb) ∧ Dr w' rb q

theorem cat2 (a b : ByteArray) (h : a.size + b.size ≤ 1000000000000) : ∃ c : ByteArray, c.size = a.size + b.size ∧ ∀ W, (Op.stringOp .add a b).run Tryz.prog W = .ok (.string c) W :=
  ⟨a ++ b, by simp, fun W => run_string_add_sum W a b (by omega)⟩

theorem ssize (l : List UInt8) : (⟨l.toArray⟩ : ByteArray).size = l.length := by show l.toArray.size = _; simp

def termL : List (List UInt8) := [[107], [115], [107], [120], [121], [115], [122, 49], [40, 40, 115, 32, 107, 41, 32, 107, 41]]

theorem grown_new {w w' : World} {o : Obj} {rb : Nat} (hg : (w.alloc o).grownBy w' (some rb)) (_h : rb < w.heap.size) : w.grownBy w' (some rb) := by
  have hb := below_new w o
  refine ⟨hg.os.trans hb.os, hg.tape.trans hb.tape, hg.output.trans hb.output, Nat.le_trans hb.size hg.size, fun k hk hne => ?_⟩
  rw [hg.block k (Nat.lt_of_lt_of_le hk hb.size) hne]
  exact hb.block k hk

theorem pow_pos4 (n : Nat) : 1 ≤ 4 ^ n := by have := Nat.pow_le_pow_right (n := 4) (by decide) (Nat.zero_le n); simpa using this

end Go.Proofs.YtidpkmkhcomcdaaGreat

namespace Go.Proofs.YtidpkmkhcomcdaaGreat
open Go.RowKit

set_option maxHeartbeats 1000000
set_option maxRecDepth 100000

def closedL : List (List UInt8) := [[107], [115], [107], [40, 40, 115, 32, 107, 41, 32, 107, 41], [40, 107, 32, 40, 40, 115, 32, 107, 41, 32, 107, 41, 41]]

theorem closed_leaf (w : World) (rb p : Nat) (d : Int) (h : Dr w rb p) (hp : p ≤ 1000000) (hd : d ≤ 0) :
    Calls Tryz.prog 94 #[.pointer (some ⟨rb, 0, none⟩), .int .i64 d] w (StrPost w rb p 13 3) := by
  have hlt := h.lt
  have hof := of_any (w.alloc (.cells (closedL.map str).toArray 9)) rb p w.heap.size (0, 0) closedL (heap_top w _) (by decide) (by decide) (by omega) (h.after (below_new w _)) hp
  have hlen : ∀ s ∈ closedL, s.length ≤ 13 := by decide
  have HL := Lib.hid hlen
  clear h hlen
  go_enter Tryz.func94, Tryz.ntmps94
  go_wp2_with fail
  refine hof.mono ?_
  rintro e w1 ⟨s, hs, rfl, hg1, hd1⟩
  have HD := Lib.hid hd1
  have HS := Lib.hid hs
  clear hd1 hof hs
  go_wp2_with fail
  go_ret
  exact ⟨⟨s.toArray⟩, p + 1, rfl, by rw [ssize]; exact HL.out s HS.out, by omega, grown_new hg1 hlt, HD.out⟩

theorem closed_any : ∀ (n : Nat) (w : World) (rb p : Nat) (d : Int), Dr w rb p → p + 3 * 4 ^ n ≤ 1000000 → d ≤ n → -100 ≤ d → n ≤ 10 →
    Calls Tryz.prog 94 #[.pointer (some ⟨rb, 0, none⟩), .int .i64 d] w (StrPost w rb p (13 * 4 ^ n) (3 * 4 ^ n)) := by
  intro n
  induction n with
  | zero =>
    intro w rb p d h hp hd _ _
    exact closed_leaf w rb p d h (by omega) (by omega)
  | succ n ih =>
    intro w rb p d h hp hd hd2 hn
    have hpw := pow_pos4 n
    have hpn : 4 ^ n ≤ 1048576 := Nat.pow_le_pow_right (by decide) (show n ≤ 10 by omega)
    rw [Nat.pow_succ] at hp ⊢
    by_cases hd0 : d ≤ 0
    · refine (closed_leaf w rb p d h (by omega) hd0).mono ?_
      rintro e w' ⟨s, q, rfl, hs, hq, hg, hd⟩
      exact ⟨s, q, rfl, by omega, by omega, hg, hd⟩
    · have hp1 := pick_any w rb p 5 h (by omega) (by decide) (by decide)
      generalize 4 ^ n = P at *
      have HIH := Lib.hid ih
      clear ih h
      go_enter Tryz.func94, Tryz.ntmps94
      go_wp2_with fail
      refine hp1.mono ?_
      rintro e w1 ⟨k, hk, rfl, hg1, hd1⟩
      have hlt := hd1.lt
      by_cases hk0 : k = 0
      · subst hk0
        have hof := of_any (w1.alloc (.cells (closedL.map str).toArray 9)) rb (p + 1) w1.heap.size (0, 0) closedL (heap_top w1 _) (by decide) (by decide) (by omega) (hd1.after (below_new w1 _)) (by omega)
        have hlen : ∀ s ∈ closedL, s.length ≤ 13 := by decide
        have HL := Lib.hid hlen
        clear hlen hd1 hp1
        go_wp2_with fail
        refine hof.mono ?_
        rintro e w2 ⟨s, hs, rfl, hg2, hd2⟩
        have HD := Lib.hid hd2
        have HS := Lib.hid hs
        clear hd2 hof hs
        go_wp2_with fail
        go_ret
        exact ⟨⟨s.toArray⟩, p + 1 + 1, rfl, by rw [ssize]; have := HL.out s HS.out; omega, by omega, grown_trans hg1 (grown_new hg2 hlt), HD.out⟩
      · have hk1 : ((k : Int) == 0) = false := by rw [beq_eq_false_iff_ne]; omega
        have hp2 := pick_any w1 rb (p + 1) 4 hd1 (by omega) (by decide) (by decide)
        clear hd1 hp1
        go_wp2_with fail
        refine hp2.mono ?_
        rintro e w2 ⟨j, hj, rfl, hg2, hd2'⟩
        have HD2 := Lib.hid hd2'
        clear hd2' hp2
        by_cases hj0 : j = 0
        · subst hj0
          go_wp2_with fail
          refine (HIH.out w2 rb (p + 1 + 1) (d - 1) HD2.out (by omega) (by omega) (by omega) (by omega)).mono ?_
          rintro e w3 ⟨s1, q1, rfl, hz1, hq1, hg3, hd3⟩
          obtain ⟨t1, z1, e1⟩ := cat2 ⟨#[40, 40, 107, 32]⟩ s1 (by have : (⟨#[40, 40, 107, 32]⟩ : ByteArray).size = 4 := rfl; omega)
          obtain ⟨t2, z2, e2⟩ := cat2 t1 ⟨#[41, 32]⟩ (by have : (⟨#[40, 40, 107, 32]⟩ : ByteArray).size = 4 := rfl; have : (⟨#[41, 32]⟩ : ByteArray).size = 2 := rfl; omega)
          have HD3 := Lib.hid hd3
          have Z1 := Lib.hid z1
          have Z2 := Lib.hid z2
          clear hd3 z1 z2
          go_wp2_with fail
          refine (HIH.out w3 rb q1 (d - 1) HD3.out (by omega) (by omega) (by omega) (by omega)).mono ?_
          rintro e w4 ⟨s2, q2, rfl, hz2, hq2, hg4, hd4⟩
          have l1 : (⟨#[40, 40, 107, 32]⟩ : ByteArray).size = 4 := rfl
          have l2 : (⟨#[41, 32]⟩ : ByteArray).size = 2 := rfl
          have l3 : (⟨#[41]⟩ : ByteArray).size = 1 := rfl
          have y1 := Z1.out
          have y2 := Z2.out
          obtain ⟨t3, z3, e3⟩ := cat2 t2 s2 (by omega)
          obtain ⟨t4, z4, e4⟩ := cat2 t3 ⟨#[41]⟩ (by omega)
          have hfin : t4.size ≤ 13 * (P * 4) := by omega
          have HD4 := Lib.hid hd4
          clear hd4 l1 l2 l3 y1 y2 z3 z4
          go_wp2_with fail
          go_ret
          exact ⟨t4, q2, rfl, hfin, by omega, grown_trans (grown_trans hg1 hg2) (grown_trans hg3 hg4), HD4.out⟩
        · have hj1 : ((j : Int) == 0) = false := by rw [beq_eq_false_iff_ne]; omega
          go_wp2_with fail
          refine (HIH.out w2 rb (p + 1 + 1) (d - 1) HD2.out (by omega) (by omega) (by omega) (by omega)).mono ?_
          rintro e w3 ⟨s1, q1, rfl, hz1, hq1, hg3, hd3⟩
          obtain ⟨t1, z1, e1⟩ := cat2 ⟨#[40]⟩ s1 (by have : (⟨#[40]⟩ : ByteArray).size = 1 := rfl; omega)
          obtain ⟨t2, z2, e2⟩ := cat2 t1 ⟨#[32]⟩ (by have : (⟨#[40]⟩ : ByteArray).size = 1 := rfl; have : (⟨#[32]⟩ : ByteArray).size = 1 := rfl; omega)
          have HD3 := Lib.hid hd3
          have Z1 := Lib.hid z1
          have Z2 := Lib.hid z2
          clear hd3 z1 z2
          go_wp2_with fail
          refine (HIH.out w3 rb q1 (d - 1) HD3.out (by omega) (by omega) (by omega) (by omega)).mono ?_
          rintro e w4 ⟨s2, q2, rfl, hz2, hq2, hg4, hd4⟩
          have l1 : (⟨#[40]⟩ : ByteArray).size = 1 := rfl
          have l2 : (⟨#[32]⟩ : ByteArray).size = 1 := rfl
          have l3 : (⟨#[41]⟩ : ByteArray).size = 1 := rfl
          have y1 := Z1.out
          have y2 := Z2.out
          obtain ⟨t3, z3, e3⟩ := cat2 t2 s2 (by omega)
          obtain ⟨t4, z4, e4⟩ := cat2 t3 ⟨#[41]⟩ (by omega)
          have hfin : t4.size ≤ 13 * (P * 4) := by omega
          have HD4 := Lib.hid hd4
          clear hd4 l1 l2 l3 y1 y2 z3 z4
          go_wp2_with fail
          go_ret
          exact ⟨t4, q2, rfl, hfin, by omega, grown_trans (grown_trans hg1 hg2) (grown_trans hg3 hg4), HD4.out⟩

def oddL : List (List UInt8) := [[], [97], [40, 107, 41], [40, 107, 32, 115, 32, 107, 41], [107, 32], [40, 107, 32, 32, 115, 41], [120, 48, 48, 48, 48], [40, 40, 115, 32, 107, 41, 107, 41]]
def bigL : List (List UInt8) := [[40, 40, 40, 40, 115, 32, 40, 40, 115, 32, 107, 41, 32, 107, 41, 41, 32, 40, 40, 115, 32, 107, 41, 32, 107, 41, 41, 41, 32, 40, 40, 40, 115, 32, 40, 40, 115, 32, 107, 41, 32, 107, 41, 41, 32, 40, 40, 115, 32, 107, 41, 32, 107, 41, 41, 41, 41], [40, 40, 40, 115, 32, 40, 40, 115, 32, 107, 41, 32, 107, 41, 41, 32, 40, 40, 115, 32, 107, 41, 32, 107, 41, 41, 32, 40, 40, 115, 32, 40, 40, 115, 32, 107, 41, 32, 107, 41, 41, 32, 40, 40, 115, 32, 107, 41, 32, 107, 41, 41, 41], [40, 40, 40, 115, 32, 115, 41, 32, 107, 41, 32, 120, 41]]

/-- A code as it comes in. -/
def CodeArg (w : World) (v : Value) (n : Nat) : Prop :=
  (∃ a0 cap, v = .slice a0 0 cap ∧ n = 0) ∨ ∃ b o cap, 0 < n ∧ n ≤ cap ∧ cap ≤ 9223372036854775807 ∧ v = .slice (some ⟨b, o, none⟩) n cap ∧
    ∃ z : Nat → Nat, ∀ i, i < n → w.cell? ⟨b, o + i, none⟩ = some (.int .u8 (z i)) ∧ z i ≤ 255

def OpenPost (w : World) (e : Ending) (w' : World) : Prop := ∃ rb, e = .returned (.pointer (some ⟨rb, 0, none⟩)) ∧ w.heap.size ≤ rb ∧ After w w' ∧ Dr w' rb 0

theorem open_any (w : World) (v : Value) (n : Nat) (h : CodeArg w v n) :
    Calls Tryz.prog 26 #[v] w (OpenPost w) := by
  rcases h with ⟨a0, cap, rfl, rfl⟩ | ⟨b, o, cap, hn0, hnc, hcm, rfl, z, hz⟩
  · go_enter Tryz.func26, Tryz.ntmps26
    go_wp2_with fail
    go_ret
    exact ⟨_, rfl, Nat.le_refl _, After.new _ _, _, heap_top _ _, Or.inl ⟨_, _, rfl⟩⟩
  · have hb : b < w.heap.size := World.block_lt_of_cell? _ _ (hz 0 hn0).1
    by_cases hbig : 2000 < n
    · have hbig' : (2000 : Int) < (n : Int) := by omega
      have hc : (2000 : Int) ≤ (cap : Int) := by omega
      have HZ := Lib.hid hz
      clear hz
      go_enter Tryz.func26, Tryz.ntmps26
      go_wp2_with fail
      go_ret
      exact ⟨_, rfl, Nat.le_refl _, After.new _ _, _, heap_top _ _, Or.inr ⟨b, o, 2000, cap, by omega, by omega, rfl, by omega, z, fun i hi => ⟨cell_later' (HZ.out i (by omega)).1 _ (below_new w _), (HZ.out i (by omega)).2⟩⟩⟩
    · have hbig' : ¬ (2000 : Int) < (n : Int) := by omega
      have HZ := Lib.hid hz
      clear hz
      go_enter Tryz.func26, Tryz.ntmps26
      go_wp2_with fail
      go_ret
      exact ⟨_, rfl, Nat.le_refl _, After.new _ _, _, heap_top _ _, Or.inr ⟨b, o, n, cap, hn0, by omega, rfl, by omega, z, fun i hi => ⟨cell_later' (HZ.out i hi).1 _ (below_new w _), (HZ.out i hi).2⟩⟩⟩

/-- Some text. -/
def DrawPost (w : World) (e : Ending) (w' : World) : Prop := ∃ s : ByteArray, e = .returned (.string s) ∧ s.size ≤ 100000 ∧ After w w'

theorem after_open {w W w' : World} {rb : Nat} (h : After w W) (g : W.grownBy w' (some rb)) (hr : w.heap.size ≤ rb) : After w w' :=
  ⟨g.os.trans h.os, g.tape.trans h.tape, g.output.trans h.output, Nat.le_trans h.size g.size, fun k hk => by
    rw [g.block k (Nat.lt_of_lt_of_le hk h.size) (fun e => by injection e with e; omega)]; exact h.block k hk⟩

def wordL : List (List UInt8) := [[105], [116, 114, 117, 101], [102, 97, 108, 115, 101], [112, 97, 105, 114], [102, 105, 114, 115, 116], [115, 101, 99, 111, 110, 100], [122, 101, 114, 111], [115, 117, 99, 99], [112, 114, 101, 100], [102, 105, 120], [], [80, 97, 105, 114]]

end Go.Proofs.YtidpkmkhcomcdaaGreat

namespace Go.Proofs.YtidpkmkhcomcdaaGreat
open Go.RowKit

set_option maxHeartbeats 2000000
set_option maxRecDepth 100000

theorem l_sameA (w : World) (x y : Value) (a : List (List (List UInt8))) (hx : SSU 0 w x a) (hy : SSU 0 w y a) (hl : Lens 1000000000 a) :
    Calls Tryz.prog 11 #[.agg #[x], .agg #[y]] w fun e w' => e = .returned (.bool true) ∧ After w w' := by
  obtain ⟨ao, ac, rfl⟩ := hx.form
  obtain ⟨bo, bc, rfl⟩ := hy.form
  have hA := (After.new w (.cells #[.slice ao a.length ac] 26)).alloc (.cells #[.slice bo a.length bc] 26)
  have hb0 := heap_old2 w (.cells #[.slice ao a.length ac] 26) (.cells #[.slice bo a.length bc] 26)
  have hb1 := heap_new2 w w.heap.size (.cells #[.slice ao a.length ac] 26) (.cells #[.slice bo a.length bc] 26) rfl
  obtain ⟨f, ⟨ao', ac', e, ha⟩, hf⟩ := hx.later hA
  obtain ⟨f', ⟨bo', bc', e', hb⟩, hf'⟩ := hy.later hA
  injection e with e1 _ e2
  injection e' with e1' _ e2'
  subst e1 e2 e1' e2'
  obtain ⟨hn, hz⟩ := hl
  obtain ⟨w2, hw2⟩ : ∃ w2, w2 = (w.alloc (.cells #[.slice ao a.length ac] 26)).alloc (.cells #[.slice bo a.length bc] 26) := ⟨_, rfl⟩
  rw [← hw2] at hA hb0 hb1 ha hf hb hf'
  have hcall : ∀ j, j < a.length → ∀ W, After w2 W → Calls Tryz.prog 34 #[f j, f' j] W fun e w' => e = .returned (.bool true) ∧ After W w' := fun j hj W hW => by
    have hlen := (hz _ (by rw [List.getD, List.getElem?_eq_getElem hj]; exact List.getElem_mem hj : a.getD j [] ∈ a)).1
    exact (l_same W _ _ (a.getD j []) (a.getD j []) ((hf j hj).later hW) ((hf' j hj).later hW) hlen hlen).mono fun e w' ⟨h1, h2⟩ => ⟨by rw [h1, decide_eq_true rfl], h2⟩
  have hform : ∀ j, j < a.length → (∃ ao' m c, f j = .slice ao' m c) ∧ ∃ ao' m c, f' j = .slice ao' m c := fun j hj => by
    obtain ⟨ao', c, e, _⟩ := hf j hj
    obtain ⟨ao2, c2, e2, _⟩ := hf' j hj
    exact ⟨⟨_, _, _, e⟩, _, _, _, e2⟩
  clear hf hf' hz hx hy
  generalize a.length = n at *
  have HA := Lib.hid ha
  have HB := Lib.hid hb
  have HCALL := Lib.hid hcall
  have HF := Lib.hid hform
  have HX := Lib.hid hb0
  have HY := Lib.hid hb1
  have HW := Lib.hid hw2
  have HAW := Lib.hid hA
  obtain ⟨p0, p1, p2⟩ := one_facts hb0 (After.refl _)
  obtain ⟨q0, q1, q2⟩ := one_facts hb1 (After.refl _)
  rw [hw2] at p0 q0
  clear ha hb hcall hform hb0 hb1 hA hw2
  go_enter Tryz.func11, Tryz.ntmps11
  go_wp2_with fail
  simp only [← HW.out]
  clear p0 q0
  go_loopw [5] (fun i wr => ∃ k : Nat, i = .int .i64 k ∧ k ≤ n ∧ After w2 wr) (fun i _ => n - (intOf i).toNat)
  case atStart => exact ⟨0, rfl, Nat.zero_le _, After.refl _⟩
  case round =>
    obtain ⟨k, rfl, hk, hA⟩ := hrel
    obtain ⟨p0, p1', p2'⟩ := one_facts HX.out hA
    obtain ⟨q0, q1', q2'⟩ := one_facts HY.out hA
    by_cases hlt : k < n
    · obtain ⟨b, off, rfl, _, h1⟩ := HA.out k hlt
      obtain ⟨b2, off2, rfl, _, h2⟩ := HB.out k hlt
      have hcall := HCALL.out k hlt
      obtain ⟨⟨ao1, m1, c1, e1⟩, ao2, m2, c2, e2⟩ := HF.out k hlt
      rw [e1] at h1 hcall
      rw [e2] at h2 hcall
      have h1' : ∀ W, After wr W → W.cell? ⟨b, off + k, none⟩ = _ := fun W hW => (hA.trans hW).cell h1
      have h2' : ∀ W, After wr W → W.cell? ⟨b2, off2 + k, none⟩ = _ := fun W hW => (hA.trans hW).cell h2
      have h3' : ∀ W, After wr W → W.cell? ⟨w.heap.size, 0, none⟩ = some (.slice (some ⟨b, off, none⟩) n ac) := fun W hW => (one_facts HX.out (hA.trans hW)).1
      have h4' : ∀ W, After wr W → W.cell? ⟨w.heap.size + 1, 0, none⟩ = some (.slice (some ⟨b2, off2, none⟩) n bc) := fun W hW => (one_facts HY.out (hA.trans hW)).1
      have hself := After.refl wr
      have hlt' : (k : Int) < (n : Int) := by omega
      have HC := Lib.hid (fun W (hW : After wr W) => hcall W (hA.trans hW))
      clear e1 e2 h1 h2 hcall
      go_wp2_with fail
      go_region_held3 (fun W' => After wr W') (first | assumption | exact hself.drew | go_keep)
        ((go_at_call 34; refine (HC.out _ (by first | assumption | exact hself.drew)).mono ?_; rintro e w1 ⟨rfl, hb1⟩; have hb1' := After.trans (by first | assumption | exact hself.drew) hb1))
      all_goals
        go_wp2_with fail
        go_roundw
        case rel => exact ⟨k + 1, by go_num, by omega, hA.trans hb1'⟩
        case measure => simp [intOf]; omega
    · go_wp2_with fail
      go_ret
      exact ⟨rfl, HAW.out.trans hA⟩

/-- A row of ints of its own. -/
def RI (w : World) (base : Nat) (v : Value) (n : Nat) (f : Nat → Int) : Prop := w.ownsRow base 3 1 v n ((List.range n).map fun j => .int .i64 (f j))

theorem RI.nil (w : World) (base : Nat) (f : Nat → Int) : RI w base (.slice none 0 0) 0 f := World.ownsRow_nil _ _ _ _
theorem RI.later {w W : World} {base : Nat} {v : Value} {n : Nat} {f : Nat → Int} (h : RI w base v n f) (hA : After w W) : RI W base v n f := own_later h hA
theorem RI.row {w : World} {base : Nat} {v : Value} {n : Nat} {f : Nat → Int} (h : RI w base v n f) : RowU 0 w v (Asm.mp n f).length (fun j => .int .i64 ((Asm.mp n f).getD j 0)) := by
  rw [Asm.mp_len]
  have h0 : w.ownsRow base 3 1 v n _ := h
  rcases h0.2 with ⟨rfl, h1⟩ | ⟨g, cap, cur, rfl, hb, hh, hle, hcap, _⟩
  · exact ⟨none, 0, by rw [h1], fun j hj => absurd hj (by omega)⟩
  · refine ⟨some ⟨g, 0, none⟩, cap, rfl, fun j hj => ⟨g, 0, rfl, ⟨Nat.zero_le _, hle, by unfold maxLen at hcap; omega⟩, ?_⟩⟩
    rw [Nat.zero_add]
    exact (h0.cellAt j (by omega)).trans (by show _ = some (Value.int IntKind.i64 ((Asm.mp n f).getD j 0)); rw [Asm.mp_at hj]; simp [hj])
theorem RI.empty {w : World} {base g : Nat} (h : w.heap[g]? = some (.cells #[] 3 (0, 0))) (hb : base ≤ g) (f : Nat → Int) : RI w base (.slice (some ⟨g, 0, none⟩) 0 0) 0 f :=
  ⟨rfl, Or.inr ⟨g, 0, #[], rfl, hb, h, Nat.le_refl _, Nat.zero_le _, rfl, rfl⟩⟩
theorem RI.next {w : World} {base : Nat} {v : Value} {n : Nat} {f : Nat → Int} (h : w.ownsRow base 3 1 v (n + 1) (((List.range n).map fun j => Value.int .i64 (f j)) ++ [.int .i64 (f n)])) : RI w base v (n + 1) f := by
  have e : ((List.range (n + 1)).map fun j => Value.int .i64 (f j)) = ((List.range n).map fun j => Value.int .i64 (f j)) ++ [.int .i64 (f n)] := by simp [List.range_succ]
  show w.ownsRow _ _ _ _ _ _
  rw [e]
  exact h
theorem intz_row (w : World) (C : Nat) (hC : C ≤ w.heap.size) (z : Int) : (w.alloc (.cells #[.int .i64 z] 3)).ownsRow C 3 1 (.slice (some ⟨w.heap.size, 0, none⟩) 1 1) 1 [.int .i64 z] :=
  World.ownsRow_lit (base := C) (e := 3) (size := 1) w #[.int .i64 z] 1 hC (by decide) (by simp)

theorem code_form {w : World} {v : Value} {n : Nat} (h : CodeArg w v n) : ∃ ao cap, v = .slice ao n cap := by
  rcases h with ⟨a0, cap, rfl, rfl⟩ | ⟨b, o, cap, _, _, _, rfl, _⟩
  · exact ⟨_, _, rfl⟩
  · exact ⟨_, _, rfl⟩

theorem nums_lens' (z : Int) : Lens 1000 ((pNums z).getD []) := by
  unfold pNums
  split
  · exact nums_lens _ (by omega)
  · exact ⟨by simp, fun ns h => absurd h (by simp)⟩
theorem nums_facts {z : Nat} (h : (pNums (z : Int)).isSome = true) : 1 ≤ z ∧ z ≤ 6 ∧ (pNums (z : Int)).getD [] = numsA z := by
  unfold pNums at h ⊢
  split at h
  · rename_i h1
    rw [if_pos h1, Int.toNat_natCast]
    exact ⟨by omega, by omega, rfl⟩
  · cases h
theorem data_pred_is : pData [112, 114, 101, 100] = some Tm.pred.text := rfl
theorem data_i_is : pData [105] = some Tm.I.text := rfl
theorem data_pair_is : pData [112, 97, 105, 114] = some Tm.pairC.text := rfl
theorem data_true_is : pData [116, 114, 117, 101] = some (Tm.text .k) := rfl
theorem data_false_is : pData [102, 97, 108, 115, 101] = some (Tm.text Tm.no) := rfl
end Go.Proofs.YtidpkmkhcomcdaaGreat

namespace Go.Proofs.YtidpkmkhcomcdaaGreat
open Go.RowKit

set_option maxHeartbeats 2000000
set_option maxRecDepth 100000

def Two (w W : World) (B gl gr k m cl cr : Nat) (f g : Nat → Int) : Prop :=
  After w W ∧ w.heap.size ≤ B ∧ B ≤ W.heap.size ∧ gl ≠ gr ∧ RI W B (.slice (some ⟨gl, 0, none⟩) k cl) k f ∧ RI W B (.slice (some ⟨gr, 0, none⟩) m cr) m g

theorem RI.blk {W : World} {B gl k cl : Nat} {f : Nat → Int} (h : RI W B (.slice (some ⟨gl, 0, none⟩) k cl) k f) : B ≤ gl ∧ gl < W.heap.size := by
  have h0 : W.ownsRow B 3 1 (.slice (some ⟨gl, 0, none⟩) k cl) k _ := h
  exact ⟨(h0.lt gl rfl).1, (h0.lt gl rfl).2⟩

theorem Two.pre {W : World} {B gl k cl : Nat} {f : Nat → Int} (h : RI W B (.slice (some ⟨gl, 0, none⟩) k cl) k f) (hB : B ≤ W.heap.size) (z : Int) :
    (W.alloc (.cells #[.int .i64 z] 3)).ownsRow B 3 1 (.slice (some ⟨gl, 0, none⟩) k cl) k ((List.range k).map fun j => .int .i64 (f j)) ∧
    (∀ (j : Nat) (u : Value), ([.int .i64 z] : List Value)[j]? = some u → (W.alloc (.cells #[.int .i64 z] 3)).cell? ((⟨W.heap.size, 0, none⟩ : Addr).add j) = some u) ∧ B ≤ (W.alloc (.cells #[.int .i64 z] 3)).heap.size := by
  have hnw := After.new W (.cells #[.int .i64 z] 3)
  exact ⟨own_later h hnw, (intz_row W W.heap.size (Nat.le_refl _) z).cells (g := W.heap.size) rfl, Nat.le_trans hB hnw.size⟩

theorem Two.left {w W w5 : World} {B gl gr k m cl cr g4 q4 : Nat} {f g : Nat → Int} {z : Int} (h : Two w W B gl gr k m cl cr f g) (hz : z = f k)
    (ho4 : w5.ownsRow B 3 1 (.slice (some ⟨g4, 0, none⟩) (k + 1) q4) (k + 1) (((List.range k).map fun j => Value.int .i64 (f j)) ++ [.int .i64 z]))
    (hg4 : (W.alloc (.cells #[.int .i64 z] 3)).grownBy w5 (Value.slice (some ⟨gl, 0, none⟩) k cl).ownBlock) (hw : (Value.slice (some ⟨gl, 0, none⟩) k cl).ownBlock = some g4 ∨ g4 = (W.alloc (.cells #[.int .i64 z] 3)).heap.size) :
    Two w w5 B g4 gr (k + 1) m q4 cr f g := by
  obtain ⟨hA, hwB, hB, hne, hl, hr⟩ := h
  have hnw := After.new W (.cells #[.int .i64 z] 3)
  have hA1 := After.trans hA hnw
  have hb1 := hl.blk
  have hb2 := hr.blk
  have hs1 := hnw.size
  subst hz
  refine ⟨Below.grown hA1 hg4 hA1.size (fun k hk => ?_), hwB, Nat.le_trans (Nat.le_trans hB hs1) hg4.size, ?_, RI.next ho4, ?_⟩
  · have e : gl = k := by simpa [Value.ownBlock] using hk
    omega
  · rcases hw with e | e
    · have e : gl = g4 := by simpa [Value.ownBlock] using e
      omega
    · omega
  · have h0 : (W.alloc (.cells #[.int .i64 (f k)] 3)).ownsRow B 3 1 (.slice (some ⟨gr, 0, none⟩) m cr) m _ := own_later hr hnw
    exact h0.kept hg4 (Or.inr (by simp [Value.ownBlock]; omega))

theorem Two.right {w W w5 : World} {B gl gr k m cl cr g4 q4 : Nat} {f g : Nat → Int} {z : Int} (h : Two w W B gl gr k m cl cr f g) (hz : z = g m)
    (ho4 : w5.ownsRow B 3 1 (.slice (some ⟨g4, 0, none⟩) (m + 1) q4) (m + 1) (((List.range m).map fun j => Value.int .i64 (g j)) ++ [.int .i64 z]))
    (hg4 : (W.alloc (.cells #[.int .i64 z] 3)).grownBy w5 (Value.slice (some ⟨gr, 0, none⟩) m cr).ownBlock) (hw : (Value.slice (some ⟨gr, 0, none⟩) m cr).ownBlock = some g4 ∨ g4 = (W.alloc (.cells #[.int .i64 z] 3)).heap.size) :
    Two w w5 B gl g4 k (m + 1) cl q4 f g := by
  obtain ⟨hA, hwB, hB, hne, hl, hr⟩ := h
  have h' : Two w W B gr gl m k cr cl g f := ⟨hA, hwB, hB, fun e => hne e.symm, hr, hl⟩
  obtain ⟨a1, a2, a3, a4, a5, a6⟩ := h'.left hz ho4 hg4 hw
  exact ⟨a1, a2, a3, fun e => a4 e.symm, a6, a5⟩

theorem Two.start (w : World) (f g : Nat → Int) : Two w ((w.alloc (.cells #[] 3)).alloc (.cells #[] 3)) w.heap.size w.heap.size (w.heap.size + 1) 0 0 0 0 f g := by
  have hA := (After.new w (.cells #[] 3)).alloc (.cells #[] 3)
  refine ⟨hA, Nat.le_refl _, hA.size, by omega, RI.empty (heap_old2 w _ _) (Nat.le_refl _) f, RI.empty (heap_new2 w w.heap.size _ _ rfl) (by omega) g⟩

theorem Two.later {w W W' : World} {B gl gr k m cl cr : Nat} {f g : Nat → Int} (h : Two w W B gl gr k m cl cr f g) (hA : After W W') : Two w W' B gl gr k m cl cr f g := by
  obtain ⟨a1, a2, a3, a4, a5, a6⟩ := h
  exact ⟨After.trans a1 hA, a2, Nat.le_trans a3 hA.size, a4, a5.later hA, a6.later hA⟩
end Go.Proofs.YtidpkmkhcomcdaaGreat

namespace Go.Proofs.YtidpkmkhcomcdaaGreat
namespace Tm

theorem text_inj {t u : Tm} (ht : t.good = true) (hu : u.good = true) (h : t.text = u.text) : t = u := by
  have h1 := read_of (l := t.text) (t := t) (d := max t.depth u.depth + 1) (i := 0) (r := []) (by simp) ht (by omega) (Or.inl rfl)
  have h2 := read_of (l := t.text) (t := u) (d := max t.depth u.depth + 1) (i := 0) (r := []) (by simp [h]) hu (by omega) (Or.inl rfl)
  rw [h1] at h2
  simp only [Option.some.injEq, Prod.mk.injEq] at h2
  exact h2.1


/-- What is read of the text of a term is that term. -/
theorem parse_of_text {t u : Tm} (hg : t.good = true) (h : parse t.text = some u) : u = t ∧ t.fits = true := by
  obtain ⟨h1, h2, h3⟩ := parse_iff.1 h
  have := text_inj h2 hg h1
  subst this
  exact ⟨rfl, h3⟩

theorem text_app (f a : Tm) : (app f a).text = 40 :: (f.text ++ 32 :: (a.text ++ [41])) := rfl

/-! ### names -/

theorem uses_has (x : List UInt8) : ∀ t : Tm, has x t = false ↔ uses x t = 0
  | nm n => by simp [has, uses]
  | app f a => by simp [has, uses, uses_has x f, uses_has x a]
  | k => by simp [has, uses]
  | s => by simp [has, uses]

theorem put_unused (x : List UInt8) (b : Tm) : ∀ {t : Tm}, uses x t = 0 → put t x b = t
  | nm n, h => by
    simp only [uses] at h
    split at h
    · simp at h
    · rename_i hn; simp [put, hn]
  | app f a, h => by simp only [uses] at h; simp [put, put_unused x b (t := f) (by omega), put_unused x b (t := a) (by omega)]
  | k, _ => rfl
  | s, _ => rfl

/-! ### abstractions applied -/

theorem star_k (m n : Tm) : Star (app (app k m) n) m := Star.one (.k n (.refl m))
theorem star_s (m n p : Tm) : Star (app (app (app s m) n) p) (app (app m p) (app n p)) := Star.one (.s (.refl m) (.refl n) (.refl p))
theorem star_i (a : Tm) : Star (app I a) a := (star_s k k a).trans (star_k a _)

theorem abs_star (x : List UInt8) (a : Tm) : ∀ t : Tm, Star (app (abs x t) a) (put t x a)
  | k => star_k _ _
  | s => star_k _ _
  | nm n => by
    by_cases hn : n = x
    · subst hn; simp only [abs, put, if_true]; exact star_i a
    · simp only [abs, put, hn, if_false]; exact star_k _ _
  | app f g => by
    simp only [abs]
    split
    · rename_i h; rw [put_unused x a h]; exact star_k _ _
    · split
      · rename_i h
        obtain ⟨h1, h2⟩ := h
        cases g with
        | nm n =>
          simp only [isNm, beq_iff_eq] at h1
          subst h1
          simp only [put, if_true, put_unused n a h2]
          exact .refl _
        | k => simp [isNm] at h1
        | s => simp [isNm] at h1
        | app _ _ => simp [isNm] at h1
      · exact (star_s _ _ _).trans ((abs_star x a f).app (abs_star x a g))

theorem pair_star (m n p : Tm) : Star (app (pair m n) p) (app (app p m) n) :=
  (star_s _ _ _).trans (((star_s _ _ _).trans ((star_i p).app (star_k m p))).app (star_k n p))

/-! ### numerals -/

theorem num_inj : ∀ {m n : Nat}, num m = num n → m = n := fun {m n} h => by
  have := congrArg size h
  rw [size_num, size_num] at this
  omega

theorem pair_normal {m n : Tm} (hm : step m = none) (hn : step n = none) : step (pair m n) = none := by
  simp [pair, step, redex, I, hm, hn]

theorem num_normal : ∀ n : Nat, step (num n) = none
  | 0 => by decide +kernel
  | n + 1 => pair_normal (by decide +kernel) (num_normal n)

theorem succ_star (n : Nat) : Star (app succ (num n)) (num (n + 1)) := abs_star [120] (num n) (pair no X)

theorem pred_star (n : Nat) : Star (app pred (num (n + 1))) (num n) := by
  have h := abs_star [120] (num (n + 1)) (app (app (app X .k) I) (app X no))
  have e : put (app (app (app X .k) I) (app X no)) [120] (num (n + 1)) = app (app (app (num (n + 1)) .k) I) (app (num (n + 1)) no) := rfl
  rw [e] at h
  have h1 : Star (app (num (n + 1)) k) no := (pair_star no (num n) k).trans (star_k _ _)
  have h2 : Star (app (num (n + 1)) no) (num n) := (pair_star no (num n) no).trans (((star_k I no).app (.refl _)).trans (star_i _))
  exact h.trans ((((h1.app (.refl I)).trans (star_k I I)).app h2).trans (star_i _))

theorem norm_unique {t u v : Tm} {n : Nat} (h : norm t = some (u, n)) (g : Star t v) (hv : step v = none) : u = v := by
  obtain ⟨h1, h2⟩ := norm_star h
  exact normal_one h1 g h2 hv

end Tm
end Go.Proofs.YtidpkmkhcomcdaaGreat

namespace Go.Proofs.YtidpkmkhcomcdaaGreat
open Go.RowKit

set_option maxHeartbeats 400000
set_option maxRecDepth 100000

def PutPost (w : World) (B : Nat) (u : Tm) (e : Ending) (w' : World) : Prop :=
  ∃ v', e = .returned v' ∧ Below w.heap.size w w' ∧ TV w' B u v'

def PutOk (w : World) (B : Nat) (v : Value) (t : Tm) (name : List UInt8) (b : Tm) (vb : Value) : Prop :=
  ∃ T x f y, v = .iface T x ∧ (∀ W, Below w.heap.size w W → (method 296 T x "loop.example/realizers/impl.put").run Tryz.prog W = .ok (f, y) W) ∧ (∀ args w', (callFunc f args).run Tryz.prog w' = .ok (.enter f args) w') ∧
    ∀ W, Below w.heap.size w W → Calls Tryz.prog f #[y, str name, vb] W (PutPost W B (t.put name b))

theorem put_size (t b : Tm) (n : List UInt8) : (t.put n b).size ≤ t.size * (b.size + 1) := by
  have h1 := Tm.size_put n b t
  have h2 := Tm.uses_le n t
  have h3 := Nat.mul_le_mul_right b.size h2
  rw [Nat.mul_add, Nat.mul_one]
  omega

end Go.Proofs.YtidpkmkhcomcdaaGreat

namespace Go.Proofs.YtidpkmkhcomcdaaGreat
open Go.RowKit

set_option maxHeartbeats 400000
set_option maxRecDepth 100000

end Go.Proofs.YtidpkmkhcomcdaaGreat

namespace Go.Proofs.YtidpkmkhcomcdaaGreat
open Go.RowKit

set_option maxHeartbeats 4000000
set_option maxRecDepth 100000

def SDataPost (w : World) (r : Option Tm) (e : Ending) (w' : World) : Prop :=
  ∃ s ao n c, e = .returned (.tuple #[.agg #[str s, .slice ao n c], .bool r.isSome]) ∧ After w w' ∧ ∀ t, r = some t → ST w' t (.agg #[str s, .slice ao n c])

end Go.Proofs.YtidpkmkhcomcdaaGreat

namespace Go.Proofs.YtidpkmkhcomcdaaGreat
open Go.RowKit

set_option maxHeartbeats 1000000
set_option maxRecDepth 100000

theorem CodeArg.form {w : World} {v : Value} {n : Nat} (h : CodeArg w v n) : ∃ a0 cap, v = .slice a0 n cap := by
  rcases h with ⟨a0, cap, rfl, rfl⟩ | ⟨b, o, cap, _, _, _, rfl, _⟩
  · exact ⟨_, _, rfl⟩
  · exact ⟨_, _, rfl⟩

/-- Some text, as a list of bytes. -/
def TextPost (w : World) (e : Ending) (w' : World) : Prop := ∃ l : List UInt8, e = .returned (str l) ∧ l.length ≤ 100000 ∧ After w w'

theorem DrawPost.text {w w' : World} {e : Ending} (h : DrawPost w e w') : TextPost w e w' := by
  obtain ⟨s, rfl, hs, ha⟩ := h
  refine ⟨s.data.toList, congrArg Ending.returned (congrArg Value.string ?_), ?_, ha⟩
  · exact ByteArray.ext (by simp)
  · have : s.size = s.data.toList.length := by show s.data.size = _; simp
    omega

theorem parse_text_iff {l : List UInt8} {t : Tm} (h : Tm.parse l = some t) : l = t.text ∧ t.good = true ∧ t.fits = true := by
  obtain ⟨h1, h2, h3⟩ := Tm.parse_iff.1 h
  first | exact ⟨h1, h2, h3⟩ | exact ⟨h1.symm, h2, h3⟩

theorem size_outer {l : List UInt8} {t : Tm} (h : Tm.parse l = some t) (hb : (Tm.parse (40 :: (l ++ [32, 107, 41]))).isSome = true) : Tm.pSize (40 :: (l ++ [32, 107, 41])) = Tm.pSize l + 1 := by
  obtain ⟨rfl, hg, hf⟩ := parse_text_iff h
  have e : 40 :: (t.text ++ [32, 107, 41]) = (Tm.app t .k).text := by simp [Tm.text]
  rw [e] at hb ⊢
  obtain ⟨u, hu⟩ := Option.isSome_iff_exists.1 hb
  obtain ⟨rfl, _⟩ := Tm.parse_of_text (t := Tm.app t .k) (by simp [Tm.good, hg]) hu
  unfold Tm.pSize
  rw [hu, h]
  simp [Tm.size]

theorem size_range {l : List UInt8} {t : Tm} (h : Tm.parse l = some t) : (1 : Int) ≤ Tm.pSize l ∧ Tm.pSize l ≤ 3000 := by
  obtain ⟨rfl, hg, hf⟩ := parse_text_iff h
  have h1 := Tm.size_pos t
  have h2 := fits_size hf
  unfold Tm.pSize
  rw [h]
  simp only
  omega

end Go.Proofs.YtidpkmkhcomcdaaGreat

namespace Go.Proofs.YtidpkmkhcomcdaaGreat
open Go.RowKit

set_option maxHeartbeats 1000000
set_option maxRecDepth 100000

namespace Tm
theorem star_has {t u : Tm} (h : Star t u) (n : List UInt8) : has n u = true → has n t = true := by
  induction h with
  | refl => exact id
  | tail _ p ih => exact fun hu => ih (par_has p n hu)

theorem names_nil {t : Tm} : names [] t = [] ↔ ∀ n, has n t = false := by
  rw [List.eq_nil_iff_forall_not_mem]
  constructor
  · intro h n
    have := h n
    rw [mem_names] at this
    simpa using this
  · intro h n
    rw [mem_names]
    simp [h n]

theorem closed_text {t : Tm} (hg : t.good = true) (hf : t.fits = true) (h : ∀ n, has n t = false) : pClosed t.text = true := by
  unfold pClosed
  rw [parse_text hg hf]
  simp [names_nil.2 h]

theorem closed_factsP {l : List UInt8} (h : pClosed l = true) : pPut l [120] [107] = some l ∧ ∀ y n, pNorm l = some (y, n) → pClosed y = true ∧ y.length ≤ 21000 := by
  unfold pClosed at h
  cases hp : parse l with
  | none => rw [hp] at h; simp at h
  | some t =>
    rw [hp] at h
    obtain ⟨rfl, hg, hf⟩ := parse_text_iff hp
    have h0 : names [] t = [] := by simpa using h
    have hn := names_nil.1 h0
    refine ⟨?_, fun y n hy => ?_⟩
    · unfold pPut
      rw [hp, show parse [107] = some k from parse_text (t := k) rfl rfl]
      simp only
      rw [put_none _ _ _ (hn _), hf, if_pos (by decide +kernel)]
    · unfold pNorm at hy
      rw [hp] at hy
      simp only [Option.map_eq_some_iff] at hy
      obtain ⟨⟨u, m⟩, hu, he⟩ := hy
      simp only [Prod.mk.injEq] at he
      obtain ⟨rfl, rfl⟩ := he
      obtain ⟨g1, g2⟩ := norm_good hu hg hf
      refine ⟨closed_text g1 g2 fun n => ?_, (parse_facts (parse_text g1 g2)).2.2.2.2⟩
      cases hc : has n u with
      | false => rfl
      | true => have := star_has (norm_star hu).1 n hc; rw [hn n] at this; cases this

theorem pNorm_normal {t : Tm} (hg : t.good = true) (hf : t.fits = true) (h : step t = none) : (pNorm t.text).isSome = true := by
  unfold pNorm
  rw [parse_text hg hf]
  simp [norm_of_normal h]

theorem data_facts {l : List UInt8} {t : Tm} (h : data l = some t) : pClosed t.text = true ∧ ((l == [102, 105, 120]) = true ∨ ((l == [102, 105, 120]) = false ∧ (pNorm t.text).isSome = true)) := by
  obtain ⟨hg, hz⟩ := data_good h
  have hd := depth_lt t
  have hf : t.fits = true := by simp [fits]; omega
  refine ⟨?_, ?_⟩
  · unfold pClosed
    rw [parse_text hg hf]
    unfold data at h
    repeat' split at h
    all_goals first | (obtain rfl := Option.some.inj h; decide +kernel) | cases h
  · by_cases hl : l = [102, 105, 120]
    · left; simp [hl]
    · right
      refine ⟨by simp [hl], pNorm_normal hg hf ?_⟩
      unfold data at h
      repeat' split at h
      all_goals first | contradiction | (obtain rfl := Option.some.inj h; decide +kernel) | cases h
end Tm

end Go.Proofs.YtidpkmkhcomcdaaGreat

namespace Go.Proofs.YtidpkmkhcomcdaaGreat
namespace Tm

/-- What the text of a good term comes to. -/
theorem pNorm_text {T : Tm} {x : List UInt8} {j : Nat} (hg : T.good = true) (h : pNorm T.text = some (x, j)) : ∃ u, x = u.text ∧ Star T u ∧ step u = none ∧ u.good = true ∧ u.fits = true := by
  unfold pNorm at h
  cases hp : parse T.text with
  | none => rw [hp] at h; cases h
  | some T' =>
    rw [hp] at h
    obtain ⟨rfl, hf⟩ := parse_of_text hg hp
    simp only [Option.map_eq_some_iff] at h
    obtain ⟨⟨u, i⟩, hu, he⟩ := h
    simp only [Prod.mk.injEq] at he
    obtain ⟨rfl, rfl⟩ := he
    obtain ⟨h1, h2⟩ := norm_star hu
    obtain ⟨g1, g2⟩ := norm_good hu hg hf
    exact ⟨u, rfl, h1, h2, g1, g2⟩

/-- Two terms that have one term behind them come to the same. -/
theorem same_end {T U V : Tm} {x y : List UInt8} {i j : Nat} (hT : T.good = true) (hU : U.good = true) (h1 : Star T V) (h2 : Star U V) (hx : pNorm T.text = some (x, i)) (hy : pNorm U.text = some (y, j)) : x = y := by
  obtain ⟨a, rfl, sa, na, _, _⟩ := pNorm_text hT hx
  obtain ⟨b, rfl, sb, nb, _, _⟩ := pNorm_text hU hy
  rw [normal_one (normal_behind sa h1 na) (normal_behind sb h2 nb) na nb]

theorem parse_text_eq {T : Tm} (hg : T.good = true) : parse T.text = if T.fits = true then some T else none := by
  by_cases hf : T.fits = true
  · rw [if_pos hf]; exact parse_text hg hf
  · rw [if_neg hf]
    cases hp : parse T.text with
    | none => rfl
    | some u => exact (hf (parse_of_text hg hp).2).elim

theorem pApply_norm {l m : List UInt8} {t u : Tm} (h1 : parse l = some t) (h2 : parse m = some u) : pApply l m = (pNorm (app t u).text).map Prod.fst := by
  obtain ⟨_, g1, _⟩ := parse_text_iff h1
  obtain ⟨_, g2, _⟩ := parse_text_iff h2
  unfold pApply pNorm
  rw [h1, h2, parse_text_eq (T := app t u) (by simp [good, g1, g2])]
  simp only
  by_cases hf : (app t u).fits = true
  · simp only [hf, if_true, Option.map_map]; rfl
  · simp [hf]

theorem pApply_some {l m x : List UInt8} (h : pApply l m = some x) : ∃ t u i, parse l = some t ∧ parse m = some u ∧ l = t.text ∧ m = u.text ∧ t.good = true ∧ u.good = true ∧ pNorm (app t u).text = some (x, i) := by
  cases h1 : parse l with
  | none => simp [pApply, h1] at h
  | some t =>
    cases h2 : parse m with
    | none => simp [pApply, h1, h2] at h
    | some u =>
      rw [pApply_norm h1 h2, Option.map_eq_some_iff] at h
      obtain ⟨⟨y, i⟩, hy, rfl⟩ := h
      exact ⟨t, u, i, rfl, rfl, (parse_text_iff h1).1, (parse_text_iff h2).1, (parse_text_iff h1).2.1, (parse_text_iff h2).2.1, hy⟩

theorem pNorm_parse {l x : List UInt8} {i : Nat} (h : pNorm l = some (x, i)) : ∃ t, parse l = some t ∧ l = t.text ∧ t.good = true := by
  cases hp : parse l with
  | none => simp [pNorm, hp] at h
  | some t => exact ⟨t, rfl, (parse_text_iff hp).1, (parse_text_iff hp).2.1⟩

theorem pNorm_fit {T : Tm} {x : List UInt8} {i : Nat} (hg : T.good = true) (h : pNorm T.text = some (x, i)) : T.fits = true := by
  obtain ⟨t, ht, _, _⟩ := pNorm_parse h
  exact (parse_of_text hg ht).2

/-! ### normal terms, steps -/

theorem normal_facts {l : List UInt8} (h : pNormal l = true) : pStep l = none ∧ pNorm l = some (l, 0) := by
  unfold pNormal at h
  cases hp : parse l with
  | none => rw [hp] at h; cases h
  | some t =>
    rw [hp] at h
    have hn : step t = none := by simpa using h
    obtain ⟨rfl, hg, hf⟩ := parse_text_iff hp
    unfold pStep pNorm
    rw [hp]
    exact ⟨by simp [stepFit, hn], by simp [norm_of_normal hn]⟩

theorem normal_text {u : Tm} (hg : u.good = true) (hf : u.fits = true) (hs : step u = none) : pNormal u.text = true := by
  unfold pNormal
  rw [parse_text hg hf]
  simp [hs]

theorem normof_facts {l x : List UInt8} {m : Nat} (h : pNorm l = some (x, m)) : pMany l (m : Int) = some (x, m) ∧ pNormal x = true ∧ m ≤ 6000 ∧ x.length ≤ 21000 := by
  unfold pNorm at h
  cases hp : parse l with
  | none => rw [hp] at h; cases h
  | some t =>
    rw [hp] at h
    obtain ⟨rfl, hg, hf⟩ := parse_text_iff hp
    simp only [Option.map_eq_some_iff] at h
    obtain ⟨⟨u, i⟩, hu, he⟩ := h
    simp only [Prod.mk.injEq] at he
    obtain ⟨rfl, rfl⟩ := he
    obtain ⟨g1, g2⟩ := norm_good hu hg hf
    have hs := (norm_star hu).2
    have hm : many 6000 t = (u, i) := by
      unfold norm at hu
      split at hu
      · exact Option.some.inj hu
      · cases hu
    have hle := many_le 6000 t
    rw [hm] at hle
    have hag := many_again 6000 t
    rw [hm] at hag
    simp only at hle hag
    refine ⟨?_, normal_text g1 g2 hs, hle, (parse_facts (parse_text g1 g2)).2.2.2.2⟩
    unfold pMany
    rw [hp]
    simp only
    rw [if_pos ⟨by omega, by omega⟩, Int.toNat_natCast, hag]

theorem many_facts {l x : List UInt8} {n : Int} {g : Nat} (h : pMany l n = some (x, g)) (hn : n ≤ 100) :
    0 ≤ n ∧ (g : Int) ≤ n ∧ x.length ≤ 21000 ∧ ((pStep x = none ∧ pMany l (n + 1) = some (x, g)) ∨ ∃ z, pStep x = some z ∧ (g : Int) = n ∧ pMany l (n + 1) = some (z, g + 1)) := by
  unfold pMany at h
  cases hp : parse l with
  | none => rw [hp] at h; cases h
  | some t =>
    rw [hp] at h
    obtain ⟨rfl, hg, hf⟩ := parse_text_iff hp
    simp only at h
    split at h
    · rename_i hr
      obtain ⟨k, rfl⟩ := Int.eq_ofNat_of_zero_le hr.1
      simp only [Option.some.injEq, Prod.mk.injEq] at h
      obtain ⟨rfl, rfl⟩ := h
      obtain ⟨g1, g2⟩ := many_good k t hg hf
      have hle := many_le k t
      have hnx := many_next k t
      have hsh := many_short k t
      have hm1 : pMany t.text ((k : Int) + 1) = some ((many (k + 1) t).1.text, (many (k + 1) t).2) := by
        unfold pMany
        rw [hp]
        simp only
        rw [if_pos ⟨by omega, by omega⟩, show ((k : Int) + 1).toNat = k + 1 by omega]
      have hst : pStep (many k t).1.text = (stepFit (many k t).1).map text := by
        unfold pStep
        rw [parse_text g1 g2]
      simp only [Int.toNat_natCast]
      refine ⟨hr.1, by omega, (parse_facts (parse_text g1 g2)).2.2.2.2, ?_⟩
      rw [hm1, hst]
      cases hs : stepFit (many k t).1 with
      | none =>
        left
        rw [hs] at hnx
        have e : many (k + 1) t = many k t := by rw [hnx]; split <;> rfl
        rw [e]
        exact ⟨rfl, rfl⟩
      | some u =>
        right
        have hge : ¬ (many k t).2 < k := fun c => by rw [hsh c] at hs; cases hs
        rw [hs, if_neg hge] at hnx
        refine ⟨u.text, rfl, by omega, ?_⟩
        rw [hnx]
        have : k = (many k t).2 := by omega
        rw [← this]
    · cases h

/-! ### equality, application -/

theorem equal_facts {l m : List UInt8} (h : pEqual l m = true) : pEqual m l = true ∧ ∀ x y, pApply l [107] = some x → pApply m [107] = some y → x = y := by
  unfold pEqual at h
  cases hp : pNorm l with
  | none => rw [hp] at h; cases h
  | some p =>
    cases hq : pNorm m with
    | none => rw [hp, hq] at h; cases h
    | some q =>
      obtain ⟨a, i⟩ := p
      obtain ⟨b, j⟩ := q
      rw [hp, hq] at h
      have hab : a = b := by simpa using h
      subst hab
      refine ⟨?_, fun x y hx hy => ?_⟩
      · unfold pEqual
        rw [hp, hq]
        simp
      · obtain ⟨t, k1, i1, e1, k2, rfl, k3, gt, gk, n1⟩ := pApply_some hx
        obtain ⟨u, k1', i1', e1', k2', rfl, k3', gu, gk', n1'⟩ := pApply_some hy
        have hk : k1 = k := by have := parse_text (t := k) rfl rfl; rw [show text k = [107] from rfl] at this; rw [this] at k2; exact (Option.some.inj k2).symm
        have hk' : k1' = k := by have := parse_text (t := k) rfl rfl; rw [show text k = [107] from rfl] at this; rw [this] at k2'; exact (Option.some.inj k2').symm
        subst hk
        subst hk'
        obtain ⟨c, hc, sc, _, gc, _⟩ := pNorm_text gt hp
        obtain ⟨d, hd, sd, _, gd, _⟩ := pNorm_text gu hq
        have hcd : c = d := text_inj gc gd (hc.symm.trans hd)
        subst hcd
        exact same_end (V := app c k) (by simp [good, gt]) (by simp [good, gu]) (sc.app (.refl k)) (sd.app (.refl k)) n1 n1'

def kLM (l m : List UInt8) : List UInt8 := 40 :: ((40 :: ([107] ++ 32 :: (l ++ [41]))) ++ 32 :: (m ++ [41]))
def sLMW (l m : List UInt8) : List UInt8 := 40 :: ((40 :: ((40 :: ([115] ++ 32 :: (l ++ [41]))) ++ 32 :: (m ++ [41]))) ++ 32 :: ([119] ++ [41]))
def lWmW (l m : List UInt8) : List UInt8 := 40 :: ((40 :: (l ++ 32 :: ([119] ++ [41]))) ++ 32 :: ((40 :: (m ++ 32 :: ([119] ++ [41]))) ++ [41]))

theorem apply_facts {l m x : List UInt8} (h : pApply l m = some x) : pNormal x = true ∧ x.length ≤ 21000 ∧ (∀ a i b j, pNorm l = some (a, i) → pNorm (kLM l m) = some (b, j) → b = a) ∧
    ∀ a i b j, pNorm (sLMW l m) = some (a, i) → pNorm (lWmW l m) = some (b, j) → a = b := by
  obtain ⟨t, u, i, h1, h2, rfl, rfl, gt, gu, hn⟩ := pApply_some h
  have ga : (app t u).good = true := by simp [good, gt, gu]
  obtain ⟨v, rfl, sv, nv, gv, fv⟩ := pNorm_text ga hn
  refine ⟨normal_text gv fv nv, (parse_facts (parse_text gv fv)).2.2.2.2, fun a i b j ha hb => ?_, fun a i b j ha hb => ?_⟩
  · have hb' : pNorm (app (app k t) u).text = some (b, j) := hb
    exact same_end (V := t) (by simp [good, gt, gu]) gt (star_k t u) (.refl t) hb' ha
  · have gw : (nm [119]).good = true := by decide +kernel
    have ha' : pNorm (app (app (app s t) u) (nm [119])).text = some (a, i) := ha
    have hb' : pNorm (app (app t (nm [119])) (app u (nm [119]))).text = some (b, j) := hb
    exact same_end (V := app (app t (nm [119])) (app u (nm [119]))) (by simp [good, gt, gu] at gw ⊢; exact gw) (by simp [good, gt, gu] at gw ⊢; exact gw) (star_s t u _) (.refl _) ha' hb'
end Tm

theorem some_pair {α β : Type} {o : Option (α × β)} {x : α} {y : β} (h : o.isSome = true) : o = some ((o.map Prod.fst).getD x, (o.map Prod.snd).getD y) := by
  cases o with
  | none => cases h
  | some p => rfl
end Go.Proofs.YtidpkmkhcomcdaaGreat
