/-
  The drawing of inputs: a reader of codes (l6Rd): pick answers a number in its range, whatever the code.
-/
import Derived.Test.YtjomocjlnjgkeaaPkAF
import Derived.Test.YtjomocjlnjgkeaaPkAH
import Derived.Test.YtjomocjlnjgkeaaPkAM
namespace Go.Proofs.Ytjomocjlnjgkeaa
open Go.RowKit

set_option maxHeartbeats 1000000
set_option maxRecDepth 100000

/-- The reader of a code lies in block rb. -/
def DR (w : World) (rb : Nat) (v : Value) (p : Nat) : Prop := w.heap[rb]? = some (.cells #[v, .int .i64 p] 108 (0, 0))

/-- The bytes of a code can be read. -/
def CodeOk (w : World) (rb : Nat) (v : Value) : Prop :=
  (∃ a0 cap, v = .slice a0 0 cap) ∨ ∃ b o n cap, 0 < n ∧ n ≤ 2000 ∧ v = .slice (some ⟨b, o, none⟩) n cap ∧ b ≠ rb ∧
    ∃ z : Nat → Nat, ∀ i, i < n → w.cell? ⟨b, o + i, none⟩ = some (.int .u8 (z i)) ∧ z i ≤ 255

def Dr (w : World) (rb p : Nat) : Prop := ∃ v, DR w rb v p ∧ CodeOk w rb v

def PickPost (w : World) (rb p m : Nat) (e : Ending) (w' : World) : Prop :=
  ∃ k : Nat, k < m ∧ e = .returned (.int .i64 k) ∧ w.grownBy w' (some rb) ∧ Dr w' rb (p + 1)

theorem DR.set {w : World} {rb p : Nat} {v : Value} (h : DR w rb v p) (q : Nat) : DR (w.setCell ⟨rb, 1, none⟩ (.int .i64 q)) rb v q := by
  unfold DR at *
  simp [World.setCell, Array.getElem?_modify, h]

theorem grown_set1 (w : World) (b i : Nat) (v : Value) : w.grownBy (w.setCell ⟨b, i, none⟩ v) (some b) := by
  refine ⟨rfl, rfl, rfl, by simp [World.setCell], fun k hk hne => ?_⟩
  have : b ≠ k := fun e => hne (e ▸ rfl)
  simp [World.setCell, Array.getElem?_modify, this]

theorem pick_none (w : World) (rb p : Nat) (a0 : Option Addr) (cap m : Nat) (h : DR w rb (.slice a0 0 cap) p) (hp : p ≤ 1000000) (hm : 1 ≤ m) :
    Calls Try.prog 37 #[.pointer (some ⟨rb, 0, none⟩), .int .i64 m] w (PickPost w rb p m) := by
  have c0 : w.cell? ⟨rb, 0, none⟩ = some (.slice a0 0 cap) := cell_of_heap h
  have c1 : w.cell? ⟨rb, 1, none⟩ = some (.int .i64 (p : Nat)) := cell_of_heap h
  have f1 : w.frozen? ⟨rb, 1, none⟩ = false := by unfold DR at h; simp [World.frozen?, h]
  have H := Lib.hid h
  clear h
  go_enter Try.func37, Try.ntmps37
  go_wp2_with fail
  go_ret
  exact ⟨0, by omega, rfl, grown_set1 _ _ _ _, _, H.out.set (p + 1), Or.inl ⟨_, _, rfl⟩⟩
theorem cell_set_other {w : World} {rb b i : Nat} (hne : b ≠ rb) (v : Value) : (w.setCell ⟨rb, 1, none⟩ v).cell? ⟨b, i, none⟩ = w.cell? ⟨b, i, none⟩ := by
  have : ¬ rb = b := fun e => hne e.symm
  simp [World.setCell, World.cell?, Array.getElem?_modify, this]

theorem pick_in (w : World) (rb p : Nat) (b o n cap m : Nat) (z : Nat → Nat) (h : DR w rb (.slice (some ⟨b, o, none⟩) n cap) p) (hn : n ≤ 2000) (hne : b ≠ rb) (hz : ∀ i, i < n → w.cell? ⟨b, o + i, none⟩ = some (.int .u8 (z i)) ∧ z i ≤ 255) (hp : p < n) (hm : 1 ≤ m) (hm2 : m ≤ 1000) :
    Calls Try.prog 37 #[.pointer (some ⟨rb, 0, none⟩), .int .i64 m] w (PickPost w rb p m) := by
  have c0 : w.cell? ⟨rb, 0, none⟩ = some (.slice (some ⟨b, o, none⟩) n cap) := cell_of_heap h
  have c1 : w.cell? ⟨rb, 1, none⟩ = some (.int .i64 (p : Nat)) := cell_of_heap h
  have f1 : w.frozen? ⟨rb, 1, none⟩ = false := by unfold DR at h; simp [World.frozen?, h]
  have H := Lib.hid h
  obtain ⟨hz1, hz2⟩ := hz p hp
  have hz3 := fun v => (cell_set_other (w := w) (i := o + p) hne v).trans hz1
  have HZ := Lib.hid hz
  have hp' : (p : Int) < (n : Int) := by omega
  have hm' : (1 : Int) ≤ (m : Int) := by omega
  have hn' : ((n : Int) == 0) = false := by rw [beq_eq_false_iff_ne]; omega
  clear h hz
  go_enter Try.func37, Try.ntmps37
  go_wp2_with fail
  go_ret
  refine ⟨z p % m, Nat.mod_lt _ (by omega), ?_, grown_set1 _ _ _ _, _, H.out.set (p + 1), Or.inr ⟨b, o, n, cap, by omega, hn, rfl, hne, z, fun i hi => ?_⟩⟩
  · show Ending.returned (.int .i64 _) = _; rfl
  · rw [cell_set_other hne]; exact HZ.out i hi

theorem wrap64_small (x : Int) (h0 : 0 ≤ x) (h1 : x < 9223372036854775808) : wrap64 x = x := by unfold wrap64; omega

theorem bits_xor_i64_nat (a b : Nat) (ha : a < 4611686018427387904) (hb : b < 4611686018427387904) : bits .xor .i64 (a : Int) (b : Int) = ((a ^^^ b : Nat) : Int) := by
  have hx : a ^^^ b < 2 ^ 62 := Nat.xor_lt_two_pow (by omega) (by omega)
  have h1 : (BitVec.ofInt 64 (a : Int)).toNat = a := by
    rw [BitVec.ofInt_natCast, BitVec.toNat_ofNat]; exact Nat.mod_eq_of_lt (by omega)
  have h2 : (BitVec.ofInt 64 (b : Int)).toNat = b := by
    rw [BitVec.ofInt_natCast, BitVec.toNat_ofNat]; exact Nat.mod_eq_of_lt (by omega)
  show IntKind.i64.wrap ((BitVec.ofInt 64 (a : Int) ^^^ BitVec.ofInt 64 (b : Int)).toNat : Int) = _
  rw [BitVec.toNat_xor, h1, h2, IntWalk.i64_in _ (by omega)]

theorem rem_xor (x y : Int) (m : Nat) (hx : 0 ≤ x) (hx2 : x < 1099511627776) (hy : 0 ≤ y) (hy2 : y < 1099511627776) (hm : 1 ≤ m) : ∃ k : Nat, k < m ∧ (bits .xor .i64 x y).tmod (m : Int) = (k : Int) := by
  obtain ⟨a, rfl⟩ := Int.eq_ofNat_of_zero_le hx
  obtain ⟨b, rfl⟩ := Int.eq_ofNat_of_zero_le hy
  rw [bits_xor_i64_nat a b (by omega) (by omega)]
  exact ⟨(a ^^^ b) % m, Nat.mod_lt _ (by omega), rfl⟩

theorem mix_range (p n m y z : Nat) (hp : p ≤ 1000000) (hy : y ≤ 255) (hz : z ≤ 255) (hm : 1 ≤ m) : ∃ k : Nat, k < m ∧
    (bits .xor .i64 (wrap64 ((y : Int) * 131 + (z : Int) * 1117 + (p : Int) * 29 + wrap64 (wrap64 ((p : Int) / (n : Int)) * 53)))
      (wrap64 ((wrap64 ((y : Int) * 131 + (z : Int) * 1117 + (p : Int) * 29 + wrap64 (wrap64 ((p : Int) / (n : Int)) * 53))).tdiv 64))).tmod (m : Int) = (k : Int) := by
  have d0 : (p : Int) / (n : Int) = ((p / n : Nat) : Int) := by simp
  have d1 : p / n ≤ p := Nat.div_le_self _ _
  rw [d0]
  generalize p / n = q at d1
  clear d0
  rw [wrap64_small (q : Int) (by omega) (by omega), wrap64_small ((q : Int) * 53) (by omega) (by omega)]
  rw [wrap64_small ((y : Int) * 131 + (z : Int) * 1117 + (p : Int) * 29 + (q : Int) * 53) (by omega) (by omega)]
  generalize hX : (y : Int) * 131 + (z : Int) * 1117 + (p : Int) * 29 + (q : Int) * 53 = X
  have h0 : 0 ≤ X := by omega
  have h1 : X < 1000000000 := by omega
  have e : X.tdiv 64 = X / 64 := Int.tdiv_eq_ediv_of_nonneg h0
  rw [e, wrap64_small (X / 64) (by omega) (by omega)]
  exact rem_xor _ _ m h0 (by omega) (by omega) (by omega) hm

theorem pick_past (w : World) (rb p : Nat) (b o n cap m : Nat) (z : Nat → Nat) (h : DR w rb (.slice (some ⟨b, o, none⟩) n cap) p) (hn : n ≤ 2000) (hne : b ≠ rb) (hz : ∀ i, i < n → w.cell? ⟨b, o + i, none⟩ = some (.int .u8 (z i)) ∧ z i ≤ 255) (hp : n ≤ p) (hp2 : p ≤ 1000000) (hn0 : 0 < n) (hm : 1 ≤ m) (hm2 : m ≤ 1000) :
    Calls Try.prog 37 #[.pointer (some ⟨rb, 0, none⟩), .int .i64 m] w (PickPost w rb p m) := by
  have c0 : w.cell? ⟨rb, 0, none⟩ = some (.slice (some ⟨b, o, none⟩) n cap) := cell_of_heap h
  have c1 : w.cell? ⟨rb, 1, none⟩ = some (.int .i64 (p : Nat)) := cell_of_heap h
  have f1 : w.frozen? ⟨rb, 1, none⟩ = false := by unfold DR at h; simp [World.frozen?, h]
  have H := Lib.hid h
  have l1 : p % n < n := Nat.mod_lt _ hn0
  have l2 : (p * 7 + 3) % n < n := Nat.mod_lt _ hn0
  obtain ⟨hz1, hz2⟩ := hz _ l1
  obtain ⟨hy1, hy2⟩ := hz _ l2
  have hz3 := fun v => (cell_set_other (w := w) (i := o + p % n) hne v).trans hz1
  have hy3 := fun v => (cell_set_other (w := w) (i := o + (p * 7 + 3) % n) hne v).trans hy1
  obtain ⟨k, hk, he⟩ := mix_range p n m (z (p % n)) (z ((p * 7 + 3) % n)) hp2 hz2 hy2 hm
  have HE := Lib.hid he
  clear he
  have HZ := Lib.hid hz
  have hp' : ¬ (p : Int) < (n : Int) := by omega
  have hm' : (1 : Int) ≤ (m : Int) := by omega
  have hn' : ((n : Int) == 0) = false := by rw [beq_eq_false_iff_ne]; omega
  have hn1 : ¬ n = 0 := by omega
  have hn2 : (0 : Int) < (n : Int) := by omega
  have q0 : 0 ≤ (p : Int) % (n : Int) := Int.emod_nonneg _ (by omega)
  have q1 : (p : Int) % (n : Int) < (n : Int) := Int.emod_lt_of_pos _ hn2
  have q2 : ((p : Int) % (n : Int)).toNat = p % n := by rw [← Int.natCast_emod]; rfl
  have r0 : 0 ≤ ((p : Int) * 7 + 3) % (n : Int) := Int.emod_nonneg _ (by omega)
  have r1 : ((p : Int) * 7 + 3) % (n : Int) < (n : Int) := Int.emod_lt_of_pos _ hn2
  have r2 : (((p : Int) * 7 + 3) % (n : Int)).toNat = (p * 7 + 3) % n := by
    rw [show ((p : Int) * 7 + 3) = ((p * 7 + 3 : Nat) : Int) by omega, ← Int.natCast_emod]; rfl
  have ht2 : ((p : Int) * 7 + 3).tmod (n : Int) = ((p : Int) * 7 + 3) % (n : Int) := Int.tmod_eq_emod_of_nonneg (by omega)
  clear h hz
  go_enter Try.func37, Try.ntmps37
  go_wp2_with fail
  go_quiet (fail)
  go_wp2_with fail
  go_ret
  refine ⟨k, hk, ?_, grown_trans (grown_set1 _ _ _ _) (grown_drawn _ rb _), _, H.out.set (p + 1), Or.inr ⟨b, o, n, cap, by omega, hn, rfl, hne, z, fun i hi => ?_⟩⟩
  · exact congrArg (fun x => Ending.returned (.int .i64 x)) HE.out
  · exact (cell_set_other hne _).trans (HZ.out i hi).1 |> fun h => ⟨h, (HZ.out i hi).2⟩

theorem pick_any (w : World) (rb p m : Nat) (h : Dr w rb p) (hp : p ≤ 1000000) (hm : 1 ≤ m) (hm2 : m ≤ 1000) :
    Calls Try.prog 37 #[.pointer (some ⟨rb, 0, none⟩), .int .i64 m] w (PickPost w rb p m) := by
  obtain ⟨v, h, hc⟩ := h
  rcases hc with ⟨a0, cap, rfl⟩ | ⟨b, o, n, cap, hn0, hn, rfl, hne, z, hz⟩
  · exact pick_none w rb p a0 cap m h hp hm
  · by_cases hlt : p < n
    · exact pick_in w rb p b o n cap m z h hn hne hz hlt hm hm2
    · exact pick_past w rb p b o n cap m z h hn hne hz (by omega) hp hn0 hm hm2
end Go.Proofs.Ytjomocjlnjgkeaa

namespace Go.Proofs.Ytjomocjlnjgkeaa
open Go.RowKit

set_option maxHeartbeats 1000000
set_option maxRecDepth 100000

theorem Dr.lt {w : World} {rb p : Nat} (h : Dr w rb p) : rb < w.heap.size := by obtain ⟨v, h, _⟩ := h; exact (Array.getElem?_eq_some_iff.1 h).1

theorem CodeOk.after {w W : World} {rb : Nat} {v : Value} (h : CodeOk w rb v) (hw : Below w.heap.size w W) : CodeOk W rb v := by
  rcases h with h | ⟨b, o, n, cap, hn0, hn, rfl, hne, z, hz⟩
  · exact Or.inl h
  · exact Or.inr ⟨b, o, n, cap, hn0, hn, rfl, hne, z, fun i hi => ⟨cell_later' (hz i hi).1 W hw, (hz i hi).2⟩⟩

theorem Dr.after {w W : World} {rb p : Nat} (h : Dr w rb p) (hw : Below w.heap.size w W) : Dr W rb p := by
  obtain ⟨v, h, hc⟩ := h
  exact ⟨v, heap_later h hw, hc.after hw⟩

def OfPost (w : World) (rb p : Nat) (L : List (List UInt8)) (e : Ending) (w' : World) : Prop :=
  ∃ s, s ∈ L ∧ e = .returned (str s) ∧ w.grownBy w' (some rb) ∧ Dr w' rb (p + 1)

theorem grown_cell {w w' : World} {g rb i : Nat} {v : Value} (h : w.cell? ⟨g, i, none⟩ = some v) (hne : g ≠ rb) (hg : w.grownBy w' (some rb)) : w'.cell? ⟨g, i, none⟩ = some v := by
  have hb := hg.block g (World.block_lt_of_cell? _ _ h) (fun e => by injection e with e; exact hne e)
  simp only [World.cell?] at *
  rw [hb]
  exact h

theorem of_any (w : World) (rb p g : Nat) (fr : Nat × Nat) (L : List (List UInt8)) (hL : w.heap[g]? = some (.cells (L.map str).toArray 9 fr)) (h0 : 0 < L.length) (h1 : L.length ≤ 1000) (hne : g ≠ rb) (h : Dr w rb p) (hp : p ≤ 1000000) :
    Calls Try.prog 45 #[.pointer (some ⟨rb, 0, none⟩), .slice (some ⟨g, 0, none⟩) L.length L.length] w (OfPost w rb p L) := by
  have hpick := pick_any w rb p L.length h hp (by omega) h1
  have hcell : ∀ k, k < L.length → w.cell? ⟨g, k, none⟩ = some (str (L.getD k [])) := fun k hk => by
    rw [cell_of_heap hL]
    simp [List.getD_eq_getElem?_getD, List.getElem?_eq_getElem hk]
  obtain ⟨N, hN⟩ : ∃ N, N = L.length := ⟨_, rfl⟩
  rw [← hN] at hpick h0 h1 hcell ⊢
  have HN := Lib.hid hN
  clear hN hL h
  go_enter Try.func45, Try.ntmps45
  go_wp2_with fail
  refine hpick.mono ?_
  rintro e w1 ⟨k, hk, rfl, hg1, hd1⟩
  have hc := grown_cell (hcell k hk) hne hg1
  have hk' : (k : Int) < (N : Int) := by omega
  have HD := Lib.hid hd1
  clear hd1 hpick hcell
  go_wp2_with fail
  go_ret
  refine ⟨L.getD k [], ?_, rfl, hg1, HD.out⟩
  have := HN.out
  rw [List.getD_eq_getElem?_getD, List.getElem?_eq_getElem (by omega)]
  exact List.getElem_mem _

/-- Some text of at most b bytes, behind at most c draws. -/
def StrPost (w : World) (rb p b c : Nat) (e : Ending) (w' : World) : Prop :=
  ∃ (s : ByteArray) (q : Nat), e = .returned (.string s) ∧ s.size ≤ b ∧ q ≤ p + c ∧ w.grownBy w' (some rb) ∧ Dr w' rb q

theorem cat2 (a b : ByteArray) (h : a.size + b.size ≤ 1000000000000) : ∃ c : ByteArray, c.size = a.size + b.size ∧ ∀ W, (Op.stringOp .add a b).run Try.prog W = .ok (.string c) W :=
  ⟨a ++ b, by simp, fun W => run_string_add_sum W a b (by omega)⟩

theorem ssize (l : List UInt8) : (⟨l.toArray⟩ : ByteArray).size = l.length := by show l.toArray.size = _; simp

def termL : List (List UInt8) := [[107], [115], [107], [120], [121], [115], [122, 49], [40, 40, 115, 32, 107, 41, 32, 107, 41]]

theorem grown_new {w w' : World} {o : Obj} {rb : Nat} (hg : (w.alloc o).grownBy w' (some rb)) (_h : rb < w.heap.size) : w.grownBy w' (some rb) := by
  have hb := below_new w o
  refine ⟨hg.os.trans hb.os, hg.tape.trans hb.tape, hg.output.trans hb.output, Nat.le_trans hb.size hg.size, fun k hk hne => ?_⟩
  rw [hg.block k (Nat.lt_of_lt_of_le hk hb.size) hne]
  exact hb.block k hk

/-- The first way of l91Term: one of the list. -/
theorem term_leaf (w : World) (rb p : Nat) (d : Int) (h : Dr w rb p) (hp : p ≤ 1000000) (hd : d ≤ 0) :
    Calls Try.prog 77 #[.pointer (some ⟨rb, 0, none⟩), .int .i64 d] w (StrPost w rb p 12 3) := by
  have hlt := h.lt
  have hof := of_any (w.alloc (.cells (termL.map str).toArray 9)) rb p w.heap.size (0, 0) termL (heap_top w _) (by decide) (by decide) (by omega) (h.after (below_new w _)) hp
  have hlen : ∀ s ∈ termL, s.length ≤ 12 := by decide
  have HL := Lib.hid hlen
  clear h hlen
  go_enter Try.func77, Try.ntmps77
  go_wp2_with fail
  refine hof.mono ?_
  rintro e w1 ⟨s, hs, rfl, hg1, hd1⟩
  have HD := Lib.hid hd1
  have HS := Lib.hid hs
  clear hd1 hof hs
  go_wp2_with fail
  go_ret
  exact ⟨⟨s.toArray⟩, p + 1, rfl, by rw [ssize]; exact HL.out s HS.out, by omega, grown_new hg1 hlt, HD.out⟩

theorem pow_pos4 (n : Nat) : 1 ≤ 4 ^ n := by have := Nat.pow_le_pow_right (n := 4) (by decide) (Nat.zero_le n); simpa using this

theorem term_any : ∀ (n : Nat) (w : World) (rb p : Nat) (d : Int), Dr w rb p → p + 3 * 4 ^ n ≤ 1000000 → d ≤ n → -100 ≤ d → n ≤ 10 →
    Calls Try.prog 77 #[.pointer (some ⟨rb, 0, none⟩), .int .i64 d] w (StrPost w rb p (12 * 4 ^ n) (3 * 4 ^ n)) := by
  intro n
  induction n with
  | zero =>
    intro w rb p d h hp hd _ _
    exact term_leaf w rb p d h (by omega) (by omega)
  | succ n ih =>
    intro w rb p d h hp hd hd2 hn
    have hpw := pow_pos4 n
    have hpn : 4 ^ n ≤ 1048576 := Nat.pow_le_pow_right (by decide) (show n ≤ 10 by omega)
    rw [Nat.pow_succ] at hp ⊢
    by_cases hd0 : d ≤ 0
    · refine (term_leaf w rb p d h (by omega) hd0).mono ?_
      rintro e w' ⟨s, q, rfl, hs, hq, hg, hd⟩
      exact ⟨s, q, rfl, by omega, by omega, hg, hd⟩
    · have hp1 := pick_any w rb p 5 h (by omega) (by decide) (by decide)
      generalize 4 ^ n = P at *
      have HIH := Lib.hid ih
      clear ih h
      go_enter Try.func77, Try.ntmps77
      go_wp2_with fail
      refine hp1.mono ?_
      rintro e w1 ⟨k, hk, rfl, hg1, hd1⟩
      have hlt := hd1.lt
      by_cases hk0 : k = 0
      · subst hk0
        have hof := of_any (w1.alloc (.cells (termL.map str).toArray 9)) rb (p + 1) w1.heap.size (0, 0) termL (heap_top w1 _) (by decide) (by decide) (by omega) (hd1.after (below_new w1 _)) (by omega)
        have hlen : ∀ s ∈ termL, s.length ≤ 12 := by decide
        have HL := Lib.hid hlen
        clear hlen hd1 hp1
        go_wp2_with fail
        refine hof.mono ?_
        rintro e w2 ⟨s, hs, rfl, hg2, hd2⟩
        have HD := Lib.hid hd2
        have HS := Lib.hid hs
        clear hd2 hof hs
        go_wp2_with fail
        go_ret
        exact ⟨⟨s.toArray⟩, p + 1 + 1, rfl, by rw [ssize]; have := HL.out s HS.out; omega, by omega, grown_trans hg1 (grown_new hg2 hlt), HD.out⟩
      · have hk1 : ((k : Int) == 0) = false := by rw [beq_eq_false_iff_ne]; omega
        have hp2 := pick_any w1 rb (p + 1) 5 hd1 (by omega) (by decide) (by decide)
        clear hd1 hp1
        go_wp2_with fail
        refine hp2.mono ?_
        rintro e w2 ⟨j, hj, rfl, hg2, hd2'⟩
        have HD2 := Lib.hid hd2'
        clear hd2' hp2
        by_cases hj0 : j = 0
        · subst hj0
          go_wp2_with fail
          refine (HIH.out w2 rb (p + 1 + 1) (d - 1) HD2.out (by omega) (by omega) (by omega) (by omega)).mono ?_
          rintro e w3 ⟨s1, q1, rfl, hz1, hq1, hg3, hd3⟩
          obtain ⟨t1, z1, e1⟩ := cat2 ⟨#[40, 40, 107, 32]⟩ s1 (by have : (⟨#[40, 40, 107, 32]⟩ : ByteArray).size = 4 := rfl; omega)
          obtain ⟨t2, z2, e2⟩ := cat2 t1 ⟨#[41, 32]⟩ (by have : (⟨#[40, 40, 107, 32]⟩ : ByteArray).size = 4 := rfl; have : (⟨#[41, 32]⟩ : ByteArray).size = 2 := rfl; omega)
          have HD3 := Lib.hid hd3
          have Z1 := Lib.hid z1
          have Z2 := Lib.hid z2
          clear hd3 z1 z2
          go_wp2_with fail
          refine (HIH.out w3 rb q1 (d - 1) HD3.out (by omega) (by omega) (by omega) (by omega)).mono ?_
          rintro e w4 ⟨s2, q2, rfl, hz2, hq2, hg4, hd4⟩
          have l1 : (⟨#[40, 40, 107, 32]⟩ : ByteArray).size = 4 := rfl
          have l2 : (⟨#[41, 32]⟩ : ByteArray).size = 2 := rfl
          have l3 : (⟨#[41]⟩ : ByteArray).size = 1 := rfl
          have y1 := Z1.out
          have y2 := Z2.out
          obtain ⟨t3, z3, e3⟩ := cat2 t2 s2 (by omega)
          obtain ⟨t4, z4, e4⟩ := cat2 t3 ⟨#[41]⟩ (by omega)
          have hfin : t4.size ≤ 12 * (P * 4) := by omega
          have HD4 := Lib.hid hd4
          clear hd4 l1 l2 l3 y1 y2 z3 z4
          go_wp2_with fail
          go_ret
          exact ⟨t4, q2, rfl, hfin, by omega, grown_trans (grown_trans hg1 hg2) (grown_trans hg3 hg4), HD4.out⟩
        · have hj1 : ((j : Int) == 0) = false := by rw [beq_eq_false_iff_ne]; omega
          by_cases hj2 : j = 1
          · subst hj2
            go_wp2_with fail
            refine (HIH.out w2 rb (p + 1 + 1) (d - 1) HD2.out (by omega) (by omega) (by omega) (by omega)).mono ?_
            rintro e w3 ⟨s1, q1, rfl, hz1, hq1, hg3, hd3⟩
            obtain ⟨t1, z1, e1⟩ := cat2 ⟨#[40, 40, 40, 115, 32]⟩ s1 (by have : (⟨#[40, 40, 40, 115, 32]⟩ : ByteArray).size = 5 := rfl; omega)
            obtain ⟨t2, z2, e2⟩ := cat2 t1 ⟨#[41, 32]⟩ (by have : (⟨#[40, 40, 40, 115, 32]⟩ : ByteArray).size = 5 := rfl; have : (⟨#[41, 32]⟩ : ByteArray).size = 2 := rfl; omega)
            have HD3 := Lib.hid hd3
            have Z1 := Lib.hid z1
            have Z2 := Lib.hid z2
            clear hd3 z1 z2
            go_wp2_with fail
            refine (HIH.out w3 rb q1 (d - 1) HD3.out (by omega) (by omega) (by omega) (by omega)).mono ?_
            rintro e w4 ⟨s2, q2, rfl, hz2, hq2, hg4, hd4⟩
            have l1 : (⟨#[40, 40, 40, 115, 32]⟩ : ByteArray).size = 5 := rfl
            have l2 : (⟨#[41, 32]⟩ : ByteArray).size = 2 := rfl
            have l3 : (⟨#[41]⟩ : ByteArray).size = 1 := rfl
            have y1 := Z1.out
            have y2 := Z2.out
            obtain ⟨t3, z3, e3⟩ := cat2 t2 s2 (by omega)
            obtain ⟨t4, z4, e4⟩ := cat2 t3 ⟨#[41, 32]⟩ (by omega)
            have hmid : t4.size ≤ 24 * P + 9 := by omega
            have HM := Lib.hid hmid
            have HD4 := Lib.hid hd4
            clear hd4 l1 l2 l3 y1 y2 z3 z4 hmid
            go_wp2_with fail
            refine (HIH.out w4 rb q2 (d - 2) HD4.out (by omega) (by omega) (by omega) (by omega)).mono ?_
            rintro e w5 ⟨s3, q3, rfl, hz3, hq3, hg5, hd5⟩
            have l3 : (⟨#[41]⟩ : ByteArray).size = 1 := rfl
            have y1 := HM.out
            obtain ⟨t5, z5, e5⟩ := cat2 t4 s3 (by omega)
            obtain ⟨t6, z6, e6⟩ := cat2 t5 ⟨#[41]⟩ (by omega)
            have hfin : t6.size ≤ 12 * (P * 4) := by omega
            have HD5 := Lib.hid hd5
            clear hd5 l3 y1 z5 z6
            go_wp2_with fail
            go_ret
            exact ⟨t6, q3, rfl, hfin, by omega, grown_trans (grown_trans (grown_trans hg1 hg2) (grown_trans hg3 hg4)) hg5, HD5.out⟩
          · have hj3 : ((j : Int) == 1) = false := by rw [beq_eq_false_iff_ne]; omega
            go_wp2_with fail
            refine (HIH.out w2 rb (p + 1 + 1) (d - 1) HD2.out (by omega) (by omega) (by omega) (by omega)).mono ?_
            rintro e w3 ⟨s1, q1, rfl, hz1, hq1, hg3, hd3⟩
            obtain ⟨t1, z1, e1⟩ := cat2 ⟨#[40]⟩ s1 (by have : (⟨#[40]⟩ : ByteArray).size = 1 := rfl; omega)
            obtain ⟨t2, z2, e2⟩ := cat2 t1 ⟨#[32]⟩ (by have : (⟨#[40]⟩ : ByteArray).size = 1 := rfl; have : (⟨#[32]⟩ : ByteArray).size = 1 := rfl; omega)
            have HD3 := Lib.hid hd3
            have Z1 := Lib.hid z1
            have Z2 := Lib.hid z2
            clear hd3 z1 z2
            go_wp2_with fail
            refine (HIH.out w3 rb q1 (d - 1) HD3.out (by omega) (by omega) (by omega) (by omega)).mono ?_
            rintro e w4 ⟨s2, q2, rfl, hz2, hq2, hg4, hd4⟩
            have l1 : (⟨#[40]⟩ : ByteArray).size = 1 := rfl
            have l2 : (⟨#[32]⟩ : ByteArray).size = 1 := rfl
            have l3 : (⟨#[41]⟩ : ByteArray).size = 1 := rfl
            have y1 := Z1.out
            have y2 := Z2.out
            obtain ⟨t3, z3, e3⟩ := cat2 t2 s2 (by omega)
            obtain ⟨t4, z4, e4⟩ := cat2 t3 ⟨#[41]⟩ (by omega)
            have hfin : t4.size ≤ 12 * (P * 4) := by omega
            have HD4 := Lib.hid hd4
            clear hd4 l1 l2 l3 y1 y2 z3 z4
            go_wp2_with fail
            go_ret
            exact ⟨t4, q2, rfl, hfin, by omega, grown_trans (grown_trans hg1 hg2) (grown_trans hg3 hg4), HD4.out⟩
end Go.Proofs.Ytjomocjlnjgkeaa
