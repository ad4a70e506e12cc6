/-
  The drawing of inputs: a reader of codes (l6Rd): pick answers a number in its range, whatever the code.
-/
import Derived.Test.YtfpekihdoclncaaGreatPkAD
import Derived.Test.YtfpekihdoclncaaGreatPkAE
import Derived.Test.YtfpekihdoclncaaGreatPkAC
import Derived.Lib.AppendStr
namespace Go.Proofs.YtfpekihdoclncaaGreat
open Go.RowKit

set_option maxHeartbeats 1000000
set_option maxRecDepth 100000

/-- The reader of a code lies in block rb. -/
def DR (w : World) (rb : Nat) (v : Value) (p : Nat) : Prop := w.heap[rb]? = some (.cells #[v, .int .i64 p] 53 (0, 0))

/-- The bytes of a code can be read. -/
def CodeOk (w : World) (rb : Nat) (v : Value) : Prop :=
  (∃ a0 cap, v = .slice a0 0 cap) ∨ ∃ b o n cap, 0 < n ∧ n ≤ 2000 ∧ v = .slice (some ⟨b, o, none⟩) n cap ∧ b ≠ rb ∧
    ∃ z : Nat → Nat, ∀ i, i < n → w.cell? ⟨b, o + i, none⟩ = some (.int .u8 (z i)) ∧ z i ≤ 255

def Dr (w : World) (rb p : Nat) : Prop := ∃ v, DR w rb v p ∧ CodeOk w rb v

def PickPost (w : World) (rb p m : Nat) (e : Ending) (w' : World) : Prop :=
  ∃ k : Nat, k < m ∧ e = .returned (.int .i64 k) ∧ w.grownBy w' (some rb) ∧ Dr w' rb (p + 1)

theorem DR.set {w : World} {rb p : Nat} {v : Value} (h : DR w rb v p) (q : Nat) : DR (w.setCell ⟨rb, 1, none⟩ (.int .i64 q)) rb v q := by
  unfold DR at *
  simp [World.setCell, Array.getElem?_modify, h]

theorem grown_set1 (w : World) (b i : Nat) (v : Value) : w.grownBy (w.setCell ⟨b, i, none⟩ v) (some b) := by
  refine ⟨rfl, rfl, rfl, by simp [World.setCell], fun k hk hne => ?_⟩
  have : b ≠ k := fun e => hne (e ▸ rfl)
  simp [World.setCell, Array.getElem?_modify, this]

theorem pick_none (w : World) (rb p : Nat) (a0 : Option Addr) (cap m : Nat) (h : DR w rb (.slice a0 0 cap) p) (hp : p ≤ 1000000) (hm : 1 ≤ m) :
    Calls Tryz.prog 24 #[.pointer (some ⟨rb, 0, none⟩), .int .i64 m] w (PickPost w rb p m) := by
  have c0 : w.cell? ⟨rb, 0, none⟩ = some (.slice a0 0 cap) := cell_of_heap h
  have c1 : w.cell? ⟨rb, 1, none⟩ = some (.int .i64 (p : Nat)) := cell_of_heap h
  have f1 : w.frozen? ⟨rb, 1, none⟩ = false := by unfold DR at h; simp [World.frozen?, h]
  have H := Lib.hid h
  clear h
  go_enter Tryz.func24, Tryz.ntmps24
  go_wp2_with fail
  go_ret
  exact ⟨0, by omega, rfl, grown_set1 _ _ _ _, _, H.out.set (p + 1), Or.inl ⟨_, _, rfl⟩⟩
theorem cell_set_other {w : World} {rb b i : Nat} (hne : b ≠ rb) (v : Value) : (w.setCell ⟨rb, 1, none⟩ v).cell? ⟨b, i, none⟩ = w.cell? ⟨b, i, none⟩ := by
  have : ¬ rb = b := fun e => hne e.symm
  simp [World.setCell, World.cell?, Array.getElem?_modify, this]

theorem pick_in (w : World) (rb p : Nat) (b o n cap m : Nat) (z : Nat → Nat) (h : DR w rb (.slice (some ⟨b, o, none⟩) n cap) p) (hn : n ≤ 2000) (hne : b ≠ rb) (hz : ∀ i, i < n → w.cell? ⟨b, o + i, none⟩ = some (.int .u8 (z i)) ∧ z i ≤ 255) (hp : p < n) (hm : 1 ≤ m) (hm2 : m ≤ 1000) :
    Calls Tryz.prog 24 #[.pointer (some ⟨rb, 0, none⟩), .int .i64 m] w (PickPost w rb p m) := by
  have c0 : w.cell? ⟨rb, 0, none⟩ = some (.slice (some ⟨b, o, none⟩) n cap) := cell_of_heap h
  have c1 : w.cell? ⟨rb, 1, none⟩ = some (.int .i64 (p : Nat)) := cell_of_heap h
  have f1 : w.frozen? ⟨rb, 1, none⟩ = false := by unfold DR at h; simp [World.frozen?, h]
  have H := Lib.hid h
  obtain ⟨hz1, hz2⟩ := hz p hp
  have hz3 := fun v => (cell_set_other (w := w) (i := o + p) hne v).trans hz1
  have HZ := Lib.hid hz
  have hp' : (p : Int) < (n : Int) := by omega
  have hm' : (1 : Int) ≤ (m : Int) := by omega
  have hn' : ((n : Int) == 0) = false := by rw [beq_eq_false_iff_ne]; omega
  clear h hz
  go_enter Tryz.func24, Tryz.ntmps24
  go_wp2_with fail
  go_ret
  refine ⟨z p % m, Nat.mod_lt _ (by omega), ?_, grown_set1 _ _ _ _, _, H.out.set (p + 1), Or.inr ⟨b, o, n, cap, by omega, hn, rfl, hne, z, fun i hi => ?_⟩⟩
  · show Ending.returned (.int .i64 _) = _; rfl
  · rw [cell_set_other hne]; exact HZ.out i hi

theorem wrap64_small (x : Int) (h0 : 0 ≤ x) (h1 : x < 9223372036854775808) : wrap64 x = x := by unfold wrap64; omega

theorem bits_xor_i64_nat (a b : Nat) (ha : a < 4611686018427387904) (hb : b < 4611686018427387904) : bits .xor .i64 (a : Int) (b : Int) = ((a ^^^ b : Nat) : Int) := by
  have hx : a ^^^ b < 2 ^ 62 := Nat.xor_lt_two_pow (by omega) (by omega)
  have h1 : (BitVec.ofInt 64 (a : Int)).toNat = a := by
    rw [BitVec.ofInt_natCast, BitVec.toNat_ofNat]; exact Nat.mod_eq_of_lt (by omega)
  have h2 : (BitVec.ofInt 64 (b : Int)).toNat = b := by
    rw [BitVec.ofInt_natCast, BitVec.toNat_ofNat]; exact Nat.mod_eq_of_lt (by omega)
  show IntKind.i64.wrap ((BitVec.ofInt 64 (a : Int) ^^^ BitVec.ofInt 64 (b : Int)).toNat : Int) = _
  rw [BitVec.toNat_xor, h1, h2, IntWalk.i64_in _ (by omega)]

theorem rem_xor (x y : Int) (m : Nat) (hx : 0 ≤ x) (hx2 : x < 1099511627776) (hy : 0 ≤ y) (hy2 : y < 1099511627776) (hm : 1 ≤ m) : ∃ k : Nat, k < m ∧ (bits .xor .i64 x y).tmod (m : Int) = (k : Int) := by
  obtain ⟨a, rfl⟩ := Int.eq_ofNat_of_zero_le hx
  obtain ⟨b, rfl⟩ := Int.eq_ofNat_of_zero_le hy
  rw [bits_xor_i64_nat a b (by omega) (by omega)]
  exact ⟨(a ^^^ b) % m, Nat.mod_lt _ (by omega), rfl⟩

theorem mix_range (p n m y z : Nat) (hp : p ≤ 1000000) (hy : y ≤ 255) (hz : z ≤ 255) (hm : 1 ≤ m) : ∃ k : Nat, k < m ∧
    (bits .xor .i64 (wrap64 ((y : Int) * 131 + (z : Int) * 1117 + (p : Int) * 29 + wrap64 (wrap64 ((p : Int) / (n : Int)) * 53)))
      (wrap64 ((wrap64 ((y : Int) * 131 + (z : Int) * 1117 + (p : Int) * 29 + wrap64 (wrap64 ((p : Int) / (n : Int)) * 53))).tdiv 64))).tmod (m : Int) = (k : Int) := by
  have d0 : (p : Int) / (n : Int) = ((p / n : Nat) : Int) := by simp
  have d1 : p / n ≤ p := Nat.div_le_self _ _
  rw [d0]
  generalize p / n = q at d1
  clear d0
  rw [wrap64_small (q : Int) (by omega) (by omega), wrap64_small ((q : Int) * 53) (by omega) (by omega)]
  rw [wrap64_small ((y : Int) * 131 + (z : Int) * 1117 + (p : Int) * 29 + (q : Int) * 53) (by omega) (by omega)]
  generalize hX : (y : Int) * 131 + (z : Int) * 1117 + (p : Int) * 29 + (q : Int) * 53 = X
  have h0 : 0 ≤ X := by omega
  have h1 : X < 1000000000 := by omega
  have e : X.tdiv 64 = X / 64 := Int.tdiv_eq_ediv_of_nonneg h0
  rw [e, wrap64_small (X / 64) (by omega) (by omega)]
  exact rem_xor _ _ m h0 (by omega) (by omega) (by omega) hm

theorem pick_past (w : World) (rb p : Nat) (b o n cap m : Nat) (z : Nat → Nat) (h : DR w rb (.slice (some ⟨b, o, none⟩) n cap) p) (hn : n ≤ 2000) (hne : b ≠ rb) (hz : ∀ i, i < n → w.cell? ⟨b, o + i, none⟩ = some (.int .u8 (z i)) ∧ z i ≤ 255) (hp : n ≤ p) (hp2 : p ≤ 1000000) (hn0 : 0 < n) (hm : 1 ≤ m) (hm2 : m ≤ 1000) :
    Calls Tryz.prog 24 #[.pointer (some ⟨rb, 0, none⟩), .int .i64 m] w (PickPost w rb p m) := by
  have c0 : w.cell? ⟨rb, 0, none⟩ = some (.slice (some ⟨b, o, none⟩) n cap) := cell_of_heap h
  have c1 : w.cell? ⟨rb, 1, none⟩ = some (.int .i64 (p : Nat)) := cell_of_heap h
  have f1 : w.frozen? ⟨rb, 1, none⟩ = false := by unfold DR at h; simp [World.frozen?, h]
  have H := Lib.hid h
  have l1 : p % n < n := Nat.mod_lt _ hn0
  have l2 : (p * 7 + 3) % n < n := Nat.mod_lt _ hn0
  obtain ⟨hz1, hz2⟩ := hz _ l1
  obtain ⟨hy1, hy2⟩ := hz _ l2
  have hz3 := fun v => (cell_set_other (w := w) (i := o + p % n) hne v).trans hz1
  have hy3 := fun v => (cell_set_other (w := w) (i := o + (p * 7 + 3) % n) hne v).trans hy1
  obtain ⟨k, hk, he⟩ := mix_range p n m (z (p % n)) (z ((p * 7 + 3) % n)) hp2 hz2 hy2 hm
  have HE := Lib.hid he
  clear he
  have HZ := Lib.hid hz
  have hp' : ¬ (p : Int) < (n : Int) := by omega
  have hm' : (1 : Int) ≤ (m : Int) := by omega
  have hn' : ((n : Int) == 0) = false := by rw [beq_eq_false_iff_ne]; omega
  have hn1 : ¬ n = 0 := by omega
  have hn2 : (0 : Int) < (n : Int) := by omega
  have q0 : 0 ≤ (p : Int) % (n : Int) := Int.emod_nonneg _ (by omega)
  have q1 : (p : Int) % (n : Int) < (n : Int) := Int.emod_lt_of_pos _ hn2
  have q2 : ((p : Int) % (n : Int)).toNat = p % n := by rw [← Int.natCast_emod]; rfl
  have r0 : 0 ≤ ((p : Int) * 7 + 3) % (n : Int) := Int.emod_nonneg _ (by omega)
  have r1 : ((p : Int) * 7 + 3) % (n : Int) < (n : Int) := Int.emod_lt_of_pos _ hn2
  have r2 : (((p : Int) * 7 + 3) % (n : Int)).toNat = (p * 7 + 3) % n := by
    rw [show ((p : Int) * 7 + 3) = ((p * 7 + 3 : Nat) : Int) by omega, ← Int.natCast_emod]; rfl
  have ht2 : ((p : Int) * 7 + 3).tmod (n : Int) = ((p : Int) * 7 + 3) % (n : Int) := Int.tmod_eq_emod_of_nonneg (by omega)
  clear h hz
  go_enter Tryz.func24, Tryz.ntmps24
  go_wp2_with fail
  go_quiet (fail)
  go_wp2_with fail
  go_ret
  refine ⟨k, hk, ?_, grown_trans (grown_set1 _ _ _ _) (grown_drawn _ rb _), _, H.out.set (p + 1), Or.inr ⟨b, o, n, cap, by omega, hn, rfl, hne, z, fun i hi => ?_⟩⟩
  · exact congrArg (fun x => Ending.returned (.int .i64 x)) HE.out
  · exact (cell_set_other hne _).trans (HZ.out i hi).1 |> fun h => ⟨h, (HZ.out i hi).2⟩

theorem pick_any (w : World) (rb p m : Nat) (h : Dr w rb p) (hp : p ≤ 1000000) (hm : 1 ≤ m) (hm2 : m ≤ 1000) :
    Calls Tryz.prog 24 #[.pointer (some ⟨rb, 0, none⟩), .int .i64 m] w (PickPost w rb p m) := by
  obtain ⟨v, h, hc⟩ := h
  rcases hc with ⟨a0, cap, rfl⟩ | ⟨b, o, n, cap, hn0, hn, rfl, hne, z, hz⟩
  · exact pick_none w rb p a0 cap m h hp hm
  · by_cases hlt : p < n
    · exact pick_in w rb p b o n cap m z h hn hne hz hlt hm hm2
    · exact pick_past w rb p b o n cap m z h hn hne hz (by omega) hp hn0 hm hm2
end Go.Proofs.YtfpekihdoclncaaGreat

namespace Go.Proofs.YtfpekihdoclncaaGreat
open Go.RowKit

set_option maxHeartbeats 400000
set_option maxRecDepth 100000

/-- Bytes as cells. -/
def bcells (l : List UInt8) : List Value := l.map fun c => Value.int .u8 c.toNat

theorem bcells_len (l : List UInt8) : (bcells l).length = l.length := by simp [bcells]
theorem bcells_append (a b : List UInt8) : bcells (a ++ b) = bcells a ++ bcells b := by simp [bcells]
theorem bcells_str (l : List UInt8) : Lib.strCells ⟨l.toArray⟩ = bcells l := by simp [Lib.strCells, bcells]

/-- The slice value sv owns the bytes xs. -/
def Own (w : World) (base : Nat) (sv : Value) (xs : List UInt8) : Prop := w.ownsRow base 5 1 sv xs.length (bcells xs)

theorem info_byte : (Tryz.prog.info? 5).map (fun i => (i.zero, i.size, i.bytes)) = some (some (.int .u8 0), 1, 1) := by kernel_rfl

def WritePost (w : World) (xs l : List UInt8) (e : Ending) (w' : World) : Prop :=
  ∃ sv, e = .returned sv ∧ Below w.heap.size w w' ∧ Own w' w.heap.size sv (xs ++ l)

def WriteOk (w : World) (v : Value) (t : Tm) : Prop :=
  ∃ T x f y, v = .iface T x ∧ (∀ W, Below w.heap.size w W → (method 265 T x "loop.example/realizers/impl.write").run Tryz.prog W = .ok (f, y) W) ∧ (∀ args w', (callFunc f args).run Tryz.prog w' = .ok (.enter f args) w') ∧
    ∀ W, Below w.heap.size w W → ∀ sv xs, Own W w.heap.size sv xs → xs.length + t.text.length ≤ 1000000 → Calls Tryz.prog f #[y, sv] W (WritePost w xs t.text)

theorem own_new {w W w' : World} {sv v' : Value} {xs l : List UInt8} {o : Obj} (hW : Below w.heap.size w W) (ho : w'.ownsRow w.heap.size 5 1 v' (xs.length + l.length) (bcells xs ++ bcells l)) (hg : (W.alloc o).grownBy w' sv.ownBlock)
    (hs : Own W w.heap.size sv xs) : Below w.heap.size w w' ∧ Own w' w.heap.size v' (xs ++ l) :=
  ⟨(below_alloc hW o).grown hg (below_alloc hW o).size (fun k hk => (hs.lt k hk).1), by unfold Own; rw [bcells_append, List.length_append]; exact ho⟩

theorem own_new' {w W w' : World} {sv v' : Value} {xs l : List UInt8} (hW : Below w.heap.size w W) (ho : w'.ownsRow w.heap.size 5 1 v' (xs.length + l.length) (bcells xs ++ bcells l)) (hg : W.grownBy w' sv.ownBlock)
    (hs : Own W w.heap.size sv xs) : Below w.heap.size w w' ∧ Own w' w.heap.size v' (xs ++ l) :=
  ⟨hW.grown hg hW.size (fun k hk => (hs.lt k hk).1), by unfold Own; rw [bcells_append, List.length_append]; exact ho⟩

theorem undrew {w w' : World} {row : Option Nat} (h : w.drew.grownBy w' row) : w.grownBy w' row := ⟨h.os, h.tape, h.output, h.size, h.block⟩

theorem k_write (w W : World) (y sv : Value) (xs : List UInt8) (hW : Below w.heap.size w W) (hs : Own W w.heap.size sv xs) (hl : xs.length + 1 ≤ 1000000) :
    Calls Tryz.prog 118 #[y, sv] W (WritePost w xs [107]) := by
  obtain ⟨i0, hi, hz0, hz1, hz2⟩ := info_parts info_byte
  have hun := Tryz.underlying22
  have hm : xs.length + 1 ≤ maxLen := by unfold maxLen; omega
  go_enter Tryz.func118, Tryz.ntmps118
  go_wp2_with (at_builtin; refine wpList_append_own _ rfl _ _ 22 rfl w.heap.size 5 i0 (.int .u8 0) 1 1 hun hi hz0 hz1 hz2 rfl (by decide) _ _ _ rfl (World.ownsRow.alloc hs _) ⟨W.heap.size, 0, none⟩ 1 1 (bcells [107]) rfl rfl (cell_one_new _ _ _) (by simp [bcells, Value.oneCell']) hm (by omega) (below_alloc hW _).size ?_; intro v1 w1 ho hg _; obtain ⟨hb1, ho1⟩ := own_new hW ho hg hs; clear ho hg)
  go_ret
  exact ⟨_, rfl, hb1, ho1⟩

theorem s_write (w W : World) (y sv : Value) (xs : List UInt8) (hW : Below w.heap.size w W) (hs : Own W w.heap.size sv xs) (hl : xs.length + 1 ≤ 1000000) :
    Calls Tryz.prog 122 #[y, sv] W (WritePost w xs [115]) := by
  obtain ⟨i0, hi, hz0, hz1, hz2⟩ := info_parts info_byte
  have hun := Tryz.underlying22
  have hm : xs.length + 1 ≤ maxLen := by unfold maxLen; omega
  go_enter Tryz.func122, Tryz.ntmps122
  go_wp2_with (at_builtin; refine wpList_append_own _ rfl _ _ 22 rfl w.heap.size 5 i0 (.int .u8 0) 1 1 hun hi hz0 hz1 hz2 rfl (by decide) _ _ _ rfl (World.ownsRow.alloc hs _) ⟨W.heap.size, 0, none⟩ 1 1 (bcells [115]) rfl rfl (cell_one_new _ _ _) (by simp [bcells, Value.oneCell']) hm (by omega) (below_alloc hW _).size ?_; intro v1 w1 ho hg _; obtain ⟨hb1, ho1⟩ := own_new hW ho hg hs; clear ho hg)
  go_ret
  exact ⟨_, rfl, hb1, ho1⟩

theorem n_write (w W : World) (b : Nat) (n : List UInt8) (sv : Value) (xs : List UInt8) (hc : W.cell? ⟨b, 0, none⟩ = some (str n)) (hW : Below w.heap.size w W) (hs : Own W w.heap.size sv xs) (hl : xs.length + n.length ≤ 1000000) :
    Calls Tryz.prog 112 #[.pointer (some ⟨b, 0, none⟩), sv] W (WritePost w xs n) := by
  obtain ⟨i0, hi, hz0, hz1, hz2⟩ := info_parts info_byte
  have hun := Tryz.underlying22
  have hus := Tryz.underlying9
  have hm : xs.length + (⟨n.toArray⟩ : ByteArray).size ≤ maxLen := by unfold maxLen; show xs.length + n.toArray.size ≤ _; simp; omega
  have hm2 : xs.length + (⟨n.toArray⟩ : ByteArray).size ≤ 140737488355328 := by show xs.length + n.toArray.size ≤ _; simp; omega
  have hsz : (⟨n.toArray⟩ : ByteArray).size = n.length := by show n.toArray.size = _; simp
  have HSZ := Lib.hid hsz
  clear hsz
  go_enter Tryz.func112, Tryz.ntmps112
  go_wp2_with (at_builtin; refine Lib.wpList_append_own_string _ rfl _ _ 22 9 rfl w.heap.size 5 i0 hun hus hi hz0 hz1 hz2 _ _ _ rfl hs ⟨n.toArray⟩ rfl hm hm2 hW.size ?_; intro v1 w1 ho hg _; rw [HSZ.out, bcells_str] at ho; obtain ⟨hb1, ho1⟩ := own_new' hW ho hg hs; clear ho hg)
  go_ret
  exact ⟨_, rfl, hb1, ho1⟩

theorem a_write (w W : World) (b : Nat) (T1 T2 : TypeId) (x1 x2 : Value) (f a : Tm) (sv : Value) (xs : List UInt8) (hW : Below w.heap.size w W)
    (h0 : ∀ W, Below w.heap.size w W → W.cell? ⟨b, 0, none⟩ = some (.iface T1 x1)) (h1 : ∀ W, Below w.heap.size w W → W.cell? ⟨b, 1, none⟩ = some (.iface T2 x2))
    (hf : WriteOk w (.iface T1 x1) f) (ha : WriteOk w (.iface T2 x2) a) (hs : Own W w.heap.size sv xs) (hl : xs.length + (f.app a).text.length ≤ 1000000) :
    Calls Tryz.prog 103 #[.pointer (some ⟨b, 0, none⟩), sv] W (WritePost w xs (f.app a).text) := by
  obtain ⟨i0, hi, hz0, hz1, hz2⟩ := info_parts info_byte
  have hun := Tryz.underlying22
  obtain ⟨_, _, g4, z4, e0, k4, l4, d4⟩ := hf
  injection e0 with e1 e2
  subst e1; subst e2
  obtain ⟨_, _, g5, z5, e0, k5, l5, d5⟩ := ha
  injection e0 with e1 e2
  subst e1; subst e2
  simp only [Tm.text, List.length_cons, List.length_append, List.length_nil] at hl
  have m1 : xs.length + 1 ≤ maxLen := by unfold maxLen; omega
  have hnew : Below w.heap.size w ((W.alloc (.cells #[.int .u8 40] 5)).drew) := (below_alloc hW _).drew
  have hone : ∀ u ∈ bcells [40], u.oneCell' = true := by simp [bcells, Value.oneCell']
  have hsz : ((W.alloc (.cells #[.int .u8 40] 5)).drew).heap.size = W.heap.size + 1 := by simp
  go_enter Tryz.func103, Tryz.ntmps103
  go_wp2_with fail
  go_region_held3 (fun W' => Below w.heap.size w W') (first | assumption | exact hW.drew | go_keep)
    (first
      | (refine step_append_lies _ (by rfl) _ _ 22 (by rfl) w.heap.size 5 i0 (.int .u8 0) 1 1 hun hi hz0 hz1 hz2 rfl (by omega) _ _ _ (by rfl) (World.ownsRow.drew (World.ownsRow.alloc hs _)) ⟨W.heap.size, 0, none⟩ 1 1 (bcells [40]) (by rfl) (by rfl) (cell_one_new _ _ _) hone (by omega) m1 (by omega) hnew.size (W.heap.size + 1) hsz ?_; intro g1 q1 w1 ho hg _ _; obtain ⟨hb1, ho1⟩ := own_new hW ho (undrew hg) hs; clear ho hg)
      | (go_at_fn g4; refine (d4 _ (by assumption) _ _ ho1 ?_).mono ?_; (simp; omega); rintro e w2 ⟨v2, rfl, hb2, ho2⟩))
  clear ho1 hb1
  obtain ⟨ys, hys⟩ : ∃ ys, ys = xs ++ [40] ++ f.text := ⟨_, rfl⟩
  rw [← hys] at ho2
  have hyl : ys.length ≤ xs.length + 1 + f.text.length := by rw [hys]; simp; omega
  have HY := Lib.hid hys
  clear hys
  have m2 : ys.length + 1 ≤ maxLen := by unfold maxLen; omega
  have hnew2 : Below w.heap.size w ((w2.alloc (.cells #[.int .u8 32] 5)).drew) := (below_alloc hb2 _).drew
  have hone2 : ∀ u ∈ bcells [32], u.oneCell' = true := by simp [bcells, Value.oneCell']
  have hsz2 : ((w2.alloc (.cells #[.int .u8 32] 5)).drew).heap.size = w2.heap.size + 1 := by simp
  go_wp2_with fail
  go_region_held3 (fun W' => Below w.heap.size w W') (first | assumption | exact hb2.drew | go_keep)
    (first
      | (refine step_append_lies _ (by rfl) _ _ 22 (by rfl) w.heap.size 5 i0 (.int .u8 0) 1 1 hun hi hz0 hz1 hz2 rfl (by omega) _ _ _ (by rfl) (World.ownsRow.drew (World.ownsRow.alloc ho2 _)) ⟨w2.heap.size, 0, none⟩ 1 1 (bcells [32]) (by rfl) (by rfl) (cell_one_new _ _ _) hone2 (by omega) m2 (by omega) hnew2.size (w2.heap.size + 1) hsz2 ?_; intro g3 q3 w3 ho hg _ _; obtain ⟨hb3, ho3⟩ := own_new hb2 ho (undrew hg) ho2; clear ho hg)
      | (go_at_fn g5; refine (d5 _ (by assumption) _ _ ho3 ?_).mono ?_; (simp; omega); rintro e w4 ⟨v4, rfl, hb4, ho4⟩))
  clear ho3 hb3
  obtain ⟨zs, hzs⟩ : ∃ zs, zs = ys ++ [32] ++ a.text := ⟨_, rfl⟩
  rw [← hzs] at ho4
  have hzl : zs.length ≤ ys.length + 1 + a.text.length := by rw [hzs]; simp; omega
  have HZ := Lib.hid hzs
  clear hzs
  have m3 : zs.length + 1 ≤ maxLen := by unfold maxLen; omega
  go_wp2_with (at_builtin; refine wpList_append_own _ rfl _ _ 22 rfl w.heap.size 5 i0 (.int .u8 0) 1 1 hun hi hz0 hz1 hz2 rfl (by decide) _ _ _ rfl (World.ownsRow.alloc ho4 _) ⟨w4.heap.size, 0, none⟩ 1 1 (bcells [41]) rfl rfl (cell_one_new _ _ _) (by simp [bcells, Value.oneCell']) m3 (by omega) (below_alloc hb4 _).size ?_; intro v5 w5 ho hg _; obtain ⟨hb5, ho5⟩ := own_new hb4 ho hg ho4; clear ho hg)
  go_ret
  refine ⟨_, rfl, hb5, ?_⟩
  rw [HZ.out, HY.out] at ho5
  simpa [Tm.text, List.append_assoc] using ho5

theorem TV.writeOk {w : World} {B : Nat} : ∀ {t : Tm} {v : Value}, TV w B t v → WriteOk w v t
  | .k, _, ⟨b, fr, hv, _, h⟩ => ⟨_, _, _, _, hv, fun W _ => (meth_kLetter_write _ W).1, (meth_kLetter_write ⟨b, 0, none⟩ w).2, fun W hW sv xs hs hl => k_write w W _ sv xs hW hs hl⟩
  | .s, _, ⟨b, fr, hv, _, h⟩ => ⟨_, _, _, _, hv, fun W _ => (meth_sLetter_write _ W).1, (meth_sLetter_write ⟨b, 0, none⟩ w).2, fun W hW sv xs hs hl => s_write w W _ sv xs hW hs hl⟩
  | .nm n, _, ⟨b, fr, hv, _, h⟩ => ⟨_, _, _, _, hv, fun W _ => (meth_nameAtom_write _ W).1, (meth_nameAtom_write ⟨b, 0, none⟩ w).2, fun W hW sv xs hs hl => n_write w W b n sv xs (cell_of_heap (heap_later h hW)) hW hs hl⟩
  | .app f a, _, ⟨b, fr, vf, va, hv, _, h, hf, ha⟩ => by
    have sf := TV.writeOk hf
    have sa := TV.writeOk ha
    obtain ⟨T1, x1, rfl, _⟩ := hf.asks
    obtain ⟨T2, x2, rfl, _⟩ := ha.asks
    exact ⟨_, _, _, _, hv, fun W _ => (meth_application_write _ W).1, (meth_application_write ⟨b, 0, none⟩ w).2, fun W hW sv xs hs hl =>
      a_write w W b T1 T2 x1 x2 f a sv xs hW (cell_later' (cell_of_heap (i := 0) h)) (cell_later' (cell_of_heap (i := 1) h)) sf sa hs hl⟩

theorem foldl_push (l : List UInt8) : ∀ s : ByteArray, (l.map fun c => (c.toNat : Int)).foldl (fun r n => r.push (UInt8.ofNat n.toNat)) s = ⟨(s.data.toList ++ l).toArray⟩ := by
  induction l with
  | nil => intro s; simp
  | cons c l ih =>
    intro s
    rw [List.map_cons, List.foldl_cons, ih]
    simp [ByteArray.push]

/-- A string made of the bytes that a slice value owns. -/
theorem run_text {w : World} {base : Nat} {sv : Value} {xs : List UInt8} (hs : Own w base sv xs) (hne : xs ≠ []) : (convert 22 9 sv).run Tryz.prog w = .ok (str xs) w := by
  have hl := hs.1
  rcases hs.2 with ⟨_, h0⟩ | ⟨g, cap, cur, rfl, _, hh, _⟩
  · exact absurd (List.length_eq_zero_iff.1 h0) hne
  · have hc := hs.cells (g := g) rfl
    rw [run_convert_bytes_string w _ _ _ _ _ _ Tryz.underlying22 Tryz.underlying5 Tryz.underlying9]
    rw [run_bytesToString w _ _ _ (xs.map fun c => (c.toNat : Int)) (by
      have := run_loadCells_list (P := Tryz.prog) (w := w) ⟨g, 0, none⟩ (bcells xs) hc
      rw [bcells_len] at this
      rw [show ((xs.map fun c => (c.toNat : Int)).map (Value.int .u8)) = bcells xs by simp [bcells, Function.comp_def]]
      exact this)]
    rw [foldl_push]
    rfl

theorem textOf_any (w : World) (B : Nat) (t : Tm) (v : Value) (h : TV w B t v) (hg : t.good = true) (hl : t.text.length ≤ 1000000) :
    Calls Tryz.prog 15 #[v] w fun e w' => e = .returned (str t.text) ∧ Below w.heap.size w w' := by
  obtain ⟨T1, x1, f1, y1, rfl, m1, n1, c1⟩ := h.writeOk
  have hb0 := Below.refl w.heap.size w
  have ho : Own w w.heap.size (.slice none 0 0) [] := World.ownsRow_nil w w.heap.size _ 1
  go_enter Tryz.func15, Tryz.ntmps15
  go_wp2_with (go_at_fn f1; refine (c1 _ hb0 _ [] ho (by simpa using hl)).mono ?_; rintro e w1 ⟨v1, rfl, hb1, ho1⟩; have hc := run_text ho1 (Tm.text_ne t hg))
  go_ret
  exact ⟨rfl, hb1⟩
end Go.Proofs.YtfpekihdoclncaaGreat

namespace Go.Proofs.YtfpekihdoclncaaGreat
open Go.RowKit

set_option maxHeartbeats 1000000
set_option maxRecDepth 100000

namespace Tm
def I : Tm := app (app s k) k
def no : Tm := app k I
def pair (m n : Tm) : Tm := app (app s (app (app s I) (app k m))) (app k n)
def num : Nat → Tm
  | 0 => I
  | n + 1 => pair no (num n)
theorem size_pair (m n : Tm) : (pair m n).size = m.size + n.size + 7 := by simp [pair, I, size]; omega
theorem size_num (n : Nat) : (num n).size = 11 * n + 3 := by
  induction n with
  | zero => rfl
  | succ n ih => simp only [num, size_pair, ih]; simp [no, I, size]; omega
theorem good_pair (m n : Tm) : (pair m n).good = (m.good && n.good) := by simp [pair, I, good]
theorem good_num (n : Nat) : (num n).good = true := by
  induction n with
  | zero => rfl
  | succ n ih => simp only [num, good_pair, ih]; rfl
end Tm

def TermPost (w : World) (B : Nat) (t : Tm) (e : Ending) (w' : World) : Prop := ∃ v, e = .returned v ∧ Below w.heap.size w w' ∧ TV w' B t v

theorem foldl_size (f : Tm) (us : List Tm) : (us.foldl Tm.app f).size = f.size + (us.map Tm.size).sum := by
  induction us generalizing f with
  | nil => simp
  | cons u us ih => rw [List.foldl_cons, ih]; simp [Tm.size]; omega

theorem sum_take (ns : List Nat) (k : Nat) : (ns.take k).sum ≤ ns.sum := by
  induction ns generalizing k with
  | nil => simp
  | cons n ns ih => cases k with
    | zero => simp
    | succ k => simp only [List.take_succ_cons, List.sum_cons]; have := ih k; omega

theorem applyAll_any (w : World) (B g : Nat) (f : Tm) (vf : Value) (us : List Tm) (vs : List Value) (fr : Nat × Nat) (hlen : vs.length = us.length) (hh : w.heap[g]? = some (.cells vs.toArray 33 fr))
    (hf : TV w B f vf) (hus : ∀ j (h : j < us.length), TV w B us[j] (vs[j]'(by omega))) (hB : B ≤ w.heap.size) (hz : f.size + (us.map Tm.size).sum ≤ 1000000000) (hn : us.length ≤ 1000000) :
    Calls Tryz.prog 32 #[vf, .slice (some ⟨g, 0, none⟩) us.length us.length] w (TermPost w B (us.foldl Tm.app f)) := by
  have hstart : ∃ k : Nat, Value.int .i64 0 = .int .i64 k ∧ k ≤ us.length ∧ Hid (TV w B ((us.take k).foldl Tm.app f) vf) ∧ Below w.heap.size w w := ⟨0, rfl, Nat.zero_le _, by show TV _ _ _ _; simpa using hf, Below.refl _ _⟩
  have HH := Lib.hid hh
  have HU := Lib.hid hus
  clear hf hus hh
  go_enter Tryz.func32, Tryz.ntmps32
  go_wp2_with fail
  go_loopw [0, 9] (fun v i wr => ∃ k : Nat, i = .int .i64 k ∧ k ≤ us.length ∧ Hid (TV wr B ((us.take k).foldl Tm.app f) v) ∧ Below w.heap.size w wr) (fun _ i _ => us.length - (intOf i).toNat)
  case atStart => exact hstart
  case round =>
    clear hstart
    obtain ⟨k, rfl, hk, ht, hb⟩ := hrel
    by_cases hlt : k < us.length
    · have hcell : ∀ W, Below wr.heap.size wr W → W.cell? ⟨g, k, none⟩ = some (vs[k]'(by omega)) := fun W hW => by
        have h1 : w.cell? ⟨g, k, none⟩ = some (vs[k]'(by omega)) := by
          rw [cell_of_heap HH.out]; simp [show k < vs.length by omega]
        exact cell_later' h1 _ (below_trans hb hW)
      have hu := (HU.out k hlt).below hb
      have hs1 := foldl_size f (us.take k)
      have hs2 : (us[k]).size + ((us.take k).map Tm.size).sum ≤ (us.map Tm.size).sum := by
        have h1 := sum_take (us.map Tm.size) (k + 1)
        rw [List.take_succ_eq_append_getElem (by simpa using hlt)] at h1
        simp only [List.sum_append, List.getElem_map, List.sum_cons, List.sum_nil, ← List.map_take] at h1
        omega
      have hcall := apply_any wr B _ _ _ _ ht.out hu (Nat.le_trans hB hb.size) (by omega)
      have hnext : (us.take (k + 1)).foldl Tm.app f = ((us.take k).foldl Tm.app f).app us[k] := by
        rw [List.take_succ_eq_append_getElem hlt, List.foldl_append]; rfl
      rw [← hnext] at hcall
      have c1 := hcell wr (Below.refl _ _)
      clear hcell hu hs1 hs2 hnext
      generalize vs[k]'(by omega) = vk at c1 hcall
      go_wp2_with fail
      refine hcall.mono ?_
      rintro e w1 ⟨v1, rfl, hb1, ht1⟩
      have HT1 := Lib.hid ht1
      clear ht1
      go_wp2_with fail
      go_roundw
      case rel => exact ⟨k + 1, by go_num, by omega, HT1, below_trans hb hb1⟩
      case measure => simp [intOf]; omega
    · obtain rfl : k = us.length := by omega
      have HT := Lib.hid ht.out
      rw [List.take_length] at HT
      clear ht
      go_wp2_with fail
      go_ret
      exact ⟨_, rfl, hb, HT.out⟩

/-- Several new blocks. -/
def allocL (w : World) : List Obj → World
  | [] => w
  | o :: os => allocL (w.alloc o) os

theorem allocL_below (w : World) (os : List Obj) : Below w.heap.size w (allocL w os) := by
  induction os generalizing w with
  | nil => exact Below.refl _ _
  | cons o os ih => exact below_trans (below_alloc (Below.refl _ _) o) (ih (w.alloc o))

theorem allocL_size (w : World) (os : List Obj) : (allocL w os).heap.size = w.heap.size + os.length := by
  induction os generalizing w with
  | nil => rfl
  | cons o os ih => simp only [allocL, ih, List.length_cons]; simp; omega

theorem allocL_heap (w : World) (os : List Obj) (i : Nat) (h : i < os.length) : (allocL w os).heap[w.heap.size + i]? = some os[i] := by
  induction os generalizing w i with
  | nil => simp at h
  | cons o os ih =>
    cases i with
    | zero =>
      have h1 : (w.alloc o).heap[w.heap.size]? = some o := by show (w.heap.push _)[_]? = _; simp
      exact heap_later h1 (allocL_below (w.alloc o) os)
    | succ i =>
      have := ih (w.alloc o) i (by simpa using h)
      rw [show (w.alloc o).heap.size + i = w.heap.size + (i + 1) by simp; omega] at this
      simpa only [allocL, List.getElem_cons_succ] using this

theorem identity_any (w : World) (B : Nat) (hB : B ≤ w.heap.size) : Calls Tryz.prog 124 #[] w (TermPost w B Tm.I) := by
  obtain ⟨os, hos⟩ : ∃ os : List Obj, os = [.cells #[] 91, .cells #[] 89, .cells #[] 89, .cells #[.iface 87 (.pointer (some ⟨w.heap.size + 1, 0, none⟩)), .iface 87 (.pointer (some ⟨w.heap.size + 1 + 1, 0, none⟩))] 33] := ⟨_, rfl⟩
  have hX : allocL w os = (((w.alloc (.cells #[] 91)).alloc (.cells #[] 89)).alloc (.cells #[] 89)).alloc (.cells #[.iface 87 (.pointer (some ⟨w.heap.size + 1, 0, none⟩)), .iface 87 (.pointer (some ⟨w.heap.size + 1 + 1, 0, none⟩))] 33) := by rw [hos]; rfl
  have hb := allocL_below w os
  have h0 : (allocL w os).heap[w.heap.size]? = some (.cells #[] 91 (0, 0)) := by have := allocL_heap w os 0 (by rw [hos]; simp); simpa [hos] using this
  have h1 : (allocL w os).heap[w.heap.size + 1]? = some (.cells #[] 89 (0, 0)) := by have := allocL_heap w os 1 (by rw [hos]; simp); simpa [hos] using this
  have h2 : (allocL w os).heap[w.heap.size + 1 + 1]? = some (.cells #[] 89 (0, 0)) := by have := allocL_heap w os 2 (by rw [hos]; simp); simpa [hos] using this
  have h3 : (allocL w os).heap[w.heap.size + 1 + 1 + 1]? = some (.cells ([.iface 87 (.pointer (some ⟨w.heap.size + 1, 0, none⟩)), .iface 87 (.pointer (some ⟨w.heap.size + 1 + 1, 0, none⟩))] : List Value).toArray 33 (0, 0)) := by have := allocL_heap w os 3 (by rw [hos]; simp); simpa [hos] using this
  have hcall := applyAll_any (allocL w os) B (w.heap.size + 1 + 1 + 1) .s (.iface 90 (.pointer (some ⟨w.heap.size, 0, none⟩))) [.k, .k] [.iface 87 (.pointer (some ⟨w.heap.size + 1, 0, none⟩)), .iface 87 (.pointer (some ⟨w.heap.size + 1 + 1, 0, none⟩))] (0, 0) rfl h3
    ⟨_, _, rfl, hB, h0⟩ (fun j hj => by
      match j, hj with
      | 0, _ => exact ⟨_, _, rfl, by omega, h1⟩
      | 1, _ => exact ⟨_, _, rfl, by omega, h2⟩) (Nat.le_trans hB hb.size) (by decide) (by decide)
  unfold TermPost at hcall
  rw [hX] at hcall hb
  clear h0 h1 h2 h3 hX hos
  go_enter Tryz.func124, Tryz.ntmps124
  go_wp2_with fail
  refine hcall.mono ?_
  rintro e w1 ⟨v1, rfl, hb1, ht1⟩
  have HT := Lib.hid ht1
  clear ht1 hcall
  go_wp2_with fail
  go_ret
  exact ⟨_, rfl, below_trans hb hb1, HT.out⟩

end Go.Proofs.YtfpekihdoclncaaGreat
