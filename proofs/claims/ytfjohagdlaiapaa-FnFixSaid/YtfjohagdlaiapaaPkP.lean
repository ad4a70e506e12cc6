/-
  The program's atoms: atomOf.
-/
import Derived.Test.YtfjohagdlaiapaaPkW
import Derived.Laws.OwnMore
import Derived.Test.YtfjohagdlaiapaaPkB
import Derived.Laws.AppendOwnNone
import Derived.Deep.AppendLies
import Derived.Test.YtfjohagdlaiapaaPkV
namespace Go.Proofs.Ytfjohagdlaiapaa
open Go.RowKit

set_option maxHeartbeats 1000000
set_option maxRecDepth 100000

/-- What a term is told by at its root. -/
def atV : Tm → Value
  | .k => .agg #[.int .u8 107, str []]
  | .s => .agg #[.int .u8 115, str []]
  | .nm n => .agg #[.int .u8 (n.headD 0).toNat, str n.tail]
  | .app _ _ => .agg #[.int .u8 0, str []]

theorem below_two {w : World} (o : Obj) (i j : Nat) (u v : Value) : Below w.heap.size w (((w.alloc o).setCell ⟨w.heap.size, i, none⟩ u).setCell ⟨w.heap.size, j, none⟩ v) :=
  (below_alloc (Below.refl _ _) o |>.setCell (Nat.le_refl _) _).setCell (Nat.le_refl _) _

theorem atom_k (w : World) (x : Value) : Calls Try.prog 105 #[.iface 111 x] w fun e w' => e = .returned (atV .k) ∧ Below w.heap.size w w' := by
  have ha1 := as_k_k (w.alloc (.cells #[.int .u8 0, .string ⟨#[]⟩] 142)) x
  have hh := heap_top w (.cells #[.int .u8 107, .string ⟨#[]⟩] 142)
  have z0 := cell_of_heap (i := 0) hh
  have z1 := cell_of_heap (i := 1) hh
  go_enter Try.func105, Try.ntmps105
  go_wp2_with fail
  exact bodyPost_ret (v := atV .k) (by simp [results, Try.results105, go_sem, z0, atV]) rfl ⟨rfl, below_alloc (Below.refl _ _) _⟩

theorem atom_s (w : World) (x : Value) : Calls Try.prog 105 #[.iface 116 x] w fun e w' => e = .returned (atV .s) ∧ Below w.heap.size w w' := by
  have ha1 := as_k_s (w.alloc (.cells #[.int .u8 0, .string ⟨#[]⟩] 142)) x
  have ha2 := as_s_s (w.alloc (.cells #[.int .u8 0, .string ⟨#[]⟩] 142)) x
  have hh := heap_top w (.cells #[.int .u8 115, .string ⟨#[]⟩] 142)
  have z0 := cell_of_heap (i := 0) hh
  have z1 := cell_of_heap (i := 1) hh
  go_enter Try.func105, Try.ntmps105
  go_wp2_with fail
  exact bodyPost_ret (v := atV .s) (by simp [results, Try.results105, go_sem, z0, atV]) rfl ⟨rfl, below_alloc (Below.refl _ _) _⟩

theorem as_n_n (W : World) (x : Value) : (Instr.typeAssert (.iface 118 x) 46 118 true).run Try.prog W = .ok (.tuple #[x, .bool true]) W := by kernel_rfl

theorem atom_app (w : World) (f a : Tm) (x : Value) : Calls Try.prog 105 #[.iface 127 x] w fun e w' => e = .returned (atV (.app f a)) ∧ Below w.heap.size w w' := by
  have ha1 := as_k_a (w.alloc (.cells #[.int .u8 0, .string ⟨#[]⟩] 142)) x
  have ha2 := as_s_a (w.alloc (.cells #[.int .u8 0, .string ⟨#[]⟩] 142)) x
  have ha3 := assert_nm_a (w.alloc (.cells #[.int .u8 0, .string ⟨#[]⟩] 142)) x
  have hh := heap_top w (.cells #[.int .u8 0, .string ⟨#[]⟩] 142)
  have z0 := cell_of_heap (i := 0) hh
  have z1 := cell_of_heap (i := 1) hh
  go_enter Try.func105, Try.ntmps105
  go_wp2_with fail
  exact bodyPost_ret (v := atV (.app f a)) (by simp [results, Try.results105, go_sem, z0, atV]) rfl ⟨rfl, below_alloc (Below.refl _ _) _⟩

theorem str_tail (c : UInt8) (l : List UInt8) : (⟨(c :: l).toArray⟩ : ByteArray).extract 1 (l.length + 1) = ⟨l.toArray⟩ := by
  refine ByteArray.ext (Array.ext' ?_)
  simp

theorem atom_nm (w : World) (b : Nat) (c : UInt8) (l : List UInt8) (fr : Nat × Nat) (hh : w.heap[b]? = some (.cells #[str (c :: l)] 120 fr)) : Calls Try.prog 105 #[.iface 118 (.pointer (some ⟨b, 0, none⟩))] w fun e w' => e = .returned (atV (.nm (c :: l))) ∧ Below w.heap.size w w' := by
  have ha1 := as_k_n (w.alloc (.cells #[.int .u8 0, .string ⟨#[]⟩] 142)) (.pointer (some ⟨b, 0, none⟩))
  have ha2 := as_s_n (w.alloc (.cells #[.int .u8 0, .string ⟨#[]⟩] 142)) (.pointer (some ⟨b, 0, none⟩))
  have ha3 := as_n_n (w.alloc (.cells #[.int .u8 0, .string ⟨#[]⟩] 142)) (.pointer (some ⟨b, 0, none⟩))
  have hA : Below w.heap.size w (w.alloc (.cells #[.int .u8 0, .string ⟨#[]⟩] 142)) := below_alloc (Below.refl _ _) _
  have hb := heap_later hh hA
  have c0 := cell_of_heap (i := 0) hb
  simp at c0
  have htop := heap_top w (.cells #[.int .u8 0, .string ⟨#[]⟩] 142)
  have hsz : (⟨(c :: l).toArray⟩ : ByteArray).size = l.length + 1 := by show (c :: l).toArray.size = _; simp
  have hby := fun h => byte_at (c :: l) 0 (by simp) h
  have htl := str_tail c l
  clear hh hb
  go_enter Try.func105, Try.ntmps105
  go_wp2_with fail
  go_region
  all_goals
    have hh2 := heap_top w (.cells #[.int .u8 (c.toNat : Nat), str l] 142)
    have z0 : ((w.alloc (.cells #[.int .u8 (c.toNat : Nat), str l] 142)).drew).cell? ⟨w.heap.size, 0, none⟩ = some (.int .u8 (c.toNat : Nat)) := cell_of_heap (i := 0) hh2
    have z1 : ((w.alloc (.cells #[.int .u8 (c.toNat : Nat), str l] 142)).drew).cell? ⟨w.heap.size, 1, none⟩ = some (str l) := cell_of_heap (i := 1) hh2
    clear c0 hh2
    go_wp2_with fail
    exact bodyPost_ret (v := atV (.nm (c :: l))) (by simp [results, Try.results105, go_sem, z0, z1, atV]) rfl ⟨rfl, (below_alloc (Below.refl _ _) _).drew⟩

theorem atomOf_any (w : World) (B : Nat) (t : Tm) (v : Value) (h : TV w B t v) (hg : t.good = true) : Calls Try.prog 105 #[v] w fun e w' => e = .returned (atV t) ∧ Below w.heap.size w w' := by
  cases t with
  | k => obtain ⟨b, fr, rfl, _, _⟩ := h; exact atom_k w _
  | s => obtain ⟨b, fr, rfl, _, _⟩ := h; exact atom_s w _
  | nm n =>
    obtain ⟨b, fr, rfl, _, hh⟩ := h
    cases n with
    | nil => simp [Tm.good, Tm.nameOk] at hg
    | cons c l => exact atom_nm w b c l fr hh
  | app f a => obtain ⟨b, fr, vf, va, rfl, _⟩ := h; exact atom_app w f a _
end Go.Proofs.Ytfjohagdlaiapaa

namespace Go.Proofs.Ytfjohagdlaiapaa
open Go.RowKit

set_option maxHeartbeats 2000000
set_option maxRecDepth 100000

/-- What stands at the names of a term, read along another one. -/
def Tm.mt : Tm → Tm → Option (List Tm)
  | .nm _, t => some [t]
  | .app f a, .app g b => (Tm.mt f g).bind fun xs => (Tm.mt a b).bind fun ys => some (xs ++ ys)
  | .k, .k => some []
  | .s, .s => some []
  | _, _ => none

/-- A value is the pattern of a term. -/
def PV (w : World) : Tm → Value → Prop
  | .nm _, v => ∃ b fr, v = .pointer (some ⟨b, 0, none⟩) ∧ w.heap[b]? = some (.cells #[.bool true, .int .u8 0, str [], .pointer none, .pointer none] 144 fr)
  | .k, v => ∃ b fr, v = .pointer (some ⟨b, 0, none⟩) ∧ w.heap[b]? = some (.cells #[.bool false, .int .u8 107, str [], .pointer none, .pointer none] 144 fr)
  | .s, v => ∃ b fr, v = .pointer (some ⟨b, 0, none⟩) ∧ w.heap[b]? = some (.cells #[.bool false, .int .u8 115, str [], .pointer none, .pointer none] 144 fr)
  | .app f a, v => ∃ b fr vf va, v = .pointer (some ⟨b, 0, none⟩) ∧ w.heap[b]? = some (.cells #[.bool false, .int .u8 0, str [], vf, va] 144 fr) ∧ PV w f vf ∧ PV w a va

theorem PV.below {w W : World} (hb : Below w.heap.size w W) : ∀ {u : Tm} {v : Value}, PV w u v → PV W u v
  | .nm _, _, ⟨b, fr, e, h⟩ => ⟨b, fr, e, heap_later h hb⟩
  | .k, _, ⟨b, fr, e, h⟩ => ⟨b, fr, e, heap_later h hb⟩
  | .s, _, ⟨b, fr, e, h⟩ => ⟨b, fr, e, heap_later h hb⟩
  | .app _ _, _, ⟨b, fr, vf, va, e, h, h1, h2⟩ => ⟨b, fr, vf, va, e, heap_later h hb, PV.below hb h1, PV.below hb h2⟩
theorem PV.form {w : World} : ∀ {u : Tm} {v : Value}, PV w u v → ∃ b, v = .pointer (some ⟨b, 0, none⟩)
  | .nm _, _, ⟨b, _, e, _⟩ => ⟨b, e⟩
  | .k, _, ⟨b, _, e, _⟩ => ⟨b, e⟩
  | .s, _, ⟨b, _, e, _⟩ => ⟨b, e⟩
  | .app _ _, _, ⟨b, _, _, _, e, _⟩ => ⟨b, e⟩

def PatPost (w : World) (u : Tm) (e : Ending) (w' : World) : Prop := ∃ p, e = .returned p ∧ Below w.heap.size w w' ∧ PV w' u p

theorem patternOf_any : ∀ {u : Tm} {w : World} {B : Nat} {v : Value}, TV w B u v → u.good = true → Calls Try.prog 84 #[v] w (PatPost w u) := by
  intro u
  induction u with
  | k =>
    intro w B v h hg
    have hc := atomOf_any w B .k v h hg
    obtain ⟨b, fr, rfl, _, _⟩ := h
    have ha1 := assert_nm_k w (.pointer (some ⟨b, 0, none⟩))
    have ha2 := assert_k w (.pointer (some ⟨b, 0, none⟩))
    rw [show atV .k = .agg #[.int .u8 107, str []] from rfl] at hc
    go_enter Try.func84, Try.ntmps84
    go_wp2_with fail
    refine hc.mono ?_
    rintro e w1 ⟨rfl, hb1⟩
    have hh := heap_top w1 (.cells #[.bool false, .int .u8 107, str [], .pointer none, .pointer none] 144)
    have HH := Lib.hid hh
    clear hh hc
    go_wp2_with fail
    go_ret
    exact ⟨_, rfl, below_trans hb1 (below_new w1 _), _, _, rfl, HH.out⟩
  | s =>
    intro w B v h hg
    have hc := atomOf_any w B .s v h hg
    obtain ⟨b, fr, rfl, _, _⟩ := h
    have ha1 := assert_nm_s w (.pointer (some ⟨b, 0, none⟩))
    have ha2 := assert_s w (.pointer (some ⟨b, 0, none⟩))
    rw [show atV .s = .agg #[.int .u8 115, str []] from rfl] at hc
    go_enter Try.func84, Try.ntmps84
    go_wp2_with fail
    refine hc.mono ?_
    rintro e w1 ⟨rfl, hb1⟩
    have hh := heap_top w1 (.cells #[.bool false, .int .u8 115, str [], .pointer none, .pointer none] 144)
    have HH := Lib.hid hh
    clear hh hc
    go_wp2_with fail
    go_ret
    exact ⟨_, rfl, below_trans hb1 (below_new w1 _), _, _, rfl, HH.out⟩
  | nm n =>
    intro w B v h hg
    obtain ⟨b, fr, rfl, _, _⟩ := h
    have ha1 := as_n_n w (.pointer (some ⟨b, 0, none⟩))
    have hh := heap_top w (.cells #[.bool true, .int .u8 0, str [], .pointer none, .pointer none] 144)
    have HH := Lib.hid hh
    clear hh
    go_enter Try.func84, Try.ntmps84
    go_wp2_with fail
    go_ret
    exact ⟨_, rfl, below_new w _, _, _, rfl, HH.out⟩
  | app f a ihf iha =>
    intro w B v h hg
    obtain ⟨b, fr, vf, va, rfl, hb, hh, hf, ha⟩ := h
    simp only [Tm.good, Bool.and_eq_true] at hg
    obtain ⟨T1, x1, rfl, _⟩ := hf.asks
    obtain ⟨T2, x2, rfl, _⟩ := ha.asks
    have h0 := cell_later' (cell_of_heap (i := 0) hh)
    have h1 := cell_later' (cell_of_heap (i := 1) hh)
    simp at h0 h1
    have ihf' := fun W' (hW : Below w.heap.size w W') => ihf (hf.below hW) hg.1
    have iha' := fun W' (hW : Below w.heap.size w W') => iha (ha.below hW) hg.2
    have ha1 := assert_nm_a w (.pointer (some ⟨b, 0, none⟩))
    have ha3 := assert_app w (.pointer (some ⟨b, 0, none⟩))
    have hself := Below.refl w.heap.size w
    unfold PatPost at ihf' iha'
    clear ihf iha hf ha hh hg
    go_enter Try.func84, Try.ntmps84
    go_wp2_with fail
    go_region_held3 (fun W' => Below w.heap.size w W') (first | assumption | exact hself.drew | exact below_alloc (by assumption) _ | go_keep)
      (first
        | (go_at_call_of 84 x1; refine (ihf' _ (by first | assumption | exact hself.drew)).mono ?_; rintro e w1 ⟨r1, rfl, hb1, ht1⟩; obtain ⟨q1, rfl⟩ := ht1.form; have HT1 := Lib.hid ht1; clear ht1; have hb1' := below_trans (by first | assumption | exact hself.drew) hb1)
        | (go_at_call_of 84 x2; refine (iha' _ (by assumption)).mono ?_; rintro e w2 ⟨r2, rfl, hb2, ht2⟩; obtain ⟨q2, rfl⟩ := ht2.form; have HT2 := Lib.hid ht2; clear ht2; have hb2' := below_trans (by assumption) hb2))
    all_goals
      have hh2 := heap_top w2 (.cells #[.bool false, .int .u8 0, str [], .pointer (some ⟨q1, 0, none⟩), .pointer (some ⟨q2, 0, none⟩)] 144)
      have HH := Lib.hid hh2
      clear hh2
      go_wp2_with fail
      go_ret
      exact ⟨_, rfl, below_trans hb2' (below_new w2 _), _, _, _, _, rfl, HH.out, (HT1.out.below hb2).below (below_new w2 _), HT2.out.below (below_new w2 _)⟩
end Go.Proofs.Ytfjohagdlaiapaa

namespace Go.Proofs.Ytfjohagdlaiapaa
open Go.RowKit

set_option maxHeartbeats 2000000
set_option maxRecDepth 100000

/-- A row of terms that the call owns. -/
def RowTV (w : World) (base B : Nat) (sv : Value) (l : List Tm) : Prop :=
  (l = [] ∧ sv = .slice none 0 0) ∨ (l ≠ [] ∧ ∃ vs, w.ownsRow base 46 1 sv l.length vs ∧ ∀ j (h : j < l.length), ∃ v, vs[j]? = some v ∧ TV w B l[j] v)

def RdPost (w : World) (B : Nat) (r : Option (List Tm)) (e : Ending) (w' : World) : Prop :=
  ∃ sv, e = .returned (.tuple #[sv, .bool r.isSome]) ∧ Below w.heap.size w w' ∧ ∀ l, r = some l → RowTV w' w.heap.size B sv l

theorem read_nm (w : World) (B : Nat) (n : List UInt8) (t : Tm) (p v : Value) (hp : PV w (.nm n) p) (h : TV w B t v) (_hB : B ≤ w.heap.size) : Calls Try.prog 85 #[p, v] w (RdPost w B (some [t])) := by
  obtain ⟨b, fr, rfl, hh⟩ := hp
  obtain ⟨T, x, rfl, _⟩ := h.asks
  have c0 := cell_of_heap (i := 0) hh
  simp at c0
  have hlit := World.ownsRow_lit (base := w.heap.size) (e := 46) (size := 1) w #[.iface T x] 1 (Nat.le_refl _) (by simp [maxLen]) (by simp)
  have HL := Lib.hid hlit
  have HT := Lib.hid (h.below (below_new w (.cells #[.iface T x] 46)))
  clear h hh hlit
  go_enter Try.func85, Try.ntmps85
  go_wp2_with fail
  go_ret2
  refine ⟨_, rfl, below_new w _, fun l hl => ?_⟩
  obtain rfl := Option.some.inj hl
  refine Or.inr ⟨by simp, _, HL.out, fun j hj => ?_⟩
  match j, hj with
  | 0, _ => exact ⟨_, rfl, HT.out⟩

theorem read_kk (w : World) (B : Nat) (p v : Value) (hp : PV w .k p) (h : TV w B .k v) : Calls Try.prog 85 #[p, v] w (RdPost w B (some [])) := by
  have hc := fun W (hW : Below w.heap.size w W) => atomOf_any W B .k v (h.below hW) rfl
  obtain ⟨b, fr, rfl, hh⟩ := hp
  obtain ⟨bt, frt, rfl, _, _⟩ := h
  have hself := Below.refl w.heap.size w
  have d0 := cell_later' (cell_of_heap (i := 0) hh) w hself
  have c0 := cell_of_heap (i := 0) hh
  have c1 := cell_later' (cell_of_heap (i := 1) hh)
  have c2 := cell_later' (cell_of_heap (i := 2) hh)
  simp at c0 c1 c2
  have ha := assert_k
  rw [show atV .k = .agg #[.int .u8 107, str []] from rfl] at hc
  clear hh d0
  go_enter Try.func85, Try.ntmps85
  go_wp2_with fail
  go_region_held3 (fun W' => Below w.heap.size w W') (first | assumption | exact hself.drew | exact below_alloc (by assumption) _ | go_keep)
    (first
      | (go_at_call 105; refine (hc _ (by first | assumption | exact hself.drew)).mono ?_; rintro e w1 ⟨rfl, hb1⟩; have hb1' := below_trans (by first | assumption | exact hself.drew) hb1))
  all_goals
    have hax := ha w1 (.pointer (some ⟨bt, 0, none⟩))
    go_wp2_with fail
    go_ret2
    exact ⟨_, rfl, hb1', fun l hl => by obtain rfl := Option.some.inj hl; exact Or.inl ⟨rfl, rfl⟩⟩

theorem read_ss (w : World) (B : Nat) (p v : Value) (hp : PV w .s p) (h : TV w B .s v) : Calls Try.prog 85 #[p, v] w (RdPost w B (some [])) := by
  have hc := fun W (hW : Below w.heap.size w W) => atomOf_any W B .s v (h.below hW) rfl
  obtain ⟨b, fr, rfl, hh⟩ := hp
  obtain ⟨bt, frt, rfl, _, _⟩ := h
  have hself := Below.refl w.heap.size w
  have c0 := cell_of_heap (i := 0) hh
  have c1 := cell_later' (cell_of_heap (i := 1) hh)
  have c2 := cell_later' (cell_of_heap (i := 2) hh)
  simp at c0 c1 c2
  have ha := assert_s
  rw [show atV .s = .agg #[.int .u8 115, str []] from rfl] at hc
  clear hh
  go_enter Try.func85, Try.ntmps85
  go_wp2_with fail
  go_region_held3 (fun W' => Below w.heap.size w W') (first | assumption | exact hself.drew | exact below_alloc (by assumption) _ | go_keep)
    (first
      | (go_at_call 105; refine (hc _ (by first | assumption | exact hself.drew)).mono ?_; rintro e w1 ⟨rfl, hb1⟩; have hb1' := below_trans (by first | assumption | exact hself.drew) hb1))
  all_goals
    have hax := ha w1 (.pointer (some ⟨bt, 0, none⟩))
    go_wp2_with fail
    go_ret2
    exact ⟨_, rfl, hb1', fun l hl => by obtain rfl := Option.some.inj hl; exact Or.inl ⟨rfl, rfl⟩⟩

/-- Atoms that differ. -/
theorem read_ne (w : World) (B b : Nat) (a y : Int) (d : List UInt8) (vf va v : Value) (fr : Nat × Nat) (t : Tm) (h : TV w B t v) (hg : t.good = true) (hh : w.heap[b]? = some (.cells #[.bool false, .int .u8 a, str [], vf, va] 144 fr)) (hy : atV t = .agg #[.int .u8 y, str d]) (hne : a ≠ y) : Calls Try.prog 85 #[.pointer (some ⟨b, 0, none⟩), v] w (RdPost w B none) := by
  have hc := fun W (hW : Below w.heap.size w W) => atomOf_any W B t v (h.below hW) hg
  rw [hy] at hc
  obtain ⟨T, x, rfl, _⟩ := h.asks
  have hself := Below.refl w.heap.size w
  have c0 := cell_of_heap (i := 0) hh
  have c1 := cell_later' (cell_of_heap (i := 1) hh)
  have c2 := cell_later' (cell_of_heap (i := 2) hh)
  simp at c0 c1 c2
  have hne1 : (a == y) = false := beq_eq_false_iff_ne.2 hne
  clear hh h hy
  go_enter Try.func85, Try.ntmps85
  go_wp2_with fail
  go_region_held3 (fun W' => Below w.heap.size w W') (first | assumption | exact hself.drew | exact below_alloc (by assumption) _ | go_keep)
    (first
      | (go_at_call 105; refine (hc _ (by first | assumption | exact hself.drew)).mono ?_; rintro e w1 ⟨rfl, hb1⟩; have hb1' := below_trans (by first | assumption | exact hself.drew) hb1))
  all_goals
    go_wp2_with fail
    go_ret2
    exact ⟨_, rfl, hb1', fun l hl => by cases hl⟩

/-- The letter of an atom, as a number. -/
def lett : Tm → Nat
  | .k => 107
  | .s => 115
  | .nm n => (n.headD 0).toNat
  | .app _ _ => 0
theorem atV_lett (t : Tm) : ∃ d, atV t = .agg #[.int .u8 (lett t : Nat), str d] := by
  cases t with
  | k => exact ⟨[], rfl⟩
  | s => exact ⟨[], rfl⟩
  | nm n => exact ⟨_, rfl⟩
  | app f a => exact ⟨[], rfl⟩
theorem lett_nm {n : List UInt8} (h : Tm.nameOk n = true) : 117 ≤ lett (.nm n) := by
  cases n with
  | nil => simp [Tm.nameOk] at h
  | cons c l =>
    simp only [Tm.nameOk, Tm.lead, Bool.and_eq_true, decide_eq_true_eq] at h
    have := h.1.1.1
    simp only [lett, List.headD_cons]
    exact UInt8.le_iff_toNat_le.1 this

theorem read_no {w : World} {B b a : Nat} {vf va v : Value} {fr : Nat × Nat} {t : Tm} (h : TV w B t v) (hg : t.good = true) (hh : w.heap[b]? = some (.cells #[.bool false, .int .u8 (a : Nat), str [], vf, va] 144 fr)) (hne : a ≠ lett t) : Calls Try.prog 85 #[.pointer (some ⟨b, 0, none⟩), v] w (RdPost w B none) := by
  obtain ⟨d, hd⟩ := atV_lett t
  exact read_ne w B b a (lett t) d vf va v fr t h hg hh hd (by omega)
end Go.Proofs.Ytfjohagdlaiapaa

namespace Go.Proofs.Ytfjohagdlaiapaa
open Go.RowKit

set_option maxHeartbeats 2000000
set_option maxRecDepth 100000

theorem RowTV.own {w : World} {base B : Nat} {sv : Value} {l : List Tm} (h : RowTV w base B sv l) : ∃ vs, w.ownsRow base 46 1 sv l.length vs ∧ ∀ j (h : j < l.length), ∃ v, vs[j]? = some v ∧ TV w B l[j] v := by
  rcases h with ⟨rfl, rfl⟩ | ⟨_, h⟩
  · exact ⟨[], World.ownsRow_nil _ _ _ _, fun j hj => absurd hj (by simp)⟩
  · exact h
theorem row_later {w W : World} {base : Nat} {sv : Value} {n : Nat} {vs : List Value} (h : w.ownsRow base 46 1 sv n vs) (hb : Below w.heap.size w W) : W.ownsRow base 46 1 sv n vs :=
  h.kept (row := none) ⟨hb.os, hb.tape, hb.output, hb.size, fun k hk _ => hb.block k hk⟩ (by
    cases hv : sv.ownBlock with
    | none => exact Or.inl rfl
    | some g => exact Or.inr (fun e => by cases e))
theorem row_base {w : World} {B B' n : Nat} {v : Value} {xs : List Value} (h : w.ownsRow B 46 1 v n xs) (hB : B' ≤ B) : w.ownsRow B' 46 1 v n xs := by
  refine ⟨h.1, ?_⟩
  rcases h.2 with h | ⟨g, cap, cur, e, hg, hr⟩
  · exact Or.inl h
  · exact Or.inr ⟨g, cap, cur, e, Nat.le_trans hB hg, hr⟩
theorem row_form {w : World} {base n : Nat} {v : Value} {xs : List Value} (h : w.ownsRow base 46 1 v n xs) : ∃ ao cap, v = .slice ao n cap := by
  rcases h.2 with ⟨rfl, rfl⟩ | ⟨g, cap, cur, rfl, _⟩
  · exact ⟨_, _, rfl⟩
  · exact ⟨_, _, rfl⟩
/-- Terms live through a growing row. -/
theorem TV.row {w W : World} {base n B : Nat} {sv : Value} {vs : List Value} (ho : w.ownsRow base 46 1 sv n vs) (hg : w.grownBy W sv.ownBlock) {t : Tm} {v : Value} (h : TV w B t v) : TV W B t v :=
  h.keptCells fun b cs T fr hT _ hb => by
    rw [hg.block b (Array.getElem?_eq_some_iff.1 hb).1 (fun e => by
      rcases ho.2 with ⟨rfl, _⟩ | ⟨g, cap, cur, rfl, _, hh, _⟩
      · cases e
      · injection e with e
        subst e
        rw [hb] at hh
        injection hh with hh
        injection hh with _ hh _
        exact hT hh)]
    exact hb

theorem info_termP : (Try.prog.info? 46).map (fun i => (i.zero, i.size, i.bytes)) = some (some .nilIface, 1, 16) := by kernel_rfl

theorem RdPost.own {w : World} {B : Nat} {l : List Tm} {e : Ending} {w' : World} (h : RdPost w B (some l) e w') : ∃ ao cap vs, e = .returned (.tuple #[.slice ao l.length cap, .bool true]) ∧ Below w.heap.size w w' ∧ w'.ownsRow w.heap.size 46 1 (.slice ao l.length cap) l.length vs ∧ (∀ j (h : j < l.length), ∃ v, vs[j]? = some v ∧ TV w' B l[j] v) ∧ (l = [] → ao = none ∧ cap = 0) := by
  obtain ⟨sv, rfl, hb, hr⟩ := h
  have h0 := hr l rfl
  obtain ⟨vs, ho, he⟩ := RowTV.own h0
  obtain ⟨ao, cap, rfl⟩ := row_form ho
  refine ⟨ao, cap, vs, rfl, hb, ho, he, fun hl => ?_⟩
  rcases h0 with ⟨_, h⟩ | ⟨h, _⟩
  · injection h with h1 h2 h3
    exact ⟨h1, h3⟩
  · exact absurd hl h
theorem elems_append {W : World} {B : Nat} {xs ys : List Tm} {vs us : List Value} (hl : vs.length = xs.length) (e1 : ∀ j (h : j < xs.length), ∃ v, vs[j]? = some v ∧ TV W B xs[j] v) (e2 : ∀ j (h : j < ys.length), ∃ v, us[j]? = some v ∧ TV W B ys[j] v) :
    ∀ j (h : j < (xs ++ ys).length), ∃ v, (vs ++ us)[j]? = some v ∧ TV W B (xs ++ ys)[j] v := by
  intro j h
  by_cases hj : j < xs.length
  · obtain ⟨v, h1, h2⟩ := e1 j hj
    refine ⟨v, ?_, ?_⟩
    · rw [List.getElem?_append_left (by omega)]; exact h1
    · rw [List.getElem_append_left hj]; exact h2
  · rw [List.length_append] at h
    obtain ⟨v, h1, h2⟩ := e2 (j - xs.length) (by omega)
    refine ⟨v, ?_, ?_⟩
    · rw [List.getElem?_append_right (by omega), hl]; exact h1
    · rw [List.getElem_append_right (by omega)]; exact h2

theorem mt_len : ∀ (u t : Tm) (l : List Tm), Tm.mt u t = some l → l.length ≤ u.size
  | .nm _, t, l, h => by simp only [Tm.mt] at h; obtain rfl := Option.some.inj h; simp [Tm.size]
  | .k, t, l, h => by cases t <;> simp [Tm.mt] at h; subst h; simp
  | .s, t, l, h => by cases t <;> simp [Tm.mt] at h; subst h; simp
  | .app f a, t, l, h => by
    cases t with
    | app g b =>
      simp only [Tm.mt, Option.bind_eq_some_iff] at h
      obtain ⟨xs, h1, ys, h2, h3⟩ := h
      obtain rfl := Option.some.inj h3
      have := mt_len f g xs h1
      have := mt_len a b ys h2
      simp only [List.length_append, Tm.size]
      omega
    | k => simp [Tm.mt] at h
    | s => simp [Tm.mt] at h
    | nm n => simp [Tm.mt] at h

theorem read_app (w : World) (B : Nat) (f a g b' : Tm) (p v : Value) (hp : PV w (.app f a) p) (h : TV w B (.app g b') v) (hz : f.size + a.size ≤ 1000)
    (ihf : ∀ {W : World} {p v : Value}, PV W f p → TV W B g v → B ≤ W.heap.size → Calls Try.prog 85 #[p, v] W (RdPost W B (Tm.mt f g)))
    (iha : ∀ {W : World} {p v : Value}, PV W a p → TV W B b' v → B ≤ W.heap.size → Calls Try.prog 85 #[p, v] W (RdPost W B (Tm.mt a b'))) (hgd : (Tm.app g b').good = true) (hB : B ≤ w.heap.size) :
    Calls Try.prog 85 #[p, v] w (RdPost w B (Tm.mt (.app f a) (.app g b'))) := by
  have hc := fun W (hW : Below w.heap.size w W) => atomOf_any W B (.app g b') v (h.below hW) hgd
  rw [show atV (.app g b') = .agg #[.int .u8 0, str []] from rfl] at hc
  obtain ⟨b, fr, vf, va, rfl, hh, hpf, hpa⟩ := hp
  obtain ⟨qf, rfl⟩ := hpf.form
  obtain ⟨qa, rfl⟩ := hpa.form
  obtain ⟨bt, frt, vg, vb, rfl, _, hht, htg, htb⟩ := h
  obtain ⟨T1, x1, rfl, _⟩ := htg.asks
  obtain ⟨T2, x2, rfl, _⟩ := htb.asks
  have hself := Below.refl w.heap.size w
  have c0 := cell_of_heap (i := 0) hh
  have c1 := cell_later' (cell_of_heap (i := 1) hh)
  have c2 := cell_later' (cell_of_heap (i := 2) hh)
  have c3 := cell_later' (cell_of_heap (i := 3) hh)
  have c4 := cell_later' (cell_of_heap (i := 4) hh)
  have d0 := cell_later' (cell_of_heap (i := 0) hht)
  have d1 := cell_later' (cell_of_heap (i := 1) hht)
  simp at c0 c1 c2 c3 c4 d0 d1
  have ha := assert_app
  have hcf := fun W (hW : Below w.heap.size w W) => ihf (hpf.below hW) (htg.below hW) (Nat.le_trans hB hW.size)
  have hca := fun W (hW : Below w.heap.size w W) => iha (hpa.below hW) (htb.below hW) (Nat.le_trans hB hW.size)
  unfold RdPost at hcf hca
  have hsz : w.heap.size ≤ w.heap.size := Nat.le_refl _
  clear hh hht hpf hpa htg htb ihf iha
  cases hf : Tm.mt f g with
  | none =>
    rw [show Tm.mt (.app f a) (.app g b') = none by simp [Tm.mt, hf]]
    simp only [hf] at hcf
    clear hf hca
    go_enter Try.func85, Try.ntmps85
    go_wp2_with fail
    go_region_held3 (fun W' => Below w.heap.size w W') (first | assumption | exact hself.drew | exact below_alloc (by assumption) _ | go_keep)
      (first
        | (go_at_call 105; refine (hc _ (by first | assumption | exact hself.drew)).mono ?_; rintro e w1 ⟨rfl, hb1⟩; have hb1' := below_trans (by first | assumption | exact hself.drew) hb1))
    all_goals
      have hax := ha w1 (.pointer (some ⟨bt, 0, none⟩))
      have hb1d := hb1'.drew
      go_wp2_with fail
      go_region_held3 (fun W' => Below w.heap.size w W') (first | assumption | exact hb1d | exact below_alloc (by assumption) _ | go_keep)
        (first
          | (go_at_call 85; refine (hcf _ (by first | assumption | exact hb1d)).mono ?_; rintro e w2 ⟨s2, rfl, hb2, hr2⟩; clear hr2; have hb2' := below_trans (by first | assumption | exact hb1d) hb2))
      all_goals
        go_wp2_with fail
        go_ret2
        exact ⟨_, rfl, hb2', fun l hl => by cases hl⟩
  | some xs =>
    have hx := mt_len f g xs hf
    simp only [hf] at hcf
    cases hm : Tm.mt a b' with
    | none =>
      rw [show Tm.mt (.app f a) (.app g b') = none by simp [Tm.mt, hf, hm]]
      simp only [hm] at hca
      clear hf hm
      go_enter Try.func85, Try.ntmps85
      go_wp2_with fail
      go_region_held3 (fun W' => Below w.heap.size w W') (first | assumption | exact hself.drew | exact below_alloc (by assumption) _ | go_keep)
        (first
          | (go_at_call 105; refine (hc _ (by first | assumption | exact hself.drew)).mono ?_; rintro e w1 ⟨rfl, hb1⟩; have hb1' := below_trans (by first | assumption | exact hself.drew) hb1))
      all_goals
        have hax := ha w1 (.pointer (some ⟨bt, 0, none⟩))
        have hb1d := hb1'.drew
        go_wp2_with fail
        go_region_held3 (fun W' => Below w.heap.size w W') (first | assumption | exact hb1d | exact below_alloc (by assumption) _ | go_keep)
          (first
            | (go_at_call 85; refine (hcf _ (by first | assumption | exact hb1d)).mono ?_; rintro e w2 ⟨s2, rfl, hb2, hr2⟩; clear hr2; have hb2' := below_trans (by first | assumption | exact hb1d) hb2))
        all_goals
          have hb2d := hb2'.drew
          go_wp2_with fail
          go_region_held3 (fun W' => Below w.heap.size w W') (first | assumption | exact hb2d | exact below_alloc (by assumption) _ | go_keep)
            (first
              | (go_at_call 85; refine (hca _ (by first | assumption | exact hb2d)).mono ?_; rintro e w3 ⟨s3, rfl, hb3, hr3⟩; clear hr3; have hb3' := below_trans (by first | assumption | exact hb2d) hb3))
          all_goals
            go_wp2_with fail
            go_ret2
            exact ⟨_, rfl, hb3', fun l hl => by cases hl⟩
    | some ys =>
      have hy := mt_len a b' ys hm
      rw [show Tm.mt (.app f a) (.app g b') = some (xs ++ ys) by simp [Tm.mt, hf, hm]]
      simp only [hm] at hca
      clear hf hm
      obtain ⟨i0, hi0, hz0, hz1, hz2⟩ := info_parts info_termP
      have hun : Try.prog.underlying 123 = some (.slice 46) := by kernel_rfl
      have hcf2 := fun W (hW : Below w.heap.size w W) => (hcf W hW).mono (fun e w' h => RdPost.own h)
      have hca2 := fun W (hW : Below w.heap.size w W) => (hca W hW).mono (fun e w' h => RdPost.own h)
      clear hcf hca
      go_enter Try.func85, Try.ntmps85
      go_wp2_with fail
      go_region_held3 (fun W' => Below w.heap.size w W') (first | assumption | exact hself.drew | exact below_alloc (by assumption) _ | go_keep)
        (first
          | (go_at_call 105; refine (hc _ (by first | assumption | exact hself.drew)).mono ?_; rintro e w1 ⟨rfl, hb1⟩; have hb1' := below_trans (by first | assumption | exact hself.drew) hb1))
      all_goals
        have hax := ha w1 (.pointer (some ⟨bt, 0, none⟩))
        have hb1d := hb1'.drew
        have hs1 : w.heap.size ≤ w1.heap.size := hb1'.size
        go_wp2_with fail
        go_region_held3 (fun W' => Below w.heap.size w W') (first | assumption | exact hb1d | exact below_alloc (by assumption) _ | go_keep)
          (first
            | (go_at_call 85; refine (hcf2 _ (by first | assumption | exact hb1d)).mono ?_; rintro e w2 ⟨ao2, ac2, vs2, rfl, hb2, ho2, he2, hn2⟩; have HN2 := Lib.hid hn2; have HR2 := Lib.hid (row_base ho2 (B' := w.heap.size) (by first | exact hb1d.size | exact hb1'.size)); have HE2 := Lib.hid he2; clear ho2 he2 hn2; have hb2' := below_trans (by first | assumption | exact hb1d) hb2))
        all_goals
          have hb2d := hb2'.drew
          go_wp2_with fail
          go_region_held3 (fun W' => Below w.heap.size w W') (first | assumption | exact hb2d | exact below_alloc (by assumption) _ | go_keep)
            (first
              | (go_at_call 85; refine (hca2 _ (by first | assumption | exact hb2d)).mono ?_; rintro e w3 ⟨ao3, ac3, vs3, rfl, hb3, ho3, he3, hn3⟩; have HN3 := Lib.hid hn3; have HR3 := Lib.hid ho3; have HE3 := Lib.hid he3; clear ho3 he3 hn3; have hb3' := below_trans (by first | assumption | exact hb2d) hb3))
          all_goals
            have HR2' := Lib.hid (row_later (row_later HR2.out (Below.refl _ _).drew) hb3)
            have HE2' := Lib.hid (fun j (h : j < xs.length) => (HE2.out j h).imp fun v hv => (⟨hv.1, (hv.2.below (Below.refl _ _).drew).below hb3⟩ : vs2[j]? = some v ∧ TV w3 B xs[j] v))
            clear HR2 HE2
            have hl2 := HR2'.out.1
            have hl3 := HR3.out.1
            cases ys with
            | nil =>
              obtain ⟨rfl, rfl⟩ := HN3.out rfl
              go_wp2_with (at_builtin; refine wpList_append_own_none (by rfl) _ _ 123 (by rfl) w.heap.size 46 i0 1 hun hi0 _ _ _ (by rfl) HR2'.out (by rfl) ?_)
              go_ret2
              refine ⟨_, rfl, hb3', fun l hl => ?_⟩
              obtain rfl := Option.some.inj hl
              try rw [List.append_nil]
              by_cases hxe : xs = []
              · obtain ⟨rfl, rfl⟩ := HN2.out hxe
                subst hxe
                exact Or.inl ⟨rfl, rfl⟩
              · exact Or.inr ⟨hxe, vs2, HR2'.out, HE2'.out⟩
            | cons y ys' =>
              obtain ⟨g3, q3, e3, hbg, hgl⟩ := HR3.out.form (by simp)
              injection e3 with e3 _ e4
              subst e3
              subst e4
              have hnews := HR3.out.cells (g := g3) rfl
              have hone : ∀ u ∈ vs3, u.oneCell' = true := fun u hu => by
                obtain ⟨k, hk, rfl⟩ := List.getElem_of_mem hu
                obtain ⟨v, hv, ht⟩ := HE3.out k (by omega)
                rw [List.getElem?_eq_getElem hk] at hv
                obtain rfl := Option.some.inj hv
                obtain ⟨T, x, e, _⟩ := ht.asks
                rw [e]
                rfl
              have hm : 0 < (y :: ys').length := by simp
              have hlen : xs.length + (y :: ys').length ≤ 1000 := by omega
              go_wp2_with (at_builtin; refine wpList_append_lies _ (by rfl) _ _ 123 (by rfl) w.heap.size 46 i0 .nilIface 1 16 hun hi0 hz0 hz1 hz2 rfl (by decide) _ _ _ (by rfl) HR2'.out ⟨g3, 0, none⟩ _ _ vs3 (by rfl) hl3 hnews hone hm (by unfold maxLen; omega) (by omega) hb3'.size _ rfl ?_; intro g4 q4 w4 ho4 hg4 _ hlt4; have HO4 := Lib.hid ho4; have HG4 := Lib.hid hg4; clear ho4 hg4)
              go_ret2
              refine ⟨_, rfl, hb3'.grown HG4.out hb3'.size (fun k hk => (HR2'.out.lt k hk).1), fun l hl => ?_⟩
              obtain rfl := Option.some.inj hl
              refine Or.inr ⟨by simp, vs2 ++ vs3, by rw [List.length_append]; exact HO4.out, elems_append (by omega) (fun j h => (HE2'.out j h).imp fun v hv => ⟨hv.1, hv.2.row HR2'.out HG4.out⟩) (fun j h => (HE3.out j h).imp fun v hv => ⟨hv.1, hv.2.row HR2'.out HG4.out⟩)⟩

theorem pat_any : ∀ {u t : Tm} {w : World} {B : Nat} {p v : Value}, PV w u p → TV w B t v → t.good = true → B ≤ w.heap.size → u.size ≤ 1000 → Calls Try.prog 85 #[p, v] w (RdPost w B (Tm.mt u t)) := by
  intro u
  induction u with
  | nm n =>
    intro t w B p v hp h hg hB _
    exact read_nm w B n t p v hp h hB
  | k =>
    intro t w B p v hp h hg hB _
    cases t with
    | k => exact read_kk w B p v hp h
    | s => obtain ⟨b, fr, rfl, hh⟩ := hp; exact read_no (a := 107) h hg hh (by simp [lett])
    | nm n => obtain ⟨b, fr, rfl, hh⟩ := hp; exact read_no (a := 107) h hg hh (by have := lett_nm (n := n) hg; omega)
    | app f a => obtain ⟨b, fr, rfl, hh⟩ := hp; exact read_no (a := 107) h hg hh (by simp [lett])
  | s =>
    intro t w B p v hp h hg hB _
    cases t with
    | k => obtain ⟨b, fr, rfl, hh⟩ := hp; exact read_no (a := 115) h hg hh (by simp [lett])
    | s => exact read_ss w B p v hp h
    | nm n => obtain ⟨b, fr, rfl, hh⟩ := hp; exact read_no (a := 115) h hg hh (by have := lett_nm (n := n) hg; omega)
    | app f a => obtain ⟨b, fr, rfl, hh⟩ := hp; exact read_no (a := 115) h hg hh (by simp [lett])
  | app f a ihf iha =>
    intro t w B p v hp h hg hB hz
    simp only [Tm.size] at hz
    cases t with
    | k => obtain ⟨b, fr, vf, va, rfl, hh, _⟩ := hp; exact read_no (a := 0) h hg hh (by simp [lett])
    | s => obtain ⟨b, fr, vf, va, rfl, hh, _⟩ := hp; exact read_no (a := 0) h hg hh (by simp [lett])
    | nm n => obtain ⟨b, fr, vf, va, rfl, hh, _⟩ := hp; exact read_no (a := 0) h hg hh (by have := lett_nm (n := n) hg; omega)
    | app g b' =>
      have hg' := hg
      simp only [Tm.good, Bool.and_eq_true] at hg'
      have z1 := Tm.size_pos f
      have z2 := Tm.size_pos a
      exact read_app w B f a g b' p v hp h (by omega) (fun hp ht hB => ihf hp ht hg'.1 hB (by omega)) (fun hp ht hB => iha hp ht hg'.2 hB (by omega)) hg hB
end Go.Proofs.Ytfjohagdlaiapaa

namespace Go.Proofs.Ytfjohagdlaiapaa
open Go.RowKit

set_option maxHeartbeats 2000000
set_option maxRecDepth 100000

namespace Tm
theorem mt_app_inv {f a t : Tm} {l : List Tm} (h : mt (app f a) t = some l) : ∃ g b xs ys, t = app g b ∧ mt f g = some xs ∧ mt a b = some ys ∧ l = xs ++ ys := by
  cases t with
  | app g b =>
    simp only [mt, Option.bind_eq_some_iff] at h
    obtain ⟨xs, h1, ys, h2, h3⟩ := h
    exact ⟨g, b, xs, ys, rfl, h1, h2, (Option.some.inj h3).symm⟩
  | k => simp [mt] at h
  | s => simp [mt] at h
  | nm n => simp [mt] at h
theorem mt_closed : ∀ (u t : Tm) (l : List Tm), (∀ n, has n u = false) → mt u t = some l → t = u ∧ l = []
  | .k, t, l, _, h => by cases t <;> simp [mt] at h; exact ⟨rfl, h⟩
  | .s, t, l, _, h => by cases t <;> simp [mt] at h; exact ⟨rfl, h⟩
  | .nm n, _, _, hn, _ => by have := hn n; simp [has] at this
  | .app f a, t, l, hn, h => by
    obtain ⟨g, b, xs, ys, rfl, h1, h2, rfl⟩ := mt_app_inv h
    have hf := mt_closed f g xs (fun n => by have := hn n; simp [has] at this; exact this.1) h1
    have ha := mt_closed a b ys (fun n => by have := hn n; simp [has] at this; exact this.2) h2
    rw [hf.1, ha.1, hf.2, ha.2]
    exact ⟨rfl, rfl⟩
theorem mt_self : ∀ (u : Tm), (∀ n, has n u = false) → mt u u = some []
  | .k, _ => rfl
  | .s, _ => rfl
  | .nm n, hn => by have := hn n; simp [has] at this
  | .app f a, hn => by
    simp only [mt, mt_self f (fun n => by have := hn n; simp [has] at this; exact this.1), mt_self a (fun n => by have := hn n; simp [has] at this; exact this.2)]
    rfl
theorem has_none {t : Tm} (h : names [] t = []) (n : List UInt8) : has n t = false := by
  cases hh : has n t with
  | false => rfl
  | true =>
    have := (mem_names n t []).2 (Or.inr hh)
    rw [h] at this
    cases this
theorem kC_has : ∀ n, has n kC = false := has_none (by kernel_rfl)
theorem sC_has : ∀ n, has n sC = false := has_none (by kernel_rfl)
theorem mt_appC {t : Tm} {l : List Tm} (h : mt (appC X Y) t = some l) : ∃ c d, l = [c, d] ∧ t = appC c d := by
  unfold appC pair at h
  obtain ⟨g1, b1, x1, y1, rfl, h1, h2, rfl⟩ := mt_app_inv h
  obtain ⟨g2, b2, x2, y2, rfl, h3, h4, rfl⟩ := mt_app_inv h2
  obtain ⟨g3, b3, x3, y3, rfl, h5, h6, rfl⟩ := mt_app_inv h4
  obtain ⟨g4, b4, x4, y4, rfl, h7, h8, rfl⟩ := mt_app_inv h5
  obtain ⟨g5, b5, x5, y5, rfl, h9, h10, rfl⟩ := mt_app_inv h6
  obtain ⟨g6, b6, x6, y6, rfl, h11, h12, rfl⟩ := mt_app_inv h8
  obtain ⟨g7, b7, x7, y7, rfl, h13, h14, rfl⟩ := mt_app_inv h11
  obtain ⟨g8, b8, x8, y8, rfl, h15, h16, rfl⟩ := mt_app_inv h12
  have k0 : ∀ n, has n .k = false := fun _ => rfl
  have s0 : ∀ n, has n .s = false := fun _ => rfl
  have i0 : ∀ n, has n I = false := fun _ => rfl
  obtain ⟨rfl, rfl⟩ := mt_closed _ _ _ k0 h1
  obtain ⟨rfl, rfl⟩ := mt_closed _ _ _ k0 h3
  obtain ⟨rfl, rfl⟩ := mt_closed _ _ _ s0 h7
  obtain ⟨rfl, rfl⟩ := mt_closed _ _ _ k0 h9
  obtain ⟨rfl, rfl⟩ := mt_closed _ _ _ s0 h13
  obtain ⟨rfl, rfl⟩ := mt_closed _ _ _ i0 h14
  obtain ⟨rfl, rfl⟩ := mt_closed _ _ _ k0 h15
  simp only [X, Y, mt] at h10 h16
  obtain rfl := Option.some.inj h10
  obtain rfl := Option.some.inj h16
  exact ⟨b8, b5, rfl, rfl⟩
theorem mt_appC_self (c d : Tm) : mt (appC X Y) (appC c d) = some [c, d] := rfl

/-- The term whose code a term is; n is enough steps. -/
def back : Nat → Tm → Option Tm
  | 0, _ => none
  | n + 1, t => if (mt kC t).isSome = true then some k else if (mt sC t).isSome = true then some s else match mt (appC X Y) t with
    | some [c, d] => (back n c).bind fun x => (back n d).bind fun y => some (app x y)
    | _ => none
theorem size_appC (c d : Tm) : (appC c d).size = c.size + d.size + 9 := by simp only [appC, size, size_pair]; omega
theorem back_facts : ∀ (n : Nat) (t u : Tm), back n t = some u → code u = t ∧ u.size ≤ t.size ∧ u.good = true ∧ ∀ m, has m u = false
  | 0, _, _, h => by cases h
  | n + 1, t, u, h => by
    simp only [back] at h
    split at h
    · rename_i hk
      obtain rfl := Option.some.inj h
      obtain ⟨l, hl⟩ := Option.isSome_iff_exists.1 hk
      exact ⟨(mt_closed _ _ _ kC_has hl).1.symm, size_pos t, rfl, fun _ => rfl⟩
    · split at h
      · rename_i hs
        obtain rfl := Option.some.inj h
        obtain ⟨l, hl⟩ := Option.isSome_iff_exists.1 hs
        exact ⟨(mt_closed _ _ _ sC_has hl).1.symm, size_pos t, rfl, fun _ => rfl⟩
      · split at h
        · rename_i c d hcd
          obtain ⟨c', d', e, rfl⟩ := mt_appC hcd
          simp only [List.cons.injEq, and_true] at e
          obtain ⟨rfl, rfl⟩ := e
          simp only [Option.bind_eq_some_iff] at h
          obtain ⟨x, hx, y, hy, h⟩ := h
          obtain rfl := Option.some.inj h
          obtain ⟨a1, a2, a3, a4⟩ := back_facts n _ _ hx
          obtain ⟨b1, b2, b3, b4⟩ := back_facts n _ _ hy
          refine ⟨by simp [code, a1, b1], by rw [size_appC]; simp only [size]; omega, by simp [good, a3, b3], fun m => by simp [has, a4 m, b4 m]⟩
        · cases h
def pCodeRead (l : List UInt8) : Option (List UInt8) := (parse l).bind fun t => (back t.size t).map text
end Tm

/-- A value is the reader of codes. -/
def RV (w : World) (r : Value) : Prop := ∃ b fr p1 p2 p3, r = .pointer (some ⟨b, 0, none⟩) ∧ w.heap[b]? = some (.cells #[p1, p2, p3] 122 fr) ∧ PV w Tm.kC p1 ∧ PV w Tm.sC p2 ∧ PV w (Tm.appC Tm.X Tm.Y) p3
theorem RV.below {w W : World} {r : Value} (h : RV w r) (hb : Below w.heap.size w W) : RV W r := by
  obtain ⟨b, fr, p1, p2, p3, e, hh, h1, h2, h3⟩ := h
  exact ⟨b, fr, p1, p2, p3, e, heap_later hh hb, h1.below hb, h2.below hb, h3.below hb⟩

theorem newReader_any (w : World) : Calls Try.prog 53 #[] w fun e w' => ∃ r, e = .returned r ∧ Below w.heap.size w w' ∧ RV w' r := by
  have hA1 : Below w.heap.size w (w.alloc (.cells #[] 115)) := below_alloc (Below.refl _ _) _
  have t1 : TV (w.alloc (.cells #[] 115)) w.heap.size .k (.iface 111 (.pointer (some ⟨w.heap.size, 0, none⟩))) := ⟨_, _, rfl, Nat.le_refl _, heap_top w _⟩
  have k1 := codeOf_any t1 hA1.size (by decide)
  unfold TermPost at k1
  rw [show Tm.code .k = Tm.kC from rfl] at k1
  clear t1
  go_enter Try.func53, Try.ntmps53
  go_wp2_with fail
  refine k1.mono ?_
  rintro e w1 ⟨v1, rfl, hb1, ht1⟩
  have hb01 := below_trans hA1 hb1
  have k2 := patternOf_any ht1 (by decide +kernel)
  unfold PatPost at k2
  clear ht1 k1
  go_wp2_with fail
  refine k2.mono ?_
  rintro e w2 ⟨p1, rfl, hb2, hp1⟩
  obtain ⟨q1, rfl⟩ := hp1.form
  have hb02 := below_trans hb01 hb2
  have hA2 : Below w2.heap.size w2 (w2.alloc (.cells #[] 117)) := below_alloc (Below.refl _ _) _
  have hb03 := below_trans hb02 hA2
  have t2 : TV (w2.alloc (.cells #[] 117)) w.heap.size .s (.iface 116 (.pointer (some ⟨w2.heap.size, 0, none⟩))) := ⟨_, _, rfl, hb02.size, heap_top w2 _⟩
  have k3 := codeOf_any t2 hb03.size (by decide)
  unfold TermPost at k3
  rw [show Tm.code .s = Tm.sC from rfl] at k3
  have HP1 := Lib.hid (hp1.below hA2)
  clear t2 hp1 k2
  go_wp2_with fail
  refine k3.mono ?_
  rintro e w3 ⟨v3, rfl, hb3, ht3⟩
  have hb04 := below_trans hb03 hb3
  have k4 := patternOf_any ht3 (by decide +kernel)
  unfold PatPost at k4
  clear ht3 k3
  go_wp2_with fail
  refine k4.mono ?_
  rintro e w4 ⟨p2, rfl, hb4, hp2⟩
  obtain ⟨q2, rfl⟩ := hp2.form
  have hb05 := below_trans hb04 hb4
  obtain ⟨os, hos⟩ : ∃ os : List Obj, os = [.cells #[str [120]] 120, .cells #[str [121]] 120] := ⟨_, rfl⟩
  have hX : allocL w4 os = (w4.alloc (.cells #[str [120]] 120)).alloc (.cells #[str [121]] 120) := by rw [hos]; rfl
  have hA := allocL_below w4 os
  have g0 : (allocL w4 os).heap[w4.heap.size]? = some (.cells #[str [120]] 120 (0, 0)) := by have := allocL_heap w4 os 0 (by rw [hos]; simp); simpa [hos] using this
  have g1 : (allocL w4 os).heap[w4.heap.size + 1]? = some (.cells #[str [121]] 120 (0, 0)) := by have := allocL_heap w4 os 1 (by rw [hos]; simp); simpa [hos] using this
  have hb06 := below_trans hb05 hA
  have hbs := hb05.size
  have k5 := apply_any (allocL w4 os) w.heap.size Tm.X Tm.Y _ _ (nm_val g0 hbs) (nm_val g1 (by omega)) hb06.size (by decide)
  have HP1' := Lib.hid (((HP1.out.below hb3).below hb4).below hA)
  have HP2 := Lib.hid (hp2.below hA)
  rw [hX] at k5 hb06 HP1' HP2
  clear g0 g1 hX hos hp2 k4 HP1 hA
  go_wp2_with fail
  refine k5.mono ?_
  rintro e w5 ⟨v5, rfl, hb5, ht5⟩
  have hb07 := below_trans hb06 hb5
  have k6 := codeOf_any ht5 hb07.size (by decide)
  unfold TermPost at k6
  rw [show Tm.code (.app Tm.X Tm.Y) = Tm.appC Tm.X Tm.Y from rfl] at k6
  clear ht5 k5
  go_wp2_with fail
  refine k6.mono ?_
  rintro e w6 ⟨v6, rfl, hb6, ht6⟩
  have hb08 := below_trans hb07 hb6
  have k7 := patternOf_any ht6 (by decide +kernel)
  unfold PatPost at k7
  clear ht6 k6
  go_wp2_with fail
  refine k7.mono ?_
  rintro e w7 ⟨p3, rfl, hb7, hp3⟩
  obtain ⟨q3, rfl⟩ := hp3.form
  have hb09 := below_trans hb08 hb7
  have hn := below_new w7 (.cells #[.pointer (some ⟨q1, 0, none⟩), .pointer (some ⟨q2, 0, none⟩), .pointer (some ⟨q3, 0, none⟩)] 122)
  have hh := heap_top w7 (.cells #[.pointer (some ⟨q1, 0, none⟩), .pointer (some ⟨q2, 0, none⟩), .pointer (some ⟨q3, 0, none⟩)] 122)
  have b57 := below_trans (below_trans hb5 hb6) hb7
  have HR := Lib.hid (show RV (w7.alloc (.cells #[.pointer (some ⟨q1, 0, none⟩), .pointer (some ⟨q2, 0, none⟩), .pointer (some ⟨q3, 0, none⟩)] 122)) (.pointer (some ⟨w7.heap.size, 0, none⟩)) from ⟨_, _, _, _, _, rfl, hh, (HP1'.out.below b57).below hn, (HP2.out.below b57).below hn, hp3.below hn⟩)
  clear hh hp3 k7
  go_wp2_with fail
  go_ret
  exact ⟨_, rfl, below_trans hb09 hn, HR.out⟩
end Go.Proofs.Ytfjohagdlaiapaa

namespace Go.Proofs.Ytfjohagdlaiapaa
open Go.RowKit

set_option maxHeartbeats 4000000
set_option maxRecDepth 100000

theorem rdr_step (n : Nat) (t : Tm) (w : World) (B : Nat) (r v : Value) (hr : RV w r) (h : TV w B t v) (hg : t.good = true) (hB : B ≤ w.heap.size) (hz : t.size ≤ 1000000)
    (ih : ∀ {u : Tm} {W : World} {v : Value}, RV W r → TV W B u v → u.good = true → B ≤ W.heap.size → u.size < t.size → Calls Try.prog 54 #[r, v] W (DataPost W B (Tm.back n u))) :
    Calls Try.prog 54 #[r, v] w (DataPost w B (Tm.back (n + 1) t)) := by
  have hself := Below.refl w.heap.size w
  have HR := Lib.hid hr
  obtain ⟨b, fr, p1, p2, p3, rfl, hh, hp1, hp2, hp3⟩ := hr
  obtain ⟨q1, rfl⟩ := hp1.form
  obtain ⟨q2, rfl⟩ := hp2.form
  obtain ⟨q3, rfl⟩ := hp3.form
  obtain ⟨T, x, rfl, _⟩ := h.asks
  have c0 := cell_later' (cell_of_heap (i := 0) hh)
  have c1 := cell_later' (cell_of_heap (i := 1) hh)
  have c2 := cell_later' (cell_of_heap (i := 2) hh)
  simp at c0 c1 c2
  have d0 := c0 w hself
  have k1 := pat_any hp1 h hg hB (by decide +kernel)
  have k2 := fun W (hW : Below w.heap.size w W) => pat_any (hp2.below hW) (h.below hW) hg (Nat.le_trans hB hW.size) (by decide +kernel)
  have k3 := fun W (hW : Below w.heap.size w W) => (pat_any (hp3.below hW) (h.below hW) hg (Nat.le_trans hB hW.size) (by decide +kernel))
  clear hh hp1 hp2 hp3 h
  simp only [Tm.back]
  cases h1 : (Tm.mt Tm.kC t).isSome with
  | true =>
    unfold RdPost at k1
    rw [h1] at k1
    simp only [if_true]
    clear h1 k2 k3
    go_enter Try.func54, Try.ntmps54
    go_wp2_with fail
    refine k1.mono ?_
    rintro e w1 ⟨s1, rfl, hb1, hr1⟩
    have hn := below_new w1 (.cells #[] 115)
    have ht := Lib.hid (show TV (w1.alloc (.cells #[] 115)) B .k (.iface 111 (.pointer (some ⟨w1.heap.size, 0, none⟩))) from ⟨_, _, rfl, Nat.le_trans hB hb1.size, heap_top w1 _⟩)
    clear hr1 k1
    go_wp2_with fail
    go_ret2
    exact ⟨_, rfl, below_trans hb1 hn, fun u hu => by obtain rfl := Option.some.inj hu; exact ht.out⟩
  | false =>
    unfold RdPost at k1
    rw [h1] at k1
    simp only [Bool.false_eq_true, if_false]
    cases h2 : (Tm.mt Tm.sC t).isSome with
    | true =>
      unfold RdPost at k2
      rw [h2] at k2
      simp only [if_true]
      clear h1 h2 k3
      go_enter Try.func54, Try.ntmps54
      go_wp2_with fail
      refine k1.mono ?_
      rintro e w1 ⟨s1, rfl, hb1, hr1⟩
      have k := k2 w1 hb1
      have e1 := c1 w1 hb1
      clear hr1 k1 k2
      go_wp2_with fail
      refine k.mono ?_
      rintro e w2 ⟨s2, rfl, hb2, hr2⟩
      have hb12 := below_trans hb1 hb2
      have hn := below_new w2 (.cells #[] 117)
      have ht := Lib.hid (show TV (w2.alloc (.cells #[] 117)) B .s (.iface 116 (.pointer (some ⟨w2.heap.size, 0, none⟩))) from ⟨_, _, rfl, Nat.le_trans hB hb12.size, heap_top w2 _⟩)
      clear hr2 k
      go_wp2_with fail
      go_ret2
      exact ⟨_, rfl, below_trans hb12 hn, fun u hu => by obtain rfl := Option.some.inj hu; exact ht.out⟩
    | false =>
      unfold RdPost at k2
      rw [h2] at k2
      simp only [Bool.false_eq_true, if_false]
      cases h3 : Tm.mt (Tm.appC Tm.X Tm.Y) t with
      | none =>
        unfold RdPost at k3
        simp only [h3] at k3
        clear h1 h2 h3
        go_enter Try.func54, Try.ntmps54
        go_wp2_with fail
        refine k1.mono ?_
        rintro e w1 ⟨s1, rfl, hb1, hr1⟩
        have kk2 := k2 w1 hb1
        have e1 := c1 w1 hb1
        clear hr1 k1 k2
        go_wp2_with fail
        refine kk2.mono ?_
        rintro e w2 ⟨s2, rfl, hb2, hr2⟩
        have hb12 := below_trans hb1 hb2
        have kk3 := k3 w2 hb12
        have e2 := c2 w2 hb12
        clear hr2 kk2 k3
        go_wp2_with fail
        refine kk3.mono ?_
        rintro e w3 ⟨s3, rfl, hb3, hr3⟩
        clear hr3 kk3
        go_wp2_with fail
        go_ret2
        exact ⟨_, rfl, below_trans hb12 hb3, fun u hu => by cases hu⟩
      | some l =>
        obtain ⟨cc, dd, rfl, rfl⟩ := Tm.mt_appC h3
        have k3 := fun W (hW : Below w.heap.size w W) => (k3 W hW).mono (fun e w' h => RdPost.own (by rw [h3] at h; exact h))
        have hgg : cc.good = true ∧ dd.good = true := by
          simp only [Tm.appC, Tm.good, Tm.good_pair, Bool.and_eq_true] at hg
          exact hg.2.2
        have hsz := Tm.size_appC cc dd
        have ihc := fun {W : World} {v : Value} (hR : RV W _) (hT : TV W B cc v) (hBW : B ≤ W.heap.size) => ih hR hT hgg.1 hBW (by omega)
        have ihd := fun {W : World} {v : Value} (hR : RV W _) (hT : TV W B dd v) (hBW : B ≤ W.heap.size) => ih hR hT hgg.2 hBW (by omega)
        have hfc := fun u (hu : Tm.back n cc = some u) => (Tm.back_facts n cc u hu).2.1
        have hfd := fun u (hu : Tm.back n dd = some u) => (Tm.back_facts n dd u hu).2.1
        unfold DataPost at ihc ihd
        simp only
        clear h1 h2 h3 ih hg
        generalize Tm.back n cc = rc at *
        generalize Tm.back n dd = rd at *
        cases rc with
        | none =>
          simp only [Option.bind_none]
          go_enter Try.func54, Try.ntmps54
          go_wp2_with fail
          refine k1.mono ?_
          rintro e w1 ⟨s1, rfl, hb1, hr1⟩
          have kk2 := k2 w1 hb1
          have e1 := c1 w1 hb1
          clear hr1 k1 k2
          go_wp2_with fail
          refine kk2.mono ?_
          rintro e w2 ⟨s2, rfl, hb2, hr2⟩
          have hb12 := below_trans hb1 hb2
          have kk3 := k3 w2 hb12
          have e2 := c2 w2 hb12
          clear hr2 kk2 k3
          go_wp2_with fail
          refine kk3.mono ?_
          rintro e w3 ⟨ao, cap, vs, rfl, hb3, ho3, he3, _⟩
          have hb13 := below_trans hb12 hb3
          obtain ⟨g, cp, e3, hbg, hlt⟩ := ho3.form (by simp)
          injection e3 with e3 _ _
          subst e3
          obtain ⟨v0, hv0, ht0⟩ := he3 0 (by simp)
          have y0 := ho3.cells (g := g) rfl 0 v0 hv0
          obtain ⟨T0, x0, rfl, _⟩ := ht0.asks
          have kc := ihc (HR.out.below hb13) ht0 (Nat.le_trans hB hb13.size)
          have y0 : w3.cell? ⟨g, 0, none⟩ = some (.iface T0 x0) := y0
          clear ho3 he3 kk3 ht0 hv0 ihc ihd
          go_wp2_with fail
          refine kc.mono ?_
          rintro e w4 ⟨v4, rfl, hb4, hv4⟩
          clear hv4 kc
          go_wp2_with fail
          go_ret2
          exact ⟨_, rfl, below_trans hb13 hb4, fun u hu => by cases hu⟩
        | some uc =>
          simp only [Option.bind_some]
          have hfc := hfc uc rfl
          cases rd with
          | none =>
            simp only [Option.bind_none]
            go_enter Try.func54, Try.ntmps54
            go_wp2_with fail
            refine k1.mono ?_
            rintro e w1 ⟨s1, rfl, hb1, hr1⟩
            have kk2 := k2 w1 hb1
            have e1 := c1 w1 hb1
            clear hr1 k1 k2
            go_wp2_with fail
            refine kk2.mono ?_
            rintro e w2 ⟨s2, rfl, hb2, hr2⟩
            have hb12 := below_trans hb1 hb2
            have kk3 := k3 w2 hb12
            have e2 := c2 w2 hb12
            clear hr2 kk2 k3
            go_wp2_with fail
            refine kk3.mono ?_
            rintro e w3 ⟨ao, cap, vs, rfl, hb3, ho3, he3, _⟩
            have hb13 := below_trans hb12 hb3
            obtain ⟨g, cp, e3, hbg, hlt⟩ := ho3.form (by simp)
            injection e3 with e3 _ _
            subst e3
            obtain ⟨v0, hv0, ht0⟩ := he3 0 (by simp)
            obtain ⟨v1, hv1, ht1⟩ := he3 1 (by simp)
            have y0 := ho3.cells (g := g) rfl 0 v0 hv0
            have y1 := ho3.cells (g := g) rfl 1 v1 hv1
            obtain ⟨T0, x0, rfl, _⟩ := ht0.asks
            obtain ⟨T1, x1, rfl, _⟩ := ht1.asks
            have kc := ihc (HR.out.below hb13) ht0 (Nat.le_trans hB hb13.size)
            have y0 : w3.cell? ⟨g, 0, none⟩ = some (.iface T0 x0) := y0
            have HT1 := Lib.hid ht1
            have y1' := cell_later' (show w3.cell? ⟨g, 1, none⟩ = some (.iface T1 x1) from y1)
            clear ho3 he3 kk3 ht0 ht1 hv0 hv1 ihc y1
            go_wp2_with fail
            refine kc.mono ?_
            rintro e w4 ⟨v4, rfl, hb4, hv4⟩
            have hb14 := below_trans hb13 hb4
            have y2 := y1' w4 hb4
            have kd := ihd (HR.out.below hb14) (HT1.out.below hb4) (Nat.le_trans hB hb14.size)
            clear hv4 kc y1' ihd
            go_wp2_with fail
            refine kd.mono ?_
            rintro e w5 ⟨v5, rfl, hb5, hv5⟩
            clear hv5 kd
            go_wp2_with fail
            go_ret2
            exact ⟨_, rfl, below_trans hb14 hb5, fun u hu => by cases hu⟩
          | some ud =>
            simp only [Option.bind_some]
            have hfd := hfd ud rfl
            go_enter Try.func54, Try.ntmps54
            go_wp2_with fail
            refine k1.mono ?_
            rintro e w1 ⟨s1, rfl, hb1, hr1⟩
            have kk2 := k2 w1 hb1
            have e1 := c1 w1 hb1
            clear hr1 k1 k2
            go_wp2_with fail
            refine kk2.mono ?_
            rintro e w2 ⟨s2, rfl, hb2, hr2⟩
            have hb12 := below_trans hb1 hb2
            have kk3 := k3 w2 hb12
            have e2 := c2 w2 hb12
            clear hr2 kk2 k3
            go_wp2_with fail
            refine kk3.mono ?_
            rintro e w3 ⟨ao, cap, vs, rfl, hb3, ho3, he3, _⟩
            have hb13 := below_trans hb12 hb3
            obtain ⟨g, cp, e3, hbg, hlt⟩ := ho3.form (by simp)
            injection e3 with e3 _ _
            subst e3
            obtain ⟨v0, hv0, ht0⟩ := he3 0 (by simp)
            obtain ⟨v1, hv1, ht1⟩ := he3 1 (by simp)
            have y0 := ho3.cells (g := g) rfl 0 v0 hv0
            have y1 := ho3.cells (g := g) rfl 1 v1 hv1
            obtain ⟨T0, x0, rfl, _⟩ := ht0.asks
            obtain ⟨T1, x1, rfl, _⟩ := ht1.asks
            have kc := ihc (HR.out.below hb13) ht0 (Nat.le_trans hB hb13.size)
            have y0 : w3.cell? ⟨g, 0, none⟩ = some (.iface T0 x0) := y0
            have HT1 := Lib.hid ht1
            have y1' := cell_later' (show w3.cell? ⟨g, 1, none⟩ = some (.iface T1 x1) from y1)
            clear ho3 he3 kk3 ht0 ht1 hv0 hv1 ihc y1
            go_wp2_with fail
            refine kc.mono ?_
            rintro e w4 ⟨v4, rfl, hb4, hv4⟩
            have hb14 := below_trans hb13 hb4
            have y2 := y1' w4 hb4
            have kd := ihd (HR.out.below hb14) (HT1.out.below hb4) (Nat.le_trans hB hb14.size)
            have HT4 := Lib.hid (hv4 uc rfl)
            clear hv4 kc y1' ihd
            go_wp2_with fail
            refine kd.mono ?_
            rintro e w5 ⟨v5, rfl, hb5, hv5⟩
            have hb15 := below_trans hb14 hb5
            have ka := apply_any w5 B uc ud v4 v5 (HT4.out.below hb5) (hv5 ud rfl) (Nat.le_trans hB hb15.size) (by omega)
            clear hv5 kd
            go_wp2_with fail
            refine ka.mono ?_
            rintro e w6 ⟨v6, rfl, hb6, ht6⟩
            have HT6 := Lib.hid ht6
            clear ht6 ka
            go_wp2_with fail
            go_ret2
            exact ⟨_, rfl, below_trans hb15 hb6, fun u hu => by obtain rfl := Option.some.inj hu; exact HT6.out⟩

theorem back_more : ∀ (n m : Nat) (t : Tm), t.size ≤ n → t.size ≤ m → Tm.back n t = Tm.back m t
  | 0, _, t, h, _ => by have := Tm.size_pos t; omega
  | _, 0, t, _, h => by have := Tm.size_pos t; omega
  | n + 1, m + 1, t, h1, h2 => by
    simp only [Tm.back]
    split
    · rfl
    · split
      · rfl
      · split
        · rename_i c d hcd
          obtain ⟨c', d', e, rfl⟩ := Tm.mt_appC hcd
          simp only [List.cons.injEq, and_true] at e
          obtain ⟨rfl, rfl⟩ := e
          have hz := Tm.size_appC c d
          rw [back_more n m c (by omega) (by omega), back_more n m d (by omega) (by omega)]
        · rfl

theorem rdr_any : ∀ (n : Nat) {t : Tm} {w : World} {B : Nat} {r v : Value}, t.size ≤ n → RV w r → TV w B t v → t.good = true → B ≤ w.heap.size → n ≤ 1000000 → Calls Try.prog 54 #[r, v] w (DataPost w B (Tm.back n t))
  | 0, t, _, _, _, _, h, _, _, _, _, _ => by have := Tm.size_pos t; omega
  | n + 1, t, w, B, r, v, h, hr, ht, hg, hB, hn => rdr_step n t w B r v hr ht hg hB (by omega) (fun hR hT hgu hBW hlt => rdr_any n (by omega) hR hT hgu hBW (by omega))

theorem impl_codeRead (w : World) (l : List UInt8) (hl : l.length ≤ 1000000000) :
    Calls Try.prog 18 #[str l] w (TextRes' w (Tm.pCodeRead l)) := by
  have hread := readTerm_any w _ l (Nat.le_refl _) hl
  unfold ParsePost at hread
  unfold Tm.pCodeRead
  cases hp : Tm.parse l with
  | none =>
    rw [hp] at hread
    clear hp
    go_enter Try.func18, Try.ntmps18
    go_wp2_with fail
    refine hread.mono ?_
    rintro e w1 ⟨v1, rfl, hb1, hv1⟩
    clear hv1 hread
    go_wp2_with fail
    go_ret2
    exact ⟨rfl, hb1⟩
  | some t =>
    obtain ⟨hg, hf, hs, _, _⟩ := Tm.parse_facts hp
    rw [hp] at hread
    clear hp
    show Calls _ _ _ _ (TextRes' w ((Tm.back t.size t).map Tm.text))
    have hnew := fun W => newReader_any W
    have hrd := fun W r v (hR : RV W r) (hT : TV W w.heap.size t v) (hB : w.heap.size ≤ W.heap.size) => rdr_any t.size (Nat.le_refl _) hR hT hg hB (by omega)
    unfold DataPost at hrd
    have hbf := fun u (hu : Tm.back t.size t = some u) => Tm.back_facts t.size t u hu
    generalize Tm.back t.size t = ro at *
    cases ro with
    | none =>
      go_enter Try.func18, Try.ntmps18
      go_wp2_with fail
      refine hread.mono ?_
      rintro e w1 ⟨v1, rfl, hb1, hv1⟩
      have HV1 := Lib.hid (hv1 t rfl)
      clear hv1 hread
      go_wp2_with fail
      refine (hnew w1).mono ?_
      rintro e w2 ⟨r2, rfl, hb2, hR2⟩
      have hb12 := below_trans hb1 hb2
      have k := hrd w2 r2 v1 hR2 (HV1.out.below hb2) hb12.size
      clear hrd hnew hR2
      go_wp2_with fail
      refine k.mono ?_
      rintro e w3 ⟨v3, rfl, hb3, hv3⟩
      clear hv3 k
      go_wp2_with fail
      go_ret2
      exact ⟨rfl, below_trans hb12 hb3⟩
    | some u =>
      obtain ⟨_, hsu, hgu, _⟩ := hbf u rfl
      have htx := Tm.text_le u hgu
      go_enter Try.func18, Try.ntmps18
      go_wp2_with fail
      refine hread.mono ?_
      rintro e w1 ⟨v1, rfl, hb1, hv1⟩
      have HV1 := Lib.hid (hv1 t rfl)
      clear hv1 hread
      go_wp2_with fail
      refine (hnew w1).mono ?_
      rintro e w2 ⟨r2, rfl, hb2, hR2⟩
      have hb12 := below_trans hb1 hb2
      have k := hrd w2 r2 v1 hR2 (HV1.out.below hb2) hb12.size
      clear hrd hnew hR2
      go_wp2_with fail
      refine k.mono ?_
      rintro e w3 ⟨v3, rfl, hb3, hv3⟩
      have htext := textOf_any w3 _ u v3 (hv3 u rfl) hgu (by omega)
      clear hv3 k
      go_wp2_with (go_at_call 38; refine htext.mono ?_; rintro e w7 ⟨rfl, hb7⟩)
      go_ret2
      exact ⟨rfl, below_trans (below_trans hb12 hb3) hb7⟩
end Go.Proofs.Ytfjohagdlaiapaa

namespace Go.Proofs.Ytfjohagdlaiapaa
open Go Go.RowKit

set_option maxRecDepth 100000

section
variable {P : Program} {ops : Array Oper} {Q : Exit → Act → World → Prop}

theorem wp_region_reg2 {id n : Nat} {a0 : Act} {w0 : World} (hm : P.follows .mixedOrders = true) (hn : ops.size = n + 2) (hok : regOk ops n = true) (hl1 : regLast ops n = true) (hl2 : ((List.range n).all fun j => depsOn ops (n + 1) j) = true)
    (Ext : World → World → Prop) (hrefl : ∀ w, Ext w w) (htrans : ∀ a b c, Ext a b → Ext b c → Ext a c)
    (R : Nat → Value → World → Prop) (hR : ∀ i v w w', Ext w0.drew w → R i v w → Ext w w' → R i v w')
    (hstep : ∀ i, i < n → ∀ (vs : Nat → Value) (w : World), Ext w0.drew w → (∀ j, depsOn ops i j = true → R j (vs j) w) →
      ∀ K : Act → World → Prop, (∀ v w', Ext w w' → R i v w' → K ((frame a0 ops vs).put (dstOf ops i) v) w') → OpDo P ops Q (frame a0 ops vs) i w K)
    (hA : ∀ (vs : Nat → Value) (w : World), Ext w0.drew w → (∀ i, i < n → R i (vs i) w) → ∀ K : Act → World → Prop, (∀ a' w', (∀ K' : Act → World → Prop, (∀ a w, Q .normal a w → K' a w) → OpDo P ops Q a' (n + 1) w' K') → K a' w') → OpDo P ops Q (frame a0 ops vs) n w K)
    (hB : ∀ (vs : Nat → Value) (w : World), Ext w0.drew w → (∀ i, i < n → R i (vs i) w) → ∀ K : Act → World → Prop, (∀ a' w', (∀ K' : Act → World → Prop, (∀ a w, Q .normal a w → K' a w) → OpDo P ops Q a' n w' K') → K a' w') → OpDo P ops Q (frame a0 ops vs) (n + 1) w K) : (Code.region id ops true).wp P Q a0 w0 := by
  have getSet : ∀ (listed : Array Bool) (i j : Nat), (listed.setIfInBounds i true).getD j false = if j = i ∧ i < listed.size then true else listed.getD j false := fun listed i j => by
    simp only [Array.getD_eq_getD_getElem?, Array.getElem?_setIfInBounds]
    by_cases h : i = j
    · subst h
      by_cases hi : i < listed.size
      · simp [hi]
      · simp [hi]
    · have h' : ¬ j = i := fun e => h e.symm
      simp [h, h']
  refine wp_region_any hm ?_
  refine wpAny_inv (fun listed a w => listed.size = ops.size ∧
    ((∃ vs, a = frame a0 ops vs ∧ Ext w0.drew w ∧ listed.getD n false = false ∧ listed.getD (n + 1) false = false ∧ ∀ j, listed.getD j false = true → R j (vs j) w) ∨
     ((∀ j, j < n + 1 → listed.getD j false = true) ∧ listed.getD (n + 1) false = false ∧ ∀ K' : Act → World → Prop, (∀ a w, Q .normal a w → K' a w) → OpDo P ops Q a (n + 1) w K') ∨
     ((∀ j, j < n → listed.getD j false = true) ∧ listed.getD n false = false ∧ listed.getD (n + 1) false = true ∧ ∀ K' : Act → World → Prop, (∀ a w, Q .normal a w → K' a w) → OpDo P ops Q a n w K') ∨
     ((∀ j, j < ops.size → listed.getD j false = true) ∧ Q .normal a w))) ?_ ?_ ops.size _ _ _ ?_ ⟨by simp, Or.inl ⟨_, (putAll_init a0 (dstOf ops) ops.size).symm, hrefl _, ?_, ?_, fun j hj => ?_⟩⟩
  · rintro listed a w ⟨hsz, h⟩ hr
    have hall := all_listed hsz (regOk_back hok) hr
    rcases h with ⟨vs, _, _, h1, _⟩ | ⟨_, h1, _⟩ | ⟨_, h1, _⟩ | ⟨_, hq⟩
    · have := hall n (by omega); rw [h1] at this; cases this
    · have := hall (n + 1) (by omega); rw [h1] at this; cases this
    · have := hall n (by omega); rw [h1] at this; cases this
    · exact hq
  · rintro listed a w i ⟨hsz, h⟩ hi
    obtain ⟨hlt, hun, o, ho, hdeps⟩ := ready_open hi
    have hun' : listed.getD i false = false := by
      have hls : i < listed.size := by omega
      simp only [Array.getD, hls, dif_pos] at hun ⊢
      exact hun
    have hdep : ∀ j, depsOn ops i j = true → listed.getD j false = true := fun j hj => by
      unfold depsOn at hj
      rw [ho] at hj
      simp only at hj
      rw [Array.any_eq_true] at hj
      obtain ⟨k, hk, hb⟩ := hj
      simp only [Bool.and_eq_true, beq_iff_eq] at hb
      rw [← hb.2]
      exact hdeps _ (Array.getElem_mem hk) hb.1
    have fin : ∀ {A : Act} {K2 : Act → World → Prop}, (∀ K' : Act → World → Prop, (∀ a w, K2 a w → K' a w) → OpDo P ops Q A i w K') → wpOp P ops Q i K2 A w := fun {A K2} h => wpOp_step ho (fun K' hK => by
      have := (h K' hK).out
      rw [ho] at this
      exact this)
    have hsz' : (listed.setIfInBounds i true).size = ops.size := by simpa using hsz
    have d1 : ∀ j, j < n → depsOn ops n j = true := fun j hj => List.all_eq_true.1 hl1 j (List.mem_range.2 hj)
    have d2 : ∀ j, j < n → depsOn ops (n + 1) j = true := fun j hj => List.all_eq_true.1 hl2 j (List.mem_range.2 hj)
    have hil : i < listed.size := by omega
    have same : ∀ j, listed.getD j false = true → (listed.setIfInBounds i true).getD j false = true := fun j hj => by rw [getSet]; split <;> simp [hj]
    have here : (listed.setIfInBounds i true).getD i false = true := by rw [getSet]; simp [hil]
    have other : ∀ j, j ≠ i → listed.getD j false = false → (listed.setIfInBounds i true).getD j false = false := fun j hne hj => by rw [getSet]; simp [hne, hj]
    rcases h with ⟨vs, rfl, hE, h1, h2, hj⟩ | ⟨h1, h2, hp⟩ | ⟨h1, h2, h3, hp⟩ | ⟨h1, hq⟩
    · by_cases hin : i < n
      · refine fin (fun K' hK => hstep i hin vs w hE (fun j hjd => hj j (hdep j hjd)) K' (fun v w' he hr => hK _ _ ⟨hsz', Or.inl ⟨fun j => if j = i then v else vs j, ?_, htrans _ _ _ hE he, other n (by omega) h1, other (n + 1) (by omega) h2, fun j hjl => ?_⟩⟩))
        · exact (putAll_upd a0 (dstOf ops) vs i v ops.size hlt (fun j hj' hne => regOk_dst hok i j hin hj' hne)).symm
        · by_cases hji : j = i
          · subst hji; simpa using hr
          · simp only [hji, if_false]
            refine hR j _ w w' hE (hj j ?_) he
            rw [getSet, if_neg (fun h => hji h.1)] at hjl
            exact hjl
      · by_cases hi0 : i = n
        · subst hi0
          refine fin (fun K' hK => hA vs w hE (fun j hjn => hj j (hdep j (d1 j hjn))) K' (fun a' w' hp => hK _ _ ⟨hsz', Or.inr (Or.inl ⟨fun j hjn => ?_, other _ (by omega) h2, hp⟩)⟩))
          by_cases hji : j = i
          · rw [hji]; exact here
          · exact same j (hdep j (d1 j (by omega)))
        · obtain rfl : i = n + 1 := by omega
          refine fin (fun K' hK => hB vs w hE (fun j hjn => hj j (hdep j (d2 j hjn))) K' (fun a' w' hp => hK _ _ ⟨hsz', Or.inr (Or.inr (Or.inl ⟨fun j hjn => same j (hdep j (d2 j hjn)), other n (by omega) h1, here, hp⟩))⟩))
    · have hi1 : i = n + 1 := by
        by_cases hlt' : i < n + 1
        · have := h1 i hlt'; rw [hun'] at this; cases this
        · omega
      subst hi1
      refine fin (fun K' hK => hp K' (fun a w hq => hK _ _ ⟨hsz', Or.inr (Or.inr (Or.inr ⟨fun j hjs => ?_, hq⟩))⟩))
      by_cases hji : j = n + 1
      · rw [hji]; exact here
      · exact same j (h1 j (by omega))
    · have hi1 : i = n := by
        by_cases hlt' : i < n
        · have := h1 i hlt'; rw [hun'] at this; cases this
        · by_cases he : i = n + 1
          · rw [he, h3] at hun'; cases hun'
          · omega
      subst hi1
      refine fin (fun K' hK => hp K' (fun a w hq => hK _ _ ⟨hsz', Or.inr (Or.inr (Or.inr ⟨fun j hjs => ?_, hq⟩))⟩))
      by_cases hji : j = i
      · rw [hji]; exact here
      · by_cases hjn : j = i + 1
        · rw [hjn]; exact same _ h3
        · exact same j (h1 j (by omega))
    · have := h1 i hlt; rw [hun'] at this; cases this
  · have := List.countP_le_length (p := fun b : Bool => !b) (l := (Array.replicate ops.size false).toList)
    unfold openN
    simpa using this
  · rw [Array.getD_eq_getD_getElem?, Array.getElem?_replicate]; split <;> rfl
  · rw [Array.getD_eq_getD_getElem?, Array.getElem?_replicate]; split <;> rfl
  · rw [Array.getD_eq_getD_getElem?, Array.getElem?_replicate] at hj; split at hj <;> cases hj
end
end Go.Proofs.Ytfjohagdlaiapaa
