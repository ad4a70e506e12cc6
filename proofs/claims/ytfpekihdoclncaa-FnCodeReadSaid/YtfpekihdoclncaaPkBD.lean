/-
  The program's atoms: atomOf.
-/
import Derived.Test.YtfpekihdoclncaaPkAX
import Derived.Laws.OwnMore
namespace Go.Proofs.Ytfpekihdoclncaa
open Go.RowKit

set_option maxHeartbeats 1000000
set_option maxRecDepth 100000

/-- What a term is told by at its root. -/
def atV : Tm → Value
  | .k => .agg #[.int .u8 107, str []]
  | .s => .agg #[.int .u8 115, str []]
  | .nm n => .agg #[.int .u8 (n.headD 0).toNat, str n.tail]
  | .app _ _ => .agg #[.int .u8 0, str []]

theorem below_two {w : World} (o : Obj) (i j : Nat) (u v : Value) : Below w.heap.size w (((w.alloc o).setCell ⟨w.heap.size, i, none⟩ u).setCell ⟨w.heap.size, j, none⟩ v) :=
  (below_alloc (Below.refl _ _) o |>.setCell (Nat.le_refl _) _).setCell (Nat.le_refl _) _

theorem atom_k (w : World) (x : Value) : Calls Try.prog 95 #[.iface 72 x] w fun e w' => e = .returned (atV .k) ∧ Below w.heap.size w w' := by
  have ha1 := as_k_k (w.alloc (.cells #[.int .u8 0, .string ⟨#[]⟩] 128)) x
  have hh := heap_top w (.cells #[.int .u8 107, .string ⟨#[]⟩] 128)
  have z0 := cell_of_heap (i := 0) hh
  have z1 := cell_of_heap (i := 1) hh
  go_enter Try.func95, Try.ntmps95
  go_wp2_with fail
  exact bodyPost_ret (v := atV .k) (by simp [results, Try.results95, go_sem, z0, atV]) rfl ⟨rfl, below_alloc (Below.refl _ _) _⟩

theorem atom_s (w : World) (x : Value) : Calls Try.prog 95 #[.iface 77 x] w fun e w' => e = .returned (atV .s) ∧ Below w.heap.size w w' := by
  have ha1 := as_k_s (w.alloc (.cells #[.int .u8 0, .string ⟨#[]⟩] 128)) x
  have ha2 := as_s_s (w.alloc (.cells #[.int .u8 0, .string ⟨#[]⟩] 128)) x
  have hh := heap_top w (.cells #[.int .u8 115, .string ⟨#[]⟩] 128)
  have z0 := cell_of_heap (i := 0) hh
  have z1 := cell_of_heap (i := 1) hh
  go_enter Try.func95, Try.ntmps95
  go_wp2_with fail
  exact bodyPost_ret (v := atV .s) (by simp [results, Try.results95, go_sem, z0, atV]) rfl ⟨rfl, below_alloc (Below.refl _ _) _⟩

theorem as_n_n (W : World) (x : Value) : (Instr.typeAssert (.iface 85 x) 39 85 true).run Try.prog W = .ok (.tuple #[x, .bool true]) W := by kernel_rfl

theorem atom_app (w : World) (f a : Tm) (x : Value) : Calls Try.prog 95 #[.iface 81 x] w fun e w' => e = .returned (atV (.app f a)) ∧ Below w.heap.size w w' := by
  have ha1 := as_k_a (w.alloc (.cells #[.int .u8 0, .string ⟨#[]⟩] 128)) x
  have ha2 := as_s_a (w.alloc (.cells #[.int .u8 0, .string ⟨#[]⟩] 128)) x
  have ha3 := assert_nm_a (w.alloc (.cells #[.int .u8 0, .string ⟨#[]⟩] 128)) x
  have hh := heap_top w (.cells #[.int .u8 0, .string ⟨#[]⟩] 128)
  have z0 := cell_of_heap (i := 0) hh
  have z1 := cell_of_heap (i := 1) hh
  go_enter Try.func95, Try.ntmps95
  go_wp2_with fail
  exact bodyPost_ret (v := atV (.app f a)) (by simp [results, Try.results95, go_sem, z0, atV]) rfl ⟨rfl, below_alloc (Below.refl _ _) _⟩

theorem str_tail (c : UInt8) (l : List UInt8) : (⟨(c :: l).toArray⟩ : ByteArray).extract 1 (l.length + 1) = ⟨l.toArray⟩ := by
  refine ByteArray.ext (Array.ext' ?_)
  simp

theorem atom_nm (w : World) (b : Nat) (c : UInt8) (l : List UInt8) (fr : Nat × Nat) (hh : w.heap[b]? = some (.cells #[str (c :: l)] 87 fr)) : Calls Try.prog 95 #[.iface 85 (.pointer (some ⟨b, 0, none⟩))] w fun e w' => e = .returned (atV (.nm (c :: l))) ∧ Below w.heap.size w w' := by
  have ha1 := as_k_n (w.alloc (.cells #[.int .u8 0, .string ⟨#[]⟩] 128)) (.pointer (some ⟨b, 0, none⟩))
  have ha2 := as_s_n (w.alloc (.cells #[.int .u8 0, .string ⟨#[]⟩] 128)) (.pointer (some ⟨b, 0, none⟩))
  have ha3 := as_n_n (w.alloc (.cells #[.int .u8 0, .string ⟨#[]⟩] 128)) (.pointer (some ⟨b, 0, none⟩))
  have hA : Below w.heap.size w (w.alloc (.cells #[.int .u8 0, .string ⟨#[]⟩] 128)) := below_alloc (Below.refl _ _) _
  have hb := heap_later hh hA
  have c0 := cell_of_heap (i := 0) hb
  simp at c0
  have htop := heap_top w (.cells #[.int .u8 0, .string ⟨#[]⟩] 128)
  have hsz : (⟨(c :: l).toArray⟩ : ByteArray).size = l.length + 1 := by show (c :: l).toArray.size = _; simp
  have hby := fun h => byte_at (c :: l) 0 (by simp) h
  have htl := str_tail c l
  clear hh hb
  go_enter Try.func95, Try.ntmps95
  go_wp2_with fail
  go_region
  all_goals
    have hh2 := heap_top w (.cells #[.int .u8 (c.toNat : Nat), str l] 128)
    have z0 : ((w.alloc (.cells #[.int .u8 (c.toNat : Nat), str l] 128)).drew).cell? ⟨w.heap.size, 0, none⟩ = some (.int .u8 (c.toNat : Nat)) := cell_of_heap (i := 0) hh2
    have z1 : ((w.alloc (.cells #[.int .u8 (c.toNat : Nat), str l] 128)).drew).cell? ⟨w.heap.size, 1, none⟩ = some (str l) := cell_of_heap (i := 1) hh2
    clear c0 hh2
    go_wp2_with fail
    exact bodyPost_ret (v := atV (.nm (c :: l))) (by simp [results, Try.results95, go_sem, z0, z1, atV]) rfl ⟨rfl, (below_alloc (Below.refl _ _) _).drew⟩

theorem atomOf_any (w : World) (B : Nat) (t : Tm) (v : Value) (h : TV w B t v) (hg : t.good = true) : Calls Try.prog 95 #[v] w fun e w' => e = .returned (atV t) ∧ Below w.heap.size w w' := by
  cases t with
  | k => obtain ⟨b, fr, rfl, _, _⟩ := h; exact atom_k w _
  | s => obtain ⟨b, fr, rfl, _, _⟩ := h; exact atom_s w _
  | nm n =>
    obtain ⟨b, fr, rfl, _, hh⟩ := h
    cases n with
    | nil => simp [Tm.good, Tm.nameOk] at hg
    | cons c l => exact atom_nm w b c l fr hh
  | app f a => obtain ⟨b, fr, vf, va, rfl, _⟩ := h; exact atom_app w f a _
end Go.Proofs.Ytfpekihdoclncaa

namespace Go.Proofs.Ytfpekihdoclncaa
open Go.RowKit

set_option maxHeartbeats 2000000
set_option maxRecDepth 100000

/-- What stands at the names of a term, read along another one. -/
def Tm.mt : Tm → Tm → Option (List Tm)
  | .nm _, t => some [t]
  | .app f a, .app g b => (Tm.mt f g).bind fun xs => (Tm.mt a b).bind fun ys => some (xs ++ ys)
  | .k, .k => some []
  | .s, .s => some []
  | _, _ => none

/-- A value is the pattern of a term. -/
def PV (w : World) : Tm → Value → Prop
  | .nm _, v => ∃ b fr, v = .pointer (some ⟨b, 0, none⟩) ∧ w.heap[b]? = some (.cells #[.bool true, .int .u8 0, str [], .pointer none, .pointer none] 130 fr)
  | .k, v => ∃ b fr, v = .pointer (some ⟨b, 0, none⟩) ∧ w.heap[b]? = some (.cells #[.bool false, .int .u8 107, str [], .pointer none, .pointer none] 130 fr)
  | .s, v => ∃ b fr, v = .pointer (some ⟨b, 0, none⟩) ∧ w.heap[b]? = some (.cells #[.bool false, .int .u8 115, str [], .pointer none, .pointer none] 130 fr)
  | .app f a, v => ∃ b fr vf va, v = .pointer (some ⟨b, 0, none⟩) ∧ w.heap[b]? = some (.cells #[.bool false, .int .u8 0, str [], vf, va] 130 fr) ∧ PV w f vf ∧ PV w a va

theorem PV.below {w W : World} (hb : Below w.heap.size w W) : ∀ {u : Tm} {v : Value}, PV w u v → PV W u v
  | .nm _, _, ⟨b, fr, e, h⟩ => ⟨b, fr, e, heap_later h hb⟩
  | .k, _, ⟨b, fr, e, h⟩ => ⟨b, fr, e, heap_later h hb⟩
  | .s, _, ⟨b, fr, e, h⟩ => ⟨b, fr, e, heap_later h hb⟩
  | .app _ _, _, ⟨b, fr, vf, va, e, h, h1, h2⟩ => ⟨b, fr, vf, va, e, heap_later h hb, PV.below hb h1, PV.below hb h2⟩
theorem PV.form {w : World} : ∀ {u : Tm} {v : Value}, PV w u v → ∃ b, v = .pointer (some ⟨b, 0, none⟩)
  | .nm _, _, ⟨b, _, e, _⟩ => ⟨b, e⟩
  | .k, _, ⟨b, _, e, _⟩ => ⟨b, e⟩
  | .s, _, ⟨b, _, e, _⟩ => ⟨b, e⟩
  | .app _ _, _, ⟨b, _, _, _, e, _⟩ => ⟨b, e⟩

def PatPost (w : World) (u : Tm) (e : Ending) (w' : World) : Prop := ∃ p, e = .returned p ∧ Below w.heap.size w w' ∧ PV w' u p

theorem patternOf_any : ∀ {u : Tm} {w : World} {B : Nat} {v : Value}, TV w B u v → u.good = true → Calls Try.prog 75 #[v] w (PatPost w u) := by
  intro u
  induction u with
  | k =>
    intro w B v h hg
    have hc := atomOf_any w B .k v h hg
    obtain ⟨b, fr, rfl, _, _⟩ := h
    have ha1 := assert_nm_k w (.pointer (some ⟨b, 0, none⟩))
    have ha2 := assert_k w (.pointer (some ⟨b, 0, none⟩))
    rw [show atV .k = .agg #[.int .u8 107, str []] from rfl] at hc
    go_enter Try.func75, Try.ntmps75
    go_wp2_with fail
    refine hc.mono ?_
    rintro e w1 ⟨rfl, hb1⟩
    have hh := heap_top w1 (.cells #[.bool false, .int .u8 107, str [], .pointer none, .pointer none] 130)
    have HH := Lib.hid hh
    clear hh hc
    go_wp2_with fail
    go_ret
    exact ⟨_, rfl, below_trans hb1 (below_new w1 _), _, _, rfl, HH.out⟩
  | s =>
    intro w B v h hg
    have hc := atomOf_any w B .s v h hg
    obtain ⟨b, fr, rfl, _, _⟩ := h
    have ha1 := assert_nm_s w (.pointer (some ⟨b, 0, none⟩))
    have ha2 := assert_s w (.pointer (some ⟨b, 0, none⟩))
    rw [show atV .s = .agg #[.int .u8 115, str []] from rfl] at hc
    go_enter Try.func75, Try.ntmps75
    go_wp2_with fail
    refine hc.mono ?_
    rintro e w1 ⟨rfl, hb1⟩
    have hh := heap_top w1 (.cells #[.bool false, .int .u8 115, str [], .pointer none, .pointer none] 130)
    have HH := Lib.hid hh
    clear hh hc
    go_wp2_with fail
    go_ret
    exact ⟨_, rfl, below_trans hb1 (below_new w1 _), _, _, rfl, HH.out⟩
  | nm n =>
    intro w B v h hg
    obtain ⟨b, fr, rfl, _, _⟩ := h
    have ha1 := as_n_n w (.pointer (some ⟨b, 0, none⟩))
    have hh := heap_top w (.cells #[.bool true, .int .u8 0, str [], .pointer none, .pointer none] 130)
    have HH := Lib.hid hh
    clear hh
    go_enter Try.func75, Try.ntmps75
    go_wp2_with fail
    go_ret
    exact ⟨_, rfl, below_new w _, _, _, rfl, HH.out⟩
  | app f a ihf iha =>
    intro w B v h hg
    obtain ⟨b, fr, vf, va, rfl, hb, hh, hf, ha⟩ := h
    simp only [Tm.good, Bool.and_eq_true] at hg
    obtain ⟨T1, x1, rfl, _⟩ := hf.asks
    obtain ⟨T2, x2, rfl, _⟩ := ha.asks
    have h0 := cell_later' (cell_of_heap (i := 0) hh)
    have h1 := cell_later' (cell_of_heap (i := 1) hh)
    simp at h0 h1
    have ihf' := fun W' (hW : Below w.heap.size w W') => ihf (hf.below hW) hg.1
    have iha' := fun W' (hW : Below w.heap.size w W') => iha (ha.below hW) hg.2
    have ha1 := assert_nm_a w (.pointer (some ⟨b, 0, none⟩))
    have ha3 := assert_app w (.pointer (some ⟨b, 0, none⟩))
    have hself := Below.refl w.heap.size w
    unfold PatPost at ihf' iha'
    clear ihf iha hf ha hh hg
    go_enter Try.func75, Try.ntmps75
    go_wp2_with fail
    go_region_held3 (fun W' => Below w.heap.size w W') (first | assumption | exact hself.drew | exact below_alloc (by assumption) _ | go_keep)
      (first
        | (go_at_call_of 75 x1; refine (ihf' _ (by first | assumption | exact hself.drew)).mono ?_; rintro e w1 ⟨r1, rfl, hb1, ht1⟩; obtain ⟨q1, rfl⟩ := ht1.form; have HT1 := Lib.hid ht1; clear ht1; have hb1' := below_trans (by first | assumption | exact hself.drew) hb1)
        | (go_at_call_of 75 x2; refine (iha' _ (by assumption)).mono ?_; rintro e w2 ⟨r2, rfl, hb2, ht2⟩; obtain ⟨q2, rfl⟩ := ht2.form; have HT2 := Lib.hid ht2; clear ht2; have hb2' := below_trans (by assumption) hb2))
    all_goals
      have hh2 := heap_top w2 (.cells #[.bool false, .int .u8 0, str [], .pointer (some ⟨q1, 0, none⟩), .pointer (some ⟨q2, 0, none⟩)] 130)
      have HH := Lib.hid hh2
      clear hh2
      go_wp2_with fail
      go_ret
      exact ⟨_, rfl, below_trans hb2' (below_new w2 _), _, _, _, _, rfl, HH.out, (HT1.out.below hb2).below (below_new w2 _), HT2.out.below (below_new w2 _)⟩
end Go.Proofs.Ytfpekihdoclncaa

namespace Go.Proofs.Ytfpekihdoclncaa
open Go.RowKit

set_option maxHeartbeats 2000000
set_option maxRecDepth 100000

/-- A row of terms that the call owns. -/
def RowTV (w : World) (base B : Nat) (sv : Value) (l : List Tm) : Prop :=
  (l = [] ∧ sv = .slice none 0 0) ∨ (l ≠ [] ∧ ∃ vs, w.ownsRow base 39 1 sv l.length vs ∧ ∀ j (h : j < l.length), ∃ v, vs[j]? = some v ∧ TV w B l[j] v)

def RdPost (w : World) (B : Nat) (r : Option (List Tm)) (e : Ending) (w' : World) : Prop :=
  ∃ sv, e = .returned (.tuple #[sv, .bool r.isSome]) ∧ Below w.heap.size w w' ∧ ∀ l, r = some l → RowTV w' w.heap.size B sv l

theorem read_nm (w : World) (B : Nat) (n : List UInt8) (t : Tm) (p v : Value) (hp : PV w (.nm n) p) (h : TV w B t v) (_hB : B ≤ w.heap.size) : Calls Try.prog 76 #[p, v] w (RdPost w B (some [t])) := by
  obtain ⟨b, fr, rfl, hh⟩ := hp
  obtain ⟨T, x, rfl, _⟩ := h.asks
  have c0 := cell_of_heap (i := 0) hh
  simp at c0
  have hlit := World.ownsRow_lit (base := w.heap.size) (e := 39) (size := 1) w #[.iface T x] 1 (Nat.le_refl _) (by simp [maxLen]) (by simp)
  have HL := Lib.hid hlit
  have HT := Lib.hid (h.below (below_new w (.cells #[.iface T x] 39)))
  clear h hh hlit
  go_enter Try.func76, Try.ntmps76
  go_wp2_with fail
  go_ret2
  refine ⟨_, rfl, below_new w _, fun l hl => ?_⟩
  obtain rfl := Option.some.inj hl
  refine Or.inr ⟨by simp, _, HL.out, fun j hj => ?_⟩
  match j, hj with
  | 0, _ => exact ⟨_, rfl, HT.out⟩

theorem read_kk (w : World) (B : Nat) (p v : Value) (hp : PV w .k p) (h : TV w B .k v) : Calls Try.prog 76 #[p, v] w (RdPost w B (some [])) := by
  have hc := fun W (hW : Below w.heap.size w W) => atomOf_any W B .k v (h.below hW) rfl
  obtain ⟨b, fr, rfl, hh⟩ := hp
  obtain ⟨bt, frt, rfl, _, _⟩ := h
  have hself := Below.refl w.heap.size w
  have d0 := cell_later' (cell_of_heap (i := 0) hh) w hself
  have c0 := cell_of_heap (i := 0) hh
  have c1 := cell_later' (cell_of_heap (i := 1) hh)
  have c2 := cell_later' (cell_of_heap (i := 2) hh)
  simp at c0 c1 c2
  have ha := assert_k
  rw [show atV .k = .agg #[.int .u8 107, str []] from rfl] at hc
  clear hh d0
  go_enter Try.func76, Try.ntmps76
  go_wp2_with fail
  go_region_held3 (fun W' => Below w.heap.size w W') (first | assumption | exact hself.drew | exact below_alloc (by assumption) _ | go_keep)
    (first
      | (go_at_call 95; refine (hc _ (by first | assumption | exact hself.drew)).mono ?_; rintro e w1 ⟨rfl, hb1⟩; have hb1' := below_trans (by first | assumption | exact hself.drew) hb1))
  all_goals
    have hax := ha w1 (.pointer (some ⟨bt, 0, none⟩))
    go_wp2_with fail
    go_ret2
    exact ⟨_, rfl, hb1', fun l hl => by obtain rfl := Option.some.inj hl; exact Or.inl ⟨rfl, rfl⟩⟩

theorem read_ss (w : World) (B : Nat) (p v : Value) (hp : PV w .s p) (h : TV w B .s v) : Calls Try.prog 76 #[p, v] w (RdPost w B (some [])) := by
  have hc := fun W (hW : Below w.heap.size w W) => atomOf_any W B .s v (h.below hW) rfl
  obtain ⟨b, fr, rfl, hh⟩ := hp
  obtain ⟨bt, frt, rfl, _, _⟩ := h
  have hself := Below.refl w.heap.size w
  have c0 := cell_of_heap (i := 0) hh
  have c1 := cell_later' (cell_of_heap (i := 1) hh)
  have c2 := cell_later' (cell_of_heap (i := 2) hh)
  simp at c0 c1 c2
  have ha := assert_s
  rw [show atV .s = .agg #[.int .u8 115, str []] from rfl] at hc
  clear hh
  go_enter Try.func76, Try.ntmps76
  go_wp2_with fail
  go_region_held3 (fun W' => Below w.heap.size w W') (first | assumption | exact hself.drew | exact below_alloc (by assumption) _ | go_keep)
    (first
      | (go_at_call 95; refine (hc _ (by first | assumption | exact hself.drew)).mono ?_; rintro e w1 ⟨rfl, hb1⟩; have hb1' := below_trans (by first | assumption | exact hself.drew) hb1))
  all_goals
    have hax := ha w1 (.pointer (some ⟨bt, 0, none⟩))
    go_wp2_with fail
    go_ret2
    exact ⟨_, rfl, hb1', fun l hl => by obtain rfl := Option.some.inj hl; exact Or.inl ⟨rfl, rfl⟩⟩

/-- Atoms that differ. -/
theorem read_ne (w : World) (B b : Nat) (a y : Int) (d : List UInt8) (vf va v : Value) (fr : Nat × Nat) (t : Tm) (h : TV w B t v) (hg : t.good = true) (hh : w.heap[b]? = some (.cells #[.bool false, .int .u8 a, str [], vf, va] 130 fr)) (hy : atV t = .agg #[.int .u8 y, str d]) (hne : a ≠ y) : Calls Try.prog 76 #[.pointer (some ⟨b, 0, none⟩), v] w (RdPost w B none) := by
  have hc := fun W (hW : Below w.heap.size w W) => atomOf_any W B t v (h.below hW) hg
  rw [hy] at hc
  obtain ⟨T, x, rfl, _⟩ := h.asks
  have hself := Below.refl w.heap.size w
  have c0 := cell_of_heap (i := 0) hh
  have c1 := cell_later' (cell_of_heap (i := 1) hh)
  have c2 := cell_later' (cell_of_heap (i := 2) hh)
  simp at c0 c1 c2
  have hne1 : (a == y) = false := beq_eq_false_iff_ne.2 hne
  clear hh h hy
  go_enter Try.func76, Try.ntmps76
  go_wp2_with fail
  go_region_held3 (fun W' => Below w.heap.size w W') (first | assumption | exact hself.drew | exact below_alloc (by assumption) _ | go_keep)
    (first
      | (go_at_call 95; refine (hc _ (by first | assumption | exact hself.drew)).mono ?_; rintro e w1 ⟨rfl, hb1⟩; have hb1' := below_trans (by first | assumption | exact hself.drew) hb1))
  all_goals
    go_wp2_with fail
    go_ret2
    exact ⟨_, rfl, hb1', fun l hl => by cases hl⟩

/-- The letter of an atom, as a number. -/
def lett : Tm → Nat
  | .k => 107
  | .s => 115
  | .nm n => (n.headD 0).toNat
  | .app _ _ => 0
theorem atV_lett (t : Tm) : ∃ d, atV t = .agg #[.int .u8 (lett t : Nat), str d] := by
  cases t with
  | k => exact ⟨[], rfl⟩
  | s => exact ⟨[], rfl⟩
  | nm n => exact ⟨_, rfl⟩
  | app f a => exact ⟨[], rfl⟩
theorem lett_nm {n : List UInt8} (h : Tm.nameOk n = true) : 117 ≤ lett (.nm n) := by
  cases n with
  | nil => simp [Tm.nameOk] at h
  | cons c l =>
    simp only [Tm.nameOk, Tm.lead, Bool.and_eq_true, decide_eq_true_eq] at h
    have := h.1.1.1
    simp only [lett, List.headD_cons]
    exact UInt8.le_iff_toNat_le.1 this

theorem read_no {w : World} {B b a : Nat} {vf va v : Value} {fr : Nat × Nat} {t : Tm} (h : TV w B t v) (hg : t.good = true) (hh : w.heap[b]? = some (.cells #[.bool false, .int .u8 (a : Nat), str [], vf, va] 130 fr)) (hne : a ≠ lett t) : Calls Try.prog 76 #[.pointer (some ⟨b, 0, none⟩), v] w (RdPost w B none) := by
  obtain ⟨d, hd⟩ := atV_lett t
  exact read_ne w B b a (lett t) d vf va v fr t h hg hh hd (by omega)
end Go.Proofs.Ytfpekihdoclncaa
