/-
  The program's exported functions TermValid, TermSize, TermNames, TermStep against the plain mathematics.
-/
import Derived.Test.YtidpkmkhcomcdaaGreatPkC
import Derived.Test.YtidpkmkhcomcdaaGreatPkD
import Derived.Laws.OwnMore
import Derived.Test.YtidpkmkhcomcdaaGreatPkB
import Derived.Deep.AppendLies
import Derived.OwnWalk
import Derived.Laws.AppendOwn
namespace Go.Proofs.YtidpkmkhcomcdaaGreat
open Go.RowKit

set_option maxHeartbeats 400000
set_option maxRecDepth 100000

/-- A list of names handed back, or nothing. -/
def NamesRes (w : World) (r : Option (List (List UInt8))) (e : Ending) (w' : World) : Prop :=
  ∃ sv, e = .returned (.tuple #[sv, .bool r.isSome]) ∧ Below w.heap.size w w' ∧ w'.ownsRow w.heap.size 9 1 sv (r.getD []).length ((r.getD []).map str)

/-- A text handed back, or nothing. -/
def TextRes (w : World) (r : Option (List UInt8)) (e : Ending) (w' : World) : Prop :=
  e = .returned (.tuple #[str (r.getD []), .bool r.isSome]) ∧ Below w.heap.size w w'

end Go.Proofs.YtidpkmkhcomcdaaGreat

namespace Go.Proofs.YtidpkmkhcomcdaaGreat
open Go.RowKit

set_option maxHeartbeats 1000000
set_option maxRecDepth 100000

def SNamesRes (w : World) (r : Option (List (List UInt8))) (e : Ending) (w' : World) : Prop :=
  ∃ sv, e = .returned (.tuple #[sv, .bool r.isSome]) ∧ After w w' ∧ w'.ownsRow w.heap.size 9 1 sv (r.getD []).length ((r.getD []).map str)

theorem own_empty (w : World) : (w.alloc (.cells #[] 9)).ownsRow w.heap.size 9 1 (.slice (some ⟨w.heap.size, 0, none⟩) 0 0) ([] : List (List UInt8)).length (([] : List (List UInt8)).map str) := by
  have := World.ownsRow_lit (base := w.heap.size) (e := 9) (size := 1) w #[] 0 (Nat.le_refl _) (by simp) (by simp)
  simpa using this

/-- The call of l1Names behind the reader. -/
theorem names_call (w1 : World) (t : Tm) (s1 : List UInt8) (ao1 : Option Addr) (n1 c1 : Nat) (h : ST w1 t (.agg #[str s1, .slice ao1 n1 c1])) (hg : t.good = true) (hs : t.size ≤ 3000) :
    Calls Tryz.prog 74 #[.agg #[str s1, .slice ao1 n1 c1], .slice (some ⟨w1.heap.size + 1, 0, none⟩) 0 0] ((w1.alloc (.cells #[str s1, .slice ao1 n1 c1] 53)).alloc (.cells #[] 9)) fun e w' =>
      ∃ sv, e = .returned sv ∧ After w1 w' ∧ w'.ownsRow w1.heap.size 9 1 sv (t.names []).length ((t.names []).map str) := by
  have hX := After.new w1 (.cells #[str s1, .slice ao1 n1 c1] 53)
  have hsz : (w1.alloc (.cells #[str s1, .slice ao1 n1 c1] 53)).heap.size = w1.heap.size + 1 := by simp
  have hown := own_empty (w1.alloc (.cells #[str s1, .slice ao1 n1 c1] 53))
  have hnames := ST.names (h.later hX) hg _ (After.new _ (.cells #[] 9)) _ [] hown (by simp; omega)
  rw [hsz] at hnames
  refine hnames.mono ?_
  rintro e w2 ⟨sv, he, ho, hgr, hor⟩
  refine ⟨sv, he, ?_, ownsRow_base ho (by omega)⟩
  exact (hX.alloc (.cells #[] 9)).grown hgr (by simp; omega) (fun k hk => by simp [Value.ownBlock] at hk; omega)

theorem spec_closed (w : World) (l : List UInt8) (hl : l.length ≤ 1000000000) :
    Calls Tryz.prog 46 #[str l] w fun e w' => e = .returned (.bool (Tm.pClosed l)) ∧ After w w' := by
  have hterm := s_term w l hl
  unfold STermPost at hterm
  unfold Tm.pClosed
  cases hp : Tm.parse l with
  | none =>
    rw [hp] at hterm
    go_enter Tryz.func46, Tryz.ntmps46
    go_wp2_with (go_at_call 73; refine hterm.mono ?_; rintro e w1 ⟨s1, ao1, n1, c1, rfl, hb1, ht1⟩; clear ht1)
    go_ret
    exact ⟨rfl, hb1.alloc _⟩
  | some t =>
    obtain ⟨hg, hf, hs, _, _⟩ := Tm.parse_facts hp
    rw [hp] at hterm
    clear hp
    obtain ⟨k, hk⟩ : ∃ k, k = (t.names []).length := ⟨_, rfl⟩
    have hfin : (t.names []).isEmpty = ((k : Int) == 0) := by
      rw [Bool.eq_iff_iff, beq_iff_eq, List.isEmpty_iff, ← List.length_eq_zero_iff]; omega
    have HK := Lib.hid hk
    simp only [hfin]
    clear hfin hk
    go_enter Tryz.func46, Tryz.ntmps46
    go_wp2_with fail
    refine hterm.mono ?_
    rintro e w1 ⟨s1, ao1, n1, c1, rfl, hb1, ht1⟩
    have hcall := names_call w1 t s1 ao1 n1 c1 (ht1 t rfl) hg hs
    clear ht1 hterm
    go_wp2_with (go_at_call 74; refine hcall.mono ?_; rintro e w2 ⟨sv, rfl, hb2, ho2⟩; rw [← HK.out] at ho2; obtain ⟨ao, ac, rfl⟩ := own_slice_len ho2; clear ho2)
    go_ret
    exact ⟨rfl, hb1.trans hb2⟩
end Go.Proofs.YtidpkmkhcomcdaaGreat

namespace Go.Proofs.YtidpkmkhcomcdaaGreat
open Go.RowKit

set_option maxHeartbeats 1000000
set_option maxRecDepth 100000

theorem l_same (w : World) (a b : Value) (ns ms : List (List UInt8)) (ha : StrsU 0 w a ns) (hb : StrsU 0 w b ms) (hn : ns.length ≤ 1000000000) (_hm : ms.length ≤ 1000000000) :
    Calls Tryz.prog 34 #[a, b] w fun e w' => e = .returned (.bool (decide (ns = ms))) ∧ After w w' := by
  obtain ⟨ao, acap, rfl, hca⟩ := ha
  obtain ⟨bo, bcap, rfl, hcb⟩ := hb
  obtain ⟨r, hr⟩ : ∃ r, r = decide (ns = ms) := ⟨_, rfl⟩
  rw [← hr]
  by_cases hl : ns.length = ms.length
  · have hstart : Hid (r = decide (ns.drop 0 = ms.drop 0)) := by show _ = _; rw [hr]; simp
    have hd : ∀ (l : List (List UInt8)) k, k < l.length → l.drop k = l.getD k [] :: l.drop (k + 1) := fun l k hk => by rw [List.drop_eq_getElem_cons hk, List.getD, List.getElem?_eq_getElem hk]; rfl
    have hd1 := hd ns
    have hd2 := hd ms
    have hz1 : ns.drop ns.length = [] := List.drop_eq_nil_of_le (Nat.le_refl _)
    have hz2 : ms.drop ms.length = [] := List.drop_eq_nil_of_le (Nat.le_refl _)
    rw [← hl] at hcb hd2 hz2 ⊢
    obtain ⟨n, hnn⟩ : ∃ n, n = ns.length := ⟨_, rfl⟩
    rw [← hnn] at hca hcb hn hd1 hd2 hz1 hz2 ⊢
    have HC := Lib.hid hca
    have HC2 := Lib.hid hcb
    have HD := Lib.hid hd1
    have HD2 := Lib.hid hd2
    have HZ := Lib.hid hz1
    have HZ2 := Lib.hid hz2
    clear hr hca hcb hd hd1 hd2 hz1 hz2 hnn hl
    go_enter Tryz.func34, Tryz.ntmps34
    go_wp2_with fail
    go_loopw [5] (fun i wr => ∃ k : Nat, i = .int .i64 k ∧ k ≤ n ∧ Hid (r = decide (ns.drop k = ms.drop k)) ∧ After w wr) (fun i _ => n - (intOf i).toNat)
    case atStart => exact ⟨0, rfl, Nat.zero_le _, hstart, After.refl _⟩
    case round =>
      obtain ⟨k, rfl, hk, hr, hA⟩ := hrel
      clear hstart
      by_cases hlt : k < n
      · obtain ⟨b, off, rfl, _, h1⟩ := HC.out k hlt
        obtain ⟨b2, off2, rfl, _, h2⟩ := HC2.out k hlt
        replace h1 := hA.cell h1
        replace h2 := hA.cell h2
        rw [HD.out k hlt, HD2.out k hlt] at hr
        generalize ns.getD k [] = y at h1 hr
        generalize ms.getD k [] = z at h2 hr
        have hlt' : (k : Int) < (n : Int) := by omega
        by_cases he : y = z
        · subst he
          have HS : Hid (r = decide (ns.drop (k + 1) = ms.drop (k + 1))) := by show _ = _; rw [hr.out]; simp
          clear hr
          go_wp2_with fail
          go_quiet (fail)
          go_wp2_with fail
          go_roundw
          case rel => exact ⟨k + 1, by go_num, by omega, HS, ⟨hA.os, hA.tape, hA.output, hA.size, hA.block⟩⟩
          case measure => simp [intOf]; omega
        · have heq : (y == z) = false := beq_eq_false_iff_ne.2 he
          have HS : Hid (r = false) := by show _ = _; rw [hr.out]; simp [he]
          clear hr he
          go_wp2_with fail
          go_quiet (fail)
          go_wp2_with fail
          go_ret
          exact ⟨by rw [HS.out]; rfl, ⟨hA.os, hA.tape, hA.output, hA.size, hA.block⟩⟩
      · obtain rfl : k = n := by omega
        have HS : Hid (r = true) := by show _ = _; rw [hr.out, HZ.out, HZ2.out]; simp
        clear hr
        go_wp2_with fail
        go_ret
        exact ⟨by rw [HS.out]; rfl, hA⟩
  · have hne : r = false := by rw [hr]; simp; intro e; exact hl (by rw [e])
    have hl' : ((ns.length : Int) == (ms.length : Int)) = false := by rw [beq_eq_false_iff_ne]; omega
    subst hne
    generalize ns.length = n at *
    generalize ms.length = m at *
    clear hr hca hcb
    go_enter Tryz.func34, Tryz.ntmps34
    go_wp2_with fail
    go_ret
    exact ⟨rfl, After.refl _⟩

theorem own_strsL {w : World} {base B : Nat} {sv : Value} {ns : List (List UInt8)} (h : w.ownsRow base 9 1 sv ns.length (ns.map str)) (hB : B ≤ base) : StrsU B w sv ns := by
  rcases h.2 with ⟨rfl, h0⟩ | ⟨g, cap, cur, rfl, hb, hh, hle, hcap, _⟩
  · exact ⟨none, 0, by rw [h0], fun j hj => absurd hj (by omega)⟩
  · refine ⟨some ⟨g, 0, none⟩, cap, rfl, fun j hj => ⟨g, 0, rfl, ⟨by omega, hle, by unfold maxLen at hcap; omega⟩, ?_⟩⟩
    rw [Nat.zero_add]
    exact (h.cellAt j (by omega)).trans (by simp [List.getD, hj])

/-- What TermNames hands back, in the words of rows. -/
theorem names_row {w w' : World} {r : Option (List (List UInt8))} {e : Ending} (h : NamesRes w r e w') : ∃ ao cap, e = .returned (.tuple #[.slice ao (r.getD []).length cap, .bool r.isSome]) ∧ After w w' ∧ StrsU 0 w' (.slice ao (r.getD []).length cap) (r.getD []) := by
  obtain ⟨sv, rfl, hb, ho⟩ := h
  have hu := own_strsL ho (Nat.zero_le _)
  obtain ⟨ao, cap, rfl, hc⟩ := id hu
  exact ⟨ao, cap, rfl, hb, hu⟩
theorem snames_row {w w' : World} {r : Option (List (List UInt8))} {e : Ending} (h : SNamesRes w r e w') : ∃ ao cap, e = .returned (.tuple #[.slice ao (r.getD []).length cap, .bool r.isSome]) ∧ After w w' ∧ StrsU 0 w' (.slice ao (r.getD []).length cap) (r.getD []) := by
  obtain ⟨sv, rfl, hb, ho⟩ := h
  have hu := own_strsL ho (Nat.zero_le _)
  obtain ⟨ao, cap, rfl, hc⟩ := id hu
  exact ⟨ao, cap, rfl, hb, hu⟩
end Go.Proofs.YtidpkmkhcomcdaaGreat

namespace Go.Proofs.YtidpkmkhcomcdaaGreat
open Go.RowKit

set_option maxHeartbeats 1000000
set_option maxRecDepth 100000

theorem fill_set {n k : Nat} {fs : List Value} {v z : Value} (h : fs.length = k) (hk : k < n) : (fs ++ List.replicate (n - k) z).set k v = (fs ++ [v]) ++ List.replicate (n - (k + 1)) z := by
  subst h
  rw [List.set_append_right _ _ (Nat.le_refl _), Nat.sub_self, show n - fs.length = (n - (fs.length + 1)) + 1 by omega, List.replicate_succ, List.set_cons_zero, List.append_assoc]
  rfl

theorem fill_at {n k : Nat} {fs : List Value} {z : Value} (h : fs.length = k) (hk : k < n) : (fs ++ List.replicate (n - k) z)[k]? = some z := by
  subst h
  rw [List.getElem?_append_right (Nat.le_refl _), Nat.sub_self, List.getElem?_replicate, if_pos (by omega)]

theorem made_nils (n : Nat) : (madeCells (Value.slice none 0 0).cells (n * 1)).toList = List.replicate n (Value.slice none 0 0) := by
  apply List.ext_getElem?
  intro i
  have e : ∀ x : Nat, (#[Value.slice none 0 0] : Array Value)[x % 1]! = Value.slice none 0 0 := fun x => by rw [Nat.mod_one]; rfl
  have e2 : (Value.slice none 0 0).cells = #[Value.slice none 0 0] := rfl
  have e3 : (#[Value.slice none 0 0] : Array Value).size = 1 := rfl
  simp only [madeCells, e2, e3, e, Array.toList_map, Array.toList_range, Nat.mul_one]
  rw [List.getElem?_map, List.getElem?_replicate]
  by_cases h : i < n
  · rw [if_pos h, List.getElem?_eq_getElem (by simpa using h)]; rfl
  · rw [if_neg h, List.getElem?_eq_none (by simpa using h)]; rfl

end Go.Proofs.YtidpkmkhcomcdaaGreat

namespace Go.Proofs.YtidpkmkhcomcdaaGreat
open Go.RowKit

set_option maxHeartbeats 1000000
set_option maxRecDepth 100000

theorem one_facts {W : World} {b : Nat} {x : Value} {T : TypeId} (h : W.heap[b]? = some (.cells #[x] T (0, 0))) {W' : World} (hW : After W W') :
    W'.cell? ⟨b, 0, none⟩ = some x ∧ W'.frozen? ⟨b, 0, none⟩ = false ∧ b < W'.heap.size := by
  have hh := hW.heap h
  exact ⟨cell_of_heap hh, by simp [World.frozen?, hh], (Array.getElem?_eq_some_iff.1 hh).1⟩

theorem SSU.form {B : Nat} {w : World} {sv : Value} {a : List (List (List UInt8))} (h : SSU B w sv a) : ∃ ao cap, sv = .slice ao a.length cap := by
  obtain ⟨f, ⟨ao, cap, e, _⟩, _⟩ := h
  exact ⟨_, _, e⟩

theorem SSU.same {B : Nat} {w W : World} {sv : Value} {a : List (List (List UInt8))} (h : SSU B w sv a) (hA : ∀ b, B ≤ b → b < w.heap.size → W.heap[b]? = w.heap[b]?) : SSU B W sv a := by
  obtain ⟨f, h1, h2⟩ := h
  exact ⟨f, h1.same hA, fun j hj => RowU.same (h2 j hj) hA⟩

end Go.Proofs.YtidpkmkhcomcdaaGreat

namespace Go.Proofs.YtidpkmkhcomcdaaGreat

namespace Asm
abbrev Txt := List UInt8

/-- The term of a realizer. -/
def rz (x : Txt) : Option Tm := match Tm.closedOf x with
  | some t => if t.normal = true ∧ t.size ≤ 60 then some t else none
  | none => none
/-- Realizer k of a list is one, and stands there for the first time. -/
def step (rs : List Txt) (k : Nat) : Bool := (rz (rs.getD k [])).isSome && !decide (rs.getD k [] ∈ rs.take k)
def pfx (rs : List Txt) (k : Nat) : Bool := (List.range k).all (step rs)
def el (rs : List Txt) : Bool := decide (1 ≤ rs.length) && decide (rs.length ≤ 4) && pfx rs rs.length
def els (a : List (List Txt)) (i : Nat) : Bool := (List.range i).all fun j => el (a.getD j [])
def ok (a : List (List Txt)) : Bool := decide (1 ≤ a.length) && decide (a.length ≤ 6) && els a a.length

theorem pfx_succ (rs : List Txt) (k : Nat) : pfx rs (k + 1) = (pfx rs k && step rs k) := by simp [pfx, List.range_succ]
theorem els_succ (a : List (List Txt)) (i : Nat) : els a (i + 1) = (els a i && el (a.getD i [])) := by simp [els, List.range_succ]
theorem pfx_no {rs : List Txt} {k n : Nat} (h : step rs k = false) (hk : k < n) : pfx rs n = false := by
  rw [pfx, List.all_eq_false]
  exact ⟨k, List.mem_range.2 hk, by rw [h]; decide⟩
theorem els_no {a : List (List Txt)} {k n : Nat} (h : el (a.getD k []) = false) (hk : k < n) : els a n = false := by
  rw [els, List.all_eq_false]
  exact ⟨k, List.mem_range.2 hk, by rw [h]; decide⟩

/-- The sizes alone. -/
def szs (a : List (List Txt)) (i : Nat) : Bool := (List.range i).all fun j => decide (1 ≤ (a.getD j []).length) && decide ((a.getD j []).length ≤ 4)
def sizes (a : List (List Txt)) : Bool := decide (1 ≤ a.length) && decide (a.length ≤ 6) && szs a a.length
def pfs (a : List (List Txt)) (i : Nat) : Bool := (List.range i).all fun j => pfx (a.getD j []) (a.getD j []).length
theorem szs_succ (a : List (List Txt)) (i : Nat) : szs a (i + 1) = (szs a i && (decide (1 ≤ (a.getD i []).length) && decide ((a.getD i []).length ≤ 4))) := by simp [szs, List.range_succ]
theorem pfs_succ (a : List (List Txt)) (i : Nat) : pfs a (i + 1) = (pfs a i && pfx (a.getD i []) (a.getD i []).length) := by simp [pfs, List.range_succ]
theorem szs_no {a : List (List Txt)} {k n : Nat} (h : (decide (1 ≤ (a.getD k []).length) && decide ((a.getD k []).length ≤ 4)) = false) (hk : k < n) : szs a n = false := by
  rw [szs, List.all_eq_false]
  exact ⟨k, List.mem_range.2 hk, by rw [h]; decide⟩
theorem pfs_no {a : List (List Txt)} {k n : Nat} (h : pfx (a.getD k []) (a.getD k []).length = false) (hk : k < n) : pfs a n = false := by
  rw [pfs, List.all_eq_false]
  exact ⟨k, List.mem_range.2 hk, by rw [h]; decide⟩
theorem ok_eq (a : List (List Txt)) : ok a = (sizes a && pfs a a.length) := by
  have : els a a.length = (szs a a.length && pfs a a.length) := by
    rw [Bool.eq_iff_iff, Bool.and_eq_true, els, szs, pfs, List.all_eq_true, List.all_eq_true, List.all_eq_true]
    constructor
    · intro h
      refine ⟨fun x hx => ?_, fun x hx => ?_⟩
      · have := h x hx; unfold el at this; rw [Bool.and_eq_true] at this; exact this.1
      · have := h x hx; unfold el at this; rw [Bool.and_eq_true] at this; exact this.2
    · rintro ⟨h, g⟩ x hx
      unfold el
      rw [Bool.and_eq_true]
      exact ⟨h x hx, g x hx⟩
  rw [ok, sizes, this]
  simp only [Bool.and_assoc]

theorem rz_some (x : Txt) : (rz x).isSome = (Tm.pClosed x && (Tm.pNormal x && decide (¬ Tm.pSize x > 60))) := by
  unfold rz Tm.closedOf Tm.pClosed Tm.pNormal Tm.pSize
  cases hp : Tm.parse x with
  | none => rfl
  | some t =>
    simp only
    have hn : t.step.isNone = t.normal := (normal_none t).symm
    cases (Tm.names [] t).isEmpty with
    | false => rfl
    | true =>
      simp only [if_true, Bool.true_and, hn]
      by_cases h1 : t.normal = true
      · by_cases h2 : t.size ≤ 60
        · rw [if_pos ⟨h1, h2⟩, h1]
          simp; omega
        · rw [if_neg (fun h => h2 h.2), h1]
          simp; omega
      · rw [if_neg (fun h => h1 h.1)]
        have h1' : t.normal = false := by simpa using h1
        simp [h1']
end Asm
end Go.Proofs.YtidpkmkhcomcdaaGreat

namespace Go.Proofs.YtidpkmkhcomcdaaGreat
open Go.RowKit

set_option maxHeartbeats 1000000
set_option maxRecDepth 100000

/-- A row of terms beside their texts, in cells that can be read. -/
def PairsU (w : World) (sv : Value) (xs : List (List UInt8)) : Prop :=
  ∃ ao cap, sv = .slice ao xs.length cap ∧ ∀ j, j < xs.length → ∃ b off T v, ao = some ⟨b, off, none⟩ ∧ w.cell? ⟨b, off + j * 2, none⟩ = some (.iface T v) ∧ w.cell? ⟨b, off + j * 2 + 1, none⟩ = some (str (xs.getD j []))

theorem PairsU.later {w W : World} {sv : Value} {xs : List (List UInt8)} (h : PairsU w sv xs) (hA : After w W) : PairsU W sv xs := by
  obtain ⟨ao, cap, rfl, hc⟩ := h
  exact ⟨ao, cap, rfl, fun j hj => by obtain ⟨b, off, T, v, e, h1, h2⟩ := hc j hj; exact ⟨b, off, T, v, e, hA.cell h1, hA.cell h2⟩⟩

theorem has1_any (w : World) (q : Nat) (T : TypeId) (v : Value) (x text : List UInt8) (hq : w.cell? ⟨q, 0, none⟩ = some (str text)) :
    Calls Tryz.prog 103 #[.agg #[.iface T v, str x], .pointer (some ⟨q, 0, none⟩)] w fun e w' => e = .returned (.bool (x == text)) ∧ After w w' := by
  have hA := After.new w (.cells #[.iface T v, str x] 79)
  have h1 := hA.cell hq
  clear hq
  go_enter Tryz.func103, Tryz.ntmps103
  go_wp2_with fail
  go_ret
  exact ⟨rfl, hA⟩

theorem index_el (w : World) (sv : Value) (xs : List (List UInt8)) (q : Nat) (text : List UInt8) (h : PairsU w sv xs) (hq : w.cell? ⟨q, 0, none⟩ = some (str text)) (hn : xs.length ≤ 1000000000) :
    Calls Tryz.prog 115 #[sv, .func (.func 103) #[] #[.pointer (some ⟨q, 0, none⟩)]] w fun e w' =>
      ∃ r : Int, e = .returned (.int .i64 r) ∧ decide (r ≥ 0) = decide (text ∈ xs) ∧ After w w' := by
  obtain ⟨ao, cap, rfl, hc⟩ := h
  obtain ⟨r, hr⟩ : ∃ r, r = decide (text ∈ xs) := ⟨_, rfl⟩
  rw [← hr]
  have hstart : Hid (r = decide (text ∈ xs.drop 0)) := by show _ = _; rw [hr]; simp
  have hd : ∀ k, k < xs.length → xs.drop k = xs.getD k [] :: xs.drop (k + 1) := fun k hk => by rw [List.drop_eq_getElem_cons hk, List.getD, List.getElem?_eq_getElem hk]; rfl
  have hz : xs.drop xs.length = [] := List.drop_eq_nil_of_le (Nat.le_refl _)
  obtain ⟨n, hnn⟩ : ∃ n, n = xs.length := ⟨_, rfl⟩
  rw [← hnn] at hc hn hd hz ⊢
  have HC := Lib.hid hc
  have HD := Lib.hid hd
  have HZ := Lib.hid hz
  have HQ := Lib.hid hq
  clear hr hc hd hz hnn hq
  go_enter Tryz.func115, Tryz.ntmps115
  go_wp2_with fail
  go_loopw [8] (fun i wr => ∃ k : Nat, i = .int .i64 k ∧ k ≤ n ∧ Hid (r = decide (text ∈ xs.drop k)) ∧ After w wr) (fun i _ => n - (intOf i).toNat)
  case atStart => exact ⟨0, rfl, Nat.zero_le _, hstart, After.refl _⟩
  case round =>
    obtain ⟨k, rfl, hk, hr, hA⟩ := hrel
    clear hstart
    by_cases hlt : k < n
    · obtain ⟨b, off, T, v, rfl, h1, h2⟩ := HC.out k hlt
      replace h1 := hA.cell h1
      replace h2 := hA.cell h2
      have hcall := has1_any wr q T v (xs.getD k []) text (hA.cell HQ.out)
      rw [HD.out k hlt] at hr
      generalize xs.getD k [] = y at h1 h2 hr hcall
      have hlt' : (k : Int) < (n : Int) := by omega
      by_cases he : y = text
      · subst he
        have HS : Hid (r = true) := by show _ = _; rw [hr.out]; simp
        have heq : (y == y) = true := beq_self_eq_true y
        rw [heq] at hcall
        clear hr heq
        go_wp2_with fail
        refine hcall.mono ?_
        rintro e w1 ⟨rfl, hb1⟩
        go_wp2_with fail
        go_ret
        exact ⟨k, rfl, by rw [HS.out]; simp, hA.trans hb1⟩
      · have heq : (y == text) = false := beq_eq_false_iff_ne.2 he
        have HS : Hid (r = decide (text ∈ xs.drop (k + 1))) := by show _ = _; rw [hr.out]; simp [Ne.symm he]
        rw [heq] at hcall
        clear hr he heq
        go_wp2_with fail
        refine hcall.mono ?_
        rintro e w1 ⟨rfl, hb1⟩
        go_wp2_with fail
        go_roundw
        case rel => exact ⟨k + 1, by go_num, by omega, HS, hA.trans hb1⟩
        case measure => simp [intOf]; omega
    · obtain rfl : k = n := by omega
      have HS : Hid (r = false) := by show _ = _; rw [hr.out, HZ.out]; simp
      clear hr
      go_wp2_with fail
      go_ret
      exact ⟨-1, rfl, by rw [HS.out]; rfl, hA⟩

theorem has_el (w : World) (sv : Value) (xs : List (List UInt8)) (text : List UInt8) (h : PairsU w sv xs) (hn : xs.length ≤ 1000000000) :
    Calls Tryz.prog 86 #[sv, str text] w fun e w' => e = .returned (.bool (decide (text ∈ xs))) ∧ After w w' := by
  have hA := After.new w (.cells #[str text] 9)
  have hq : (w.alloc (.cells #[str text] 9)).cell? ⟨w.heap.size, 0, none⟩ = some (str text) := cell_of_heap (heap_new' w _)
  have hidx := index_el _ sv xs w.heap.size text (h.later hA) hq hn
  obtain ⟨ao, cap, rfl, _⟩ := h
  generalize decide (text ∈ xs) = r at *
  generalize xs.length = n at *
  have hcf : ∀ W, Calls Tryz.prog 115 #[.slice ao n cap, .func (.func 103) #[] #[.pointer (some ⟨w.heap.size, 0, none⟩)]] W (fun e w' => ∃ i : Int, e = .returned (.int .i64 i) ∧ decide (i ≥ 0) = r ∧ After W w') →
      Calls Tryz.prog 102 #[.slice ao n cap, .func (.func 103) #[] #[.pointer (some ⟨w.heap.size, 0, none⟩)]] W fun e w' => e = .returned (.bool r) ∧ After W w' := by
    intro W hi
    go_enter Tryz.func102, Tryz.ntmps102
    go_wp2_with fail
    refine hi.mono ?_
    rintro e w1 ⟨i, rfl, hir, hb1⟩
    have HI := Lib.hid hir
    clear hir hi
    go_wp2_with fail
    go_ret
    exact ⟨by rw [← HI.out]; rfl, hb1⟩
  have hcall := hcf _ hidx
  clear hidx hcf hq
  go_enter Tryz.func86, Tryz.ntmps86
  go_wp2_with fail
  refine hcall.mono ?_
  rintro e w1 ⟨rfl, hb1⟩
  go_wp2_with fail
  go_ret
  exact ⟨rfl, hA.trans hb1⟩
end Go.Proofs.YtidpkmkhcomcdaaGreat

namespace Go.Proofs.YtidpkmkhcomcdaaGreat
open Go.RowKit

set_option maxHeartbeats 2000000
set_option maxRecDepth 100000

theorem TV.keptT {A C : World} {B : Nat} (hk : ∀ (b : Nat) (cs : Array Value) (T : TypeId) (fr : Nat × Nat), T ≠ 79 → T ≠ 72 → T ≠ 3 → A.heap[b]? = some (.cells cs T fr) → C.heap[b]? = some (.cells cs T fr)) : ∀ {t : Tm} {v : Value}, TV A B t v → TV C B t v
  | .k, _, ⟨b, fr, hv, hb, h⟩ => ⟨b, fr, hv, hb, hk _ _ _ _ (by decide) (by decide) (by decide) h⟩
  | .s, _, ⟨b, fr, hv, hb, h⟩ => ⟨b, fr, hv, hb, hk _ _ _ _ (by decide) (by decide) (by decide) h⟩
  | .nm _, _, ⟨b, fr, hv, hb, h⟩ => ⟨b, fr, hv, hb, hk _ _ _ _ (by decide) (by decide) (by decide) h⟩
  | .app _ _, _, ⟨b, fr, vf, va, hv, hb, h, hf, ha⟩ => ⟨b, fr, vf, va, hv, hb, hk _ _ _ _ (by decide) (by decide) (by decide) h, hf.keptT hk, ha.keptT hk⟩

/-- What a row of one of these types keeps when it grows. -/
theorem row_keeps {w W : World} {base n size : Nat} {sv : Value} {vs : List Value} {E : TypeId} (ho : w.ownsRow base E size sv n vs) (hg : w.grownBy W sv.ownBlock) (b : Nat) (cs : Array Value) (T : TypeId) (fr : Nat × Nat) (hT : T ≠ E) (hb : w.heap[b]? = some (.cells cs T fr)) : W.heap[b]? = some (.cells cs T fr) := by
  rw [hg.block b (Array.getElem?_eq_some_iff.1 hb).1 (fun e => by
    rcases ho.2 with ⟨rfl, _⟩ | ⟨g, cap, cur, rfl, _, hh, _⟩
    · cases e
    · injection e with e
      subst e
      rw [hb] at hh
      injection hh with hh
      injection hh with _ hh _
      exact hT hh)]
  exact hb

/-- An element that grows: its realizers' terms and texts. -/
def RowE (w : World) (base : Nat) (sv : Value) (xs : List (List UInt8)) : Prop :=
  ∃ cs, w.ownsRow base 79 2 sv xs.length cs ∧ ∀ j, j < xs.length → ∃ T v t, cs[j * 2]? = some (.iface T v) ∧ cs[j * 2 + 1]? = some (str (xs.getD j [])) ∧ Asm.rz (xs.getD j []) = some t ∧ TV w base t (.iface T v)

theorem RowE.nil (w : World) (base : Nat) : RowE w base (.slice none 0 0) [] := ⟨[], World.ownsRow_nil w base _ _, fun j h => absurd h (Nat.not_lt_zero j)⟩

theorem RowE.later {w W : World} {base : Nat} {sv : Value} {xs : List (List UInt8)} (h : RowE w base sv xs) (hA : After w W) : RowE W base sv xs := by
  obtain ⟨cs, ho, hc⟩ := h
  refine ⟨cs, ho.kept (row := none) ⟨hA.os, hA.tape, hA.output, hA.size, fun k hk _ => hA.block k hk⟩ ?_, fun j hj => ?_⟩
  · cases sv.ownBlock with
    | none => exact Or.inl rfl
    | some g => exact Or.inr (by simp)
  · obtain ⟨T, v, t, h1, h2, h3, h4⟩ := hc j hj
    exact ⟨T, v, t, h1, h2, h3, h4.below hA⟩

theorem RowE.form {w : World} {base : Nat} {sv : Value} {xs : List (List UInt8)} (h : RowE w base sv xs) : ∃ ao cap, sv = .slice ao xs.length cap := by
  obtain ⟨cs, ho, _⟩ := h
  rcases ho.2 with ⟨rfl, h0⟩ | ⟨g, cap, cur, rfl, _⟩
  · exact ⟨_, _, by rw [h0]⟩
  · exact ⟨_, _, rfl⟩

theorem RowE.pairs {w : World} {base : Nat} {sv : Value} {xs : List (List UInt8)} (h : RowE w base sv xs) : PairsU w sv xs := by
  obtain ⟨cs, ho, hc⟩ := h
  rcases ho.2 with ⟨rfl, h0⟩ | ⟨g, cap, cur, rfl, hb, hh, _, _, _, htk⟩
  · exact ⟨none, 0, by rw [h0], fun j hj => absurd hj (by omega)⟩
  · refine ⟨_, _, rfl, fun j hj => ?_⟩
    obtain ⟨T, v, t, h1, h2, _, _⟩ := hc j hj
    refine ⟨g, 0, T, v, rfl, ?_, ?_⟩
    · rw [Nat.zero_add]; exact (ho.cellAt (j * 2) (by omega)).trans h1
    · rw [Nat.zero_add]; exact (ho.cellAt (j * 2 + 1) (by omega)).trans h2

theorem RowE.push {w w' : World} {base g cap : Nat} {sv : Value} {xs : List (List UInt8)} {x : List UInt8} {T : TypeId} {v : Value} {t : Tm} (h : ∃ cs, w.ownsRow base 79 2 sv xs.length cs ∧ (∀ j, j < xs.length → ∃ T v t, cs[j * 2]? = some (.iface T v) ∧ cs[j * 2 + 1]? = some (str (xs.getD j [])) ∧ Asm.rz (xs.getD j []) = some t ∧ TV w base t (.iface T v)) ∧
      w'.ownsRow base 79 2 (.slice (some ⟨g, 0, none⟩) (xs.length + 1) cap) (xs.length + 1) (cs ++ [.iface T v, str x])) (hg : w.grownBy w' sv.ownBlock)
    (hx : Asm.rz x = some t) (ht : TV w base t (.iface T v)) : RowE w' base (.slice (some ⟨g, 0, none⟩) (xs.length + 1) cap) (xs ++ [x]) := by
  obtain ⟨cs, ho, hc, ho'⟩ := h
  have hcl : cs.length = xs.length * 2 := ho.1
  have hk : ∀ {t : Tm} {v : Value}, TV w base t v → TV w' base t v := fun h => h.keptT fun b cs T fr h1 _ _ hb => row_keeps ho hg b cs T fr h1 hb
  refine ⟨_, by rw [List.length_append]; exact ho', fun j hj => ?_⟩
  by_cases hjl : j < xs.length
  · obtain ⟨T', v', t', h1, h2, h3, h4⟩ := hc j hjl
    have hgd : (xs ++ [x]).getD j [] = xs.getD j [] := by simp [List.getD, List.getElem?_append_left hjl]
    rw [hgd]
    exact ⟨T', v', t', by rw [List.getElem?_append_left (by omega)]; exact h1, by rw [List.getElem?_append_left (by omega)]; exact h2, h3, hk h4⟩
  · have hj' : j = xs.length := by rw [List.length_append, List.length_singleton] at hj; omega
    subst hj'
    have hgd : (xs ++ [x]).getD xs.length [] = x := by simp [List.getD]
    rw [hgd]
    refine ⟨T, v, t, ?_, ?_, hx, hk ht⟩
    · rw [List.getElem?_append_right (by omega), hcl, Nat.sub_self]; rfl
    · rw [List.getElem?_append_right (by omega), hcl, Nat.add_sub_cancel_left]; rfl

theorem info_wt : (Tryz.prog.info? 79).map (fun i => (i.zero, i.size, i.bytes)) = some (some (.agg #[.nilIface, .string ⟨#[]⟩]), 2, 32) := by kernel_rfl

/-- An element, if the realizers are those of one. -/
def ReadElPost (w : World) (rs : List (List UInt8)) (e : Ending) (w' : World) : Prop :=
  ∃ ao n c, e = .returned (.tuple #[.slice ao n c, .bool (Asm.el rs)]) ∧ After w w' ∧ (Asm.el rs = true → RowE w' w.heap.size (.slice ao n c) rs)

theorem rz_of {x : List UInt8} {t : Tm} (h : Tm.closedOf x = some t) : Asm.rz x = if t.normal = true ∧ t.size ≤ 60 then some t else none := by
  unfold Asm.rz
  rw [h]

theorem readElement_any (w : World) (sv0 : Value) (rs : List (List UInt8)) (h : StrsU 0 w sv0 rs) (hn : rs.length ≤ 1000000000) (hx : ∀ x ∈ rs, x.length ≤ 1000000000) :
    Calls Tryz.prog 66 #[sv0] w (ReadElPost w rs) := by
  obtain ⟨ao0, cap0, rfl, hc⟩ := h
  obtain ⟨r, hr⟩ : ∃ r, r = Asm.el rs := ⟨_, rfl⟩
  have hr' : r = (decide (1 ≤ rs.length ∧ rs.length ≤ 4) && Asm.pfx rs rs.length) := by rw [hr, Asm.el, Bool.decide_and]
  have hfail : Hid (r = false → ∀ W, After w W → ReadElPost w rs (.returned (.tuple #[.slice none 0 0, .bool false])) W) := fun h W hW => ⟨none, 0, 0, by rw [← hr, h], hW, fun e => by rw [← hr, h] at e; cases e⟩
  have hdone : Hid (r = true → ∀ W ao n c, After w W → RowE W w.heap.size (.slice ao n c) rs → ReadElPost w rs (.returned (.tuple #[.slice ao n c, .bool true])) W) := fun h W ao n c hW hR => ⟨ao, n, c, by rw [← hr, h], hW, fun _ => hR⟩
  have htk : ∀ k, k < rs.length → rs.take (k + 1) = rs.take k ++ [rs.getD k []] := fun k hk => by rw [List.take_succ_eq_append_getElem hk, List.getD, List.getElem?_eq_getElem hk]; rfl
  have hxk : ∀ k, k < rs.length → (rs.getD k []).length ≤ 1000000000 := fun k hk => by rw [List.getD, List.getElem?_eq_getElem hk]; exact hx _ (List.getElem_mem hk)
  have htl : rs.take rs.length = rs := List.take_length
  have hlt0 : ∀ k, k ≤ rs.length → (rs.take k).length = k := fun k hk => by simp; omega
  obtain ⟨n, hn'⟩ : ∃ n, n = rs.length := ⟨_, rfl⟩
  rw [← hn'] at hc hn hr' htk hxk htl hlt0 ⊢
  have HC := Lib.hid hc
  have HR := Lib.hid hr'
  have HTK := Lib.hid htk
  have HXK := Lib.hid hxk
  have HTL := Lib.hid htl
  have HLT := Lib.hid hlt0
  clear hc hr hr' htk hxk hn' hx htl hlt0
  by_cases hb : 1 ≤ n ∧ n ≤ 4
  · have HR' : Hid (r = Asm.pfx rs n) := by show _ = _; rw [HR.out, decide_eq_true hb, Bool.true_and]
    clear HR
    obtain ⟨hb1, hb2⟩ := hb
    have hn0 : ((n : Int) == 0) = false := beq_eq_false_iff_ne.2 (by omega)
    have hn4 : ¬ (4 < (n : Int)) := by omega
    have hinfo := info_wt
    have hi : ∃ i, (Tryz.prog).info? 79 = some i ∧ i.zero = some (.agg #[.nilIface, .string ⟨#[]⟩]) ∧ i.size = 2 ∧ i.bytes = 32 := ⟨_, rfl, rfl, rfl, rfl⟩
    obtain ⟨i0, hi0, hz0, hz1, hz2⟩ := hi
    have hun : Tryz.prog.underlying 72 = some (.slice 79) := by kernel_rfl
    have HUN := Lib.hid hun
    have HI := Lib.hid (And.intro hi0 (And.intro hz0 (And.intro hz1 hz2)))
    clear hinfo hun hi0 hz0 hz1 hz2
    go_enter Tryz.func66, Tryz.ntmps66
    go_wp2_with fail
    go_loopw [4, 19] (fun e i wr => ∃ k : Nat, i = .int .i64 k ∧ k ≤ n ∧ Hid (RowE wr w.heap.size e (rs.take k)) ∧ Hid (Asm.pfx rs k = true) ∧ After w wr) (fun _ i _ => n - (intOf i).toNat)
    case atStart => exact ⟨0, rfl, Nat.zero_le _, by show RowE _ _ _ _; exact RowE.nil w _, by show _ = _; rfl, After.refl _⟩
    case round =>
      obtain ⟨k, rfl, hk, hrow, hpf, hA⟩ := hrel
      obtain ⟨ao, cap, rfl⟩ := hrow.out.form
      by_cases hlt : k < n
      · obtain ⟨b, off, rfl, _, h1⟩ := HC.out k hlt
        replace h1 := hA.cell h1
        have hxl := HXK.out k hlt
        have htk := HTK.out k hlt
        have hst : Asm.step rs k = ((Asm.rz (rs.getD k [])).isSome && !decide (rs.getD k [] ∈ rs.take k)) := rfl
        have hno : Hid (Asm.step rs k = false → r = false) := fun h => by rw [HR'.out]; exact Asm.pfx_no h hlt
        have hyes : Hid (Asm.step rs k = true → Asm.pfx rs (k + 1) = true) := fun h => by rw [Asm.pfx_succ, hpf.out, h]; rfl
        have hxn := HLT.out k hk
        obtain ⟨xs, hxs⟩ : ∃ xs, xs = rs.take k := ⟨_, rfl⟩
        obtain ⟨x, hxx⟩ : ∃ x, x = rs.getD k [] := ⟨_, rfl⟩
        rw [← hxs] at hrow hst htk hxn ⊢
        rw [← hxx] at h1 hxl hst htk
        have HTK' := Lib.hid htk
        have HXN := Lib.hid hxn
        have hlt' : (k : Int) < (n : Int) := by omega
        have hread := readClosed_any wr w.heap.size x hA.size hxl
        unfold DataPost at hread
        have hhas := fun W (hW : After wr W) => has_el W _ xs x ((hrow.out.later hW).pairs) (by have := HXN.out; omega)
        clear htk hxs hxx hxn
        cases hcl : Tm.closedOf x with
        | none =>
          have HF : Hid (r = false) := hno.out (by rw [hst]; unfold Asm.rz; rw [hcl]; rfl)
          rw [hcl] at hread
          clear hcl hst hhas
          go_wp2_with fail
          refine hread.mono ?_
          rintro e w1 ⟨v1, rfl, hb1, hv1⟩
          clear hv1 hread
          go_wp2_with fail
          go_ret2
          exact hfail.out HF.out _ (hA.trans hb1)
        | some t =>
          rw [hcl] at hread
          rw [rz_of hcl] at hst
          have HRZ := Lib.hid (rz_of hcl)
          clear hcl
          cases hnm : t.normal with
          | false =>
            have HF : Hid (r = false) := hno.out (by rw [hst, if_neg (fun h => by rw [hnm] at h; cases h.1)]; rfl)
            clear hst hhas
            go_wp2_with fail
            refine hread.mono ?_
            rintro e w1 ⟨v1, rfl, hb1, hv1⟩
            have ht1 := hv1 t rfl
            obtain ⟨T1, x1, rfl, _, _, _, ⟨f4, y4, m4, n4, c4⟩⟩ := ht1.asks
            rw [hnm] at c4
            have hself := Below.refl w1.heap.size w1
            clear hv1 hread ht1
            go_wp2_with (go_at_fn f4; refine (c4 _ (by assumption)).mono ?_; rintro e w2 ⟨rfl, hb2⟩)
            go_ret2
            exact hfail.out HF.out _ (hA.trans (below_trans hb1 hb2))
          | true =>
            by_cases hsz : 60 < (t.size : Int)
            · have HF : Hid (r = false) := hno.out (by rw [hst, if_neg (fun h => by omega)]; rfl)
              clear hst hhas
              go_wp2_with fail
              refine hread.mono ?_
              rintro e w1 ⟨v1, rfl, hb1, hv1⟩
              have ht1 := hv1 t rfl
              obtain ⟨T1, x1, rfl, ⟨f1, y1, m1, n1, c1⟩, _, _, ⟨f4, y4, m4, n4, c4⟩⟩ := ht1.asks
              rw [hnm] at c4
              have hself := Below.refl w1.heap.size w1
              clear hv1 hread ht1
              go_wp2_with (first
                | (go_at_fn f4; refine (c4 _ (by assumption)).mono ?_; rintro e w2 ⟨rfl, hb2⟩)
                | (go_at_fn f1; refine (c1 _ (by assumption)).mono ?_; rintro e w3 ⟨rfl, hb3⟩))
              go_ret2
              exact hfail.out HF.out _ (hA.trans (below_trans hb1 hb3))
            · have hrz : t.normal = true ∧ t.size ≤ 60 := ⟨hnm, by omega⟩
              rw [if_pos hrz] at hst HRZ
              obtain ⟨c, hcc⟩ : ∃ c, c = decide (x ∈ xs) := ⟨_, rfl⟩
              rw [← hcc] at hst hhas
              have hno' : Hid (c = true → r = false) := fun h => hno.out (by rw [hst, h]; rfl)
              have hyes' : Hid (c = false → Asm.pfx rs (k + 1) = true) := fun h => hyes.out (by rw [hst, h]; rfl)
              have HHAS := Lib.hid hhas
              clear hst hhas hcc hrz
              go_wp2_with fail
              refine hread.mono ?_
              rintro e w1 ⟨v1, rfl, hb1, hv1⟩
              have ht1 := hv1 t rfl
              obtain ⟨T1, x1, rfl, ⟨f1, y1, m1, n1, c1⟩, _, _, ⟨f4, y4, m4, n4, c4⟩⟩ := ht1.asks
              rw [hnm] at c4
              have hself := Below.refl w1.heap.size w1
              have HT1 := Lib.hid ht1
              clear hv1 hread ht1
              cases c with
              | true =>
                have HF : Hid (r = false) := hno'.out rfl
                go_wp2_with (first
                  | (go_at_fn f4; refine (c4 _ (by assumption)).mono ?_; rintro e w2 ⟨rfl, hb2⟩)
                  | (go_at_fn f1; refine (c1 _ (by assumption)).mono ?_; rintro e w3 ⟨rfl, hb3⟩)
                  | (go_at_call 86; refine (HHAS.out _ (below_trans hb1 hb3)).mono ?_; rintro e w4 ⟨rfl, hb4⟩))
                go_ret2
                exact hfail.out HF.out _ (hA.trans (below_trans (below_trans hb1 hb3) hb4))
              | false =>
                have HY := Lib.hid (hyes'.out rfl)
                go_wp2_with (first
                  | (go_at_fn f4; refine (c4 _ (by assumption)).mono ?_; rintro e w2 ⟨rfl, hb2⟩)
                  | (go_at_fn f1; refine (c1 _ (by assumption)).mono ?_; rintro e w3 ⟨rfl, hb3⟩)
                  | (go_at_call 86
                     refine (HHAS.out _ (below_trans hb1 hb3)).mono ?_
                     rintro e w4 ⟨rfl, hb4⟩
                     have hA4 := hA.trans (below_trans (below_trans hb1 hb3) hb4)
                     have hA5 := hA4.alloc (.cells #[.iface T1 x1, str x] 79)
                     have hnw := After.new w4 (.cells #[.iface T1 x1, str x] 79)
                     obtain ⟨cs, ho, hcs⟩ := (hrow.out.later (below_trans (below_trans hb1 hb3) hb4)).later hnw
                     have HO := Lib.hid ho
                     have HCS := Lib.hid hcs
                     have hlit := World.ownsRow_lit (base := w4.heap.size) (e := 79) (size := 2) w4 #[.iface T1 x1, str x] 1 (Nat.le_refl _) (by decide) (by simp)
                     have hnews := Lib.hid (hlit.cells (g := w4.heap.size) rfl)
                     obtain ⟨hi0, hz0, hz1, hz2⟩ := HI.out
                     have hb5 : w.heap.size ≤ (w4.alloc (.cells #[.iface T1 x1, str x] 79)).heap.size := hA5.size
                     have hxs4 : xs.length ≤ 4 := by have := HXN.out; omega
                     clear ho hcs hlit)
                  | (at_builtin; refine wpList_append_lies _ (by rfl) _ _ 72 (by rfl) w.heap.size 79 i0 (.agg #[.nilIface, .string ⟨#[]⟩]) 2 32 HUN.out hi0 hz0 hz1 hz2 rfl (by decide) _ _ _ (by rfl) HO.out ⟨w4.heap.size, 0, none⟩ 1 1 [.iface T1 x1, str x] (by rfl) (by rfl) hnews.out (by simp [Value.oneCell', str]) (by omega) (by unfold maxLen; omega) (by omega) hb5 _ rfl ?_; intro g4 q4 w5 ho4 hg4 _ hlt4; have HO4 := Lib.hid ho4; have HG4 := Lib.hid hg4; clear ho4 hg4))
                go_roundw
                case rel =>
                  refine ⟨k + 1, by go_num, by omega, ?_, HY, ?_⟩
                  · show RowE _ _ _ _
                    rw [HTK'.out]
                    exact RowE.push ⟨cs, HO.out, HCS.out, HO4.out⟩ HG4.out HRZ.out (((HT1.out.below (below_trans hb3 hb4)).below hnw))
                  · exact hA5.grown HG4.out hA5.size (fun k hk => (HO.out.lt k hk).1)
                case measure => simp [intOf]; omega
      · obtain rfl : k = n := by omega
        have hD : ∀ ys v, ys = rs → RowE wr w.heap.size v ys → RowE wr w.heap.size v rs := fun ys v e h => e ▸ h
        have HD := Lib.hid (hD _ _ HTL.out hrow.out)
        clear hD
        have HT : Hid (r = true) := by show _ = _; rw [HR'.out, hpf.out]
        clear hrow
        go_wp2_with fail
        go_ret2
        exact hdone.out HT.out _ _ _ _ hA HD.out
  · have HR' : Hid (r = false) := by show _ = _; rw [HR.out, decide_eq_false hb, Bool.false_and]
    clear HR
    by_cases h0 : n = 0
    · subst h0
      go_enter Tryz.func66, Tryz.ntmps66
      go_wp2_with fail
      go_ret2
      exact hfail.out HR'.out _ (After.refl _)
    · have hn0 : ((n : Int) == 0) = false := beq_eq_false_iff_ne.2 (by omega)
      have hn4 : 4 < (n : Int) := by omega
      go_enter Tryz.func66, Tryz.ntmps66
      go_wp2_with fail
      go_ret2
      exact hfail.out HR'.out _ (After.refl _)
end Go.Proofs.YtidpkmkhcomcdaaGreat

namespace Go.Proofs.YtidpkmkhcomcdaaGreat
open Go.RowKit

set_option maxHeartbeats 2000000
set_option maxRecDepth 100000

theorem RowE.less {w : World} {base base' : Nat} {sv : Value} {xs : List (List UInt8)} (h : RowE w base sv xs) (hB : base' ≤ base) : RowE w base' sv xs := by
  obtain ⟨cs, ho, hc⟩ := h
  refine ⟨cs, ⟨ho.1, ?_⟩, fun j hj => ?_⟩
  · rcases ho.2 with h | ⟨g, cap, cur, h1, h2, h3⟩
    · exact Or.inl h
    · exact Or.inr ⟨g, cap, cur, h1, Nat.le_trans hB h2, h3⟩
  · obtain ⟨T, v, t, h1, h2, h3, h4⟩ := hc j hj
    exact ⟨T, v, t, h1, h2, h3, h4.less hB⟩

/-- An element keeps when a row of another type grows. -/
theorem RowE.keptT {w W : World} {base : Nat} {sv : Value} {xs : List (List UInt8)} (h : RowE w base sv xs)
    (hk : ∀ (b : Nat) (cs : Array Value) (T : TypeId) (fr : Nat × Nat), T ≠ 72 → T ≠ 3 → w.heap[b]? = some (.cells cs T fr) → W.heap[b]? = some (.cells cs T fr)) : RowE W base sv xs := by
  obtain ⟨cs, ho, hc⟩ := h
  refine ⟨cs, ⟨ho.1, ?_⟩, fun j hj => ?_⟩
  · rcases ho.2 with h | ⟨g, cap, cur, h1, h2, h3, h4⟩
    · exact Or.inl h
    · exact Or.inr ⟨g, cap, cur, h1, h2, hk _ _ _ _ (by decide) (by decide) h3, h4⟩
  · obtain ⟨T, v, t, h1, h2, h3, h4⟩ := hc j hj
    exact ⟨T, v, t, h1, h2, h3, h4.keptT fun b cs T fr _ h5 h6 hb => hk b cs T fr h5 h6 hb⟩

/-- The elements of an assembly. -/
def RowA (w : World) (base : Nat) (sv : Value) (a : List (List (List UInt8))) : Prop :=
  ∃ cs, w.ownsRow base 72 1 sv a.length cs ∧ ∀ j, j < a.length → ∃ ev, cs[j]? = some ev ∧ RowE w base ev (a.getD j [])

theorem RowA.nil (w : World) (base : Nat) : RowA w base (.slice none 0 0) [] := ⟨[], World.ownsRow_nil w base _ _, fun j h => absurd h (Nat.not_lt_zero j)⟩

theorem RowA.later {w W : World} {base : Nat} {sv : Value} {a : List (List (List UInt8))} (h : RowA w base sv a) (hA : After w W) : RowA W base sv a := by
  obtain ⟨cs, ho, hc⟩ := h
  refine ⟨cs, ho.kept (row := none) ⟨hA.os, hA.tape, hA.output, hA.size, fun k hk _ => hA.block k hk⟩ ?_, fun j hj => ?_⟩
  · cases sv.ownBlock with
    | none => exact Or.inl rfl
    | some g => exact Or.inr (by simp)
  · obtain ⟨ev, h1, h2⟩ := hc j hj
    exact ⟨ev, h1, h2.later hA⟩

theorem RowA.form {w : World} {base : Nat} {sv : Value} {a : List (List (List UInt8))} (h : RowA w base sv a) : ∃ ao cap, sv = .slice ao a.length cap := by
  obtain ⟨cs, ho, _⟩ := h
  rcases ho.2 with ⟨rfl, h0⟩ | ⟨g, cap, cur, rfl, _⟩
  · exact ⟨_, _, by rw [h0]⟩
  · exact ⟨_, _, rfl⟩

/-- What can be read of it. -/
theorem RowA.at {w : World} {base : Nat} {sv : Value} {a : List (List (List UInt8))} (h : RowA w base sv a) (j : Nat) (hj : j < a.length) : ∃ g cap ev, sv = .slice (some ⟨g, 0, none⟩) a.length cap ∧ w.cell? ⟨g, j, none⟩ = some ev ∧ RowE w base ev (a.getD j []) := by
  obtain ⟨cs, ho, hc⟩ := h
  obtain ⟨ev, h1, h2⟩ := hc j hj
  rcases ho.2 with ⟨rfl, h0⟩ | ⟨g, cap, cur, rfl, _⟩
  · omega
  · exact ⟨g, cap, ev, rfl, (ho.cellAt j (by omega)).trans h1, h2⟩

theorem RowA.push {w w' : World} {base g cap : Nat} {sv ev : Value} {a : List (List (List UInt8))} {xs : List (List UInt8)} {cs : List Value} (ho : w.ownsRow base 72 1 sv a.length cs) (hc : ∀ j, j < a.length → ∃ ev, cs[j]? = some ev ∧ RowE w base ev (a.getD j []))
    (ho' : w'.ownsRow base 72 1 (.slice (some ⟨g, 0, none⟩) (a.length + 1) cap) (a.length + 1) (cs ++ [ev])) (hg : w.grownBy w' sv.ownBlock) (hx : RowE w base ev xs) : RowA w' base (.slice (some ⟨g, 0, none⟩) (a.length + 1) cap) (a ++ [xs]) := by
  have hcl : cs.length = a.length := by have := ho.1; omega
  have hk : ∀ {v : Value} {ys : List (List UInt8)}, RowE w base v ys → RowE w' base v ys := fun h => h.keptT fun b cs T fr h1 _ hb => row_keeps ho hg b cs T fr h1 hb
  refine ⟨_, by rw [List.length_append]; exact ho', fun j hj => ?_⟩
  by_cases hjl : j < a.length
  · obtain ⟨ev', h1, h2⟩ := hc j hjl
    have hgd : (a ++ [xs]).getD j [] = a.getD j [] := by simp [List.getD, List.getElem?_append_left hjl]
    rw [hgd]
    exact ⟨ev', by rw [List.getElem?_append_left (by omega)]; exact h1, hk h2⟩
  · have hj' : j = a.length := by rw [List.length_append, List.length_singleton] at hj; omega
    subst hj'
    have hgd : (a ++ [xs]).getD a.length [] = xs := by simp [List.getD]
    rw [hgd]
    exact ⟨ev, by rw [List.getElem?_append_right (by omega), hcl, Nat.sub_self]; rfl, hk hx⟩

/-- The elements, if the assembly is valid. -/
def ReadAsmPost (w : World) (a : List (List (List UInt8))) (e : Ending) (w' : World) : Prop :=
  ∃ ao n c, e = .returned (.tuple #[.slice ao n c, .bool (Asm.ok a)]) ∧ After w w' ∧ (Asm.ok a = true → RowA w' w.heap.size (.slice ao n c) a)

theorem readAssembly_any (w : World) (sv : Value) (a : List (List (List UInt8))) (h : SSU 0 w sv a) (hl : Lens 1000000000 a) :
    Calls Tryz.prog 36 #[.agg #[sv]] w (ReadAsmPost w a) := by
  obtain ⟨f, ⟨ao0, cap0, rfl, hc⟩, hf⟩ := h
  obtain ⟨hn, hz⟩ := hl
  have hcall : ∀ j, j < a.length → ∀ W, After w W → Calls Tryz.prog 66 #[f j] W (ReadElPost W (a.getD j [])) := fun j hj W hW => by
    have hm := hz (a.getD j []) (by rw [List.getD, List.getElem?_eq_getElem hj]; exact List.getElem_mem hj)
    exact readElement_any W (f j) _ ((hf j hj).later hW) hm.1 hm.2
  have hform : ∀ j, j < a.length → ∃ ao' m c, f j = .slice ao' m c := fun j hj => by
    obtain ⟨ao', c, e, _⟩ := hf j hj
    exact ⟨_, _, _, e⟩
  obtain ⟨r, hr⟩ : ∃ r, r = Asm.ok a := ⟨_, rfl⟩
  have hr' : r = (decide (1 ≤ a.length ∧ a.length ≤ 6) && Asm.els a a.length) := by rw [hr, Asm.ok, Bool.decide_and]
  have hfail : Hid (r = false → ∀ W, After w W → ReadAsmPost w a (.returned (.tuple #[.slice none 0 0, .bool false])) W) := fun h W hW => ⟨none, 0, 0, by rw [← hr, h], hW, fun e => by rw [← hr, h] at e; cases e⟩
  have hdone : Hid (r = true → ∀ W ao n c, After w W → RowA W w.heap.size (.slice ao n c) a → ReadAsmPost w a (.returned (.tuple #[.slice ao n c, .bool true])) W) := fun h W ao n c hW hR => ⟨ao, n, c, by rw [← hr, h], hW, fun _ => hR⟩
  have htk : ∀ k, k < a.length → a.take (k + 1) = a.take k ++ [a.getD k []] := fun k hk => by rw [List.take_succ_eq_append_getElem hk, List.getD, List.getElem?_eq_getElem hk]; rfl
  have htl : a.take a.length = a := List.take_length
  have hlt0 : ∀ k, k ≤ a.length → (a.take k).length = k := fun k hk => by simp; omega
  have hA0 := After.new w (.cells #[.slice ao0 a.length cap0] 26)
  have hbox := heap_new' w (.cells #[.slice ao0 a.length cap0] 26)
  obtain ⟨o0, o1, o2⟩ := one_facts hbox (After.refl _)
  obtain ⟨n, hn'⟩ : ∃ n, n = a.length := ⟨_, rfl⟩
  rw [← hn'] at hc hn hcall hform hr' htk htl hlt0 hA0 hbox o0 o1 o2 ⊢
  have HC := Lib.hid hc
  have HR := Lib.hid hr'
  have HTK := Lib.hid htk
  have HTL := Lib.hid htl
  have HLT := Lib.hid hlt0
  have HCALL := Lib.hid hcall
  have HF := Lib.hid hform
  clear hc hr hr' htk hn' htl hlt0 hz hcall hform hf hbox
  by_cases hb : 1 ≤ n ∧ n ≤ 6
  · have HR' : Hid (r = Asm.els a n) := by show _ = _; rw [HR.out, decide_eq_true hb, Bool.true_and]
    clear HR
    obtain ⟨hb1, hb2⟩ := hb
    have hn0 : ((n : Int) == 0) = false := beq_eq_false_iff_ne.2 (by omega)
    have hn6 : ¬ (6 < (n : Int)) := by omega
    have hi : ∃ i, (Tryz.prog).info? 72 = some i ∧ i.zero = some (.slice none 0 0) ∧ i.size = 1 ∧ i.bytes = 24 := ⟨_, rfl, rfl, rfl, rfl⟩
    obtain ⟨i0, hi0, hz0, hz1, hz2⟩ := hi
    have hun : Tryz.prog.underlying 59 = some (.slice 72) := by kernel_rfl
    have HUN := Lib.hid hun
    have HI := Lib.hid (And.intro hi0 (And.intro hz0 (And.intro hz1 hz2)))
    clear hun hi0 hz0 hz1 hz2
    go_enter Tryz.func36, Tryz.ntmps36
    go_wp2_with fail
    generalize w.alloc (.cells #[.slice ao0 n cap0] 26) = w0 at *
    go_loopw [4, 22] (fun e i wr => ∃ k : Nat, i = .int .i64 k ∧ k ≤ n ∧ Hid (RowA wr w.heap.size e (a.take k)) ∧ Hid (Asm.els a k = true) ∧ After w wr) (fun _ i _ => n - (intOf i).toNat)
    case atStart => exact ⟨0, rfl, Nat.zero_le _, by show RowA _ _ _ _; exact RowA.nil w0 _, by show _ = _; rfl, hA0⟩
    case round =>
      obtain ⟨k, rfl, hk, hrow, hpf, hA⟩ := hrel
      obtain ⟨ao, cap, rfl⟩ := hrow.out.form
      by_cases hlt : k < n
      · obtain ⟨b, off, rfl, _, h1⟩ := HC.out k hlt
        replace h1 := hA.cell h1
        have hcall := HCALL.out k hlt wr hA
        obtain ⟨ao1, m1, c1, e1⟩ := HF.out k hlt
        rw [e1] at h1 hcall
        have htk := HTK.out k hlt
        have hno : Hid (Asm.el (a.getD k []) = false → r = false) := fun h => by rw [HR'.out]; exact Asm.els_no h hlt
        have hyes : Hid (Asm.el (a.getD k []) = true → Asm.els a (k + 1) = true) := fun h => by rw [Asm.els_succ, hpf.out, h]; rfl
        have hxn := HLT.out k hk
        obtain ⟨xs, hxs⟩ : ∃ xs, xs = a.take k := ⟨_, rfl⟩
        rw [← hxs] at hrow htk hxn ⊢
        have HTK' := Lib.hid htk
        have HXN := Lib.hid hxn
        have hlt' : (k : Int) < (n : Int) := by omega
        unfold ReadElPost at hcall
        clear htk hxs hxn e1
        cases hel : Asm.el (a.getD k []) with
        | false =>
          have HFl := Lib.hid (hno.out hel)
          rw [hel] at hcall
          clear hel
          go_wp2_with fail
          refine hcall.mono ?_
          rintro e w1 ⟨ao2, n2, c2, rfl, hb1, hv1⟩
          clear hv1 hcall
          go_wp2_with fail
          go_ret2
          exact hfail.out HFl.out _ (hA.trans hb1)
        | true =>
          have HY := Lib.hid (hyes.out hel)
          rw [hel] at hcall
          clear hel
          go_wp2_with fail
          refine hcall.mono ?_
          rintro e w1 ⟨ao2, n2, c2, rfl, hb1, hv1⟩
          have HV1 := Lib.hid ((hv1 (by trivial)).less hA.size)
          have hA1 := hA.trans hb1
          have hA5 := hA1.alloc (.cells #[.slice ao2 n2 c2] 72)
          have hnw := After.new w1 (.cells #[.slice ao2 n2 c2] 72)
          obtain ⟨cs, ho, hcs⟩ := (hrow.out.later hb1).later hnw
          have HO := Lib.hid ho
          have HCS := Lib.hid hcs
          have hlit := World.ownsRow_lit (base := w1.heap.size) (e := 72) (size := 1) w1 #[.slice ao2 n2 c2] 1 (Nat.le_refl _) (by decide) (by simp)
          have hnews := Lib.hid (hlit.cells (g := w1.heap.size) rfl)
          obtain ⟨hi0, hz0, hz1, hz2⟩ := HI.out
          have hb5 := hA5.size
          have hxs4 : xs.length ≤ 6 := by have := HXN.out; omega
          clear ho hcs hlit hv1 hcall
          go_wp2_with (at_builtin; refine wpList_append_lies _ (by rfl) _ _ 59 (by rfl) w.heap.size 72 i0 (.slice none 0 0) 1 24 HUN.out hi0 hz0 hz1 hz2 rfl (by decide) _ _ _ (by rfl) HO.out ⟨w1.heap.size, 0, none⟩ 1 1 [.slice ao2 n2 c2] (by rfl) (by rfl) hnews.out (by simp [Value.oneCell']) (by omega) (by unfold maxLen; omega) (by omega) hb5 _ rfl ?_; intro g4 q4 w5 ho4 hg4 _ hlt4; have HO4 := Lib.hid ho4; have HG4 := Lib.hid hg4; clear ho4 hg4)
          go_roundw
          case rel =>
            refine ⟨k + 1, by go_num, by omega, ?_, HY, ?_⟩
            · show RowA _ _ _ _
              rw [HTK'.out]
              exact RowA.push HO.out HCS.out HO4.out HG4.out (HV1.out.later hnw)
            · exact hA5.grown HG4.out hA5.size (fun k hk => (HO.out.lt k hk).1)
          case measure => simp [intOf]; omega
      · obtain rfl : k = n := by omega
        have hD : ∀ ys v, ys = a → RowA wr w.heap.size v ys → RowA wr w.heap.size v a := fun ys v e h => e ▸ h
        have HD := Lib.hid (hD _ _ HTL.out hrow.out)
        clear hD
        have HT : Hid (r = true) := by show _ = _; rw [HR'.out, hpf.out]
        clear hrow
        go_wp2_with fail
        go_ret2
        exact hdone.out HT.out _ _ _ _ hA HD.out
  · have HR' : Hid (r = false) := by show _ = _; rw [HR.out, decide_eq_false hb, Bool.false_and]
    clear HR
    by_cases h0 : n = 0
    · subst h0
      go_enter Tryz.func36, Tryz.ntmps36
      go_wp2_with fail
      go_ret2
      exact hfail.out HR'.out _ hA0
    · have hn0 : ((n : Int) == 0) = false := beq_eq_false_iff_ne.2 (by omega)
      have hn6 : 6 < (n : Int) := by omega
      go_enter Tryz.func36, Tryz.ntmps36
      go_wp2_with fail
      go_ret2
      exact hfail.out HR'.out _ hA0

theorem impl_asmValid (w : World) (sv : Value) (a : List (List (List UInt8))) (h : SSU 0 w sv a) (hl : Lens 1000000000 a) :
    Calls Tryz.prog 19 #[.agg #[sv]] w fun e w' => e = .returned (.bool (Asm.ok a)) ∧ After w w' := by
  have hcall := fun W (hW : After w W) => readAssembly_any W sv a (h.later hW) hl
  obtain ⟨ao, cap, rfl⟩ := h.form
  have hA0 := After.new w (.cells #[.slice ao a.length cap] 26)
  have hc := hcall _ hA0
  unfold ReadAsmPost at hc
  generalize Asm.ok a = r at *
  clear hcall h hl
  generalize a.length = n at *
  go_enter Tryz.func19, Tryz.ntmps19
  go_wp2_with fail
  refine hc.mono ?_
  rintro e w1 ⟨ao2, n2, c2, rfl, hb1, hv1⟩
  clear hv1 hc
  go_wp2_with fail
  go_ret
  exact ⟨rfl, hA0.trans hb1⟩
end Go.Proofs.YtidpkmkhcomcdaaGreat

namespace Go.Proofs.YtidpkmkhcomcdaaGreat
open Go.RowKit

set_option maxHeartbeats 1000000
set_option maxRecDepth 100000

theorem normalFitting_any (w : World) (B : Nat) (T : Tm) (v3 : Value) (hT : TV w B T v3) (hB : B ≤ w.heap.size) :
    Calls Tryz.prog 106 #[v3] w (DataPost w B (Tm.endOf T)) := by
  have hfit := fits_any w _ _ v3 hT
  rw [Tm.endOf_eq]
  cases hfa : T.fits with
  | false =>
    simp only [Bool.false_eq_true, if_false]
    rw [hfa] at hfit
    clear hT
    go_enter Tryz.func106, Tryz.ntmps106
    go_wp2_with (go_at_call 84; refine hfit.mono ?_; rintro e w4 ⟨rfl, hb4⟩)
    go_ret2
    exact ⟨_, rfl, hb4, fun t h => by cases h⟩
  | true =>
    have hnorm := fun W v h hB => normalTerm_any W B T v h hB hfa
    unfold NormPost at hnorm
    simp only [if_true]
    generalize hmm : T.many 6000 = mm at *
    clear hmm
    obtain ⟨x, c⟩ := mm
    simp only at hnorm ⊢
    generalize hb : x.normal = b at *
    rw [hfa] at hfit
    clear hb hfa
    have hpost : ∀ W v, Below w.heap.size w W → TV W B x v → DataPost w B (if b = true then some x else none) (.returned (.tuple #[v, .bool b])) W := fun W v hb' ht => by
      cases b with
      | true => exact ⟨_, rfl, hb', fun t' h => by obtain rfl := Option.some.inj h; exact ht⟩
      | false => exact ⟨_, rfl, hb', fun t' h => by cases h⟩
    generalize (if b = true then some x else none) = R at hpost ⊢
    have HPOST := Lib.hid hpost
    have HV3 := Lib.hid hT
    clear hpost hT
    go_enter Tryz.func106, Tryz.ntmps106
    go_wp2_with (go_at_call 84; refine hfit.mono ?_; rintro e w4 ⟨rfl, hb4⟩)
    have hcall2 := hnorm w4 v3 (HV3.out.below hb4) (Nat.le_trans hB hb4.size)
    clear hnorm hfit
    refine hcall2.mono ?_
    rintro e w6 ⟨v6, rfl, hb6, hv6⟩
    have HV6 := Lib.hid hv6
    clear hv6 hcall2
    go_wp2_with fail
    go_ret2
    exact HPOST.out _ _ (below_trans hb4 hb6) HV6.out

theorem applyNormal_any (w : World) (B : Nat) (f a : Tm) (vf va : Value) (hf : TV w B f vf) (ha : TV w B a va) (hB : B ≤ w.heap.size) (hz : f.size + a.size ≤ 1000000000) :
    Calls Tryz.prog 90 #[vf, va] w (DataPost w B (Tm.endOf (.app f a))) := by
  have happ := apply_any w B f a vf va hf ha hB (by omega)
  clear hf ha
  go_enter Tryz.func90, Tryz.ntmps90
  go_wp2_with fail
  refine happ.mono ?_
  rintro e w2 ⟨v3, rfl, hb2, hv3⟩
  have hcall := normalFitting_any w2 B _ v3 hv3 (Nat.le_trans hB hb2.size)
  unfold DataPost at hcall
  clear hv3 happ
  go_wp2_with fail
  refine hcall.mono ?_
  rintro e w4 ⟨v4, rfl, hb4, hv4⟩
  have HV := Lib.hid hv4
  clear hv4 hcall
  generalize Tm.endOf (.app f a) = R at *
  go_wp2_with fail
  go_ret2
  exact ⟨_, rfl, below_trans hb2 hb4, HV.out⟩
end Go.Proofs.YtidpkmkhcomcdaaGreat

namespace Go.Proofs.YtidpkmkhcomcdaaGreat
open Go.RowKit

set_option maxHeartbeats 1000000
set_option maxRecDepth 100000

/-- The closure of targets: is element j without the text? -/
theorem targets1_any (w : World) (qa qt base : Nat) (sv : Value) (b : List (List (List UInt8))) (text : List UInt8) (h : RowA w base sv b) (hqa : w.cell? ⟨qa, 0, none⟩ = some sv) (hqt : w.cell? ⟨qt, 0, none⟩ = some (str text)) (j : Nat) (hj : j < b.length) (hn : (b.getD j []).length ≤ 1000000000) :
    Calls Tryz.prog 92 #[.int .i64 j, .pointer (some ⟨qa, 0, none⟩), .pointer (some ⟨qt, 0, none⟩)] w fun e w' => e = .returned (.bool (!decide (text ∈ b.getD j []))) ∧ After w w' := by
  obtain ⟨g, cap, ev, rfl, hc, he⟩ := h.at j hj
  have hcall := fun W (hW : After w W) => has_el W ev (b.getD j []) text (he.pairs.later hW) hn
  obtain ⟨ao, c, rfl⟩ := he.form
  have hjl : (j : Int) < (b.length : Int) := by omega
  have x1 : ∀ W, After w W → W.cell? ⟨qa, 0, none⟩ = some (.slice (some ⟨g, 0, none⟩) b.length cap) := fun W hW => hW.cell hqa
  have x2 : ∀ W, After w W → W.cell? ⟨qt, 0, none⟩ = some (str text) := fun W hW => hW.cell hqt
  have x3 : ∀ W, After w W → W.cell? ⟨g, j, none⟩ = some (.slice ao (b.getD j []).length c) := fun W hW => hW.cell hc
  have HCALL := Lib.hid hcall
  have hself := After.refl w
  clear h hqa hqt hc he hcall hn hj
  generalize decide (text ∈ b.getD j []) = r at *
  generalize (b.getD j []).length = k at *
  generalize b.length = n at *
  go_enter Tryz.func92, Tryz.ntmps92
  go_wp2_with fail
  go_region_held3 (fun W' => After w W') (first | assumption | exact hself.drew | go_keep)
    (first
      | (go_at_call 86
         have hd := hself.drew
         refine (HCALL.out _ (by first | assumption | exact hself.drew)).mono ?_
         rintro e w1 ⟨rfl, hb1⟩
         have hb1' := After.trans (by first | assumption | exact hself.drew) hb1))
  all_goals
    go_wp2_with fail
    go_ret
    exact ⟨rfl, hb1'⟩

theorem index_int (w : World) (g cap : Nat) (xs : List Nat) (P : Nat → Bool) (qa qt : Nat) (hn : xs.length ≤ 1000000) (hc : ∀ j, j < xs.length → w.cell? ⟨g, j, none⟩ = some (.int .i64 ((xs.getD j 0 : Nat) : Int)))
    (hcall : ∀ W, After w W → ∀ j, j < xs.length → Calls Tryz.prog 92 #[.int .i64 ((xs.getD j 0 : Nat) : Int), .pointer (some ⟨qa, 0, none⟩), .pointer (some ⟨qt, 0, none⟩)] W fun e w' => e = .returned (.bool (P (xs.getD j 0))) ∧ After W w') :
    Calls Tryz.prog 107 #[.slice (some ⟨g, 0, none⟩) xs.length cap, .func (.func 92) #[] #[.pointer (some ⟨qa, 0, none⟩), .pointer (some ⟨qt, 0, none⟩)]] w fun e w' =>
      (∃ r : Int, e = .returned (.int .i64 r) ∧ ((r = -1 ∧ ∀ j, j < xs.length → P (xs.getD j 0) = false) ∨ ∃ i : Nat, r = i ∧ i < xs.length ∧ P (xs.getD i 0) = true ∧ ∀ j, j < i → P (xs.getD j 0) = false)) ∧ After w w' := by
  obtain ⟨n, hnn⟩ : ∃ n, n = xs.length := ⟨_, rfl⟩
  rw [← hnn] at hn hc hcall ⊢
  have HC := Lib.hid hc
  have HCALL := Lib.hid hcall
  clear hc hcall hnn
  go_enter Tryz.func107, Tryz.ntmps107
  go_wp2_with fail
  go_loopw [8] (fun i wr => ∃ k : Nat, i = .int .i64 k ∧ k ≤ n ∧ Hid (∀ j, j < k → P (xs.getD j 0) = false) ∧ After w wr) (fun i _ => n - (intOf i).toNat)
  case atStart => exact ⟨0, rfl, Nat.zero_le _, by show ∀ j, _; exact fun j hj => absurd hj (Nat.not_lt_zero j), After.refl _⟩
  case round =>
    obtain ⟨k, rfl, hk, hall, hA⟩ := hrel
    by_cases hlt : k < n
    · have h1 := hA.cell (HC.out k hlt)
      have hcall := HCALL.out wr hA k hlt
      have hlt' : (k : Int) < (n : Int) := by omega
      obtain ⟨x, hx⟩ : ∃ x, x = xs.getD k 0 := ⟨_, rfl⟩
      obtain ⟨b, hb⟩ : ∃ b, b = P x := ⟨_, rfl⟩
      rw [← hx] at h1 hcall
      rw [← hb] at hcall
      have HB : Hid (P (xs.getD k 0) = b) := by show _ = _; rw [hb, hx]
      clear hx hb
      cases b with
      | true =>
        go_wp2_with fail
        refine hcall.mono ?_
        rintro e w1 ⟨rfl, hb1⟩
        go_wp2_with fail
        go_ret
        exact ⟨⟨k, rfl, Or.inr ⟨k, rfl, hlt, HB.out, hall.out⟩⟩, hA.trans hb1⟩
      | false =>
        go_wp2_with fail
        refine hcall.mono ?_
        rintro e w1 ⟨rfl, hb1⟩
        go_wp2_with fail
        go_roundw
        case rel =>
          refine ⟨k + 1, by go_num, by omega, ?_, hA.trans hb1⟩
          show ∀ j, _
          intro j hj
          by_cases e : j = k
          · rw [e]; exact HB.out
          · exact hall.out j (by omega)
        case measure => simp [intOf]; omega
    · obtain rfl : k = n := by omega
      go_wp2_with fail
      go_ret
      exact ⟨⟨-1, rfl, Or.inl ⟨rfl, hall.out⟩⟩, hA⟩

theorem own_cut {w : World} {base g n cap k : Nat} {E : TypeId} {vs : List Value} (h : w.ownsRow base E 1 (.slice (some ⟨g, 0, none⟩) n cap) n vs) (hk : k ≤ n) : w.ownsRow base E 1 (.slice (some ⟨g, 0, none⟩) k cap) k (vs.take k) := by
  have hl := h.1
  rcases h.2 with ⟨h', _⟩ | ⟨g', cap', cur, h', hb, hg, hnc, hcm, hcs, htake⟩
  · cases h'
  · simp only [Value.slice.injEq, Option.some.injEq, Addr.mk.injEq, and_true, true_and] at h'
    obtain ⟨rfl, rfl⟩ := h'
    refine ⟨by rw [List.length_take]; omega, Or.inr ⟨g, cap, cur, rfl, hb, hg, by omega, hcm, hcs, ?_⟩⟩
    rw [← htake, List.take_take]
    congr 1
    omega

theorem own_cells {base g n cap : Nat} {E : TypeId} (z : Value) : ∀ (m o : Nat) {w : World} {vs : List Value}, w.ownsRow base E 1 (.slice (some ⟨g, 0, none⟩) n cap) n vs → ∃ vs', (w.setCells g o (List.replicate m z)).ownsRow base E 1 (.slice (some ⟨g, 0, none⟩) n cap) n vs' ∧ vs'.take o = vs.take o ∧ w.grownBy (w.setCells g o (List.replicate m z)) (some g)
  | 0, o, w, vs, h => ⟨vs, h, rfl, ⟨rfl, rfl, rfl, Nat.le_refl _, fun _ _ _ => rfl⟩⟩
  | m + 1, o, w, vs, h => by
    obtain ⟨h1, g1⟩ := h.stored o z
    obtain ⟨vs', h2, h3, g2⟩ := own_cells z m (o + 1) h1
    refine ⟨vs', h2, ?_, ⟨g2.os.trans g1.os, g2.tape.trans g1.tape, g2.output.trans g1.output, Nat.le_trans g1.size g2.size, fun k hk hne => (g2.block k (Nat.lt_of_lt_of_le hk g1.size) hne).trans (g1.block k hk hne)⟩⟩
    have := congrArg (List.take o) h3
    rw [List.take_take, List.take_take, Nat.min_eq_left (by omega)] at this
    rw [this, List.take_set_of_le (by omega)]

/-- What a DeleteFunc keeps of the first j numbers. -/
def kept (P : Nat → Bool) (xs : List Nat) : List Nat := xs.filter fun x => !P x
def ints (xs : List Nat) : List Value := xs.map fun x => .int .i64 ((x : Nat) : Int)
theorem kept_none {P : Nat → Bool} {xs : List Nat} (h : ∀ j, j < xs.length → P (xs.getD j 0) = false) : kept P xs = xs := by
  rw [kept, List.filter_eq_self]
  intro x hx
  obtain ⟨j, hj, rfl⟩ := List.getElem_of_mem hx
  have := h j hj
  rw [List.getD, List.getElem?_eq_getElem hj] at this
  simp at this
  simp [this]
theorem kept_succ {P : Nat → Bool} {xs : List Nat} {j : Nat} (hj : j < xs.length) : kept P (xs.take (j + 1)) = kept P (xs.take j) ++ (if P (xs.getD j 0) = true then [] else [xs.getD j 0]) := by
  have : xs.getD j 0 = xs[j] := by simp [List.getD, hj]
  rw [List.take_succ_eq_append_getElem hj, kept, kept, List.filter_append, this]
  cases h : P xs[j] <;> simp [h]
theorem kept_le (P : Nat → Bool) (xs : List Nat) (j : Nat) : (kept P (xs.take j)).length ≤ j := Nat.le_trans (List.length_filter_le _ _) (by rw [List.length_take]; omega)
end Go.Proofs.YtidpkmkhcomcdaaGreat

namespace Go.Proofs.YtidpkmkhcomcdaaGreat
open Go

section
variable {P : Program} (w : World)

/-- What is appended: nothing, or cells that lie there. -/
def SrcOk (w : World) (sv : Value) (news : List Value) : Prop :=
  (news = [] ∧ ∃ ao cap, sv = .slice ao 0 cap) ∨ ∃ ad m c, sv = .slice (some ad) m c ∧ 0 < m ∧ news.length = m ∧ ∀ j u, news[j]? = some u → w.cell? (ad.add j) = some u

theorem run_app {t ty e : TypeId} {i : TypeInfo} {z : Value} {base bytes : Nat} (ht : P.underlying t = some (.slice e)) (hi : P.info? e = some i) (hz : i.zero = some z)
    (hsize : i.size = 1) (hby : i.bytes = bytes) (hzs : z.cells.size = 1)
    {v : Value} {n : Nat} {xs : List Value} (hown : w.ownsRow base e 1 v n xs) {sv : Value} {news : List Value} (hsrc : SrcOk w sv news) (h1 : ∀ u ∈ news, u.oneCell' = true)
    (h63 : n + news.length ≤ maxLen) (hbytes : (n + news.length) * bytes ≤ 140737488355328) (hbase : base ≤ w.heap.size) :
    ∃ v' w', (Builtin.append_ #[t, t] ty #[v, sv]).run P w = .ok v' w' ∧ w'.ownsRow base e 1 v' (n + news.length) (xs ++ news) ∧ w.grownBy w' v.ownBlock := by
  rcases hsrc with ⟨rfl, ao, cap, rfl⟩ | ⟨ad, m, c, rfl, hm, hl, hc⟩
  · refine ⟨v, w, ?_, by simpa using hown, World.grownBy.refl _ _⟩
    rcases hown.2 with ⟨rfl, rfl⟩ | ⟨g, cap', cur, rfl, _, _, hnc, _⟩
    · cases ao <;> simp [Builtin.append_, run_underlying ht, sizeOf, typeInfo, hi, Builtin.lenOf, Builtin.firstCells, loadCells, loadCellsFrom]
    · cases ao <;> simp [Builtin.append_, run_underlying ht, sizeOf, typeInfo, hi, Builtin.lenOf, Builtin.firstCells, loadCells, loadCellsFrom, hnc, storeCells]
  · subst hl
    obtain ⟨v', w', h2, h3, h4, _⟩ := run_append_own (P := P) w base t ty e i z 1 bytes ht hi hz hsize hby hzs (by decide) v n xs hown ad news.length c news (by omega) hc h1 h63 hbytes hbase
    exact ⟨v', w', h2, h3, h4⟩

theorem wp_app {o : Oper} {a : Act} {K : Act → World → Prop} {Q : Exit → Act → World → Prop} (s x : Operand) (t : TypeId)
    (ho : o.op = .call { callee := .builtin .append, args := #[s, x], argTypes := #[t, t] })
    (base : Nat) (e : TypeId) (i : TypeInfo) (z : Value) (bytes : Nat) (ht : P.underlying t = some (.slice e)) (hi : P.info? e = some i) (hz : i.zero = some z)
    (hsize : i.size = 1) (hby : i.bytes = bytes) (hzs : z.cells.size = 1)
    (v : Value) (n : Nat) (xs : List Value) (hs : a.eval s = v) (hown : w.ownsRow base e 1 v n xs) (sv : Value) (news : List Value) (hx : a.eval x = sv) (hsrc : SrcOk w sv news) (h1 : ∀ u ∈ news, u.oneCell' = true)
    (h63 : n + news.length ≤ maxLen) (hbytes : (n + news.length) * bytes ≤ 140737488355328) (hbase : base ≤ w.heap.size)
    (h : ∀ v' w', w'.ownsRow base e 1 v' (n + news.length) (xs ++ news) → w.grownBy w' v.ownBlock → K (a.put o.dst v') w') : o.wp P a w K Q := by
  obtain ⟨v', w', hr, h2, h3⟩ := run_app (P := P) w (t := t) (ty := o.type) ht hi hz hsize hby hzs hown hsrc h1 h63 hbytes hbase
  unfold Oper.wp execOp
  simp only [ho, resolve, invoke, builtin, Sem.run_bind, Sem.run_pure, Result.andThen_ok, List.map_toArray, List.map_cons, List.map_nil, hs, hx, hr]
  exact h v' w' h2 h3

theorem wpList_app {ops : Array Oper} {rest : List Oper} {o : Oper} {a : Act} {Q : Exit → Act → World → Prop} (hgd : o.guard = none) (s x : Operand) (t : TypeId)
    (ho : o.op = .call { callee := .builtin .append, args := #[s, x], argTypes := #[t, t] })
    (base : Nat) (e : TypeId) (i : TypeInfo) (z : Value) (bytes : Nat) (ht : P.underlying t = some (.slice e)) (hi : P.info? e = some i) (hz : i.zero = some z)
    (hsize : i.size = 1) (hby : i.bytes = bytes) (hzs : z.cells.size = 1)
    (v : Value) (n : Nat) (xs : List Value) (hs : a.eval s = v) (hown : w.ownsRow base e 1 v n xs) (sv : Value) (news : List Value) (hx : a.eval x = sv) (hsrc : SrcOk w sv news) (h1 : ∀ u ∈ news, u.oneCell' = true)
    (h63 : n + news.length ≤ maxLen) (hbytes : (n + news.length) * bytes ≤ 140737488355328) (hbase : base ≤ w.heap.size)
    (h : ∀ v' w', w'.ownsRow base e 1 v' (n + news.length) (xs ++ news) → w.grownBy w' v.ownBlock → wpList P ops Q rest (a.put o.dst v') w') : wpList P ops Q (o :: rest) a w :=
  wpList_plain hgd fun _ hK => wp_app w s x t ho base e i z bytes ht hi hz hsize hby hzs v n xs hs hown sv news hx hsrc h1 h63 hbytes hbase fun v' w' h2 h3 => hK _ _ (h v' w' h2 h3)

theorem step_app {ops : Array Oper} {o : Oper} {a : Act} {K : Act → World → Prop} {Q : Exit → Act → World → Prop} {E : Prop} (hgd : o.guard = none) (s x : Operand) (t : TypeId)
    (ho : o.op = .call { callee := .builtin .append, args := #[s, x], argTypes := #[t, t] })
    (base : Nat) (e : TypeId) (i : TypeInfo) (z : Value) (bytes : Nat) (ht : P.underlying t = some (.slice e)) (hi : P.info? e = some i) (hz : i.zero = some z)
    (hsize : i.size = 1) (hby : i.bytes = bytes) (hzs : z.cells.size = 1)
    (v : Value) (n : Nat) (xs : List Value) (hs : a.eval s = v) (hown : w.ownsRow base e 1 v n xs) (sv : Value) (news : List Value) (hx : a.eval x = sv) (hsrc : SrcOk w sv news) (h1 : ∀ u ∈ news, u.oneCell' = true)
    (h63 : n + news.length ≤ maxLen) (hbytes : (n + news.length) * bytes ≤ 140737488355328) (hbase : base ≤ w.heap.size)
    (h : ∀ v' w', w'.ownsRow base e 1 v' (n + news.length) (xs ++ news) → w.grownBy w' v.ownBlock → K (a.put o.dst v') w') :
    if Region.wanted o (yielded ops a.tmps) = true then Oper.wp P o a w K Q else E := by
  have hw : Region.wanted o (yielded ops a.tmps) = true := by simp [Region.wanted, hgd]
  rw [if_pos hw]
  exact wp_app w s x t ho base e i z bytes ht hi hz hsize hby hzs v n xs hs hown sv news hx hsrc h1 h63 hbytes hbase h
end
end Go.Proofs.YtidpkmkhcomcdaaGreat
