/-
  Assemblies in plain mathematics: which lists of lists of texts are valid.
-/
import Derived.Test.YtipmgfbncfkmiaaPkU
import Derived.Test.YtipmgfbncfkmiaaPkN
import Derived.Deep.AppendLies
import Derived.Laws.OwnMore
import Derived.Test.YtipmgfbncfkmiaaPkV
namespace Go.Proofs.Ytipmgfbncfkmiaa

namespace Asm
abbrev Txt := List UInt8

/-- The term of a realizer. -/
def rz (x : Txt) : Option Tm := match Tm.closedOf x with
  | some t => if t.normal = true ∧ t.size ≤ 60 then some t else none
  | none => none
/-- Realizer k of a list is one, and stands there for the first time. -/
def step (rs : List Txt) (k : Nat) : Bool := (rz (rs.getD k [])).isSome && !decide (rs.getD k [] ∈ rs.take k)
def pfx (rs : List Txt) (k : Nat) : Bool := (List.range k).all (step rs)
def el (rs : List Txt) : Bool := decide (1 ≤ rs.length) && decide (rs.length ≤ 4) && pfx rs rs.length
def els (a : List (List Txt)) (i : Nat) : Bool := (List.range i).all fun j => el (a.getD j [])
def ok (a : List (List Txt)) : Bool := decide (1 ≤ a.length) && decide (a.length ≤ 6) && els a a.length

theorem pfx_succ (rs : List Txt) (k : Nat) : pfx rs (k + 1) = (pfx rs k && step rs k) := by simp [pfx, List.range_succ]
theorem els_succ (a : List (List Txt)) (i : Nat) : els a (i + 1) = (els a i && el (a.getD i [])) := by simp [els, List.range_succ]
theorem pfx_no {rs : List Txt} {k n : Nat} (h : step rs k = false) (hk : k < n) : pfx rs n = false := by
  rw [pfx, List.all_eq_false]
  exact ⟨k, List.mem_range.2 hk, by rw [h]; decide⟩
theorem els_no {a : List (List Txt)} {k n : Nat} (h : el (a.getD k []) = false) (hk : k < n) : els a n = false := by
  rw [els, List.all_eq_false]
  exact ⟨k, List.mem_range.2 hk, by rw [h]; decide⟩

/-- The sizes alone. -/
def szs (a : List (List Txt)) (i : Nat) : Bool := (List.range i).all fun j => decide (1 ≤ (a.getD j []).length) && decide ((a.getD j []).length ≤ 4)
def sizes (a : List (List Txt)) : Bool := decide (1 ≤ a.length) && decide (a.length ≤ 6) && szs a a.length
def pfs (a : List (List Txt)) (i : Nat) : Bool := (List.range i).all fun j => pfx (a.getD j []) (a.getD j []).length
theorem szs_succ (a : List (List Txt)) (i : Nat) : szs a (i + 1) = (szs a i && (decide (1 ≤ (a.getD i []).length) && decide ((a.getD i []).length ≤ 4))) := by simp [szs, List.range_succ]
theorem pfs_succ (a : List (List Txt)) (i : Nat) : pfs a (i + 1) = (pfs a i && pfx (a.getD i []) (a.getD i []).length) := by simp [pfs, List.range_succ]
theorem szs_no {a : List (List Txt)} {k n : Nat} (h : (decide (1 ≤ (a.getD k []).length) && decide ((a.getD k []).length ≤ 4)) = false) (hk : k < n) : szs a n = false := by
  rw [szs, List.all_eq_false]
  exact ⟨k, List.mem_range.2 hk, by rw [h]; decide⟩
theorem pfs_no {a : List (List Txt)} {k n : Nat} (h : pfx (a.getD k []) (a.getD k []).length = false) (hk : k < n) : pfs a n = false := by
  rw [pfs, List.all_eq_false]
  exact ⟨k, List.mem_range.2 hk, by rw [h]; decide⟩
theorem ok_eq (a : List (List Txt)) : ok a = (sizes a && pfs a a.length) := by
  have : els a a.length = (szs a a.length && pfs a a.length) := by
    rw [Bool.eq_iff_iff, Bool.and_eq_true, els, szs, pfs, List.all_eq_true, List.all_eq_true, List.all_eq_true]
    constructor
    · intro h
      refine ⟨fun x hx => ?_, fun x hx => ?_⟩
      · have := h x hx; unfold el at this; rw [Bool.and_eq_true] at this; exact this.1
      · have := h x hx; unfold el at this; rw [Bool.and_eq_true] at this; exact this.2
    · rintro ⟨h, g⟩ x hx
      unfold el
      rw [Bool.and_eq_true]
      exact ⟨h x hx, g x hx⟩
  rw [ok, sizes, this]
  simp only [Bool.and_assoc]

theorem rz_some (x : Txt) : (rz x).isSome = (Tm.pClosed x && (Tm.pNormal x && decide (¬ Tm.pSize x > 60))) := by
  unfold rz Tm.closedOf Tm.pClosed Tm.pNormal Tm.pSize
  cases hp : Tm.parse x with
  | none => rfl
  | some t =>
    simp only
    have hn : t.step.isNone = t.normal := (normal_none t).symm
    cases (Tm.names [] t).isEmpty with
    | false => rfl
    | true =>
      simp only [if_true, Bool.true_and, hn]
      by_cases h1 : t.normal = true
      · by_cases h2 : t.size ≤ 60
        · rw [if_pos ⟨h1, h2⟩, h1]
          simp; omega
        · rw [if_neg (fun h => h2 h.2), h1]
          simp; omega
      · rw [if_neg (fun h => h1 h.1)]
        have h1' : t.normal = false := by simpa using h1
        simp [h1']
end Asm
end Go.Proofs.Ytipmgfbncfkmiaa

namespace Go.Proofs.Ytipmgfbncfkmiaa
open Go.RowKit

set_option maxHeartbeats 1000000
set_option maxRecDepth 100000

/-- A row of terms beside their texts, in cells that can be read. -/
def PairsU (w : World) (sv : Value) (xs : List (List UInt8)) : Prop :=
  ∃ ao cap, sv = .slice ao xs.length cap ∧ ∀ j, j < xs.length → ∃ b off T v, ao = some ⟨b, off, none⟩ ∧ w.cell? ⟨b, off + j * 2, none⟩ = some (.iface T v) ∧ w.cell? ⟨b, off + j * 2 + 1, none⟩ = some (str (xs.getD j []))

theorem PairsU.later {w W : World} {sv : Value} {xs : List (List UInt8)} (h : PairsU w sv xs) (hA : After w W) : PairsU W sv xs := by
  obtain ⟨ao, cap, rfl, hc⟩ := h
  exact ⟨ao, cap, rfl, fun j hj => by obtain ⟨b, off, T, v, e, h1, h2⟩ := hc j hj; exact ⟨b, off, T, v, e, hA.cell h1, hA.cell h2⟩⟩

theorem has1_any (w : World) (q : Nat) (T : TypeId) (v : Value) (x text : List UInt8) (hq : w.cell? ⟨q, 0, none⟩ = some (str text)) :
    Calls Try.prog 160 #[.agg #[.iface T v, str x], .pointer (some ⟨q, 0, none⟩)] w fun e w' => e = .returned (.bool (x == text)) ∧ After w w' := by
  have hA := After.new w (.cells #[.iface T v, str x] 188)
  have h1 := hA.cell hq
  clear hq
  go_enter Try.func160, Try.ntmps160
  go_wp2_with fail
  go_ret
  exact ⟨rfl, hA⟩

theorem index_el (w : World) (sv : Value) (xs : List (List UInt8)) (q : Nat) (text : List UInt8) (h : PairsU w sv xs) (hq : w.cell? ⟨q, 0, none⟩ = some (str text)) (hn : xs.length ≤ 1000000000) :
    Calls Try.prog 162 #[sv, .func (.func 160) #[] #[.pointer (some ⟨q, 0, none⟩)]] w fun e w' =>
      ∃ r : Int, e = .returned (.int .i64 r) ∧ decide (r ≥ 0) = decide (text ∈ xs) ∧ After w w' := by
  obtain ⟨ao, cap, rfl, hc⟩ := h
  obtain ⟨r, hr⟩ : ∃ r, r = decide (text ∈ xs) := ⟨_, rfl⟩
  rw [← hr]
  have hstart : Hid (r = decide (text ∈ xs.drop 0)) := by show _ = _; rw [hr]; simp
  have hd : ∀ k, k < xs.length → xs.drop k = xs.getD k [] :: xs.drop (k + 1) := fun k hk => by rw [List.drop_eq_getElem_cons hk, List.getD, List.getElem?_eq_getElem hk]; rfl
  have hz : xs.drop xs.length = [] := List.drop_eq_nil_of_le (Nat.le_refl _)
  obtain ⟨n, hnn⟩ : ∃ n, n = xs.length := ⟨_, rfl⟩
  rw [← hnn] at hc hn hd hz ⊢
  have HC := Lib.hid hc
  have HD := Lib.hid hd
  have HZ := Lib.hid hz
  have HQ := Lib.hid hq
  clear hr hc hd hz hnn hq
  go_enter Try.func162, Try.ntmps162
  go_wp2_with fail
  go_loopw [8] (fun i wr => ∃ k : Nat, i = .int .i64 k ∧ k ≤ n ∧ Hid (r = decide (text ∈ xs.drop k)) ∧ After w wr) (fun i _ => n - (intOf i).toNat)
  case atStart => exact ⟨0, rfl, Nat.zero_le _, hstart, After.refl _⟩
  case round =>
    obtain ⟨k, rfl, hk, hr, hA⟩ := hrel
    clear hstart
    by_cases hlt : k < n
    · obtain ⟨b, off, T, v, rfl, h1, h2⟩ := HC.out k hlt
      replace h1 := hA.cell h1
      replace h2 := hA.cell h2
      have hcall := has1_any wr q T v (xs.getD k []) text (hA.cell HQ.out)
      rw [HD.out k hlt] at hr
      generalize xs.getD k [] = y at h1 h2 hr hcall
      have hlt' : (k : Int) < (n : Int) := by omega
      by_cases he : y = text
      · subst he
        have HS : Hid (r = true) := by show _ = _; rw [hr.out]; simp
        have heq : (y == y) = true := beq_self_eq_true y
        rw [heq] at hcall
        clear hr heq
        go_wp2_with fail
        refine hcall.mono ?_
        rintro e w1 ⟨rfl, hb1⟩
        go_wp2_with fail
        go_ret
        exact ⟨k, rfl, by rw [HS.out]; simp, hA.trans hb1⟩
      · have heq : (y == text) = false := beq_eq_false_iff_ne.2 he
        have HS : Hid (r = decide (text ∈ xs.drop (k + 1))) := by show _ = _; rw [hr.out]; simp [Ne.symm he]
        rw [heq] at hcall
        clear hr he heq
        go_wp2_with fail
        refine hcall.mono ?_
        rintro e w1 ⟨rfl, hb1⟩
        go_wp2_with fail
        go_roundw
        case rel => exact ⟨k + 1, by go_num, by omega, HS, hA.trans hb1⟩
        case measure => simp [intOf]; omega
    · obtain rfl : k = n := by omega
      have HS : Hid (r = false) := by show _ = _; rw [hr.out, HZ.out]; simp
      clear hr
      go_wp2_with fail
      go_ret
      exact ⟨-1, rfl, by rw [HS.out]; rfl, hA⟩

theorem has_el (w : World) (sv : Value) (xs : List (List UInt8)) (text : List UInt8) (h : PairsU w sv xs) (hn : xs.length ≤ 1000000000) :
    Calls Try.prog 154 #[sv, str text] w fun e w' => e = .returned (.bool (decide (text ∈ xs))) ∧ After w w' := by
  have hA := After.new w (.cells #[str text] 9)
  have hq : (w.alloc (.cells #[str text] 9)).cell? ⟨w.heap.size, 0, none⟩ = some (str text) := cell_of_heap (heap_new' w _)
  have hidx := index_el _ sv xs w.heap.size text (h.later hA) hq hn
  obtain ⟨ao, cap, rfl, _⟩ := h
  generalize decide (text ∈ xs) = r at *
  generalize xs.length = n at *
  have hcf : ∀ W, Calls Try.prog 162 #[.slice ao n cap, .func (.func 160) #[] #[.pointer (some ⟨w.heap.size, 0, none⟩)]] W (fun e w' => ∃ i : Int, e = .returned (.int .i64 i) ∧ decide (i ≥ 0) = r ∧ After W w') →
      Calls Try.prog 159 #[.slice ao n cap, .func (.func 160) #[] #[.pointer (some ⟨w.heap.size, 0, none⟩)]] W fun e w' => e = .returned (.bool r) ∧ After W w' := by
    intro W hi
    go_enter Try.func159, Try.ntmps159
    go_wp2_with fail
    refine hi.mono ?_
    rintro e w1 ⟨i, rfl, hir, hb1⟩
    have HI := Lib.hid hir
    clear hir hi
    go_wp2_with fail
    go_ret
    exact ⟨by rw [← HI.out]; rfl, hb1⟩
  have hcall := hcf _ hidx
  clear hidx hcf hq
  go_enter Try.func154, Try.ntmps154
  go_wp2_with fail
  refine hcall.mono ?_
  rintro e w1 ⟨rfl, hb1⟩
  go_wp2_with fail
  go_ret
  exact ⟨rfl, hA.trans hb1⟩
end Go.Proofs.Ytipmgfbncfkmiaa

namespace Go.Proofs.Ytipmgfbncfkmiaa
open Go.RowKit

set_option maxHeartbeats 2000000
set_option maxRecDepth 100000

theorem TV.keptT {A C : World} {B : Nat} (hk : ∀ (b : Nat) (cs : Array Value) (T : TypeId) (fr : Nat × Nat), T ≠ 188 → T ≠ 169 → T ≠ 3 → A.heap[b]? = some (.cells cs T fr) → C.heap[b]? = some (.cells cs T fr)) : ∀ {t : Tm} {v : Value}, TV A B t v → TV C B t v
  | .k, _, ⟨b, fr, hv, hb, h⟩ => ⟨b, fr, hv, hb, hk _ _ _ _ (by decide) (by decide) (by decide) h⟩
  | .s, _, ⟨b, fr, hv, hb, h⟩ => ⟨b, fr, hv, hb, hk _ _ _ _ (by decide) (by decide) (by decide) h⟩
  | .nm _, _, ⟨b, fr, hv, hb, h⟩ => ⟨b, fr, hv, hb, hk _ _ _ _ (by decide) (by decide) (by decide) h⟩
  | .app _ _, _, ⟨b, fr, vf, va, hv, hb, h, hf, ha⟩ => ⟨b, fr, vf, va, hv, hb, hk _ _ _ _ (by decide) (by decide) (by decide) h, hf.keptT hk, ha.keptT hk⟩

/-- What a row of one of these types keeps when it grows. -/
theorem row_keeps {w W : World} {base n size : Nat} {sv : Value} {vs : List Value} {E : TypeId} (ho : w.ownsRow base E size sv n vs) (hg : w.grownBy W sv.ownBlock) (b : Nat) (cs : Array Value) (T : TypeId) (fr : Nat × Nat) (hT : T ≠ E) (hb : w.heap[b]? = some (.cells cs T fr)) : W.heap[b]? = some (.cells cs T fr) := by
  rw [hg.block b (Array.getElem?_eq_some_iff.1 hb).1 (fun e => by
    rcases ho.2 with ⟨rfl, _⟩ | ⟨g, cap, cur, rfl, _, hh, _⟩
    · cases e
    · injection e with e
      subst e
      rw [hb] at hh
      injection hh with hh
      injection hh with _ hh _
      exact hT hh)]
  exact hb

/-- An element that grows: its realizers' terms and texts. -/
def RowE (w : World) (base : Nat) (sv : Value) (xs : List (List UInt8)) : Prop :=
  ∃ cs, w.ownsRow base 188 2 sv xs.length cs ∧ ∀ j, j < xs.length → ∃ T v t, cs[j * 2]? = some (.iface T v) ∧ cs[j * 2 + 1]? = some (str (xs.getD j [])) ∧ Asm.rz (xs.getD j []) = some t ∧ TV w base t (.iface T v)

theorem RowE.nil (w : World) (base : Nat) : RowE w base (.slice none 0 0) [] := ⟨[], World.ownsRow_nil w base _ _, fun j h => absurd h (Nat.not_lt_zero j)⟩

theorem RowE.later {w W : World} {base : Nat} {sv : Value} {xs : List (List UInt8)} (h : RowE w base sv xs) (hA : After w W) : RowE W base sv xs := by
  obtain ⟨cs, ho, hc⟩ := h
  refine ⟨cs, ho.kept (row := none) ⟨hA.os, hA.tape, hA.output, hA.size, fun k hk _ => hA.block k hk⟩ ?_, fun j hj => ?_⟩
  · cases sv.ownBlock with
    | none => exact Or.inl rfl
    | some g => exact Or.inr (by simp)
  · obtain ⟨T, v, t, h1, h2, h3, h4⟩ := hc j hj
    exact ⟨T, v, t, h1, h2, h3, h4.below hA⟩

theorem RowE.form {w : World} {base : Nat} {sv : Value} {xs : List (List UInt8)} (h : RowE w base sv xs) : ∃ ao cap, sv = .slice ao xs.length cap := by
  obtain ⟨cs, ho, _⟩ := h
  rcases ho.2 with ⟨rfl, h0⟩ | ⟨g, cap, cur, rfl, _⟩
  · exact ⟨_, _, by rw [h0]⟩
  · exact ⟨_, _, rfl⟩

theorem RowE.pairs {w : World} {base : Nat} {sv : Value} {xs : List (List UInt8)} (h : RowE w base sv xs) : PairsU w sv xs := by
  obtain ⟨cs, ho, hc⟩ := h
  rcases ho.2 with ⟨rfl, h0⟩ | ⟨g, cap, cur, rfl, hb, hh, _, _, _, htk⟩
  · exact ⟨none, 0, by rw [h0], fun j hj => absurd hj (by omega)⟩
  · refine ⟨_, _, rfl, fun j hj => ?_⟩
    obtain ⟨T, v, t, h1, h2, _, _⟩ := hc j hj
    refine ⟨g, 0, T, v, rfl, ?_, ?_⟩
    · rw [Nat.zero_add]; exact (ho.cellAt (j * 2) (by omega)).trans h1
    · rw [Nat.zero_add]; exact (ho.cellAt (j * 2 + 1) (by omega)).trans h2

theorem RowE.push {w w' : World} {base g cap : Nat} {sv : Value} {xs : List (List UInt8)} {x : List UInt8} {T : TypeId} {v : Value} {t : Tm} (h : ∃ cs, w.ownsRow base 188 2 sv xs.length cs ∧ (∀ j, j < xs.length → ∃ T v t, cs[j * 2]? = some (.iface T v) ∧ cs[j * 2 + 1]? = some (str (xs.getD j [])) ∧ Asm.rz (xs.getD j []) = some t ∧ TV w base t (.iface T v)) ∧
      w'.ownsRow base 188 2 (.slice (some ⟨g, 0, none⟩) (xs.length + 1) cap) (xs.length + 1) (cs ++ [.iface T v, str x])) (hg : w.grownBy w' sv.ownBlock)
    (hx : Asm.rz x = some t) (ht : TV w base t (.iface T v)) : RowE w' base (.slice (some ⟨g, 0, none⟩) (xs.length + 1) cap) (xs ++ [x]) := by
  obtain ⟨cs, ho, hc, ho'⟩ := h
  have hcl : cs.length = xs.length * 2 := ho.1
  have hk : ∀ {t : Tm} {v : Value}, TV w base t v → TV w' base t v := fun h => h.keptT fun b cs T fr h1 _ _ hb => row_keeps ho hg b cs T fr h1 hb
  refine ⟨_, by rw [List.length_append]; exact ho', fun j hj => ?_⟩
  by_cases hjl : j < xs.length
  · obtain ⟨T', v', t', h1, h2, h3, h4⟩ := hc j hjl
    have hgd : (xs ++ [x]).getD j [] = xs.getD j [] := by simp [List.getD, List.getElem?_append_left hjl]
    rw [hgd]
    exact ⟨T', v', t', by rw [List.getElem?_append_left (by omega)]; exact h1, by rw [List.getElem?_append_left (by omega)]; exact h2, h3, hk h4⟩
  · have hj' : j = xs.length := by rw [List.length_append, List.length_singleton] at hj; omega
    subst hj'
    have hgd : (xs ++ [x]).getD xs.length [] = x := by simp [List.getD]
    rw [hgd]
    refine ⟨T, v, t, ?_, ?_, hx, hk ht⟩
    · rw [List.getElem?_append_right (by omega), hcl, Nat.sub_self]; rfl
    · rw [List.getElem?_append_right (by omega), hcl, Nat.add_sub_cancel_left]; rfl

theorem info_wt : (Try.prog.info? 188).map (fun i => (i.zero, i.size, i.bytes)) = some (some (.agg #[.nilIface, .string ⟨#[]⟩]), 2, 32) := by kernel_rfl

/-- An element, if the realizers are those of one. -/
def ReadElPost (w : World) (rs : List (List UInt8)) (e : Ending) (w' : World) : Prop :=
  ∃ ao n c, e = .returned (.tuple #[.slice ao n c, .bool (Asm.el rs)]) ∧ After w w' ∧ (Asm.el rs = true → RowE w' w.heap.size (.slice ao n c) rs)

theorem rz_of {x : List UInt8} {t : Tm} (h : Tm.closedOf x = some t) : Asm.rz x = if t.normal = true ∧ t.size ≤ 60 then some t else none := by
  unfold Asm.rz
  rw [h]

theorem readElement_any (w : World) (sv0 : Value) (rs : List (List UInt8)) (h : StrsU 0 w sv0 rs) (hn : rs.length ≤ 1000000000) (hx : ∀ x ∈ rs, x.length ≤ 1000000000) :
    Calls Try.prog 157 #[sv0] w (ReadElPost w rs) := by
  obtain ⟨ao0, cap0, rfl, hc⟩ := h
  obtain ⟨r, hr⟩ : ∃ r, r = Asm.el rs := ⟨_, rfl⟩
  have hr' : r = (decide (1 ≤ rs.length ∧ rs.length ≤ 4) && Asm.pfx rs rs.length) := by rw [hr, Asm.el, Bool.decide_and]
  have hfail : Hid (r = false → ∀ W, After w W → ReadElPost w rs (.returned (.tuple #[.slice none 0 0, .bool false])) W) := fun h W hW => ⟨none, 0, 0, by rw [← hr, h], hW, fun e => by rw [← hr, h] at e; cases e⟩
  have hdone : Hid (r = true → ∀ W ao n c, After w W → RowE W w.heap.size (.slice ao n c) rs → ReadElPost w rs (.returned (.tuple #[.slice ao n c, .bool true])) W) := fun h W ao n c hW hR => ⟨ao, n, c, by rw [← hr, h], hW, fun _ => hR⟩
  have htk : ∀ k, k < rs.length → rs.take (k + 1) = rs.take k ++ [rs.getD k []] := fun k hk => by rw [List.take_succ_eq_append_getElem hk, List.getD, List.getElem?_eq_getElem hk]; rfl
  have hxk : ∀ k, k < rs.length → (rs.getD k []).length ≤ 1000000000 := fun k hk => by rw [List.getD, List.getElem?_eq_getElem hk]; exact hx _ (List.getElem_mem hk)
  have htl : rs.take rs.length = rs := List.take_length
  have hlt0 : ∀ k, k ≤ rs.length → (rs.take k).length = k := fun k hk => by simp; omega
  obtain ⟨n, hn'⟩ : ∃ n, n = rs.length := ⟨_, rfl⟩
  rw [← hn'] at hc hn hr' htk hxk htl hlt0 ⊢
  have HC := Lib.hid hc
  have HR := Lib.hid hr'
  have HTK := Lib.hid htk
  have HXK := Lib.hid hxk
  have HTL := Lib.hid htl
  have HLT := Lib.hid hlt0
  clear hc hr hr' htk hxk hn' hx htl hlt0
  by_cases hb : 1 ≤ n ∧ n ≤ 4
  · have HR' : Hid (r = Asm.pfx rs n) := by show _ = _; rw [HR.out, decide_eq_true hb, Bool.true_and]
    clear HR
    obtain ⟨hb1, hb2⟩ := hb
    have hn0 : ((n : Int) == 0) = false := beq_eq_false_iff_ne.2 (by omega)
    have hn4 : ¬ (4 < (n : Int)) := by omega
    have hinfo := info_wt
    have hi : ∃ i, (Try.prog).info? 188 = some i ∧ i.zero = some (.agg #[.nilIface, .string ⟨#[]⟩]) ∧ i.size = 2 ∧ i.bytes = 32 := ⟨_, rfl, rfl, rfl, rfl⟩
    obtain ⟨i0, hi0, hz0, hz1, hz2⟩ := hi
    have hun : Try.prog.underlying 169 = some (.slice 188) := by kernel_rfl
    have HUN := Lib.hid hun
    have HI := Lib.hid (And.intro hi0 (And.intro hz0 (And.intro hz1 hz2)))
    clear hinfo hun hi0 hz0 hz1 hz2
    go_enter Try.func157, Try.ntmps157
    go_wp2_with fail
    go_loopw [4, 19] (fun e i wr => ∃ k : Nat, i = .int .i64 k ∧ k ≤ n ∧ Hid (RowE wr w.heap.size e (rs.take k)) ∧ Hid (Asm.pfx rs k = true) ∧ After w wr) (fun _ i _ => n - (intOf i).toNat)
    case atStart => exact ⟨0, rfl, Nat.zero_le _, by show RowE _ _ _ _; exact RowE.nil w _, by show _ = _; rfl, After.refl _⟩
    case round =>
      obtain ⟨k, rfl, hk, hrow, hpf, hA⟩ := hrel
      obtain ⟨ao, cap, rfl⟩ := hrow.out.form
      by_cases hlt : k < n
      · obtain ⟨b, off, rfl, _, h1⟩ := HC.out k hlt
        replace h1 := hA.cell h1
        have hxl := HXK.out k hlt
        have htk := HTK.out k hlt
        have hst : Asm.step rs k = ((Asm.rz (rs.getD k [])).isSome && !decide (rs.getD k [] ∈ rs.take k)) := rfl
        have hno : Hid (Asm.step rs k = false → r = false) := fun h => by rw [HR'.out]; exact Asm.pfx_no h hlt
        have hyes : Hid (Asm.step rs k = true → Asm.pfx rs (k + 1) = true) := fun h => by rw [Asm.pfx_succ, hpf.out, h]; rfl
        have hxn := HLT.out k hk
        obtain ⟨xs, hxs⟩ : ∃ xs, xs = rs.take k := ⟨_, rfl⟩
        obtain ⟨x, hxx⟩ : ∃ x, x = rs.getD k [] := ⟨_, rfl⟩
        rw [← hxs] at hrow hst htk hxn ⊢
        rw [← hxx] at h1 hxl hst htk
        have HTK' := Lib.hid htk
        have HXN := Lib.hid hxn
        have hlt' : (k : Int) < (n : Int) := by omega
        have hread := readClosed_any wr w.heap.size x hA.size hxl
        unfold DataPost at hread
        have hhas := fun W (hW : After wr W) => has_el W _ xs x ((hrow.out.later hW).pairs) (by have := HXN.out; omega)
        clear htk hxs hxx hxn
        cases hcl : Tm.closedOf x with
        | none =>
          have HF : Hid (r = false) := hno.out (by rw [hst]; unfold Asm.rz; rw [hcl]; rfl)
          rw [hcl] at hread
          clear hcl hst hhas
          go_wp2_with fail
          refine hread.mono ?_
          rintro e w1 ⟨v1, rfl, hb1, hv1⟩
          clear hv1 hread
          go_wp2_with fail
          go_ret2
          exact hfail.out HF.out _ (hA.trans hb1)
        | some t =>
          rw [hcl] at hread
          rw [rz_of hcl] at hst
          have HRZ := Lib.hid (rz_of hcl)
          clear hcl
          cases hnm : t.normal with
          | false =>
            have HF : Hid (r = false) := hno.out (by rw [hst, if_neg (fun h => by rw [hnm] at h; cases h.1)]; rfl)
            clear hst hhas
            go_wp2_with fail
            refine hread.mono ?_
            rintro e w1 ⟨v1, rfl, hb1, hv1⟩
            have ht1 := hv1 t rfl
            obtain ⟨T1, x1, rfl, _, _, _, ⟨f4, y4, m4, n4, c4⟩⟩ := ht1.asks
            rw [hnm] at c4
            have hself := Below.refl w1.heap.size w1
            clear hv1 hread ht1
            go_wp2_with (go_at_fn f4; refine (c4 _ (by assumption)).mono ?_; rintro e w2 ⟨rfl, hb2⟩)
            go_ret2
            exact hfail.out HF.out _ (hA.trans (below_trans hb1 hb2))
          | true =>
            by_cases hsz : 60 < (t.size : Int)
            · have HF : Hid (r = false) := hno.out (by rw [hst, if_neg (fun h => by omega)]; rfl)
              clear hst hhas
              go_wp2_with fail
              refine hread.mono ?_
              rintro e w1 ⟨v1, rfl, hb1, hv1⟩
              have ht1 := hv1 t rfl
              obtain ⟨T1, x1, rfl, ⟨f1, y1, m1, n1, c1⟩, _, _, ⟨f4, y4, m4, n4, c4⟩⟩ := ht1.asks
              rw [hnm] at c4
              have hself := Below.refl w1.heap.size w1
              clear hv1 hread ht1
              go_wp2_with (first
                | (go_at_fn f4; refine (c4 _ (by assumption)).mono ?_; rintro e w2 ⟨rfl, hb2⟩)
                | (go_at_fn f1; refine (c1 _ (by assumption)).mono ?_; rintro e w3 ⟨rfl, hb3⟩))
              go_ret2
              exact hfail.out HF.out _ (hA.trans (below_trans hb1 hb3))
            · have hrz : t.normal = true ∧ t.size ≤ 60 := ⟨hnm, by omega⟩
              rw [if_pos hrz] at hst HRZ
              obtain ⟨c, hcc⟩ : ∃ c, c = decide (x ∈ xs) := ⟨_, rfl⟩
              rw [← hcc] at hst hhas
              have hno' : Hid (c = true → r = false) := fun h => hno.out (by rw [hst, h]; rfl)
              have hyes' : Hid (c = false → Asm.pfx rs (k + 1) = true) := fun h => hyes.out (by rw [hst, h]; rfl)
              have HHAS := Lib.hid hhas
              clear hst hhas hcc hrz
              go_wp2_with fail
              refine hread.mono ?_
              rintro e w1 ⟨v1, rfl, hb1, hv1⟩
              have ht1 := hv1 t rfl
              obtain ⟨T1, x1, rfl, ⟨f1, y1, m1, n1, c1⟩, _, _, ⟨f4, y4, m4, n4, c4⟩⟩ := ht1.asks
              rw [hnm] at c4
              have hself := Below.refl w1.heap.size w1
              have HT1 := Lib.hid ht1
              clear hv1 hread ht1
              cases c with
              | true =>
                have HF : Hid (r = false) := hno'.out rfl
                go_wp2_with (first
                  | (go_at_fn f4; refine (c4 _ (by assumption)).mono ?_; rintro e w2 ⟨rfl, hb2⟩)
                  | (go_at_fn f1; refine (c1 _ (by assumption)).mono ?_; rintro e w3 ⟨rfl, hb3⟩)
                  | (go_at_call 154; refine (HHAS.out _ (below_trans hb1 hb3)).mono ?_; rintro e w4 ⟨rfl, hb4⟩))
                go_ret2
                exact hfail.out HF.out _ (hA.trans (below_trans (below_trans hb1 hb3) hb4))
              | false =>
                have HY := Lib.hid (hyes'.out rfl)
                go_wp2_with (first
                  | (go_at_fn f4; refine (c4 _ (by assumption)).mono ?_; rintro e w2 ⟨rfl, hb2⟩)
                  | (go_at_fn f1; refine (c1 _ (by assumption)).mono ?_; rintro e w3 ⟨rfl, hb3⟩)
                  | (go_at_call 154
                     refine (HHAS.out _ (below_trans hb1 hb3)).mono ?_
                     rintro e w4 ⟨rfl, hb4⟩
                     have hA4 := hA.trans (below_trans (below_trans hb1 hb3) hb4)
                     have hA5 := hA4.alloc (.cells #[.iface T1 x1, str x] 188)
                     have hnw := After.new w4 (.cells #[.iface T1 x1, str x] 188)
                     obtain ⟨cs, ho, hcs⟩ := (hrow.out.later (below_trans (below_trans hb1 hb3) hb4)).later hnw
                     have HO := Lib.hid ho
                     have HCS := Lib.hid hcs
                     have hlit := World.ownsRow_lit (base := w4.heap.size) (e := 188) (size := 2) w4 #[.iface T1 x1, str x] 1 (Nat.le_refl _) (by decide) (by simp)
                     have hnews := Lib.hid (hlit.cells (g := w4.heap.size) rfl)
                     obtain ⟨hi0, hz0, hz1, hz2⟩ := HI.out
                     have hb5 : w.heap.size ≤ (w4.alloc (.cells #[.iface T1 x1, str x] 188)).heap.size := hA5.size
                     have hxs4 : xs.length ≤ 4 := by have := HXN.out; omega
                     clear ho hcs hlit)
                  | (at_builtin; refine wpList_append_lies _ (by rfl) _ _ 169 (by rfl) w.heap.size 188 i0 (.agg #[.nilIface, .string ⟨#[]⟩]) 2 32 HUN.out hi0 hz0 hz1 hz2 rfl (by decide) _ _ _ (by rfl) HO.out ⟨w4.heap.size, 0, none⟩ 1 1 [.iface T1 x1, str x] (by rfl) (by rfl) hnews.out (by simp [Value.oneCell', str]) (by omega) (by unfold maxLen; omega) (by omega) hb5 _ rfl ?_; intro g4 q4 w5 ho4 hg4 _ hlt4; have HO4 := Lib.hid ho4; have HG4 := Lib.hid hg4; clear ho4 hg4))
                go_roundw
                case rel =>
                  refine ⟨k + 1, by go_num, by omega, ?_, HY, ?_⟩
                  · show RowE _ _ _ _
                    rw [HTK'.out]
                    exact RowE.push ⟨cs, HO.out, HCS.out, HO4.out⟩ HG4.out HRZ.out (((HT1.out.below (below_trans hb3 hb4)).below hnw))
                  · exact hA5.grown HG4.out hA5.size (fun k hk => (HO.out.lt k hk).1)
                case measure => simp [intOf]; omega
      · obtain rfl : k = n := by omega
        have hD : ∀ ys v, ys = rs → RowE wr w.heap.size v ys → RowE wr w.heap.size v rs := fun ys v e h => e ▸ h
        have HD := Lib.hid (hD _ _ HTL.out hrow.out)
        clear hD
        have HT : Hid (r = true) := by show _ = _; rw [HR'.out, hpf.out]
        clear hrow
        go_wp2_with fail
        go_ret2
        exact hdone.out HT.out _ _ _ _ hA HD.out
  · have HR' : Hid (r = false) := by show _ = _; rw [HR.out, decide_eq_false hb, Bool.false_and]
    clear HR
    by_cases h0 : n = 0
    · subst h0
      go_enter Try.func157, Try.ntmps157
      go_wp2_with fail
      go_ret2
      exact hfail.out HR'.out _ (After.refl _)
    · have hn0 : ((n : Int) == 0) = false := beq_eq_false_iff_ne.2 (by omega)
      have hn4 : 4 < (n : Int) := by omega
      go_enter Try.func157, Try.ntmps157
      go_wp2_with fail
      go_ret2
      exact hfail.out HR'.out _ (After.refl _)
end Go.Proofs.Ytipmgfbncfkmiaa

namespace Go.Proofs.Ytipmgfbncfkmiaa
open Go.RowKit

set_option maxHeartbeats 2000000
set_option maxRecDepth 100000

theorem RowE.less {w : World} {base base' : Nat} {sv : Value} {xs : List (List UInt8)} (h : RowE w base sv xs) (hB : base' ≤ base) : RowE w base' sv xs := by
  obtain ⟨cs, ho, hc⟩ := h
  refine ⟨cs, ⟨ho.1, ?_⟩, fun j hj => ?_⟩
  · rcases ho.2 with h | ⟨g, cap, cur, h1, h2, h3⟩
    · exact Or.inl h
    · exact Or.inr ⟨g, cap, cur, h1, Nat.le_trans hB h2, h3⟩
  · obtain ⟨T, v, t, h1, h2, h3, h4⟩ := hc j hj
    exact ⟨T, v, t, h1, h2, h3, h4.less hB⟩

/-- An element keeps when a row of another type grows. -/
theorem RowE.keptT {w W : World} {base : Nat} {sv : Value} {xs : List (List UInt8)} (h : RowE w base sv xs)
    (hk : ∀ (b : Nat) (cs : Array Value) (T : TypeId) (fr : Nat × Nat), T ≠ 169 → T ≠ 3 → w.heap[b]? = some (.cells cs T fr) → W.heap[b]? = some (.cells cs T fr)) : RowE W base sv xs := by
  obtain ⟨cs, ho, hc⟩ := h
  refine ⟨cs, ⟨ho.1, ?_⟩, fun j hj => ?_⟩
  · rcases ho.2 with h | ⟨g, cap, cur, h1, h2, h3, h4⟩
    · exact Or.inl h
    · exact Or.inr ⟨g, cap, cur, h1, h2, hk _ _ _ _ (by decide) (by decide) h3, h4⟩
  · obtain ⟨T, v, t, h1, h2, h3, h4⟩ := hc j hj
    exact ⟨T, v, t, h1, h2, h3, h4.keptT fun b cs T fr _ h5 h6 hb => hk b cs T fr h5 h6 hb⟩

/-- The elements of an assembly. -/
def RowA (w : World) (base : Nat) (sv : Value) (a : List (List (List UInt8))) : Prop :=
  ∃ cs, w.ownsRow base 169 1 sv a.length cs ∧ ∀ j, j < a.length → ∃ ev, cs[j]? = some ev ∧ RowE w base ev (a.getD j [])

theorem RowA.nil (w : World) (base : Nat) : RowA w base (.slice none 0 0) [] := ⟨[], World.ownsRow_nil w base _ _, fun j h => absurd h (Nat.not_lt_zero j)⟩

theorem RowA.later {w W : World} {base : Nat} {sv : Value} {a : List (List (List UInt8))} (h : RowA w base sv a) (hA : After w W) : RowA W base sv a := by
  obtain ⟨cs, ho, hc⟩ := h
  refine ⟨cs, ho.kept (row := none) ⟨hA.os, hA.tape, hA.output, hA.size, fun k hk _ => hA.block k hk⟩ ?_, fun j hj => ?_⟩
  · cases sv.ownBlock with
    | none => exact Or.inl rfl
    | some g => exact Or.inr (by simp)
  · obtain ⟨ev, h1, h2⟩ := hc j hj
    exact ⟨ev, h1, h2.later hA⟩

theorem RowA.form {w : World} {base : Nat} {sv : Value} {a : List (List (List UInt8))} (h : RowA w base sv a) : ∃ ao cap, sv = .slice ao a.length cap := by
  obtain ⟨cs, ho, _⟩ := h
  rcases ho.2 with ⟨rfl, h0⟩ | ⟨g, cap, cur, rfl, _⟩
  · exact ⟨_, _, by rw [h0]⟩
  · exact ⟨_, _, rfl⟩

/-- What can be read of it. -/
theorem RowA.at {w : World} {base : Nat} {sv : Value} {a : List (List (List UInt8))} (h : RowA w base sv a) (j : Nat) (hj : j < a.length) : ∃ g cap ev, sv = .slice (some ⟨g, 0, none⟩) a.length cap ∧ w.cell? ⟨g, j, none⟩ = some ev ∧ RowE w base ev (a.getD j []) := by
  obtain ⟨cs, ho, hc⟩ := h
  obtain ⟨ev, h1, h2⟩ := hc j hj
  rcases ho.2 with ⟨rfl, h0⟩ | ⟨g, cap, cur, rfl, _⟩
  · omega
  · exact ⟨g, cap, ev, rfl, (ho.cellAt j (by omega)).trans h1, h2⟩

theorem RowA.push {w w' : World} {base g cap : Nat} {sv ev : Value} {a : List (List (List UInt8))} {xs : List (List UInt8)} {cs : List Value} (ho : w.ownsRow base 169 1 sv a.length cs) (hc : ∀ j, j < a.length → ∃ ev, cs[j]? = some ev ∧ RowE w base ev (a.getD j []))
    (ho' : w'.ownsRow base 169 1 (.slice (some ⟨g, 0, none⟩) (a.length + 1) cap) (a.length + 1) (cs ++ [ev])) (hg : w.grownBy w' sv.ownBlock) (hx : RowE w base ev xs) : RowA w' base (.slice (some ⟨g, 0, none⟩) (a.length + 1) cap) (a ++ [xs]) := by
  have hcl : cs.length = a.length := by have := ho.1; omega
  have hk : ∀ {v : Value} {ys : List (List UInt8)}, RowE w base v ys → RowE w' base v ys := fun h => h.keptT fun b cs T fr h1 _ hb => row_keeps ho hg b cs T fr h1 hb
  refine ⟨_, by rw [List.length_append]; exact ho', fun j hj => ?_⟩
  by_cases hjl : j < a.length
  · obtain ⟨ev', h1, h2⟩ := hc j hjl
    have hgd : (a ++ [xs]).getD j [] = a.getD j [] := by simp [List.getD, List.getElem?_append_left hjl]
    rw [hgd]
    exact ⟨ev', by rw [List.getElem?_append_left (by omega)]; exact h1, hk h2⟩
  · have hj' : j = a.length := by rw [List.length_append, List.length_singleton] at hj; omega
    subst hj'
    have hgd : (a ++ [xs]).getD a.length [] = xs := by simp [List.getD]
    rw [hgd]
    exact ⟨ev, by rw [List.getElem?_append_right (by omega), hcl, Nat.sub_self]; rfl, hk hx⟩

/-- The elements, if the assembly is valid. -/
def ReadAsmPost (w : World) (a : List (List (List UInt8))) (e : Ending) (w' : World) : Prop :=
  ∃ ao n c, e = .returned (.tuple #[.slice ao n c, .bool (Asm.ok a)]) ∧ After w w' ∧ (Asm.ok a = true → RowA w' w.heap.size (.slice ao n c) a)

theorem readAssembly_any (w : World) (sv : Value) (a : List (List (List UInt8))) (h : SSU 0 w sv a) (hl : Lens 1000000000 a) :
    Calls Try.prog 150 #[.agg #[sv]] w (ReadAsmPost w a) := by
  obtain ⟨f, ⟨ao0, cap0, rfl, hc⟩, hf⟩ := h
  obtain ⟨hn, hz⟩ := hl
  have hcall : ∀ j, j < a.length → ∀ W, After w W → Calls Try.prog 157 #[f j] W (ReadElPost W (a.getD j [])) := fun j hj W hW => by
    have hm := hz (a.getD j []) (by rw [List.getD, List.getElem?_eq_getElem hj]; exact List.getElem_mem hj)
    exact readElement_any W (f j) _ ((hf j hj).later hW) hm.1 hm.2
  have hform : ∀ j, j < a.length → ∃ ao' m c, f j = .slice ao' m c := fun j hj => by
    obtain ⟨ao', c, e, _⟩ := hf j hj
    exact ⟨_, _, _, e⟩
  obtain ⟨r, hr⟩ : ∃ r, r = Asm.ok a := ⟨_, rfl⟩
  have hr' : r = (decide (1 ≤ a.length ∧ a.length ≤ 6) && Asm.els a a.length) := by rw [hr, Asm.ok, Bool.decide_and]
  have hfail : Hid (r = false → ∀ W, After w W → ReadAsmPost w a (.returned (.tuple #[.slice none 0 0, .bool false])) W) := fun h W hW => ⟨none, 0, 0, by rw [← hr, h], hW, fun e => by rw [← hr, h] at e; cases e⟩
  have hdone : Hid (r = true → ∀ W ao n c, After w W → RowA W w.heap.size (.slice ao n c) a → ReadAsmPost w a (.returned (.tuple #[.slice ao n c, .bool true])) W) := fun h W ao n c hW hR => ⟨ao, n, c, by rw [← hr, h], hW, fun _ => hR⟩
  have htk : ∀ k, k < a.length → a.take (k + 1) = a.take k ++ [a.getD k []] := fun k hk => by rw [List.take_succ_eq_append_getElem hk, List.getD, List.getElem?_eq_getElem hk]; rfl
  have htl : a.take a.length = a := List.take_length
  have hlt0 : ∀ k, k ≤ a.length → (a.take k).length = k := fun k hk => by simp; omega
  have hA0 := After.new w (.cells #[.slice ao0 a.length cap0] 58)
  have hbox := heap_new' w (.cells #[.slice ao0 a.length cap0] 58)
  obtain ⟨o0, o1, o2⟩ := one_facts hbox (After.refl _)
  obtain ⟨n, hn'⟩ : ∃ n, n = a.length := ⟨_, rfl⟩
  rw [← hn'] at hc hn hcall hform hr' htk htl hlt0 hA0 hbox o0 o1 o2 ⊢
  have HC := Lib.hid hc
  have HR := Lib.hid hr'
  have HTK := Lib.hid htk
  have HTL := Lib.hid htl
  have HLT := Lib.hid hlt0
  have HCALL := Lib.hid hcall
  have HF := Lib.hid hform
  clear hc hr hr' htk hn' htl hlt0 hz hcall hform hf hbox
  by_cases hb : 1 ≤ n ∧ n ≤ 6
  · have HR' : Hid (r = Asm.els a n) := by show _ = _; rw [HR.out, decide_eq_true hb, Bool.true_and]
    clear HR
    obtain ⟨hb1, hb2⟩ := hb
    have hn0 : ((n : Int) == 0) = false := beq_eq_false_iff_ne.2 (by omega)
    have hn6 : ¬ (6 < (n : Int)) := by omega
    have hi : ∃ i, (Try.prog).info? 169 = some i ∧ i.zero = some (.slice none 0 0) ∧ i.size = 1 ∧ i.bytes = 24 := ⟨_, rfl, rfl, rfl, rfl⟩
    obtain ⟨i0, hi0, hz0, hz1, hz2⟩ := hi
    have hun : Try.prog.underlying 115 = some (.slice 169) := by kernel_rfl
    have HUN := Lib.hid hun
    have HI := Lib.hid (And.intro hi0 (And.intro hz0 (And.intro hz1 hz2)))
    clear hun hi0 hz0 hz1 hz2
    go_enter Try.func150, Try.ntmps150
    go_wp2_with fail
    generalize w.alloc (.cells #[.slice ao0 n cap0] 58) = w0 at *
    go_loopw [4, 22] (fun e i wr => ∃ k : Nat, i = .int .i64 k ∧ k ≤ n ∧ Hid (RowA wr w.heap.size e (a.take k)) ∧ Hid (Asm.els a k = true) ∧ After w wr) (fun _ i _ => n - (intOf i).toNat)
    case atStart => exact ⟨0, rfl, Nat.zero_le _, by show RowA _ _ _ _; exact RowA.nil w0 _, by show _ = _; rfl, hA0⟩
    case round =>
      obtain ⟨k, rfl, hk, hrow, hpf, hA⟩ := hrel
      obtain ⟨ao, cap, rfl⟩ := hrow.out.form
      by_cases hlt : k < n
      · obtain ⟨b, off, rfl, _, h1⟩ := HC.out k hlt
        replace h1 := hA.cell h1
        have hcall := HCALL.out k hlt wr hA
        obtain ⟨ao1, m1, c1, e1⟩ := HF.out k hlt
        rw [e1] at h1 hcall
        have htk := HTK.out k hlt
        have hno : Hid (Asm.el (a.getD k []) = false → r = false) := fun h => by rw [HR'.out]; exact Asm.els_no h hlt
        have hyes : Hid (Asm.el (a.getD k []) = true → Asm.els a (k + 1) = true) := fun h => by rw [Asm.els_succ, hpf.out, h]; rfl
        have hxn := HLT.out k hk
        obtain ⟨xs, hxs⟩ : ∃ xs, xs = a.take k := ⟨_, rfl⟩
        rw [← hxs] at hrow htk hxn ⊢
        have HTK' := Lib.hid htk
        have HXN := Lib.hid hxn
        have hlt' : (k : Int) < (n : Int) := by omega
        unfold ReadElPost at hcall
        clear htk hxs hxn e1
        cases hel : Asm.el (a.getD k []) with
        | false =>
          have HFl := Lib.hid (hno.out hel)
          rw [hel] at hcall
          clear hel
          go_wp2_with fail
          refine hcall.mono ?_
          rintro e w1 ⟨ao2, n2, c2, rfl, hb1, hv1⟩
          clear hv1 hcall
          go_wp2_with fail
          go_ret2
          exact hfail.out HFl.out _ (hA.trans hb1)
        | true =>
          have HY := Lib.hid (hyes.out hel)
          rw [hel] at hcall
          clear hel
          go_wp2_with fail
          refine hcall.mono ?_
          rintro e w1 ⟨ao2, n2, c2, rfl, hb1, hv1⟩
          have HV1 := Lib.hid ((hv1 (by trivial)).less hA.size)
          have hA1 := hA.trans hb1
          have hA5 := hA1.alloc (.cells #[.slice ao2 n2 c2] 169)
          have hnw := After.new w1 (.cells #[.slice ao2 n2 c2] 169)
          obtain ⟨cs, ho, hcs⟩ := (hrow.out.later hb1).later hnw
          have HO := Lib.hid ho
          have HCS := Lib.hid hcs
          have hlit := World.ownsRow_lit (base := w1.heap.size) (e := 169) (size := 1) w1 #[.slice ao2 n2 c2] 1 (Nat.le_refl _) (by decide) (by simp)
          have hnews := Lib.hid (hlit.cells (g := w1.heap.size) rfl)
          obtain ⟨hi0, hz0, hz1, hz2⟩ := HI.out
          have hb5 := hA5.size
          have hxs4 : xs.length ≤ 6 := by have := HXN.out; omega
          clear ho hcs hlit hv1 hcall
          go_wp2_with (at_builtin; refine wpList_append_lies _ (by rfl) _ _ 115 (by rfl) w.heap.size 169 i0 (.slice none 0 0) 1 24 HUN.out hi0 hz0 hz1 hz2 rfl (by decide) _ _ _ (by rfl) HO.out ⟨w1.heap.size, 0, none⟩ 1 1 [.slice ao2 n2 c2] (by rfl) (by rfl) hnews.out (by simp [Value.oneCell']) (by omega) (by unfold maxLen; omega) (by omega) hb5 _ rfl ?_; intro g4 q4 w5 ho4 hg4 _ hlt4; have HO4 := Lib.hid ho4; have HG4 := Lib.hid hg4; clear ho4 hg4)
          go_roundw
          case rel =>
            refine ⟨k + 1, by go_num, by omega, ?_, HY, ?_⟩
            · show RowA _ _ _ _
              rw [HTK'.out]
              exact RowA.push HO.out HCS.out HO4.out HG4.out (HV1.out.later hnw)
            · exact hA5.grown HG4.out hA5.size (fun k hk => (HO.out.lt k hk).1)
          case measure => simp [intOf]; omega
      · obtain rfl : k = n := by omega
        have hD : ∀ ys v, ys = a → RowA wr w.heap.size v ys → RowA wr w.heap.size v a := fun ys v e h => e ▸ h
        have HD := Lib.hid (hD _ _ HTL.out hrow.out)
        clear hD
        have HT : Hid (r = true) := by show _ = _; rw [HR'.out, hpf.out]
        clear hrow
        go_wp2_with fail
        go_ret2
        exact hdone.out HT.out _ _ _ _ hA HD.out
  · have HR' : Hid (r = false) := by show _ = _; rw [HR.out, decide_eq_false hb, Bool.false_and]
    clear HR
    by_cases h0 : n = 0
    · subst h0
      go_enter Try.func150, Try.ntmps150
      go_wp2_with fail
      go_ret2
      exact hfail.out HR'.out _ hA0
    · have hn0 : ((n : Int) == 0) = false := beq_eq_false_iff_ne.2 (by omega)
      have hn6 : 6 < (n : Int) := by omega
      go_enter Try.func150, Try.ntmps150
      go_wp2_with fail
      go_ret2
      exact hfail.out HR'.out _ hA0

end Go.Proofs.Ytipmgfbncfkmiaa

namespace Go.Proofs.Ytipmgfbncfkmiaa
open Go.RowKit

set_option maxHeartbeats 2000000
set_option maxRecDepth 100000

theorem lit_59_27_32 {x0 x1 x2 x3 x4 x5 x6 x7 x8 x9 x10 x11 x12 x13 x14 x15 x16 x17 x18 x19 x20 x21 x22 x23 x24 x25 x26 x27 x28 x29 x30 x31 x32 x33 x34 x35 x36 x37 x38 x39 x40 x41 x42 x43 x44 x45 x46 x47 x48 x49 x50 x51 x52 x53 x54 x55 x56 x57 x58 : Value} {d : List Deferred} {vs : Nat → Value} : putFrom ⟨#[x0, x1, x2, x3, x4, x5, x6, x7, x8, x9, x10, x11, x12, x13, x14, x15, x16, x17, x18, x19, x20, x21, x22, x23, x24, x25, x26, x27, x28, x29, x30, x31, x32, x33, x34, x35, x36, x37, x38, x39, x40, x41, x42, x43, x44, x45, x46, x47, x48, x49, x50, x51, x52, x53, x54, x55, x56, x57, x58], d⟩ 27 vs 32 = ⟨#[x0, x1, x2, x3, x4, x5, x6, x7, x8, x9, x10, x11, x12, x13, x14, x15, x16, x17, x18, x19, x20, x21, x22, x23, x24, x25, x26, vs 0, vs 1, vs 2, vs 3, vs 4, vs 5, vs 6, vs 7, vs 8, vs 9, vs 10, vs 11, vs 12, vs 13, vs 14, vs 15, vs 16, vs 17, vs 18, vs 19, vs 20, vs 21, vs 22, vs 23, vs 24, vs 25, vs 26, vs 27, vs 28, vs 29, vs 30, vs 31], d⟩ := by kernel_rfl

theorem s_hasU (w : World) (sv : Value) (ns : List (List UInt8)) (x : List UInt8) (h : StrsU 0 w sv ns) (hn : ns.length ≤ 1000000000) :
    Calls Try.prog 115 #[sv, str x] w fun e w' => e = .returned (.bool (decide (x ∈ ns))) ∧ After w w' := by
  obtain ⟨ao, cap, rfl, hc⟩ := h
  obtain ⟨r, hr⟩ : ∃ r, r = decide (x ∈ ns) := ⟨_, rfl⟩
  rw [← hr]
  have hstart : Hid (r = decide (x ∈ ns.drop 0)) := by show _ = _; rw [hr]; simp
  have hd : ∀ k, k < ns.length → ns.drop k = ns.getD k [] :: ns.drop (k + 1) := fun k hk => by rw [List.drop_eq_getElem_cons hk, List.getD, List.getElem?_eq_getElem hk]; rfl
  have hz : ns.drop ns.length = [] := List.drop_eq_nil_of_le (Nat.le_refl _)
  obtain ⟨n, hnn⟩ : ∃ n, n = ns.length := ⟨_, rfl⟩
  rw [← hnn] at hc hn hd hz ⊢
  have HC := Lib.hid hc
  have HD := Lib.hid hd
  have HZ := Lib.hid hz
  clear hr hc hd hz hnn
  go_enter Try.func115, Try.ntmps115
  go_wp2_with fail
  go_loop [5] (fun i => ∃ k : Nat, i = .int .i64 k ∧ k ≤ n ∧ Hid (r = decide (x ∈ ns.drop k))) (fun i => n - (intOf i).toNat)
  case atStart => exact ⟨0, rfl, Nat.zero_le _, hstart⟩
  case round =>
    obtain ⟨k, rfl, hk, hr⟩ := hrel
    clear hstart
    by_cases hlt : k < n
    · obtain ⟨b, off, rfl, _, h1⟩ := HC.out k hlt
      rw [HD.out k hlt] at hr
      generalize ns.getD k [] = y at h1 hr
      have hlt' : (k : Int) < (n : Int) := by omega
      by_cases he : y = x
      · subst he
        have HS : Hid (r = true) := by show _ = _; rw [hr.out]; simp
        clear hr
        go_wp2_with fail
        go_ret
        exact ⟨by rw [HS.out]; rfl, After.refl _⟩
      · have heq : (y == x) = false := beq_eq_false_iff_ne.2 he
        have HS : Hid (r = decide (x ∈ ns.drop (k + 1))) := by show _ = _; rw [hr.out]; simp [Ne.symm he]
        clear hr he
        go_wp2_with fail
        go_round
        case rel => exact ⟨k + 1, by go_num, by omega, HS⟩
        case measure => simp [intOf]; omega
    · obtain rfl : k = n := by omega
      have HS : Hid (r = false) := by show _ = _; rw [hr.out, HZ.out]; simp
      clear hr
      go_wp2_with fail
      go_ret
      exact ⟨by rw [HS.out]; rfl, After.refl _⟩

theorem StrsU.take {B : Nat} {w : World} {b off n cap k : Nat} {ns : List (List UInt8)} (h : StrsU B w (.slice (some ⟨b, off, none⟩) n cap) ns) (hn : ns.length = n) (hk : k < n) : StrsU B w (.slice (some ⟨b, off, none⟩) k cap) (ns.take k) := by
  obtain ⟨ao, cap', e, hc⟩ := h
  simp only [Value.slice.injEq] at e
  obtain ⟨rfl, hl, rfl⟩ := e
  have hlk : (ns.take k).length = k := by simp; omega
  refine ⟨some ⟨b, off, none⟩, cap, by rw [hlk], fun j hj => ?_⟩
  rw [hlk] at hj
  obtain ⟨b', off', e, hb, h⟩ := hc j (by omega)
  simp only [Option.some.injEq, Addr.mk.injEq, and_true] at e
  obtain ⟨rfl, rfl⟩ := e
  refine ⟨_, _, rfl, ⟨hb.1, by omega, hb.2.2⟩, ?_⟩
  simp [h, List.getD, hj]

theorem s_in (w : World) (n lo hi : Int) (c : Bool) (hc : decide (lo ≤ n ∧ n ≤ hi) = c) : Calls Try.prog 85 #[.int .i64 n, .int .i64 lo, .int .i64 hi] w fun e w' => e = .returned (.bool c) ∧ w = w' := by
  subst hc
  exact in_any w n lo hi

theorem s_sizes (w : World) (sv : Value) (a : List (List (List UInt8))) (h : SSU 0 w sv a) (hl : Lens 1000000000 a) :
    Calls Try.prog 149 #[.agg #[sv]] w fun e w' => e = .returned (.bool (Asm.sizes a)) ∧ After w w' := by
  obtain ⟨f, ⟨ao, cap, rfl, hc⟩, hf⟩ := h
  obtain ⟨hn, hz⟩ := hl
  have hform : ∀ j, j < a.length → (a.getD j []).length ≤ 1000000000 ∧ ∃ ao' c, f j = .slice ao' (a.getD j []).length c := fun j hj => by
    obtain ⟨ao', c, e, _⟩ := hf j hj
    exact ⟨(hz _ (by rw [List.getD, List.getElem?_eq_getElem hj]; exact List.getElem_mem hj)).1, _, _, e⟩
  obtain ⟨r, hr⟩ : ∃ r, r = Asm.sizes a := ⟨_, rfl⟩
  rw [← hr]
  have hr' : r = (decide (1 ≤ a.length ∧ a.length ≤ 6) && Asm.szs a a.length) := by rw [hr, Asm.sizes, Bool.decide_and]
  obtain ⟨n, hn'⟩ : ∃ n, n = a.length := ⟨_, rfl⟩
  rw [← hn'] at hc hn hform hr' ⊢
  have HC := Lib.hid hc
  have HF := Lib.hid hform
  have HR := Lib.hid hr'
  clear hc hz hform hf hr hr' hn'
  have hA := After.new w (.cells #[.slice ao n cap] 58)
  have hbox := heap_new' w (.cells #[.slice ao n cap] 58)
  obtain ⟨o0, o1, o2⟩ := one_facts hbox (After.refl _)
  by_cases hb : 1 ≤ n ∧ n ≤ 6
  · have hin := fun W => s_in W n 1 6 true (by rw [decide_eq_true_eq]; omega)
    have HR' : Hid (r = Asm.szs a n) := by show _ = _; rw [HR.out, decide_eq_true hb, Bool.true_and]
    clear HR
    go_enter Try.func149, Try.ntmps149
    go_wp2_with (go_at_call 85; refine (hin _).mono ?_; rintro e w1 ⟨rfl, rfl⟩)
    generalize w.alloc (.cells #[.slice ao n cap] 58) = Y at *
    go_loop [3] (fun i => ∃ k : Nat, i = .int .i64 k ∧ k ≤ n ∧ Hid (Asm.szs a k = true)) (fun i => n - (intOf i).toNat)
    case atStart => exact ⟨0, rfl, Nat.zero_le _, by show _ = _; rfl⟩
    case round =>
      obtain ⟨k, rfl, hk, hs⟩ := hrel
      by_cases hlt : k < n
      · obtain ⟨b, off, rfl, _, h1⟩ := HC.out k hlt
        replace h1 := hA.cell h1
        obtain ⟨hm, ao', c', e⟩ := HF.out k hlt
        rw [e] at h1
        have hlt' : (k : Int) < (n : Int) := by omega
        obtain ⟨m, hmm⟩ : ∃ m, m = (a.getD k []).length := ⟨_, rfl⟩
        rw [← hmm] at h1 hm
        have HM := Lib.hid hmm
        clear e hmm
        by_cases hb4 : 1 ≤ m ∧ m ≤ 4
        · have hin2 := fun W => s_in W m 1 4 true (by rw [decide_eq_true_eq]; omega)
          go_wp2_with (go_at_call 85; refine (hin2 _).mono ?_; rintro e w1 ⟨rfl, rfl⟩)
          go_round
          case rel => exact ⟨k + 1, by go_num, by omega, by show _ = _; rw [Asm.szs_succ, hs.out, ← HM.out]; simp [hb4.1, hb4.2]⟩
          case measure => simp [intOf]; omega
        · have hin2 := fun W => s_in W m 1 4 false (by rw [decide_eq_false_iff_not]; omega)
          have HF2 : Hid (r = false) := by
            show _ = _
            rw [HR'.out]
            refine Asm.szs_no (k := k) ?_ hlt
            rw [← HM.out, ← Bool.decide_and, decide_eq_false_iff_not]
            exact hb4
          go_wp2_with (go_at_call 85; refine (hin2 _).mono ?_; rintro e w1 ⟨rfl, rfl⟩)
          go_ret
          exact ⟨by rw [HF2.out]; rfl, hA⟩
      · obtain rfl : k = n := by omega
        go_wp2_with fail
        go_ret
        exact ⟨by rw [HR'.out, hs.out]; rfl, hA⟩
  · have hin := fun W => s_in W n 1 6 false (by rw [decide_eq_false_iff_not]; omega)
    have HR' : Hid (r = false) := by show _ = _; rw [HR.out, decide_eq_false hb, Bool.false_and]
    clear HR
    go_enter Try.func149, Try.ntmps149
    go_wp2_with (go_at_call 85; refine (hin _).mono ?_; rintro e w1 ⟨rfl, rfl⟩)
    go_ret
    exact ⟨by rw [HR'.out]; rfl, hA⟩

theorem s_asmValid (w : World) (sv : Value) (a : List (List (List UInt8))) (h : SSU 0 w sv a) (hl : Lens 1048576 a) :
    Calls Try.prog 137 #[.agg #[sv]] w fun e w' => e = .returned (.bool (Asm.ok a)) ∧ After w w' := by
  have hl2 : Lens 1000000000 a := ⟨by have := hl.1; omega, fun ns hs => ⟨by have := (hl.2 ns hs).1; omega, fun s h => by have := (hl.2 ns hs).2 s h; omega⟩⟩
  have hsz := fun W (hW : After w W) => s_sizes W sv a (h.later hW) hl2
  obtain ⟨f, ⟨ao, cap, rfl, hc⟩, hf⟩ := h
  obtain ⟨hn, hz⟩ := hl
  have hform : ∀ j, j < a.length → (a.getD j []).length ≤ 1048576 ∧ (∀ s ∈ a.getD j [], s.length ≤ 1048576) ∧ (∃ ao' c, f j = .slice ao' (a.getD j []).length c) ∧ StrsU 0 w (f j) (a.getD j []) := fun j hj => by
    obtain ⟨ao', c, e, _⟩ := hf j hj
    have hm := hz (a.getD j []) (by rw [List.getD, List.getElem?_eq_getElem hj]; exact List.getElem_mem hj)
    exact ⟨hm.1, hm.2, ⟨_, _, e⟩, hf j hj⟩
  obtain ⟨r, hr⟩ : ∃ r, r = Asm.ok a := ⟨_, rfl⟩
  rw [← hr]
  rw [Asm.ok_eq] at hr
  have hA := After.new w (.cells #[.slice ao a.length cap] 58)
  have hbox := heap_new' w (.cells #[.slice ao a.length cap] 58)
  obtain ⟨o0, o1, o2⟩ := one_facts hbox (After.refl _)
  have hs1 := hsz _ hA
  obtain ⟨n, hn'⟩ : ∃ n, n = a.length := ⟨_, rfl⟩
  rw [← hn'] at hc hn hform hr hA hbox o0 o1 o2 hs1 ⊢
  have HC := Lib.hid hc
  have HF := Lib.hid hform
  have HR := Lib.hid hr
  clear hc hz hform hf hr hsz hn'
  cases hszv : Asm.sizes a with
  | false =>
    have HR' : Hid (r = false) := by show _ = _; rw [HR.out, hszv, Bool.false_and]
    rw [hszv] at hs1
    clear HR hszv
    go_enter Try.func137, Try.ntmps137
    go_wp2_with fail
    refine hs1.mono ?_
    rintro e w1 ⟨rfl, hb1⟩
    go_wp2_with fail
    go_ret
    exact ⟨by rw [HR'.out]; rfl, hA.trans hb1⟩
  | true =>
    have HR' : Hid (r = Asm.pfs a n) := by show _ = _; rw [HR.out, hszv, Bool.true_and]
    rw [hszv] at hs1
    clear HR hszv
    go_enter Try.func137, Try.ntmps137
    go_wp2_with fail
    refine hs1.mono ?_
    rintro e w1 ⟨rfl, hb1⟩
    have hbox' := hb1.heap hbox
    have hA1 := hA.trans hb1
    clear o0 o1 o2 hs1 hbox
    go_wp2_with fail
    go_loopw [3] (fun i wr => ∃ k : Nat, i = .int .i64 k ∧ k ≤ n ∧ Hid (Asm.pfs a k = true) ∧ After w1 wr) (fun i _ => n - (intOf i).toNat)
    case atStart => exact ⟨0, rfl, Nat.zero_le _, by show _ = _; rfl, After.refl _⟩
    case round =>
      obtain ⟨i, rfl, hi, hpf, hAr⟩ := hrel
      obtain ⟨o0, o1, o2⟩ := one_facts hbox' hAr
      by_cases hlt : i < n
      · obtain ⟨b0, off0, rfl, _, h1⟩ := HC.out i hlt
        replace h1 := (hA1.trans hAr).cell h1
        obtain ⟨hm, hsl, ⟨ao', c, e⟩, hst⟩ := HF.out i hlt
        rw [e] at h1 hst
        have hlt' : (i : Int) < (n : Int) := by omega
        obtain ⟨rs, hrs⟩ : ∃ rs, rs = a.getD i [] := ⟨_, rfl⟩
        rw [← hrs] at h1 hm hsl hst
        have HRS := Lib.hid hrs
        have hst' := Lib.hid (RowU.later hst (hA1.trans hAr))
        obtain ⟨m, hmm⟩ : ∃ m, m = rs.length := ⟨_, rfl⟩
        rw [← hmm] at h1 hm hst'
        have HM := Lib.hid hmm
        have HSL := Lib.hid hsl
        clear e hmm hrs hst hsl
        obtain ⟨wa, hwa⟩ : ∃ x, x = wr := ⟨_, rfl⟩
        subst hwa
        go_wp2_with fail
        go_loopw [5] (fun i wr' => ∃ k : Nat, i = .int .i64 k ∧ k ≤ m ∧ Hid (Asm.pfx rs k = true) ∧ After wa wr') (fun i _ => m - (intOf i).toNat)
        case atStart => exact ⟨0, rfl, Nat.zero_le _, by show _ = _; rfl, After.refl _⟩
        case round =>
          obtain ⟨k, rfl, hk, hp, hAi⟩ := hrel
          by_cases hkm : k < m
          · obtain ⟨ao2, c2, e2, hc2⟩ := hst'.out
            simp only [Value.slice.injEq, true_and] at e2
            obtain ⟨rfl, rfl⟩ := e2
            obtain ⟨b, off, rfl, ⟨_, hmc, hcm⟩, hcell⟩ := hc2 k hkm
            obtain ⟨z, hz⟩ : ∃ z, z = rs.getD k [] := ⟨_, rfl⟩
            have hzl : z.length ≤ 1048576 := by
              rw [hz, List.getD, List.getElem?_eq_getElem (by rw [← HM.out]; exact hkm)]
              exact HSL.out _ (List.getElem_mem _)
            replace hcell : wa.cell? ⟨b, off + k, none⟩ = some (str z) := by rw [hz]; exact hcell
            have H1 : Hid (∀ W, After wr W → W.cell? ⟨b, off + k, none⟩ = some (str z)) := fun W hW => (hAi.trans hW).cell hcell
            have hkc : k ≤ c := by omega
            have hhas : ∀ W, After wr W → Calls Try.prog 115 #[.slice (some ⟨b, off, none⟩) k c, str z] W fun e w' => e = .returned (.bool (decide (z ∈ rs.take k))) ∧ After W w' := fun W hW => by
              have hT := StrsU.take (ns := rs) (show StrsU 0 wa (.slice (some ⟨b, off, none⟩) m c) rs by have := hst'.out; rw [HM.out] at this ⊢; exact this) HM.out.symm hkm
              exact s_hasU W _ _ z (hT.later (hAi.trans hW)) (by simp; omega)
            have hQ : Hid ((∀ W, Calls Try.prog 104 #[str z] W fun e w' => e = .returned (.bool (Tm.pClosed z)) ∧ After W w') ∧ (∀ W, Calls Try.prog 36 #[str z] W fun e w' => e = .returned (.bool (Tm.pNormal z)) ∧ After W w') ∧
                (∀ W, Calls Try.prog 17 #[str z] W fun e w' => e = .returned (.int .i64 (Tm.pSize z)) ∧ After W w') ∧ (∀ W, After wr W → Calls Try.prog 115 #[.slice (some ⟨b, off, none⟩) k c, str z] W fun e w' => e = .returned (.bool (decide (z ∈ rs.take k))) ∧ After W w') ∧ decide (Tm.pSize z > 60) = decide (Tm.pSize z > 60)) :=
              ⟨fun W => spec_closed W z (by omega), fun W => spec_normal W z (by omega), fun W => spec_size W z (by omega), hhas, rfl⟩
            have hst2 : Asm.step rs k = ((Tm.pClosed z && (Tm.pNormal z && !decide (Tm.pSize z > 60))) && !decide (z ∈ rs.take k)) := by
              rw [Asm.step, ← hz, Asm.rz_some, decide_not]
            have hself := (After.refl wr).drew
            have hlk' : (k : Int) < (m : Int) := by omega
            have HFIN : Hid (Asm.step rs k = false → r = false) := fun h => by
              rw [HR'.out]
              refine Asm.pfs_no (k := i) ?_ hlt
              rw [← HRS.out, ← HM.out]
              exact Asm.pfx_no h hkm
            have HS := Lib.hid hst2
            clear hst2 hhas hz hc2 hcell
            obtain ⟨c1, h1⟩ : ∃ c, c = Tm.pClosed z := ⟨_, rfl⟩
            obtain ⟨c2, h2⟩ : ∃ c, c = Tm.pNormal z := ⟨_, rfl⟩
            obtain ⟨c3, h3⟩ : ∃ c, c = decide (Tm.pSize z > 60) := ⟨_, rfl⟩
            obtain ⟨c4, h4⟩ : ∃ c, c = decide (z ∈ rs.take k) := ⟨_, rfl⟩
            rw [← h1, ← h2, ← h3, ← h4] at HS
            have HQ : Hid ((∀ W, Calls Try.prog 104 #[str z] W fun e w' => e = .returned (.bool c1) ∧ After W w') ∧ (∀ W, Calls Try.prog 36 #[str z] W fun e w' => e = .returned (.bool c2) ∧ After W w') ∧
                (∀ W, Calls Try.prog 17 #[str z] W fun e w' => e = .returned (.int .i64 (Tm.pSize z)) ∧ After W w') ∧ (∀ W, After wr W → Calls Try.prog 115 #[.slice (some ⟨b, off, none⟩) k c, str z] W fun e w' => e = .returned (.bool c4) ∧ After W w') ∧ decide (Tm.pSize z > 60) = c3) := by
              rw [h1, h2, h3, h4]; exact hQ
            clear h1 h2 h3 h4 hQ
            go_wp2_with fail
            rename_i KK hKK
            cases c1 with
            | false =>
              have HF2 := Lib.hid (HFIN.out (by rw [HS.out]; rfl))
              refine wp_region_reg (by kernel_rfl) (by kernel_rfl) After After.refl (fun _ _ _ h g => h.trans g)
                (yds [.lit (.slice (some ⟨b, off, none⟩) m c), .lit (.int .i64 k), .lit (.pointer (some ⟨b, off + k, none⟩)), .lit (str z), .lit (.bool false), .lit (.bool true), .lit (.bool true), .free, .free, .free, .free, .free, .free, .lit (.bool true), .lit (.bool true), .free, .free, .free, .free, .free, .free, .lit (.bool true), .lit (.bool true), .free, .free, .free, .free, .free, .free, .free, .free, .lit (.bool true)]) yds_later (lt32 ?_ ?_ ?_ ?_ ?_ ?_ ?_ ?_ ?_ ?_ ?_ ?_ ?_ ?_ ?_ ?_ ?_ ?_ ?_ ?_ ?_ ?_ ?_ ?_ ?_ ?_ ?_ ?_ ?_ ?_ ?_ ?_) ?_
              · intro vs W hE hd K hK
                have hE' : After wr W := hself.trans hE
                exact do_r (v := .slice (some ⟨b, off, none⟩) m c) (.lit (.slice (some ⟨b, off, none⟩) m c)) (by kernel_rfl) (wanted_of (by kernel_rfl)) (by kernel_rfl) rfl hK
              · intro vs W hE hd K hK
                have hE' : After wr W := hself.trans hE
                exact do_r (v := .int .i64 k) (.lit (.int .i64 k)) (by kernel_rfl) (wanted_of (by kernel_rfl)) (by kernel_rfl) rfl hK
              · intro vs W hE hd K hK
                have hE' : After wr W := hself.trans hE
                exact do_r (v := .pointer (some ⟨b, off + k, none⟩)) (.lit (.pointer (some ⟨b, off + k, none⟩))) (by kernel_rfl) (wanted_of (by kernel_rfl)) (run_ixs (x := .tmp 27) (y := .tmp 28) (u := vs 0) (u' := vs 1) (by kernel_rfl) (by kernel_rfl) (hd 0 (by kernel_rfl)) (by kernel_rfl) (hd 1 (by kernel_rfl)) hkm) rfl hK
              · intro vs W hE hd K hK
                have hE' : After wr W := hself.trans hE
                exact do_r (v := str z) (.lit (str z)) (by kernel_rfl) (wanted_of (by kernel_rfl)) (run_lds (x := .tmp 29) (u := vs 2) (by kernel_rfl) (by kernel_rfl) (hd 2 (by kernel_rfl)) (H1.out W hE')) rfl hK
              · intro vs W hE hd K hK
                have hE' : After wr W := hself.trans hE
                exact do_c (v := .bool false) (f := 104) (args := #[vs 3]) (by kernel_rfl) (wanted_of (by kernel_rfl)) (by kernel_rfl) (by rw [show vs 3 = str z from hd 3 (by kernel_rfl)]; exact HQ.out.1 W) hK
              · intro vs W hE hd K hK
                have hE' : After wr W := hself.trans hE
                exact do_r (v := .bool (!false)) (.lit (.bool true)) (by kernel_rfl) (wanted_of (by kernel_rfl)) (run_not (T := 4) (x := .tmp 31) (u := vs 4) (b := false) (by kernel_rfl) (by kernel_rfl) (hd 4 (by kernel_rfl))) rfl hK
              · intro vs W hE hd K hK
                have hE' : After wr W := hself.trans hE
                exact do_r (v := vs 5) (.lit (.bool true)) (by kernel_rfl) (wanted_of (by kernel_rfl)) (by kernel_rfl) (hd 5 (by kernel_rfl)) hK
              · intro vs W hE hd K hK
                have hE' : After wr W := hself.trans hE
                exact do_offg (j := 6) (b := false) (c := true) (u := vs 6) (by kernel_rfl) (by kernel_rfl) (by kernel_rfl) (hd 6 (by kernel_rfl)) (by decide) hK
              · intro vs W hE hd K hK
                have hE' : After wr W := hself.trans hE
                exact do_offg (j := 6) (b := false) (c := true) (u := vs 6) (by kernel_rfl) (by kernel_rfl) (by kernel_rfl) (hd 6 (by kernel_rfl)) (by decide) hK
              · intro vs W hE hd K hK
                have hE' : After wr W := hself.trans hE
                exact do_offg (j := 6) (b := false) (c := true) (u := vs 6) (by kernel_rfl) (by kernel_rfl) (by kernel_rfl) (hd 6 (by kernel_rfl)) (by decide) hK
              · intro vs W hE hd K hK
                have hE' : After wr W := hself.trans hE
                exact do_offg (j := 6) (b := false) (c := true) (u := vs 6) (by kernel_rfl) (by kernel_rfl) (by kernel_rfl) (hd 6 (by kernel_rfl)) (by decide) hK
              · intro vs W hE hd K hK
                have hE' : After wr W := hself.trans hE
                exact do_offg (j := 6) (b := false) (c := true) (u := vs 6) (by kernel_rfl) (by kernel_rfl) (by kernel_rfl) (hd 6 (by kernel_rfl)) (by decide) hK
              · intro vs W hE hd K hK
                have hE' : After wr W := hself.trans hE
                exact do_offg (j := 6) (b := false) (c := true) (u := vs 6) (by kernel_rfl) (by kernel_rfl) (by kernel_rfl) (hd 6 (by kernel_rfl)) (by decide) hK
              · intro vs W hE hd K hK
                have hE' : After wr W := hself.trans hE
                exact do_pick (c := .tmp 33) (x := .const (.bool true)) (y := .tmp 39) (u := vs 6) (p := true) (r := .bool true) (by kernel_rfl) (by kernel_rfl) (by kernel_rfl) (by kernel_rfl) (hd 6 (by kernel_rfl)) (by rw [if_pos rfl]; rfl) hK
              · intro vs W hE hd K hK
                have hE' : After wr W := hself.trans hE
                exact do_r (v := vs 13) (.lit (.bool true)) (by kernel_rfl) (wanted_of (by kernel_rfl)) (by kernel_rfl) (hd 13 (by kernel_rfl)) hK
              · intro vs W hE hd K hK
                have hE' : After wr W := hself.trans hE
                exact do_offg (j := 14) (b := false) (c := true) (u := vs 14) (by kernel_rfl) (by kernel_rfl) (by kernel_rfl) (hd 14 (by kernel_rfl)) (by decide) hK
              · intro vs W hE hd K hK
                have hE' : After wr W := hself.trans hE
                exact do_offg (j := 14) (b := false) (c := true) (u := vs 14) (by kernel_rfl) (by kernel_rfl) (by kernel_rfl) (hd 14 (by kernel_rfl)) (by decide) hK
              · intro vs W hE hd K hK
                have hE' : After wr W := hself.trans hE
                exact do_offg (j := 14) (b := false) (c := true) (u := vs 14) (by kernel_rfl) (by kernel_rfl) (by kernel_rfl) (hd 14 (by kernel_rfl)) (by decide) hK
              · intro vs W hE hd K hK
                have hE' : After wr W := hself.trans hE
                exact do_offg (j := 14) (b := false) (c := true) (u := vs 14) (by kernel_rfl) (by kernel_rfl) (by kernel_rfl) (hd 14 (by kernel_rfl)) (by decide) hK
              · intro vs W hE hd K hK
                have hE' : After wr W := hself.trans hE
                exact do_offg (j := 14) (b := false) (c := true) (u := vs 14) (by kernel_rfl) (by kernel_rfl) (by kernel_rfl) (hd 14 (by kernel_rfl)) (by decide) hK
              · intro vs W hE hd K hK
                have hE' : After wr W := hself.trans hE
                exact do_offg (j := 14) (b := false) (c := true) (u := vs 14) (by kernel_rfl) (by kernel_rfl) (by kernel_rfl) (hd 14 (by kernel_rfl)) (by decide) hK
              · intro vs W hE hd K hK
                have hE' : After wr W := hself.trans hE
                exact do_pick (c := .tmp 41) (x := .const (.bool true)) (y := .tmp 47) (u := vs 14) (p := true) (r := .bool true) (by kernel_rfl) (by kernel_rfl) (by kernel_rfl) (by kernel_rfl) (hd 14 (by kernel_rfl)) (by rw [if_pos rfl]; rfl) hK
              · intro vs W hE hd K hK
                have hE' : After wr W := hself.trans hE
                exact do_r (v := vs 21) (.lit (.bool true)) (by kernel_rfl) (wanted_of (by kernel_rfl)) (by kernel_rfl) (hd 21 (by kernel_rfl)) hK
              · intro vs W hE hd K hK
                have hE' : After wr W := hself.trans hE
                exact do_offg (j := 22) (b := false) (c := true) (u := vs 22) (by kernel_rfl) (by kernel_rfl) (by kernel_rfl) (hd 22 (by kernel_rfl)) (by decide) hK
              · intro vs W hE hd K hK
                have hE' : After wr W := hself.trans hE
                exact do_offg (j := 22) (b := false) (c := true) (u := vs 22) (by kernel_rfl) (by kernel_rfl) (by kernel_rfl) (hd 22 (by kernel_rfl)) (by decide) hK
              · intro vs W hE hd K hK
                have hE' : After wr W := hself.trans hE
                exact do_offg (j := 22) (b := false) (c := true) (u := vs 22) (by kernel_rfl) (by kernel_rfl) (by kernel_rfl) (hd 22 (by kernel_rfl)) (by decide) hK
              · intro vs W hE hd K hK
                have hE' : After wr W := hself.trans hE
                exact do_offg (j := 22) (b := false) (c := true) (u := vs 22) (by kernel_rfl) (by kernel_rfl) (by kernel_rfl) (hd 22 (by kernel_rfl)) (by decide) hK
              · intro vs W hE hd K hK
                have hE' : After wr W := hself.trans hE
                exact do_offg (j := 22) (b := false) (c := true) (u := vs 22) (by kernel_rfl) (by kernel_rfl) (by kernel_rfl) (hd 22 (by kernel_rfl)) (by decide) hK
              · intro vs W hE hd K hK
                have hE' : After wr W := hself.trans hE
                exact do_offg (j := 22) (b := false) (c := true) (u := vs 22) (by kernel_rfl) (by kernel_rfl) (by kernel_rfl) (hd 22 (by kernel_rfl)) (by decide) hK
              · intro vs W hE hd K hK
                have hE' : After wr W := hself.trans hE
                exact do_offg (j := 22) (b := false) (c := true) (u := vs 22) (by kernel_rfl) (by kernel_rfl) (by kernel_rfl) (hd 22 (by kernel_rfl)) (by decide) hK
              · intro vs W hE hd K hK
                have hE' : After wr W := hself.trans hE
                exact do_offg (j := 22) (b := false) (c := true) (u := vs 22) (by kernel_rfl) (by kernel_rfl) (by kernel_rfl) (hd 22 (by kernel_rfl)) (by decide) hK
              · intro vs W hE hd K hK
                have hE' : After wr W := hself.trans hE
                exact do_pick (c := .tmp 49) (x := .const (.bool true)) (y := .tmp 57) (u := vs 22) (p := true) (r := .bool true) (by kernel_rfl) (by kernel_rfl) (by kernel_rfl) (by kernel_rfl) (hd 22 (by kernel_rfl)) (by rw [if_pos rfl]; rfl) hK
              intro vs W hE hd
              have hE' : After wr W := hself.trans hE
              have er : vs 31 = .bool true := hd 31 (by decide)
              refine hKK _ _ ?_
              rw [frame_all 27 32 (by kernel_rfl) (by kernel_rfl), lit_59_27_32, er]
              clear er hd
              generalize vs 0 = y0 at *
              generalize vs 1 = y1 at *
              generalize vs 2 = y2 at *
              generalize vs 3 = y3 at *
              generalize vs 4 = y4 at *
              generalize vs 5 = y5 at *
              generalize vs 6 = y6 at *
              generalize vs 7 = y7 at *
              generalize vs 8 = y8 at *
              generalize vs 9 = y9 at *
              generalize vs 10 = y10 at *
              generalize vs 11 = y11 at *
              generalize vs 12 = y12 at *
              generalize vs 13 = y13 at *
              generalize vs 14 = y14 at *
              generalize vs 15 = y15 at *
              generalize vs 16 = y16 at *
              generalize vs 17 = y17 at *
              generalize vs 18 = y18 at *
              generalize vs 19 = y19 at *
              generalize vs 20 = y20 at *
              generalize vs 21 = y21 at *
              generalize vs 22 = y22 at *
              generalize vs 23 = y23 at *
              generalize vs 24 = y24 at *
              generalize vs 25 = y25 at *
              generalize vs 26 = y26 at *
              generalize vs 27 = y27 at *
              generalize vs 28 = y28 at *
              generalize vs 29 = y29 at *
              generalize vs 30 = y30 at *
              go_wp2_with fail
              go_ret
              exact ⟨by rw [HF2.out]; rfl, hA1.trans (hAr.trans (hAi.trans hE'))⟩
            | true =>
              cases c2 with
              | false =>
                have HF2 := Lib.hid (HFIN.out (by rw [HS.out]; rfl))
                refine wp_region_reg (by kernel_rfl) (by kernel_rfl) After After.refl (fun _ _ _ h g => h.trans g)
                  (yds [.lit (.slice (some ⟨b, off, none⟩) m c), .lit (.int .i64 k), .lit (.pointer (some ⟨b, off + k, none⟩)), .lit (str z), .lit (.bool true), .lit (.bool false), .lit (.bool false), .lit (.slice (some ⟨b, off, none⟩) m c), .lit (.int .i64 k), .lit (.pointer (some ⟨b, off + k, none⟩)), .lit (str z), .lit (.bool false), .lit (.bool true), .lit (.bool true), .lit (.bool true), .free, .free, .free, .free, .free, .free, .lit (.bool true), .lit (.bool true), .free, .free, .free, .free, .free, .free, .free, .free, .lit (.bool true)]) yds_later (lt32 ?_ ?_ ?_ ?_ ?_ ?_ ?_ ?_ ?_ ?_ ?_ ?_ ?_ ?_ ?_ ?_ ?_ ?_ ?_ ?_ ?_ ?_ ?_ ?_ ?_ ?_ ?_ ?_ ?_ ?_ ?_ ?_) ?_
                · intro vs W hE hd K hK
                  have hE' : After wr W := hself.trans hE
                  exact do_r (v := .slice (some ⟨b, off, none⟩) m c) (.lit (.slice (some ⟨b, off, none⟩) m c)) (by kernel_rfl) (wanted_of (by kernel_rfl)) (by kernel_rfl) rfl hK
                · intro vs W hE hd K hK
                  have hE' : After wr W := hself.trans hE
                  exact do_r (v := .int .i64 k) (.lit (.int .i64 k)) (by kernel_rfl) (wanted_of (by kernel_rfl)) (by kernel_rfl) rfl hK
                · intro vs W hE hd K hK
                  have hE' : After wr W := hself.trans hE
                  exact do_r (v := .pointer (some ⟨b, off + k, none⟩)) (.lit (.pointer (some ⟨b, off + k, none⟩))) (by kernel_rfl) (wanted_of (by kernel_rfl)) (run_ixs (x := .tmp 27) (y := .tmp 28) (u := vs 0) (u' := vs 1) (by kernel_rfl) (by kernel_rfl) (hd 0 (by kernel_rfl)) (by kernel_rfl) (hd 1 (by kernel_rfl)) hkm) rfl hK
                · intro vs W hE hd K hK
                  have hE' : After wr W := hself.trans hE
                  exact do_r (v := str z) (.lit (str z)) (by kernel_rfl) (wanted_of (by kernel_rfl)) (run_lds (x := .tmp 29) (u := vs 2) (by kernel_rfl) (by kernel_rfl) (hd 2 (by kernel_rfl)) (H1.out W hE')) rfl hK
                · intro vs W hE hd K hK
                  have hE' : After wr W := hself.trans hE
                  exact do_c (v := .bool true) (f := 104) (args := #[vs 3]) (by kernel_rfl) (wanted_of (by kernel_rfl)) (by kernel_rfl) (by rw [show vs 3 = str z from hd 3 (by kernel_rfl)]; exact HQ.out.1 W) hK
                · intro vs W hE hd K hK
                  have hE' : After wr W := hself.trans hE
                  exact do_r (v := .bool (!true)) (.lit (.bool false)) (by kernel_rfl) (wanted_of (by kernel_rfl)) (run_not (T := 4) (x := .tmp 31) (u := vs 4) (b := true) (by kernel_rfl) (by kernel_rfl) (hd 4 (by kernel_rfl))) rfl hK
                · intro vs W hE hd K hK
                  have hE' : After wr W := hself.trans hE
                  exact do_r (v := vs 5) (.lit (.bool false)) (by kernel_rfl) (wanted_of (by kernel_rfl)) (by kernel_rfl) (hd 5 (by kernel_rfl)) hK
                · intro vs W hE hd K hK
                  have hE' : After wr W := hself.trans hE
                  exact do_r (v := .slice (some ⟨b, off, none⟩) m c) (.lit (.slice (some ⟨b, off, none⟩) m c)) (by kernel_rfl) (wanted_on (j := 6) (b := false) (u := vs 6) (by kernel_rfl) (by kernel_rfl) (hd 6 (by kernel_rfl))) (by kernel_rfl) rfl hK
                · intro vs W hE hd K hK
                  have hE' : After wr W := hself.trans hE
                  exact do_r (v := .int .i64 k) (.lit (.int .i64 k)) (by kernel_rfl) (wanted_on (j := 6) (b := false) (u := vs 6) (by kernel_rfl) (by kernel_rfl) (hd 6 (by kernel_rfl))) (by kernel_rfl) rfl hK
                · intro vs W hE hd K hK
                  have hE' : After wr W := hself.trans hE
                  exact do_r (v := .pointer (some ⟨b, off + k, none⟩)) (.lit (.pointer (some ⟨b, off + k, none⟩))) (by kernel_rfl) (wanted_on (j := 6) (b := false) (u := vs 6) (by kernel_rfl) (by kernel_rfl) (hd 6 (by kernel_rfl))) (run_ixs (x := .tmp 34) (y := .tmp 35) (u := vs 7) (u' := vs 8) (by kernel_rfl) (by kernel_rfl) (hd 7 (by kernel_rfl)) (by kernel_rfl) (hd 8 (by kernel_rfl)) hkm) rfl hK
                · intro vs W hE hd K hK
                  have hE' : After wr W := hself.trans hE
                  exact do_r (v := str z) (.lit (str z)) (by kernel_rfl) (wanted_on (j := 6) (b := false) (u := vs 6) (by kernel_rfl) (by kernel_rfl) (hd 6 (by kernel_rfl))) (run_lds (x := .tmp 36) (u := vs 9) (by kernel_rfl) (by kernel_rfl) (hd 9 (by kernel_rfl)) (H1.out W hE')) rfl hK
                · intro vs W hE hd K hK
                  have hE' : After wr W := hself.trans hE
                  exact do_c (v := .bool false) (f := 36) (args := #[vs 10]) (by kernel_rfl) (wanted_on (j := 6) (b := false) (u := vs 6) (by kernel_rfl) (by kernel_rfl) (hd 6 (by kernel_rfl))) (by kernel_rfl) (by rw [show vs 10 = str z from hd 10 (by kernel_rfl)]; exact HQ.out.2.1 W) hK
                · intro vs W hE hd K hK
                  have hE' : After wr W := hself.trans hE
                  exact do_r (v := .bool (!false)) (.lit (.bool true)) (by kernel_rfl) (wanted_on (j := 6) (b := false) (u := vs 6) (by kernel_rfl) (by kernel_rfl) (hd 6 (by kernel_rfl))) (run_not (T := 4) (x := .tmp 38) (u := vs 11) (b := false) (by kernel_rfl) (by kernel_rfl) (hd 11 (by kernel_rfl))) rfl hK
                · intro vs W hE hd K hK
                  have hE' : After wr W := hself.trans hE
                  exact do_pick (c := .tmp 33) (x := .const (.bool true)) (y := .tmp 39) (u := vs 6) (p := false) (r := .bool true) (by kernel_rfl) (by kernel_rfl) (by kernel_rfl) (by kernel_rfl) (hd 6 (by kernel_rfl)) (by rw [if_neg (by decide)]; exact Eq.trans (by kernel_rfl : _ = vs 12) (hd 12 (by kernel_rfl))) hK
                · intro vs W hE hd K hK
                  have hE' : After wr W := hself.trans hE
                  exact do_r (v := vs 13) (.lit (.bool true)) (by kernel_rfl) (wanted_of (by kernel_rfl)) (by kernel_rfl) (hd 13 (by kernel_rfl)) hK
                · intro vs W hE hd K hK
                  have hE' : After wr W := hself.trans hE
                  exact do_offg (j := 14) (b := false) (c := true) (u := vs 14) (by kernel_rfl) (by kernel_rfl) (by kernel_rfl) (hd 14 (by kernel_rfl)) (by decide) hK
                · intro vs W hE hd K hK
                  have hE' : After wr W := hself.trans hE
                  exact do_offg (j := 14) (b := false) (c := true) (u := vs 14) (by kernel_rfl) (by kernel_rfl) (by kernel_rfl) (hd 14 (by kernel_rfl)) (by decide) hK
                · intro vs W hE hd K hK
                  have hE' : After wr W := hself.trans hE
                  exact do_offg (j := 14) (b := false) (c := true) (u := vs 14) (by kernel_rfl) (by kernel_rfl) (by kernel_rfl) (hd 14 (by kernel_rfl)) (by decide) hK
                · intro vs W hE hd K hK
                  have hE' : After wr W := hself.trans hE
                  exact do_offg (j := 14) (b := false) (c := true) (u := vs 14) (by kernel_rfl) (by kernel_rfl) (by kernel_rfl) (hd 14 (by kernel_rfl)) (by decide) hK
                · intro vs W hE hd K hK
                  have hE' : After wr W := hself.trans hE
                  exact do_offg (j := 14) (b := false) (c := true) (u := vs 14) (by kernel_rfl) (by kernel_rfl) (by kernel_rfl) (hd 14 (by kernel_rfl)) (by decide) hK
                · intro vs W hE hd K hK
                  have hE' : After wr W := hself.trans hE
                  exact do_offg (j := 14) (b := false) (c := true) (u := vs 14) (by kernel_rfl) (by kernel_rfl) (by kernel_rfl) (hd 14 (by kernel_rfl)) (by decide) hK
                · intro vs W hE hd K hK
                  have hE' : After wr W := hself.trans hE
                  exact do_pick (c := .tmp 41) (x := .const (.bool true)) (y := .tmp 47) (u := vs 14) (p := true) (r := .bool true) (by kernel_rfl) (by kernel_rfl) (by kernel_rfl) (by kernel_rfl) (hd 14 (by kernel_rfl)) (by rw [if_pos rfl]; rfl) hK
                · intro vs W hE hd K hK
                  have hE' : After wr W := hself.trans hE
                  exact do_r (v := vs 21) (.lit (.bool true)) (by kernel_rfl) (wanted_of (by kernel_rfl)) (by kernel_rfl) (hd 21 (by kernel_rfl)) hK
                · intro vs W hE hd K hK
                  have hE' : After wr W := hself.trans hE
                  exact do_offg (j := 22) (b := false) (c := true) (u := vs 22) (by kernel_rfl) (by kernel_rfl) (by kernel_rfl) (hd 22 (by kernel_rfl)) (by decide) hK
                · intro vs W hE hd K hK
                  have hE' : After wr W := hself.trans hE
                  exact do_offg (j := 22) (b := false) (c := true) (u := vs 22) (by kernel_rfl) (by kernel_rfl) (by kernel_rfl) (hd 22 (by kernel_rfl)) (by decide) hK
                · intro vs W hE hd K hK
                  have hE' : After wr W := hself.trans hE
                  exact do_offg (j := 22) (b := false) (c := true) (u := vs 22) (by kernel_rfl) (by kernel_rfl) (by kernel_rfl) (hd 22 (by kernel_rfl)) (by decide) hK
                · intro vs W hE hd K hK
                  have hE' : After wr W := hself.trans hE
                  exact do_offg (j := 22) (b := false) (c := true) (u := vs 22) (by kernel_rfl) (by kernel_rfl) (by kernel_rfl) (hd 22 (by kernel_rfl)) (by decide) hK
                · intro vs W hE hd K hK
                  have hE' : After wr W := hself.trans hE
                  exact do_offg (j := 22) (b := false) (c := true) (u := vs 22) (by kernel_rfl) (by kernel_rfl) (by kernel_rfl) (hd 22 (by kernel_rfl)) (by decide) hK
                · intro vs W hE hd K hK
                  have hE' : After wr W := hself.trans hE
                  exact do_offg (j := 22) (b := false) (c := true) (u := vs 22) (by kernel_rfl) (by kernel_rfl) (by kernel_rfl) (hd 22 (by kernel_rfl)) (by decide) hK
                · intro vs W hE hd K hK
                  have hE' : After wr W := hself.trans hE
                  exact do_offg (j := 22) (b := false) (c := true) (u := vs 22) (by kernel_rfl) (by kernel_rfl) (by kernel_rfl) (hd 22 (by kernel_rfl)) (by decide) hK
                · intro vs W hE hd K hK
                  have hE' : After wr W := hself.trans hE
                  exact do_offg (j := 22) (b := false) (c := true) (u := vs 22) (by kernel_rfl) (by kernel_rfl) (by kernel_rfl) (hd 22 (by kernel_rfl)) (by decide) hK
                · intro vs W hE hd K hK
                  have hE' : After wr W := hself.trans hE
                  exact do_pick (c := .tmp 49) (x := .const (.bool true)) (y := .tmp 57) (u := vs 22) (p := true) (r := .bool true) (by kernel_rfl) (by kernel_rfl) (by kernel_rfl) (by kernel_rfl) (hd 22 (by kernel_rfl)) (by rw [if_pos rfl]; rfl) hK
                intro vs W hE hd
                have hE' : After wr W := hself.trans hE
                have er : vs 31 = .bool true := hd 31 (by decide)
                refine hKK _ _ ?_
                rw [frame_all 27 32 (by kernel_rfl) (by kernel_rfl), lit_59_27_32, er]
                clear er hd
                generalize vs 0 = y0 at *
                generalize vs 1 = y1 at *
                generalize vs 2 = y2 at *
                generalize vs 3 = y3 at *
                generalize vs 4 = y4 at *
                generalize vs 5 = y5 at *
                generalize vs 6 = y6 at *
                generalize vs 7 = y7 at *
                generalize vs 8 = y8 at *
                generalize vs 9 = y9 at *
                generalize vs 10 = y10 at *
                generalize vs 11 = y11 at *
                generalize vs 12 = y12 at *
                generalize vs 13 = y13 at *
                generalize vs 14 = y14 at *
                generalize vs 15 = y15 at *
                generalize vs 16 = y16 at *
                generalize vs 17 = y17 at *
                generalize vs 18 = y18 at *
                generalize vs 19 = y19 at *
                generalize vs 20 = y20 at *
                generalize vs 21 = y21 at *
                generalize vs 22 = y22 at *
                generalize vs 23 = y23 at *
                generalize vs 24 = y24 at *
                generalize vs 25 = y25 at *
                generalize vs 26 = y26 at *
                generalize vs 27 = y27 at *
                generalize vs 28 = y28 at *
                generalize vs 29 = y29 at *
                generalize vs 30 = y30 at *
                go_wp2_with fail
                go_ret
                exact ⟨by rw [HF2.out]; rfl, hA1.trans (hAr.trans (hAi.trans hE'))⟩
              | true =>
                cases c3 with
                | true =>
                  have HF2 := Lib.hid (HFIN.out (by rw [HS.out]; rfl))
                  refine wp_region_reg (by kernel_rfl) (by kernel_rfl) After After.refl (fun _ _ _ h g => h.trans g)
                    (yds [.lit (.slice (some ⟨b, off, none⟩) m c), .lit (.int .i64 k), .lit (.pointer (some ⟨b, off + k, none⟩)), .lit (str z), .lit (.bool true), .lit (.bool false), .lit (.bool false), .lit (.slice (some ⟨b, off, none⟩) m c), .lit (.int .i64 k), .lit (.pointer (some ⟨b, off + k, none⟩)), .lit (str z), .lit (.bool true), .lit (.bool false), .lit (.bool false), .lit (.bool false), .lit (.slice (some ⟨b, off, none⟩) m c), .lit (.int .i64 k), .lit (.pointer (some ⟨b, off + k, none⟩)), .lit (str z), .lit (.int .i64 (Tm.pSize z)), .lit (.bool true), .lit (.bool true), .lit (.bool true), .free, .free, .free, .free, .free, .free, .free, .free, .lit (.bool true)]) yds_later (lt32 ?_ ?_ ?_ ?_ ?_ ?_ ?_ ?_ ?_ ?_ ?_ ?_ ?_ ?_ ?_ ?_ ?_ ?_ ?_ ?_ ?_ ?_ ?_ ?_ ?_ ?_ ?_ ?_ ?_ ?_ ?_ ?_) ?_
                  · intro vs W hE hd K hK
                    have hE' : After wr W := hself.trans hE
                    exact do_r (v := .slice (some ⟨b, off, none⟩) m c) (.lit (.slice (some ⟨b, off, none⟩) m c)) (by kernel_rfl) (wanted_of (by kernel_rfl)) (by kernel_rfl) rfl hK
                  · intro vs W hE hd K hK
                    have hE' : After wr W := hself.trans hE
                    exact do_r (v := .int .i64 k) (.lit (.int .i64 k)) (by kernel_rfl) (wanted_of (by kernel_rfl)) (by kernel_rfl) rfl hK
                  · intro vs W hE hd K hK
                    have hE' : After wr W := hself.trans hE
                    exact do_r (v := .pointer (some ⟨b, off + k, none⟩)) (.lit (.pointer (some ⟨b, off + k, none⟩))) (by kernel_rfl) (wanted_of (by kernel_rfl)) (run_ixs (x := .tmp 27) (y := .tmp 28) (u := vs 0) (u' := vs 1) (by kernel_rfl) (by kernel_rfl) (hd 0 (by kernel_rfl)) (by kernel_rfl) (hd 1 (by kernel_rfl)) hkm) rfl hK
                  · intro vs W hE hd K hK
                    have hE' : After wr W := hself.trans hE
                    exact do_r (v := str z) (.lit (str z)) (by kernel_rfl) (wanted_of (by kernel_rfl)) (run_lds (x := .tmp 29) (u := vs 2) (by kernel_rfl) (by kernel_rfl) (hd 2 (by kernel_rfl)) (H1.out W hE')) rfl hK
                  · intro vs W hE hd K hK
                    have hE' : After wr W := hself.trans hE
                    exact do_c (v := .bool true) (f := 104) (args := #[vs 3]) (by kernel_rfl) (wanted_of (by kernel_rfl)) (by kernel_rfl) (by rw [show vs 3 = str z from hd 3 (by kernel_rfl)]; exact HQ.out.1 W) hK
                  · intro vs W hE hd K hK
                    have hE' : After wr W := hself.trans hE
                    exact do_r (v := .bool (!true)) (.lit (.bool false)) (by kernel_rfl) (wanted_of (by kernel_rfl)) (run_not (T := 4) (x := .tmp 31) (u := vs 4) (b := true) (by kernel_rfl) (by kernel_rfl) (hd 4 (by kernel_rfl))) rfl hK
                  · intro vs W hE hd K hK
                    have hE' : After wr W := hself.trans hE
                    exact do_r (v := vs 5) (.lit (.bool false)) (by kernel_rfl) (wanted_of (by kernel_rfl)) (by kernel_rfl) (hd 5 (by kernel_rfl)) hK
                  · intro vs W hE hd K hK
                    have hE' : After wr W := hself.trans hE
                    exact do_r (v := .slice (some ⟨b, off, none⟩) m c) (.lit (.slice (some ⟨b, off, none⟩) m c)) (by kernel_rfl) (wanted_on (j := 6) (b := false) (u := vs 6) (by kernel_rfl) (by kernel_rfl) (hd 6 (by kernel_rfl))) (by kernel_rfl) rfl hK
                  · intro vs W hE hd K hK
                    have hE' : After wr W := hself.trans hE
                    exact do_r (v := .int .i64 k) (.lit (.int .i64 k)) (by kernel_rfl) (wanted_on (j := 6) (b := false) (u := vs 6) (by kernel_rfl) (by kernel_rfl) (hd 6 (by kernel_rfl))) (by kernel_rfl) rfl hK
                  · intro vs W hE hd K hK
                    have hE' : After wr W := hself.trans hE
                    exact do_r (v := .pointer (some ⟨b, off + k, none⟩)) (.lit (.pointer (some ⟨b, off + k, none⟩))) (by kernel_rfl) (wanted_on (j := 6) (b := false) (u := vs 6) (by kernel_rfl) (by kernel_rfl) (hd 6 (by kernel_rfl))) (run_ixs (x := .tmp 34) (y := .tmp 35) (u := vs 7) (u' := vs 8) (by kernel_rfl) (by kernel_rfl) (hd 7 (by kernel_rfl)) (by kernel_rfl) (hd 8 (by kernel_rfl)) hkm) rfl hK
                  · intro vs W hE hd K hK
                    have hE' : After wr W := hself.trans hE
                    exact do_r (v := str z) (.lit (str z)) (by kernel_rfl) (wanted_on (j := 6) (b := false) (u := vs 6) (by kernel_rfl) (by kernel_rfl) (hd 6 (by kernel_rfl))) (run_lds (x := .tmp 36) (u := vs 9) (by kernel_rfl) (by kernel_rfl) (hd 9 (by kernel_rfl)) (H1.out W hE')) rfl hK
                  · intro vs W hE hd K hK
                    have hE' : After wr W := hself.trans hE
                    exact do_c (v := .bool true) (f := 36) (args := #[vs 10]) (by kernel_rfl) (wanted_on (j := 6) (b := false) (u := vs 6) (by kernel_rfl) (by kernel_rfl) (hd 6 (by kernel_rfl))) (by kernel_rfl) (by rw [show vs 10 = str z from hd 10 (by kernel_rfl)]; exact HQ.out.2.1 W) hK
                  · intro vs W hE hd K hK
                    have hE' : After wr W := hself.trans hE
                    exact do_r (v := .bool (!true)) (.lit (.bool false)) (by kernel_rfl) (wanted_on (j := 6) (b := false) (u := vs 6) (by kernel_rfl) (by kernel_rfl) (hd 6 (by kernel_rfl))) (run_not (T := 4) (x := .tmp 38) (u := vs 11) (b := true) (by kernel_rfl) (by kernel_rfl) (hd 11 (by kernel_rfl))) rfl hK
                  · intro vs W hE hd K hK
                    have hE' : After wr W := hself.trans hE
                    exact do_pick (c := .tmp 33) (x := .const (.bool true)) (y := .tmp 39) (u := vs 6) (p := false) (r := .bool false) (by kernel_rfl) (by kernel_rfl) (by kernel_rfl) (by kernel_rfl) (hd 6 (by kernel_rfl)) (by rw [if_neg (by decide)]; exact Eq.trans (by kernel_rfl : _ = vs 12) (hd 12 (by kernel_rfl))) hK
                  · intro vs W hE hd K hK
                    have hE' : After wr W := hself.trans hE
                    exact do_r (v := vs 13) (.lit (.bool false)) (by kernel_rfl) (wanted_of (by kernel_rfl)) (by kernel_rfl) (hd 13 (by kernel_rfl)) hK
                  · intro vs W hE hd K hK
                    have hE' : After wr W := hself.trans hE
                    exact do_r (v := .slice (some ⟨b, off, none⟩) m c) (.lit (.slice (some ⟨b, off, none⟩) m c)) (by kernel_rfl) (wanted_on (j := 14) (b := false) (u := vs 14) (by kernel_rfl) (by kernel_rfl) (hd 14 (by kernel_rfl))) (by kernel_rfl) rfl hK
                  · intro vs W hE hd K hK
                    have hE' : After wr W := hself.trans hE
                    exact do_r (v := .int .i64 k) (.lit (.int .i64 k)) (by kernel_rfl) (wanted_on (j := 14) (b := false) (u := vs 14) (by kernel_rfl) (by kernel_rfl) (hd 14 (by kernel_rfl))) (by kernel_rfl) rfl hK
                  · intro vs W hE hd K hK
                    have hE' : After wr W := hself.trans hE
                    exact do_r (v := .pointer (some ⟨b, off + k, none⟩)) (.lit (.pointer (some ⟨b, off + k, none⟩))) (by kernel_rfl) (wanted_on (j := 14) (b := false) (u := vs 14) (by kernel_rfl) (by kernel_rfl) (hd 14 (by kernel_rfl))) (run_ixs (x := .tmp 42) (y := .tmp 43) (u := vs 15) (u' := vs 16) (by kernel_rfl) (by kernel_rfl) (hd 15 (by kernel_rfl)) (by kernel_rfl) (hd 16 (by kernel_rfl)) hkm) rfl hK
                  · intro vs W hE hd K hK
                    have hE' : After wr W := hself.trans hE
                    exact do_r (v := str z) (.lit (str z)) (by kernel_rfl) (wanted_on (j := 14) (b := false) (u := vs 14) (by kernel_rfl) (by kernel_rfl) (hd 14 (by kernel_rfl))) (run_lds (x := .tmp 44) (u := vs 17) (by kernel_rfl) (by kernel_rfl) (hd 17 (by kernel_rfl)) (H1.out W hE')) rfl hK
                  · intro vs W hE hd K hK
                    have hE' : After wr W := hself.trans hE
                    exact do_c (v := .int .i64 (Tm.pSize z)) (f := 17) (args := #[vs 18]) (by kernel_rfl) (wanted_on (j := 14) (b := false) (u := vs 14) (by kernel_rfl) (by kernel_rfl) (hd 14 (by kernel_rfl))) (by kernel_rfl) (by rw [show vs 18 = str z from hd 18 (by kernel_rfl)]; exact HQ.out.2.2.1 W) hK
                  · intro vs W hE hd K hK
                    have hE' : After wr W := hself.trans hE
                    exact do_r (v := .bool (decide ((Tm.pSize z) > 60))) (.lit (.bool true)) (by kernel_rfl) (wanted_on (j := 14) (b := false) (u := vs 14) (by kernel_rfl) (by kernel_rfl) (hd 14 (by kernel_rfl))) (run_gtr (T := 3) (T' := 3) (x := .tmp 46) (u := vs 19) (n := (Tm.pSize z)) (c := 60) (by kernel_rfl) (by kernel_rfl) (hd 19 (by kernel_rfl))) (congrArg Value.bool HQ.out.2.2.2.2) hK
                  · intro vs W hE hd K hK
                    have hE' : After wr W := hself.trans hE
                    exact do_pick (c := .tmp 41) (x := .const (.bool true)) (y := .tmp 47) (u := vs 14) (p := false) (r := .bool true) (by kernel_rfl) (by kernel_rfl) (by kernel_rfl) (by kernel_rfl) (hd 14 (by kernel_rfl)) (by rw [if_neg (by decide)]; exact Eq.trans (by kernel_rfl : _ = vs 20) (hd 20 (by kernel_rfl))) hK
                  · intro vs W hE hd K hK
                    have hE' : After wr W := hself.trans hE
                    exact do_r (v := vs 21) (.lit (.bool true)) (by kernel_rfl) (wanted_of (by kernel_rfl)) (by kernel_rfl) (hd 21 (by kernel_rfl)) hK
                  · intro vs W hE hd K hK
                    have hE' : After wr W := hself.trans hE
                    exact do_offg (j := 22) (b := false) (c := true) (u := vs 22) (by kernel_rfl) (by kernel_rfl) (by kernel_rfl) (hd 22 (by kernel_rfl)) (by decide) hK
                  · intro vs W hE hd K hK
                    have hE' : After wr W := hself.trans hE
                    exact do_offg (j := 22) (b := false) (c := true) (u := vs 22) (by kernel_rfl) (by kernel_rfl) (by kernel_rfl) (hd 22 (by kernel_rfl)) (by decide) hK
                  · intro vs W hE hd K hK
                    have hE' : After wr W := hself.trans hE
                    exact do_offg (j := 22) (b := false) (c := true) (u := vs 22) (by kernel_rfl) (by kernel_rfl) (by kernel_rfl) (hd 22 (by kernel_rfl)) (by decide) hK
                  · intro vs W hE hd K hK
                    have hE' : After wr W := hself.trans hE
                    exact do_offg (j := 22) (b := false) (c := true) (u := vs 22) (by kernel_rfl) (by kernel_rfl) (by kernel_rfl) (hd 22 (by kernel_rfl)) (by decide) hK
                  · intro vs W hE hd K hK
                    have hE' : After wr W := hself.trans hE
                    exact do_offg (j := 22) (b := false) (c := true) (u := vs 22) (by kernel_rfl) (by kernel_rfl) (by kernel_rfl) (hd 22 (by kernel_rfl)) (by decide) hK
                  · intro vs W hE hd K hK
                    have hE' : After wr W := hself.trans hE
                    exact do_offg (j := 22) (b := false) (c := true) (u := vs 22) (by kernel_rfl) (by kernel_rfl) (by kernel_rfl) (hd 22 (by kernel_rfl)) (by decide) hK
                  · intro vs W hE hd K hK
                    have hE' : After wr W := hself.trans hE
                    exact do_offg (j := 22) (b := false) (c := true) (u := vs 22) (by kernel_rfl) (by kernel_rfl) (by kernel_rfl) (hd 22 (by kernel_rfl)) (by decide) hK
                  · intro vs W hE hd K hK
                    have hE' : After wr W := hself.trans hE
                    exact do_offg (j := 22) (b := false) (c := true) (u := vs 22) (by kernel_rfl) (by kernel_rfl) (by kernel_rfl) (hd 22 (by kernel_rfl)) (by decide) hK
                  · intro vs W hE hd K hK
                    have hE' : After wr W := hself.trans hE
                    exact do_pick (c := .tmp 49) (x := .const (.bool true)) (y := .tmp 57) (u := vs 22) (p := true) (r := .bool true) (by kernel_rfl) (by kernel_rfl) (by kernel_rfl) (by kernel_rfl) (hd 22 (by kernel_rfl)) (by rw [if_pos rfl]; rfl) hK
                  intro vs W hE hd
                  have hE' : After wr W := hself.trans hE
                  have er : vs 31 = .bool true := hd 31 (by decide)
                  refine hKK _ _ ?_
                  rw [frame_all 27 32 (by kernel_rfl) (by kernel_rfl), lit_59_27_32, er]
                  clear er hd
                  generalize vs 0 = y0 at *
                  generalize vs 1 = y1 at *
                  generalize vs 2 = y2 at *
                  generalize vs 3 = y3 at *
                  generalize vs 4 = y4 at *
                  generalize vs 5 = y5 at *
                  generalize vs 6 = y6 at *
                  generalize vs 7 = y7 at *
                  generalize vs 8 = y8 at *
                  generalize vs 9 = y9 at *
                  generalize vs 10 = y10 at *
                  generalize vs 11 = y11 at *
                  generalize vs 12 = y12 at *
                  generalize vs 13 = y13 at *
                  generalize vs 14 = y14 at *
                  generalize vs 15 = y15 at *
                  generalize vs 16 = y16 at *
                  generalize vs 17 = y17 at *
                  generalize vs 18 = y18 at *
                  generalize vs 19 = y19 at *
                  generalize vs 20 = y20 at *
                  generalize vs 21 = y21 at *
                  generalize vs 22 = y22 at *
                  generalize vs 23 = y23 at *
                  generalize vs 24 = y24 at *
                  generalize vs 25 = y25 at *
                  generalize vs 26 = y26 at *
                  generalize vs 27 = y27 at *
                  generalize vs 28 = y28 at *
                  generalize vs 29 = y29 at *
                  generalize vs 30 = y30 at *
                  go_wp2_with fail
                  go_ret
                  exact ⟨by rw [HF2.out]; rfl, hA1.trans (hAr.trans (hAi.trans hE'))⟩
                | false =>
                  cases c4 with
                  | true =>
                    have HF2 := Lib.hid (HFIN.out (by rw [HS.out]; rfl))
                    refine wp_region_reg (by kernel_rfl) (by kernel_rfl) After After.refl (fun _ _ _ h g => h.trans g)
                      (yds [.lit (.slice (some ⟨b, off, none⟩) m c), .lit (.int .i64 k), .lit (.pointer (some ⟨b, off + k, none⟩)), .lit (str z), .lit (.bool true), .lit (.bool false), .lit (.bool false), .lit (.slice (some ⟨b, off, none⟩) m c), .lit (.int .i64 k), .lit (.pointer (some ⟨b, off + k, none⟩)), .lit (str z), .lit (.bool true), .lit (.bool false), .lit (.bool false), .lit (.bool false), .lit (.slice (some ⟨b, off, none⟩) m c), .lit (.int .i64 k), .lit (.pointer (some ⟨b, off + k, none⟩)), .lit (str z), .lit (.int .i64 (Tm.pSize z)), .lit (.bool false), .lit (.bool false), .lit (.bool false), .lit (.slice (some ⟨b, off, none⟩) m c), .lit (.int .i64 k), .lit (.slice (some ⟨b, off, none⟩) k c), .lit (.slice (some ⟨b, off, none⟩) m c), .lit (.int .i64 k), .lit (.pointer (some ⟨b, off + k, none⟩)), .lit (str z), .lit (.bool true), .lit (.bool true)]) yds_later (lt32 ?_ ?_ ?_ ?_ ?_ ?_ ?_ ?_ ?_ ?_ ?_ ?_ ?_ ?_ ?_ ?_ ?_ ?_ ?_ ?_ ?_ ?_ ?_ ?_ ?_ ?_ ?_ ?_ ?_ ?_ ?_ ?_) ?_
                    · intro vs W hE hd K hK
                      have hE' : After wr W := hself.trans hE
                      exact do_r (v := .slice (some ⟨b, off, none⟩) m c) (.lit (.slice (some ⟨b, off, none⟩) m c)) (by kernel_rfl) (wanted_of (by kernel_rfl)) (by kernel_rfl) rfl hK
                    · intro vs W hE hd K hK
                      have hE' : After wr W := hself.trans hE
                      exact do_r (v := .int .i64 k) (.lit (.int .i64 k)) (by kernel_rfl) (wanted_of (by kernel_rfl)) (by kernel_rfl) rfl hK
                    · intro vs W hE hd K hK
                      have hE' : After wr W := hself.trans hE
                      exact do_r (v := .pointer (some ⟨b, off + k, none⟩)) (.lit (.pointer (some ⟨b, off + k, none⟩))) (by kernel_rfl) (wanted_of (by kernel_rfl)) (run_ixs (x := .tmp 27) (y := .tmp 28) (u := vs 0) (u' := vs 1) (by kernel_rfl) (by kernel_rfl) (hd 0 (by kernel_rfl)) (by kernel_rfl) (hd 1 (by kernel_rfl)) hkm) rfl hK
                    · intro vs W hE hd K hK
                      have hE' : After wr W := hself.trans hE
                      exact do_r (v := str z) (.lit (str z)) (by kernel_rfl) (wanted_of (by kernel_rfl)) (run_lds (x := .tmp 29) (u := vs 2) (by kernel_rfl) (by kernel_rfl) (hd 2 (by kernel_rfl)) (H1.out W hE')) rfl hK
                    · intro vs W hE hd K hK
                      have hE' : After wr W := hself.trans hE
                      exact do_c (v := .bool true) (f := 104) (args := #[vs 3]) (by kernel_rfl) (wanted_of (by kernel_rfl)) (by kernel_rfl) (by rw [show vs 3 = str z from hd 3 (by kernel_rfl)]; exact HQ.out.1 W) hK
                    · intro vs W hE hd K hK
                      have hE' : After wr W := hself.trans hE
                      exact do_r (v := .bool (!true)) (.lit (.bool false)) (by kernel_rfl) (wanted_of (by kernel_rfl)) (run_not (T := 4) (x := .tmp 31) (u := vs 4) (b := true) (by kernel_rfl) (by kernel_rfl) (hd 4 (by kernel_rfl))) rfl hK
                    · intro vs W hE hd K hK
                      have hE' : After wr W := hself.trans hE
                      exact do_r (v := vs 5) (.lit (.bool false)) (by kernel_rfl) (wanted_of (by kernel_rfl)) (by kernel_rfl) (hd 5 (by kernel_rfl)) hK
                    · intro vs W hE hd K hK
                      have hE' : After wr W := hself.trans hE
                      exact do_r (v := .slice (some ⟨b, off, none⟩) m c) (.lit (.slice (some ⟨b, off, none⟩) m c)) (by kernel_rfl) (wanted_on (j := 6) (b := false) (u := vs 6) (by kernel_rfl) (by kernel_rfl) (hd 6 (by kernel_rfl))) (by kernel_rfl) rfl hK
                    · intro vs W hE hd K hK
                      have hE' : After wr W := hself.trans hE
                      exact do_r (v := .int .i64 k) (.lit (.int .i64 k)) (by kernel_rfl) (wanted_on (j := 6) (b := false) (u := vs 6) (by kernel_rfl) (by kernel_rfl) (hd 6 (by kernel_rfl))) (by kernel_rfl) rfl hK
                    · intro vs W hE hd K hK
                      have hE' : After wr W := hself.trans hE
                      exact do_r (v := .pointer (some ⟨b, off + k, none⟩)) (.lit (.pointer (some ⟨b, off + k, none⟩))) (by kernel_rfl) (wanted_on (j := 6) (b := false) (u := vs 6) (by kernel_rfl) (by kernel_rfl) (hd 6 (by kernel_rfl))) (run_ixs (x := .tmp 34) (y := .tmp 35) (u := vs 7) (u' := vs 8) (by kernel_rfl) (by kernel_rfl) (hd 7 (by kernel_rfl)) (by kernel_rfl) (hd 8 (by kernel_rfl)) hkm) rfl hK
                    · intro vs W hE hd K hK
                      have hE' : After wr W := hself.trans hE
                      exact do_r (v := str z) (.lit (str z)) (by kernel_rfl) (wanted_on (j := 6) (b := false) (u := vs 6) (by kernel_rfl) (by kernel_rfl) (hd 6 (by kernel_rfl))) (run_lds (x := .tmp 36) (u := vs 9) (by kernel_rfl) (by kernel_rfl) (hd 9 (by kernel_rfl)) (H1.out W hE')) rfl hK
                    · intro vs W hE hd K hK
                      have hE' : After wr W := hself.trans hE
                      exact do_c (v := .bool true) (f := 36) (args := #[vs 10]) (by kernel_rfl) (wanted_on (j := 6) (b := false) (u := vs 6) (by kernel_rfl) (by kernel_rfl) (hd 6 (by kernel_rfl))) (by kernel_rfl) (by rw [show vs 10 = str z from hd 10 (by kernel_rfl)]; exact HQ.out.2.1 W) hK
                    · intro vs W hE hd K hK
                      have hE' : After wr W := hself.trans hE
                      exact do_r (v := .bool (!true)) (.lit (.bool false)) (by kernel_rfl) (wanted_on (j := 6) (b := false) (u := vs 6) (by kernel_rfl) (by kernel_rfl) (hd 6 (by kernel_rfl))) (run_not (T := 4) (x := .tmp 38) (u := vs 11) (b := true) (by kernel_rfl) (by kernel_rfl) (hd 11 (by kernel_rfl))) rfl hK
                    · intro vs W hE hd K hK
                      have hE' : After wr W := hself.trans hE
                      exact do_pick (c := .tmp 33) (x := .const (.bool true)) (y := .tmp 39) (u := vs 6) (p := false) (r := .bool false) (by kernel_rfl) (by kernel_rfl) (by kernel_rfl) (by kernel_rfl) (hd 6 (by kernel_rfl)) (by rw [if_neg (by decide)]; exact Eq.trans (by kernel_rfl : _ = vs 12) (hd 12 (by kernel_rfl))) hK
                    · intro vs W hE hd K hK
                      have hE' : After wr W := hself.trans hE
                      exact do_r (v := vs 13) (.lit (.bool false)) (by kernel_rfl) (wanted_of (by kernel_rfl)) (by kernel_rfl) (hd 13 (by kernel_rfl)) hK
                    · intro vs W hE hd K hK
                      have hE' : After wr W := hself.trans hE
                      exact do_r (v := .slice (some ⟨b, off, none⟩) m c) (.lit (.slice (some ⟨b, off, none⟩) m c)) (by kernel_rfl) (wanted_on (j := 14) (b := false) (u := vs 14) (by kernel_rfl) (by kernel_rfl) (hd 14 (by kernel_rfl))) (by kernel_rfl) rfl hK
                    · intro vs W hE hd K hK
                      have hE' : After wr W := hself.trans hE
                      exact do_r (v := .int .i64 k) (.lit (.int .i64 k)) (by kernel_rfl) (wanted_on (j := 14) (b := false) (u := vs 14) (by kernel_rfl) (by kernel_rfl) (hd 14 (by kernel_rfl))) (by kernel_rfl) rfl hK
                    · intro vs W hE hd K hK
                      have hE' : After wr W := hself.trans hE
                      exact do_r (v := .pointer (some ⟨b, off + k, none⟩)) (.lit (.pointer (some ⟨b, off + k, none⟩))) (by kernel_rfl) (wanted_on (j := 14) (b := false) (u := vs 14) (by kernel_rfl) (by kernel_rfl) (hd 14 (by kernel_rfl))) (run_ixs (x := .tmp 42) (y := .tmp 43) (u := vs 15) (u' := vs 16) (by kernel_rfl) (by kernel_rfl) (hd 15 (by kernel_rfl)) (by kernel_rfl) (hd 16 (by kernel_rfl)) hkm) rfl hK
                    · intro vs W hE hd K hK
                      have hE' : After wr W := hself.trans hE
                      exact do_r (v := str z) (.lit (str z)) (by kernel_rfl) (wanted_on (j := 14) (b := false) (u := vs 14) (by kernel_rfl) (by kernel_rfl) (hd 14 (by kernel_rfl))) (run_lds (x := .tmp 44) (u := vs 17) (by kernel_rfl) (by kernel_rfl) (hd 17 (by kernel_rfl)) (H1.out W hE')) rfl hK
                    · intro vs W hE hd K hK
                      have hE' : After wr W := hself.trans hE
                      exact do_c (v := .int .i64 (Tm.pSize z)) (f := 17) (args := #[vs 18]) (by kernel_rfl) (wanted_on (j := 14) (b := false) (u := vs 14) (by kernel_rfl) (by kernel_rfl) (hd 14 (by kernel_rfl))) (by kernel_rfl) (by rw [show vs 18 = str z from hd 18 (by kernel_rfl)]; exact HQ.out.2.2.1 W) hK
                    · intro vs W hE hd K hK
                      have hE' : After wr W := hself.trans hE
                      exact do_r (v := .bool (decide ((Tm.pSize z) > 60))) (.lit (.bool false)) (by kernel_rfl) (wanted_on (j := 14) (b := false) (u := vs 14) (by kernel_rfl) (by kernel_rfl) (hd 14 (by kernel_rfl))) (run_gtr (T := 3) (T' := 3) (x := .tmp 46) (u := vs 19) (n := (Tm.pSize z)) (c := 60) (by kernel_rfl) (by kernel_rfl) (hd 19 (by kernel_rfl))) (congrArg Value.bool HQ.out.2.2.2.2) hK
                    · intro vs W hE hd K hK
                      have hE' : After wr W := hself.trans hE
                      exact do_pick (c := .tmp 41) (x := .const (.bool true)) (y := .tmp 47) (u := vs 14) (p := false) (r := .bool false) (by kernel_rfl) (by kernel_rfl) (by kernel_rfl) (by kernel_rfl) (hd 14 (by kernel_rfl)) (by rw [if_neg (by decide)]; exact Eq.trans (by kernel_rfl : _ = vs 20) (hd 20 (by kernel_rfl))) hK
                    · intro vs W hE hd K hK
                      have hE' : After wr W := hself.trans hE
                      exact do_r (v := vs 21) (.lit (.bool false)) (by kernel_rfl) (wanted_of (by kernel_rfl)) (by kernel_rfl) (hd 21 (by kernel_rfl)) hK
                    · intro vs W hE hd K hK
                      have hE' : After wr W := hself.trans hE
                      exact do_r (v := .slice (some ⟨b, off, none⟩) m c) (.lit (.slice (some ⟨b, off, none⟩) m c)) (by kernel_rfl) (wanted_on (j := 22) (b := false) (u := vs 22) (by kernel_rfl) (by kernel_rfl) (hd 22 (by kernel_rfl))) (by kernel_rfl) rfl hK
                    · intro vs W hE hd K hK
                      have hE' : After wr W := hself.trans hE
                      exact do_r (v := .int .i64 k) (.lit (.int .i64 k)) (by kernel_rfl) (wanted_on (j := 22) (b := false) (u := vs 22) (by kernel_rfl) (by kernel_rfl) (hd 22 (by kernel_rfl))) (by kernel_rfl) rfl hK
                    · intro vs W hE hd K hK
                      have hE' : After wr W := hself.trans hE
                      exact do_r (v := .slice (some ⟨b, off, none⟩) k c) (.lit (.slice (some ⟨b, off, none⟩) k c)) (by kernel_rfl) (wanted_on (j := 22) (b := false) (u := vs 22) (by kernel_rfl) (by kernel_rfl) (hd 22 (by kernel_rfl))) (run_slc (x := .tmp 50) (y := .tmp 51) (u := vs 23) (u' := vs 24) (by kernel_rfl) (by kernel_rfl) (hd 23 (by kernel_rfl)) (by kernel_rfl) (hd 24 (by kernel_rfl)) hkc hcm) rfl hK
                    · intro vs W hE hd K hK
                      have hE' : After wr W := hself.trans hE
                      exact do_r (v := .slice (some ⟨b, off, none⟩) m c) (.lit (.slice (some ⟨b, off, none⟩) m c)) (by kernel_rfl) (wanted_on (j := 22) (b := false) (u := vs 22) (by kernel_rfl) (by kernel_rfl) (hd 22 (by kernel_rfl))) (by kernel_rfl) rfl hK
                    · intro vs W hE hd K hK
                      have hE' : After wr W := hself.trans hE
                      exact do_r (v := .int .i64 k) (.lit (.int .i64 k)) (by kernel_rfl) (wanted_on (j := 22) (b := false) (u := vs 22) (by kernel_rfl) (by kernel_rfl) (hd 22 (by kernel_rfl))) (by kernel_rfl) rfl hK
                    · intro vs W hE hd K hK
                      have hE' : After wr W := hself.trans hE
                      exact do_r (v := .pointer (some ⟨b, off + k, none⟩)) (.lit (.pointer (some ⟨b, off + k, none⟩))) (by kernel_rfl) (wanted_on (j := 22) (b := false) (u := vs 22) (by kernel_rfl) (by kernel_rfl) (hd 22 (by kernel_rfl))) (run_ixs (x := .tmp 53) (y := .tmp 54) (u := vs 26) (u' := vs 27) (by kernel_rfl) (by kernel_rfl) (hd 26 (by kernel_rfl)) (by kernel_rfl) (hd 27 (by kernel_rfl)) hkm) rfl hK
                    · intro vs W hE hd K hK
                      have hE' : After wr W := hself.trans hE
                      exact do_r (v := str z) (.lit (str z)) (by kernel_rfl) (wanted_on (j := 22) (b := false) (u := vs 22) (by kernel_rfl) (by kernel_rfl) (hd 22 (by kernel_rfl))) (run_lds (x := .tmp 55) (u := vs 28) (by kernel_rfl) (by kernel_rfl) (hd 28 (by kernel_rfl)) (H1.out W hE')) rfl hK
                    · intro vs W hE hd K hK
                      have hE' : After wr W := hself.trans hE
                      exact do_c (v := .bool true) (f := 115) (args := #[vs 25, vs 29]) (by kernel_rfl) (wanted_on (j := 22) (b := false) (u := vs 22) (by kernel_rfl) (by kernel_rfl) (hd 22 (by kernel_rfl))) (by kernel_rfl) (by rw [show vs 25 = .slice (some ⟨b, off, none⟩) k c from hd 25 (by kernel_rfl), show vs 29 = str z from hd 29 (by kernel_rfl)]; exact HQ.out.2.2.2.1 W hE') hK
                    · intro vs W hE hd K hK
                      have hE' : After wr W := hself.trans hE
                      exact do_pick (c := .tmp 49) (x := .const (.bool true)) (y := .tmp 57) (u := vs 22) (p := false) (r := .bool true) (by kernel_rfl) (by kernel_rfl) (by kernel_rfl) (by kernel_rfl) (hd 22 (by kernel_rfl)) (by rw [if_neg (by decide)]; exact Eq.trans (by kernel_rfl : _ = vs 30) (hd 30 (by kernel_rfl))) hK
                    intro vs W hE hd
                    have hE' : After wr W := hself.trans hE
                    have er : vs 31 = .bool true := hd 31 (by decide)
                    refine hKK _ _ ?_
                    rw [frame_all 27 32 (by kernel_rfl) (by kernel_rfl), lit_59_27_32, er]
                    clear er hd
                    generalize vs 0 = y0 at *
                    generalize vs 1 = y1 at *
                    generalize vs 2 = y2 at *
                    generalize vs 3 = y3 at *
                    generalize vs 4 = y4 at *
                    generalize vs 5 = y5 at *
                    generalize vs 6 = y6 at *
                    generalize vs 7 = y7 at *
                    generalize vs 8 = y8 at *
                    generalize vs 9 = y9 at *
                    generalize vs 10 = y10 at *
                    generalize vs 11 = y11 at *
                    generalize vs 12 = y12 at *
                    generalize vs 13 = y13 at *
                    generalize vs 14 = y14 at *
                    generalize vs 15 = y15 at *
                    generalize vs 16 = y16 at *
                    generalize vs 17 = y17 at *
                    generalize vs 18 = y18 at *
                    generalize vs 19 = y19 at *
                    generalize vs 20 = y20 at *
                    generalize vs 21 = y21 at *
                    generalize vs 22 = y22 at *
                    generalize vs 23 = y23 at *
                    generalize vs 24 = y24 at *
                    generalize vs 25 = y25 at *
                    generalize vs 26 = y26 at *
                    generalize vs 27 = y27 at *
                    generalize vs 28 = y28 at *
                    generalize vs 29 = y29 at *
                    generalize vs 30 = y30 at *
                    go_wp2_with fail
                    go_ret
                    exact ⟨by rw [HF2.out]; rfl, hA1.trans (hAr.trans (hAi.trans hE'))⟩
                  | false =>
                    refine wp_region_reg (by kernel_rfl) (by kernel_rfl) After After.refl (fun _ _ _ h g => h.trans g)
                      (yds [.lit (.slice (some ⟨b, off, none⟩) m c), .lit (.int .i64 k), .lit (.pointer (some ⟨b, off + k, none⟩)), .lit (str z), .lit (.bool true), .lit (.bool false), .lit (.bool false), .lit (.slice (some ⟨b, off, none⟩) m c), .lit (.int .i64 k), .lit (.pointer (some ⟨b, off + k, none⟩)), .lit (str z), .lit (.bool true), .lit (.bool false), .lit (.bool false), .lit (.bool false), .lit (.slice (some ⟨b, off, none⟩) m c), .lit (.int .i64 k), .lit (.pointer (some ⟨b, off + k, none⟩)), .lit (str z), .lit (.int .i64 (Tm.pSize z)), .lit (.bool false), .lit (.bool false), .lit (.bool false), .lit (.slice (some ⟨b, off, none⟩) m c), .lit (.int .i64 k), .lit (.slice (some ⟨b, off, none⟩) k c), .lit (.slice (some ⟨b, off, none⟩) m c), .lit (.int .i64 k), .lit (.pointer (some ⟨b, off + k, none⟩)), .lit (str z), .lit (.bool false), .lit (.bool false)]) yds_later (lt32 ?_ ?_ ?_ ?_ ?_ ?_ ?_ ?_ ?_ ?_ ?_ ?_ ?_ ?_ ?_ ?_ ?_ ?_ ?_ ?_ ?_ ?_ ?_ ?_ ?_ ?_ ?_ ?_ ?_ ?_ ?_ ?_) ?_
                    · intro vs W hE hd K hK
                      have hE' : After wr W := hself.trans hE
                      exact do_r (v := .slice (some ⟨b, off, none⟩) m c) (.lit (.slice (some ⟨b, off, none⟩) m c)) (by kernel_rfl) (wanted_of (by kernel_rfl)) (by kernel_rfl) rfl hK
                    · intro vs W hE hd K hK
                      have hE' : After wr W := hself.trans hE
                      exact do_r (v := .int .i64 k) (.lit (.int .i64 k)) (by kernel_rfl) (wanted_of (by kernel_rfl)) (by kernel_rfl) rfl hK
                    · intro vs W hE hd K hK
                      have hE' : After wr W := hself.trans hE
                      exact do_r (v := .pointer (some ⟨b, off + k, none⟩)) (.lit (.pointer (some ⟨b, off + k, none⟩))) (by kernel_rfl) (wanted_of (by kernel_rfl)) (run_ixs (x := .tmp 27) (y := .tmp 28) (u := vs 0) (u' := vs 1) (by kernel_rfl) (by kernel_rfl) (hd 0 (by kernel_rfl)) (by kernel_rfl) (hd 1 (by kernel_rfl)) hkm) rfl hK
                    · intro vs W hE hd K hK
                      have hE' : After wr W := hself.trans hE
                      exact do_r (v := str z) (.lit (str z)) (by kernel_rfl) (wanted_of (by kernel_rfl)) (run_lds (x := .tmp 29) (u := vs 2) (by kernel_rfl) (by kernel_rfl) (hd 2 (by kernel_rfl)) (H1.out W hE')) rfl hK
                    · intro vs W hE hd K hK
                      have hE' : After wr W := hself.trans hE
                      exact do_c (v := .bool true) (f := 104) (args := #[vs 3]) (by kernel_rfl) (wanted_of (by kernel_rfl)) (by kernel_rfl) (by rw [show vs 3 = str z from hd 3 (by kernel_rfl)]; exact HQ.out.1 W) hK
                    · intro vs W hE hd K hK
                      have hE' : After wr W := hself.trans hE
                      exact do_r (v := .bool (!true)) (.lit (.bool false)) (by kernel_rfl) (wanted_of (by kernel_rfl)) (run_not (T := 4) (x := .tmp 31) (u := vs 4) (b := true) (by kernel_rfl) (by kernel_rfl) (hd 4 (by kernel_rfl))) rfl hK
                    · intro vs W hE hd K hK
                      have hE' : After wr W := hself.trans hE
                      exact do_r (v := vs 5) (.lit (.bool false)) (by kernel_rfl) (wanted_of (by kernel_rfl)) (by kernel_rfl) (hd 5 (by kernel_rfl)) hK
                    · intro vs W hE hd K hK
                      have hE' : After wr W := hself.trans hE
                      exact do_r (v := .slice (some ⟨b, off, none⟩) m c) (.lit (.slice (some ⟨b, off, none⟩) m c)) (by kernel_rfl) (wanted_on (j := 6) (b := false) (u := vs 6) (by kernel_rfl) (by kernel_rfl) (hd 6 (by kernel_rfl))) (by kernel_rfl) rfl hK
                    · intro vs W hE hd K hK
                      have hE' : After wr W := hself.trans hE
                      exact do_r (v := .int .i64 k) (.lit (.int .i64 k)) (by kernel_rfl) (wanted_on (j := 6) (b := false) (u := vs 6) (by kernel_rfl) (by kernel_rfl) (hd 6 (by kernel_rfl))) (by kernel_rfl) rfl hK
                    · intro vs W hE hd K hK
                      have hE' : After wr W := hself.trans hE
                      exact do_r (v := .pointer (some ⟨b, off + k, none⟩)) (.lit (.pointer (some ⟨b, off + k, none⟩))) (by kernel_rfl) (wanted_on (j := 6) (b := false) (u := vs 6) (by kernel_rfl) (by kernel_rfl) (hd 6 (by kernel_rfl))) (run_ixs (x := .tmp 34) (y := .tmp 35) (u := vs 7) (u' := vs 8) (by kernel_rfl) (by kernel_rfl) (hd 7 (by kernel_rfl)) (by kernel_rfl) (hd 8 (by kernel_rfl)) hkm) rfl hK
                    · intro vs W hE hd K hK
                      have hE' : After wr W := hself.trans hE
                      exact do_r (v := str z) (.lit (str z)) (by kernel_rfl) (wanted_on (j := 6) (b := false) (u := vs 6) (by kernel_rfl) (by kernel_rfl) (hd 6 (by kernel_rfl))) (run_lds (x := .tmp 36) (u := vs 9) (by kernel_rfl) (by kernel_rfl) (hd 9 (by kernel_rfl)) (H1.out W hE')) rfl hK
                    · intro vs W hE hd K hK
                      have hE' : After wr W := hself.trans hE
                      exact do_c (v := .bool true) (f := 36) (args := #[vs 10]) (by kernel_rfl) (wanted_on (j := 6) (b := false) (u := vs 6) (by kernel_rfl) (by kernel_rfl) (hd 6 (by kernel_rfl))) (by kernel_rfl) (by rw [show vs 10 = str z from hd 10 (by kernel_rfl)]; exact HQ.out.2.1 W) hK
                    · intro vs W hE hd K hK
                      have hE' : After wr W := hself.trans hE
                      exact do_r (v := .bool (!true)) (.lit (.bool false)) (by kernel_rfl) (wanted_on (j := 6) (b := false) (u := vs 6) (by kernel_rfl) (by kernel_rfl) (hd 6 (by kernel_rfl))) (run_not (T := 4) (x := .tmp 38) (u := vs 11) (b := true) (by kernel_rfl) (by kernel_rfl) (hd 11 (by kernel_rfl))) rfl hK
                    · intro vs W hE hd K hK
                      have hE' : After wr W := hself.trans hE
                      exact do_pick (c := .tmp 33) (x := .const (.bool true)) (y := .tmp 39) (u := vs 6) (p := false) (r := .bool false) (by kernel_rfl) (by kernel_rfl) (by kernel_rfl) (by kernel_rfl) (hd 6 (by kernel_rfl)) (by rw [if_neg (by decide)]; exact Eq.trans (by kernel_rfl : _ = vs 12) (hd 12 (by kernel_rfl))) hK
                    · intro vs W hE hd K hK
                      have hE' : After wr W := hself.trans hE
                      exact do_r (v := vs 13) (.lit (.bool false)) (by kernel_rfl) (wanted_of (by kernel_rfl)) (by kernel_rfl) (hd 13 (by kernel_rfl)) hK
                    · intro vs W hE hd K hK
                      have hE' : After wr W := hself.trans hE
                      exact do_r (v := .slice (some ⟨b, off, none⟩) m c) (.lit (.slice (some ⟨b, off, none⟩) m c)) (by kernel_rfl) (wanted_on (j := 14) (b := false) (u := vs 14) (by kernel_rfl) (by kernel_rfl) (hd 14 (by kernel_rfl))) (by kernel_rfl) rfl hK
                    · intro vs W hE hd K hK
                      have hE' : After wr W := hself.trans hE
                      exact do_r (v := .int .i64 k) (.lit (.int .i64 k)) (by kernel_rfl) (wanted_on (j := 14) (b := false) (u := vs 14) (by kernel_rfl) (by kernel_rfl) (hd 14 (by kernel_rfl))) (by kernel_rfl) rfl hK
                    · intro vs W hE hd K hK
                      have hE' : After wr W := hself.trans hE
                      exact do_r (v := .pointer (some ⟨b, off + k, none⟩)) (.lit (.pointer (some ⟨b, off + k, none⟩))) (by kernel_rfl) (wanted_on (j := 14) (b := false) (u := vs 14) (by kernel_rfl) (by kernel_rfl) (hd 14 (by kernel_rfl))) (run_ixs (x := .tmp 42) (y := .tmp 43) (u := vs 15) (u' := vs 16) (by kernel_rfl) (by kernel_rfl) (hd 15 (by kernel_rfl)) (by kernel_rfl) (hd 16 (by kernel_rfl)) hkm) rfl hK
                    · intro vs W hE hd K hK
                      have hE' : After wr W := hself.trans hE
                      exact do_r (v := str z) (.lit (str z)) (by kernel_rfl) (wanted_on (j := 14) (b := false) (u := vs 14) (by kernel_rfl) (by kernel_rfl) (hd 14 (by kernel_rfl))) (run_lds (x := .tmp 44) (u := vs 17) (by kernel_rfl) (by kernel_rfl) (hd 17 (by kernel_rfl)) (H1.out W hE')) rfl hK
                    · intro vs W hE hd K hK
                      have hE' : After wr W := hself.trans hE
                      exact do_c (v := .int .i64 (Tm.pSize z)) (f := 17) (args := #[vs 18]) (by kernel_rfl) (wanted_on (j := 14) (b := false) (u := vs 14) (by kernel_rfl) (by kernel_rfl) (hd 14 (by kernel_rfl))) (by kernel_rfl) (by rw [show vs 18 = str z from hd 18 (by kernel_rfl)]; exact HQ.out.2.2.1 W) hK
                    · intro vs W hE hd K hK
                      have hE' : After wr W := hself.trans hE
                      exact do_r (v := .bool (decide ((Tm.pSize z) > 60))) (.lit (.bool false)) (by kernel_rfl) (wanted_on (j := 14) (b := false) (u := vs 14) (by kernel_rfl) (by kernel_rfl) (hd 14 (by kernel_rfl))) (run_gtr (T := 3) (T' := 3) (x := .tmp 46) (u := vs 19) (n := (Tm.pSize z)) (c := 60) (by kernel_rfl) (by kernel_rfl) (hd 19 (by kernel_rfl))) (congrArg Value.bool HQ.out.2.2.2.2) hK
                    · intro vs W hE hd K hK
                      have hE' : After wr W := hself.trans hE
                      exact do_pick (c := .tmp 41) (x := .const (.bool true)) (y := .tmp 47) (u := vs 14) (p := false) (r := .bool false) (by kernel_rfl) (by kernel_rfl) (by kernel_rfl) (by kernel_rfl) (hd 14 (by kernel_rfl)) (by rw [if_neg (by decide)]; exact Eq.trans (by kernel_rfl : _ = vs 20) (hd 20 (by kernel_rfl))) hK
                    · intro vs W hE hd K hK
                      have hE' : After wr W := hself.trans hE
                      exact do_r (v := vs 21) (.lit (.bool false)) (by kernel_rfl) (wanted_of (by kernel_rfl)) (by kernel_rfl) (hd 21 (by kernel_rfl)) hK
                    · intro vs W hE hd K hK
                      have hE' : After wr W := hself.trans hE
                      exact do_r (v := .slice (some ⟨b, off, none⟩) m c) (.lit (.slice (some ⟨b, off, none⟩) m c)) (by kernel_rfl) (wanted_on (j := 22) (b := false) (u := vs 22) (by kernel_rfl) (by kernel_rfl) (hd 22 (by kernel_rfl))) (by kernel_rfl) rfl hK
                    · intro vs W hE hd K hK
                      have hE' : After wr W := hself.trans hE
                      exact do_r (v := .int .i64 k) (.lit (.int .i64 k)) (by kernel_rfl) (wanted_on (j := 22) (b := false) (u := vs 22) (by kernel_rfl) (by kernel_rfl) (hd 22 (by kernel_rfl))) (by kernel_rfl) rfl hK
                    · intro vs W hE hd K hK
                      have hE' : After wr W := hself.trans hE
                      exact do_r (v := .slice (some ⟨b, off, none⟩) k c) (.lit (.slice (some ⟨b, off, none⟩) k c)) (by kernel_rfl) (wanted_on (j := 22) (b := false) (u := vs 22) (by kernel_rfl) (by kernel_rfl) (hd 22 (by kernel_rfl))) (run_slc (x := .tmp 50) (y := .tmp 51) (u := vs 23) (u' := vs 24) (by kernel_rfl) (by kernel_rfl) (hd 23 (by kernel_rfl)) (by kernel_rfl) (hd 24 (by kernel_rfl)) hkc hcm) rfl hK
                    · intro vs W hE hd K hK
                      have hE' : After wr W := hself.trans hE
                      exact do_r (v := .slice (some ⟨b, off, none⟩) m c) (.lit (.slice (some ⟨b, off, none⟩) m c)) (by kernel_rfl) (wanted_on (j := 22) (b := false) (u := vs 22) (by kernel_rfl) (by kernel_rfl) (hd 22 (by kernel_rfl))) (by kernel_rfl) rfl hK
                    · intro vs W hE hd K hK
                      have hE' : After wr W := hself.trans hE
                      exact do_r (v := .int .i64 k) (.lit (.int .i64 k)) (by kernel_rfl) (wanted_on (j := 22) (b := false) (u := vs 22) (by kernel_rfl) (by kernel_rfl) (hd 22 (by kernel_rfl))) (by kernel_rfl) rfl hK
                    · intro vs W hE hd K hK
                      have hE' : After wr W := hself.trans hE
                      exact do_r (v := .pointer (some ⟨b, off + k, none⟩)) (.lit (.pointer (some ⟨b, off + k, none⟩))) (by kernel_rfl) (wanted_on (j := 22) (b := false) (u := vs 22) (by kernel_rfl) (by kernel_rfl) (hd 22 (by kernel_rfl))) (run_ixs (x := .tmp 53) (y := .tmp 54) (u := vs 26) (u' := vs 27) (by kernel_rfl) (by kernel_rfl) (hd 26 (by kernel_rfl)) (by kernel_rfl) (hd 27 (by kernel_rfl)) hkm) rfl hK
                    · intro vs W hE hd K hK
                      have hE' : After wr W := hself.trans hE
                      exact do_r (v := str z) (.lit (str z)) (by kernel_rfl) (wanted_on (j := 22) (b := false) (u := vs 22) (by kernel_rfl) (by kernel_rfl) (hd 22 (by kernel_rfl))) (run_lds (x := .tmp 55) (u := vs 28) (by kernel_rfl) (by kernel_rfl) (hd 28 (by kernel_rfl)) (H1.out W hE')) rfl hK
                    · intro vs W hE hd K hK
                      have hE' : After wr W := hself.trans hE
                      exact do_c (v := .bool false) (f := 115) (args := #[vs 25, vs 29]) (by kernel_rfl) (wanted_on (j := 22) (b := false) (u := vs 22) (by kernel_rfl) (by kernel_rfl) (hd 22 (by kernel_rfl))) (by kernel_rfl) (by rw [show vs 25 = .slice (some ⟨b, off, none⟩) k c from hd 25 (by kernel_rfl), show vs 29 = str z from hd 29 (by kernel_rfl)]; exact HQ.out.2.2.2.1 W hE') hK
                    · intro vs W hE hd K hK
                      have hE' : After wr W := hself.trans hE
                      exact do_pick (c := .tmp 49) (x := .const (.bool true)) (y := .tmp 57) (u := vs 22) (p := false) (r := .bool false) (by kernel_rfl) (by kernel_rfl) (by kernel_rfl) (by kernel_rfl) (hd 22 (by kernel_rfl)) (by rw [if_neg (by decide)]; exact Eq.trans (by kernel_rfl : _ = vs 30) (hd 30 (by kernel_rfl))) hK
                    intro vs W hE hd
                    have hE' : After wr W := hself.trans hE
                    have er : vs 31 = .bool false := hd 31 (by decide)
                    refine hKK _ _ ?_
                    rw [frame_all 27 32 (by kernel_rfl) (by kernel_rfl), lit_59_27_32, er]
                    clear er hd
                    generalize vs 0 = y0 at *
                    generalize vs 1 = y1 at *
                    generalize vs 2 = y2 at *
                    generalize vs 3 = y3 at *
                    generalize vs 4 = y4 at *
                    generalize vs 5 = y5 at *
                    generalize vs 6 = y6 at *
                    generalize vs 7 = y7 at *
                    generalize vs 8 = y8 at *
                    generalize vs 9 = y9 at *
                    generalize vs 10 = y10 at *
                    generalize vs 11 = y11 at *
                    generalize vs 12 = y12 at *
                    generalize vs 13 = y13 at *
                    generalize vs 14 = y14 at *
                    generalize vs 15 = y15 at *
                    generalize vs 16 = y16 at *
                    generalize vs 17 = y17 at *
                    generalize vs 18 = y18 at *
                    generalize vs 19 = y19 at *
                    generalize vs 20 = y20 at *
                    generalize vs 21 = y21 at *
                    generalize vs 22 = y22 at *
                    generalize vs 23 = y23 at *
                    generalize vs 24 = y24 at *
                    generalize vs 25 = y25 at *
                    generalize vs 26 = y26 at *
                    generalize vs 27 = y27 at *
                    generalize vs 28 = y28 at *
                    generalize vs 29 = y29 at *
                    generalize vs 30 = y30 at *
                    go_wp2_with fail
                    go_roundw
                    case rel => exact ⟨k + 1, by go_num, by omega, by show _ = _; rw [Asm.pfx_succ, hp.out, HS.out]; rfl, hAi.trans hE'⟩
                    case measure => simp [intOf]; omega
          · obtain rfl : k = m := by omega
            go_wp2_with fail
            go_roundw
            case rel => exact ⟨i + 1, by go_num, by omega, by show _ = _; rw [Asm.pfs_succ, hpf.out, ← HRS.out, ← HM.out, hp.out]; rfl, hAr.trans hAi⟩
            case measure => simp [intOf]; omega
      · obtain rfl : i = n := by omega
        go_wp2_with fail
        go_ret
        exact ⟨by rw [HR'.out, hpf.out]; rfl, hA1.trans hAr⟩
end Go.Proofs.Ytipmgfbncfkmiaa
