/-
  The model's l5Map.
-/
import Derived.Test.YtipmgfbncfkmiaaPkW
import Derived.Test.YtipmgfbncfkmiaaPkO
import Derived.Test.YtipmgfbncfkmiaaSAp
import Derived.Test.YtipmgfbncfkmiaaPkU
import Derived.BigQuiet
namespace Go.Proofs.Ytipmgfbncfkmiaa
open Go.RowKit

set_option maxHeartbeats 2000000
set_option maxRecDepth 100000

theorem s_map (w : World) (s1 s2 s3 : Value) (a b : List (List (List UInt8))) (ls : List Int) (h1 : SSU 0 w s1 a) (h2 : SSU 0 w s2 b) (hl1 : Lens 1048576 a) (hl2 : Lens 1048576 b) (h3 : RowU 0 w s3 ls.length (fun j => .int .i64 (ls.getD j 0))) (hll : ls.length ≤ 1000000000) :
    Calls Try.prog 103 #[.agg #[s1], .agg #[s2], s3] w fun e w' => e = .returned (.bool (Asm.mapOk a b ls)) ∧ After w w' := by
  have hin : ∀ W (x y z : Int), Calls Try.prog 85 #[.int .i64 x, .int .i64 y, .int .i64 z] W fun e w' => e = .returned (.bool (decide (y ≤ x) && decide (x ≤ z))) ∧ After W w' := fun W x y z => (in_any W x y z).mono fun e w' ⟨he, hw⟩ => ⟨by rw [he, Bool.decide_and], hw ▸ After.refl _⟩
  have hv1 := fun W (hW : After w W) => s_asmValid W s1 a (h1.later hW) hl1
  have hv2 := fun W (hW : After w W) => s_asmValid W s2 b (h2.later hW) hl2
  obtain ⟨p1, k1, rfl⟩ := h1.form
  obtain ⟨p2, k2, rfl⟩ := h2.form
  obtain ⟨p3, k3, rfl, h3at⟩ := h3
  obtain ⟨res, hres⟩ : ∃ res, res = Asm.mapOk a b ls := ⟨_, rfl⟩
  rw [← hres]
  have HRES : Hid (res = ((Asm.ok a && Asm.ok b) && (decide (ls.length = a.length) && Asm.rng b.length ls ls.length))) := hres
  have hsucc := fun k => Asm.rng_succ b.length ls k
  have hno := fun k (hk : k < ls.length) h => Asm.rng_no (m := b.length) (ls := ls) (k := k) h hk
  have h0 : Asm.rng b.length ls 0 = true := rfl
  have hbl : b.length ≤ 1048576 := hl2.1
  obtain ⟨os, hos⟩ : ∃ os : List Obj, os = [.cells #[.slice p1 a.length k1] 58, .cells #[.slice p2 b.length k2] 58] := ⟨_, rfl⟩
  have hX : allocL w os = (w.alloc (.cells #[.slice p1 a.length k1] 58)).alloc (.cells #[.slice p2 b.length k2] 58) := by rw [hos]; rfl
  have hA0 : After w (allocL w os) := allocL_below w os
  have hx0 : (allocL w os).heap[w.heap.size]? = some (.cells #[.slice p1 a.length k1] 58 (0, 0)) := by have := allocL_heap w os 0 (by rw [hos]; simp); simpa [hos] using this
  have hx1 : (allocL w os).heap[w.heap.size + 1]? = some (.cells #[.slice p2 b.length k2] 58 (0, 0)) := by have := allocL_heap w os 1 (by rw [hos]; simp); simpa [hos] using this
  rw [hX] at hA0 hx0 hx1
  have hc := hv1 _ hA0
  obtain ⟨o0, o1, o2⟩ := one_facts hx0 (After.refl _)
  have HA0 := Lib.hid hA0
  have HXA := Lib.hid hx0
  have HXB := Lib.hid hx1
  have HV2 := Lib.hid hv2
  have H3 := Lib.hid h3at
  have HSUCC := Lib.hid hsucc
  have HNO := Lib.hid hno
  have HST := Lib.hid h0
  have HIN := Lib.hid hin
  clear hv1 hv2 hres hsucc hno h0 hX hos hA0 hx0 hx1 h3at hin h1 h2 hl1 hl2
  generalize a.length = n at *
  generalize b.length = m at *
  generalize ls.length = l at *
  cases hoa : Asm.ok a with
  | false =>
    have HF : Hid (res = false) := by show _ = _; rw [HRES.out, hoa]; simp
    rw [hoa] at hc
    clear hoa HRES
    go_enter Try.func103, Try.ntmps103
    go_wp2_with fail
    refine hc.mono ?_
    rintro e w1 ⟨rfl, hb1⟩
    clear hc o0 o1 o2
    go_wp2_with fail
    go_ret
    exact ⟨by rw [HF.out]; rfl, HA0.out.trans hb1⟩
  | true =>
    rw [hoa] at hc
    cases hob : Asm.ok b with
    | false =>
      have HF : Hid (res = false) := by show _ = _; rw [HRES.out, hob]; simp
      rw [hob] at HV2
      clear hoa hob HRES
      go_enter Try.func103, Try.ntmps103
      go_wp2_with fail
      refine hc.mono ?_
      rintro e w1 ⟨rfl, hb1⟩
      have hd := HV2.out w1 (HA0.out.trans hb1)
      obtain ⟨u0, u1, u2⟩ := one_facts HXB.out hb1
      clear hc o0 o1 o2
      go_wp2_with fail
      refine hd.mono ?_
      rintro e w2 ⟨rfl, hb2⟩
      clear hd u0 u1 u2
      go_wp2_with fail
      go_ret
      exact ⟨by rw [HF.out]; rfl, (HA0.out.trans hb1).trans hb2⟩
    | true =>
      rw [hob] at HV2
      have HR2 : Hid (res = (decide (l = n) && Asm.rng m ls l)) := by show _ = _; rw [HRES.out, hoa, hob]; rfl
      clear hoa hob HRES
      go_enter Try.func103, Try.ntmps103
      go_wp2_with fail
      refine hc.mono ?_
      rintro e w1 ⟨rfl, hb1⟩
      have hd := HV2.out w1 (HA0.out.trans hb1)
      obtain ⟨u0, u1, u2⟩ := one_facts HXB.out hb1
      clear hc o0 o1 o2
      go_wp2_with fail
      refine hd.mono ?_
      rintro e w2 ⟨rfl, hb2⟩
      obtain ⟨o0, o1, o2⟩ := one_facts HXA.out (hb1.trans hb2)
      have HA2 := Lib.hid ((HA0.out.trans hb1).trans hb2)
      have HB12 := Lib.hid (hb1.trans hb2)
      clear hd u0 u1 u2 hb1 hb2
      by_cases hln : l = n
      · subst hln
        have HR3 : Hid (res = Asm.rng m ls l) := by show _ = _; rw [HR2.out]; simp
        clear HR2
        go_wp2_with fail
        go_loopw [7] (fun i wr => ∃ k : Nat, i = .int .i64 k ∧ k ≤ l ∧ Hid (Asm.rng m ls k = true) ∧ Hid (After w2 wr)) (fun i _ => l - (intOf i).toNat)
        case atStart => exact ⟨0, rfl, Nat.zero_le _, HST, by show After _ _; exact After.refl _⟩
        case round =>
          obtain ⟨k, rfl, hk, hpf, hA⟩ := hrel
          clear HST o0 o1 o2
          by_cases hlt : k < l
          · obtain ⟨b3, off3, rfl, _, c3⟩ := H3.out k hlt
            have x1 : ∀ W, After wr W → W.cell? ⟨b3, off3 + k, none⟩ = some (.int .i64 (ls.getD k 0)) := fun W hW => ((HA2.out.trans hA.out).trans hW).cell c3
            have x2 : ∀ W, After wr W → W.cell? ⟨w.heap.size + 1, 0, none⟩ = some (.slice p2 m k2) := fun W hW => (one_facts HXB.out (HB12.out.trans (hA.out.trans hW))).1
            have hsu := HSUCC.out k
            have hno := HNO.out k hlt
            generalize ls.getD k 0 = v at x1 hsu hno
            have HSU := Lib.hid hsu
            have HNO2 := Lib.hid hno
            have hlt' : (k : Int) < (l : Int) := by omega
            have hself := After.refl wr
            obtain ⟨r, hr⟩ : ∃ r, r = (decide (0 ≤ v) && decide (v < (m : Int))) := ⟨_, rfl⟩
            have hwr : IntKind.i64.wrap ((m : Int) - 1) = (m : Int) - 1 := IntWalk.i64_in _ (by omega)
            have hr2 : (decide (0 ≤ v) && decide (v ≤ IntKind.i64.wrap ((m : Int) - 1))) = r := by rw [hwr, hr]; congr 1; exact decide_eq_decide.2 (by omega)
            have HRR := Lib.hid hr
            have HR4 := Lib.hid hr2
            clear hsu hno c3 hr hr2 hwr
            go_wp2_with fail
            go_region_held3 (fun W' => After wr W') (first | assumption | exact hself.drew | go_keep)
              (first
                | (go_at_call 85
                   have hd := hself.drew
                   refine (HIN.out _ _ _ _).mono ?_
                   rintro e w3 ⟨rfl, hb3⟩
                   have hb3' := After.trans (by first | assumption | exact hself.drew) hb3
                   rw [HR4.out]))
            all_goals
              have HA3 := Lib.hid (hA.out.trans hb3')
              cases r with
              | true =>
                have HNX : Hid (Asm.rng m ls (k + 1) = true) := by show _ = _; rw [HSU.out, hpf.out, ← HRR.out]; rfl
                clear hpf x1 x2 hself
                go_wp2_with fail
                go_roundw
                case rel => exact ⟨k + 1, by go_num, by omega, HNX, HA3⟩
                case measure => simp [intOf]; omega
              | false =>
                have HF : Hid (res = false) := by show _ = _; rw [HR3.out]; exact HNO2.out HRR.out.symm
                go_wp2_with fail
                go_ret
                exact ⟨by rw [HF.out]; rfl, HA2.out.trans HA3.out⟩
          · obtain rfl : k = l := by omega
            have HF : Hid (res = true) := by show _ = _; rw [HR3.out, hpf.out]
            go_wp2_with fail
            go_ret
            exact ⟨by rw [HF.out]; rfl, HA2.out.trans hA.out⟩
      · have hne : ((l : Int) == (n : Int)) = false := beq_eq_false_iff_ne.2 (by omega)
        have HF : Hid (res = false) := by show _ = _; rw [HR2.out, decide_eq_false hln]; rfl
        go_wp2_with fail
        go_ret
        exact ⟨by rw [HF.out]; rfl, HA2.out⟩
end Go.Proofs.Ytipmgfbncfkmiaa

namespace Go.Proofs.Ytipmgfbncfkmiaa

theorem pApply_end' (l m : List UInt8) : Tm.pApply l m = match Tm.parse l, Tm.parse m with
  | some t, some u => (Tm.endOf (.app t u)).map Tm.text
  | _, _ => none := by
  unfold Tm.pApply Tm.endOf
  split
  · rename_i t u h1 h2
    simp only [h1, h2]
    split
    · cases ((t.app u).norm) <;> rfl
    · rfl
  · rename_i h
    split
    · rename_i t u h1 h2; exact absurd h2 (h t u h1)
    · rfl
namespace Asm
theorem hit_apply {l x : Txt} {t : Tm} {row : List Txt} (hl : Tm.closedOf l = some t) (hx : (rz x).isSome = true) : hit t x row = (match Tm.pApply l x with
    | some y => decide (y ∈ row)
    | none => false) := by
  obtain ⟨u, hu⟩ := Option.isSome_iff_exists.1 hx
  obtain ⟨h1, _, _, h4⟩ := rz_facts hu
  rw [pApply_end', (Tm.closed_facts hl).1, (Tm.closed_facts h4).1, hit, h1]
  simp only
  generalize Tm.endOf (t.app u) = r
  cases r <;> rfl
theorem trk_all {t : Tm} {a b : List (List Txt)} {ls : List Nat} {i : Nat} (h : ls.getD i 0 < b.length) : trk t a b ls i = (a.getD i []).all fun x => hit t x (b.getD (ls.getD i 0) []) := by
  rw [trk, lefts]
  simp only [List.mem_filter, List.mem_range, h, true_and]
  cases hall : (a.getD i []).all fun x => hit t x (b.getD (ls.getD i 0) []) <;> simp
end Asm
end Go.Proofs.Ytipmgfbncfkmiaa

namespace Go.Proofs.Ytipmgfbncfkmiaa
open Go.RowKit Go.WideMaps Go.Maps

set_option maxHeartbeats 2000000
set_option maxRecDepth 100000

theorem gd {α : Type} (l : List α) (k : Nat) (d : α) (h : k < l.length) : l.getD k d = l[k] := by rw [List.getD, List.getElem?_eq_getElem h]; rfl
theorem gd_mem {α : Type} {l : List α} {k : Nat} {d : α} (h : k < l.length) : l.getD k d ∈ l := by rw [gd l k d h]; exact List.getElem_mem h

namespace Asm
def mdk (a : List (List Txt)) (i j n : Nat) : Bool := (List.range n).all fun k => !decide ((a.getD i []).getD k [] ∈ a.getD j [])
def mdj (a : List (List Txt)) (i m : Nat) : Bool := (List.range m).all fun j => mdk a i j (a.getD i []).length
def mds (a : List (List Txt)) (n : Nat) : Bool := (List.range n).all fun i => mdj a i i
def modest (a : List (List Txt)) : Bool := ok a && mds a a.length

theorem mdk_succ (a : List (List Txt)) (i j n : Nat) : mdk a i j (n + 1) = (mdk a i j n && !decide ((a.getD i []).getD n [] ∈ a.getD j [])) := by simp [mdk, List.range_succ]
theorem mdj_succ (a : List (List Txt)) (i m : Nat) : mdj a i (m + 1) = (mdj a i m && mdk a i m (a.getD i []).length) := by simp [mdj, List.range_succ]
theorem mds_succ (a : List (List Txt)) (n : Nat) : mds a (n + 1) = (mds a n && mdj a n n) := by simp [mds, List.range_succ]
theorem mds_no {a : List (List Txt)} {i j k n : Nat} (h : (a.getD i []).getD k [] ∈ a.getD j []) (hk : k < (a.getD i []).length) (hj : j < i) (hi : i < n) : mds a n = false := by
  rw [mds, List.all_eq_false]
  refine ⟨i, List.mem_range.2 hi, ?_⟩
  have h1 : mdk a i j (a.getD i []).length = false := by
    rw [mdk, List.all_eq_false]
    exact ⟨k, List.mem_range.2 hk, by rw [decide_eq_true h]; decide⟩
  have h2 : mdj a i i = false := by
    rw [mdj, List.all_eq_false]
    exact ⟨j, List.mem_range.2 hj, by rw [h1]; decide⟩
  rw [h2]; decide

/-- What stands ahead of realizer k of element i. -/
def ahead (a : List (List Txt)) (i k : Nat) : List Txt := (a.take i).flatten ++ (a.getD i []).take k
theorem ahead_zero (a : List (List Txt)) (i : Nat) : ahead a i 0 = (a.take i).flatten := by simp [ahead]
theorem ahead_succ {a : List (List Txt)} {i k : Nat} (hk : k < (a.getD i []).length) : ahead a i (k + 1) = ahead a i k ++ [(a.getD i []).getD k []] := by
  rw [ahead, ahead, List.take_succ_eq_append_getElem hk, List.append_assoc, gd _ _ _ hk]
theorem ahead_next {a : List (List Txt)} {i : Nat} (hi : i < a.length) : ahead a i (a.getD i []).length = (a.take (i + 1)).flatten := by
  rw [ahead, List.take_length, List.take_succ_eq_append_getElem hi, List.flatten_append]
  congr 1
  rw [List.getD, List.getElem?_eq_getElem hi]
  simp

theorem mem_take_flatten {a : List (List Txt)} {i : Nat} (hi : i ≤ a.length) {x : Txt} : x ∈ (a.take i).flatten ↔ ∃ j, j < i ∧ x ∈ a.getD j [] := by
  rw [List.mem_flatten]
  constructor
  · rintro ⟨l, hl, hx⟩
    obtain ⟨j, hj, rfl⟩ := List.getElem_of_mem hl
    rw [List.length_take] at hj
    refine ⟨j, by omega, ?_⟩
    rw [List.getElem_take] at hx
    rw [List.getD, List.getElem?_eq_getElem (by omega)]
    exact hx
  · rintro ⟨j, hj, hx⟩
    rw [List.getD, List.getElem?_eq_getElem (show j < a.length by omega)] at hx
    exact ⟨_, List.mem_iff_getElem.2 ⟨j, by rw [List.length_take]; omega, List.getElem_take⟩, hx⟩

/-- In a valid assembly what stands ahead is in an element ahead. -/
theorem ahead_mem {a : List (List Txt)} {i k : Nat} (hok : ok a = true) (hi : i < a.length) (hk : k < (a.getD i []).length) (h : (a.getD i []).getD k [] ∈ ahead a i k) : ∃ j, j < i ∧ (a.getD i []).getD k [] ∈ a.getD j [] := by
  rw [ahead, List.mem_append] at h
  rcases h with h | h
  · exact (mem_take_flatten (by omega)).1 h
  · exfalso
    rw [ok_eq, Bool.and_eq_true, pfs, List.all_eq_true] at hok
    have := hok.2 i (List.mem_range.2 hi)
    rw [pfx, List.all_eq_true] at this
    have := this k (List.mem_range.2 hk)
    rw [step, Bool.and_eq_true] at this
    rw [decide_eq_true h] at this
    exact absurd this.2 (by decide)

theorem mdj_all {a : List (List Txt)} {i : Nat} (hi : i ≤ a.length) (h : ∀ k, k < (a.getD i []).length → (a.getD i []).getD k [] ∉ (a.take i).flatten) : mdj a i i = true := by
  rw [mdj, List.all_eq_true]
  intro j hj
  rw [mdk, List.all_eq_true]
  intro k hk
  have := h k (List.mem_range.1 hk)
  rw [mem_take_flatten hi] at this
  simp only [Bool.not_eq_true', decide_eq_false_iff_not]
  exact fun hm => this ⟨j, List.mem_range.1 hj, hm⟩
end Asm

/-- The map of the texts that are known. -/
def KM (w : World) (mb : Nat) (S : List (List UInt8)) : Prop :=
  ∃ D : DataW Unit, w.ownsMap Try.prog 9 (plainElem Try.prog 4) mb S.length D ∧ ∀ x, D.atKey (.string x) (.lit (.bool false)) = .lit (.bool (decide (x ∈ S)))

theorem KM.start (w : World) : KM (w.alloc (.map #[] 0)) w.heap.size [] := ⟨_, World.ownsMap_made w _ _ _, fun x => by simp [DataW.atKey]⟩

theorem KM.kept {w W : World} {mb : Nat} {S : List (List UInt8)} (h : KM w mb S) (hA : After w W) : KM W mb S := by
  obtain ⟨D, hm, hD⟩ := h
  exact ⟨D, hm.kept (row := none) ⟨hA.os, hA.tape, hA.output, hA.size, fun k hk _ => hA.block k hk⟩ (by simp), hD⟩

end Go.Proofs.Ytipmgfbncfkmiaa

namespace Go.Proofs.Ytipmgfbncfkmiaa
open Go.RowKit

set_option maxHeartbeats 2000000
set_option maxRecDepth 100000

theorem all_succ {α : Type} (f : α → Bool) (d : α) (xs : List α) (k : Nat) (hk : k < xs.length) : (xs.take (k + 1)).all f = ((xs.take k).all f && f (xs.getD k d)) := by
  have : xs.getD k d = xs[k] := by simp [List.getD, hk]
  rw [List.take_succ_eq_append_getElem hk, List.all_append, this]
  simp
theorem all_no {α : Type} (f : α → Bool) (d : α) (xs : List α) (k : Nat) (hk : k < xs.length) (h : f (xs.getD k d) = false) : xs.all f = false := by
  have : xs.getD k d = xs[k] := by simp [List.getD, hk]
  rw [List.all_eq_false]
  exact ⟨xs[k], List.getElem_mem hk, by rw [← this, h]; decide⟩

theorem s_track (w : World) (s1 s2 s3 : Value) (a b : List (List (List UInt8))) (ls : List Int) (l : List UInt8) (t : Tm) (h1 : SSU 0 w s1 a) (h2 : SSU 0 w s2 b) (hl1 : Lens 1048576 a) (hl2 : Lens 1048576 b) (h3 : RowU 0 w s3 ls.length (fun j => .int .i64 (ls.getD j 0)))
    (hl : l.length ≤ 1000000000) (hcl : Tm.closedOf l = some t) (hlen : ls.length = a.length) (hr : ∀ j, j < ls.length → 0 ≤ ls.getD j 0 ∧ ls.getD j 0 < (b.length : Int)) (hz : ∀ i k, i < a.length → k < (a.getD i []).length → (Asm.rz ((a.getD i []).getD k [])).isSome = true) :
    Calls Try.prog 105 #[.agg #[s1], .agg #[s2], s3, str l] w fun e w' => e = .returned (.bool (Asm.trks t a b (Asm.nats ls) a.length)) ∧ After w w' := by
  obtain ⟨fa, ⟨p1, k1, rfl, hca⟩, hfa⟩ := h1
  obtain ⟨fb, ⟨p2, k2, rfl, hcb⟩, hfb⟩ := h2
  obtain ⟨p3, k3, rfl, h3at⟩ := h3
  have happ := fun W x (hx : x.length ≤ 1000000000) => spec_apply W l x hl hx
  unfold SOne' at happ
  obtain ⟨res, hres⟩ : ∃ res, res = Asm.trks t a b (Asm.nats ls) a.length := ⟨_, rfl⟩
  rw [← hres]
  have HRES := Lib.hid hres
  have HCL := Lib.hid hcl
  have hsucc := fun k => Asm.trks_succ t a b (Asm.nats ls) k
  have hno := fun k (hk : k < a.length) (h : Asm.trk t a b (Asm.nats ls) k = false) => Asm.trks_no h hk
  have hst : Asm.trks t a b (Asm.nats ls) 0 = true := rfl
  have htrk : ∀ i, i < a.length → ∃ j : Nat, ls.getD i 0 = (j : Int) ∧ j < b.length ∧ Asm.trk t a b (Asm.nats ls) i = (a.getD i []).all fun x => Asm.hit t x (b.getD j []) := fun i hi => by
    have hi' : i < ls.length := by omega
    obtain ⟨q1, q2⟩ := hr i hi'
    have hn := Asm.nats_at hi' q1
    refine ⟨(Asm.nats ls).getD i 0, hn.symm, by omega, Asm.trk_all (by omega)⟩
  have hrowA : ∀ i, i < a.length → ∃ ga oa, p1 = some ⟨ga, oa, none⟩ ∧ w.cell? ⟨ga, oa + i, none⟩ = some (fa i) ∧ StrsU 0 w (fa i) (a.getD i []) ∧ ∀ k, k < (a.getD i []).length → ((a.getD i []).getD k []).length ≤ 1048576 := fun i hi => by
    obtain ⟨g, o, e, _, q⟩ := hca i hi
    exact ⟨g, o, e, q, hfa i hi, fun k hk => (hl1.2 _ (gd_mem hi)).2 _ (gd_mem hk)⟩
  have hrowB : ∀ i, i < b.length → ∃ ga oa, p2 = some ⟨ga, oa, none⟩ ∧ w.cell? ⟨ga, oa + i, none⟩ = some (fb i) ∧ StrsU 0 w (fb i) (b.getD i []) ∧ (b.getD i []).length ≤ 1048576 := fun i hi => by
    obtain ⟨g, o, e, _, q⟩ := hcb i hi
    exact ⟨g, o, e, q, hfb i hi, (hl2.2 _ (gd_mem hi)).1⟩
  obtain ⟨os, hos⟩ : ∃ os : List Obj, os = [.cells #[.slice p1 a.length k1] 58, .cells #[.slice p2 b.length k2] 58] := ⟨_, rfl⟩
  have hX : allocL w os = (w.alloc (.cells #[.slice p1 a.length k1] 58)).alloc (.cells #[.slice p2 b.length k2] 58) := by rw [hos]; rfl
  have hA0 : After w (allocL w os) := allocL_below w os
  have hx0 : (allocL w os).heap[w.heap.size]? = some (.cells #[.slice p1 a.length k1] 58 (0, 0)) := by have := allocL_heap w os 0 (by rw [hos]; simp); simpa [hos] using this
  have hx1 : (allocL w os).heap[w.heap.size + 1]? = some (.cells #[.slice p2 b.length k2] 58 (0, 0)) := by have := allocL_heap w os 1 (by rw [hos]; simp); simpa [hos] using this
  rw [hX] at hA0 hx0 hx1
  rw [hlen] at h3at ⊢
  have HA0 := Lib.hid hA0
  have HXA := Lib.hid hx0
  have HXB := Lib.hid hx1
  have H3 := Lib.hid h3at
  have HSUCC := Lib.hid hsucc
  have HNO := Lib.hid hno
  have HST := Lib.hid hst
  have HTRK := Lib.hid htrk
  have HROWA := Lib.hid hrowA
  have HROWB := Lib.hid hrowB
  have HZ := Lib.hid hz
  have HAPP := Lib.hid happ
  have hal := hl1.1
  have hbl := hl2.1
  clear hca hcb hfa hfb happ hres hcl hsucc hno hst htrk hrowA hrowB hX hos hA0 hx0 hx1 h3at hz hr hl1 hl2 hlen
  generalize a.length = n at *
  generalize b.length = m at *
  go_enter Try.func105, Try.ntmps105
  go_wp2_with fail
  generalize (w.alloc (.cells #[.slice p1 n k1] 58)).alloc (.cells #[.slice p2 m k2] 58) = w0 at *
  go_loopw [9] (fun i wr => ∃ k : Nat, i = .int .i64 k ∧ k ≤ n ∧ Hid (Asm.trks t a b (Asm.nats ls) k = true) ∧ Hid (After w0 wr)) (fun i _ => n - (intOf i).toNat)
  case atStart => exact ⟨0, rfl, Nat.zero_le _, HST, by show After _ _; exact After.refl _⟩
  case round =>
    obtain ⟨i, rfl, hi, hpf, hA⟩ := hrel
    by_cases hlt : i < n
    · obtain ⟨ga, oa, rfl, q1, q2, q3⟩ := HROWA.out i hlt
      obtain ⟨j, e, hj, htk⟩ := HTRK.out i hlt
      obtain ⟨b3, off3, rfl, _, c3⟩ := H3.out i hlt
      rw [e] at c3
      obtain ⟨gb, ob, rfl, d1, d2, d3⟩ := HROWB.out j hj
      have hrz := fun k hk => HZ.out i k hlt hk
      have hsu := HSUCC.out i
      have hno := HNO.out i hlt
      rw [hpf.out, Bool.true_and] at hsu
      rw [htk] at hsu hno
      generalize a.getD i [] = xs at *
      generalize b.getD j [] = row at *
      have hone := fun k hk => all_succ (fun x => Asm.hit t x row) [] xs k hk
      have hbad := fun k hk h => hno (all_no (fun x => Asm.hit t x row) [] xs k hk h)
      have hfull : Asm.trks t a b (Asm.nats ls) (i + 1) = (xs.take xs.length).all fun x => Asm.hit t x row := by rw [List.take_length, hsu]
      obtain ⟨ax, cx, ex, hcx⟩ := q2
      rw [ex] at q1
      obtain ⟨nx, hnx⟩ : ∃ nx, nx = xs.length := ⟨_, rfl⟩
      rw [← hnx] at q1 q3 hrz hone hbad hfull hcx
      have hs0 : (xs.take 0).all (fun x => Asm.hit t x row) = true := rfl
      have HS0 := Lib.hid hs0
      have HCX := Lib.hid hcx
      have HQ1 := Lib.hid q1
      have HQ3 := Lib.hid q3
      have HC3 := Lib.hid c3
      have HD1 := Lib.hid d1
      have HD2 := Lib.hid d2
      have HRZ := Lib.hid hrz
      have HONE := Lib.hid hone
      have HBAD := Lib.hid hbad
      have HFULL := Lib.hid hfull
      have hlt' : (i : Int) < (n : Int) := by omega
      have hlj : (j : Int) < (m : Int) := by omega
      obtain ⟨ab, cb, eb⟩ : ∃ ao cap, fb j = .slice ao row.length cap := by obtain ⟨ao, cap, e, _⟩ := d2; exact ⟨_, _, e⟩
      clear hs0 hcx q1 q3 c3 d1 d2 hrz hone hbad hfull hsu hno hpf htk e ex hnx
      go_wp2_with fail
      go_loopw [10] (fun q wr => ∃ k : Nat, q = .int .i64 k ∧ k ≤ nx ∧ Hid ((xs.take k).all (fun x => Asm.hit t x row) = true) ∧ Hid (After w0 wr)) (fun i _ => nx - (intOf i).toNat)
      case atStart => exact ⟨0, rfl, Nat.zero_le _, HS0, hA⟩
      case round =>
        obtain ⟨k, rfl, hk, hpf, hA⟩ := hrel
        have hAw := HA0.out.trans hA.out
        have x1 : ∀ W, After wr W → W.cell? ⟨w.heap.size, 0, none⟩ = some (.slice (some ⟨ga, oa, none⟩) n k1) := fun W hW => (one_facts HXA.out (hA.out.trans hW)).1
        have x2 : ∀ W, After wr W → W.cell? ⟨ga, oa + i, none⟩ = some (.slice ax nx cx) := fun W hW => (hAw.trans hW).cell HQ1.out
        have x3 : ∀ W, After wr W → W.cell? ⟨w.heap.size + 1, 0, none⟩ = some (.slice (some ⟨gb, ob, none⟩) m k2) := fun W hW => (one_facts HXB.out (hA.out.trans hW)).1
        have x4 : ∀ W, After wr W → W.cell? ⟨b3, off3 + i, none⟩ = some (.int .i64 (j : Int)) := fun W hW => (hAw.trans hW).cell HC3.out
        have x5 : ∀ W, After wr W → W.cell? ⟨gb, ob + j, none⟩ = some (.slice ab row.length cb) := fun W hW => (hAw.trans hW).cell (by rw [← eb]; exact HD1.out)
        have y1 := x1 wr (After.refl _)
        have y2 := x2 wr (After.refl _)
        by_cases hlk : k < nx
        · obtain ⟨g5, o5, rfl, _, c5⟩ := HCX.out k hlk
          have y3 := hAw.cell c5
          have happ := HAPP.out wr (xs.getD k []) (by have := HQ3.out k hlk; omega)
          have hhit := Asm.hit_apply (row := row) HCL.out (HRZ.out k hlk)
          have hon := HONE.out k hlk
          have hba := HBAD.out k hlk
          generalize xs.getD k [] = x at *
          cases hp : Tm.pApply l x with
          | none =>
            rw [hp] at happ hhit
            have HF : Hid (res = false) := by show _ = _; rw [HRES.out]; exact hba hhit
            clear hhit hon hba hp
            go_wp2_with fail
            refine happ.mono ?_
            rintro e w2 ⟨rfl, hb2⟩
            have HA2 := Lib.hid (hA.out.trans hb2)
            clear happ x1 x2 x3 x4 x5 y1 y2 y3
            go_wp2_with fail
            go_quiet (skip)
            all_goals
              go_wp2_with fail
              go_ret
              exact ⟨by rw [HF.out]; rfl, (HA0.out.trans HA2.out).trans (show After w2 (w2.drewN _) from ⟨rfl, rfl, rfl, Nat.le_refl _, fun _ _ => rfl⟩)⟩
          | some y =>
            rw [hp] at happ hhit
            have hhas := fun W (hW : After wr W) => s_hasU W _ row y (by have := HD2.out.later (hAw.trans hW); rw [eb] at this; exact this) (by omega)
            obtain ⟨r, hr⟩ : ∃ r, r = decide (y ∈ row) := ⟨_, rfl⟩
            have hhit2 : Asm.hit t x row = r := by rw [hhit, hr]
            rw [hhit2] at hon hba
            rw [hpf.out, Bool.true_and] at hon
            rw [← hr] at hhas
            have HON := Lib.hid hon
            have HBA := Lib.hid hba
            have HHAS := Lib.hid hhas
            clear hhit hhit2 hon hba hp hhas hr hpf
            go_wp2_with fail
            refine happ.mono ?_
            rintro e w2 ⟨rfl, hb2⟩
            have hself := hb2
            have HA2 := Lib.hid (hA.out.trans hb2)
            clear happ y1 y2 y3
            go_wp2_with fail
            go_region_held3 (fun W' => After wr W') (first | assumption | exact hself.drew | go_keep)
              (first
                | (go_at_call 115
                   have hd := hself.drew
                   refine (HHAS.out _ (by first | assumption | exact hself.drew)).mono ?_
                   rintro e w3 ⟨rfl, hb3⟩
                   have hb3' := After.trans (by first | assumption | exact hself.drew) hb3))
            all_goals
              have HA3 := Lib.hid (hA.out.trans hb3')
              clear x1 x2 x3 x4 x5 hself
              cases r with
              | true =>
                go_wp2_with fail
                go_roundw
                case rel => exact ⟨k + 1, by go_num, by omega, HON, HA3⟩
                case measure => simp [intOf]; omega
              | false =>
                have HF : Hid (res = false) := by show _ = _; rw [HRES.out]; exact HBA.out (by trivial)
                go_wp2_with fail
                go_ret
                exact ⟨by rw [HF.out]; rfl, HA0.out.trans HA3.out⟩
        · obtain rfl : k = nx := by omega
          have HNX : Hid (Asm.trks t a b (Asm.nats ls) (i + 1) = true) := by show _ = _; rw [HFULL.out, hpf.out]
          clear x1 x2 x3 x4 x5
          go_wp2_with fail
          go_roundw
          case rel => exact ⟨i + 1, by go_num, by omega, HNX, hA⟩
          case measure => simp [intOf]; omega
    · obtain rfl : i = n := by omega
      have HF : Hid (res = true) := by show _ = _; rw [HRES.out, hpf.out]
      go_wp2_with fail
      go_ret
      exact ⟨by rw [HF.out]; rfl, HA0.out.trans hA.out⟩
end Go.Proofs.Ytipmgfbncfkmiaa

namespace Go.Proofs.Ytipmgfbncfkmiaa
open Go.RowKit

set_option maxHeartbeats 2000000
set_option maxRecDepth 100000

theorem closedOf_pClosed (l : List UInt8) : Tm.pClosed l = (Tm.closedOf l).isSome := by
  unfold Tm.pClosed
  cases hp : Tm.parse l with
  | none => simp [Tm.closedOf, hp]
  | some t =>
    rw [closed_if hp]
    by_cases h0 : (t.names []).length = 0
    · rw [if_pos h0]; simp [List.length_eq_zero_iff.1 h0]
    · rw [if_neg h0]
      have : t.names [] ≠ [] := fun e => h0 (by rw [e]; rfl)
      simp [this]

theorem spec_trackIs (w : World) (s1 s2 s3 : Value) (a b : List (List (List UInt8))) (ls : List Int) (l : List UInt8) (h1 : SSU 0 w s1 a) (h2 : SSU 0 w s2 b) (hl1 : Lens 1048576 a) (hl2 : Lens 1048576 b) (h3 : RowU 0 w s3 ls.length (fun j => .int .i64 (ls.getD j 0))) (hll : ls.length ≤ 1000000000) (hl : l.length ≤ 1000000000) :
    Calls Try.prog 56 #[.agg #[s1], .agg #[s2], s3, str l] w fun e w' => e = .returned (.bool (Asm.pTrackIs a b ls l)) ∧ After w w' := by
  have hm := fun W (hW : After w W) => s_map W s1 s2 s3 a b ls (h1.later hW) (h2.later hW) hl1 hl2 (RowU.later h3 hW) hll
  have hc := fun W => spec_closed W l hl
  have ht := fun W t (hW : After w W) => s_track W s1 s2 s3 a b ls l t (h1.later hW) (h2.later hW) hl1 hl2 (RowU.later h3 hW) hl
  obtain ⟨p1, k1, rfl⟩ := h1.form
  obtain ⟨p2, k2, rfl⟩ := h2.form
  obtain ⟨p3, k3, rfl, _⟩ := h3
  obtain ⟨os, hos⟩ : ∃ os : List Obj, os = [.cells #[.slice p1 a.length k1] 58, .cells #[.slice p2 b.length k2] 58] := ⟨_, rfl⟩
  have hX : allocL w os = (w.alloc (.cells #[.slice p1 a.length k1] 58)).alloc (.cells #[.slice p2 b.length k2] 58) := by rw [hos]; rfl
  have hA0 : After w (allocL w os) := allocL_below w os
  have hba : (allocL w os).heap[w.heap.size]? = some (.cells #[.slice p1 a.length k1] 58 (0, 0)) := by have := allocL_heap w os 0 (by rw [hos]; simp); simpa [hos] using this
  have hbb : (allocL w os).heap[w.heap.size + 1]? = some (.cells #[.slice p2 b.length k2] 58 (0, 0)) := by have := allocL_heap w os 1 (by rw [hos]; simp); simpa [hos] using this
  rw [hX] at hA0 hba hbb
  rw [closedOf_pClosed] at hc
  obtain ⟨res, hres⟩ : ∃ res, res = Asm.pTrackIs a b ls l := ⟨_, rfl⟩
  rw [← hres]
  have HRES : Hid (res = (Asm.mapOk a b ls && (match Tm.closedOf l with
    | some t => Asm.trks t a b (Asm.nats ls) a.length
    | none => false))) := hres
  have HA0 := Lib.hid hA0
  have hm0 := hm _ hA0
  have hx1 : ∀ W, After ((w.alloc (.cells #[.slice p1 a.length k1] 58)).alloc (.cells #[.slice p2 b.length k2] 58)) W → W.cell? ⟨w.heap.size, 0, none⟩ = some (.slice p1 a.length k1) := fun W hW => (one_facts hba hW).1
  have hx2 : ∀ W, After ((w.alloc (.cells #[.slice p1 a.length k1] 58)).alloc (.cells #[.slice p2 b.length k2] 58)) W → W.cell? ⟨w.heap.size + 1, 0, none⟩ = some (.slice p2 b.length k2) := fun W hW => (one_facts hbb hW).1
  have hself := After.refl ((w.alloc (.cells #[.slice p1 a.length k1] 58)).alloc (.cells #[.slice p2 b.length k2] 58))
  have y1 := hx1 _ hself
  have y2 := hx2 _ hself
  clear hm hX hos hA0 hres hba hbb
  cases hok : Asm.mapOk a b ls with
  | false =>
    have HF : Hid (res = false) := by show _ = _; rw [HRES.out, hok]; rfl
    rw [hok] at hm0
    clear hok HRES ht hc hx1 hx2 hself
    generalize a.length = n at *
    generalize b.length = m at *
    generalize ls.length = q at *
    go_enter Try.func56, Try.ntmps56
    go_wp2_with fail
    refine hm0.mono ?_
    rintro e w1 ⟨rfl, hb1⟩
    go_wp2_with fail
    go_ret
    exact ⟨by rw [HF.out]; rfl, HA0.out.trans hb1⟩
  | true =>
    have hoks := hok
    simp only [Asm.mapOk, Bool.and_eq_true, decide_eq_true_eq] at hoks
    obtain ⟨⟨hoa, hob⟩, hlen, hrng⟩ := hoks
    obtain ⟨a1, a2, a3⟩ := Asm.ok_facts hoa
    rw [hok] at hm0
    cases hcl : Tm.closedOf l with
    | none =>
      have HF : Hid (res = false) := by show _ = _; rw [HRES.out, hok, hcl]; rfl
      rw [hcl] at hc
      clear hok HRES ht hoa hob hlen hrng a1 a2 a3 hcl hx1 hx2 hself
      generalize a.length = n at *
      generalize b.length = m at *
      generalize ls.length = q at *
      go_enter Try.func56, Try.ntmps56
      go_wp2_with fail
      refine hm0.mono ?_
      rintro e w1 ⟨rfl, hb1⟩
      go_wp2_with fail
      refine (hc _).mono ?_
      rintro e w2 ⟨rfl, hb2⟩
      go_wp2_with fail
      go_ret
      exact ⟨by rw [HF.out]; rfl, (HA0.out.trans hb1).trans hb2⟩
    | some t =>
      have hR2 : res = Asm.trks t a b (Asm.nats ls) a.length := by rw [HRES.out, hok, hcl]; rfl
      rw [hcl] at hc
      have hr : ∀ j, j < ls.length → 0 ≤ ls.getD j 0 ∧ ls.getD j 0 < (b.length : Int) := fun j hj => Asm.rng_at hrng hj
      have hz : ∀ i k, i < a.length → k < (a.getD i []).length → (Asm.rz ((a.getD i []).getD k [])).isSome = true := fun i k hi hk => a3 i k hi hk
      have ht2 := fun W hW => ht W t hW hcl hlen hr hz
      rw [← hR2] at ht2
      have HT2 := Lib.hid ht2
      have HX1 := Lib.hid hx1
      have HX2 := Lib.hid hx2
      clear hok HRES ht hoa hob hlen hrng a1 a2 a3 hcl ht2 hr hz hR2 hx1 hx2
      generalize a.length = n at *
      generalize b.length = m at *
      generalize ls.length = q at *
      go_enter Try.func56, Try.ntmps56
      go_wp2_with fail
      refine hm0.mono ?_
      rintro e w1 ⟨rfl, hb1⟩
      clear y1 y2
      have y1 := HX1.out _ hb1
      have y2 := HX2.out _ hb1
      go_wp2_with fail
      refine (hc _).mono ?_
      rintro e w2 ⟨rfl, hb2⟩
      clear y1 y2
      have y1 := HX1.out _ (hb1.trans hb2)
      have y2 := HX2.out _ (hb1.trans hb2)
      go_wp2_with fail
      refine (HT2.out _ ((HA0.out.trans hb1).trans hb2)).mono ?_
      rintro e w3 ⟨rfl, hb3⟩
      cases res
      all_goals
        go_wp2_with fail
        go_ret
        exact ⟨rfl, ((HA0.out.trans hb1).trans hb2).trans hb3⟩
end Go.Proofs.Ytipmgfbncfkmiaa
