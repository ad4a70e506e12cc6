/-
  The model's l3Size and l3Total.
-/
import Derived.Test.YtjomocjlnjgkeaaGreatPkBH
import Derived.Test.YtjomocjlnjgkeaaGreatPkBE
import Derived.Test.YtjomocjlnjgkeaaGreatPkAP
import Derived.Test.YtjomocjlnjgkeaaGreatPkAQ
namespace Go.Proofs.YtjomocjlnjgkeaaGreat
open Go.RowKit

set_option maxHeartbeats 1000000
set_option maxRecDepth 100000

theorem FT.total_parts (t : FT) : FT.total t = (allL (FT.partsOf t) (FT.partsOf t).length && (FT.atomOf t != [109])) := by
  cases t <;> simp [FT.total, FT.partsOf, FT.atomOf, allL, Bool.and_assoc, show (([99] : List UInt8) != [109]) = true from rfl, show (([114] : List UInt8) != [109]) = true from rfl]

theorem part_lt (t : FT) (k : Nat) (h : k < (FT.partsOf t).length) : FT.size (FT.partsOf t)[k] < FT.size t := by
  have h1 := FT.size_parts t
  have h2 : FT.size (FT.partsOf t)[k] ≤ ((FT.partsOf t).map FT.size).sum := le_sum (List.mem_map.2 ⟨_, List.getElem_mem h, rfl⟩)
  omega

theorem s_fsize : ∀ (N : Nat) (t : FT) (w : World) (B : Nat) (v : Value), FT.size t ≤ N → FT.size t ≤ 100000 → SF w B t v → Calls Tryz.prog 41 #[v] w (IntPost w (FT.size t : Nat)) := by
  intro N
  induction N with
  | zero => intro t w B v h; have := FT.size_pos t; omega
  | succ N ih =>
    intro t w B v hN hz hS
    obtain ⟨sv, rfl, hk⟩ := hS.kids
    obtain ⟨ao, cap, rfl⟩ := hk.form
    have hsz := FT.size_parts t
    have hlt := fun k h => part_lt t k h
    clear hS
    generalize FT.partsOf t = ps at *
    have hlen : ps.length ≤ 100000 := by
      have : ps.length ≤ (ps.map FT.size).sum := by
        clear hsz hlt hk
        induction ps with
        | nil => simp
        | cons f ps ih => have := FT.size_pos f; simp only [List.length_cons, List.map_cons, List.sum_cons]; omega
      omega
    obtain ⟨P, hP⟩ : ∃ P, P = ps.length := ⟨_, rfl⟩
    rw [← hP] at hlen ⊢
    obtain ⟨W1, hW1⟩ : ∃ W1, W1 = w.alloc (.cells #[str (FT.atomOf t), .slice ao P cap, .int .i64 (FT.arity t : Nat)] 63 (0, 0)) := ⟨_, rfl⟩
    have a1 : After w W1 := by rw [hW1]; exact After.new _ _
    have hh := heap_top w (.cells #[str (FT.atomOf t), .slice ao P cap, .int .i64 (FT.arity t : Nat)] 63 (0, 0))
    rw [← hW1] at hh
    have b1 : ∀ W, After W1 W → W.cell? ⟨w.heap.size, 1, none⟩ = some (.slice ao P cap) := fun W hW => cell_later' (cell_of_heap (i := 1) hh) W hW
    have HPL := Lib.hid hP
    have HK := Lib.hid (hk.after a1)
    have HIH := Lib.hid ih
    have HLT := Lib.hid hlt
    have HSZ := Lib.hid hsz
    have HW1 := Lib.hid hW1
    have hself := After.refl W1
    clear hk hP hW1 hh ih hlt hsz
    go_enter Tryz.func41, Tryz.ntmps41
    go_wp2_with fail
    rw [← HW1.out]
    go_loopw [3, 4] (fun n i wr => ∃ k : Nat, i = .int .i64 k ∧ k ≤ P ∧ n = .int .i64 ((1 + sumL ps k : Nat) : Int) ∧ After W1 wr) (fun _ i _ => P - (intOf i).toNat)
    case atStart => exact ⟨0, rfl, by omega, rfl, hself⟩
    case round =>
      obtain ⟨k, rfl, hkP, rfl, hr⟩ := hrel
      have c1 := b1 _ hr
      by_cases hlt : k < P
      · have hkl : k < ps.length := by rw [← HPL.out]; exact hlt
        obtain ⟨b, cap', ao1, n1, c1', hsv, hc0, hc1, hc2, hkid, _⟩ := (HK.out.after hr).at k hkl
        injection hsv with e1 e2 e3
        subst e1
        clear e2 e3
        have hcall := HIH.out ps[k] wr B _ (by have := HLT.out k hkl; omega) (by have := HLT.out k hkl; omega) hkid
        have hs2 := sumL_succ ps k hkl
        have hs3 := sumL_le ps (k + 1)
        have hs4 : (ps.map FT.size).sum ≤ 100000 := by have := HSZ.out; omega
        rw [hs2] at hs3
        have HS2 := Lib.hid hs2
        clear hkid hs2
        generalize FT.size ps[k] = zk at *
        generalize hsk : sumL ps k = sk at *
        go_wp2_with fail
        refine hcall.mono ?_
        rintro e w1 ⟨rfl, hb1⟩
        clear hcall
        go_wp2_with fail
        go_roundw
        case rel => exact ⟨k + 1, by go_num, by omega, by rw [HS2.out]; go_num, hr.trans hb1⟩
        case measure => simp [intOf]; omega
      · obtain rfl : k = P := by omega
        have HF := Lib.hid (show 1 + sumL ps k = FT.size t by rw [HSZ.out, HPL.out]; simp [sumL])
        go_wp2_with fail
        go_ret
        exact ⟨by rw [← HF.out]; rfl, a1.trans hr⟩

end Go.Proofs.YtjomocjlnjgkeaaGreat

namespace Go.Proofs.YtjomocjlnjgkeaaGreat
open Go.RowKit

set_option maxHeartbeats 4000000
set_option maxRecDepth 100000

def S3Fn (w : World) (l : List UInt8) (e : Ending) (w' : World) : Prop :=
  ∃ s ao n c a, e = .returned (.tuple #[.agg #[str s, .slice ao n c, .int .i64 a], .bool (FT.parse l).isSome]) ∧ After w w' ∧ ∀ t, FT.parse l = some t → SF w' w.heap.size t (.agg #[str s, .slice ao n c, .int .i64 a])

theorem mparts_up {rd : Nat → Option (FT × Nat)} {l : List UInt8} (hrd : ∀ i t j, rd i = some (t, j) → FT.size t + i ≤ j) :
    ∀ (n i : Nat) (acc ps : List FT) (j : Nat), FT.mparts rd l n i acc = some (ps, j) → (ps.map FT.size).sum + i ≤ j + (acc.map FT.size).sum
  | 0, _, _, _, _, h => by simp [FT.mparts] at h
  | n + 1, i, acc, ps, j, h => by
    simp only [FT.mparts] at h
    split at h
    · cases hr : rd (i + 1) with
      | none => rw [hr] at h; simp at h
      | some q =>
        obtain ⟨t, k⟩ := q
        rw [hr] at h
        simp only at h
        have h1 := hrd _ _ _ hr
        have h2 := mparts_up hrd n k (acc ++ [t]) ps j h
        rw [FT.sum_app] at h2
        omega
    · simp only [Option.some.injEq, Prod.mk.injEq] at h
      obtain ⟨rfl, rfl⟩ := h
      omega

theorem mread_up (l : List UInt8) : ∀ (d i : Nat) (t : FT) (j : Nat), FT.mread l d i = some (t, j) → FT.size t + i ≤ j
  | 0, _, _, _, h => by simp [FT.mread] at h
  | d + 1, i, t, j, h => by
    have hcopy := h
    simp only [FT.mread] at h
    split at h
    · cases h
    · rename_i hlt
      split at h
      · cases hm : FT.mparts (FT.mread l d) l (l.length + 1) (Tm.atomEnd l (i + 1)) [] with
        | none => rw [hm] at h; simp at h
        | some q =>
          obtain ⟨ps, k⟩ := q
          rw [hm] at h
          simp only at h
          have h1 := mparts_up (mread_up l d) _ _ _ _ _ hm
          have h2 := FT.atomEnd_ge l (i + 1)
          split at h
          · cases hc : FT.comb (FT.sl l (i + 1) (Tm.atomEnd l (i + 1))) ps with
            | none => rw [hc] at h; simp at h
            | some u =>
              rw [hc] at h
              simp only [Option.some.injEq, Prod.mk.injEq] at h
              obtain ⟨rfl, rfl⟩ := h
              have := FT.pread_m.comb_size hc
              simp at h1
              omega
          · cases h
      · have h3 := (FT.mread_facts l (d + 1) i t j (by omega) hcopy).2.1
        cases hw : FT.word (FT.sl l i (Tm.atomEnd l i)) with
        | none => rw [hw] at h; simp at h
        | some u =>
          rw [hw] at h
          simp only [Option.some.injEq, Prod.mk.injEq] at h
          obtain ⟨rfl, rfl⟩ := h
          have := (FT.word_facts hw).2.1
          omega

theorem SF.sets {W : World} {B B' q : Nat} {t : FT} {v : Value} (h : SF W B t v) (hq : B' ≤ B) (hqe : q < B) (x y z : Value) : SF (((W.setCell ⟨q, 0, none⟩ x).setCell ⟨q, 1, none⟩ y).setCell ⟨q, 2, none⟩ z) B' t v :=
  h.move hq (fun b hb _ => set3_heap W q b x y z (by omega))

theorem s_function (w : World) (l : List UInt8) (hl : l.length ≤ 1000000000) :
    Calls Tryz.prog 35 #[str l] w (S3Fn w l) := by
  have hsz : (⟨l.toArray⟩ : ByteArray).size = l.length := by show l.toArray.size = _; simp
  have hp : FT.parse l = FT.mfun l := FT.parse_eq l
  by_cases hbig : 400 < l.length
  · have H := Lib.hid (show FT.parse l = none by rw [hp]; unfold FT.mfun; rw [if_pos hbig])
    have hbi : (400 : Int) < (l.length : Int) := by omega
    clear hp
    go_enter Tryz.func35, Tryz.ntmps35
    go_wp2_with fail
    exact bodyPost_ret (v := .tuple #[.agg #[.string ⟨#[]⟩, .slice none 0 0, .int .i64 0], .bool false]) (by simp [results, Tryz.results35, go_sem]) rfl
      ⟨[], none, 0, 0, 0, by rw [H.out]; rfl, After.new _ _, fun t he => by rw [H.out] at he; simp at he⟩
  · have hcall : ∀ W, Calls Tryz.prog 71 #[str l, .int .i64 0, .int .i64 0] W (S3Post W (FT.mread l 41 0)) := fun W => s_fread l (by omega) 41 0 0 W (by omega) (by omega) (Nat.zero_le _)
    have hp2 : FT.parse l = match FT.mread l 41 0 with | some (t, j) => if j = l.length ∧ FT.size t ≤ 40 then some t else none | none => none := by
      rw [hp]; unfold FT.mfun; rw [if_neg hbig]; rfl
    have hbi : ¬ (400 : Int) < (l.length : Int) := by omega
    clear hp
    cases hq : FT.mread l 41 0 with
    | none =>
      have H := Lib.hid (show FT.parse l = none by rw [hp2, hq])
      have hpl : place3 none = -1 := rfl
      rw [hq] at hcall
      have hne : ((-1 : Int) == (l.length : Int)) = false := by rw [beq_eq_false_iff_ne]; omega
      clear hp2 hq
      go_enter Tryz.func35, Tryz.ntmps35
      go_wp2_with fail
      refine (hcall _).mono ?_
      rintro e w1 ⟨s1, ao1, n1, c1, a1, rfl, hb1, ht1⟩
      clear ht1 hcall
      obtain ⟨r0, r1, r2, f0, f1, f2, hz⟩ := box3 hb1
      go_wp2_with fail
      go_region
      go_wp2_with fail
      exact bodyPost_ret (v := .tuple #[.agg #[str s1, .slice ao1 n1 c1, .int .i64 a1], .bool false]) (by simp [results, Tryz.results35, go_sem, r0, r1, r2, hz]) rfl
        ⟨s1, ao1, n1, c1, a1, by rw [H.out]; rfl, After.drew (After.alloc (After.set3 hb1 _ _ _) _), fun t he => by rw [H.out] at he; simp at he⟩
    | some p =>
      obtain ⟨t, j⟩ := p
      obtain ⟨hok, _, hj, hj4⟩ := FT.mread_facts l 41 0 t j (Nat.zero_le _) hq
      have hpl : place3 (some (t, j)) = (j : Int) := rfl
      have hz3 : FT.size t ≤ 100000 := by have := mread_up l 41 0 t j hq; omega
      rw [hq] at hcall hp2
      simp only at hp2
      by_cases hjl : j = l.length
      · subst hjl
        by_cases h3 : FT.size t ≤ 40
        · have H := Lib.hid (show FT.parse l = some t by rw [hp2]; simp [h3])
          have h3' : (FT.size t : Int) ≤ 40 := by omega
          clear hp2 hq
          go_enter Tryz.func35, Tryz.ntmps35
          go_wp2_with fail
          refine (hcall _).mono ?_
          rintro e w1 ⟨s1, ao1, n1, c1, a1, rfl, hb1, ht1⟩
          have hst := Lib.hid (ht1 t _ rfl)
          clear ht1 hcall
          obtain ⟨r0, r1, r2, f0, f1, f2, hz⟩ := box3 hb1
          have hal := After.new w1 (.cells #[str s1, .slice ao1 n1 c1, .int .i64 a1] 63)
          go_wp2_with fail
          go_region_with (go_at_call 41; refine (s_fsize _ t _ _ _ (Nat.le_refl _) hz3 (SF.after hst.out hal.drew)).mono ?_; rintro e w2 ⟨rfl, hb2⟩; have hb3 := (hb1.trans hal.drew).trans hb2; obtain ⟨p0, p1, p2, p3, p4, p5, p6⟩ := box3 hb3; obtain ⟨q0, q1, q2, q3, q4, q5, q6⟩ := box3 ((After.refl (w1.alloc (.cells #[str s1, .slice ao1 n1 c1, .int .i64 a1] 63))).drew.trans hb2); have hne : w1.heap.size ≠ w.heap.size := by omega)
          all_goals
            go_wp2_with fail
            exact bodyPost_ret (v := .tuple #[.agg #[str s1, .slice ao1 n1 c1, .int .i64 a1], .bool true]) (by simp [results, Tryz.results35, go_sem, p0, p1, p2]) rfl
              ⟨s1, ao1, n1, c1, a1, by rw [H.out]; rfl, After.set3 hb3 _ _ _, fun t' he => by
                rw [H.out] at he
                obtain rfl := Option.some.inj he
                exact (SF.after hst.out (hal.drew.trans hb2)).sets (by simp) (by simp) _ _ _⟩
        · have H := Lib.hid (show FT.parse l = none by rw [hp2]; simp [h3])
          have h3' : (40 : Int) < (FT.size t : Int) := by omega
          clear hp2 hq
          go_enter Tryz.func35, Tryz.ntmps35
          go_wp2_with fail
          refine (hcall _).mono ?_
          rintro e w1 ⟨s1, ao1, n1, c1, a1, rfl, hb1, ht1⟩
          have hst := Lib.hid (ht1 t _ rfl)
          clear ht1 hcall
          obtain ⟨r0, r1, r2, f0, f1, f2, hz⟩ := box3 hb1
          have hal := After.new w1 (.cells #[str s1, .slice ao1 n1 c1, .int .i64 a1] 63)
          go_wp2_with fail
          go_region_with (go_at_call 41; refine (s_fsize _ t _ _ _ (Nat.le_refl _) hz3 (SF.after hst.out hal.drew)).mono ?_; rintro e w2 ⟨rfl, hb2⟩; have hb3 := (hb1.trans hal.drew).trans hb2; obtain ⟨p0, p1, p2, p3, p4, p5, p6⟩ := box3 hb3; obtain ⟨q0, q1, q2, q3, q4, q5, q6⟩ := box3 ((After.refl (w1.alloc (.cells #[str s1, .slice ao1 n1 c1, .int .i64 a1] 63))).drew.trans hb2); have hne : w1.heap.size ≠ w.heap.size := by omega)
          all_goals
            go_wp2_with fail
            exact bodyPost_ret (v := .tuple #[.agg #[str s1, .slice ao1 n1 c1, .int .i64 a1], .bool false]) (by simp [results, Tryz.results35, go_sem, p0, p1, p2]; exact h3') rfl
              ⟨s1, ao1, n1, c1, a1, by rw [H.out]; rfl, After.set3 hb3 _ _ _, fun t' he => by rw [H.out] at he; simp at he⟩
      · have H := Lib.hid (show FT.parse l = none by rw [hp2]; simp [hjl])
        have hne : ((j : Int) == (l.length : Int)) = false := by rw [beq_eq_false_iff_ne]; omega
        clear hp2 hq
        go_enter Tryz.func35, Tryz.ntmps35
        go_wp2_with fail
        refine (hcall _).mono ?_
        rintro e w1 ⟨s1, ao1, n1, c1, a1, rfl, hb1, ht1⟩
        clear ht1 hcall
        obtain ⟨r0, r1, r2, f0, f1, f2, hz⟩ := box3 hb1
        go_wp2_with fail
        go_region
        go_wp2_with fail
        exact bodyPost_ret (v := .tuple #[.agg #[str s1, .slice ao1 n1 c1, .int .i64 a1], .bool false]) (by simp [results, Tryz.results35, go_sem, r0, r1, r2, hz]) rfl
          ⟨s1, ao1, n1, c1, a1, by rw [H.out]; rfl, After.drew (After.alloc (After.set3 hb1 _ _ _) _), fun t he => by rw [H.out] at he; simp at he⟩
end Go.Proofs.YtjomocjlnjgkeaaGreat

namespace Go.Proofs.YtjomocjlnjgkeaaGreat
open Go.RowKit

set_option maxHeartbeats 1000000
set_option maxRecDepth 100000

theorem str_size (l : List UInt8) : (⟨l.toArray⟩ : ByteArray).size = l.length := by show l.toArray.size = _; simp

end Go.Proofs.YtjomocjlnjgkeaaGreat
