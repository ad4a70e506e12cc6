/-
  The program's targets: its closure, the library's IndexFunc over ints with it.
-/
import Derived.Test.YtipmgfbncfkmiaaPkO
import Derived.Test.YtipmgfbncfkmiaaApN
import Derived.Test.YtipmgfbncfkmiaaPkY
import Derived.Lib.SliceRun
namespace Go.Proofs.Ytipmgfbncfkmiaa
open Go.RowKit

set_option maxHeartbeats 1000000
set_option maxRecDepth 100000

/-- The closure of targets: is element j without the text? -/
theorem targets1_any (w : World) (qa qt base : Nat) (sv : Value) (b : List (List (List UInt8))) (text : List UInt8) (h : RowA w base sv b) (hqa : w.cell? ⟨qa, 0, none⟩ = some sv) (hqt : w.cell? ⟨qt, 0, none⟩ = some (str text)) (j : Nat) (hj : j < b.length) (hn : (b.getD j []).length ≤ 1000000000) :
    Calls Try.prog 153 #[.int .i64 j, .pointer (some ⟨qa, 0, none⟩), .pointer (some ⟨qt, 0, none⟩)] w fun e w' => e = .returned (.bool (!decide (text ∈ b.getD j []))) ∧ After w w' := by
  obtain ⟨g, cap, ev, rfl, hc, he⟩ := h.at j hj
  have hcall := fun W (hW : After w W) => has_el W ev (b.getD j []) text (he.pairs.later hW) hn
  obtain ⟨ao, c, rfl⟩ := he.form
  have hjl : (j : Int) < (b.length : Int) := by omega
  have x1 : ∀ W, After w W → W.cell? ⟨qa, 0, none⟩ = some (.slice (some ⟨g, 0, none⟩) b.length cap) := fun W hW => hW.cell hqa
  have x2 : ∀ W, After w W → W.cell? ⟨qt, 0, none⟩ = some (str text) := fun W hW => hW.cell hqt
  have x3 : ∀ W, After w W → W.cell? ⟨g, j, none⟩ = some (.slice ao (b.getD j []).length c) := fun W hW => hW.cell hc
  have HCALL := Lib.hid hcall
  have hself := After.refl w
  clear h hqa hqt hc he hcall hn hj
  generalize decide (text ∈ b.getD j []) = r at *
  generalize (b.getD j []).length = k at *
  generalize b.length = n at *
  go_enter Try.func153, Try.ntmps153
  go_wp2_with fail
  go_region_held3 (fun W' => After w W') (first | assumption | exact hself.drew | go_keep)
    (first
      | (go_at_call 154
         have hd := hself.drew
         refine (HCALL.out _ (by first | assumption | exact hself.drew)).mono ?_
         rintro e w1 ⟨rfl, hb1⟩
         have hb1' := After.trans (by first | assumption | exact hself.drew) hb1))
  all_goals
    go_wp2_with fail
    go_ret
    exact ⟨rfl, hb1'⟩

theorem index_int (w : World) (g cap : Nat) (xs : List Nat) (P : Nat → Bool) (qa qt : Nat) (hn : xs.length ≤ 1000000) (hc : ∀ j, j < xs.length → w.cell? ⟨g, j, none⟩ = some (.int .i64 ((xs.getD j 0 : Nat) : Int)))
    (hcall : ∀ W, After w W → ∀ j, j < xs.length → Calls Try.prog 153 #[.int .i64 ((xs.getD j 0 : Nat) : Int), .pointer (some ⟨qa, 0, none⟩), .pointer (some ⟨qt, 0, none⟩)] W fun e w' => e = .returned (.bool (P (xs.getD j 0))) ∧ After W w') :
    Calls Try.prog 158 #[.slice (some ⟨g, 0, none⟩) xs.length cap, .func (.func 153) #[] #[.pointer (some ⟨qa, 0, none⟩), .pointer (some ⟨qt, 0, none⟩)]] w fun e w' =>
      (∃ r : Int, e = .returned (.int .i64 r) ∧ ((r = -1 ∧ ∀ j, j < xs.length → P (xs.getD j 0) = false) ∨ ∃ i : Nat, r = i ∧ i < xs.length ∧ P (xs.getD i 0) = true ∧ ∀ j, j < i → P (xs.getD j 0) = false)) ∧ After w w' := by
  obtain ⟨n, hnn⟩ : ∃ n, n = xs.length := ⟨_, rfl⟩
  rw [← hnn] at hn hc hcall ⊢
  have HC := Lib.hid hc
  have HCALL := Lib.hid hcall
  clear hc hcall hnn
  go_enter Try.func158, Try.ntmps158
  go_wp2_with fail
  go_loopw [8] (fun i wr => ∃ k : Nat, i = .int .i64 k ∧ k ≤ n ∧ Hid (∀ j, j < k → P (xs.getD j 0) = false) ∧ After w wr) (fun i _ => n - (intOf i).toNat)
  case atStart => exact ⟨0, rfl, Nat.zero_le _, by show ∀ j, _; exact fun j hj => absurd hj (Nat.not_lt_zero j), After.refl _⟩
  case round =>
    obtain ⟨k, rfl, hk, hall, hA⟩ := hrel
    by_cases hlt : k < n
    · have h1 := hA.cell (HC.out k hlt)
      have hcall := HCALL.out wr hA k hlt
      have hlt' : (k : Int) < (n : Int) := by omega
      obtain ⟨x, hx⟩ : ∃ x, x = xs.getD k 0 := ⟨_, rfl⟩
      obtain ⟨b, hb⟩ : ∃ b, b = P x := ⟨_, rfl⟩
      rw [← hx] at h1 hcall
      rw [← hb] at hcall
      have HB : Hid (P (xs.getD k 0) = b) := by show _ = _; rw [hb, hx]
      clear hx hb
      cases b with
      | true =>
        go_wp2_with fail
        refine hcall.mono ?_
        rintro e w1 ⟨rfl, hb1⟩
        go_wp2_with fail
        go_ret
        exact ⟨⟨k, rfl, Or.inr ⟨k, rfl, hlt, HB.out, hall.out⟩⟩, hA.trans hb1⟩
      | false =>
        go_wp2_with fail
        refine hcall.mono ?_
        rintro e w1 ⟨rfl, hb1⟩
        go_wp2_with fail
        go_roundw
        case rel =>
          refine ⟨k + 1, by go_num, by omega, ?_, hA.trans hb1⟩
          show ∀ j, _
          intro j hj
          by_cases e : j = k
          · rw [e]; exact HB.out
          · exact hall.out j (by omega)
        case measure => simp [intOf]; omega
    · obtain rfl : k = n := by omega
      go_wp2_with fail
      go_ret
      exact ⟨⟨-1, rfl, Or.inl ⟨rfl, hall.out⟩⟩, hA⟩

theorem own_cut {w : World} {base g n cap k : Nat} {E : TypeId} {vs : List Value} (h : w.ownsRow base E 1 (.slice (some ⟨g, 0, none⟩) n cap) n vs) (hk : k ≤ n) : w.ownsRow base E 1 (.slice (some ⟨g, 0, none⟩) k cap) k (vs.take k) := by
  have hl := h.1
  rcases h.2 with ⟨h', _⟩ | ⟨g', cap', cur, h', hb, hg, hnc, hcm, hcs, htake⟩
  · cases h'
  · simp only [Value.slice.injEq, Option.some.injEq, Addr.mk.injEq, and_true, true_and] at h'
    obtain ⟨rfl, rfl⟩ := h'
    refine ⟨by rw [List.length_take]; omega, Or.inr ⟨g, cap, cur, rfl, hb, hg, by omega, hcm, hcs, ?_⟩⟩
    rw [← htake, List.take_take]
    congr 1
    omega

theorem own_cells {base g n cap : Nat} {E : TypeId} (z : Value) : ∀ (m o : Nat) {w : World} {vs : List Value}, w.ownsRow base E 1 (.slice (some ⟨g, 0, none⟩) n cap) n vs → ∃ vs', (w.setCells g o (List.replicate m z)).ownsRow base E 1 (.slice (some ⟨g, 0, none⟩) n cap) n vs' ∧ vs'.take o = vs.take o ∧ w.grownBy (w.setCells g o (List.replicate m z)) (some g)
  | 0, o, w, vs, h => ⟨vs, h, rfl, ⟨rfl, rfl, rfl, Nat.le_refl _, fun _ _ _ => rfl⟩⟩
  | m + 1, o, w, vs, h => by
    obtain ⟨h1, g1⟩ := h.stored o z
    obtain ⟨vs', h2, h3, g2⟩ := own_cells z m (o + 1) h1
    refine ⟨vs', h2, ?_, ⟨g2.os.trans g1.os, g2.tape.trans g1.tape, g2.output.trans g1.output, Nat.le_trans g1.size g2.size, fun k hk hne => (g2.block k (Nat.lt_of_lt_of_le hk g1.size) hne).trans (g1.block k hk hne)⟩⟩
    have := congrArg (List.take o) h3
    rw [List.take_take, List.take_take, Nat.min_eq_left (by omega)] at this
    rw [this, List.take_set_of_le (by omega)]

/-- What a DeleteFunc keeps of the first j numbers. -/
def kept (P : Nat → Bool) (xs : List Nat) : List Nat := xs.filter fun x => !P x
def ints (xs : List Nat) : List Value := xs.map fun x => .int .i64 ((x : Nat) : Int)
theorem kept_none {P : Nat → Bool} {xs : List Nat} (h : ∀ j, j < xs.length → P (xs.getD j 0) = false) : kept P xs = xs := by
  rw [kept, List.filter_eq_self]
  intro x hx
  obtain ⟨j, hj, rfl⟩ := List.getElem_of_mem hx
  have := h j hj
  rw [List.getD, List.getElem?_eq_getElem hj] at this
  simp at this
  simp [this]
theorem kept_succ {P : Nat → Bool} {xs : List Nat} {j : Nat} (hj : j < xs.length) : kept P (xs.take (j + 1)) = kept P (xs.take j) ++ (if P (xs.getD j 0) = true then [] else [xs.getD j 0]) := by
  have : xs.getD j 0 = xs[j] := by simp [List.getD, hj]
  rw [List.take_succ_eq_append_getElem hj, kept, kept, List.filter_append, this]
  cases h : P xs[j] <;> simp [h]
theorem kept_le (P : Nat → Bool) (xs : List Nat) (j : Nat) : (kept P (xs.take j)).length ≤ j := Nat.le_trans (List.length_filter_le _ _) (by rw [List.length_take]; omega)
end Go.Proofs.Ytipmgfbncfkmiaa

namespace Go.Proofs.Ytipmgfbncfkmiaa
open Go.RowKit

set_option maxHeartbeats 2000000
set_option maxRecDepth 100000

theorem grown_after {w W : World} {row : Option Nat} (h : After w W) : w.grownBy W row := ⟨h.os, h.tape, h.output, h.size, fun k hk _ => h.block k hk⟩
theorem ints_at {xs : List Nat} {j : Nat} (hj : j < xs.length) : (ints xs)[j]? = some (.int .i64 ((xs.getD j 0 : Nat) : Int)) := by
  have : xs.getD j 0 = xs[j] := by simp [List.getD, hj]
  rw [ints, List.getElem?_map, List.getElem?_eq_getElem hj, this]
  rfl

theorem del_any (w : World) (base g cap : Nat) (xs : List Nat) (P : Nat → Bool) (qa qt : Nat) (hn : xs.length ≤ 1000000) (hown : w.ownsRow base 3 1 (.slice (some ⟨g, 0, none⟩) xs.length cap) xs.length (ints xs))
    (hcall : ∀ W, w.grownBy W (some g) → ∀ j, j < xs.length → Calls Try.prog 153 #[.int .i64 ((xs.getD j 0 : Nat) : Int), .pointer (some ⟨qa, 0, none⟩), .pointer (some ⟨qt, 0, none⟩)] W fun e w' => e = .returned (.bool (P (xs.getD j 0))) ∧ After W w') :
    Calls Try.prog 152 #[.slice (some ⟨g, 0, none⟩) xs.length cap, .func (.func 153) #[] #[.pointer (some ⟨qa, 0, none⟩), .pointer (some ⟨qt, 0, none⟩)]] w fun e w' =>
      e = .returned (.slice (some ⟨g, 0, none⟩) (kept P xs).length cap) ∧ w'.ownsRow base 3 1 (.slice (some ⟨g, 0, none⟩) (kept P xs).length cap) (kept P xs).length (ints (kept P xs)) ∧ w.grownBy w' (some g) := by
  have hcap : xs.length ≤ cap ∧ cap ≤ 9223372036854775807 := by
    rcases hown.2 with ⟨h, _⟩ | ⟨g', cp, cur, h, _, _, h1, h2, _⟩
    · cases h
    · simp only [Value.slice.injEq, Option.some.injEq, Addr.mk.injEq, and_true, true_and] at h
      obtain ⟨_, rfl⟩ := h
      unfold maxLen at h2
      exact ⟨h1, h2⟩
  have hidx := index_int w g cap xs P qa qt hn (fun j hj => (hown.cellAt j (by omega)).trans (ints_at hj)) (fun W hW j hj => hcall W (grown_after hW) j hj)
  have hks := fun j (hj : j < xs.length) => kept_succ (P := P) hj
  have hkl := kept_le P xs
  have hkf : kept P (xs.take xs.length) = kept P xs := by rw [List.take_length]
  have hkn := kept_none (P := P) (xs := xs)
  have hkt : ∀ i, i ≤ xs.length → (∀ j, j < i → P (xs.getD j 0) = false) → kept P (xs.take i) = xs.take i := fun i hi h => kept_none (fun j hj => by
    have hj' : j < i := by rw [List.length_take] at hj; omega
    have e : (xs.take i).getD j 0 = xs.getD j 0 := by simp [List.getD, hj']
    rw [e]
    exact h j hj')
  have hat : ∀ j, j < xs.length → (ints xs)[j]? = some (.int .i64 ((xs.getD j 0 : Nat) : Int)) := fun j hj => ints_at hj
  have htl : ∀ i, i ≤ xs.length → (xs.take i).length = i := fun i hi => by rw [List.length_take]; omega
  obtain ⟨n, hnn⟩ : ∃ n, n = xs.length := ⟨_, rfl⟩
  have hpre : ∀ i, i ≤ xs.length → (ints xs).take i = ints (xs.take i) := fun i _ => by rw [ints, ints, List.map_take]
  rw [← hnn] at hn hcap hidx hcall hks hkf hkn hkt hat htl hpre hown ⊢
  have HCALL := Lib.hid hcall
  have HKS := Lib.hid hks
  have HKL := Lib.hid hkl
  have HKF := Lib.hid hkf
  have HKN := Lib.hid hkn
  have HKT := Lib.hid hkt
  have HAT := Lib.hid hat
  have HTL := Lib.hid htl
  have HPRE := Lib.hid hpre
  have HOWN := Lib.hid hown
  have HNN := Lib.hid hnn
  clear hcall hks hkl hkf hkn hkt hat htl hpre hown hnn
  obtain ⟨hcap1, hcap2⟩ := hcap
  go_enter Try.func152, Try.ntmps152
  go_wp2_with fail
  refine hidx.mono ?_
  rintro e w1 ⟨⟨r, rfl, hr⟩, hb1⟩
  clear hidx
  rcases hr with ⟨rfl, hall⟩ | ⟨i, rfl, hi, hpi, hall⟩
  · have HALL : Hid (kept P xs = xs) := HKN.out hall
    clear hall
    go_wp2_with fail
    go_ret
    rw [HALL.out, ← HNN.out]
    exact ⟨rfl, own_later HOWN.out hb1, grown_after hb1⟩
  · have hk1 : kept P (xs.take (i + 1)) = xs.take i := by rw [HKS.out i hi, if_pos hpi, List.append_nil, HKT.out i (by omega) hall]
    have hk1l : (kept P (xs.take (i + 1))).length = i := by rw [hk1, HTL.out i (by omega)]
    have HST1 : Hid (i = (kept P (xs.take (i + 1))).length) := hk1l.symm
    have HST2 : Hid ((ints xs).take i = ints (kept P (xs.take (i + 1)))) := by show _ = _; rw [hk1]; exact HPRE.out i (by omega)
    have HO1 := Lib.hid (own_later HOWN.out hb1)
    have HG1 : Hid (w.grownBy w1 (some g)) := grown_after hb1
    have hi1 : ((i : Int) == -1) = false := by rw [beq_eq_false_iff_ne]; omega
    clear hk1 hk1l hpi hall hb1
    go_wp2_with fail
    go_loopw [5, 6] (fun i j wr => ∃ (jj k : Nat) (vs : List Value), i = .int .i64 k ∧ j = .int .i64 jj ∧ jj ≤ n ∧ k < jj ∧ Hid (k = (kept P (xs.take jj)).length) ∧ Hid (wr.ownsRow base 3 1 (.slice (some ⟨g, 0, none⟩) n cap) n vs) ∧ Hid (vs.take k = ints (kept P (xs.take jj))) ∧ Hid (∀ t, jj ≤ t → t < n → vs[t]? = some (.int .i64 ((xs.getD t 0 : Nat) : Int))) ∧ Hid (w.grownBy wr (some g))) (fun _ j _ => n - (intOf j).toNat)
    case atStart => exact ⟨i + 1, i, ints xs, rfl, by go_num, by omega, by omega, HST1, HO1, HST2, by show ∀ t, _; exact fun t _ ht => HAT.out t ht, HG1⟩
    case round =>
      obtain ⟨j, k, vs, rfl, rfl, hj, hkj, hk, hrow, hpre, hsuf, hgr⟩ := hrel
      clear HST1 HST2 HO1 HG1
      by_cases hlt : j < n
      · have h1 : wr.cell? ⟨g, j, none⟩ = _ := (hrow.out.cellAt j (by omega)).trans (hsuf.out j (Nat.le_refl _) hlt)
        have hcall := HCALL.out wr hgr.out j hlt
        have hks := HKS.out j hlt
        have hlt' : (j : Int) < (n : Int) := by omega
        obtain ⟨x, hx⟩ : ∃ x, x = xs.getD j 0 := ⟨_, rfl⟩
        obtain ⟨b, hb⟩ : ∃ b, b = P x := ⟨_, rfl⟩
        rw [← hx] at h1 hcall hks
        rw [← hb] at hcall hks
        have HKS2 := Lib.hid hks
        clear hx hb hks
        cases b with
        | true =>
          go_wp2_with fail
          refine hcall.mono ?_
          rintro e w2 ⟨rfl, hb2⟩
          clear hcall h1
          go_wp2_with fail
          go_roundw
          case rel =>
            have e : kept P (xs.take (j + 1)) = kept P (xs.take j) := by rw [HKS2.out]; simp
            exact ⟨j + 1, k, vs, rfl, by go_num, by omega, by omega, by show _ = _; rw [e]; exact hk.out, by show World.ownsRow _ _ _ _ _ _ _; exact own_later hrow.out hb2, by show _ = _; rw [e]; exact hpre.out, by show ∀ t, _; exact fun t ht => hsuf.out t (by omega), by show World.grownBy _ _ _; exact grown_trans hgr.out (grown_after hb2)⟩
          case measure => simp [intOf]; omega
        | false =>
          go_wp2_with fail
          refine hcall.mono ?_
          rintro e w2 ⟨rfl, hb2⟩
          have hrow2 := own_later hrow.out hb2
          have hvl : vs.length = n := by have := hrow2.1; omega
          obtain ⟨old, hold⟩ : ∃ old, vs[k]? = some old := ⟨_, List.getElem?_eq_getElem (by omega)⟩
          have h2 := (hrow2.cellAt k (by omega)).trans hold
          have h3 := hrow2.frozenAt k
          have hkn' : (k : Int) < (n : Int) := by omega
          have hst := hrow2.stored k (.int .i64 ((x : Nat) : Int))
          have HR2 := Lib.hid hst.1
          have HG2 := Lib.hid (grown_trans (grown_trans hgr.out (grown_after hb2)) hst.2)
          have HVL := Lib.hid hvl
          clear hcall h1 hst hrow2 hold hvl
          go_wp2_with fail
          go_roundw
          case rel =>
            have e : kept P (xs.take (j + 1)) = kept P (xs.take j) ++ [x] := by rw [HKS2.out]; simp
            refine ⟨j + 1, k + 1, vs.set k (.int .i64 ((x : Nat) : Int)), by go_num, by go_num, by omega, by omega, ?_, HR2, ?_, ?_, HG2⟩
            · show _ = _
              rw [e, List.length_append, ← hk.out]; rfl
            · show _ = _
              have hvl := HVL.out
              rw [e, ints, List.map_append, ← ints, ← hpre.out, List.take_succ_eq_append_getElem (by rw [List.length_set]; omega), List.take_set_of_le (Nat.le_refl _)]
              simp
            · show ∀ t, _
              intro t ht1 ht2
              rw [List.getElem?_set_ne (by omega)]
              exact hsuf.out t (by omega) ht2
          case measure => simp [intOf]; omega
      · obtain rfl : j = n := by omega
        have hkz : (k : Int) ≤ (j : Int) := by omega
        have hrw := hrow.out
        have hvl : vs.length = j := by have := hrw.1; omega
        have hcl : ∀ ty, (Builtin.clear_ #[55] ty #[.slice (some ⟨g, k, none⟩) (j - k) (cap - k)]).run Try.prog wr = .ok (.tuple #[]) (wr.setCells g k (List.replicate (j - k) (.int .i64 0))) :=
          fun ty => Lib.run_clear_slice wr _ _ ty _ Try.underlying55 (fun w => by kernel_rfl) rfl rfl g k _ _ (by omega) (fun q hq => by rw [hrw.cellAt (k + q) (by omega), List.getElem?_eq_getElem (by omega)]; rfl) (fun q hq => hrw.frozenAt (k + q))
        obtain ⟨vs', h1, h2, h3⟩ := own_cells (.int .i64 0) (j - k) k hrw
        have HO := Lib.hid (own_cut h1 (k := k) (by omega))
        have HT := Lib.hid (h2.trans hpre.out)
        have HG := Lib.hid (grown_trans hgr.out h3)
        have HKk : Hid ((kept P xs).length = k) := by show _ = _; rw [← HKF.out]; exact hk.out.symm
        clear hrw hvl h1 h2 h3 hsuf
        go_wp2_with fail
        go_ret
        rw [HKk.out]
        refine ⟨rfl, ?_, HG.out⟩
        have := HO.out
        rw [HT.out, HKF.out] at this
        exact this
end Go.Proofs.Ytipmgfbncfkmiaa
