/-
  Plain mathematics of the promise of sums of assemblies.
-/
import Derived.Test.YtidpkmkhcomcdaaGreatPkJ
namespace Go.Proofs.YtidpkmkhcomcdaaGreat
open Go.RowKit

set_option maxHeartbeats 1000000
set_option maxRecDepth 100000

namespace Asm
theorem tm_k : tmOf (Tm.text .k) = .k := by kernel_rfl
theorem tm_no : tmOf (Tm.text Tm.no) = Tm.no := by kernel_rfl

def pairT (c : Txt) : Txt := 40 :: (Tm.pairC.text ++ 32 :: (c ++ [41]))
theorem closed_pk : Tm.closedOf (pairT (Tm.text .k)) = some (.app Tm.pairC .k) := by kernel_rfl
theorem closed_pno : Tm.closedOf (pairT (Tm.text Tm.no)) = some (.app Tm.pairC Tm.no) := by kernel_rfl

theorem prs_one (c : Txt) (xs : List Txt) : prs [c] xs = xs.map (pr c) := by simp [prs]

theorem sum_len (a b : List (List Txt)) : (sumA a b).length = a.length + b.length := by simp [sumA]
theorem sum_left {a b : List (List Txt)} {i : Nat} (hi : i < a.length) : (sumA a b).getD i [] = (a.getD i []).map (pr (Tm.text .k)) := by
  simp only [sumA, List.getD]
  rw [List.getElem?_append_left (by simpa using hi)]
  simp [hi, prs_one]
theorem sum_right {a b : List (List Txt)} {i : Nat} (hi : i < b.length) : (sumA a b).getD (a.length + i) [] = (b.getD i []).map (pr (Tm.text Tm.no)) := by
  simp only [sumA, List.getD]
  rw [List.getElem?_append_right (by simp)]
  simp [hi, prs_one]

theorem pr_k {x : Txt} {u : Tm} (h : rz x = some u) : pr (Tm.text .k) x = (Tm.pair .k u).text := by rw [pr, tm_k, (rz_facts h).1]
theorem pr_no {x : Txt} {u : Tm} (h : rz x = some u) : pr (Tm.text Tm.no) x = (Tm.pair Tm.no u).text := by rw [pr, tm_no, (rz_facts h).1]

theorem pair_inj {c d t u : Tm} (hc : c.size ≤ 60) (hd : d.size ≤ 60) (ht : t.size ≤ 60) (hu : u.size ≤ 60) (gc : c.good = true) (gd : d.good = true) (gt : t.good = true) (gu : u.good = true) (h : (Tm.pair c t).text = (Tm.pair d u).text) : c = d ∧ t = u := by
  have h1 := pair_fits hc ht gc gt
  have h2 := pair_fits hd hu gd gu
  have e1 := Tm.parse_text h1.1 (Tm.fits_small (by have := h1.2.1; omega))
  have e2 := Tm.parse_text h2.1 (Tm.fits_small (by have := h2.2.1; omega))
  rw [h, e2] at e1
  have := Option.some.inj e1
  simp only [Tm.pair, Tm.app.injEq, true_and] at this
  exact ⟨this.1.symm, this.2.symm⟩

theorem sum_track {a b : List (List Txt)} (ha : ok a = true) (hb : ok b = true) (hs : ok (sumA a b) = true) :
    pTrackIs a (sumA a b) (mp a.length fun x => (x : Int)) (pairT (Tm.text .k)) = true ∧ pTrackIs b (sumA a b) (mp b.length fun x => ((a.length + x : Nat) : Int)) (pairT (Tm.text Tm.no)) = true := by
  have hz : Tm.pairC.size ≤ 40 := by decide +kernel
  constructor
  · refine track_of ha hs rfl (fun j hj => ⟨by omega, by rw [sum_len]; omega⟩) closed_pk fun i hi x hx => ?_
    obtain ⟨u, hu⟩ := ok_el ha hi hx
    obtain ⟨g1, g2, g3, g4⟩ := rz_more hu
    obtain ⟨n, hn, hrun⟩ := Tm.end_pairC (c := .k) (by decide) g3 rfl
    refine hit_of hu (hrun.ends (Tm.fits_small ?_) (by omega) (Tm.pair_step rfl g1)) ?_
    · simp only [Tm.size]; omega
    · rw [Int.toNat_natCast, sum_left hi, ← pr_k hu]
      exact List.mem_map.2 ⟨x, hx, rfl⟩
  · refine track_of hb hs rfl (fun j hj => ⟨by omega, by rw [sum_len]; omega⟩) closed_pno fun i hi x hx => ?_
    obtain ⟨u, hu⟩ := ok_el hb hi hx
    obtain ⟨g1, g2, g3, g4⟩ := rz_more hu
    obtain ⟨n, hn, hrun⟩ := Tm.end_pairC (c := Tm.no) (by decide) g3 rfl
    refine hit_of hu (hrun.ends (Tm.fits_small ?_) (by omega) (Tm.pair_step rfl g1)) ?_
    · have : Tm.no.size = 4 := rfl
      simp only [Tm.size, this]; omega
    · rw [Int.toNat_natCast, sum_right hi, ← pr_no hu]
      exact List.mem_map.2 ⟨x, hx, rfl⟩

theorem mds_iff (a : List (List Txt)) (n : Nat) : mds a n = true ↔ ∀ i, i < n → ∀ j, j < i → ∀ x, x ∈ a.getD i [] → x ∉ a.getD j [] := by
  simp only [mds, mdj, mdk, List.all_eq_true, List.mem_range, Bool.not_eq_true', decide_eq_false_iff_not]
  constructor
  · intro h i hi j hj x hx
    obtain ⟨k, hk, rfl⟩ := List.getElem_of_mem hx
    have := h i hi j hj k hk
    rwa [gd _ _ _ hk] at this
  · intro h i hi j hj k hk
    exact h i hi j hj _ (gd_mem hk)

theorem sum_modest {a b : List (List Txt)} (ha : ok a = true) (hb : ok b = true) (hs : ok (sumA a b) = true) : modest (sumA a b) = (modest a && modest b) := by
  rw [modest, modest, modest, ha, hb, hs, Bool.true_and, Bool.true_and, Bool.true_and, Bool.eq_iff_iff, Bool.and_eq_true, mds_iff, mds_iff, mds_iff]
  have inj1 : ∀ {i j : Nat} {x y : Txt}, i < a.length → j < a.length → x ∈ a.getD i [] → y ∈ a.getD j [] → pr (Tm.text .k) x = pr (Tm.text .k) y → x = y := fun hi hj hx hy e => by
    obtain ⟨u, hu⟩ := ok_el ha hi hx
    obtain ⟨v, hv⟩ := ok_el ha hj hy
    obtain ⟨_, g2, g3, g4⟩ := rz_more hu
    obtain ⟨_, k2, k3, k4⟩ := rz_more hv
    rw [pr_k hu, pr_k hv] at e
    rw [g2, k2, (pair_inj (by decide) (by decide) g3 k3 rfl rfl g4 k4 e).2]
  have inj2 : ∀ {i j : Nat} {x y : Txt}, i < b.length → j < b.length → x ∈ b.getD i [] → y ∈ b.getD j [] → pr (Tm.text Tm.no) x = pr (Tm.text Tm.no) y → x = y := fun hi hj hx hy e => by
    obtain ⟨u, hu⟩ := ok_el hb hi hx
    obtain ⟨v, hv⟩ := ok_el hb hj hy
    obtain ⟨_, g2, g3, g4⟩ := rz_more hu
    obtain ⟨_, k2, k3, k4⟩ := rz_more hv
    rw [pr_no hu, pr_no hv] at e
    rw [g2, k2, (pair_inj (by decide) (by decide) g3 k3 rfl rfl g4 k4 e).2]
  have dif : ∀ {i j : Nat} {x y : Txt}, i < b.length → j < a.length → x ∈ b.getD i [] → y ∈ a.getD j [] → pr (Tm.text Tm.no) x = pr (Tm.text .k) y → False := fun hi hj hx hy e => by
    obtain ⟨u, hu⟩ := ok_el hb hi hx
    obtain ⟨v, hv⟩ := ok_el ha hj hy
    obtain ⟨_, g2, g3, g4⟩ := rz_more hu
    obtain ⟨_, k2, k3, k4⟩ := rz_more hv
    rw [pr_no hu, pr_k hv] at e
    have := (pair_inj (by decide) (by decide) g3 k3 rfl rfl g4 k4 e).1
    cases this
  rw [sum_len]
  constructor
  · intro h
    refine ⟨fun i hi j hj x hx hy => ?_, fun i hi j hj x hx hy => ?_⟩
    · exact h i (by omega) j hj (pr (Tm.text .k) x) (by rw [sum_left hi]; exact List.mem_map.2 ⟨x, hx, rfl⟩) (by rw [sum_left (by omega)]; exact List.mem_map.2 ⟨x, hy, rfl⟩)
    · exact h (a.length + i) (by omega) (a.length + j) (by omega) (pr (Tm.text Tm.no) x) (by rw [sum_right hi]; exact List.mem_map.2 ⟨x, hx, rfl⟩) (by rw [sum_right (by omega)]; exact List.mem_map.2 ⟨x, hy, rfl⟩)
  · rintro ⟨h1, h2⟩ i hi j hj z hz hw
    by_cases hia : i < a.length
    · rw [sum_left hia] at hz
      rw [sum_left (by omega)] at hw
      obtain ⟨x, hx, rfl⟩ := List.mem_map.1 hz
      obtain ⟨y, hy, e⟩ := List.mem_map.1 hw
      have := inj1 (by omega) hia hy hx e
      subst this
      exact h1 i hia j hj _ hx hy
    · obtain ⟨i', rfl⟩ : ∃ i', i = a.length + i' := ⟨i - a.length, by omega⟩
      rw [sum_right (by omega)] at hz
      obtain ⟨x, hx, rfl⟩ := List.mem_map.1 hz
      by_cases hja : j < a.length
      · rw [sum_left hja] at hw
        obtain ⟨y, hy, e⟩ := List.mem_map.1 hw
        exact dif (by omega) hja hx hy e.symm
      · obtain ⟨j', rfl⟩ : ∃ j', j = a.length + j' := ⟨j - a.length, by omega⟩
        rw [sum_right (by omega)] at hw
        obtain ⟨y, hy, e⟩ := List.mem_map.1 hw
        have := inj2 (by omega) (by omega) hy hx e
        subst this
        exact h2 i' (by omega) j' (by omega) _ hx hy
end Asm
end Go.Proofs.YtidpkmkhcomcdaaGreat
