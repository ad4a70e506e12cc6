/-
  The model's l5Pairs.
-/
import Derived.Test.YtidpkmkhcomcdaaGreatPkH
import Derived.Test.YtidpkmkhcomcdaaGreatPkF
import Derived.Test.YtidpkmkhcomcdaaGreatPkE
import Derived.Deep.RegionHeld3
namespace Go.Proofs.YtidpkmkhcomcdaaGreat
open Go.RowKit

set_option maxHeartbeats 2000000
set_option maxRecDepth 100000

theorem pair_of_rz {x y : List UInt8} {t u : Tm} (hx : Asm.rz x = some t) (hy : Asm.rz y = some u) : pPair x y = some (Asm.pr x y) := by
  obtain ⟨f1, f2, f3, f4⟩ := Asm.rz_facts hx
  obtain ⟨k1, k2, k3, k4⟩ := Asm.rz_facts hy
  obtain ⟨_, hz, _⟩ := Asm.pair_fits f3 k3 f2 k2
  have hd := Tm.depth_lt (Tm.pair t u)
  have hfit : (Tm.pair t u).fits = true := by unfold Tm.fits; simp; omega
  unfold pPair
  rw [(Tm.closed_facts f4).1, (Tm.closed_facts k4).1]
  simp only
  rw [if_pos hfit, Asm.pr, f1, k1]

theorem s_pairs (w : World) (e1 e2 : Value) (xs ys : List (List UInt8)) (h1 : StrsU 0 w e1 xs) (h2 : StrsU 0 w e2 ys) (hx : xs.length ≤ 4) (hy : ys.length ≤ 4)
    (hrx : ∀ i, i < xs.length → (Asm.rz (xs.getD i [])).isSome = true) (hry : ∀ i, i < ys.length → (Asm.rz (ys.getD i [])).isSome = true) (hlx : ∀ i, i < xs.length → (xs.getD i []).length ≤ 1048576) (hly : ∀ i, i < ys.length → (ys.getD i []).length ≤ 1048576) :
    Calls Tryz.prog 44 #[e1, e2] w fun e w' => ∃ v, e = .returned v ∧ After w w' ∧ RowS w' w.heap.size v (Asm.prs xs ys) := by
  obtain ⟨ao1, c1, rfl, hc1⟩ := h1
  obtain ⟨ao2, c2, rfl, hc2⟩ := h2
  have hcall : ∀ i j, i < xs.length → j < ys.length → ∀ W, Calls Tryz.prog 72 #[str (xs.getD i []), str (ys.getD j [])] W fun e w' => e = .returned (.tuple #[str (Asm.pr (xs.getD i []) (ys.getD j [])), .bool true]) ∧ After W w' := fun i j hi hj W => by
    obtain ⟨t, ht⟩ := Option.isSome_iff_exists.1 (hrx i hi)
    obtain ⟨u, hu⟩ := Option.isSome_iff_exists.1 (hry j hj)
    have := spec_pair W (xs.getD i []) (ys.getD j []) (by have := hlx i hi; omega) (by have := hly j hj; omega)
    rw [pair_of_rz ht hu] at this
    exact this.mono fun e w' h => h
  have hrow := prs_row xs ys
  have hnext := prs_next xs ys
  have hlen : ∀ i j, i ≤ xs.length → j ≤ ys.length → (Asm.prs (xs.take i) ys ++ (ys.take j).map (Asm.pr (xs.getD i []))).length ≤ 1000 := fun i j hi hj => by
    rw [List.length_append, prs_len, List.length_map, List.length_take, List.length_take]
    have : min i xs.length * ys.length ≤ 4 * 4 := Nat.mul_le_mul (by omega) hy
    omega
  have hend : Asm.prs (xs.take xs.length) ys = Asm.prs xs ys := by rw [List.take_length]
  obtain ⟨n, hn⟩ : ∃ n, n = xs.length := ⟨_, rfl⟩
  obtain ⟨m, hm⟩ : ∃ m, m = ys.length := ⟨_, rfl⟩
  rw [← hn] at hc1 hcall hrow hnext hlen hend hx ⊢
  rw [← hm] at hc2 hcall hrow hnext hlen hy ⊢
  have HC1 := Lib.hid hc1
  have HC2 := Lib.hid hc2
  have HCALL := Lib.hid hcall
  have HROW := Lib.hid hrow
  have HNEXT := Lib.hid hnext
  have HLEN := Lib.hid hlen
  have HEND := Lib.hid hend
  have hi : ∃ i, (Tryz.prog).info? 9 = some i ∧ i.zero = some (.string ⟨#[]⟩) ∧ i.size = 1 ∧ i.bytes = 16 := ⟨_, rfl, rfl, rfl, rfl⟩
  obtain ⟨i0, hi0, hz0, hz1, hz2⟩ := hi
  have hun : Tryz.prog.underlying 40 = some (.slice 9) := by kernel_rfl
  have HUN := Lib.hid hun
  have HI := Lib.hid (And.intro hi0 (And.intro hz0 (And.intro hz1 hz2)))
  have hA0 := After.new w (.cells #[] 9)
  have hnil : Hid (RowS (w.alloc (.cells #[] 9)) w.heap.size (.slice (some ⟨w.heap.size, 0, none⟩) 0 0) (Asm.prs (xs.take 0) ys)) := by show RowS _ _ _ _; exact own_empty w
  clear hc1 hc2 hcall hrow hnext hlen hend hun hi0 hz0 hz1 hz2 hn hm hrx hry hlx hly
  go_enter Tryz.func44, Tryz.ntmps44
  go_wp2_with fail
  generalize w.alloc (.cells #[] 9) = w0 at *
  go_loopw [5, 6] (fun t i wr => ∃ k : Nat, i = .int .i64 k ∧ k ≤ n ∧ Hid (RowS wr w.heap.size t (Asm.prs (xs.take k) ys)) ∧ After w wr) (fun _ i _ => n - (intOf i).toNat)
  case atStart => exact ⟨0, rfl, Nat.zero_le _, hnil, hA0⟩
  case round =>
    obtain ⟨i, rfl, hi, hown, hA⟩ := hrel
    clear hnil
    obtain ⟨ta, tc, e0⟩ : ∃ ao c, u5 = .slice ao (Asm.prs (xs.take i) ys).length c := by
      rcases hown.out.2 with ⟨rfl, h0⟩ | ⟨g, cap, cur, rfl, _⟩
      · exact ⟨_, _, by rw [h0]⟩
      · exact ⟨_, _, rfl⟩
    subst e0
    by_cases hlt : i < n
    · obtain ⟨g1, o1, rfl, _, q1⟩ := HC1.out i hlt
      have hlt' : (i : Int) < (n : Int) := by omega
      obtain ⟨x, hx'⟩ : ∃ x, x = xs.getD i [] := ⟨_, rfl⟩
      replace q1 : w.cell? ⟨g1, o1 + i, none⟩ = some (str x) := by rw [hx']; exact q1
      have Q1 : Hid (∀ W, After w W → W.cell? ⟨g1, o1 + i, none⟩ = some (str x)) := fun W hW => hW.cell q1
      have hrowi := fun j hj => HROW.out i j hlt hj
      have hnxt := HNEXT.out i hlt
      have hlni := fun j hj => HLEN.out i j hi hj
      have hci := fun j hj => HCALL.out i j hlt hj
      rw [← hx'] at hrowi hnxt hlni hci
      have HROWI := Lib.hid hrowi
      have HNXT := Lib.hid hnxt
      have HLNI := Lib.hid hlni
      have HCI := Lib.hid hci
      obtain ⟨P, hP⟩ : ∃ P, P = Asm.prs (xs.take i) ys := ⟨_, rfl⟩
      rw [← hP] at hown HROWI HNXT HLNI ⊢
      have hst : Hid (RowS wr w.heap.size (.slice ta P.length tc) (P ++ (ys.take 0).map (Asm.pr x))) := by show RowS _ _ _ _; simpa using hown.out
      clear hrowi hnxt hlni hci hP hx' hown q1
      go_wp2_with fail
      go_loopw [5, 7] (fun t j wr => ∃ k : Nat, j = .int .i64 k ∧ k ≤ m ∧ Hid (RowS wr w.heap.size t (P ++ (ys.take k).map (Asm.pr x))) ∧ After w wr) (fun _ i _ => m - (intOf i).toNat)
      case atStart => exact ⟨0, rfl, Nat.zero_le _, hst, hA⟩
      case round =>
        obtain ⟨j, rfl, hj, hown, hA3⟩ := hrel
        clear hst
        obtain ⟨tb, td, e0⟩ : ∃ ao c, u5 = .slice ao (P ++ (ys.take j).map (Asm.pr x)).length c := by
          rcases hown.out.2 with ⟨rfl, h0⟩ | ⟨g, cap, cur, rfl, _⟩
          · exact ⟨_, _, by rw [h0]⟩
          · exact ⟨_, _, rfl⟩
        subst e0
        by_cases hlj : j < m
        · obtain ⟨g2, o2, rfl, _, r1⟩ := HC2.out j hlj
          have hlj' : (j : Int) < (m : Int) := by omega
          have hrw := HROWI.out j hlj
          have hcj := HCI.out j hlj
          have hlen := HLNI.out j hj
          obtain ⟨y, hy'⟩ : ∃ y, y = ys.getD j [] := ⟨_, rfl⟩
          replace r1 : w.cell? ⟨g2, o2 + j, none⟩ = some (str y) := by rw [hy']; exact r1
          rw [← hy'] at hrw hcj
          obtain ⟨S, hS⟩ : ∃ S, S = P ++ (ys.take j).map (Asm.pr x) := ⟨_, rfl⟩
          rw [← hS] at hown hrw hlen ⊢
          obtain ⟨z, hz⟩ : ∃ z, z = Asm.pr x y := ⟨_, rfl⟩
          rw [← hz] at hrw hcj
          have x1 : ∀ W, After wr W → W.cell? ⟨g1, o1 + i, none⟩ = some (str x) := fun W hW => Q1.out W (hA3.trans hW)
          have x2 : ∀ W, After wr W → W.cell? ⟨g2, o2 + j, none⟩ = some (str y) := fun W hW => (hA3.trans hW).cell r1
          have hself := After.refl wr
          have HRW := Lib.hid hrw
          have HCJ := Lib.hid hcj
          have HOWN := Lib.hid hown.out
          clear hrw hown hy' hS hz hcj r1
          go_wp2_with fail
          go_region_held3 (fun W' => After wr W') (first | assumption | exact hself.drew | go_keep)
            ((go_at_call 72; refine (HCJ.out _).mono ?_; rintro e w2 ⟨rfl, hb2⟩; have hb2' := After.trans (by first | assumption | exact hself.drew) hb2))
          all_goals
            have hA5 := hA3.trans hb2'
            have hA6 := hA5.alloc (.cells #[str z] 9)
            have hn6 := After.new w2 (.cells #[str z] 9)
            have HO := Lib.hid (own_later (own_later HOWN.out hb2') hn6)
            have hlit := World.ownsRow_lit (base := w2.heap.size) (e := 9) (size := 1) w2 #[str z] 1 (Nat.le_refl _) (by decide) (by simp)
            have hnews := Lib.hid (hlit.cells (g := w2.heap.size) rfl)
            obtain ⟨hi0, hz0, hz1, hz2⟩ := HI.out
            have hb5 := hA6.size
            clear hlit
            go_wp2_with (at_builtin; refine wpList_append_lies _ (by rfl) _ _ 40 (by rfl) w.heap.size 9 i0 (.string ⟨#[]⟩) 1 16 HUN.out hi0 hz0 hz1 hz2 rfl (by decide) _ _ _ (by rfl) HO.out ⟨w2.heap.size, 0, none⟩ 1 1 [str z] (by rfl) (by rfl) hnews.out (by simp [Value.oneCell', str]) (by omega) (by unfold maxLen; omega) (by omega) hb5 _ rfl ?_; intro g4 q4 w5 ho4 hg4 _ hlt4; have HO4 := Lib.hid ho4; have HG4 := Lib.hid hg4; clear ho4 hg4)
            go_roundw
            case rel =>
              refine ⟨j + 1, by go_num, by omega, ?_, ?_⟩
              · show RowS _ _ _ _
                rw [HRW.out]
                unfold RowS
                rw [List.length_append, List.map_append]
                exact HO4.out
              · exact hA6.grown HG4.out hA6.size (fun k hk => (HO.out.lt k hk).1)
            case measure => simp [intOf]; omega
        · obtain rfl : j = m := by omega
          go_wp2_with fail
          go_roundw
          case rel => exact ⟨i + 1, by go_num, by omega, by show RowS _ _ _ _; rw [← HNXT.out]; exact hown.out, hA3⟩
          case measure => simp [intOf]; omega
    · obtain rfl : i = n := by omega
      have hD : ∀ zs v, zs = Asm.prs xs ys → RowS wr w.heap.size v zs → RowS wr w.heap.size v (Asm.prs xs ys) := fun zs v e h => e ▸ h
      have HO := Lib.hid (hD _ _ HEND.out hown.out)
      clear hown hD
      go_wp2_with fail
      go_ret
      exact ⟨_, rfl, hA, HO.out⟩
end Go.Proofs.YtidpkmkhcomcdaaGreat
