/-
  The model's l2Free: a name z0, z1, .. that is in neither of two terms.
-/
import Derived.Test.YtmkmladlpgfniaaPkSNum
import Derived.Test.YtmkmladlpgfniaaDec
import Derived.BigGuard
namespace Go.Proofs.Ytmkmladlpgfniaa
open Go.RowKit

set_option maxHeartbeats 2000000
set_option maxRecDepth 100000

/-- The name z and a number. -/
def zn (k : Nat) : List UInt8 := 122 :: Tm.decs 4 k

theorem zn_last : Tm.nameOk (zn 1000) = false := by decide +kernel

def FreePost (w : World) (a b : Tm) (e : Ending) (w' : World) : Prop :=
  ∃ k, k ≤ 1000 ∧ e = .returned (str (zn k)) ∧ After w w' ∧ a.uses (zn k) = 0 ∧ b.uses (zn k) = 0

theorem zn_not (k : Nat) : ([107] == zn k) = false ∧ ([115] == zn k) = false ∧ ([] == zn k) = false := by
  refine ⟨?_, ?_, ?_⟩ <;> (rw [beq_eq_false_iff_ne]; simp [zn])

theorem zn_add (k : Nat) (W : World) : (Op.stringOp .add ⟨#[122]⟩ ⟨(Tm.decs 4 k).toArray⟩).run Try.prog W = .ok (str (zn k)) W := by
  have hl := Tm.decs_len 4 k
  have h1 : (⟨#[122]⟩ : ByteArray).size = 1 := rfl
  have h2 : (⟨(Tm.decs 4 k).toArray⟩ : ByteArray).size = (Tm.decs 4 k).length := by show (Tm.decs 4 k).toArray.size = _; simp
  obtain ⟨t, hl, _, he⟩ := cat ⟨#[122]⟩ ⟨(Tm.decs 4 k).toArray⟩ (by omega)
  have : (.string t : Value) = str (zn k) := congrArg Value.string (ByteArray.ext (Array.ext' (by rw [hl]; rfl)))
  rw [← this]; exact he W

theorem free_any (w : World) (a b : Tm) (s1 s2 : List UInt8) (ao1 ao2 : Option Addr) (n1 c1 n2 c2 : Nat) (ha : ST w a (.agg #[str s1, .slice ao1 n1 c1])) (hb : ST w b (.agg #[str s2, .slice ao2 n2 c2])) (hga : a.good = true) (hgb : b.good = true) (hza : a.size ≤ 1000000) (hzb : b.size ≤ 1000000) :
    Calls Try.prog 85 #[.agg #[str s1, .slice ao1 n1 c1], .agg #[str s2, .slice ao2 n2 c2]] w (FreePost w a b) := by
  have hA0 := (After.new w (.cells #[str s1, .slice ao1 n1 c1] 46)).alloc (.cells #[str s2, .slice ao2 n2 c2] 46)
  have hb1 := heap_old2 w (.cells #[str s1, .slice ao1 n1 c1] 46) (.cells #[str s2, .slice ao2 n2 c2] 46)
  have hb2 := heap_new2 w _ (.cells #[str s1, .slice ao1 n1 c1] 46) (.cells #[str s2, .slice ao2 n2 c2] 46) rfl
  obtain ⟨Y, hY⟩ : ∃ Y, Y = (w.alloc (.cells #[str s1, .slice ao1 n1 c1] 46)).alloc (.cells #[str s2, .slice ao2 n2 c2] 46) := ⟨_, rfl⟩
  rw [← hY] at hA0 hb1 hb2
  have HA := Lib.hid (ha.later hA0)
  have HB := Lib.hid (hb.later hA0)
  have HA0 := Lib.hid hA0
  have p0 : ∀ W, After Y W → W.cell? ⟨w.heap.size, 0, none⟩ = some (str s1) := fun W hW => hW.cell (cell_of_heap hb1)
  have p1 : ∀ W, After Y W → W.cell? ⟨w.heap.size, 1, none⟩ = some (.slice ao1 n1 c1) := fun W hW => hW.cell (cell_of_heap hb1)
  have p2 : ∀ W, After Y W → W.cell? ⟨w.heap.size + 1, 0, none⟩ = some (str s2) := fun W hW => hW.cell (cell_of_heap hb2)
  have p3 : ∀ W, After Y W → W.cell? ⟨w.heap.size + 1, 1, none⟩ = some (.slice ao2 n2 c2) := fun W hW => hW.cell (cell_of_heap hb2)
  have hself := After.refl Y
  clear ha hb hb1 hb2 hA0
  go_enter Try.func85, Try.ntmps85
  go_wp2_with fail
  rw [← hY]
  clear hY
  go_loopw [5] (fun i wr => ∃ k : Nat, i = .int .i64 k ∧ k ≤ 1000 ∧ After Y wr) (fun i _ => 1000 - (intOf i).toNat)
  case atStart => exact ⟨0, rfl, by omega, hself⟩
  case round =>
    obtain ⟨k, rfl, hk, hA⟩ := hrel
    obtain ⟨z1, z2, _⟩ := zn_not k
    have hdec := fun W => dec_any 3 k W (by omega) (by omega)
    have hadd := zn_add k
    have hua := fun W (hW : After Y W) => (HA.out.later hW).usesG (zn k) z1 z2 (Tm.plain_good hga) (by omega)
    have hub := fun W (hW : After Y W) => (HB.out.later hW).usesG (zn k) z1 z2 (Tm.plain_good hgb) (by omega)
    have hend : k = 1000 → a.uses (zn k) = 0 ∧ b.uses (zn k) = 0 := fun h => by subst h; exact ⟨Tm.uses_bad _ zn_last hga, Tm.uses_bad _ zn_last hgb⟩
    obtain ⟨u1, hu1⟩ : ∃ u, u = a.uses (zn k) := ⟨_, rfl⟩
    obtain ⟨u2, hu2⟩ : ∃ u, u = b.uses (zn k) := ⟨_, rfl⟩
    rw [← hu1] at hua hend
    rw [← hu2] at hub hend
    have HU1 := Lib.hid hu1
    have HU2 := Lib.hid hu2
    have HE := Lib.hid hend
    have HAY := Lib.hid hA
    obtain ⟨z, hz⟩ : ∃ z, z = zn k := ⟨_, rfl⟩
    rw [← hz] at hadd hua hub
    have HZ := Lib.hid hz
    obtain ⟨ds, hds⟩ : ∃ ds, ds = Tm.decs (3 + 1) k := ⟨_, rfl⟩
    rw [← hds] at hdec
    have hadd' : ∀ W, (Op.stringOp .add ⟨#[122]⟩ ⟨ds.toArray⟩).run Try.prog W = .ok (str z) W := by rw [hds]; exact hadd
    clear hu1 hu2 hend z1 z2 hadd hz hds
    by_cases h1 : 0 < u1
    · have hi1 : (0 : Int) < (u1 : Int) := by omega
      have hd1 : decide ((0 : Int) < (u1 : Int)) = true := by simp [h1]
      have hk' : k < 1000 := by rcases Nat.lt_or_ge k 1000 with h | h; · exact h
                                · have := (HE.out (by omega)).1; omega
      clear h1 hub
      go_wp2_with fail
      have hAd := hA.drew
      first
      | (go_region_with (first
          | (go_at_call 100; refine (hdec _).mono ?_; rintro e w1 ⟨rfl, hb1⟩; have hb1' := After.trans hAd hb1)
          | (go_at_call 99; refine (hua _ (by assumption)).mono ?_; rintro e w2 ⟨rfl, hb2⟩; have hb2' := After.trans (by assumption) hb2)))
      | fail
      all_goals
        go_wp2_with fail
        go_roundw
        case rel => exact ⟨k + 1, by go_num, by omega, by assumption⟩
        case measure => simp [intOf]; omega
    · obtain rfl : u1 = 0 := by omega
      clear h1
      simp only [Int.natCast_zero] at hua
      have hAd := hA.drew
      by_cases h2 : 0 < u2
      · have hi2 : (0 : Int) < (u2 : Int) := by omega
        have hd2 : decide ((0 : Int) < (u2 : Int)) = true := by simp [h2]
        have hk' : k < 1000 := by
          rcases Nat.lt_or_ge k 1000 with h | h
          · exact h
          · have := (HE.out (by omega)).2; omega
        clear h2
        go_wp2_with fail
        go_region_with (first
            | (go_at_call 100; refine (hdec _).mono ?_; rintro e w1 ⟨rfl, hb1⟩; have hb1' := After.trans (by assumption) hb1)
            | (go_at_call_of 99 ao1; refine (hua _ (by assumption)).mono ?_; rintro e w2 ⟨rfl, hb2⟩; have hb2' := After.trans (by assumption) hb2)
            | (go_at_call_of 99 ao2; refine (hub _ (by assumption)).mono ?_; rintro e w4 ⟨rfl, hb4⟩; have hb4' := After.trans (by assumption) hb4))
        all_goals
          go_wp2_with fail
          go_roundw
          case rel => exact ⟨k + 1, by go_num, by omega, by assumption⟩
          case measure => simp [intOf]; omega
      · obtain rfl : u2 = 0 := by omega
        simp only [Int.natCast_zero] at hub
        clear h2
        go_wp2_with fail
        go_region_with (first
            | (go_at_call 100; refine (hdec _).mono ?_; rintro e w1 ⟨rfl, hb1⟩; have hb1' := After.trans (by assumption) hb1)
            | (go_at_call_of 99 ao1; refine (hua _ (by assumption)).mono ?_; rintro e w2 ⟨rfl, hb2⟩; have hb2' := After.trans (by assumption) hb2)
            | (go_at_call_of 99 ao2; refine (hub _ (by assumption)).mono ?_; rintro e w4 ⟨rfl, hb4⟩; have hb4' := After.trans (by assumption) hb4))
        all_goals
          go_wp2_with (go_at_call 100; refine (hdec _).mono ?_; rintro e w6 ⟨rfl, hb6⟩; have hb6' := After.trans (by assumption) hb6)
          go_ret
          exact ⟨k, hk, by rw [HZ.out]; rfl, HA0.out.trans hb6', HU1.out.symm, HU2.out.symm⟩
end Go.Proofs.Ytmkmladlpgfniaa
