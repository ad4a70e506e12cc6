/-
  Numbers in decimals; the model's l6Dec.
-/
import Derived.Test.YtipmgfbncfkmiaaPkA
import Derived.Test.YtipmgfbncfkmiaaPkB
import Derived.Deep.RegionHeld3
import Derived.BigGuard
import Derived.Test.YtipmgfbncfkmiaaPkU
namespace Go.Proofs.Ytipmgfbncfkmiaa
open Go.RowKit

set_option maxHeartbeats 1000000
set_option maxRecDepth 100000

namespace Tm
/-- A number of at most f digits in decimals. -/
def decs : Nat → Nat → List UInt8
  | 0, _ => []
  | f + 1, n => if n < 10 then [UInt8.ofNat (48 + n)] else decs f (n / 10) ++ [UInt8.ofNat (48 + n % 10)]
theorem decs_len (f n : Nat) : (decs f n).length ≤ f := by
  induction f generalizing n with
  | zero => simp [decs]
  | succ f ih => simp only [decs]; split; · simp
                 have := ih (n / 10); simp; omega
theorem decs_dig (f n : Nat) : (decs f n).all dig = true := by
  induction f generalizing n with
  | zero => rfl
  | succ f ih =>
    have h10 : ∀ m, m < 10 → dig (UInt8.ofNat (48 + m)) = true := by decide +kernel
    simp only [decs]
    split
    · rename_i h; simp only [List.all_cons, List.all_nil, h10 n h, Bool.and_true]
    · simp only [List.all_append, ih (n / 10), List.all_cons, List.all_nil, h10 (n % 10) (by omega), Bool.and_true]
end Tm

/-- A byte as the walk spells it. -/
theorem conv_one (W : World) (c : UInt8) : (convert 22 9 (.slice (some ⟨W.heap.size, 0, none⟩) 1 1)).run Try.prog (W.alloc (.cells #[.int .u8 (c.toNat : Int)] 5)) = .ok (str [c]) (W.alloc (.cells #[.int .u8 (c.toNat : Int)] 5)) := by
  have hown : Own (W.alloc (.cells #[.int .u8 (c.toNat : Int)] 5)) W.heap.size (.slice (some ⟨W.heap.size, 0, none⟩) 1 1) [c] := by
    have := World.ownsRow_lit (base := W.heap.size) (e := 5) (size := 1) W #[.int .u8 (c.toNat : Int)] 1 (Nat.le_refl _) (by decide) (by simp)
    unfold Own
    simpa [bcells] using this
  exact run_text hown (by simp)

theorem conv_later (W : World) (g : Nat) (c : UInt8) (h : W.heap[g]? = some (.cells #[.int .u8 (c.toNat : Int)] 5 (0, 0))) : (convert 22 9 (.slice (some ⟨g, 0, none⟩) 1 1)).run Try.prog W = .ok (str [c]) W := by
  have hlt := (Array.getElem?_eq_some_iff.1 h).1
  have hown : Own W g (.slice (some ⟨g, 0, none⟩) 1 1) [c] := by
    unfold Own
    unfold World.ownsRow
    exact ⟨by simp [bcells], Or.inr ⟨g, 1, _, rfl, Nat.le_refl _, h, by simp, by decide, rfl, by simp [bcells]⟩⟩
  exact run_text hown (by simp)

theorem dec_any : ∀ (f n : Nat) (w : World), n < 10 ^ (f + 1) → f ≤ 16 →
    Calls Try.prog 121 #[.int .i64 n] w fun e w' => e = .returned (str (Tm.decs (f + 1) n)) ∧ After w w' := by
  intro f
  induction f with
  | zero =>
    intro n w hn _
    have hn10 : n < 10 := by simpa using hn
    obtain ⟨c, hc⟩ : ∃ c : UInt8, c = UInt8.ofNat (48 + n) := ⟨_, rfl⟩
    have hcn : (48 + (n : Int)) = (c.toNat : Int) := by
      have : c.toNat = 48 + n := by rw [hc, UInt8.toNat_ofNat']; omega
      omega
    have hr : Tm.decs (0 + 1) n = [c] := by simp [Tm.decs, hn10, hc]
    rw [hr]
    have hconv := conv_one w c
    rw [← hcn] at hconv
    clear hr hcn hc hn
    go_enter Try.func121, Try.ntmps121
    go_wp2_with fail
    go_ret
    exact ⟨rfl, After.new _ _⟩
  | succ f ih =>
    intro n w hn hf
    by_cases hn10 : n < 10
    · obtain ⟨c, hc⟩ : ∃ c : UInt8, c = UInt8.ofNat (48 + n) := ⟨_, rfl⟩
      have hcn : (48 + (n : Int)) = (c.toNat : Int) := by
        have : c.toNat = 48 + n := by rw [hc, UInt8.toNat_ofNat']; omega
        omega
      have hr : Tm.decs (f + 1 + 1) n = [c] := by simp [Tm.decs, hn10, hc]
      rw [hr]
      have hconv := conv_one w c
      rw [← hcn] at hconv
      clear hr hcn hc hn ih
      go_enter Try.func121, Try.ntmps121
      go_wp2_with fail
      go_ret
      exact ⟨rfl, After.new _ _⟩
    · have hq : n / 10 < 10 ^ (f + 1) := by rw [Nat.pow_succ] at hn; omega
      have hbig : n < 1000000000000000000 := Nat.lt_of_lt_of_le hn (Nat.le_trans (Nat.pow_le_pow_right (by omega) (show f + 1 + 1 ≤ 18 by omega)) (by decide +kernel))
      have hcall := fun W => ih (n / 10) W hq (by omega)
      obtain ⟨c, hc⟩ : ∃ c : UInt8, c = UInt8.ofNat (48 + n % 10) := ⟨_, rfl⟩
      have hct : c.toNat = 48 + n % 10 := by rw [hc, UInt8.toNat_ofNat']; omega
      have hr : Tm.decs (f + 1 + 1) n = Tm.decs (f + 1) (n / 10) ++ [c] := by
        rw [Tm.decs, if_neg hn10, hc]
      rw [hr]
      have hlen := Tm.decs_len (f + 1) (n / 10)
      generalize Tm.decs (f + 1) (n / 10) = ds at *
      have hadd : ∀ W, (Op.stringOp .add ⟨ds.toArray⟩ ⟨[c].toArray⟩).run Try.prog W = .ok (str (ds ++ [c])) W := by
        have h1 : (⟨[c].toArray⟩ : ByteArray).size = 1 := rfl
        have h2 : (⟨ds.toArray⟩ : ByteArray).size = ds.length := by show ds.toArray.size = _; simp
        obtain ⟨t, hl, _, he⟩ := cat ⟨ds.toArray⟩ ⟨[c].toArray⟩ (by omega)
        have : (.string t : Value) = str (ds ++ [c]) := congrArg Value.string (ByteArray.ext (Array.ext' (by rw [hl])))
        rw [← this]; exact he
      have hself := After.refl w
      have hbig' : n < 9000000000000000000 := by omega
      obtain ⟨q, hqq⟩ : ∃ q, q = n / 10 := ⟨_, rfl⟩
      obtain ⟨d, hdd⟩ : ∃ d, d = n % 10 := ⟨_, rfl⟩
      rw [← hqq] at hcall
      have hd10 : d < 10 := by omega
      have e1 : (n : Int).tdiv 10 = (q : Int) := by rw [Int.tdiv_eq_ediv_of_nonneg (by omega)]; omega
      have e2 : (n : Int).tmod 10 = (d : Int) := by rw [Int.tmod_eq_emod_of_nonneg (by omega)]; omega
      have e3 : (n : Int) / 10 = (q : Int) := by omega
      have e4 : (n : Int) % 10 = (d : Int) := by omega
      have e5 : IntKind.i64.wrap (q : Int) = (q : Int) := IntWalk.i64_in _ (by omega)
      have e6 : IntKind.i64.wrap (d : Int) = (d : Int) := IntWalk.i64_in _ (by omega)
      have e7 : IntKind.i64.wrap (c.toNat : Int) = (c.toNat : Int) := IntWalk.i64_in _ (by omega)
      have e8 : (48 + (d : Int)) = (c.toNat : Int) := by rw [hct]; omega
      have e9 : IntKind.u8.wrap (c.toNat : Int) = (c.toNat : Int) := by rw [IntKind.wrap_u8']; omega
      have hn0 : (10 : Int) ≤ (n : Int) := by omega
      have hconv0 := conv_later (w.alloc (.cells #[.int .u8 (c.toNat : Int)] 5)).drew w.heap.size c (heap_new' w _)
      have hl0 : ∀ w1, After (w.alloc (.cells #[.int .u8 (c.toNat : Int)] 5)).drew w1 → (convert 22 9 (.slice (some ⟨w.heap.size, 0, none⟩) 1 1)).run Try.prog w1 = .ok (str [c]) w1 := fun w1 h => conv_later w1 _ c (h.heap (w := (w.alloc (.cells #[.int .u8 (c.toNat : Int)] 5)).drew) (heap_new' w _))
      have hl1 := fun w1 : World => conv_one w1 c
      have HL0 := Lib.hid hl0
      clear hc hr hl0 hlen hn hbig hbig' ih hqq hdd hct hd10 hq hn10
      go_enter Try.func121, Try.ntmps121
      go_wp2_with fail
      go_region_with ((go_at_call 121; refine (hcall _).mono ?_; rintro e w1 ⟨rfl, hb1⟩; have hb1' := After.trans (by first | exact hself.drew | exact (hself.drew).alloc _ | exact (hself.alloc _).drew) hb1; try (have hcv := HL0.out _ hb1)))
      all_goals
        go_wp2_with fail
        go_ret
        first
          | exact ⟨rfl, hb1'⟩
          | exact ⟨rfl, hb1'.alloc _⟩
end Go.Proofs.Ytipmgfbncfkmiaa

namespace Go.Proofs.Ytipmgfbncfkmiaa
open Go.RowKit

set_option maxHeartbeats 2000000
set_option maxRecDepth 100000

/-- The name z and a number. -/
def zn (k : Nat) : List UInt8 := 122 :: Tm.decs 4 k

theorem zn_last : Tm.nameOk (zn 1000) = false := by decide +kernel

def FreePost (w : World) (a b : Tm) (e : Ending) (w' : World) : Prop :=
  ∃ k, k ≤ 1000 ∧ e = .returned (str (zn k)) ∧ After w w' ∧ a.uses (zn k) = 0 ∧ b.uses (zn k) = 0

theorem zn_not (k : Nat) : ([107] == zn k) = false ∧ ([115] == zn k) = false ∧ ([] == zn k) = false := by
  refine ⟨?_, ?_, ?_⟩ <;> (rw [beq_eq_false_iff_ne]; simp [zn])

theorem zn_add (k : Nat) (W : World) : (Op.stringOp .add ⟨#[122]⟩ ⟨(Tm.decs 4 k).toArray⟩).run Try.prog W = .ok (str (zn k)) W := by
  have hl := Tm.decs_len 4 k
  have h1 : (⟨#[122]⟩ : ByteArray).size = 1 := rfl
  have h2 : (⟨(Tm.decs 4 k).toArray⟩ : ByteArray).size = (Tm.decs 4 k).length := by show (Tm.decs 4 k).toArray.size = _; simp
  obtain ⟨t, hl, _, he⟩ := cat ⟨#[122]⟩ ⟨(Tm.decs 4 k).toArray⟩ (by omega)
  have : (.string t : Value) = str (zn k) := congrArg Value.string (ByteArray.ext (Array.ext' (by rw [hl]; rfl)))
  rw [← this]; exact he W

theorem free_any (w : World) (a b : Tm) (s1 s2 : List UInt8) (ao1 ao2 : Option Addr) (n1 c1 n2 c2 : Nat) (ha : ST w a (.agg #[str s1, .slice ao1 n1 c1])) (hb : ST w b (.agg #[str s2, .slice ao2 n2 c2])) (hga : a.good = true) (hgb : b.good = true) (hza : a.size ≤ 1000000) (hzb : b.size ≤ 1000000) :
    Calls Try.prog 92 #[.agg #[str s1, .slice ao1 n1 c1], .agg #[str s2, .slice ao2 n2 c2]] w (FreePost w a b) := by
  have hA0 := (After.new w (.cells #[str s1, .slice ao1 n1 c1] 74)).alloc (.cells #[str s2, .slice ao2 n2 c2] 74)
  have hb1 := heap_old2 w (.cells #[str s1, .slice ao1 n1 c1] 74) (.cells #[str s2, .slice ao2 n2 c2] 74)
  have hb2 := heap_new2 w _ (.cells #[str s1, .slice ao1 n1 c1] 74) (.cells #[str s2, .slice ao2 n2 c2] 74) rfl
  obtain ⟨Y, hY⟩ : ∃ Y, Y = (w.alloc (.cells #[str s1, .slice ao1 n1 c1] 74)).alloc (.cells #[str s2, .slice ao2 n2 c2] 74) := ⟨_, rfl⟩
  rw [← hY] at hA0 hb1 hb2
  have HA := Lib.hid (ha.later hA0)
  have HB := Lib.hid (hb.later hA0)
  have HA0 := Lib.hid hA0
  have p0 : ∀ W, After Y W → W.cell? ⟨w.heap.size, 0, none⟩ = some (str s1) := fun W hW => hW.cell (cell_of_heap hb1)
  have p1 : ∀ W, After Y W → W.cell? ⟨w.heap.size, 1, none⟩ = some (.slice ao1 n1 c1) := fun W hW => hW.cell (cell_of_heap hb1)
  have p2 : ∀ W, After Y W → W.cell? ⟨w.heap.size + 1, 0, none⟩ = some (str s2) := fun W hW => hW.cell (cell_of_heap hb2)
  have p3 : ∀ W, After Y W → W.cell? ⟨w.heap.size + 1, 1, none⟩ = some (.slice ao2 n2 c2) := fun W hW => hW.cell (cell_of_heap hb2)
  have hself := After.refl Y
  clear ha hb hb1 hb2 hA0
  go_enter Try.func92, Try.ntmps92
  go_wp2_with fail
  rw [← hY]
  clear hY
  go_loopw [5] (fun i wr => ∃ k : Nat, i = .int .i64 k ∧ k ≤ 1000 ∧ After Y wr) (fun i _ => 1000 - (intOf i).toNat)
  case atStart => exact ⟨0, rfl, by omega, hself⟩
  case round =>
    obtain ⟨k, rfl, hk, hA⟩ := hrel
    obtain ⟨z1, z2, _⟩ := zn_not k
    have hdec := fun W => dec_any 3 k W (by omega) (by omega)
    have hadd := zn_add k
    have hua := fun W (hW : After Y W) => (HA.out.later hW).usesG (zn k) z1 z2 (Tm.plain_good hga) (by omega)
    have hub := fun W (hW : After Y W) => (HB.out.later hW).usesG (zn k) z1 z2 (Tm.plain_good hgb) (by omega)
    have hend : k = 1000 → a.uses (zn k) = 0 ∧ b.uses (zn k) = 0 := fun h => by subst h; exact ⟨Tm.uses_bad _ zn_last hga, Tm.uses_bad _ zn_last hgb⟩
    obtain ⟨u1, hu1⟩ : ∃ u, u = a.uses (zn k) := ⟨_, rfl⟩
    obtain ⟨u2, hu2⟩ : ∃ u, u = b.uses (zn k) := ⟨_, rfl⟩
    rw [← hu1] at hua hend
    rw [← hu2] at hub hend
    have HU1 := Lib.hid hu1
    have HU2 := Lib.hid hu2
    have HE := Lib.hid hend
    have HAY := Lib.hid hA
    obtain ⟨z, hz⟩ : ∃ z, z = zn k := ⟨_, rfl⟩
    rw [← hz] at hadd hua hub
    have HZ := Lib.hid hz
    obtain ⟨ds, hds⟩ : ∃ ds, ds = Tm.decs (3 + 1) k := ⟨_, rfl⟩
    rw [← hds] at hdec
    have hadd' : ∀ W, (Op.stringOp .add ⟨#[122]⟩ ⟨ds.toArray⟩).run Try.prog W = .ok (str z) W := by rw [hds]; exact hadd
    clear hu1 hu2 hend z1 z2 hadd hz hds
    by_cases h1 : 0 < u1
    · have hi1 : (0 : Int) < (u1 : Int) := by omega
      have hd1 : decide ((0 : Int) < (u1 : Int)) = true := by simp [h1]
      have hk' : k < 1000 := by rcases Nat.lt_or_ge k 1000 with h | h; · exact h
                                · have := (HE.out (by omega)).1; omega
      clear h1 hub
      go_wp2_with fail
      have hAd := hA.drew
      first
      | (go_region_with (first
          | (go_at_call 121; refine (hdec _).mono ?_; rintro e w1 ⟨rfl, hb1⟩; have hb1' := After.trans hAd hb1)
          | (go_at_call 76; refine (hua _ (by assumption)).mono ?_; rintro e w2 ⟨rfl, hb2⟩; have hb2' := After.trans (by assumption) hb2)))
      | fail
      all_goals
        go_wp2_with fail
        go_roundw
        case rel => exact ⟨k + 1, by go_num, by omega, by assumption⟩
        case measure => simp [intOf]; omega
    · obtain rfl : u1 = 0 := by omega
      clear h1
      simp only [Int.natCast_zero] at hua
      have hAd := hA.drew
      by_cases h2 : 0 < u2
      · have hi2 : (0 : Int) < (u2 : Int) := by omega
        have hd2 : decide ((0 : Int) < (u2 : Int)) = true := by simp [h2]
        have hk' : k < 1000 := by
          rcases Nat.lt_or_ge k 1000 with h | h
          · exact h
          · have := (HE.out (by omega)).2; omega
        clear h2
        go_wp2_with fail
        go_region_with (first
            | (go_at_call 121; refine (hdec _).mono ?_; rintro e w1 ⟨rfl, hb1⟩; have hb1' := After.trans (by assumption) hb1)
            | (go_at_call_of 76 ao1; refine (hua _ (by assumption)).mono ?_; rintro e w2 ⟨rfl, hb2⟩; have hb2' := After.trans (by assumption) hb2)
            | (go_at_call_of 76 ao2; refine (hub _ (by assumption)).mono ?_; rintro e w4 ⟨rfl, hb4⟩; have hb4' := After.trans (by assumption) hb4))
        all_goals
          go_wp2_with fail
          go_roundw
          case rel => exact ⟨k + 1, by go_num, by omega, by assumption⟩
          case measure => simp [intOf]; omega
      · obtain rfl : u2 = 0 := by omega
        simp only [Int.natCast_zero] at hub
        clear h2
        go_wp2_with fail
        go_region_with (first
            | (go_at_call 121; refine (hdec _).mono ?_; rintro e w1 ⟨rfl, hb1⟩; have hb1' := After.trans (by assumption) hb1)
            | (go_at_call_of 76 ao1; refine (hua _ (by assumption)).mono ?_; rintro e w2 ⟨rfl, hb2⟩; have hb2' := After.trans (by assumption) hb2)
            | (go_at_call_of 76 ao2; refine (hub _ (by assumption)).mono ?_; rintro e w4 ⟨rfl, hb4⟩; have hb4' := After.trans (by assumption) hb4))
        all_goals
          go_wp2_with (go_at_call 121; refine (hdec _).mono ?_; rintro e w6 ⟨rfl, hb6⟩; have hb6' := After.trans (by assumption) hb6)
          go_ret
          exact ⟨k, hk, by rw [HZ.out]; rfl, HA0.out.trans hb6', HU1.out.symm, HU2.out.symm⟩
end Go.Proofs.Ytipmgfbncfkmiaa

namespace Go.Proofs.Ytipmgfbncfkmiaa
open Go.RowKit

set_option maxHeartbeats 400000
set_option maxRecDepth 100000

/-- What PairOf answers. -/
def pPair (l m : List UInt8) : Option (List UInt8) := match Tm.parse l, Tm.parse m with
  | some t, some u => if (Tm.pair t u).fits = true then some (Tm.pair t u).text else none
  | _, _ => none

theorem impl_pair (w : World) (l m : List UInt8) (hl : l.length ≤ 1000000000) (hm : m.length ≤ 1000000000) :
    Calls Try.prog 46 #[str l, str m] w (NumOne w (pPair l m)) := by
  have hread := readBoth_any w w.heap.size l m (Nat.le_refl _) hl hm
  unfold BothPost at hread
  by_cases hb : ((Tm.parse l).isSome && (Tm.parse m).isSome) = false
  · have hfin : pPair l m = none := by
      unfold pPair
      split
      · rename_i h1 h2; rw [h1, h2] at hb; simp at hb
      · rfl
    rw [hfin]
    rw [hb] at hread
    clear hfin hb
    go_enter Try.func46, Try.ntmps46
    go_wp2_with (go_at_call 68; refine hread.mono ?_; rintro e w1 ⟨v1, v2, rfl, hb1, hv1⟩; clear hv1)
    go_ret2
    exact ⟨rfl, hb1⟩
  · have hb' : ((Tm.parse l).isSome && (Tm.parse m).isSome) = true := by rw [Bool.not_eq_false] at hb; exact hb
    rw [Bool.and_eq_true, Option.isSome_iff_exists, Option.isSome_iff_exists] at hb'
    obtain ⟨⟨t, hp⟩, ⟨u, hq⟩⟩ := hb'
    rw [hp, hq] at hread
    simp only [Option.isSome_some, Bool.and_self] at hread
    clear hb
    obtain ⟨hg, hf, hs, _, _⟩ := Tm.parse_facts hp
    obtain ⟨hgu, hfu, hsu, _, _⟩ := Tm.parse_facts hq
    have hgp : (Tm.pair t u).good = true := by rw [Tm.good_pair, hg, hgu]; rfl
    have hsz := Tm.size_pair t u
    have htl := Tm.text_le _ hgp
    have hpair := fun W v1 v2 h1 h2 hB => pair_any W w.heap.size t u v1 v2 h1 h2 hB (by omega)
    unfold TermPost at hpair
    rw [show pPair l m = if (Tm.pair t u).fits = true then some (Tm.pair t u).text else none by simp [pPair, hp, hq]]
    generalize Tm.pair t u = p at *
    generalize hfp : p.fits = b at *
    clear hp hq
    cases b
    all_goals
      simp only [if_true, Bool.false_eq_true, if_false]
      go_enter Try.func46, Try.ntmps46
      go_wp2_with fail
      refine hread.mono ?_
      rintro e w1 ⟨v1, v2, rfl, hb1, hv1⟩
      obtain ⟨ht1, ht2⟩ := hv1 t u rfl rfl
      have hcall := hpair w1 v1 v2 ht1 ht2 hb1.size
      clear hv1 hread hpair
      go_wp2_with fail
      refine hcall.mono ?_
      rintro e w2 ⟨v3, rfl, hb2, hv3⟩
      have hfit := fits_any w2 _ _ v3 hv3
      rw [hfp] at hfit
      have HV3 := Lib.hid hv3
      clear hv3 hcall
      go_wp2_with fail
      refine hfit.mono ?_
      rintro e w3 ⟨rfl, hb3⟩
      go_wp2_with (go_at_call 71; refine (textOf_any _ _ p _ (HV3.out.below hb3) hgp (by omega)).mono ?_; rintro e w4 ⟨rfl, hb4⟩)
      go_ret2
      first
        | exact ⟨rfl, below_trans (below_trans hb1 hb2) (below_trans hb3 hb4)⟩
        | exact ⟨rfl, below_trans (below_trans hb1 hb2) hb3⟩
end Go.Proofs.Ytipmgfbncfkmiaa

namespace Go.Proofs.Ytipmgfbncfkmiaa
open Go.RowKit

set_option maxHeartbeats 2000000
set_option maxRecDepth 100000

theorem heap_newD (w : World) (o : Obj) : ((w.alloc o).drew).heap[w.heap.size]? = some o := heap_new' w o
theorem heap_old2D (w : World) (o p : Obj) : (((w.alloc o).alloc p).drew).heap[w.heap.size]? = some o := heap_old2 w o p
theorem heap_new2D (w : World) (o p : Obj) : (((w.alloc o).alloc p).drew).heap[w.heap.size + 1]? = some p := heap_new2 w _ o p rfl

theorem after_sets2 {X W : World} {G : Nat} {o : Obj} (h : After X W) (_hG : W.heap[G]? = some o) (hle : X.heap.size ≤ G) (u u' : Value) : After X ((W.setCell ⟨G, 0, none⟩ u).setCell ⟨G, 1, none⟩ u') :=
  Below.setCell (p := ⟨G, 1, none⟩) (Below.setCell (p := ⟨G, 0, none⟩) h hle _) hle _

theorem s_pair_none1 (w : World) (l m : List UInt8) (hl : l.length ≤ 1000000000) (hm : m.length ≤ 1000000000) (hp : Tm.parse l = none) :
    Calls Try.prog 47 #[str l, str m] w (SNumOne w none) := by
  have h1 := s_term w l hl
  have h2 := fun W => s_term W m hm
  unfold STermPost at h1 h2
  rw [hp] at h1
  generalize (Tm.parse m).isSome = b at h2
  clear hp
  go_enter Try.func47, Try.ntmps47
  go_wp2_with fail
  refine h1.mono ?_
  rintro e w1 ⟨s1, ao1, n1, c1, rfl, hb1, ht1⟩
  clear ht1
  go_wp2_with fail
  refine (h2 _).mono ?_
  rintro e w2 ⟨s2, ao2, n2, c2, rfl, hb2, ht2⟩
  clear ht2 h2 h1
  have hb3 := (After.alloc ((After.alloc hb1 (.cells #[str s1, .slice ao1 n1 c1] 74)).trans hb2) (.cells #[str s2, .slice ao2 n2 c2] 74))
  go_wp2_with fail
  go_ret2
  exact ⟨rfl, hb3⟩

theorem s_pair_none2 (w : World) (l m : List UInt8) (hl : l.length ≤ 1000000000) (hm : m.length ≤ 1000000000) (hp : (Tm.parse l).isSome = true) (hq : Tm.parse m = none) :
    Calls Try.prog 47 #[str l, str m] w (SNumOne w none) := by
  have h1 := s_term w l hl
  have h2 := fun W => s_term W m hm
  unfold STermPost at h1 h2
  rw [hp] at h1
  rw [hq] at h2
  clear hp hq
  go_enter Try.func47, Try.ntmps47
  go_wp2_with fail
  refine h1.mono ?_
  rintro e w1 ⟨s1, ao1, n1, c1, rfl, hb1, ht1⟩
  clear ht1
  go_wp2_with fail
  refine (h2 _).mono ?_
  rintro e w2 ⟨s2, ao2, n2, c2, rfl, hb2, ht2⟩
  clear ht2 h2 h1
  have hb3 := (After.alloc ((After.alloc hb1 (.cells #[str s1, .slice ao1 n1 c1] 74)).trans hb2) (.cells #[str s2, .slice ao2 n2 c2] 74))
  go_wp2_with fail
  go_ret2
  exact ⟨rfl, hb3⟩

theorem s_pair_some (w : World) (l m : List UInt8) (t u : Tm) (hl : l.length ≤ 1000000000) (hm : m.length ≤ 1000000000) (hp : Tm.parse l = some t) (hq : Tm.parse m = some u) :
    Calls Try.prog 47 #[str l, str m] w (SNumOne w (if (Tm.pair t u).fits = true then some (Tm.pair t u).text else none)) := by
  have h1 := s_term w l hl
  have h2 := fun W => s_term W m hm
  unfold STermPost at h1 h2
  rw [hp] at h1
  rw [hq] at h2
  obtain ⟨hg, hf, hs, _, _⟩ := Tm.parse_facts hp
  obtain ⟨hgu, hfu, hsu, _, _⟩ := Tm.parse_facts hq
  have hgp : (Tm.pair t u).good = true := by rw [Tm.good_pair, hg, hgu]; rfl
  have hsz := Tm.size_pair t u
  have htl := Tm.text_le _ hgp
  obtain ⟨fb, hfb⟩ : ∃ fb, fb = (Tm.pair t u).fits := ⟨_, rfl⟩
  rw [← hfb]
  obtain ⟨r, hr⟩ : ∃ r, r = if fb = true then some (Tm.pair t u).text else none := ⟨_, rfl⟩
  rw [← hr]
  have HFB := Lib.hid hfb
  have HSZ := Lib.hid hsz
  have HR := Lib.hid hr
  clear hp hq hfb hsz hr
  go_enter Try.func47, Try.ntmps47
  go_wp2_with fail
  refine h1.mono ?_
  rintro e w1 ⟨s1, ao1, n1, c1, rfl, hb1, ht1⟩
  have HT1 := Lib.hid (ht1 t rfl)
  clear ht1
  go_wp2_with fail
  refine (h2 _).mono ?_
  rintro e w2 ⟨s2, ao2, n2, c2, rfl, hb2, ht2⟩
  have HT2 := Lib.hid (ht2 u rfl)
  clear ht2 h2 h1
  obtain ⟨X, hX⟩ : ∃ X, X = w2.alloc (.cells #[str s2, .slice ao2 n2 c2] 74) := ⟨_, rfl⟩
  have h2X : After w2 X := by rw [hX]; exact After.new _ _
  have hA1 : After (w1.alloc (.cells #[str s1, .slice ao1 n1 c1] 74)) X := hb2.trans h2X
  have hAX : After w X := (After.alloc hb1 _).trans hA1
  have hT1 := HT1.out.later ((After.new w1 (.cells #[str s1, .slice ao1 n1 c1] 74)).trans hA1)
  have hT2 := HT2.out.later h2X
  have hbox1 := hA1.heap (heap_new' w1 (.cells #[str s1, .slice ao1 n1 c1] 74))
  have hbox2 : X.heap[w2.heap.size]? = some (.cells #[str s2, .slice ao2 n2 c2] 74 (0, 0)) := by rw [hX]; exact heap_new' _ _
  have hfree := free_any X t u s1 s2 ao1 ao2 n1 c1 n2 c2 hT1 hT2 hg hgu (by omega) (by omega)
  unfold FreePost at hfree
  have k0 : ∀ W, After X W → W.cell? ⟨w1.heap.size, 0, none⟩ = some (str s1) := fun W hW => hW.cell (cell_of_heap hbox1)
  have k1 : ∀ W, After X W → W.cell? ⟨w1.heap.size, 1, none⟩ = some (.slice ao1 n1 c1) := fun W hW => hW.cell (cell_of_heap hbox1)
  have k2 : ∀ W, After X W → W.cell? ⟨w2.heap.size, 0, none⟩ = some (str s2) := fun W hW => hW.cell (cell_of_heap hbox2)
  have k3 : ∀ W, After X W → W.cell? ⟨w2.heap.size, 1, none⟩ = some (.slice ao2 n2 c2) := fun W hW => hW.cell (cell_of_heap hbox2)
  have HAX := Lib.hid hAX
  have HTX1 := Lib.hid hT1
  have HTX2 := Lib.hid hT2
  have hself := After.refl X
  have x0 := k0 X hself
  have x1 := k1 X hself
  have x2 := k2 X hself
  have x3 := k3 X hself
  rw [hX] at x0 x1 x2 x3 hfree
  have HX := Lib.hid hX
  clear hX h2X hA1 hAX hT1 hT2 hbox1 hbox2 HT1 HT2 hb1 hb2
  go_wp2_with fail
  refine hfree.mono ?_
  rintro e w3 ⟨k, _, rfl, hb3, hu1, hu2⟩
  rw [← HX.out] at hb3
  clear x0 x1 x2 x3
  obtain ⟨hzk, hzs, hz0⟩ := zn_not k
  have hplain : (Tm.app (.app (.nm (zn k)) t) u).Plain := ⟨⟨by show zn k ≠ []; simp [zn], Tm.plain_good hg⟩, Tm.plain_good hgu⟩
  have habs := fun W v (h : ST W (.app (.app (.nm (zn k)) t) u) v) => h.abs (zn k) hz0 hzk hzs hplain (by simp [Tm.size]; omega)
  rw [Tm.pair_abs (zn k) t u hu1 hu2] at habs
  unfold TreePost at habs
  have hnm := fun W => s_nm W (zn k)
  generalize zn k = z at *
  have HAB := Lib.hid habs
  clear hzk hzs hz0 hplain hu1 hu2 hfree habs
  have sz3 := hb3.size
  go_wp2_with fail
  go_region_held3 (fun W' => After X W') (first | assumption | exact After.drew (by assumption) | exact After.alloc (by assumption) _ | exact Below.setCell (by assumption) (by first | omega | (simp; omega)) _ | exact Below.setCell (Below.setCell (by assumption) (by first | omega | (simp; omega)) _) (by first | omega | (simp; omega)) _)
    (first
      | (go_at_call 94
         refine (hnm _).mono ?_
         rintro e w4 ⟨rfl, hb4⟩
         have hA4 := After.trans (a := X) (by repeat (first | assumption | exact After.refl _ | apply After.alloc | apply After.drew | apply After.drews)) hb4
         have sz4 := hA4.size)
      | (go_at_call 89
         refine (s_app2 _ (.nm z) t u _ s1 s2 none ao1 ao2 0 0 n1 c1 n2 c2 _ (0, 0) ?_ ?_ ?_ ?_).mono ?_
         · rfl
         · exact HTX1.out.later (by repeat (first | assumption | exact After.refl _ | apply After.alloc | apply After.drew | apply After.drews))
         · exact HTX2.out.later (by repeat (first | assumption | exact After.refl _ | apply After.alloc | apply After.drew | apply After.drews))
         · (first | (first | exact heap_new' _ _ | exact heap_newD _ _ | exact heap_old2 _ _ _ | exact heap_old2D _ _ _ | exact heap_new2 _ _ _ _ rfl | exact heap_new2D _ _ _) | (refine After.heap hb4 ?_; (first | exact heap_new' _ _ | exact heap_newD _ _ | exact heap_old2 _ _ _ | exact heap_old2D _ _ _ | exact heap_new2 _ _ _ _ rfl | exact heap_new2D _ _ _)) | (refine After.heap (After.alloc hb4 _) ?_; (first | exact heap_new' _ _ | exact heap_newD _ _ | exact heap_old2 _ _ _ | exact heap_old2D _ _ _ | exact heap_new2 _ _ _ _ rfl | exact heap_new2D _ _ _)))
         rintro e w5 ⟨t5, ao5, n5, c5, rfl, hb5, ht5⟩
         have HT5 := Lib.hid ht5
         clear ht5
         have hA5 := After.trans (a := X) (by repeat (first | assumption | exact After.refl _ | apply After.alloc | apply After.drew | apply After.drews)) hb5
         have sz5 := hA5.size)
      | (go_at_call 93
         refine (HAB.out _ _ (HT5.out.later (by repeat (first | assumption | exact After.refl _ | apply After.alloc | apply After.drew | apply After.drews)))).mono ?_
         rintro e w6 ⟨t6, ao6, n6, c6, rfl, hb6, ht6⟩
         have HT6 := Lib.hid ht6
         clear ht6
         have hA6 := After.trans (a := X) (by repeat (first | assumption | exact After.refl _ | apply After.alloc | apply After.drew | apply After.drews)) hb6
         have sz6 := hA6.size
         first
           | ((first | (have hG : w6.heap[w5.heap.size]? = some (.cells #[.string ⟨#[]⟩, .slice none 0 0] 74 (0, 0)) := by (first | (first | exact heap_new' _ _ | exact heap_newD _ _ | exact heap_old2 _ _ _ | exact heap_old2D _ _ _ | exact heap_new2 _ _ _ _ rfl | exact heap_new2D _ _ _) | (refine After.heap hb6 ?_; (first | exact heap_new' _ _ | exact heap_newD _ _ | exact heap_old2 _ _ _ | exact heap_old2D _ _ _ | exact heap_new2 _ _ _ _ rfl | exact heap_new2D _ _ _)) | (refine After.heap (After.alloc hb6 _) ?_; (first | exact heap_new' _ _ | exact heap_newD _ _ | exact heap_old2 _ _ _ | exact heap_old2D _ _ _ | exact heap_new2 _ _ _ _ rfl | exact heap_new2D _ _ _)))) | (have hG : w6.heap[w4.heap.size]? = some (.cells #[.string ⟨#[]⟩, .slice none 0 0] 74 (0, 0)) := by (first | (first | exact heap_new' _ _ | exact heap_newD _ _ | exact heap_old2 _ _ _ | exact heap_old2D _ _ _ | exact heap_new2 _ _ _ _ rfl | exact heap_new2D _ _ _) | (refine After.heap hb6 ?_; (first | (first | exact heap_new' _ _ | exact heap_newD _ _ | exact heap_old2 _ _ _ | exact heap_old2D _ _ _ | exact heap_new2 _ _ _ _ rfl | exact heap_new2D _ _ _) | (refine After.heap hb5 ?_; (first | exact heap_new' _ _ | exact heap_newD _ _ | exact heap_old2 _ _ _ | exact heap_old2D _ _ _ | exact heap_new2 _ _ _ _ rfl | exact heap_new2D _ _ _)) | (refine After.heap (After.alloc hb5 _) ?_; (first | exact heap_new' _ _ | exact heap_newD _ _ | exact heap_old2 _ _ _ | exact heap_old2D _ _ _ | exact heap_new2 _ _ _ _ rfl | exact heap_new2D _ _ _)))) | (refine After.heap (After.alloc hb6 _) ?_; (first | (first | exact heap_new' _ _ | exact heap_newD _ _ | exact heap_old2 _ _ _ | exact heap_old2D _ _ _ | exact heap_new2 _ _ _ _ rfl | exact heap_new2D _ _ _) | (refine After.heap hb5 ?_; (first | exact heap_new' _ _ | exact heap_newD _ _ | exact heap_old2 _ _ _ | exact heap_old2D _ _ _ | exact heap_new2 _ _ _ _ rfl | exact heap_new2D _ _ _)) | (refine After.heap (After.alloc hb5 _) ?_; (first | exact heap_new' _ _ | exact heap_newD _ _ | exact heap_old2 _ _ _ | exact heap_old2D _ _ _ | exact heap_new2 _ _ _ _ rfl | exact heap_new2D _ _ _)))))) | (have hG : w6.heap[w4.heap.size + 1]? = some (.cells #[.string ⟨#[]⟩, .slice none 0 0] 74 (0, 0)) := by (first | (first | exact heap_new' _ _ | exact heap_newD _ _ | exact heap_old2 _ _ _ | exact heap_old2D _ _ _ | exact heap_new2 _ _ _ _ rfl | exact heap_new2D _ _ _) | (refine After.heap hb6 ?_; (first | (first | exact heap_new' _ _ | exact heap_newD _ _ | exact heap_old2 _ _ _ | exact heap_old2D _ _ _ | exact heap_new2 _ _ _ _ rfl | exact heap_new2D _ _ _) | (refine After.heap hb5 ?_; (first | exact heap_new' _ _ | exact heap_newD _ _ | exact heap_old2 _ _ _ | exact heap_old2D _ _ _ | exact heap_new2 _ _ _ _ rfl | exact heap_new2D _ _ _)) | (refine After.heap (After.alloc hb5 _) ?_; (first | exact heap_new' _ _ | exact heap_newD _ _ | exact heap_old2 _ _ _ | exact heap_old2D _ _ _ | exact heap_new2 _ _ _ _ rfl | exact heap_new2D _ _ _)))) | (refine After.heap (After.alloc hb6 _) ?_; (first | (first | exact heap_new' _ _ | exact heap_newD _ _ | exact heap_old2 _ _ _ | exact heap_old2D _ _ _ | exact heap_new2 _ _ _ _ rfl | exact heap_new2D _ _ _) | (refine After.heap hb5 ?_; (first | exact heap_new' _ _ | exact heap_newD _ _ | exact heap_old2 _ _ _ | exact heap_old2D _ _ _ | exact heap_new2 _ _ _ _ rfl | exact heap_new2D _ _ _)) | (refine After.heap (After.alloc hb5 _) ?_; (first | exact heap_new' _ _ | exact heap_newD _ _ | exact heap_old2 _ _ _ | exact heap_old2D _ _ _ | exact heap_new2 _ _ _ _ rfl | exact heap_new2D _ _ _)))))) | (have hG : w6.heap[w3.heap.size]? = some (.cells #[.string ⟨#[]⟩, .slice none 0 0] 74 (0, 0)) := by (first | (first | exact heap_new' _ _ | exact heap_newD _ _ | exact heap_old2 _ _ _ | exact heap_old2D _ _ _ | exact heap_new2 _ _ _ _ rfl | exact heap_new2D _ _ _) | (refine After.heap hb6 ?_; (first | (first | exact heap_new' _ _ | exact heap_newD _ _ | exact heap_old2 _ _ _ | exact heap_old2D _ _ _ | exact heap_new2 _ _ _ _ rfl | exact heap_new2D _ _ _) | (refine After.heap hb5 ?_; (first | (first | exact heap_new' _ _ | exact heap_newD _ _ | exact heap_old2 _ _ _ | exact heap_old2D _ _ _ | exact heap_new2 _ _ _ _ rfl | exact heap_new2D _ _ _) | (refine After.heap hb4 ?_; (first | exact heap_new' _ _ | exact heap_newD _ _ | exact heap_old2 _ _ _ | exact heap_old2D _ _ _ | exact heap_new2 _ _ _ _ rfl | exact heap_new2D _ _ _)) | (refine After.heap (After.alloc hb4 _) ?_; (first | exact heap_new' _ _ | exact heap_newD _ _ | exact heap_old2 _ _ _ | exact heap_old2D _ _ _ | exact heap_new2 _ _ _ _ rfl | exact heap_new2D _ _ _)))) | (refine After.heap (After.alloc hb5 _) ?_; (first | (first | exact heap_new' _ _ | exact heap_newD _ _ | exact heap_old2 _ _ _ | exact heap_old2D _ _ _ | exact heap_new2 _ _ _ _ rfl | exact heap_new2D _ _ _) | (refine After.heap hb4 ?_; (first | exact heap_new' _ _ | exact heap_newD _ _ | exact heap_old2 _ _ _ | exact heap_old2D _ _ _ | exact heap_new2 _ _ _ _ rfl | exact heap_new2D _ _ _)) | (refine After.heap (After.alloc hb4 _) ?_; (first | exact heap_new' _ _ | exact heap_newD _ _ | exact heap_old2 _ _ _ | exact heap_old2D _ _ _ | exact heap_new2 _ _ _ _ rfl | exact heap_new2D _ _ _)))))) | (refine After.heap (After.alloc hb6 _) ?_; (first | (first | exact heap_new' _ _ | exact heap_newD _ _ | exact heap_old2 _ _ _ | exact heap_old2D _ _ _ | exact heap_new2 _ _ _ _ rfl | exact heap_new2D _ _ _) | (refine After.heap hb5 ?_; (first | (first | exact heap_new' _ _ | exact heap_newD _ _ | exact heap_old2 _ _ _ | exact heap_old2D _ _ _ | exact heap_new2 _ _ _ _ rfl | exact heap_new2D _ _ _) | (refine After.heap hb4 ?_; (first | exact heap_new' _ _ | exact heap_newD _ _ | exact heap_old2 _ _ _ | exact heap_old2D _ _ _ | exact heap_new2 _ _ _ _ rfl | exact heap_new2D _ _ _)) | (refine After.heap (After.alloc hb4 _) ?_; (first | exact heap_new' _ _ | exact heap_newD _ _ | exact heap_old2 _ _ _ | exact heap_old2D _ _ _ | exact heap_new2 _ _ _ _ rfl | exact heap_new2D _ _ _)))) | (refine After.heap (After.alloc hb5 _) ?_; (first | (first | exact heap_new' _ _ | exact heap_newD _ _ | exact heap_old2 _ _ _ | exact heap_old2D _ _ _ | exact heap_new2 _ _ _ _ rfl | exact heap_new2D _ _ _) | (refine After.heap hb4 ?_; (first | exact heap_new' _ _ | exact heap_newD _ _ | exact heap_old2 _ _ _ | exact heap_old2D _ _ _ | exact heap_new2 _ _ _ _ rfl | exact heap_new2D _ _ _)) | (refine After.heap (After.alloc hb4 _) ?_; (first | exact heap_new' _ _ | exact heap_newD _ _ | exact heap_old2 _ _ _ | exact heap_old2D _ _ _ | exact heap_new2 _ _ _ _ rfl | exact heap_new2D _ _ _)))))))) | (have hG : w6.heap[w3.heap.size + 1]? = some (.cells #[.string ⟨#[]⟩, .slice none 0 0] 74 (0, 0)) := by (first | (first | exact heap_new' _ _ | exact heap_newD _ _ | exact heap_old2 _ _ _ | exact heap_old2D _ _ _ | exact heap_new2 _ _ _ _ rfl | exact heap_new2D _ _ _) | (refine After.heap hb6 ?_; (first | (first | exact heap_new' _ _ | exact heap_newD _ _ | exact heap_old2 _ _ _ | exact heap_old2D _ _ _ | exact heap_new2 _ _ _ _ rfl | exact heap_new2D _ _ _) | (refine After.heap hb5 ?_; (first | (first | exact heap_new' _ _ | exact heap_newD _ _ | exact heap_old2 _ _ _ | exact heap_old2D _ _ _ | exact heap_new2 _ _ _ _ rfl | exact heap_new2D _ _ _) | (refine After.heap hb4 ?_; (first | exact heap_new' _ _ | exact heap_newD _ _ | exact heap_old2 _ _ _ | exact heap_old2D _ _ _ | exact heap_new2 _ _ _ _ rfl | exact heap_new2D _ _ _)) | (refine After.heap (After.alloc hb4 _) ?_; (first | exact heap_new' _ _ | exact heap_newD _ _ | exact heap_old2 _ _ _ | exact heap_old2D _ _ _ | exact heap_new2 _ _ _ _ rfl | exact heap_new2D _ _ _)))) | (refine After.heap (After.alloc hb5 _) ?_; (first | (first | exact heap_new' _ _ | exact heap_newD _ _ | exact heap_old2 _ _ _ | exact heap_old2D _ _ _ | exact heap_new2 _ _ _ _ rfl | exact heap_new2D _ _ _) | (refine After.heap hb4 ?_; (first | exact heap_new' _ _ | exact heap_newD _ _ | exact heap_old2 _ _ _ | exact heap_old2D _ _ _ | exact heap_new2 _ _ _ _ rfl | exact heap_new2D _ _ _)) | (refine After.heap (After.alloc hb4 _) ?_; (first | exact heap_new' _ _ | exact heap_newD _ _ | exact heap_old2 _ _ _ | exact heap_old2D _ _ _ | exact heap_new2 _ _ _ _ rfl | exact heap_new2D _ _ _)))))) | (refine After.heap (After.alloc hb6 _) ?_; (first | (first | exact heap_new' _ _ | exact heap_newD _ _ | exact heap_old2 _ _ _ | exact heap_old2D _ _ _ | exact heap_new2 _ _ _ _ rfl | exact heap_new2D _ _ _) | (refine After.heap hb5 ?_; (first | (first | exact heap_new' _ _ | exact heap_newD _ _ | exact heap_old2 _ _ _ | exact heap_old2D _ _ _ | exact heap_new2 _ _ _ _ rfl | exact heap_new2D _ _ _) | (refine After.heap hb4 ?_; (first | exact heap_new' _ _ | exact heap_newD _ _ | exact heap_old2 _ _ _ | exact heap_old2D _ _ _ | exact heap_new2 _ _ _ _ rfl | exact heap_new2D _ _ _)) | (refine After.heap (After.alloc hb4 _) ?_; (first | exact heap_new' _ _ | exact heap_newD _ _ | exact heap_old2 _ _ _ | exact heap_old2D _ _ _ | exact heap_new2 _ _ _ _ rfl | exact heap_new2D _ _ _)))) | (refine After.heap (After.alloc hb5 _) ?_; (first | (first | exact heap_new' _ _ | exact heap_newD _ _ | exact heap_old2 _ _ _ | exact heap_old2D _ _ _ | exact heap_new2 _ _ _ _ rfl | exact heap_new2D _ _ _) | (refine After.heap hb4 ?_; (first | exact heap_new' _ _ | exact heap_newD _ _ | exact heap_old2 _ _ _ | exact heap_old2D _ _ _ | exact heap_new2 _ _ _ _ rfl | exact heap_new2D _ _ _)) | (refine After.heap (After.alloc hb4 _) ?_; (first | exact heap_new' _ _ | exact heap_newD _ _ | exact heap_old2 _ _ _ | exact heap_old2D _ _ _ | exact heap_new2 _ _ _ _ rfl | exact heap_new2D _ _ _)))))))))
              have HG := Lib.hid hG
              obtain ⟨g0, g1, g2, g3, g4⟩ := pair_facts hG (After.refl _)
              clear hG)
           | skip))
  all_goals
    have hr := HR.out
    clear hb3 hb4 hb5 k0 k1 k2 k3
    first
      | (have hbox := heap_sets2 (u := str t6) (u' := .slice ao6 n6 c6) HG.out
         have hst := HT6.out.sets2 (u := str t6) (u' := .slice ao6 n6 c6) (i := 0) (j := 1) HG.out
         have hAc := after_sets2 hA6 HG.out (by omega) (str t6) (.slice ao6 n6 c6)
         clear HG g0 g1 g2 g3 g4)
      | (have hbox := heap_new' w6 (.cells #[str t6, .slice ao6 n6 c6] 74)
         have hst := HT6.out.later (After.new w6 (.cells #[str t6, .slice ao6 n6 c6] 74))
         have hAc := hA6.alloc (.cells #[str t6, .slice ao6 n6 c6] 74))
    obtain ⟨y0, y1, y2, y3, y4⟩ := pair_facts hbox (After.refl _)
    have hfine := hst.fine hgp (by have := HSZ.out; omega)
    have hbl := hbox
    have HBX := Lib.hid hbox
    have HST := Lib.hid hst
    have HAC := Lib.hid hAc
    rw [← HFB.out] at hfine
    clear hbox hst hAc hbl hA6 hA5 hA4 hb6 HT6 HT5
    cases fb
    all_goals
      simp only [if_true, Bool.false_eq_true, if_false] at hr
      subst hr
      go_wp2_with fail
      refine hfine.mono ?_
      rintro e w7 ⟨rfl, hb7⟩
      obtain ⟨i0, i1, i2, i3, i4⟩ := pair_facts HBX.out hb7
      have htx := (HST.out.later hb7).text hgp (by have := HSZ.out; omega)
      clear hfine y0 y1 y2 y3 y4
      go_wp2_with (go_at_call 79; refine htx.mono ?_; rintro e w8 ⟨rfl, hb8⟩)
      go_ret2
      first
        | exact ⟨rfl, HAX.out.trans ((HAC.out.trans hb7).trans hb8)⟩
        | exact ⟨rfl, HAX.out.trans (HAC.out.trans hb7)⟩

theorem spec_pair (w : World) (l m : List UInt8) (hl : l.length ≤ 1000000000) (hm : m.length ≤ 1000000000) :
    Calls Try.prog 47 #[str l, str m] w (SNumOne w (pPair l m)) := by
  unfold pPair
  cases hp : Tm.parse l with
  | none => exact s_pair_none1 w l m hl hm hp
  | some t =>
    cases hq : Tm.parse m with
    | none => exact s_pair_none2 w l m hl hm (by rw [hp]; rfl) hq
    | some u => exact s_pair_some w l m t u hl hm hp hq

end Go.Proofs.Ytipmgfbncfkmiaa

namespace Go.Proofs.Ytipmgfbncfkmiaa
open Go.RowKit

set_option maxHeartbeats 4000000
set_option maxRecDepth 100000

end Go.Proofs.Ytipmgfbncfkmiaa
