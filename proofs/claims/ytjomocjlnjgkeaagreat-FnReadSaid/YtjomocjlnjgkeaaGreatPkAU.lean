/-
  The walks of two promises' laws: closed terms; data: whatever the code, the law returns true.
-/
import Derived.Test.YtjomocjlnjgkeaaGreatPkAT
import Derived.Test.YtjomocjlnjgkeaaGreatPkAG
import Derived.Test.YtjomocjlnjgkeaaGreatPkAS
import Derived.Test.YtjomocjlnjgkeaaGreatPkAK
import Derived.Test.YtjomocjlnjgkeaaGreatPkAH
namespace Go.Proofs.YtjomocjlnjgkeaaGreat
open Go.RowKit

set_option maxHeartbeats 1000000
set_option maxRecDepth 100000

namespace Tm
theorem star_has {t u : Tm} (h : Star t u) (n : List UInt8) : has n u = true → has n t = true := by
  induction h with
  | refl => exact id
  | tail _ p ih => exact fun hu => ih (par_has p n hu)

theorem names_nil {t : Tm} : names [] t = [] ↔ ∀ n, has n t = false := by
  rw [List.eq_nil_iff_forall_not_mem]
  constructor
  · intro h n
    have := h n
    rw [mem_names] at this
    simpa using this
  · intro h n
    rw [mem_names]
    simp [h n]

theorem closed_text {t : Tm} (hg : t.good = true) (hf : t.fits = true) (h : ∀ n, has n t = false) : pClosed t.text = true := by
  unfold pClosed
  rw [parse_text hg hf]
  simp [names_nil.2 h]

theorem closed_factsP {l : List UInt8} (h : pClosed l = true) : pPut l [120] [107] = some l ∧ ∀ y n, pNorm l = some (y, n) → pClosed y = true ∧ y.length ≤ 21000 := by
  unfold pClosed at h
  cases hp : parse l with
  | none => rw [hp] at h; simp at h
  | some t =>
    rw [hp] at h
    obtain ⟨rfl, hg, hf⟩ := parse_text_iff hp
    have h0 : names [] t = [] := by simpa using h
    have hn := names_nil.1 h0
    refine ⟨?_, fun y n hy => ?_⟩
    · unfold pPut
      rw [hp, show parse [107] = some k from parse_text (t := k) rfl rfl]
      simp only
      rw [put_none _ _ _ (hn _), hf, if_pos (by decide +kernel)]
    · unfold pNorm at hy
      rw [hp] at hy
      simp only [Option.map_eq_some_iff] at hy
      obtain ⟨⟨u, m⟩, hu, he⟩ := hy
      simp only [Prod.mk.injEq] at he
      obtain ⟨rfl, rfl⟩ := he
      obtain ⟨g1, g2⟩ := norm_good hu hg hf
      refine ⟨closed_text g1 g2 fun n => ?_, (parse_facts (parse_text g1 g2)).2.2.2.2⟩
      cases hc : has n u with
      | false => rfl
      | true => have := star_has (norm_star hu).1 n hc; rw [hn n] at this; cases this

theorem pNorm_normal {t : Tm} (hg : t.good = true) (hf : t.fits = true) (h : step t = none) : (pNorm t.text).isSome = true := by
  unfold pNorm
  rw [parse_text hg hf]
  simp [norm_of_normal h]

theorem data_facts {l : List UInt8} {t : Tm} (h : data l = some t) : pClosed t.text = true ∧ ((l == [102, 105, 120]) = true ∨ ((l == [102, 105, 120]) = false ∧ (pNorm t.text).isSome = true)) := by
  obtain ⟨hg, hz⟩ := data_good h
  have hd := depth_lt t
  have hf : t.fits = true := by simp [fits]; omega
  refine ⟨?_, ?_⟩
  · unfold pClosed
    rw [parse_text hg hf]
    unfold data at h
    repeat' split at h
    all_goals first | (obtain rfl := Option.some.inj h; decide +kernel) | cases h
  · by_cases hl : l = [102, 105, 120]
    · left; simp [hl]
    · right
      refine ⟨by simp [hl], pNorm_normal hg hf ?_⟩
      unfold data at h
      repeat' split at h
      all_goals first | contradiction | (obtain rfl := Option.some.inj h; decide +kernel) | cases h
end Tm

end Go.Proofs.YtjomocjlnjgkeaaGreat

namespace Go.Proofs.YtjomocjlnjgkeaaGreat
open Go.RowKit

set_option maxHeartbeats 1000000
set_option maxRecDepth 100000

theorem pair_len {l m x : List UInt8} (h : pPair l m = some x) : x.length ≤ 21000 := by
  unfold pPair at h
  cases hp : Tm.parse l with
  | none => rw [hp] at h; simp at h
  | some t =>
    cases hq : Tm.parse m with
    | none => rw [hp, hq] at h; simp at h
    | some u =>
      rw [hp, hq] at h
      simp only at h
      split at h
      · rename_i hf
        obtain rfl := Option.some.inj h
        have hg : (Tm.pair t u).good = true := by rw [Tm.good_pair, (Tm.parse_facts hp).1, (Tm.parse_facts hq).1]; rfl
        have := Tm.text_le _ hg
        have := fits_size hf
        omega
      · cases h

theorem num_len (k : Nat) (hk : k ≤ 60) : (Tm.num k).text.length ≤ 5000 := by
  have h1 := Tm.text_le _ (Tm.good_num k)
  have h2 := Tm.size_num k
  omega

theorem pNumber_nat (k : Nat) (hk : k ≤ 60) : pNumber (k : Int) = some (Tm.num k).text := by
  unfold pNumber
  rw [if_pos (by omega)]
  rfl

def sgL : List (List UInt8) := [[115, 117, 99, 99], [112, 114, 101, 100]]

theorem draw_numread (w : World) (v : Value) (n : Nat) (h : CodeArg w v n) : Calls Tryz.prog 7 #[v] w (DrawPost w) := by
  have hopen := open_any w v n h
  clear h
  go_enter Tryz.func7, Tryz.ntmps7
  go_wp2_with fail
  refine hopen.mono ?_
  rintro e w1 ⟨rb, rfl, hr, ha, hd⟩
  have hp1 := pick_any w1 rb 0 8 hd (by omega) (by decide) (by decide)
  clear hopen hd
  go_wp2_with fail
  refine hp1.mono ?_
  rintro e w2 ⟨k, hk, rfl, hg2, hd2⟩
  have hnum := spec_number w2 (k : Int)
  unfold SNumOne at hnum
  rw [pNumber_nat k (by omega)] at hnum
  have hnl := num_len k (by omega)
  generalize (Tm.num k).text = x at hnum hnl
  clear hp1
  have HD2 := Lib.hid hd2
  clear hd2
  go_wp2_with fail
  refine hnum.mono ?_
  rintro e w3 ⟨rfl, ha3⟩
  have hd3 := HD2.out.after ha3
  have hlt := hd3.lt
  have hof := of_any (w3.alloc (.cells (sgL.map str).toArray 9)) rb (0 + 1) w3.heap.size (0, 0) sgL (heap_top w3 _) (by decide) (by decide) (by omega) (hd3.after (below_new w3 _)) (by omega)
  have ha3' := (after_open ha hg2 hr).trans ha3
  clear hnum hd3
  go_wp2_with fail
  refine hof.mono ?_
  rintro e w4 ⟨s, hs, rfl, hg4, hd4⟩
  have ha4 := after_open ha3' (grown_new hg4 hlt) hr
  have hdat := spec_data w4 s
  unfold SNumOne at hdat
  obtain ⟨y, hy, hyl⟩ : ∃ y, pData s = some y ∧ y.length ≤ 1000 := by
    simp only [sgL, List.mem_cons, List.not_mem_nil, or_false] at hs
    rcases hs with rfl | rfl
    · exact ⟨Tm.succ.text, rfl, by decide +kernel⟩
    · exact ⟨Tm.pred.text, rfl, by decide +kernel⟩
  rw [hy] at hdat
  have HD4 := Lib.hid hd4
  clear hof hd4 hs hy
  go_wp2_with fail
  refine hdat.mono ?_
  rintro e w5 ⟨rfl, ha5⟩
  have hp2 := pick_any w5 rb (0 + 1 + 1) 5 (HD4.out.after ha5) (by omega) (by decide) (by decide)
  clear hdat
  go_wp2_with fail
  refine hp2.mono ?_
  rintro e w6 ⟨j, hj, rfl, hg6, hd6⟩
  have HD6 := Lib.hid hd6
  have ha6 := after_open (ha4.trans ha5) hg6 hr
  clear hp2 hd6
  have zx := ssize x
  have zy := ssize y
  have q1 : (⟨#[40]⟩ : ByteArray).size = 1 := rfl
  have q2 : (⟨#[32]⟩ : ByteArray).size = 1 := rfl
  have q3 : (⟨#[41]⟩ : ByteArray).size = 1 := rfl
  have q4 : (⟨#[32, 40]⟩ : ByteArray).size = 2 := rfl
  have q5 : (⟨#[41, 41]⟩ : ByteArray).size = 2 := rfl
  by_cases hj0 : j = 0
  · subst hj0
    have hodd := odd_any w6 rb (0 + 1 + 1 + 1) HD6.out (by omega)
    clear zx zy q1 q2 q3 q4 q5
    go_wp2_with fail
    refine hodd.mono ?_
    rintro e w7 ⟨s, q, rfl, hs, hq, hg, hd⟩
    clear hodd hd
    go_wp2_with fail
    go_ret
    exact ⟨s, rfl, by omega, after_open ha6 hg hr⟩
  · have hj1 : ((j : Int) == 0) = false := by rw [beq_eq_false_iff_ne]; omega
    by_cases hj2 : j = 1
    · subst hj2
      clear q1 q2 q3 q4 q5
      go_wp2_with fail
      go_ret
      exact ⟨⟨x.toArray⟩, rfl, by rw [ssize]; omega, ha6⟩
    · have hj3 : ((j : Int) == 1) = false := by rw [beq_eq_false_iff_ne]; omega
      by_cases hj4 : j = 2
      · subst hj4
        obtain ⟨c1, z1, e1⟩ := cat2 ⟨#[40]⟩ ⟨y.toArray⟩ (by omega)
        obtain ⟨c2, z2, e2⟩ := cat2 c1 ⟨#[32, 40]⟩ (by omega)
        obtain ⟨c3, z3, e3⟩ := cat2 c2 ⟨y.toArray⟩ (by omega)
        obtain ⟨c4, z4, e4⟩ := cat2 c3 ⟨#[32]⟩ (by omega)
        obtain ⟨c5, z5, e5⟩ := cat2 c4 ⟨x.toArray⟩ (by omega)
        obtain ⟨c6, z6, e6⟩ := cat2 c5 ⟨#[41, 41]⟩ (by omega)
        have hfin : c6.size ≤ 100000 := by omega
        clear zx zy q1 q2 q3 q4 q5 z1 z2 z3 z4 z5 z6
        go_wp2_with fail
        go_ret
        exact ⟨c6, rfl, hfin, ha6⟩
      · have hj5 : ((j : Int) == 2) = false := by rw [beq_eq_false_iff_ne]; omega
        obtain ⟨c1, z1, e1⟩ := cat2 ⟨#[40]⟩ ⟨y.toArray⟩ (by omega)
        obtain ⟨c2, z2, e2⟩ := cat2 c1 ⟨#[32]⟩ (by omega)
        obtain ⟨c3, z3, e3⟩ := cat2 c2 ⟨x.toArray⟩ (by omega)
        obtain ⟨c4, z4, e4⟩ := cat2 c3 ⟨#[41]⟩ (by omega)
        have hfin : c4.size ≤ 100000 := by omega
        clear zx zy q1 q2 q3 q4 q5 z1 z2 z3 z4
        go_wp2_with fail
        go_ret
        exact ⟨c4, rfl, hfin, ha6⟩
end Go.Proofs.YtjomocjlnjgkeaaGreat

namespace Go.Proofs.YtjomocjlnjgkeaaGreat
open Go.RowKit

set_option maxHeartbeats 2000000
set_option maxRecDepth 100000

def SPartsPost (w : World) (r : Option (Tm × Tm)) (e : Ending) (w' : World) : Prop :=
  ∃ s1 a1 n1 c1 s2 a2 n2 c2, e = .returned (.tuple #[.agg #[str s1, .slice a1 n1 c1], .agg #[str s2, .slice a2 n2 c2], .bool r.isSome]) ∧ After w w' ∧ ∀ m n, r = some (m, n) → ST w' m (.agg #[str s1, .slice a1 n1 c1]) ∧ ST w' n (.agg #[str s2, .slice a2 n2 c2])

theorem pw_a (w : World) (sr : List UInt8) (ar : Option Addr) (nr cr : Nat) (hs : sr.isEmpty = false) :
    Calls Tryz.prog 56 #[.agg #[str sr, .slice ar nr cr]] w (SPartsPost w none) := by
  have hx3 := ((After.new w (.cells #[str sr, .slice ar nr cr] 49)).alloc (.cells #[.string ⟨#[]⟩, .slice none 0 0] 49)).alloc (.cells #[.string ⟨#[]⟩, .slice none 0 0] 49)
  go_enter Tryz.func56, Tryz.ntmps56
  go_wp2_with fail
  go_region
  all_goals
    go_wp2_with fail
    refine bodyPost_ret (v := .tuple #[.agg #[str sr, .slice ar nr cr], .agg #[str sr, .slice ar nr cr], .bool false]) (by simp [results, Tryz.results56, go_sem]) rfl ⟨_, _, _, _, _, _, _, _, rfl, (by repeat (first | exact After.refl _ | exact After.new _ _ | apply After.drew | apply After.alloc | refine Below.setCell ?_ (by simp) _)), fun m n h => by cases h⟩

theorem pw_b (w : World) (gr qr : Nat) (frr : Nat × Nat) (sx : List UInt8) (ax : Option Addr) (nx cx : Nat) (sy : List UInt8) (ay : Option Addr) (ny cy : Nat) (hr : w.heap[gr]? = some (.cells #[str sx, .slice ax nx cx, str sy, .slice ay ny cy] 49 frr)) (hs : sy.isEmpty = false) :
    Calls Tryz.prog 56 #[.agg #[str [], .slice (some ⟨gr, 0, none⟩) 2 qr]] w (SPartsPost w none) := by
  have kr0 : w.cell? ⟨gr, 0, none⟩ = some (str sx) := cell_of_heap hr
  have kr1 : w.cell? ⟨gr, 1, none⟩ = some (.slice ax nx cx) := cell_of_heap hr
  have kr2 : w.cell? ⟨gr, 2, none⟩ = some (str sy) := cell_of_heap hr
  have kr3 : w.cell? ⟨gr, 3, none⟩ = some (.slice ay ny cy) := cell_of_heap hr
  have lr := (Array.getElem?_eq_some_iff.1 hr).1
  clear hr
  have hx3 := ((After.new w (.cells #[str [], .slice (some ⟨gr, 0, none⟩) 2 qr] 49)).alloc (.cells #[.string ⟨#[]⟩, .slice none 0 0] 49)).alloc (.cells #[.string ⟨#[]⟩, .slice none 0 0] 49)
  have x3r0 := hx3.cell kr0
  have x3r1 := hx3.cell kr1
  have x3r2 := hx3.cell kr2
  have x3r3 := hx3.cell kr3
  go_enter Tryz.func56, Tryz.ntmps56
  go_wp2_with fail
  go_region
  all_goals
    go_wp2_with fail
    refine bodyPost_ret (v := .tuple #[.agg #[str [], .slice (some ⟨gr, 0, none⟩) 2 qr], .agg #[str [], .slice (some ⟨gr, 0, none⟩) 2 qr], .bool false]) (by simp [results, Tryz.results56, go_sem]) rfl ⟨_, _, _, _, _, _, _, _, rfl, (by repeat (first | exact After.refl _ | exact After.new _ _ | apply After.drew | apply After.alloc | refine Below.setCell ?_ (by simp) _)), fun m n h => by cases h⟩

theorem pw_c (w : World) (gr qr : Nat) (frr : Nat × Nat) (sx : List UInt8) (ax : Option Addr) (nx cx : Nat) (gy qy : Nat) (fry : Nat × Nat) (su : List UInt8) (au : Option Addr) (nu cu : Nat) (sv : List UInt8) (av : Option Addr) (nv cv : Nat) (hr : w.heap[gr]? = some (.cells #[str sx, .slice ax nx cx, str [], .slice (some ⟨gy, 0, none⟩) 2 qy] 49 frr)) (hy : w.heap[gy]? = some (.cells #[str su, .slice au nu cu, str sv, .slice av nv cv] 49 fry)) (hs : sx.isEmpty = false) :
    Calls Tryz.prog 56 #[.agg #[str [], .slice (some ⟨gr, 0, none⟩) 2 qr]] w (SPartsPost w none) := by
  have kr0 : w.cell? ⟨gr, 0, none⟩ = some (str sx) := cell_of_heap hr
  have kr1 : w.cell? ⟨gr, 1, none⟩ = some (.slice ax nx cx) := cell_of_heap hr
  have kr2 : w.cell? ⟨gr, 2, none⟩ = some (str []) := cell_of_heap hr
  have kr3 : w.cell? ⟨gr, 3, none⟩ = some (.slice (some ⟨gy, 0, none⟩) 2 qy) := cell_of_heap hr
  have lr := (Array.getElem?_eq_some_iff.1 hr).1
  clear hr
  have ky0 : w.cell? ⟨gy, 0, none⟩ = some (str su) := cell_of_heap hy
  have ky1 : w.cell? ⟨gy, 1, none⟩ = some (.slice au nu cu) := cell_of_heap hy
  have ky2 : w.cell? ⟨gy, 2, none⟩ = some (str sv) := cell_of_heap hy
  have ky3 : w.cell? ⟨gy, 3, none⟩ = some (.slice av nv cv) := cell_of_heap hy
  have ly := (Array.getElem?_eq_some_iff.1 hy).1
  clear hy
  have hx3 := ((After.new w (.cells #[str [], .slice (some ⟨gr, 0, none⟩) 2 qr] 49)).alloc (.cells #[.string ⟨#[]⟩, .slice none 0 0] 49)).alloc (.cells #[.string ⟨#[]⟩, .slice none 0 0] 49)
  have x3r0 := hx3.cell kr0
  have x3r1 := hx3.cell kr1
  have x3r2 := hx3.cell kr2
  have x3r3 := hx3.cell kr3
  go_enter Tryz.func56, Tryz.ntmps56
  go_wp2_with fail
  go_region
  all_goals
    go_wp2_with fail
    refine bodyPost_ret (v := .tuple #[.agg #[str [], .slice (some ⟨gr, 0, none⟩) 2 qr], .agg #[str [], .slice (some ⟨gr, 0, none⟩) 2 qr], .bool false]) (by simp [results, Tryz.results56, go_sem]) rfl ⟨_, _, _, _, _, _, _, _, rfl, (by repeat (first | exact After.refl _ | exact After.new _ _ | apply After.drew | apply After.alloc | refine Below.setCell ?_ (by simp) _)), fun m n h => by cases h⟩

theorem pw_d (w : World) (gr qr : Nat) (frr : Nat × Nat) (gx qx : Nat) (frx : Nat × Nat) (sf : List UInt8) (af : Option Addr) (nf cf : Nat) (si : List UInt8) (ai : Option Addr) (ni ci : Nat) (gy qy : Nat) (fry : Nat × Nat) (su : List UInt8) (au : Option Addr) (nu cu : Nat) (sv : List UInt8) (av : Option Addr) (nv cv : Nat) (hr : w.heap[gr]? = some (.cells #[str [], .slice (some ⟨gx, 0, none⟩) 2 qx, str [], .slice (some ⟨gy, 0, none⟩) 2 qy] 49 frr)) (hx : w.heap[gx]? = some (.cells #[str sf, .slice af nf cf, str si, .slice ai ni ci] 49 frx)) (hy : w.heap[gy]? = some (.cells #[str su, .slice au nu cu, str sv, .slice av nv cv] 49 fry)) (hs : (sf == [115]) = false) :
    Calls Tryz.prog 56 #[.agg #[str [], .slice (some ⟨gr, 0, none⟩) 2 qr]] w (SPartsPost w none) := by
  have kr0 : w.cell? ⟨gr, 0, none⟩ = some (str []) := cell_of_heap hr
  have kr1 : w.cell? ⟨gr, 1, none⟩ = some (.slice (some ⟨gx, 0, none⟩) 2 qx) := cell_of_heap hr
  have kr2 : w.cell? ⟨gr, 2, none⟩ = some (str []) := cell_of_heap hr
  have kr3 : w.cell? ⟨gr, 3, none⟩ = some (.slice (some ⟨gy, 0, none⟩) 2 qy) := cell_of_heap hr
  have lr := (Array.getElem?_eq_some_iff.1 hr).1
  clear hr
  have kx0 : w.cell? ⟨gx, 0, none⟩ = some (str sf) := cell_of_heap hx
  have kx1 : w.cell? ⟨gx, 1, none⟩ = some (.slice af nf cf) := cell_of_heap hx
  have kx2 : w.cell? ⟨gx, 2, none⟩ = some (str si) := cell_of_heap hx
  have kx3 : w.cell? ⟨gx, 3, none⟩ = some (.slice ai ni ci) := cell_of_heap hx
  have lx := (Array.getElem?_eq_some_iff.1 hx).1
  clear hx
  have ky0 : w.cell? ⟨gy, 0, none⟩ = some (str su) := cell_of_heap hy
  have ky1 : w.cell? ⟨gy, 1, none⟩ = some (.slice au nu cu) := cell_of_heap hy
  have ky2 : w.cell? ⟨gy, 2, none⟩ = some (str sv) := cell_of_heap hy
  have ky3 : w.cell? ⟨gy, 3, none⟩ = some (.slice av nv cv) := cell_of_heap hy
  have ly := (Array.getElem?_eq_some_iff.1 hy).1
  clear hy
  have hx3 := ((After.new w (.cells #[str [], .slice (some ⟨gr, 0, none⟩) 2 qr] 49)).alloc (.cells #[.string ⟨#[]⟩, .slice none 0 0] 49)).alloc (.cells #[.string ⟨#[]⟩, .slice none 0 0] 49)
  have x3r0 := hx3.cell kr0
  have x3r1 := hx3.cell kr1
  have x3r2 := hx3.cell kr2
  have x3r3 := hx3.cell kr3
  have hx4 := hx3.alloc (.cells #[str [], .slice (some ⟨gx, 0, none⟩) 2 qx] 49)
  have x4r0 := hx4.cell kr0
  have x4r1 := hx4.cell kr1
  have x4r2 := hx4.cell kr2
  have x4r3 := hx4.cell kr3
  have x4x0 := hx4.cell kx0
  have x4x1 := hx4.cell kx1
  have x4x2 := hx4.cell kx2
  have x4x3 := hx4.cell kx3
  have x4y0 := hx4.cell ky0
  have x4y1 := hx4.cell ky1
  have x4y2 := hx4.cell ky2
  have x4y3 := hx4.cell ky3
  go_enter Tryz.func56, Tryz.ntmps56
  go_wp2_with fail
  go_region
  all_goals
    go_wp2_with fail
    refine bodyPost_ret (v := .tuple #[.agg #[str [], .slice (some ⟨gr, 0, none⟩) 2 qr], .agg #[str [], .slice (some ⟨gr, 0, none⟩) 2 qr], .bool false]) (by simp [results, Tryz.results56, go_sem]) rfl ⟨_, _, _, _, _, _, _, _, rfl, (by repeat (first | exact After.refl _ | exact After.new _ _ | apply After.drew | apply After.alloc | refine Below.setCell ?_ (by simp) _)), fun m n h => by cases h⟩

theorem pw_e (w : World) (gr qr : Nat) (frr : Nat × Nat) (gx qx : Nat) (frx : Nat × Nat) (sf : List UInt8) (af : Option Addr) (nf cf : Nat) (si : List UInt8) (ai : Option Addr) (ni ci : Nat) (gy qy : Nat) (fry : Nat × Nat) (su : List UInt8) (au : Option Addr) (nu cu : Nat) (sv : List UInt8) (av : Option Addr) (nv cv : Nat) (hr : w.heap[gr]? = some (.cells #[str [], .slice (some ⟨gx, 0, none⟩) 2 qx, str [], .slice (some ⟨gy, 0, none⟩) 2 qy] 49 frr)) (hx : w.heap[gx]? = some (.cells #[str sf, .slice af nf cf, str si, .slice ai ni ci] 49 frx)) (hy : w.heap[gy]? = some (.cells #[str su, .slice au nu cu, str sv, .slice av nv cv] 49 fry)) (hf : sf = [115]) (hs : (su == [107]) = false) :
    Calls Tryz.prog 56 #[.agg #[str [], .slice (some ⟨gr, 0, none⟩) 2 qr]] w (SPartsPost w none) := by
  have kr0 : w.cell? ⟨gr, 0, none⟩ = some (str []) := cell_of_heap hr
  have kr1 : w.cell? ⟨gr, 1, none⟩ = some (.slice (some ⟨gx, 0, none⟩) 2 qx) := cell_of_heap hr
  have kr2 : w.cell? ⟨gr, 2, none⟩ = some (str []) := cell_of_heap hr
  have kr3 : w.cell? ⟨gr, 3, none⟩ = some (.slice (some ⟨gy, 0, none⟩) 2 qy) := cell_of_heap hr
  have lr := (Array.getElem?_eq_some_iff.1 hr).1
  clear hr
  have kx0 : w.cell? ⟨gx, 0, none⟩ = some (str sf) := cell_of_heap hx
  have kx1 : w.cell? ⟨gx, 1, none⟩ = some (.slice af nf cf) := cell_of_heap hx
  have kx2 : w.cell? ⟨gx, 2, none⟩ = some (str si) := cell_of_heap hx
  have kx3 : w.cell? ⟨gx, 3, none⟩ = some (.slice ai ni ci) := cell_of_heap hx
  have lx := (Array.getElem?_eq_some_iff.1 hx).1
  clear hx
  have ky0 : w.cell? ⟨gy, 0, none⟩ = some (str su) := cell_of_heap hy
  have ky1 : w.cell? ⟨gy, 1, none⟩ = some (.slice au nu cu) := cell_of_heap hy
  have ky2 : w.cell? ⟨gy, 2, none⟩ = some (str sv) := cell_of_heap hy
  have ky3 : w.cell? ⟨gy, 3, none⟩ = some (.slice av nv cv) := cell_of_heap hy
  have ly := (Array.getElem?_eq_some_iff.1 hy).1
  clear hy
  have hx3 := ((After.new w (.cells #[str [], .slice (some ⟨gr, 0, none⟩) 2 qr] 49)).alloc (.cells #[.string ⟨#[]⟩, .slice none 0 0] 49)).alloc (.cells #[.string ⟨#[]⟩, .slice none 0 0] 49)
  have x3r0 := hx3.cell kr0
  have x3r1 := hx3.cell kr1
  have x3r2 := hx3.cell kr2
  have x3r3 := hx3.cell kr3
  have hx4 := hx3.alloc (.cells #[str [], .slice (some ⟨gx, 0, none⟩) 2 qx] 49)
  have x4r0 := hx4.cell kr0
  have x4r1 := hx4.cell kr1
  have x4r2 := hx4.cell kr2
  have x4r3 := hx4.cell kr3
  have x4x0 := hx4.cell kx0
  have x4x1 := hx4.cell kx1
  have x4x2 := hx4.cell kx2
  have x4x3 := hx4.cell kx3
  have x4y0 := hx4.cell ky0
  have x4y1 := hx4.cell ky1
  have x4y2 := hx4.cell ky2
  have x4y3 := hx4.cell ky3
  subst hf
  go_enter Tryz.func56, Tryz.ntmps56
  go_wp2_with fail
  go_region
  all_goals
    go_wp2_with fail
    refine bodyPost_ret (v := .tuple #[.agg #[str [], .slice (some ⟨gr, 0, none⟩) 2 qr], .agg #[str [], .slice (some ⟨gr, 0, none⟩) 2 qr], .bool false]) (by simp [results, Tryz.results56, go_sem]) rfl ⟨_, _, _, _, _, _, _, _, rfl, (by repeat (first | exact After.refl _ | exact After.new _ _ | apply After.drew | apply After.alloc | refine Below.setCell ?_ (by simp) _)), fun m n h => by cases h⟩

theorem pw_f (w : World) (gr qr : Nat) (frr : Nat × Nat) (gx qx : Nat) (frx : Nat × Nat) (sf : List UInt8) (af : Option Addr) (nf cf : Nat) (si : List UInt8) (ai : Option Addr) (ni ci : Nat) (gy qy : Nat) (fry : Nat × Nat) (su : List UInt8) (au : Option Addr) (nu cu : Nat) (sv : List UInt8) (av : Option Addr) (nv cv : Nat) (hr : w.heap[gr]? = some (.cells #[str [], .slice (some ⟨gx, 0, none⟩) 2 qx, str [], .slice (some ⟨gy, 0, none⟩) 2 qy] 49 frr)) (hx : w.heap[gx]? = some (.cells #[str sf, .slice af nf cf, str si, .slice ai ni ci] 49 frx)) (hy : w.heap[gy]? = some (.cells #[str su, .slice au nu cu, str sv, .slice av nv cv] 49 fry)) (hf : sf = [115]) (hu : su = [107]) (hs : si.isEmpty = false) :
    Calls Tryz.prog 56 #[.agg #[str [], .slice (some ⟨gr, 0, none⟩) 2 qr]] w (SPartsPost w none) := by
  have kr0 : w.cell? ⟨gr, 0, none⟩ = some (str []) := cell_of_heap hr
  have kr1 : w.cell? ⟨gr, 1, none⟩ = some (.slice (some ⟨gx, 0, none⟩) 2 qx) := cell_of_heap hr
  have kr2 : w.cell? ⟨gr, 2, none⟩ = some (str []) := cell_of_heap hr
  have kr3 : w.cell? ⟨gr, 3, none⟩ = some (.slice (some ⟨gy, 0, none⟩) 2 qy) := cell_of_heap hr
  have lr := (Array.getElem?_eq_some_iff.1 hr).1
  clear hr
  have kx0 : w.cell? ⟨gx, 0, none⟩ = some (str sf) := cell_of_heap hx
  have kx1 : w.cell? ⟨gx, 1, none⟩ = some (.slice af nf cf) := cell_of_heap hx
  have kx2 : w.cell? ⟨gx, 2, none⟩ = some (str si) := cell_of_heap hx
  have kx3 : w.cell? ⟨gx, 3, none⟩ = some (.slice ai ni ci) := cell_of_heap hx
  have lx := (Array.getElem?_eq_some_iff.1 hx).1
  clear hx
  have ky0 : w.cell? ⟨gy, 0, none⟩ = some (str su) := cell_of_heap hy
  have ky1 : w.cell? ⟨gy, 1, none⟩ = some (.slice au nu cu) := cell_of_heap hy
  have ky2 : w.cell? ⟨gy, 2, none⟩ = some (str sv) := cell_of_heap hy
  have ky3 : w.cell? ⟨gy, 3, none⟩ = some (.slice av nv cv) := cell_of_heap hy
  have ly := (Array.getElem?_eq_some_iff.1 hy).1
  clear hy
  have hx3 := ((After.new w (.cells #[str [], .slice (some ⟨gr, 0, none⟩) 2 qr] 49)).alloc (.cells #[.string ⟨#[]⟩, .slice none 0 0] 49)).alloc (.cells #[.string ⟨#[]⟩, .slice none 0 0] 49)
  have x3r0 := hx3.cell kr0
  have x3r1 := hx3.cell kr1
  have x3r2 := hx3.cell kr2
  have x3r3 := hx3.cell kr3
  have hx4 := hx3.alloc (.cells #[str [], .slice (some ⟨gx, 0, none⟩) 2 qx] 49)
  have x4r0 := hx4.cell kr0
  have x4r1 := hx4.cell kr1
  have x4r2 := hx4.cell kr2
  have x4r3 := hx4.cell kr3
  have x4x0 := hx4.cell kx0
  have x4x1 := hx4.cell kx1
  have x4x2 := hx4.cell kx2
  have x4x3 := hx4.cell kx3
  have x4y0 := hx4.cell ky0
  have x4y1 := hx4.cell ky1
  have x4y2 := hx4.cell ky2
  have x4y3 := hx4.cell ky3
  subst hf
  subst hu
  go_enter Tryz.func56, Tryz.ntmps56
  go_wp2_with fail
  go_region
  all_goals
    go_wp2_with fail
    refine bodyPost_ret (v := .tuple #[.agg #[str [], .slice (some ⟨gr, 0, none⟩) 2 qr], .agg #[str [], .slice (some ⟨gr, 0, none⟩) 2 qr], .bool false]) (by simp [results, Tryz.results56, go_sem]) rfl ⟨_, _, _, _, _, _, _, _, rfl, (by repeat (first | exact After.refl _ | exact After.new _ _ | apply After.drew | apply After.alloc | refine Below.setCell ?_ (by simp) _)), fun m n h => by cases h⟩

theorem pw_g (w : World) (gr qr : Nat) (frr : Nat × Nat) (gx qx : Nat) (frx : Nat × Nat) (sf : List UInt8) (af : Option Addr) (nf cf : Nat) (gi qi : Nat) (fri : Nat × Nat) (sm : List UInt8) (am : Option Addr) (nm cm : Nat) (sn : List UInt8) (an : Option Addr) (nn cn : Nat) (gy qy : Nat) (fry : Nat × Nat) (su : List UInt8) (au : Option Addr) (nu cu : Nat) (sv : List UInt8) (av : Option Addr) (nv cv : Nat) (hr : w.heap[gr]? = some (.cells #[str [], .slice (some ⟨gx, 0, none⟩) 2 qx, str [], .slice (some ⟨gy, 0, none⟩) 2 qy] 49 frr)) (hx : w.heap[gx]? = some (.cells #[str sf, .slice af nf cf, str [], .slice (some ⟨gi, 0, none⟩) 2 qi] 49 frx)) (hi : w.heap[gi]? = some (.cells #[str sm, .slice am nm cm, str sn, .slice an nn cn] 49 fri)) (hy : w.heap[gy]? = some (.cells #[str su, .slice au nu cu, str sv, .slice av nv cv] 49 fry)) (hf : sf = [115]) (hu : su = [107]) (hs : sm.isEmpty = false) :
    Calls Tryz.prog 56 #[.agg #[str [], .slice (some ⟨gr, 0, none⟩) 2 qr]] w (SPartsPost w none) := by
  have kr0 : w.cell? ⟨gr, 0, none⟩ = some (str []) := cell_of_heap hr
  have kr1 : w.cell? ⟨gr, 1, none⟩ = some (.slice (some ⟨gx, 0, none⟩) 2 qx) := cell_of_heap hr
  have kr2 : w.cell? ⟨gr, 2, none⟩ = some (str []) := cell_of_heap hr
  have kr3 : w.cell? ⟨gr, 3, none⟩ = some (.slice (some ⟨gy, 0, none⟩) 2 qy) := cell_of_heap hr
  have lr := (Array.getElem?_eq_some_iff.1 hr).1
  clear hr
  have kx0 : w.cell? ⟨gx, 0, none⟩ = some (str sf) := cell_of_heap hx
  have kx1 : w.cell? ⟨gx, 1, none⟩ = some (.slice af nf cf) := cell_of_heap hx
  have kx2 : w.cell? ⟨gx, 2, none⟩ = some (str []) := cell_of_heap hx
  have kx3 : w.cell? ⟨gx, 3, none⟩ = some (.slice (some ⟨gi, 0, none⟩) 2 qi) := cell_of_heap hx
  have lx := (Array.getElem?_eq_some_iff.1 hx).1
  clear hx
  have ki0 : w.cell? ⟨gi, 0, none⟩ = some (str sm) := cell_of_heap hi
  have ki1 : w.cell? ⟨gi, 1, none⟩ = some (.slice am nm cm) := cell_of_heap hi
  have ki2 : w.cell? ⟨gi, 2, none⟩ = some (str sn) := cell_of_heap hi
  have ki3 : w.cell? ⟨gi, 3, none⟩ = some (.slice an nn cn) := cell_of_heap hi
  have li := (Array.getElem?_eq_some_iff.1 hi).1
  clear hi
  have ky0 : w.cell? ⟨gy, 0, none⟩ = some (str su) := cell_of_heap hy
  have ky1 : w.cell? ⟨gy, 1, none⟩ = some (.slice au nu cu) := cell_of_heap hy
  have ky2 : w.cell? ⟨gy, 2, none⟩ = some (str sv) := cell_of_heap hy
  have ky3 : w.cell? ⟨gy, 3, none⟩ = some (.slice av nv cv) := cell_of_heap hy
  have ly := (Array.getElem?_eq_some_iff.1 hy).1
  clear hy
  have hx3 := ((After.new w (.cells #[str [], .slice (some ⟨gr, 0, none⟩) 2 qr] 49)).alloc (.cells #[.string ⟨#[]⟩, .slice none 0 0] 49)).alloc (.cells #[.string ⟨#[]⟩, .slice none 0 0] 49)
  have x3r0 := hx3.cell kr0
  have x3r1 := hx3.cell kr1
  have x3r2 := hx3.cell kr2
  have x3r3 := hx3.cell kr3
  have hx4 := hx3.alloc (.cells #[str [], .slice (some ⟨gx, 0, none⟩) 2 qx] 49)
  have x4r0 := hx4.cell kr0
  have x4r1 := hx4.cell kr1
  have x4r2 := hx4.cell kr2
  have x4r3 := hx4.cell kr3
  have x4x0 := hx4.cell kx0
  have x4x1 := hx4.cell kx1
  have x4x2 := hx4.cell kx2
  have x4x3 := hx4.cell kx3
  have x4y0 := hx4.cell ky0
  have x4y1 := hx4.cell ky1
  have x4y2 := hx4.cell ky2
  have x4y3 := hx4.cell ky3
  have hx5 := hx4.alloc (.cells #[str [], .slice (some ⟨gi, 0, none⟩) 2 qi] 49)
  have x5r0 := hx5.cell kr0
  have x5r1 := hx5.cell kr1
  have x5r2 := hx5.cell kr2
  have x5r3 := hx5.cell kr3
  have x5x0 := hx5.cell kx0
  have x5x1 := hx5.cell kx1
  have x5x2 := hx5.cell kx2
  have x5x3 := hx5.cell kx3
  have x5i0 := hx5.cell ki0
  have x5i1 := hx5.cell ki1
  have x5i2 := hx5.cell ki2
  have x5i3 := hx5.cell ki3
  have x5y0 := hx5.cell ky0
  have x5y1 := hx5.cell ky1
  have x5y2 := hx5.cell ky2
  have x5y3 := hx5.cell ky3
  subst hf
  subst hu
  go_enter Tryz.func56, Tryz.ntmps56
  go_wp2_with fail
  go_region
  all_goals
    go_wp2_with fail
    refine bodyPost_ret (v := .tuple #[.agg #[str [], .slice (some ⟨gr, 0, none⟩) 2 qr], .agg #[str [], .slice (some ⟨gr, 0, none⟩) 2 qr], .bool false]) (by simp [results, Tryz.results56, go_sem]) rfl ⟨_, _, _, _, _, _, _, _, rfl, (by repeat (first | exact After.refl _ | exact After.new _ _ | apply After.drew | apply After.alloc | refine Below.setCell ?_ (by simp) _)), fun m n h => by cases h⟩

theorem pw_h (w : World) (gr qr : Nat) (frr : Nat × Nat) (gx qx : Nat) (frx : Nat × Nat) (sf : List UInt8) (af : Option Addr) (nf cf : Nat) (gi qi : Nat) (fri : Nat × Nat) (gm qm : Nat) (frm : Nat × Nat) (so : List UInt8) (ao : Option Addr) (no co : Nat) (sp : List UInt8) (ap : Option Addr) (np cp : Nat) (sn : List UInt8) (an : Option Addr) (nn cn : Nat) (gy qy : Nat) (fry : Nat × Nat) (su : List UInt8) (au : Option Addr) (nu cu : Nat) (sv : List UInt8) (av : Option Addr) (nv cv : Nat) (hr : w.heap[gr]? = some (.cells #[str [], .slice (some ⟨gx, 0, none⟩) 2 qx, str [], .slice (some ⟨gy, 0, none⟩) 2 qy] 49 frr)) (hx : w.heap[gx]? = some (.cells #[str sf, .slice af nf cf, str [], .slice (some ⟨gi, 0, none⟩) 2 qi] 49 frx)) (hi : w.heap[gi]? = some (.cells #[str [], .slice (some ⟨gm, 0, none⟩) 2 qm, str sn, .slice an nn cn] 49 fri)) (hm : w.heap[gm]? = some (.cells #[str so, .slice ao no co, str sp, .slice ap np cp] 49 frm)) (hy : w.heap[gy]? = some (.cells #[str su, .slice au nu cu, str sv, .slice av nv cv] 49 fry)) (hf : sf = [115]) (hu : su = [107]) (hs : sn.isEmpty = false) :
    Calls Tryz.prog 56 #[.agg #[str [], .slice (some ⟨gr, 0, none⟩) 2 qr]] w (SPartsPost w none) := by
  have kr0 : w.cell? ⟨gr, 0, none⟩ = some (str []) := cell_of_heap hr
  have kr1 : w.cell? ⟨gr, 1, none⟩ = some (.slice (some ⟨gx, 0, none⟩) 2 qx) := cell_of_heap hr
  have kr2 : w.cell? ⟨gr, 2, none⟩ = some (str []) := cell_of_heap hr
  have kr3 : w.cell? ⟨gr, 3, none⟩ = some (.slice (some ⟨gy, 0, none⟩) 2 qy) := cell_of_heap hr
  have lr := (Array.getElem?_eq_some_iff.1 hr).1
  clear hr
  have kx0 : w.cell? ⟨gx, 0, none⟩ = some (str sf) := cell_of_heap hx
  have kx1 : w.cell? ⟨gx, 1, none⟩ = some (.slice af nf cf) := cell_of_heap hx
  have kx2 : w.cell? ⟨gx, 2, none⟩ = some (str []) := cell_of_heap hx
  have kx3 : w.cell? ⟨gx, 3, none⟩ = some (.slice (some ⟨gi, 0, none⟩) 2 qi) := cell_of_heap hx
  have lx := (Array.getElem?_eq_some_iff.1 hx).1
  clear hx
  have ki0 : w.cell? ⟨gi, 0, none⟩ = some (str []) := cell_of_heap hi
  have ki1 : w.cell? ⟨gi, 1, none⟩ = some (.slice (some ⟨gm, 0, none⟩) 2 qm) := cell_of_heap hi
  have ki2 : w.cell? ⟨gi, 2, none⟩ = some (str sn) := cell_of_heap hi
  have ki3 : w.cell? ⟨gi, 3, none⟩ = some (.slice an nn cn) := cell_of_heap hi
  have li := (Array.getElem?_eq_some_iff.1 hi).1
  clear hi
  have km0 : w.cell? ⟨gm, 0, none⟩ = some (str so) := cell_of_heap hm
  have km1 : w.cell? ⟨gm, 1, none⟩ = some (.slice ao no co) := cell_of_heap hm
  have km2 : w.cell? ⟨gm, 2, none⟩ = some (str sp) := cell_of_heap hm
  have km3 : w.cell? ⟨gm, 3, none⟩ = some (.slice ap np cp) := cell_of_heap hm
  have lm := (Array.getElem?_eq_some_iff.1 hm).1
  clear hm
  have ky0 : w.cell? ⟨gy, 0, none⟩ = some (str su) := cell_of_heap hy
  have ky1 : w.cell? ⟨gy, 1, none⟩ = some (.slice au nu cu) := cell_of_heap hy
  have ky2 : w.cell? ⟨gy, 2, none⟩ = some (str sv) := cell_of_heap hy
  have ky3 : w.cell? ⟨gy, 3, none⟩ = some (.slice av nv cv) := cell_of_heap hy
  have ly := (Array.getElem?_eq_some_iff.1 hy).1
  clear hy
  have hx3 := ((After.new w (.cells #[str [], .slice (some ⟨gr, 0, none⟩) 2 qr] 49)).alloc (.cells #[.string ⟨#[]⟩, .slice none 0 0] 49)).alloc (.cells #[.string ⟨#[]⟩, .slice none 0 0] 49)
  have x3r0 := hx3.cell kr0
  have x3r1 := hx3.cell kr1
  have x3r2 := hx3.cell kr2
  have x3r3 := hx3.cell kr3
  have hx4 := hx3.alloc (.cells #[str [], .slice (some ⟨gx, 0, none⟩) 2 qx] 49)
  have x4r0 := hx4.cell kr0
  have x4r1 := hx4.cell kr1
  have x4r2 := hx4.cell kr2
  have x4r3 := hx4.cell kr3
  have x4x0 := hx4.cell kx0
  have x4x1 := hx4.cell kx1
  have x4x2 := hx4.cell kx2
  have x4x3 := hx4.cell kx3
  have x4y0 := hx4.cell ky0
  have x4y1 := hx4.cell ky1
  have x4y2 := hx4.cell ky2
  have x4y3 := hx4.cell ky3
  have hx5 := hx4.alloc (.cells #[str [], .slice (some ⟨gi, 0, none⟩) 2 qi] 49)
  have x5r0 := hx5.cell kr0
  have x5r1 := hx5.cell kr1
  have x5r2 := hx5.cell kr2
  have x5r3 := hx5.cell kr3
  have x5x0 := hx5.cell kx0
  have x5x1 := hx5.cell kx1
  have x5x2 := hx5.cell kx2
  have x5x3 := hx5.cell kx3
  have x5i0 := hx5.cell ki0
  have x5i1 := hx5.cell ki1
  have x5i2 := hx5.cell ki2
  have x5i3 := hx5.cell ki3
  have x5m0 := hx5.cell km0
  have x5m1 := hx5.cell km1
  have x5m2 := hx5.cell km2
  have x5m3 := hx5.cell km3
  have x5y0 := hx5.cell ky0
  have x5y1 := hx5.cell ky1
  have x5y2 := hx5.cell ky2
  have x5y3 := hx5.cell ky3
  subst hf
  subst hu
  go_enter Tryz.func56, Tryz.ntmps56
  go_wp2_with fail
  go_region
  all_goals
    go_wp2_with fail
    refine bodyPost_ret (v := .tuple #[.agg #[str [], .slice (some ⟨gr, 0, none⟩) 2 qr], .agg #[str [], .slice (some ⟨gr, 0, none⟩) 2 qr], .bool false]) (by simp [results, Tryz.results56, go_sem]) rfl ⟨_, _, _, _, _, _, _, _, rfl, (by repeat (first | exact After.refl _ | exact After.new _ _ | apply After.drew | apply After.alloc | refine Below.setCell ?_ (by simp) _)), fun m n h => by cases h⟩

theorem pw_i (w : World) (gr qr : Nat) (frr : Nat × Nat) (gx qx : Nat) (frx : Nat × Nat) (sf : List UInt8) (af : Option Addr) (nf cf : Nat) (gi qi : Nat) (fri : Nat × Nat) (gm qm : Nat) (frm : Nat × Nat) (so : List UInt8) (ao : Option Addr) (no co : Nat) (sp : List UInt8) (ap : Option Addr) (np cp : Nat) (gn qn : Nat) (frn : Nat × Nat) (sj : List UInt8) (aj : Option Addr) (nj cj : Nat) (se : List UInt8) (ae : Option Addr) (ne ce : Nat) (gy qy : Nat) (fry : Nat × Nat) (su : List UInt8) (au : Option Addr) (nu cu : Nat) (sv : List UInt8) (av : Option Addr) (nv cv : Nat) (hr : w.heap[gr]? = some (.cells #[str [], .slice (some ⟨gx, 0, none⟩) 2 qx, str [], .slice (some ⟨gy, 0, none⟩) 2 qy] 49 frr)) (hx : w.heap[gx]? = some (.cells #[str sf, .slice af nf cf, str [], .slice (some ⟨gi, 0, none⟩) 2 qi] 49 frx)) (hi : w.heap[gi]? = some (.cells #[str [], .slice (some ⟨gm, 0, none⟩) 2 qm, str [], .slice (some ⟨gn, 0, none⟩) 2 qn] 49 fri)) (hm : w.heap[gm]? = some (.cells #[str so, .slice ao no co, str sp, .slice ap np cp] 49 frm)) (hn : w.heap[gn]? = some (.cells #[str sj, .slice aj nj cj, str se, .slice ae ne ce] 49 frn)) (hy : w.heap[gy]? = some (.cells #[str su, .slice au nu cu, str sv, .slice av nv cv] 49 fry)) (hf : sf = [115]) (hu : su = [107]) (hs : (so == [115]) = false) :
    Calls Tryz.prog 56 #[.agg #[str [], .slice (some ⟨gr, 0, none⟩) 2 qr]] w (SPartsPost w none) := by
  have kr0 : w.cell? ⟨gr, 0, none⟩ = some (str []) := cell_of_heap hr
  have kr1 : w.cell? ⟨gr, 1, none⟩ = some (.slice (some ⟨gx, 0, none⟩) 2 qx) := cell_of_heap hr
  have kr2 : w.cell? ⟨gr, 2, none⟩ = some (str []) := cell_of_heap hr
  have kr3 : w.cell? ⟨gr, 3, none⟩ = some (.slice (some ⟨gy, 0, none⟩) 2 qy) := cell_of_heap hr
  have lr := (Array.getElem?_eq_some_iff.1 hr).1
  clear hr
  have kx0 : w.cell? ⟨gx, 0, none⟩ = some (str sf) := cell_of_heap hx
  have kx1 : w.cell? ⟨gx, 1, none⟩ = some (.slice af nf cf) := cell_of_heap hx
  have kx2 : w.cell? ⟨gx, 2, none⟩ = some (str []) := cell_of_heap hx
  have kx3 : w.cell? ⟨gx, 3, none⟩ = some (.slice (some ⟨gi, 0, none⟩) 2 qi) := cell_of_heap hx
  have lx := (Array.getElem?_eq_some_iff.1 hx).1
  clear hx
  have ki0 : w.cell? ⟨gi, 0, none⟩ = some (str []) := cell_of_heap hi
  have ki1 : w.cell? ⟨gi, 1, none⟩ = some (.slice (some ⟨gm, 0, none⟩) 2 qm) := cell_of_heap hi
  have ki2 : w.cell? ⟨gi, 2, none⟩ = some (str []) := cell_of_heap hi
  have ki3 : w.cell? ⟨gi, 3, none⟩ = some (.slice (some ⟨gn, 0, none⟩) 2 qn) := cell_of_heap hi
  have li := (Array.getElem?_eq_some_iff.1 hi).1
  clear hi
  have km0 : w.cell? ⟨gm, 0, none⟩ = some (str so) := cell_of_heap hm
  have km1 : w.cell? ⟨gm, 1, none⟩ = some (.slice ao no co) := cell_of_heap hm
  have km2 : w.cell? ⟨gm, 2, none⟩ = some (str sp) := cell_of_heap hm
  have km3 : w.cell? ⟨gm, 3, none⟩ = some (.slice ap np cp) := cell_of_heap hm
  have lm := (Array.getElem?_eq_some_iff.1 hm).1
  clear hm
  have kn0 : w.cell? ⟨gn, 0, none⟩ = some (str sj) := cell_of_heap hn
  have kn1 : w.cell? ⟨gn, 1, none⟩ = some (.slice aj nj cj) := cell_of_heap hn
  have kn2 : w.cell? ⟨gn, 2, none⟩ = some (str se) := cell_of_heap hn
  have kn3 : w.cell? ⟨gn, 3, none⟩ = some (.slice ae ne ce) := cell_of_heap hn
  have ln := (Array.getElem?_eq_some_iff.1 hn).1
  clear hn
  have ky0 : w.cell? ⟨gy, 0, none⟩ = some (str su) := cell_of_heap hy
  have ky1 : w.cell? ⟨gy, 1, none⟩ = some (.slice au nu cu) := cell_of_heap hy
  have ky2 : w.cell? ⟨gy, 2, none⟩ = some (str sv) := cell_of_heap hy
  have ky3 : w.cell? ⟨gy, 3, none⟩ = some (.slice av nv cv) := cell_of_heap hy
  have ly := (Array.getElem?_eq_some_iff.1 hy).1
  clear hy
  have hx3 := ((After.new w (.cells #[str [], .slice (some ⟨gr, 0, none⟩) 2 qr] 49)).alloc (.cells #[.string ⟨#[]⟩, .slice none 0 0] 49)).alloc (.cells #[.string ⟨#[]⟩, .slice none 0 0] 49)
  have x3r0 := hx3.cell kr0
  have x3r1 := hx3.cell kr1
  have x3r2 := hx3.cell kr2
  have x3r3 := hx3.cell kr3
  have hx4 := hx3.alloc (.cells #[str [], .slice (some ⟨gx, 0, none⟩) 2 qx] 49)
  have x4r0 := hx4.cell kr0
  have x4r1 := hx4.cell kr1
  have x4r2 := hx4.cell kr2
  have x4r3 := hx4.cell kr3
  have x4x0 := hx4.cell kx0
  have x4x1 := hx4.cell kx1
  have x4x2 := hx4.cell kx2
  have x4x3 := hx4.cell kx3
  have x4y0 := hx4.cell ky0
  have x4y1 := hx4.cell ky1
  have x4y2 := hx4.cell ky2
  have x4y3 := hx4.cell ky3
  have hx5 := hx4.alloc (.cells #[str [], .slice (some ⟨gi, 0, none⟩) 2 qi] 49)
  have x5r0 := hx5.cell kr0
  have x5r1 := hx5.cell kr1
  have x5r2 := hx5.cell kr2
  have x5r3 := hx5.cell kr3
  have x5x0 := hx5.cell kx0
  have x5x1 := hx5.cell kx1
  have x5x2 := hx5.cell kx2
  have x5x3 := hx5.cell kx3
  have x5i0 := hx5.cell ki0
  have x5i1 := hx5.cell ki1
  have x5i2 := hx5.cell ki2
  have x5i3 := hx5.cell ki3
  have x5m0 := hx5.cell km0
  have x5m1 := hx5.cell km1
  have x5m2 := hx5.cell km2
  have x5m3 := hx5.cell km3
  have x5n0 := hx5.cell kn0
  have x5n1 := hx5.cell kn1
  have x5n2 := hx5.cell kn2
  have x5n3 := hx5.cell kn3
  have x5y0 := hx5.cell ky0
  have x5y1 := hx5.cell ky1
  have x5y2 := hx5.cell ky2
  have x5y3 := hx5.cell ky3
  subst hf
  subst hu
  go_enter Tryz.func56, Tryz.ntmps56
  go_wp2_with fail
  go_region
  all_goals
    go_wp2_with fail
    refine bodyPost_ret (v := .tuple #[.agg #[str [], .slice (some ⟨gr, 0, none⟩) 2 qr], .agg #[str [], .slice (some ⟨gr, 0, none⟩) 2 qr], .bool false]) (by simp [results, Tryz.results56, go_sem]) rfl ⟨_, _, _, _, _, _, _, _, rfl, (by repeat (first | exact After.refl _ | exact After.new _ _ | apply After.drew | apply After.alloc | refine Below.setCell ?_ (by simp) _)), fun m n h => by cases h⟩

theorem pw_j (w : World) (gr qr : Nat) (frr : Nat × Nat) (gx qx : Nat) (frx : Nat × Nat) (sf : List UInt8) (af : Option Addr) (nf cf : Nat) (gi qi : Nat) (fri : Nat × Nat) (gm qm : Nat) (frm : Nat × Nat) (so : List UInt8) (ao : Option Addr) (no co : Nat) (sp : List UInt8) (ap : Option Addr) (np cp : Nat) (gn qn : Nat) (frn : Nat × Nat) (sj : List UInt8) (aj : Option Addr) (nj cj : Nat) (se : List UInt8) (ae : Option Addr) (ne ce : Nat) (gy qy : Nat) (fry : Nat × Nat) (su : List UInt8) (au : Option Addr) (nu cu : Nat) (sv : List UInt8) (av : Option Addr) (nv cv : Nat) (hr : w.heap[gr]? = some (.cells #[str [], .slice (some ⟨gx, 0, none⟩) 2 qx, str [], .slice (some ⟨gy, 0, none⟩) 2 qy] 49 frr)) (hx : w.heap[gx]? = some (.cells #[str sf, .slice af nf cf, str [], .slice (some ⟨gi, 0, none⟩) 2 qi] 49 frx)) (hi : w.heap[gi]? = some (.cells #[str [], .slice (some ⟨gm, 0, none⟩) 2 qm, str [], .slice (some ⟨gn, 0, none⟩) 2 qn] 49 fri)) (hm : w.heap[gm]? = some (.cells #[str so, .slice ao no co, str sp, .slice ap np cp] 49 frm)) (hn : w.heap[gn]? = some (.cells #[str sj, .slice aj nj cj, str se, .slice ae ne ce] 49 frn)) (hy : w.heap[gy]? = some (.cells #[str su, .slice au nu cu, str sv, .slice av nv cv] 49 fry)) (hf : sf = [115]) (hu : su = [107]) (ho : so = [115]) (hs : (sj == [107]) = false) :
    Calls Tryz.prog 56 #[.agg #[str [], .slice (some ⟨gr, 0, none⟩) 2 qr]] w (SPartsPost w none) := by
  have kr0 : w.cell? ⟨gr, 0, none⟩ = some (str []) := cell_of_heap hr
  have kr1 : w.cell? ⟨gr, 1, none⟩ = some (.slice (some ⟨gx, 0, none⟩) 2 qx) := cell_of_heap hr
  have kr2 : w.cell? ⟨gr, 2, none⟩ = some (str []) := cell_of_heap hr
  have kr3 : w.cell? ⟨gr, 3, none⟩ = some (.slice (some ⟨gy, 0, none⟩) 2 qy) := cell_of_heap hr
  have lr := (Array.getElem?_eq_some_iff.1 hr).1
  clear hr
  have kx0 : w.cell? ⟨gx, 0, none⟩ = some (str sf) := cell_of_heap hx
  have kx1 : w.cell? ⟨gx, 1, none⟩ = some (.slice af nf cf) := cell_of_heap hx
  have kx2 : w.cell? ⟨gx, 2, none⟩ = some (str []) := cell_of_heap hx
  have kx3 : w.cell? ⟨gx, 3, none⟩ = some (.slice (some ⟨gi, 0, none⟩) 2 qi) := cell_of_heap hx
  have lx := (Array.getElem?_eq_some_iff.1 hx).1
  clear hx
  have ki0 : w.cell? ⟨gi, 0, none⟩ = some (str []) := cell_of_heap hi
  have ki1 : w.cell? ⟨gi, 1, none⟩ = some (.slice (some ⟨gm, 0, none⟩) 2 qm) := cell_of_heap hi
  have ki2 : w.cell? ⟨gi, 2, none⟩ = some (str []) := cell_of_heap hi
  have ki3 : w.cell? ⟨gi, 3, none⟩ = some (.slice (some ⟨gn, 0, none⟩) 2 qn) := cell_of_heap hi
  have li := (Array.getElem?_eq_some_iff.1 hi).1
  clear hi
  have km0 : w.cell? ⟨gm, 0, none⟩ = some (str so) := cell_of_heap hm
  have km1 : w.cell? ⟨gm, 1, none⟩ = some (.slice ao no co) := cell_of_heap hm
  have km2 : w.cell? ⟨gm, 2, none⟩ = some (str sp) := cell_of_heap hm
  have km3 : w.cell? ⟨gm, 3, none⟩ = some (.slice ap np cp) := cell_of_heap hm
  have lm := (Array.getElem?_eq_some_iff.1 hm).1
  clear hm
  have kn0 : w.cell? ⟨gn, 0, none⟩ = some (str sj) := cell_of_heap hn
  have kn1 : w.cell? ⟨gn, 1, none⟩ = some (.slice aj nj cj) := cell_of_heap hn
  have kn2 : w.cell? ⟨gn, 2, none⟩ = some (str se) := cell_of_heap hn
  have kn3 : w.cell? ⟨gn, 3, none⟩ = some (.slice ae ne ce) := cell_of_heap hn
  have ln := (Array.getElem?_eq_some_iff.1 hn).1
  clear hn
  have ky0 : w.cell? ⟨gy, 0, none⟩ = some (str su) := cell_of_heap hy
  have ky1 : w.cell? ⟨gy, 1, none⟩ = some (.slice au nu cu) := cell_of_heap hy
  have ky2 : w.cell? ⟨gy, 2, none⟩ = some (str sv) := cell_of_heap hy
  have ky3 : w.cell? ⟨gy, 3, none⟩ = some (.slice av nv cv) := cell_of_heap hy
  have ly := (Array.getElem?_eq_some_iff.1 hy).1
  clear hy
  have hx3 := ((After.new w (.cells #[str [], .slice (some ⟨gr, 0, none⟩) 2 qr] 49)).alloc (.cells #[.string ⟨#[]⟩, .slice none 0 0] 49)).alloc (.cells #[.string ⟨#[]⟩, .slice none 0 0] 49)
  have x3r0 := hx3.cell kr0
  have x3r1 := hx3.cell kr1
  have x3r2 := hx3.cell kr2
  have x3r3 := hx3.cell kr3
  have hx4 := hx3.alloc (.cells #[str [], .slice (some ⟨gx, 0, none⟩) 2 qx] 49)
  have x4r0 := hx4.cell kr0
  have x4r1 := hx4.cell kr1
  have x4r2 := hx4.cell kr2
  have x4r3 := hx4.cell kr3
  have x4x0 := hx4.cell kx0
  have x4x1 := hx4.cell kx1
  have x4x2 := hx4.cell kx2
  have x4x3 := hx4.cell kx3
  have x4y0 := hx4.cell ky0
  have x4y1 := hx4.cell ky1
  have x4y2 := hx4.cell ky2
  have x4y3 := hx4.cell ky3
  have hx5 := hx4.alloc (.cells #[str [], .slice (some ⟨gi, 0, none⟩) 2 qi] 49)
  have x5r0 := hx5.cell kr0
  have x5r1 := hx5.cell kr1
  have x5r2 := hx5.cell kr2
  have x5r3 := hx5.cell kr3
  have x5x0 := hx5.cell kx0
  have x5x1 := hx5.cell kx1
  have x5x2 := hx5.cell kx2
  have x5x3 := hx5.cell kx3
  have x5i0 := hx5.cell ki0
  have x5i1 := hx5.cell ki1
  have x5i2 := hx5.cell ki2
  have x5i3 := hx5.cell ki3
  have x5m0 := hx5.cell km0
  have x5m1 := hx5.cell km1
  have x5m2 := hx5.cell km2
  have x5m3 := hx5.cell km3
  have x5n0 := hx5.cell kn0
  have x5n1 := hx5.cell kn1
  have x5n2 := hx5.cell kn2
  have x5n3 := hx5.cell kn3
  have x5y0 := hx5.cell ky0
  have x5y1 := hx5.cell ky1
  have x5y2 := hx5.cell ky2
  have x5y3 := hx5.cell ky3
  subst hf
  subst hu
  subst ho
  go_enter Tryz.func56, Tryz.ntmps56
  go_wp2_with fail
  go_region
  all_goals
    go_wp2_with fail
    refine bodyPost_ret (v := .tuple #[.agg #[str [], .slice (some ⟨gr, 0, none⟩) 2 qr], .agg #[str [], .slice (some ⟨gr, 0, none⟩) 2 qr], .bool false]) (by simp [results, Tryz.results56, go_sem]) rfl ⟨_, _, _, _, _, _, _, _, rfl, (by repeat (first | exact After.refl _ | exact After.new _ _ | apply After.drew | apply After.alloc | refine Below.setCell ?_ (by simp) _)), fun m n h => by cases h⟩

end Go.Proofs.YtjomocjlnjgkeaaGreat
