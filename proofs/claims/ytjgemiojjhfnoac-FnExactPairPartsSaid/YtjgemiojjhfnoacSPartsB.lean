/-
  The model's l2Parts where the texts are compared; PairParts.
-/
import Derived.Test.YtjgemiojjhfnoacSParts
namespace Go.Proofs.Ytjgemiojjhfnoac
open Go.RowKit

set_option maxHeartbeats 2000000
set_option maxRecDepth 100000

theorem pw_k (w : World) (gr qr : Nat) (frr : Nat × Nat) (gx qx : Nat) (frx : Nat × Nat) (sf : List UInt8) (af : Option Addr) (nf cf : Nat) (gi qi : Nat) (fri : Nat × Nat) (gm qm : Nat) (frm : Nat × Nat) (so : List UInt8) (ao : Option Addr) (no co : Nat) (sp : List UInt8) (ap : Option Addr) (np cp : Nat) (gn qn : Nat) (frn : Nat × Nat) (sj : List UInt8) (aj : Option Addr) (nj cj : Nat) (se : List UInt8) (ae : Option Addr) (ne ce : Nat) (gy qy : Nat) (fry : Nat × Nat) (su : List UInt8) (au : Option Addr) (nu cu : Nat) (sv : List UInt8) (av : Option Addr) (nv cv : Nat) (hr : w.heap[gr]? = some (.cells #[str [], .slice (some ⟨gx, 0, none⟩) 2 qx, str [], .slice (some ⟨gy, 0, none⟩) 2 qy] 41 frr)) (hx : w.heap[gx]? = some (.cells #[str sf, .slice af nf cf, str [], .slice (some ⟨gi, 0, none⟩) 2 qi] 41 frx)) (hi : w.heap[gi]? = some (.cells #[str [], .slice (some ⟨gm, 0, none⟩) 2 qm, str [], .slice (some ⟨gn, 0, none⟩) 2 qn] 41 fri)) (hm : w.heap[gm]? = some (.cells #[str so, .slice ao no co, str sp, .slice ap np cp] 41 frm)) (hn : w.heap[gn]? = some (.cells #[str sj, .slice aj nj cj, str se, .slice ae ne ce] 41 frn)) (hy : w.heap[gy]? = some (.cells #[str su, .slice au nu cu, str sv, .slice av nv cv] 41 fry)) (hf : sf = [115]) (hu : su = [107]) (ho : so = [115]) (hj : sj = [107])
    (tp te tv : Tm) (hp : ST w tp (.agg #[str sp, .slice ap np cp])) (he : ST w te (.agg #[str se, .slice ae ne ce])) (hv : ST w tv (.agg #[str sv, .slice av nv cv])) (hgp : tp.good = true) (hzp : tp.text.length ≤ 100000000) (htxt : (tp.text == Tm.text Tm.I) = false) :
    Calls Try.prog 44 #[.agg #[str [], .slice (some ⟨gr, 0, none⟩) 2 qr]] w (SPartsPost w none) := by
  have HE := Lib.hid he
  have HV := Lib.hid hv
  have htp := (hp.later ((((After.new w (.cells #[str [], .slice (some ⟨gr, 0, none⟩) 2 qr] 41)).alloc (.cells #[.string ⟨#[]⟩, .slice none 0 0] 41)).alloc (.cells #[.string ⟨#[]⟩, .slice none 0 0] 41)).alloc (.cells #[str [], .slice (some ⟨gx, 0, none⟩) 2 qx] 41) |>.alloc (.cells #[str [], .slice (some ⟨gi, 0, none⟩) 2 qi] 41))).text hgp hzp
  clear he hv hp
  have kr0 : w.cell? ⟨gr, 0, none⟩ = some (str []) := cell_of_heap hr
  have kr1 : w.cell? ⟨gr, 1, none⟩ = some (.slice (some ⟨gx, 0, none⟩) 2 qx) := cell_of_heap hr
  have kr2 : w.cell? ⟨gr, 2, none⟩ = some (str []) := cell_of_heap hr
  have kr3 : w.cell? ⟨gr, 3, none⟩ = some (.slice (some ⟨gy, 0, none⟩) 2 qy) := cell_of_heap hr
  have lr := (Array.getElem?_eq_some_iff.1 hr).1
  clear hr
  have kx0 : w.cell? ⟨gx, 0, none⟩ = some (str sf) := cell_of_heap hx
  have kx1 : w.cell? ⟨gx, 1, none⟩ = some (.slice af nf cf) := cell_of_heap hx
  have kx2 : w.cell? ⟨gx, 2, none⟩ = some (str []) := cell_of_heap hx
  have kx3 : w.cell? ⟨gx, 3, none⟩ = some (.slice (some ⟨gi, 0, none⟩) 2 qi) := cell_of_heap hx
  have lx := (Array.getElem?_eq_some_iff.1 hx).1
  clear hx
  have ki0 : w.cell? ⟨gi, 0, none⟩ = some (str []) := cell_of_heap hi
  have ki1 : w.cell? ⟨gi, 1, none⟩ = some (.slice (some ⟨gm, 0, none⟩) 2 qm) := cell_of_heap hi
  have ki2 : w.cell? ⟨gi, 2, none⟩ = some (str []) := cell_of_heap hi
  have ki3 : w.cell? ⟨gi, 3, none⟩ = some (.slice (some ⟨gn, 0, none⟩) 2 qn) := cell_of_heap hi
  have li := (Array.getElem?_eq_some_iff.1 hi).1
  clear hi
  have km0 : w.cell? ⟨gm, 0, none⟩ = some (str so) := cell_of_heap hm
  have km1 : w.cell? ⟨gm, 1, none⟩ = some (.slice ao no co) := cell_of_heap hm
  have km2 : w.cell? ⟨gm, 2, none⟩ = some (str sp) := cell_of_heap hm
  have km3 : w.cell? ⟨gm, 3, none⟩ = some (.slice ap np cp) := cell_of_heap hm
  have lm := (Array.getElem?_eq_some_iff.1 hm).1
  clear hm
  have kn0 : w.cell? ⟨gn, 0, none⟩ = some (str sj) := cell_of_heap hn
  have kn1 : w.cell? ⟨gn, 1, none⟩ = some (.slice aj nj cj) := cell_of_heap hn
  have kn2 : w.cell? ⟨gn, 2, none⟩ = some (str se) := cell_of_heap hn
  have kn3 : w.cell? ⟨gn, 3, none⟩ = some (.slice ae ne ce) := cell_of_heap hn
  have ln := (Array.getElem?_eq_some_iff.1 hn).1
  clear hn
  have ky0 : w.cell? ⟨gy, 0, none⟩ = some (str su) := cell_of_heap hy
  have ky1 : w.cell? ⟨gy, 1, none⟩ = some (.slice au nu cu) := cell_of_heap hy
  have ky2 : w.cell? ⟨gy, 2, none⟩ = some (str sv) := cell_of_heap hy
  have ky3 : w.cell? ⟨gy, 3, none⟩ = some (.slice av nv cv) := cell_of_heap hy
  have ly := (Array.getElem?_eq_some_iff.1 hy).1
  clear hy
  have hx3 := ((After.new w (.cells #[str [], .slice (some ⟨gr, 0, none⟩) 2 qr] 41)).alloc (.cells #[.string ⟨#[]⟩, .slice none 0 0] 41)).alloc (.cells #[.string ⟨#[]⟩, .slice none 0 0] 41)
  have x3r0 := hx3.cell kr0
  have x3r1 := hx3.cell kr1
  have x3r2 := hx3.cell kr2
  have x3r3 := hx3.cell kr3
  have hx4 := hx3.alloc (.cells #[str [], .slice (some ⟨gx, 0, none⟩) 2 qx] 41)
  have x4r0 := hx4.cell kr0
  have x4r1 := hx4.cell kr1
  have x4r2 := hx4.cell kr2
  have x4r3 := hx4.cell kr3
  have x4x0 := hx4.cell kx0
  have x4x1 := hx4.cell kx1
  have x4x2 := hx4.cell kx2
  have x4x3 := hx4.cell kx3
  have x4y0 := hx4.cell ky0
  have x4y1 := hx4.cell ky1
  have x4y2 := hx4.cell ky2
  have x4y3 := hx4.cell ky3
  have hx5 := hx4.alloc (.cells #[str [], .slice (some ⟨gi, 0, none⟩) 2 qi] 41)
  have x5r0 := hx5.cell kr0
  have x5r1 := hx5.cell kr1
  have x5r2 := hx5.cell kr2
  have x5r3 := hx5.cell kr3
  have x5x0 := hx5.cell kx0
  have x5x1 := hx5.cell kx1
  have x5x2 := hx5.cell kx2
  have x5x3 := hx5.cell kx3
  have x5i0 := hx5.cell ki0
  have x5i1 := hx5.cell ki1
  have x5i2 := hx5.cell ki2
  have x5i3 := hx5.cell ki3
  have x5m0 := hx5.cell km0
  have x5m1 := hx5.cell km1
  have x5m2 := hx5.cell km2
  have x5m3 := hx5.cell km3
  have x5n0 := hx5.cell kn0
  have x5n1 := hx5.cell kn1
  have x5n2 := hx5.cell kn2
  have x5n3 := hx5.cell kn3
  have x5y0 := hx5.cell ky0
  have x5y1 := hx5.cell ky1
  have x5y2 := hx5.cell ky2
  have x5y3 := hx5.cell ky3
  have hos : allocL w [.cells #[str [], .slice (some ⟨gr, 0, none⟩) 2 qr] 41, .cells #[.string ⟨#[]⟩, .slice none 0 0] 41, .cells #[.string ⟨#[]⟩, .slice none 0 0] 41, .cells #[str [], .slice (some ⟨gx, 0, none⟩) 2 qx] 41, .cells #[str [], .slice (some ⟨gi, 0, none⟩) 2 qi] 41] = ((((w.alloc (.cells #[str [], .slice (some ⟨gr, 0, none⟩) 2 qr] 41)).alloc (.cells #[.string ⟨#[]⟩, .slice none 0 0] 41)).alloc (.cells #[.string ⟨#[]⟩, .slice none 0 0] 41)).alloc (.cells #[str [], .slice (some ⟨gx, 0, none⟩) 2 qx] 41)).alloc (.cells #[str [], .slice (some ⟨gi, 0, none⟩) 2 qi] 41) := rfl
  have hb0 := allocL_heap w [.cells #[str [], .slice (some ⟨gr, 0, none⟩) 2 qr] 41, .cells #[.string ⟨#[]⟩, .slice none 0 0] 41, .cells #[.string ⟨#[]⟩, .slice none 0 0] 41, .cells #[str [], .slice (some ⟨gx, 0, none⟩) 2 qx] 41, .cells #[str [], .slice (some ⟨gi, 0, none⟩) 2 qi] 41] 0 (by simp)
  have hb1 := allocL_heap w [.cells #[str [], .slice (some ⟨gr, 0, none⟩) 2 qr] 41, .cells #[.string ⟨#[]⟩, .slice none 0 0] 41, .cells #[.string ⟨#[]⟩, .slice none 0 0] 41, .cells #[str [], .slice (some ⟨gx, 0, none⟩) 2 qx] 41, .cells #[str [], .slice (some ⟨gi, 0, none⟩) 2 qi] 41] 1 (by simp)
  have hb2 := allocL_heap w [.cells #[str [], .slice (some ⟨gr, 0, none⟩) 2 qr] 41, .cells #[.string ⟨#[]⟩, .slice none 0 0] 41, .cells #[.string ⟨#[]⟩, .slice none 0 0] 41, .cells #[str [], .slice (some ⟨gx, 0, none⟩) 2 qx] 41, .cells #[str [], .slice (some ⟨gi, 0, none⟩) 2 qi] 41] 2 (by simp)
  have hb4 := allocL_heap w [.cells #[str [], .slice (some ⟨gr, 0, none⟩) 2 qr] 41, .cells #[.string ⟨#[]⟩, .slice none 0 0] 41, .cells #[.string ⟨#[]⟩, .slice none 0 0] 41, .cells #[str [], .slice (some ⟨gx, 0, none⟩) 2 qx] 41, .cells #[str [], .slice (some ⟨gi, 0, none⟩) 2 qi] 41] 4 (by simp)
  rw [hos] at hb0 hb1 hb2 hb4
  have HB0 := Lib.hid (show (((((w.alloc (.cells #[str [], .slice (some ⟨gr, 0, none⟩) 2 qr] 41)).alloc (.cells #[.string ⟨#[]⟩, .slice none 0 0] 41)).alloc (.cells #[.string ⟨#[]⟩, .slice none 0 0] 41)).alloc (.cells #[str [], .slice (some ⟨gx, 0, none⟩) 2 qx] 41)).alloc (.cells #[str [], .slice (some ⟨gi, 0, none⟩) 2 qi] 41)).heap[w.heap.size]? = some (.cells #[str [], .slice (some ⟨gr, 0, none⟩) 2 qr] 41 (0, 0)) from hb0)
  have HB1 := Lib.hid (show (((((w.alloc (.cells #[str [], .slice (some ⟨gr, 0, none⟩) 2 qr] 41)).alloc (.cells #[.string ⟨#[]⟩, .slice none 0 0] 41)).alloc (.cells #[.string ⟨#[]⟩, .slice none 0 0] 41)).alloc (.cells #[str [], .slice (some ⟨gx, 0, none⟩) 2 qx] 41)).alloc (.cells #[str [], .slice (some ⟨gi, 0, none⟩) 2 qi] 41)).heap[w.heap.size + 1]? = some (.cells #[.string ⟨#[]⟩, .slice none 0 0] 41 (0, 0)) from hb1)
  have HB2 := Lib.hid (show (((((w.alloc (.cells #[str [], .slice (some ⟨gr, 0, none⟩) 2 qr] 41)).alloc (.cells #[.string ⟨#[]⟩, .slice none 0 0] 41)).alloc (.cells #[.string ⟨#[]⟩, .slice none 0 0] 41)).alloc (.cells #[str [], .slice (some ⟨gx, 0, none⟩) 2 qx] 41)).alloc (.cells #[str [], .slice (some ⟨gi, 0, none⟩) 2 qi] 41)).heap[w.heap.size + 1 + 1]? = some (.cells #[.string ⟨#[]⟩, .slice none 0 0] 41 (0, 0)) from hb2)
  have HB4 := Lib.hid (show (((((w.alloc (.cells #[str [], .slice (some ⟨gr, 0, none⟩) 2 qr] 41)).alloc (.cells #[.string ⟨#[]⟩, .slice none 0 0] 41)).alloc (.cells #[.string ⟨#[]⟩, .slice none 0 0] 41)).alloc (.cells #[str [], .slice (some ⟨gx, 0, none⟩) 2 qx] 41)).alloc (.cells #[str [], .slice (some ⟨gi, 0, none⟩) 2 qi] 41)).heap[w.heap.size + 1 + 1 + 1 + 1]? = some (.cells #[str [], .slice (some ⟨gi, 0, none⟩) 2 qi] 41 (0, 0)) from hb4)
  have HX5 := Lib.hid hx5
  clear hos hb0 hb1 hb2 hb4
  subst hf
  subst hu
  subst ho
  subst hj
  have hI := s_i
  have hti := fun W v (h : ST W Tm.I v) => h.text rfl (by decide)
  unfold TreePost at hI
  generalize tp.text = xp at htp htxt
  generalize Tm.text Tm.I = xi at hti htxt
  go_enter Try.func44, Try.ntmps44
  go_wp2_with fail
  refine htp.mono ?_
  rintro e w1 ⟨rfl, hq1⟩
  go_wp2_with fail
  refine (hI _).mono ?_
  rintro e w2 ⟨s2, ao2, n2, c2, rfl, hq2, ht2⟩
  have hti' := hti _ _ ht2
  clear ht2
  go_wp2_with fail
  refine hti'.mono ?_
  rintro e w3 ⟨rfl, hq3⟩
  have hq := (After.trans hq1 hq2).trans hq3
  clear hti' hti htp hI
  obtain ⟨i0, i1, _, _, l0⟩ := pair_facts HB0.out hq
  obtain ⟨z0, z1, z2, z3, l1⟩ := pair_facts HB1.out hq
  obtain ⟨y0, y1, y2, y3, l2⟩ := pair_facts HB2.out hq
  obtain ⟨j0, j1, _, _, l4⟩ := pair_facts HB4.out hq
  have vr0 := hq.cell x5r0
  have vr1 := hq.cell x5r1
  have vr2 := hq.cell x5r2
  have vr3 := hq.cell x5r3
  have vn0 := hq.cell x5n0
  have vn1 := hq.cell x5n1
  have vn2 := hq.cell x5n2
  have vn3 := hq.cell x5n3
  have vy0 := hq.cell x5y0
  have vy1 := hq.cell x5y1
  have vy2 := hq.cell x5y2
  have vy3 := hq.cell x5y3
  have vi0 := hq.cell x5i0
  have vi1 := hq.cell x5i1
  have vi2 := hq.cell x5i2
  have vi3 := hq.cell x5i3
  have hwq := HX5.out.trans hq
  go_wp2_with fail
  go_region
  all_goals
    go_wp2_with fail
    refine bodyPost_ret (v := .tuple #[.agg #[str [], .slice (some ⟨gr, 0, none⟩) 2 qr], .agg #[str [], .slice (some ⟨gr, 0, none⟩) 2 qr], .bool false]) (by simp [results, Try.results44, go_sem, z0, z1, y0, y1]) rfl ⟨_, _, _, _, _, _, _, _, rfl, (by repeat (first | exact hwq | apply After.drew | refine Below.setCell ?_ (by simp <;> omega) _)), fun m n h => by cases h⟩

theorem pw_l (w : World) (gr qr : Nat) (frr : Nat × Nat) (gx qx : Nat) (frx : Nat × Nat) (sf : List UInt8) (af : Option Addr) (nf cf : Nat) (gi qi : Nat) (fri : Nat × Nat) (gm qm : Nat) (frm : Nat × Nat) (so : List UInt8) (ao : Option Addr) (no co : Nat) (sp : List UInt8) (ap : Option Addr) (np cp : Nat) (gn qn : Nat) (frn : Nat × Nat) (sj : List UInt8) (aj : Option Addr) (nj cj : Nat) (se : List UInt8) (ae : Option Addr) (ne ce : Nat) (gy qy : Nat) (fry : Nat × Nat) (su : List UInt8) (au : Option Addr) (nu cu : Nat) (sv : List UInt8) (av : Option Addr) (nv cv : Nat) (hr : w.heap[gr]? = some (.cells #[str [], .slice (some ⟨gx, 0, none⟩) 2 qx, str [], .slice (some ⟨gy, 0, none⟩) 2 qy] 41 frr)) (hx : w.heap[gx]? = some (.cells #[str sf, .slice af nf cf, str [], .slice (some ⟨gi, 0, none⟩) 2 qi] 41 frx)) (hi : w.heap[gi]? = some (.cells #[str [], .slice (some ⟨gm, 0, none⟩) 2 qm, str [], .slice (some ⟨gn, 0, none⟩) 2 qn] 41 fri)) (hm : w.heap[gm]? = some (.cells #[str so, .slice ao no co, str sp, .slice ap np cp] 41 frm)) (hn : w.heap[gn]? = some (.cells #[str sj, .slice aj nj cj, str se, .slice ae ne ce] 41 frn)) (hy : w.heap[gy]? = some (.cells #[str su, .slice au nu cu, str sv, .slice av nv cv] 41 fry)) (hf : sf = [115]) (hu : su = [107]) (ho : so = [115]) (hj : sj = [107])
    (tp te tv : Tm) (hp : ST w tp (.agg #[str sp, .slice ap np cp])) (he : ST w te (.agg #[str se, .slice ae ne ce])) (hv : ST w tv (.agg #[str sv, .slice av nv cv])) (hgp : tp.good = true) (hzp : tp.text.length ≤ 100000000) (htxt : tp.text = Tm.text Tm.I) :
    Calls Try.prog 44 #[.agg #[str [], .slice (some ⟨gr, 0, none⟩) 2 qr]] w (SPartsPost w (some (te, tv))) := by
  have HE := Lib.hid he
  have HV := Lib.hid hv
  have htp := (hp.later ((((After.new w (.cells #[str [], .slice (some ⟨gr, 0, none⟩) 2 qr] 41)).alloc (.cells #[.string ⟨#[]⟩, .slice none 0 0] 41)).alloc (.cells #[.string ⟨#[]⟩, .slice none 0 0] 41)).alloc (.cells #[str [], .slice (some ⟨gx, 0, none⟩) 2 qx] 41) |>.alloc (.cells #[str [], .slice (some ⟨gi, 0, none⟩) 2 qi] 41))).text hgp hzp
  clear he hv hp
  have kr0 : w.cell? ⟨gr, 0, none⟩ = some (str []) := cell_of_heap hr
  have kr1 : w.cell? ⟨gr, 1, none⟩ = some (.slice (some ⟨gx, 0, none⟩) 2 qx) := cell_of_heap hr
  have kr2 : w.cell? ⟨gr, 2, none⟩ = some (str []) := cell_of_heap hr
  have kr3 : w.cell? ⟨gr, 3, none⟩ = some (.slice (some ⟨gy, 0, none⟩) 2 qy) := cell_of_heap hr
  have lr := (Array.getElem?_eq_some_iff.1 hr).1
  clear hr
  have kx0 : w.cell? ⟨gx, 0, none⟩ = some (str sf) := cell_of_heap hx
  have kx1 : w.cell? ⟨gx, 1, none⟩ = some (.slice af nf cf) := cell_of_heap hx
  have kx2 : w.cell? ⟨gx, 2, none⟩ = some (str []) := cell_of_heap hx
  have kx3 : w.cell? ⟨gx, 3, none⟩ = some (.slice (some ⟨gi, 0, none⟩) 2 qi) := cell_of_heap hx
  have lx := (Array.getElem?_eq_some_iff.1 hx).1
  clear hx
  have ki0 : w.cell? ⟨gi, 0, none⟩ = some (str []) := cell_of_heap hi
  have ki1 : w.cell? ⟨gi, 1, none⟩ = some (.slice (some ⟨gm, 0, none⟩) 2 qm) := cell_of_heap hi
  have ki2 : w.cell? ⟨gi, 2, none⟩ = some (str []) := cell_of_heap hi
  have ki3 : w.cell? ⟨gi, 3, none⟩ = some (.slice (some ⟨gn, 0, none⟩) 2 qn) := cell_of_heap hi
  have li := (Array.getElem?_eq_some_iff.1 hi).1
  clear hi
  have km0 : w.cell? ⟨gm, 0, none⟩ = some (str so) := cell_of_heap hm
  have km1 : w.cell? ⟨gm, 1, none⟩ = some (.slice ao no co) := cell_of_heap hm
  have km2 : w.cell? ⟨gm, 2, none⟩ = some (str sp) := cell_of_heap hm
  have km3 : w.cell? ⟨gm, 3, none⟩ = some (.slice ap np cp) := cell_of_heap hm
  have lm := (Array.getElem?_eq_some_iff.1 hm).1
  clear hm
  have kn0 : w.cell? ⟨gn, 0, none⟩ = some (str sj) := cell_of_heap hn
  have kn1 : w.cell? ⟨gn, 1, none⟩ = some (.slice aj nj cj) := cell_of_heap hn
  have kn2 : w.cell? ⟨gn, 2, none⟩ = some (str se) := cell_of_heap hn
  have kn3 : w.cell? ⟨gn, 3, none⟩ = some (.slice ae ne ce) := cell_of_heap hn
  have ln := (Array.getElem?_eq_some_iff.1 hn).1
  clear hn
  have ky0 : w.cell? ⟨gy, 0, none⟩ = some (str su) := cell_of_heap hy
  have ky1 : w.cell? ⟨gy, 1, none⟩ = some (.slice au nu cu) := cell_of_heap hy
  have ky2 : w.cell? ⟨gy, 2, none⟩ = some (str sv) := cell_of_heap hy
  have ky3 : w.cell? ⟨gy, 3, none⟩ = some (.slice av nv cv) := cell_of_heap hy
  have ly := (Array.getElem?_eq_some_iff.1 hy).1
  clear hy
  have hx3 := ((After.new w (.cells #[str [], .slice (some ⟨gr, 0, none⟩) 2 qr] 41)).alloc (.cells #[.string ⟨#[]⟩, .slice none 0 0] 41)).alloc (.cells #[.string ⟨#[]⟩, .slice none 0 0] 41)
  have x3r0 := hx3.cell kr0
  have x3r1 := hx3.cell kr1
  have x3r2 := hx3.cell kr2
  have x3r3 := hx3.cell kr3
  have hx4 := hx3.alloc (.cells #[str [], .slice (some ⟨gx, 0, none⟩) 2 qx] 41)
  have x4r0 := hx4.cell kr0
  have x4r1 := hx4.cell kr1
  have x4r2 := hx4.cell kr2
  have x4r3 := hx4.cell kr3
  have x4x0 := hx4.cell kx0
  have x4x1 := hx4.cell kx1
  have x4x2 := hx4.cell kx2
  have x4x3 := hx4.cell kx3
  have x4y0 := hx4.cell ky0
  have x4y1 := hx4.cell ky1
  have x4y2 := hx4.cell ky2
  have x4y3 := hx4.cell ky3
  have hx5 := hx4.alloc (.cells #[str [], .slice (some ⟨gi, 0, none⟩) 2 qi] 41)
  have x5r0 := hx5.cell kr0
  have x5r1 := hx5.cell kr1
  have x5r2 := hx5.cell kr2
  have x5r3 := hx5.cell kr3
  have x5x0 := hx5.cell kx0
  have x5x1 := hx5.cell kx1
  have x5x2 := hx5.cell kx2
  have x5x3 := hx5.cell kx3
  have x5i0 := hx5.cell ki0
  have x5i1 := hx5.cell ki1
  have x5i2 := hx5.cell ki2
  have x5i3 := hx5.cell ki3
  have x5m0 := hx5.cell km0
  have x5m1 := hx5.cell km1
  have x5m2 := hx5.cell km2
  have x5m3 := hx5.cell km3
  have x5n0 := hx5.cell kn0
  have x5n1 := hx5.cell kn1
  have x5n2 := hx5.cell kn2
  have x5n3 := hx5.cell kn3
  have x5y0 := hx5.cell ky0
  have x5y1 := hx5.cell ky1
  have x5y2 := hx5.cell ky2
  have x5y3 := hx5.cell ky3
  have hos : allocL w [.cells #[str [], .slice (some ⟨gr, 0, none⟩) 2 qr] 41, .cells #[.string ⟨#[]⟩, .slice none 0 0] 41, .cells #[.string ⟨#[]⟩, .slice none 0 0] 41, .cells #[str [], .slice (some ⟨gx, 0, none⟩) 2 qx] 41, .cells #[str [], .slice (some ⟨gi, 0, none⟩) 2 qi] 41] = ((((w.alloc (.cells #[str [], .slice (some ⟨gr, 0, none⟩) 2 qr] 41)).alloc (.cells #[.string ⟨#[]⟩, .slice none 0 0] 41)).alloc (.cells #[.string ⟨#[]⟩, .slice none 0 0] 41)).alloc (.cells #[str [], .slice (some ⟨gx, 0, none⟩) 2 qx] 41)).alloc (.cells #[str [], .slice (some ⟨gi, 0, none⟩) 2 qi] 41) := rfl
  have hb0 := allocL_heap w [.cells #[str [], .slice (some ⟨gr, 0, none⟩) 2 qr] 41, .cells #[.string ⟨#[]⟩, .slice none 0 0] 41, .cells #[.string ⟨#[]⟩, .slice none 0 0] 41, .cells #[str [], .slice (some ⟨gx, 0, none⟩) 2 qx] 41, .cells #[str [], .slice (some ⟨gi, 0, none⟩) 2 qi] 41] 0 (by simp)
  have hb1 := allocL_heap w [.cells #[str [], .slice (some ⟨gr, 0, none⟩) 2 qr] 41, .cells #[.string ⟨#[]⟩, .slice none 0 0] 41, .cells #[.string ⟨#[]⟩, .slice none 0 0] 41, .cells #[str [], .slice (some ⟨gx, 0, none⟩) 2 qx] 41, .cells #[str [], .slice (some ⟨gi, 0, none⟩) 2 qi] 41] 1 (by simp)
  have hb2 := allocL_heap w [.cells #[str [], .slice (some ⟨gr, 0, none⟩) 2 qr] 41, .cells #[.string ⟨#[]⟩, .slice none 0 0] 41, .cells #[.string ⟨#[]⟩, .slice none 0 0] 41, .cells #[str [], .slice (some ⟨gx, 0, none⟩) 2 qx] 41, .cells #[str [], .slice (some ⟨gi, 0, none⟩) 2 qi] 41] 2 (by simp)
  have hb4 := allocL_heap w [.cells #[str [], .slice (some ⟨gr, 0, none⟩) 2 qr] 41, .cells #[.string ⟨#[]⟩, .slice none 0 0] 41, .cells #[.string ⟨#[]⟩, .slice none 0 0] 41, .cells #[str [], .slice (some ⟨gx, 0, none⟩) 2 qx] 41, .cells #[str [], .slice (some ⟨gi, 0, none⟩) 2 qi] 41] 4 (by simp)
  rw [hos] at hb0 hb1 hb2 hb4
  have HB0 := Lib.hid (show (((((w.alloc (.cells #[str [], .slice (some ⟨gr, 0, none⟩) 2 qr] 41)).alloc (.cells #[.string ⟨#[]⟩, .slice none 0 0] 41)).alloc (.cells #[.string ⟨#[]⟩, .slice none 0 0] 41)).alloc (.cells #[str [], .slice (some ⟨gx, 0, none⟩) 2 qx] 41)).alloc (.cells #[str [], .slice (some ⟨gi, 0, none⟩) 2 qi] 41)).heap[w.heap.size]? = some (.cells #[str [], .slice (some ⟨gr, 0, none⟩) 2 qr] 41 (0, 0)) from hb0)
  have HB1 := Lib.hid (show (((((w.alloc (.cells #[str [], .slice (some ⟨gr, 0, none⟩) 2 qr] 41)).alloc (.cells #[.string ⟨#[]⟩, .slice none 0 0] 41)).alloc (.cells #[.string ⟨#[]⟩, .slice none 0 0] 41)).alloc (.cells #[str [], .slice (some ⟨gx, 0, none⟩) 2 qx] 41)).alloc (.cells #[str [], .slice (some ⟨gi, 0, none⟩) 2 qi] 41)).heap[w.heap.size + 1]? = some (.cells #[.string ⟨#[]⟩, .slice none 0 0] 41 (0, 0)) from hb1)
  have HB2 := Lib.hid (show (((((w.alloc (.cells #[str [], .slice (some ⟨gr, 0, none⟩) 2 qr] 41)).alloc (.cells #[.string ⟨#[]⟩, .slice none 0 0] 41)).alloc (.cells #[.string ⟨#[]⟩, .slice none 0 0] 41)).alloc (.cells #[str [], .slice (some ⟨gx, 0, none⟩) 2 qx] 41)).alloc (.cells #[str [], .slice (some ⟨gi, 0, none⟩) 2 qi] 41)).heap[w.heap.size + 1 + 1]? = some (.cells #[.string ⟨#[]⟩, .slice none 0 0] 41 (0, 0)) from hb2)
  have HB4 := Lib.hid (show (((((w.alloc (.cells #[str [], .slice (some ⟨gr, 0, none⟩) 2 qr] 41)).alloc (.cells #[.string ⟨#[]⟩, .slice none 0 0] 41)).alloc (.cells #[.string ⟨#[]⟩, .slice none 0 0] 41)).alloc (.cells #[str [], .slice (some ⟨gx, 0, none⟩) 2 qx] 41)).alloc (.cells #[str [], .slice (some ⟨gi, 0, none⟩) 2 qi] 41)).heap[w.heap.size + 1 + 1 + 1 + 1]? = some (.cells #[str [], .slice (some ⟨gi, 0, none⟩) 2 qi] 41 (0, 0)) from hb4)
  have HX5 := Lib.hid hx5
  clear hos hb0 hb1 hb2 hb4
  subst hf
  subst hu
  subst ho
  subst hj
  have hI := s_i
  have hti := fun W v (h : ST W Tm.I v) => h.text rfl (by decide)
  unfold TreePost at hI
  generalize tp.text = xp at htp htxt
  generalize Tm.text Tm.I = xi at hti htxt
  subst htxt
  go_enter Try.func44, Try.ntmps44
  go_wp2_with fail
  refine htp.mono ?_
  rintro e w1 ⟨rfl, hq1⟩
  go_wp2_with fail
  refine (hI _).mono ?_
  rintro e w2 ⟨s2, ao2, n2, c2, rfl, hq2, ht2⟩
  have hti' := hti _ _ ht2
  clear ht2
  go_wp2_with fail
  refine hti'.mono ?_
  rintro e w3 ⟨rfl, hq3⟩
  have hq := (After.trans hq1 hq2).trans hq3
  clear hti' hti htp hI
  obtain ⟨i0, i1, _, _, l0⟩ := pair_facts HB0.out hq
  obtain ⟨z0, z1, z2, z3, l1⟩ := pair_facts HB1.out hq
  obtain ⟨y0, y1, y2, y3, l2⟩ := pair_facts HB2.out hq
  obtain ⟨j0, j1, _, _, l4⟩ := pair_facts HB4.out hq
  have vr0 := hq.cell x5r0
  have vr1 := hq.cell x5r1
  have vr2 := hq.cell x5r2
  have vr3 := hq.cell x5r3
  have vn0 := hq.cell x5n0
  have vn1 := hq.cell x5n1
  have vn2 := hq.cell x5n2
  have vn3 := hq.cell x5n3
  have vy0 := hq.cell x5y0
  have vy1 := hq.cell x5y1
  have vy2 := hq.cell x5y2
  have vy3 := hq.cell x5y3
  have vi0 := hq.cell x5i0
  have vi1 := hq.cell x5i1
  have vi2 := hq.cell x5i2
  have vi3 := hq.cell x5i3
  have hwq := HX5.out.trans hq
  go_wp2_with fail
  go_region
  all_goals
    go_wp2_with fail
    refine bodyPost_ret (v := .tuple #[.agg #[str se, .slice ae ne ce], .agg #[str sv, .slice av nv cv], .bool true]) (by simp [results, Try.results44, go_sem, z0, z1, y0, y1]) rfl ⟨_, _, _, _, _, _, _, _, rfl, (by repeat (first | exact hwq | apply After.drew | refine Below.setCell ?_ (by simp <;> omega) _)), fun m n h => ?_⟩
    obtain ⟨rfl, rfl⟩ : te = m ∧ tv = n := by simpa using h
    have hB2 := heap_sets2_ne (W := w3) (b := w.heap.size + 1) (c := w.heap.size + 1 + 1) (i := 0) (j := 1) (u := str se) (u' := .slice ae ne ce) (by omega)
    have hh2 := hB2.trans (hq.heap HB2.out)
    exact ⟨ST.later (After.drew (After.refl _)) (((HE.out.later hwq).sets2 (hq.heap HB1.out)).sets2 hh2), ST.later (After.drew (After.refl _)) (((HV.out.later hwq).sets2 (hq.heap HB1.out)).sets2 hh2)⟩

end Go.Proofs.Ytjgemiojjhfnoac
