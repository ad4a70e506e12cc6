/-
  The model's l2Parts where it fails.
-/
import Derived.Test.YtjgemiojjhfnoacSNum
import Derived.Test.YtjgemiojjhfnoacParts
namespace Go.Proofs.Ytjgemiojjhfnoac
open Go.RowKit

set_option maxHeartbeats 2000000
set_option maxRecDepth 100000

def SPartsPost (w : World) (r : Option (Tm × Tm)) (e : Ending) (w' : World) : Prop :=
  ∃ s1 a1 n1 c1 s2 a2 n2 c2, e = .returned (.tuple #[.agg #[str s1, .slice a1 n1 c1], .agg #[str s2, .slice a2 n2 c2], .bool r.isSome]) ∧ After w w' ∧ ∀ m n, r = some (m, n) → ST w' m (.agg #[str s1, .slice a1 n1 c1]) ∧ ST w' n (.agg #[str s2, .slice a2 n2 c2])

theorem pw_a (w : World) (sr : List UInt8) (ar : Option Addr) (nr cr : Nat) (hs : sr.isEmpty = false) :
    Calls Try.prog 44 #[.agg #[str sr, .slice ar nr cr]] w (SPartsPost w none) := by
  have hx3 := ((After.new w (.cells #[str sr, .slice ar nr cr] 41)).alloc (.cells #[.string ⟨#[]⟩, .slice none 0 0] 41)).alloc (.cells #[.string ⟨#[]⟩, .slice none 0 0] 41)
  go_enter Try.func44, Try.ntmps44
  go_wp2_with fail
  go_region
  all_goals
    go_wp2_with fail
    refine bodyPost_ret (v := .tuple #[.agg #[str sr, .slice ar nr cr], .agg #[str sr, .slice ar nr cr], .bool false]) (by simp [results, Try.results44, go_sem]) rfl ⟨_, _, _, _, _, _, _, _, rfl, (by repeat (first | exact After.refl _ | exact After.new _ _ | apply After.drew | apply After.alloc | refine Below.setCell ?_ (by simp) _)), fun m n h => by cases h⟩

theorem pw_b (w : World) (gr qr : Nat) (frr : Nat × Nat) (sx : List UInt8) (ax : Option Addr) (nx cx : Nat) (sy : List UInt8) (ay : Option Addr) (ny cy : Nat) (hr : w.heap[gr]? = some (.cells #[str sx, .slice ax nx cx, str sy, .slice ay ny cy] 41 frr)) (hs : sy.isEmpty = false) :
    Calls Try.prog 44 #[.agg #[str [], .slice (some ⟨gr, 0, none⟩) 2 qr]] w (SPartsPost w none) := by
  have kr0 : w.cell? ⟨gr, 0, none⟩ = some (str sx) := cell_of_heap hr
  have kr1 : w.cell? ⟨gr, 1, none⟩ = some (.slice ax nx cx) := cell_of_heap hr
  have kr2 : w.cell? ⟨gr, 2, none⟩ = some (str sy) := cell_of_heap hr
  have kr3 : w.cell? ⟨gr, 3, none⟩ = some (.slice ay ny cy) := cell_of_heap hr
  have lr := (Array.getElem?_eq_some_iff.1 hr).1
  clear hr
  have hx3 := ((After.new w (.cells #[str [], .slice (some ⟨gr, 0, none⟩) 2 qr] 41)).alloc (.cells #[.string ⟨#[]⟩, .slice none 0 0] 41)).alloc (.cells #[.string ⟨#[]⟩, .slice none 0 0] 41)
  have x3r0 := hx3.cell kr0
  have x3r1 := hx3.cell kr1
  have x3r2 := hx3.cell kr2
  have x3r3 := hx3.cell kr3
  go_enter Try.func44, Try.ntmps44
  go_wp2_with fail
  go_region
  all_goals
    go_wp2_with fail
    refine bodyPost_ret (v := .tuple #[.agg #[str [], .slice (some ⟨gr, 0, none⟩) 2 qr], .agg #[str [], .slice (some ⟨gr, 0, none⟩) 2 qr], .bool false]) (by simp [results, Try.results44, go_sem]) rfl ⟨_, _, _, _, _, _, _, _, rfl, (by repeat (first | exact After.refl _ | exact After.new _ _ | apply After.drew | apply After.alloc | refine Below.setCell ?_ (by simp) _)), fun m n h => by cases h⟩

theorem pw_c (w : World) (gr qr : Nat) (frr : Nat × Nat) (sx : List UInt8) (ax : Option Addr) (nx cx : Nat) (gy qy : Nat) (fry : Nat × Nat) (su : List UInt8) (au : Option Addr) (nu cu : Nat) (sv : List UInt8) (av : Option Addr) (nv cv : Nat) (hr : w.heap[gr]? = some (.cells #[str sx, .slice ax nx cx, str [], .slice (some ⟨gy, 0, none⟩) 2 qy] 41 frr)) (hy : w.heap[gy]? = some (.cells #[str su, .slice au nu cu, str sv, .slice av nv cv] 41 fry)) (hs : sx.isEmpty = false) :
    Calls Try.prog 44 #[.agg #[str [], .slice (some ⟨gr, 0, none⟩) 2 qr]] w (SPartsPost w none) := by
  have kr0 : w.cell? ⟨gr, 0, none⟩ = some (str sx) := cell_of_heap hr
  have kr1 : w.cell? ⟨gr, 1, none⟩ = some (.slice ax nx cx) := cell_of_heap hr
  have kr2 : w.cell? ⟨gr, 2, none⟩ = some (str []) := cell_of_heap hr
  have kr3 : w.cell? ⟨gr, 3, none⟩ = some (.slice (some ⟨gy, 0, none⟩) 2 qy) := cell_of_heap hr
  have lr := (Array.getElem?_eq_some_iff.1 hr).1
  clear hr
  have ky0 : w.cell? ⟨gy, 0, none⟩ = some (str su) := cell_of_heap hy
  have ky1 : w.cell? ⟨gy, 1, none⟩ = some (.slice au nu cu) := cell_of_heap hy
  have ky2 : w.cell? ⟨gy, 2, none⟩ = some (str sv) := cell_of_heap hy
  have ky3 : w.cell? ⟨gy, 3, none⟩ = some (.slice av nv cv) := cell_of_heap hy
  have ly := (Array.getElem?_eq_some_iff.1 hy).1
  clear hy
  have hx3 := ((After.new w (.cells #[str [], .slice (some ⟨gr, 0, none⟩) 2 qr] 41)).alloc (.cells #[.string ⟨#[]⟩, .slice none 0 0] 41)).alloc (.cells #[.string ⟨#[]⟩, .slice none 0 0] 41)
  have x3r0 := hx3.cell kr0
  have x3r1 := hx3.cell kr1
  have x3r2 := hx3.cell kr2
  have x3r3 := hx3.cell kr3
  go_enter Try.func44, Try.ntmps44
  go_wp2_with fail
  go_region
  all_goals
    go_wp2_with fail
    refine bodyPost_ret (v := .tuple #[.agg #[str [], .slice (some ⟨gr, 0, none⟩) 2 qr], .agg #[str [], .slice (some ⟨gr, 0, none⟩) 2 qr], .bool false]) (by simp [results, Try.results44, go_sem]) rfl ⟨_, _, _, _, _, _, _, _, rfl, (by repeat (first | exact After.refl _ | exact After.new _ _ | apply After.drew | apply After.alloc | refine Below.setCell ?_ (by simp) _)), fun m n h => by cases h⟩

theorem pw_d (w : World) (gr qr : Nat) (frr : Nat × Nat) (gx qx : Nat) (frx : Nat × Nat) (sf : List UInt8) (af : Option Addr) (nf cf : Nat) (si : List UInt8) (ai : Option Addr) (ni ci : Nat) (gy qy : Nat) (fry : Nat × Nat) (su : List UInt8) (au : Option Addr) (nu cu : Nat) (sv : List UInt8) (av : Option Addr) (nv cv : Nat) (hr : w.heap[gr]? = some (.cells #[str [], .slice (some ⟨gx, 0, none⟩) 2 qx, str [], .slice (some ⟨gy, 0, none⟩) 2 qy] 41 frr)) (hx : w.heap[gx]? = some (.cells #[str sf, .slice af nf cf, str si, .slice ai ni ci] 41 frx)) (hy : w.heap[gy]? = some (.cells #[str su, .slice au nu cu, str sv, .slice av nv cv] 41 fry)) (hs : (sf == [115]) = false) :
    Calls Try.prog 44 #[.agg #[str [], .slice (some ⟨gr, 0, none⟩) 2 qr]] w (SPartsPost w none) := by
  have kr0 : w.cell? ⟨gr, 0, none⟩ = some (str []) := cell_of_heap hr
  have kr1 : w.cell? ⟨gr, 1, none⟩ = some (.slice (some ⟨gx, 0, none⟩) 2 qx) := cell_of_heap hr
  have kr2 : w.cell? ⟨gr, 2, none⟩ = some (str []) := cell_of_heap hr
  have kr3 : w.cell? ⟨gr, 3, none⟩ = some (.slice (some ⟨gy, 0, none⟩) 2 qy) := cell_of_heap hr
  have lr := (Array.getElem?_eq_some_iff.1 hr).1
  clear hr
  have kx0 : w.cell? ⟨gx, 0, none⟩ = some (str sf) := cell_of_heap hx
  have kx1 : w.cell? ⟨gx, 1, none⟩ = some (.slice af nf cf) := cell_of_heap hx
  have kx2 : w.cell? ⟨gx, 2, none⟩ = some (str si) := cell_of_heap hx
  have kx3 : w.cell? ⟨gx, 3, none⟩ = some (.slice ai ni ci) := cell_of_heap hx
  have lx := (Array.getElem?_eq_some_iff.1 hx).1
  clear hx
  have ky0 : w.cell? ⟨gy, 0, none⟩ = some (str su) := cell_of_heap hy
  have ky1 : w.cell? ⟨gy, 1, none⟩ = some (.slice au nu cu) := cell_of_heap hy
  have ky2 : w.cell? ⟨gy, 2, none⟩ = some (str sv) := cell_of_heap hy
  have ky3 : w.cell? ⟨gy, 3, none⟩ = some (.slice av nv cv) := cell_of_heap hy
  have ly := (Array.getElem?_eq_some_iff.1 hy).1
  clear hy
  have hx3 := ((After.new w (.cells #[str [], .slice (some ⟨gr, 0, none⟩) 2 qr] 41)).alloc (.cells #[.string ⟨#[]⟩, .slice none 0 0] 41)).alloc (.cells #[.string ⟨#[]⟩, .slice none 0 0] 41)
  have x3r0 := hx3.cell kr0
  have x3r1 := hx3.cell kr1
  have x3r2 := hx3.cell kr2
  have x3r3 := hx3.cell kr3
  have hx4 := hx3.alloc (.cells #[str [], .slice (some ⟨gx, 0, none⟩) 2 qx] 41)
  have x4r0 := hx4.cell kr0
  have x4r1 := hx4.cell kr1
  have x4r2 := hx4.cell kr2
  have x4r3 := hx4.cell kr3
  have x4x0 := hx4.cell kx0
  have x4x1 := hx4.cell kx1
  have x4x2 := hx4.cell kx2
  have x4x3 := hx4.cell kx3
  have x4y0 := hx4.cell ky0
  have x4y1 := hx4.cell ky1
  have x4y2 := hx4.cell ky2
  have x4y3 := hx4.cell ky3
  go_enter Try.func44, Try.ntmps44
  go_wp2_with fail
  go_region
  all_goals
    go_wp2_with fail
    refine bodyPost_ret (v := .tuple #[.agg #[str [], .slice (some ⟨gr, 0, none⟩) 2 qr], .agg #[str [], .slice (some ⟨gr, 0, none⟩) 2 qr], .bool false]) (by simp [results, Try.results44, go_sem]) rfl ⟨_, _, _, _, _, _, _, _, rfl, (by repeat (first | exact After.refl _ | exact After.new _ _ | apply After.drew | apply After.alloc | refine Below.setCell ?_ (by simp) _)), fun m n h => by cases h⟩

theorem pw_e (w : World) (gr qr : Nat) (frr : Nat × Nat) (gx qx : Nat) (frx : Nat × Nat) (sf : List UInt8) (af : Option Addr) (nf cf : Nat) (si : List UInt8) (ai : Option Addr) (ni ci : Nat) (gy qy : Nat) (fry : Nat × Nat) (su : List UInt8) (au : Option Addr) (nu cu : Nat) (sv : List UInt8) (av : Option Addr) (nv cv : Nat) (hr : w.heap[gr]? = some (.cells #[str [], .slice (some ⟨gx, 0, none⟩) 2 qx, str [], .slice (some ⟨gy, 0, none⟩) 2 qy] 41 frr)) (hx : w.heap[gx]? = some (.cells #[str sf, .slice af nf cf, str si, .slice ai ni ci] 41 frx)) (hy : w.heap[gy]? = some (.cells #[str su, .slice au nu cu, str sv, .slice av nv cv] 41 fry)) (hf : sf = [115]) (hs : (su == [107]) = false) :
    Calls Try.prog 44 #[.agg #[str [], .slice (some ⟨gr, 0, none⟩) 2 qr]] w (SPartsPost w none) := by
  have kr0 : w.cell? ⟨gr, 0, none⟩ = some (str []) := cell_of_heap hr
  have kr1 : w.cell? ⟨gr, 1, none⟩ = some (.slice (some ⟨gx, 0, none⟩) 2 qx) := cell_of_heap hr
  have kr2 : w.cell? ⟨gr, 2, none⟩ = some (str []) := cell_of_heap hr
  have kr3 : w.cell? ⟨gr, 3, none⟩ = some (.slice (some ⟨gy, 0, none⟩) 2 qy) := cell_of_heap hr
  have lr := (Array.getElem?_eq_some_iff.1 hr).1
  clear hr
  have kx0 : w.cell? ⟨gx, 0, none⟩ = some (str sf) := cell_of_heap hx
  have kx1 : w.cell? ⟨gx, 1, none⟩ = some (.slice af nf cf) := cell_of_heap hx
  have kx2 : w.cell? ⟨gx, 2, none⟩ = some (str si) := cell_of_heap hx
  have kx3 : w.cell? ⟨gx, 3, none⟩ = some (.slice ai ni ci) := cell_of_heap hx
  have lx := (Array.getElem?_eq_some_iff.1 hx).1
  clear hx
  have ky0 : w.cell? ⟨gy, 0, none⟩ = some (str su) := cell_of_heap hy
  have ky1 : w.cell? ⟨gy, 1, none⟩ = some (.slice au nu cu) := cell_of_heap hy
  have ky2 : w.cell? ⟨gy, 2, none⟩ = some (str sv) := cell_of_heap hy
  have ky3 : w.cell? ⟨gy, 3, none⟩ = some (.slice av nv cv) := cell_of_heap hy
  have ly := (Array.getElem?_eq_some_iff.1 hy).1
  clear hy
  have hx3 := ((After.new w (.cells #[str [], .slice (some ⟨gr, 0, none⟩) 2 qr] 41)).alloc (.cells #[.string ⟨#[]⟩, .slice none 0 0] 41)).alloc (.cells #[.string ⟨#[]⟩, .slice none 0 0] 41)
  have x3r0 := hx3.cell kr0
  have x3r1 := hx3.cell kr1
  have x3r2 := hx3.cell kr2
  have x3r3 := hx3.cell kr3
  have hx4 := hx3.alloc (.cells #[str [], .slice (some ⟨gx, 0, none⟩) 2 qx] 41)
  have x4r0 := hx4.cell kr0
  have x4r1 := hx4.cell kr1
  have x4r2 := hx4.cell kr2
  have x4r3 := hx4.cell kr3
  have x4x0 := hx4.cell kx0
  have x4x1 := hx4.cell kx1
  have x4x2 := hx4.cell kx2
  have x4x3 := hx4.cell kx3
  have x4y0 := hx4.cell ky0
  have x4y1 := hx4.cell ky1
  have x4y2 := hx4.cell ky2
  have x4y3 := hx4.cell ky3
  subst hf
  go_enter Try.func44, Try.ntmps44
  go_wp2_with fail
  go_region
  all_goals
    go_wp2_with fail
    refine bodyPost_ret (v := .tuple #[.agg #[str [], .slice (some ⟨gr, 0, none⟩) 2 qr], .agg #[str [], .slice (some ⟨gr, 0, none⟩) 2 qr], .bool false]) (by simp [results, Try.results44, go_sem]) rfl ⟨_, _, _, _, _, _, _, _, rfl, (by repeat (first | exact After.refl _ | exact After.new _ _ | apply After.drew | apply After.alloc | refine Below.setCell ?_ (by simp) _)), fun m n h => by cases h⟩

theorem pw_f (w : World) (gr qr : Nat) (frr : Nat × Nat) (gx qx : Nat) (frx : Nat × Nat) (sf : List UInt8) (af : Option Addr) (nf cf : Nat) (si : List UInt8) (ai : Option Addr) (ni ci : Nat) (gy qy : Nat) (fry : Nat × Nat) (su : List UInt8) (au : Option Addr) (nu cu : Nat) (sv : List UInt8) (av : Option Addr) (nv cv : Nat) (hr : w.heap[gr]? = some (.cells #[str [], .slice (some ⟨gx, 0, none⟩) 2 qx, str [], .slice (some ⟨gy, 0, none⟩) 2 qy] 41 frr)) (hx : w.heap[gx]? = some (.cells #[str sf, .slice af nf cf, str si, .slice ai ni ci] 41 frx)) (hy : w.heap[gy]? = some (.cells #[str su, .slice au nu cu, str sv, .slice av nv cv] 41 fry)) (hf : sf = [115]) (hu : su = [107]) (hs : si.isEmpty = false) :
    Calls Try.prog 44 #[.agg #[str [], .slice (some ⟨gr, 0, none⟩) 2 qr]] w (SPartsPost w none) := by
  have kr0 : w.cell? ⟨gr, 0, none⟩ = some (str []) := cell_of_heap hr
  have kr1 : w.cell? ⟨gr, 1, none⟩ = some (.slice (some ⟨gx, 0, none⟩) 2 qx) := cell_of_heap hr
  have kr2 : w.cell? ⟨gr, 2, none⟩ = some (str []) := cell_of_heap hr
  have kr3 : w.cell? ⟨gr, 3, none⟩ = some (.slice (some ⟨gy, 0, none⟩) 2 qy) := cell_of_heap hr
  have lr := (Array.getElem?_eq_some_iff.1 hr).1
  clear hr
  have kx0 : w.cell? ⟨gx, 0, none⟩ = some (str sf) := cell_of_heap hx
  have kx1 : w.cell? ⟨gx, 1, none⟩ = some (.slice af nf cf) := cell_of_heap hx
  have kx2 : w.cell? ⟨gx, 2, none⟩ = some (str si) := cell_of_heap hx
  have kx3 : w.cell? ⟨gx, 3, none⟩ = some (.slice ai ni ci) := cell_of_heap hx
  have lx := (Array.getElem?_eq_some_iff.1 hx).1
  clear hx
  have ky0 : w.cell? ⟨gy, 0, none⟩ = some (str su) := cell_of_heap hy
  have ky1 : w.cell? ⟨gy, 1, none⟩ = some (.slice au nu cu) := cell_of_heap hy
  have ky2 : w.cell? ⟨gy, 2, none⟩ = some (str sv) := cell_of_heap hy
  have ky3 : w.cell? ⟨gy, 3, none⟩ = some (.slice av nv cv) := cell_of_heap hy
  have ly := (Array.getElem?_eq_some_iff.1 hy).1
  clear hy
  have hx3 := ((After.new w (.cells #[str [], .slice (some ⟨gr, 0, none⟩) 2 qr] 41)).alloc (.cells #[.string ⟨#[]⟩, .slice none 0 0] 41)).alloc (.cells #[.string ⟨#[]⟩, .slice none 0 0] 41)
  have x3r0 := hx3.cell kr0
  have x3r1 := hx3.cell kr1
  have x3r2 := hx3.cell kr2
  have x3r3 := hx3.cell kr3
  have hx4 := hx3.alloc (.cells #[str [], .slice (some ⟨gx, 0, none⟩) 2 qx] 41)
  have x4r0 := hx4.cell kr0
  have x4r1 := hx4.cell kr1
  have x4r2 := hx4.cell kr2
  have x4r3 := hx4.cell kr3
  have x4x0 := hx4.cell kx0
  have x4x1 := hx4.cell kx1
  have x4x2 := hx4.cell kx2
  have x4x3 := hx4.cell kx3
  have x4y0 := hx4.cell ky0
  have x4y1 := hx4.cell ky1
  have x4y2 := hx4.cell ky2
  have x4y3 := hx4.cell ky3
  subst hf
  subst hu
  go_enter Try.func44, Try.ntmps44
  go_wp2_with fail
  go_region
  all_goals
    go_wp2_with fail
    refine bodyPost_ret (v := .tuple #[.agg #[str [], .slice (some ⟨gr, 0, none⟩) 2 qr], .agg #[str [], .slice (some ⟨gr, 0, none⟩) 2 qr], .bool false]) (by simp [results, Try.results44, go_sem]) rfl ⟨_, _, _, _, _, _, _, _, rfl, (by repeat (first | exact After.refl _ | exact After.new _ _ | apply After.drew | apply After.alloc | refine Below.setCell ?_ (by simp) _)), fun m n h => by cases h⟩

theorem pw_g (w : World) (gr qr : Nat) (frr : Nat × Nat) (gx qx : Nat) (frx : Nat × Nat) (sf : List UInt8) (af : Option Addr) (nf cf : Nat) (gi qi : Nat) (fri : Nat × Nat) (sm : List UInt8) (am : Option Addr) (nm cm : Nat) (sn : List UInt8) (an : Option Addr) (nn cn : Nat) (gy qy : Nat) (fry : Nat × Nat) (su : List UInt8) (au : Option Addr) (nu cu : Nat) (sv : List UInt8) (av : Option Addr) (nv cv : Nat) (hr : w.heap[gr]? = some (.cells #[str [], .slice (some ⟨gx, 0, none⟩) 2 qx, str [], .slice (some ⟨gy, 0, none⟩) 2 qy] 41 frr)) (hx : w.heap[gx]? = some (.cells #[str sf, .slice af nf cf, str [], .slice (some ⟨gi, 0, none⟩) 2 qi] 41 frx)) (hi : w.heap[gi]? = some (.cells #[str sm, .slice am nm cm, str sn, .slice an nn cn] 41 fri)) (hy : w.heap[gy]? = some (.cells #[str su, .slice au nu cu, str sv, .slice av nv cv] 41 fry)) (hf : sf = [115]) (hu : su = [107]) (hs : sm.isEmpty = false) :
    Calls Try.prog 44 #[.agg #[str [], .slice (some ⟨gr, 0, none⟩) 2 qr]] w (SPartsPost w none) := by
  have kr0 : w.cell? ⟨gr, 0, none⟩ = some (str []) := cell_of_heap hr
  have kr1 : w.cell? ⟨gr, 1, none⟩ = some (.slice (some ⟨gx, 0, none⟩) 2 qx) := cell_of_heap hr
  have kr2 : w.cell? ⟨gr, 2, none⟩ = some (str []) := cell_of_heap hr
  have kr3 : w.cell? ⟨gr, 3, none⟩ = some (.slice (some ⟨gy, 0, none⟩) 2 qy) := cell_of_heap hr
  have lr := (Array.getElem?_eq_some_iff.1 hr).1
  clear hr
  have kx0 : w.cell? ⟨gx, 0, none⟩ = some (str sf) := cell_of_heap hx
  have kx1 : w.cell? ⟨gx, 1, none⟩ = some (.slice af nf cf) := cell_of_heap hx
  have kx2 : w.cell? ⟨gx, 2, none⟩ = some (str []) := cell_of_heap hx
  have kx3 : w.cell? ⟨gx, 3, none⟩ = some (.slice (some ⟨gi, 0, none⟩) 2 qi) := cell_of_heap hx
  have lx := (Array.getElem?_eq_some_iff.1 hx).1
  clear hx
  have ki0 : w.cell? ⟨gi, 0, none⟩ = some (str sm) := cell_of_heap hi
  have ki1 : w.cell? ⟨gi, 1, none⟩ = some (.slice am nm cm) := cell_of_heap hi
  have ki2 : w.cell? ⟨gi, 2, none⟩ = some (str sn) := cell_of_heap hi
  have ki3 : w.cell? ⟨gi, 3, none⟩ = some (.slice an nn cn) := cell_of_heap hi
  have li := (Array.getElem?_eq_some_iff.1 hi).1
  clear hi
  have ky0 : w.cell? ⟨gy, 0, none⟩ = some (str su) := cell_of_heap hy
  have ky1 : w.cell? ⟨gy, 1, none⟩ = some (.slice au nu cu) := cell_of_heap hy
  have ky2 : w.cell? ⟨gy, 2, none⟩ = some (str sv) := cell_of_heap hy
  have ky3 : w.cell? ⟨gy, 3, none⟩ = some (.slice av nv cv) := cell_of_heap hy
  have ly := (Array.getElem?_eq_some_iff.1 hy).1
  clear hy
  have hx3 := ((After.new w (.cells #[str [], .slice (some ⟨gr, 0, none⟩) 2 qr] 41)).alloc (.cells #[.string ⟨#[]⟩, .slice none 0 0] 41)).alloc (.cells #[.string ⟨#[]⟩, .slice none 0 0] 41)
  have x3r0 := hx3.cell kr0
  have x3r1 := hx3.cell kr1
  have x3r2 := hx3.cell kr2
  have x3r3 := hx3.cell kr3
  have hx4 := hx3.alloc (.cells #[str [], .slice (some ⟨gx, 0, none⟩) 2 qx] 41)
  have x4r0 := hx4.cell kr0
  have x4r1 := hx4.cell kr1
  have x4r2 := hx4.cell kr2
  have x4r3 := hx4.cell kr3
  have x4x0 := hx4.cell kx0
  have x4x1 := hx4.cell kx1
  have x4x2 := hx4.cell kx2
  have x4x3 := hx4.cell kx3
  have x4y0 := hx4.cell ky0
  have x4y1 := hx4.cell ky1
  have x4y2 := hx4.cell ky2
  have x4y3 := hx4.cell ky3
  have hx5 := hx4.alloc (.cells #[str [], .slice (some ⟨gi, 0, none⟩) 2 qi] 41)
  have x5r0 := hx5.cell kr0
  have x5r1 := hx5.cell kr1
  have x5r2 := hx5.cell kr2
  have x5r3 := hx5.cell kr3
  have x5x0 := hx5.cell kx0
  have x5x1 := hx5.cell kx1
  have x5x2 := hx5.cell kx2
  have x5x3 := hx5.cell kx3
  have x5i0 := hx5.cell ki0
  have x5i1 := hx5.cell ki1
  have x5i2 := hx5.cell ki2
  have x5i3 := hx5.cell ki3
  have x5y0 := hx5.cell ky0
  have x5y1 := hx5.cell ky1
  have x5y2 := hx5.cell ky2
  have x5y3 := hx5.cell ky3
  subst hf
  subst hu
  go_enter Try.func44, Try.ntmps44
  go_wp2_with fail
  go_region
  all_goals
    go_wp2_with fail
    refine bodyPost_ret (v := .tuple #[.agg #[str [], .slice (some ⟨gr, 0, none⟩) 2 qr], .agg #[str [], .slice (some ⟨gr, 0, none⟩) 2 qr], .bool false]) (by simp [results, Try.results44, go_sem]) rfl ⟨_, _, _, _, _, _, _, _, rfl, (by repeat (first | exact After.refl _ | exact After.new _ _ | apply After.drew | apply After.alloc | refine Below.setCell ?_ (by simp) _)), fun m n h => by cases h⟩

theorem pw_h (w : World) (gr qr : Nat) (frr : Nat × Nat) (gx qx : Nat) (frx : Nat × Nat) (sf : List UInt8) (af : Option Addr) (nf cf : Nat) (gi qi : Nat) (fri : Nat × Nat) (gm qm : Nat) (frm : Nat × Nat) (so : List UInt8) (ao : Option Addr) (no co : Nat) (sp : List UInt8) (ap : Option Addr) (np cp : Nat) (sn : List UInt8) (an : Option Addr) (nn cn : Nat) (gy qy : Nat) (fry : Nat × Nat) (su : List UInt8) (au : Option Addr) (nu cu : Nat) (sv : List UInt8) (av : Option Addr) (nv cv : Nat) (hr : w.heap[gr]? = some (.cells #[str [], .slice (some ⟨gx, 0, none⟩) 2 qx, str [], .slice (some ⟨gy, 0, none⟩) 2 qy] 41 frr)) (hx : w.heap[gx]? = some (.cells #[str sf, .slice af nf cf, str [], .slice (some ⟨gi, 0, none⟩) 2 qi] 41 frx)) (hi : w.heap[gi]? = some (.cells #[str [], .slice (some ⟨gm, 0, none⟩) 2 qm, str sn, .slice an nn cn] 41 fri)) (hm : w.heap[gm]? = some (.cells #[str so, .slice ao no co, str sp, .slice ap np cp] 41 frm)) (hy : w.heap[gy]? = some (.cells #[str su, .slice au nu cu, str sv, .slice av nv cv] 41 fry)) (hf : sf = [115]) (hu : su = [107]) (hs : sn.isEmpty = false) :
    Calls Try.prog 44 #[.agg #[str [], .slice (some ⟨gr, 0, none⟩) 2 qr]] w (SPartsPost w none) := by
  have kr0 : w.cell? ⟨gr, 0, none⟩ = some (str []) := cell_of_heap hr
  have kr1 : w.cell? ⟨gr, 1, none⟩ = some (.slice (some ⟨gx, 0, none⟩) 2 qx) := cell_of_heap hr
  have kr2 : w.cell? ⟨gr, 2, none⟩ = some (str []) := cell_of_heap hr
  have kr3 : w.cell? ⟨gr, 3, none⟩ = some (.slice (some ⟨gy, 0, none⟩) 2 qy) := cell_of_heap hr
  have lr := (Array.getElem?_eq_some_iff.1 hr).1
  clear hr
  have kx0 : w.cell? ⟨gx, 0, none⟩ = some (str sf) := cell_of_heap hx
  have kx1 : w.cell? ⟨gx, 1, none⟩ = some (.slice af nf cf) := cell_of_heap hx
  have kx2 : w.cell? ⟨gx, 2, none⟩ = some (str []) := cell_of_heap hx
  have kx3 : w.cell? ⟨gx, 3, none⟩ = some (.slice (some ⟨gi, 0, none⟩) 2 qi) := cell_of_heap hx
  have lx := (Array.getElem?_eq_some_iff.1 hx).1
  clear hx
  have ki0 : w.cell? ⟨gi, 0, none⟩ = some (str []) := cell_of_heap hi
  have ki1 : w.cell? ⟨gi, 1, none⟩ = some (.slice (some ⟨gm, 0, none⟩) 2 qm) := cell_of_heap hi
  have ki2 : w.cell? ⟨gi, 2, none⟩ = some (str sn) := cell_of_heap hi
  have ki3 : w.cell? ⟨gi, 3, none⟩ = some (.slice an nn cn) := cell_of_heap hi
  have li := (Array.getElem?_eq_some_iff.1 hi).1
  clear hi
  have km0 : w.cell? ⟨gm, 0, none⟩ = some (str so) := cell_of_heap hm
  have km1 : w.cell? ⟨gm, 1, none⟩ = some (.slice ao no co) := cell_of_heap hm
  have km2 : w.cell? ⟨gm, 2, none⟩ = some (str sp) := cell_of_heap hm
  have km3 : w.cell? ⟨gm, 3, none⟩ = some (.slice ap np cp) := cell_of_heap hm
  have lm := (Array.getElem?_eq_some_iff.1 hm).1
  clear hm
  have ky0 : w.cell? ⟨gy, 0, none⟩ = some (str su) := cell_of_heap hy
  have ky1 : w.cell? ⟨gy, 1, none⟩ = some (.slice au nu cu) := cell_of_heap hy
  have ky2 : w.cell? ⟨gy, 2, none⟩ = some (str sv) := cell_of_heap hy
  have ky3 : w.cell? ⟨gy, 3, none⟩ = some (.slice av nv cv) := cell_of_heap hy
  have ly := (Array.getElem?_eq_some_iff.1 hy).1
  clear hy
  have hx3 := ((After.new w (.cells #[str [], .slice (some ⟨gr, 0, none⟩) 2 qr] 41)).alloc (.cells #[.string ⟨#[]⟩, .slice none 0 0] 41)).alloc (.cells #[.string ⟨#[]⟩, .slice none 0 0] 41)
  have x3r0 := hx3.cell kr0
  have x3r1 := hx3.cell kr1
  have x3r2 := hx3.cell kr2
  have x3r3 := hx3.cell kr3
  have hx4 := hx3.alloc (.cells #[str [], .slice (some ⟨gx, 0, none⟩) 2 qx] 41)
  have x4r0 := hx4.cell kr0
  have x4r1 := hx4.cell kr1
  have x4r2 := hx4.cell kr2
  have x4r3 := hx4.cell kr3
  have x4x0 := hx4.cell kx0
  have x4x1 := hx4.cell kx1
  have x4x2 := hx4.cell kx2
  have x4x3 := hx4.cell kx3
  have x4y0 := hx4.cell ky0
  have x4y1 := hx4.cell ky1
  have x4y2 := hx4.cell ky2
  have x4y3 := hx4.cell ky3
  have hx5 := hx4.alloc (.cells #[str [], .slice (some ⟨gi, 0, none⟩) 2 qi] 41)
  have x5r0 := hx5.cell kr0
  have x5r1 := hx5.cell kr1
  have x5r2 := hx5.cell kr2
  have x5r3 := hx5.cell kr3
  have x5x0 := hx5.cell kx0
  have x5x1 := hx5.cell kx1
  have x5x2 := hx5.cell kx2
  have x5x3 := hx5.cell kx3
  have x5i0 := hx5.cell ki0
  have x5i1 := hx5.cell ki1
  have x5i2 := hx5.cell ki2
  have x5i3 := hx5.cell ki3
  have x5m0 := hx5.cell km0
  have x5m1 := hx5.cell km1
  have x5m2 := hx5.cell km2
  have x5m3 := hx5.cell km3
  have x5y0 := hx5.cell ky0
  have x5y1 := hx5.cell ky1
  have x5y2 := hx5.cell ky2
  have x5y3 := hx5.cell ky3
  subst hf
  subst hu
  go_enter Try.func44, Try.ntmps44
  go_wp2_with fail
  go_region
  all_goals
    go_wp2_with fail
    refine bodyPost_ret (v := .tuple #[.agg #[str [], .slice (some ⟨gr, 0, none⟩) 2 qr], .agg #[str [], .slice (some ⟨gr, 0, none⟩) 2 qr], .bool false]) (by simp [results, Try.results44, go_sem]) rfl ⟨_, _, _, _, _, _, _, _, rfl, (by repeat (first | exact After.refl _ | exact After.new _ _ | apply After.drew | apply After.alloc | refine Below.setCell ?_ (by simp) _)), fun m n h => by cases h⟩

theorem pw_i (w : World) (gr qr : Nat) (frr : Nat × Nat) (gx qx : Nat) (frx : Nat × Nat) (sf : List UInt8) (af : Option Addr) (nf cf : Nat) (gi qi : Nat) (fri : Nat × Nat) (gm qm : Nat) (frm : Nat × Nat) (so : List UInt8) (ao : Option Addr) (no co : Nat) (sp : List UInt8) (ap : Option Addr) (np cp : Nat) (gn qn : Nat) (frn : Nat × Nat) (sj : List UInt8) (aj : Option Addr) (nj cj : Nat) (se : List UInt8) (ae : Option Addr) (ne ce : Nat) (gy qy : Nat) (fry : Nat × Nat) (su : List UInt8) (au : Option Addr) (nu cu : Nat) (sv : List UInt8) (av : Option Addr) (nv cv : Nat) (hr : w.heap[gr]? = some (.cells #[str [], .slice (some ⟨gx, 0, none⟩) 2 qx, str [], .slice (some ⟨gy, 0, none⟩) 2 qy] 41 frr)) (hx : w.heap[gx]? = some (.cells #[str sf, .slice af nf cf, str [], .slice (some ⟨gi, 0, none⟩) 2 qi] 41 frx)) (hi : w.heap[gi]? = some (.cells #[str [], .slice (some ⟨gm, 0, none⟩) 2 qm, str [], .slice (some ⟨gn, 0, none⟩) 2 qn] 41 fri)) (hm : w.heap[gm]? = some (.cells #[str so, .slice ao no co, str sp, .slice ap np cp] 41 frm)) (hn : w.heap[gn]? = some (.cells #[str sj, .slice aj nj cj, str se, .slice ae ne ce] 41 frn)) (hy : w.heap[gy]? = some (.cells #[str su, .slice au nu cu, str sv, .slice av nv cv] 41 fry)) (hf : sf = [115]) (hu : su = [107]) (hs : (so == [115]) = false) :
    Calls Try.prog 44 #[.agg #[str [], .slice (some ⟨gr, 0, none⟩) 2 qr]] w (SPartsPost w none) := by
  have kr0 : w.cell? ⟨gr, 0, none⟩ = some (str []) := cell_of_heap hr
  have kr1 : w.cell? ⟨gr, 1, none⟩ = some (.slice (some ⟨gx, 0, none⟩) 2 qx) := cell_of_heap hr
  have kr2 : w.cell? ⟨gr, 2, none⟩ = some (str []) := cell_of_heap hr
  have kr3 : w.cell? ⟨gr, 3, none⟩ = some (.slice (some ⟨gy, 0, none⟩) 2 qy) := cell_of_heap hr
  have lr := (Array.getElem?_eq_some_iff.1 hr).1
  clear hr
  have kx0 : w.cell? ⟨gx, 0, none⟩ = some (str sf) := cell_of_heap hx
  have kx1 : w.cell? ⟨gx, 1, none⟩ = some (.slice af nf cf) := cell_of_heap hx
  have kx2 : w.cell? ⟨gx, 2, none⟩ = some (str []) := cell_of_heap hx
  have kx3 : w.cell? ⟨gx, 3, none⟩ = some (.slice (some ⟨gi, 0, none⟩) 2 qi) := cell_of_heap hx
  have lx := (Array.getElem?_eq_some_iff.1 hx).1
  clear hx
  have ki0 : w.cell? ⟨gi, 0, none⟩ = some (str []) := cell_of_heap hi
  have ki1 : w.cell? ⟨gi, 1, none⟩ = some (.slice (some ⟨gm, 0, none⟩) 2 qm) := cell_of_heap hi
  have ki2 : w.cell? ⟨gi, 2, none⟩ = some (str []) := cell_of_heap hi
  have ki3 : w.cell? ⟨gi, 3, none⟩ = some (.slice (some ⟨gn, 0, none⟩) 2 qn) := cell_of_heap hi
  have li := (Array.getElem?_eq_some_iff.1 hi).1
  clear hi
  have km0 : w.cell? ⟨gm, 0, none⟩ = some (str so) := cell_of_heap hm
  have km1 : w.cell? ⟨gm, 1, none⟩ = some (.slice ao no co) := cell_of_heap hm
  have km2 : w.cell? ⟨gm, 2, none⟩ = some (str sp) := cell_of_heap hm
  have km3 : w.cell? ⟨gm, 3, none⟩ = some (.slice ap np cp) := cell_of_heap hm
  have lm := (Array.getElem?_eq_some_iff.1 hm).1
  clear hm
  have kn0 : w.cell? ⟨gn, 0, none⟩ = some (str sj) := cell_of_heap hn
  have kn1 : w.cell? ⟨gn, 1, none⟩ = some (.slice aj nj cj) := cell_of_heap hn
  have kn2 : w.cell? ⟨gn, 2, none⟩ = some (str se) := cell_of_heap hn
  have kn3 : w.cell? ⟨gn, 3, none⟩ = some (.slice ae ne ce) := cell_of_heap hn
  have ln := (Array.getElem?_eq_some_iff.1 hn).1
  clear hn
  have ky0 : w.cell? ⟨gy, 0, none⟩ = some (str su) := cell_of_heap hy
  have ky1 : w.cell? ⟨gy, 1, none⟩ = some (.slice au nu cu) := cell_of_heap hy
  have ky2 : w.cell? ⟨gy, 2, none⟩ = some (str sv) := cell_of_heap hy
  have ky3 : w.cell? ⟨gy, 3, none⟩ = some (.slice av nv cv) := cell_of_heap hy
  have ly := (Array.getElem?_eq_some_iff.1 hy).1
  clear hy
  have hx3 := ((After.new w (.cells #[str [], .slice (some ⟨gr, 0, none⟩) 2 qr] 41)).alloc (.cells #[.string ⟨#[]⟩, .slice none 0 0] 41)).alloc (.cells #[.string ⟨#[]⟩, .slice none 0 0] 41)
  have x3r0 := hx3.cell kr0
  have x3r1 := hx3.cell kr1
  have x3r2 := hx3.cell kr2
  have x3r3 := hx3.cell kr3
  have hx4 := hx3.alloc (.cells #[str [], .slice (some ⟨gx, 0, none⟩) 2 qx] 41)
  have x4r0 := hx4.cell kr0
  have x4r1 := hx4.cell kr1
  have x4r2 := hx4.cell kr2
  have x4r3 := hx4.cell kr3
  have x4x0 := hx4.cell kx0
  have x4x1 := hx4.cell kx1
  have x4x2 := hx4.cell kx2
  have x4x3 := hx4.cell kx3
  have x4y0 := hx4.cell ky0
  have x4y1 := hx4.cell ky1
  have x4y2 := hx4.cell ky2
  have x4y3 := hx4.cell ky3
  have hx5 := hx4.alloc (.cells #[str [], .slice (some ⟨gi, 0, none⟩) 2 qi] 41)
  have x5r0 := hx5.cell kr0
  have x5r1 := hx5.cell kr1
  have x5r2 := hx5.cell kr2
  have x5r3 := hx5.cell kr3
  have x5x0 := hx5.cell kx0
  have x5x1 := hx5.cell kx1
  have x5x2 := hx5.cell kx2
  have x5x3 := hx5.cell kx3
  have x5i0 := hx5.cell ki0
  have x5i1 := hx5.cell ki1
  have x5i2 := hx5.cell ki2
  have x5i3 := hx5.cell ki3
  have x5m0 := hx5.cell km0
  have x5m1 := hx5.cell km1
  have x5m2 := hx5.cell km2
  have x5m3 := hx5.cell km3
  have x5n0 := hx5.cell kn0
  have x5n1 := hx5.cell kn1
  have x5n2 := hx5.cell kn2
  have x5n3 := hx5.cell kn3
  have x5y0 := hx5.cell ky0
  have x5y1 := hx5.cell ky1
  have x5y2 := hx5.cell ky2
  have x5y3 := hx5.cell ky3
  subst hf
  subst hu
  go_enter Try.func44, Try.ntmps44
  go_wp2_with fail
  go_region
  all_goals
    go_wp2_with fail
    refine bodyPost_ret (v := .tuple #[.agg #[str [], .slice (some ⟨gr, 0, none⟩) 2 qr], .agg #[str [], .slice (some ⟨gr, 0, none⟩) 2 qr], .bool false]) (by simp [results, Try.results44, go_sem]) rfl ⟨_, _, _, _, _, _, _, _, rfl, (by repeat (first | exact After.refl _ | exact After.new _ _ | apply After.drew | apply After.alloc | refine Below.setCell ?_ (by simp) _)), fun m n h => by cases h⟩

theorem pw_j (w : World) (gr qr : Nat) (frr : Nat × Nat) (gx qx : Nat) (frx : Nat × Nat) (sf : List UInt8) (af : Option Addr) (nf cf : Nat) (gi qi : Nat) (fri : Nat × Nat) (gm qm : Nat) (frm : Nat × Nat) (so : List UInt8) (ao : Option Addr) (no co : Nat) (sp : List UInt8) (ap : Option Addr) (np cp : Nat) (gn qn : Nat) (frn : Nat × Nat) (sj : List UInt8) (aj : Option Addr) (nj cj : Nat) (se : List UInt8) (ae : Option Addr) (ne ce : Nat) (gy qy : Nat) (fry : Nat × Nat) (su : List UInt8) (au : Option Addr) (nu cu : Nat) (sv : List UInt8) (av : Option Addr) (nv cv : Nat) (hr : w.heap[gr]? = some (.cells #[str [], .slice (some ⟨gx, 0, none⟩) 2 qx, str [], .slice (some ⟨gy, 0, none⟩) 2 qy] 41 frr)) (hx : w.heap[gx]? = some (.cells #[str sf, .slice af nf cf, str [], .slice (some ⟨gi, 0, none⟩) 2 qi] 41 frx)) (hi : w.heap[gi]? = some (.cells #[str [], .slice (some ⟨gm, 0, none⟩) 2 qm, str [], .slice (some ⟨gn, 0, none⟩) 2 qn] 41 fri)) (hm : w.heap[gm]? = some (.cells #[str so, .slice ao no co, str sp, .slice ap np cp] 41 frm)) (hn : w.heap[gn]? = some (.cells #[str sj, .slice aj nj cj, str se, .slice ae ne ce] 41 frn)) (hy : w.heap[gy]? = some (.cells #[str su, .slice au nu cu, str sv, .slice av nv cv] 41 fry)) (hf : sf = [115]) (hu : su = [107]) (ho : so = [115]) (hs : (sj == [107]) = false) :
    Calls Try.prog 44 #[.agg #[str [], .slice (some ⟨gr, 0, none⟩) 2 qr]] w (SPartsPost w none) := by
  have kr0 : w.cell? ⟨gr, 0, none⟩ = some (str []) := cell_of_heap hr
  have kr1 : w.cell? ⟨gr, 1, none⟩ = some (.slice (some ⟨gx, 0, none⟩) 2 qx) := cell_of_heap hr
  have kr2 : w.cell? ⟨gr, 2, none⟩ = some (str []) := cell_of_heap hr
  have kr3 : w.cell? ⟨gr, 3, none⟩ = some (.slice (some ⟨gy, 0, none⟩) 2 qy) := cell_of_heap hr
  have lr := (Array.getElem?_eq_some_iff.1 hr).1
  clear hr
  have kx0 : w.cell? ⟨gx, 0, none⟩ = some (str sf) := cell_of_heap hx
  have kx1 : w.cell? ⟨gx, 1, none⟩ = some (.slice af nf cf) := cell_of_heap hx
  have kx2 : w.cell? ⟨gx, 2, none⟩ = some (str []) := cell_of_heap hx
  have kx3 : w.cell? ⟨gx, 3, none⟩ = some (.slice (some ⟨gi, 0, none⟩) 2 qi) := cell_of_heap hx
  have lx := (Array.getElem?_eq_some_iff.1 hx).1
  clear hx
  have ki0 : w.cell? ⟨gi, 0, none⟩ = some (str []) := cell_of_heap hi
  have ki1 : w.cell? ⟨gi, 1, none⟩ = some (.slice (some ⟨gm, 0, none⟩) 2 qm) := cell_of_heap hi
  have ki2 : w.cell? ⟨gi, 2, none⟩ = some (str []) := cell_of_heap hi
  have ki3 : w.cell? ⟨gi, 3, none⟩ = some (.slice (some ⟨gn, 0, none⟩) 2 qn) := cell_of_heap hi
  have li := (Array.getElem?_eq_some_iff.1 hi).1
  clear hi
  have km0 : w.cell? ⟨gm, 0, none⟩ = some (str so) := cell_of_heap hm
  have km1 : w.cell? ⟨gm, 1, none⟩ = some (.slice ao no co) := cell_of_heap hm
  have km2 : w.cell? ⟨gm, 2, none⟩ = some (str sp) := cell_of_heap hm
  have km3 : w.cell? ⟨gm, 3, none⟩ = some (.slice ap np cp) := cell_of_heap hm
  have lm := (Array.getElem?_eq_some_iff.1 hm).1
  clear hm
  have kn0 : w.cell? ⟨gn, 0, none⟩ = some (str sj) := cell_of_heap hn
  have kn1 : w.cell? ⟨gn, 1, none⟩ = some (.slice aj nj cj) := cell_of_heap hn
  have kn2 : w.cell? ⟨gn, 2, none⟩ = some (str se) := cell_of_heap hn
  have kn3 : w.cell? ⟨gn, 3, none⟩ = some (.slice ae ne ce) := cell_of_heap hn
  have ln := (Array.getElem?_eq_some_iff.1 hn).1
  clear hn
  have ky0 : w.cell? ⟨gy, 0, none⟩ = some (str su) := cell_of_heap hy
  have ky1 : w.cell? ⟨gy, 1, none⟩ = some (.slice au nu cu) := cell_of_heap hy
  have ky2 : w.cell? ⟨gy, 2, none⟩ = some (str sv) := cell_of_heap hy
  have ky3 : w.cell? ⟨gy, 3, none⟩ = some (.slice av nv cv) := cell_of_heap hy
  have ly := (Array.getElem?_eq_some_iff.1 hy).1
  clear hy
  have hx3 := ((After.new w (.cells #[str [], .slice (some ⟨gr, 0, none⟩) 2 qr] 41)).alloc (.cells #[.string ⟨#[]⟩, .slice none 0 0] 41)).alloc (.cells #[.string ⟨#[]⟩, .slice none 0 0] 41)
  have x3r0 := hx3.cell kr0
  have x3r1 := hx3.cell kr1
  have x3r2 := hx3.cell kr2
  have x3r3 := hx3.cell kr3
  have hx4 := hx3.alloc (.cells #[str [], .slice (some ⟨gx, 0, none⟩) 2 qx] 41)
  have x4r0 := hx4.cell kr0
  have x4r1 := hx4.cell kr1
  have x4r2 := hx4.cell kr2
  have x4r3 := hx4.cell kr3
  have x4x0 := hx4.cell kx0
  have x4x1 := hx4.cell kx1
  have x4x2 := hx4.cell kx2
  have x4x3 := hx4.cell kx3
  have x4y0 := hx4.cell ky0
  have x4y1 := hx4.cell ky1
  have x4y2 := hx4.cell ky2
  have x4y3 := hx4.cell ky3
  have hx5 := hx4.alloc (.cells #[str [], .slice (some ⟨gi, 0, none⟩) 2 qi] 41)
  have x5r0 := hx5.cell kr0
  have x5r1 := hx5.cell kr1
  have x5r2 := hx5.cell kr2
  have x5r3 := hx5.cell kr3
  have x5x0 := hx5.cell kx0
  have x5x1 := hx5.cell kx1
  have x5x2 := hx5.cell kx2
  have x5x3 := hx5.cell kx3
  have x5i0 := hx5.cell ki0
  have x5i1 := hx5.cell ki1
  have x5i2 := hx5.cell ki2
  have x5i3 := hx5.cell ki3
  have x5m0 := hx5.cell km0
  have x5m1 := hx5.cell km1
  have x5m2 := hx5.cell km2
  have x5m3 := hx5.cell km3
  have x5n0 := hx5.cell kn0
  have x5n1 := hx5.cell kn1
  have x5n2 := hx5.cell kn2
  have x5n3 := hx5.cell kn3
  have x5y0 := hx5.cell ky0
  have x5y1 := hx5.cell ky1
  have x5y2 := hx5.cell ky2
  have x5y3 := hx5.cell ky3
  subst hf
  subst hu
  subst ho
  go_enter Try.func44, Try.ntmps44
  go_wp2_with fail
  go_region
  all_goals
    go_wp2_with fail
    refine bodyPost_ret (v := .tuple #[.agg #[str [], .slice (some ⟨gr, 0, none⟩) 2 qr], .agg #[str [], .slice (some ⟨gr, 0, none⟩) 2 qr], .bool false]) (by simp [results, Try.results44, go_sem]) rfl ⟨_, _, _, _, _, _, _, _, rfl, (by repeat (first | exact After.refl _ | exact After.new _ _ | apply After.drew | apply After.alloc | refine Below.setCell ?_ (by simp) _)), fun m n h => by cases h⟩

end Go.Proofs.Ytjgemiojjhfnoac
