/-
  The model's l2Parts where it fails.
-/
import Derived.Test.YtfpekihdoclncaaPkAM
import Derived.Test.YtfpekihdoclncaaPkAL
import Derived.Test.YtfpekihdoclncaaPkAG
namespace Go.Proofs.Ytfpekihdoclncaa
open Go.RowKit

set_option maxHeartbeats 2000000
set_option maxRecDepth 100000

def SPartsPost (w : World) (r : Option (Tm × Tm)) (e : Ending) (w' : World) : Prop :=
  ∃ s1 a1 n1 c1 s2 a2 n2 c2, e = .returned (.tuple #[.agg #[str s1, .slice a1 n1 c1], .agg #[str s2, .slice a2 n2 c2], .bool r.isSome]) ∧ After w w' ∧ ∀ m n, r = some (m, n) → ST w' m (.agg #[str s1, .slice a1 n1 c1]) ∧ ST w' n (.agg #[str s2, .slice a2 n2 c2])

theorem pw_a (w : World) (sr : List UInt8) (ar : Option Addr) (nr cr : Nat) (hs : sr.isEmpty = false) :
    Calls Try.prog 77 #[.agg #[str sr, .slice ar nr cr]] w (SPartsPost w none) := by
  have hx3 := ((After.new w (.cells #[str sr, .slice ar nr cr] 32)).alloc (.cells #[.string ⟨#[]⟩, .slice none 0 0] 32)).alloc (.cells #[.string ⟨#[]⟩, .slice none 0 0] 32)
  go_enter Try.func77, Try.ntmps77
  go_wp2_with fail
  go_region
  all_goals
    go_wp2_with fail
    refine bodyPost_ret (v := .tuple #[.agg #[str sr, .slice ar nr cr], .agg #[str sr, .slice ar nr cr], .bool false]) (by simp [results, Try.results77, go_sem]) rfl ⟨_, _, _, _, _, _, _, _, rfl, (by repeat (first | exact After.refl _ | exact After.new _ _ | apply After.drew | apply After.alloc | refine Below.setCell ?_ (by simp) _)), fun m n h => by cases h⟩

theorem pw_b (w : World) (gr qr : Nat) (frr : Nat × Nat) (sx : List UInt8) (ax : Option Addr) (nx cx : Nat) (sy : List UInt8) (ay : Option Addr) (ny cy : Nat) (hr : w.heap[gr]? = some (.cells #[str sx, .slice ax nx cx, str sy, .slice ay ny cy] 32 frr)) (hs : sy.isEmpty = false) :
    Calls Try.prog 77 #[.agg #[str [], .slice (some ⟨gr, 0, none⟩) 2 qr]] w (SPartsPost w none) := by
  have kr0 : w.cell? ⟨gr, 0, none⟩ = some (str sx) := cell_of_heap hr
  have kr1 : w.cell? ⟨gr, 1, none⟩ = some (.slice ax nx cx) := cell_of_heap hr
  have kr2 : w.cell? ⟨gr, 2, none⟩ = some (str sy) := cell_of_heap hr
  have kr3 : w.cell? ⟨gr, 3, none⟩ = some (.slice ay ny cy) := cell_of_heap hr
  have lr := (Array.getElem?_eq_some_iff.1 hr).1
  clear hr
  have hx3 := ((After.new w (.cells #[str [], .slice (some ⟨gr, 0, none⟩) 2 qr] 32)).alloc (.cells #[.string ⟨#[]⟩, .slice none 0 0] 32)).alloc (.cells #[.string ⟨#[]⟩, .slice none 0 0] 32)
  have x3r0 := hx3.cell kr0
  have x3r1 := hx3.cell kr1
  have x3r2 := hx3.cell kr2
  have x3r3 := hx3.cell kr3
  go_enter Try.func77, Try.ntmps77
  go_wp2_with fail
  go_region
  all_goals
    go_wp2_with fail
    refine bodyPost_ret (v := .tuple #[.agg #[str [], .slice (some ⟨gr, 0, none⟩) 2 qr], .agg #[str [], .slice (some ⟨gr, 0, none⟩) 2 qr], .bool false]) (by simp [results, Try.results77, go_sem]) rfl ⟨_, _, _, _, _, _, _, _, rfl, (by repeat (first | exact After.refl _ | exact After.new _ _ | apply After.drew | apply After.alloc | refine Below.setCell ?_ (by simp) _)), fun m n h => by cases h⟩

theorem pw_c (w : World) (gr qr : Nat) (frr : Nat × Nat) (sx : List UInt8) (ax : Option Addr) (nx cx : Nat) (gy qy : Nat) (fry : Nat × Nat) (su : List UInt8) (au : Option Addr) (nu cu : Nat) (sv : List UInt8) (av : Option Addr) (nv cv : Nat) (hr : w.heap[gr]? = some (.cells #[str sx, .slice ax nx cx, str [], .slice (some ⟨gy, 0, none⟩) 2 qy] 32 frr)) (hy : w.heap[gy]? = some (.cells #[str su, .slice au nu cu, str sv, .slice av nv cv] 32 fry)) (hs : sx.isEmpty = false) :
    Calls Try.prog 77 #[.agg #[str [], .slice (some ⟨gr, 0, none⟩) 2 qr]] w (SPartsPost w none) := by
  have kr0 : w.cell? ⟨gr, 0, none⟩ = some (str sx) := cell_of_heap hr
  have kr1 : w.cell? ⟨gr, 1, none⟩ = some (.slice ax nx cx) := cell_of_heap hr
  have kr2 : w.cell? ⟨gr, 2, none⟩ = some (str []) := cell_of_heap hr
  have kr3 : w.cell? ⟨gr, 3, none⟩ = some (.slice (some ⟨gy, 0, none⟩) 2 qy) := cell_of_heap hr
  have lr := (Array.getElem?_eq_some_iff.1 hr).1
  clear hr
  have ky0 : w.cell? ⟨gy, 0, none⟩ = some (str su) := cell_of_heap hy
  have ky1 : w.cell? ⟨gy, 1, none⟩ = some (.slice au nu cu) := cell_of_heap hy
  have ky2 : w.cell? ⟨gy, 2, none⟩ = some (str sv) := cell_of_heap hy
  have ky3 : w.cell? ⟨gy, 3, none⟩ = some (.slice av nv cv) := cell_of_heap hy
  have ly := (Array.getElem?_eq_some_iff.1 hy).1
  clear hy
  have hx3 := ((After.new w (.cells #[str [], .slice (some ⟨gr, 0, none⟩) 2 qr] 32)).alloc (.cells #[.string ⟨#[]⟩, .slice none 0 0] 32)).alloc (.cells #[.string ⟨#[]⟩, .slice none 0 0] 32)
  have x3r0 := hx3.cell kr0
  have x3r1 := hx3.cell kr1
  have x3r2 := hx3.cell kr2
  have x3r3 := hx3.cell kr3
  go_enter Try.func77, Try.ntmps77
  go_wp2_with fail
  go_region
  all_goals
    go_wp2_with fail
    refine bodyPost_ret (v := .tuple #[.agg #[str [], .slice (some ⟨gr, 0, none⟩) 2 qr], .agg #[str [], .slice (some ⟨gr, 0, none⟩) 2 qr], .bool false]) (by simp [results, Try.results77, go_sem]) rfl ⟨_, _, _, _, _, _, _, _, rfl, (by repeat (first | exact After.refl _ | exact After.new _ _ | apply After.drew | apply After.alloc | refine Below.setCell ?_ (by simp) _)), fun m n h => by cases h⟩

theorem pw_d (w : World) (gr qr : Nat) (frr : Nat × Nat) (gx qx : Nat) (frx : Nat × Nat) (sf : List UInt8) (af : Option Addr) (nf cf : Nat) (si : List UInt8) (ai : Option Addr) (ni ci : Nat) (gy qy : Nat) (fry : Nat × Nat) (su : List UInt8) (au : Option Addr) (nu cu : Nat) (sv : List UInt8) (av : Option Addr) (nv cv : Nat) (hr : w.heap[gr]? = some (.cells #[str [], .slice (some ⟨gx, 0, none⟩) 2 qx, str [], .slice (some ⟨gy, 0, none⟩) 2 qy] 32 frr)) (hx : w.heap[gx]? = some (.cells #[str sf, .slice af nf cf, str si, .slice ai ni ci] 32 frx)) (hy : w.heap[gy]? = some (.cells #[str su, .slice au nu cu, str sv, .slice av nv cv] 32 fry)) (hs : (sf == [115]) = false) :
    Calls Try.prog 77 #[.agg #[str [], .slice (some ⟨gr, 0, none⟩) 2 qr]] w (SPartsPost w none) := by
  have kr0 : w.cell? ⟨gr, 0, none⟩ = some (str []) := cell_of_heap hr
  have kr1 : w.cell? ⟨gr, 1, none⟩ = some (.slice (some ⟨gx, 0, none⟩) 2 qx) := cell_of_heap hr
  have kr2 : w.cell? ⟨gr, 2, none⟩ = some (str []) := cell_of_heap hr
  have kr3 : w.cell? ⟨gr, 3, none⟩ = some (.slice (some ⟨gy, 0, none⟩) 2 qy) := cell_of_heap hr
  have lr := (Array.getElem?_eq_some_iff.1 hr).1
  clear hr
  have kx0 : w.cell? ⟨gx, 0, none⟩ = some (str sf) := cell_of_heap hx
  have kx1 : w.cell? ⟨gx, 1, none⟩ = some (.slice af nf cf) := cell_of_heap hx
  have kx2 : w.cell? ⟨gx, 2, none⟩ = some (str si) := cell_of_heap hx
  have kx3 : w.cell? ⟨gx, 3, none⟩ = some (.slice ai ni ci) := cell_of_heap hx
  have lx := (Array.getElem?_eq_some_iff.1 hx).1
  clear hx
  have ky0 : w.cell? ⟨gy, 0, none⟩ = some (str su) := cell_of_heap hy
  have ky1 : w.cell? ⟨gy, 1, none⟩ = some (.slice au nu cu) := cell_of_heap hy
  have ky2 : w.cell? ⟨gy, 2, none⟩ = some (str sv) := cell_of_heap hy
  have ky3 : w.cell? ⟨gy, 3, none⟩ = some (.slice av nv cv) := cell_of_heap hy
  have ly := (Array.getElem?_eq_some_iff.1 hy).1
  clear hy
  have hx3 := ((After.new w (.cells #[str [], .slice (some ⟨gr, 0, none⟩) 2 qr] 32)).alloc (.cells #[.string ⟨#[]⟩, .slice none 0 0] 32)).alloc (.cells #[.string ⟨#[]⟩, .slice none 0 0] 32)
  have x3r0 := hx3.cell kr0
  have x3r1 := hx3.cell kr1
  have x3r2 := hx3.cell kr2
  have x3r3 := hx3.cell kr3
  have hx4 := hx3.alloc (.cells #[str [], .slice (some ⟨gx, 0, none⟩) 2 qx] 32)
  have x4r0 := hx4.cell kr0
  have x4r1 := hx4.cell kr1
  have x4r2 := hx4.cell kr2
  have x4r3 := hx4.cell kr3
  have x4x0 := hx4.cell kx0
  have x4x1 := hx4.cell kx1
  have x4x2 := hx4.cell kx2
  have x4x3 := hx4.cell kx3
  have x4y0 := hx4.cell ky0
  have x4y1 := hx4.cell ky1
  have x4y2 := hx4.cell ky2
  have x4y3 := hx4.cell ky3
  go_enter Try.func77, Try.ntmps77
  go_wp2_with fail
  go_region
  all_goals
    go_wp2_with fail
    refine bodyPost_ret (v := .tuple #[.agg #[str [], .slice (some ⟨gr, 0, none⟩) 2 qr], .agg #[str [], .slice (some ⟨gr, 0, none⟩) 2 qr], .bool false]) (by simp [results, Try.results77, go_sem]) rfl ⟨_, _, _, _, _, _, _, _, rfl, (by repeat (first | exact After.refl _ | exact After.new _ _ | apply After.drew | apply After.alloc | refine Below.setCell ?_ (by simp) _)), fun m n h => by cases h⟩

theorem pw_e (w : World) (gr qr : Nat) (frr : Nat × Nat) (gx qx : Nat) (frx : Nat × Nat) (sf : List UInt8) (af : Option Addr) (nf cf : Nat) (si : List UInt8) (ai : Option Addr) (ni ci : Nat) (gy qy : Nat) (fry : Nat × Nat) (su : List UInt8) (au : Option Addr) (nu cu : Nat) (sv : List UInt8) (av : Option Addr) (nv cv : Nat) (hr : w.heap[gr]? = some (.cells #[str [], .slice (some ⟨gx, 0, none⟩) 2 qx, str [], .slice (some ⟨gy, 0, none⟩) 2 qy] 32 frr)) (hx : w.heap[gx]? = some (.cells #[str sf, .slice af nf cf, str si, .slice ai ni ci] 32 frx)) (hy : w.heap[gy]? = some (.cells #[str su, .slice au nu cu, str sv, .slice av nv cv] 32 fry)) (hf : sf = [115]) (hs : (su == [107]) = false) :
    Calls Try.prog 77 #[.agg #[str [], .slice (some ⟨gr, 0, none⟩) 2 qr]] w (SPartsPost w none) := by
  have kr0 : w.cell? ⟨gr, 0, none⟩ = some (str []) := cell_of_heap hr
  have kr1 : w.cell? ⟨gr, 1, none⟩ = some (.slice (some ⟨gx, 0, none⟩) 2 qx) := cell_of_heap hr
  have kr2 : w.cell? ⟨gr, 2, none⟩ = some (str []) := cell_of_heap hr
  have kr3 : w.cell? ⟨gr, 3, none⟩ = some (.slice (some ⟨gy, 0, none⟩) 2 qy) := cell_of_heap hr
  have lr := (Array.getElem?_eq_some_iff.1 hr).1
  clear hr
  have kx0 : w.cell? ⟨gx, 0, none⟩ = some (str sf) := cell_of_heap hx
  have kx1 : w.cell? ⟨gx, 1, none⟩ = some (.slice af nf cf) := cell_of_heap hx
  have kx2 : w.cell? ⟨gx, 2, none⟩ = some (str si) := cell_of_heap hx
  have kx3 : w.cell? ⟨gx, 3, none⟩ = some (.slice ai ni ci) := cell_of_heap hx
  have lx := (Array.getElem?_eq_some_iff.1 hx).1
  clear hx
  have ky0 : w.cell? ⟨gy, 0, none⟩ = some (str su) := cell_of_heap hy
  have ky1 : w.cell? ⟨gy, 1, none⟩ = some (.slice au nu cu) := cell_of_heap hy
  have ky2 : w.cell? ⟨gy, 2, none⟩ = some (str sv) := cell_of_heap hy
  have ky3 : w.cell? ⟨gy, 3, none⟩ = some (.slice av nv cv) := cell_of_heap hy
  have ly := (Array.getElem?_eq_some_iff.1 hy).1
  clear hy
  have hx3 := ((After.new w (.cells #[str [], .slice (some ⟨gr, 0, none⟩) 2 qr] 32)).alloc (.cells #[.string ⟨#[]⟩, .slice none 0 0] 32)).alloc (.cells #[.string ⟨#[]⟩, .slice none 0 0] 32)
  have x3r0 := hx3.cell kr0
  have x3r1 := hx3.cell kr1
  have x3r2 := hx3.cell kr2
  have x3r3 := hx3.cell kr3
  have hx4 := hx3.alloc (.cells #[str [], .slice (some ⟨gx, 0, none⟩) 2 qx] 32)
  have x4r0 := hx4.cell kr0
  have x4r1 := hx4.cell kr1
  have x4r2 := hx4.cell kr2
  have x4r3 := hx4.cell kr3
  have x4x0 := hx4.cell kx0
  have x4x1 := hx4.cell kx1
  have x4x2 := hx4.cell kx2
  have x4x3 := hx4.cell kx3
  have x4y0 := hx4.cell ky0
  have x4y1 := hx4.cell ky1
  have x4y2 := hx4.cell ky2
  have x4y3 := hx4.cell ky3
  subst hf
  go_enter Try.func77, Try.ntmps77
  go_wp2_with fail
  go_region
  all_goals
    go_wp2_with fail
    refine bodyPost_ret (v := .tuple #[.agg #[str [], .slice (some ⟨gr, 0, none⟩) 2 qr], .agg #[str [], .slice (some ⟨gr, 0, none⟩) 2 qr], .bool false]) (by simp [results, Try.results77, go_sem]) rfl ⟨_, _, _, _, _, _, _, _, rfl, (by repeat (first | exact After.refl _ | exact After.new _ _ | apply After.drew | apply After.alloc | refine Below.setCell ?_ (by simp) _)), fun m n h => by cases h⟩

theorem pw_f (w : World) (gr qr : Nat) (frr : Nat × Nat) (gx qx : Nat) (frx : Nat × Nat) (sf : List UInt8) (af : Option Addr) (nf cf : Nat) (si : List UInt8) (ai : Option Addr) (ni ci : Nat) (gy qy : Nat) (fry : Nat × Nat) (su : List UInt8) (au : Option Addr) (nu cu : Nat) (sv : List UInt8) (av : Option Addr) (nv cv : Nat) (hr : w.heap[gr]? = some (.cells #[str [], .slice (some ⟨gx, 0, none⟩) 2 qx, str [], .slice (some ⟨gy, 0, none⟩) 2 qy] 32 frr)) (hx : w.heap[gx]? = some (.cells #[str sf, .slice af nf cf, str si, .slice ai ni ci] 32 frx)) (hy : w.heap[gy]? = some (.cells #[str su, .slice au nu cu, str sv, .slice av nv cv] 32 fry)) (hf : sf = [115]) (hu : su = [107]) (hs : si.isEmpty = false) :
    Calls Try.prog 77 #[.agg #[str [], .slice (some ⟨gr, 0, none⟩) 2 qr]] w (SPartsPost w none) := by
  have kr0 : w.cell? ⟨gr, 0, none⟩ = some (str []) := cell_of_heap hr
  have kr1 : w.cell? ⟨gr, 1, none⟩ = some (.slice (some ⟨gx, 0, none⟩) 2 qx) := cell_of_heap hr
  have kr2 : w.cell? ⟨gr, 2, none⟩ = some (str []) := cell_of_heap hr
  have kr3 : w.cell? ⟨gr, 3, none⟩ = some (.slice (some ⟨gy, 0, none⟩) 2 qy) := cell_of_heap hr
  have lr := (Array.getElem?_eq_some_iff.1 hr).1
  clear hr
  have kx0 : w.cell? ⟨gx, 0, none⟩ = some (str sf) := cell_of_heap hx
  have kx1 : w.cell? ⟨gx, 1, none⟩ = some (.slice af nf cf) := cell_of_heap hx
  have kx2 : w.cell? ⟨gx, 2, none⟩ = some (str si) := cell_of_heap hx
  have kx3 : w.cell? ⟨gx, 3, none⟩ = some (.slice ai ni ci) := cell_of_heap hx
  have lx := (Array.getElem?_eq_some_iff.1 hx).1
  clear hx
  have ky0 : w.cell? ⟨gy, 0, none⟩ = some (str su) := cell_of_heap hy
  have ky1 : w.cell? ⟨gy, 1, none⟩ = some (.slice au nu cu) := cell_of_heap hy
  have ky2 : w.cell? ⟨gy, 2, none⟩ = some (str sv) := cell_of_heap hy
  have ky3 : w.cell? ⟨gy, 3, none⟩ = some (.slice av nv cv) := cell_of_heap hy
  have ly := (Array.getElem?_eq_some_iff.1 hy).1
  clear hy
  have hx3 := ((After.new w (.cells #[str [], .slice (some ⟨gr, 0, none⟩) 2 qr] 32)).alloc (.cells #[.string ⟨#[]⟩, .slice none 0 0] 32)).alloc (.cells #[.string ⟨#[]⟩, .slice none 0 0] 32)
  have x3r0 := hx3.cell kr0
  have x3r1 := hx3.cell kr1
  have x3r2 := hx3.cell kr2
  have x3r3 := hx3.cell kr3
  have hx4 := hx3.alloc (.cells #[str [], .slice (some ⟨gx, 0, none⟩) 2 qx] 32)
  have x4r0 := hx4.cell kr0
  have x4r1 := hx4.cell kr1
  have x4r2 := hx4.cell kr2
  have x4r3 := hx4.cell kr3
  have x4x0 := hx4.cell kx0
  have x4x1 := hx4.cell kx1
  have x4x2 := hx4.cell kx2
  have x4x3 := hx4.cell kx3
  have x4y0 := hx4.cell ky0
  have x4y1 := hx4.cell ky1
  have x4y2 := hx4.cell ky2
  have x4y3 := hx4.cell ky3
  subst hf
  subst hu
  go_enter Try.func77, Try.ntmps77
  go_wp2_with fail
  go_region
  all_goals
    go_wp2_with fail
    refine bodyPost_ret (v := .tuple #[.agg #[str [], .slice (some ⟨gr, 0, none⟩) 2 qr], .agg #[str [], .slice (some ⟨gr, 0, none⟩) 2 qr], .bool false]) (by simp [results, Try.results77, go_sem]) rfl ⟨_, _, _, _, _, _, _, _, rfl, (by repeat (first | exact After.refl _ | exact After.new _ _ | apply After.drew | apply After.alloc | refine Below.setCell ?_ (by simp) _)), fun m n h => by cases h⟩

theorem pw_g (w : World) (gr qr : Nat) (frr : Nat × Nat) (gx qx : Nat) (frx : Nat × Nat) (sf : List UInt8) (af : Option Addr) (nf cf : Nat) (gi qi : Nat) (fri : Nat × Nat) (sm : List UInt8) (am : Option Addr) (nm cm : Nat) (sn : List UInt8) (an : Option Addr) (nn cn : Nat) (gy qy : Nat) (fry : Nat × Nat) (su : List UInt8) (au : Option Addr) (nu cu : Nat) (sv : List UInt8) (av : Option Addr) (nv cv : Nat) (hr : w.heap[gr]? = some (.cells #[str [], .slice (some ⟨gx, 0, none⟩) 2 qx, str [], .slice (some ⟨gy, 0, none⟩) 2 qy] 32 frr)) (hx : w.heap[gx]? = some (.cells #[str sf, .slice af nf cf, str [], .slice (some ⟨gi, 0, none⟩) 2 qi] 32 frx)) (hi : w.heap[gi]? = some (.cells #[str sm, .slice am nm cm, str sn, .slice an nn cn] 32 fri)) (hy : w.heap[gy]? = some (.cells #[str su, .slice au nu cu, str sv, .slice av nv cv] 32 fry)) (hf : sf = [115]) (hu : su = [107]) (hs : sm.isEmpty = false) :
    Calls Try.prog 77 #[.agg #[str [], .slice (some ⟨gr, 0, none⟩) 2 qr]] w (SPartsPost w none) := by
  have kr0 : w.cell? ⟨gr, 0, none⟩ = some (str []) := cell_of_heap hr
  have kr1 : w.cell? ⟨gr, 1, none⟩ = some (.slice (some ⟨gx, 0, none⟩) 2 qx) := cell_of_heap hr
  have kr2 : w.cell? ⟨gr, 2, none⟩ = some (str []) := cell_of_heap hr
  have kr3 : w.cell? ⟨gr, 3, none⟩ = some (.slice (some ⟨gy, 0, none⟩) 2 qy) := cell_of_heap hr
  have lr := (Array.getElem?_eq_some_iff.1 hr).1
  clear hr
  have kx0 : w.cell? ⟨gx, 0, none⟩ = some (str sf) := cell_of_heap hx
  have kx1 : w.cell? ⟨gx, 1, none⟩ = some (.slice af nf cf) := cell_of_heap hx
  have kx2 : w.cell? ⟨gx, 2, none⟩ = some (str []) := cell_of_heap hx
  have kx3 : w.cell? ⟨gx, 3, none⟩ = some (.slice (some ⟨gi, 0, none⟩) 2 qi) := cell_of_heap hx
  have lx := (Array.getElem?_eq_some_iff.1 hx).1
  clear hx
  have ki0 : w.cell? ⟨gi, 0, none⟩ = some (str sm) := cell_of_heap hi
  have ki1 : w.cell? ⟨gi, 1, none⟩ = some (.slice am nm cm) := cell_of_heap hi
  have ki2 : w.cell? ⟨gi, 2, none⟩ = some (str sn) := cell_of_heap hi
  have ki3 : w.cell? ⟨gi, 3, none⟩ = some (.slice an nn cn) := cell_of_heap hi
  have li := (Array.getElem?_eq_some_iff.1 hi).1
  clear hi
  have ky0 : w.cell? ⟨gy, 0, none⟩ = some (str su) := cell_of_heap hy
  have ky1 : w.cell? ⟨gy, 1, none⟩ = some (.slice au nu cu) := cell_of_heap hy
  have ky2 : w.cell? ⟨gy, 2, none⟩ = some (str sv) := cell_of_heap hy
  have ky3 : w.cell? ⟨gy, 3, none⟩ = some (.slice av nv cv) := cell_of_heap hy
  have ly := (Array.getElem?_eq_some_iff.1 hy).1
  clear hy
  have hx3 := ((After.new w (.cells #[str [], .slice (some ⟨gr, 0, none⟩) 2 qr] 32)).alloc (.cells #[.string ⟨#[]⟩, .slice none 0 0] 32)).alloc (.cells #[.string ⟨#[]⟩, .slice none 0 0] 32)
  have x3r0 := hx3.cell kr0
  have x3r1 := hx3.cell kr1
  have x3r2 := hx3.cell kr2
  have x3r3 := hx3.cell kr3
  have hx4 := hx3.alloc (.cells #[str [], .slice (some ⟨gx, 0, none⟩) 2 qx] 32)
  have x4r0 := hx4.cell kr0
  have x4r1 := hx4.cell kr1
  have x4r2 := hx4.cell kr2
  have x4r3 := hx4.cell kr3
  have x4x0 := hx4.cell kx0
  have x4x1 := hx4.cell kx1
  have x4x2 := hx4.cell kx2
  have x4x3 := hx4.cell kx3
  have x4y0 := hx4.cell ky0
  have x4y1 := hx4.cell ky1
  have x4y2 := hx4.cell ky2
  have x4y3 := hx4.cell ky3
  have hx5 := hx4.alloc (.cells #[str [], .slice (some ⟨gi, 0, none⟩) 2 qi] 32)
  have x5r0 := hx5.cell kr0
  have x5r1 := hx5.cell kr1
  have x5r2 := hx5.cell kr2
  have x5r3 := hx5.cell kr3
  have x5x0 := hx5.cell kx0
  have x5x1 := hx5.cell kx1
  have x5x2 := hx5.cell kx2
  have x5x3 := hx5.cell kx3
  have x5i0 := hx5.cell ki0
  have x5i1 := hx5.cell ki1
  have x5i2 := hx5.cell ki2
  have x5i3 := hx5.cell ki3
  have x5y0 := hx5.cell ky0
  have x5y1 := hx5.cell ky1
  have x5y2 := hx5.cell ky2
  have x5y3 := hx5.cell ky3
  subst hf
  subst hu
  go_enter Try.func77, Try.ntmps77
  go_wp2_with fail
  go_region
  all_goals
    go_wp2_with fail
    refine bodyPost_ret (v := .tuple #[.agg #[str [], .slice (some ⟨gr, 0, none⟩) 2 qr], .agg #[str [], .slice (some ⟨gr, 0, none⟩) 2 qr], .bool false]) (by simp [results, Try.results77, go_sem]) rfl ⟨_, _, _, _, _, _, _, _, rfl, (by repeat (first | exact After.refl _ | exact After.new _ _ | apply After.drew | apply After.alloc | refine Below.setCell ?_ (by simp) _)), fun m n h => by cases h⟩

theorem pw_h (w : World) (gr qr : Nat) (frr : Nat × Nat) (gx qx : Nat) (frx : Nat × Nat) (sf : List UInt8) (af : Option Addr) (nf cf : Nat) (gi qi : Nat) (fri : Nat × Nat) (gm qm : Nat) (frm : Nat × Nat) (so : List UInt8) (ao : Option Addr) (no co : Nat) (sp : List UInt8) (ap : Option Addr) (np cp : Nat) (sn : List UInt8) (an : Option Addr) (nn cn : Nat) (gy qy : Nat) (fry : Nat × Nat) (su : List UInt8) (au : Option Addr) (nu cu : Nat) (sv : List UInt8) (av : Option Addr) (nv cv : Nat) (hr : w.heap[gr]? = some (.cells #[str [], .slice (some ⟨gx, 0, none⟩) 2 qx, str [], .slice (some ⟨gy, 0, none⟩) 2 qy] 32 frr)) (hx : w.heap[gx]? = some (.cells #[str sf, .slice af nf cf, str [], .slice (some ⟨gi, 0, none⟩) 2 qi] 32 frx)) (hi : w.heap[gi]? = some (.cells #[str [], .slice (some ⟨gm, 0, none⟩) 2 qm, str sn, .slice an nn cn] 32 fri)) (hm : w.heap[gm]? = some (.cells #[str so, .slice ao no co, str sp, .slice ap np cp] 32 frm)) (hy : w.heap[gy]? = some (.cells #[str su, .slice au nu cu, str sv, .slice av nv cv] 32 fry)) (hf : sf = [115]) (hu : su = [107]) (hs : sn.isEmpty = false) :
    Calls Try.prog 77 #[.agg #[str [], .slice (some ⟨gr, 0, none⟩) 2 qr]] w (SPartsPost w none) := by
  have kr0 : w.cell? ⟨gr, 0, none⟩ = some (str []) := cell_of_heap hr
  have kr1 : w.cell? ⟨gr, 1, none⟩ = some (.slice (some ⟨gx, 0, none⟩) 2 qx) := cell_of_heap hr
  have kr2 : w.cell? ⟨gr, 2, none⟩ = some (str []) := cell_of_heap hr
  have kr3 : w.cell? ⟨gr, 3, none⟩ = some (.slice (some ⟨gy, 0, none⟩) 2 qy) := cell_of_heap hr
  have lr := (Array.getElem?_eq_some_iff.1 hr).1
  clear hr
  have kx0 : w.cell? ⟨gx, 0, none⟩ = some (str sf) := cell_of_heap hx
  have kx1 : w.cell? ⟨gx, 1, none⟩ = some (.slice af nf cf) := cell_of_heap hx
  have kx2 : w.cell? ⟨gx, 2, none⟩ = some (str []) := cell_of_heap hx
  have kx3 : w.cell? ⟨gx, 3, none⟩ = some (.slice (some ⟨gi, 0, none⟩) 2 qi) := cell_of_heap hx
  have lx := (Array.getElem?_eq_some_iff.1 hx).1
  clear hx
  have ki0 : w.cell? ⟨gi, 0, none⟩ = some (str []) := cell_of_heap hi
  have ki1 : w.cell? ⟨gi, 1, none⟩ = some (.slice (some ⟨gm, 0, none⟩) 2 qm) := cell_of_heap hi
  have ki2 : w.cell? ⟨gi, 2, none⟩ = some (str sn) := cell_of_heap hi
  have ki3 : w.cell? ⟨gi, 3, none⟩ = some (.slice an nn cn) := cell_of_heap hi
  have li := (Array.getElem?_eq_some_iff.1 hi).1
  clear hi
  have km0 : w.cell? ⟨gm, 0, none⟩ = some (str so) := cell_of_heap hm
  have km1 : w.cell? ⟨gm, 1, none⟩ = some (.slice ao no co) := cell_of_heap hm
  have km2 : w.cell? ⟨gm, 2, none⟩ = some (str sp) := cell_of_heap hm
  have km3 : w.cell? ⟨gm, 3, none⟩ = some (.slice ap np cp) := cell_of_heap hm
  have lm := (Array.getElem?_eq_some_iff.1 hm).1
  clear hm
  have ky0 : w.cell? ⟨gy, 0, none⟩ = some (str su) := cell_of_heap hy
  have ky1 : w.cell? ⟨gy, 1, none⟩ = some (.slice au nu cu) := cell_of_heap hy
  have ky2 : w.cell? ⟨gy, 2, none⟩ = some (str sv) := cell_of_heap hy
  have ky3 : w.cell? ⟨gy, 3, none⟩ = some (.slice av nv cv) := cell_of_heap hy
  have ly := (Array.getElem?_eq_some_iff.1 hy).1
  clear hy
  have hx3 := ((After.new w (.cells #[str [], .slice (some ⟨gr, 0, none⟩) 2 qr] 32)).alloc (.cells #[.string ⟨#[]⟩, .slice none 0 0] 32)).alloc (.cells #[.string ⟨#[]⟩, .slice none 0 0] 32)
  have x3r0 := hx3.cell kr0
  have x3r1 := hx3.cell kr1
  have x3r2 := hx3.cell kr2
  have x3r3 := hx3.cell kr3
  have hx4 := hx3.alloc (.cells #[str [], .slice (some ⟨gx, 0, none⟩) 2 qx] 32)
  have x4r0 := hx4.cell kr0
  have x4r1 := hx4.cell kr1
  have x4r2 := hx4.cell kr2
  have x4r3 := hx4.cell kr3
  have x4x0 := hx4.cell kx0
  have x4x1 := hx4.cell kx1
  have x4x2 := hx4.cell kx2
  have x4x3 := hx4.cell kx3
  have x4y0 := hx4.cell ky0
  have x4y1 := hx4.cell ky1
  have x4y2 := hx4.cell ky2
  have x4y3 := hx4.cell ky3
  have hx5 := hx4.alloc (.cells #[str [], .slice (some ⟨gi, 0, none⟩) 2 qi] 32)
  have x5r0 := hx5.cell kr0
  have x5r1 := hx5.cell kr1
  have x5r2 := hx5.cell kr2
  have x5r3 := hx5.cell kr3
  have x5x0 := hx5.cell kx0
  have x5x1 := hx5.cell kx1
  have x5x2 := hx5.cell kx2
  have x5x3 := hx5.cell kx3
  have x5i0 := hx5.cell ki0
  have x5i1 := hx5.cell ki1
  have x5i2 := hx5.cell ki2
  have x5i3 := hx5.cell ki3
  have x5m0 := hx5.cell km0
  have x5m1 := hx5.cell km1
  have x5m2 := hx5.cell km2
  have x5m3 := hx5.cell km3
  have x5y0 := hx5.cell ky0
  have x5y1 := hx5.cell ky1
  have x5y2 := hx5.cell ky2
  have x5y3 := hx5.cell ky3
  subst hf
  subst hu
  go_enter Try.func77, Try.ntmps77
  go_wp2_with fail
  go_region
  all_goals
    go_wp2_with fail
    refine bodyPost_ret (v := .tuple #[.agg #[str [], .slice (some ⟨gr, 0, none⟩) 2 qr], .agg #[str [], .slice (some ⟨gr, 0, none⟩) 2 qr], .bool false]) (by simp [results, Try.results77, go_sem]) rfl ⟨_, _, _, _, _, _, _, _, rfl, (by repeat (first | exact After.refl _ | exact After.new _ _ | apply After.drew | apply After.alloc | refine Below.setCell ?_ (by simp) _)), fun m n h => by cases h⟩

theorem pw_i (w : World) (gr qr : Nat) (frr : Nat × Nat) (gx qx : Nat) (frx : Nat × Nat) (sf : List UInt8) (af : Option Addr) (nf cf : Nat) (gi qi : Nat) (fri : Nat × Nat) (gm qm : Nat) (frm : Nat × Nat) (so : List UInt8) (ao : Option Addr) (no co : Nat) (sp : List UInt8) (ap : Option Addr) (np cp : Nat) (gn qn : Nat) (frn : Nat × Nat) (sj : List UInt8) (aj : Option Addr) (nj cj : Nat) (se : List UInt8) (ae : Option Addr) (ne ce : Nat) (gy qy : Nat) (fry : Nat × Nat) (su : List UInt8) (au : Option Addr) (nu cu : Nat) (sv : List UInt8) (av : Option Addr) (nv cv : Nat) (hr : w.heap[gr]? = some (.cells #[str [], .slice (some ⟨gx, 0, none⟩) 2 qx, str [], .slice (some ⟨gy, 0, none⟩) 2 qy] 32 frr)) (hx : w.heap[gx]? = some (.cells #[str sf, .slice af nf cf, str [], .slice (some ⟨gi, 0, none⟩) 2 qi] 32 frx)) (hi : w.heap[gi]? = some (.cells #[str [], .slice (some ⟨gm, 0, none⟩) 2 qm, str [], .slice (some ⟨gn, 0, none⟩) 2 qn] 32 fri)) (hm : w.heap[gm]? = some (.cells #[str so, .slice ao no co, str sp, .slice ap np cp] 32 frm)) (hn : w.heap[gn]? = some (.cells #[str sj, .slice aj nj cj, str se, .slice ae ne ce] 32 frn)) (hy : w.heap[gy]? = some (.cells #[str su, .slice au nu cu, str sv, .slice av nv cv] 32 fry)) (hf : sf = [115]) (hu : su = [107]) (hs : (so == [115]) = false) :
    Calls Try.prog 77 #[.agg #[str [], .slice (some ⟨gr, 0, none⟩) 2 qr]] w (SPartsPost w none) := by
  have kr0 : w.cell? ⟨gr, 0, none⟩ = some (str []) := cell_of_heap hr
  have kr1 : w.cell? ⟨gr, 1, none⟩ = some (.slice (some ⟨gx, 0, none⟩) 2 qx) := cell_of_heap hr
  have kr2 : w.cell? ⟨gr, 2, none⟩ = some (str []) := cell_of_heap hr
  have kr3 : w.cell? ⟨gr, 3, none⟩ = some (.slice (some ⟨gy, 0, none⟩) 2 qy) := cell_of_heap hr
  have lr := (Array.getElem?_eq_some_iff.1 hr).1
  clear hr
  have kx0 : w.cell? ⟨gx, 0, none⟩ = some (str sf) := cell_of_heap hx
  have kx1 : w.cell? ⟨gx, 1, none⟩ = some (.slice af nf cf) := cell_of_heap hx
  have kx2 : w.cell? ⟨gx, 2, none⟩ = some (str []) := cell_of_heap hx
  have kx3 : w.cell? ⟨gx, 3, none⟩ = some (.slice (some ⟨gi, 0, none⟩) 2 qi) := cell_of_heap hx
  have lx := (Array.getElem?_eq_some_iff.1 hx).1
  clear hx
  have ki0 : w.cell? ⟨gi, 0, none⟩ = some (str []) := cell_of_heap hi
  have ki1 : w.cell? ⟨gi, 1, none⟩ = some (.slice (some ⟨gm, 0, none⟩) 2 qm) := cell_of_heap hi
  have ki2 : w.cell? ⟨gi, 2, none⟩ = some (str []) := cell_of_heap hi
  have ki3 : w.cell? ⟨gi, 3, none⟩ = some (.slice (some ⟨gn, 0, none⟩) 2 qn) := cell_of_heap hi
  have li := (Array.getElem?_eq_some_iff.1 hi).1
  clear hi
  have km0 : w.cell? ⟨gm, 0, none⟩ = some (str so) := cell_of_heap hm
  have km1 : w.cell? ⟨gm, 1, none⟩ = some (.slice ao no co) := cell_of_heap hm
  have km2 : w.cell? ⟨gm, 2, none⟩ = some (str sp) := cell_of_heap hm
  have km3 : w.cell? ⟨gm, 3, none⟩ = some (.slice ap np cp) := cell_of_heap hm
  have lm := (Array.getElem?_eq_some_iff.1 hm).1
  clear hm
  have kn0 : w.cell? ⟨gn, 0, none⟩ = some (str sj) := cell_of_heap hn
  have kn1 : w.cell? ⟨gn, 1, none⟩ = some (.slice aj nj cj) := cell_of_heap hn
  have kn2 : w.cell? ⟨gn, 2, none⟩ = some (str se) := cell_of_heap hn
  have kn3 : w.cell? ⟨gn, 3, none⟩ = some (.slice ae ne ce) := cell_of_heap hn
  have ln := (Array.getElem?_eq_some_iff.1 hn).1
  clear hn
  have ky0 : w.cell? ⟨gy, 0, none⟩ = some (str su) := cell_of_heap hy
  have ky1 : w.cell? ⟨gy, 1, none⟩ = some (.slice au nu cu) := cell_of_heap hy
  have ky2 : w.cell? ⟨gy, 2, none⟩ = some (str sv) := cell_of_heap hy
  have ky3 : w.cell? ⟨gy, 3, none⟩ = some (.slice av nv cv) := cell_of_heap hy
  have ly := (Array.getElem?_eq_some_iff.1 hy).1
  clear hy
  have hx3 := ((After.new w (.cells #[str [], .slice (some ⟨gr, 0, none⟩) 2 qr] 32)).alloc (.cells #[.string ⟨#[]⟩, .slice none 0 0] 32)).alloc (.cells #[.string ⟨#[]⟩, .slice none 0 0] 32)
  have x3r0 := hx3.cell kr0
  have x3r1 := hx3.cell kr1
  have x3r2 := hx3.cell kr2
  have x3r3 := hx3.cell kr3
  have hx4 := hx3.alloc (.cells #[str [], .slice (some ⟨gx, 0, none⟩) 2 qx] 32)
  have x4r0 := hx4.cell kr0
  have x4r1 := hx4.cell kr1
  have x4r2 := hx4.cell kr2
  have x4r3 := hx4.cell kr3
  have x4x0 := hx4.cell kx0
  have x4x1 := hx4.cell kx1
  have x4x2 := hx4.cell kx2
  have x4x3 := hx4.cell kx3
  have x4y0 := hx4.cell ky0
  have x4y1 := hx4.cell ky1
  have x4y2 := hx4.cell ky2
  have x4y3 := hx4.cell ky3
  have hx5 := hx4.alloc (.cells #[str [], .slice (some ⟨gi, 0, none⟩) 2 qi] 32)
  have x5r0 := hx5.cell kr0
  have x5r1 := hx5.cell kr1
  have x5r2 := hx5.cell kr2
  have x5r3 := hx5.cell kr3
  have x5x0 := hx5.cell kx0
  have x5x1 := hx5.cell kx1
  have x5x2 := hx5.cell kx2
  have x5x3 := hx5.cell kx3
  have x5i0 := hx5.cell ki0
  have x5i1 := hx5.cell ki1
  have x5i2 := hx5.cell ki2
  have x5i3 := hx5.cell ki3
  have x5m0 := hx5.cell km0
  have x5m1 := hx5.cell km1
  have x5m2 := hx5.cell km2
  have x5m3 := hx5.cell km3
  have x5n0 := hx5.cell kn0
  have x5n1 := hx5.cell kn1
  have x5n2 := hx5.cell kn2
  have x5n3 := hx5.cell kn3
  have x5y0 := hx5.cell ky0
  have x5y1 := hx5.cell ky1
  have x5y2 := hx5.cell ky2
  have x5y3 := hx5.cell ky3
  subst hf
  subst hu
  go_enter Try.func77, Try.ntmps77
  go_wp2_with fail
  go_region
  all_goals
    go_wp2_with fail
    refine bodyPost_ret (v := .tuple #[.agg #[str [], .slice (some ⟨gr, 0, none⟩) 2 qr], .agg #[str [], .slice (some ⟨gr, 0, none⟩) 2 qr], .bool false]) (by simp [results, Try.results77, go_sem]) rfl ⟨_, _, _, _, _, _, _, _, rfl, (by repeat (first | exact After.refl _ | exact After.new _ _ | apply After.drew | apply After.alloc | refine Below.setCell ?_ (by simp) _)), fun m n h => by cases h⟩

theorem pw_j (w : World) (gr qr : Nat) (frr : Nat × Nat) (gx qx : Nat) (frx : Nat × Nat) (sf : List UInt8) (af : Option Addr) (nf cf : Nat) (gi qi : Nat) (fri : Nat × Nat) (gm qm : Nat) (frm : Nat × Nat) (so : List UInt8) (ao : Option Addr) (no co : Nat) (sp : List UInt8) (ap : Option Addr) (np cp : Nat) (gn qn : Nat) (frn : Nat × Nat) (sj : List UInt8) (aj : Option Addr) (nj cj : Nat) (se : List UInt8) (ae : Option Addr) (ne ce : Nat) (gy qy : Nat) (fry : Nat × Nat) (su : List UInt8) (au : Option Addr) (nu cu : Nat) (sv : List UInt8) (av : Option Addr) (nv cv : Nat) (hr : w.heap[gr]? = some (.cells #[str [], .slice (some ⟨gx, 0, none⟩) 2 qx, str [], .slice (some ⟨gy, 0, none⟩) 2 qy] 32 frr)) (hx : w.heap[gx]? = some (.cells #[str sf, .slice af nf cf, str [], .slice (some ⟨gi, 0, none⟩) 2 qi] 32 frx)) (hi : w.heap[gi]? = some (.cells #[str [], .slice (some ⟨gm, 0, none⟩) 2 qm, str [], .slice (some ⟨gn, 0, none⟩) 2 qn] 32 fri)) (hm : w.heap[gm]? = some (.cells #[str so, .slice ao no co, str sp, .slice ap np cp] 32 frm)) (hn : w.heap[gn]? = some (.cells #[str sj, .slice aj nj cj, str se, .slice ae ne ce] 32 frn)) (hy : w.heap[gy]? = some (.cells #[str su, .slice au nu cu, str sv, .slice av nv cv] 32 fry)) (hf : sf = [115]) (hu : su = [107]) (ho : so = [115]) (hs : (sj == [107]) = false) :
    Calls Try.prog 77 #[.agg #[str [], .slice (some ⟨gr, 0, none⟩) 2 qr]] w (SPartsPost w none) := by
  have kr0 : w.cell? ⟨gr, 0, none⟩ = some (str []) := cell_of_heap hr
  have kr1 : w.cell? ⟨gr, 1, none⟩ = some (.slice (some ⟨gx, 0, none⟩) 2 qx) := cell_of_heap hr
  have kr2 : w.cell? ⟨gr, 2, none⟩ = some (str []) := cell_of_heap hr
  have kr3 : w.cell? ⟨gr, 3, none⟩ = some (.slice (some ⟨gy, 0, none⟩) 2 qy) := cell_of_heap hr
  have lr := (Array.getElem?_eq_some_iff.1 hr).1
  clear hr
  have kx0 : w.cell? ⟨gx, 0, none⟩ = some (str sf) := cell_of_heap hx
  have kx1 : w.cell? ⟨gx, 1, none⟩ = some (.slice af nf cf) := cell_of_heap hx
  have kx2 : w.cell? ⟨gx, 2, none⟩ = some (str []) := cell_of_heap hx
  have kx3 : w.cell? ⟨gx, 3, none⟩ = some (.slice (some ⟨gi, 0, none⟩) 2 qi) := cell_of_heap hx
  have lx := (Array.getElem?_eq_some_iff.1 hx).1
  clear hx
  have ki0 : w.cell? ⟨gi, 0, none⟩ = some (str []) := cell_of_heap hi
  have ki1 : w.cell? ⟨gi, 1, none⟩ = some (.slice (some ⟨gm, 0, none⟩) 2 qm) := cell_of_heap hi
  have ki2 : w.cell? ⟨gi, 2, none⟩ = some (str []) := cell_of_heap hi
  have ki3 : w.cell? ⟨gi, 3, none⟩ = some (.slice (some ⟨gn, 0, none⟩) 2 qn) := cell_of_heap hi
  have li := (Array.getElem?_eq_some_iff.1 hi).1
  clear hi
  have km0 : w.cell? ⟨gm, 0, none⟩ = some (str so) := cell_of_heap hm
  have km1 : w.cell? ⟨gm, 1, none⟩ = some (.slice ao no co) := cell_of_heap hm
  have km2 : w.cell? ⟨gm, 2, none⟩ = some (str sp) := cell_of_heap hm
  have km3 : w.cell? ⟨gm, 3, none⟩ = some (.slice ap np cp) := cell_of_heap hm
  have lm := (Array.getElem?_eq_some_iff.1 hm).1
  clear hm
  have kn0 : w.cell? ⟨gn, 0, none⟩ = some (str sj) := cell_of_heap hn
  have kn1 : w.cell? ⟨gn, 1, none⟩ = some (.slice aj nj cj) := cell_of_heap hn
  have kn2 : w.cell? ⟨gn, 2, none⟩ = some (str se) := cell_of_heap hn
  have kn3 : w.cell? ⟨gn, 3, none⟩ = some (.slice ae ne ce) := cell_of_heap hn
  have ln := (Array.getElem?_eq_some_iff.1 hn).1
  clear hn
  have ky0 : w.cell? ⟨gy, 0, none⟩ = some (str su) := cell_of_heap hy
  have ky1 : w.cell? ⟨gy, 1, none⟩ = some (.slice au nu cu) := cell_of_heap hy
  have ky2 : w.cell? ⟨gy, 2, none⟩ = some (str sv) := cell_of_heap hy
  have ky3 : w.cell? ⟨gy, 3, none⟩ = some (.slice av nv cv) := cell_of_heap hy
  have ly := (Array.getElem?_eq_some_iff.1 hy).1
  clear hy
  have hx3 := ((After.new w (.cells #[str [], .slice (some ⟨gr, 0, none⟩) 2 qr] 32)).alloc (.cells #[.string ⟨#[]⟩, .slice none 0 0] 32)).alloc (.cells #[.string ⟨#[]⟩, .slice none 0 0] 32)
  have x3r0 := hx3.cell kr0
  have x3r1 := hx3.cell kr1
  have x3r2 := hx3.cell kr2
  have x3r3 := hx3.cell kr3
  have hx4 := hx3.alloc (.cells #[str [], .slice (some ⟨gx, 0, none⟩) 2 qx] 32)
  have x4r0 := hx4.cell kr0
  have x4r1 := hx4.cell kr1
  have x4r2 := hx4.cell kr2
  have x4r3 := hx4.cell kr3
  have x4x0 := hx4.cell kx0
  have x4x1 := hx4.cell kx1
  have x4x2 := hx4.cell kx2
  have x4x3 := hx4.cell kx3
  have x4y0 := hx4.cell ky0
  have x4y1 := hx4.cell ky1
  have x4y2 := hx4.cell ky2
  have x4y3 := hx4.cell ky3
  have hx5 := hx4.alloc (.cells #[str [], .slice (some ⟨gi, 0, none⟩) 2 qi] 32)
  have x5r0 := hx5.cell kr0
  have x5r1 := hx5.cell kr1
  have x5r2 := hx5.cell kr2
  have x5r3 := hx5.cell kr3
  have x5x0 := hx5.cell kx0
  have x5x1 := hx5.cell kx1
  have x5x2 := hx5.cell kx2
  have x5x3 := hx5.cell kx3
  have x5i0 := hx5.cell ki0
  have x5i1 := hx5.cell ki1
  have x5i2 := hx5.cell ki2
  have x5i3 := hx5.cell ki3
  have x5m0 := hx5.cell km0
  have x5m1 := hx5.cell km1
  have x5m2 := hx5.cell km2
  have x5m3 := hx5.cell km3
  have x5n0 := hx5.cell kn0
  have x5n1 := hx5.cell kn1
  have x5n2 := hx5.cell kn2
  have x5n3 := hx5.cell kn3
  have x5y0 := hx5.cell ky0
  have x5y1 := hx5.cell ky1
  have x5y2 := hx5.cell ky2
  have x5y3 := hx5.cell ky3
  subst hf
  subst hu
  subst ho
  go_enter Try.func77, Try.ntmps77
  go_wp2_with fail
  go_region
  all_goals
    go_wp2_with fail
    refine bodyPost_ret (v := .tuple #[.agg #[str [], .slice (some ⟨gr, 0, none⟩) 2 qr], .agg #[str [], .slice (some ⟨gr, 0, none⟩) 2 qr], .bool false]) (by simp [results, Try.results77, go_sem]) rfl ⟨_, _, _, _, _, _, _, _, rfl, (by repeat (first | exact After.refl _ | exact After.new _ _ | apply After.drew | apply After.alloc | refine Below.setCell ?_ (by simp) _)), fun m n h => by cases h⟩

end Go.Proofs.Ytfpekihdoclncaa

namespace Go.Proofs.Ytfpekihdoclncaa
open Go.RowKit

set_option maxHeartbeats 2000000
set_option maxRecDepth 100000

theorem pw_k (w : World) (gr qr : Nat) (frr : Nat × Nat) (gx qx : Nat) (frx : Nat × Nat) (sf : List UInt8) (af : Option Addr) (nf cf : Nat) (gi qi : Nat) (fri : Nat × Nat) (gm qm : Nat) (frm : Nat × Nat) (so : List UInt8) (ao : Option Addr) (no co : Nat) (sp : List UInt8) (ap : Option Addr) (np cp : Nat) (gn qn : Nat) (frn : Nat × Nat) (sj : List UInt8) (aj : Option Addr) (nj cj : Nat) (se : List UInt8) (ae : Option Addr) (ne ce : Nat) (gy qy : Nat) (fry : Nat × Nat) (su : List UInt8) (au : Option Addr) (nu cu : Nat) (sv : List UInt8) (av : Option Addr) (nv cv : Nat) (hr : w.heap[gr]? = some (.cells #[str [], .slice (some ⟨gx, 0, none⟩) 2 qx, str [], .slice (some ⟨gy, 0, none⟩) 2 qy] 32 frr)) (hx : w.heap[gx]? = some (.cells #[str sf, .slice af nf cf, str [], .slice (some ⟨gi, 0, none⟩) 2 qi] 32 frx)) (hi : w.heap[gi]? = some (.cells #[str [], .slice (some ⟨gm, 0, none⟩) 2 qm, str [], .slice (some ⟨gn, 0, none⟩) 2 qn] 32 fri)) (hm : w.heap[gm]? = some (.cells #[str so, .slice ao no co, str sp, .slice ap np cp] 32 frm)) (hn : w.heap[gn]? = some (.cells #[str sj, .slice aj nj cj, str se, .slice ae ne ce] 32 frn)) (hy : w.heap[gy]? = some (.cells #[str su, .slice au nu cu, str sv, .slice av nv cv] 32 fry)) (hf : sf = [115]) (hu : su = [107]) (ho : so = [115]) (hj : sj = [107])
    (tp te tv : Tm) (hp : ST w tp (.agg #[str sp, .slice ap np cp])) (he : ST w te (.agg #[str se, .slice ae ne ce])) (hv : ST w tv (.agg #[str sv, .slice av nv cv])) (hgp : tp.good = true) (hzp : tp.text.length ≤ 100000000) (htxt : (tp.text == Tm.text Tm.I) = false) :
    Calls Try.prog 77 #[.agg #[str [], .slice (some ⟨gr, 0, none⟩) 2 qr]] w (SPartsPost w none) := by
  have HE := Lib.hid he
  have HV := Lib.hid hv
  have htp := (hp.later ((((After.new w (.cells #[str [], .slice (some ⟨gr, 0, none⟩) 2 qr] 32)).alloc (.cells #[.string ⟨#[]⟩, .slice none 0 0] 32)).alloc (.cells #[.string ⟨#[]⟩, .slice none 0 0] 32)).alloc (.cells #[str [], .slice (some ⟨gx, 0, none⟩) 2 qx] 32) |>.alloc (.cells #[str [], .slice (some ⟨gi, 0, none⟩) 2 qi] 32))).text hgp hzp
  clear he hv hp
  have kr0 : w.cell? ⟨gr, 0, none⟩ = some (str []) := cell_of_heap hr
  have kr1 : w.cell? ⟨gr, 1, none⟩ = some (.slice (some ⟨gx, 0, none⟩) 2 qx) := cell_of_heap hr
  have kr2 : w.cell? ⟨gr, 2, none⟩ = some (str []) := cell_of_heap hr
  have kr3 : w.cell? ⟨gr, 3, none⟩ = some (.slice (some ⟨gy, 0, none⟩) 2 qy) := cell_of_heap hr
  have lr := (Array.getElem?_eq_some_iff.1 hr).1
  clear hr
  have kx0 : w.cell? ⟨gx, 0, none⟩ = some (str sf) := cell_of_heap hx
  have kx1 : w.cell? ⟨gx, 1, none⟩ = some (.slice af nf cf) := cell_of_heap hx
  have kx2 : w.cell? ⟨gx, 2, none⟩ = some (str []) := cell_of_heap hx
  have kx3 : w.cell? ⟨gx, 3, none⟩ = some (.slice (some ⟨gi, 0, none⟩) 2 qi) := cell_of_heap hx
  have lx := (Array.getElem?_eq_some_iff.1 hx).1
  clear hx
  have ki0 : w.cell? ⟨gi, 0, none⟩ = some (str []) := cell_of_heap hi
  have ki1 : w.cell? ⟨gi, 1, none⟩ = some (.slice (some ⟨gm, 0, none⟩) 2 qm) := cell_of_heap hi
  have ki2 : w.cell? ⟨gi, 2, none⟩ = some (str []) := cell_of_heap hi
  have ki3 : w.cell? ⟨gi, 3, none⟩ = some (.slice (some ⟨gn, 0, none⟩) 2 qn) := cell_of_heap hi
  have li := (Array.getElem?_eq_some_iff.1 hi).1
  clear hi
  have km0 : w.cell? ⟨gm, 0, none⟩ = some (str so) := cell_of_heap hm
  have km1 : w.cell? ⟨gm, 1, none⟩ = some (.slice ao no co) := cell_of_heap hm
  have km2 : w.cell? ⟨gm, 2, none⟩ = some (str sp) := cell_of_heap hm
  have km3 : w.cell? ⟨gm, 3, none⟩ = some (.slice ap np cp) := cell_of_heap hm
  have lm := (Array.getElem?_eq_some_iff.1 hm).1
  clear hm
  have kn0 : w.cell? ⟨gn, 0, none⟩ = some (str sj) := cell_of_heap hn
  have kn1 : w.cell? ⟨gn, 1, none⟩ = some (.slice aj nj cj) := cell_of_heap hn
  have kn2 : w.cell? ⟨gn, 2, none⟩ = some (str se) := cell_of_heap hn
  have kn3 : w.cell? ⟨gn, 3, none⟩ = some (.slice ae ne ce) := cell_of_heap hn
  have ln := (Array.getElem?_eq_some_iff.1 hn).1
  clear hn
  have ky0 : w.cell? ⟨gy, 0, none⟩ = some (str su) := cell_of_heap hy
  have ky1 : w.cell? ⟨gy, 1, none⟩ = some (.slice au nu cu) := cell_of_heap hy
  have ky2 : w.cell? ⟨gy, 2, none⟩ = some (str sv) := cell_of_heap hy
  have ky3 : w.cell? ⟨gy, 3, none⟩ = some (.slice av nv cv) := cell_of_heap hy
  have ly := (Array.getElem?_eq_some_iff.1 hy).1
  clear hy
  have hx3 := ((After.new w (.cells #[str [], .slice (some ⟨gr, 0, none⟩) 2 qr] 32)).alloc (.cells #[.string ⟨#[]⟩, .slice none 0 0] 32)).alloc (.cells #[.string ⟨#[]⟩, .slice none 0 0] 32)
  have x3r0 := hx3.cell kr0
  have x3r1 := hx3.cell kr1
  have x3r2 := hx3.cell kr2
  have x3r3 := hx3.cell kr3
  have hx4 := hx3.alloc (.cells #[str [], .slice (some ⟨gx, 0, none⟩) 2 qx] 32)
  have x4r0 := hx4.cell kr0
  have x4r1 := hx4.cell kr1
  have x4r2 := hx4.cell kr2
  have x4r3 := hx4.cell kr3
  have x4x0 := hx4.cell kx0
  have x4x1 := hx4.cell kx1
  have x4x2 := hx4.cell kx2
  have x4x3 := hx4.cell kx3
  have x4y0 := hx4.cell ky0
  have x4y1 := hx4.cell ky1
  have x4y2 := hx4.cell ky2
  have x4y3 := hx4.cell ky3
  have hx5 := hx4.alloc (.cells #[str [], .slice (some ⟨gi, 0, none⟩) 2 qi] 32)
  have x5r0 := hx5.cell kr0
  have x5r1 := hx5.cell kr1
  have x5r2 := hx5.cell kr2
  have x5r3 := hx5.cell kr3
  have x5x0 := hx5.cell kx0
  have x5x1 := hx5.cell kx1
  have x5x2 := hx5.cell kx2
  have x5x3 := hx5.cell kx3
  have x5i0 := hx5.cell ki0
  have x5i1 := hx5.cell ki1
  have x5i2 := hx5.cell ki2
  have x5i3 := hx5.cell ki3
  have x5m0 := hx5.cell km0
  have x5m1 := hx5.cell km1
  have x5m2 := hx5.cell km2
  have x5m3 := hx5.cell km3
  have x5n0 := hx5.cell kn0
  have x5n1 := hx5.cell kn1
  have x5n2 := hx5.cell kn2
  have x5n3 := hx5.cell kn3
  have x5y0 := hx5.cell ky0
  have x5y1 := hx5.cell ky1
  have x5y2 := hx5.cell ky2
  have x5y3 := hx5.cell ky3
  have hos : allocL w [.cells #[str [], .slice (some ⟨gr, 0, none⟩) 2 qr] 32, .cells #[.string ⟨#[]⟩, .slice none 0 0] 32, .cells #[.string ⟨#[]⟩, .slice none 0 0] 32, .cells #[str [], .slice (some ⟨gx, 0, none⟩) 2 qx] 32, .cells #[str [], .slice (some ⟨gi, 0, none⟩) 2 qi] 32] = ((((w.alloc (.cells #[str [], .slice (some ⟨gr, 0, none⟩) 2 qr] 32)).alloc (.cells #[.string ⟨#[]⟩, .slice none 0 0] 32)).alloc (.cells #[.string ⟨#[]⟩, .slice none 0 0] 32)).alloc (.cells #[str [], .slice (some ⟨gx, 0, none⟩) 2 qx] 32)).alloc (.cells #[str [], .slice (some ⟨gi, 0, none⟩) 2 qi] 32) := rfl
  have hb0 := allocL_heap w [.cells #[str [], .slice (some ⟨gr, 0, none⟩) 2 qr] 32, .cells #[.string ⟨#[]⟩, .slice none 0 0] 32, .cells #[.string ⟨#[]⟩, .slice none 0 0] 32, .cells #[str [], .slice (some ⟨gx, 0, none⟩) 2 qx] 32, .cells #[str [], .slice (some ⟨gi, 0, none⟩) 2 qi] 32] 0 (by simp)
  have hb1 := allocL_heap w [.cells #[str [], .slice (some ⟨gr, 0, none⟩) 2 qr] 32, .cells #[.string ⟨#[]⟩, .slice none 0 0] 32, .cells #[.string ⟨#[]⟩, .slice none 0 0] 32, .cells #[str [], .slice (some ⟨gx, 0, none⟩) 2 qx] 32, .cells #[str [], .slice (some ⟨gi, 0, none⟩) 2 qi] 32] 1 (by simp)
  have hb2 := allocL_heap w [.cells #[str [], .slice (some ⟨gr, 0, none⟩) 2 qr] 32, .cells #[.string ⟨#[]⟩, .slice none 0 0] 32, .cells #[.string ⟨#[]⟩, .slice none 0 0] 32, .cells #[str [], .slice (some ⟨gx, 0, none⟩) 2 qx] 32, .cells #[str [], .slice (some ⟨gi, 0, none⟩) 2 qi] 32] 2 (by simp)
  have hb4 := allocL_heap w [.cells #[str [], .slice (some ⟨gr, 0, none⟩) 2 qr] 32, .cells #[.string ⟨#[]⟩, .slice none 0 0] 32, .cells #[.string ⟨#[]⟩, .slice none 0 0] 32, .cells #[str [], .slice (some ⟨gx, 0, none⟩) 2 qx] 32, .cells #[str [], .slice (some ⟨gi, 0, none⟩) 2 qi] 32] 4 (by simp)
  rw [hos] at hb0 hb1 hb2 hb4
  have HB0 := Lib.hid (show (((((w.alloc (.cells #[str [], .slice (some ⟨gr, 0, none⟩) 2 qr] 32)).alloc (.cells #[.string ⟨#[]⟩, .slice none 0 0] 32)).alloc (.cells #[.string ⟨#[]⟩, .slice none 0 0] 32)).alloc (.cells #[str [], .slice (some ⟨gx, 0, none⟩) 2 qx] 32)).alloc (.cells #[str [], .slice (some ⟨gi, 0, none⟩) 2 qi] 32)).heap[w.heap.size]? = some (.cells #[str [], .slice (some ⟨gr, 0, none⟩) 2 qr] 32 (0, 0)) from hb0)
  have HB1 := Lib.hid (show (((((w.alloc (.cells #[str [], .slice (some ⟨gr, 0, none⟩) 2 qr] 32)).alloc (.cells #[.string ⟨#[]⟩, .slice none 0 0] 32)).alloc (.cells #[.string ⟨#[]⟩, .slice none 0 0] 32)).alloc (.cells #[str [], .slice (some ⟨gx, 0, none⟩) 2 qx] 32)).alloc (.cells #[str [], .slice (some ⟨gi, 0, none⟩) 2 qi] 32)).heap[w.heap.size + 1]? = some (.cells #[.string ⟨#[]⟩, .slice none 0 0] 32 (0, 0)) from hb1)
  have HB2 := Lib.hid (show (((((w.alloc (.cells #[str [], .slice (some ⟨gr, 0, none⟩) 2 qr] 32)).alloc (.cells #[.string ⟨#[]⟩, .slice none 0 0] 32)).alloc (.cells #[.string ⟨#[]⟩, .slice none 0 0] 32)).alloc (.cells #[str [], .slice (some ⟨gx, 0, none⟩) 2 qx] 32)).alloc (.cells #[str [], .slice (some ⟨gi, 0, none⟩) 2 qi] 32)).heap[w.heap.size + 1 + 1]? = some (.cells #[.string ⟨#[]⟩, .slice none 0 0] 32 (0, 0)) from hb2)
  have HB4 := Lib.hid (show (((((w.alloc (.cells #[str [], .slice (some ⟨gr, 0, none⟩) 2 qr] 32)).alloc (.cells #[.string ⟨#[]⟩, .slice none 0 0] 32)).alloc (.cells #[.string ⟨#[]⟩, .slice none 0 0] 32)).alloc (.cells #[str [], .slice (some ⟨gx, 0, none⟩) 2 qx] 32)).alloc (.cells #[str [], .slice (some ⟨gi, 0, none⟩) 2 qi] 32)).heap[w.heap.size + 1 + 1 + 1 + 1]? = some (.cells #[str [], .slice (some ⟨gi, 0, none⟩) 2 qi] 32 (0, 0)) from hb4)
  have HX5 := Lib.hid hx5
  clear hos hb0 hb1 hb2 hb4
  subst hf
  subst hu
  subst ho
  subst hj
  have hI := s_i
  have hti := fun W v (h : ST W Tm.I v) => h.text rfl (by decide)
  unfold TreePost at hI
  generalize tp.text = xp at htp htxt
  generalize Tm.text Tm.I = xi at hti htxt
  go_enter Try.func77, Try.ntmps77
  go_wp2_with fail
  refine htp.mono ?_
  rintro e w1 ⟨rfl, hq1⟩
  go_wp2_with fail
  refine (hI _).mono ?_
  rintro e w2 ⟨s2, ao2, n2, c2, rfl, hq2, ht2⟩
  have hti' := hti _ _ ht2
  clear ht2
  go_wp2_with fail
  refine hti'.mono ?_
  rintro e w3 ⟨rfl, hq3⟩
  have hq := (After.trans hq1 hq2).trans hq3
  clear hti' hti htp hI
  obtain ⟨i0, i1, _, _, l0⟩ := pair_facts HB0.out hq
  obtain ⟨z0, z1, z2, z3, l1⟩ := pair_facts HB1.out hq
  obtain ⟨y0, y1, y2, y3, l2⟩ := pair_facts HB2.out hq
  obtain ⟨j0, j1, _, _, l4⟩ := pair_facts HB4.out hq
  have vr0 := hq.cell x5r0
  have vr1 := hq.cell x5r1
  have vr2 := hq.cell x5r2
  have vr3 := hq.cell x5r3
  have vn0 := hq.cell x5n0
  have vn1 := hq.cell x5n1
  have vn2 := hq.cell x5n2
  have vn3 := hq.cell x5n3
  have vy0 := hq.cell x5y0
  have vy1 := hq.cell x5y1
  have vy2 := hq.cell x5y2
  have vy3 := hq.cell x5y3
  have vi0 := hq.cell x5i0
  have vi1 := hq.cell x5i1
  have vi2 := hq.cell x5i2
  have vi3 := hq.cell x5i3
  have hwq := HX5.out.trans hq
  go_wp2_with fail
  go_region
  all_goals
    go_wp2_with fail
    refine bodyPost_ret (v := .tuple #[.agg #[str [], .slice (some ⟨gr, 0, none⟩) 2 qr], .agg #[str [], .slice (some ⟨gr, 0, none⟩) 2 qr], .bool false]) (by simp [results, Try.results77, go_sem, z0, z1, y0, y1]) rfl ⟨_, _, _, _, _, _, _, _, rfl, (by repeat (first | exact hwq | apply After.drew | refine Below.setCell ?_ (by simp <;> omega) _)), fun m n h => by cases h⟩

theorem pw_l (w : World) (gr qr : Nat) (frr : Nat × Nat) (gx qx : Nat) (frx : Nat × Nat) (sf : List UInt8) (af : Option Addr) (nf cf : Nat) (gi qi : Nat) (fri : Nat × Nat) (gm qm : Nat) (frm : Nat × Nat) (so : List UInt8) (ao : Option Addr) (no co : Nat) (sp : List UInt8) (ap : Option Addr) (np cp : Nat) (gn qn : Nat) (frn : Nat × Nat) (sj : List UInt8) (aj : Option Addr) (nj cj : Nat) (se : List UInt8) (ae : Option Addr) (ne ce : Nat) (gy qy : Nat) (fry : Nat × Nat) (su : List UInt8) (au : Option Addr) (nu cu : Nat) (sv : List UInt8) (av : Option Addr) (nv cv : Nat) (hr : w.heap[gr]? = some (.cells #[str [], .slice (some ⟨gx, 0, none⟩) 2 qx, str [], .slice (some ⟨gy, 0, none⟩) 2 qy] 32 frr)) (hx : w.heap[gx]? = some (.cells #[str sf, .slice af nf cf, str [], .slice (some ⟨gi, 0, none⟩) 2 qi] 32 frx)) (hi : w.heap[gi]? = some (.cells #[str [], .slice (some ⟨gm, 0, none⟩) 2 qm, str [], .slice (some ⟨gn, 0, none⟩) 2 qn] 32 fri)) (hm : w.heap[gm]? = some (.cells #[str so, .slice ao no co, str sp, .slice ap np cp] 32 frm)) (hn : w.heap[gn]? = some (.cells #[str sj, .slice aj nj cj, str se, .slice ae ne ce] 32 frn)) (hy : w.heap[gy]? = some (.cells #[str su, .slice au nu cu, str sv, .slice av nv cv] 32 fry)) (hf : sf = [115]) (hu : su = [107]) (ho : so = [115]) (hj : sj = [107])
    (tp te tv : Tm) (hp : ST w tp (.agg #[str sp, .slice ap np cp])) (he : ST w te (.agg #[str se, .slice ae ne ce])) (hv : ST w tv (.agg #[str sv, .slice av nv cv])) (hgp : tp.good = true) (hzp : tp.text.length ≤ 100000000) (htxt : tp.text = Tm.text Tm.I) :
    Calls Try.prog 77 #[.agg #[str [], .slice (some ⟨gr, 0, none⟩) 2 qr]] w (SPartsPost w (some (te, tv))) := by
  have HE := Lib.hid he
  have HV := Lib.hid hv
  have htp := (hp.later ((((After.new w (.cells #[str [], .slice (some ⟨gr, 0, none⟩) 2 qr] 32)).alloc (.cells #[.string ⟨#[]⟩, .slice none 0 0] 32)).alloc (.cells #[.string ⟨#[]⟩, .slice none 0 0] 32)).alloc (.cells #[str [], .slice (some ⟨gx, 0, none⟩) 2 qx] 32) |>.alloc (.cells #[str [], .slice (some ⟨gi, 0, none⟩) 2 qi] 32))).text hgp hzp
  clear he hv hp
  have kr0 : w.cell? ⟨gr, 0, none⟩ = some (str []) := cell_of_heap hr
  have kr1 : w.cell? ⟨gr, 1, none⟩ = some (.slice (some ⟨gx, 0, none⟩) 2 qx) := cell_of_heap hr
  have kr2 : w.cell? ⟨gr, 2, none⟩ = some (str []) := cell_of_heap hr
  have kr3 : w.cell? ⟨gr, 3, none⟩ = some (.slice (some ⟨gy, 0, none⟩) 2 qy) := cell_of_heap hr
  have lr := (Array.getElem?_eq_some_iff.1 hr).1
  clear hr
  have kx0 : w.cell? ⟨gx, 0, none⟩ = some (str sf) := cell_of_heap hx
  have kx1 : w.cell? ⟨gx, 1, none⟩ = some (.slice af nf cf) := cell_of_heap hx
  have kx2 : w.cell? ⟨gx, 2, none⟩ = some (str []) := cell_of_heap hx
  have kx3 : w.cell? ⟨gx, 3, none⟩ = some (.slice (some ⟨gi, 0, none⟩) 2 qi) := cell_of_heap hx
  have lx := (Array.getElem?_eq_some_iff.1 hx).1
  clear hx
  have ki0 : w.cell? ⟨gi, 0, none⟩ = some (str []) := cell_of_heap hi
  have ki1 : w.cell? ⟨gi, 1, none⟩ = some (.slice (some ⟨gm, 0, none⟩) 2 qm) := cell_of_heap hi
  have ki2 : w.cell? ⟨gi, 2, none⟩ = some (str []) := cell_of_heap hi
  have ki3 : w.cell? ⟨gi, 3, none⟩ = some (.slice (some ⟨gn, 0, none⟩) 2 qn) := cell_of_heap hi
  have li := (Array.getElem?_eq_some_iff.1 hi).1
  clear hi
  have km0 : w.cell? ⟨gm, 0, none⟩ = some (str so) := cell_of_heap hm
  have km1 : w.cell? ⟨gm, 1, none⟩ = some (.slice ao no co) := cell_of_heap hm
  have km2 : w.cell? ⟨gm, 2, none⟩ = some (str sp) := cell_of_heap hm
  have km3 : w.cell? ⟨gm, 3, none⟩ = some (.slice ap np cp) := cell_of_heap hm
  have lm := (Array.getElem?_eq_some_iff.1 hm).1
  clear hm
  have kn0 : w.cell? ⟨gn, 0, none⟩ = some (str sj) := cell_of_heap hn
  have kn1 : w.cell? ⟨gn, 1, none⟩ = some (.slice aj nj cj) := cell_of_heap hn
  have kn2 : w.cell? ⟨gn, 2, none⟩ = some (str se) := cell_of_heap hn
  have kn3 : w.cell? ⟨gn, 3, none⟩ = some (.slice ae ne ce) := cell_of_heap hn
  have ln := (Array.getElem?_eq_some_iff.1 hn).1
  clear hn
  have ky0 : w.cell? ⟨gy, 0, none⟩ = some (str su) := cell_of_heap hy
  have ky1 : w.cell? ⟨gy, 1, none⟩ = some (.slice au nu cu) := cell_of_heap hy
  have ky2 : w.cell? ⟨gy, 2, none⟩ = some (str sv) := cell_of_heap hy
  have ky3 : w.cell? ⟨gy, 3, none⟩ = some (.slice av nv cv) := cell_of_heap hy
  have ly := (Array.getElem?_eq_some_iff.1 hy).1
  clear hy
  have hx3 := ((After.new w (.cells #[str [], .slice (some ⟨gr, 0, none⟩) 2 qr] 32)).alloc (.cells #[.string ⟨#[]⟩, .slice none 0 0] 32)).alloc (.cells #[.string ⟨#[]⟩, .slice none 0 0] 32)
  have x3r0 := hx3.cell kr0
  have x3r1 := hx3.cell kr1
  have x3r2 := hx3.cell kr2
  have x3r3 := hx3.cell kr3
  have hx4 := hx3.alloc (.cells #[str [], .slice (some ⟨gx, 0, none⟩) 2 qx] 32)
  have x4r0 := hx4.cell kr0
  have x4r1 := hx4.cell kr1
  have x4r2 := hx4.cell kr2
  have x4r3 := hx4.cell kr3
  have x4x0 := hx4.cell kx0
  have x4x1 := hx4.cell kx1
  have x4x2 := hx4.cell kx2
  have x4x3 := hx4.cell kx3
  have x4y0 := hx4.cell ky0
  have x4y1 := hx4.cell ky1
  have x4y2 := hx4.cell ky2
  have x4y3 := hx4.cell ky3
  have hx5 := hx4.alloc (.cells #[str [], .slice (some ⟨gi, 0, none⟩) 2 qi] 32)
  have x5r0 := hx5.cell kr0
  have x5r1 := hx5.cell kr1
  have x5r2 := hx5.cell kr2
  have x5r3 := hx5.cell kr3
  have x5x0 := hx5.cell kx0
  have x5x1 := hx5.cell kx1
  have x5x2 := hx5.cell kx2
  have x5x3 := hx5.cell kx3
  have x5i0 := hx5.cell ki0
  have x5i1 := hx5.cell ki1
  have x5i2 := hx5.cell ki2
  have x5i3 := hx5.cell ki3
  have x5m0 := hx5.cell km0
  have x5m1 := hx5.cell km1
  have x5m2 := hx5.cell km2
  have x5m3 := hx5.cell km3
  have x5n0 := hx5.cell kn0
  have x5n1 := hx5.cell kn1
  have x5n2 := hx5.cell kn2
  have x5n3 := hx5.cell kn3
  have x5y0 := hx5.cell ky0
  have x5y1 := hx5.cell ky1
  have x5y2 := hx5.cell ky2
  have x5y3 := hx5.cell ky3
  have hos : allocL w [.cells #[str [], .slice (some ⟨gr, 0, none⟩) 2 qr] 32, .cells #[.string ⟨#[]⟩, .slice none 0 0] 32, .cells #[.string ⟨#[]⟩, .slice none 0 0] 32, .cells #[str [], .slice (some ⟨gx, 0, none⟩) 2 qx] 32, .cells #[str [], .slice (some ⟨gi, 0, none⟩) 2 qi] 32] = ((((w.alloc (.cells #[str [], .slice (some ⟨gr, 0, none⟩) 2 qr] 32)).alloc (.cells #[.string ⟨#[]⟩, .slice none 0 0] 32)).alloc (.cells #[.string ⟨#[]⟩, .slice none 0 0] 32)).alloc (.cells #[str [], .slice (some ⟨gx, 0, none⟩) 2 qx] 32)).alloc (.cells #[str [], .slice (some ⟨gi, 0, none⟩) 2 qi] 32) := rfl
  have hb0 := allocL_heap w [.cells #[str [], .slice (some ⟨gr, 0, none⟩) 2 qr] 32, .cells #[.string ⟨#[]⟩, .slice none 0 0] 32, .cells #[.string ⟨#[]⟩, .slice none 0 0] 32, .cells #[str [], .slice (some ⟨gx, 0, none⟩) 2 qx] 32, .cells #[str [], .slice (some ⟨gi, 0, none⟩) 2 qi] 32] 0 (by simp)
  have hb1 := allocL_heap w [.cells #[str [], .slice (some ⟨gr, 0, none⟩) 2 qr] 32, .cells #[.string ⟨#[]⟩, .slice none 0 0] 32, .cells #[.string ⟨#[]⟩, .slice none 0 0] 32, .cells #[str [], .slice (some ⟨gx, 0, none⟩) 2 qx] 32, .cells #[str [], .slice (some ⟨gi, 0, none⟩) 2 qi] 32] 1 (by simp)
  have hb2 := allocL_heap w [.cells #[str [], .slice (some ⟨gr, 0, none⟩) 2 qr] 32, .cells #[.string ⟨#[]⟩, .slice none 0 0] 32, .cells #[.string ⟨#[]⟩, .slice none 0 0] 32, .cells #[str [], .slice (some ⟨gx, 0, none⟩) 2 qx] 32, .cells #[str [], .slice (some ⟨gi, 0, none⟩) 2 qi] 32] 2 (by simp)
  have hb4 := allocL_heap w [.cells #[str [], .slice (some ⟨gr, 0, none⟩) 2 qr] 32, .cells #[.string ⟨#[]⟩, .slice none 0 0] 32, .cells #[.string ⟨#[]⟩, .slice none 0 0] 32, .cells #[str [], .slice (some ⟨gx, 0, none⟩) 2 qx] 32, .cells #[str [], .slice (some ⟨gi, 0, none⟩) 2 qi] 32] 4 (by simp)
  rw [hos] at hb0 hb1 hb2 hb4
  have HB0 := Lib.hid (show (((((w.alloc (.cells #[str [], .slice (some ⟨gr, 0, none⟩) 2 qr] 32)).alloc (.cells #[.string ⟨#[]⟩, .slice none 0 0] 32)).alloc (.cells #[.string ⟨#[]⟩, .slice none 0 0] 32)).alloc (.cells #[str [], .slice (some ⟨gx, 0, none⟩) 2 qx] 32)).alloc (.cells #[str [], .slice (some ⟨gi, 0, none⟩) 2 qi] 32)).heap[w.heap.size]? = some (.cells #[str [], .slice (some ⟨gr, 0, none⟩) 2 qr] 32 (0, 0)) from hb0)
  have HB1 := Lib.hid (show (((((w.alloc (.cells #[str [], .slice (some ⟨gr, 0, none⟩) 2 qr] 32)).alloc (.cells #[.string ⟨#[]⟩, .slice none 0 0] 32)).alloc (.cells #[.string ⟨#[]⟩, .slice none 0 0] 32)).alloc (.cells #[str [], .slice (some ⟨gx, 0, none⟩) 2 qx] 32)).alloc (.cells #[str [], .slice (some ⟨gi, 0, none⟩) 2 qi] 32)).heap[w.heap.size + 1]? = some (.cells #[.string ⟨#[]⟩, .slice none 0 0] 32 (0, 0)) from hb1)
  have HB2 := Lib.hid (show (((((w.alloc (.cells #[str [], .slice (some ⟨gr, 0, none⟩) 2 qr] 32)).alloc (.cells #[.string ⟨#[]⟩, .slice none 0 0] 32)).alloc (.cells #[.string ⟨#[]⟩, .slice none 0 0] 32)).alloc (.cells #[str [], .slice (some ⟨gx, 0, none⟩) 2 qx] 32)).alloc (.cells #[str [], .slice (some ⟨gi, 0, none⟩) 2 qi] 32)).heap[w.heap.size + 1 + 1]? = some (.cells #[.string ⟨#[]⟩, .slice none 0 0] 32 (0, 0)) from hb2)
  have HB4 := Lib.hid (show (((((w.alloc (.cells #[str [], .slice (some ⟨gr, 0, none⟩) 2 qr] 32)).alloc (.cells #[.string ⟨#[]⟩, .slice none 0 0] 32)).alloc (.cells #[.string ⟨#[]⟩, .slice none 0 0] 32)).alloc (.cells #[str [], .slice (some ⟨gx, 0, none⟩) 2 qx] 32)).alloc (.cells #[str [], .slice (some ⟨gi, 0, none⟩) 2 qi] 32)).heap[w.heap.size + 1 + 1 + 1 + 1]? = some (.cells #[str [], .slice (some ⟨gi, 0, none⟩) 2 qi] 32 (0, 0)) from hb4)
  have HX5 := Lib.hid hx5
  clear hos hb0 hb1 hb2 hb4
  subst hf
  subst hu
  subst ho
  subst hj
  have hI := s_i
  have hti := fun W v (h : ST W Tm.I v) => h.text rfl (by decide)
  unfold TreePost at hI
  generalize tp.text = xp at htp htxt
  generalize Tm.text Tm.I = xi at hti htxt
  subst htxt
  go_enter Try.func77, Try.ntmps77
  go_wp2_with fail
  refine htp.mono ?_
  rintro e w1 ⟨rfl, hq1⟩
  go_wp2_with fail
  refine (hI _).mono ?_
  rintro e w2 ⟨s2, ao2, n2, c2, rfl, hq2, ht2⟩
  have hti' := hti _ _ ht2
  clear ht2
  go_wp2_with fail
  refine hti'.mono ?_
  rintro e w3 ⟨rfl, hq3⟩
  have hq := (After.trans hq1 hq2).trans hq3
  clear hti' hti htp hI
  obtain ⟨i0, i1, _, _, l0⟩ := pair_facts HB0.out hq
  obtain ⟨z0, z1, z2, z3, l1⟩ := pair_facts HB1.out hq
  obtain ⟨y0, y1, y2, y3, l2⟩ := pair_facts HB2.out hq
  obtain ⟨j0, j1, _, _, l4⟩ := pair_facts HB4.out hq
  have vr0 := hq.cell x5r0
  have vr1 := hq.cell x5r1
  have vr2 := hq.cell x5r2
  have vr3 := hq.cell x5r3
  have vn0 := hq.cell x5n0
  have vn1 := hq.cell x5n1
  have vn2 := hq.cell x5n2
  have vn3 := hq.cell x5n3
  have vy0 := hq.cell x5y0
  have vy1 := hq.cell x5y1
  have vy2 := hq.cell x5y2
  have vy3 := hq.cell x5y3
  have vi0 := hq.cell x5i0
  have vi1 := hq.cell x5i1
  have vi2 := hq.cell x5i2
  have vi3 := hq.cell x5i3
  have hwq := HX5.out.trans hq
  go_wp2_with fail
  go_region
  all_goals
    go_wp2_with fail
    refine bodyPost_ret (v := .tuple #[.agg #[str se, .slice ae ne ce], .agg #[str sv, .slice av nv cv], .bool true]) (by simp [results, Try.results77, go_sem, z0, z1, y0, y1]) rfl ⟨_, _, _, _, _, _, _, _, rfl, (by repeat (first | exact hwq | apply After.drew | refine Below.setCell ?_ (by simp <;> omega) _)), fun m n h => ?_⟩
    obtain ⟨rfl, rfl⟩ : te = m ∧ tv = n := by simpa using h
    have hB2 := heap_sets2_ne (W := w3) (b := w.heap.size + 1) (c := w.heap.size + 1 + 1) (i := 0) (j := 1) (u := str se) (u' := .slice ae ne ce) (by omega)
    have hh2 := hB2.trans (hq.heap HB2.out)
    exact ⟨ST.later (After.drew (After.refl _)) (((HE.out.later hwq).sets2 (hq.heap HB1.out)).sets2 hh2), ST.later (After.drew (After.refl _)) (((HV.out.later hwq).sets2 (hq.heap HB1.out)).sets2 hh2)⟩

end Go.Proofs.Ytfpekihdoclncaa

namespace Go.Proofs.Ytfpekihdoclncaa
open Go.RowKit

set_option maxHeartbeats 2000000
set_option maxRecDepth 100000

/-- Is a tree no atom. -/
def Tm.isApp : Tm → Bool
  | .app _ _ => true
  | _ => false

theorem empty_app {w : World} {t : Tm} {s : List UInt8} {y : Value} (h : ST w t (.agg #[str s, y])) (hg : t.good = true) : s.isEmpty = t.isApp := by
  cases t with
  | app f a => obtain ⟨rfl, _⟩ := app_form h; rfl
  | k => obtain rfl := atom_form h rfl; rfl
  | s => obtain rfl := atom_form h rfl; rfl
  | nm n =>
    have e := atom_form h rfl
    rw [e]
    have := Tm.text_ne (.nm n) hg
    simp only [Tm.text] at this ⊢
    cases n with
    | nil => exact absurd rfl this
    | cons => rfl

theorem text_app_ne (f a : Tm) (c : UInt8) : (Tm.app f a).text ≠ [c] := by
  intro h
  have := congrArg List.length h
  simp [Tm.text] at this

/-- The letter of an atom, as the model and as the program ask for it. -/
theorem letter_eq {w : World} {t : Tm} {s : List UInt8} {y : Value} (c : UInt8) (h : ST w t (.agg #[str s, y])) : s = [c] ↔ t.text = [c] := by
  cases t with
  | app f a => obtain ⟨rfl, _⟩ := app_form h; simp [text_app_ne]
  | k => obtain rfl := atom_form h rfl; exact Iff.rfl
  | s => obtain rfl := atom_form h rfl; exact Iff.rfl
  | nm n => obtain rfl := atom_form h rfl; exact Iff.rfl

theorem text_si (f a : Tm) (hf : f.good = true) : (Tm.app f a).text = [40, 115, 32, 40, 40, 115, 32, 107, 41, 32, 107, 41, 41] ↔ f.text = [115] ∧ a.text = Tm.text Tm.I := by
  have hI : Tm.text Tm.I = [40, 40, 115, 32, 107, 41, 32, 107, 41] := by decide
  constructor
  · intro h
    simp only [Tm.text, List.cons.injEq, true_and] at h
    have hs : f.text = [115] := by
      cases f with
      | k => simp [Tm.text] at h
      | s => rfl
      | app x y => simp [Tm.text] at h
      | nm n =>
        cases n with
        | nil => simp [Tm.good, Tm.nameOk] at hf
        | cons c ds =>
          simp only [Tm.good, Tm.nameOk, Bool.and_eq_true] at hf
          simp only [Tm.text, List.cons_append, List.cons.injEq] at h
          obtain ⟨hc, _⟩ := h
          have := hf.1.1
          rw [hc] at this
          exact absurd this (by decide)
    rw [hs] at h
    simp only [List.cons_append, List.nil_append, List.cons.injEq, true_and] at h
    refine ⟨hs, ?_⟩
    rw [hI]
    have h2 : a.text ++ [41] = [40, 40, 115, 32, 107, 41, 32, 107, 41] ++ [41] := by simpa using h
    exact List.append_cancel_right h2
  · rintro ⟨h1, h2⟩
    simp only [Tm.text, h1, h2, hI]
    rfl

theorem atom_short {t : Tm} (hg : t.good = true) (h : t.isApp = false) : t.text ≠ [40, 115, 32, 40, 40, 115, 32, 107, 41, 32, 107, 41, 41] := by
  cases t with
  | app f a => simp [Tm.isApp] at h
  | k => decide
  | s => decide
  | nm n =>
    intro e
    simp only [Tm.text] at e
    rw [e] at hg
    exact absurd hg (by decide)

theorem parts_y {x y : Tm} (h : y.isApp = false) : (Tm.app x y).parts = none := by
  cases y with
  | app f a => simp [Tm.isApp] at h
  | _ => simp [Tm.parts, Tm.behind]
theorem parts_x {x y : Tm} (h : x.isApp = false) : (Tm.app x y).parts = none := by
  have : Tm.behind [115] x = none := by
    cases x with
    | app f a => simp [Tm.isApp] at h
    | _ => simp [Tm.behind]
  simp only [Tm.parts, this]
  split <;> rfl
theorem behind_no {F : List UInt8} {t : Tm} (h : t.isApp = false) : Tm.behind F t = none := by
  cases t with
  | app f a => simp [Tm.isApp] at h
  | _ => simp [Tm.behind]

theorem parts_app (x y : Tm) : (Tm.app x y).parts = (Tm.behind [107] y).bind fun n => (Tm.behind [115] x).bind fun l => (Tm.behind [40, 115, 32, 40, 40, 115, 32, 107, 41, 32, 107, 41, 41] l).bind fun fr => (Tm.behind [107] fr).map fun m => (m, n) := by
  simp only [Tm.parts]
  cases Tm.behind [107] y with
  | none => rfl
  | some n =>
    cases Tm.behind [115] x with
    | none => rfl
    | some l =>
      simp only [Option.bind_some]
      cases Tm.behind [40, 115, 32, 40, 40, 115, 32, 107, 41, 32, 107, 41, 41] l with
      | none => rfl
      | some fr =>
        simp only [Option.bind_some]
        cases Tm.behind [107] fr with
        | none => rfl
        | some m => rfl
theorem behind_app (F : List UInt8) (f a : Tm) : Tm.behind F (.app f a) = if f.text = F then some a else none := rfl

theorem s_parts (w : World) (t : Tm) (v : Value) (h : ST w t v) (hg : t.good = true) (hz : t.size ≤ 3000) : Calls Try.prog 77 #[v] w (SPartsPost w t.parts) := by
  obtain ⟨sr, ar, nr, cr, rfl⟩ := h.form
  cases ht : t.isApp with
  | false =>
    have he := empty_app h hg
    rw [ht] at he
    rw [show t.parts = none by cases t <;> first | rfl | simp [Tm.isApp] at ht]
    exact pw_a w sr ar nr cr he
  | true =>
    cases t with
    | app x y =>
      obtain ⟨rfl, gr, qr, frr, x0, y0, x1, y1, e1, hr, hx, hy⟩ := app_form h
      simp only [Value.slice.injEq] at e1
      obtain ⟨rfl, rfl, rfl⟩ := e1
      obtain ⟨sx, ax, nx, cx, rfl, rfl⟩ := parts_form hx
      obtain ⟨sy, ay, ny, cy, rfl, rfl⟩ := parts_form hy
      simp only [Tm.good, Bool.and_eq_true] at hg
      simp only [Tm.size] at hz
      cases hya : y.isApp with
      | false =>
        have he := empty_app hy hg.2
        rw [hya] at he
        rw [parts_y hya]
        exact pw_b w gr _ frr sx ax nx cx sy ay ny cy hr he
      | true =>
        cases y with
        | app u v =>
          obtain ⟨rfl, gy, qy, fry, u0, v0, u1, v1, e1, hyh, hu, hv⟩ := app_form hy
          simp only [Value.slice.injEq] at e1
          obtain ⟨rfl, rfl, rfl⟩ := e1
          obtain ⟨su, au, nu, cu, rfl, rfl⟩ := parts_form hu
          obtain ⟨sv, av, nv, cv, rfl, rfl⟩ := parts_form hv
          have hgy := hg.2
          simp only [Tm.good, Bool.and_eq_true] at hgy
          cases hxa : x.isApp with
          | false =>
            have he := empty_app hx hg.1
            rw [hxa] at he
            rw [parts_x hxa]
            exact pw_c w gr _ frr sx ax nx cx gy _ fry su au nu cu sv av nv cv hr hyh he
          | true =>
            cases x with
            | app f i =>
              obtain ⟨rfl, gx, qx, frx, f0, i0, f1, i1, e1, hxh, hf, hi⟩ := app_form hx
              simp only [Value.slice.injEq] at e1
              obtain ⟨rfl, rfl, rfl⟩ := e1
              obtain ⟨sf, af, nf, cf, rfl, rfl⟩ := parts_form hf
              obtain ⟨si, ai, ni, ci, rfl, rfl⟩ := parts_form hi
              have hgx := hg.1
              simp only [Tm.good, Bool.and_eq_true] at hgx
              by_cases hfs : f.text = [115]
              · have hsf := (letter_eq 115 hf).2 hfs
                by_cases huk : u.text = [107]
                · have hsu := (letter_eq 107 hu).2 huk
                  cases hia : i.isApp with
                  | false =>
                    have he := empty_app hi hgx.2
                    rw [hia] at he
                    rw [show (Tm.app (.app f i) (.app u v)).parts = none by rw [parts_app, behind_app, behind_app, if_pos huk, if_pos hfs]; simp only [Option.bind_some]; rw [behind_no hia]; rfl]
                    exact pw_f w gr _ frr gx _ frx sf af nf cf si ai ni ci gy _ fry su au nu cu sv av nv cv hr hxh hyh hsf hsu he
                  | true =>
                    cases i with
                    | app m n =>
                      obtain ⟨rfl, gi, qi, fri, m0, n0, m1, n1, e1, hih, hm, hn⟩ := app_form hi
                      simp only [Value.slice.injEq] at e1
                      obtain ⟨rfl, rfl, rfl⟩ := e1
                      obtain ⟨sm, am, nm, cm, rfl, rfl⟩ := parts_form hm
                      obtain ⟨sn, an, nn, cn, rfl, rfl⟩ := parts_form hn
                      have hgi := hgx.2
                      simp only [Tm.good, Bool.and_eq_true] at hgi
                      have hpm : (Tm.app (.app f (.app m n)) (.app u v)).parts = if m.text = [40, 115, 32, 40, 40, 115, 32, 107, 41, 32, 107, 41, 41] then (Tm.behind [107] n).map fun e => (e, v) else none := by
                        rw [parts_app, behind_app, behind_app, if_pos huk, if_pos hfs]
                        simp only [Option.bind_some]
                        rw [behind_app]
                        split <;> rfl
                      cases hma : m.isApp with
                      | false =>
                        have he := empty_app hm hgi.1
                        rw [hma] at he
                        rw [hpm, if_neg (atom_short hgi.1 hma)]
                        exact pw_g w gr _ frr gx _ frx sf af nf cf gi _ fri sm am nm cm sn an nn cn gy _ fry su au nu cu sv av nv cv hr hxh hih hyh hsf hsu he
                      | true =>
                        cases m with
                        | app o p =>
                          obtain ⟨rfl, gm, qm, frm, o0, p0, o1, p1, e1, hmh, ho, hp⟩ := app_form hm
                          simp only [Value.slice.injEq] at e1
                          obtain ⟨rfl, rfl, rfl⟩ := e1
                          obtain ⟨so, ao, no, co, rfl, rfl⟩ := parts_form ho
                          obtain ⟨sp, ap, np, cp, rfl, rfl⟩ := parts_form hp
                          have hgm := hgi.1
                          simp only [Tm.good, Bool.and_eq_true] at hgm
                          cases hna : n.isApp with
                          | false =>
                            have he := empty_app hn hgi.2
                            rw [hna] at he
                            rw [hpm, behind_no hna, show (if (Tm.app o p).text = [40, 115, 32, 40, 40, 115, 32, 107, 41, 32, 107, 41, 41] then (none : Option Tm).map fun e => (e, v) else none) = none by split <;> rfl]
                            exact pw_h w gr _ frr gx _ frx sf af nf cf gi _ fri gm _ frm so ao no co sp ap np cp sn an nn cn gy _ fry su au nu cu sv av nv cv hr hxh hih hmh hyh hsf hsu he
                          | true =>
                            cases n with
                            | app j e =>
                              obtain ⟨rfl, gn, qn, frn, j0, e0, j1, e1', e1, hnh, hj, he⟩ := app_form hn
                              simp only [Value.slice.injEq] at e1
                              obtain ⟨rfl, rfl, rfl⟩ := e1
                              obtain ⟨sj, aj, nj, cj, rfl, rfl⟩ := parts_form hj
                              obtain ⟨se, ae, ne, ce, rfl, rfl⟩ := parts_form he
                              have hgn := hgi.2
                              simp only [Tm.good, Bool.and_eq_true] at hgn
                              rw [hpm]
                              by_cases hos : o.text = [115]
                              · have hso := (letter_eq 115 ho).2 hos
                                by_cases hjk : j.text = [107]
                                · have hsj := (letter_eq 107 hj).2 hjk
                                  simp only [Tm.size] at hz
                                  have htl := Tm.text_le p hgm.2
                                  by_cases hpi : p.text = Tm.text Tm.I
                                  · rw [if_pos ((text_si o p hgm.1).2 ⟨hos, hpi⟩)]
                                    simp only [Tm.behind, hjk, if_true, Option.map_some]
                                    exact pw_l w gr _ frr gx _ frx sf af nf cf gi _ fri gm _ frm so ao no co sp ap np cp gn _ frn sj aj nj cj se ae ne ce gy _ fry su au nu cu sv av nv cv hr hxh hih hmh hnh hyh hsf hsu hso hsj p e v hp he hv hgm.2 (by omega) hpi
                                  · rw [if_neg (fun h => hpi ((text_si o p hgm.1).1 h).2)]
                                    exact pw_k w gr _ frr gx _ frx sf af nf cf gi _ fri gm _ frm so ao no co sp ap np cp gn _ frn sj aj nj cj se ae ne ce gy _ fry su au nu cu sv av nv cv hr hxh hih hmh hnh hyh hsf hsu hso hsj p e v hp he hv hgm.2 (by omega) (beq_eq_false_iff_ne.2 hpi)
                                · have hsj := beq_eq_false_iff_ne.2 (fun h => hjk ((letter_eq 107 hj).1 h))
                                  rw [show (if (Tm.app o p).text = [40, 115, 32, 40, 40, 115, 32, 107, 41, 32, 107, 41, 41] then (Tm.behind [107] (Tm.app j e)).map fun e => (e, v) else none) = none by simp only [Tm.behind, hjk, if_false]; split <;> rfl]
                                  exact pw_j w gr _ frr gx _ frx sf af nf cf gi _ fri gm _ frm so ao no co sp ap np cp gn _ frn sj aj nj cj se ae ne ce gy _ fry su au nu cu sv av nv cv hr hxh hih hmh hnh hyh hsf hsu hso hsj
                              · have hso := beq_eq_false_iff_ne.2 (fun h => hos ((letter_eq 115 ho).1 h))
                                rw [if_neg (fun h => hos ((text_si o p hgm.1).1 h).1)]
                                exact pw_i w gr _ frr gx _ frx sf af nf cf gi _ fri gm _ frm so ao no co sp ap np cp gn _ frn sj aj nj cj se ae ne ce gy _ fry su au nu cu sv av nv cv hr hxh hih hmh hnh hyh hsf hsu hso
                            | _ => simp [Tm.isApp] at hna
                        | _ => simp [Tm.isApp] at hma
                    | _ => simp [Tm.isApp] at hia
                · have hsu := beq_eq_false_iff_ne.2 (fun h => huk ((letter_eq 107 hu).1 h))
                  rw [show (Tm.app (.app f i) (.app u v)).parts = none by simp only [Tm.parts, Tm.behind, huk, if_false]]
                  exact pw_e w gr _ frr gx _ frx sf af nf cf si ai ni ci gy _ fry su au nu cu sv av nv cv hr hxh hyh hsf hsu
              · have hsf := beq_eq_false_iff_ne.2 (fun h => hfs ((letter_eq 115 hf).1 h))
                rw [show (Tm.app (.app f i) (.app u v)).parts = none by simp only [Tm.parts, Tm.behind, hfs, if_false]; split <;> rfl]
                exact pw_d w gr _ frr gx _ frx sf af nf cf si ai ni ci gy _ fry su au nu cu sv av nv cv hr hxh hyh hsf
            | _ => simp [Tm.isApp] at hxa
        | _ => simp [Tm.isApp] at hya
    | _ => simp [Tm.isApp] at ht
end Go.Proofs.Ytfpekihdoclncaa
