/-
  The model's application of a tree to one tree; its redexes and steps.
-/
import Derived.Test.YtfpekihdoclncaaPkAE
import Derived.Test.YtfpekihdoclncaaPkAC
namespace Go.Proofs.Ytfpekihdoclncaa
open Go.RowKit

set_option maxHeartbeats 4000000
set_option maxRecDepth 100000

def TreePost (w : World) (t : Tm) (e : Ending) (w' : World) : Prop :=
  ∃ s ao n c, e = .returned (.agg #[str s, .slice ao n c]) ∧ After w w' ∧ ST w' t (.agg #[str s, .slice ao n c])

theorem s_app (w : World) (f a : Tm) (s1 s2 : List UInt8) (a1 a2 : Option Addr) (n1 c1 n2 c2 g : Nat) (fr : Nat × Nat) (hf : ST w f (.agg #[str s1, .slice a1 n1 c1])) (ha : ST w a (.agg #[str s2, .slice a2 n2 c2]))
    (hg : w.heap[g]? = some (.cells #[str s2, .slice a2 n2 c2] 32 fr)) :
    Calls Try.prog 28 #[.agg #[str s1, .slice a1 n1 c1], .slice (some ⟨g, 0, none⟩) 1 1] w (TreePost w (f.app a)) := by
  have k0 : w.cell? ⟨g, 0, none⟩ = some (str s2) := cell_of_heap hg
  have k1 : w.cell? ⟨g, 1, none⟩ = some (.slice a2 n2 c2) := cell_of_heap hg
  have hlt := (Array.getElem?_eq_some_iff.1 hg).1
  have HF := Lib.hid hf
  have HA := Lib.hid ha
  clear hf ha hg
  go_enter Try.func28, Try.ntmps28
  go_wp2_with fail
  refine wp_loop_rounds 2 ?_
  rw [rounds_succ]
  go_wp2_with fail
  go_region
  go_wp2_with fail
  rw [rounds_succ]
  go_wp2_with fail
  have hx := ((After.new w (.cells #[.string ⟨#[]⟩, .slice (some ⟨w.heap.size + 1 + 1, 0, none⟩) 2 2] 32)).alloc (.cells #[.string ⟨#[]⟩, .slice (some ⟨w.heap.size + 1 + 1, 0, none⟩) 2 2] 32)).alloc (.cells #[str s1, .slice a1 n1 c1, str s2, .slice a2 n2 c2] 32)
  refine bodyPost_ret (v := .agg #[.string ⟨#[]⟩, .slice (some ⟨w.heap.size + 1 + 1, 0, none⟩) 2 2]) (by simp [results, Try.results28, go_sem]) rfl ⟨[], some ⟨w.heap.size + 1 + 1, 0, none⟩, 2, 2, rfl, hx.drew, ?_⟩
  exact ⟨w.heap.size + 1 + 1, 2, (0, 0), _, _, _, _, rfl, heap_new2 _ _ _ _ (by simp), HF.out.later hx.drew, HA.out.later hx.drew⟩

def RedexPost (w : World) (r : Option Tm) (e : Ending) (w' : World) : Prop :=
  ∃ s ao n c, e = .returned (.tuple #[.agg #[str s, .slice ao n c], .bool r.isSome]) ∧ After w w' ∧ ∀ u, r = some u → ST w' u (.agg #[str s, .slice ao n c])

theorem RedexPost.no {w w' : World} (hb : After w w') (s : List UInt8) (ao : Option Addr) (n c : Nat) : RedexPost w none (.returned (.tuple #[.agg #[str s, .slice ao n c], .bool false])) w' :=
  ⟨s, ao, n, c, rfl, hb, fun u hu => by simp at hu⟩

/-- W is X but for new blocks and block r. -/
def ButFor (X : World) (r : Nat) (W : World) : Prop := X.heap.size ≤ W.heap.size ∧ ∀ k, k < X.heap.size → k ≠ r → W.heap[k]? = X.heap[k]?

theorem ButFor.cell {X W : World} {r b i : Nat} {v : Value} (h : ButFor X r W) (hr : b ≠ r) (hc : X.cell? ⟨b, i, none⟩ = some v) : W.cell? ⟨b, i, none⟩ = some v := by
  rw [World.cell?_of_block (w := X) (a := ⟨b, i, none⟩) (h.2 b (World.block_lt_of_cell? _ _ hc) hr)]; exact hc
theorem ButFor.alloc {X W : World} {r : Nat} (h : ButFor X r W) (o : Obj) : ButFor X r (W.alloc o) := ⟨by simp; have := h.1; omega, fun k hk hr => by rw [Below.heap_alloc _ _ _ (Nat.lt_of_lt_of_le hk h.1)]; exact h.2 k hk hr⟩
theorem ButFor.after {X W W' : World} {r : Nat} (h : ButFor X r W) (g : After W W') : ButFor X r W' := ⟨Nat.le_trans h.1 g.size, fun k hk hr => by rw [g.block k (Nat.lt_of_lt_of_le hk h.1)]; exact h.2 k hk hr⟩
theorem ButFor.set {X W : World} {r : Nat} (h : ButFor X r W) (i : Nat) (v : Value) : ButFor X r (W.setCell ⟨r, i, none⟩ v) := ⟨by simp [World.setCell]; exact h.1, fun k hk hr => by rw [Below.heap_setCell _ _ _ _ (by simpa using hr)]; exact h.2 k hk hr⟩

theorem After.butFor {X W : World} {r : Nat} (h : After X W) : ButFor X r W := ⟨h.size, fun k hk _ => h.block k hk⟩
theorem ST.sets2 {W : World} {b : Nat} {x y u u' : Value} {T : TypeId} {fr : Nat × Nat} {t : Tm} {v : Value} (h : ST W t v) (hh : W.heap[b]? = some (.cells #[x, y] T fr)) {i j : Nat} : ST ((W.setCell ⟨b, i, none⟩ u).setCell ⟨b, j, none⟩ u') t v := by
  refine h.kept fun g cs T' fr' hs hg => ?_
  have hne : g ≠ b := by
    rintro rfl
    rw [hh] at hg
    injection hg with hg
    injection hg with hg _ _
    subst hg
    simp at hs
  rw [Below.heap_setCell _ _ _ _ hne, Below.heap_setCell _ _ _ _ hne]
  exact hg

theorem heap_old2 (W : World) (o p : Obj) : ((W.alloc o).alloc p).heap[W.heap.size]? = some o := by
  rw [Below.heap_alloc _ _ _ (by simp)]; exact heap_new' W o

theorem heap_new3 (w : World) (a b c : Obj) : (((w.alloc a).alloc b).alloc c).heap[w.heap.size + 1 + 1]? = some c := heap_new2 (w.alloc a) (w.heap.size + 1) b c (by simp)
theorem heap_new4 (w : World) (a b c d : Obj) : ((((w.alloc a).alloc b).alloc c).alloc d).heap[w.heap.size + 1 + 1 + 1]? = some d := heap_new2 ((w.alloc a).alloc b) (w.heap.size + 1 + 1) c d (by simp)

theorem redex_atom (w : World) (x : List UInt8) (ao : Option Addr) (n c : Nat) (hx : x ≠ []) : Calls Try.prog 98 #[.agg #[str x, .slice ao n c]] w (RedexPost w none) := by
  have he : x.isEmpty = false := by cases x with | nil => exact absurd rfl hx | cons => rfl
  clear hx
  go_enter Try.func98, Try.ntmps98
  go_wp2_with fail
  exact bodyPost_ret (v := .tuple #[.agg #[str x, .slice ao n c], .bool false]) (by simp [results, Try.results98, go_sem]) rfl (RedexPost.no ((After.new _ _).alloc _) _ _ _ _)

theorem redex_atom2 (w : World) (g1 q1 : Nat) (x1 : List UInt8) (k0 : w.cell? ⟨g1, 0, none⟩ = some (str x1)) (hlt : g1 < w.heap.size) (hx : x1 ≠ []) : Calls Try.prog 98 #[.agg #[str [], .slice (some ⟨g1, 0, none⟩) 2 q1]] w (RedexPost w none) := by
  have he : x1.isEmpty = false := by cases x1 with | nil => exact absurd rfl hx | cons => rfl
  clear hx
  go_enter Try.func98, Try.ntmps98
  go_wp2_with fail
  exact bodyPost_ret (v := .tuple #[.agg #[str [], .slice (some ⟨g1, 0, none⟩) 2 q1], .bool false]) (by simp [results, Try.results98, go_sem]) rfl (RedexPost.no ((After.new _ _).alloc _) _ _ _ _)

section
variable (w : World) (g1 q1 g2 q2 : Nat) (y1 x2 y2 : List UInt8) (b1 a2 b2 : Option Addr) (m1 d1 n2 m2 c2 d2 : Nat)
  (k0 : w.cell? ⟨g1, 0, none⟩ = some (str [])) (k1 : w.cell? ⟨g1, 1, none⟩ = some (.slice (some ⟨g2, 0, none⟩) 2 q2)) (k2 : w.cell? ⟨g1, 2, none⟩ = some (str y1)) (k3 : w.cell? ⟨g1, 3, none⟩ = some (.slice b1 m1 d1)) (hlt : g1 < w.heap.size)
  (j0 : w.cell? ⟨g2, 0, none⟩ = some (str x2)) (j1 : w.cell? ⟨g2, 1, none⟩ = some (.slice a2 n2 c2)) (j2 : w.cell? ⟨g2, 2, none⟩ = some (str y2)) (j3 : w.cell? ⟨g2, 3, none⟩ = some (.slice b2 m2 d2)) (hlt2 : g2 < w.heap.size)
include k0 k1 k2 k3 hlt j0 j1 j2 j3 hlt2
theorem redex_k (hx : x2 = [107]) (m : Tm) (hm : ST w m (.agg #[str y2, .slice b2 m2 d2])) : Calls Try.prog 98 #[.agg #[str [], .slice (some ⟨g1, 0, none⟩) 2 q1]] w (RedexPost w (some m)) := by
  have _u := And.intro k2 (And.intro k3 j1)
  clear _u
  subst hx
  have u1 : g1 < w.heap.size + 1 := by omega
  have u2 : g1 < w.heap.size + 1 + 1 := by omega
  have u3 : g2 < w.heap.size + 1 := by omega
  have u4 : g2 < w.heap.size + 1 + 1 := by omega
  have HM := Lib.hid hm
  clear hm
  go_enter Try.func98, Try.ntmps98
  go_wp2_with fail
  have hb : After w (((w.alloc (.cells #[str [], .slice (some ⟨g1, 0, none⟩) 2 q1] 32)).alloc (.cells #[str y2, .slice b2 m2 d2] 32)).alloc (.cells #[str [], .slice (some ⟨g2, 0, none⟩) 2 q2] 32)) := ((After.new _ _).alloc _).alloc _
  exact bodyPost_ret (v := .tuple #[.agg #[str y2, .slice b2 m2 d2], .bool true]) (by simp [results, Try.results98, go_sem]) rfl ⟨_, _, _, _, rfl, hb, fun u hu => by obtain rfl := Option.some.inj hu; exact HM.out.later hb⟩

theorem redex_atom3 (hx : x2 ≠ []) (hk : x2 ≠ [107]) : Calls Try.prog 98 #[.agg #[str [], .slice (some ⟨g1, 0, none⟩) 2 q1]] w (RedexPost w none) := by
  have _u := And.intro k2 (And.intro k3 (And.intro j1 (And.intro j2 j3)))
  clear _u
  have u1 : g1 < w.heap.size + 1 := by omega
  have u2 : g1 < w.heap.size + 1 + 1 := by omega
  have u3 : g2 < w.heap.size + 1 := by omega
  have u4 : g2 < w.heap.size + 1 + 1 := by omega
  have he : x2.isEmpty = false := by cases x2 with | nil => exact absurd rfl hx | cons => rfl
  have hk' : (x2 == [107]) = false := beq_eq_false_iff_ne.2 hk
  clear hx hk
  go_enter Try.func98, Try.ntmps98
  go_wp2_with fail
  exact bodyPost_ret (v := .tuple #[.agg #[str [], .slice (some ⟨g1, 0, none⟩) 2 q1], .bool false]) (by simp [results, Try.results98, go_sem]) rfl (RedexPost.no (((After.new _ _).alloc _).alloc _) _ _ _ _)
end

section
variable (w : World) (g1 q1 g2 q2 g3 q3 : Nat) (y1 y2 x3 y3 : List UInt8) (b1 b2 a3 b3 : Option Addr) (m1 d1 m2 d2 n3 c3 m3 d3 : Nat)
  (k0 : w.cell? ⟨g1, 0, none⟩ = some (str [])) (k1 : w.cell? ⟨g1, 1, none⟩ = some (.slice (some ⟨g2, 0, none⟩) 2 q2)) (k2 : w.cell? ⟨g1, 2, none⟩ = some (str y1)) (k3 : w.cell? ⟨g1, 3, none⟩ = some (.slice b1 m1 d1)) (hlt : g1 < w.heap.size)
  (j0 : w.cell? ⟨g2, 0, none⟩ = some (str [])) (j1 : w.cell? ⟨g2, 1, none⟩ = some (.slice (some ⟨g3, 0, none⟩) 2 q3)) (j2 : w.cell? ⟨g2, 2, none⟩ = some (str y2)) (j3 : w.cell? ⟨g2, 3, none⟩ = some (.slice b2 m2 d2)) (hlt2 : g2 < w.heap.size)
  (i0 : w.cell? ⟨g3, 0, none⟩ = some (str x3)) (i1 : w.cell? ⟨g3, 1, none⟩ = some (.slice a3 n3 c3)) (i2 : w.cell? ⟨g3, 2, none⟩ = some (str y3)) (i3 : w.cell? ⟨g3, 3, none⟩ = some (.slice b3 m3 d3)) (hlt3 : g3 < w.heap.size)
include k0 k1 k2 k3 hlt j0 j1 j2 j3 hlt2 i0 i1 i2 i3 hlt3
theorem redex_deep (hx : x3 ≠ [115]) : Calls Try.prog 98 #[.agg #[str [], .slice (some ⟨g1, 0, none⟩) 2 q1]] w (RedexPost w none) := by
  have _u := And.intro k2 (And.intro k3 (And.intro j2 (And.intro j3 (And.intro i1 (And.intro i2 i3)))))
  clear _u
  have u1 : g1 < w.heap.size + 1 := by omega
  have u2 : g1 < w.heap.size + 1 + 1 := by omega
  have u3 : g2 < w.heap.size + 1 := by omega
  have u4 : g2 < w.heap.size + 1 + 1 := by omega
  have u5 : g3 < w.heap.size + 1 := by omega
  have u6 : g3 < w.heap.size + 1 + 1 := by omega
  have hk' : (x3 == [115]) = false := beq_eq_false_iff_ne.2 hx
  clear hx
  go_enter Try.func98, Try.ntmps98
  go_wp2_with fail
  exact bodyPost_ret (v := .tuple #[.agg #[str [], .slice (some ⟨g1, 0, none⟩) 2 q1], .bool false]) (by simp [results, Try.results98, go_sem]) rfl (RedexPost.no (((After.new _ _).alloc _).alloc _) _ _ _ _)

theorem redex_s (hx : x3 = [115]) (m n p : Tm) (hm : ST w m (.agg #[str y3, .slice b3 m3 d3])) (hn : ST w n (.agg #[str y2, .slice b2 m2 d2])) (hp : ST w p (.agg #[str y1, .slice b1 m1 d1])) :
    Calls Try.prog 98 #[.agg #[str [], .slice (some ⟨g1, 0, none⟩) 2 q1]] w (RedexPost w (some ((m.app p).app (n.app p)))) := by
  have _u := And.intro k2 i1
  clear _u
  subst hx
  have u1 : g1 < w.heap.size + 1 := by omega
  have u2 : g1 < w.heap.size + 1 + 1 := by omega
  have u3 : g2 < w.heap.size + 1 := by omega
  have u4 : g2 < w.heap.size + 1 + 1 := by omega
  have u5 : g3 < w.heap.size + 1 := by omega
  have u6 : g3 < w.heap.size + 1 + 1 := by omega
  have v1 : g1 < w.heap.size + 1 + 1 + 1 := by omega
  have v2 : g2 < w.heap.size + 1 + 1 + 1 := by omega
  have v3 : g3 < w.heap.size + 1 + 1 + 1 := by omega
  have HM := Lib.hid hm
  have HN := Lib.hid hn
  have HP := Lib.hid hp
  clear hm hn hp
  go_enter Try.func98, Try.ntmps98
  go_wp2_with fail
  obtain ⟨X, hX⟩ : ∃ X, X = ((((w.alloc (.cells #[str [], .slice (some ⟨g1, 0, none⟩) 2 q1] 32)).alloc (.cells #[.string ⟨#[]⟩, .slice none 0 0] 32)).alloc (.cells #[str [], .slice (some ⟨g2, 0, none⟩) 2 q2] 32)).alloc (.cells #[str y1, .slice b1 m1 d1] 32)) := ⟨_, rfl⟩
  have hwX : After w X := by rw [hX]; exact (((After.new _ _).alloc _).alloc _).alloc _
  have hF : X.heap[w.heap.size + 1 + 1]? = some (.cells #[str [], .slice (some ⟨g2, 0, none⟩) 2 q2] 32 (0, 0)) := by
    rw [hX, Below.heap_alloc _ _ _ (by simp)]; exact heap_new3 _ _ _ _
  have hP : X.heap[w.heap.size + 1 + 1 + 1]? = some (.cells #[str y1, .slice b1 m1 d1] 32 (0, 0)) := by
    rw [hX]; exact heap_new4 _ _ _ _ _
  have hR : X.heap[w.heap.size + 1]? = some (.cells #[.string ⟨#[]⟩, .slice none 0 0] 32 (0, 0)) := by
    rw [hX, Below.heap_alloc _ _ _ (by simp), Below.heap_alloc _ _ _ (by simp)]; exact heap_new2 _ _ _ _ rfl
  have hsz : X.heap.size = w.heap.size + 1 + 1 + 1 + 1 := by rw [hX]; simp
  have o1 : ∀ W, ButFor X (w.heap.size + 1) W → W.cell? ⟨w.heap.size + 1 + 1, 1, none⟩ = some (.slice (some ⟨g2, 0, none⟩) 2 q2) := fun W hW => hW.cell (by omega) (cell_of_heap hF)
  have o2 : ∀ W, ButFor X (w.heap.size + 1) W → W.cell? ⟨w.heap.size + 1 + 1 + 1, 0, none⟩ = some (str y1) := fun W hW => hW.cell (by omega) (cell_of_heap hP)
  have o3 : ∀ W, ButFor X (w.heap.size + 1) W → W.cell? ⟨w.heap.size + 1 + 1 + 1, 1, none⟩ = some (.slice b1 m1 d1) := fun W hW => hW.cell (by omega) (cell_of_heap hP)
  have o4 : ∀ W, ButFor X (w.heap.size + 1) W → W.cell? ⟨g2, 1, none⟩ = some (.slice (some ⟨g3, 0, none⟩) 2 q3) := fun W hW => hW.cell (by omega) (hwX.cell j1)
  have o5 : ∀ W, ButFor X (w.heap.size + 1) W → W.cell? ⟨g2, 2, none⟩ = some (str y2) := fun W hW => hW.cell (by omega) (hwX.cell j2)
  have o6 : ∀ W, ButFor X (w.heap.size + 1) W → W.cell? ⟨g2, 3, none⟩ = some (.slice b2 m2 d2) := fun W hW => hW.cell (by omega) (hwX.cell j3)
  have o7 : ∀ W, ButFor X (w.heap.size + 1) W → W.cell? ⟨g3, 2, none⟩ = some (str y3) := fun W hW => hW.cell (by omega) (hwX.cell i2)
  have o8 : ∀ W, ButFor X (w.heap.size + 1) W → W.cell? ⟨g3, 3, none⟩ = some (.slice b3 m3 d3) := fun W hW => hW.cell (by omega) (hwX.cell i3)
  have hself := After.refl X
  have hbf : ButFor X (w.heap.size + 1) X.drew := ⟨Nat.le_refl _, fun _ _ _ => rfl⟩
  have hres : ∀ W, After X W → W.cell? ⟨w.heap.size + 1, 0, none⟩ = some (.string ⟨#[]⟩) ∧ W.cell? ⟨w.heap.size + 1, 1, none⟩ = some (.slice none 0 0) ∧ W.frozen? ⟨w.heap.size + 1, 0, none⟩ = false ∧ W.frozen? ⟨w.heap.size + 1, 1, none⟩ = false := fun W hW => by
    have hh := hW.heap hR
    exact ⟨cell_of_heap hh, cell_of_heap hh, by simp [World.frozen?, hh], by simp [World.frozen?, hh]⟩
  rw [← hX]
  have HMX := Lib.hid (HM.out.later hwX)
  have HNX := Lib.hid (HN.out.later hwX)
  have HPX := Lib.hid (HP.out.later hwX)
  have HRES := Lib.hid hres
  have HWX := Lib.hid hwX
  clear hres HM HN HP k0 k1 k2 k3 j0 j1 j2 j3 i0 i1 i2 i3 hF hP hwX u1 u2 u3 u4 u5 u6 v1 v2 v3
  have HR := Lib.hid hR
  have HSZ := Lib.hid hsz
  clear hR hsz hX
  go_region_held3 (fun W' => ButFor X (w.heap.size + 1) W') (first | assumption | exact hbf | exact After.butFor (by assumption) | exact ButFor.alloc (by assumption) _ | exact ButFor.set (ButFor.set (by assumption) _ _) _ _ | go_keep)
    (first
      | (go_at_call_of 28 b3; refine (s_app _ m p y3 y1 b3 b1 m3 d3 m1 d1 _ (0, 0) ?_ ?_ ?_).mono ?_; exact HMX.out.later ((hself.alloc _).drew); exact HPX.out.later ((hself.alloc _).drew); exact heap_new' _ _; rintro e w1 ⟨t1, ao1, nn1, cc1, rfl, hb1, hs1⟩; have hA1 := After.trans ((hself.alloc _).drew) hb1)
      | (go_at_call_of 28 b3; refine (s_app _ m p y3 y1 b3 b1 m3 d3 m1 d1 _ (0, 0) ?_ ?_ ?_).mono ?_; exact HMX.out.later (((hself.alloc _).alloc _).drew); exact HPX.out.later (((hself.alloc _).alloc _).drew); exact heap_new2 _ _ _ _ rfl; rintro e w1 ⟨t1, ao1, nn1, cc1, rfl, hb1, hs1⟩; have hA1 := After.trans (((hself.alloc _).alloc _).drew) hb1)
      | (go_at_call_of 28 b3; refine (s_app _ m p y3 y1 b3 b1 m3 d3 m1 d1 _ (0, 0) ?_ ?_ ?_).mono ?_; exact HMX.out.later (((hself.alloc _).alloc _).drew); exact HPX.out.later (((hself.alloc _).alloc _).drew); exact heap_old2 _ _ _; rintro e w1 ⟨t1, ao1, nn1, cc1, rfl, hb1, hs1⟩; have hA1 := After.trans (((hself.alloc _).alloc _).drew) hb1)
      | (go_at_call_of 28 b2; refine (s_app _ n p y2 y1 b2 b1 m2 d2 m1 d1 _ (0, 0) ?_ ?_ ?_).mono ?_; exact HNX.out.later (hA1.alloc _); exact HPX.out.later (hA1.alloc _); exact heap_new' _ _; rintro e w2 ⟨t2, ao2, nn2, cc2, rfl, hb2, hs2⟩; have hA2 := After.trans (hA1.alloc _) hb2; have hs1' := hs1.later (After.trans (After.new _ _) hb2))
      | (go_at_call_of 28 b2; refine (s_app _ n p y2 y1 b2 b1 m2 d2 m1 d1 _ (0, 0) ?_ ?_ ?_).mono ?_; exact HNX.out.later (hA1); exact HPX.out.later (hA1); exact hb1.heap (heap_new2 _ _ _ _ rfl); rintro e w2 ⟨t2, ao2, nn2, cc2, rfl, hb2, hs2⟩; have hA2 := After.trans (hA1) hb2; have hs1' := hs1.later (After.trans (After.refl _) hb2))
      | (go_at_call_of 28 b2; refine (s_app _ n p y2 y1 b2 b1 m2 d2 m1 d1 _ (0, 0) ?_ ?_ ?_).mono ?_; exact HNX.out.later (hA1); exact HPX.out.later (hA1); exact hb1.heap (heap_old2 _ _ _); rintro e w2 ⟨t2, ao2, nn2, cc2, rfl, hb2, hs2⟩; have hA2 := After.trans (hA1) hb2; have hs1' := hs1.later (After.trans (After.refl _) hb2))
      | (go_at_call_of 28 ao1; refine (s_app _ (m.app p) (n.app p) t1 t2 ao1 ao2 nn1 cc1 nn2 cc2 _ (0, 0) ?_ ?_ ?_).mono ?_; exact hs1'.later (After.new _ _); exact hs2.later (After.new _ _); exact heap_new' _ _; rintro e w3 ⟨t3, ao3, nn3, cc3, rfl, hb3, hs3⟩; have hA3 := After.trans (hA2.alloc _) hb3; obtain ⟨p0, p1, p2, p3⟩ := HRES.out _ hA3))
  all_goals
    go_wp2_with fail
    refine bodyPost_ret (v := .tuple #[.agg #[str t3, .slice ao3 nn3 cc3], .bool true]) (by simp [results, Try.results98, go_sem, p0, p1]) rfl ⟨t3, ao3, nn3, cc3, rfl, Below.setCell (Below.setCell (HWX.out.trans hA3) (by simp) _) (by simp) _, fun u hu => ?_⟩
    obtain rfl := Option.some.inj hu
    exact hs3.sets2 (hA3.heap HR.out)
end
end Go.Proofs.Ytfpekihdoclncaa

namespace Go.Proofs.Ytfpekihdoclncaa
open Go.RowKit

set_option maxHeartbeats 4000000
set_option maxRecDepth 100000

theorem name_not {n : List UInt8} (h : Tm.nameOk n = true) : n ≠ [] ∧ n ≠ [107] ∧ n ≠ [115] := by
  refine ⟨?_, ?_, ?_⟩ <;> (rintro rfl; revert h; decide)

theorem parts_form {w : World} {t : Tm} {x y : Value} (h : ST w t (.agg #[x, y])) : ∃ s ao n c, x = str s ∧ y = .slice ao n c := by
  obtain ⟨s, ao, n, c, e⟩ := h.form
  simp only [Value.agg.injEq, Array.mk.injEq, List.cons.injEq, and_true] at e
  exact ⟨s, ao, n, c, e.1, e.2⟩

theorem atom_form {w : World} {t : Tm} {s : List UInt8} {y : Value} (h : ST w t (.agg #[str s, y])) (hd : t.depth = 0) : s = t.text := by
  cases t with
  | app f a => simp [Tm.depth] at hd
  | k => simp only [ST, Value.agg.injEq, Array.mk.injEq, List.cons.injEq, and_true, Value.string.injEq, ByteArray.mk.injEq] at h; simpa using h.1
  | s => simp only [ST, Value.agg.injEq, Array.mk.injEq, List.cons.injEq, and_true, Value.string.injEq, ByteArray.mk.injEq] at h; simpa using h.1
  | nm n => simp only [ST, Value.agg.injEq, Array.mk.injEq, List.cons.injEq, and_true, Value.string.injEq, ByteArray.mk.injEq] at h; simpa using h.1

theorem app_form {w : World} {f a : Tm} {s : List UInt8} {y : Value} (h : ST w (f.app a) (.agg #[str s, y])) : s = [] ∧ ∃ g q fr s0 p0 s1 p1, y = .slice (some ⟨g, 0, none⟩) 2 q ∧ w.heap[g]? = some (.cells #[s0, p0, s1, p1] 32 fr) ∧ ST w f (.agg #[s0, p0]) ∧ ST w a (.agg #[s1, p1]) := by
  obtain ⟨g, q, fr, s0, p0, s1, p1, e, hh, hf, ha⟩ := h
  simp only [Value.agg.injEq, Array.mk.injEq, List.cons.injEq, and_true, Value.string.injEq, ByteArray.mk.injEq] at e
  exact ⟨by simpa using e.1, g, q, fr, s0, p0, s1, p1, e.2, hh, hf, ha⟩

theorem s_redex {w : World} {t : Tm} {v : Value} (h : ST w t v) (hg : t.good = true) : Calls Try.prog 98 #[v] w (RedexPost w t.redex) := by
  cases t with
  | k => simp only [ST] at h; subst h; exact redex_atom w _ _ _ _ (by simp [Tm.text])
  | s => simp only [ST] at h; subst h; exact redex_atom w _ _ _ _ (by simp [Tm.text])
  | nm n => simp only [ST] at h; subst h; exact redex_atom w _ _ _ _ (Tm.text_ne _ hg)
  | app f a =>
    obtain ⟨g1, q1, fr1, s0, p0, s1, p1, rfl, hh, hf, ha⟩ := h
    obtain ⟨x1, a1, n1, c1, rfl, rfl⟩ := parts_form hf
    obtain ⟨y1, b1, m1, d1, rfl, rfl⟩ := parts_form ha
    have hlt := (Array.getElem?_eq_some_iff.1 hh).1
    simp only [Tm.good, Bool.and_eq_true] at hg
    cases f with
    | k => exact redex_atom2 w g1 q1 x1 (cell_of_heap hh) hlt (by rw [atom_form hf rfl]; simp [Tm.text])
    | s => exact redex_atom2 w g1 q1 x1 (cell_of_heap hh) hlt (by rw [atom_form hf rfl]; simp [Tm.text])
    | nm n => exact redex_atom2 w g1 q1 x1 (cell_of_heap hh) hlt (by rw [atom_form hf rfl]; exact Tm.text_ne _ hg.1)
    | app g m =>
      obtain ⟨rfl, g2, q2, fr2, s2, p2, s3, p3, e2, hh2, hg2, hm⟩ := app_form hf
      injection e2 with e3 e4 e5
      subst e3; subst e4; subst e5
      obtain ⟨x2, a2, n2, c2, rfl, rfl⟩ := parts_form hg2
      obtain ⟨y2, b2, m2, d2, rfl, rfl⟩ := parts_form hm
      have hlt2 := (Array.getElem?_eq_some_iff.1 hh2).1
      have hgg := hg.1
      simp only [Tm.good, Bool.and_eq_true] at hgg
      cases g with
      | k => exact redex_k w g1 q1 g2 _ y1 x2 y2 b1 a2 b2 m1 d1 n2 m2 c2 d2 (cell_of_heap hh) (cell_of_heap hh) (cell_of_heap hh) (cell_of_heap hh) hlt (cell_of_heap hh2) (cell_of_heap hh2) (cell_of_heap hh2) (cell_of_heap hh2) hlt2 (atom_form hg2 rfl) m hm
      | s => exact redex_atom3 w g1 q1 g2 _ y1 x2 y2 b1 a2 b2 m1 d1 n2 m2 c2 d2 (cell_of_heap hh) (cell_of_heap hh) (cell_of_heap hh) (cell_of_heap hh) hlt (cell_of_heap hh2) (cell_of_heap hh2) (cell_of_heap hh2) (cell_of_heap hh2) hlt2 (by rw [atom_form hg2 rfl]; simp [Tm.text]) (by rw [atom_form hg2 rfl]; simp [Tm.text])
      | nm n =>
        have hn := name_not hgg.1
        exact redex_atom3 w g1 q1 g2 _ y1 x2 y2 b1 a2 b2 m1 d1 n2 m2 c2 d2 (cell_of_heap hh) (cell_of_heap hh) (cell_of_heap hh) (cell_of_heap hh) hlt (cell_of_heap hh2) (cell_of_heap hh2) (cell_of_heap hh2) (cell_of_heap hh2) hlt2 (by rw [atom_form hg2 rfl]; exact hn.1) (by rw [atom_form hg2 rfl]; exact hn.2.1)
      | app h x =>
        obtain ⟨rfl, g3, q3, fr3, s4, p4, s5, p5, e2, hh3, hh4, hx⟩ := app_form hg2
        injection e2 with e3 e4 e5
        subst e3; subst e4; subst e5
        obtain ⟨x3, a3, n3, c3, rfl, rfl⟩ := parts_form hh4
        obtain ⟨y3, b3, m3, d3, rfl, rfl⟩ := parts_form hx
        have hlt3 := (Array.getElem?_eq_some_iff.1 hh3).1
        have hggg := hgg.1
        simp only [Tm.good, Bool.and_eq_true] at hggg
        have deep : x3 ≠ [115] → Calls Try.prog 98 #[.agg #[str [], .slice (some ⟨g1, 0, none⟩) 2 q1]] w (RedexPost w none) := fun hne =>
          redex_deep w g1 q1 g2 _ g3 _ y1 y2 x3 y3 b1 b2 a3 b3 m1 d1 m2 d2 n3 c3 m3 d3 (cell_of_heap hh) (cell_of_heap hh) (cell_of_heap hh) (cell_of_heap hh) hlt (cell_of_heap hh2) (cell_of_heap hh2) (cell_of_heap hh2) (cell_of_heap hh2) hlt2 (cell_of_heap hh3) (cell_of_heap hh3) (cell_of_heap hh3) (cell_of_heap hh3) hlt3 hne
        cases h with
        | k => exact deep (by rw [atom_form hh4 rfl]; simp [Tm.text])
        | nm n => exact deep (by rw [atom_form hh4 rfl]; exact (name_not hggg.1).2.2)
        | app h1 h2 => obtain ⟨rfl, _⟩ := app_form hh4; exact deep (by simp)
        | s => exact redex_s w g1 q1 g2 _ g3 _ y1 y2 x3 y3 b1 b2 a3 b3 m1 d1 m2 d2 n3 c3 m3 d3 (cell_of_heap hh) (cell_of_heap hh) (cell_of_heap hh) (cell_of_heap hh) hlt (cell_of_heap hh2) (cell_of_heap hh2) (cell_of_heap hh2) (cell_of_heap hh2) hlt2 (cell_of_heap hh3) (cell_of_heap hh3) (cell_of_heap hh3) (cell_of_heap hh3) hlt3 (atom_form hh4 rfl) x m a hx hm ha

def SStepPost (w : World) (t : Tm) (e : Ending) (w' : World) : Prop :=
  ∃ s ao n c, e = .returned (.tuple #[.agg #[str s, .slice ao n c], .bool t.step.isSome]) ∧ After w w' ∧ ST w' (t.step.getD t) (.agg #[str s, .slice ao n c])

theorem box_facts (w : World) (x y : Value) (o : Obj) : ∀ W, After ((w.alloc (.cells #[x, y] 32)).alloc o) W → W.cell? ⟨w.heap.size, 0, none⟩ = some x ∧ W.cell? ⟨w.heap.size, 1, none⟩ = some y ∧ W.frozen? ⟨w.heap.size, 0, none⟩ = false ∧ W.frozen? ⟨w.heap.size, 1, none⟩ = false ∧ w.heap.size + 1 < W.heap.size := fun W hW => by
  have hh := hW.heap (heap_old2 w (.cells #[x, y] 32) o)
  have h2 := hW.heap (heap_new2 w w.heap.size (.cells #[x, y] 32) o rfl)
  exact ⟨cell_of_heap hh, cell_of_heap hh, by simp [World.frozen?, hh], by simp [World.frozen?, hh], (Array.getElem?_eq_some_iff.1 h2).1⟩

theorem box_facts2 (w : World) (x y : Value) (o : Obj) : ∀ W, After ((w.alloc o).alloc (.cells #[x, y] 32)) W → W.heap[w.heap.size + 1]? = some (.cells #[x, y] 32 (0, 0)) ∧ W.cell? ⟨w.heap.size + 1, 0, none⟩ = some x ∧ W.cell? ⟨w.heap.size + 1, 1, none⟩ = some y ∧ W.frozen? ⟨w.heap.size + 1, 0, none⟩ = false ∧ W.frozen? ⟨w.heap.size + 1, 1, none⟩ = false := fun W hW => by
  have hh := hW.heap (heap_new2 w w.heap.size o (.cells #[x, y] 32) rfl)
  exact ⟨hh, cell_of_heap hh, cell_of_heap hh, by simp [World.frozen?, hh], by simp [World.frozen?, hh]⟩

theorem step_redex (w : World) (t u : Tm) (x : List UInt8) (ao : Option Addr) (n c : Nat) (h : ST w t (.agg #[str x, .slice ao n c])) (hg : t.good = true) (hu : t.redex = some u) (hs : t.step = some u) :
    Calls Try.prog 82 #[.agg #[str x, .slice ao n c]] w (SStepPost w t) := by
  have hX : After w ((w.alloc (.cells #[str x, .slice ao n c] 32)).alloc (.cells #[.string ⟨#[]⟩, .slice none 0 0] 32)) := (After.new _ _).alloc _
  have hcall := s_redex (h.later hX) hg
  rw [hu] at hcall
  have H := Lib.hid hs
  have HX := Lib.hid hX
  clear hs hu h hX
  go_enter Try.func82, Try.ntmps82
  go_wp2_with fail
  refine hcall.mono ?_
  rintro e w1 ⟨s1, ao1, n1, c1, rfl, hb1, ht1⟩
  have HT := Lib.hid (ht1 u rfl)
  clear ht1 hcall
  obtain ⟨hr, r0, r1, f0, f1⟩ := box_facts2 w _ _ _ w1 hb1
  have hz := (Array.getElem?_eq_some_iff.1 hr).1
  have HR := Lib.hid hr
  clear hr
  go_wp2_with fail
  refine bodyPost_ret (v := .tuple #[.agg #[str s1, .slice ao1 n1 c1], .bool true]) (by simp [results, Try.results82, go_sem, r0, r1, hz]) rfl ⟨s1, ao1, n1, c1, by rw [H.out]; rfl, After.alloc (Below.setCell (Below.setCell (HX.out.trans hb1) (by simp) _) (by simp) _) _, ?_⟩
  rw [H.out]
  exact (HT.out.sets2 HR.out).later (After.new _ _)

theorem step_atom (w : World) (t : Tm) (x : List UInt8) (ao : Option Addr) (n c : Nat) (h : ST w t (.agg #[str x, .slice ao n c])) (hg : t.good = true) (hd : t.depth = 0) :
    Calls Try.prog 82 #[.agg #[str x, .slice ao n c]] w (SStepPost w t) := by
  have hX : After w ((w.alloc (.cells #[str x, .slice ao n c] 32)).alloc (.cells #[.string ⟨#[]⟩, .slice none 0 0] 32)) := (After.new _ _).alloc _
  have hcall := s_redex (h.later hX) hg
  have hu : t.redex = none := by cases t with
    | app f a => simp [Tm.depth] at hd
    | _ => rfl
  have hs : t.step = none := by cases t with
    | app f a => simp [Tm.depth] at hd
    | _ => rfl
  have hx : x.isEmpty = false := by
    have := Tm.text_ne t hg
    rw [← atom_form h hd] at this
    cases x with
    | nil => exact absurd rfl this
    | cons => rfl
  rw [hu] at hcall
  have H := Lib.hid hs
  have HX := Lib.hid hX
  have HT := Lib.hid h
  clear hs hu h hX
  go_enter Try.func82, Try.ntmps82
  go_wp2_with fail
  refine hcall.mono ?_
  rintro e w1 ⟨s1, ao1, n1, c1, rfl, hb1, ht1⟩
  clear ht1 hcall
  obtain ⟨hr, r0, r1, f0, f1⟩ := box_facts2 w _ _ _ w1 hb1
  obtain ⟨p0, p1, _, _, _⟩ := box_facts w _ _ _ w1 hb1
  have hz := (Array.getElem?_eq_some_iff.1 hr).1
  have hz2 : w.heap.size < w1.heap.size := by omega
  have HR := Lib.hid hr
  clear hr
  go_wp2_with fail
  refine bodyPost_ret (v := .tuple #[.agg #[str x, .slice ao n c], .bool false]) (by simp [results, Try.results82, go_sem, r0, r1, hz]) rfl ⟨x, ao, n, c, by rw [H.out]; rfl, After.alloc (Below.setCell (Below.setCell (HX.out.trans hb1) (by simp) _) (by simp) _) _, ?_⟩
  rw [H.out]
  exact ((HT.out.later (HX.out.trans hb1)).sets2 HR.out).later (After.new _ _)
end Go.Proofs.Ytfpekihdoclncaa

namespace Go.Proofs.Ytfpekihdoclncaa
open Go.RowKit

set_option maxHeartbeats 4000000
set_option maxRecDepth 100000

theorem step_fun (w : World) (f a : Tm) (g1 q1 : Nat) (x1 y1 : List UInt8) (a1 b1 : Option Addr) (n1 c1 m1 d1 : Nat) (fr : Nat × Nat) (hh : w.heap[g1]? = some (.cells #[str x1, .slice a1 n1 c1, str y1, .slice b1 m1 d1] 32 fr))
    (hf : ST w f (.agg #[str x1, .slice a1 n1 c1])) (ha : ST w a (.agg #[str y1, .slice b1 m1 d1])) (hg : (f.app a).good = true) (hr : (f.app a).redex = none)
    (ihf : ∀ W, After w W → Calls Try.prog 82 #[.agg #[str x1, .slice a1 n1 c1]] W (SStepPost W f)) (u : Tm) (hu : f.step = some u) :
    Calls Try.prog 82 #[.agg #[str [], .slice (some ⟨g1, 0, none⟩) 2 q1]] w (SStepPost w (f.app a)) := by
  have hs : (f.app a).step = some (u.app a) := by simp [Tm.step, hr, hu]
  have H := Lib.hid hs
  have HU := Lib.hid hu
  have hsome : f.step.isSome = true := by rw [hu]; rfl
  clear hs hu
  have hX : After w ((w.alloc (.cells #[str [], .slice (some ⟨g1, 0, none⟩) 2 q1] 32)).alloc (.cells #[.string ⟨#[]⟩, .slice none 0 0] 32)) := (After.new _ _).alloc _
  have htree : ST w (f.app a) (.agg #[str [], .slice (some ⟨g1, 0, none⟩) 2 q1]) := ⟨g1, q1, fr, _, _, _, _, rfl, hh, hf, ha⟩
  have hcall := s_redex (htree.later hX) hg
  rw [hr] at hcall
  have HX := Lib.hid hX
  have HF := Lib.hid hf
  have HA := Lib.hid ha
  have HH := Lib.hid hh
  have hlt := (Array.getElem?_eq_some_iff.1 hh).1
  clear hr hX htree hf ha
  go_enter Try.func82, Try.ntmps82
  go_wp2_with fail
  refine hcall.mono ?_
  rintro e w1 ⟨s1, ao1, nn1, cc1, rfl, hb1, ht1⟩
  clear ht1 hcall
  obtain ⟨p0, p1, _, _, hz⟩ := box_facts w _ _ _ w1 hb1
  have hz2 : w.heap.size < w1.heap.size := by omega
  have hw1 := HX.out.trans hb1
  have k0 : w1.cell? ⟨g1, 0, none⟩ = some (str x1) := cell_of_heap (hw1.heap hh)
  have k1 : w1.cell? ⟨g1, 1, none⟩ = some (.slice a1 n1 c1) := cell_of_heap (hw1.heap hh)
  have hlt1 : g1 < w1.heap.size := by omega
  clear hh
  go_wp2_with fail
  refine (ihf _ (hw1.alloc _)).mono ?_
  rintro e w2 ⟨s2, ao2, nn2, cc2, rfl, hb2, ht2⟩
  have HT2 := Lib.hid ht2
  have hb12 := (After.alloc hb1 (.cells #[str s1, .slice ao1 nn1 cc1] 32)).trans hb2
  have hw2 := HX.out.trans hb12
  clear ht2 p0 p1 hz2 k0 k1 hlt1 hz
  obtain ⟨p0, p1, _, _, hz⟩ := box_facts w _ _ _ w2 hb12
  have hz2 : w.heap.size < w2.heap.size := by omega
  go_wp2_with fail
  obtain ⟨X, hX⟩ : ∃ X, X = w2.alloc (.cells #[str s2, .slice ao2 nn2 cc2] 32) := ⟨_, rfl⟩
  have h2X : After w2 X := by rw [hX]; exact After.new _ _
  have hwX := hw2.trans h2X
  have hRX := (box_facts2 w _ _ _ X (hb12.trans h2X)).1
  have hBX : X.heap[w2.heap.size]? = some (.cells #[str s2, .slice ao2 nn2 cc2] 32 (0, 0)) := by rw [hX]; exact heap_new' _ _
  have hTX := (box_facts w _ _ _ X (hb12.trans h2X))
  have hne : w2.heap.size ≠ w.heap.size + 1 := by omega
  have hne2 : g1 ≠ w.heap.size + 1 := by omega
  have o1 : ∀ W, ButFor X (w.heap.size + 1) W → W.cell? ⟨w2.heap.size, 0, none⟩ = some (str s2) := fun W hW => hW.cell hne (cell_of_heap hBX)
  have o2 : ∀ W, ButFor X (w.heap.size + 1) W → W.cell? ⟨w2.heap.size, 1, none⟩ = some (.slice ao2 nn2 cc2) := fun W hW => hW.cell hne (cell_of_heap hBX)
  have o3 : ∀ W, ButFor X (w.heap.size + 1) W → W.cell? ⟨w.heap.size, 1, none⟩ = some (.slice (some ⟨g1, 0, none⟩) 2 q1) := fun W hW => hW.cell (by omega) hTX.2.1
  have o4 : ∀ W, ButFor X (w.heap.size + 1) W → W.cell? ⟨g1, 2, none⟩ = some (str y1) := fun W hW => hW.cell hne2 (cell_of_heap (hwX.heap HH.out))
  have o5 : ∀ W, ButFor X (w.heap.size + 1) W → W.cell? ⟨g1, 3, none⟩ = some (.slice b1 m1 d1) := fun W hW => hW.cell hne2 (cell_of_heap (hwX.heap HH.out))
  have hself := After.refl X
  have hbf : ButFor X (w.heap.size + 1) X.drew := ⟨Nat.le_refl _, fun _ _ _ => rfl⟩
  have hres : ∀ W, After X W → W.cell? ⟨w.heap.size + 1, 0, none⟩ = some (.string ⟨#[]⟩) ∧ W.cell? ⟨w.heap.size + 1, 1, none⟩ = some (.slice none 0 0) ∧ W.frozen? ⟨w.heap.size + 1, 0, none⟩ = false ∧ W.frozen? ⟨w.heap.size + 1, 1, none⟩ = false := fun W hW => by
    have hh := hW.heap hRX
    exact ⟨cell_of_heap hh, cell_of_heap hh, by simp [World.frozen?, hh], by simp [World.frozen?, hh]⟩
  rw [← hX]
  have HUX : Hid (ST X u (.agg #[str s2, .slice ao2 nn2 cc2])) := by
    have := HT2.out.later h2X
    rw [HU.out] at this
    exact this
  have HAX := Lib.hid (HA.out.later hwX)
  have HRES := Lib.hid hres
  have HWX := Lib.hid hwX
  have HRX := Lib.hid hRX
  clear hres hRX hBX hTX hwX hX p0 p1 hz hz2 hw1 hw2 hb12 h2X hb1 hb2
  go_region_held3 (fun W' => ButFor X (w.heap.size + 1) W') (first | assumption | exact hbf | exact After.butFor (by assumption) | exact ButFor.alloc (by assumption) _ | exact ButFor.set (ButFor.set (by assumption) _ _) _ _ | go_keep)
    (first | (go_at_call 28; refine (s_app _ u a s2 y1 ao2 b1 nn2 cc2 m1 d1 _ (0, 0) ?_ ?_ ?_).mono ?_; exact HUX.out.later (hself.alloc _).drew; exact HAX.out.later (hself.alloc _).drew; exact heap_new' _ _; rintro e w3 ⟨t3, ao3, nn3, cc3, rfl, hb3, hs3⟩; have hA3 := After.trans (hself.alloc _).drew hb3; obtain ⟨q0, q1, q2, q3⟩ := HRES.out _ hA3))
  all_goals
    go_wp2_with fail
    refine bodyPost_ret (v := .tuple #[.agg #[str t3, .slice ao3 nn3 cc3], .bool true]) (by simp [results, Try.results82, go_sem, q0, q1]) rfl ⟨t3, ao3, nn3, cc3, by rw [H.out]; rfl, Below.setCell (Below.setCell (HWX.out.trans hA3) (by simp) _) (by simp) _, ?_⟩
    rw [H.out]
    exact hs3.sets2 (hA3.heap HRX.out)

theorem step_arg (w : World) (f a : Tm) (g1 q1 : Nat) (x1 y1 : List UInt8) (a1 b1 : Option Addr) (n1 c1 m1 d1 : Nat) (fr : Nat × Nat) (hh : w.heap[g1]? = some (.cells #[str x1, .slice a1 n1 c1, str y1, .slice b1 m1 d1] 32 fr))
    (hf : ST w f (.agg #[str x1, .slice a1 n1 c1])) (ha : ST w a (.agg #[str y1, .slice b1 m1 d1])) (hg : (f.app a).good = true) (hr : (f.app a).redex = none)
    (ihf : ∀ W, After w W → Calls Try.prog 82 #[.agg #[str x1, .slice a1 n1 c1]] W (SStepPost W f)) (hu : f.step = none) (iha : ∀ W, After w W → Calls Try.prog 82 #[.agg #[str y1, .slice b1 m1 d1]] W (SStepPost W a)) :
    Calls Try.prog 82 #[.agg #[str [], .slice (some ⟨g1, 0, none⟩) 2 q1]] w (SStepPost w (f.app a)) := by
  have hs1 : (f.app a).step.isSome = a.step.isSome := by cases h : a.step <;> simp [Tm.step, hr, hu, h]
  have hs2 : (f.app a).step.getD (f.app a) = f.app (a.step.getD a) := by cases h : a.step <;> simp [Tm.step, hr, hu, h]
  have H1 := Lib.hid hs1
  have H2 := Lib.hid hs2
  have hsome : f.step.isSome = false := by rw [hu]; rfl
  clear hs1 hs2 hu
  have hX : After w ((w.alloc (.cells #[str [], .slice (some ⟨g1, 0, none⟩) 2 q1] 32)).alloc (.cells #[.string ⟨#[]⟩, .slice none 0 0] 32)) := (After.new _ _).alloc _
  have htree : ST w (f.app a) (.agg #[str [], .slice (some ⟨g1, 0, none⟩) 2 q1]) := ⟨g1, q1, fr, _, _, _, _, rfl, hh, hf, ha⟩
  have hcall := s_redex (htree.later hX) hg
  rw [hr] at hcall
  have HX := Lib.hid hX
  have HF := Lib.hid hf
  have HA := Lib.hid ha
  have HH := Lib.hid hh
  have hlt := (Array.getElem?_eq_some_iff.1 hh).1
  clear hr hX htree hf ha
  go_enter Try.func82, Try.ntmps82
  go_wp2_with fail
  refine hcall.mono ?_
  rintro e w1 ⟨s1, ao1, nn1, cc1, rfl, hb1, ht1⟩
  clear ht1 hcall
  obtain ⟨p0, p1, _, _, hz⟩ := box_facts w _ _ _ w1 hb1
  have hz2 : w.heap.size < w1.heap.size := by omega
  have hw1 := HX.out.trans hb1
  have k0 : w1.cell? ⟨g1, 0, none⟩ = some (str x1) := cell_of_heap (hw1.heap hh)
  have k1 : w1.cell? ⟨g1, 1, none⟩ = some (.slice a1 n1 c1) := cell_of_heap (hw1.heap hh)
  have hlt1 : g1 < w1.heap.size := by omega
  clear hh
  go_wp2_with fail
  refine (ihf _ (hw1.alloc _)).mono ?_
  rintro e w2 ⟨s2, ao2, nn2, cc2, rfl, hb2, ht2⟩
  have HT2 := Lib.hid ht2
  have hb12 := (After.alloc hb1 (.cells #[str s1, .slice ao1 nn1 cc1] 32)).trans hb2
  have hw2 := HX.out.trans hb12
  clear ht2 p0 p1 hz2 k0 k1 hlt1 hz
  clear HT2
  obtain ⟨p0, p1, _, _, hz⟩ := box_facts w _ _ _ w2 hb12
  have hz2 : w.heap.size < w2.heap.size := by omega
  have k2 : w2.cell? ⟨g1, 2, none⟩ = some (str y1) := cell_of_heap (hw2.heap HH.out)
  have k3 : w2.cell? ⟨g1, 3, none⟩ = some (.slice b1 m1 d1) := cell_of_heap (hw2.heap HH.out)
  have hlt1 : g1 < w2.heap.size := by omega
  go_wp2_with fail
  refine (iha _ (hw2.alloc _)).mono ?_
  rintro e w3 ⟨s3, ao3, nn3, cc3, rfl, hb3, ht3⟩
  have HT3 := Lib.hid ht3
  have hb13 := (After.alloc hb12 (.cells #[str s2, .slice ao2 nn2 cc2] 32)).trans hb3
  have hw3 := HX.out.trans hb13
  clear ht3 p0 p1 hz2 k2 k3 hlt1 hz
  obtain ⟨p0, p1, _, _, hz⟩ := box_facts w _ _ _ w3 hb13
  have hz2 : w.heap.size < w3.heap.size := by omega
  obtain ⟨gd, hgd⟩ : ∃ b, b = a.step.isSome := ⟨_, rfl⟩
  rw [← hgd]
  have HGD := Lib.hid hgd
  clear hgd
  go_wp2_with fail
  obtain ⟨X, hX⟩ : ∃ X, X = w3.alloc (.cells #[str s3, .slice ao3 nn3 cc3] 32) := ⟨_, rfl⟩
  have h3X : After w3 X := by rw [hX]; exact After.new _ _
  have hwX := hw3.trans h3X
  have hRX := (box_facts2 w _ _ _ X (hb13.trans h3X)).1
  have hBX : X.heap[w3.heap.size]? = some (.cells #[str s3, .slice ao3 nn3 cc3] 32 (0, 0)) := by rw [hX]; exact heap_new' _ _
  have hTX := (box_facts w _ _ _ X (hb13.trans h3X))
  have hne : w3.heap.size ≠ w.heap.size + 1 := by omega
  have hne2 : g1 ≠ w.heap.size + 1 := by omega
  have o1 : ∀ W, ButFor X (w.heap.size + 1) W → W.cell? ⟨w3.heap.size, 0, none⟩ = some (str s3) := fun W hW => hW.cell hne (cell_of_heap hBX)
  have o2 : ∀ W, ButFor X (w.heap.size + 1) W → W.cell? ⟨w3.heap.size, 1, none⟩ = some (.slice ao3 nn3 cc3) := fun W hW => hW.cell hne (cell_of_heap hBX)
  have o3 : ∀ W, ButFor X (w.heap.size + 1) W → W.cell? ⟨w.heap.size, 1, none⟩ = some (.slice (some ⟨g1, 0, none⟩) 2 q1) := fun W hW => hW.cell (by omega) hTX.2.1
  have o4 : ∀ W, ButFor X (w.heap.size + 1) W → W.cell? ⟨g1, 0, none⟩ = some (str x1) := fun W hW => hW.cell hne2 (cell_of_heap (hwX.heap HH.out))
  have o5 : ∀ W, ButFor X (w.heap.size + 1) W → W.cell? ⟨g1, 1, none⟩ = some (.slice a1 n1 c1) := fun W hW => hW.cell hne2 (cell_of_heap (hwX.heap HH.out))
  have hself := After.refl X
  have hbf : ButFor X (w.heap.size + 1) X.drew := ⟨Nat.le_refl _, fun _ _ _ => rfl⟩
  have hres : ∀ W, After X W → W.cell? ⟨w.heap.size + 1, 0, none⟩ = some (.string ⟨#[]⟩) ∧ W.cell? ⟨w.heap.size + 1, 1, none⟩ = some (.slice none 0 0) ∧ W.frozen? ⟨w.heap.size + 1, 0, none⟩ = false ∧ W.frozen? ⟨w.heap.size + 1, 1, none⟩ = false := fun W hW => by
    have hh := hW.heap hRX
    exact ⟨cell_of_heap hh, cell_of_heap hh, by simp [World.frozen?, hh], by simp [World.frozen?, hh]⟩
  rw [← hX]
  have HUX := Lib.hid (HT3.out.later h3X)
  have HFX := Lib.hid (HF.out.later hwX)
  have HRES := Lib.hid hres
  have HWX := Lib.hid hwX
  have HRX := Lib.hid hRX
  clear hres hRX hBX hTX hwX hX p0 p1 hz hz2 hw1 hw2 hw3 hb12 hb13 h3X hb1 hb2 hb3
  go_region_held3 (fun W' => ButFor X (w.heap.size + 1) W') (first | assumption | exact hbf | exact After.butFor (by assumption) | exact ButFor.alloc (by assumption) _ | exact ButFor.set (ButFor.set (by assumption) _ _) _ _ | go_keep)
    (first | (go_at_call 28; refine (s_app _ f (a.step.getD a) x1 s3 a1 ao3 n1 c1 nn3 cc3 _ (0, 0) ?_ ?_ ?_).mono ?_; exact HFX.out.later (hself.alloc _).drew; exact HUX.out.later (hself.alloc _).drew; exact heap_new' _ _; rintro e w4 ⟨t4, ao4, nn4, cc4, rfl, hb4, hs4⟩; have hA4 := After.trans (hself.alloc _).drew hb4; obtain ⟨q0, q1, q2, q3⟩ := HRES.out _ hA4))
  all_goals
    go_wp2_with fail
    refine bodyPost_ret (v := .tuple #[.agg #[str t4, .slice ao4 nn4 cc4], .bool gd]) (by simp [results, Try.results82, go_sem, q0, q1]) rfl ⟨t4, ao4, nn4, cc4, by rw [H1.out, HGD.out], Below.setCell (Below.setCell (HWX.out.trans hA4) (by simp) _) (by simp) _, ?_⟩
    rw [H2.out]
    exact hs4.sets2 (hA4.heap HRX.out)

theorem s_step {t : Tm} : ∀ {w : World} {v : Value}, ST w t v → t.good = true → Calls Try.prog 82 #[v] w (SStepPost w t) := by
  induction t with
  | k => intro w v h hg; obtain ⟨x, ao, n, c, rfl⟩ := h.form; exact step_atom w _ x ao n c h hg rfl
  | s => intro w v h hg; obtain ⟨x, ao, n, c, rfl⟩ := h.form; exact step_atom w _ x ao n c h hg rfl
  | nm m => intro w v h hg; obtain ⟨x, ao, n, c, rfl⟩ := h.form; exact step_atom w _ x ao n c h hg rfl
  | app f a ihf iha =>
    intro w v h hg
    cases hr : (f.app a).redex with
    | some u =>
      obtain ⟨x, ao, n, c, rfl⟩ := h.form
      exact step_redex w _ u x ao n c h hg hr (by simp [Tm.step, hr])
    | none =>
      obtain ⟨g1, q1, fr, s0, p0, s1, p1, rfl, hh, hf, ha⟩ := h
      obtain ⟨x1, a1, n1, c1, rfl, rfl⟩ := parts_form hf
      obtain ⟨y1, b1, m1, d1, rfl, rfl⟩ := parts_form ha
      have hg' := hg
      simp only [Tm.good, Bool.and_eq_true] at hg'
      cases hfs : f.step with
      | some u => exact step_fun w f a g1 q1 x1 y1 a1 b1 n1 c1 m1 d1 fr hh hf ha hg hr (fun W hW => ihf (hf.later hW) hg'.1) u hfs
      | none => exact step_arg w f a g1 q1 x1 y1 a1 b1 n1 c1 m1 d1 fr hh hf ha hg hr (fun W hW => ihf (hf.later hW) hg'.1) hfs (fun W hW => iha (ha.later hW) hg'.2)
end Go.Proofs.Ytfpekihdoclncaa
