/-
  The model's application of a tree to one tree; its redexes and steps.
-/
import Derived.Test.YtjgemiojjhfnoacSReadB
import Derived.Test.YtjgemiojjhfnoacStep
namespace Go.Proofs.Ytjgemiojjhfnoac
open Go.RowKit

set_option maxHeartbeats 4000000
set_option maxRecDepth 100000

def TreePost (w : World) (t : Tm) (e : Ending) (w' : World) : Prop :=
  ∃ s ao n c, e = .returned (.agg #[str s, .slice ao n c]) ∧ After w w' ∧ ST w' t (.agg #[str s, .slice ao n c])

theorem s_app (w : World) (f a : Tm) (s1 s2 : List UInt8) (a1 a2 : Option Addr) (n1 c1 n2 c2 g : Nat) (fr : Nat × Nat) (hf : ST w f (.agg #[str s1, .slice a1 n1 c1])) (ha : ST w a (.agg #[str s2, .slice a2 n2 c2]))
    (hg : w.heap[g]? = some (.cells #[str s2, .slice a2 n2 c2] 41 fr)) :
    Calls Try.prog 39 #[.agg #[str s1, .slice a1 n1 c1], .slice (some ⟨g, 0, none⟩) 1 1] w (TreePost w (f.app a)) := by
  have k0 : w.cell? ⟨g, 0, none⟩ = some (str s2) := cell_of_heap hg
  have k1 : w.cell? ⟨g, 1, none⟩ = some (.slice a2 n2 c2) := cell_of_heap hg
  have hlt := (Array.getElem?_eq_some_iff.1 hg).1
  have HF := Lib.hid hf
  have HA := Lib.hid ha
  clear hf ha hg
  go_enter Try.func39, Try.ntmps39
  go_wp2_with fail
  refine wp_loop_rounds 2 ?_
  rw [rounds_succ]
  go_wp2_with fail
  go_region
  go_wp2_with fail
  rw [rounds_succ]
  go_wp2_with fail
  have hx := ((After.new w (.cells #[.string ⟨#[]⟩, .slice (some ⟨w.heap.size + 1 + 1, 0, none⟩) 2 2] 41)).alloc (.cells #[.string ⟨#[]⟩, .slice (some ⟨w.heap.size + 1 + 1, 0, none⟩) 2 2] 41)).alloc (.cells #[str s1, .slice a1 n1 c1, str s2, .slice a2 n2 c2] 41)
  refine bodyPost_ret (v := .agg #[.string ⟨#[]⟩, .slice (some ⟨w.heap.size + 1 + 1, 0, none⟩) 2 2]) (by simp [results, Try.results39, go_sem]) rfl ⟨[], some ⟨w.heap.size + 1 + 1, 0, none⟩, 2, 2, rfl, hx.drew, ?_⟩
  exact ⟨w.heap.size + 1 + 1, 2, (0, 0), _, _, _, _, rfl, heap_new2 _ _ _ _ (by simp), HF.out.later hx.drew, HA.out.later hx.drew⟩

def RedexPost (w : World) (r : Option Tm) (e : Ending) (w' : World) : Prop :=
  ∃ s ao n c, e = .returned (.tuple #[.agg #[str s, .slice ao n c], .bool r.isSome]) ∧ After w w' ∧ ∀ u, r = some u → ST w' u (.agg #[str s, .slice ao n c])

theorem RedexPost.no {w w' : World} (hb : After w w') (s : List UInt8) (ao : Option Addr) (n c : Nat) : RedexPost w none (.returned (.tuple #[.agg #[str s, .slice ao n c], .bool false])) w' :=
  ⟨s, ao, n, c, rfl, hb, fun u hu => by simp at hu⟩

/-- W is X but for new blocks and block r. -/
def ButFor (X : World) (r : Nat) (W : World) : Prop := X.heap.size ≤ W.heap.size ∧ ∀ k, k < X.heap.size → k ≠ r → W.heap[k]? = X.heap[k]?

theorem ButFor.cell {X W : World} {r b i : Nat} {v : Value} (h : ButFor X r W) (hr : b ≠ r) (hc : X.cell? ⟨b, i, none⟩ = some v) : W.cell? ⟨b, i, none⟩ = some v := by
  rw [World.cell?_of_block (w := X) (a := ⟨b, i, none⟩) (h.2 b (World.block_lt_of_cell? _ _ hc) hr)]; exact hc
theorem ButFor.alloc {X W : World} {r : Nat} (h : ButFor X r W) (o : Obj) : ButFor X r (W.alloc o) := ⟨by simp; have := h.1; omega, fun k hk hr => by rw [Below.heap_alloc _ _ _ (Nat.lt_of_lt_of_le hk h.1)]; exact h.2 k hk hr⟩
theorem ButFor.after {X W W' : World} {r : Nat} (h : ButFor X r W) (g : After W W') : ButFor X r W' := ⟨Nat.le_trans h.1 g.size, fun k hk hr => by rw [g.block k (Nat.lt_of_lt_of_le hk h.1)]; exact h.2 k hk hr⟩
theorem ButFor.set {X W : World} {r : Nat} (h : ButFor X r W) (i : Nat) (v : Value) : ButFor X r (W.setCell ⟨r, i, none⟩ v) := ⟨by simp [World.setCell]; exact h.1, fun k hk hr => by rw [Below.heap_setCell _ _ _ _ (by simpa using hr)]; exact h.2 k hk hr⟩

theorem After.butFor {X W : World} {r : Nat} (h : After X W) : ButFor X r W := ⟨h.size, fun k hk _ => h.block k hk⟩
theorem ST.sets2 {W : World} {b : Nat} {x y u u' : Value} {T : TypeId} {fr : Nat × Nat} {t : Tm} {v : Value} (h : ST W t v) (hh : W.heap[b]? = some (.cells #[x, y] T fr)) {i j : Nat} : ST ((W.setCell ⟨b, i, none⟩ u).setCell ⟨b, j, none⟩ u') t v := by
  refine h.kept fun g cs T' fr' hs hg => ?_
  have hne : g ≠ b := by
    rintro rfl
    rw [hh] at hg
    injection hg with hg
    injection hg with hg _ _
    subst hg
    simp at hs
  rw [Below.heap_setCell _ _ _ _ hne, Below.heap_setCell _ _ _ _ hne]
  exact hg

theorem heap_old2 (W : World) (o p : Obj) : ((W.alloc o).alloc p).heap[W.heap.size]? = some o := by
  rw [Below.heap_alloc _ _ _ (by simp)]; exact heap_new' W o

theorem heap_new3 (w : World) (a b c : Obj) : (((w.alloc a).alloc b).alloc c).heap[w.heap.size + 1 + 1]? = some c := heap_new2 (w.alloc a) (w.heap.size + 1) b c (by simp)
theorem heap_new4 (w : World) (a b c d : Obj) : ((((w.alloc a).alloc b).alloc c).alloc d).heap[w.heap.size + 1 + 1 + 1]? = some d := heap_new2 ((w.alloc a).alloc b) (w.heap.size + 1 + 1) c d (by simp)

theorem redex_atom (w : World) (x : List UInt8) (ao : Option Addr) (n c : Nat) (hx : x ≠ []) : Calls Try.prog 87 #[.agg #[str x, .slice ao n c]] w (RedexPost w none) := by
  have he : x.isEmpty = false := by cases x with | nil => exact absurd rfl hx | cons => rfl
  clear hx
  go_enter Try.func87, Try.ntmps87
  go_wp2_with fail
  exact bodyPost_ret (v := .tuple #[.agg #[str x, .slice ao n c], .bool false]) (by simp [results, Try.results87, go_sem]) rfl (RedexPost.no ((After.new _ _).alloc _) _ _ _ _)

theorem redex_atom2 (w : World) (g1 q1 : Nat) (x1 : List UInt8) (k0 : w.cell? ⟨g1, 0, none⟩ = some (str x1)) (hlt : g1 < w.heap.size) (hx : x1 ≠ []) : Calls Try.prog 87 #[.agg #[str [], .slice (some ⟨g1, 0, none⟩) 2 q1]] w (RedexPost w none) := by
  have he : x1.isEmpty = false := by cases x1 with | nil => exact absurd rfl hx | cons => rfl
  clear hx
  go_enter Try.func87, Try.ntmps87
  go_wp2_with fail
  exact bodyPost_ret (v := .tuple #[.agg #[str [], .slice (some ⟨g1, 0, none⟩) 2 q1], .bool false]) (by simp [results, Try.results87, go_sem]) rfl (RedexPost.no ((After.new _ _).alloc _) _ _ _ _)

section
variable (w : World) (g1 q1 g2 q2 : Nat) (y1 x2 y2 : List UInt8) (b1 a2 b2 : Option Addr) (m1 d1 n2 m2 c2 d2 : Nat)
  (k0 : w.cell? ⟨g1, 0, none⟩ = some (str [])) (k1 : w.cell? ⟨g1, 1, none⟩ = some (.slice (some ⟨g2, 0, none⟩) 2 q2)) (k2 : w.cell? ⟨g1, 2, none⟩ = some (str y1)) (k3 : w.cell? ⟨g1, 3, none⟩ = some (.slice b1 m1 d1)) (hlt : g1 < w.heap.size)
  (j0 : w.cell? ⟨g2, 0, none⟩ = some (str x2)) (j1 : w.cell? ⟨g2, 1, none⟩ = some (.slice a2 n2 c2)) (j2 : w.cell? ⟨g2, 2, none⟩ = some (str y2)) (j3 : w.cell? ⟨g2, 3, none⟩ = some (.slice b2 m2 d2)) (hlt2 : g2 < w.heap.size)
include k0 k1 k2 k3 hlt j0 j1 j2 j3 hlt2
theorem redex_k (hx : x2 = [107]) (m : Tm) (hm : ST w m (.agg #[str y2, .slice b2 m2 d2])) : Calls Try.prog 87 #[.agg #[str [], .slice (some ⟨g1, 0, none⟩) 2 q1]] w (RedexPost w (some m)) := by
  have _u := And.intro k2 (And.intro k3 j1)
  clear _u
  subst hx
  have u1 : g1 < w.heap.size + 1 := by omega
  have u2 : g1 < w.heap.size + 1 + 1 := by omega
  have u3 : g2 < w.heap.size + 1 := by omega
  have u4 : g2 < w.heap.size + 1 + 1 := by omega
  have HM := Lib.hid hm
  clear hm
  go_enter Try.func87, Try.ntmps87
  go_wp2_with fail
  have hb : After w (((w.alloc (.cells #[str [], .slice (some ⟨g1, 0, none⟩) 2 q1] 41)).alloc (.cells #[str y2, .slice b2 m2 d2] 41)).alloc (.cells #[str [], .slice (some ⟨g2, 0, none⟩) 2 q2] 41)) := ((After.new _ _).alloc _).alloc _
  exact bodyPost_ret (v := .tuple #[.agg #[str y2, .slice b2 m2 d2], .bool true]) (by simp [results, Try.results87, go_sem]) rfl ⟨_, _, _, _, rfl, hb, fun u hu => by obtain rfl := Option.some.inj hu; exact HM.out.later hb⟩

theorem redex_atom3 (hx : x2 ≠ []) (hk : x2 ≠ [107]) : Calls Try.prog 87 #[.agg #[str [], .slice (some ⟨g1, 0, none⟩) 2 q1]] w (RedexPost w none) := by
  have _u := And.intro k2 (And.intro k3 (And.intro j1 (And.intro j2 j3)))
  clear _u
  have u1 : g1 < w.heap.size + 1 := by omega
  have u2 : g1 < w.heap.size + 1 + 1 := by omega
  have u3 : g2 < w.heap.size + 1 := by omega
  have u4 : g2 < w.heap.size + 1 + 1 := by omega
  have he : x2.isEmpty = false := by cases x2 with | nil => exact absurd rfl hx | cons => rfl
  have hk' : (x2 == [107]) = false := beq_eq_false_iff_ne.2 hk
  clear hx hk
  go_enter Try.func87, Try.ntmps87
  go_wp2_with fail
  exact bodyPost_ret (v := .tuple #[.agg #[str [], .slice (some ⟨g1, 0, none⟩) 2 q1], .bool false]) (by simp [results, Try.results87, go_sem]) rfl (RedexPost.no (((After.new _ _).alloc _).alloc _) _ _ _ _)
end

section
variable (w : World) (g1 q1 g2 q2 g3 q3 : Nat) (y1 y2 x3 y3 : List UInt8) (b1 b2 a3 b3 : Option Addr) (m1 d1 m2 d2 n3 c3 m3 d3 : Nat)
  (k0 : w.cell? ⟨g1, 0, none⟩ = some (str [])) (k1 : w.cell? ⟨g1, 1, none⟩ = some (.slice (some ⟨g2, 0, none⟩) 2 q2)) (k2 : w.cell? ⟨g1, 2, none⟩ = some (str y1)) (k3 : w.cell? ⟨g1, 3, none⟩ = some (.slice b1 m1 d1)) (hlt : g1 < w.heap.size)
  (j0 : w.cell? ⟨g2, 0, none⟩ = some (str [])) (j1 : w.cell? ⟨g2, 1, none⟩ = some (.slice (some ⟨g3, 0, none⟩) 2 q3)) (j2 : w.cell? ⟨g2, 2, none⟩ = some (str y2)) (j3 : w.cell? ⟨g2, 3, none⟩ = some (.slice b2 m2 d2)) (hlt2 : g2 < w.heap.size)
  (i0 : w.cell? ⟨g3, 0, none⟩ = some (str x3)) (i1 : w.cell? ⟨g3, 1, none⟩ = some (.slice a3 n3 c3)) (i2 : w.cell? ⟨g3, 2, none⟩ = some (str y3)) (i3 : w.cell? ⟨g3, 3, none⟩ = some (.slice b3 m3 d3)) (hlt3 : g3 < w.heap.size)
include k0 k1 k2 k3 hlt j0 j1 j2 j3 hlt2 i0 i1 i2 i3 hlt3
theorem redex_deep (hx : x3 ≠ [115]) : Calls Try.prog 87 #[.agg #[str [], .slice (some ⟨g1, 0, none⟩) 2 q1]] w (RedexPost w none) := by
  have _u := And.intro k2 (And.intro k3 (And.intro j2 (And.intro j3 (And.intro i1 (And.intro i2 i3)))))
  clear _u
  have u1 : g1 < w.heap.size + 1 := by omega
  have u2 : g1 < w.heap.size + 1 + 1 := by omega
  have u3 : g2 < w.heap.size + 1 := by omega
  have u4 : g2 < w.heap.size + 1 + 1 := by omega
  have u5 : g3 < w.heap.size + 1 := by omega
  have u6 : g3 < w.heap.size + 1 + 1 := by omega
  have hk' : (x3 == [115]) = false := beq_eq_false_iff_ne.2 hx
  clear hx
  go_enter Try.func87, Try.ntmps87
  go_wp2_with fail
  exact bodyPost_ret (v := .tuple #[.agg #[str [], .slice (some ⟨g1, 0, none⟩) 2 q1], .bool false]) (by simp [results, Try.results87, go_sem]) rfl (RedexPost.no (((After.new _ _).alloc _).alloc _) _ _ _ _)

theorem redex_s (hx : x3 = [115]) (m n p : Tm) (hm : ST w m (.agg #[str y3, .slice b3 m3 d3])) (hn : ST w n (.agg #[str y2, .slice b2 m2 d2])) (hp : ST w p (.agg #[str y1, .slice b1 m1 d1])) :
    Calls Try.prog 87 #[.agg #[str [], .slice (some ⟨g1, 0, none⟩) 2 q1]] w (RedexPost w (some ((m.app p).app (n.app p)))) := by
  have _u := And.intro k2 i1
  clear _u
  subst hx
  have u1 : g1 < w.heap.size + 1 := by omega
  have u2 : g1 < w.heap.size + 1 + 1 := by omega
  have u3 : g2 < w.heap.size + 1 := by omega
  have u4 : g2 < w.heap.size + 1 + 1 := by omega
  have u5 : g3 < w.heap.size + 1 := by omega
  have u6 : g3 < w.heap.size + 1 + 1 := by omega
  have v1 : g1 < w.heap.size + 1 + 1 + 1 := by omega
  have v2 : g2 < w.heap.size + 1 + 1 + 1 := by omega
  have v3 : g3 < w.heap.size + 1 + 1 + 1 := by omega
  have HM := Lib.hid hm
  have HN := Lib.hid hn
  have HP := Lib.hid hp
  clear hm hn hp
  go_enter Try.func87, Try.ntmps87
  go_wp2_with fail
  obtain ⟨X, hX⟩ : ∃ X, X = ((((w.alloc (.cells #[str [], .slice (some ⟨g1, 0, none⟩) 2 q1] 41)).alloc (.cells #[.string ⟨#[]⟩, .slice none 0 0] 41)).alloc (.cells #[str [], .slice (some ⟨g2, 0, none⟩) 2 q2] 41)).alloc (.cells #[str y1, .slice b1 m1 d1] 41)) := ⟨_, rfl⟩
  have hwX : After w X := by rw [hX]; exact (((After.new _ _).alloc _).alloc _).alloc _
  have hF : X.heap[w.heap.size + 1 + 1]? = some (.cells #[str [], .slice (some ⟨g2, 0, none⟩) 2 q2] 41 (0, 0)) := by
    rw [hX, Below.heap_alloc _ _ _ (by simp)]; exact heap_new3 _ _ _ _
  have hP : X.heap[w.heap.size + 1 + 1 + 1]? = some (.cells #[str y1, .slice b1 m1 d1] 41 (0, 0)) := by
    rw [hX]; exact heap_new4 _ _ _ _ _
  have hR : X.heap[w.heap.size + 1]? = some (.cells #[.string ⟨#[]⟩, .slice none 0 0] 41 (0, 0)) := by
    rw [hX, Below.heap_alloc _ _ _ (by simp), Below.heap_alloc _ _ _ (by simp)]; exact heap_new2 _ _ _ _ rfl
  have hsz : X.heap.size = w.heap.size + 1 + 1 + 1 + 1 := by rw [hX]; simp
  have o1 : ∀ W, ButFor X (w.heap.size + 1) W → W.cell? ⟨w.heap.size + 1 + 1, 1, none⟩ = some (.slice (some ⟨g2, 0, none⟩) 2 q2) := fun W hW => hW.cell (by omega) (cell_of_heap hF)
  have o2 : ∀ W, ButFor X (w.heap.size + 1) W → W.cell? ⟨w.heap.size + 1 + 1 + 1, 0, none⟩ = some (str y1) := fun W hW => hW.cell (by omega) (cell_of_heap hP)
  have o3 : ∀ W, ButFor X (w.heap.size + 1) W → W.cell? ⟨w.heap.size + 1 + 1 + 1, 1, none⟩ = some (.slice b1 m1 d1) := fun W hW => hW.cell (by omega) (cell_of_heap hP)
  have o4 : ∀ W, ButFor X (w.heap.size + 1) W → W.cell? ⟨g2, 1, none⟩ = some (.slice (some ⟨g3, 0, none⟩) 2 q3) := fun W hW => hW.cell (by omega) (hwX.cell j1)
  have o5 : ∀ W, ButFor X (w.heap.size + 1) W → W.cell? ⟨g2, 2, none⟩ = some (str y2) := fun W hW => hW.cell (by omega) (hwX.cell j2)
  have o6 : ∀ W, ButFor X (w.heap.size + 1) W → W.cell? ⟨g2, 3, none⟩ = some (.slice b2 m2 d2) := fun W hW => hW.cell (by omega) (hwX.cell j3)
  have o7 : ∀ W, ButFor X (w.heap.size + 1) W → W.cell? ⟨g3, 2, none⟩ = some (str y3) := fun W hW => hW.cell (by omega) (hwX.cell i2)
  have o8 : ∀ W, ButFor X (w.heap.size + 1) W → W.cell? ⟨g3, 3, none⟩ = some (.slice b3 m3 d3) := fun W hW => hW.cell (by omega) (hwX.cell i3)
  have hself := After.refl X
  have hbf : ButFor X (w.heap.size + 1) X.drew := ⟨Nat.le_refl _, fun _ _ _ => rfl⟩
  have hres : ∀ W, After X W → W.cell? ⟨w.heap.size + 1, 0, none⟩ = some (.string ⟨#[]⟩) ∧ W.cell? ⟨w.heap.size + 1, 1, none⟩ = some (.slice none 0 0) ∧ W.frozen? ⟨w.heap.size + 1, 0, none⟩ = false ∧ W.frozen? ⟨w.heap.size + 1, 1, none⟩ = false := fun W hW => by
    have hh := hW.heap hR
    exact ⟨cell_of_heap hh, cell_of_heap hh, by simp [World.frozen?, hh], by simp [World.frozen?, hh]⟩
  rw [← hX]
  have HMX := Lib.hid (HM.out.later hwX)
  have HNX := Lib.hid (HN.out.later hwX)
  have HPX := Lib.hid (HP.out.later hwX)
  have HRES := Lib.hid hres
  have HWX := Lib.hid hwX
  clear hres HM HN HP k0 k1 k2 k3 j0 j1 j2 j3 i0 i1 i2 i3 hF hP hwX u1 u2 u3 u4 u5 u6 v1 v2 v3
  have HR := Lib.hid hR
  have HSZ := Lib.hid hsz
  clear hR hsz hX
  go_region_held3 (fun W' => ButFor X (w.heap.size + 1) W') (first | assumption | exact hbf | exact After.butFor (by assumption) | exact ButFor.alloc (by assumption) _ | exact ButFor.set (ButFor.set (by assumption) _ _) _ _ | go_keep)
    (first
      | (go_at_call_of 39 b3; refine (s_app _ m p y3 y1 b3 b1 m3 d3 m1 d1 _ (0, 0) ?_ ?_ ?_).mono ?_; exact HMX.out.later ((hself.alloc _).drew); exact HPX.out.later ((hself.alloc _).drew); exact heap_new' _ _; rintro e w1 ⟨t1, ao1, nn1, cc1, rfl, hb1, hs1⟩; have hA1 := After.trans ((hself.alloc _).drew) hb1)
      | (go_at_call_of 39 b3; refine (s_app _ m p y3 y1 b3 b1 m3 d3 m1 d1 _ (0, 0) ?_ ?_ ?_).mono ?_; exact HMX.out.later (((hself.alloc _).alloc _).drew); exact HPX.out.later (((hself.alloc _).alloc _).drew); exact heap_new2 _ _ _ _ rfl; rintro e w1 ⟨t1, ao1, nn1, cc1, rfl, hb1, hs1⟩; have hA1 := After.trans (((hself.alloc _).alloc _).drew) hb1)
      | (go_at_call_of 39 b3; refine (s_app _ m p y3 y1 b3 b1 m3 d3 m1 d1 _ (0, 0) ?_ ?_ ?_).mono ?_; exact HMX.out.later (((hself.alloc _).alloc _).drew); exact HPX.out.later (((hself.alloc _).alloc _).drew); exact heap_old2 _ _ _; rintro e w1 ⟨t1, ao1, nn1, cc1, rfl, hb1, hs1⟩; have hA1 := After.trans (((hself.alloc _).alloc _).drew) hb1)
      | (go_at_call_of 39 b2; refine (s_app _ n p y2 y1 b2 b1 m2 d2 m1 d1 _ (0, 0) ?_ ?_ ?_).mono ?_; exact HNX.out.later (hA1.alloc _); exact HPX.out.later (hA1.alloc _); exact heap_new' _ _; rintro e w2 ⟨t2, ao2, nn2, cc2, rfl, hb2, hs2⟩; have hA2 := After.trans (hA1.alloc _) hb2; have hs1' := hs1.later (After.trans (After.new _ _) hb2))
      | (go_at_call_of 39 b2; refine (s_app _ n p y2 y1 b2 b1 m2 d2 m1 d1 _ (0, 0) ?_ ?_ ?_).mono ?_; exact HNX.out.later (hA1); exact HPX.out.later (hA1); exact hb1.heap (heap_new2 _ _ _ _ rfl); rintro e w2 ⟨t2, ao2, nn2, cc2, rfl, hb2, hs2⟩; have hA2 := After.trans (hA1) hb2; have hs1' := hs1.later (After.trans (After.refl _) hb2))
      | (go_at_call_of 39 b2; refine (s_app _ n p y2 y1 b2 b1 m2 d2 m1 d1 _ (0, 0) ?_ ?_ ?_).mono ?_; exact HNX.out.later (hA1); exact HPX.out.later (hA1); exact hb1.heap (heap_old2 _ _ _); rintro e w2 ⟨t2, ao2, nn2, cc2, rfl, hb2, hs2⟩; have hA2 := After.trans (hA1) hb2; have hs1' := hs1.later (After.trans (After.refl _) hb2))
      | (go_at_call_of 39 ao1; refine (s_app _ (m.app p) (n.app p) t1 t2 ao1 ao2 nn1 cc1 nn2 cc2 _ (0, 0) ?_ ?_ ?_).mono ?_; exact hs1'.later (After.new _ _); exact hs2.later (After.new _ _); exact heap_new' _ _; rintro e w3 ⟨t3, ao3, nn3, cc3, rfl, hb3, hs3⟩; have hA3 := After.trans (hA2.alloc _) hb3; obtain ⟨p0, p1, p2, p3⟩ := HRES.out _ hA3))
  all_goals
    go_wp2_with fail
    refine bodyPost_ret (v := .tuple #[.agg #[str t3, .slice ao3 nn3 cc3], .bool true]) (by simp [results, Try.results87, go_sem, p0, p1]) rfl ⟨t3, ao3, nn3, cc3, rfl, Below.setCell (Below.setCell (HWX.out.trans hA3) (by simp) _) (by simp) _, fun u hu => ?_⟩
    obtain rfl := Option.some.inj hu
    exact hs3.sets2 (hA3.heap HR.out)
end
end Go.Proofs.Ytjgemiojjhfnoac
