/-
  The model's uses of a name and its puts.
-/
import Derived.Test.YtipmgfbncfkmiaaPkB
namespace Go.Proofs.Ytipmgfbncfkmiaa
open Go.RowKit

set_option maxHeartbeats 2000000
set_option maxRecDepth 100000

theorem uses_atom (w : World) (s name : List UInt8) (v : Value) (hs : s ≠ []) (b : Bool) (hb : (s == name) = b) :
    Calls Try.prog 76 #[.agg #[str s, v], str name] w fun e w' => e = .returned (.int .i64 (if b then 1 else 0)) ∧ After w w' := by
  have he : s.isEmpty = false := by cases s with | nil => exact absurd rfl hs | cons => rfl
  clear hs
  cases b
  all_goals
    try simp only [beq_iff_eq] at hb
    try subst hb
    go_enter Try.func76, Try.ntmps76
    go_wp2_with fail
    go_ret
    exact ⟨rfl, After.new _ _⟩

theorem uses_app (w : World) (name : List UInt8) (g cap : Nat) (fr : Nat × Nat) (s0 s1 : List UInt8) (a0 a1 : Option Addr) (n0 c0 n1 c1 : Nat) (f a : Tm) (hh : w.heap[g]? = some (.cells #[str s0, .slice a0 n0 c0, str s1, .slice a1 n1 c1] 74 fr))
    (hf : ∀ W, After w W → Calls Try.prog 76 #[.agg #[str s0, .slice a0 n0 c0], str name] W fun e w' => e = .returned (.int .i64 (f.uses name : Nat)) ∧ After W w')
    (ha : ∀ W, After w W → Calls Try.prog 76 #[.agg #[str s1, .slice a1 n1 c1], str name] W fun e w' => e = .returned (.int .i64 (a.uses name : Nat)) ∧ After W w') (hz : f.uses name + a.uses name ≤ 1000000000000) :
    Calls Try.prog 76 #[.agg #[str [], .slice (some ⟨g, 0, none⟩) 2 cap], str name] w fun e w' => e = .returned (.int .i64 ((f.app a).uses name : Nat)) ∧ After w w' := by
  obtain ⟨hnew, hself, b0, b1, g0, g1, g2, g3⟩ := kid_facts w g cap fr s0 s1 a0 a1 n0 c0 n1 c1 hh
  have hw : IntKind.i64.wrap ((f.uses name : Int) + (a.uses name : Int)) = (((f.app a).uses name : Nat) : Int) := by rw [IntWalk.i64_in _ (by omega)]; simp [Tm.uses]
  have HW := Lib.hid hw
  clear hw
  go_enter Try.func76, Try.ntmps76
  go_wp2_with fail
  go_region_held3 (fun W' => After (w.alloc (.cells #[str [], .slice (some ⟨g, 0, none⟩) 2 cap] 74)) W') (first | assumption | exact hself.drew | go_keep)
    (first
      | (go_at_call_of 76 a0; refine (hf _ (hnew.trans (by assumption))).mono ?_; rintro e w1 ⟨rfl, hb1⟩; have hb1' := After.trans (by assumption) hb1)
      | (go_at_call_of 76 a1; refine (ha _ (hnew.trans (by assumption))).mono ?_; rintro e w2 ⟨rfl, hb2⟩; have hb2' := After.trans (by assumption) hb2))
  go_wp2_with fail
  go_ret
  exact ⟨by rw [← HW.out]; rfl, hnew.trans hb2'⟩

theorem atom_ne {x name : List UInt8} (hx : Tm.nameOk name = true) (h : Tm.nameOk x = false) : (x == name) = false := by
  rw [beq_eq_false_iff_ne]; rintro rfl; rw [hx] at h; exact absurd h (by decide)

theorem ST.uses {t : Tm} (name : List UInt8) (hn : Tm.nameOk name = true) : ∀ {w : World} {v : Value}, ST w t v → t.good = true → t.size ≤ 1000000000 → Calls Try.prog 76 #[v, str name] w fun e w' => e = .returned (.int .i64 (t.uses name : Nat)) ∧ After w w' := by
  induction t with
  | k => intro w v h _ _; simp only [ST] at h; subst h; exact uses_atom w _ name _ (by simp [Tm.text]) false (atom_ne hn (by simp only [Tm.text]; decide))
  | s => intro w v h _ _; simp only [ST] at h; subst h; exact uses_atom w _ name _ (by simp [Tm.text]) false (atom_ne hn (by simp only [Tm.text]; decide))
  | nm n =>
    intro w v h hg _; simp only [ST] at h; subst h
    refine (uses_atom w _ name _ (Tm.text_ne _ hg) _ rfl).mono ?_
    rintro e w' ⟨rfl, hb⟩
    refine ⟨?_, hb⟩
    by_cases hx : n = name <;> simp [Tm.text, Tm.uses, hx]
  | app f a ihf iha =>
    intro w v h hg hz
    obtain ⟨g, cap, fr, s0, p0, s1, p1, rfl, hh, hf, ha⟩ := h
    simp only [Tm.good, Bool.and_eq_true] at hg
    simp only [Tm.size] at hz
    obtain ⟨x0, a0, n0, c0, rfl, rfl⟩ := parts_form hf
    obtain ⟨x1, a1, n1, c1, rfl, rfl⟩ := parts_form ha
    have h1 := Tm.uses_le name f
    have h2 := Tm.uses_le name a
    exact uses_app w name g cap fr x0 x1 a0 a1 n0 c0 n1 c1 f a hh (fun W hW => ihf (hf.later hW) hg.1 (by omega)) (fun W hW => iha (ha.later hW) hg.2 (by omega)) (by omega)

theorem put_eq (w : World) (name y : List UInt8) (ao bo : Option Addr) (n c m d : Nat) :
    Calls Try.prog 77 #[.agg #[str name, .slice ao n c], str name, .agg #[str y, .slice bo m d]] w fun e w' => e = .returned (.agg #[str y, .slice bo m d]) ∧ After w w' := by
  have hb : After w (((w.alloc (.cells #[str name, .slice ao n c] 74)).alloc (.cells #[str y, .slice bo m d] 74)).alloc (.cells #[str y, .slice bo m d] 74)) := ((After.new _ _).alloc _).alloc _
  go_enter Try.func77, Try.ntmps77
  go_wp2_with fail
  refine bodyPost_ret (v := .agg #[str y, .slice bo m d]) (by simp [results, Try.results77, go_sem]) rfl ⟨rfl, ?_⟩
  exact hb

theorem put_ne (w : World) (name x y : List UInt8) (ao bo : Option Addr) (n c m d : Nat) (hx : x ≠ []) (hne : (x == name) = false) :
    Calls Try.prog 77 #[.agg #[str x, .slice ao n c], str name, .agg #[str y, .slice bo m d]] w fun e w' => e = .returned (.agg #[str x, .slice ao n c]) ∧ After w w' := by
  have he : x.isEmpty = false := by cases x with | nil => exact absurd rfl hx | cons => rfl
  clear hx
  have hb : After w (((w.alloc (.cells #[str x, .slice ao n c] 74)).alloc (.cells #[str y, .slice bo m d] 74)).alloc (.cells #[str x, .slice ao n c] 74)) := ((After.new _ _).alloc _).alloc _
  go_enter Try.func77, Try.ntmps77
  go_wp2_with fail
  refine bodyPost_ret (v := .agg #[str x, .slice ao n c]) (by simp [results, Try.results77, go_sem]) rfl ⟨rfl, ?_⟩
  exact hb

theorem put_app (w : World) (f a u : Tm) (name y : List UInt8) (bo : Option Addr) (m d : Nat) (g1 q1 : Nat) (x1 y1 : List UInt8) (a1 b1 : Option Addr) (n1 c1 m1 d1 : Nat) (fr : Nat × Nat) (hh : w.heap[g1]? = some (.cells #[str x1, .slice a1 n1 c1, str y1, .slice b1 m1 d1] 74 fr))
    (hname : name ≠ [])
    (ihf : ∀ W, After w W → Calls Try.prog 77 #[.agg #[str x1, .slice a1 n1 c1], str name, .agg #[str y, .slice bo m d]] W (TreePost W (f.put name u)))
    (iha : ∀ W, After w W → Calls Try.prog 77 #[.agg #[str y1, .slice b1 m1 d1], str name, .agg #[str y, .slice bo m d]] W (TreePost W (a.put name u))) :
    Calls Try.prog 77 #[.agg #[str [], .slice (some ⟨g1, 0, none⟩) 2 q1], str name, .agg #[str y, .slice bo m d]] w (TreePost w ((f.app a).put name u)) := by
  have hne : (([] : List UInt8) == name) = false := by cases name with | nil => exact absurd rfl hname | cons => rfl
  have hne' : (name.isEmpty) = false := by cases name with | nil => exact absurd rfl hname | cons => rfl
  clear hname
  obtain ⟨X, hX⟩ : ∃ X, X = ((w.alloc (.cells #[str [], .slice (some ⟨g1, 0, none⟩) 2 q1] 74)).alloc (.cells #[str y, .slice bo m d] 74)).alloc (.cells #[.string ⟨#[]⟩, .slice none 0 0] 74) := ⟨_, rfl⟩
  have hwX : After w X := by rw [hX]; exact ((After.new _ _).alloc _).alloc _
  have hTX : X.heap[w.heap.size]? = some (.cells #[str [], .slice (some ⟨g1, 0, none⟩) 2 q1] 74 (0, 0)) := by rw [hX]; exact (After.new _ _).heap (heap_old2 _ _ _)
  have hYX : X.heap[w.heap.size + 1]? = some (.cells #[str y, .slice bo m d] 74 (0, 0)) := by rw [hX]; exact (After.new _ _).heap (heap_new2 _ _ _ _ rfl)
  have hRX : X.heap[w.heap.size + 1 + 1]? = some (.cells #[.string ⟨#[]⟩, .slice none 0 0] 74 (0, 0)) := by rw [hX]; exact heap_new3 _ _ _ _
  have hlt := (Array.getElem?_eq_some_iff.1 hh).1
  have b0 : ∀ W, ButFor X (w.heap.size + 1 + 1) W → W.cell? ⟨w.heap.size, 0, none⟩ = some (str []) := fun W hW => hW.cell (by omega) (cell_of_heap hTX)
  have b1' : ∀ W, ButFor X (w.heap.size + 1 + 1) W → W.cell? ⟨w.heap.size, 1, none⟩ = some (.slice (some ⟨g1, 0, none⟩) 2 q1) := fun W hW => hW.cell (by omega) (cell_of_heap hTX)
  have b2 : ∀ W, ButFor X (w.heap.size + 1 + 1) W → W.cell? ⟨w.heap.size + 1, 0, none⟩ = some (str y) := fun W hW => hW.cell (by omega) (cell_of_heap hYX)
  have b3 : ∀ W, ButFor X (w.heap.size + 1 + 1) W → W.cell? ⟨w.heap.size + 1, 1, none⟩ = some (.slice bo m d) := fun W hW => hW.cell (by omega) (cell_of_heap hYX)
  have k0 : ∀ W, ButFor X (w.heap.size + 1 + 1) W → W.cell? ⟨g1, 0, none⟩ = some (str x1) := fun W hW => hW.cell (by omega) (hwX.cell (cell_of_heap hh))
  have k1 : ∀ W, ButFor X (w.heap.size + 1 + 1) W → W.cell? ⟨g1, 1, none⟩ = some (.slice a1 n1 c1) := fun W hW => hW.cell (by omega) (hwX.cell (cell_of_heap hh))
  have k2 : ∀ W, ButFor X (w.heap.size + 1 + 1) W → W.cell? ⟨g1, 2, none⟩ = some (str y1) := fun W hW => hW.cell (by omega) (hwX.cell (cell_of_heap hh))
  have k3 : ∀ W, ButFor X (w.heap.size + 1 + 1) W → W.cell? ⟨g1, 3, none⟩ = some (.slice b1 m1 d1) := fun W hW => hW.cell (by omega) (hwX.cell (cell_of_heap hh))
  have hbf : ButFor X (w.heap.size + 1 + 1) X.drew := ⟨Nat.le_refl _, fun _ _ _ => rfl⟩
  have hres : ∀ W, After X W → W.cell? ⟨w.heap.size + 1 + 1, 0, none⟩ = some (.string ⟨#[]⟩) ∧ W.cell? ⟨w.heap.size + 1 + 1, 1, none⟩ = some (.slice none 0 0) ∧ W.frozen? ⟨w.heap.size + 1 + 1, 0, none⟩ = false ∧ W.frozen? ⟨w.heap.size + 1 + 1, 1, none⟩ = false := fun W hW => by
    have hh := hW.heap hRX
    exact ⟨cell_of_heap hh, cell_of_heap hh, by simp [World.frozen?, hh], by simp [World.frozen?, hh]⟩
  have hself := After.refl X
  go_enter Try.func77, Try.ntmps77
  go_wp2_with fail
  rw [← hX]
  have HRES := Lib.hid hres
  have HWX := Lib.hid hwX
  have HRX := Lib.hid hRX
  clear hres hRX hYX hTX hwX hX hlt hh
  go_region_held3 (fun W' => ButFor X (w.heap.size + 1 + 1) W') (first | assumption | exact hbf | exact After.butFor (by assumption) | exact ButFor.alloc (by assumption) _ | exact ButFor.set (ButFor.set (by assumption) _ _) _ _ | go_keep)
    (first
      | (go_at_call_of 77 a1; refine (ihf _ (HWX.out.trans hself.drew)).mono ?_; rintro e w1 ⟨t1, ao1, nn1, cc1, rfl, hbb1, hs1⟩; have hA1 := After.trans hself.drew hbb1)
      | (go_at_call_of 77 b1; refine (iha _ (HWX.out.trans hA1)).mono ?_; rintro e w2 ⟨t2, ao2, nn2, cc2, rfl, hbb2, hs2⟩; have hA2 := After.trans hA1 hbb2; have hs1' := hs1.later hbb2)
      | (go_at_call 89; refine (s_app _ (f.put name u) (a.put name u) t1 t2 ao1 ao2 nn1 cc1 nn2 cc2 _ (0, 0) ?_ ?_ ?_).mono ?_; exact hs1'.later (After.new _ _); exact hs2.later (After.new _ _); exact heap_new' _ _; rintro e w3 ⟨t3, ao3, nn3, cc3, rfl, hbb3, hs3⟩; have hA3 := After.trans (hA2.alloc _) hbb3; obtain ⟨z0, z1, z2, z3⟩ := HRES.out _ hA3))
  all_goals
    go_wp2_with fail
    refine bodyPost_ret (v := .agg #[str t3, .slice ao3 nn3 cc3]) (by simp [results, Try.results77, go_sem, z0, z1]) rfl ⟨t3, ao3, nn3, cc3, rfl, Below.setCell (Below.setCell (HWX.out.trans hA3) (by show w.heap.size ≤ w.heap.size + 1 + 1; omega) _) (by show w.heap.size ≤ w.heap.size + 1 + 1; omega) _, ?_⟩
    exact hs3.sets2 (hA3.heap HRX.out)

theorem ST.put {u : Tm} (name y : List UInt8) (bo : Option Addr) (m d : Nat) (hn : Tm.nameOk name = true) {t : Tm} : ∀ {w : World} {v : Value}, ST w t v → ST w u (.agg #[str y, .slice bo m d]) → t.good = true →
    Calls Try.prog 77 #[v, str name, .agg #[str y, .slice bo m d]] w (TreePost w (t.put name u)) := by
  have hne := (name_not hn).1
  induction t with
  | k => intro w v h hu hg; simp only [ST] at h; subst h; exact (put_ne w name _ y _ bo _ _ m d (by simp [Tm.text]) (atom_ne hn (by simp only [Tm.text]; decide))).mono fun e w' ⟨he, hb⟩ => ⟨_, _, _, _, he, hb, rfl⟩
  | s => intro w v h hu hg; simp only [ST] at h; subst h; exact (put_ne w name _ y _ bo _ _ m d (by simp [Tm.text]) (atom_ne hn (by simp only [Tm.text]; decide))).mono fun e w' ⟨he, hb⟩ => ⟨_, _, _, _, he, hb, rfl⟩
  | nm x =>
    intro w v h hu hg; simp only [ST] at h; subst h
    by_cases hx : x = name
    · subst hx
      refine (put_eq w x y none bo 0 0 m d).mono fun e w' ⟨he, hb⟩ => ⟨_, _, _, _, he, hb, ?_⟩
      simp only [Tm.put, if_true]
      exact hu.later hb
    · refine (put_ne w name x y none bo 0 0 m d (Tm.text_ne (.nm x) hg) (beq_eq_false_iff_ne.2 hx)).mono fun e w' ⟨he, hb⟩ => ⟨_, _, _, _, he, hb, ?_⟩
      simp only [Tm.put, if_neg hx]
      rfl
  | app f a ihf iha =>
    intro w v h hu hg
    obtain ⟨g, cap, fr, s0, p0, s1, p1, rfl, hh, hf, ha⟩ := h
    simp only [Tm.good, Bool.and_eq_true] at hg
    obtain ⟨x0, a0, n0, c0, rfl, rfl⟩ := parts_form hf
    obtain ⟨x1, a1, n1, c1, rfl, rfl⟩ := parts_form ha
    exact put_app w f a u name y bo m d g cap x0 x1 a0 a1 n0 c0 n1 c1 fr hh hne (fun W hW => ihf (hf.later hW) (hu.later hW) hg.1) (fun W hW => iha (ha.later hW) (hu.later hW) hg.2)

end Go.Proofs.Ytipmgfbncfkmiaa
