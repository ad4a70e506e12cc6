/-
  Abstract: for every argument the program answers as the model does: the law returns true. No condition.
-/
import Derived.Test.YtjgemiojjhfnoacClose
import Derived.Test.YtjgemiojjhfnoacLawG
import Derived.Deep.Strs
namespace Go.Proofs.Ytjgemiojjhfnoac
open Go.ChangeShapes Go.WideShapes Go.ChangeAt Go.RowKit Go.Deep
open Go.ChangeMaps (open_string shut_string)

theorem add_plainA (b off i : Nat) : (Addr.mk b off none).add i = ⟨b, off + i, none⟩ := Addr.add_lit ..

set_option maxHeartbeats 1600000 in
set_option maxRecDepth 100000 in
theorem abs_lifted (os : Os) (started : os.Started) (H : Type) (enc : TypeId × Value → H) :
    ReturnsInHanded {} Try.checked os 3 .any (Rows.fnExactAbstractSpec.pre6 enc Try.prog Try.f3 Rows.fnExactAbstractRow.domain false) (Rows.fnExactAbstractSpec.post enc Try.prog Try.f3 false true false false) := by
  refine returnsInHanded_of_change (C := Try.checked) own_knob started (by kernel_rfl) Try.func3
    (ChangeSpec.witness6 (enc := enc) (C := Try.checked) false ⟨#[], #[.slice none 0 0, .string ⟨#[]⟩], []⟩ 8 (by kernel_rfl) (by kernel_rfl) (by kernel_rfl) (by kernel_rfl)) ?_
  intro W base args ds gs before hval0 hW hcnd0 _
  have hval : ∀ (j : Nat) t v, Try.f3.params[j]? = some t → args[j]? = some v → Value.okWide Try.prog W .any base t v := hval0
  have hW' := hW
  obtain ⟨p, q, hA0, hV, rfl, hfz, hnd⟩ := hW
  have hA : DataW.TrodAll enc Try.prog W 0 (fun _ => true) true Try.f3.params.toList args.toList ds p := hA0
  rw [Try.params3] at hA hval
  obtain ⟨v0, v1, d0, d1, p0, p1, rfl, rfl, hps, h0, h1⟩ := trodAll_two hA
  obtain ⟨rfl, rfl⟩ := trodVars_none hV
  obtain ⟨s1, rfl, rfl, rfl, ws1⟩ := open_string Try.underlying9 (hval 1 9 v1 rfl rfl) h1
  obtain ⟨a0, len, cap, rfl⟩ := okWide_slice Try.underlying22 (hval 0 22 v0 rfl rfl)
  obtain ⟨fuel, hf⟩ := h0
  subst hps
  clear hA0 hval0 hA
  have hcz : Try.prog.cellsOf 9 = 1 := by kernel_rfl
  rw [show (#[Value.slice a0 len cap, Value.string s1] : Array Value) = #[.slice a0 len cap, str s1.data.toList] by rw [ba_list s1]]
  rcases open_strs Try.underlying22 Try.underlying9 hcz hf with ⟨hcs, hx⟩ | ⟨a, len', cap', m, Sx, hcs, _, hl, hm, hmm, hx, hcell⟩
  · simp [Value.cells] at hcs
    obtain ⟨rfl, rfl, rfl⟩ := hcs
    simp only [Prod.mk.injEq] at hx
    obtain ⟨rfl, rfl⟩ := hx
    refine (law_abs W _ 0 (fun _ => []) s1.data.toList (Or.inl ⟨_, _, rfl, rfl⟩) (by omega) (fun j hj => absurd hj (Nat.not_lt_zero j))).mono fun e W' ⟨he, hb⟩ => ?_
    subst he
    refine ⟨_, rfl, _, _, _, [], [], [], hW', ?_, ?_, ?_, Below.frame hb _, fun h => by cases h⟩
    · exact trodAll_mk1 (shut_bool Try.underlying4 _)
    · rw [← ba_list s1]; exact trodAll_mk2 (shut_slice_nil Try.underlying22) (shut_string Try.underlying9 ws1)
    · rfl
  simp [Value.cells] at hcs
  obtain ⟨rfl, rfl, rfl⟩ := hcs
  simp only [Prod.mk.injEq] at hx
  obtain ⟨rfl, rfl⟩ := hx
  simp only [if_true] at hmm
  have hmm' : cap = m := hmm.symm
  subst hmm'
  obtain ⟨b, off, spot⟩ := a
  by_cases hc0 : cap = 0
  · subst hc0
    have hlen0 : len = 0 := by omega
    subst hlen0
    refine (law_abs W _ 0 (fun _ => []) s1.data.toList (Or.inl ⟨_, _, rfl, rfl⟩) (by omega) (fun j hj => absurd hj (Nat.not_lt_zero j))).mono fun e W' ⟨he, hb⟩ => ?_
    subst he
    have targ : ∀ sp : Nat → Bool, ∃ n, DataW.trod enc Try.prog W' 0 sp true n 22 [.slice (some ⟨b, off, spot⟩) 0 0] = some (.slice [] [], []) := fun sp => by
      cases hsp : sp b
      · simpa [MemPlace.row] using shut_slice_cells (enc := enc) (w := W') (base := 0) (spare := sp) (held := true) (a := ⟨b, off, spot⟩) (len := 0) (cap := 0) Try.underlying22 (Nat.zero_le _) (Nat.le_refl _) (Nat.zero_le _) hsp (fun _ => .nil) (fun _ => []) (fun i hi => absurd hi (Nat.not_lt_zero _))
      · simpa [MemPlace.row] using shut_slice_whole_cells (enc := enc) (w := W') (base := 0) (spare := sp) (held := true) (a := ⟨b, off, spot⟩) (len := 0) (cap := 0) Try.underlying22 (Nat.zero_le _) (Nat.le_refl _) (Nat.zero_le _) hsp (fun _ => .nil) (fun _ => []) (fun i hi => absurd hi (Nat.not_lt_zero _))
    refine ⟨_, rfl, _, _, _, [], [], [], hW', ?_, ?_, ?_, Below.frame hb _, fun h => by cases h⟩
    · exact trodAll_mk1 (shut_bool Try.underlying4 _)
    · rw [← ba_list s1]; exact trodAll_mk2 (show DataW.Trod enc Try.prog W' 0 (fun b => decide (b < W.heap.size)) true 22 (.slice (some ⟨b, off, spot⟩) 0 0) (.slice [] []) [] from targ _) (shut_string Try.underlying9 ws1)
    · rfl
  have hspot : spot = none := by simpa [Addr.add] using World.cell?_spot (hcell 0 (by omega)).1
  subst hspot
  have hcell' : ∀ j, j < cap → W.cell? ⟨b, off + j, none⟩ = some (.string (Sx j)) := fun j hj => by rw [← add_plainA]; exact (hcell j hj).1
  have hm' : cap ≤ 9223372036854775807 := by unfold maxLen at hm; omega
  have hbW : b < W.heap.size := World.block_lt_of_cell? _ _ (hcell' 0 (by omega))
  refine (law_abs W _ len (fun j => (Sx j).data.toList) s1.data.toList (Or.inr ⟨b, off, cap, rfl, fun j hj => by rw [← ba_list (Sx j)]; exact hcell' j (by omega)⟩) (by omega) (fun j hj => by
    have h := (hcell j (by omega)).2
    unfold maxLen at h
    exact h)).mono fun e W' ⟨he, hb⟩ => ?_
  subst he
  refine ⟨_, rfl, _, _, _, [], MemPlace.row ⟨b, off, none⟩ cap, [], hW', ?_, ?_, ?_, Below.frame hb _, fun h => by cases h⟩
  · exact trodAll_mk1 (shut_bool Try.underlying4 _)
  · rw [← ba_list s1]
    have h : DataW.Trod enc Try.prog W' 0 (fun b => decide (b < W.heap.size)) true 22 (.slice (some ⟨b, off, none⟩) len cap) _ _ := shut_strs_whole (enc := enc) (w := W') (base := 0) (spare := fun b => decide (b < W.heap.size)) (held := true) Try.underlying22 Try.underlying9 hcz (b := b) (off := off) (len := len) (cap := cap) (Nat.zero_le _) hl hm (by simpa using hbW) Sx (fun j hj => by rw [ba_list]; exact After.cell hb (by rw [← ba_list]; exact hcell' j hj)) (fun j hj => (hcell j hj).2)
    have h2 := trodAll_mk2 h (shut_string Try.underlying9 ws1)
    rw [List.append_nil] at h2
    exact h2
  · rfl

theorem abs_holds : Rows.FnExactAbstractSaid :=
  OpenClaim.holds_of_wide 3 Try.f3 rfl rfl rfl rfl rfl rfl rfl ⟨rfl, rfl, rfl, rfl, rfl⟩ rfl rfl rfl rfl rfl (by kernel_rfl) Try.func3 (by kernel_rfl)
    (of_decide_eq_true (by kernel_rfl)) (by unfold Func.isWrapper; first | (rw [if_pos (by decide +kernel)]; kernel_rfl) | (rw [if_neg (by decide +kernel)]; exact ⟨rfl, rfl⟩))
    (fun os started H enc _ => abs_lifted os started H enc)
#print axioms abs_holds
end Go.Proofs.Ytjgemiojjhfnoac
