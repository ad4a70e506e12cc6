/-
  FunctionValue: for every argument the program answers as the model does: the law returns true. No condition.
-/
import Derived.Test.YtjomocjlnjgkeaaPkAD
import Derived.Test.YtjomocjlnjgkeaaPkCB
import Derived.ChangeSlices
namespace Go.Proofs.Ytjomocjlnjgkeaa
open Go.ChangeShapes Go.WideShapes Go.ChangeAt Go.RowKit Go.Deep
open Go.ChangeMaps (open_string shut_string)

set_option maxHeartbeats 1600000 in
set_option maxRecDepth 100000 in
theorem value_lifted (os : Os) (started : os.Started) (H : Type) (enc : TypeId × Value → H) :
    ReturnsInHanded {} Try.checked os 10 .any (Rows.fnExactFunctionValueSpec.pre6 enc Try.prog Try.f10 Rows.fnExactFunctionValueRow.domain false) (Rows.fnExactFunctionValueSpec.post enc Try.prog Try.f10 false true false false) := by
  refine returnsInHanded_of_change (C := Try.checked) own_knob started (by kernel_rfl) Try.func10
    (ChangeSpec.witness6 (enc := enc) (C := Try.checked) false ⟨#[], #[.string ⟨#[]⟩, .slice none 0 0], []⟩ 8 (by kernel_rfl) (by kernel_rfl) (by kernel_rfl) (by kernel_rfl)) ?_
  intro W base args ds gs before hval0 hW hcnd0 _
  have hval : ∀ (j : Nat) t v, Try.f10.params[j]? = some t → args[j]? = some v → Value.okWide Try.prog W .any base t v := hval0
  have hW' := hW
  obtain ⟨p, q, hA0, hV, rfl, hfz, hnd⟩ := hW
  have hA : DataW.TrodAll enc Try.prog W 0 (fun _ => true) true Try.f10.params.toList args.toList ds p := hA0
  rw [Try.params10] at hA hval
  obtain ⟨v0, v1, d0, d1, p0, p1, rfl, rfl, hps, h0, h1⟩ := trodAll_two hA
  obtain ⟨rfl, rfl⟩ := trodVars_none hV
  obtain ⟨s0, rfl, rfl, rfl, ws0⟩ := open_string Try.underlying9 (hval 0 9 v0 rfl rfl) h0
  obtain ⟨a0, len, cap, rfl⟩ := okWide_slice Try.underlying32 (hval 1 32 v1 rfl rfl)
  obtain ⟨fuel, hf⟩ := h1
  subst hps
  clear hA0 hval0 hA
  have hcz : Try.prog.cellsOf 3 = 1 := by kernel_rfl
  rw [show (#[Value.string s0, Value.slice a0 len cap] : Array Value) = #[str s0.data.toList, .slice a0 len cap] by rw [ba_list s0]]
  rcases open_ints Try.underlying32 Try.underlying3 hcz hf with ⟨hcs, hx⟩ | ⟨a, len', cap', zs, hcs, _, hl, hm, hmm, hx, hcell, hwf⟩
  · simp [Value.cells] at hcs
    obtain ⟨rfl, rfl, rfl⟩ := hcs
    simp only [Prod.mk.injEq] at hx
    obtain ⟨rfl, rfl⟩ := hx
    refine (law_value W _ 0 (fun _ => 0) s0.data.toList (Or.inl ⟨_, _, rfl, rfl⟩) (by omega)).mono fun e W' ⟨he, hb⟩ => ?_
    subst he
    refine ⟨_, rfl, _, _, _, [], [], [], hW', ?_, ?_, ?_, Below.frame hb _, fun h => by cases h⟩
    · exact trodAll_mk1 (shut_bool Try.underlying4 _)
    · rw [← ba_list s0]; exact trodAll_mk2 (shut_string Try.underlying9 ws0) (shut_slice_nil Try.underlying32)
    · rfl
  simp [Value.cells] at hcs
  obtain ⟨rfl, rfl, rfl⟩ := hcs
  simp only [Prod.mk.injEq] at hx
  obtain ⟨rfl, rfl⟩ := hx
  simp only [if_true] at hmm
  have hmm' : zs.length = cap := hmm
  have harg : ArgI W (.slice (some a) len cap) len (fun j => zs.getD j 0) := by
    by_cases h0 : len = 0
    · exact Or.inl ⟨_, _, by rw [h0], h0⟩
    · obtain ⟨b, off, spot⟩ := a
      have hspot : spot = none := by simpa [Addr.add] using World.cell?_spot (hcell 0 (by omega))
      subst hspot
      exact Or.inr ⟨b, off, cap, rfl, fun j hj => by rw [← add_plain]; exact hcell j (by omega)⟩
  have hlit : cap = 0 ∨ decide (a.block < W.heap.size) = true := by
    by_cases h0 : cap = 0
    · exact Or.inl h0
    · right
      have := World.block_lt_of_cell? _ _ (hcell 0 (by omega))
      rw [block_add] at this
      exact decide_eq_true this
  have hm' : cap ≤ 9223372036854775807 := by unfold maxLen at hm; omega
  refine (law_value W _ len (fun j => zs.getD j 0) s0.data.toList harg (by omega)).mono fun e W' ⟨he, hb⟩ => ?_
  subst he
  have hsh := shut_ints (enc := enc) (w := W') (base := 0) (spare := fun b => decide (b < W.heap.size)) (held := true) (a := a) (len := len) (cap := cap) (zs := zs) 0 Try.underlying32 Try.underlying3 hcz (Nat.zero_le _) hl hm
    (by rcases hlit with h | h
        · subst h; rw [hmm']; split <;> omega
        · rw [if_pos h]; exact hmm')
    (fun i hi => (Below.cell hb (p := a.add i) (World.block_lt_of_cell? _ _ (hcell i hi))).trans (hcell i hi)) hwf
  refine ⟨_, rfl, _, _, _, [], MemPlace.row a zs.length, [], hW', ?_, ?_, ?_, Below.frame hb _, fun h => by cases h⟩
  · exact trodAll_mk1 (shut_bool Try.underlying4 _)
  · rw [← ba_list s0]
    have h : DataW.Trod enc Try.prog W' 0 (fun b => decide (b < W.heap.size)) true 32 (.slice (some a) len cap) _ _ := ⟨_, hsh⟩
    exact trodAll_mk2 (shut_string Try.underlying9 ws0) h
  · rfl

theorem value_holds : Rows.FnExactFunctionValueSaid :=
  OpenClaim.holds_of_wide 10 Try.f10 rfl rfl rfl rfl rfl rfl rfl ⟨rfl, rfl, rfl, rfl, rfl⟩ rfl rfl rfl rfl rfl (by kernel_rfl) Try.func10 (by kernel_rfl)
    (of_decide_eq_true (by kernel_rfl)) (by unfold Func.isWrapper; first | (rw [if_pos (by decide +kernel)]; kernel_rfl) | (rw [if_neg (by decide +kernel)]; exact ⟨rfl, rfl⟩))
    (fun os started H enc _ => value_lifted os started H enc)
#print axioms value_holds
end Go.Proofs.Ytjomocjlnjgkeaa
