/-
  FnJoin: two joined codes are read as the application, whose code they are. For every code the law returns true. No condition.
-/
import Derived.Test.YtfpekihdoclncaaGreatPkAC
import Derived.Test.YtfpekihdoclncaaGreatPkBL
import Derived.ChangeSlices
namespace Go.Proofs.YtfpekihdoclncaaGreat
open Go.ChangeShapes Go.WideShapes Go.ChangeAt Go.RowKit

set_option maxHeartbeats 1600000 in
set_option maxRecDepth 100000 in
theorem pjoin_lifted (os : Os) (started : os.Started) (H : Type) (enc : TypeId × Value → H) :
    ReturnsInHanded {} Tryz.checked os 3 .any (Rows.fnJoinSpec.pre6 enc Tryz.prog Tryz.f3 Rows.fnJoinRow.domain false) (Rows.fnJoinSpec.post enc Tryz.prog Tryz.f3 false true false false) := by
  refine returnsInHanded_of_change (C := Tryz.checked) own_knob started (by kernel_rfl) Tryz.func3
    (ChangeSpec.witness6 (enc := enc) (C := Tryz.checked) false ⟨#[], #[.slice none 0 0], []⟩ 8 (by kernel_rfl) (by kernel_rfl) (by kernel_rfl) (by kernel_rfl)) ?_
  intro W base args ds gs before hval0 hW hcnd0 _
  have hval : ∀ (j : Nat) t v, Tryz.f3.params[j]? = some t → args[j]? = some v → Value.okWide Tryz.prog W .any base t v := hval0
  have hW' := hW
  obtain ⟨p, q, hA0, hV, rfl, hfz, hnd⟩ := hW
  have hA : DataW.TrodAll enc Tryz.prog W 0 (fun _ => true) true Tryz.f3.params.toList args.toList ds p := hA0
  rw [Tryz.params3] at hA hval
  obtain ⟨v0, d0, rfl, rfl, h0⟩ := trodAll_one hA
  obtain ⟨rfl, rfl⟩ := trodVars_none hV
  obtain ⟨fuel, hf⟩ := h0
  obtain ⟨a0, len, cap, rfl⟩ := okWide_slice Tryz.underlying22 (hval 0 22 v0 rfl rfl)
  clear hA0 hval0 hA
  have hcz : Tryz.prog.cellsOf 5 = 1 := by kernel_rfl
  rcases open_ints Tryz.underlying22 Tryz.underlying5 hcz hf with ⟨hcs, hx⟩ | ⟨a, len', cap', zs, hcs, _, hl, hm, hz, hx, hcell, hwf⟩
  · simp [Value.cells] at hcs
    obtain ⟨rfl, rfl, rfl⟩ := hcs
    simp only [Prod.mk.injEq] at hx
    obtain ⟨rfl, rfl⟩ := hx
    refine (law_pjoin W _ 0 (Or.inl ⟨_, _, rfl, rfl⟩)).mono fun e W' ⟨he, hb⟩ => ?_
    subst he
    refine ⟨_, rfl, _, _, _, [], [], [], hW', ?_, ?_, ?_, Below.frame hb _, fun h => by cases h⟩
    · exact trodAll_mk1 (shut_bool Tryz.underlying4 _)
    · exact trodAll_mk1 (shut_slice_nil Tryz.underlying22)
    · rfl
  simp [Value.cells] at hcs
  obtain ⟨rfl, rfl, rfl⟩ := hcs
  simp only [Prod.mk.injEq] at hx
  obtain ⟨rfl, rfl⟩ := hx
  simp only [if_true] at hz
  have hcode : CodeArg W (.slice (some a) len cap) len := by
    by_cases h0 : len = 0
    · subst h0; exact Or.inl ⟨_, _, rfl, rfl⟩
    · obtain ⟨b, off, spot⟩ := a
      have hspot : spot = none := by simpa [Addr.add] using World.cell?_spot (hcell 0 (by omega))
      subst hspot
      refine Or.inr ⟨b, off, cap, by omega, hl, by unfold maxLen at hm; omega, rfl, fun i => (zs.getD i 0).toNat, fun i hi => ?_⟩
      have h1 := hcell i (by omega)
      rw [show (Addr.mk b off none).add i = ⟨b, off + i, none⟩ from Addr.add_lit ..] at h1
      have h2 := hwf (zs.getD i 0) (by rw [List.getD_eq_getElem?_getD, List.getElem?_eq_getElem (show i < zs.length by omega)]; exact List.getElem_mem _)
      have h3 : 0 ≤ zs.getD i 0 ∧ zs.getD i 0 ≤ 255 := by simpa [Lit.wf, IntKind.min, IntKind.max, IntKind.bits, IntKind.signed] using h2
      rw [h1]
      exact ⟨congrArg (fun z => some (Value.int .u8 z)) (Int.toNat_of_nonneg h3.1).symm, by show (zs.getD i 0).toNat ≤ 255; omega⟩
  refine (law_pjoin W _ len hcode).mono fun e W' ⟨he, hb⟩ => ?_
  subst he
  have hz' : ∀ sp : Nat → Bool, (0 < cap → sp a.block = true) → zs.length = (if sp a.block then cap else len) := fun sp h => by
    by_cases h0 : 0 < cap
    · rw [h h0]; exact hz
    · split <;> omega
  have hbl : 0 < cap → a.block < W.heap.size := fun h => by
    have := World.block_lt_of_cell? _ _ (hcell 0 (by omega))
    obtain ⟨b, off, spot⟩ := a
    simpa [Addr.add] using this
  have hcell' : ∀ i, i < zs.length → W'.cell? (a.add i) = some (.int .u8 (zs.getD i 0)) := fun i hi => by
    have h1 := hcell i hi
    obtain ⟨b, off, spot⟩ := a
    have hspot : spot = none := by simpa [Addr.add] using World.cell?_spot (hcell 0 (by omega))
    subst hspot
    rw [show (Addr.mk b off none).add i = ⟨b, off + i, none⟩ from Addr.add_lit ..] at h1 ⊢
    exact cell_later' h1 W' hb
  have htrod : DataW.Trod enc Tryz.prog W' 0 (fun b => decide (b < W.heap.size)) true 22 (.slice (some a) len cap) (.slice (lits .u8 (zs.take len)) (lits .u8 (zs.drop len))) (MemPlace.row a zs.length) :=
    ⟨_, shut_ints (spare := fun b => decide (b < W.heap.size)) 0 Tryz.underlying22 Tryz.underlying5 hcz (Nat.zero_le _) hl hm (hz' (fun b => decide (b < W.heap.size)) (fun h => by simpa using hbl h)) hcell' hwf⟩
  refine ⟨_, rfl, _, _, _, [], MemPlace.row a zs.length, [], hW', ?_, ?_, ?_, Below.frame hb _, fun h => by cases h⟩
  · exact trodAll_mk1 (shut_bool Tryz.underlying4 _)
  · exact trodAll_mk1 htrod
  · rfl

theorem pjoin_holds : Rows.FnJoinSaid :=
  OpenClaim.holds_of_wide 3 Tryz.f3 rfl rfl rfl rfl rfl rfl rfl ⟨rfl, rfl, rfl, rfl, rfl⟩ rfl rfl rfl rfl rfl (by kernel_rfl) Tryz.func3 (by kernel_rfl)
    (of_decide_eq_true (by kernel_rfl)) (by unfold Func.isWrapper; first | (rw [if_pos (by decide +kernel)]; kernel_rfl) | (rw [if_neg (by decide +kernel)]; exact ⟨rfl, rfl⟩))
    (fun os started H enc _ => pjoin_lifted os started H enc)
#print axioms pjoin_holds
end Go.Proofs.YtfpekihdoclncaaGreat
