/-
  The walks of three promises' laws of chapter 6: whatever the code, the law returns true.
-/
import Derived.Test.YtdjoafnohkmneaaGreatDoorPkO
namespace Go.Proofs.YtdjoafnohkmneaaGreatDoor
open Go.RowKit

set_option maxHeartbeats 4000000
set_option maxRecDepth 100000

theorem CodeArg.form6 {w : World} {v : Value} {n : Nat} (h : CodeArg w v n) : ∃ a0 cap, v = .slice a0 n cap := by
  rcases h with ⟨a0, cap, rfl, rfl⟩ | ⟨b, o, cap, _, _, _, rfl, _⟩
  · exact ⟨_, _, rfl⟩
  · exact ⟨_, _, rfl⟩
def TextPost6 (w : World) (e : Ending) (w' : World) : Prop := ∃ l : List UInt8, e = .returned (str l) ∧ l.length ≤ 100000 ∧ After w w'
theorem str_of (s : ByteArray) : (.string s : Value) = str s.data.toList ∧ s.size = s.data.toList.length :=
  ⟨congrArg Value.string (ByteArray.ext (by simp)), by show s.data.size = _; simp⟩
theorem DrawPost.text6 {w w' : World} {e : Ending} (h : DrawPost w e w') : TextPost6 w e w' := by
  obtain ⟨s, rfl, hs, ha⟩ := h
  obtain ⟨h1, h2⟩ := str_of s
  exact ⟨s.data.toList, congrArg Ending.returned h1, by omega, ha⟩
theorem add_str (a b c : List UInt8) (h : c = a ++ b) (hl : a.length + b.length ≤ 1000000000) (W : World) : (Op.stringOp .add ⟨a.toArray⟩ ⟨b.toArray⟩).run Tryz.prog W = .ok (str c) W := by
  have h1 := run_string_add_sum (P := Tryz.prog) W ⟨a.toArray⟩ ⟨b.toArray⟩ (by rw [ssize, ssize]; omega)
  rw [h1, h]
  congr 2

theorem law_pformula (w : World) (v : Value) (n : Nat) (h : CodeArg w v n) (hS : LaidS w) :
    Calls Tryz.prog 6 #[v] w fun e w' => e = .returned (.bool true) ∧ After w w' := by
  obtain ⟨a0, cap, rfl⟩ := h.form6
  have hdraw := draw_fvalid w _ n h
  have HS := Lib.hid hS
  clear h hS
  by_cases hbig : (1048576 : Int) < (n : Int)
  · go_enter Tryz.func6, Tryz.ntmps6
    go_wp2_with fail
    go_ret
    exact ⟨rfl, After.refl _⟩
  go_enter Tryz.func6, Tryz.ntmps6
  go_wp2_with fail
  refine hdraw.mono ?_
  rintro e w1 hd
  obtain ⟨l, rfl, hl, ha⟩ := hd.text6
  have hi := fun W (hW : After w W) => impl_formulaValid W l (by omega) (HS.out.after hW)
  have hs := fun W => spec_formulaValid W l
  rw [show (Fm.mform l).isSome = (Fm.parse l).isSome from Fm.valid_eq l] at hs
  obtain ⟨L1, hL1⟩ : ∃ L1, L1 = [40, 97, 110, 100, 32] ++ l := ⟨_, rfl⟩
  obtain ⟨L2, hL2⟩ : ∃ L2, L2 = L1 ++ [32, 116, 111, 112, 41] := ⟨_, rfl⟩
  have hlen1 : L1.length ≤ 200000 := by rw [hL1]; simp; omega
  have hlen2 : L2.length ≤ 300000 := by rw [hL2]; simp; omega
  have e1 := add_str _ _ L1 hL1 (by simp; omega)
  have e2 := add_str _ _ L2 hL2 (by simp; omega)
  have hL : L2 = 40 :: (Fm.wAnd ++ 32 :: (l ++ 32 :: (Fm.wTop ++ [41]))) := by rw [hL2, hL1]; simp [Fm.wAnd, Fm.wTop]
  have hv2 := fun W (hW : After w W) => impl_formulaValid W L2 (by omega) (HS.out.after hW)
  have hc2 := fun W (hW : After w W) => impl_formulaClosed W L2 (by omega) (HS.out.after hW)
  have hc1 := fun W (hW : After w W) => impl_formulaClosed W l (by omega) (HS.out.after hW)
  have hkey : (Fm.parse l).isSome = true → (Fm.parse L2).isSome = true → (Fm.pclosed L2).isSome = (Fm.pclosed l).isSome := fun h1 h2 => by
    obtain ⟨f, hf⟩ := Option.isSome_iff_exists.1 h1
    rw [hL] at h2 ⊢
    exact Fm.and_top hf h2
  clear hL hL1 hL2 hlen1 hlen2 hd hdraw
  generalize (Fm.parse l).isSome = b0 at *
  generalize (Fm.parse L2).isSome = b1 at *
  generalize (Fm.pclosed L2).isSome = b2 at *
  generalize (Fm.pclosed l).isSome = b3 at *
  have hi1 := hi w1 ha
  have HA := Lib.hid ha
  clear hi ha
  go_wp2_with fail
  refine hi1.mono ?_
  rintro e w2 ⟨rfl, ha2⟩
  have hs2 := hs w2
  have HA2 := Lib.hid (HA.out.trans ha2)
  clear hi1 hs ha2
  go_wp2_with fail
  refine hs2.mono ?_
  rintro e w3 ⟨rfl, ha3⟩
  have hv3 := hv2 w3 (HA2.out.trans ha3)
  have HA3 := Lib.hid (HA2.out.trans ha3)
  clear hs2 hv2 ha3
  cases b0 with
  | false =>
    go_wp2_with fail
    go_ret
    exact ⟨rfl, HA3.out⟩
  | true =>
    go_wp2_with fail
    refine hv3.mono ?_
    rintro e w4 ⟨rfl, ha4⟩
    have hc4 := hc2 w4 (HA3.out.trans ha4)
    have HA4 := Lib.hid (HA3.out.trans ha4)
    clear hv3 hc2 ha4
    cases b1 with
    | false =>
      go_wp2_with fail
      go_ret
      exact ⟨rfl, HA4.out⟩
    | true =>
      obtain rfl := hkey (by trivial) (by trivial)
      go_wp2_with fail
      refine hc4.mono ?_
      rintro e w5 ⟨rfl, ha5⟩
      have hc5 := hc1 w5 (HA4.out.trans ha5)
      have HA5 := Lib.hid (HA4.out.trans ha5)
      clear hc4 hc1 ha5
      go_wp2_with fail
      refine hc5.mono ?_
      rintro e w6 ⟨rfl, ha6⟩
      have HA6 := Lib.hid (HA5.out.trans ha6)
      clear hc5 ha6
      go_wp2_with fail
      go_ret
      exact ⟨by simp, HA6.out⟩

theorem closed_put {l : List UInt8} (h : (Fm.pclosed l).isSome = true) : Fm.pPut l [120] 1 = (l, true) := by
  obtain ⟨f, hf⟩ := Option.isSome_iff_exists.1 h
  obtain ⟨h1, h2⟩ := Fm.pclosed_iff.1 hf
  unfold Fm.pPut
  rw [h1]
  show (if _ then _ else _) = _
  rw [if_pos ⟨by decide, by decide, by decide⟩, Fm.put_free _ _ f (by rw [h2]; simp), (Fm.parse_ok h1).1.symm]
theorem imp_bot {l : List UInt8} (h : (Fm.pclosed l).isSome = true) (h2 : (Fm.parse (40 :: (Fm.wImp ++ 32 :: (l ++ 32 :: (Fm.wBot ++ [41]))))).isSome = true) :
    Fm.pHolds (40 :: (Fm.wImp ++ 32 :: (l ++ 32 :: (Fm.wBot ++ [41])))) = !Fm.pHolds l := by
  obtain ⟨f, hf⟩ := Option.isSome_iff_exists.1 h
  obtain ⟨hp, hc⟩ := Fm.pclosed_iff.1 hf
  have hfacts := Fm.pclosed_facts hf
  obtain ⟨hl, ho, ha⟩ := Fm.parse_ok hp
  obtain ⟨g, hg⟩ := Option.isSome_iff_exists.1 h2
  have hgg := hg
  have e : (40 :: (Fm.wImp ++ 32 :: (l ++ 32 :: (Fm.wBot ++ [41])))) = Fm.text (.imp f .bot) := by rw [hl]; rfl
  rw [e] at hg ⊢
  have hge := Fm.parse_impbot ho ha hg
  subst hge
  have hpc : Fm.pclosed (Fm.text (.imp f .bot)) = some (.imp f .bot) := Fm.pclosed_iff.2 ⟨hg, by simp [Fm.occ, hc]⟩
  have hd := (Fm.pclosed_facts hpc).2.2.2
  simp only [Fm.tree, Fm.sxDepth, Fm.sxDepths] at hd
  unfold Fm.pHolds
  rw [hpc, hf]
  simp only [Fm.holdsF]
  rw [Fm.holdsF_fuel 150 f 151 (by omega) (by omega)]
  simp

theorem law_pclosedf (w : World) (v : Value) (n : Nat) (h : CodeArg w v n) (hS : LaidS w) (hH : HandleS w) :
    Calls Tryz.prog 7 #[v] w fun e w' => e = .returned (.bool true) ∧ After w w' := by
  obtain ⟨a0, cap, rfl⟩ := h.form6
  have hdraw := draw_fclosed w _ n h
  have HS := Lib.hid hS
  have HH := Lib.hid hH
  clear h hS hH
  by_cases hbig : (1048576 : Int) < (n : Int)
  · go_enter Tryz.func7, Tryz.ntmps7
    go_wp2_with fail
    go_ret
    exact ⟨rfl, After.refl _⟩
  go_enter Tryz.func7, Tryz.ntmps7
  go_wp2_with fail
  refine hdraw.mono ?_
  rintro e w1 hd
  obtain ⟨l, rfl, hl, ha⟩ := hd.text6
  have hi := fun W (hW : After w W) => impl_formulaClosed W l (by omega) (HS.out.after hW)
  have hs := fun W => spec_formulaClosed W l
  rw [Fm.closed_eq] at hs
  have hput := fun W (hW : After w W) => impl_formulaPut W l [120] 1 (by omega) (by decide) (HS.out.after hW)
  obtain ⟨L1, hL1⟩ : ∃ L1, L1 = [40, 105, 109, 112, 32] ++ l := ⟨_, rfl⟩
  obtain ⟨L2, hL2⟩ : ∃ L2, L2 = L1 ++ [32, 98, 111, 116, 41] := ⟨_, rfl⟩
  have hlen1 : L1.length ≤ 200000 := by rw [hL1]; simp; omega
  have hlen2 : L2.length ≤ 300000 := by rw [hL2]; simp; omega
  have e1 := add_str _ _ L1 hL1 (by simp; omega)
  have e2 := add_str _ _ L2 hL2 (by simp; omega)
  have hL : L2 = 40 :: (Fm.wImp ++ 32 :: (l ++ 32 :: (Fm.wBot ++ [41]))) := by rw [hL2, hL1]; simp [Fm.wImp, Fm.wBot]
  have hv2 := fun W (hW : After w W) => impl_formulaValid W L2 (by omega) (HS.out.after hW)
  have hc2 := fun W (hW : After w W) => impl_formulaHolds W L2 (by omega) (HS.out.after hW) (HH.out.after hW)
  have hc1 := fun W (hW : After w W) => impl_formulaHolds W l (by omega) (HS.out.after hW) (HH.out.after hW)
  have hkp : (Fm.pclosed l).isSome = true → Fm.pPut l [120] 1 = (l, true) := closed_put
  have hkey : (Fm.pclosed l).isSome = true → (Fm.parse L2).isSome = true → Fm.pHolds L2 = !Fm.pHolds l := fun h1 h2 => by
    rw [hL] at h2 ⊢
    exact imp_bot h1 h2
  clear hL hL1 hL2 hlen1 hlen2 hd hdraw
  generalize (Fm.pclosed l).isSome = b0 at *
  generalize (Fm.parse L2).isSome = b1 at *
  generalize Fm.pHolds L2 = b2 at *
  generalize Fm.pHolds l = b3 at *
  generalize Fm.pPut l [120] 1 = pp at *
  have hi1 := hi w1 ha
  have HA := Lib.hid ha
  clear hi ha
  go_wp2_with fail
  refine hi1.mono ?_
  rintro e w2 ⟨rfl, ha2⟩
  have hs2 := hs w2
  have HA2 := Lib.hid (HA.out.trans ha2)
  clear hi1 hs ha2
  go_wp2_with fail
  refine hs2.mono ?_
  rintro e w3 ⟨rfl, ha3⟩
  have hp3 := hput w3 (HA2.out.trans ha3)
  have HA3 := Lib.hid (HA2.out.trans ha3)
  clear hs2 hput ha3
  cases b0 with
  | false =>
    go_wp2_with fail
    go_ret
    exact ⟨rfl, HA3.out⟩
  | true =>
    obtain rfl := hkp (by trivial)
    go_wp2_with fail
    refine hp3.mono ?_
    rintro e w4 ⟨rfl, ha4⟩
    have hv4 := hv2 w4 (HA3.out.trans ha4)
    have HA4 := Lib.hid (HA3.out.trans ha4)
    clear hp3 hv2 ha4
    go_wp2_with fail
    refine hv4.mono ?_
    rintro e w5 ⟨rfl, ha5⟩
    have hc5 := hc2 w5 (HA4.out.trans ha5)
    have HA5 := Lib.hid (HA4.out.trans ha5)
    clear hv4 hc2 ha5
    cases b1 with
    | false =>
      go_wp2_with fail
      go_ret
      exact ⟨rfl, HA5.out⟩
    | true =>
      obtain rfl := hkey (by trivial) (by trivial)
      go_wp2_with fail
      refine hc5.mono ?_
      rintro e w6 ⟨rfl, ha6⟩
      have hc6 := hc1 w6 (HA5.out.trans ha6)
      have HA6 := Lib.hid (HA5.out.trans ha6)
      clear hc5 hc1 ha6
      go_wp2_with fail
      refine hc6.mono ?_
      rintro e w7 ⟨rfl, ha7⟩
      have HA7 := Lib.hid (HA6.out.trans ha7)
      clear hc6 ha7
      cases b3 with
      | true =>
        go_wp2_with fail
        go_ret
        exact ⟨rfl, HA7.out⟩
      | false =>
        go_wp2_with fail
        go_ret
        exact ⟨rfl, HA7.out⟩

theorem DrPutPost.text6 {w w' : World} {e : Ending} (h : DrPutPost w e w') : ∃ (l x : List UInt8) (m : Int), e = .returned (.tuple #[str l, str x, .int .i64 m]) ∧ l.length ≤ 100000 ∧ x.length ≤ 100000 ∧ After w w' := by
  obtain ⟨s, x, m, rfl, hs, hx, ha⟩ := h
  obtain ⟨h1, h2⟩ := str_of s
  obtain ⟨h3, h4⟩ := str_of x
  exact ⟨s.data.toList, x.data.toList, m, by rw [h1, h3], by omega, by omega, ha⟩

/-- What the law of FormulaPut needs to know. -/
theorem put_all {l x : List UInt8} {m : Int} (h : (Fm.pPut l x m).2 = true) : ∃ f : Fo, Fm.parse l = some f ∧ Tm.nameOk x = true ∧ ∃ k : Nat, m = k ∧ k ≤ 60 ∧ Fm.pPut l x m = (Fm.text (Fm.putF x (.num k) f), true) := by
  unfold Fm.pPut at h ⊢
  cases hp : Fm.parse l with
  | none => rw [hp] at h; cases h
  | some f =>
    rw [hp] at h
    by_cases hc : Tm.nameOk x = true ∧ 0 ≤ m ∧ m ≤ 60
    · refine ⟨f, rfl, hc.1, m.toNat, by omega, by omega, ?_⟩
      show (if _ then _ else _) = _
      rw [if_pos hc]
    · exfalso
      have : (if Tm.nameOk x = true ∧ 0 ≤ m ∧ m ≤ 60 then (Fm.text (Fm.putF x (.num m.toNat) f), true) else ([], false)).2 = true := h
      rw [if_neg hc] at this
      cases this
theorem pPut_at {l x : List UInt8} {f : Fo} (hp : Fm.parse l = some f) (hx : Tm.nameOk x = true) (k : Nat) (hk : k ≤ 60) : Fm.pPut l x (k : Nat) = (Fm.text (Fm.putF x (.num k) f), true) := by
  unfold Fm.pPut
  rw [hp]
  show (if _ then _ else _) = _
  rw [if_pos ⟨hx, by omega, by omega⟩]
  simp
def allText (x l : List UInt8) : List UInt8 := 40 :: (Fm.wAll ++ 32 :: (x ++ 32 :: (Fm.dec 3 ++ 32 :: (l ++ [41]))))
theorem all_three {l x : List UInt8} {f : Fo} (hp : Fm.parse l = some f) (hx : Tm.nameOk x = true) (h : (Fm.pclosed (allText x l)).isSome = true) :
    (∀ k, k ≤ 60 → Fm.pclosed (Fm.text (Fm.putF x (.num k) f)) = some (Fm.putF x (.num k) f)) ∧ Fm.pHolds (allText x l) = (List.range 3).all fun k => Fm.pHolds (Fm.text (Fm.putF x (.num k) f)) := by
  obtain ⟨g, hg⟩ := Option.isSome_iff_exists.1 h
  obtain ⟨hl, ho, ha⟩ := Fm.parse_ok hp
  have e : allText x l = Fm.text (.all x 3 f) := by rw [hl]; rfl
  rw [e] at hg h ⊢
  obtain ⟨hg1, hg2⟩ := Fm.pclosed_iff.1 hg
  have hge := Fm.parse_all3 hx ho ha hg1
  subst hge
  have hfacts := Fm.pclosed_facts hg
  have hd := hfacts.2.2.2
  simp only [Fm.tree, Fm.sxDepth, Fm.sxDepths] at hd
  have hcl : ∀ k, k ≤ 60 → Fm.pclosed (Fm.text (Fm.putF x (.num k) f)) = some (Fm.putF x (.num k) f) := fun k hk =>
    Fm.pclosed_iff.2 ⟨Fm.parse_put hp hk, by rw [Fm.occ_put]; exact hg2⟩
  refine ⟨hcl, ?_⟩
  unfold Fm.pHolds
  rw [hg]
  simp only [Fm.holdsF]
  have hall : ∀ (L : List Nat), (∀ k ∈ L, k ≤ 60) → (L.all fun m => Fm.holdsF 150 (Fm.putF x (.num m) f)) = L.all fun k => (match Fm.pclosed (Fm.text (Fm.putF x (.num k) f)) with | some f => Fm.holdsF 151 f | none => false) := by
    intro L
    induction L with
    | nil => intro _; rfl
    | cons k L ih =>
      intro hL
      rw [List.all_cons, List.all_cons, ih (fun j hj => hL j (List.mem_cons_of_mem _ hj)), hcl k (hL k (List.mem_cons_self ..)), Fm.holdsF_fuel 150 _ 151 (by rw [Fm.depth_put]; omega) (by rw [Fm.depth_put]; omega)]
  exact hall _ fun k hk => by have := List.mem_range.1 hk; omega

theorem law_pformulaput (w : World) (v : Value) (n : Nat) (h : CodeArg w v n) (hS : LaidS w) (hH : HandleS w) :
    Calls Tryz.prog 8 #[v] w fun e w' => e = .returned (.bool true) ∧ After w w' := by
  obtain ⟨a0, cap, rfl⟩ := h.form6
  have hdraw := draw_fput w _ n h
  have HS := Lib.hid hS
  have HH := Lib.hid hH
  clear h hS hH
  by_cases hbig : (1048576 : Int) < (n : Int)
  · go_enter Tryz.func8, Tryz.ntmps8
    go_wp2_with fail
    go_ret
    exact ⟨rfl, After.refl _⟩
  go_enter Tryz.func8, Tryz.ntmps8
  go_wp2_with fail
  refine hdraw.mono ?_
  rintro e w1 hd
  obtain ⟨l, x, m, rfl, hl, hxl, ha⟩ := hd.text6
  have hi := fun W (hW : After w W) => impl_formulaPut W l x m (by omega) (by omega) (HS.out.after hW)
  have hs := fun W => spec_formulaPut W l x m (by omega)
  have hpa := @put_all l x m
  obtain ⟨pp, hpp⟩ : ∃ pp, pp = Fm.pPut l x m := ⟨_, rfl⟩
  rw [← hpp] at hi hs hpa
  obtain ⟨po, pb⟩ := pp
  have hi1 := hi w1 ha
  have HA := Lib.hid ha
  clear hi ha hd hdraw hpp
  go_wp2_with fail
  refine hi1.mono ?_
  rintro e w2 ⟨rfl, ha2⟩
  have hs2 := hs w2
  have HA2 := Lib.hid (HA.out.trans ha2)
  clear hi1 hs ha2
  go_wp2_with fail
  refine hs2.mono ?_
  rintro e w3 ⟨rfl, ha3⟩
  have HA3 := Lib.hid (HA2.out.trans ha3)
  clear hs2 ha3
  have hne : (po != po) = false := by simp
  have heq : (po == po) = true := by simp
  cases pb with
  | false =>
    go_wp2_with fail
    go_ret
    exact ⟨rfl, HA3.out⟩
  | true =>
    obtain ⟨f, hp, hx, k, rfl, hk, hpe⟩ := hpa (by trivial)
    have hpo : po = Fm.text (Fm.putF x (.num k) f) := (Prod.mk.injEq .. ▸ hpe).1
    obtain ⟨L1, hL1⟩ : ∃ L1, L1 = [40, 97, 108, 108, 32] ++ x := ⟨_, rfl⟩
    obtain ⟨L2, hL2⟩ : ∃ L2, L2 = L1 ++ [32, 51, 32] := ⟨_, rfl⟩
    obtain ⟨L3, hL3⟩ : ∃ L3, L3 = L2 ++ l := ⟨_, rfl⟩
    obtain ⟨L4, hL4⟩ : ∃ L4, L4 = L3 ++ [41] := ⟨_, rfl⟩
    have hlen1 : L1.length ≤ 200000 := by rw [hL1]; simp; omega
    have hlen2 : L2.length ≤ 300000 := by rw [hL2]; simp; omega
    have hlen3 : L3.length ≤ 400000 := by rw [hL3]; simp; omega
    have hlen4 : L4.length ≤ 500000 := by rw [hL4]; simp; omega
    have e1 := add_str _ _ L1 hL1 (by simp; omega)
    have e2 := add_str _ _ L2 hL2 (by simp; omega)
    have e3 := add_str _ _ L3 hL3 (by omega)
    have e4 := add_str _ _ L4 hL4 (by simp; omega)
    have hL : L4 = allText x l := by rw [hL4, hL3, hL2, hL1]; simp [allText, Fm.wAll, Fm.dec]
    have hc4 := fun W (hW : After w W) => impl_formulaClosed W L4 (by omega) (HS.out.after hW)
    have hh4 := fun W (hW : After w W) => impl_formulaHolds W L4 (by omega) (HS.out.after hW) (HH.out.after hW)
    have hkey := all_three hp hx
    rw [← hL] at hkey
    have hokf := Fm.parse_ok hp
    have htl : ∀ k, k ≤ 60 → (Fm.text (Fm.putF x (.num k) f)).length ≤ 100000 := fun k hk => by
      have := (Fm.tree_ok _ (Fm.okm_put x k hk f (Fm.ok_okm hokf.2.1))).2.2
      rw [Fm.atoms_put] at this
      omega
    have hvo : ∀ W, After w W → Calls Tryz.prog 17 #[str po] W fun e w' => e = .returned (.bool true) ∧ After W w' := fun W hW => by
      have := impl_formulaValid W po (by rw [hpo]; have := htl k hk; omega) (HS.out.after hW)
      rw [hpo, Fm.parse_put hp hk] at this
      rw [hpo]
      exact this
    have hputs : ∀ j, j ≤ 60 → ∀ W, After w W → Calls Tryz.prog 11 #[str l, str x, .int .i64 (j : Nat)] W fun e w' => e = .returned (.tuple #[str (Fm.text (Fm.putF x (.num j) f)), .bool true]) ∧ After W w' := fun j hj W hW => by
      have := impl_formulaPut W l x (j : Nat) (by omega) (by omega) (HS.out.after hW)
      rw [pPut_at hp hx j hj] at this
      exact this
    have hhs : ∀ j, j ≤ 60 → ∀ W, After w W → Calls Tryz.prog 15 #[str (Fm.text (Fm.putF x (.num j) f))] W fun e w' => e = .returned (.bool (Fm.pHolds (Fm.text (Fm.putF x (.num j) f)))) ∧ After W w' := fun j hj W hW =>
      impl_formulaHolds W _ (by have := htl j hj; omega) (HS.out.after hW) (HH.out.after hW)
    have hco : (Fm.pclosed L4).isSome = true → ∀ W, After w W → Calls Tryz.prog 19 #[str po] W fun e w' => e = .returned (.bool true) ∧ After W w' := fun hcl W hW => by
      have := impl_formulaClosed W po (by rw [hpo]; have := htl k hk; omega) (HS.out.after hW)
      rw [hpo, (hkey hcl).1 k hk] at this
      rw [hpo]
      exact this
    have hkey2 : (Fm.pclosed L4).isSome = true → Fm.pHolds L4 = (List.range 3).all fun k => Fm.pHolds (Fm.text (Fm.putF x (.num k) f)) := fun h => (hkey h).2
    obtain ⟨T, hT⟩ : ∃ T : Nat → List UInt8, ∀ j, T j = Fm.text (Fm.putF x (.num j) f) := ⟨_, fun _ => rfl⟩
    simp only [← hT] at hputs hhs hkey2
    obtain ⟨P, hP⟩ : ∃ P : Nat → Bool, ∀ j, P j = Fm.pHolds (T j) := ⟨_, fun _ => rfl⟩
    simp only [← hP] at hhs hkey2
    have HPUTS := Lib.hid hputs
    have HHS := Lib.hid hhs
    have HCO := Lib.hid hco
    have HK2 := Lib.hid hkey2
    have HH4 := Lib.hid hh4
    have HVO := Lib.hid hvo
    clear hkey htl hputs hhs hco hkey2 hT hP hpo hL hL1 hL2 hL3 hL4 hlen1 hlen2 hlen3 hlen4 hokf hpa hpe hp hx hk hh4 hvo
    generalize hC : (Fm.pclosed L4).isSome = C at *
    generalize Fm.pHolds L4 = R4 at *
    have hc5 := hc4 w3 HA3.out
    clear hc4 hC
    go_wp2_with fail
    refine hc5.mono ?_
    rintro e w4 ⟨rfl, ha4⟩
    have HA4 := Lib.hid (HA3.out.trans ha4)
    clear hc5 ha4
    cases C with
    | false =>
      have hv := HVO.out w4 HA4.out
      go_wp2_with fail
      refine hv.mono ?_
      rintro e w5 ⟨rfl, ha5⟩
      go_wp2_with fail
      go_ret
      exact ⟨rfl, HA4.out.trans ha5⟩
    | true =>
      go_wp2_with fail
      go_loopw [11, 12] (fun b i wr => ∃ j : Nat, i = .int .i64 j ∧ j ≤ 3 ∧ b = .bool ((List.range j).all P) ∧ Hid (After w wr)) (fun _ i _ => 3 - (intOf i).toNat)
      case atStart => exact ⟨0, rfl, Nat.zero_le _, rfl, HA4⟩
      case round =>
        obtain ⟨j, rfl, hj, rfl, HAR⟩ := hrel
        by_cases hlt : j < 3
        · have hlti : (j : Int) < 3 := by omega
          have hpu := HPUTS.out j (by omega) wr HAR.out
          obtain ⟨B, hB⟩ : ∃ B, B = (List.range j).all P := ⟨_, rfl⟩
          have HBS : Hid ((List.range (j + 1)).all P = (B && P j)) := (by show _ = _; rw [hB, List.range_succ, List.all_append]; simp)
          rw [← hB]
          clear hB
          go_wp2_with fail
          refine hpu.mono ?_
          rintro e w5 ⟨rfl, ha5⟩
          have hho := HHS.out j (by omega) w5 (HAR.out.trans ha5)
          have HA5 := Lib.hid (HAR.out.trans ha5)
          clear hpu ha5
          cases B with
          | true =>
            go_wp2_with fail
            refine hho.mono ?_
            rintro e w6 ⟨rfl, ha6⟩
            have HA6 := Lib.hid (HA5.out.trans ha6)
            clear hho ha6
            go_wp2_with fail
            go_roundw
            case rel => exact ⟨j + 1, by go_num, by omega, by rw [HBS.out]; rfl, HA6⟩
            case measure => simp [intOf]; omega
          | false =>
            go_wp2_with fail
            go_roundw
            case rel => exact ⟨j + 1, by go_num, by omega, by rw [HBS.out]; rfl, HA5⟩
            case measure => simp [intOf]; omega
        · obtain rfl : j = 3 := by omega
          have hcl := HCO.out (by trivial) wr HAR.out
          have hk2 := HK2.out (by trivial)
          rw [← hk2]
          clear hk2
          go_wp2_with fail
          refine hcl.mono ?_
          rintro e w5 ⟨rfl, ha5⟩
          have hh5 := HH4.out w5 (HAR.out.trans ha5)
          have HA5 := Lib.hid (HAR.out.trans ha5)
          clear hcl ha5
          go_wp2_with fail
          refine hh5.mono ?_
          rintro e w6 ⟨rfl, ha6⟩
          have HA6 := Lib.hid (HA5.out.trans ha6)
          clear hh5 ha6
          go_wp2_with fail
          go_ret
          exact ⟨by simp, HA6.out⟩
end Go.Proofs.YtdjoafnohkmneaaGreatDoor
