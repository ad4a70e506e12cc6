/-
  The program's recursionRealizer and recursion.
-/
import Derived.Test.YtjomocjlnjgkeaaGreatPkBD
namespace Go.Proofs.YtjomocjlnjgkeaaGreat
open Go.RowKit

set_option maxHeartbeats 2000000
set_option maxRecDepth 100000

theorem strs_own {w : World} {base n : Nat} {v : Value} {T : TypeId} {vs : List Value} (xs : List (List UInt8)) (hn : n = xs.length) (hvs : vs = xs.map str) (h : w.ownsRow base T 1 v n vs) : StrsB w.heap.size w v xs := by
  subst hn
  subst hvs
  rcases h.2 with ⟨h1, h2⟩ | ⟨g, cap, cur, h1, _, hh, _⟩
  · exact Or.inl ⟨none, 0, h1, List.length_eq_zero_iff.1 h2⟩
  · refine Or.inr ⟨g, 0, cap, h1, (Array.getElem?_eq_some_iff.1 hh).1, fun j hj => ?_⟩
    rw [Nat.zero_add, World.ownsRow.cellAt (h1 ▸ h) j (by omega)]
    simp [List.getElem?_eq_getElem hj]

theorem recR_any (w : World) (B a : Nat) (f g : FT) (pf pg : Value) (hf : CV w B f pf) (hg : CV w B g pg) (hB : B ≤ w.heap.size) (ha : FT.arity f = a) (ha1 : a ≤ 1) (hz : (FT.real f).size + (FT.real g).size ≤ 3000) :
    Calls Tryz.prog 131 #[pf, pg] w (TermPost w B (FT.recT (FT.real f) (FT.real g) a)) := by
  obtain ⟨bf, Tf, xf, vf, rfl, hbf, hhf, htf, _⟩ := hf.fields
  obtain ⟨bg, Tg, xg, vg, rfl, hbg, hhg, htg, _⟩ := hg.fields
  rw [ha] at hhf
  have ha3 : a ≤ 3 := by omega
  obtain ⟨W1, hW1⟩ : ∃ W1, W1 = w.alloc (.cells #[str [120], str [121], str [122]] 9 (0, 0)) := ⟨_, rfl⟩
  have a1 : After w W1 := by rw [hW1]; exact After.new _ _
  have hN1 : ArgN W1 w.heap.size a := by rw [hW1]; exact heap_top _ _
  have h1 := argNames_any w a ha3
  rw [← hW1] at h1
  have hB1 := Nat.le_trans hB a1.size
  have k2 := nameTerms_any W1 w.heap.size 3 (FT.ns a) (hN1.cells ha3) (by rw [ns_len a ha3]; omega)
  rw [ns_len a ha3, vs_ns] at k2
  have c0 : w.cell? ⟨bf, 0, none⟩ = some (.int .i64 a) := cell_of_heap (i := 0) hhf
  have cf3 : ∀ W, After w W → W.cell? ⟨bf, 3, none⟩ = some (.iface Tf xf) := fun W hW => cell_later' (cell_of_heap (i := 3) hhf) W hW
  have cg3 : ∀ W, After w W → W.cell? ⟨bg, 3, none⟩ = some (.iface Tg xg) := fun W hW => cell_later' (cell_of_heap (i := 3) hhg) W hW
  generalize hF : FT.real f = F at *
  generalize hG : FT.real g = G at *
  have HN1 := Lib.hid hN1
  have HTF := Lib.hid htf
  have HTG := Lib.hid htg
  clear hf hhf htf hg hhg htg hN1 hW1
  go_enter Tryz.func131, Tryz.ntmps131
  go_wp2_with fail
  refine h1.mono ?_
  rintro e w1 ⟨rfl, rfl⟩
  clear h1 c0
  go_wp2_with fail
  refine k2.mono ?_
  rintro e w2 ⟨sv, rfl, hb2, hs2⟩
  have b2 : After w1 w2 := hb2
  have a2 := a1.trans b2
  have hB2 := Nat.le_trans hB a2.size
  have hs2' := hs2.less hB1
  obtain ⟨a3, hU, hV⟩ := nm2_after w2 B [117] [118] hB2
  obtain ⟨W3, hW3⟩ : ∃ W3, W3 = (w2.alloc (.cells #[str [117]] 100 (0, 0))).alloc (.cells #[str [118]] 100 (0, 0)) := ⟨_, rfl⟩
  rw [← hW3] at a3 hU hV
  have b3 : After w W3 := a2.trans a3
  have hB3 := Nat.le_trans hB b3.size
  have k3 := bit_any W3 B false hB3
  unfold TermPost at k3
  simp only [Bool.false_eq_true, if_false] at k3
  have HS2 := Lib.hid hs2'
  have HU := Lib.hid hU
  have HV := Lib.hid hV
  have HW3 := Lib.hid hW3
  clear k2 hs2 hs2' hU hV hW3 hb2
  go_wp2_with fail
  rw [← HW3.out]
  refine k3.mono ?_
  rintro e w4 ⟨v4, rfl, hb4, ht4⟩
  have b4 : After W3 w4 := hb4
  have hB4 := Nat.le_trans hB3 b4.size
  have k4 := apply_any w4 B FT.V Tm.no _ _ (HV.out.below b4) ht4 hB4 (by decide +kernel)
  clear k3 ht4 hb4
  go_wp2_with fail
  refine k4.mono ?_
  rintro e w5 ⟨v5, rfl, hb5, ht5⟩
  have b5 : After w4 w5 := hb5
  obtain ⟨T5, x5, rfl, _⟩ := ht5.asks
  have hB5 := Nat.le_trans hB4 b5.size
  have k5 := apply_any w5 B FT.U FT.less _ _ (HU.out.below (b4.trans b5)) ht5 hB5 (by decide +kernel)
  have HT5 := Lib.hid (show TV w5 B FT.less (.iface T5 x5) from ht5)
  clear k4 ht5 hb5
  go_wp2_with fail
  refine k5.mono ?_
  rintro e w6 ⟨v6, rfl, hb6, ht6⟩
  have b6 : After w5 w6 := hb6
  have hB6 := Nat.le_trans hB5 b6.size
  have c26 : After w2 w6 := a3.trans (b4.trans (b5.trans b6))
  have hvs := vs_sum a ha3
  have hvl := vs_len a
  have k6 := applyAll_sl w6 B (FT.U.app FT.less) v6 sv (FT.vs a) (HS2.out.after c26) ht6 hB6 (by rw [hvs]; simp [Tm.size, FT.U, FT.less, FT.V, Tm.no, Tm.I]; omega) (by omega)
  unfold TermPost at k6
  clear k5 ht6 hb6
  go_wp2_with fail
  refine k6.mono ?_
  rintro e w7 ⟨v7, rfl, hb7, ht7⟩
  have b7 : After w6 w7 := hb7
  obtain ⟨T7, x7, rfl, _⟩ := ht7.asks
  have hB7 := Nat.le_trans hB6 b7.size
  have c27 := c26.trans b7
  have HT7 := Lib.hid (show TV w7 B (FT.appL (FT.U.app FT.less) (FT.vs a)) (.iface T7 x7) from ht7)
  have c07 := a2.trans c27
  have k7 := applyAll_sl w7 B F (.iface Tf xf) sv (FT.vs a) (HS2.out.after c27) (HTF.out.below c07) hB7 (by rw [hvs]; omega) (by omega)
  unfold TermPost at k7
  clear k6 ht7 hb7
  go_wp2_with fail
  refine k7.mono ?_
  rintro e w8 ⟨v8, rfl, hb8, ht8⟩
  have b8 : After w7 w8 := hb8
  obtain ⟨T8, x8, rfl, _⟩ := ht8.asks
  have hB8 := Nat.le_trans hB7 b8.size
  have c08 := c07.trans b8
  have HT8 := Lib.hid (show TV w8 B (FT.appL F (FT.vs a)) (.iface T8 x8) from ht8)
  clear k7 ht8 hb8
  obtain ⟨W9, hW9⟩ : ∃ W9, W9 = w8.alloc (.cells #[.iface T5 x5, .iface T7 x7] 43 (0, 0)) := ⟨_, rfl⟩
  have b9 : After w8 W9 := by rw [hW9]; exact After.new _ _
  have hB9 := Nat.le_trans hB8 b9.size
  have hzu := appL_size (FT.U.app FT.less) a ha3
  have hzl : FT.U.size = 1 := rfl
  have hzv : FT.V.size = 1 := rfl
  have hzl2 : FT.less.size = 5 := by decide +kernel
  have k8 := applyAll2 W9 B w8.heap.size G FT.less (FT.appL (FT.U.app FT.less) (FT.vs a)) (.iface Tg xg) _ _ (0, 0) (by rw [hW9]; exact heap_top _ _) (HTG.out.below (c08.trans b9)) (HT5.out.below (b6.trans (b7.trans (b8.trans b9)))) (HT7.out.below (b8.trans b9)) hB9 (by simp only [Tm.size, hzu, hzl, hzl2]; omega)
  unfold TermPost at k8
  have HW9 := Lib.hid hW9
  clear hW9
  go_wp2_with fail
  rw [← HW9.out]
  refine k8.mono ?_
  rintro e w10 ⟨v10, rfl, hb10, ht10⟩
  have b10 : After W9 w10 := hb10
  have hB10 := Nat.le_trans hB9 b10.size
  have c8 := b8.trans (b9.trans b10)
  have k9 := applyAll_sl w10 B ((G.app FT.less).app (FT.appL (FT.U.app FT.less) (FT.vs a))) v10 sv (FT.vs a) (HS2.out.after (c27.trans c8)) ht10 hB10 (by rw [hvs]; simp only [Tm.size, hzu, hzl, hzl2]; omega) (by omega)
  unfold TermPost at k9
  clear k8 ht10 hb10
  go_wp2_with fail
  refine k9.mono ?_
  rintro e w11 ⟨v11, rfl, hb11, ht11⟩
  have b11 : After w10 w11 := hb11
  have hB11 := Nat.le_trans hB10 b11.size
  obtain ⟨T11, x11, rfl, _⟩ := ht11.asks
  have HT11 := Lib.hid (show TV w11 B (FT.appL ((G.app FT.less).app (FT.appL (FT.U.app FT.less) (FT.vs a))) (FT.vs a)) (.iface T11 x11) from ht11)
  have k10 := bit_any w11 B true hB11
  unfold TermPost at k10
  simp only [if_true] at k10
  clear k9 ht11 hb11
  go_wp2_with fail
  refine k10.mono ?_
  rintro e w12 ⟨v12, rfl, hb12, ht12⟩
  have b12 : After w11 w12 := hb12
  have hB12 := Nat.le_trans hB11 b12.size
  obtain ⟨T12, x12, rfl, _⟩ := ht12.asks
  obtain ⟨W13, hW13⟩ : ∃ W13, W13 = w12.alloc (.cells #[.iface T12 x12, .iface T8 x8, .iface T11 x11] 43 (0, 0)) := ⟨_, rfl⟩
  have b13 : After w12 W13 := by rw [hW13]; exact After.new _ _
  have hB13 := Nat.le_trans hB12 b13.size
  have c913 := (b9.trans b10).trans (b11.trans (b12.trans b13))
  have hzo := appL_size F a ha3
  have hzp := appL_size ((G.app FT.less).app (FT.appL (FT.U.app FT.less) (FT.vs a))) a ha3
  have hzq : ((G.app FT.less).app (FT.appL (FT.U.app FT.less) (FT.vs a))).size = G.size + 5 + (6 + a) := by simp only [Tm.size, hzu, hzl, hzl2]
  have hV13 := HV.out.below (b4.trans (b5.trans (b6.trans (b7.trans (b8.trans c913)))))
  have k11 := applyAll3 W13 B w12.heap.size FT.V .k (FT.appL F (FT.vs a)) (FT.appL ((G.app FT.less).app (FT.appL (FT.U.app FT.less) (FT.vs a))) (FT.vs a)) _ _ _ _ (0, 0) (by rw [hW13]; exact heap_top _ _) hV13 (ht12.below b13) (HT8.out.below c913) (HT11.out.below (b12.trans b13)) hB13 (by
    rw [hzo, hzp, hzq]; simp only [Tm.size, hzv]; omega)
  rw [show ((FT.V.app .k).app (FT.appL F (FT.vs a))).app (FT.appL ((G.app FT.less).app (FT.appL (FT.U.app FT.less) (FT.vs a))) (FT.vs a)) = FT.recB F G a from rfl] at k11
  have hzb : (FT.recB F G a).size ≤ 3900 := by
    show (((FT.V.app .k).app (FT.appL F (FT.vs a))).app (FT.appL ((G.app FT.less).app (FT.appL (FT.U.app FT.less) (FT.vs a))) (FT.vs a))).size ≤ 3900
    simp only [Tm.size, hzo, hzp, hzu, hzl, hzl2, hzv]; omega
  unfold TermPost at k11
  have HW13 := Lib.hid hW13
  clear k10 ht12 hb12 hW13 hV13
  go_wp2_with fail
  rw [← HW13.out]
  refine k11.mono ?_
  rintro e w14 ⟨v14, rfl, hb14, ht14⟩
  have b14 : After W13 w14 := hb14
  have hB14 := Nat.le_trans hB13 b14.size
  have k12 := fix_any w14 B hB14
  unfold TermPost at k12
  have HT14 := Lib.hid ht14
  have HZB := Lib.hid hzb
  clear k11 ht14 hb14 hzb hzo hzp hzq hzu hzl hzl2 cf3 cg3
  go_wp2_with fail
  refine k12.mono ?_
  rintro e w15 ⟨v15, rfl, hb15, ht15⟩
  have b15 : After w14 w15 := hb15
  have hB15 := Nat.le_trans hB14 b15.size
  have c15 : After w1 w15 := b2.trans (c27.trans (b8.trans (c913.trans (b14.trans b15))))
  have HN15 := Lib.hid (show ArgN w15 w.heap.size a from c15.heap HN1.out)
  have HT15 := Lib.hid ht15
  have HB := Lib.hid (show After w w15 from a1.trans c15)
  have HT15b := Lib.hid (HT14.out.below b15)
  have HBB := Lib.hid hB15
  obtain ⟨i0, hi, hz0, hz1, hz2⟩ : ∃ i, (Tryz.prog).info? 9 = some i ∧ i.zero = some (.string ⟨#[]⟩) ∧ i.size = 1 ∧ i.bytes = 16 := ⟨_, rfl, rfl, rfl, rfl⟩
  have hun : Tryz.prog.underlying 40 = some (.slice 9) := by kernel_rfl
  have hown : (w15.alloc (.cells #[str [117], str [118]] 9)).ownsRow w15.heap.size 9 1 (.slice (some ⟨w15.heap.size, 0, none⟩) 2 2) 2 [str [117], str [118]] := World.ownsRow_lit w15 #[str [117], str [118]] 2 (Nat.le_refl _) (by unfold maxLen; omega) rfl
  have hnl : ((FT.ns a).map str).length = a * 1 := by rw [List.length_map, ns_len a ha3, Nat.mul_one]
  have hnews : ∀ j u, ((FT.ns a).map str)[j]? = some u → (w15.alloc (.cells #[str [117], str [118]] 9)).cell? ((⟨w.heap.size, 0, none⟩ : Addr).add j) = some u := fun j u h => by
    have hj : j < (FT.ns a).length := by have := (List.getElem?_eq_some_iff.1 h).1; rwa [List.length_map] at this
    have hc := ArgN.cells (show ArgN (w15.alloc (.cells #[str [117], str [118]] 9)) w.heap.size a from After.heap (After.new _ _) HN15.out) ha3 j hj
    rw [List.getElem?_map, List.getElem?_eq_getElem hj] at h
    rw [List.getElem?_eq_getElem hj] at hc
    rw [show ((⟨w.heap.size, 0, none⟩ : Addr).add j) = ⟨w.heap.size, j, none⟩ by unfold Addr.add; split <;> simp_all, hc]
    simpa using h
  have hone : ∀ u ∈ (FT.ns a).map str, u.oneCell' = true := fun u hu => by obtain ⟨x, _, rfl⟩ := List.mem_map.1 hu; rfl
  have hmax : 2 + a ≤ maxLen := by unfold maxLen; omega
  have hm16 : (2 + a) * 16 ≤ 140737488355328 := by omega
  have hsz : w15.heap.size ≤ (w15.alloc (.cells #[str [117], str [118]] 9)).heap.size := by simp
  have HH := Lib.hid (And.intro hnl (And.intro hnews hone))
  clear k12 ht15 hb15 HT14 HT11 HT8 HT7 HT5 HTF HTG HS2 HU HV HW3 HW9 HW13 hnl hnews hone
  go_wp2_with (at_builtin; refine wpList_append_own _ rfl _ _ 40 rfl w15.heap.size 9 i0 (.string ⟨#[]⟩) 1 16 hun hi hz0 hz1 hz2 rfl (by decide) _ _ _ rfl hown ⟨w.heap.size, 0, none⟩ a 3 ((FT.ns a).map str) rfl HH.out.1 HH.out.2.1 HH.out.2.2 hmax hm16 hsz ?_; intro v16 w16 ho16 hg16 hiff; clear hiff; obtain ⟨bo, bn, bc, rfl⟩ := o_slice ho16; have HO16 := Lib.hid ho16; have HG16 := Lib.hid hg16; clear ho16 hg16)
  have b16 : After w15 w16 := by
    have hg := HG16.out
    refine ⟨hg.os, hg.tape, hg.output, by have := hg.size; simp at this; omega, fun k hk => ?_⟩
    rw [hg.block k (by simp; omega) (fun e => by injection e with e; change k = w15.heap.size at e; omega)]
    exact (below_new w15 _).block k hk
  have hB16 := Nat.le_trans HBB.out b16.size
  have hlist : StrsB w16.heap.size w16 (.slice bo bn bc) ([117] :: [118] :: FT.ns a) := strs_own ([117] :: [118] :: FT.ns a) (by simp [ns_len a ha3]; omega) (by simp) HO16.out
  have k16 := absAll_any w16 B ([117] :: [118] :: FT.ns a) _ (FT.recB F G a) v14 hlist (HT15b.out.below b16) hB16 (by simp [ns_len a ha3]; omega) HZB.out
  unfold TermPost at k16
  have hzz := size_absAll ([117] :: [118] :: FT.ns a) (FT.recB F G a) (by simp [ns_len a ha3]; omega) HZB.out
  clear hlist hown hun hi hz0 hz1 hz2 hmax hm16 hsz
  go_wp2_with fail
  refine k16.mono ?_
  rintro e w17 ⟨v17, rfl, hb17, ht17⟩
  have b17 : After w16 w17 := hb17
  have hB17 := Nat.le_trans hB16 b17.size
  have k17 := apply_any w17 B Tm.fix (FT.absAll ([117] :: [118] :: FT.ns a) (FT.recB F G a)) v15 v17 (HT15.out.below (b16.trans b17)) ht17 hB17 (by rw [FT.size_fix]; omega)
  clear k16 ht17 hb17
  go_wp2_with fail
  refine k17.mono ?_
  rintro e w18 ⟨v18, rfl, hb18, ht18⟩
  have b18 : After w17 w18 := hb18
  have HT18 := Lib.hid ht18
  clear k17 ht18
  go_wp2_with fail
  go_ret
  exact ⟨_, rfl, HB.out.trans (b16.trans (b17.trans b18)), HT18.out⟩

theorem recursion_any (w : World) (B : Nat) (f g : FT) (pf pg : Value) (hf : CV w B f pf) (hg : CV w B g pg) (hB : B ≤ w.heap.size) (h1 : FT.arity f ≤ 1) (hz : (FT.real f).size + (FT.real g).size ≤ 3000) :
    Calls Tryz.prog 114 #[pf, pg] w (NewPost w B (.r f g)) := by
  obtain ⟨a, ha⟩ : ∃ a, a = FT.arity f := ⟨_, rfl⟩
  rw [← ha] at h1
  obtain ⟨W1, hW1⟩ : ∃ W1, W1 = (w.alloc (.cells #[pf] 55 (0, 0))).alloc (.cells #[pg] 55 (0, 0)) := ⟨_, rfl⟩
  have a1 : After w W1 := by rw [hW1]; exact (After.new _ _).alloc _
  have hq : W1.heap[w.heap.size]? = some (.cells #[pf] 55 (0, 0)) := by rw [hW1]; exact heap_below2 w _ _
  have hr : W1.heap[w.heap.size + 1]? = some (.cells #[pg] 55 (0, 0)) := by rw [hW1]; exact heap_top2 w _ _
  have hB1 := Nat.le_trans hB a1.size
  have hf1 := hf.after a1
  have hg1 := hg.after a1
  have k1 := fun W (hW : After W1 W) => recR_any W B a f g pf pg (hf1.after hW) (hg1.after hW) (Nat.le_trans hB1 hW.size) ha.symm h1 hz
  unfold TermPost at k1
  have hself := After.refl W1
  obtain ⟨bf, Tf, xf, vf, rfl, hbf, hhf, _, _⟩ := hf1.fields
  obtain ⟨bg, Tg, xg, vg, rfl, hbg, _, _, _⟩ := hg1.fields
  rw [← ha] at hhf
  have c0 : ∀ W, After W1 W → W.cell? ⟨bf, 0, none⟩ = some (.int .i64 (a : Int)) := fun W hW => cell_later' (cell_of_heap (i := 0) hhf) W hW
  have q0 : ∀ W, After W1 W → W.cell? ⟨w.heap.size, 0, none⟩ = some (ptr bf) := fun W hW => cell_later' (cell_of_heap (i := 0) hq) W hW
  have r0 : ∀ W, After W1 W → W.cell? ⟨w.heap.size + 1, 0, none⟩ = some (ptr bg) := fun W hW => cell_later' (cell_of_heap (i := 0) hr) W hW
  have HF1 := Lib.hid hf1
  have HG1 := Lib.hid hg1
  have HQ := Lib.hid hq
  have HR := Lib.hid hr
  have HA := Lib.hid ha
  have HW1 := Lib.hid hW1
  clear hf hf1 hg hg1 hq hr ha hW1 hhf
  go_enter Tryz.func114, Tryz.ntmps114
  go_wp2_with fail
  rw [← HW1.out]
  go_region_held3 (fun W' => After W1 W') (first | assumption | exact hself.drew | exact After.alloc (by assumption) _ | go_keep)
    (first | (go_at_call 131; refine (k1 _ (by first | assumption | exact hself.drew)).mono ?_; rintro e x1 ⟨v1, rfl, hb1, ht1⟩; obtain ⟨T1, y1, rfl, _⟩ := ht1.asks; have hb1' : After W1 x1 := After.trans (by first | assumption | exact hself.drew) hb1; have HT := Lib.hid ht1; clear ht1))
  all_goals
    go_wp2_with fail
    go_ret
    rw [IntWalk.i64_in ((a : Int) + 1) (by omega), show ((a : Int) + 1) = ((FT.arity (.r f g) : Nat) : Int) by have := HA.out; simp only [FT.arity]; omega]
    have e := HA.out
    subst e
    exact NewPost.mk (t := .r f g) (a1.trans hb1') HT.out ⟨_, _, _, _, rfl, hB, hb1'.heap HQ.out, Nat.le_succ_of_le hB, hb1'.heap HR.out, HF1.out.after hb1', HG1.out.after hb1'⟩
end Go.Proofs.YtjomocjlnjgkeaaGreat

namespace Go.Proofs.YtjomocjlnjgkeaaGreat
open Go.RowKit

set_option maxHeartbeats 2000000
set_option maxRecDepth 100000

theorem composition_any (w : World) (B a : Nat) (f g0 t : FT) (gs : List FT) (pf sv : Value) (hf : CV w B f pf) (hgs : PartsV w B sv (g0 :: gs)) (hB : B ≤ w.heap.size) (ha : FT.arity g0 = a) (ha3 : a ≤ 3) (hn : gs.length ≤ 5)
    (hz : (compL (FT.real f) a (g0 :: gs)).size ≤ 3900) (hat : FT.arity t = a) (hrt : FT.real t = FT.absAll (FT.ns a) (compL (FT.real f) a (g0 :: gs)))
    (hft : ∀ (W : World) (q1 q2 : Nat), After w W → W.heap[q1]? = some (.cells #[sv] 149 (0, 0)) → W.heap[q2]? = some (.cells #[pf] 55 (0, 0)) → B ≤ q1 → B ≤ q2 →
      FnV W B t (.func (.func 129) #[] #[ptr q1, ptr q2])) :
    Calls Tryz.prog 112 #[pf, sv] w (NewPost w B t) := by
  obtain ⟨W1, hW1⟩ : ∃ W1, W1 = (w.alloc (.cells #[pf] 55 (0, 0))).alloc (.cells #[sv] 149 (0, 0)) := ⟨_, rfl⟩
  have a1 : After w W1 := by rw [hW1]; exact (After.new _ _).alloc _
  have hq : W1.heap[w.heap.size]? = some (.cells #[pf] 55 (0, 0)) := by rw [hW1]; exact heap_below2 w _ _
  have hr : W1.heap[w.heap.size + 1]? = some (.cells #[sv] 149 (0, 0)) := by rw [hW1]; exact heap_top2 w _ _
  have hB1 := Nat.le_trans hB a1.size
  have hf1 := hf.after a1
  have hg1 := hgs.after a1
  have k1 := fun W (hW : After W1 W) => compR_any W B a f g0 gs pf sv (hf1.after hW) (hg1.after hW) (Nat.le_trans hB1 hW.size) ha ha3 hn hz
  unfold TermPost at k1
  rw [← hrt] at k1
  have hself := After.refl W1
  obtain ⟨s, o, cap, v0, hsv, hcap, hc0, hv0⟩ := hg1.at 0 (by simp)
  obtain ⟨b0, T0, x0, vf0, rfl, hb0, hh0, _, _⟩ := hv0.fields
  rw [List.getElem_cons_zero, ha] at hh0
  rw [Nat.add_zero] at hc0
  have q0 : ∀ W, After W1 W → W.cell? ⟨w.heap.size, 0, none⟩ = some pf := fun W hW => cell_later' (cell_of_heap (i := 0) hq) W hW
  have r0 : ∀ W, After W1 W → W.cell? ⟨w.heap.size + 1, 0, none⟩ = some sv := fun W hW => cell_later' (cell_of_heap (i := 0) hr) W hW
  have s0 : ∀ W, After W1 W → W.cell? ⟨s, o, none⟩ = some (ptr b0) := fun W hW => cell_later' hc0 W hW
  have t0 : ∀ W, After W1 W → W.cell? ⟨b0, 0, none⟩ = some (.int .i64 (a : Int)) := fun W hW => cell_later' (cell_of_heap (i := 0) hh0) W hW
  have hlen : (0 : Int) < ((g0 :: gs).length : Int) := by rw [List.length_cons]; omega
  have HFT := Lib.hid hft
  have HQ := Lib.hid hq
  have HR := Lib.hid hr
  have HAT := Lib.hid hat
  have HW1 := Lib.hid hW1
  obtain ⟨bf, Tf, xf, vf, rfl, hbf, _, _, _⟩ := hf1.fields
  have hlenN : 0 < (g0 :: gs).length := by simp
  generalize hpl : (g0 :: gs).length = n at *
  clear hf hf1 hgs hg1 hq hr hat hW1 hh0 hc0 hv0 hft hpl
  subst hsv
  go_enter Tryz.func112, Tryz.ntmps112
  go_wp2_with fail
  rw [← HW1.out]
  go_region_held3 (fun W' => After W1 W') (first | assumption | exact hself.drew | exact After.alloc (by assumption) _ | go_keep)
    (first | (go_at_call 128; refine (k1 _ (by first | assumption | exact hself.drew)).mono ?_; rintro e x1 ⟨v1, rfl, hb1, ht1⟩; obtain ⟨T1, y1, rfl, _⟩ := ht1.asks; have hb1' : After W1 x1 := After.trans (by first | assumption | exact hself.drew) hb1; have HT := Lib.hid ht1; clear ht1))
  all_goals
    go_wp2_with fail
    go_ret
    have e := HAT.out
    subst e
    exact NewPost.mk (t := t) (a1.trans hb1') HT.out (HFT.out _ _ _ (a1.trans hb1') (hb1'.heap HR.out) (hb1'.heap HQ.out) (Nat.le_succ_of_le hB) hB)

theorem comp_c1 (w : World) (B : Nat) (f g : FT) (pf sv : Value) (hf : CV w B f pf) (hgs : PartsV w B sv [g]) (hB : B ≤ w.heap.size) (ha3 : FT.arity g ≤ 3)
    (hz : (compL (FT.real f) (FT.arity g) [g]).size ≤ 3900) : Calls Tryz.prog 112 #[pf, sv] w (NewPost w B (.c1 f g)) := by
  refine composition_any w B _ f g (.c1 f g) [] pf sv hf hgs hB rfl ha3 (by simp) hz rfl rfl (fun W q1 q2 ha h1 h2 b1 b2 => ?_)
  rcases hgs.after ha with ⟨h, _⟩ | ⟨s, o, cap, cs, T, fr, rfl, hl, hs, hh, hc⟩
  · cases h
  · obtain ⟨v1, e1, c1⟩ := hc 0 (by simp)
    exact ⟨q1, q2, s, o, cap, cs, T, fr, pf, v1, rfl, b1, h1, b2, h2, hf.after ha, hs, hh, e1, c1⟩

theorem comp_c2 (w : World) (B : Nat) (f g h : FT) (pf sv : Value) (hf : CV w B f pf) (hgs : PartsV w B sv [g, h]) (hB : B ≤ w.heap.size) (ha3 : FT.arity g ≤ 3)
    (hz : (compL (FT.real f) (FT.arity g) [g, h]).size ≤ 3900) : Calls Tryz.prog 112 #[pf, sv] w (NewPost w B (.c2 f g h)) := by
  refine composition_any w B _ f g (.c2 f g h) [h] pf sv hf hgs hB rfl ha3 (by simp) hz rfl rfl (fun W q1 q2 ha h1 h2 b1 b2 => ?_)
  rcases hgs.after ha with ⟨h, _⟩ | ⟨s, o, cap, cs, T, fr, rfl, hl, hs, hh, hc⟩
  · cases h
  · obtain ⟨v1, e1, c1⟩ := hc 0 (by simp)
    obtain ⟨v2, e2, c2⟩ := hc 1 (by simp)
    exact ⟨q1, q2, s, o, cap, cs, T, fr, pf, v1, v2, rfl, b1, h1, b2, h2, hf.after ha, hs, hh, e1, c1, e2, c2⟩

theorem comp_c3 (w : World) (B : Nat) (f g h i : FT) (pf sv : Value) (hf : CV w B f pf) (hgs : PartsV w B sv [g, h, i]) (hB : B ≤ w.heap.size) (ha3 : FT.arity g ≤ 3)
    (hz : (compL (FT.real f) (FT.arity g) [g, h, i]).size ≤ 3900) : Calls Tryz.prog 112 #[pf, sv] w (NewPost w B (.c3 f g h i)) := by
  refine composition_any w B _ f g (.c3 f g h i) [h, i] pf sv hf hgs hB rfl ha3 (by simp) hz rfl rfl (fun W q1 q2 ha h1 h2 b1 b2 => ?_)
  rcases hgs.after ha with ⟨h, _⟩ | ⟨s, o, cap, cs, T, fr, rfl, hl, hs, hh, hc⟩
  · cases h
  · obtain ⟨v1, e1, c1⟩ := hc 0 (by simp)
    obtain ⟨v2, e2, c2⟩ := hc 1 (by simp)
    obtain ⟨v3, e3, c3⟩ := hc 2 (by simp)
    exact ⟨q1, q2, s, o, cap, cs, T, fr, pf, v1, v2, v3, rfl, b1, h1, b2, h2, hf.after ha, hs, hh, e1, c1, e2, c2, e3, c3⟩

/-- Whether one is composed of these. -/
def searOk : List FT → Bool
  | [f] => decide (0 < FT.arity f)
  | _ => false
def recOk : List FT → Bool
  | [f, g] => decide (FT.arity g = FT.arity f + 2)
  | _ => false
def compOk : List FT → Bool
  | f :: g :: gs => decide (FT.arity f = gs.length + 1) && (g :: gs).all fun h => FT.arity h == FT.arity g
  | _ => false

def BitPost (w : World) (b : Bool) (e : Ending) (w' : World) : Prop := e = .returned (.bool b) ∧ After w w'

theorem searches_any (w : World) (B : Nat) (sv : Value) (ps : List FT) (h : PartsV w B sv ps) (hn : ps.length ≤ 1000) (ho : ∀ f ∈ ps, FT.arity f ≤ 3) :
    Calls Tryz.prog 115 #[sv] w (BitPost w (searOk ps)) := by
  obtain ⟨ao, cap, rfl⟩ := h.form
  match ps, h, hn, ho with
  | [], h, _, _ =>
    simp only [List.length_nil]
    go_enter Tryz.func115, Tryz.ntmps115
    go_wp2_with fail
    go_ret
    exact ⟨rfl, After.refl _⟩
  | [f], h, _, ho =>
    obtain ⟨s, o, cap', v0, hsv, hcap, hc0, hv0⟩ := h.at 0 (by simp)
    injection hsv with e1 e2 e3
    subst e1
    obtain ⟨b0, T0, x0, vf0, rfl, hb0, hh0, _, _⟩ := hv0.fields
    rw [List.getElem_cons_zero] at hh0
    rw [Nat.add_zero] at hc0
    have c0 := cell_of_heap (i := 0) hh0
    have ha := ho f (by simp)
    have he : searOk [f] = decide ((0 : Int) < (FT.arity f : Nat)) := by simp [searOk]
    rw [he]
    generalize FT.arity f = a at *
    clear h hv0 hh0 he ho
    simp only [List.length_cons, List.length_nil]
    go_enter Tryz.func115, Tryz.ntmps115
    go_wp2_with fail
    go_ret
    exact ⟨rfl, After.refl _⟩
  | f :: g :: gs, h, hn, ho =>
    have hl : ((f :: g :: gs).length : Int) = (gs.length : Int) + 2 := by simp; omega
    have hne : ¬ ((gs.length : Int) + 2 = 1) := by omega
    rw [List.length_cons, List.length_cons] at hn
    clear ho
    generalize gs.length = n at *
    go_enter Tryz.func115, Tryz.ntmps115
    go_wp2_with fail
    go_ret
    exact ⟨rfl, After.refl _⟩

theorem recurs_any (w : World) (B : Nat) (sv : Value) (ps : List FT) (h : PartsV w B sv ps) (hn : ps.length ≤ 1000) (ho : ∀ f ∈ ps, FT.arity f ≤ 3) :
    Calls Tryz.prog 113 #[sv] w (BitPost w (recOk ps)) := by
  obtain ⟨ao, cap, rfl⟩ := h.form
  by_cases h2 : ps.length = 2
  · obtain ⟨f, g, rfl⟩ : ∃ f g, ps = [f, g] := by
      match ps, h2 with
      | [f, g], _ => exact ⟨_, _, rfl⟩
    obtain ⟨s, o, cap', v0, hsv, hcap, hc0, hv0⟩ := h.at 0 (by simp)
    obtain ⟨s', o', cap'', v1, hsv', hcap', hc1, hv1⟩ := h.at 1 (by simp)
    injection hsv with e1 e2 e3
    subst e1
    injection hsv' with e1 e2 e3
    injection e1 with e1
    injection e1 with e1 e4
    subst e1
    subst e4
    obtain ⟨b0, T0, x0, vf0, rfl, hb0, hh0, _, _⟩ := hv0.fields
    obtain ⟨b1, T1, x1, vf1, rfl, hb1, hh1, _, _⟩ := hv1.fields
    rw [List.getElem_cons_zero] at hh0
    rw [List.getElem_cons_succ, List.getElem_cons_zero] at hh1
    rw [Nat.add_zero] at hc0
    have c0 := cell_of_heap (i := 0) hh0
    have c1 := cell_of_heap (i := 0) hh1
    have ha := ho f (by simp)
    have hb := ho g (by simp)
    have he : recOk [f, g] = (((FT.arity g : Nat) : Int) == ((FT.arity f : Nat) : Int) + 2) := by
      rw [show (((FT.arity g : Nat) : Int) == ((FT.arity f : Nat) : Int) + 2) = decide (((FT.arity g : Nat) : Int) = ((FT.arity f : Nat) : Int) + 2) from rfl]
      simp only [recOk]
      rw [decide_eq_decide]
      omega
    rw [he]
    generalize FT.arity f = a at *
    generalize FT.arity g = b at *
    clear h hv0 hv1 hh0 hh1 he ho h2
    simp only [List.length_cons, List.length_nil]
    go_enter Tryz.func113, Tryz.ntmps113
    go_wp2_with fail
    go_quiet (fail)
    go_wp2_with fail
    go_ret
    exact ⟨rfl, below_drews (After.refl w) _⟩
  · have he : recOk ps = false := by
      match ps, h2 with
      | [], _ => rfl
      | [_], _ => rfl
      | [_, _], h => exact absurd rfl h
      | _ :: _ :: _ :: _, _ => rfl
    rw [he]
    have hne : ¬ ((ps.length : Int) = 2) := by omega
    clear he h ho
    generalize ps.length = n at *
    go_enter Tryz.func113, Tryz.ntmps113
    go_wp2_with fail
    go_quiet (fail)
    go_wp2_with fail
    go_ret
    exact ⟨rfl, below_drews (After.refl w) _⟩

theorem compOk_cons (f g : FT) (gs : List FT) (h : FT.arity f = gs.length + 1) : compOk (f :: g :: gs) = (g :: gs).all fun h => FT.arity h == FT.arity g := by simp [compOk, h]

theorem composes_any (w : World) (B : Nat) (sv : Value) (ps : List FT) (h : PartsV w B sv ps) (hn : ps.length ≤ 1000) (ho : ∀ f ∈ ps, FT.arity f ≤ 3) :
    Calls Tryz.prog 111 #[sv] w (BitPost w (compOk ps)) := by
  obtain ⟨ao, cap, rfl⟩ := h.form
  by_cases h2 : ps.length < 2
  · have he : compOk ps = false := by
      match ps, h2 with
      | [], _ => rfl
      | [_], _ => rfl
    rw [he]
    have h2' : (ps.length : Int) < 2 := by omega
    clear he h ho
    generalize ps.length = n at *
    go_enter Tryz.func111, Tryz.ntmps111
    go_wp2_with fail
    go_ret
    exact ⟨rfl, After.refl w⟩
  · obtain ⟨f, g, gs, rfl⟩ : ∃ f g gs, ps = f :: g :: gs := by
      match ps, h2 with
      | f :: g :: gs, _ => exact ⟨_, _, _, rfl⟩
      | [], h => simp at h
      | [_], h => simp at h
    obtain ⟨s, o, cap', v0, hsv, hcap, hc0, hv0⟩ := h.at 0 (by simp)
    obtain ⟨s', o', cap'', v1, hsv', hcap', hc1, hv1⟩ := h.at 1 (by simp)
    injection hsv with e1 e2 e3
    subst e1
    subst e3
    injection hsv' with e1 e2 e3
    injection e1 with e1
    injection e1 with e1 e4
    subst e1
    subst e4
    subst e3
    have hcap1 : ¬ cap = 1 := by simp at hcap; omega
    obtain ⟨b0, T0, x0, vf0, rfl, hb0, hh0, _, _⟩ := hv0.fields
    obtain ⟨b1, T1, x1, vf1, rfl, hb1, hh1, _, _⟩ := hv1.fields
    rw [List.getElem_cons_zero] at hh0
    rw [List.getElem_cons_succ, List.getElem_cons_zero] at hh1
    rw [Nat.add_zero] at hc0
    have c0 : w.cell? ⟨b0, 0, none⟩ = some (.int .i64 (FT.arity f : Nat)) := cell_of_heap (i := 0) hh0
    have c1 : ∀ W, After w W → W.cell? ⟨b1, 0, none⟩ = some (.int .i64 (FT.arity g : Nat)) := fun W hW => cell_later' (cell_of_heap (i := 0) hh1) W hW
    have d1 : ∀ W, After w W → W.cell? ⟨s, o + 1, none⟩ = some (ptr b1) := fun W hW => cell_later' hc1 W hW
    have ha := ho f (by simp)
    have hb := ho g (by simp)
    obtain ⟨n, hnn⟩ : ∃ n, n = gs.length := ⟨_, rfl⟩
    have hl : (f :: g :: gs).length = n + 2 := by simp [hnn]
    have hl' : ((f :: g :: gs).length : Int) = (n : Int) + 2 := by omega
    have hself := After.refl w
    have HP := Lib.hid h
    by_cases hfa : FT.arity f = n + 1
    · have hcOk := Lib.hid (compOk_cons f g gs (by omega))
      have HN := Lib.hid hnn
      have hl2 : ¬ ((n : Int) + 2 < 2) := by omega
      have hcap2 : (1 : Int) ≤ (n : Int) + 2 := by omega
      rw [hl] at *
      clear h hv0 hv1 hh0 hh1 hc1 hnn hl h2 hl'
      have hn3 : n ≤ 2 := by omega
      have hx : ((n : Int) + 1 != (n : Int) + 2 - 1) = false := by simp; omega
      generalize hfa' : FT.arity f = a at *
      subst hfa
      go_enter Tryz.func111, Tryz.ntmps111
      go_wp2_with fail
      clear c0 hc0 hx
      go_loopw [4, 23] (fun _ i wr => ∃ k : Nat, i = .int .i64 k ∧ k ≤ n + 1 ∧ Hid (∀ j (hj : j < (g :: gs).length), j < k → FT.arity ((g :: gs)[j]) = FT.arity g) ∧ After w wr) (fun _ i _ => n + 1 - (intOf i).toNat)
      case atStart => exact ⟨0, rfl, by omega, fun j _ h => absurd h (by omega), After.refl w⟩
      case round =>
        obtain ⟨k, rfl, hk, HE, hr⟩ := hrel
        by_cases hlt : k < n + 1
        · have hgl : k < (g :: gs).length := by rw [List.length_cons, ← HN.out]; exact hlt
          obtain ⟨s', o', cap3, vk, hsv, _, hck, hvk⟩ := (HP.out.after hr).at (k + 1) (by simp at hgl ⊢; omega)
          injection hsv with e1 e2 e3
          injection e1 with e1
          injection e1 with e1 e4
          subst e1
          subst e4
          subst e3
          clear e2
          rw [List.getElem_cons_succ] at hvk
          obtain ⟨bk, Tk, xk, vfk, rfl, hbk, hhk, _, _⟩ := hvk.fields
          have ck : ∀ W, After wr W → W.cell? ⟨bk, 0, none⟩ = some (.int .i64 (FT.arity ((g :: gs)[k]) : Nat)) := fun W hW => cell_later' (cell_of_heap (i := 0) hhk) W hW
          have c1' : ∀ W, After wr W → W.cell? ⟨b1, 0, none⟩ = some (.int .i64 (FT.arity g : Nat)) := fun W hW => c1 W (hr.trans hW)
          have d1' : ∀ W, After wr W → W.cell? ⟨s, o + 1, none⟩ = some (ptr b1) := fun W hW => d1 W (hr.trans hW)
          rw [show o + (k + 1) = o + 1 + k by omega] at hck
          have hselfr := After.refl wr
          have hkn : (k : Int) < (n : Int) + 1 := by omega
          clear hvk hhk c1 d1
          have hm1 : (1 : Int) < (n : Int) + 2 := by omega
          have hgz : FT.arity ((g :: gs)[k]) ≤ 3 := ho _ (by simp only [List.mem_cons]; exact Or.inr (List.mem_cons.1 (List.getElem_mem hgl)))
          by_cases hak : FT.arity ((g :: gs)[k]) = FT.arity g
          · have HAK := Lib.hid hak
            rw [hak] at ck
            have hself2 : ((FT.arity g : Int) != (FT.arity g : Int)) = false := by simp
            have hnext : ∀ j (hj : j < (g :: gs).length), j < k + 1 → FT.arity ((g :: gs)[j]) = FT.arity g := fun j hj h => by
              by_cases hjk : j = k
              · subst hjk; exact HAK.out
              · exact HE.out j hj (by omega)
            have HX := Lib.hid hnext
            clear hak ho HE hnext hgz
            generalize FT.arity g = m at *
            go_wp2_with fail
            go_quiet (fail)
            go_wp2_with fail
            go_roundw
            case rel => exact ⟨k + 1, by go_num, by omega, HX, below_drews hr _⟩
            case measure => simp [intOf]; omega
          · have hne : ((FT.arity ((g :: gs)[k]) : Int) != (FT.arity g : Int)) = true := by simp; omega
            have hfin : compOk (f :: g :: gs) = false := by
              rw [hcOk.out, List.all_eq_false]
              exact ⟨(g :: gs)[k], List.getElem_mem hgl, by simpa using hak⟩
            rw [hfin]
            clear hak ho HE hgz hfin
            generalize FT.arity g = m at *
            generalize FT.arity ((g :: gs)[k]) = mk at *
            go_wp2_with fail
            go_quiet (fail)
            go_wp2_with fail
            go_ret
            exact ⟨rfl, below_drews hr _⟩
        · obtain rfl : k = n + 1 := by omega
          have hfin : compOk (f :: g :: gs) = true := by
            rw [hcOk.out, List.all_eq_true]
            intro h hh
            obtain ⟨j, hj, rfl⟩ := List.getElem_of_mem hh
            rw [HE.out j hj (by have := HN.out; rw [List.length_cons] at hj; omega)]
            simp
          have HF := Lib.hid hfin
          clear hfin ho HE
          go_wp2_with fail
          go_ret
          exact ⟨by rw [HF.out]; rfl, hr⟩
    · have hfin : compOk (f :: g :: gs) = false := by simp only [compOk]; rw [decide_eq_false (by omega)]; rfl
      rw [hfin]
      have hl2 : ¬ ((n : Int) + 2 < 2) := by omega
      have hn1 : n ≤ 1000 := by omega
      have hx : ((FT.arity f : Int) != (n : Int) + 2 - 1) = true := by simp; omega
      rw [hl] at *
      clear h hv0 hv1 hh0 hh1 hc1 hnn hl h2 hl' ho HP hfin
      generalize FT.arity f = a at *
      go_enter Tryz.func111, Tryz.ntmps111
      go_wp2_with fail
      go_ret
      exact ⟨rfl, After.refl w⟩
end Go.Proofs.YtjomocjlnjgkeaaGreat

namespace Go.Proofs.YtjomocjlnjgkeaaGreat
open Go.RowKit

set_option maxHeartbeats 2000000
set_option maxRecDepth 100000

def sumL (ps : List FT) (k : Nat) : Nat := ((ps.take k).map FT.size).sum
def allL (ps : List FT) (k : Nat) : Bool := (ps.take k).all FT.total

theorem sumL_succ (ps : List FT) (k : Nat) (h : k < ps.length) : sumL ps (k + 1) = sumL ps k + FT.size ps[k] := by
  unfold sumL
  rw [List.take_succ_eq_append_getElem h, List.map_append, List.sum_append]
  rfl
theorem allL_succ (ps : List FT) (k : Nat) (h : k < ps.length) : allL ps (k + 1) = (allL ps k && FT.total ps[k]) := by
  unfold allL
  rw [List.take_succ_eq_append_getElem h, List.all_append]
  simp only [List.all_cons, List.all_nil, Bool.and_true]
theorem sumL_le (ps : List FT) (k : Nat) : sumL ps k ≤ (ps.map FT.size).sum := by
  have := sum_take (ps.map FT.size) k
  rw [← List.map_take] at this
  exact this

/-- The cells of a compiled function text that is being counted. -/
def Cnt (w : World) (b : Nat) (a : Int) (n : Nat) (tot : Bool) (vr vf : Value) : Prop :=
  w.heap[b]? = some (.cells #[.int .i64 a, .int .i64 (n : Nat), .bool tot, vr, vf] 60 (0, 0))

theorem Cnt.set1 {w : World} {b n m : Nat} {a : Int} {tot : Bool} {vr vf : Value} (h : Cnt w b a n tot vr vf) : Cnt (w.setCell ⟨b, 1, none⟩ (.int .i64 (m : Nat))) b a m tot vr vf := by
  unfold Cnt at *
  simp [World.setCell, Array.getElem?_modify, h]
theorem Cnt.set2 {w : World} {b n : Nat} {a : Int} {tot u : Bool} {vr vf : Value} (h : Cnt w b a n tot vr vf) : Cnt (w.setCell ⟨b, 2, none⟩ (.bool u)) b a n u vr vf := by
  unfold Cnt at *
  simp [World.setCell, Array.getElem?_modify, h]
theorem Cnt.c1 {w : World} {b n : Nat} {a : Int} {tot : Bool} {vr vf : Value} (h : Cnt w b a n tot vr vf) : w.cell? ⟨b, 1, none⟩ = some (.int .i64 (n : Nat)) := cell_of_heap (i := 1) h
theorem Cnt.c2 {w : World} {b n : Nat} {a : Int} {tot : Bool} {vr vf : Value} (h : Cnt w b a n tot vr vf) : w.cell? ⟨b, 2, none⟩ = some (.bool tot) := cell_of_heap (i := 2) h
theorem Cnt.fr {w : World} {b n : Nat} {a : Int} {tot : Bool} {vr vf : Value} (h : Cnt w b a n tot vr vf) (i : Nat) : w.frozen? ⟨b, i, none⟩ = false := by unfold Cnt at h; simp [World.frozen?, h]

/-- Parts but for the first one. -/
theorem PartsV.tail {w : World} {B s o n cap : Nat} {f g : FT} {gs : List FT} (h : PartsV w B (.slice (some ⟨s, o, none⟩) n cap) (f :: g :: gs)) : PartsV w B (.slice (some ⟨s, o + 1, none⟩) (gs.length + 1) (cap - 1)) (g :: gs) := by
  rcases h with ⟨h, _⟩ | ⟨s', o', cap', cs, T, fr, hv, hl, hs, hh, hc⟩
  · cases h
  · injection hv with e1 e2 e3
    injection e1 with e1
    injection e1 with e1 e4
    subst e1
    subst e4
    subst e3
    refine Or.inr ⟨s, o + 1, cap - 1, cs, T, fr, rfl, by simp at hl ⊢; omega, hs, hh, fun j hj => ?_⟩
    obtain ⟨v, h1, h2⟩ := hc (j + 1) (by simp at hj ⊢; omega)
    refine ⟨v, by rw [show o + 1 + j = o + (j + 1) by omega]; exact h1, h2⟩

theorem comb_m (w : World) (B : Nat) (sv : Value) (f : FT) (h : PartsV w B sv [f]) (hB : B ≤ w.heap.size) (ho : FT.ok f) (hs : FT.size f ≤ 39) (h0 : 0 < FT.arity f) (hz : (FT.real f).size ≤ 3000)
    (hy : (FT.absAll [[117], [118]] (FT.seaB (FT.real f) (FT.arity f - 1))).size ≤ 3800) :
    Calls Tryz.prog 97 #[str [109], sv] w (WFPost w B (some (.m f))) := by
  have h3 := FT.arity_le ho
  obtain ⟨ps, hps⟩ : ∃ ps, ps = [f] := ⟨_, rfl⟩
  have hpl : ps.length = 1 := by rw [hps]; rfl
  have hpf : ps[0]'(by omega) = f := by simp [hps]
  rw [← hps] at h
  have hsum : (ps.map FT.size).sum ≤ 39 := by rw [hps]; simpa using hs
  obtain ⟨W1, hW1⟩ : ∃ W1, W1 = w.alloc (.cells #[.int .i64 0, .int .i64 0, .bool false, .nilIface, .nilFunc] 60 (0, 0)) := ⟨_, rfl⟩
  have a1 : After w W1 := by rw [hW1]; exact After.new _ _
  have hP1 := h.after a1
  have k1 := searches_any W1 B sv ps hP1 (by omega) (fun g hg => by rw [hps] at hg; simp at hg; rw [hg]; exact h3)
  have hsok : searOk ps = true := by rw [hps]; simp [searOk, h0]
  rw [hsok] at k1
  have hB1 := Nat.le_trans hB a1.size
  obtain ⟨s, o, cap, v0, rfl, hcap, hc0, hv0⟩ := hP1.at 0 (by omega)
  rw [hpf] at hv0
  rw [Nat.add_zero] at hc0
  have c0 : ∀ W, After W1 W → W.cell? ⟨s, o, none⟩ = some v0 := fun W hW => cell_later' hc0 W hW
  have k2 := fun W (hW : After W1 W) => search_any W B f v0 (hv0.after hW) (Nat.le_trans hB1 hW.size) h0 h3 hz hy
  rw [hpl] at k1 h hcap ⊢
  have HP := Lib.hid h
  have HW1 := Lib.hid hW1
  have HSZ := Lib.hid (show 1 + sumL ps 1 = FT.size (.m f) by rw [hps]; simp [sumL, FT.size])
  have HTO := Lib.hid (show (false && allL ps 1) = FT.total (.m f) by rw [hps]; simp [allL, FT.total])
  have hself := After.refl W1
  have HPL := Lib.hid hpl
  obtain ⟨bf, Tf, xf, vf, rfl, hbf, _, _, _⟩ := hv0.fields
  clear hP1 hv0 hc0 hps hW1 hsok h hpf hpl
  go_enter Tryz.func97, Tryz.ntmps97
  go_wp2_with fail
  rw [← HW1.out]
  refine k1.mono ?_
  rintro e w2 ⟨rfl, ha2⟩
  go_wp2_with fail
  refine (k2 _ ha2).mono ?_
  rintro e w3 ⟨b, vr, vf, rfl, ha3, hb, hh, hsx⟩
  have hC : Cnt w3 b (FT.arity (.m f)) 0 false vr vf := hh
  have f1 := hC.fr 1
  have f2 := hC.fr 2
  have d1 : w3.cell? ⟨b, 1, none⟩ = some (.int .i64 0) := hC.c1
  have d2 : w3.cell? ⟨b, 2, none⟩ = some (.bool false) := hC.c2
  have HC := Lib.hid hC
  have HSX := Lib.hid hsx
  have aw3 : After w w3 := a1.trans (ha2.trans ha3)
  have hbw : w.heap.size ≤ b := Nat.le_trans (Nat.le_trans a1.size (After.le ha2)) hb
  clear hh hsx hC k1 k2 c0
  go_wp2_with fail
  clear f1 f2 d1 d2
  go_loopw [8, 59] (fun _ i wr => ∃ k : Nat, i = .int .i64 k ∧ k ≤ 1 ∧ Hid (Cnt wr b (FT.arity (.m f)) (1 + sumL ps k) (false && allL ps k) vr vf) ∧ w3.grownBy wr (some b)) (fun _ i _ => 1 - (intOf i).toNat)
  case atStart => exact ⟨0, rfl, by omega, HC.out.set1.set2, grown_trans (grown_setx _ _ _ _) (grown_setx _ _ _ _)⟩
  case round =>
    obtain ⟨k, rfl, hk, HK, hg⟩ := hrel
    have awr := after_own aw3 hbw hg
    by_cases hlt : k < 1
    · have hkl : k < ps.length := by rw [HPL.out]; exact hlt
      obtain ⟨s', o', cap3, vk, hsv, _, hck, hvk⟩ := HP.out.at k hkl
      injection hsv with e1 e2 e3
      injection e1 with e1
      injection e1 with e1 e4
      subst e1
      subst e4
      subst e3
      clear e2
      obtain ⟨bk, Tk, xk, vfk, rfl, hbk, hhk, _, _⟩ := hvk.fields
      have hck' : wr.cell? ⟨s, o + k, none⟩ = some (ptr bk) := cell_later' hck wr awr
      have hbkw : bk < w.heap.size := (Array.getElem?_eq_some_iff.1 hhk).1
      have p1 : ∀ W, After w W → W.cell? ⟨bk, 1, none⟩ = some (.int .i64 (FT.size ps[k] : Nat)) := fun W hW => cell_later' (cell_of_heap (i := 1) hhk) W hW
      have p2 : ∀ W, After w W → W.cell? ⟨bk, 2, none⟩ = some (.bool (FT.total ps[k])) := fun W hW => cell_later' (cell_of_heap (i := 2) hhk) W hW
      have q1 := HK.out.c1
      have f1 := HK.out.fr 1
      have hs1 := sumL_le ps k
      have hs2 := sumL_le ps (k + 1)
      rw [sumL_succ ps k hkl] at hs2
      have HS := Lib.hid (sumL_succ ps k hkl)
      have HA := Lib.hid (allL_succ ps k hkl)
      generalize hsk : sumL ps k = sk at *
      generalize hak : allL ps k = ak at *
      generalize hszk : FT.size ps[k] = zk at *
      generalize htk : FT.total ps[k] = tk at *
      clear hhk hvk hck
      go_wp2_with fail
      go_region
      have hc : (1 : Int) + (sk : Int) + (zk : Int) = ((1 + sk + zk : Nat) : Int) := by omega
      rw [hc]
      obtain ⟨W2, hW2⟩ : ∃ W2, W2 = (wr.setCell ⟨b, 1, none⟩ (.int .i64 ((1 + sk + zk : Nat) : Int))).drew := ⟨_, rfl⟩
      have hK2 : Cnt W2 b (FT.arity (.m f)) (1 + sk + zk) (false && ak) vr vf := by rw [hW2]; exact HK.out.set1
      have hg2 : w3.grownBy W2 (some b) := by rw [hW2]; exact grown_trans hg (grown_trans (grown_setx _ _ _ _) (grown_drawn _ _ 1))
      have aW2 := after_own aw3 hbw hg2
      have q2 := hK2.c2
      have f2 := hK2.fr 2
      have HK2 := Lib.hid hK2
      rw [← hW2]
      clear hK2 q1 f1 hc hW2 hg
      cases hak2 : (false && ak)
      all_goals
        rw [hak2] at q2
        go_wp2_with fail
        go_roundw
        case measure => simp [intOf]; omega
        case rel =>
          refine ⟨k + 1, by go_num, by omega, ?_, grown_trans hg2 (grown_setx _ _ _ _)⟩
          show Cnt _ _ _ _ _ _ _
          rw [HS.out, HA.out, ← Bool.and_assoc, hak2, ← Nat.add_assoc]
          first
            | (rw [Bool.false_and]; exact HK2.out.set2)
            | (rw [Bool.true_and]; exact HK2.out.set2)
    · obtain rfl : k = 1 := by omega
      go_wp2_with fail
      go_ret2
      refine ⟨_, rfl, awr, fun t ht => ?_⟩
      obtain rfl := Option.some.inj ht
      obtain ⟨g1, g2⟩ := HSX.out wr (fun k _ hk hne => hg.block k hk (fun e => by injection e with e; exact hne e))
      have hK := HK.out
      rw [HSZ.out, HTO.out] at hK
      exact ⟨b, vr, vf, rfl, Nat.le_trans hB hbw, hK, g1, g2⟩

theorem comb_r (w : World) (B : Nat) (sv : Value) (f g : FT) (h : PartsV w B sv [f, g]) (hB : B ≤ w.heap.size) (ho : ∀ q ∈ [f, g], FT.ok q) (hs : ([f, g].map FT.size).sum ≤ 39) (hok : recOk [f, g] = true) (hz1 : FT.arity f ≤ 1) (hz : (FT.real f).size + (FT.real g).size ≤ 3000) :
    Calls Tryz.prog 97 #[str [114], sv] w (WFPost w B (some (.r f g))) := by
  have h3 : ∀ q ∈ [f, g], FT.arity q ≤ 3 := fun q hq => FT.arity_le (ho q hq)
  obtain ⟨ps, hps⟩ : ∃ ps, ps = [f, g] := ⟨_, rfl⟩
  have hpl : ps.length = 2 := by rw [hps]; rfl
  have h' := h
  rw [← hps] at h
  have hsum : (ps.map FT.size).sum ≤ 39 := by rw [hps]; exact hs
  obtain ⟨W1, hW1⟩ : ∃ W1, W1 = w.alloc (.cells #[.int .i64 0, .int .i64 0, .bool false, .nilIface, .nilFunc] 60 (0, 0)) := ⟨_, rfl⟩
  have a1 : After w W1 := by rw [hW1]; exact After.new _ _
  have hP1 := h'.after a1
  have k1 := recurs_any W1 B sv [f, g] hP1 (by simp) h3
  rw [hok] at k1
  have hB1 := Nat.le_trans hB a1.size
  obtain ⟨s, o, cap, v0, rfl, hcap, hc0, hv0⟩ := hP1.at 0 (by simp)
  rw [Nat.add_zero] at hc0
  have c0 : ∀ W, After W1 W → W.cell? ⟨s, o, none⟩ = some v0 := fun W hW => cell_later' hc0 W hW
  obtain ⟨s', o', cap', v1, hsv, _, hc1, hv1⟩ := hP1.at 1 (by simp)
  injection hsv with e1 e2 e3
  injection e1 with e1
  injection e1 with e1 e4
  subst e1
  subst e4
  subst e3
  clear e2
  have c1 : ∀ W, After W1 W → W.cell? ⟨s, o + 1, none⟩ = some v1 := fun W hW => cell_later' hc1 W hW
  have k2 := fun W (hW : After W1 W) => recursion_any W B f g v0 v1 (hv0.after hW) (hv1.after hW) (Nat.le_trans hB1 hW.size) hz1 hz
  obtain ⟨bg, Tg, xg, vg, rfl, hbg, _, _, _⟩ := hv1.fields
  clear hv1 hc1
  have HPL := Lib.hid hpl
  have HP := Lib.hid h
  have HW1 := Lib.hid hW1
  have HSZ := Lib.hid (show 1 + sumL ps 2 = FT.size (.r f g) by rw [hps]; simp [sumL, FT.size])
  have HTO := Lib.hid (show (true && allL ps 2) = FT.total (.r f g) by rw [hps]; simp [allL, FT.total])
  have hself := After.refl W1
  obtain ⟨bf, Tf, xf, vf, rfl, hbf, _, _, _⟩ := hv0.fields
  clear hP1 hv0 hc0 hps hW1 h hpl h' ho h3 hs hok
  simp only [List.length_cons, List.length_nil, Nat.zero_add, Nat.reduceAdd] at k1 HP hcap k2 ⊢
  go_enter Tryz.func97, Tryz.ntmps97
  go_wp2_with fail
  rw [← HW1.out]
  refine k1.mono ?_
  rintro e w2 ⟨rfl, ha2⟩
  go_wp2_with fail
  go_region_held3 (fun W' => After W1 W') (first | assumption | exact ha2.drew | go_keep)
    (first | (go_at_call 114; refine (k2 _ (by first | assumption | exact ha2.drew)).mono ?_; rintro e w3 ⟨b, vr, vf, rfl, ha3, hb, hh, hsx⟩; have ha3' : After W1 w3 := After.trans (by first | assumption | exact ha2.drew) ha3; have hbW : W1.heap.size ≤ b := Nat.le_trans (After.le (by first | assumption | exact ha2.drew)) hb; clear ha3 hb))
  have hC : Cnt w3 b (FT.arity (.r f g)) 0 false vr vf := hh
  have f1 := hC.fr 1
  have f2 := hC.fr 2
  have d1 : w3.cell? ⟨b, 1, none⟩ = some (.int .i64 0) := hC.c1
  have d2 : w3.cell? ⟨b, 2, none⟩ = some (.bool false) := hC.c2
  have HC := Lib.hid hC
  have HSX := Lib.hid hsx
  have aw3 : After w w3 := a1.trans ha3'
  have hbw : w.heap.size ≤ b := Nat.le_trans a1.size hbW
  clear hh hsx hC k1 k2 c0
  go_wp2_with fail
  clear f1 f2 d1 d2
  go_loopw [8, 59] (fun _ i wr => ∃ k : Nat, i = .int .i64 k ∧ k ≤ 2 ∧ Hid (Cnt wr b (FT.arity (.r f g)) (1 + sumL ps k) (true && allL ps k) vr vf) ∧ w3.grownBy wr (some b)) (fun _ i _ => 2 - (intOf i).toNat)
  case atStart => exact ⟨0, rfl, by omega, HC.out.set1.set2, grown_trans (grown_setx _ _ _ _) (grown_setx _ _ _ _)⟩
  case round =>
    obtain ⟨k, rfl, hk, HK, hg⟩ := hrel
    have awr := after_own aw3 hbw hg
    by_cases hlt : k < 2
    · have hkl : k < ps.length := by rw [HPL.out]; exact hlt
      obtain ⟨s', o', cap3, vk, hsv, _, hck, hvk⟩ := HP.out.at k hkl
      injection hsv with e1 e2 e3
      injection e1 with e1
      injection e1 with e1 e4
      subst e1
      subst e4
      subst e3
      clear e2
      obtain ⟨bk, Tk, xk, vfk, rfl, hbk, hhk, _, _⟩ := hvk.fields
      have hck' : wr.cell? ⟨s, o + k, none⟩ = some (ptr bk) := cell_later' hck wr awr
      have hbkw : bk < w.heap.size := (Array.getElem?_eq_some_iff.1 hhk).1
      have p1 : ∀ W, After w W → W.cell? ⟨bk, 1, none⟩ = some (.int .i64 (FT.size ps[k] : Nat)) := fun W hW => cell_later' (cell_of_heap (i := 1) hhk) W hW
      have p2 : ∀ W, After w W → W.cell? ⟨bk, 2, none⟩ = some (.bool (FT.total ps[k])) := fun W hW => cell_later' (cell_of_heap (i := 2) hhk) W hW
      have q1 := HK.out.c1
      have f1 := HK.out.fr 1
      have hs1 := sumL_le ps k
      have hs2 := sumL_le ps (k + 1)
      rw [sumL_succ ps k hkl] at hs2
      have HS := Lib.hid (sumL_succ ps k hkl)
      have HA := Lib.hid (allL_succ ps k hkl)
      generalize hsk : sumL ps k = sk at *
      generalize hak : allL ps k = ak at *
      generalize hszk : FT.size ps[k] = zk at *
      generalize htk : FT.total ps[k] = tk at *
      clear hhk hvk hck
      go_wp2_with fail
      go_region
      have hc : (1 : Int) + (sk : Int) + (zk : Int) = ((1 + sk + zk : Nat) : Int) := by omega
      rw [hc]
      obtain ⟨W2, hW2⟩ : ∃ W2, W2 = (wr.setCell ⟨b, 1, none⟩ (.int .i64 ((1 + sk + zk : Nat) : Int))).drew := ⟨_, rfl⟩
      have hK2 : Cnt W2 b (FT.arity (.r f g)) (1 + sk + zk) (true && ak) vr vf := by rw [hW2]; exact HK.out.set1
      have hg2 : w3.grownBy W2 (some b) := by rw [hW2]; exact grown_trans hg (grown_trans (grown_setx _ _ _ _) (grown_drawn _ _ 1))
      have aW2 := after_own aw3 hbw hg2
      have q2 := hK2.c2
      have f2 := hK2.fr 2
      have HK2 := Lib.hid hK2
      rw [← hW2]
      clear hK2 q1 f1 hc hW2 hg
      cases hak2 : (true && ak)
      all_goals
        rw [hak2] at q2
        go_wp2_with fail
        go_roundw
        case measure => simp [intOf]; omega
        case rel =>
          refine ⟨k + 1, by go_num, by omega, ?_, grown_trans hg2 (grown_setx _ _ _ _)⟩
          show Cnt _ _ _ _ _ _ _
          rw [HS.out, HA.out, ← Bool.and_assoc, hak2, ← Nat.add_assoc]
          first
            | (rw [Bool.false_and]; exact HK2.out.set2)
            | (rw [Bool.true_and]; exact HK2.out.set2)
    · obtain rfl : k = 2 := by omega
      go_wp2_with fail
      go_ret2
      refine ⟨_, rfl, awr, fun t ht => ?_⟩
      obtain rfl := Option.some.inj ht
      obtain ⟨g1, g2⟩ := HSX.out wr (fun k _ hk hne => hg.block k hk (fun e => by injection e with e; exact hne e))
      have hK := HK.out
      rw [HSZ.out, HTO.out] at hK
      exact ⟨b, vr, vf, rfl, Nat.le_trans hB hbw, hK, g1, g2⟩

theorem comb_c1 (w : World) (B : Nat) (sv : Value) (f g : FT) (h : PartsV w B sv [f, g]) (hB : B ≤ w.heap.size) (ho : ∀ q ∈ [f, g], FT.ok q) (hs : ([f, g].map FT.size).sum ≤ 39) (hok : compOk [f, g] = true) (hz : (compL (FT.real f) (FT.arity g) [g]).size ≤ 3900) :
    Calls Tryz.prog 97 #[str [99], sv] w (WFPost w B (some (.c1 f g))) := by
  have h3 : ∀ q ∈ [f, g], FT.arity q ≤ 3 := fun q hq => FT.arity_le (ho q hq)
  obtain ⟨ps, hps⟩ : ∃ ps, ps = [f, g] := ⟨_, rfl⟩
  have hpl : ps.length = 2 := by rw [hps]; rfl
  have h' := h
  rw [← hps] at h
  have hsum : (ps.map FT.size).sum ≤ 39 := by rw [hps]; exact hs
  obtain ⟨W1, hW1⟩ : ∃ W1, W1 = w.alloc (.cells #[.int .i64 0, .int .i64 0, .bool false, .nilIface, .nilFunc] 60 (0, 0)) := ⟨_, rfl⟩
  have a1 : After w W1 := by rw [hW1]; exact After.new _ _
  have hP1 := h'.after a1
  have k1 := composes_any W1 B sv [f, g] hP1 (by simp) h3
  rw [hok] at k1
  have hB1 := Nat.le_trans hB a1.size
  obtain ⟨s, o, cap, v0, rfl, hcap, hc0, hv0⟩ := hP1.at 0 (by simp)
  rw [Nat.add_zero] at hc0
  have c0 : ∀ W, After W1 W → W.cell? ⟨s, o, none⟩ = some v0 := fun W hW => cell_later' hc0 W hW
  have hcap1 : ¬ cap = 1 := by simp at hcap; omega
  have k2 := fun W (hW : After W1 W) => comp_c1 W B f g v0 _ (hv0.after hW) (hP1.tail.after hW) (Nat.le_trans hB1 hW.size) (h3 g (by simp)) hz
  have HPL := Lib.hid hpl
  have HP := Lib.hid h
  have HW1 := Lib.hid hW1
  have HSZ := Lib.hid (show 1 + sumL ps 2 = FT.size (.c1 f g) by rw [hps]; simp [sumL, FT.size])
  have HTO := Lib.hid (show (true && allL ps 2) = FT.total (.c1 f g) by rw [hps]; simp [allL, FT.total])
  have hself := After.refl W1
  obtain ⟨bf, Tf, xf, vf, rfl, hbf, _, _, _⟩ := hv0.fields
  clear hP1 hv0 hc0 hps hW1 h hpl h' ho h3 hs hok
  simp only [List.length_cons, List.length_nil, Nat.zero_add, Nat.reduceAdd] at k1 HP hcap k2 ⊢
  go_enter Tryz.func97, Tryz.ntmps97
  go_wp2_with fail
  rw [← HW1.out]
  refine k1.mono ?_
  rintro e w2 ⟨rfl, ha2⟩
  go_wp2_with fail
  go_region_held3 (fun W' => After W1 W') (first | assumption | exact ha2.drew | go_keep)
    (first | (go_at_call 112; refine (k2 _ (by first | assumption | exact ha2.drew)).mono ?_; rintro e w3 ⟨b, vr, vf, rfl, ha3, hb, hh, hsx⟩; have ha3' : After W1 w3 := After.trans (by first | assumption | exact ha2.drew) ha3; have hbW : W1.heap.size ≤ b := Nat.le_trans (After.le (by first | assumption | exact ha2.drew)) hb; clear ha3 hb))
  have hC : Cnt w3 b (FT.arity (.c1 f g)) 0 false vr vf := hh
  have f1 := hC.fr 1
  have f2 := hC.fr 2
  have d1 : w3.cell? ⟨b, 1, none⟩ = some (.int .i64 0) := hC.c1
  have d2 : w3.cell? ⟨b, 2, none⟩ = some (.bool false) := hC.c2
  have HC := Lib.hid hC
  have HSX := Lib.hid hsx
  have aw3 : After w w3 := a1.trans ha3'
  have hbw : w.heap.size ≤ b := Nat.le_trans a1.size hbW
  clear hh hsx hC k1 k2 c0
  go_wp2_with fail
  clear f1 f2 d1 d2
  go_loopw [8, 59] (fun _ i wr => ∃ k : Nat, i = .int .i64 k ∧ k ≤ 2 ∧ Hid (Cnt wr b (FT.arity (.c1 f g)) (1 + sumL ps k) (true && allL ps k) vr vf) ∧ w3.grownBy wr (some b)) (fun _ i _ => 2 - (intOf i).toNat)
  case atStart => exact ⟨0, rfl, by omega, HC.out.set1.set2, grown_trans (grown_setx _ _ _ _) (grown_setx _ _ _ _)⟩
  case round =>
    obtain ⟨k, rfl, hk, HK, hg⟩ := hrel
    have awr := after_own aw3 hbw hg
    by_cases hlt : k < 2
    · have hkl : k < ps.length := by rw [HPL.out]; exact hlt
      obtain ⟨s', o', cap3, vk, hsv, _, hck, hvk⟩ := HP.out.at k hkl
      injection hsv with e1 e2 e3
      injection e1 with e1
      injection e1 with e1 e4
      subst e1
      subst e4
      subst e3
      clear e2
      obtain ⟨bk, Tk, xk, vfk, rfl, hbk, hhk, _, _⟩ := hvk.fields
      have hck' : wr.cell? ⟨s, o + k, none⟩ = some (ptr bk) := cell_later' hck wr awr
      have hbkw : bk < w.heap.size := (Array.getElem?_eq_some_iff.1 hhk).1
      have p1 : ∀ W, After w W → W.cell? ⟨bk, 1, none⟩ = some (.int .i64 (FT.size ps[k] : Nat)) := fun W hW => cell_later' (cell_of_heap (i := 1) hhk) W hW
      have p2 : ∀ W, After w W → W.cell? ⟨bk, 2, none⟩ = some (.bool (FT.total ps[k])) := fun W hW => cell_later' (cell_of_heap (i := 2) hhk) W hW
      have q1 := HK.out.c1
      have f1 := HK.out.fr 1
      have hs1 := sumL_le ps k
      have hs2 := sumL_le ps (k + 1)
      rw [sumL_succ ps k hkl] at hs2
      have HS := Lib.hid (sumL_succ ps k hkl)
      have HA := Lib.hid (allL_succ ps k hkl)
      generalize hsk : sumL ps k = sk at *
      generalize hak : allL ps k = ak at *
      generalize hszk : FT.size ps[k] = zk at *
      generalize htk : FT.total ps[k] = tk at *
      clear hhk hvk hck
      go_wp2_with fail
      go_region
      have hc : (1 : Int) + (sk : Int) + (zk : Int) = ((1 + sk + zk : Nat) : Int) := by omega
      rw [hc]
      obtain ⟨W2, hW2⟩ : ∃ W2, W2 = (wr.setCell ⟨b, 1, none⟩ (.int .i64 ((1 + sk + zk : Nat) : Int))).drew := ⟨_, rfl⟩
      have hK2 : Cnt W2 b (FT.arity (.c1 f g)) (1 + sk + zk) (true && ak) vr vf := by rw [hW2]; exact HK.out.set1
      have hg2 : w3.grownBy W2 (some b) := by rw [hW2]; exact grown_trans hg (grown_trans (grown_setx _ _ _ _) (grown_drawn _ _ 1))
      have aW2 := after_own aw3 hbw hg2
      have q2 := hK2.c2
      have f2 := hK2.fr 2
      have HK2 := Lib.hid hK2
      rw [← hW2]
      clear hK2 q1 f1 hc hW2 hg
      cases hak2 : (true && ak)
      all_goals
        rw [hak2] at q2
        go_wp2_with fail
        go_roundw
        case measure => simp [intOf]; omega
        case rel =>
          refine ⟨k + 1, by go_num, by omega, ?_, grown_trans hg2 (grown_setx _ _ _ _)⟩
          show Cnt _ _ _ _ _ _ _
          rw [HS.out, HA.out, ← Bool.and_assoc, hak2, ← Nat.add_assoc]
          first
            | (rw [Bool.false_and]; exact HK2.out.set2)
            | (rw [Bool.true_and]; exact HK2.out.set2)
    · obtain rfl : k = 2 := by omega
      go_wp2_with fail
      go_ret2
      refine ⟨_, rfl, awr, fun t ht => ?_⟩
      obtain rfl := Option.some.inj ht
      obtain ⟨g1, g2⟩ := HSX.out wr (fun k _ hk hne => hg.block k hk (fun e => by injection e with e; exact hne e))
      have hK := HK.out
      rw [HSZ.out, HTO.out] at hK
      exact ⟨b, vr, vf, rfl, Nat.le_trans hB hbw, hK, g1, g2⟩

theorem comb_c2 (w : World) (B : Nat) (sv : Value) (f g h1 : FT) (h : PartsV w B sv [f, g, h1]) (hB : B ≤ w.heap.size) (ho : ∀ q ∈ [f, g, h1], FT.ok q) (hs : ([f, g, h1].map FT.size).sum ≤ 39) (hok : compOk [f, g, h1] = true) (hz : (compL (FT.real f) (FT.arity g) [g, h1]).size ≤ 3900) :
    Calls Tryz.prog 97 #[str [99], sv] w (WFPost w B (some (.c2 f g h1))) := by
  have h3 : ∀ q ∈ [f, g, h1], FT.arity q ≤ 3 := fun q hq => FT.arity_le (ho q hq)
  obtain ⟨ps, hps⟩ : ∃ ps, ps = [f, g, h1] := ⟨_, rfl⟩
  have hpl : ps.length = 3 := by rw [hps]; rfl
  have h' := h
  rw [← hps] at h
  have hsum : (ps.map FT.size).sum ≤ 39 := by rw [hps]; exact hs
  obtain ⟨W1, hW1⟩ : ∃ W1, W1 = w.alloc (.cells #[.int .i64 0, .int .i64 0, .bool false, .nilIface, .nilFunc] 60 (0, 0)) := ⟨_, rfl⟩
  have a1 : After w W1 := by rw [hW1]; exact After.new _ _
  have hP1 := h'.after a1
  have k1 := composes_any W1 B sv [f, g, h1] hP1 (by simp) h3
  rw [hok] at k1
  have hB1 := Nat.le_trans hB a1.size
  obtain ⟨s, o, cap, v0, rfl, hcap, hc0, hv0⟩ := hP1.at 0 (by simp)
  rw [Nat.add_zero] at hc0
  have c0 : ∀ W, After W1 W → W.cell? ⟨s, o, none⟩ = some v0 := fun W hW => cell_later' hc0 W hW
  have hcap1 : ¬ cap = 1 := by simp at hcap; omega
  have k2 := fun W (hW : After W1 W) => comp_c2 W B f g h1 v0 _ (hv0.after hW) (hP1.tail.after hW) (Nat.le_trans hB1 hW.size) (h3 g (by simp)) hz
  have HPL := Lib.hid hpl
  have HP := Lib.hid h
  have HW1 := Lib.hid hW1
  have HSZ := Lib.hid (show 1 + sumL ps 3 = FT.size (.c2 f g h1) by rw [hps]; simp [sumL, FT.size])
  have HTO := Lib.hid (show (true && allL ps 3) = FT.total (.c2 f g h1) by rw [hps]; simp [allL, FT.total, Bool.and_assoc])
  have hself := After.refl W1
  obtain ⟨bf, Tf, xf, vf, rfl, hbf, _, _, _⟩ := hv0.fields
  clear hP1 hv0 hc0 hps hW1 h hpl h' ho h3 hs hok
  simp only [List.length_cons, List.length_nil, Nat.zero_add, Nat.reduceAdd] at k1 HP hcap k2 ⊢
  go_enter Tryz.func97, Tryz.ntmps97
  go_wp2_with fail
  rw [← HW1.out]
  refine k1.mono ?_
  rintro e w2 ⟨rfl, ha2⟩
  go_wp2_with fail
  go_region_held3 (fun W' => After W1 W') (first | assumption | exact ha2.drew | go_keep)
    (first | (go_at_call 112; refine (k2 _ (by first | assumption | exact ha2.drew)).mono ?_; rintro e w3 ⟨b, vr, vf, rfl, ha3, hb, hh, hsx⟩; have ha3' : After W1 w3 := After.trans (by first | assumption | exact ha2.drew) ha3; have hbW : W1.heap.size ≤ b := Nat.le_trans (After.le (by first | assumption | exact ha2.drew)) hb; clear ha3 hb))
  have hC : Cnt w3 b (FT.arity (.c2 f g h1)) 0 false vr vf := hh
  have f1 := hC.fr 1
  have f2 := hC.fr 2
  have d1 : w3.cell? ⟨b, 1, none⟩ = some (.int .i64 0) := hC.c1
  have d2 : w3.cell? ⟨b, 2, none⟩ = some (.bool false) := hC.c2
  have HC := Lib.hid hC
  have HSX := Lib.hid hsx
  have aw3 : After w w3 := a1.trans ha3'
  have hbw : w.heap.size ≤ b := Nat.le_trans a1.size hbW
  clear hh hsx hC k1 k2 c0
  go_wp2_with fail
  clear f1 f2 d1 d2
  go_loopw [8, 59] (fun _ i wr => ∃ k : Nat, i = .int .i64 k ∧ k ≤ 3 ∧ Hid (Cnt wr b (FT.arity (.c2 f g h1)) (1 + sumL ps k) (true && allL ps k) vr vf) ∧ w3.grownBy wr (some b)) (fun _ i _ => 3 - (intOf i).toNat)
  case atStart => exact ⟨0, rfl, by omega, HC.out.set1.set2, grown_trans (grown_setx _ _ _ _) (grown_setx _ _ _ _)⟩
  case round =>
    obtain ⟨k, rfl, hk, HK, hg⟩ := hrel
    have awr := after_own aw3 hbw hg
    by_cases hlt : k < 3
    · have hkl : k < ps.length := by rw [HPL.out]; exact hlt
      obtain ⟨s', o', cap3, vk, hsv, _, hck, hvk⟩ := HP.out.at k hkl
      injection hsv with e1 e2 e3
      injection e1 with e1
      injection e1 with e1 e4
      subst e1
      subst e4
      subst e3
      clear e2
      obtain ⟨bk, Tk, xk, vfk, rfl, hbk, hhk, _, _⟩ := hvk.fields
      have hck' : wr.cell? ⟨s, o + k, none⟩ = some (ptr bk) := cell_later' hck wr awr
      have hbkw : bk < w.heap.size := (Array.getElem?_eq_some_iff.1 hhk).1
      have p1 : ∀ W, After w W → W.cell? ⟨bk, 1, none⟩ = some (.int .i64 (FT.size ps[k] : Nat)) := fun W hW => cell_later' (cell_of_heap (i := 1) hhk) W hW
      have p2 : ∀ W, After w W → W.cell? ⟨bk, 2, none⟩ = some (.bool (FT.total ps[k])) := fun W hW => cell_later' (cell_of_heap (i := 2) hhk) W hW
      have q1 := HK.out.c1
      have f1 := HK.out.fr 1
      have hs1 := sumL_le ps k
      have hs2 := sumL_le ps (k + 1)
      rw [sumL_succ ps k hkl] at hs2
      have HS := Lib.hid (sumL_succ ps k hkl)
      have HA := Lib.hid (allL_succ ps k hkl)
      generalize hsk : sumL ps k = sk at *
      generalize hak : allL ps k = ak at *
      generalize hszk : FT.size ps[k] = zk at *
      generalize htk : FT.total ps[k] = tk at *
      clear hhk hvk hck
      go_wp2_with fail
      go_region
      have hc : (1 : Int) + (sk : Int) + (zk : Int) = ((1 + sk + zk : Nat) : Int) := by omega
      rw [hc]
      obtain ⟨W2, hW2⟩ : ∃ W2, W2 = (wr.setCell ⟨b, 1, none⟩ (.int .i64 ((1 + sk + zk : Nat) : Int))).drew := ⟨_, rfl⟩
      have hK2 : Cnt W2 b (FT.arity (.c2 f g h1)) (1 + sk + zk) (true && ak) vr vf := by rw [hW2]; exact HK.out.set1
      have hg2 : w3.grownBy W2 (some b) := by rw [hW2]; exact grown_trans hg (grown_trans (grown_setx _ _ _ _) (grown_drawn _ _ 1))
      have aW2 := after_own aw3 hbw hg2
      have q2 := hK2.c2
      have f2 := hK2.fr 2
      have HK2 := Lib.hid hK2
      rw [← hW2]
      clear hK2 q1 f1 hc hW2 hg
      cases hak2 : (true && ak)
      all_goals
        rw [hak2] at q2
        go_wp2_with fail
        go_roundw
        case measure => simp [intOf]; omega
        case rel =>
          refine ⟨k + 1, by go_num, by omega, ?_, grown_trans hg2 (grown_setx _ _ _ _)⟩
          show Cnt _ _ _ _ _ _ _
          rw [HS.out, HA.out, ← Bool.and_assoc, hak2, ← Nat.add_assoc]
          first
            | (rw [Bool.false_and]; exact HK2.out.set2)
            | (rw [Bool.true_and]; exact HK2.out.set2)
    · obtain rfl : k = 3 := by omega
      go_wp2_with fail
      go_ret2
      refine ⟨_, rfl, awr, fun t ht => ?_⟩
      obtain rfl := Option.some.inj ht
      obtain ⟨g1, g2⟩ := HSX.out wr (fun k _ hk hne => hg.block k hk (fun e => by injection e with e; exact hne e))
      have hK := HK.out
      rw [HSZ.out, HTO.out] at hK
      exact ⟨b, vr, vf, rfl, Nat.le_trans hB hbw, hK, g1, g2⟩

theorem comb_c3 (w : World) (B : Nat) (sv : Value) (f g h1 h2 : FT) (h : PartsV w B sv [f, g, h1, h2]) (hB : B ≤ w.heap.size) (ho : ∀ q ∈ [f, g, h1, h2], FT.ok q) (hs : ([f, g, h1, h2].map FT.size).sum ≤ 39) (hok : compOk [f, g, h1, h2] = true) (hz : (compL (FT.real f) (FT.arity g) [g, h1, h2]).size ≤ 3900) :
    Calls Tryz.prog 97 #[str [99], sv] w (WFPost w B (some (.c3 f g h1 h2))) := by
  have h3 : ∀ q ∈ [f, g, h1, h2], FT.arity q ≤ 3 := fun q hq => FT.arity_le (ho q hq)
  obtain ⟨ps, hps⟩ : ∃ ps, ps = [f, g, h1, h2] := ⟨_, rfl⟩
  have hpl : ps.length = 4 := by rw [hps]; rfl
  have h' := h
  rw [← hps] at h
  have hsum : (ps.map FT.size).sum ≤ 39 := by rw [hps]; exact hs
  obtain ⟨W1, hW1⟩ : ∃ W1, W1 = w.alloc (.cells #[.int .i64 0, .int .i64 0, .bool false, .nilIface, .nilFunc] 60 (0, 0)) := ⟨_, rfl⟩
  have a1 : After w W1 := by rw [hW1]; exact After.new _ _
  have hP1 := h'.after a1
  have k1 := composes_any W1 B sv [f, g, h1, h2] hP1 (by simp) h3
  rw [hok] at k1
  have hB1 := Nat.le_trans hB a1.size
  obtain ⟨s, o, cap, v0, rfl, hcap, hc0, hv0⟩ := hP1.at 0 (by simp)
  rw [Nat.add_zero] at hc0
  have c0 : ∀ W, After W1 W → W.cell? ⟨s, o, none⟩ = some v0 := fun W hW => cell_later' hc0 W hW
  have hcap1 : ¬ cap = 1 := by simp at hcap; omega
  have k2 := fun W (hW : After W1 W) => comp_c3 W B f g h1 h2 v0 _ (hv0.after hW) (hP1.tail.after hW) (Nat.le_trans hB1 hW.size) (h3 g (by simp)) hz
  have HPL := Lib.hid hpl
  have HP := Lib.hid h
  have HW1 := Lib.hid hW1
  have HSZ := Lib.hid (show 1 + sumL ps 4 = FT.size (.c3 f g h1 h2) by rw [hps]; simp [sumL, FT.size])
  have HTO := Lib.hid (show (true && allL ps 4) = FT.total (.c3 f g h1 h2) by rw [hps]; simp [allL, FT.total, Bool.and_assoc])
  have hself := After.refl W1
  obtain ⟨bf, Tf, xf, vf, rfl, hbf, _, _, _⟩ := hv0.fields
  clear hP1 hv0 hc0 hps hW1 h hpl h' ho h3 hs hok
  simp only [List.length_cons, List.length_nil, Nat.zero_add, Nat.reduceAdd] at k1 HP hcap k2 ⊢
  go_enter Tryz.func97, Tryz.ntmps97
  go_wp2_with fail
  rw [← HW1.out]
  refine k1.mono ?_
  rintro e w2 ⟨rfl, ha2⟩
  go_wp2_with fail
  go_region_held3 (fun W' => After W1 W') (first | assumption | exact ha2.drew | go_keep)
    (first | (go_at_call 112; refine (k2 _ (by first | assumption | exact ha2.drew)).mono ?_; rintro e w3 ⟨b, vr, vf, rfl, ha3, hb, hh, hsx⟩; have ha3' : After W1 w3 := After.trans (by first | assumption | exact ha2.drew) ha3; have hbW : W1.heap.size ≤ b := Nat.le_trans (After.le (by first | assumption | exact ha2.drew)) hb; clear ha3 hb))
  have hC : Cnt w3 b (FT.arity (.c3 f g h1 h2)) 0 false vr vf := hh
  have f1 := hC.fr 1
  have f2 := hC.fr 2
  have d1 : w3.cell? ⟨b, 1, none⟩ = some (.int .i64 0) := hC.c1
  have d2 : w3.cell? ⟨b, 2, none⟩ = some (.bool false) := hC.c2
  have HC := Lib.hid hC
  have HSX := Lib.hid hsx
  have aw3 : After w w3 := a1.trans ha3'
  have hbw : w.heap.size ≤ b := Nat.le_trans a1.size hbW
  clear hh hsx hC k1 k2 c0
  go_wp2_with fail
  clear f1 f2 d1 d2
  go_loopw [8, 59] (fun _ i wr => ∃ k : Nat, i = .int .i64 k ∧ k ≤ 4 ∧ Hid (Cnt wr b (FT.arity (.c3 f g h1 h2)) (1 + sumL ps k) (true && allL ps k) vr vf) ∧ w3.grownBy wr (some b)) (fun _ i _ => 4 - (intOf i).toNat)
  case atStart => exact ⟨0, rfl, by omega, HC.out.set1.set2, grown_trans (grown_setx _ _ _ _) (grown_setx _ _ _ _)⟩
  case round =>
    obtain ⟨k, rfl, hk, HK, hg⟩ := hrel
    have awr := after_own aw3 hbw hg
    by_cases hlt : k < 4
    · have hkl : k < ps.length := by rw [HPL.out]; exact hlt
      obtain ⟨s', o', cap3, vk, hsv, _, hck, hvk⟩ := HP.out.at k hkl
      injection hsv with e1 e2 e3
      injection e1 with e1
      injection e1 with e1 e4
      subst e1
      subst e4
      subst e3
      clear e2
      obtain ⟨bk, Tk, xk, vfk, rfl, hbk, hhk, _, _⟩ := hvk.fields
      have hck' : wr.cell? ⟨s, o + k, none⟩ = some (ptr bk) := cell_later' hck wr awr
      have hbkw : bk < w.heap.size := (Array.getElem?_eq_some_iff.1 hhk).1
      have p1 : ∀ W, After w W → W.cell? ⟨bk, 1, none⟩ = some (.int .i64 (FT.size ps[k] : Nat)) := fun W hW => cell_later' (cell_of_heap (i := 1) hhk) W hW
      have p2 : ∀ W, After w W → W.cell? ⟨bk, 2, none⟩ = some (.bool (FT.total ps[k])) := fun W hW => cell_later' (cell_of_heap (i := 2) hhk) W hW
      have q1 := HK.out.c1
      have f1 := HK.out.fr 1
      have hs1 := sumL_le ps k
      have hs2 := sumL_le ps (k + 1)
      rw [sumL_succ ps k hkl] at hs2
      have HS := Lib.hid (sumL_succ ps k hkl)
      have HA := Lib.hid (allL_succ ps k hkl)
      generalize hsk : sumL ps k = sk at *
      generalize hak : allL ps k = ak at *
      generalize hszk : FT.size ps[k] = zk at *
      generalize htk : FT.total ps[k] = tk at *
      clear hhk hvk hck
      go_wp2_with fail
      go_region
      have hc : (1 : Int) + (sk : Int) + (zk : Int) = ((1 + sk + zk : Nat) : Int) := by omega
      rw [hc]
      obtain ⟨W2, hW2⟩ : ∃ W2, W2 = (wr.setCell ⟨b, 1, none⟩ (.int .i64 ((1 + sk + zk : Nat) : Int))).drew := ⟨_, rfl⟩
      have hK2 : Cnt W2 b (FT.arity (.c3 f g h1 h2)) (1 + sk + zk) (true && ak) vr vf := by rw [hW2]; exact HK.out.set1
      have hg2 : w3.grownBy W2 (some b) := by rw [hW2]; exact grown_trans hg (grown_trans (grown_setx _ _ _ _) (grown_drawn _ _ 1))
      have aW2 := after_own aw3 hbw hg2
      have q2 := hK2.c2
      have f2 := hK2.fr 2
      have HK2 := Lib.hid hK2
      rw [← hW2]
      clear hK2 q1 f1 hc hW2 hg
      cases hak2 : (true && ak)
      all_goals
        rw [hak2] at q2
        go_wp2_with fail
        go_roundw
        case measure => simp [intOf]; omega
        case rel =>
          refine ⟨k + 1, by go_num, by omega, ?_, grown_trans hg2 (grown_setx _ _ _ _)⟩
          show Cnt _ _ _ _ _ _ _
          rw [HS.out, HA.out, ← Bool.and_assoc, hak2, ← Nat.add_assoc]
          first
            | (rw [Bool.false_and]; exact HK2.out.set2)
            | (rw [Bool.true_and]; exact HK2.out.set2)
    · obtain rfl : k = 4 := by omega
      go_wp2_with fail
      go_ret2
      refine ⟨_, rfl, awr, fun t ht => ?_⟩
      obtain rfl := Option.some.inj ht
      obtain ⟨g1, g2⟩ := HSX.out wr (fun k _ hk hne => hg.block k hk (fun e => by injection e with e; exact hne e))
      have hK := HK.out
      rw [HSZ.out, HTO.out] at hK
      exact ⟨b, vr, vf, rfl, Nat.le_trans hB hbw, hK, g1, g2⟩
end Go.Proofs.YtjomocjlnjgkeaaGreat
