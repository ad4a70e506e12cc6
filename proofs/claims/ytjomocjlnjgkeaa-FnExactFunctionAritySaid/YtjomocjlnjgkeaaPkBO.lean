/-
  The program's combination.
-/
import Derived.Test.YtjomocjlnjgkeaaPkBN
namespace Go.Proofs.Ytjomocjlnjgkeaa
open Go.RowKit

set_option maxHeartbeats 2000000
set_option maxRecDepth 100000

def sumL (ps : List FT) (k : Nat) : Nat := ((ps.take k).map FT.size).sum
def allL (ps : List FT) (k : Nat) : Bool := (ps.take k).all FT.total

theorem sumL_succ (ps : List FT) (k : Nat) (h : k < ps.length) : sumL ps (k + 1) = sumL ps k + FT.size ps[k] := by
  unfold sumL
  rw [List.take_succ_eq_append_getElem h, List.map_append, List.sum_append]
  rfl
theorem allL_succ (ps : List FT) (k : Nat) (h : k < ps.length) : allL ps (k + 1) = (allL ps k && FT.total ps[k]) := by
  unfold allL
  rw [List.take_succ_eq_append_getElem h, List.all_append]
  simp only [List.all_cons, List.all_nil, Bool.and_true]
theorem sumL_le (ps : List FT) (k : Nat) : sumL ps k ≤ (ps.map FT.size).sum := by
  have := sum_take (ps.map FT.size) k
  rw [← List.map_take] at this
  exact this

/-- The cells of a compiled function text that is being counted. -/
def Cnt (w : World) (b : Nat) (a : Int) (n : Nat) (tot : Bool) (vr vf : Value) : Prop :=
  w.heap[b]? = some (.cells #[.int .i64 a, .int .i64 (n : Nat), .bool tot, vr, vf] 73 (0, 0))

theorem Cnt.set1 {w : World} {b n m : Nat} {a : Int} {tot : Bool} {vr vf : Value} (h : Cnt w b a n tot vr vf) : Cnt (w.setCell ⟨b, 1, none⟩ (.int .i64 (m : Nat))) b a m tot vr vf := by
  unfold Cnt at *
  simp [World.setCell, Array.getElem?_modify, h]
theorem Cnt.set2 {w : World} {b n : Nat} {a : Int} {tot u : Bool} {vr vf : Value} (h : Cnt w b a n tot vr vf) : Cnt (w.setCell ⟨b, 2, none⟩ (.bool u)) b a n u vr vf := by
  unfold Cnt at *
  simp [World.setCell, Array.getElem?_modify, h]
theorem Cnt.c1 {w : World} {b n : Nat} {a : Int} {tot : Bool} {vr vf : Value} (h : Cnt w b a n tot vr vf) : w.cell? ⟨b, 1, none⟩ = some (.int .i64 (n : Nat)) := cell_of_heap (i := 1) h
theorem Cnt.c2 {w : World} {b n : Nat} {a : Int} {tot : Bool} {vr vf : Value} (h : Cnt w b a n tot vr vf) : w.cell? ⟨b, 2, none⟩ = some (.bool tot) := cell_of_heap (i := 2) h
theorem Cnt.fr {w : World} {b n : Nat} {a : Int} {tot : Bool} {vr vf : Value} (h : Cnt w b a n tot vr vf) (i : Nat) : w.frozen? ⟨b, i, none⟩ = false := by unfold Cnt at h; simp [World.frozen?, h]

/-- Parts but for the first one. -/
theorem PartsV.tail {w : World} {B s o n cap : Nat} {f g : FT} {gs : List FT} (h : PartsV w B (.slice (some ⟨s, o, none⟩) n cap) (f :: g :: gs)) : PartsV w B (.slice (some ⟨s, o + 1, none⟩) (gs.length + 1) (cap - 1)) (g :: gs) := by
  rcases h with ⟨h, _⟩ | ⟨s', o', cap', cs, T, fr, hv, hl, hs, hh, hc⟩
  · cases h
  · injection hv with e1 e2 e3
    injection e1 with e1
    injection e1 with e1 e4
    subst e1
    subst e4
    subst e3
    refine Or.inr ⟨s, o + 1, cap - 1, cs, T, fr, rfl, by simp at hl ⊢; omega, hs, hh, fun j hj => ?_⟩
    obtain ⟨v, h1, h2⟩ := hc (j + 1) (by simp at hj ⊢; omega)
    refine ⟨v, by rw [show o + 1 + j = o + (j + 1) by omega]; exact h1, h2⟩

theorem comb_m (w : World) (B : Nat) (sv : Value) (f : FT) (h : PartsV w B sv [f]) (hB : B ≤ w.heap.size) (ho : FT.ok f) (hs : FT.size f ≤ 39) (h0 : 0 < FT.arity f) (hz : (FT.real f).size ≤ 3000)
    (hy : (FT.absAll [[117], [118]] (FT.seaB (FT.real f) (FT.arity f - 1))).size ≤ 3800) :
    Calls Try.prog 102 #[str [109], sv] w (WFPost w B (some (.m f))) := by
  have h3 := FT.arity_le ho
  obtain ⟨ps, hps⟩ : ∃ ps, ps = [f] := ⟨_, rfl⟩
  have hpl : ps.length = 1 := by rw [hps]; rfl
  have hpf : ps[0]'(by omega) = f := by simp [hps]
  rw [← hps] at h
  have hsum : (ps.map FT.size).sum ≤ 39 := by rw [hps]; simpa using hs
  obtain ⟨W1, hW1⟩ : ∃ W1, W1 = w.alloc (.cells #[.int .i64 0, .int .i64 0, .bool false, .nilIface, .nilFunc] 73 (0, 0)) := ⟨_, rfl⟩
  have a1 : After w W1 := by rw [hW1]; exact After.new _ _
  have hP1 := h.after a1
  have k1 := searches_any W1 B sv ps hP1 (by omega) (fun g hg => by rw [hps] at hg; simp at hg; rw [hg]; exact h3)
  have hsok : searOk ps = true := by rw [hps]; simp [searOk, h0]
  rw [hsok] at k1
  have hB1 := Nat.le_trans hB a1.size
  obtain ⟨s, o, cap, v0, rfl, hcap, hc0, hv0⟩ := hP1.at 0 (by omega)
  rw [hpf] at hv0
  rw [Nat.add_zero] at hc0
  have c0 : ∀ W, After W1 W → W.cell? ⟨s, o, none⟩ = some v0 := fun W hW => cell_later' hc0 W hW
  have k2 := fun W (hW : After W1 W) => search_any W B f v0 (hv0.after hW) (Nat.le_trans hB1 hW.size) h0 h3 hz hy
  rw [hpl] at k1 h hcap ⊢
  have HP := Lib.hid h
  have HW1 := Lib.hid hW1
  have HSZ := Lib.hid (show 1 + sumL ps 1 = FT.size (.m f) by rw [hps]; simp [sumL, FT.size])
  have HTO := Lib.hid (show (false && allL ps 1) = FT.total (.m f) by rw [hps]; simp [allL, FT.total])
  have hself := After.refl W1
  have HPL := Lib.hid hpl
  obtain ⟨bf, Tf, xf, vf, rfl, hbf, _, _, _⟩ := hv0.fields
  clear hP1 hv0 hc0 hps hW1 hsok h hpf hpl
  go_enter Try.func102, Try.ntmps102
  go_wp2_with fail
  rw [← HW1.out]
  refine k1.mono ?_
  rintro e w2 ⟨rfl, ha2⟩
  go_wp2_with fail
  refine (k2 _ ha2).mono ?_
  rintro e w3 ⟨b, vr, vf, rfl, ha3, hb, hh, hsx⟩
  have hC : Cnt w3 b (FT.arity (.m f)) 0 false vr vf := hh
  have f1 := hC.fr 1
  have f2 := hC.fr 2
  have d1 : w3.cell? ⟨b, 1, none⟩ = some (.int .i64 0) := hC.c1
  have d2 : w3.cell? ⟨b, 2, none⟩ = some (.bool false) := hC.c2
  have HC := Lib.hid hC
  have HSX := Lib.hid hsx
  have aw3 : After w w3 := a1.trans (ha2.trans ha3)
  have hbw : w.heap.size ≤ b := Nat.le_trans (Nat.le_trans a1.size (After.le ha2)) hb
  clear hh hsx hC k1 k2 c0
  go_wp2_with fail
  clear f1 f2 d1 d2
  go_loopw [8, 59] (fun _ i wr => ∃ k : Nat, i = .int .i64 k ∧ k ≤ 1 ∧ Hid (Cnt wr b (FT.arity (.m f)) (1 + sumL ps k) (false && allL ps k) vr vf) ∧ w3.grownBy wr (some b)) (fun _ i _ => 1 - (intOf i).toNat)
  case atStart => exact ⟨0, rfl, by omega, HC.out.set1.set2, grown_trans (grown_setx _ _ _ _) (grown_setx _ _ _ _)⟩
  case round =>
    obtain ⟨k, rfl, hk, HK, hg⟩ := hrel
    have awr := after_own aw3 hbw hg
    by_cases hlt : k < 1
    · have hkl : k < ps.length := by rw [HPL.out]; exact hlt
      obtain ⟨s', o', cap3, vk, hsv, _, hck, hvk⟩ := HP.out.at k hkl
      injection hsv with e1 e2 e3
      injection e1 with e1
      injection e1 with e1 e4
      subst e1
      subst e4
      subst e3
      clear e2
      obtain ⟨bk, Tk, xk, vfk, rfl, hbk, hhk, _, _⟩ := hvk.fields
      have hck' : wr.cell? ⟨s, o + k, none⟩ = some (ptr bk) := cell_later' hck wr awr
      have hbkw : bk < w.heap.size := (Array.getElem?_eq_some_iff.1 hhk).1
      have p1 : ∀ W, After w W → W.cell? ⟨bk, 1, none⟩ = some (.int .i64 (FT.size ps[k] : Nat)) := fun W hW => cell_later' (cell_of_heap (i := 1) hhk) W hW
      have p2 : ∀ W, After w W → W.cell? ⟨bk, 2, none⟩ = some (.bool (FT.total ps[k])) := fun W hW => cell_later' (cell_of_heap (i := 2) hhk) W hW
      have q1 := HK.out.c1
      have f1 := HK.out.fr 1
      have hs1 := sumL_le ps k
      have hs2 := sumL_le ps (k + 1)
      rw [sumL_succ ps k hkl] at hs2
      have HS := Lib.hid (sumL_succ ps k hkl)
      have HA := Lib.hid (allL_succ ps k hkl)
      generalize hsk : sumL ps k = sk at *
      generalize hak : allL ps k = ak at *
      generalize hszk : FT.size ps[k] = zk at *
      generalize htk : FT.total ps[k] = tk at *
      clear hhk hvk hck
      go_wp2_with fail
      go_region
      have hc : (1 : Int) + (sk : Int) + (zk : Int) = ((1 + sk + zk : Nat) : Int) := by omega
      rw [hc]
      obtain ⟨W2, hW2⟩ : ∃ W2, W2 = (wr.setCell ⟨b, 1, none⟩ (.int .i64 ((1 + sk + zk : Nat) : Int))).drew := ⟨_, rfl⟩
      have hK2 : Cnt W2 b (FT.arity (.m f)) (1 + sk + zk) (false && ak) vr vf := by rw [hW2]; exact HK.out.set1
      have hg2 : w3.grownBy W2 (some b) := by rw [hW2]; exact grown_trans hg (grown_trans (grown_setx _ _ _ _) (grown_drawn _ _ 1))
      have aW2 := after_own aw3 hbw hg2
      have q2 := hK2.c2
      have f2 := hK2.fr 2
      have HK2 := Lib.hid hK2
      rw [← hW2]
      clear hK2 q1 f1 hc hW2 hg
      cases hak2 : (false && ak)
      all_goals
        rw [hak2] at q2
        go_wp2_with fail
        go_roundw
        case measure => simp [intOf]; omega
        case rel =>
          refine ⟨k + 1, by go_num, by omega, ?_, grown_trans hg2 (grown_setx _ _ _ _)⟩
          show Cnt _ _ _ _ _ _ _
          rw [HS.out, HA.out, ← Bool.and_assoc, hak2, ← Nat.add_assoc]
          first
            | (rw [Bool.false_and]; exact HK2.out.set2)
            | (rw [Bool.true_and]; exact HK2.out.set2)
    · obtain rfl : k = 1 := by omega
      go_wp2_with fail
      go_ret2
      refine ⟨_, rfl, awr, fun t ht => ?_⟩
      obtain rfl := Option.some.inj ht
      obtain ⟨g1, g2⟩ := HSX.out wr (fun k _ hk hne => hg.block k hk (fun e => by injection e with e; exact hne e))
      have hK := HK.out
      rw [HSZ.out, HTO.out] at hK
      exact ⟨b, vr, vf, rfl, Nat.le_trans hB hbw, hK, g1, g2⟩

theorem comb_r (w : World) (B : Nat) (sv : Value) (f g : FT) (h : PartsV w B sv [f, g]) (hB : B ≤ w.heap.size) (ho : ∀ q ∈ [f, g], FT.ok q) (hs : ([f, g].map FT.size).sum ≤ 39) (hok : recOk [f, g] = true) (hz1 : FT.arity f ≤ 1) (hz : (FT.real f).size + (FT.real g).size ≤ 3000) :
    Calls Try.prog 102 #[str [114], sv] w (WFPost w B (some (.r f g))) := by
  have h3 : ∀ q ∈ [f, g], FT.arity q ≤ 3 := fun q hq => FT.arity_le (ho q hq)
  obtain ⟨ps, hps⟩ : ∃ ps, ps = [f, g] := ⟨_, rfl⟩
  have hpl : ps.length = 2 := by rw [hps]; rfl
  have h' := h
  rw [← hps] at h
  have hsum : (ps.map FT.size).sum ≤ 39 := by rw [hps]; exact hs
  obtain ⟨W1, hW1⟩ : ∃ W1, W1 = w.alloc (.cells #[.int .i64 0, .int .i64 0, .bool false, .nilIface, .nilFunc] 73 (0, 0)) := ⟨_, rfl⟩
  have a1 : After w W1 := by rw [hW1]; exact After.new _ _
  have hP1 := h'.after a1
  have k1 := recurs_any W1 B sv [f, g] hP1 (by simp) h3
  rw [hok] at k1
  have hB1 := Nat.le_trans hB a1.size
  obtain ⟨s, o, cap, v0, rfl, hcap, hc0, hv0⟩ := hP1.at 0 (by simp)
  rw [Nat.add_zero] at hc0
  have c0 : ∀ W, After W1 W → W.cell? ⟨s, o, none⟩ = some v0 := fun W hW => cell_later' hc0 W hW
  obtain ⟨s', o', cap', v1, hsv, _, hc1, hv1⟩ := hP1.at 1 (by simp)
  injection hsv with e1 e2 e3
  injection e1 with e1
  injection e1 with e1 e4
  subst e1
  subst e4
  subst e3
  clear e2
  have c1 : ∀ W, After W1 W → W.cell? ⟨s, o + 1, none⟩ = some v1 := fun W hW => cell_later' hc1 W hW
  have k2 := fun W (hW : After W1 W) => recursion_any W B f g v0 v1 (hv0.after hW) (hv1.after hW) (Nat.le_trans hB1 hW.size) hz1 hz
  obtain ⟨bg, Tg, xg, vg, rfl, hbg, _, _, _⟩ := hv1.fields
  clear hv1 hc1
  have HPL := Lib.hid hpl
  have HP := Lib.hid h
  have HW1 := Lib.hid hW1
  have HSZ := Lib.hid (show 1 + sumL ps 2 = FT.size (.r f g) by rw [hps]; simp [sumL, FT.size])
  have HTO := Lib.hid (show (true && allL ps 2) = FT.total (.r f g) by rw [hps]; simp [allL, FT.total])
  have hself := After.refl W1
  obtain ⟨bf, Tf, xf, vf, rfl, hbf, _, _, _⟩ := hv0.fields
  clear hP1 hv0 hc0 hps hW1 h hpl h' ho h3 hs hok
  simp only [List.length_cons, List.length_nil, Nat.zero_add, Nat.reduceAdd] at k1 HP hcap k2 ⊢
  go_enter Try.func102, Try.ntmps102
  go_wp2_with fail
  rw [← HW1.out]
  refine k1.mono ?_
  rintro e w2 ⟨rfl, ha2⟩
  go_wp2_with fail
  go_region_held3 (fun W' => After W1 W') (first | assumption | exact ha2.drew | go_keep)
    (first | (go_at_call 114; refine (k2 _ (by first | assumption | exact ha2.drew)).mono ?_; rintro e w3 ⟨b, vr, vf, rfl, ha3, hb, hh, hsx⟩; have ha3' : After W1 w3 := After.trans (by first | assumption | exact ha2.drew) ha3; have hbW : W1.heap.size ≤ b := Nat.le_trans (After.le (by first | assumption | exact ha2.drew)) hb; clear ha3 hb))
  have hC : Cnt w3 b (FT.arity (.r f g)) 0 false vr vf := hh
  have f1 := hC.fr 1
  have f2 := hC.fr 2
  have d1 : w3.cell? ⟨b, 1, none⟩ = some (.int .i64 0) := hC.c1
  have d2 : w3.cell? ⟨b, 2, none⟩ = some (.bool false) := hC.c2
  have HC := Lib.hid hC
  have HSX := Lib.hid hsx
  have aw3 : After w w3 := a1.trans ha3'
  have hbw : w.heap.size ≤ b := Nat.le_trans a1.size hbW
  clear hh hsx hC k1 k2 c0
  go_wp2_with fail
  clear f1 f2 d1 d2
  go_loopw [8, 59] (fun _ i wr => ∃ k : Nat, i = .int .i64 k ∧ k ≤ 2 ∧ Hid (Cnt wr b (FT.arity (.r f g)) (1 + sumL ps k) (true && allL ps k) vr vf) ∧ w3.grownBy wr (some b)) (fun _ i _ => 2 - (intOf i).toNat)
  case atStart => exact ⟨0, rfl, by omega, HC.out.set1.set2, grown_trans (grown_setx _ _ _ _) (grown_setx _ _ _ _)⟩
  case round =>
    obtain ⟨k, rfl, hk, HK, hg⟩ := hrel
    have awr := after_own aw3 hbw hg
    by_cases hlt : k < 2
    · have hkl : k < ps.length := by rw [HPL.out]; exact hlt
      obtain ⟨s', o', cap3, vk, hsv, _, hck, hvk⟩ := HP.out.at k hkl
      injection hsv with e1 e2 e3
      injection e1 with e1
      injection e1 with e1 e4
      subst e1
      subst e4
      subst e3
      clear e2
      obtain ⟨bk, Tk, xk, vfk, rfl, hbk, hhk, _, _⟩ := hvk.fields
      have hck' : wr.cell? ⟨s, o + k, none⟩ = some (ptr bk) := cell_later' hck wr awr
      have hbkw : bk < w.heap.size := (Array.getElem?_eq_some_iff.1 hhk).1
      have p1 : ∀ W, After w W → W.cell? ⟨bk, 1, none⟩ = some (.int .i64 (FT.size ps[k] : Nat)) := fun W hW => cell_later' (cell_of_heap (i := 1) hhk) W hW
      have p2 : ∀ W, After w W → W.cell? ⟨bk, 2, none⟩ = some (.bool (FT.total ps[k])) := fun W hW => cell_later' (cell_of_heap (i := 2) hhk) W hW
      have q1 := HK.out.c1
      have f1 := HK.out.fr 1
      have hs1 := sumL_le ps k
      have hs2 := sumL_le ps (k + 1)
      rw [sumL_succ ps k hkl] at hs2
      have HS := Lib.hid (sumL_succ ps k hkl)
      have HA := Lib.hid (allL_succ ps k hkl)
      generalize hsk : sumL ps k = sk at *
      generalize hak : allL ps k = ak at *
      generalize hszk : FT.size ps[k] = zk at *
      generalize htk : FT.total ps[k] = tk at *
      clear hhk hvk hck
      go_wp2_with fail
      go_region
      have hc : (1 : Int) + (sk : Int) + (zk : Int) = ((1 + sk + zk : Nat) : Int) := by omega
      rw [hc]
      obtain ⟨W2, hW2⟩ : ∃ W2, W2 = (wr.setCell ⟨b, 1, none⟩ (.int .i64 ((1 + sk + zk : Nat) : Int))).drew := ⟨_, rfl⟩
      have hK2 : Cnt W2 b (FT.arity (.r f g)) (1 + sk + zk) (true && ak) vr vf := by rw [hW2]; exact HK.out.set1
      have hg2 : w3.grownBy W2 (some b) := by rw [hW2]; exact grown_trans hg (grown_trans (grown_setx _ _ _ _) (grown_drawn _ _ 1))
      have aW2 := after_own aw3 hbw hg2
      have q2 := hK2.c2
      have f2 := hK2.fr 2
      have HK2 := Lib.hid hK2
      rw [← hW2]
      clear hK2 q1 f1 hc hW2 hg
      cases hak2 : (true && ak)
      all_goals
        rw [hak2] at q2
        go_wp2_with fail
        go_roundw
        case measure => simp [intOf]; omega
        case rel =>
          refine ⟨k + 1, by go_num, by omega, ?_, grown_trans hg2 (grown_setx _ _ _ _)⟩
          show Cnt _ _ _ _ _ _ _
          rw [HS.out, HA.out, ← Bool.and_assoc, hak2, ← Nat.add_assoc]
          first
            | (rw [Bool.false_and]; exact HK2.out.set2)
            | (rw [Bool.true_and]; exact HK2.out.set2)
    · obtain rfl : k = 2 := by omega
      go_wp2_with fail
      go_ret2
      refine ⟨_, rfl, awr, fun t ht => ?_⟩
      obtain rfl := Option.some.inj ht
      obtain ⟨g1, g2⟩ := HSX.out wr (fun k _ hk hne => hg.block k hk (fun e => by injection e with e; exact hne e))
      have hK := HK.out
      rw [HSZ.out, HTO.out] at hK
      exact ⟨b, vr, vf, rfl, Nat.le_trans hB hbw, hK, g1, g2⟩

theorem comb_c1 (w : World) (B : Nat) (sv : Value) (f g : FT) (h : PartsV w B sv [f, g]) (hB : B ≤ w.heap.size) (ho : ∀ q ∈ [f, g], FT.ok q) (hs : ([f, g].map FT.size).sum ≤ 39) (hok : compOk [f, g] = true) (hz : (compL (FT.real f) (FT.arity g) [g]).size ≤ 3900) :
    Calls Try.prog 102 #[str [99], sv] w (WFPost w B (some (.c1 f g))) := by
  have h3 : ∀ q ∈ [f, g], FT.arity q ≤ 3 := fun q hq => FT.arity_le (ho q hq)
  obtain ⟨ps, hps⟩ : ∃ ps, ps = [f, g] := ⟨_, rfl⟩
  have hpl : ps.length = 2 := by rw [hps]; rfl
  have h' := h
  rw [← hps] at h
  have hsum : (ps.map FT.size).sum ≤ 39 := by rw [hps]; exact hs
  obtain ⟨W1, hW1⟩ : ∃ W1, W1 = w.alloc (.cells #[.int .i64 0, .int .i64 0, .bool false, .nilIface, .nilFunc] 73 (0, 0)) := ⟨_, rfl⟩
  have a1 : After w W1 := by rw [hW1]; exact After.new _ _
  have hP1 := h'.after a1
  have k1 := composes_any W1 B sv [f, g] hP1 (by simp) h3
  rw [hok] at k1
  have hB1 := Nat.le_trans hB a1.size
  obtain ⟨s, o, cap, v0, rfl, hcap, hc0, hv0⟩ := hP1.at 0 (by simp)
  rw [Nat.add_zero] at hc0
  have c0 : ∀ W, After W1 W → W.cell? ⟨s, o, none⟩ = some v0 := fun W hW => cell_later' hc0 W hW
  have hcap1 : ¬ cap = 1 := by simp at hcap; omega
  have k2 := fun W (hW : After W1 W) => comp_c1 W B f g v0 _ (hv0.after hW) (hP1.tail.after hW) (Nat.le_trans hB1 hW.size) (h3 g (by simp)) hz
  have HPL := Lib.hid hpl
  have HP := Lib.hid h
  have HW1 := Lib.hid hW1
  have HSZ := Lib.hid (show 1 + sumL ps 2 = FT.size (.c1 f g) by rw [hps]; simp [sumL, FT.size])
  have HTO := Lib.hid (show (true && allL ps 2) = FT.total (.c1 f g) by rw [hps]; simp [allL, FT.total])
  have hself := After.refl W1
  obtain ⟨bf, Tf, xf, vf, rfl, hbf, _, _, _⟩ := hv0.fields
  clear hP1 hv0 hc0 hps hW1 h hpl h' ho h3 hs hok
  simp only [List.length_cons, List.length_nil, Nat.zero_add, Nat.reduceAdd] at k1 HP hcap k2 ⊢
  go_enter Try.func102, Try.ntmps102
  go_wp2_with fail
  rw [← HW1.out]
  refine k1.mono ?_
  rintro e w2 ⟨rfl, ha2⟩
  go_wp2_with fail
  go_region_held3 (fun W' => After W1 W') (first | assumption | exact ha2.drew | go_keep)
    (first | (go_at_call 112; refine (k2 _ (by first | assumption | exact ha2.drew)).mono ?_; rintro e w3 ⟨b, vr, vf, rfl, ha3, hb, hh, hsx⟩; have ha3' : After W1 w3 := After.trans (by first | assumption | exact ha2.drew) ha3; have hbW : W1.heap.size ≤ b := Nat.le_trans (After.le (by first | assumption | exact ha2.drew)) hb; clear ha3 hb))
  have hC : Cnt w3 b (FT.arity (.c1 f g)) 0 false vr vf := hh
  have f1 := hC.fr 1
  have f2 := hC.fr 2
  have d1 : w3.cell? ⟨b, 1, none⟩ = some (.int .i64 0) := hC.c1
  have d2 : w3.cell? ⟨b, 2, none⟩ = some (.bool false) := hC.c2
  have HC := Lib.hid hC
  have HSX := Lib.hid hsx
  have aw3 : After w w3 := a1.trans ha3'
  have hbw : w.heap.size ≤ b := Nat.le_trans a1.size hbW
  clear hh hsx hC k1 k2 c0
  go_wp2_with fail
  clear f1 f2 d1 d2
  go_loopw [8, 59] (fun _ i wr => ∃ k : Nat, i = .int .i64 k ∧ k ≤ 2 ∧ Hid (Cnt wr b (FT.arity (.c1 f g)) (1 + sumL ps k) (true && allL ps k) vr vf) ∧ w3.grownBy wr (some b)) (fun _ i _ => 2 - (intOf i).toNat)
  case atStart => exact ⟨0, rfl, by omega, HC.out.set1.set2, grown_trans (grown_setx _ _ _ _) (grown_setx _ _ _ _)⟩
  case round =>
    obtain ⟨k, rfl, hk, HK, hg⟩ := hrel
    have awr := after_own aw3 hbw hg
    by_cases hlt : k < 2
    · have hkl : k < ps.length := by rw [HPL.out]; exact hlt
      obtain ⟨s', o', cap3, vk, hsv, _, hck, hvk⟩ := HP.out.at k hkl
      injection hsv with e1 e2 e3
      injection e1 with e1
      injection e1 with e1 e4
      subst e1
      subst e4
      subst e3
      clear e2
      obtain ⟨bk, Tk, xk, vfk, rfl, hbk, hhk, _, _⟩ := hvk.fields
      have hck' : wr.cell? ⟨s, o + k, none⟩ = some (ptr bk) := cell_later' hck wr awr
      have hbkw : bk < w.heap.size := (Array.getElem?_eq_some_iff.1 hhk).1
      have p1 : ∀ W, After w W → W.cell? ⟨bk, 1, none⟩ = some (.int .i64 (FT.size ps[k] : Nat)) := fun W hW => cell_later' (cell_of_heap (i := 1) hhk) W hW
      have p2 : ∀ W, After w W → W.cell? ⟨bk, 2, none⟩ = some (.bool (FT.total ps[k])) := fun W hW => cell_later' (cell_of_heap (i := 2) hhk) W hW
      have q1 := HK.out.c1
      have f1 := HK.out.fr 1
      have hs1 := sumL_le ps k
      have hs2 := sumL_le ps (k + 1)
      rw [sumL_succ ps k hkl] at hs2
      have HS := Lib.hid (sumL_succ ps k hkl)
      have HA := Lib.hid (allL_succ ps k hkl)
      generalize hsk : sumL ps k = sk at *
      generalize hak : allL ps k = ak at *
      generalize hszk : FT.size ps[k] = zk at *
      generalize htk : FT.total ps[k] = tk at *
      clear hhk hvk hck
      go_wp2_with fail
      go_region
      have hc : (1 : Int) + (sk : Int) + (zk : Int) = ((1 + sk + zk : Nat) : Int) := by omega
      rw [hc]
      obtain ⟨W2, hW2⟩ : ∃ W2, W2 = (wr.setCell ⟨b, 1, none⟩ (.int .i64 ((1 + sk + zk : Nat) : Int))).drew := ⟨_, rfl⟩
      have hK2 : Cnt W2 b (FT.arity (.c1 f g)) (1 + sk + zk) (true && ak) vr vf := by rw [hW2]; exact HK.out.set1
      have hg2 : w3.grownBy W2 (some b) := by rw [hW2]; exact grown_trans hg (grown_trans (grown_setx _ _ _ _) (grown_drawn _ _ 1))
      have aW2 := after_own aw3 hbw hg2
      have q2 := hK2.c2
      have f2 := hK2.fr 2
      have HK2 := Lib.hid hK2
      rw [← hW2]
      clear hK2 q1 f1 hc hW2 hg
      cases hak2 : (true && ak)
      all_goals
        rw [hak2] at q2
        go_wp2_with fail
        go_roundw
        case measure => simp [intOf]; omega
        case rel =>
          refine ⟨k + 1, by go_num, by omega, ?_, grown_trans hg2 (grown_setx _ _ _ _)⟩
          show Cnt _ _ _ _ _ _ _
          rw [HS.out, HA.out, ← Bool.and_assoc, hak2, ← Nat.add_assoc]
          first
            | (rw [Bool.false_and]; exact HK2.out.set2)
            | (rw [Bool.true_and]; exact HK2.out.set2)
    · obtain rfl : k = 2 := by omega
      go_wp2_with fail
      go_ret2
      refine ⟨_, rfl, awr, fun t ht => ?_⟩
      obtain rfl := Option.some.inj ht
      obtain ⟨g1, g2⟩ := HSX.out wr (fun k _ hk hne => hg.block k hk (fun e => by injection e with e; exact hne e))
      have hK := HK.out
      rw [HSZ.out, HTO.out] at hK
      exact ⟨b, vr, vf, rfl, Nat.le_trans hB hbw, hK, g1, g2⟩

theorem comb_c2 (w : World) (B : Nat) (sv : Value) (f g h1 : FT) (h : PartsV w B sv [f, g, h1]) (hB : B ≤ w.heap.size) (ho : ∀ q ∈ [f, g, h1], FT.ok q) (hs : ([f, g, h1].map FT.size).sum ≤ 39) (hok : compOk [f, g, h1] = true) (hz : (compL (FT.real f) (FT.arity g) [g, h1]).size ≤ 3900) :
    Calls Try.prog 102 #[str [99], sv] w (WFPost w B (some (.c2 f g h1))) := by
  have h3 : ∀ q ∈ [f, g, h1], FT.arity q ≤ 3 := fun q hq => FT.arity_le (ho q hq)
  obtain ⟨ps, hps⟩ : ∃ ps, ps = [f, g, h1] := ⟨_, rfl⟩
  have hpl : ps.length = 3 := by rw [hps]; rfl
  have h' := h
  rw [← hps] at h
  have hsum : (ps.map FT.size).sum ≤ 39 := by rw [hps]; exact hs
  obtain ⟨W1, hW1⟩ : ∃ W1, W1 = w.alloc (.cells #[.int .i64 0, .int .i64 0, .bool false, .nilIface, .nilFunc] 73 (0, 0)) := ⟨_, rfl⟩
  have a1 : After w W1 := by rw [hW1]; exact After.new _ _
  have hP1 := h'.after a1
  have k1 := composes_any W1 B sv [f, g, h1] hP1 (by simp) h3
  rw [hok] at k1
  have hB1 := Nat.le_trans hB a1.size
  obtain ⟨s, o, cap, v0, rfl, hcap, hc0, hv0⟩ := hP1.at 0 (by simp)
  rw [Nat.add_zero] at hc0
  have c0 : ∀ W, After W1 W → W.cell? ⟨s, o, none⟩ = some v0 := fun W hW => cell_later' hc0 W hW
  have hcap1 : ¬ cap = 1 := by simp at hcap; omega
  have k2 := fun W (hW : After W1 W) => comp_c2 W B f g h1 v0 _ (hv0.after hW) (hP1.tail.after hW) (Nat.le_trans hB1 hW.size) (h3 g (by simp)) hz
  have HPL := Lib.hid hpl
  have HP := Lib.hid h
  have HW1 := Lib.hid hW1
  have HSZ := Lib.hid (show 1 + sumL ps 3 = FT.size (.c2 f g h1) by rw [hps]; simp [sumL, FT.size])
  have HTO := Lib.hid (show (true && allL ps 3) = FT.total (.c2 f g h1) by rw [hps]; simp [allL, FT.total, Bool.and_assoc])
  have hself := After.refl W1
  obtain ⟨bf, Tf, xf, vf, rfl, hbf, _, _, _⟩ := hv0.fields
  clear hP1 hv0 hc0 hps hW1 h hpl h' ho h3 hs hok
  simp only [List.length_cons, List.length_nil, Nat.zero_add, Nat.reduceAdd] at k1 HP hcap k2 ⊢
  go_enter Try.func102, Try.ntmps102
  go_wp2_with fail
  rw [← HW1.out]
  refine k1.mono ?_
  rintro e w2 ⟨rfl, ha2⟩
  go_wp2_with fail
  go_region_held3 (fun W' => After W1 W') (first | assumption | exact ha2.drew | go_keep)
    (first | (go_at_call 112; refine (k2 _ (by first | assumption | exact ha2.drew)).mono ?_; rintro e w3 ⟨b, vr, vf, rfl, ha3, hb, hh, hsx⟩; have ha3' : After W1 w3 := After.trans (by first | assumption | exact ha2.drew) ha3; have hbW : W1.heap.size ≤ b := Nat.le_trans (After.le (by first | assumption | exact ha2.drew)) hb; clear ha3 hb))
  have hC : Cnt w3 b (FT.arity (.c2 f g h1)) 0 false vr vf := hh
  have f1 := hC.fr 1
  have f2 := hC.fr 2
  have d1 : w3.cell? ⟨b, 1, none⟩ = some (.int .i64 0) := hC.c1
  have d2 : w3.cell? ⟨b, 2, none⟩ = some (.bool false) := hC.c2
  have HC := Lib.hid hC
  have HSX := Lib.hid hsx
  have aw3 : After w w3 := a1.trans ha3'
  have hbw : w.heap.size ≤ b := Nat.le_trans a1.size hbW
  clear hh hsx hC k1 k2 c0
  go_wp2_with fail
  clear f1 f2 d1 d2
  go_loopw [8, 59] (fun _ i wr => ∃ k : Nat, i = .int .i64 k ∧ k ≤ 3 ∧ Hid (Cnt wr b (FT.arity (.c2 f g h1)) (1 + sumL ps k) (true && allL ps k) vr vf) ∧ w3.grownBy wr (some b)) (fun _ i _ => 3 - (intOf i).toNat)
  case atStart => exact ⟨0, rfl, by omega, HC.out.set1.set2, grown_trans (grown_setx _ _ _ _) (grown_setx _ _ _ _)⟩
  case round =>
    obtain ⟨k, rfl, hk, HK, hg⟩ := hrel
    have awr := after_own aw3 hbw hg
    by_cases hlt : k < 3
    · have hkl : k < ps.length := by rw [HPL.out]; exact hlt
      obtain ⟨s', o', cap3, vk, hsv, _, hck, hvk⟩ := HP.out.at k hkl
      injection hsv with e1 e2 e3
      injection e1 with e1
      injection e1 with e1 e4
      subst e1
      subst e4
      subst e3
      clear e2
      obtain ⟨bk, Tk, xk, vfk, rfl, hbk, hhk, _, _⟩ := hvk.fields
      have hck' : wr.cell? ⟨s, o + k, none⟩ = some (ptr bk) := cell_later' hck wr awr
      have hbkw : bk < w.heap.size := (Array.getElem?_eq_some_iff.1 hhk).1
      have p1 : ∀ W, After w W → W.cell? ⟨bk, 1, none⟩ = some (.int .i64 (FT.size ps[k] : Nat)) := fun W hW => cell_later' (cell_of_heap (i := 1) hhk) W hW
      have p2 : ∀ W, After w W → W.cell? ⟨bk, 2, none⟩ = some (.bool (FT.total ps[k])) := fun W hW => cell_later' (cell_of_heap (i := 2) hhk) W hW
      have q1 := HK.out.c1
      have f1 := HK.out.fr 1
      have hs1 := sumL_le ps k
      have hs2 := sumL_le ps (k + 1)
      rw [sumL_succ ps k hkl] at hs2
      have HS := Lib.hid (sumL_succ ps k hkl)
      have HA := Lib.hid (allL_succ ps k hkl)
      generalize hsk : sumL ps k = sk at *
      generalize hak : allL ps k = ak at *
      generalize hszk : FT.size ps[k] = zk at *
      generalize htk : FT.total ps[k] = tk at *
      clear hhk hvk hck
      go_wp2_with fail
      go_region
      have hc : (1 : Int) + (sk : Int) + (zk : Int) = ((1 + sk + zk : Nat) : Int) := by omega
      rw [hc]
      obtain ⟨W2, hW2⟩ : ∃ W2, W2 = (wr.setCell ⟨b, 1, none⟩ (.int .i64 ((1 + sk + zk : Nat) : Int))).drew := ⟨_, rfl⟩
      have hK2 : Cnt W2 b (FT.arity (.c2 f g h1)) (1 + sk + zk) (true && ak) vr vf := by rw [hW2]; exact HK.out.set1
      have hg2 : w3.grownBy W2 (some b) := by rw [hW2]; exact grown_trans hg (grown_trans (grown_setx _ _ _ _) (grown_drawn _ _ 1))
      have aW2 := after_own aw3 hbw hg2
      have q2 := hK2.c2
      have f2 := hK2.fr 2
      have HK2 := Lib.hid hK2
      rw [← hW2]
      clear hK2 q1 f1 hc hW2 hg
      cases hak2 : (true && ak)
      all_goals
        rw [hak2] at q2
        go_wp2_with fail
        go_roundw
        case measure => simp [intOf]; omega
        case rel =>
          refine ⟨k + 1, by go_num, by omega, ?_, grown_trans hg2 (grown_setx _ _ _ _)⟩
          show Cnt _ _ _ _ _ _ _
          rw [HS.out, HA.out, ← Bool.and_assoc, hak2, ← Nat.add_assoc]
          first
            | (rw [Bool.false_and]; exact HK2.out.set2)
            | (rw [Bool.true_and]; exact HK2.out.set2)
    · obtain rfl : k = 3 := by omega
      go_wp2_with fail
      go_ret2
      refine ⟨_, rfl, awr, fun t ht => ?_⟩
      obtain rfl := Option.some.inj ht
      obtain ⟨g1, g2⟩ := HSX.out wr (fun k _ hk hne => hg.block k hk (fun e => by injection e with e; exact hne e))
      have hK := HK.out
      rw [HSZ.out, HTO.out] at hK
      exact ⟨b, vr, vf, rfl, Nat.le_trans hB hbw, hK, g1, g2⟩

theorem comb_c3 (w : World) (B : Nat) (sv : Value) (f g h1 h2 : FT) (h : PartsV w B sv [f, g, h1, h2]) (hB : B ≤ w.heap.size) (ho : ∀ q ∈ [f, g, h1, h2], FT.ok q) (hs : ([f, g, h1, h2].map FT.size).sum ≤ 39) (hok : compOk [f, g, h1, h2] = true) (hz : (compL (FT.real f) (FT.arity g) [g, h1, h2]).size ≤ 3900) :
    Calls Try.prog 102 #[str [99], sv] w (WFPost w B (some (.c3 f g h1 h2))) := by
  have h3 : ∀ q ∈ [f, g, h1, h2], FT.arity q ≤ 3 := fun q hq => FT.arity_le (ho q hq)
  obtain ⟨ps, hps⟩ : ∃ ps, ps = [f, g, h1, h2] := ⟨_, rfl⟩
  have hpl : ps.length = 4 := by rw [hps]; rfl
  have h' := h
  rw [← hps] at h
  have hsum : (ps.map FT.size).sum ≤ 39 := by rw [hps]; exact hs
  obtain ⟨W1, hW1⟩ : ∃ W1, W1 = w.alloc (.cells #[.int .i64 0, .int .i64 0, .bool false, .nilIface, .nilFunc] 73 (0, 0)) := ⟨_, rfl⟩
  have a1 : After w W1 := by rw [hW1]; exact After.new _ _
  have hP1 := h'.after a1
  have k1 := composes_any W1 B sv [f, g, h1, h2] hP1 (by simp) h3
  rw [hok] at k1
  have hB1 := Nat.le_trans hB a1.size
  obtain ⟨s, o, cap, v0, rfl, hcap, hc0, hv0⟩ := hP1.at 0 (by simp)
  rw [Nat.add_zero] at hc0
  have c0 : ∀ W, After W1 W → W.cell? ⟨s, o, none⟩ = some v0 := fun W hW => cell_later' hc0 W hW
  have hcap1 : ¬ cap = 1 := by simp at hcap; omega
  have k2 := fun W (hW : After W1 W) => comp_c3 W B f g h1 h2 v0 _ (hv0.after hW) (hP1.tail.after hW) (Nat.le_trans hB1 hW.size) (h3 g (by simp)) hz
  have HPL := Lib.hid hpl
  have HP := Lib.hid h
  have HW1 := Lib.hid hW1
  have HSZ := Lib.hid (show 1 + sumL ps 4 = FT.size (.c3 f g h1 h2) by rw [hps]; simp [sumL, FT.size])
  have HTO := Lib.hid (show (true && allL ps 4) = FT.total (.c3 f g h1 h2) by rw [hps]; simp [allL, FT.total, Bool.and_assoc])
  have hself := After.refl W1
  obtain ⟨bf, Tf, xf, vf, rfl, hbf, _, _, _⟩ := hv0.fields
  clear hP1 hv0 hc0 hps hW1 h hpl h' ho h3 hs hok
  simp only [List.length_cons, List.length_nil, Nat.zero_add, Nat.reduceAdd] at k1 HP hcap k2 ⊢
  go_enter Try.func102, Try.ntmps102
  go_wp2_with fail
  rw [← HW1.out]
  refine k1.mono ?_
  rintro e w2 ⟨rfl, ha2⟩
  go_wp2_with fail
  go_region_held3 (fun W' => After W1 W') (first | assumption | exact ha2.drew | go_keep)
    (first | (go_at_call 112; refine (k2 _ (by first | assumption | exact ha2.drew)).mono ?_; rintro e w3 ⟨b, vr, vf, rfl, ha3, hb, hh, hsx⟩; have ha3' : After W1 w3 := After.trans (by first | assumption | exact ha2.drew) ha3; have hbW : W1.heap.size ≤ b := Nat.le_trans (After.le (by first | assumption | exact ha2.drew)) hb; clear ha3 hb))
  have hC : Cnt w3 b (FT.arity (.c3 f g h1 h2)) 0 false vr vf := hh
  have f1 := hC.fr 1
  have f2 := hC.fr 2
  have d1 : w3.cell? ⟨b, 1, none⟩ = some (.int .i64 0) := hC.c1
  have d2 : w3.cell? ⟨b, 2, none⟩ = some (.bool false) := hC.c2
  have HC := Lib.hid hC
  have HSX := Lib.hid hsx
  have aw3 : After w w3 := a1.trans ha3'
  have hbw : w.heap.size ≤ b := Nat.le_trans a1.size hbW
  clear hh hsx hC k1 k2 c0
  go_wp2_with fail
  clear f1 f2 d1 d2
  go_loopw [8, 59] (fun _ i wr => ∃ k : Nat, i = .int .i64 k ∧ k ≤ 4 ∧ Hid (Cnt wr b (FT.arity (.c3 f g h1 h2)) (1 + sumL ps k) (true && allL ps k) vr vf) ∧ w3.grownBy wr (some b)) (fun _ i _ => 4 - (intOf i).toNat)
  case atStart => exact ⟨0, rfl, by omega, HC.out.set1.set2, grown_trans (grown_setx _ _ _ _) (grown_setx _ _ _ _)⟩
  case round =>
    obtain ⟨k, rfl, hk, HK, hg⟩ := hrel
    have awr := after_own aw3 hbw hg
    by_cases hlt : k < 4
    · have hkl : k < ps.length := by rw [HPL.out]; exact hlt
      obtain ⟨s', o', cap3, vk, hsv, _, hck, hvk⟩ := HP.out.at k hkl
      injection hsv with e1 e2 e3
      injection e1 with e1
      injection e1 with e1 e4
      subst e1
      subst e4
      subst e3
      clear e2
      obtain ⟨bk, Tk, xk, vfk, rfl, hbk, hhk, _, _⟩ := hvk.fields
      have hck' : wr.cell? ⟨s, o + k, none⟩ = some (ptr bk) := cell_later' hck wr awr
      have hbkw : bk < w.heap.size := (Array.getElem?_eq_some_iff.1 hhk).1
      have p1 : ∀ W, After w W → W.cell? ⟨bk, 1, none⟩ = some (.int .i64 (FT.size ps[k] : Nat)) := fun W hW => cell_later' (cell_of_heap (i := 1) hhk) W hW
      have p2 : ∀ W, After w W → W.cell? ⟨bk, 2, none⟩ = some (.bool (FT.total ps[k])) := fun W hW => cell_later' (cell_of_heap (i := 2) hhk) W hW
      have q1 := HK.out.c1
      have f1 := HK.out.fr 1
      have hs1 := sumL_le ps k
      have hs2 := sumL_le ps (k + 1)
      rw [sumL_succ ps k hkl] at hs2
      have HS := Lib.hid (sumL_succ ps k hkl)
      have HA := Lib.hid (allL_succ ps k hkl)
      generalize hsk : sumL ps k = sk at *
      generalize hak : allL ps k = ak at *
      generalize hszk : FT.size ps[k] = zk at *
      generalize htk : FT.total ps[k] = tk at *
      clear hhk hvk hck
      go_wp2_with fail
      go_region
      have hc : (1 : Int) + (sk : Int) + (zk : Int) = ((1 + sk + zk : Nat) : Int) := by omega
      rw [hc]
      obtain ⟨W2, hW2⟩ : ∃ W2, W2 = (wr.setCell ⟨b, 1, none⟩ (.int .i64 ((1 + sk + zk : Nat) : Int))).drew := ⟨_, rfl⟩
      have hK2 : Cnt W2 b (FT.arity (.c3 f g h1 h2)) (1 + sk + zk) (true && ak) vr vf := by rw [hW2]; exact HK.out.set1
      have hg2 : w3.grownBy W2 (some b) := by rw [hW2]; exact grown_trans hg (grown_trans (grown_setx _ _ _ _) (grown_drawn _ _ 1))
      have aW2 := after_own aw3 hbw hg2
      have q2 := hK2.c2
      have f2 := hK2.fr 2
      have HK2 := Lib.hid hK2
      rw [← hW2]
      clear hK2 q1 f1 hc hW2 hg
      cases hak2 : (true && ak)
      all_goals
        rw [hak2] at q2
        go_wp2_with fail
        go_roundw
        case measure => simp [intOf]; omega
        case rel =>
          refine ⟨k + 1, by go_num, by omega, ?_, grown_trans hg2 (grown_setx _ _ _ _)⟩
          show Cnt _ _ _ _ _ _ _
          rw [HS.out, HA.out, ← Bool.and_assoc, hak2, ← Nat.add_assoc]
          first
            | (rw [Bool.false_and]; exact HK2.out.set2)
            | (rw [Bool.true_and]; exact HK2.out.set2)
    · obtain rfl : k = 4 := by omega
      go_wp2_with fail
      go_ret2
      refine ⟨_, rfl, awr, fun t ht => ?_⟩
      obtain rfl := Option.some.inj ht
      obtain ⟨g1, g2⟩ := HSX.out wr (fun k _ hk hne => hg.block k hk (fun e => by injection e with e; exact hne e))
      have hK := HK.out
      rw [HSZ.out, HTO.out] at hK
      exact ⟨b, vr, vf, rfl, Nat.le_trans hB hbw, hK, g1, g2⟩
end Go.Proofs.Ytjomocjlnjgkeaa

namespace Go.Proofs.Ytjomocjlnjgkeaa
open Go.RowKit

set_option maxHeartbeats 2000000
set_option maxRecDepth 100000

theorem wf_no {w w' : World} {B : Nat} (h : After w w') (v : Value) : WFPost w B none (.returned (.tuple #[v, .bool false])) w' := ⟨v, rfl, h, fun t ht => by cases ht⟩

theorem comb_no_c (w : World) (B : Nat) (sv : Value) (ps : List FT) (h : PartsV w B sv ps) (hn : ps.length ≤ 1000) (ho : ∀ f ∈ ps, FT.arity f ≤ 3) (hok : compOk ps = false) :
    Calls Try.prog 102 #[str [99], sv] w (WFPost w B none) := by
  obtain ⟨W1, hW1⟩ : ∃ W1, W1 = w.alloc (.cells #[.int .i64 0, .int .i64 0, .bool false, .nilIface, .nilFunc] 73 (0, 0)) := ⟨_, rfl⟩
  have a1 : After w W1 := by rw [hW1]; exact After.new _ _
  have k1 := composes_any W1 B sv ps (h.after a1) hn ho
  rw [hok] at k1
  obtain ⟨ao, cap, rfl⟩ := h.form
  have HW1 := Lib.hid hW1
  clear h hok hW1
  go_enter Try.func102, Try.ntmps102
  go_wp2_with fail
  rw [← HW1.out]
  refine k1.mono ?_
  rintro e w2 ⟨rfl, ha2⟩
  go_wp2_with fail
  go_ret2
  exact wf_no (a1.trans ha2) _

theorem comb_no_r (w : World) (B : Nat) (sv : Value) (ps : List FT) (h : PartsV w B sv ps) (hn : ps.length ≤ 1000) (ho : ∀ f ∈ ps, FT.arity f ≤ 3) (hok : recOk ps = false) :
    Calls Try.prog 102 #[str [114], sv] w (WFPost w B none) := by
  obtain ⟨W1, hW1⟩ : ∃ W1, W1 = w.alloc (.cells #[.int .i64 0, .int .i64 0, .bool false, .nilIface, .nilFunc] 73 (0, 0)) := ⟨_, rfl⟩
  have a1 : After w W1 := by rw [hW1]; exact After.new _ _
  have k1 := recurs_any W1 B sv ps (h.after a1) hn ho
  rw [hok] at k1
  obtain ⟨ao, cap, rfl⟩ := h.form
  have HW1 := Lib.hid hW1
  clear h hok hW1
  go_enter Try.func102, Try.ntmps102
  go_wp2_with fail
  rw [← HW1.out]
  refine k1.mono ?_
  rintro e w2 ⟨rfl, ha2⟩
  go_wp2_with fail
  go_ret2
  exact wf_no (a1.trans ha2) _

theorem comb_no_m (w : World) (B : Nat) (sv : Value) (ps : List FT) (h : PartsV w B sv ps) (hn : ps.length ≤ 1000) (ho : ∀ f ∈ ps, FT.arity f ≤ 3) (hok : searOk ps = false) :
    Calls Try.prog 102 #[str [109], sv] w (WFPost w B none) := by
  obtain ⟨W1, hW1⟩ : ∃ W1, W1 = w.alloc (.cells #[.int .i64 0, .int .i64 0, .bool false, .nilIface, .nilFunc] 73 (0, 0)) := ⟨_, rfl⟩
  have a1 : After w W1 := by rw [hW1]; exact After.new _ _
  have k1 := searches_any W1 B sv ps (h.after a1) hn ho
  rw [hok] at k1
  obtain ⟨ao, cap, rfl⟩ := h.form
  have HW1 := Lib.hid hW1
  clear h hok hW1
  go_enter Try.func102, Try.ntmps102
  go_wp2_with fail
  rw [← HW1.out]
  refine k1.mono ?_
  rintro e w2 ⟨rfl, ha2⟩
  go_wp2_with fail
  go_ret2
  exact wf_no (a1.trans ha2) _

theorem comb_no (w : World) (B : Nat) (sv : Value) (l : List UInt8) (n1 : (l == [99]) = false) (n2 : (l == [114]) = false) (n3 : (l == [109]) = false) :
    Calls Try.prog 102 #[str l, sv] w (WFPost w B none) := by
  go_enter Try.func102, Try.ntmps102
  go_wp2_with fail
  go_ret2
  exact wf_no (After.new _ _) _

theorem comp_sum (F : FT) (hF : FT.ok F) (a : Nat) (ha : a ≤ 3) (gs : List FT) (hg : ∀ g ∈ gs, FT.ok g) (hn : gs.length ≤ 3) (hs : FT.size F + (gs.map FT.size).sum ≤ 39) : (compL (FT.real F) a gs).size ≤ 3900 := by
  rw [compL_size _ a ha]
  have h0 := (FT.real_small hF).1
  have hoff : ∀ a, FT.off a ≤ 21 := fun a => by
    match a with
    | 0 => decide
    | 1 => decide
    | 2 => decide
    | a + 3 => simp [FT.off]
  have h1 := hoff (FT.arity F)
  have hall : ((gs.map fun g => (FT.real g).size + a).sum : Int) ≤ 63 * ((gs.map FT.size).sum : Nat) + 24 * gs.length := by
    clear hn hs
    induction gs with
    | nil => simp
    | cons g gs ih =>
      have h2 := (FT.real_small (hg g (by simp))).1
      have h3 := hoff (FT.arity g)
      have := ih (fun q hq => hg q (by simp [hq]))
      simp only [List.map_cons, List.sum_cons, List.length_cons]
      omega
  omega

theorem combination_any (w : World) (B : Nat) (l : List UInt8) (sv : Value) (ps : List FT) (h : PartsV w B sv ps) (hB : B ≤ w.heap.size) (hn : ps.length ≤ 1000) (ho : ∀ f ∈ ps, FT.ok f) (hs : (ps.map FT.size).sum ≤ 39) :
    Calls Try.prog 102 #[str l, sv] w (WFPost w B (FT.comb l ps)) := by
  have ha : ∀ f ∈ ps, FT.arity f ≤ 3 := fun q hq => FT.arity_le (ho q hq)
  by_cases hc : l = [99]
  · subst hc
    cases hok : compOk ps with
    | false =>
      rw [show FT.comb [99] ps = none from ?_]
      · exact comb_no_c w B sv ps h hn ha hok
      · match ps, hok with
        | [], _ => rfl
        | [_], _ => rfl
        | [f, g], hok => simp [compOk] at hok; simp [FT.comb, hok]
        | [f, g, k], hok => simp [compOk] at hok; simp [FT.comb]; omega
        | [f, g, k, i], hok => simp [compOk] at hok; simp [FT.comb]; omega
        | _ :: _ :: _ :: _ :: _ :: _, _ => rfl
    | true =>
      match ps, hok with
      | [f, g], hok =>
        have h1 : FT.arity f = 1 := by simp [compOk] at hok; exact hok
        rw [show FT.comb [99] [f, g] = some (.c1 f g) by simp [FT.comb, h1]]
        exact comb_c1 w B sv f g h hB ho hs hok (comp_sum f (ho f (by simp)) _ (ha g (by simp)) _ (fun q hq => ho q (by simp at hq ⊢; simp [hq])) (by simp) (by simpa using hs))
      | [f, g, k], hok =>
        have h1 := hok
        simp [compOk] at h1
        rw [show FT.comb [99] [f, g, k] = some (.c2 f g k) by simp [FT.comb, h1]]
        exact comb_c2 w B sv f g k h hB ho hs hok (comp_sum f (ho f (by simp)) _ (ha g (by simp)) _ (fun q hq => ho q (by simp at hq ⊢; rcases hq with rfl | rfl <;> simp)) (by simp) (by simpa using hs))
      | [f, g, k, i], hok =>
        have h1 := hok
        simp [compOk] at h1
        rw [show FT.comb [99] [f, g, k, i] = some (.c3 f g k i) by simp [FT.comb, h1]]
        exact comb_c3 w B sv f g k i h hB ho hs hok (comp_sum f (ho f (by simp)) _ (ha g (by simp)) _ (fun q hq => ho q (by simp at hq ⊢; rcases hq with rfl | rfl | rfl <;> simp)) (by simp) (by simpa using hs))
      | f :: g :: k :: i :: j :: r, hok =>
        exfalso
        have h1 := ha f (by simp)
        simp [compOk] at hok
        omega
  by_cases hr : l = [114]
  · subst hr
    cases hok : recOk ps with
    | false =>
      rw [show FT.comb [114] ps = none from ?_]
      · exact comb_no_r w B sv ps h hn ha hok
      · match ps, hok with
        | [], _ => rfl
        | [_], _ => rfl
        | [f, g], hok => simp [recOk] at hok; simp [FT.comb, hok]
        | _ :: _ :: _ :: _, _ => rfl
    | true =>
      match ps, hok with
      | [f, g], hok =>
        have h1 : FT.arity g = FT.arity f + 2 := by simpa [recOk] using hok
        have h2 := ha g (by simp)
        rw [show FT.comb [114] [f, g] = some (.r f g) by simp [FT.comb, h1]]
        have h3 := comp_sum f (ho f (by simp)) 0 (by omega) [g] (fun q hq => ho q (by simp at hq ⊢; simp [hq])) (by simp) (by simpa using hs)
        have h4 := (FT.real_small (ho f (by simp))).1
        have h5 := (FT.real_small (ho g (by simp))).1
        have h6 : FT.off (FT.arity f) ≤ 21 := by
          obtain h | h : FT.arity f = 0 ∨ FT.arity f = 1 := by omega
          all_goals rw [h]; decide
        have h7 : FT.off (FT.arity g) ≤ 21 := by
          obtain h | h : FT.arity g = 2 ∨ FT.arity g = 3 := by omega
          all_goals rw [h]; decide
        exact comb_r w B sv f g h hB ho hs hok (by omega) (by simp at hs; omega)
  by_cases hm : l = [109]
  · subst hm
    cases hok : searOk ps with
    | false =>
      rw [show FT.comb [109] ps = none from ?_]
      · exact comb_no_m w B sv ps h hn ha hok
      · match ps, hok with
        | [], _ => rfl
        | [f], hok => simp [searOk] at hok; simp [FT.comb, hok]
        | _ :: _ :: _, _ => rfl
    | true =>
      match ps, hok with
      | [f], hok =>
        have h1 : 0 < FT.arity f := by simpa [searOk] using hok
        rw [show FT.comb [109] [f] = some (.m f) by simp [FT.comb, h1]]
        have hof := ho f (by simp)
        have hs' : FT.size f ≤ 39 := by simpa using hs
        have h2 := (FT.real_fits hof (by omega)).1
        have h3 := (FT.real_fits (t := .m f) ⟨hof, h1⟩ (by simp only [FT.size]; omega)).1
        have h4 := (absR_ge (FT.ns (FT.arity f - 1)).reverse (Tm.app (Tm.app Tm.fix (FT.absAll [[117], [118]] (FT.seaB (FT.real f) (FT.arity f - 1)))) Tm.I)).1
        have h5 : (FT.real (.m f)).size = (absR (FT.ns (FT.arity f - 1)).reverse (Tm.app (Tm.app Tm.fix (FT.absAll [[117], [118]] (FT.seaB (FT.real f) (FT.arity f - 1)))) Tm.I)).size := rfl
        rw [h5] at h3
        have h6 : (FT.ns (FT.arity f - 1)).reverse.length ≤ 3 := by rw [List.length_reverse, FT.ns, List.length_take]; simp; omega
        simp only [Tm.size] at h4
        exact comb_m w B sv f h hB hof hs' h1 (by omega) (by omega)
  rw [show FT.comb l ps = none by simp [FT.comb, hc, hr, hm]]
  exact comb_no w B sv l (by simpa using hc) (by simpa using hr) (by simpa using hm)
end Go.Proofs.Ytjomocjlnjgkeaa
