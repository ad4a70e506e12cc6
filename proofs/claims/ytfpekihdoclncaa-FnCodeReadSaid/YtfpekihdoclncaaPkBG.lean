/-
  A region that draws its order and ends with two operations that come behind all others: by one obligation an operation.
-/
import Derived.Test.YtfpekihdoclncaaPkAS
import Derived.Test.YtfpekihdoclncaaPkBE
import Derived.Test.YtfpekihdoclncaaPkAX
import Derived.Test.YtfpekihdoclncaaPkBF
namespace Go.Proofs.Ytfpekihdoclncaa
open Go Go.RowKit

set_option maxRecDepth 100000

section
variable {P : Program} {ops : Array Oper} {Q : Exit → Act → World → Prop}

theorem wp_region_reg2 {id n : Nat} {a0 : Act} {w0 : World} (hm : P.follows .mixedOrders = true) (hn : ops.size = n + 2) (hok : regOk ops n = true) (hl1 : regLast ops n = true) (hl2 : ((List.range n).all fun j => depsOn ops (n + 1) j) = true)
    (Ext : World → World → Prop) (hrefl : ∀ w, Ext w w) (htrans : ∀ a b c, Ext a b → Ext b c → Ext a c)
    (R : Nat → Value → World → Prop) (hR : ∀ i v w w', Ext w0.drew w → R i v w → Ext w w' → R i v w')
    (hstep : ∀ i, i < n → ∀ (vs : Nat → Value) (w : World), Ext w0.drew w → (∀ j, depsOn ops i j = true → R j (vs j) w) →
      ∀ K : Act → World → Prop, (∀ v w', Ext w w' → R i v w' → K ((frame a0 ops vs).put (dstOf ops i) v) w') → OpDo P ops Q (frame a0 ops vs) i w K)
    (hA : ∀ (vs : Nat → Value) (w : World), Ext w0.drew w → (∀ i, i < n → R i (vs i) w) → ∀ K : Act → World → Prop, (∀ a' w', (∀ K' : Act → World → Prop, (∀ a w, Q .normal a w → K' a w) → OpDo P ops Q a' (n + 1) w' K') → K a' w') → OpDo P ops Q (frame a0 ops vs) n w K)
    (hB : ∀ (vs : Nat → Value) (w : World), Ext w0.drew w → (∀ i, i < n → R i (vs i) w) → ∀ K : Act → World → Prop, (∀ a' w', (∀ K' : Act → World → Prop, (∀ a w, Q .normal a w → K' a w) → OpDo P ops Q a' n w' K') → K a' w') → OpDo P ops Q (frame a0 ops vs) (n + 1) w K) : (Code.region id ops true).wp P Q a0 w0 := by
  have getSet : ∀ (listed : Array Bool) (i j : Nat), (listed.setIfInBounds i true).getD j false = if j = i ∧ i < listed.size then true else listed.getD j false := fun listed i j => by
    simp only [Array.getD_eq_getD_getElem?, Array.getElem?_setIfInBounds]
    by_cases h : i = j
    · subst h
      by_cases hi : i < listed.size
      · simp [hi]
      · simp [hi]
    · have h' : ¬ j = i := fun e => h e.symm
      simp [h, h']
  refine wp_region_any hm ?_
  refine wpAny_inv (fun listed a w => listed.size = ops.size ∧
    ((∃ vs, a = frame a0 ops vs ∧ Ext w0.drew w ∧ listed.getD n false = false ∧ listed.getD (n + 1) false = false ∧ ∀ j, listed.getD j false = true → R j (vs j) w) ∨
     ((∀ j, j < n + 1 → listed.getD j false = true) ∧ listed.getD (n + 1) false = false ∧ ∀ K' : Act → World → Prop, (∀ a w, Q .normal a w → K' a w) → OpDo P ops Q a (n + 1) w K') ∨
     ((∀ j, j < n → listed.getD j false = true) ∧ listed.getD n false = false ∧ listed.getD (n + 1) false = true ∧ ∀ K' : Act → World → Prop, (∀ a w, Q .normal a w → K' a w) → OpDo P ops Q a n w K') ∨
     ((∀ j, j < ops.size → listed.getD j false = true) ∧ Q .normal a w))) ?_ ?_ ops.size _ _ _ ?_ ⟨by simp, Or.inl ⟨_, (putAll_init a0 (dstOf ops) ops.size).symm, hrefl _, ?_, ?_, fun j hj => ?_⟩⟩
  · rintro listed a w ⟨hsz, h⟩ hr
    have hall := all_listed hsz (regOk_back hok) hr
    rcases h with ⟨vs, _, _, h1, _⟩ | ⟨_, h1, _⟩ | ⟨_, h1, _⟩ | ⟨_, hq⟩
    · have := hall n (by omega); rw [h1] at this; cases this
    · have := hall (n + 1) (by omega); rw [h1] at this; cases this
    · have := hall n (by omega); rw [h1] at this; cases this
    · exact hq
  · rintro listed a w i ⟨hsz, h⟩ hi
    obtain ⟨hlt, hun, o, ho, hdeps⟩ := ready_open hi
    have hun' : listed.getD i false = false := by
      have hls : i < listed.size := by omega
      simp only [Array.getD, hls, dif_pos] at hun ⊢
      exact hun
    have hdep : ∀ j, depsOn ops i j = true → listed.getD j false = true := fun j hj => by
      unfold depsOn at hj
      rw [ho] at hj
      simp only at hj
      rw [Array.any_eq_true] at hj
      obtain ⟨k, hk, hb⟩ := hj
      simp only [Bool.and_eq_true, beq_iff_eq] at hb
      rw [← hb.2]
      exact hdeps _ (Array.getElem_mem hk) hb.1
    have fin : ∀ {A : Act} {K2 : Act → World → Prop}, (∀ K' : Act → World → Prop, (∀ a w, K2 a w → K' a w) → OpDo P ops Q A i w K') → wpOp P ops Q i K2 A w := fun {A K2} h => wpOp_step ho (fun K' hK => by
      have := (h K' hK).out
      rw [ho] at this
      exact this)
    have hsz' : (listed.setIfInBounds i true).size = ops.size := by simpa using hsz
    have d1 : ∀ j, j < n → depsOn ops n j = true := fun j hj => List.all_eq_true.1 hl1 j (List.mem_range.2 hj)
    have d2 : ∀ j, j < n → depsOn ops (n + 1) j = true := fun j hj => List.all_eq_true.1 hl2 j (List.mem_range.2 hj)
    have hil : i < listed.size := by omega
    have same : ∀ j, listed.getD j false = true → (listed.setIfInBounds i true).getD j false = true := fun j hj => by rw [getSet]; split <;> simp [hj]
    have here : (listed.setIfInBounds i true).getD i false = true := by rw [getSet]; simp [hil]
    have other : ∀ j, j ≠ i → listed.getD j false = false → (listed.setIfInBounds i true).getD j false = false := fun j hne hj => by rw [getSet]; simp [hne, hj]
    rcases h with ⟨vs, rfl, hE, h1, h2, hj⟩ | ⟨h1, h2, hp⟩ | ⟨h1, h2, h3, hp⟩ | ⟨h1, hq⟩
    · by_cases hin : i < n
      · refine fin (fun K' hK => hstep i hin vs w hE (fun j hjd => hj j (hdep j hjd)) K' (fun v w' he hr => hK _ _ ⟨hsz', Or.inl ⟨fun j => if j = i then v else vs j, ?_, htrans _ _ _ hE he, other n (by omega) h1, other (n + 1) (by omega) h2, fun j hjl => ?_⟩⟩))
        · exact (putAll_upd a0 (dstOf ops) vs i v ops.size hlt (fun j hj' hne => regOk_dst hok i j hin hj' hne)).symm
        · by_cases hji : j = i
          · subst hji; simpa using hr
          · simp only [hji, if_false]
            refine hR j _ w w' hE (hj j ?_) he
            rw [getSet, if_neg (fun h => hji h.1)] at hjl
            exact hjl
      · by_cases hi0 : i = n
        · subst hi0
          refine fin (fun K' hK => hA vs w hE (fun j hjn => hj j (hdep j (d1 j hjn))) K' (fun a' w' hp => hK _ _ ⟨hsz', Or.inr (Or.inl ⟨fun j hjn => ?_, other _ (by omega) h2, hp⟩)⟩))
          by_cases hji : j = i
          · rw [hji]; exact here
          · exact same j (hdep j (d1 j (by omega)))
        · obtain rfl : i = n + 1 := by omega
          refine fin (fun K' hK => hB vs w hE (fun j hjn => hj j (hdep j (d2 j hjn))) K' (fun a' w' hp => hK _ _ ⟨hsz', Or.inr (Or.inr (Or.inl ⟨fun j hjn => same j (hdep j (d2 j hjn)), other n (by omega) h1, here, hp⟩))⟩))
    · have hi1 : i = n + 1 := by
        by_cases hlt' : i < n + 1
        · have := h1 i hlt'; rw [hun'] at this; cases this
        · omega
      subst hi1
      refine fin (fun K' hK => hp K' (fun a w hq => hK _ _ ⟨hsz', Or.inr (Or.inr (Or.inr ⟨fun j hjs => ?_, hq⟩))⟩))
      by_cases hji : j = n + 1
      · rw [hji]; exact here
      · exact same j (h1 j (by omega))
    · have hi1 : i = n := by
        by_cases hlt' : i < n
        · have := h1 i hlt'; rw [hun'] at this; cases this
        · by_cases he : i = n + 1
          · rw [he, h3] at hun'; cases hun'
          · omega
      subst hi1
      refine fin (fun K' hK => hp K' (fun a w hq => hK _ _ ⟨hsz', Or.inr (Or.inr (Or.inr ⟨fun j hjs => ?_, hq⟩))⟩))
      by_cases hji : j = i
      · rw [hji]; exact here
      · by_cases hjn : j = i + 1
        · rw [hjn]; exact same _ h3
        · exact same j (h1 j (by omega))
    · have := h1 i hlt; rw [hun'] at this; cases this
  · have := List.countP_le_length (p := fun b : Bool => !b) (l := (Array.replicate ops.size false).toList)
    unfold openN
    simpa using this
  · rw [Array.getD_eq_getD_getElem?, Array.getElem?_replicate]; split <;> rfl
  · rw [Array.getD_eq_getD_getElem?, Array.getElem?_replicate]; split <;> rfl
  · rw [Array.getD_eq_getD_getElem?, Array.getElem?_replicate] at hj; split at hj <;> cases hj
end
end Go.Proofs.Ytfpekihdoclncaa

namespace Go.Proofs.Ytfpekihdoclncaa
open Go.RowKit

set_option maxHeartbeats 2000000
set_option maxRecDepth 100000

def SBackPost (w : World) (r : Option Tm) (e : Ending) (w' : World) : Prop :=
  ∃ x s ao n c, e = .returned (.tuple #[.agg #[str s, .slice ao n c], .bool r.isSome]) ∧ After w w' ∧ ST w' x (.agg #[str s, .slice ao n c]) ∧ ∀ u, r = some u → x = u

theorem back_k (w : World) (t : Tm) (x : List UInt8) (ax : Option Addr) (nx cx : Nat) (h : ST w t (.agg #[str x, .slice ax nx cx])) (hg : t.good = true) (hz : t.size ≤ 3000) (hk : (t.text == Tm.kC.text) = true) :
    Calls Try.prog 51 #[.agg #[str x, .slice ax nx cx]] w (SBackPost w (some .k)) := by
  obtain ⟨Y0, hY0⟩ : ∃ Y0, Y0 = (w.alloc (.cells #[str x, .slice ax nx cx] 32)).alloc (.cells #[.string ⟨#[]⟩, .slice none 0 0] 32) := ⟨_, rfl⟩
  have hA0 : After w Y0 := by rw [hY0]; exact (After.new _ _).alloc _
  have hq : Y0.heap[w.heap.size]? = some (.cells #[str x, .slice ax nx cx] 32 (0, 0)) := by rw [hY0]; exact heap_old2 _ _ _
  have hr : Y0.heap[w.heap.size + 1]? = some (.cells #[.string ⟨#[]⟩, .slice none 0 0] 32 (0, 0)) := by rw [hY0]; exact heap_new2 w _ _ _ rfl
  have k1 := (h.later hA0).text hg (by have := Tm.text_le t hg; omega)
  obtain ⟨q0, q1, q2, q3, q4⟩ := pair_facts hq (After.refl _)
  have HQ := Lib.hid hq
  have HR := Lib.hid hr
  have HA0 := Lib.hid hA0
  have HST := Lib.hid (h.later hA0)
  obtain ⟨kT, hkT⟩ : ∃ z, z = Tm.kC.text := ⟨_, rfl⟩
  obtain ⟨sT, hsT⟩ : ∃ z, z = Tm.sC.text := ⟨_, rfl⟩
  rw [← hkT] at hk
  have HKT := Lib.hid hkT
  have HSTT := Lib.hid hsT
  clear hq hr hA0 h q2 q3 q4 hkT
  go_enter Try.func51, Try.ntmps51
  go_wp2_with fail
  rw [← hY0]
  clear hY0
  refine k1.mono ?_
  rintro e w1 ⟨rfl, hb1⟩
  obtain ⟨Y1, hY1⟩ : ∃ Y1, Y1 = (w1.alloc (.cells #[str [107], .slice none 0 0] 32)).alloc (.cells #[str [115], .slice none 0 0] 32) := ⟨_, rfl⟩
  have hA1 : After w1 Y1 := by rw [hY1]; exact (After.new _ _).alloc _
  have hgk : Y1.heap[w1.heap.size]? = some (.cells #[str [107], .slice none 0 0] 32 (0, 0)) := by rw [hY1]; exact heap_old2 _ _ _
  have hgs : Y1.heap[w1.heap.size + 1]? = some (.cells #[str [115], .slice none 0 0] 32 (0, 0)) := by rw [hY1]; exact heap_new2 w1 _ _ _ rfl
  have HGK := Lib.hid hgk
  have HGS := Lib.hid hgs
  have k2 := ST.code4 (t := .k) (w := Y1) (v := .agg #[str [107], .slice none 0 0]) rfl (fun _ => rfl)
  rw [show Tm.code .k = Tm.kC from rfl] at k2
  unfold TreePost at k2
  have HA1 := Lib.hid (hb1.trans hA1)
  clear k1 q0 q1 hgk hgs hA1 hb1
  go_wp2_with fail
  rw [← hY1]
  clear hY1
  refine k2.mono ?_
  rintro e w2 ⟨t2, ao2, n2, c2, rfl, hb2, ht2⟩
  have k3 := ht2.text (by decide +kernel) (by decide +kernel)
  rw [← HKT.out] at k3
  clear k2 ht2
  go_wp2_with fail
  refine k3.mono ?_
  rintro e w3 ⟨rfl, hb3⟩
  have HA3 := Lib.hid (hb2.trans hb3)
  clear k3 hb2 hb3
  have AZ := HA1.out.trans HA3.out
  have G := AZ.heap HR.out
  obtain ⟨z0, z1, z2, z3, z4⟩ := pair_facts G (After.refl _)
  have GK := HA3.out.heap HGK.out
  obtain ⟨j0, j1, _, _, _⟩ := pair_facts GK (After.refl _)
  have HAW := Lib.hid (HA0.out.trans AZ)
  clear AZ
  go_wp2_with fail
  exact bodyPost_ret (v := .tuple #[.agg #[str [107], .slice none 0 0], .bool true]) (by simp [results, Try.results51, go_sem, z0, z1]) rfl
    ⟨.k, [107], none, 0, 0, rfl, after_sets2 HAW.out G (Nat.le_succ _) _ _, rfl, fun u hu => by obtain rfl := Option.some.inj hu; rfl⟩

theorem back_s (w : World) (t : Tm) (x : List UInt8) (ax : Option Addr) (nx cx : Nat) (h : ST w t (.agg #[str x, .slice ax nx cx])) (hg : t.good = true) (hz : t.size ≤ 3000) (hk : (t.text == Tm.kC.text) = false) (hs : (t.text == Tm.sC.text) = true) :
    Calls Try.prog 51 #[.agg #[str x, .slice ax nx cx]] w (SBackPost w (some .s)) := by
  obtain ⟨Y0, hY0⟩ : ∃ Y0, Y0 = (w.alloc (.cells #[str x, .slice ax nx cx] 32)).alloc (.cells #[.string ⟨#[]⟩, .slice none 0 0] 32) := ⟨_, rfl⟩
  have hA0 : After w Y0 := by rw [hY0]; exact (After.new _ _).alloc _
  have hq : Y0.heap[w.heap.size]? = some (.cells #[str x, .slice ax nx cx] 32 (0, 0)) := by rw [hY0]; exact heap_old2 _ _ _
  have hr : Y0.heap[w.heap.size + 1]? = some (.cells #[.string ⟨#[]⟩, .slice none 0 0] 32 (0, 0)) := by rw [hY0]; exact heap_new2 w _ _ _ rfl
  have k1 := (h.later hA0).text hg (by have := Tm.text_le t hg; omega)
  obtain ⟨q0, q1, q2, q3, q4⟩ := pair_facts hq (After.refl _)
  have HQ := Lib.hid hq
  have HR := Lib.hid hr
  have HA0 := Lib.hid hA0
  have HST := Lib.hid (h.later hA0)
  obtain ⟨kT, hkT⟩ : ∃ z, z = Tm.kC.text := ⟨_, rfl⟩
  obtain ⟨sT, hsT⟩ : ∃ z, z = Tm.sC.text := ⟨_, rfl⟩
  rw [← hkT] at hk
  have HKT := Lib.hid hkT
  have HSTT := Lib.hid hsT
  clear hq hr hA0 h q2 q3 q4 hkT
  go_enter Try.func51, Try.ntmps51
  go_wp2_with fail
  rw [← hY0]
  clear hY0
  refine k1.mono ?_
  rintro e w1 ⟨rfl, hb1⟩
  obtain ⟨Y1, hY1⟩ : ∃ Y1, Y1 = (w1.alloc (.cells #[str [107], .slice none 0 0] 32)).alloc (.cells #[str [115], .slice none 0 0] 32) := ⟨_, rfl⟩
  have hA1 : After w1 Y1 := by rw [hY1]; exact (After.new _ _).alloc _
  have hgk : Y1.heap[w1.heap.size]? = some (.cells #[str [107], .slice none 0 0] 32 (0, 0)) := by rw [hY1]; exact heap_old2 _ _ _
  have hgs : Y1.heap[w1.heap.size + 1]? = some (.cells #[str [115], .slice none 0 0] 32 (0, 0)) := by rw [hY1]; exact heap_new2 w1 _ _ _ rfl
  have HGK := Lib.hid hgk
  have HGS := Lib.hid hgs
  have k2 := ST.code4 (t := .k) (w := Y1) (v := .agg #[str [107], .slice none 0 0]) rfl (fun _ => rfl)
  rw [show Tm.code .k = Tm.kC from rfl] at k2
  unfold TreePost at k2
  have HA1 := Lib.hid (hb1.trans hA1)
  clear k1 q0 q1 hgk hgs hA1 hb1
  go_wp2_with fail
  rw [← hY1]
  clear hY1
  refine k2.mono ?_
  rintro e w2 ⟨t2, ao2, n2, c2, rfl, hb2, ht2⟩
  have k3 := ht2.text (by decide +kernel) (by decide +kernel)
  rw [← HKT.out] at k3
  clear k2 ht2
  go_wp2_with fail
  refine k3.mono ?_
  rintro e w3 ⟨rfl, hb3⟩
  have HA3 := Lib.hid (hb2.trans hb3)
  clear k3 hb2 hb3
  rw [← hsT] at hs
  clear hsT
  have GS3 := HA3.out.heap HGS.out
  obtain ⟨i0, i1, i2, i3, i4⟩ := pair_facts GS3 (After.refl _)
  have k4 := ST.code4 (t := .s) (w := w3) (v := .agg #[str [115], .slice none 0 0]) rfl (fun _ => rfl)
  rw [show Tm.code .s = Tm.sC from rfl] at k4
  unfold TreePost at k4
  clear GS3 i2 i3 i4
  go_wp2_with fail
  refine k4.mono ?_
  rintro e w4 ⟨t4, ao4, n4, c4, rfl, hb4, ht4⟩
  have k5 := ht4.text (by decide +kernel) (by decide +kernel)
  rw [← HSTT.out] at k5
  clear k4 ht4 i0 i1
  go_wp2_with fail
  refine k5.mono ?_
  rintro e w5 ⟨rfl, hb5⟩
  have HA5 := Lib.hid ((HA1.out.trans HA3.out).trans (hb4.trans hb5))
  have G := HA5.out.heap HR.out
  obtain ⟨z0, z1, z2, z3, z4⟩ := pair_facts G (After.refl _)
  have GS := (hb4.trans hb5).heap (HA3.out.heap HGS.out)
  obtain ⟨j0, j1, _, _, _⟩ := pair_facts GS (After.refl _)
  have HAW := Lib.hid (HA0.out.trans HA5.out)
  clear k5 hb4 hb5
  go_wp2_with fail
  exact bodyPost_ret (v := .tuple #[.agg #[str [115], .slice none 0 0], .bool true]) (by simp [results, Try.results51, go_sem, z0, z1]) rfl
    ⟨.s, [115], none, 0, 0, rfl, after_sets2 HAW.out G (Nat.le_succ _) _ _, rfl, fun u hu => by obtain rfl := Option.some.inj hu; rfl⟩

theorem back_1 (w : World) (t : Tm) (x : List UInt8) (ax : Option Addr) (nx cx : Nat) (h : ST w t (.agg #[str x, .slice ax nx cx])) (hg : t.good = true) (hz : t.size ≤ 3000) (hk : (t.text == Tm.kC.text) = false) (hs : (t.text == Tm.sC.text) = false) (hx : x.isEmpty = false) :
    Calls Try.prog 51 #[.agg #[str x, .slice ax nx cx]] w (SBackPost w none) := by
  obtain ⟨Y0, hY0⟩ : ∃ Y0, Y0 = (w.alloc (.cells #[str x, .slice ax nx cx] 32)).alloc (.cells #[.string ⟨#[]⟩, .slice none 0 0] 32) := ⟨_, rfl⟩
  have hA0 : After w Y0 := by rw [hY0]; exact (After.new _ _).alloc _
  have hq : Y0.heap[w.heap.size]? = some (.cells #[str x, .slice ax nx cx] 32 (0, 0)) := by rw [hY0]; exact heap_old2 _ _ _
  have hr : Y0.heap[w.heap.size + 1]? = some (.cells #[.string ⟨#[]⟩, .slice none 0 0] 32 (0, 0)) := by rw [hY0]; exact heap_new2 w _ _ _ rfl
  have k1 := (h.later hA0).text hg (by have := Tm.text_le t hg; omega)
  obtain ⟨q0, q1, q2, q3, q4⟩ := pair_facts hq (After.refl _)
  have HQ := Lib.hid hq
  have HR := Lib.hid hr
  have HA0 := Lib.hid hA0
  have HST := Lib.hid (h.later hA0)
  obtain ⟨kT, hkT⟩ : ∃ z, z = Tm.kC.text := ⟨_, rfl⟩
  obtain ⟨sT, hsT⟩ : ∃ z, z = Tm.sC.text := ⟨_, rfl⟩
  rw [← hkT] at hk
  have HKT := Lib.hid hkT
  have HSTT := Lib.hid hsT
  clear hq hr hA0 h q2 q3 q4 hkT
  go_enter Try.func51, Try.ntmps51
  go_wp2_with fail
  rw [← hY0]
  clear hY0
  refine k1.mono ?_
  rintro e w1 ⟨rfl, hb1⟩
  obtain ⟨Y1, hY1⟩ : ∃ Y1, Y1 = (w1.alloc (.cells #[str [107], .slice none 0 0] 32)).alloc (.cells #[str [115], .slice none 0 0] 32) := ⟨_, rfl⟩
  have hA1 : After w1 Y1 := by rw [hY1]; exact (After.new _ _).alloc _
  have hgk : Y1.heap[w1.heap.size]? = some (.cells #[str [107], .slice none 0 0] 32 (0, 0)) := by rw [hY1]; exact heap_old2 _ _ _
  have hgs : Y1.heap[w1.heap.size + 1]? = some (.cells #[str [115], .slice none 0 0] 32 (0, 0)) := by rw [hY1]; exact heap_new2 w1 _ _ _ rfl
  have HGK := Lib.hid hgk
  have HGS := Lib.hid hgs
  have k2 := ST.code4 (t := .k) (w := Y1) (v := .agg #[str [107], .slice none 0 0]) rfl (fun _ => rfl)
  rw [show Tm.code .k = Tm.kC from rfl] at k2
  unfold TreePost at k2
  have HA1 := Lib.hid (hb1.trans hA1)
  clear k1 q0 q1 hgk hgs hA1 hb1
  go_wp2_with fail
  rw [← hY1]
  clear hY1
  refine k2.mono ?_
  rintro e w2 ⟨t2, ao2, n2, c2, rfl, hb2, ht2⟩
  have k3 := ht2.text (by decide +kernel) (by decide +kernel)
  rw [← HKT.out] at k3
  clear k2 ht2
  go_wp2_with fail
  refine k3.mono ?_
  rintro e w3 ⟨rfl, hb3⟩
  have HA3 := Lib.hid (hb2.trans hb3)
  clear k3 hb2 hb3
  rw [← hsT] at hs
  clear hsT
  have GS3 := HA3.out.heap HGS.out
  obtain ⟨i0, i1, i2, i3, i4⟩ := pair_facts GS3 (After.refl _)
  have k4 := ST.code4 (t := .s) (w := w3) (v := .agg #[str [115], .slice none 0 0]) rfl (fun _ => rfl)
  rw [show Tm.code .s = Tm.sC from rfl] at k4
  unfold TreePost at k4
  clear GS3 i2 i3 i4
  go_wp2_with fail
  refine k4.mono ?_
  rintro e w4 ⟨t4, ao4, n4, c4, rfl, hb4, ht4⟩
  have k5 := ht4.text (by decide +kernel) (by decide +kernel)
  rw [← HSTT.out] at k5
  clear k4 ht4 i0 i1
  go_wp2_with fail
  refine k5.mono ?_
  rintro e w5 ⟨rfl, hb5⟩
  have HA5 := Lib.hid ((HA1.out.trans HA3.out).trans (hb4.trans hb5))
  have G := HA5.out.heap HR.out
  obtain ⟨z0, z1, z2, z3, z4⟩ := pair_facts G (After.refl _)
  have GQ := HA5.out.heap HQ.out
  obtain ⟨j0, j1, _, _, _⟩ := pair_facts GQ (After.refl _)
  have HAW := Lib.hid (HA0.out.trans HA5.out)
  have HF := Lib.hid ((HST.out.later HA5.out).sets2 (i := 0) (j := 1) (u := str x) (u' := .slice ax nx cx) G)
  clear k5 hb4 hb5
  go_wp2_with fail
  exact bodyPost_ret (v := .tuple #[.agg #[str x, .slice ax nx cx], .bool false]) (by simp [results, Try.results51, go_sem, z0, z1]) rfl
    ⟨t, x, ax, nx, cx, rfl, after_sets2 HAW.out G (Nat.le_succ _) _ _, HF.out, fun u hu => by cases hu⟩

theorem back_2 (w : World) (t : Tm) (x : List UInt8) (ax : Option Addr) (nx cx : Nat) (h : ST w t (.agg #[str x, .slice ax nx cx])) (hg : t.good = true) (hz : t.size ≤ 3000) (hk : (t.text == Tm.kC.text) = false) (hs : (t.text == Tm.sC.text) = false) (g : Nat) (x0 : List UInt8) (p0 s1 p1 : Value) (fr : Nat × Nat) (e1 : x = []) (e2 : ax = some ⟨g, 0, none⟩) (e3 : nx = 2) (hh : w.heap[g]? = some (.cells #[str x0, p0, s1, p1] 32 fr)) (hx : (x0 == [107]) = false) :
    Calls Try.prog 51 #[.agg #[str x, .slice ax nx cx]] w (SBackPost w none) := by
  subst e1 e2 e3
  obtain ⟨Y0, hY0⟩ : ∃ Y0, Y0 = (w.alloc (.cells #[str [], .slice (some ⟨g, 0, none⟩) 2 cx] 32)).alloc (.cells #[.string ⟨#[]⟩, .slice none 0 0] 32) := ⟨_, rfl⟩
  have hA0 : After w Y0 := by rw [hY0]; exact (After.new _ _).alloc _
  have hq : Y0.heap[w.heap.size]? = some (.cells #[str [], .slice (some ⟨g, 0, none⟩) 2 cx] 32 (0, 0)) := by rw [hY0]; exact heap_old2 _ _ _
  have hr : Y0.heap[w.heap.size + 1]? = some (.cells #[.string ⟨#[]⟩, .slice none 0 0] 32 (0, 0)) := by rw [hY0]; exact heap_new2 w _ _ _ rfl
  have k1 := (h.later hA0).text hg (by have := Tm.text_le t hg; omega)
  obtain ⟨q0, q1, q2, q3, q4⟩ := pair_facts hq (After.refl _)
  have HQ := Lib.hid hq
  have HR := Lib.hid hr
  have HA0 := Lib.hid hA0
  have HST := Lib.hid (h.later hA0)
  obtain ⟨kT, hkT⟩ : ∃ z, z = Tm.kC.text := ⟨_, rfl⟩
  obtain ⟨sT, hsT⟩ : ∃ z, z = Tm.sC.text := ⟨_, rfl⟩
  rw [← hkT] at hk
  have HKT := Lib.hid hkT
  have HSTT := Lib.hid hsT
  clear hq hr hA0 h q2 q3 q4 hkT
  go_enter Try.func51, Try.ntmps51
  go_wp2_with fail
  rw [← hY0]
  clear hY0
  refine k1.mono ?_
  rintro e w1 ⟨rfl, hb1⟩
  obtain ⟨Y1, hY1⟩ : ∃ Y1, Y1 = (w1.alloc (.cells #[str [107], .slice none 0 0] 32)).alloc (.cells #[str [115], .slice none 0 0] 32) := ⟨_, rfl⟩
  have hA1 : After w1 Y1 := by rw [hY1]; exact (After.new _ _).alloc _
  have hgk : Y1.heap[w1.heap.size]? = some (.cells #[str [107], .slice none 0 0] 32 (0, 0)) := by rw [hY1]; exact heap_old2 _ _ _
  have hgs : Y1.heap[w1.heap.size + 1]? = some (.cells #[str [115], .slice none 0 0] 32 (0, 0)) := by rw [hY1]; exact heap_new2 w1 _ _ _ rfl
  have HGK := Lib.hid hgk
  have HGS := Lib.hid hgs
  have k2 := ST.code4 (t := .k) (w := Y1) (v := .agg #[str [107], .slice none 0 0]) rfl (fun _ => rfl)
  rw [show Tm.code .k = Tm.kC from rfl] at k2
  unfold TreePost at k2
  have HA1 := Lib.hid (hb1.trans hA1)
  clear k1 q0 q1 hgk hgs hA1 hb1
  go_wp2_with fail
  rw [← hY1]
  clear hY1
  refine k2.mono ?_
  rintro e w2 ⟨t2, ao2, n2, c2, rfl, hb2, ht2⟩
  have k3 := ht2.text (by decide +kernel) (by decide +kernel)
  rw [← HKT.out] at k3
  clear k2 ht2
  go_wp2_with fail
  refine k3.mono ?_
  rintro e w3 ⟨rfl, hb3⟩
  have HA3 := Lib.hid (hb2.trans hb3)
  clear k3 hb2 hb3
  rw [← hsT] at hs
  clear hsT
  have GS3 := HA3.out.heap HGS.out
  obtain ⟨i0, i1, i2, i3, i4⟩ := pair_facts GS3 (After.refl _)
  have k4 := ST.code4 (t := .s) (w := w3) (v := .agg #[str [115], .slice none 0 0]) rfl (fun _ => rfl)
  rw [show Tm.code .s = Tm.sC from rfl] at k4
  unfold TreePost at k4
  clear GS3 i2 i3 i4
  go_wp2_with fail
  refine k4.mono ?_
  rintro e w4 ⟨t4, ao4, n4, c4, rfl, hb4, ht4⟩
  have k5 := ht4.text (by decide +kernel) (by decide +kernel)
  rw [← HSTT.out] at k5
  clear k4 ht4 i0 i1
  go_wp2_with fail
  refine k5.mono ?_
  rintro e w5 ⟨rfl, hb5⟩
  have HA5 := Lib.hid ((HA1.out.trans HA3.out).trans (hb4.trans hb5))
  have G := HA5.out.heap HR.out
  obtain ⟨z0, z1, z2, z3, z4⟩ := pair_facts G (After.refl _)
  have GQ := HA5.out.heap HQ.out
  obtain ⟨j0, j1, _, _, _⟩ := pair_facts GQ (After.refl _)
  have GH := HA5.out.heap (HA0.out.heap hh)
  have m0 := cell_of_heap (i := 0) GH
  clear GH
  have HAW := Lib.hid (HA0.out.trans HA5.out)
  have HF := Lib.hid ((HST.out.later HA5.out).sets2 (i := 0) (j := 1) (u := str []) (u' := .slice (some ⟨g, 0, none⟩) 2 cx) G)
  clear k5 hb4 hb5
  go_wp2_with fail
  exact bodyPost_ret (v := .tuple #[.agg #[str [], .slice (some ⟨g, 0, none⟩) 2 cx], .bool false]) (by simp [results, Try.results51, go_sem, z0, z1]) rfl
    ⟨t, [], some ⟨g, 0, none⟩, 2, cx, rfl, after_sets2 HAW.out G (Nat.le_succ _) _ _, HF.out, fun u hu => by cases hu⟩

theorem back_3 (w : World) (t : Tm) (x : List UInt8) (ax : Option Addr) (nx cx : Nat) (h : ST w t (.agg #[str x, .slice ax nx cx])) (hg : t.good = true) (hz : t.size ≤ 3000) (hk : (t.text == Tm.kC.text) = false) (hs : (t.text == Tm.sC.text) = false) (g : Nat) (x1 : List UInt8) (p0 p1 : Value) (fr : Nat × Nat) (e1 : x = []) (e2 : ax = some ⟨g, 0, none⟩) (e3 : nx = 2) (hh : w.heap[g]? = some (.cells #[str [107], p0, str x1, p1] 32 fr)) (hx : x1.isEmpty = false) :
    Calls Try.prog 51 #[.agg #[str x, .slice ax nx cx]] w (SBackPost w none) := by
  subst e1 e2 e3
  obtain ⟨Y0, hY0⟩ : ∃ Y0, Y0 = (w.alloc (.cells #[str [], .slice (some ⟨g, 0, none⟩) 2 cx] 32)).alloc (.cells #[.string ⟨#[]⟩, .slice none 0 0] 32) := ⟨_, rfl⟩
  have hA0 : After w Y0 := by rw [hY0]; exact (After.new _ _).alloc _
  have hq : Y0.heap[w.heap.size]? = some (.cells #[str [], .slice (some ⟨g, 0, none⟩) 2 cx] 32 (0, 0)) := by rw [hY0]; exact heap_old2 _ _ _
  have hr : Y0.heap[w.heap.size + 1]? = some (.cells #[.string ⟨#[]⟩, .slice none 0 0] 32 (0, 0)) := by rw [hY0]; exact heap_new2 w _ _ _ rfl
  have k1 := (h.later hA0).text hg (by have := Tm.text_le t hg; omega)
  obtain ⟨q0, q1, q2, q3, q4⟩ := pair_facts hq (After.refl _)
  have HQ := Lib.hid hq
  have HR := Lib.hid hr
  have HA0 := Lib.hid hA0
  have HST := Lib.hid (h.later hA0)
  obtain ⟨kT, hkT⟩ : ∃ z, z = Tm.kC.text := ⟨_, rfl⟩
  obtain ⟨sT, hsT⟩ : ∃ z, z = Tm.sC.text := ⟨_, rfl⟩
  rw [← hkT] at hk
  have HKT := Lib.hid hkT
  have HSTT := Lib.hid hsT
  clear hq hr hA0 h q2 q3 q4 hkT
  go_enter Try.func51, Try.ntmps51
  go_wp2_with fail
  rw [← hY0]
  clear hY0
  refine k1.mono ?_
  rintro e w1 ⟨rfl, hb1⟩
  obtain ⟨Y1, hY1⟩ : ∃ Y1, Y1 = (w1.alloc (.cells #[str [107], .slice none 0 0] 32)).alloc (.cells #[str [115], .slice none 0 0] 32) := ⟨_, rfl⟩
  have hA1 : After w1 Y1 := by rw [hY1]; exact (After.new _ _).alloc _
  have hgk : Y1.heap[w1.heap.size]? = some (.cells #[str [107], .slice none 0 0] 32 (0, 0)) := by rw [hY1]; exact heap_old2 _ _ _
  have hgs : Y1.heap[w1.heap.size + 1]? = some (.cells #[str [115], .slice none 0 0] 32 (0, 0)) := by rw [hY1]; exact heap_new2 w1 _ _ _ rfl
  have HGK := Lib.hid hgk
  have HGS := Lib.hid hgs
  have k2 := ST.code4 (t := .k) (w := Y1) (v := .agg #[str [107], .slice none 0 0]) rfl (fun _ => rfl)
  rw [show Tm.code .k = Tm.kC from rfl] at k2
  unfold TreePost at k2
  have HA1 := Lib.hid (hb1.trans hA1)
  clear k1 q0 q1 hgk hgs hA1 hb1
  go_wp2_with fail
  rw [← hY1]
  clear hY1
  refine k2.mono ?_
  rintro e w2 ⟨t2, ao2, n2, c2, rfl, hb2, ht2⟩
  have k3 := ht2.text (by decide +kernel) (by decide +kernel)
  rw [← HKT.out] at k3
  clear k2 ht2
  go_wp2_with fail
  refine k3.mono ?_
  rintro e w3 ⟨rfl, hb3⟩
  have HA3 := Lib.hid (hb2.trans hb3)
  clear k3 hb2 hb3
  rw [← hsT] at hs
  clear hsT
  have GS3 := HA3.out.heap HGS.out
  obtain ⟨i0, i1, i2, i3, i4⟩ := pair_facts GS3 (After.refl _)
  have k4 := ST.code4 (t := .s) (w := w3) (v := .agg #[str [115], .slice none 0 0]) rfl (fun _ => rfl)
  rw [show Tm.code .s = Tm.sC from rfl] at k4
  unfold TreePost at k4
  clear GS3 i2 i3 i4
  go_wp2_with fail
  refine k4.mono ?_
  rintro e w4 ⟨t4, ao4, n4, c4, rfl, hb4, ht4⟩
  have k5 := ht4.text (by decide +kernel) (by decide +kernel)
  rw [← HSTT.out] at k5
  clear k4 ht4 i0 i1
  go_wp2_with fail
  refine k5.mono ?_
  rintro e w5 ⟨rfl, hb5⟩
  have HA5 := Lib.hid ((HA1.out.trans HA3.out).trans (hb4.trans hb5))
  have G := HA5.out.heap HR.out
  obtain ⟨z0, z1, z2, z3, z4⟩ := pair_facts G (After.refl _)
  have GQ := HA5.out.heap HQ.out
  obtain ⟨j0, j1, _, _, _⟩ := pair_facts GQ (After.refl _)
  have GH := HA5.out.heap (HA0.out.heap hh)
  have m0 := cell_of_heap (i := 0) GH
  have m2 := cell_of_heap (i := 2) GH
  clear GH
  have HAW := Lib.hid (HA0.out.trans HA5.out)
  have HF := Lib.hid ((HST.out.later HA5.out).sets2 (i := 0) (j := 1) (u := str []) (u' := .slice (some ⟨g, 0, none⟩) 2 cx) G)
  clear k5 hb4 hb5
  go_wp2_with fail
  exact bodyPost_ret (v := .tuple #[.agg #[str [], .slice (some ⟨g, 0, none⟩) 2 cx], .bool false]) (by simp [results, Try.results51, go_sem, z0, z1]) rfl
    ⟨t, [], some ⟨g, 0, none⟩, 2, cx, rfl, after_sets2 HAW.out G (Nat.le_succ _) _ _, HF.out, fun u hu => by cases hu⟩

theorem back_4 (w : World) (t : Tm) (x : List UInt8) (ax : Option Addr) (nx cx : Nat) (h : ST w t (.agg #[str x, .slice ax nx cx])) (hg : t.good = true) (hz : t.size ≤ 3000) (hk : (t.text == Tm.kC.text) = false) (hs : (t.text == Tm.sC.text) = false) (g g2 cap2 : Nat) (x2 : List UInt8) (p0 p2 s3 p3 : Value) (fr fr2 : Nat × Nat) (e1 : x = []) (e2 : ax = some ⟨g, 0, none⟩) (e3 : nx = 2) (hh : w.heap[g]? = some (.cells #[str [107], p0, str [], .slice (some ⟨g2, 0, none⟩) 2 cap2] 32 fr)) (hh2 : w.heap[g2]? = some (.cells #[str x2, p2, s3, p3] 32 fr2)) (hx : (x2 == [107]) = false) :
    Calls Try.prog 51 #[.agg #[str x, .slice ax nx cx]] w (SBackPost w none) := by
  subst e1 e2 e3
  obtain ⟨Y0, hY0⟩ : ∃ Y0, Y0 = (w.alloc (.cells #[str [], .slice (some ⟨g, 0, none⟩) 2 cx] 32)).alloc (.cells #[.string ⟨#[]⟩, .slice none 0 0] 32) := ⟨_, rfl⟩
  have hA0 : After w Y0 := by rw [hY0]; exact (After.new _ _).alloc _
  have hq : Y0.heap[w.heap.size]? = some (.cells #[str [], .slice (some ⟨g, 0, none⟩) 2 cx] 32 (0, 0)) := by rw [hY0]; exact heap_old2 _ _ _
  have hr : Y0.heap[w.heap.size + 1]? = some (.cells #[.string ⟨#[]⟩, .slice none 0 0] 32 (0, 0)) := by rw [hY0]; exact heap_new2 w _ _ _ rfl
  have k1 := (h.later hA0).text hg (by have := Tm.text_le t hg; omega)
  obtain ⟨q0, q1, q2, q3, q4⟩ := pair_facts hq (After.refl _)
  have HQ := Lib.hid hq
  have HR := Lib.hid hr
  have HA0 := Lib.hid hA0
  have HST := Lib.hid (h.later hA0)
  obtain ⟨kT, hkT⟩ : ∃ z, z = Tm.kC.text := ⟨_, rfl⟩
  obtain ⟨sT, hsT⟩ : ∃ z, z = Tm.sC.text := ⟨_, rfl⟩
  rw [← hkT] at hk
  have HKT := Lib.hid hkT
  have HSTT := Lib.hid hsT
  clear hq hr hA0 h q2 q3 q4 hkT
  go_enter Try.func51, Try.ntmps51
  go_wp2_with fail
  rw [← hY0]
  clear hY0
  refine k1.mono ?_
  rintro e w1 ⟨rfl, hb1⟩
  obtain ⟨Y1, hY1⟩ : ∃ Y1, Y1 = (w1.alloc (.cells #[str [107], .slice none 0 0] 32)).alloc (.cells #[str [115], .slice none 0 0] 32) := ⟨_, rfl⟩
  have hA1 : After w1 Y1 := by rw [hY1]; exact (After.new _ _).alloc _
  have hgk : Y1.heap[w1.heap.size]? = some (.cells #[str [107], .slice none 0 0] 32 (0, 0)) := by rw [hY1]; exact heap_old2 _ _ _
  have hgs : Y1.heap[w1.heap.size + 1]? = some (.cells #[str [115], .slice none 0 0] 32 (0, 0)) := by rw [hY1]; exact heap_new2 w1 _ _ _ rfl
  have HGK := Lib.hid hgk
  have HGS := Lib.hid hgs
  have k2 := ST.code4 (t := .k) (w := Y1) (v := .agg #[str [107], .slice none 0 0]) rfl (fun _ => rfl)
  rw [show Tm.code .k = Tm.kC from rfl] at k2
  unfold TreePost at k2
  have HA1 := Lib.hid (hb1.trans hA1)
  clear k1 q0 q1 hgk hgs hA1 hb1
  go_wp2_with fail
  rw [← hY1]
  clear hY1
  refine k2.mono ?_
  rintro e w2 ⟨t2, ao2, n2, c2, rfl, hb2, ht2⟩
  have k3 := ht2.text (by decide +kernel) (by decide +kernel)
  rw [← HKT.out] at k3
  clear k2 ht2
  go_wp2_with fail
  refine k3.mono ?_
  rintro e w3 ⟨rfl, hb3⟩
  have HA3 := Lib.hid (hb2.trans hb3)
  clear k3 hb2 hb3
  rw [← hsT] at hs
  clear hsT
  have GS3 := HA3.out.heap HGS.out
  obtain ⟨i0, i1, i2, i3, i4⟩ := pair_facts GS3 (After.refl _)
  have k4 := ST.code4 (t := .s) (w := w3) (v := .agg #[str [115], .slice none 0 0]) rfl (fun _ => rfl)
  rw [show Tm.code .s = Tm.sC from rfl] at k4
  unfold TreePost at k4
  clear GS3 i2 i3 i4
  go_wp2_with fail
  refine k4.mono ?_
  rintro e w4 ⟨t4, ao4, n4, c4, rfl, hb4, ht4⟩
  have k5 := ht4.text (by decide +kernel) (by decide +kernel)
  rw [← HSTT.out] at k5
  clear k4 ht4 i0 i1
  go_wp2_with fail
  refine k5.mono ?_
  rintro e w5 ⟨rfl, hb5⟩
  have HA5 := Lib.hid ((HA1.out.trans HA3.out).trans (hb4.trans hb5))
  have G := HA5.out.heap HR.out
  obtain ⟨z0, z1, z2, z3, z4⟩ := pair_facts G (After.refl _)
  have GQ := HA5.out.heap HQ.out
  obtain ⟨j0, j1, _, _, _⟩ := pair_facts GQ (After.refl _)
  have GH := HA5.out.heap (HA0.out.heap hh)
  have m0 := cell_of_heap (i := 0) GH
  have m2 := cell_of_heap (i := 2) GH
  have m3 := cell_of_heap (i := 3) GH
  have GH2 := HA5.out.heap (HA0.out.heap hh2)
  have l0 := cell_of_heap (i := 0) GH2
  clear GH GH2
  have HAW := Lib.hid (HA0.out.trans HA5.out)
  have HF := Lib.hid ((HST.out.later HA5.out).sets2 (i := 0) (j := 1) (u := str []) (u' := .slice (some ⟨g, 0, none⟩) 2 cx) G)
  clear k5 hb4 hb5
  go_wp2_with fail
  exact bodyPost_ret (v := .tuple #[.agg #[str [], .slice (some ⟨g, 0, none⟩) 2 cx], .bool false]) (by simp [results, Try.results51, go_sem, z0, z1]) rfl
    ⟨t, [], some ⟨g, 0, none⟩, 2, cx, rfl, after_sets2 HAW.out G (Nat.le_succ _) _ _, HF.out, fun u hu => by cases hu⟩

end Go.Proofs.Ytfpekihdoclncaa

namespace Go.Proofs.Ytfpekihdoclncaa
open Go.RowKit

set_option maxHeartbeats 4000000
set_option maxRecDepth 100000

theorem back_5 (w : World) (t : Tm) (x : List UInt8) (ax : Option Addr) (nx cx : Nat) (h : ST w t (.agg #[str x, .slice ax nx cx])) (hg : t.good = true) (hz : t.size ≤ 3000) (hk : (t.text == Tm.kC.text) = false) (hs : (t.text == Tm.sC.text) = false) (g g2 cap2 : Nat) (p0 p2 s3 p3 : Value) (fr fr2 : Nat × Nat) (pp : Tm) (e1 : x = []) (e2 : ax = some ⟨g, 0, none⟩) (e3 : nx = 2) (hh : w.heap[g]? = some (.cells #[str [107], p0, str [], .slice (some ⟨g2, 0, none⟩) 2 cap2] 32 fr)) (hh2 : w.heap[g2]? = some (.cells #[str [107], p2, s3, p3] 32 fr2)) (hp : ST w pp (.agg #[s3, p3])) (hpg : pp.good = true) (hpz : pp.size ≤ 3000) (hpn : pp.parts = none) :
    Calls Try.prog 51 #[.agg #[str x, .slice ax nx cx]] w (SBackPost w none) := by
  subst e1 e2 e3
  obtain ⟨Y0, hY0⟩ : ∃ Y0, Y0 = (w.alloc (.cells #[str [], .slice (some ⟨g, 0, none⟩) 2 cx] 32)).alloc (.cells #[.string ⟨#[]⟩, .slice none 0 0] 32) := ⟨_, rfl⟩
  have hA0 : After w Y0 := by rw [hY0]; exact (After.new _ _).alloc _
  have hq : Y0.heap[w.heap.size]? = some (.cells #[str [], .slice (some ⟨g, 0, none⟩) 2 cx] 32 (0, 0)) := by rw [hY0]; exact heap_old2 _ _ _
  have hr : Y0.heap[w.heap.size + 1]? = some (.cells #[.string ⟨#[]⟩, .slice none 0 0] 32 (0, 0)) := by rw [hY0]; exact heap_new2 w _ _ _ rfl
  have k1 := (h.later hA0).text hg (by have := Tm.text_le t hg; omega)
  obtain ⟨q0, q1, q2, q3, q4⟩ := pair_facts hq (After.refl _)
  have HQ := Lib.hid hq
  have HR := Lib.hid hr
  have HA0 := Lib.hid hA0
  have HST := Lib.hid (h.later hA0)
  obtain ⟨kT, hkT⟩ : ∃ z, z = Tm.kC.text := ⟨_, rfl⟩
  obtain ⟨sT, hsT⟩ : ∃ z, z = Tm.sC.text := ⟨_, rfl⟩
  rw [← hkT] at hk
  have HKT := Lib.hid hkT
  have HSTT := Lib.hid hsT
  clear hq hr hA0 h q2 q3 q4 hkT
  go_enter Try.func51, Try.ntmps51
  go_wp2_with fail
  rw [← hY0]
  clear hY0
  refine k1.mono ?_
  rintro e w1 ⟨rfl, hb1⟩
  obtain ⟨Y1, hY1⟩ : ∃ Y1, Y1 = (w1.alloc (.cells #[str [107], .slice none 0 0] 32)).alloc (.cells #[str [115], .slice none 0 0] 32) := ⟨_, rfl⟩
  have hA1 : After w1 Y1 := by rw [hY1]; exact (After.new _ _).alloc _
  have hgk : Y1.heap[w1.heap.size]? = some (.cells #[str [107], .slice none 0 0] 32 (0, 0)) := by rw [hY1]; exact heap_old2 _ _ _
  have hgs : Y1.heap[w1.heap.size + 1]? = some (.cells #[str [115], .slice none 0 0] 32 (0, 0)) := by rw [hY1]; exact heap_new2 w1 _ _ _ rfl
  have HGK := Lib.hid hgk
  have HGS := Lib.hid hgs
  have k2 := ST.code4 (t := .k) (w := Y1) (v := .agg #[str [107], .slice none 0 0]) rfl (fun _ => rfl)
  rw [show Tm.code .k = Tm.kC from rfl] at k2
  unfold TreePost at k2
  have HA1 := Lib.hid (hb1.trans hA1)
  clear k1 q0 q1 hgk hgs hA1 hb1
  go_wp2_with fail
  rw [← hY1]
  clear hY1
  refine k2.mono ?_
  rintro e w2 ⟨t2, ao2, n2, c2, rfl, hb2, ht2⟩
  have k3 := ht2.text (by decide +kernel) (by decide +kernel)
  rw [← HKT.out] at k3
  clear k2 ht2
  go_wp2_with fail
  refine k3.mono ?_
  rintro e w3 ⟨rfl, hb3⟩
  have HA3 := Lib.hid (hb2.trans hb3)
  clear k3 hb2 hb3
  rw [← hsT] at hs
  clear hsT
  have GS3 := HA3.out.heap HGS.out
  obtain ⟨i0, i1, i2, i3, i4⟩ := pair_facts GS3 (After.refl _)
  have k4 := ST.code4 (t := .s) (w := w3) (v := .agg #[str [115], .slice none 0 0]) rfl (fun _ => rfl)
  rw [show Tm.code .s = Tm.sC from rfl] at k4
  unfold TreePost at k4
  clear GS3 i2 i3 i4
  go_wp2_with fail
  refine k4.mono ?_
  rintro e w4 ⟨t4, ao4, n4, c4, rfl, hb4, ht4⟩
  have k5 := ht4.text (by decide +kernel) (by decide +kernel)
  rw [← HSTT.out] at k5
  clear k4 ht4 i0 i1
  go_wp2_with fail
  refine k5.mono ?_
  rintro e w5 ⟨rfl, hb5⟩
  have HA5 := Lib.hid ((HA1.out.trans HA3.out).trans (hb4.trans hb5))
  have G := HA5.out.heap HR.out
  obtain ⟨z0, z1, z2, z3, z4⟩ := pair_facts G (After.refl _)
  have GQ := HA5.out.heap HQ.out
  obtain ⟨j0, j1, j2, j3, j4⟩ := pair_facts GQ (After.refl _)
  have GH := HA5.out.heap (HA0.out.heap hh)
  have m0 := cell_of_heap (i := 0) GH
  have m2 := cell_of_heap (i := 2) GH
  have m3 := cell_of_heap (i := 3) GH
  have GH2 := HA5.out.heap (HA0.out.heap hh2)
  have l0 := cell_of_heap (i := 0) GH2
  have l2 := cell_of_heap (i := 2) GH2
  have l3 := cell_of_heap (i := 3) GH2
  have kp := s_parts w5 pp _ ((hp.later HA0.out).later HA5.out) hpg hpz
  unfold SPartsPost at kp
  rw [hpn] at kp
  clear hpn
  clear GH GH2 k5 j2 j3 j4 hp
  go_wp2_with fail
  refine kp.mono ?_
  rintro e w6 ⟨sc, ac, nc, cc, sd, ad, nd, cd, rfl, hb6, hr6⟩
  have HA6 := Lib.hid (HA5.out.trans hb6)
  have a7 := (After.new w6 (.cells #[str sc, .slice ac nc cc] 32)).alloc (.cells #[str sd, .slice ad nd cd] 32)
  have AZ := HA6.out.trans a7
  have G' := AZ.heap HR.out
  obtain ⟨y0, y1, y2, y3, y4⟩ := pair_facts G' (After.refl _)
  have GQ' := AZ.heap HQ.out
  obtain ⟨j5, j6, j7, j8, j9⟩ := pair_facts GQ' (After.refl _)
  have HAW := Lib.hid (HA0.out.trans AZ)
  have HF := Lib.hid ((HST.out.later AZ).sets2 (i := 0) (j := 1) (u := str []) (u' := .slice (some ⟨g, 0, none⟩) 2 cx) G')
  clear kp hr6 hb4 hb5 hb6 AZ a7 z0 z1 z2 z3 z4 j0 j1
  go_wp2_with fail
  exact bodyPost_ret (v := .tuple #[.agg #[str [], .slice (some ⟨g, 0, none⟩) 2 cx], .bool false]) (by simp [results, Try.results51, go_sem, y0, y1]) rfl
    ⟨t, [], some ⟨g, 0, none⟩, 2, cx, rfl, after_sets2 HAW.out G' (Nat.le_succ _) _ _, HF.out, fun u hu => by cases hu⟩

theorem back_6 (w : World) (t : Tm) (x : List UInt8) (ax : Option Addr) (nx cx : Nat) (h : ST w t (.agg #[str x, .slice ax nx cx])) (hg : t.good = true) (hz : t.size ≤ 3000) (hk : (t.text == Tm.kC.text) = false) (hs : (t.text == Tm.sC.text) = false) (g g2 cap2 : Nat) (p0 p2 s3 p3 : Value) (fr fr2 : Nat × Nat) (pp : Tm) (e1 : x = []) (e2 : ax = some ⟨g, 0, none⟩) (e3 : nx = 2) (hh : w.heap[g]? = some (.cells #[str [107], p0, str [], .slice (some ⟨g2, 0, none⟩) 2 cap2] 32 fr)) (hh2 : w.heap[g2]? = some (.cells #[str [107], p2, s3, p3] 32 fr2)) (hp : ST w pp (.agg #[s3, p3])) (hpg : pp.good = true) (hpz : pp.size ≤ 3000) (mm mn : Tm) (hpn : pp.parts = some (mm, mn)) (uc : Tm) (rd : Option Tm)
    (ihc : ∀ {W : World} {v : Value}, ST W mm v → Calls Try.prog 51 #[v] W (SBackPost W (some uc))) (ihd : ∀ {W : World} {v : Value}, ST W mn v → Calls Try.prog 51 #[v] W (SBackPost W rd)) :
    Calls Try.prog 51 #[.agg #[str x, .slice ax nx cx]] w (SBackPost w (rd.bind fun y => some (.app uc y))) := by
  subst e1 e2 e3
  obtain ⟨Y0, hY0⟩ : ∃ Y0, Y0 = (w.alloc (.cells #[str [], .slice (some ⟨g, 0, none⟩) 2 cx] 32)).alloc (.cells #[.string ⟨#[]⟩, .slice none 0 0] 32) := ⟨_, rfl⟩
  have hA0 : After w Y0 := by rw [hY0]; exact (After.new _ _).alloc _
  have hq : Y0.heap[w.heap.size]? = some (.cells #[str [], .slice (some ⟨g, 0, none⟩) 2 cx] 32 (0, 0)) := by rw [hY0]; exact heap_old2 _ _ _
  have hr : Y0.heap[w.heap.size + 1]? = some (.cells #[.string ⟨#[]⟩, .slice none 0 0] 32 (0, 0)) := by rw [hY0]; exact heap_new2 w _ _ _ rfl
  have k1 := (h.later hA0).text hg (by have := Tm.text_le t hg; omega)
  obtain ⟨q0, q1, q2, q3, q4⟩ := pair_facts hq (After.refl _)
  have HQ := Lib.hid hq
  have HR := Lib.hid hr
  have HA0 := Lib.hid hA0
  have HST := Lib.hid (h.later hA0)
  obtain ⟨kT, hkT⟩ : ∃ z, z = Tm.kC.text := ⟨_, rfl⟩
  obtain ⟨sT, hsT⟩ : ∃ z, z = Tm.sC.text := ⟨_, rfl⟩
  rw [← hkT] at hk
  have HKT := Lib.hid hkT
  have HSTT := Lib.hid hsT
  clear hq hr hA0 h q2 q3 q4 hkT
  go_enter Try.func51, Try.ntmps51
  go_wp2_with fail
  rw [← hY0]
  clear hY0
  refine k1.mono ?_
  rintro e w1 ⟨rfl, hb1⟩
  obtain ⟨Y1, hY1⟩ : ∃ Y1, Y1 = (w1.alloc (.cells #[str [107], .slice none 0 0] 32)).alloc (.cells #[str [115], .slice none 0 0] 32) := ⟨_, rfl⟩
  have hA1 : After w1 Y1 := by rw [hY1]; exact (After.new _ _).alloc _
  have hgk : Y1.heap[w1.heap.size]? = some (.cells #[str [107], .slice none 0 0] 32 (0, 0)) := by rw [hY1]; exact heap_old2 _ _ _
  have hgs : Y1.heap[w1.heap.size + 1]? = some (.cells #[str [115], .slice none 0 0] 32 (0, 0)) := by rw [hY1]; exact heap_new2 w1 _ _ _ rfl
  have HGK := Lib.hid hgk
  have HGS := Lib.hid hgs
  have k2 := ST.code4 (t := .k) (w := Y1) (v := .agg #[str [107], .slice none 0 0]) rfl (fun _ => rfl)
  rw [show Tm.code .k = Tm.kC from rfl] at k2
  unfold TreePost at k2
  have HA1 := Lib.hid (hb1.trans hA1)
  clear k1 q0 q1 hgk hgs hA1 hb1
  go_wp2_with fail
  rw [← hY1]
  clear hY1
  refine k2.mono ?_
  rintro e w2 ⟨t2, ao2, n2, c2, rfl, hb2, ht2⟩
  have k3 := ht2.text (by decide +kernel) (by decide +kernel)
  rw [← HKT.out] at k3
  clear k2 ht2
  go_wp2_with fail
  refine k3.mono ?_
  rintro e w3 ⟨rfl, hb3⟩
  have HA3 := Lib.hid (hb2.trans hb3)
  clear k3 hb2 hb3
  rw [← hsT] at hs
  clear hsT
  have GS3 := HA3.out.heap HGS.out
  obtain ⟨i0, i1, i2, i3, i4⟩ := pair_facts GS3 (After.refl _)
  have k4 := ST.code4 (t := .s) (w := w3) (v := .agg #[str [115], .slice none 0 0]) rfl (fun _ => rfl)
  rw [show Tm.code .s = Tm.sC from rfl] at k4
  unfold TreePost at k4
  clear GS3 i2 i3 i4
  go_wp2_with fail
  refine k4.mono ?_
  rintro e w4 ⟨t4, ao4, n4, c4, rfl, hb4, ht4⟩
  have k5 := ht4.text (by decide +kernel) (by decide +kernel)
  rw [← HSTT.out] at k5
  clear k4 ht4 i0 i1
  go_wp2_with fail
  refine k5.mono ?_
  rintro e w5 ⟨rfl, hb5⟩
  have HA5 := Lib.hid ((HA1.out.trans HA3.out).trans (hb4.trans hb5))
  have G := HA5.out.heap HR.out
  obtain ⟨z0, z1, z2, z3, z4⟩ := pair_facts G (After.refl _)
  have GQ := HA5.out.heap HQ.out
  obtain ⟨j0, j1, j2, j3, j4⟩ := pair_facts GQ (After.refl _)
  have GH := HA5.out.heap (HA0.out.heap hh)
  have m0 := cell_of_heap (i := 0) GH
  have m2 := cell_of_heap (i := 2) GH
  have m3 := cell_of_heap (i := 3) GH
  have GH2 := HA5.out.heap (HA0.out.heap hh2)
  have l0 := cell_of_heap (i := 0) GH2
  have l2 := cell_of_heap (i := 2) GH2
  have l3 := cell_of_heap (i := 3) GH2
  have kp := s_parts w5 pp _ ((hp.later HA0.out).later HA5.out) hpg hpz
  unfold SPartsPost at kp
  rw [hpn] at kp
  clear hpn
  clear GH GH2 k5 j2 j3 j4 hp
  go_wp2_with fail
  refine kp.mono ?_
  rintro e w6 ⟨sc, ac, nc, cc, sd, ad, nd, cd, rfl, hb6, hr6⟩
  have HA6 := Lib.hid (HA5.out.trans hb6)
  have ST1 := (hr6 mm mn rfl).1
  have ST2 := (hr6 mm mn rfl).2
  have a7 := (After.new w6 (.cells #[str sc, .slice ac nc cc] 32)).alloc (.cells #[str sd, .slice ad nd cd] 32)
  obtain ⟨Y7, hY7⟩ : ∃ Y7, Y7 = (w6.alloc (.cells #[str sc, .slice ac nc cc] 32)).alloc (.cells #[str sd, .slice ad nd cd] 32) := ⟨_, rfl⟩
  have gc : Y7.heap[w6.heap.size]? = some (.cells #[str sc, .slice ac nc cc] 32 (0, 0)) := by rw [hY7]; exact heap_old2 _ _ _
  have gd : Y7.heap[w6.heap.size + 1]? = some (.cells #[str sd, .slice ad nd cd] 32 (0, 0)) := by rw [hY7]; exact heap_new2 w6 _ _ _ rfl
  rw [← hY7] at a7
  obtain ⟨y0, y1, y2, y3, y4⟩ := pair_facts gc (After.refl _)
  have kc := ihc (ST1.later a7)
  have HT2 := Lib.hid (ST2.later a7)
  have HGD := Lib.hid gd
  have HA7 := Lib.hid (HA6.out.trans a7)
  unfold SBackPost at kc
  clear kp hr6 hb4 hb5 hb6 a7 z0 z1 z2 z3 z4 j0 j1 gc gd ST1 ST2 y2 y3 y4 G GQ m0 m2 m3 l0 l2 l3 ihc
  go_wp2_with fail
  rw [← hY7]
  clear hY7
  refine kc.mono ?_
  rintro e w8 ⟨xc, s8, a8, n8, c8, rfl, hb8, st8, hx8⟩
  have al8 := After.new w8 (.cells #[str s8, .slice a8 n8 c8] 32)
  have gx := heap_new' w8 (.cells #[str s8, .slice a8 n8 c8] 32)
  have GD8 := (hb8.trans al8).heap HGD.out
  obtain ⟨u0, u1, u2, u3, u4⟩ := pair_facts GD8 (After.refl _)
  have kd := ihd (HT2.out.later (hb8.trans al8))
  have HX8 := Lib.hid (st8.later al8)
  have HGX := Lib.hid gx
  have HA8 := Lib.hid (HA7.out.trans (hb8.trans al8))
  have HEC := Lib.hid hx8
  unfold SBackPost at kd
  clear kc y0 y1 st8 gx GD8 u2 u3 u4 hb8 al8 hx8 ihd
  go_wp2_with fail
  refine kd.mono ?_
  rintro e w9 ⟨xd, s9, a9, n9, c9, rfl, hb9, st9, hx9⟩
  have al9 := After.new w9 (.cells #[str s9, .slice a9 n9 c9] 32)
  have gy := heap_new' w9 (.cells #[str s9, .slice a9 n9 c9] 32)
  have gx9 := (hb9.trans al9).heap HGX.out
  have SX9 := Lib.hid (HX8.out.later (hb9.trans al9))
  have SY9 := Lib.hid (st9.later al9)
  have AY9 := Lib.hid (HA8.out.trans (hb9.trans al9))
  have HED := Lib.hid hx9
  obtain ⟨f0, f1, f2, f3, f4⟩ := pair_facts gx9 (After.refl _)
  obtain ⟨f5, f6, f7, f8, f9⟩ := pair_facts gy (After.refl _)
  obtain ⟨Y, hY⟩ : ∃ Y, Y = w9.alloc (.cells #[str s9, .slice a9 n9 c9] 32) := ⟨_, rfl⟩
  rw [← hY] at f0 f1 f5 f6 SX9 SY9 AY9
  have szY : Y.heap.size = w9.heap.size + 1 := by rw [hY]; simp
  have ka := s_app (Y.alloc (.cells #[str s9, .slice a9 n9 c9] 32)) xc xd s8 s9 a8 a9 n8 c8 n9 c9 Y.heap.size (0, 0) (SX9.out.later (After.new _ _)) (SY9.out.later (After.new _ _)) (heap_new' _ _)
  unfold TreePost at ka
  rw [szY] at ka
  rw [hY] at ka f0 f1 f5 f6
  have HA10 := Lib.hid (AY9.out.trans (After.new Y (.cells #[str s9, .slice a9 n9 c9] 32)))
  rw [hY] at HA10
  clear kd u0 u1 st9 hx9 f2 f3 f4 f7 f8 f9 gx9 gy hb9 al9
  go_wp2_with fail
  refine ka.mono ?_
  rintro e w10 ⟨t10, a10, n10, c10, rfl, hb10, ht10⟩
  have AZ := HA10.out.trans hb10
  have G := AZ.heap HR.out
  obtain ⟨z0, z1, z2, z3, z4⟩ := pair_facts G (After.refl _)
  have HAW := Lib.hid (HA0.out.trans AZ)
  have HF := Lib.hid (ht10.sets2 (i := 0) (j := 1) (u := str t10) (u' := .slice a10 n10 c10) G)
  clear ka f0 f1 f5 f6 AZ
  go_wp2_with fail
  exact bodyPost_ret (v := .tuple #[.agg #[str t10, .slice a10 n10 c10], .bool rd.isSome]) (by simp [results, Try.results51, go_sem, z0, z1]) rfl
    ⟨.app xc xd, t10, a10, n10, c10, (by cases rd <;> rfl), after_sets2 HAW.out G (Nat.le_succ _) _ _, HF.out, (fun u hu => by cases rd with | none => cases hu | some ud => (obtain rfl := Option.some.inj hu; rw [HEC.out _ rfl, HED.out _ rfl]))⟩

theorem back_7 (w : World) (t : Tm) (x : List UInt8) (ax : Option Addr) (nx cx : Nat) (h : ST w t (.agg #[str x, .slice ax nx cx])) (hg : t.good = true) (hz : t.size ≤ 3000) (hk : (t.text == Tm.kC.text) = false) (hs : (t.text == Tm.sC.text) = false) (g g2 cap2 : Nat) (p0 p2 s3 p3 : Value) (fr fr2 : Nat × Nat) (pp : Tm) (e1 : x = []) (e2 : ax = some ⟨g, 0, none⟩) (e3 : nx = 2) (hh : w.heap[g]? = some (.cells #[str [107], p0, str [], .slice (some ⟨g2, 0, none⟩) 2 cap2] 32 fr)) (hh2 : w.heap[g2]? = some (.cells #[str [107], p2, s3, p3] 32 fr2)) (hp : ST w pp (.agg #[s3, p3])) (hpg : pp.good = true) (hpz : pp.size ≤ 3000) (mm mn : Tm) (hpn : pp.parts = some (mm, mn)) (rd : Option Tm)
    (ihc : ∀ {W : World} {v : Value}, ST W mm v → Calls Try.prog 51 #[v] W (SBackPost W none)) (ihd : ∀ {W : World} {v : Value}, ST W mn v → Calls Try.prog 51 #[v] W (SBackPost W rd)) :
    Calls Try.prog 51 #[.agg #[str x, .slice ax nx cx]] w (SBackPost w none) := by
  subst e1 e2 e3
  obtain ⟨Y0, hY0⟩ : ∃ Y0, Y0 = (w.alloc (.cells #[str [], .slice (some ⟨g, 0, none⟩) 2 cx] 32)).alloc (.cells #[.string ⟨#[]⟩, .slice none 0 0] 32) := ⟨_, rfl⟩
  have hA0 : After w Y0 := by rw [hY0]; exact (After.new _ _).alloc _
  have hq : Y0.heap[w.heap.size]? = some (.cells #[str [], .slice (some ⟨g, 0, none⟩) 2 cx] 32 (0, 0)) := by rw [hY0]; exact heap_old2 _ _ _
  have hr : Y0.heap[w.heap.size + 1]? = some (.cells #[.string ⟨#[]⟩, .slice none 0 0] 32 (0, 0)) := by rw [hY0]; exact heap_new2 w _ _ _ rfl
  have k1 := (h.later hA0).text hg (by have := Tm.text_le t hg; omega)
  obtain ⟨q0, q1, q2, q3, q4⟩ := pair_facts hq (After.refl _)
  have HQ := Lib.hid hq
  have HR := Lib.hid hr
  have HA0 := Lib.hid hA0
  have HST := Lib.hid (h.later hA0)
  obtain ⟨kT, hkT⟩ : ∃ z, z = Tm.kC.text := ⟨_, rfl⟩
  obtain ⟨sT, hsT⟩ : ∃ z, z = Tm.sC.text := ⟨_, rfl⟩
  rw [← hkT] at hk
  have HKT := Lib.hid hkT
  have HSTT := Lib.hid hsT
  clear hq hr hA0 h q2 q3 q4 hkT
  go_enter Try.func51, Try.ntmps51
  go_wp2_with fail
  rw [← hY0]
  clear hY0
  refine k1.mono ?_
  rintro e w1 ⟨rfl, hb1⟩
  obtain ⟨Y1, hY1⟩ : ∃ Y1, Y1 = (w1.alloc (.cells #[str [107], .slice none 0 0] 32)).alloc (.cells #[str [115], .slice none 0 0] 32) := ⟨_, rfl⟩
  have hA1 : After w1 Y1 := by rw [hY1]; exact (After.new _ _).alloc _
  have hgk : Y1.heap[w1.heap.size]? = some (.cells #[str [107], .slice none 0 0] 32 (0, 0)) := by rw [hY1]; exact heap_old2 _ _ _
  have hgs : Y1.heap[w1.heap.size + 1]? = some (.cells #[str [115], .slice none 0 0] 32 (0, 0)) := by rw [hY1]; exact heap_new2 w1 _ _ _ rfl
  have HGK := Lib.hid hgk
  have HGS := Lib.hid hgs
  have k2 := ST.code4 (t := .k) (w := Y1) (v := .agg #[str [107], .slice none 0 0]) rfl (fun _ => rfl)
  rw [show Tm.code .k = Tm.kC from rfl] at k2
  unfold TreePost at k2
  have HA1 := Lib.hid (hb1.trans hA1)
  clear k1 q0 q1 hgk hgs hA1 hb1
  go_wp2_with fail
  rw [← hY1]
  clear hY1
  refine k2.mono ?_
  rintro e w2 ⟨t2, ao2, n2, c2, rfl, hb2, ht2⟩
  have k3 := ht2.text (by decide +kernel) (by decide +kernel)
  rw [← HKT.out] at k3
  clear k2 ht2
  go_wp2_with fail
  refine k3.mono ?_
  rintro e w3 ⟨rfl, hb3⟩
  have HA3 := Lib.hid (hb2.trans hb3)
  clear k3 hb2 hb3
  rw [← hsT] at hs
  clear hsT
  have GS3 := HA3.out.heap HGS.out
  obtain ⟨i0, i1, i2, i3, i4⟩ := pair_facts GS3 (After.refl _)
  have k4 := ST.code4 (t := .s) (w := w3) (v := .agg #[str [115], .slice none 0 0]) rfl (fun _ => rfl)
  rw [show Tm.code .s = Tm.sC from rfl] at k4
  unfold TreePost at k4
  clear GS3 i2 i3 i4
  go_wp2_with fail
  refine k4.mono ?_
  rintro e w4 ⟨t4, ao4, n4, c4, rfl, hb4, ht4⟩
  have k5 := ht4.text (by decide +kernel) (by decide +kernel)
  rw [← HSTT.out] at k5
  clear k4 ht4 i0 i1
  go_wp2_with fail
  refine k5.mono ?_
  rintro e w5 ⟨rfl, hb5⟩
  have HA5 := Lib.hid ((HA1.out.trans HA3.out).trans (hb4.trans hb5))
  have G := HA5.out.heap HR.out
  obtain ⟨z0, z1, z2, z3, z4⟩ := pair_facts G (After.refl _)
  have GQ := HA5.out.heap HQ.out
  obtain ⟨j0, j1, j2, j3, j4⟩ := pair_facts GQ (After.refl _)
  have GH := HA5.out.heap (HA0.out.heap hh)
  have m0 := cell_of_heap (i := 0) GH
  have m2 := cell_of_heap (i := 2) GH
  have m3 := cell_of_heap (i := 3) GH
  have GH2 := HA5.out.heap (HA0.out.heap hh2)
  have l0 := cell_of_heap (i := 0) GH2
  have l2 := cell_of_heap (i := 2) GH2
  have l3 := cell_of_heap (i := 3) GH2
  have kp := s_parts w5 pp _ ((hp.later HA0.out).later HA5.out) hpg hpz
  unfold SPartsPost at kp
  rw [hpn] at kp
  clear hpn
  clear GH GH2 k5 j2 j3 j4 hp
  go_wp2_with fail
  refine kp.mono ?_
  rintro e w6 ⟨sc, ac, nc, cc, sd, ad, nd, cd, rfl, hb6, hr6⟩
  have HA6 := Lib.hid (HA5.out.trans hb6)
  have ST1 := (hr6 mm mn rfl).1
  have ST2 := (hr6 mm mn rfl).2
  have a7 := (After.new w6 (.cells #[str sc, .slice ac nc cc] 32)).alloc (.cells #[str sd, .slice ad nd cd] 32)
  obtain ⟨Y7, hY7⟩ : ∃ Y7, Y7 = (w6.alloc (.cells #[str sc, .slice ac nc cc] 32)).alloc (.cells #[str sd, .slice ad nd cd] 32) := ⟨_, rfl⟩
  have gc : Y7.heap[w6.heap.size]? = some (.cells #[str sc, .slice ac nc cc] 32 (0, 0)) := by rw [hY7]; exact heap_old2 _ _ _
  have gd : Y7.heap[w6.heap.size + 1]? = some (.cells #[str sd, .slice ad nd cd] 32 (0, 0)) := by rw [hY7]; exact heap_new2 w6 _ _ _ rfl
  rw [← hY7] at a7
  obtain ⟨y0, y1, y2, y3, y4⟩ := pair_facts gc (After.refl _)
  have kc := ihc (ST1.later a7)
  have HT2 := Lib.hid (ST2.later a7)
  have HGD := Lib.hid gd
  have HA7 := Lib.hid (HA6.out.trans a7)
  unfold SBackPost at kc
  clear kp hr6 hb4 hb5 hb6 a7 z0 z1 z2 z3 z4 j0 j1 gc gd ST1 ST2 y2 y3 y4 G GQ m0 m2 m3 l0 l2 l3 ihc
  go_wp2_with fail
  rw [← hY7]
  clear hY7
  refine kc.mono ?_
  rintro e w8 ⟨xc, s8, a8, n8, c8, rfl, hb8, st8, hx8⟩
  have al8 := After.new w8 (.cells #[str s8, .slice a8 n8 c8] 32)
  have gx := heap_new' w8 (.cells #[str s8, .slice a8 n8 c8] 32)
  have GD8 := (hb8.trans al8).heap HGD.out
  obtain ⟨u0, u1, u2, u3, u4⟩ := pair_facts GD8 (After.refl _)
  have kd := ihd (HT2.out.later (hb8.trans al8))
  have HX8 := Lib.hid (st8.later al8)
  have HGX := Lib.hid gx
  have HA8 := Lib.hid (HA7.out.trans (hb8.trans al8))
  have HEC := Lib.hid hx8
  unfold SBackPost at kd
  clear kc y0 y1 st8 gx GD8 u2 u3 u4 hb8 al8 hx8 ihd
  go_wp2_with fail
  refine kd.mono ?_
  rintro e w9 ⟨xd, s9, a9, n9, c9, rfl, hb9, st9, hx9⟩
  have al9 := After.new w9 (.cells #[str s9, .slice a9 n9 c9] 32)
  have gy := heap_new' w9 (.cells #[str s9, .slice a9 n9 c9] 32)
  have gx9 := (hb9.trans al9).heap HGX.out
  have SX9 := Lib.hid (HX8.out.later (hb9.trans al9))
  have SY9 := Lib.hid (st9.later al9)
  have AY9 := Lib.hid (HA8.out.trans (hb9.trans al9))
  have HED := Lib.hid hx9
  obtain ⟨f0, f1, f2, f3, f4⟩ := pair_facts gx9 (After.refl _)
  obtain ⟨f5, f6, f7, f8, f9⟩ := pair_facts gy (After.refl _)
  obtain ⟨Y, hY⟩ : ∃ Y, Y = w9.alloc (.cells #[str s9, .slice a9 n9 c9] 32) := ⟨_, rfl⟩
  rw [← hY] at f0 f1 f5 f6 SX9 SY9 AY9
  have szY : Y.heap.size = w9.heap.size + 1 := by rw [hY]; simp
  have ka := s_app (Y.alloc (.cells #[str s9, .slice a9 n9 c9] 32)) xc xd s8 s9 a8 a9 n8 c8 n9 c9 Y.heap.size (0, 0) (SX9.out.later (After.new _ _)) (SY9.out.later (After.new _ _)) (heap_new' _ _)
  unfold TreePost at ka
  rw [szY] at ka
  rw [hY] at ka f0 f1 f5 f6
  have HA10 := Lib.hid (AY9.out.trans (After.new Y (.cells #[str s9, .slice a9 n9 c9] 32)))
  rw [hY] at HA10
  clear kd u0 u1 st9 hx9 f2 f3 f4 f7 f8 f9 gx9 gy hb9 al9
  go_wp2_with fail
  refine ka.mono ?_
  rintro e w10 ⟨t10, a10, n10, c10, rfl, hb10, ht10⟩
  have AZ := HA10.out.trans hb10
  have G := AZ.heap HR.out
  obtain ⟨z0, z1, z2, z3, z4⟩ := pair_facts G (After.refl _)
  have HAW := Lib.hid (HA0.out.trans AZ)
  have HF := Lib.hid (ht10.sets2 (i := 0) (j := 1) (u := str t10) (u' := .slice a10 n10 c10) G)
  clear ka f0 f1 f5 f6 AZ
  go_wp2_with fail
  exact bodyPost_ret (v := .tuple #[.agg #[str t10, .slice a10 n10 c10], .bool false]) (by simp [results, Try.results51, go_sem, z0, z1]) rfl
    ⟨.app xc xd, t10, a10, n10, c10, rfl, after_sets2 HAW.out G (Nat.le_succ _) _ _, HF.out, (fun u hu => by cases hu)⟩

end Go.Proofs.Ytfpekihdoclncaa
