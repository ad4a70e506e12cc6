/-
  The closures of composition, recursion, search; reckon for every function text; FunctionValue.
-/
import Derived.Test.YtjomocjlnjgkeaaPkBV
namespace Go.Proofs.Ytjomocjlnjgkeaa
open Go.RowKit

set_option maxHeartbeats 2000000
set_option maxRecDepth 100000

def evComp (f : FT) (gs : List FT) (az : List Nat) (s : Nat) : Option (Nat × Nat) := match evAll gs az s with
  | none => none
  | some (xs, s1) => FT.ev f xs s1

theorem clo_comp (w0 : World) (S : Nat) (f : FT) (gs : List FT) (sl pf : Value) (q1 q2 : Nat) (hP : PartsU w0 S sl gs) (hf : CV w0 S f pf) (h1 : w0.heap[q1]? = some (.cells #[sl] 150 (0, 0))) (b1 : S ≤ q1) (h2 : w0.heap[q2]? = some (.cells #[pf] 68 (0, 0))) (b2 : S ≤ q2)
    (hn : gs.length ≤ 10) (ihf : RK w0 S f) (ih : ∀ g ∈ gs, RK w0 S g) (hfl : FT.arity f = gs.length) (w : World) (rb s : Nat) (sv : Value) (az : List Nat) (hA : Agree w0 w S) (hr : w0.heap.size ≤ rb) (hs : Steps w rb s) (hs2 : s ≤ 2000)
    (hv : IntsV w rb sv az) (har : ∀ g ∈ gs, az.length = FT.arity g) (haz : ∀ a ∈ az, a ≤ 10000) :
    Calls Try.prog 128 #[ptr rb, sv, ptr q1, ptr q2] w (ReckPost w rb (evComp f gs az s)) := by
  have k1 := reckAll_any w0 S gs sl hP hn ih w rb s sv az hA hr hs hs2 hv har haz
  have c1 : w.cell? ⟨q1, 0, none⟩ = some sl := cell_of_heap (i := 0) (hA.heap b1 h1)
  have c2 : ∀ w', w.grownBy w' (some rb) → w'.cell? ⟨q2, 0, none⟩ = some pf := fun w' hg => cell_of_heap (i := 0) ((hA.grown hg hr).heap b2 h2)
  obtain ⟨ao, cap, rfl⟩ := hP.form
  obtain ⟨bo, bc, rfl⟩ := hv.form
  obtain ⟨bf, Tf, xf, vf, rfl, _⟩ := hf.fields
  have HF := Lib.hid hf
  have HIF := Lib.hid ihf
  have HA := Lib.hid hA
  have HFL := Lib.hid hfl
  clear hP hf h1 h2 ih ihf hA hv hs
  cases he : evAll gs az s with
  | none =>
    have HE := Lib.hid (show evComp f gs az s = none by simp [evComp, he])
    rw [he] at k1
    clear he c2
    generalize gs.length = n at *
    generalize az.length = m at *
    go_enter Try.func128, Try.ntmps128
    go_wp2_with fail
    refine k1.mono ?_
    rintro e w1 ⟨hg1, rfl⟩
    clear k1
    go_wp2_with fail
    go_ret2
    exact ⟨hg1, by rw [HE.out]; rfl⟩
  | some p =>
    obtain ⟨xs, s1⟩ := p
    obtain ⟨hxl, hx1, hss⟩ := evAll_facts he
    have hs1 := hss hs2
    have HE := Lib.hid (show evComp f gs az s = FT.ev f xs s1 by simp [evComp, he])
    rw [he] at k1
    have HXL := Lib.hid hxl
    have HX1 := Lib.hid hx1
    clear he hxl hx1 hss
    generalize hng : gs.length = n at *
    generalize az.length = m at *
    go_enter Try.func128, Try.ntmps128
    go_wp2_with fail
    refine k1.mono ?_
    rintro e w1 ⟨hg1, sv1, rfl, hv1, hst1⟩
    obtain ⟨co, cc, rfl⟩ := hv1.form
    have c2' := c2 w1 hg1
    have k2 := HIF.out w1 rb s1 _ _ xs HF.out (HA.out.grown hg1 hr) hr hst1 hs1 hv1 (by rw [HFL.out, HXL.out]) (fun a ha => Nat.le_trans (HX1.out a ha) (by omega))
    clear k1 c2 hv1 hst1
    generalize xs.length = xl at *
    go_wp2_with fail
    refine k2.mono ?_
    rintro e w2 ⟨hg2, hp2⟩
    cases hev : FT.ev f xs s1 with
    | none =>
      have HEV := Lib.hid (HE.out.trans hev)
      rw [hev] at hp2
      simp only at hp2
      subst hp2
      go_wp2_with fail
      go_ret2
      exact ⟨grown_trans hg1 hg2, by rw [HEV.out]; rfl⟩
    | some r =>
      obtain ⟨x, s2⟩ := r
      have HEV := Lib.hid (HE.out.trans hev)
      rw [hev] at hp2
      obtain ⟨rfl, hst2⟩ := hp2
      have HS2 := Lib.hid hst2
      clear hst2
      go_wp2_with fail
      go_ret2
      exact ⟨grown_trans hg1 hg2, by rw [HEV.out]; exact ⟨rfl, HS2.out⟩⟩
end Go.Proofs.Ytjomocjlnjgkeaa

namespace Go.Proofs.Ytjomocjlnjgkeaa
open Go.RowKit

set_option maxHeartbeats 2000000
set_option maxRecDepth 100000

/-- Behind wr, but for block rb. -/
def GB (wr : World) (rb : Nat) (W : World) : Prop := wr.grownBy W (some rb)
theorem GB.refl (w : World) (rb : Nat) : GB w rb w := World.grownBy.refl _ _
theorem GB.drew {w W : World} {rb : Nat} (h : GB w rb W) : GB w rb W.drew := ⟨h.os, h.tape, h.output, h.size, h.block⟩
theorem GB.alloc {w W : World} {rb : Nat} (h : GB w rb W) (o : Obj) : GB w rb (W.alloc o) := grown_trans h (grown_alloc W rb o)
theorem GB.after {w W : World} (h : After w W) (rb : Nat) : GB w rb W := after_grown rb h
theorem GB.trans {w W W' : World} {rb : Nat} (h : GB w rb W) (g : GB W rb W') : GB w rb W' := grown_trans h g

theorem row_call {w0 : World} {S : Nat} {f : FT} {pf : Value} (ih : RK w0 S f) (hf : CV w0 S f pf) (wr : World) (rb s : Nat) (hA : Agree w0 wr S) (hr : w0.heap.size ≤ rb) (hs : Steps wr rb s) (hs2 : s ≤ 2000) (xs : List Nat) (hl : xs.length = FT.arity f) (hx : ∀ a ∈ xs, a ≤ 10000)
    (W : World) (v : Value) (n : Nat) (vs : List Value) (hn : n = xs.length) (hvs : vs = intL xs) (ho : W.ownsRow wr.heap.size 3 1 v n vs) (ha : After wr W) : Calls Try.prog 53 #[pf, ptr rb, v] W (ReckPost W rb (FT.ev f xs s)) := by
  have hrb : rb < wr.heap.size := (Array.getElem?_eq_some_iff.1 hs).1
  exact ih W rb s pf v xs hf (hA.after ha) hr (hs.after ha) hs2 (ints_own xs hn hvs ho hrb) hl hx

theorem src_ints {w W : World} {rb : Nat} {sv : Value} {az : List Nat} (h : IntsV w rb sv az) (ha : After w W) : SrcOk W sv (intL az) := by
  rcases h with ⟨rfl, ao, cap, rfl⟩ | ⟨b, o, cap, rfl, hl, hne, hb, hc⟩
  · exact Or.inl ⟨rfl, ao, cap, rfl⟩
  · by_cases h0 : az.length = 0
    · exact Or.inl ⟨by rw [List.length_eq_zero_iff.1 h0]; rfl, _, _, by rw [h0]⟩
    · refine Or.inr ⟨_, _, _, rfl, by omega, by simp [intL], fun j u hu => ?_⟩
      have hj : j < az.length := by have := (List.getElem?_eq_some_iff.1 hu).1; simpa [intL] using this
      rw [add_plain', ha.cell (hc j hj)]
      simp [intL, List.getElem?_map, List.getElem?_eq_getElem hj] at hu
      simp [← hu, List.getD_eq_getElem?_getD, List.getElem?_eq_getElem hj]

theorem one_ints (az : List Nat) : ∀ u ∈ intL az, u.oneCell' = true := fun u hu => by obtain ⟨x, _, rfl⟩ := List.mem_map.1 hu; rfl

theorem owns_two (W : World) (v u : Value) (T : TypeId) : (W.alloc (.cells #[v, u] T)).ownsRow W.heap.size T 1 (.slice (some ⟨W.heap.size, 0, none⟩) 2 2) 2 [v, u] := by
  refine ⟨rfl, Or.inr ⟨W.heap.size, 2, #[v, u], rfl, Nat.le_refl _, ?_, Nat.le_refl _, by unfold maxLen; omega, rfl, rfl⟩⟩
  show (W.heap.push _)[_]? = _
  simp

theorem loopM_step (f : FT) (az : List Nat) (k s : Nat) (hk : k ≤ 2000) : FT.loopM (FT.ev f) az (2001 - k) k s = match FT.ev f (k :: az) s with
    | none => none
    | some (v, s') => if v = 0 then some (k, s') else FT.loopM (FT.ev f) az (2001 - (k + 1)) (k + 1) s' := by
  rw [show 2001 - k = (2001 - (k + 1)) + 1 by omega]
  rfl

theorem clo_sea (w0 : World) (S : Nat) (f : FT) (pf : Value) (q1 : Nat) (hf : CV w0 S f pf) (h1 : w0.heap[q1]? = some (.cells #[pf] 68 (0, 0))) (b1 : S ≤ q1) (ihf : RK w0 S f) (h0 : 0 < FT.arity f) (h3 : FT.arity f ≤ 3)
    (w : World) (rb s : Nat) (sv : Value) (az : List Nat) (hA : Agree w0 w S) (hr : w0.heap.size ≤ rb) (hs : Steps w rb s) (hs2 : s ≤ 2000) (hv : IntsV w rb sv az) (hl : az.length = FT.arity (.m f)) (ha : ∀ a ∈ az, a ≤ 10000) :
    Calls Try.prog 133 #[ptr rb, sv, ptr q1] w (ReckPost w rb (FT.loopM (FT.ev f) az 2001 0 s)) := by
  have c1 : ∀ w', GB w rb w' → w'.cell? ⟨q1, 0, none⟩ = some pf := fun w' hg => cell_of_heap (i := 0) ((hA.grown hg hr).heap b1 h1)
  obtain ⟨ao, cap, rfl⟩ := hv.form
  obtain ⟨bf, Tf, xf, vf, rfl, _⟩ := hf.fields
  obtain ⟨R, hR⟩ : ∃ R, R = FT.loopM (FT.ev f) az 2001 0 s := ⟨_, rfl⟩
  rw [← hR]
  have hlf : az.length + 1 = FT.arity f := by simp only [FT.arity] at hl; omega
  obtain ⟨m, hm⟩ : ∃ m, m = az.length := ⟨_, rfl⟩
  rw [← hm] at hlf ⊢
  have hm2 : m ≤ 2 := by omega
  have hv' : IntsV w rb (.slice ao m cap) az := by rw [hm]; exact hv
  have hun : Try.prog.underlying 32 = some (.slice 3) := by kernel_rfl
  obtain ⟨i0, hi0, hz0, hz1, hz2⟩ : ∃ i, (Try.prog).info? 3 = some i ∧ i.zero = some (.int .i64 0) ∧ i.size = 1 ∧ i.bytes = 8 := ⟨_, rfl, rfl, rfl, rfl⟩
  have hone := one_ints az
  have hnl : (intL az).length = m := by simp [intL, hm]
  have HM := Lib.hid hm
  have HLF := Lib.hid hlf
  have HR := Lib.hid hR
  have HF := Lib.hid hf
  have HIF := Lib.hid ihf
  have HA := Lib.hid hA
  have HV := Lib.hid hv'
  have HS := Lib.hid hs
  have HAZ := Lib.hid ha
  have HC := Lib.hid c1
  have HONE := Lib.hid hone
  have HNL := Lib.hid hnl
  clear hR hf ihf hA hv hv' hs ha hl h1 c1 hm hlf hone hnl
  go_enter Try.func133, Try.ntmps133
  go_wp2_with fail
  go_loopw [7] (fun n wr => ∃ (k sk : Nat), n = .int .i64 k ∧ k ≤ sk ∧ sk ≤ 2000 ∧ Hid (R = FT.loopM (FT.ev f) az (2001 - k) k sk) ∧ Hid (Steps wr rb sk) ∧ Hid (w.grownBy wr (some rb))) (fun n _ => 2001 - (intOf n).toNat)
  case atStart => exact ⟨0, s, rfl, by omega, hs2, HR.out, HS.out, World.grownBy.refl _ _⟩
  case round =>
    obtain ⟨k, sk, rfl, hks, hsk, HE, HST, HG⟩ := hrel
    have hself := GB.refl wr rb
    have c1 : ∀ W, GB wr rb W → W.cell? ⟨q1, 0, none⟩ = some (ptr bf) := fun W hW => HC.out W (GB.trans HG.out hW)
    have hcall := row_call HIF.out HF.out wr rb sk (HA.out.grown HG.out hr) hr HST.out hsk (k :: az) (by rw [List.length_cons, ← HM.out]; exact HLF.out) (fun a h => by
      rcases List.mem_cons.1 h with rfl | h
      · omega
      · exact HAZ.out a h)
    have hwr : After wr ((wr.alloc (.cells #[.int .i64 (k : Nat)] 3)).drew) := After.drew (After.new _ _)
    have hsrc := src_ints (HV.out.grown HG.out) hwr
    have hl2 : 1 + m = (k :: az).length := by rw [List.length_cons, ← HM.out]; omega
    have hl3 : [Value.int .i64 (k : Nat)] ++ intL az = intL (k :: az) := rfl
    have hstep := loopM_step f az k sk (by omega)
    have HSRC := Lib.hid hsrc
    have HL2 := Lib.hid hl2
    have HL3 := Lib.hid hl3
    have hsz : wr.heap.size ≤ ((wr.alloc (.cells #[.int .i64 (k : Nat)] 3)).drew).heap.size := hwr.size
    have hmax : 1 + (intL az).length ≤ maxLen := by rw [HNL.out]; unfold maxLen; omega
    have hm8 : (1 + (intL az).length) * 8 ≤ 140737488355328 := by rw [HNL.out]; omega
    have HMAX := Lib.hid hmax
    have HM8 := Lib.hid hm8
    have hruns := FT.ev_runs f (k :: az) sk
    cases hev : FT.ev f (k :: az) sk with
    | none =>
      rw [hev] at hcall hstep
      have HCALL := Lib.hid hcall
      have HN := Lib.hid (show R = none from HE.out.trans hstep)
      clear hcall hsrc hl2 hl3 hstep hmax hm8 hev hruns
      go_wp2_with fail
      go_region_held3 (fun W' => GB wr rb W') (first | assumption | exact hself.drew | exact GB.drew (by assumption) | exact GB.alloc (by assumption) _ | exact GB.drew (GB.alloc (by assumption) _))
        (first
          | (refine step_app _ (by rfl) _ _ 32 (by rfl) wr.heap.size 3 i0 (.int .i64 0) 8 hun hi0 hz0 hz1 hz2 rfl _ 1 [.int .i64 (k : Nat)] (by rfl) ((owns_built wr (.int .i64 (k : Nat)) _).drew) _ (intL az) (by rfl) HSRC.out HONE.out HMAX.out HM8.out hsz ?_; intro v2 w2 ho2 hg2; obtain ⟨co, cn, cc, rfl⟩ := o_slice ho2; have ha2 := after_own2 (undrew hg2); have HA2 := Lib.hid ha2; have HO2 := Lib.hid ho2; have hb2 : GB wr rb w2 := GB.after ha2 rb; clear ho2 hg2 ha2)
          | (go_at_call 53; refine (HCALL.out _ _ _ _ (by rw [HNL.out]; exact HL2.out) HL3.out HO2.out HA2.out).mono ?_; rintro e w3 ⟨hg3, rfl⟩; have hb3 : GB wr rb w3 := GB.trans hb2 hg3))
      all_goals
        go_wp2_with fail
        go_ret2
        exact ⟨GB.trans HG.out hb3, by rw [HN.out]; rfl⟩
    | some p =>
      obtain ⟨x, s'⟩ := p
      have hx := hruns.small _ _ hev
      rw [hev] at hcall hstep
      have HCALL := Lib.hid hcall
      by_cases hx0 : x = 0
      · subst hx0
        have HN := Lib.hid (show R = some (k, s') from HE.out.trans hstep)
        clear hcall hsrc hl2 hl3 hstep hmax hm8 hev hruns hx
        go_wp2_with fail
        go_region_held3 (fun W' => GB wr rb W') (first | assumption | exact hself.drew | exact GB.drew (by assumption) | exact GB.alloc (by assumption) _ | exact GB.drew (GB.alloc (by assumption) _))
          (first
            | (refine step_app _ (by rfl) _ _ 32 (by rfl) wr.heap.size 3 i0 (.int .i64 0) 8 hun hi0 hz0 hz1 hz2 rfl _ 1 [.int .i64 (k : Nat)] (by rfl) ((owns_built wr (.int .i64 (k : Nat)) _).drew) _ (intL az) (by rfl) HSRC.out HONE.out HMAX.out HM8.out hsz ?_; intro v2 w2 ho2 hg2; obtain ⟨co, cn, cc, rfl⟩ := o_slice ho2; have ha2 := after_own2 (undrew hg2); have HA2 := Lib.hid ha2; have HO2 := Lib.hid ho2; have hb2 : GB wr rb w2 := GB.after ha2 rb; clear ho2 hg2 ha2)
            | (go_at_call 53; refine (HCALL.out _ _ _ _ (by rw [HNL.out]; exact HL2.out) HL3.out HO2.out HA2.out).mono ?_; rintro e w3 ⟨hg3, rfl, hs3⟩; have hb3 : GB wr rb w3 := GB.trans hb2 hg3; have HS3 := Lib.hid hs3; clear hs3))
        all_goals
          go_wp2_with fail
          go_ret2
          exact ⟨GB.trans HG.out hb3, by rw [HN.out]; exact ⟨rfl, HS3.out⟩⟩
      · have HN := Lib.hid (show R = FT.loopM (FT.ev f) az (2001 - (k + 1)) (k + 1) s' from (HE.out.trans hstep).trans (if_neg hx0))
        have hxi : ((x : Int) == 0) = false := by rw [beq_eq_false_iff_ne]; omega
        clear hcall hsrc hl2 hl3 hstep hmax hm8 hev hruns
        go_wp2_with fail
        go_region_held3 (fun W' => GB wr rb W') (first | assumption | exact hself.drew | exact GB.drew (by assumption) | exact GB.alloc (by assumption) _ | exact GB.drew (GB.alloc (by assumption) _))
          (first
            | (refine step_app _ (by rfl) _ _ 32 (by rfl) wr.heap.size 3 i0 (.int .i64 0) 8 hun hi0 hz0 hz1 hz2 rfl _ 1 [.int .i64 (k : Nat)] (by rfl) ((owns_built wr (.int .i64 (k : Nat)) _).drew) _ (intL az) (by rfl) HSRC.out HONE.out HMAX.out HM8.out hsz ?_; intro v2 w2 ho2 hg2; obtain ⟨co, cn, cc, rfl⟩ := o_slice ho2; have ha2 := after_own2 (undrew hg2); have HA2 := Lib.hid ha2; have HO2 := Lib.hid ho2; have hb2 : GB wr rb w2 := GB.after ha2 rb; clear ho2 hg2 ha2)
            | (go_at_call 53; refine (HCALL.out _ _ _ _ (by rw [HNL.out]; exact HL2.out) HL3.out HO2.out HA2.out).mono ?_; rintro e w3 ⟨hg3, rfl, hs3⟩; have hb3 : GB wr rb w3 := GB.trans hb2 hg3; have HS3 := Lib.hid hs3; clear hs3))
        all_goals
          go_wp2_with fail
          go_roundw
          case rel => exact ⟨k + 1, s', by go_num, by omega, by omega, HN.out, HS3.out, GB.trans HG.out hb3⟩
          case measure => simp [intOf]; omega
end Go.Proofs.Ytjomocjlnjgkeaa
