/-
  The closures of search and recursion.
-/
import Derived.Test.YtjomocjlnjgkeaaGreatPkBK
namespace Go.Proofs.YtjomocjlnjgkeaaGreat
open Go.RowKit

set_option maxHeartbeats 2000000
set_option maxRecDepth 100000

/-- Behind wr, but for block rb. -/
def GB (wr : World) (rb : Nat) (W : World) : Prop := wr.grownBy W (some rb)
theorem GB.refl (w : World) (rb : Nat) : GB w rb w := World.grownBy.refl _ _
theorem GB.drew {w W : World} {rb : Nat} (h : GB w rb W) : GB w rb W.drew := ⟨h.os, h.tape, h.output, h.size, h.block⟩
theorem GB.alloc {w W : World} {rb : Nat} (h : GB w rb W) (o : Obj) : GB w rb (W.alloc o) := grown_trans h (grown_alloc W rb o)
theorem GB.after {w W : World} (h : After w W) (rb : Nat) : GB w rb W := after_grown rb h
theorem GB.trans {w W W' : World} {rb : Nat} (h : GB w rb W) (g : GB W rb W') : GB w rb W' := grown_trans h g

theorem row_call {w0 : World} {S : Nat} {f : FT} {pf : Value} (ih : RK w0 S f) (hf : CV w0 S f pf) (wr : World) (rb s : Nat) (hA : Agree w0 wr S) (hr : w0.heap.size ≤ rb) (hs : Steps wr rb s) (hs2 : s ≤ 2000) (xs : List Nat) (hl : xs.length = FT.arity f) (hx : ∀ a ∈ xs, a ≤ 10000)
    (W : World) (v : Value) (n : Nat) (vs : List Value) (hn : n = xs.length) (hvs : vs = intL xs) (ho : W.ownsRow wr.heap.size 3 1 v n vs) (ha : After wr W) : Calls Tryz.prog 38 #[pf, ptr rb, v] W (ReckPost W rb (FT.ev f xs s)) := by
  have hrb : rb < wr.heap.size := (Array.getElem?_eq_some_iff.1 hs).1
  exact ih W rb s pf v xs hf (hA.after ha) hr (hs.after ha) hs2 (ints_own xs hn hvs ho hrb) hl hx

theorem src_ints {w W : World} {rb : Nat} {sv : Value} {az : List Nat} (h : IntsV w rb sv az) (ha : After w W) : SrcOk W sv (intL az) := by
  rcases h with ⟨rfl, ao, cap, rfl⟩ | ⟨b, o, cap, rfl, hl, hne, hb, hc⟩
  · exact Or.inl ⟨rfl, ao, cap, rfl⟩
  · by_cases h0 : az.length = 0
    · exact Or.inl ⟨by rw [List.length_eq_zero_iff.1 h0]; rfl, _, _, by rw [h0]⟩
    · refine Or.inr ⟨_, _, _, rfl, by omega, by simp [intL], fun j u hu => ?_⟩
      have hj : j < az.length := by have := (List.getElem?_eq_some_iff.1 hu).1; simpa [intL] using this
      rw [add_plain', ha.cell (hc j hj)]
      simp [intL, List.getElem?_map, List.getElem?_eq_getElem hj] at hu
      simp [← hu, List.getD_eq_getElem?_getD, List.getElem?_eq_getElem hj]

theorem one_ints (az : List Nat) : ∀ u ∈ intL az, u.oneCell' = true := fun u hu => by obtain ⟨x, _, rfl⟩ := List.mem_map.1 hu; rfl

theorem owns_two (W : World) (v u : Value) (T : TypeId) : (W.alloc (.cells #[v, u] T)).ownsRow W.heap.size T 1 (.slice (some ⟨W.heap.size, 0, none⟩) 2 2) 2 [v, u] := by
  refine ⟨rfl, Or.inr ⟨W.heap.size, 2, #[v, u], rfl, Nat.le_refl _, ?_, Nat.le_refl _, by unfold maxLen; omega, rfl, rfl⟩⟩
  show (W.heap.push _)[_]? = _
  simp

theorem loopM_step (f : FT) (az : List Nat) (k s : Nat) (hk : k ≤ 2000) : FT.loopM (FT.ev f) az (2001 - k) k s = match FT.ev f (k :: az) s with
    | none => none
    | some (v, s') => if v = 0 then some (k, s') else FT.loopM (FT.ev f) az (2001 - (k + 1)) (k + 1) s' := by
  rw [show 2001 - k = (2001 - (k + 1)) + 1 by omega]
  rfl

theorem clo_sea (w0 : World) (S : Nat) (f : FT) (pf : Value) (q1 : Nat) (hf : CV w0 S f pf) (h1 : w0.heap[q1]? = some (.cells #[pf] 55 (0, 0))) (b1 : S ≤ q1) (ihf : RK w0 S f) (h0 : 0 < FT.arity f) (h3 : FT.arity f ≤ 3)
    (w : World) (rb s : Nat) (sv : Value) (az : List Nat) (hA : Agree w0 w S) (hr : w0.heap.size ≤ rb) (hs : Steps w rb s) (hs2 : s ≤ 2000) (hv : IntsV w rb sv az) (hl : az.length = FT.arity (.m f)) (ha : ∀ a ∈ az, a ≤ 10000) :
    Calls Tryz.prog 134 #[ptr rb, sv, ptr q1] w (ReckPost w rb (FT.loopM (FT.ev f) az 2001 0 s)) := by
  have c1 : ∀ w', GB w rb w' → w'.cell? ⟨q1, 0, none⟩ = some pf := fun w' hg => cell_of_heap (i := 0) ((hA.grown hg hr).heap b1 h1)
  obtain ⟨ao, cap, rfl⟩ := hv.form
  obtain ⟨bf, Tf, xf, vf, rfl, _⟩ := hf.fields
  obtain ⟨R, hR⟩ : ∃ R, R = FT.loopM (FT.ev f) az 2001 0 s := ⟨_, rfl⟩
  rw [← hR]
  have hlf : az.length + 1 = FT.arity f := by simp only [FT.arity] at hl; omega
  obtain ⟨m, hm⟩ : ∃ m, m = az.length := ⟨_, rfl⟩
  rw [← hm] at hlf ⊢
  have hm2 : m ≤ 2 := by omega
  have hv' : IntsV w rb (.slice ao m cap) az := by rw [hm]; exact hv
  have hun : Tryz.prog.underlying 30 = some (.slice 3) := by kernel_rfl
  obtain ⟨i0, hi0, hz0, hz1, hz2⟩ : ∃ i, (Tryz.prog).info? 3 = some i ∧ i.zero = some (.int .i64 0) ∧ i.size = 1 ∧ i.bytes = 8 := ⟨_, rfl, rfl, rfl, rfl⟩
  have hone := one_ints az
  have hnl : (intL az).length = m := by simp [intL, hm]
  have HM := Lib.hid hm
  have HLF := Lib.hid hlf
  have HR := Lib.hid hR
  have HF := Lib.hid hf
  have HIF := Lib.hid ihf
  have HA := Lib.hid hA
  have HV := Lib.hid hv'
  have HS := Lib.hid hs
  have HAZ := Lib.hid ha
  have HC := Lib.hid c1
  have HONE := Lib.hid hone
  have HNL := Lib.hid hnl
  clear hR hf ihf hA hv hv' hs ha hl h1 c1 hm hlf hone hnl
  go_enter Tryz.func134, Tryz.ntmps134
  go_wp2_with fail
  go_loopw [7] (fun n wr => ∃ (k sk : Nat), n = .int .i64 k ∧ k ≤ sk ∧ sk ≤ 2000 ∧ Hid (R = FT.loopM (FT.ev f) az (2001 - k) k sk) ∧ Hid (Steps wr rb sk) ∧ Hid (w.grownBy wr (some rb))) (fun n _ => 2001 - (intOf n).toNat)
  case atStart => exact ⟨0, s, rfl, by omega, hs2, HR.out, HS.out, World.grownBy.refl _ _⟩
  case round =>
    obtain ⟨k, sk, rfl, hks, hsk, HE, HST, HG⟩ := hrel
    have hself := GB.refl wr rb
    have c1 : ∀ W, GB wr rb W → W.cell? ⟨q1, 0, none⟩ = some (ptr bf) := fun W hW => HC.out W (GB.trans HG.out hW)
    have hcall := row_call HIF.out HF.out wr rb sk (HA.out.grown HG.out hr) hr HST.out hsk (k :: az) (by rw [List.length_cons, ← HM.out]; exact HLF.out) (fun a h => by
      rcases List.mem_cons.1 h with rfl | h
      · omega
      · exact HAZ.out a h)
    have hwr : After wr ((wr.alloc (.cells #[.int .i64 (k : Nat)] 3)).drew) := After.drew (After.new _ _)
    have hsrc := src_ints (HV.out.grown HG.out) hwr
    have hl2 : 1 + m = (k :: az).length := by rw [List.length_cons, ← HM.out]; omega
    have hl3 : [Value.int .i64 (k : Nat)] ++ intL az = intL (k :: az) := rfl
    have hstep := loopM_step f az k sk (by omega)
    have HSRC := Lib.hid hsrc
    have HL2 := Lib.hid hl2
    have HL3 := Lib.hid hl3
    have hsz : wr.heap.size ≤ ((wr.alloc (.cells #[.int .i64 (k : Nat)] 3)).drew).heap.size := hwr.size
    have hmax : 1 + (intL az).length ≤ maxLen := by rw [HNL.out]; unfold maxLen; omega
    have hm8 : (1 + (intL az).length) * 8 ≤ 140737488355328 := by rw [HNL.out]; omega
    have HMAX := Lib.hid hmax
    have HM8 := Lib.hid hm8
    have hruns := FT.ev_runs f (k :: az) sk
    cases hev : FT.ev f (k :: az) sk with
    | none =>
      rw [hev] at hcall hstep
      have HCALL := Lib.hid hcall
      have HN := Lib.hid (show R = none from HE.out.trans hstep)
      clear hcall hsrc hl2 hl3 hstep hmax hm8 hev hruns
      go_wp2_with fail
      go_region_held3 (fun W' => GB wr rb W') (first | assumption | exact hself.drew | exact GB.drew (by assumption) | exact GB.alloc (by assumption) _ | exact GB.drew (GB.alloc (by assumption) _))
        (first
          | (refine step_app _ (by rfl) _ _ 30 (by rfl) wr.heap.size 3 i0 (.int .i64 0) 8 hun hi0 hz0 hz1 hz2 rfl _ 1 [.int .i64 (k : Nat)] (by rfl) ((owns_built wr (.int .i64 (k : Nat)) _).drew) _ (intL az) (by rfl) HSRC.out HONE.out HMAX.out HM8.out hsz ?_; intro v2 w2 ho2 hg2; obtain ⟨co, cn, cc, rfl⟩ := o_slice ho2; have ha2 := after_own2 (undrew hg2); have HA2 := Lib.hid ha2; have HO2 := Lib.hid ho2; have hb2 : GB wr rb w2 := GB.after ha2 rb; clear ho2 hg2 ha2)
          | (go_at_call 38; refine (HCALL.out _ _ _ _ (by rw [HNL.out]; exact HL2.out) HL3.out HO2.out HA2.out).mono ?_; rintro e w3 ⟨hg3, rfl⟩; have hb3 : GB wr rb w3 := GB.trans hb2 hg3))
      all_goals
        go_wp2_with fail
        go_ret2
        exact ⟨GB.trans HG.out hb3, by rw [HN.out]; rfl⟩
    | some p =>
      obtain ⟨x, s'⟩ := p
      have hx := hruns.small _ _ hev
      rw [hev] at hcall hstep
      have HCALL := Lib.hid hcall
      by_cases hx0 : x = 0
      · subst hx0
        have HN := Lib.hid (show R = some (k, s') from HE.out.trans hstep)
        clear hcall hsrc hl2 hl3 hstep hmax hm8 hev hruns hx
        go_wp2_with fail
        go_region_held3 (fun W' => GB wr rb W') (first | assumption | exact hself.drew | exact GB.drew (by assumption) | exact GB.alloc (by assumption) _ | exact GB.drew (GB.alloc (by assumption) _))
          (first
            | (refine step_app _ (by rfl) _ _ 30 (by rfl) wr.heap.size 3 i0 (.int .i64 0) 8 hun hi0 hz0 hz1 hz2 rfl _ 1 [.int .i64 (k : Nat)] (by rfl) ((owns_built wr (.int .i64 (k : Nat)) _).drew) _ (intL az) (by rfl) HSRC.out HONE.out HMAX.out HM8.out hsz ?_; intro v2 w2 ho2 hg2; obtain ⟨co, cn, cc, rfl⟩ := o_slice ho2; have ha2 := after_own2 (undrew hg2); have HA2 := Lib.hid ha2; have HO2 := Lib.hid ho2; have hb2 : GB wr rb w2 := GB.after ha2 rb; clear ho2 hg2 ha2)
            | (go_at_call 38; refine (HCALL.out _ _ _ _ (by rw [HNL.out]; exact HL2.out) HL3.out HO2.out HA2.out).mono ?_; rintro e w3 ⟨hg3, rfl, hs3⟩; have hb3 : GB wr rb w3 := GB.trans hb2 hg3; have HS3 := Lib.hid hs3; clear hs3))
        all_goals
          go_wp2_with fail
          go_ret2
          exact ⟨GB.trans HG.out hb3, by rw [HN.out]; exact ⟨rfl, HS3.out⟩⟩
      · have HN := Lib.hid (show R = FT.loopM (FT.ev f) az (2001 - (k + 1)) (k + 1) s' from (HE.out.trans hstep).trans (if_neg hx0))
        have hxi : ((x : Int) == 0) = false := by rw [beq_eq_false_iff_ne]; omega
        clear hcall hsrc hl2 hl3 hstep hmax hm8 hev hruns
        go_wp2_with fail
        go_region_held3 (fun W' => GB wr rb W') (first | assumption | exact hself.drew | exact GB.drew (by assumption) | exact GB.alloc (by assumption) _ | exact GB.drew (GB.alloc (by assumption) _))
          (first
            | (refine step_app _ (by rfl) _ _ 30 (by rfl) wr.heap.size 3 i0 (.int .i64 0) 8 hun hi0 hz0 hz1 hz2 rfl _ 1 [.int .i64 (k : Nat)] (by rfl) ((owns_built wr (.int .i64 (k : Nat)) _).drew) _ (intL az) (by rfl) HSRC.out HONE.out HMAX.out HM8.out hsz ?_; intro v2 w2 ho2 hg2; obtain ⟨co, cn, cc, rfl⟩ := o_slice ho2; have ha2 := after_own2 (undrew hg2); have HA2 := Lib.hid ha2; have HO2 := Lib.hid ho2; have hb2 : GB wr rb w2 := GB.after ha2 rb; clear ho2 hg2 ha2)
            | (go_at_call 38; refine (HCALL.out _ _ _ _ (by rw [HNL.out]; exact HL2.out) HL3.out HO2.out HA2.out).mono ?_; rintro e w3 ⟨hg3, rfl, hs3⟩; have hb3 : GB wr rb w3 := GB.trans hb2 hg3; have HS3 := Lib.hid hs3; clear hs3))
        all_goals
          go_wp2_with fail
          go_roundw
          case rel => exact ⟨k + 1, s', by go_num, by omega, by omega, HN.out, HS3.out, GB.trans HG.out hb3⟩
          case measure => simp [intOf]; omega
end Go.Proofs.YtjomocjlnjgkeaaGreat

namespace Go.Proofs.YtjomocjlnjgkeaaGreat
open Go.RowKit

set_option maxHeartbeats 2000000
set_option maxRecDepth 100000

def evRec (f g : FT) (az : List Nat) (s : Nat) : Option (Nat × Nat) := match FT.ev f az.tail s with
  | none => none
  | some (v, s1) => FT.loopR (FT.ev g) az.tail (az.headD 0) 0 v s1

theorem evRec_small {f g : FT} {az : List Nat} {s : Nat} : ∀ v s', evRec f g az s = some (v, s') → v ≤ 100000 := by
  intro v s' h
  unfold evRec at h
  cases he : FT.ev f az.tail s with
  | none => rw [he] at h; simp at h
  | some p =>
    obtain ⟨x, s1⟩ := p
    rw [he] at h
    have h1 := (FT.ev_runs f az.tail s).small _ _ he
    have := (FT.loopR_facts (FT.ev_runs g) az.tail _ _ _ _ _ _ h1.1 h1.2.2 h).1
    omega

theorem loopR_step (g : FT) (rest : List Nat) (n0 k v s : Nat) (hk : k < n0) : FT.loopR (FT.ev g) rest (n0 - k) k v s = match FT.ev g (k :: v :: rest) s with
    | none => none
    | some (v', s') => FT.loopR (FT.ev g) rest (n0 - (k + 1)) (k + 1) v' s' := by
  rw [show n0 - k = (n0 - (k + 1)) + 1 by omega]
  rfl

/-- What lies behind the first number. -/
theorem IntsV.rest {w : World} {rb b o n cap x : Nat} {rest : List Nat} (h : IntsV w rb (.slice (some ⟨b, o, none⟩) n cap) (x :: rest)) : IntsV w rb (.slice (some ⟨b, o + 1, none⟩) rest.length (cap - 1)) rest := by
  rcases h with ⟨h, _⟩ | ⟨b', o', cap', hv, hl, hne, hb, hc⟩
  · cases h
  · injection hv with e1 e2 e3
    injection e1 with e1
    injection e1 with e1 e4
    subst e1
    subst e4
    subst e3
    refine Or.inr ⟨b, o + 1, cap - 1, rfl, by simp at hl; omega, hne, hb, fun j hj => ?_⟩
    have := hc (j + 1) (by simp; omega)
    rw [show o + 1 + j = o + (j + 1) by omega, this]
    rfl

theorem clo_rec_at (w0 : World) (S : Nat) (f g : FT) (pf pg : Value) (q1 q2 : Nat) (hf : CV w0 S f pf) (hg : CV w0 S g pg) (h1 : w0.heap[q1]? = some (.cells #[pf] 55 (0, 0))) (b1 : S ≤ q1) (h2 : w0.heap[q2]? = some (.cells #[pg] 55 (0, 0))) (b2 : S ≤ q2)
    (ihf : RK w0 S f) (ihg : RK w0 S g) (hgf : FT.arity g = FT.arity f + 2) (h3 : FT.arity g ≤ 3)
    (w : World) (rb s : Nat) (b o cap n0 : Nat) (rest : List Nat) (sv2 : Value) (hA : Agree w0 w S) (hr : w0.heap.size ≤ rb) (hs : Steps w rb s) (hs2 : s ≤ 2000) (hv : IntsV w rb (.slice (some ⟨b, o, none⟩) (rest.length + 1) cap) (n0 :: rest)) (hl : rest.length = FT.arity f) (ha : ∀ a ∈ n0 :: rest, a ≤ 10000)
    (hmc0 : rest.length + 1 ≤ cap) (hsv2 : (cap = 1 ∧ sv2 = .slice (some ⟨b, o, none⟩) rest.length 0) ∨ (¬ cap = 1 ∧ sv2 = .slice (some ⟨b, o + 1, none⟩) rest.length (cap - 1))) (hiv2 : IntsV w rb sv2 rest) :
    Calls Tryz.prog 132 #[ptr rb, .slice (some ⟨b, o, none⟩) (rest.length + 1) cap, ptr q1, ptr q2] w (ReckPost w rb (evRec f g (n0 :: rest) s)) := by
  have c1 : w.cell? ⟨q1, 0, none⟩ = some pf := cell_of_heap (i := 0) (hA.heap b1 h1)
  have c2 : ∀ w', GB w rb w' → w'.cell? ⟨q2, 0, none⟩ = some pg := fun w' hg => cell_of_heap (i := 0) ((hA.grown hg hr).heap b2 h2)
  have cn : ∀ w', GB w rb w' → w'.cell? ⟨b, o, none⟩ = some (.int .i64 (n0 : Nat)) := fun w' hg => by
    rcases IntsV.grown hv hg with ⟨h, _⟩ | ⟨b', o', cap', hv, hl, hne, hb, hc⟩
    · cases h
    · injection hv with e1 e2 e3
      injection e1 with e1
      injection e1 with e1 e4
      subst e1
      subst e4
      exact hc 0 (by simp)
  obtain ⟨bf, Tf, xf, vf, rfl, _⟩ := hf.fields
  obtain ⟨bg, Tg, xg, vg, rfl, _⟩ := hg.fields
  obtain ⟨R, hR⟩ : ∃ R, R = evRec f g (n0 :: rest) s := ⟨_, rfl⟩
  rw [← hR]
  have hk1 := ihf w rb s _ sv2 rest hf hA hr hs hs2 hiv2 hl (fun a h => ha a (by simp [h]))
  have hn0 : n0 ≤ 10000 := ha n0 (by simp)
  obtain ⟨m, hm⟩ : ∃ m, m = rest.length := ⟨_, rfl⟩
  have hlg : m + 2 = FT.arity g := by omega
  have hm1 : m ≤ 1 := by omega
  have hfr := FT.ev_runs f rest s
  have hRe : R = match FT.ev f rest s with | none => none | some (v, s1) => FT.loopR (FT.ev g) rest n0 0 v s1 := hR
  have hun : Tryz.prog.underlying 30 = some (.slice 3) := by kernel_rfl
  obtain ⟨i0, hi0, hz0, hz1, hz2⟩ : ∃ i, (Tryz.prog).info? 3 = some i ∧ i.zero = some (.int .i64 0) ∧ i.size = 1 ∧ i.bytes = 8 := ⟨_, rfl, rfl, rfl, rfl⟩
  have hone := one_ints rest
  have hnl : (intL rest).length = m := by simp [intL, hm]
  have hmc : m + 1 ≤ cap := by omega
  clear hmc0
  rw [← hm] at hsv2 ⊢
  have HM := Lib.hid hm
  have HLG := Lib.hid hlg
  have HRE := Lib.hid hRe
  have HG := Lib.hid hg
  have HIG := Lib.hid ihg
  have HA := Lib.hid hA
  have HV := Lib.hid hiv2
  have HS := Lib.hid hs
  have HAZ := Lib.hid ha
  have HC2 := Lib.hid c2
  have HCN := Lib.hid cn
  have HONE := Lib.hid hone
  have HNL := Lib.hid hnl
  clear hR hRe hf hg ihf ihg hA hv hs ha hl h1 h2 c2 cn hm hlg hone hnl hgf h3 hiv2
  have hmi : (1 : Int) ≤ (m : Int) + 1 := by omega
  rcases hsv2 with ⟨hc1, rfl⟩ | ⟨hc1, rfl⟩
  · have hm0 : m = 0 := by omega
    subst hm0
    subst hc1
    cases hef : FT.ev f rest s with
    | none =>
      rw [hef] at hk1
      have HN := Lib.hid (show R = none by rw [HRE.out, hef])
      clear hef hfr
      go_enter Tryz.func132, Tryz.ntmps132
      go_wp2_with fail
      refine hk1.mono ?_
      rintro e w1 ⟨hg1, rfl⟩
      clear hk1 c1
      have HG1 := Lib.hid hg1
      clear hg1
      go_wp2_with fail
      go_loopw [9, 10, 11] (fun vl okv n wr => vl = .int .i64 0 ∧ okv = .bool false ∧ n = .int .i64 0 ∧ Hid (w.grownBy wr (some rb))) (fun _ _ _ _ => 0)
      case atStart => exact ⟨rfl, rfl, rfl, HG1.out⟩
      case round =>
        obtain ⟨rfl, rfl, rfl, HGR⟩ := hrel
        go_wp2_with fail
        go_ret2
        exact ⟨HGR.out, by rw [HN.out]; rfl⟩
    | some p =>
      obtain ⟨v1, s1⟩ := p
      have hr1 := hfr.small _ _ hef
      rw [hef] at hk1
      have HN := Lib.hid (show R = FT.loopR (FT.ev g) rest n0 0 v1 s1 by rw [HRE.out, hef])
      clear hef hfr
      go_enter Tryz.func132, Tryz.ntmps132
      go_wp2_with fail
      refine hk1.mono ?_
      rintro e w1 ⟨hg1, rfl, hs1⟩
      clear hk1 c1
      have HG1 := Lib.hid hg1
      have HS1 := Lib.hid hs1
      clear hg1 hs1
      go_wp2_with fail
      go_loopw [9, 10, 11] (fun vl okv n wr => ∃ (k : Nat) (v : Nat) (okb : Bool), vl = .int .i64 v ∧ okv = .bool okb ∧ n = .int .i64 k ∧ k ≤ n0 ∧ v ≤ 1000 ∧ Hid (w.grownBy wr (some rb)) ∧ Hid (okb = false → v = 0 ∧ R = none) ∧ Hid (okb = true → ∃ sk, sk ≤ 2000 ∧ R = FT.loopR (FT.ev g) rest (n0 - k) k v sk ∧ Steps wr rb sk)) (fun _ _ n _ => n0 - (intOf n).toNat)
      case atStart => exact ⟨0, v1, true, rfl, rfl, rfl, by omega, hr1.1, HG1.out, (fun h => by cases h), fun _ => ⟨s1, hr1.2.2, HN.out, HS1.out⟩⟩
      case round =>
        obtain ⟨k, v, okb, rfl, rfl, rfl, hk, hvm, HGR, HF0, HT0⟩ := hrel
        cases okb with
        | false =>
          obtain ⟨hv0, hR0⟩ := HF0.out rfl
          have HN0 := Lib.hid hR0
          subst hv0
          clear hR0
          have cnr := HCN.out wr HGR.out
          go_wp2_with fail
          go_ret2
          exact ⟨HGR.out, by rw [HN0.out]; rfl⟩
        | true =>
          obtain ⟨sk, hsk, hRk, hsts⟩ := HT0.out rfl
          have HRK := Lib.hid hRk
          have HST := Lib.hid hsts
          clear hRk hsts
          have cnr := HCN.out wr HGR.out
          by_cases hlt : k < n0
          · have hself := GB.refl wr rb
            have c2r : ∀ W, GB wr rb W → W.cell? ⟨q2, 0, none⟩ = some (ptr bg) := fun W hW => HC2.out W (GB.trans HGR.out hW)
            have hltI : (k : Int) < (n0 : Int) := by omega
            have hcall := row_call HIG.out HG.out wr rb sk (HA.out.grown HGR.out hr) hr HST.out hsk (k :: v :: rest) (by simp only [List.length_cons, ← HM.out]; exact HLG.out) (fun a h => by
              rcases List.mem_cons.1 h with rfl | h
              · omega
              · rcases List.mem_cons.1 h with rfl | h
                · omega
                · exact HAZ.out a (List.mem_cons_of_mem _ h))
            have hwr : After wr ((wr.alloc (.cells #[.int .i64 (k : Nat), .int .i64 (v : Nat)] 3)).drew) := After.drew (After.new _ _)
            have hsrc := src_ints (HV.out.grown HGR.out) hwr
            have hl2 : 2 + (intL rest).length = (k :: v :: rest).length := by simp only [intL, List.length_map, List.length_cons]; omega
            have hl3 : [Value.int .i64 (k : Nat), Value.int .i64 (v : Nat)] ++ intL rest = intL (k :: v :: rest) := rfl
            have hstep := loopR_step g rest n0 k v sk hlt
            have hmax : 2 + (intL rest).length ≤ maxLen := by rw [HNL.out]; unfold maxLen; omega
            have hm8 : (2 + (intL rest).length) * 8 ≤ 140737488355328 := by rw [HNL.out]; omega
            have hsz : wr.heap.size ≤ ((wr.alloc (.cells #[.int .i64 (k : Nat), .int .i64 (v : Nat)] 3)).drew).heap.size := hwr.size
            have HSRC := Lib.hid hsrc
            have HL2 := Lib.hid hl2
            have HL3 := Lib.hid hl3
            have HMAX := Lib.hid hmax
            have HM8 := Lib.hid hm8
            have hruns := FT.ev_runs g (k :: v :: rest) sk
            cases hev : FT.ev g (k :: v :: rest) sk with
            | none =>
              rw [hev] at hcall hstep
              have HCALL := Lib.hid hcall
              have HN0 := Lib.hid (show R = none from HRK.out.trans hstep)
              clear hcall hsrc hl2 hl3 hstep hmax hm8 hev hruns
              go_wp2_with fail
              go_region_held3 (fun W' => GB wr rb W') (first | assumption | exact hself.drew | exact GB.drew (by assumption) | exact GB.alloc (by assumption) _ | exact GB.drew (GB.alloc (by assumption) _))
                (first
                  | (refine step_app _ (by rfl) _ _ 30 (by rfl) wr.heap.size 3 i0 (.int .i64 0) 8 hun hi0 hz0 hz1 hz2 rfl _ 2 [.int .i64 (k : Nat), .int .i64 (v : Nat)] (by rfl) ((owns_two wr (.int .i64 (k : Nat)) (.int .i64 (v : Nat)) _).drew) _ (intL rest) (by rfl) HSRC.out HONE.out HMAX.out HM8.out hsz ?_; intro v2 w2 ho2 hg2; obtain ⟨co, cn, cc, rfl⟩ := o_slice ho2; have ha2 := after_own2 (undrew hg2); have HA2 := Lib.hid ha2; have HO2 := Lib.hid ho2; have hb2 : GB wr rb w2 := GB.after ha2 rb; clear ho2 hg2 ha2)
                  | (go_at_call 38; refine (HCALL.out _ _ _ _ HL2.out HL3.out HO2.out HA2.out).mono ?_; rintro e w3 ⟨hg3, rfl⟩; have hb3 : GB wr rb w3 := GB.trans hb2 hg3))
              all_goals
                go_wp2_with fail
                go_roundw
                case rel => exact ⟨k + 1, 0, false, rfl, rfl, by go_num, by omega, by omega, GB.trans HGR.out hb3, (fun _ => ⟨rfl, HN0.out⟩), fun h => by cases h⟩
                case measure => simp [intOf]; omega
            | some p =>
              obtain ⟨x, s'⟩ := p
              have hx := hruns.small _ _ hev
              rw [hev] at hcall hstep
              have HCALL := Lib.hid hcall
              have HN0 := Lib.hid (show R = FT.loopR (FT.ev g) rest (n0 - (k + 1)) (k + 1) x s' from HRK.out.trans hstep)
              clear hcall hsrc hl2 hl3 hstep hmax hm8 hev hruns
              go_wp2_with fail
              go_region_held3 (fun W' => GB wr rb W') (first | assumption | exact hself.drew | exact GB.drew (by assumption) | exact GB.alloc (by assumption) _ | exact GB.drew (GB.alloc (by assumption) _))
                (first
                  | (refine step_app _ (by rfl) _ _ 30 (by rfl) wr.heap.size 3 i0 (.int .i64 0) 8 hun hi0 hz0 hz1 hz2 rfl _ 2 [.int .i64 (k : Nat), .int .i64 (v : Nat)] (by rfl) ((owns_two wr (.int .i64 (k : Nat)) (.int .i64 (v : Nat)) _).drew) _ (intL rest) (by rfl) HSRC.out HONE.out HMAX.out HM8.out hsz ?_; intro v2 w2 ho2 hg2; obtain ⟨co, cn, cc, rfl⟩ := o_slice ho2; have ha2 := after_own2 (undrew hg2); have HA2 := Lib.hid ha2; have HO2 := Lib.hid ho2; have hb2 : GB wr rb w2 := GB.after ha2 rb; clear ho2 hg2 ha2)
                  | (go_at_call 38; refine (HCALL.out _ _ _ _ HL2.out HL3.out HO2.out HA2.out).mono ?_; rintro e w3 ⟨hg3, rfl, hs3⟩; have hb3 : GB wr rb w3 := GB.trans hb2 hg3; have HS3 := Lib.hid hs3; clear hs3))
              all_goals
                go_wp2_with fail
                go_roundw
                case rel => exact ⟨k + 1, x, true, rfl, rfl, by go_num, by omega, hx.1, GB.trans HGR.out hb3, (fun h => by cases h), fun _ => ⟨s', hx.2.2, HN0.out, HS3.out⟩⟩
                case measure => simp [intOf]; omega
          · obtain rfl : k = n0 := by omega
            have HN0 := Lib.hid (show R = some (v, sk) by rw [HRK.out, Nat.sub_self]; rfl)
            go_wp2_with fail
            go_ret2
            exact ⟨HGR.out, by rw [HN0.out]; exact ⟨rfl, HST.out⟩⟩
  · cases hef : FT.ev f rest s with
    | none =>
      rw [hef] at hk1
      have HN := Lib.hid (show R = none by rw [HRE.out, hef])
      clear hef hfr
      go_enter Tryz.func132, Tryz.ntmps132
      go_wp2_with fail
      refine hk1.mono ?_
      rintro e w1 ⟨hg1, rfl⟩
      clear hk1 c1
      have HG1 := Lib.hid hg1
      clear hg1
      go_wp2_with fail
      go_loopw [9, 10, 11] (fun vl okv n wr => vl = .int .i64 0 ∧ okv = .bool false ∧ n = .int .i64 0 ∧ Hid (w.grownBy wr (some rb))) (fun _ _ _ _ => 0)
      case atStart => exact ⟨rfl, rfl, rfl, HG1.out⟩
      case round =>
        obtain ⟨rfl, rfl, rfl, HGR⟩ := hrel
        go_wp2_with fail
        go_ret2
        exact ⟨HGR.out, by rw [HN.out]; rfl⟩
    | some p =>
      obtain ⟨v1, s1⟩ := p
      have hr1 := hfr.small _ _ hef
      rw [hef] at hk1
      have HN := Lib.hid (show R = FT.loopR (FT.ev g) rest n0 0 v1 s1 by rw [HRE.out, hef])
      clear hef hfr
      go_enter Tryz.func132, Tryz.ntmps132
      go_wp2_with fail
      refine hk1.mono ?_
      rintro e w1 ⟨hg1, rfl, hs1⟩
      clear hk1 c1
      have HG1 := Lib.hid hg1
      have HS1 := Lib.hid hs1
      clear hg1 hs1
      go_wp2_with fail
      go_loopw [9, 10, 11] (fun vl okv n wr => ∃ (k : Nat) (v : Nat) (okb : Bool), vl = .int .i64 v ∧ okv = .bool okb ∧ n = .int .i64 k ∧ k ≤ n0 ∧ v ≤ 1000 ∧ Hid (w.grownBy wr (some rb)) ∧ Hid (okb = false → v = 0 ∧ R = none) ∧ Hid (okb = true → ∃ sk, sk ≤ 2000 ∧ R = FT.loopR (FT.ev g) rest (n0 - k) k v sk ∧ Steps wr rb sk)) (fun _ _ n _ => n0 - (intOf n).toNat)
      case atStart => exact ⟨0, v1, true, rfl, rfl, rfl, by omega, hr1.1, HG1.out, (fun h => by cases h), fun _ => ⟨s1, hr1.2.2, HN.out, HS1.out⟩⟩
      case round =>
        obtain ⟨k, v, okb, rfl, rfl, rfl, hk, hvm, HGR, HF0, HT0⟩ := hrel
        cases okb with
        | false =>
          obtain ⟨hv0, hR0⟩ := HF0.out rfl
          have HN0 := Lib.hid hR0
          subst hv0
          clear hR0
          have cnr := HCN.out wr HGR.out
          go_wp2_with fail
          go_ret2
          exact ⟨HGR.out, by rw [HN0.out]; rfl⟩
        | true =>
          obtain ⟨sk, hsk, hRk, hsts⟩ := HT0.out rfl
          have HRK := Lib.hid hRk
          have HST := Lib.hid hsts
          clear hRk hsts
          have cnr := HCN.out wr HGR.out
          by_cases hlt : k < n0
          · have hself := GB.refl wr rb
            have c2r : ∀ W, GB wr rb W → W.cell? ⟨q2, 0, none⟩ = some (ptr bg) := fun W hW => HC2.out W (GB.trans HGR.out hW)
            have hltI : (k : Int) < (n0 : Int) := by omega
            have hcall := row_call HIG.out HG.out wr rb sk (HA.out.grown HGR.out hr) hr HST.out hsk (k :: v :: rest) (by simp only [List.length_cons, ← HM.out]; exact HLG.out) (fun a h => by
              rcases List.mem_cons.1 h with rfl | h
              · omega
              · rcases List.mem_cons.1 h with rfl | h
                · omega
                · exact HAZ.out a (List.mem_cons_of_mem _ h))
            have hwr : After wr ((wr.alloc (.cells #[.int .i64 (k : Nat), .int .i64 (v : Nat)] 3)).drew) := After.drew (After.new _ _)
            have hsrc := src_ints (HV.out.grown HGR.out) hwr
            have hl2 : 2 + (intL rest).length = (k :: v :: rest).length := by simp only [intL, List.length_map, List.length_cons]; omega
            have hl3 : [Value.int .i64 (k : Nat), Value.int .i64 (v : Nat)] ++ intL rest = intL (k :: v :: rest) := rfl
            have hstep := loopR_step g rest n0 k v sk hlt
            have hmax : 2 + (intL rest).length ≤ maxLen := by rw [HNL.out]; unfold maxLen; omega
            have hm8 : (2 + (intL rest).length) * 8 ≤ 140737488355328 := by rw [HNL.out]; omega
            have hsz : wr.heap.size ≤ ((wr.alloc (.cells #[.int .i64 (k : Nat), .int .i64 (v : Nat)] 3)).drew).heap.size := hwr.size
            have HSRC := Lib.hid hsrc
            have HL2 := Lib.hid hl2
            have HL3 := Lib.hid hl3
            have HMAX := Lib.hid hmax
            have HM8 := Lib.hid hm8
            have hruns := FT.ev_runs g (k :: v :: rest) sk
            cases hev : FT.ev g (k :: v :: rest) sk with
            | none =>
              rw [hev] at hcall hstep
              have HCALL := Lib.hid hcall
              have HN0 := Lib.hid (show R = none from HRK.out.trans hstep)
              clear hcall hsrc hl2 hl3 hstep hmax hm8 hev hruns
              go_wp2_with fail
              go_region_held3 (fun W' => GB wr rb W') (first | assumption | exact hself.drew | exact GB.drew (by assumption) | exact GB.alloc (by assumption) _ | exact GB.drew (GB.alloc (by assumption) _))
                (first
                  | (refine step_app _ (by rfl) _ _ 30 (by rfl) wr.heap.size 3 i0 (.int .i64 0) 8 hun hi0 hz0 hz1 hz2 rfl _ 2 [.int .i64 (k : Nat), .int .i64 (v : Nat)] (by rfl) ((owns_two wr (.int .i64 (k : Nat)) (.int .i64 (v : Nat)) _).drew) _ (intL rest) (by rfl) HSRC.out HONE.out HMAX.out HM8.out hsz ?_; intro v2 w2 ho2 hg2; obtain ⟨co, cn, cc, rfl⟩ := o_slice ho2; have ha2 := after_own2 (undrew hg2); have HA2 := Lib.hid ha2; have HO2 := Lib.hid ho2; have hb2 : GB wr rb w2 := GB.after ha2 rb; clear ho2 hg2 ha2)
                  | (go_at_call 38; refine (HCALL.out _ _ _ _ HL2.out HL3.out HO2.out HA2.out).mono ?_; rintro e w3 ⟨hg3, rfl⟩; have hb3 : GB wr rb w3 := GB.trans hb2 hg3))
              all_goals
                go_wp2_with fail
                go_roundw
                case rel => exact ⟨k + 1, 0, false, rfl, rfl, by go_num, by omega, by omega, GB.trans HGR.out hb3, (fun _ => ⟨rfl, HN0.out⟩), fun h => by cases h⟩
                case measure => simp [intOf]; omega
            | some p =>
              obtain ⟨x, s'⟩ := p
              have hx := hruns.small _ _ hev
              rw [hev] at hcall hstep
              have HCALL := Lib.hid hcall
              have HN0 := Lib.hid (show R = FT.loopR (FT.ev g) rest (n0 - (k + 1)) (k + 1) x s' from HRK.out.trans hstep)
              clear hcall hsrc hl2 hl3 hstep hmax hm8 hev hruns
              go_wp2_with fail
              go_region_held3 (fun W' => GB wr rb W') (first | assumption | exact hself.drew | exact GB.drew (by assumption) | exact GB.alloc (by assumption) _ | exact GB.drew (GB.alloc (by assumption) _))
                (first
                  | (refine step_app _ (by rfl) _ _ 30 (by rfl) wr.heap.size 3 i0 (.int .i64 0) 8 hun hi0 hz0 hz1 hz2 rfl _ 2 [.int .i64 (k : Nat), .int .i64 (v : Nat)] (by rfl) ((owns_two wr (.int .i64 (k : Nat)) (.int .i64 (v : Nat)) _).drew) _ (intL rest) (by rfl) HSRC.out HONE.out HMAX.out HM8.out hsz ?_; intro v2 w2 ho2 hg2; obtain ⟨co, cn, cc, rfl⟩ := o_slice ho2; have ha2 := after_own2 (undrew hg2); have HA2 := Lib.hid ha2; have HO2 := Lib.hid ho2; have hb2 : GB wr rb w2 := GB.after ha2 rb; clear ho2 hg2 ha2)
                  | (go_at_call 38; refine (HCALL.out _ _ _ _ HL2.out HL3.out HO2.out HA2.out).mono ?_; rintro e w3 ⟨hg3, rfl, hs3⟩; have hb3 : GB wr rb w3 := GB.trans hb2 hg3; have HS3 := Lib.hid hs3; clear hs3))
              all_goals
                go_wp2_with fail
                go_roundw
                case rel => exact ⟨k + 1, x, true, rfl, rfl, by go_num, by omega, hx.1, GB.trans HGR.out hb3, (fun h => by cases h), fun _ => ⟨s', hx.2.2, HN0.out, HS3.out⟩⟩
                case measure => simp [intOf]; omega
          · obtain rfl : k = n0 := by omega
            have HN0 := Lib.hid (show R = some (v, sk) by rw [HRK.out, Nat.sub_self]; rfl)
            go_wp2_with fail
            go_ret2
            exact ⟨HGR.out, by rw [HN0.out]; exact ⟨rfl, HST.out⟩⟩

theorem clo_rec (w0 : World) (S : Nat) (f g : FT) (pf pg : Value) (q1 q2 : Nat) (hf : CV w0 S f pf) (hg : CV w0 S g pg) (h1 : w0.heap[q1]? = some (.cells #[pf] 55 (0, 0))) (b1 : S ≤ q1) (h2 : w0.heap[q2]? = some (.cells #[pg] 55 (0, 0))) (b2 : S ≤ q2)
    (ihf : RK w0 S f) (ihg : RK w0 S g) (hgf : FT.arity g = FT.arity f + 2) (h3 : FT.arity g ≤ 3)
    (w : World) (rb s : Nat) (sv : Value) (az : List Nat) (hA : Agree w0 w S) (hr : w0.heap.size ≤ rb) (hs : Steps w rb s) (hs2 : s ≤ 2000) (hv : IntsV w rb sv az) (hl : az.length = FT.arity (.r f g)) (ha : ∀ a ∈ az, a ≤ 10000) :
    Calls Tryz.prog 132 #[ptr rb, sv, ptr q1, ptr q2] w (ReckPost w rb (evRec f g az s)) := by
  match az, hl, hv, ha with
  | n0 :: rest, hl, hv, ha =>
    have hvc := hv
    rcases hv with ⟨h, _⟩ | ⟨b, o, cap, rfl, hle, hne, hb, hc⟩
    · cases h
    · have hrl : rest.length = FT.arity f := by simp only [FT.arity, List.length_cons] at hl; omega
      have hcap : rest.length + 1 ≤ cap := by simpa using hle
      by_cases hc1 : cap = 1
      · have hr0 : rest = [] := List.length_eq_zero_iff.1 (by omega)
        exact clo_rec_at w0 S f g pf pg q1 q2 hf hg h1 b1 h2 b2 ihf ihg hgf h3 w rb s b o cap n0 rest (.slice (some ⟨b, o, none⟩) rest.length 0) hA hr hs hs2 hvc hrl ha hcap (Or.inl ⟨hc1, rfl⟩) (Or.inl ⟨hr0, _, _, by rw [hr0]; rfl⟩)
      · exact clo_rec_at w0 S f g pf pg q1 q2 hf hg h1 b1 h2 b2 ihf ihg hgf h3 w rb s b o cap n0 rest _ hA hr hs hs2 hvc hrl ha hcap (Or.inr ⟨hc1, rfl⟩) (hvc.rest)
  | [], hl, _, _ => simp [FT.arity] at hl
end Go.Proofs.YtjomocjlnjgkeaaGreat

namespace Go.Proofs.YtjomocjlnjgkeaaGreat
open Go.RowKit

set_option maxHeartbeats 2000000
set_option maxRecDepth 100000

theorem evComp_one (f g : FT) (az : List Nat) (s : Nat) : evComp f [g] az s = match FT.ev g az s with | none => none | some (x, s1) => FT.ev f [x] s1 := by
  simp only [evComp, evAll]
  cases FT.ev g az s with
  | none => rfl
  | some p => rfl
theorem evComp_two (f g h : FT) (az : List Nat) (s : Nat) : evComp f [g, h] az s = match FT.ev g az s with | none => none | some (x, s1) => match FT.ev h az s1 with | none => none | some (y, s2) => FT.ev f [x, y] s2 := by
  simp only [evComp, evAll]
  cases FT.ev g az s with
  | none => rfl
  | some p =>
    obtain ⟨x, s1⟩ := p
    simp only
    cases FT.ev h az s1 with
    | none => rfl
    | some q => rfl
theorem evComp_three (f g h i : FT) (az : List Nat) (s : Nat) : evComp f [g, h, i] az s = match FT.ev g az s with | none => none | some (x, s1) => match FT.ev h az s1 with | none => none | some (y, s2) => match FT.ev i az s2 with | none => none | some (t, s3) => FT.ev f [x, y, t] s3 := by
  simp only [evComp, evAll]
  cases FT.ev g az s with
  | none => rfl
  | some p =>
    obtain ⟨x, s1⟩ := p
    simp only
    cases FT.ev h az s1 with
    | none => rfl
    | some q =>
      obtain ⟨y, s2⟩ := q
      simp only
      cases FT.ev i az s2 with
      | none => rfl
      | some r => rfl

theorem evComp_small {f : FT} {gs : List FT} {az : List Nat} {s : Nat} : ∀ v s', evComp f gs az s = some (v, s') → v ≤ 100000 := by
  intro v s' h
  unfold evComp at h
  cases he : evAll gs az s with
  | none => rw [he] at h; simp at h
  | some p =>
    obtain ⟨xs, s1⟩ := p
    rw [he] at h
    have := ((FT.ev_runs f xs s1).small _ _ h).1
    omega

theorem loopM_lt {f : List Nat → Nat → Option (Nat × Nat)} (rest : List Nat) : ∀ (k n s v' s' : Nat), FT.loopM f rest k n s = some (v', s') → v' < n + k
  | 0, _, _, _, _, h => by simp [FT.loopM] at h
  | k + 1, n, s, v', s', h => by
    simp only [FT.loopM] at h
    cases hq : f (n :: rest) s with
    | none => rw [hq] at h; simp at h
    | some q =>
      obtain ⟨a, b⟩ := q
      rw [hq] at h
      simp only at h
      split at h
      · simp only [Option.some.injEq, Prod.mk.injEq] at h
        obtain ⟨rfl, rfl⟩ := h
        omega
      · have := loopM_lt rest k (n + 1) b v' s' h
        omega

/-- What stands ahead of a closure. -/
theorem rk_ahead {w0 w : World} {S rb s b : Nat} {sv vf : Value} {az : List Nat} {t : FT} {vr : Value} (hA : Agree w0 w S) (hr : w0.heap.size ≤ rb) (hs : Steps w rb s) (hv : IntsV w rb sv az) (hb : S ≤ b)
    (hh : w0.heap[b]? = some (.cells #[.int .i64 (FT.arity t : Nat), .int .i64 (FT.size t : Nat), .bool (FT.total t), vr, vf] 60 (0, 0))) :
    ∃ W1, W1 = w.setCell ⟨rb, 0, none⟩ (.int .i64 ((s : Int) + 1)) ∧ Steps W1 rb (s + 1) ∧ Agree w0 W1 S ∧ IntsV W1 rb sv az ∧ W1.cell? ⟨b, 4, none⟩ = some vf := by
  have hg : w.grownBy (w.setCell ⟨rb, 0, none⟩ (.int .i64 ((s : Int) + 1))) (some rb) := grown_setx _ _ _ _
  have hA1 := hA.grown hg hr
  refine ⟨_, rfl, ?_, hA1, hv.grown hg, cell_of_heap (i := 4) (hA1.heap hb hh)⟩
  have := hs.set (s + 1)
  simpa using this

theorem rk_any : ∀ {g : FT}, FT.ok g → ∀ (w0 : World) (S : Nat), RK w0 S g := by
  intro g
  induction g with
  | z a =>
    intro _ w0 S w rb s v sv az hC hA hr hs hs2 hv hl ha
    obtain ⟨b, vr, vf, rfl, hb, hh, _, rfl⟩ := hC
    by_cases h2 : 2000 < s + 1
    · rw [show FT.ev (.z a) az s = none by simp only [FT.ev]; rw [if_pos h2]]
      exact reck_over w rb s _ sv ⟨_, rfl⟩ hs h2 (by omega)
    · obtain ⟨W1, hW1, hs1, hA1, hv1, c4⟩ := rk_ahead (t := .z a) hA hr hs hv hb hh
      have := reck_zero w W1 rb s b sv (some (0, s + 1)) hs h2 hW1 c4 (clo_zero W1 rb (s + 1) sv hs1) (fun v s' h => by simp at h; omega)
      rw [show FT.ev (.z a) az s = FT.chk (some (0, s + 1)) by simp only [FT.ev]; rw [if_neg h2]; rfl]
      exact this
  | inc =>
    intro _ w0 S w rb s v sv az hC hA hr hs hs2 hv hl ha
    obtain ⟨b, vr, vf, rfl, hb, hh, _, rfl⟩ := hC
    by_cases h2 : 2000 < s + 1
    · rw [show FT.ev .inc az s = none by simp only [FT.ev]; rw [if_pos h2]]
      exact reck_over w rb s _ sv ⟨_, rfl⟩ hs h2 (by omega)
    · obtain ⟨W1, hW1, hs1, hA1, hv1, c4⟩ := rk_ahead (t := .inc) hA hr hs hv hb hh
      match az, hl, ha, hv1 with
      | [x], _, ha, hv1 =>
        have hx := ha x (by simp)
        have := reck_next w W1 rb s b sv (some (x + 1, s + 1)) hs h2 hW1 c4 (clo_next W1 rb (s + 1) x sv hs1 hv1 hx) (fun v s' h => by simp at h; omega)
        rw [show FT.ev .inc [x] s = FT.chk (some (x + 1, s + 1)) by simp only [FT.ev]; rw [if_neg h2]; rfl]
        exact this
  | p i a =>
    intro ho w0 S w rb s v sv az hC hA hr hs hs2 hv hl ha
    obtain ⟨b, vr, vf, rfl, hb, hh, _, q, rfl, hq, hqh⟩ := hC
    by_cases h2 : 2000 < s + 1
    · rw [show FT.ev (.p i a) az s = none by simp only [FT.ev]; rw [if_pos h2]]
      exact reck_over w rb s _ sv ⟨_, rfl⟩ hs h2 (by omega)
    · obtain ⟨W1, hW1, hs1, hA1, hv1, c4⟩ := rk_ahead (t := .p i a) hA hr hs hv hb hh
      have hi : i < az.length := by rw [hl]; exact ho.1
      have hle : az.getD i 0 ≤ 10000 := by
        rw [List.getD_eq_getElem?_getD, List.getElem?_eq_getElem hi]
        exact ha _ (List.getElem_mem hi)
      have := reck_arg w W1 rb s b sv q (some (az.getD i 0, s + 1)) hs h2 hW1 c4 (clo_arg W1 rb (s + 1) i q az sv hs1 hv1 hi (hA1.heap hq hqh)) (fun v s' h => by simp only [Option.some.injEq, Prod.mk.injEq] at h; omega)
      rw [show FT.ev (.p i a) az s = FT.chk (some (az.getD i 0, s + 1)) by simp only [FT.ev]; rw [if_neg h2]]
      exact this
  | c1 f g ihf ihg =>
    intro ho w0 S w rb s v sv az hC hA hr hs hs2 hv hl ha
    obtain ⟨b, vr, vf, rfl, hb, hh, _, q1, q2, so, o, cap, cs, T, fr, pf, p1, rfl, b1, h1, b2, hq2, hf, bs, h3, e1, hg⟩ := hC
    by_cases h2 : 2000 < s + 1
    · rw [show FT.ev (.c1 f g) az s = none by simp only [FT.ev]; rw [if_pos h2]]
      exact reck_over w rb s _ sv ⟨_, rfl⟩ hs h2 (by omega)
    · obtain ⟨W1, hW1, hs1, hA1, hv1, c4⟩ := rk_ahead (t := .c1 f g) hA hr hs hv hb hh
      have hP : PartsU w0 S (.slice (some ⟨so, o, none⟩) 1 cap) [g] := ⟨so, o, cap, cs, T, fr, rfl, bs, h3, fun j hj => by match j, hj with | 0, _ => exact ⟨_, e1, hg⟩⟩
      have hclo := clo_comp w0 S f [g] _ pf q1 q2 hP hf h1 b1 hq2 b2 (by simp) (ihf ho.1 w0 S) (fun k hk => by simp at hk; subst hk; exact ihg ho.2.1 w0 S) (by simpa using ho.2.2) W1 rb (s + 1) sv az hA1 hr hs1 (by omega) hv1 (fun k hk => by simp at hk; subst hk; exact hl) ha
      have := reck_comp w W1 rb s b sv q1 q2 _ hs h2 hW1 c4 hclo evComp_small
      rw [show FT.ev (.c1 f g) az s = FT.chk (evComp f [g] az (s + 1)) by simp only [FT.ev]; rw [if_neg h2, evComp_one]; rfl]
      exact this
  | c2 f g k ihf ihg ihk =>
    intro ho w0 S w rb s v sv az hC hA hr hs hs2 hv hl ha
    obtain ⟨b, vr, vf, rfl, hb, hh, _, q1, q2, so, o, cap, cs, T, fr, pf, p1, p2, rfl, b1, h1, b2, hq2, hf, bs, h3, e1, hg, e2, hk⟩ := hC
    by_cases h2 : 2000 < s + 1
    · rw [show FT.ev (.c2 f g k) az s = none by simp only [FT.ev]; rw [if_pos h2]]
      exact reck_over w rb s _ sv ⟨_, rfl⟩ hs h2 (by omega)
    · obtain ⟨W1, hW1, hs1, hA1, hv1, c4⟩ := rk_ahead (t := .c2 f g k) hA hr hs hv hb hh
      have hP : PartsU w0 S (.slice (some ⟨so, o, none⟩) 2 cap) [g, k] := ⟨so, o, cap, cs, T, fr, rfl, bs, h3, fun j hj => by match j, hj with | 0, _ => exact ⟨_, e1, hg⟩ | 1, _ => exact ⟨_, e2, hk⟩⟩
      have hclo := clo_comp w0 S f [g, k] _ pf q1 q2 hP hf h1 b1 hq2 b2 (by simp) (ihf ho.1 w0 S) (fun j hj => by
        simp only [List.mem_cons, List.not_mem_nil, or_false] at hj
        rcases hj with rfl | rfl
        · exact ihg ho.2.1 w0 S
        · exact ihk ho.2.2.1 w0 S) (by simpa using ho.2.2.2.1) W1 rb (s + 1) sv az hA1 hr hs1 (by omega) hv1 (fun j hj => by
        simp only [List.mem_cons, List.not_mem_nil, or_false] at hj
        rcases hj with rfl | rfl
        · exact hl
        · exact hl.trans ho.2.2.2.2.symm) ha
      have := reck_comp w W1 rb s b sv q1 q2 _ hs h2 hW1 c4 hclo evComp_small
      rw [show FT.ev (.c2 f g k) az s = FT.chk (evComp f [g, k] az (s + 1)) by simp only [FT.ev]; rw [if_neg h2, evComp_two]; rfl]
      exact this
  | c3 f g k l ihf ihg ihk ihl =>
    intro ho w0 S w rb s v sv az hC hA hr hs hs2 hv hl ha
    obtain ⟨b, vr, vf, rfl, hb, hh, _, q1, q2, so, o, cap, cs, T, fr, pf, p1, p2, p3, rfl, b1, h1, b2, hq2, hf, bs, h3, e1, hg, e2, hk, e3, hl3⟩ := hC
    by_cases h2 : 2000 < s + 1
    · rw [show FT.ev (.c3 f g k l) az s = none by simp only [FT.ev]; rw [if_pos h2]]
      exact reck_over w rb s _ sv ⟨_, rfl⟩ hs h2 (by omega)
    · obtain ⟨W1, hW1, hs1, hA1, hv1, c4⟩ := rk_ahead (t := .c3 f g k l) hA hr hs hv hb hh
      have hP : PartsU w0 S (.slice (some ⟨so, o, none⟩) 3 cap) [g, k, l] := ⟨so, o, cap, cs, T, fr, rfl, bs, h3, fun j hj => by match j, hj with | 0, _ => exact ⟨_, e1, hg⟩ | 1, _ => exact ⟨_, e2, hk⟩ | 2, _ => exact ⟨_, e3, hl3⟩⟩
      have hclo := clo_comp w0 S f [g, k, l] _ pf q1 q2 hP hf h1 b1 hq2 b2 (by simp) (ihf ho.1 w0 S) (fun j hj => by
        simp only [List.mem_cons, List.not_mem_nil, or_false] at hj
        rcases hj with rfl | rfl | rfl
        · exact ihg ho.2.1 w0 S
        · exact ihk ho.2.2.1 w0 S
        · exact ihl ho.2.2.2.1 w0 S) (by simpa using ho.2.2.2.2.1) W1 rb (s + 1) sv az hA1 hr hs1 (by omega) hv1 (fun j hj => by
        simp only [List.mem_cons, List.not_mem_nil, or_false] at hj
        rcases hj with rfl | rfl | rfl
        · exact hl
        · exact hl.trans ho.2.2.2.2.2.1.symm
        · exact hl.trans ho.2.2.2.2.2.2.symm) ha
      have := reck_comp w W1 rb s b sv q1 q2 _ hs h2 hW1 c4 hclo evComp_small
      rw [show FT.ev (.c3 f g k l) az s = FT.chk (evComp f [g, k, l] az (s + 1)) by simp only [FT.ev]; rw [if_neg h2, evComp_three]; rfl]
      exact this
  | r f g ihf ihg =>
    intro ho w0 S w rb s v sv az hC hA hr hs hs2 hv hl ha
    obtain ⟨b, vr, vf, rfl, hb, hh, _, q1, q2, pf, pg, rfl, b1, h1, b2, hq2, hf, hg⟩ := hC
    by_cases h2 : 2000 < s + 1
    · rw [show FT.ev (.r f g) az s = none by simp only [FT.ev]; rw [if_pos h2]]
      exact reck_over w rb s _ sv ⟨_, rfl⟩ hs h2 (by omega)
    · obtain ⟨W1, hW1, hs1, hA1, hv1, c4⟩ := rk_ahead (t := .r f g) hA hr hs hv hb hh
      have hclo := clo_rec w0 S f g pf pg q1 q2 hf hg h1 b1 hq2 b2 (ihf ho.1 w0 S) (ihg ho.2.1 w0 S) ho.2.2 (FT.arity_le ho.2.1) W1 rb (s + 1) sv az hA1 hr hs1 (by omega) hv1 hl ha
      have := reck_rec w W1 rb s b sv q1 q2 _ hs h2 hW1 c4 hclo (evRec_small)
      rw [show FT.ev (.r f g) az s = FT.chk (evRec f g az (s + 1)) by simp only [FT.ev]; rw [if_neg h2]; rfl]
      exact this
  | m f ihf =>
    intro ho w0 S w rb s v sv az hC hA hr hs hs2 hv hl ha
    obtain ⟨b, vr, vf, rfl, hb, hh, _, q1, pf, rfl, b1, h1, hf⟩ := hC
    by_cases h2 : 2000 < s + 1
    · rw [show FT.ev (.m f) az s = none by simp only [FT.ev]; rw [if_pos h2]]
      exact reck_over w rb s _ sv ⟨_, rfl⟩ hs h2 (by omega)
    · obtain ⟨W1, hW1, hs1, hA1, hv1, c4⟩ := rk_ahead (t := .m f) hA hr hs hv hb hh
      have hclo := clo_sea w0 S f pf q1 hf h1 b1 (ihf ho.1 w0 S) ho.2 (FT.arity_le ho.1) W1 rb (s + 1) sv az hA1 hr hs1 (by omega) hv1 hl ha
      have := reck_sea w W1 rb s b sv q1 _ hs h2 hW1 c4 hclo (fun v s' h => by have := loopM_lt _ _ _ _ _ _ h; omega)
      rw [show FT.ev (.m f) az s = FT.chk (FT.loopM (FT.ev f) az 2001 0 (s + 1)) by simp only [FT.ev]; rw [if_neg h2]]
      exact this
end Go.Proofs.YtjomocjlnjgkeaaGreat
