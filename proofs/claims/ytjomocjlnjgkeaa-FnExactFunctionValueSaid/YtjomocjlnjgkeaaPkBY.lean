/-
  The closure of recursion.
-/
import Derived.Test.YtjomocjlnjgkeaaPkBW
import Derived.Test.YtjomocjlnjgkeaaPkBX
namespace Go.Proofs.Ytjomocjlnjgkeaa
open Go.RowKit

set_option maxHeartbeats 2000000
set_option maxRecDepth 100000

def evRec (f g : FT) (az : List Nat) (s : Nat) : Option (Nat × Nat) := match FT.ev f az.tail s with
  | none => none
  | some (v, s1) => FT.loopR (FT.ev g) az.tail (az.headD 0) 0 v s1

theorem evRec_small {f g : FT} {az : List Nat} {s : Nat} : ∀ v s', evRec f g az s = some (v, s') → v ≤ 100000 := by
  intro v s' h
  unfold evRec at h
  cases he : FT.ev f az.tail s with
  | none => rw [he] at h; simp at h
  | some p =>
    obtain ⟨x, s1⟩ := p
    rw [he] at h
    have h1 := (FT.ev_runs f az.tail s).small _ _ he
    have := (FT.loopR_facts (FT.ev_runs g) az.tail _ _ _ _ _ _ h1.1 h1.2.2 h).1
    omega

theorem loopR_step (g : FT) (rest : List Nat) (n0 k v s : Nat) (hk : k < n0) : FT.loopR (FT.ev g) rest (n0 - k) k v s = match FT.ev g (k :: v :: rest) s with
    | none => none
    | some (v', s') => FT.loopR (FT.ev g) rest (n0 - (k + 1)) (k + 1) v' s' := by
  rw [show n0 - k = (n0 - (k + 1)) + 1 by omega]
  rfl

/-- What lies behind the first number. -/
theorem IntsV.rest {w : World} {rb b o n cap x : Nat} {rest : List Nat} (h : IntsV w rb (.slice (some ⟨b, o, none⟩) n cap) (x :: rest)) : IntsV w rb (.slice (some ⟨b, o + 1, none⟩) rest.length (cap - 1)) rest := by
  rcases h with ⟨h, _⟩ | ⟨b', o', cap', hv, hl, hne, hb, hc⟩
  · cases h
  · injection hv with e1 e2 e3
    injection e1 with e1
    injection e1 with e1 e4
    subst e1
    subst e4
    subst e3
    refine Or.inr ⟨b, o + 1, cap - 1, rfl, by simp at hl; omega, hne, hb, fun j hj => ?_⟩
    have := hc (j + 1) (by simp; omega)
    rw [show o + 1 + j = o + (j + 1) by omega, this]
    rfl

theorem clo_rec_at (w0 : World) (S : Nat) (f g : FT) (pf pg : Value) (q1 q2 : Nat) (hf : CV w0 S f pf) (hg : CV w0 S g pg) (h1 : w0.heap[q1]? = some (.cells #[pf] 68 (0, 0))) (b1 : S ≤ q1) (h2 : w0.heap[q2]? = some (.cells #[pg] 68 (0, 0))) (b2 : S ≤ q2)
    (ihf : RK w0 S f) (ihg : RK w0 S g) (hgf : FT.arity g = FT.arity f + 2) (h3 : FT.arity g ≤ 3)
    (w : World) (rb s : Nat) (b o cap n0 : Nat) (rest : List Nat) (sv2 : Value) (hA : Agree w0 w S) (hr : w0.heap.size ≤ rb) (hs : Steps w rb s) (hs2 : s ≤ 2000) (hv : IntsV w rb (.slice (some ⟨b, o, none⟩) (rest.length + 1) cap) (n0 :: rest)) (hl : rest.length = FT.arity f) (ha : ∀ a ∈ n0 :: rest, a ≤ 10000)
    (hmc0 : rest.length + 1 ≤ cap) (hsv2 : (cap = 1 ∧ sv2 = .slice (some ⟨b, o, none⟩) rest.length 0) ∨ (¬ cap = 1 ∧ sv2 = .slice (some ⟨b, o + 1, none⟩) rest.length (cap - 1))) (hiv2 : IntsV w rb sv2 rest) :
    Calls Try.prog 131 #[ptr rb, .slice (some ⟨b, o, none⟩) (rest.length + 1) cap, ptr q1, ptr q2] w (ReckPost w rb (evRec f g (n0 :: rest) s)) := by
  have c1 : w.cell? ⟨q1, 0, none⟩ = some pf := cell_of_heap (i := 0) (hA.heap b1 h1)
  have c2 : ∀ w', GB w rb w' → w'.cell? ⟨q2, 0, none⟩ = some pg := fun w' hg => cell_of_heap (i := 0) ((hA.grown hg hr).heap b2 h2)
  have cn : ∀ w', GB w rb w' → w'.cell? ⟨b, o, none⟩ = some (.int .i64 (n0 : Nat)) := fun w' hg => by
    rcases IntsV.grown hv hg with ⟨h, _⟩ | ⟨b', o', cap', hv, hl, hne, hb, hc⟩
    · cases h
    · injection hv with e1 e2 e3
      injection e1 with e1
      injection e1 with e1 e4
      subst e1
      subst e4
      exact hc 0 (by simp)
  obtain ⟨bf, Tf, xf, vf, rfl, _⟩ := hf.fields
  obtain ⟨bg, Tg, xg, vg, rfl, _⟩ := hg.fields
  obtain ⟨R, hR⟩ : ∃ R, R = evRec f g (n0 :: rest) s := ⟨_, rfl⟩
  rw [← hR]
  have hk1 := ihf w rb s _ sv2 rest hf hA hr hs hs2 hiv2 hl (fun a h => ha a (by simp [h]))
  have hn0 : n0 ≤ 10000 := ha n0 (by simp)
  obtain ⟨m, hm⟩ : ∃ m, m = rest.length := ⟨_, rfl⟩
  have hlg : m + 2 = FT.arity g := by omega
  have hm1 : m ≤ 1 := by omega
  have hfr := FT.ev_runs f rest s
  have hRe : R = match FT.ev f rest s with | none => none | some (v, s1) => FT.loopR (FT.ev g) rest n0 0 v s1 := hR
  have hun : Try.prog.underlying 32 = some (.slice 3) := by kernel_rfl
  obtain ⟨i0, hi0, hz0, hz1, hz2⟩ : ∃ i, (Try.prog).info? 3 = some i ∧ i.zero = some (.int .i64 0) ∧ i.size = 1 ∧ i.bytes = 8 := ⟨_, rfl, rfl, rfl, rfl⟩
  have hone := one_ints rest
  have hnl : (intL rest).length = m := by simp [intL, hm]
  have hmc : m + 1 ≤ cap := by omega
  clear hmc0
  rw [← hm] at hsv2 ⊢
  have HM := Lib.hid hm
  have HLG := Lib.hid hlg
  have HRE := Lib.hid hRe
  have HG := Lib.hid hg
  have HIG := Lib.hid ihg
  have HA := Lib.hid hA
  have HV := Lib.hid hiv2
  have HS := Lib.hid hs
  have HAZ := Lib.hid ha
  have HC2 := Lib.hid c2
  have HCN := Lib.hid cn
  have HONE := Lib.hid hone
  have HNL := Lib.hid hnl
  clear hR hRe hf hg ihf ihg hA hv hs ha hl h1 h2 c2 cn hm hlg hone hnl hgf h3 hiv2
  have hmi : (1 : Int) ≤ (m : Int) + 1 := by omega
  rcases hsv2 with ⟨hc1, rfl⟩ | ⟨hc1, rfl⟩
  · have hm0 : m = 0 := by omega
    subst hm0
    subst hc1
    cases hef : FT.ev f rest s with
    | none =>
      rw [hef] at hk1
      have HN := Lib.hid (show R = none by rw [HRE.out, hef])
      clear hef hfr
      go_enter Try.func131, Try.ntmps131
      go_wp2_with fail
      refine hk1.mono ?_
      rintro e w1 ⟨hg1, rfl⟩
      clear hk1 c1
      have HG1 := Lib.hid hg1
      clear hg1
      go_wp2_with fail
      go_loopw [9, 10, 11] (fun vl okv n wr => vl = .int .i64 0 ∧ okv = .bool false ∧ n = .int .i64 0 ∧ Hid (w.grownBy wr (some rb))) (fun _ _ _ _ => 0)
      case atStart => exact ⟨rfl, rfl, rfl, HG1.out⟩
      case round =>
        obtain ⟨rfl, rfl, rfl, HGR⟩ := hrel
        go_wp2_with fail
        go_ret2
        exact ⟨HGR.out, by rw [HN.out]; rfl⟩
    | some p =>
      obtain ⟨v1, s1⟩ := p
      have hr1 := hfr.small _ _ hef
      rw [hef] at hk1
      have HN := Lib.hid (show R = FT.loopR (FT.ev g) rest n0 0 v1 s1 by rw [HRE.out, hef])
      clear hef hfr
      go_enter Try.func131, Try.ntmps131
      go_wp2_with fail
      refine hk1.mono ?_
      rintro e w1 ⟨hg1, rfl, hs1⟩
      clear hk1 c1
      have HG1 := Lib.hid hg1
      have HS1 := Lib.hid hs1
      clear hg1 hs1
      go_wp2_with fail
      go_loopw [9, 10, 11] (fun vl okv n wr => ∃ (k : Nat) (v : Nat) (okb : Bool), vl = .int .i64 v ∧ okv = .bool okb ∧ n = .int .i64 k ∧ k ≤ n0 ∧ v ≤ 1000 ∧ Hid (w.grownBy wr (some rb)) ∧ Hid (okb = false → v = 0 ∧ R = none) ∧ Hid (okb = true → ∃ sk, sk ≤ 2000 ∧ R = FT.loopR (FT.ev g) rest (n0 - k) k v sk ∧ Steps wr rb sk)) (fun _ _ n _ => n0 - (intOf n).toNat)
      case atStart => exact ⟨0, v1, true, rfl, rfl, rfl, by omega, hr1.1, HG1.out, (fun h => by cases h), fun _ => ⟨s1, hr1.2.2, HN.out, HS1.out⟩⟩
      case round =>
        obtain ⟨k, v, okb, rfl, rfl, rfl, hk, hvm, HGR, HF0, HT0⟩ := hrel
        cases okb with
        | false =>
          obtain ⟨hv0, hR0⟩ := HF0.out rfl
          have HN0 := Lib.hid hR0
          subst hv0
          clear hR0
          have cnr := HCN.out wr HGR.out
          go_wp2_with fail
          go_ret2
          exact ⟨HGR.out, by rw [HN0.out]; rfl⟩
        | true =>
          obtain ⟨sk, hsk, hRk, hsts⟩ := HT0.out rfl
          have HRK := Lib.hid hRk
          have HST := Lib.hid hsts
          clear hRk hsts
          have cnr := HCN.out wr HGR.out
          by_cases hlt : k < n0
          · have hself := GB.refl wr rb
            have c2r : ∀ W, GB wr rb W → W.cell? ⟨q2, 0, none⟩ = some (ptr bg) := fun W hW => HC2.out W (GB.trans HGR.out hW)
            have hltI : (k : Int) < (n0 : Int) := by omega
            have hcall := row_call HIG.out HG.out wr rb sk (HA.out.grown HGR.out hr) hr HST.out hsk (k :: v :: rest) (by simp only [List.length_cons, ← HM.out]; exact HLG.out) (fun a h => by
              rcases List.mem_cons.1 h with rfl | h
              · omega
              · rcases List.mem_cons.1 h with rfl | h
                · omega
                · exact HAZ.out a (List.mem_cons_of_mem _ h))
            have hwr : After wr ((wr.alloc (.cells #[.int .i64 (k : Nat), .int .i64 (v : Nat)] 3)).drew) := After.drew (After.new _ _)
            have hsrc := src_ints (HV.out.grown HGR.out) hwr
            have hl2 : 2 + (intL rest).length = (k :: v :: rest).length := by simp only [intL, List.length_map, List.length_cons]; omega
            have hl3 : [Value.int .i64 (k : Nat), Value.int .i64 (v : Nat)] ++ intL rest = intL (k :: v :: rest) := rfl
            have hstep := loopR_step g rest n0 k v sk hlt
            have hmax : 2 + (intL rest).length ≤ maxLen := by rw [HNL.out]; unfold maxLen; omega
            have hm8 : (2 + (intL rest).length) * 8 ≤ 140737488355328 := by rw [HNL.out]; omega
            have hsz : wr.heap.size ≤ ((wr.alloc (.cells #[.int .i64 (k : Nat), .int .i64 (v : Nat)] 3)).drew).heap.size := hwr.size
            have HSRC := Lib.hid hsrc
            have HL2 := Lib.hid hl2
            have HL3 := Lib.hid hl3
            have HMAX := Lib.hid hmax
            have HM8 := Lib.hid hm8
            have hruns := FT.ev_runs g (k :: v :: rest) sk
            cases hev : FT.ev g (k :: v :: rest) sk with
            | none =>
              rw [hev] at hcall hstep
              have HCALL := Lib.hid hcall
              have HN0 := Lib.hid (show R = none from HRK.out.trans hstep)
              clear hcall hsrc hl2 hl3 hstep hmax hm8 hev hruns
              go_wp2_with fail
              go_region_held3 (fun W' => GB wr rb W') (first | assumption | exact hself.drew | exact GB.drew (by assumption) | exact GB.alloc (by assumption) _ | exact GB.drew (GB.alloc (by assumption) _))
                (first
                  | (refine step_app _ (by rfl) _ _ 32 (by rfl) wr.heap.size 3 i0 (.int .i64 0) 8 hun hi0 hz0 hz1 hz2 rfl _ 2 [.int .i64 (k : Nat), .int .i64 (v : Nat)] (by rfl) ((owns_two wr (.int .i64 (k : Nat)) (.int .i64 (v : Nat)) _).drew) _ (intL rest) (by rfl) HSRC.out HONE.out HMAX.out HM8.out hsz ?_; intro v2 w2 ho2 hg2; obtain ⟨co, cn, cc, rfl⟩ := o_slice ho2; have ha2 := after_own2 (undrew hg2); have HA2 := Lib.hid ha2; have HO2 := Lib.hid ho2; have hb2 : GB wr rb w2 := GB.after ha2 rb; clear ho2 hg2 ha2)
                  | (go_at_call 53; refine (HCALL.out _ _ _ _ HL2.out HL3.out HO2.out HA2.out).mono ?_; rintro e w3 ⟨hg3, rfl⟩; have hb3 : GB wr rb w3 := GB.trans hb2 hg3))
              all_goals
                go_wp2_with fail
                go_roundw
                case rel => exact ⟨k + 1, 0, false, rfl, rfl, by go_num, by omega, by omega, GB.trans HGR.out hb3, (fun _ => ⟨rfl, HN0.out⟩), fun h => by cases h⟩
                case measure => simp [intOf]; omega
            | some p =>
              obtain ⟨x, s'⟩ := p
              have hx := hruns.small _ _ hev
              rw [hev] at hcall hstep
              have HCALL := Lib.hid hcall
              have HN0 := Lib.hid (show R = FT.loopR (FT.ev g) rest (n0 - (k + 1)) (k + 1) x s' from HRK.out.trans hstep)
              clear hcall hsrc hl2 hl3 hstep hmax hm8 hev hruns
              go_wp2_with fail
              go_region_held3 (fun W' => GB wr rb W') (first | assumption | exact hself.drew | exact GB.drew (by assumption) | exact GB.alloc (by assumption) _ | exact GB.drew (GB.alloc (by assumption) _))
                (first
                  | (refine step_app _ (by rfl) _ _ 32 (by rfl) wr.heap.size 3 i0 (.int .i64 0) 8 hun hi0 hz0 hz1 hz2 rfl _ 2 [.int .i64 (k : Nat), .int .i64 (v : Nat)] (by rfl) ((owns_two wr (.int .i64 (k : Nat)) (.int .i64 (v : Nat)) _).drew) _ (intL rest) (by rfl) HSRC.out HONE.out HMAX.out HM8.out hsz ?_; intro v2 w2 ho2 hg2; obtain ⟨co, cn, cc, rfl⟩ := o_slice ho2; have ha2 := after_own2 (undrew hg2); have HA2 := Lib.hid ha2; have HO2 := Lib.hid ho2; have hb2 : GB wr rb w2 := GB.after ha2 rb; clear ho2 hg2 ha2)
                  | (go_at_call 53; refine (HCALL.out _ _ _ _ HL2.out HL3.out HO2.out HA2.out).mono ?_; rintro e w3 ⟨hg3, rfl, hs3⟩; have hb3 : GB wr rb w3 := GB.trans hb2 hg3; have HS3 := Lib.hid hs3; clear hs3))
              all_goals
                go_wp2_with fail
                go_roundw
                case rel => exact ⟨k + 1, x, true, rfl, rfl, by go_num, by omega, hx.1, GB.trans HGR.out hb3, (fun h => by cases h), fun _ => ⟨s', hx.2.2, HN0.out, HS3.out⟩⟩
                case measure => simp [intOf]; omega
          · obtain rfl : k = n0 := by omega
            have HN0 := Lib.hid (show R = some (v, sk) by rw [HRK.out, Nat.sub_self]; rfl)
            go_wp2_with fail
            go_ret2
            exact ⟨HGR.out, by rw [HN0.out]; exact ⟨rfl, HST.out⟩⟩
  · cases hef : FT.ev f rest s with
    | none =>
      rw [hef] at hk1
      have HN := Lib.hid (show R = none by rw [HRE.out, hef])
      clear hef hfr
      go_enter Try.func131, Try.ntmps131
      go_wp2_with fail
      refine hk1.mono ?_
      rintro e w1 ⟨hg1, rfl⟩
      clear hk1 c1
      have HG1 := Lib.hid hg1
      clear hg1
      go_wp2_with fail
      go_loopw [9, 10, 11] (fun vl okv n wr => vl = .int .i64 0 ∧ okv = .bool false ∧ n = .int .i64 0 ∧ Hid (w.grownBy wr (some rb))) (fun _ _ _ _ => 0)
      case atStart => exact ⟨rfl, rfl, rfl, HG1.out⟩
      case round =>
        obtain ⟨rfl, rfl, rfl, HGR⟩ := hrel
        go_wp2_with fail
        go_ret2
        exact ⟨HGR.out, by rw [HN.out]; rfl⟩
    | some p =>
      obtain ⟨v1, s1⟩ := p
      have hr1 := hfr.small _ _ hef
      rw [hef] at hk1
      have HN := Lib.hid (show R = FT.loopR (FT.ev g) rest n0 0 v1 s1 by rw [HRE.out, hef])
      clear hef hfr
      go_enter Try.func131, Try.ntmps131
      go_wp2_with fail
      refine hk1.mono ?_
      rintro e w1 ⟨hg1, rfl, hs1⟩
      clear hk1 c1
      have HG1 := Lib.hid hg1
      have HS1 := Lib.hid hs1
      clear hg1 hs1
      go_wp2_with fail
      go_loopw [9, 10, 11] (fun vl okv n wr => ∃ (k : Nat) (v : Nat) (okb : Bool), vl = .int .i64 v ∧ okv = .bool okb ∧ n = .int .i64 k ∧ k ≤ n0 ∧ v ≤ 1000 ∧ Hid (w.grownBy wr (some rb)) ∧ Hid (okb = false → v = 0 ∧ R = none) ∧ Hid (okb = true → ∃ sk, sk ≤ 2000 ∧ R = FT.loopR (FT.ev g) rest (n0 - k) k v sk ∧ Steps wr rb sk)) (fun _ _ n _ => n0 - (intOf n).toNat)
      case atStart => exact ⟨0, v1, true, rfl, rfl, rfl, by omega, hr1.1, HG1.out, (fun h => by cases h), fun _ => ⟨s1, hr1.2.2, HN.out, HS1.out⟩⟩
      case round =>
        obtain ⟨k, v, okb, rfl, rfl, rfl, hk, hvm, HGR, HF0, HT0⟩ := hrel
        cases okb with
        | false =>
          obtain ⟨hv0, hR0⟩ := HF0.out rfl
          have HN0 := Lib.hid hR0
          subst hv0
          clear hR0
          have cnr := HCN.out wr HGR.out
          go_wp2_with fail
          go_ret2
          exact ⟨HGR.out, by rw [HN0.out]; rfl⟩
        | true =>
          obtain ⟨sk, hsk, hRk, hsts⟩ := HT0.out rfl
          have HRK := Lib.hid hRk
          have HST := Lib.hid hsts
          clear hRk hsts
          have cnr := HCN.out wr HGR.out
          by_cases hlt : k < n0
          · have hself := GB.refl wr rb
            have c2r : ∀ W, GB wr rb W → W.cell? ⟨q2, 0, none⟩ = some (ptr bg) := fun W hW => HC2.out W (GB.trans HGR.out hW)
            have hltI : (k : Int) < (n0 : Int) := by omega
            have hcall := row_call HIG.out HG.out wr rb sk (HA.out.grown HGR.out hr) hr HST.out hsk (k :: v :: rest) (by simp only [List.length_cons, ← HM.out]; exact HLG.out) (fun a h => by
              rcases List.mem_cons.1 h with rfl | h
              · omega
              · rcases List.mem_cons.1 h with rfl | h
                · omega
                · exact HAZ.out a (List.mem_cons_of_mem _ h))
            have hwr : After wr ((wr.alloc (.cells #[.int .i64 (k : Nat), .int .i64 (v : Nat)] 3)).drew) := After.drew (After.new _ _)
            have hsrc := src_ints (HV.out.grown HGR.out) hwr
            have hl2 : 2 + (intL rest).length = (k :: v :: rest).length := by simp only [intL, List.length_map, List.length_cons]; omega
            have hl3 : [Value.int .i64 (k : Nat), Value.int .i64 (v : Nat)] ++ intL rest = intL (k :: v :: rest) := rfl
            have hstep := loopR_step g rest n0 k v sk hlt
            have hmax : 2 + (intL rest).length ≤ maxLen := by rw [HNL.out]; unfold maxLen; omega
            have hm8 : (2 + (intL rest).length) * 8 ≤ 140737488355328 := by rw [HNL.out]; omega
            have hsz : wr.heap.size ≤ ((wr.alloc (.cells #[.int .i64 (k : Nat), .int .i64 (v : Nat)] 3)).drew).heap.size := hwr.size
            have HSRC := Lib.hid hsrc
            have HL2 := Lib.hid hl2
            have HL3 := Lib.hid hl3
            have HMAX := Lib.hid hmax
            have HM8 := Lib.hid hm8
            have hruns := FT.ev_runs g (k :: v :: rest) sk
            cases hev : FT.ev g (k :: v :: rest) sk with
            | none =>
              rw [hev] at hcall hstep
              have HCALL := Lib.hid hcall
              have HN0 := Lib.hid (show R = none from HRK.out.trans hstep)
              clear hcall hsrc hl2 hl3 hstep hmax hm8 hev hruns
              go_wp2_with fail
              go_region_held3 (fun W' => GB wr rb W') (first | assumption | exact hself.drew | exact GB.drew (by assumption) | exact GB.alloc (by assumption) _ | exact GB.drew (GB.alloc (by assumption) _))
                (first
                  | (refine step_app _ (by rfl) _ _ 32 (by rfl) wr.heap.size 3 i0 (.int .i64 0) 8 hun hi0 hz0 hz1 hz2 rfl _ 2 [.int .i64 (k : Nat), .int .i64 (v : Nat)] (by rfl) ((owns_two wr (.int .i64 (k : Nat)) (.int .i64 (v : Nat)) _).drew) _ (intL rest) (by rfl) HSRC.out HONE.out HMAX.out HM8.out hsz ?_; intro v2 w2 ho2 hg2; obtain ⟨co, cn, cc, rfl⟩ := o_slice ho2; have ha2 := after_own2 (undrew hg2); have HA2 := Lib.hid ha2; have HO2 := Lib.hid ho2; have hb2 : GB wr rb w2 := GB.after ha2 rb; clear ho2 hg2 ha2)
                  | (go_at_call 53; refine (HCALL.out _ _ _ _ HL2.out HL3.out HO2.out HA2.out).mono ?_; rintro e w3 ⟨hg3, rfl⟩; have hb3 : GB wr rb w3 := GB.trans hb2 hg3))
              all_goals
                go_wp2_with fail
                go_roundw
                case rel => exact ⟨k + 1, 0, false, rfl, rfl, by go_num, by omega, by omega, GB.trans HGR.out hb3, (fun _ => ⟨rfl, HN0.out⟩), fun h => by cases h⟩
                case measure => simp [intOf]; omega
            | some p =>
              obtain ⟨x, s'⟩ := p
              have hx := hruns.small _ _ hev
              rw [hev] at hcall hstep
              have HCALL := Lib.hid hcall
              have HN0 := Lib.hid (show R = FT.loopR (FT.ev g) rest (n0 - (k + 1)) (k + 1) x s' from HRK.out.trans hstep)
              clear hcall hsrc hl2 hl3 hstep hmax hm8 hev hruns
              go_wp2_with fail
              go_region_held3 (fun W' => GB wr rb W') (first | assumption | exact hself.drew | exact GB.drew (by assumption) | exact GB.alloc (by assumption) _ | exact GB.drew (GB.alloc (by assumption) _))
                (first
                  | (refine step_app _ (by rfl) _ _ 32 (by rfl) wr.heap.size 3 i0 (.int .i64 0) 8 hun hi0 hz0 hz1 hz2 rfl _ 2 [.int .i64 (k : Nat), .int .i64 (v : Nat)] (by rfl) ((owns_two wr (.int .i64 (k : Nat)) (.int .i64 (v : Nat)) _).drew) _ (intL rest) (by rfl) HSRC.out HONE.out HMAX.out HM8.out hsz ?_; intro v2 w2 ho2 hg2; obtain ⟨co, cn, cc, rfl⟩ := o_slice ho2; have ha2 := after_own2 (undrew hg2); have HA2 := Lib.hid ha2; have HO2 := Lib.hid ho2; have hb2 : GB wr rb w2 := GB.after ha2 rb; clear ho2 hg2 ha2)
                  | (go_at_call 53; refine (HCALL.out _ _ _ _ HL2.out HL3.out HO2.out HA2.out).mono ?_; rintro e w3 ⟨hg3, rfl, hs3⟩; have hb3 : GB wr rb w3 := GB.trans hb2 hg3; have HS3 := Lib.hid hs3; clear hs3))
              all_goals
                go_wp2_with fail
                go_roundw
                case rel => exact ⟨k + 1, x, true, rfl, rfl, by go_num, by omega, hx.1, GB.trans HGR.out hb3, (fun h => by cases h), fun _ => ⟨s', hx.2.2, HN0.out, HS3.out⟩⟩
                case measure => simp [intOf]; omega
          · obtain rfl : k = n0 := by omega
            have HN0 := Lib.hid (show R = some (v, sk) by rw [HRK.out, Nat.sub_self]; rfl)
            go_wp2_with fail
            go_ret2
            exact ⟨HGR.out, by rw [HN0.out]; exact ⟨rfl, HST.out⟩⟩

theorem clo_rec (w0 : World) (S : Nat) (f g : FT) (pf pg : Value) (q1 q2 : Nat) (hf : CV w0 S f pf) (hg : CV w0 S g pg) (h1 : w0.heap[q1]? = some (.cells #[pf] 68 (0, 0))) (b1 : S ≤ q1) (h2 : w0.heap[q2]? = some (.cells #[pg] 68 (0, 0))) (b2 : S ≤ q2)
    (ihf : RK w0 S f) (ihg : RK w0 S g) (hgf : FT.arity g = FT.arity f + 2) (h3 : FT.arity g ≤ 3)
    (w : World) (rb s : Nat) (sv : Value) (az : List Nat) (hA : Agree w0 w S) (hr : w0.heap.size ≤ rb) (hs : Steps w rb s) (hs2 : s ≤ 2000) (hv : IntsV w rb sv az) (hl : az.length = FT.arity (.r f g)) (ha : ∀ a ∈ az, a ≤ 10000) :
    Calls Try.prog 131 #[ptr rb, sv, ptr q1, ptr q2] w (ReckPost w rb (evRec f g az s)) := by
  match az, hl, hv, ha with
  | n0 :: rest, hl, hv, ha =>
    have hvc := hv
    rcases hv with ⟨h, _⟩ | ⟨b, o, cap, rfl, hle, hne, hb, hc⟩
    · cases h
    · have hrl : rest.length = FT.arity f := by simp only [FT.arity, List.length_cons] at hl; omega
      have hcap : rest.length + 1 ≤ cap := by simpa using hle
      by_cases hc1 : cap = 1
      · have hr0 : rest = [] := List.length_eq_zero_iff.1 (by omega)
        exact clo_rec_at w0 S f g pf pg q1 q2 hf hg h1 b1 h2 b2 ihf ihg hgf h3 w rb s b o cap n0 rest (.slice (some ⟨b, o, none⟩) rest.length 0) hA hr hs hs2 hvc hrl ha hcap (Or.inl ⟨hc1, rfl⟩) (Or.inl ⟨hr0, _, _, by rw [hr0]; rfl⟩)
      · exact clo_rec_at w0 S f g pf pg q1 q2 hf hg h1 b1 h2 b2 ihf ihg hgf h3 w rb s b o cap n0 rest _ hA hr hs hs2 hvc hrl ha hcap (Or.inr ⟨hc1, rfl⟩) (hvc.rest)
  | [], hl, _, _ => simp [FT.arity] at hl
end Go.Proofs.Ytjomocjlnjgkeaa

namespace Go.Proofs.Ytjomocjlnjgkeaa
open Go.RowKit

set_option maxHeartbeats 2000000
set_option maxRecDepth 100000

theorem KidsV.fix {w0 : World} {S : Nat} {sv : Value} {ps : List FT} (h : KidsV w0 S sv ps) (j : Nat) (hj : j < ps.length) : ∃ b cap ao n c, sv = .slice (some ⟨b, 0, none⟩) ps.length cap ∧ SF w0 S ps[j] (.agg #[str (FT.atomOf ps[j]), .slice ao n c, .int .i64 (FT.arity ps[j] : Nat)]) ∧
    ∀ w, Agree w0 w S → w.cell? ⟨b, j * 3, none⟩ = some (str (FT.atomOf ps[j])) ∧ w.cell? ⟨b, j * 3 + 1, none⟩ = some (.slice ao n c) ∧ w.cell? ⟨b, j * 3 + 2, none⟩ = some (.int .i64 (FT.arity ps[j] : Nat)) := by
  obtain ⟨b, cap, ao, n, c, hv, h1, h2, h3, h4, hb⟩ := h.at j hj
  refine ⟨b, cap, ao, n, c, hv, h4, fun w hA => ?_⟩
  have hk : ∀ {i : Nat} {v : Value}, w0.cell? ⟨b, i, none⟩ = some v → w.cell? ⟨b, i, none⟩ = some v := fun {i v} h => by
    have := hA.2 b hb (World.block_lt_of_cell? _ _ h)
    simp only [World.cell?] at *
    rw [this]
    exact h
  exact ⟨hk h1, hk h2, hk h3⟩

theorem row_callS {w0 : World} {S : Nat} {f : FT} {v : Value} (ih : VK w0 S f) (hf : SF w0 S f v) (wr : World) (rb s : Nat) (hA : Agree w0 wr S) (hr : w0.heap.size ≤ rb) (hs : MSt wr rb s false) (hs2 : s ≤ 2000) (xs : List Nat) (hl : xs.length = FT.arity f) (hx : ∀ a ∈ xs, a ≤ 1000)
    (W : World) (u : Value) (n : Nat) (vs : List Value) (hn : n = xs.length) (hvs : vs = intL xs) (ho : W.ownsRow wr.heap.size 3 1 u n vs) (ha : After wr W) : Calls Try.prog 51 #[ptr rb, v, u] W (MPost W rb (2001 + 4 * FT.size f) (FT.ev f xs s)) := by
  have hrb : rb < wr.heap.size := hs.lt
  obtain ⟨ao, c, rfl⟩ := o_slice_len ho
  have := (ih W rb s false v _ xs _ _ _ hf (hA.after ha) hr (hs.after ha) (by omega) rfl).2 rfl hs2 (ints_own xs hn hvs ho hrb) hl hx
  rwa [FT.mv_eq f xs s hx] at this

theorem sv_r_at (w0 : World) (S : Nat) (f g : FT) (v0 : Value) (hk : KidsV w0 S v0 [f, g]) (ihf : VK w0 S f) (ihg : VK w0 S g) (hgf : FT.arity g = FT.arity f + 2) (h3 : FT.arity g ≤ 3)
    (w : World) (rb s b o cap n0 : Nat) (rest : List Nat) (sv2 : Value) (hA : Agree w0 w S) (hr : w0.heap.size ≤ rb) (hm : MSt w rb s false) (hs : s ≤ 2000) (h2 : ¬ 2000 < s + 1) (hv : IntsV w rb (.slice (some ⟨b, o, none⟩) (rest.length + 1) cap) (n0 :: rest)) (hl : rest.length = FT.arity f) (haz : ∀ a ∈ n0 :: rest, a ≤ 1000)
    (hmc0 : rest.length + 1 ≤ cap) (hsv2 : (cap = 1 ∧ sv2 = .slice (some ⟨b, o, none⟩) rest.length 0) ∨ (¬ cap = 1 ∧ sv2 = .slice (some ⟨b, o + 1, none⟩) rest.length (cap - 1))) (hiv2 : IntsV w rb sv2 rest) (ar : Int) (N : Nat) (hNf : 2001 + 4 * FT.size f ≤ N) (hNg : 2001 + 4 * FT.size g ≤ N) (hNs : N ≤ 50000) :
    Calls Try.prog 51 #[ptr rb, .agg #[str [114], v0, .int .i64 ar], .slice (some ⟨b, o, none⟩) (rest.length + 1) cap] w (MPost w rb N (evRec f g (n0 :: rest) (s + 1))) := by
  obtain ⟨kb, kcap, fo, fn, fc, rfl, hkf, hcf⟩ := hk.fix 0 (by simp)
  obtain ⟨kb', kcap', go, gn, gc, hvv, hkg, hcg⟩ := hk.fix 1 (by simp)
  injection hvv with e1 e2 e3
  injection e1 with e1
  injection e1 with e1 e4
  subst e1
  clear e2 e3 e4
  simp only [List.getElem_cons_zero, List.getElem_cons_succ] at hkf hkg hcf hcg
  simp only [Nat.zero_mul, Nat.zero_add, Nat.one_mul, Nat.reduceAdd] at hcf hcg
  have p0 : ∀ W, GB w rb W → W.cell? ⟨kb, 0, none⟩ = some (str (FT.atomOf f)) := fun W hW => (hcf W (hA.grown hW hr)).1
  have p1 : ∀ W, GB w rb W → W.cell? ⟨kb, 1, none⟩ = some (.slice fo fn fc) := fun W hW => (hcf W (hA.grown hW hr)).2.1
  have p2 : ∀ W, GB w rb W → W.cell? ⟨kb, 2, none⟩ = some (.int .i64 (FT.arity f : Nat)) := fun W hW => (hcf W (hA.grown hW hr)).2.2
  have p3 : ∀ W, GB w rb W → W.cell? ⟨kb, 3, none⟩ = some (str (FT.atomOf g)) := fun W hW => (hcg W (hA.grown hW hr)).1
  have p4 : ∀ W, GB w rb W → W.cell? ⟨kb, 4, none⟩ = some (.slice go gn gc) := fun W hW => (hcg W (hA.grown hW hr)).2.1
  have p5 : ∀ W, GB w rb W → W.cell? ⟨kb, 5, none⟩ = some (.int .i64 (FT.arity g : Nat)) := fun W hW => (hcg W (hA.grown hW hr)).2.2
  have cn : ∀ w', GB w rb w' → w'.cell? ⟨b, o, none⟩ = some (.int .i64 (n0 : Nat)) := fun w' hg => by
    rcases IntsV.grown hv hg with ⟨h, _⟩ | ⟨b', o', cap', hv, hl, hne, hb, hc⟩
    · cases h
    · injection hv with e1 e2 e3
      injection e1 with e1
      injection e1 with e1 e4
      subst e1
      subst e4
      exact hc 0 (by simp)
  have hlen2 : ([f, g] : List FT).length = 2 := rfl
  rw [hlen2]
  have hqr : w.heap.size ≠ rb := by have := hm.lt; omega
  obtain ⟨W1, hW1, hm1, hgw1, hh, c0, f0, d0, d1, f1⟩ := ms_ahead hm (.cells #[str [114], .slice (some ⟨kb, 0, none⟩) 2 kcap, .int .i64 ar] 65)
  have t0 : W1.cell? ⟨w.heap.size, 0, none⟩ = some (str [114]) := cell_of_heap (i := 0) hh
  have t1 : ∀ W, GB W1 rb W → W.cell? ⟨w.heap.size, 1, none⟩ = some (.slice (some ⟨kb, 0, none⟩) 2 kcap) := fun W hW => grown_cell' (cell_of_heap (i := 1) hh) hqr hW
  have hgw : ∀ W, GB W1 rb W → GB w rb W := fun W hW => GB.trans hgw1 hW
  have hself1 := GB.refl W1 rb
  obtain ⟨R, hR⟩ : ∃ R, R = evRec f g (n0 :: rest) (s + 1) := ⟨_, rfl⟩
  rw [← hR]
  have hRe : R = match FT.ev f rest (s + 1) with | none => none | some (v, s1) => FT.loopR (FT.ev g) rest n0 0 v s1 := hR
  obtain ⟨m, hmm⟩ : ∃ m, m = rest.length := ⟨_, rfl⟩
  have hlg : m + 2 = FT.arity g := by omega
  have hm1' : m ≤ 1 := by omega
  have hmc : m + 1 ≤ cap := by omega
  have hmi : (1 : Int) ≤ (m : Int) + 1 := by omega
  have h2' : ¬ (2000 : Int) < (s : Int) + 1 := by omega
  have hn0 : n0 ≤ 1000 := haz n0 (by simp)
  obtain ⟨so, sn, sc, hsv⟩ : ∃ so sn sc, sv2 = .slice so sn sc := by
    obtain ⟨a, c, h⟩ := hiv2.form
    exact ⟨_, _, _, h⟩
  have hfr := FT.ev_runs f rest (s + 1)
  have hfirst : ∀ W, GB W1 rb W → MSt W rb (s + 1) false → Calls Try.prog 51 #[ptr rb, .agg #[str (FT.atomOf f), .slice fo fn fc, .int .i64 (FT.arity f : Nat)], sv2] W fun e w1 => W.grownBy w1 (some rb) ∧ ∃ (x : Int) (s' : Nat) (bad' : Bool), e = .returned (.int .i64 x) ∧ MSt w1 rb s' bad' ∧ s' ≤ 60000 ∧
      (bad' = true → R = none ∧ s' ≤ N) ∧ (bad' = false → ∃ v : Nat, v ≤ 1000 ∧ x = v ∧ s' ≤ 2000 ∧ R = FT.loopR (FT.ev g) rest n0 0 v s') := fun W hW hmW => by
    have hr1 : ∀ a ∈ rest, a ≤ 1000 := fun a h => haz a (by simp [h])
    have := (ihf W rb (s + 1) false _ sv2 rest so sn sc hkf (hA.grown (hgw W hW) hr) hr hmW (by omega) hsv).2 rfl (by omega) (hiv2.grown (hgw W hW)) hl hr1
    rw [FT.mv_eq f rest (s + 1) hr1] at this
    refine this.mono ?_
    rintro e w1 ⟨hg1, x, rfl, hx⟩
    cases hev : FT.ev f rest (s + 1) with
    | none =>
      rw [hev] at hx hRe
      obtain ⟨s', hs', hst⟩ := hx
      exact ⟨hg1, x, s', true, rfl, hst, by omega, (fun _ => ⟨hRe, by omega⟩), fun h => by cases h⟩
    | some p =>
      obtain ⟨v, s1⟩ := p
      have hb := hfr.small _ _ hev
      rw [hev] at hx hRe
      obtain ⟨rfl, hst⟩ := hx
      exact ⟨hg1, _, s1, false, rfl, hst, by omega, (fun h => by cases h), fun _ => ⟨v, hb.1, rfl, hb.2.2, hRe⟩⟩
  have hun : Try.prog.underlying 32 = some (.slice 3) := by kernel_rfl
  obtain ⟨i0, hi0, hz0, hz1, hz2⟩ : ∃ i, (Try.prog).info? 3 = some i ∧ i.zero = some (.int .i64 0) ∧ i.size = 1 ∧ i.bytes = 8 := ⟨_, rfl, rfl, rfl, rfl⟩
  have hone := one_ints rest
  have hnl : (intL rest).length = m := by simp [intL, hmm]
  have T0 := Lib.hid t0
  have q0 : ∀ W, GB W1 rb W → W.cell? ⟨kb, 0, none⟩ = some (str (FT.atomOf f)) := fun W hW => p0 W (hgw W hW)
  have q1 : ∀ W, GB W1 rb W → W.cell? ⟨kb, 1, none⟩ = some (.slice fo fn fc) := fun W hW => p1 W (hgw W hW)
  have q2 : ∀ W, GB W1 rb W → W.cell? ⟨kb, 2, none⟩ = some (.int .i64 (FT.arity f : Nat)) := fun W hW => p2 W (hgw W hW)
  rw [hW1] at t0
  rw [← hmm] at hsv2 ⊢
  have HM := Lib.hid hmm
  have HLG := Lib.hid hlg
  have HRE := Lib.hid hRe
  have HIG := Lib.hid ihg
  have HKG := Lib.hid hkg
  have HA := Lib.hid hA
  have HV := Lib.hid hiv2
  have HAZ := Lib.hid haz
  have HCN := Lib.hid cn
  have HONE := Lib.hid hone
  have HNL := Lib.hid hnl
  have HW1 := Lib.hid hW1
  have HM1 := Lib.hid hm1
  have HFIRST := Lib.hid hfirst
  have HGW1 := Lib.hid hgw1
  have HP := Lib.hid (And.intro p3 (And.intro p4 p5))
  have HQR := Lib.hid hqr
  have HT1 := Lib.hid (show ∀ W, GB W1 rb W → W.cell? ⟨w.heap.size, 1, none⟩ = some (.slice (some ⟨kb, 0, none⟩) 2 kcap) from fun W hW => grown_cell' (cell_of_heap (i := 1) hh) hqr hW)
  clear hR hRe hkf hkg ihf ihg hA hv haz hl hmm hlg hone hnl hgf h3 hiv2 hk hm hcf hcg hsv hmc0 hW1 hm1 hgw1 p0 p1 p2 p3 p4 p5 cn hqr hh h2 hgw hfr hfirst
  rcases hsv2 with ⟨hc1, rfl⟩ | ⟨hc1, rfl⟩
  · have hm0 : m = 0 := by omega
    subst hm0
    subst hc1
    go_enter Try.func51, Try.ntmps51
    go_wp2_with fail
    rw [← HW1.out]
    go_region_held3 (fun W' => GB W1 rb W') (first | assumption | exact hself1.drew | exact GB.drew (by assumption) | exact GB.alloc (by assumption) _ | exact GB.drew (GB.alloc (by assumption) _))
      (first
        | (go_at_call 51; refine (HFIRST.out _ (GB.drew hself1) HM1.out).mono ?_; rintro e w1 ⟨hg1, x1, s1, bad1, rfl, hst1, hs1, hbad1, hgood1⟩; have hb1 : GB W1 rb w1 := GB.trans (GB.drew hself1) hg1; have HST1 := Lib.hid hst1; have HBAD1 := Lib.hid hbad1; have HGOOD1 := Lib.hid hgood1; clear hst1 hbad1 hgood1))
    all_goals
      clear t0 t1 q0 q1 q2 c0 f0 d0 d1 f1
      go_wp2_with fail
      go_loopw [9, 10] (fun out i wr => ∃ (k : Nat) (x : Int) (sk : Nat) (bad : Bool), out = .int .i64 x ∧ i = .int .i64 (k : Nat) ∧ k ≤ n0 ∧ sk ≤ 60000 ∧ Hid (MSt wr rb sk bad) ∧ Hid (GB W1 rb wr) ∧ Hid (bad = true → R = none ∧ sk ≤ N) ∧ Hid (bad = false → ∃ v : Nat, v ≤ 1000 ∧ x = v ∧ sk ≤ 2000 ∧ R = FT.loopR (FT.ev g) rest (n0 - k) k v sk)) (fun _ i _ => n0 - (intOf i).toNat)
      case atStart => exact ⟨0, x1, s1, bad1, rfl, rfl, by omega, hs1, HST1.out, hb1, HBAD1.out, HGOOD1.out⟩
      case round =>
        obtain ⟨k, x, sk, bad, rfl, rfl, hk, hsk, HST, HGR, HBAD, HGOOD⟩ := hrel
        have hgwr : GB w rb wr := GB.trans HGW1.out HGR.out
        have HGWR := Lib.hid hgwr
        have cnr := HCN.out wr hgwr
        have b1 := HT1.out wr HGR.out
        have r1 := HST.out.c1
        cases bad with
        | true =>
          obtain ⟨hR0, hskN⟩ := HBAD.out rfl
          have HN0 := Lib.hid hR0
          clear hR0
          by_cases hlt : k < n0
          · have hltI : (k : Int) < (n0 : Int) := by omega
            go_wp2_with fail
            go_ret
            exact ⟨HGWR.out, x, rfl, by rw [HN0.out]; exact ⟨sk, hskN, HST.out⟩⟩
          · have hltI : ¬ (k : Int) < (n0 : Int) := by omega
            go_wp2_with fail
            go_ret
            exact ⟨HGWR.out, x, rfl, by rw [HN0.out]; exact ⟨sk, hskN, HST.out⟩⟩
        | false =>
          obtain ⟨v, hv1, rfl, hsk2, hRk⟩ := HGOOD.out rfl
          have HRK := Lib.hid hRk
          clear hRk
          by_cases hlt : k < n0
          · have hltI : (k : Int) < (n0 : Int) := by omega
            have hself := GB.refl wr rb
            obtain ⟨p3, p4, p5⟩ := HP.out
            have q3 : ∀ W, GB wr rb W → W.cell? ⟨kb, 3, none⟩ = some (str (FT.atomOf g)) := fun W hW => p3 W (GB.trans hgwr hW)
            have q4 : ∀ W, GB wr rb W → W.cell? ⟨kb, 4, none⟩ = some (.slice go gn gc) := fun W hW => p4 W (GB.trans hgwr hW)
            have q5 : ∀ W, GB wr rb W → W.cell? ⟨kb, 5, none⟩ = some (.int .i64 (FT.arity g : Nat)) := fun W hW => p5 W (GB.trans hgwr hW)
            have b1' : ∀ W, GB wr rb W → W.cell? ⟨w.heap.size, 1, none⟩ = some (.slice (some ⟨kb, 0, none⟩) 2 kcap) := fun W hW => HT1.out W (GB.trans HGR.out hW)
            have hcall0 := row_callS HIG.out HKG.out wr rb sk (HA.out.grown hgwr hr) hr HST.out hsk2 (k :: v :: rest) (by simp only [List.length_cons, ← HM.out]; exact HLG.out) (fun a h => by
              rcases List.mem_cons.1 h with rfl | h
              · omega
              · rcases List.mem_cons.1 h with rfl | h
                · omega
                · exact HAZ.out a (List.mem_cons_of_mem _ h))
            have hruns := FT.ev_runs g (k :: v :: rest) sk
            have hstep := HRK.out.trans (loopR_step g rest n0 k v sk hlt)
            have hcall : ∀ (W : World) (u : Value) (n : Nat) (vs : List Value), n = (k :: v :: rest).length → vs = intL (k :: v :: rest) → W.ownsRow wr.heap.size 3 1 u n vs → After wr W → Calls Try.prog 51 #[ptr rb, .agg #[str (FT.atomOf g), .slice go gn gc, .int .i64 (FT.arity g : Nat)], u] W fun e w1 => W.grownBy w1 (some rb) ∧ ∃ (x : Int) (s' : Nat) (bad' : Bool), e = .returned (.int .i64 x) ∧ MSt w1 rb s' bad' ∧ s' ≤ 60000 ∧
                (bad' = true → R = none ∧ s' ≤ N) ∧ (bad' = false → ∃ v : Nat, v ≤ 1000 ∧ x = v ∧ s' ≤ 2000 ∧ R = FT.loopR (FT.ev g) rest (n0 - (k + 1)) (k + 1) v s') := fun W u n vs h1 h2 h3 h4 => by
              refine (hcall0 W u n vs h1 h2 h3 h4).mono ?_
              rintro e w1 ⟨hg1, x, rfl, hx⟩
              cases hev : FT.ev g (k :: v :: rest) sk with
              | none =>
                rw [hev] at hx hstep
                obtain ⟨s', hs', hst⟩ := hx
                exact ⟨hg1, x, s', true, rfl, hst, by omega, (fun _ => ⟨hstep, by omega⟩), fun h => by cases h⟩
              | some p =>
                obtain ⟨y, s2⟩ := p
                have hb := hruns.small _ _ hev
                rw [hev] at hx hstep
                obtain ⟨rfl, hst⟩ := hx
                exact ⟨hg1, _, s2, false, rfl, hst, by omega, (fun h => by cases h), fun _ => ⟨y, hb.1, rfl, hb.2.2, hstep⟩⟩
            have hwr : After wr ((wr.alloc (.cells #[.int .i64 (k : Nat), .int .i64 (v : Nat)] 3)).drew) := After.drew (After.new _ _)
            have hsrc := src_ints (HV.out.grown hgwr) hwr
            have hl2 : 2 + (intL rest).length = (k :: v :: rest).length := by simp only [intL, List.length_map, List.length_cons]; omega
            have hl3 : [Value.int .i64 (k : Nat), Value.int .i64 (v : Nat)] ++ intL rest = intL (k :: v :: rest) := rfl
            have hmax : 2 + (intL rest).length ≤ maxLen := by rw [HNL.out]; unfold maxLen; omega
            have hm8 : (2 + (intL rest).length) * 8 ≤ 140737488355328 := by rw [HNL.out]; omega
            have hsz : wr.heap.size ≤ ((wr.alloc (.cells #[.int .i64 (k : Nat), .int .i64 (v : Nat)] 3)).drew).heap.size := hwr.size
            have HSRC := Lib.hid hsrc
            have HL2 := Lib.hid hl2
            have HL3 := Lib.hid hl3
            have HMAX := Lib.hid hmax
            have HM8 := Lib.hid hm8
            have HCALL := Lib.hid hcall
            have hgwr' := hgwr
            clear hcall0 hcall hsrc hl2 hl3 hstep hmax hm8 hruns p3 p4 p5 hgwr hgwr'
            go_wp2_with fail
            go_region_held3 (fun W' => GB wr rb W') (first | assumption | exact hself.drew | exact GB.drew (by assumption) | exact GB.alloc (by assumption) _ | exact GB.drew (GB.alloc (by assumption) _))
              (first
                | (refine step_app _ (by rfl) _ _ 32 (by rfl) wr.heap.size 3 i0 (.int .i64 0) 8 hun hi0 hz0 hz1 hz2 rfl _ 2 [.int .i64 (k : Nat), .int .i64 (v : Nat)] (by rfl) ((owns_two wr (.int .i64 (k : Nat)) (.int .i64 (v : Nat)) _).drew) _ (intL rest) (by rfl) HSRC.out HONE.out HMAX.out HM8.out hsz ?_; intro v2 w2 ho2 hg2; obtain ⟨co, cn, cc, rfl⟩ := o_slice ho2; have ha2 := after_own2 (undrew hg2); have HA2 := Lib.hid ha2; have HO2 := Lib.hid ho2; have hb2 : GB wr rb w2 := GB.after ha2 rb; clear ho2 hg2 ha2)
                | (go_at_call 51; refine (HCALL.out _ _ _ _ HL2.out HL3.out HO2.out HA2.out).mono ?_; rintro e w3 ⟨hg3, x3, s3, bad3, rfl, hst3, hs3, hbad3, hgood3⟩; have hb3 : GB wr rb w3 := GB.trans hb2 hg3; have HST3 := Lib.hid hst3; have HBAD3 := Lib.hid hbad3; have HGOOD3 := Lib.hid hgood3; clear hst3 hbad3 hgood3))
            all_goals
              go_wp2_with fail
              go_roundw
              case rel => exact ⟨k + 1, x3, s3, bad3, rfl, by go_num, by omega, hs3, HST3.out, GB.trans HGR.out hb3, HBAD3.out, HGOOD3.out⟩
              case measure => simp [intOf]; omega
          · have hltI : ¬ (k : Int) < (n0 : Int) := by omega
            have HN0 := Lib.hid (show R = some (v, sk) by rw [HRK.out, show n0 - k = 0 by omega]; rfl)
            go_wp2_with fail
            go_ret
            exact ⟨HGWR.out, v, rfl, by rw [HN0.out]; exact ⟨rfl, HST.out⟩⟩
  · go_enter Try.func51, Try.ntmps51
    go_wp2_with fail
    rw [← HW1.out]
    go_region_held3 (fun W' => GB W1 rb W') (first | assumption | exact hself1.drew | exact GB.drew (by assumption) | exact GB.alloc (by assumption) _ | exact GB.drew (GB.alloc (by assumption) _))
      (first
        | (go_at_call 51; refine (HFIRST.out _ (GB.drew hself1) HM1.out).mono ?_; rintro e w1 ⟨hg1, x1, s1, bad1, rfl, hst1, hs1, hbad1, hgood1⟩; have hb1 : GB W1 rb w1 := GB.trans (GB.drew hself1) hg1; have HST1 := Lib.hid hst1; have HBAD1 := Lib.hid hbad1; have HGOOD1 := Lib.hid hgood1; clear hst1 hbad1 hgood1))
    all_goals
      clear t0 t1 q0 q1 q2 c0 f0 d0 d1 f1
      go_wp2_with fail
      go_loopw [9, 10] (fun out i wr => ∃ (k : Nat) (x : Int) (sk : Nat) (bad : Bool), out = .int .i64 x ∧ i = .int .i64 (k : Nat) ∧ k ≤ n0 ∧ sk ≤ 60000 ∧ Hid (MSt wr rb sk bad) ∧ Hid (GB W1 rb wr) ∧ Hid (bad = true → R = none ∧ sk ≤ N) ∧ Hid (bad = false → ∃ v : Nat, v ≤ 1000 ∧ x = v ∧ sk ≤ 2000 ∧ R = FT.loopR (FT.ev g) rest (n0 - k) k v sk)) (fun _ i _ => n0 - (intOf i).toNat)
      case atStart => exact ⟨0, x1, s1, bad1, rfl, rfl, by omega, hs1, HST1.out, hb1, HBAD1.out, HGOOD1.out⟩
      case round =>
        obtain ⟨k, x, sk, bad, rfl, rfl, hk, hsk, HST, HGR, HBAD, HGOOD⟩ := hrel
        have hgwr : GB w rb wr := GB.trans HGW1.out HGR.out
        have HGWR := Lib.hid hgwr
        have cnr := HCN.out wr hgwr
        have b1 := HT1.out wr HGR.out
        have r1 := HST.out.c1
        cases bad with
        | true =>
          obtain ⟨hR0, hskN⟩ := HBAD.out rfl
          have HN0 := Lib.hid hR0
          clear hR0
          by_cases hlt : k < n0
          · have hltI : (k : Int) < (n0 : Int) := by omega
            go_wp2_with fail
            go_ret
            exact ⟨HGWR.out, x, rfl, by rw [HN0.out]; exact ⟨sk, hskN, HST.out⟩⟩
          · have hltI : ¬ (k : Int) < (n0 : Int) := by omega
            go_wp2_with fail
            go_ret
            exact ⟨HGWR.out, x, rfl, by rw [HN0.out]; exact ⟨sk, hskN, HST.out⟩⟩
        | false =>
          obtain ⟨v, hv1, rfl, hsk2, hRk⟩ := HGOOD.out rfl
          have HRK := Lib.hid hRk
          clear hRk
          by_cases hlt : k < n0
          · have hltI : (k : Int) < (n0 : Int) := by omega
            have hself := GB.refl wr rb
            obtain ⟨p3, p4, p5⟩ := HP.out
            have q3 : ∀ W, GB wr rb W → W.cell? ⟨kb, 3, none⟩ = some (str (FT.atomOf g)) := fun W hW => p3 W (GB.trans hgwr hW)
            have q4 : ∀ W, GB wr rb W → W.cell? ⟨kb, 4, none⟩ = some (.slice go gn gc) := fun W hW => p4 W (GB.trans hgwr hW)
            have q5 : ∀ W, GB wr rb W → W.cell? ⟨kb, 5, none⟩ = some (.int .i64 (FT.arity g : Nat)) := fun W hW => p5 W (GB.trans hgwr hW)
            have b1' : ∀ W, GB wr rb W → W.cell? ⟨w.heap.size, 1, none⟩ = some (.slice (some ⟨kb, 0, none⟩) 2 kcap) := fun W hW => HT1.out W (GB.trans HGR.out hW)
            have hcall0 := row_callS HIG.out HKG.out wr rb sk (HA.out.grown hgwr hr) hr HST.out hsk2 (k :: v :: rest) (by simp only [List.length_cons, ← HM.out]; exact HLG.out) (fun a h => by
              rcases List.mem_cons.1 h with rfl | h
              · omega
              · rcases List.mem_cons.1 h with rfl | h
                · omega
                · exact HAZ.out a (List.mem_cons_of_mem _ h))
            have hruns := FT.ev_runs g (k :: v :: rest) sk
            have hstep := HRK.out.trans (loopR_step g rest n0 k v sk hlt)
            have hcall : ∀ (W : World) (u : Value) (n : Nat) (vs : List Value), n = (k :: v :: rest).length → vs = intL (k :: v :: rest) → W.ownsRow wr.heap.size 3 1 u n vs → After wr W → Calls Try.prog 51 #[ptr rb, .agg #[str (FT.atomOf g), .slice go gn gc, .int .i64 (FT.arity g : Nat)], u] W fun e w1 => W.grownBy w1 (some rb) ∧ ∃ (x : Int) (s' : Nat) (bad' : Bool), e = .returned (.int .i64 x) ∧ MSt w1 rb s' bad' ∧ s' ≤ 60000 ∧
                (bad' = true → R = none ∧ s' ≤ N) ∧ (bad' = false → ∃ v : Nat, v ≤ 1000 ∧ x = v ∧ s' ≤ 2000 ∧ R = FT.loopR (FT.ev g) rest (n0 - (k + 1)) (k + 1) v s') := fun W u n vs h1 h2 h3 h4 => by
              refine (hcall0 W u n vs h1 h2 h3 h4).mono ?_
              rintro e w1 ⟨hg1, x, rfl, hx⟩
              cases hev : FT.ev g (k :: v :: rest) sk with
              | none =>
                rw [hev] at hx hstep
                obtain ⟨s', hs', hst⟩ := hx
                exact ⟨hg1, x, s', true, rfl, hst, by omega, (fun _ => ⟨hstep, by omega⟩), fun h => by cases h⟩
              | some p =>
                obtain ⟨y, s2⟩ := p
                have hb := hruns.small _ _ hev
                rw [hev] at hx hstep
                obtain ⟨rfl, hst⟩ := hx
                exact ⟨hg1, _, s2, false, rfl, hst, by omega, (fun h => by cases h), fun _ => ⟨y, hb.1, rfl, hb.2.2, hstep⟩⟩
            have hwr : After wr ((wr.alloc (.cells #[.int .i64 (k : Nat), .int .i64 (v : Nat)] 3)).drew) := After.drew (After.new _ _)
            have hsrc := src_ints (HV.out.grown hgwr) hwr
            have hl2 : 2 + (intL rest).length = (k :: v :: rest).length := by simp only [intL, List.length_map, List.length_cons]; omega
            have hl3 : [Value.int .i64 (k : Nat), Value.int .i64 (v : Nat)] ++ intL rest = intL (k :: v :: rest) := rfl
            have hmax : 2 + (intL rest).length ≤ maxLen := by rw [HNL.out]; unfold maxLen; omega
            have hm8 : (2 + (intL rest).length) * 8 ≤ 140737488355328 := by rw [HNL.out]; omega
            have hsz : wr.heap.size ≤ ((wr.alloc (.cells #[.int .i64 (k : Nat), .int .i64 (v : Nat)] 3)).drew).heap.size := hwr.size
            have HSRC := Lib.hid hsrc
            have HL2 := Lib.hid hl2
            have HL3 := Lib.hid hl3
            have HMAX := Lib.hid hmax
            have HM8 := Lib.hid hm8
            have HCALL := Lib.hid hcall
            have hgwr' := hgwr
            clear hcall0 hcall hsrc hl2 hl3 hstep hmax hm8 hruns p3 p4 p5 hgwr hgwr'
            go_wp2_with fail
            go_region_held3 (fun W' => GB wr rb W') (first | assumption | exact hself.drew | exact GB.drew (by assumption) | exact GB.alloc (by assumption) _ | exact GB.drew (GB.alloc (by assumption) _))
              (first
                | (refine step_app _ (by rfl) _ _ 32 (by rfl) wr.heap.size 3 i0 (.int .i64 0) 8 hun hi0 hz0 hz1 hz2 rfl _ 2 [.int .i64 (k : Nat), .int .i64 (v : Nat)] (by rfl) ((owns_two wr (.int .i64 (k : Nat)) (.int .i64 (v : Nat)) _).drew) _ (intL rest) (by rfl) HSRC.out HONE.out HMAX.out HM8.out hsz ?_; intro v2 w2 ho2 hg2; obtain ⟨co, cn, cc, rfl⟩ := o_slice ho2; have ha2 := after_own2 (undrew hg2); have HA2 := Lib.hid ha2; have HO2 := Lib.hid ho2; have hb2 : GB wr rb w2 := GB.after ha2 rb; clear ho2 hg2 ha2)
                | (go_at_call 51; refine (HCALL.out _ _ _ _ HL2.out HL3.out HO2.out HA2.out).mono ?_; rintro e w3 ⟨hg3, x3, s3, bad3, rfl, hst3, hs3, hbad3, hgood3⟩; have hb3 : GB wr rb w3 := GB.trans hb2 hg3; have HST3 := Lib.hid hst3; have HBAD3 := Lib.hid hbad3; have HGOOD3 := Lib.hid hgood3; clear hst3 hbad3 hgood3))
            all_goals
              go_wp2_with fail
              go_roundw
              case rel => exact ⟨k + 1, x3, s3, bad3, rfl, by go_num, by omega, hs3, HST3.out, GB.trans HGR.out hb3, HBAD3.out, HGOOD3.out⟩
              case measure => simp [intOf]; omega
          · have hltI : ¬ (k : Int) < (n0 : Int) := by omega
            have HN0 := Lib.hid (show R = some (v, sk) by rw [HRK.out, show n0 - k = 0 by omega]; rfl)
            go_wp2_with fail
            go_ret
            exact ⟨HGWR.out, v, rfl, by rw [HN0.out]; exact ⟨rfl, HST.out⟩⟩
end Go.Proofs.Ytjomocjlnjgkeaa
