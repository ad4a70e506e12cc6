/-
  The model's l3Value: searches; every function text.
-/
import Derived.Test.YtjomocjlnjgkeaaGreatPkBN
import Derived.Test.YtjomocjlnjgkeaaGreatPkBL
import Derived.Test.YtjomocjlnjgkeaaGreatPkBM
import Derived.Test.YtjomocjlnjgkeaaGreatPkAZ
namespace Go.Proofs.YtjomocjlnjgkeaaGreat
open Go.RowKit

set_option maxHeartbeats 2000000
set_option maxRecDepth 100000

theorem step_app_on {P : Program} (w : World) {ops : Array Oper} {o : Oper} {a : Act} {K : Act → World → Prop} {Q : Exit → Act → World → Prop} {E : Prop} (hw : Region.wanted o (yielded ops a.tmps) = true) (s x : Operand) (t : TypeId)
    (ho : o.op = .call { callee := .builtin .append, args := #[s, x], argTypes := #[t, t] })
    (base : Nat) (e : TypeId) (i : TypeInfo) (z : Value) (bytes : Nat) (ht : P.underlying t = some (.slice e)) (hi : P.info? e = some i) (hz : i.zero = some z)
    (hsize : i.size = 1) (hby : i.bytes = bytes) (hzs : z.cells.size = 1)
    (v : Value) (n : Nat) (xs : List Value) (hs : a.eval s = v) (hown : w.ownsRow base e 1 v n xs) (sv : Value) (news : List Value) (hx : a.eval x = sv) (hsrc : SrcOk w sv news) (h1 : ∀ u ∈ news, u.oneCell' = true)
    (h63 : n + news.length ≤ maxLen) (hbytes : (n + news.length) * bytes ≤ 140737488355328) (hbase : base ≤ w.heap.size)
    (h : ∀ v' w', w'.ownsRow base e 1 v' (n + news.length) (xs ++ news) → w.grownBy w' v.ownBlock → K (a.put o.dst v') w') :
    if Region.wanted o (yielded ops a.tmps) = true then Oper.wp P o a w K Q else E := by
  rw [if_pos hw]
  exact wp_app w s x t ho base e i z bytes ht hi hz hsize hby hzs v n xs hs hown sv news hx hsrc h1 h63 hbytes hbase h

theorem loopN_step (f : FT) (az : List Nat) (k s : Nat) (hk : k ≤ 2000) : FT.loopN (FT.ev f) az (2001 - k) k s = match FT.ev f (k :: az) s with
    | none => none
    | some (v, s') => if v = 0 then some (k, s') else if 1000 < k + 1 then none else FT.loopN (FT.ev f) az (2001 - (k + 1)) (k + 1) s' := by
  rw [show 2001 - k = (2001 - (k + 1)) + 1 by omega]
  rfl

theorem loopN_congr {f f' : List Nat → Nat → Option (Nat × Nat)} (rest : List Nat) (hr : ∀ a ∈ rest, a ≤ 1000) (he : ∀ az s, (∀ a ∈ az, a ≤ 1000) → f' az s = f az s) :
    ∀ (k n s : Nat), n ≤ 1000 → FT.loopN f' rest k n s = FT.loopN f rest k n s
  | 0, _, _, _ => rfl
  | k + 1, n, s, hn => by
    simp only [FT.loopN]
    rw [he (n :: rest) s (by simp; exact ⟨hn, hr⟩)]
    cases hq : f (n :: rest) s with
    | none => rfl
    | some q =>
      obtain ⟨a, b⟩ := q
      simp only
      split
      · rfl
      · split
        · rfl
        · exact loopN_congr rest hr he k (n + 1) b (by omega)

theorem sv_m (w0 : World) (S : Nat) (f : FT) (v0 : Value) (hk : KidsV w0 S v0 [f]) (ihf : VK w0 S f) (h0 : 0 < FT.arity f) (h3 : FT.arity f ≤ 3)
    (w : World) (rb s : Nat) (sv : Value) (az : List Nat) (hA : Agree w0 w S) (hr : w0.heap.size ≤ rb) (hm : MSt w rb s false) (hs : s ≤ 2000) (h2 : ¬ 2000 < s + 1) (hv : IntsV w rb sv az) (hl : az.length + 1 = FT.arity f) (haz : ∀ a ∈ az, a ≤ 1000)
    (ar : Int) (N : Nat) (hNf : 2001 + 4 * FT.size f ≤ N) (hNs : N ≤ 50000) :
    Calls Tryz.prog 40 #[ptr rb, .agg #[str [109], v0, .int .i64 ar], sv] w (MPost w rb N (FT.loopN (FT.ev f) az 2001 0 (s + 1))) := by
  obtain ⟨kb, kcap, fo, fn, fc, rfl, hkf, hcf⟩ := hk.fix 0 (by simp)
  obtain ⟨ao, sc, rfl⟩ := hv.form
  simp only [List.getElem_cons_zero] at hkf hcf
  simp only [Nat.zero_mul, Nat.zero_add] at hcf
  have p0 : ∀ W, GB w rb W → W.cell? ⟨kb, 0, none⟩ = some (str (FT.atomOf f)) := fun W hW => (hcf W (hA.grown hW hr)).1
  have p1 : ∀ W, GB w rb W → W.cell? ⟨kb, 1, none⟩ = some (.slice fo fn fc) := fun W hW => (hcf W (hA.grown hW hr)).2.1
  have p2 : ∀ W, GB w rb W → W.cell? ⟨kb, 2, none⟩ = some (.int .i64 (FT.arity f : Nat)) := fun W hW => (hcf W (hA.grown hW hr)).2.2
  have hlen1 : ([f] : List FT).length = 1 := rfl
  rw [hlen1]
  have hqr : w.heap.size ≠ rb := by have := hm.lt; omega
  obtain ⟨W1, hW1, hm1, hgw1, hh, c0, f0, d0, d1, f1⟩ := ms_ahead hm (.cells #[str [109], .slice (some ⟨kb, 0, none⟩) 1 kcap, .int .i64 ar] 63)
  have t0 : W1.cell? ⟨w.heap.size, 0, none⟩ = some (str [109]) := cell_of_heap (i := 0) hh
  have t1 : ∀ W, GB W1 rb W → W.cell? ⟨w.heap.size, 1, none⟩ = some (.slice (some ⟨kb, 0, none⟩) 1 kcap) := fun W hW => grown_cell' (cell_of_heap (i := 1) hh) hqr hW
  have hgw : ∀ W, GB W1 rb W → GB w rb W := fun W hW => GB.trans hgw1 hW
  have hself1 := GB.refl W1 rb
  obtain ⟨R, hR⟩ : ∃ R, R = FT.loopN (FT.ev f) az 2001 0 (s + 1) := ⟨_, rfl⟩
  rw [← hR]
  obtain ⟨m, hmm⟩ : ∃ m, m = az.length := ⟨_, rfl⟩
  have hm2 : m ≤ 2 := by omega
  have h2' : ¬ (2000 : Int) < (s : Int) + 1 := by omega
  have hun : Tryz.prog.underlying 30 = some (.slice 3) := by kernel_rfl
  obtain ⟨i0, hi0, hz0, hz1, hz2⟩ : ∃ i, (Tryz.prog).info? 3 = some i ∧ i.zero = some (.int .i64 0) ∧ i.size = 1 ∧ i.bytes = 8 := ⟨_, rfl, rfl, rfl, rfl⟩
  have hone := one_ints az
  have hnl : (intL az).length = m := by simp [intL, hmm]
  rw [hW1] at t0
  have hss : s + 1 ≤ 2000 := by omega
  rw [← hmm]
  have HL := Lib.hid hl
  have HM := Lib.hid hmm
  have HR := Lib.hid hR
  have HIF := Lib.hid ihf
  have HKF := Lib.hid hkf
  have HA := Lib.hid hA
  have HV := Lib.hid hv
  have HAZ := Lib.hid haz
  have HONE := Lib.hid hone
  have HNL := Lib.hid hnl
  have HW1 := Lib.hid hW1
  have HM1 := Lib.hid hm1
  have HGW1 := Lib.hid hgw1
  have HP := Lib.hid (And.intro p0 (And.intro p1 p2))
  have HT1 := Lib.hid t1
  clear hR hkf ihf hA hv haz hl hmm hone hnl hk hm hcf hW1 hm1 hgw1 p0 p1 p2 hqr hh h2 hgw h0 h3 t1
  go_enter Tryz.func40, Tryz.ntmps40
  go_wp2_with fail
  rw [← HW1.out]
  clear t0 c0 f0 d0 d1 f1
  go_loopw [11] (fun n wr => ∃ (k : Nat) (sk : Nat) (bad : Bool), n = .int .i64 (k : Nat) ∧ k ≤ 1001 ∧ sk ≤ 60000 ∧ Hid (MSt wr rb sk bad) ∧ Hid (GB W1 rb wr) ∧ Hid (bad = true → R = none ∧ sk ≤ N) ∧ Hid (bad = false → k ≤ 1000 ∧ sk ≤ 2000 ∧ R = FT.loopN (FT.ev f) az (2001 - k) k sk)) (fun n _ => 2000 - (intOf n).toNat)
  case atStart => exact ⟨0, s + 1, false, rfl, by omega, by omega, HM1.out, hself1, (fun h => by cases h), fun _ => ⟨by omega, hss, HR.out⟩⟩
  case round =>
    obtain ⟨k, sk, bad, rfl, hk, hsk, HST, HGR, HBAD, HGOOD⟩ := hrel
    have hgwr : GB w rb wr := GB.trans HGW1.out HGR.out
    have HGWR := Lib.hid hgwr
    have r1 := HST.out.c1
    cases bad with
    | true =>
      obtain ⟨hR0, hskN⟩ := HBAD.out rfl
      have HN0 := Lib.hid hR0
      clear hR0
      go_wp2_with fail
      go_quiet (fail)
      go_wp2_with fail
      go_ret
      exact ⟨GB.trans HGWR.out (grown_drawn wr rb _), (k : Nat), rfl, by rw [HN0.out]; exact ⟨sk, hskN, HST.out⟩⟩
    | false =>
      obtain ⟨hk2, hsk2, hRk⟩ := HGOOD.out rfl
      have HRK := Lib.hid hRk
      clear hRk
      have hself := GB.refl wr rb
      obtain ⟨p0, p1, p2⟩ := HP.out
      have q0 : ∀ W, GB wr rb W → W.cell? ⟨kb, 0, none⟩ = some (str (FT.atomOf f)) := fun W hW => p0 W (GB.trans hgwr hW)
      have q1 : ∀ W, GB wr rb W → W.cell? ⟨kb, 1, none⟩ = some (.slice fo fn fc) := fun W hW => p1 W (GB.trans hgwr hW)
      have q2 : ∀ W, GB wr rb W → W.cell? ⟨kb, 2, none⟩ = some (.int .i64 (FT.arity f : Nat)) := fun W hW => p2 W (GB.trans hgwr hW)
      have b1' : ∀ W, GB wr rb W → W.cell? ⟨w.heap.size, 1, none⟩ = some (.slice (some ⟨kb, 0, none⟩) 1 kcap) := fun W hW => HT1.out W (GB.trans HGR.out hW)
      have hcall0 := row_callS HIF.out HKF.out wr rb sk (HA.out.grown hgwr hr) hr HST.out hsk2 (k :: az) (by rw [List.length_cons]; exact HL.out) (fun a h => by
        rcases List.mem_cons.1 h with rfl | h
        · exact hk2
        · exact HAZ.out a h)
      have hruns := FT.ev_runs f (k :: az) sk
      have hstep := HRK.out.trans (loopN_step f az k sk (by omega))
      have hcall : ∀ (W : World) (u : Value) (n : Nat) (vs : List Value), n = (k :: az).length → vs = intL (k :: az) → W.ownsRow wr.heap.size 3 1 u n vs → After wr W → Calls Tryz.prog 40 #[ptr rb, .agg #[str (FT.atomOf f), .slice fo fn fc, .int .i64 (FT.arity f : Nat)], u] W fun e w1 => W.grownBy w1 (some rb) ∧ ∃ (x : Int) (s' : Nat) (bad' : Bool), e = .returned (.int .i64 x) ∧ MSt w1 rb s' bad' ∧ s' ≤ 60000 ∧
          (bad' = true → R = none ∧ s' ≤ N) ∧ (bad' = false → s' ≤ 2000 ∧ (x = 0 → R = some (k, s')) ∧ (x ≠ 0 → if 1000 < k + 1 then R = none else R = FT.loopN (FT.ev f) az (2001 - (k + 1)) (k + 1) s')) := fun W u n vs h1 h2 h3 h4 => by
        refine (hcall0 W u n vs h1 h2 h3 h4).mono ?_
        rintro e w1 ⟨hg1, x, rfl, hx⟩
        cases hev : FT.ev f (k :: az) sk with
        | none =>
          rw [hev] at hx hstep
          obtain ⟨s', hs', hst⟩ := hx
          exact ⟨hg1, x, s', true, rfl, hst, by omega, (fun _ => ⟨hstep, by omega⟩), fun h => by cases h⟩
        | some p =>
          obtain ⟨y, s2⟩ := p
          have hb := hruns.small _ _ hev
          rw [hev] at hx hstep
          obtain ⟨rfl, hst⟩ := hx
          refine ⟨hg1, _, s2, false, rfl, hst, by omega, (fun h => by cases h), fun _ => ⟨hb.2.2, fun h => ?_, fun h => ?_⟩⟩
          · rw [hstep]; simp only; rw [if_pos (by omega)]
          · rw [hstep]; simp only; rw [if_neg (show ¬ y = 0 by omega)]; split <;> rfl
      have hwr : After wr ((wr.alloc (.cells #[.int .i64 (k : Nat)] 3)).drew) := After.drew (After.new _ _)
      have hsrc := src_ints (HV.out.grown hgwr) hwr
      have hl2 : 1 + (intL az).length = (k :: az).length := by simp only [intL, List.length_map, List.length_cons]; omega
      have hl3 : [Value.int .i64 (k : Nat)] ++ intL az = intL (k :: az) := rfl
      have hmax : 1 + (intL az).length ≤ maxLen := by rw [HNL.out]; unfold maxLen; omega
      have hm8 : (1 + (intL az).length) * 8 ≤ 140737488355328 := by rw [HNL.out]; omega
      have hsz : wr.heap.size ≤ ((wr.alloc (.cells #[.int .i64 (k : Nat)] 3)).drew).heap.size := hwr.size
      rw [← HM.out] at hsrc
      have HSRC := Lib.hid hsrc
      have HL2 := Lib.hid hl2
      have HL3 := Lib.hid hl3
      have HMAX := Lib.hid hmax
      have HM8 := Lib.hid hm8
      have HCALL := Lib.hid hcall
      clear hcall0 hcall hsrc hl2 hl3 hstep hmax hm8 hruns p0 p1 p2 hgwr
      go_wp2_with fail
      have BO : GB wr rb ((wr.alloc (.cells #[.int .i64 (k : Nat)] 3)).drew) := GB.drew (GB.alloc hself _)
      have xa := q0 _ (GB.drew hself)
      have xb := q1 _ (GB.drew hself)
      have xc := q2 _ (GB.drew hself)
      have xd := b1' _ (GB.drew hself)
      have ya := q0 _ BO
      have yb := q1 _ BO
      have yc := q2 _ BO
      have yd := b1' _ BO
      go_region_law (first
        | (refine step_app_on _ (by rfl) _ _ 30 (by rfl) wr.heap.size 3 i0 (.int .i64 0) 8 hun hi0 hz0 hz1 hz2 rfl _ 1 [.int .i64 (k : Nat)] (by rfl) ((owns_built wr (.int .i64 (k : Nat)) _).drew) _ (intL az) (by rfl) HSRC.out HONE.out HMAX.out HM8.out hsz ?_; intro v2 w2 ho2 hg2; obtain ⟨co, cn, cc, rfl⟩ := o_slice ho2; have ha2 := after_own2 (undrew hg2); have HA2 := Lib.hid ha2; have HO2 := Lib.hid ho2; have hb2 : GB wr rb w2 := GB.after ha2 rb; have za := q0 _ hb2; have zb := q1 _ hb2; have zc := q2 _ hb2; have zd := b1' _ hb2; clear ho2 hg2 ha2)
        | (go_simp; go_at_call 40; refine (HCALL.out _ _ _ _ HL2.out HL3.out HO2.out HA2.out).mono ?_; rintro e w3 ⟨hg3, x3, s3, bad3, rfl, hst3, hs3, hbad3, hgood3⟩; have hb3 : GB wr rb w3 := GB.trans hb2 hg3; have HST3 := Lib.hid hst3; have HBAD3 := Lib.hid hbad3; have HGOOD3 := Lib.hid hgood3; clear hst3 hbad3 hgood3))
      all_goals
        have r3 := HST3.out.c1
        have fr3 := HST3.out.fr 1
        have hwk : GB w rb w3 := GB.trans HGWR.out hb3
        have HWK := Lib.hid hwk
        have HGK := Lib.hid (GB.trans HGR.out hb3)
        clear hwk
        by_cases hx0 : x3 = 0
        · subst hx0
          go_wp2_with fail
          go_ret
          refine ⟨HWK.out, (k : Nat), rfl, ?_⟩
          cases bad3 with
          | true =>
            obtain ⟨q1, q2⟩ := HBAD3.out rfl
            rw [q1]
            exact ⟨s3, q2, HST3.out⟩
          | false =>
            obtain ⟨q1, q2, _⟩ := HGOOD3.out rfl
            rw [q2 (by trivial)]
            exact ⟨rfl, HST3.out⟩
        · have hxb : (x3 == 0) = false := by rw [beq_eq_false_iff_ne]; exact hx0
          have hki : (k : Int) ≤ 1000 := by omega
          cases bad3 with
          | true =>
            go_wp2_with fail
            go_roundw
            case rel => exact ⟨k + 1, s3, true, by go_num, by omega, hs3, HST3.out.set1 true, GB.trans HGK.out (grown_setx _ _ _ _), HBAD3.out, fun h => by cases h⟩
            case measure => simp [intOf]; omega
          | false =>
            by_cases hbig : 1000 < k + 1
            · have hbigI : (1000 : Int) < (k : Int) + 1 := by omega
              have HQ := Lib.hid (show R = none by have := (HGOOD3.out rfl).2.2 hx0; rwa [if_pos hbig] at this)
              have hs3' := (HGOOD3.out rfl).1
              go_wp2_with fail
              go_roundw
              case rel => exact ⟨k + 1, s3, true, by go_num, by omega, hs3, HST3.out.set1 true, GB.trans HGK.out (grown_setx _ _ _ _), (fun _ => ⟨HQ.out, by omega⟩), fun h => by cases h⟩
              case measure => simp [intOf]; omega
            · have hbigI : ¬ (1000 : Int) < (k : Int) + 1 := by omega
              have HQ := Lib.hid (show R = FT.loopN (FT.ev f) az (2001 - (k + 1)) (k + 1) s3 by have := (HGOOD3.out rfl).2.2 hx0; rwa [if_neg hbig] at this)
              have hs3' := (HGOOD3.out rfl).1
              go_wp2_with fail
              go_roundw
              case rel => exact ⟨k + 1, s3, false, by go_num, by omega, hs3, HST3.out.set1 false, GB.trans HGK.out (grown_setx _ _ _ _), (fun h => by cases h), fun _ => ⟨by omega, hs3', HQ.out⟩⟩
              case measure => simp [intOf]; omega

/-! ### every function text -/

theorem vk_any : ∀ {g : FT}, FT.ok g → FT.size g ≤ 5000 → ∀ (w0 : World) (S : Nat), VK w0 S g := by
  intro g
  induction g with
  | z a => exact fun _ _ w0 S => vk_z w0 S a
  | inc => exact fun _ _ w0 S => vk_inc w0 S
  | p i a => exact fun ho _ w0 S => vk_p w0 S i a ho.1 ho.2
  | c1 f g ihf ihg =>
    intro ho hz w0 S
    simp only [FT.size] at hz
    refine vk_of (fun w rb s sv az v0 hk hA hr hm hs h2 hv hl haz => ?_) (fun az s h => by simp only [FT.mv]; rw [if_pos h])
    have h := sv_c w0 S f [g] (by simp) (by simp) v0 hk (ihf ho.1 (by omega) w0 S) (fun k hk => by simp at hk; subst hk; exact ihg ho.2.1 (by omega) w0 S) w rb s sv az hA hr hm hs h2 hv (fun k hk => by simp at hk; subst hk; exact hl) (by simpa using ho.2.2.symm) haz (FT.arity (.c1 f g) : Nat) (2001 + 4 * FT.size (.c1 f g)) (2001 + 4 * (FT.size f + FT.size g))
      (fun k hk => by
        simp only [List.mem_cons, List.not_mem_nil, or_false] at hk
        rcases hk with rfl | rfl <;> omega) (by simp only [FT.size]; omega) (by omega)
    rw [FT.mv_eq _ az s haz]
    rw [show FT.ev (.c1 f g) az s = evComp f [g] az (s + 1) by
      simp only [FT.ev]
      rw [if_neg h2, evComp_one]
      refine FT.chk_small fun v s' e => ?_
      cases e1 : FT.ev g az (s + 1) with
      | none => rw [e1] at e; simp at e
      | some p => rw [e1] at e; exact ((FT.ev_runs f _ _).small _ _ e).1]
    exact h
  | c2 f g k ihf ihg ihk =>
    intro ho hz w0 S
    simp only [FT.size] at hz
    refine vk_of (fun w rb s sv az v0 hk hA hr hm hs h2 hv hl haz => ?_) (fun az s h => by simp only [FT.mv]; rw [if_pos h])
    have h := sv_c w0 S f [g, k] (by simp) (by simp) v0 hk (ihf ho.1 (by omega) w0 S) (fun j hj => by
        simp only [List.mem_cons, List.not_mem_nil, or_false] at hj
        rcases hj with rfl | rfl
        · exact ihg ho.2.1 (by omega) w0 S
        · exact ihk ho.2.2.1 (by omega) w0 S) w rb s sv az hA hr hm hs h2 hv (fun j hj => by
        simp only [List.mem_cons, List.not_mem_nil, or_false] at hj
        rcases hj with rfl | rfl
        · exact hl
        · exact hl.trans ho.2.2.2.2.symm) (by simpa using ho.2.2.2.1.symm) haz (FT.arity (.c2 f g k) : Nat) (2001 + 4 * FT.size (.c2 f g k)) (2001 + 4 * (FT.size f + FT.size g + FT.size k))
      (fun j hj => by
        simp only [List.mem_cons, List.not_mem_nil, or_false] at hj
        rcases hj with rfl | rfl | rfl <;> omega) (by simp only [FT.size]; omega) (by omega)
    rw [FT.mv_eq _ az s haz]
    rw [show FT.ev (.c2 f g k) az s = evComp f [g, k] az (s + 1) by
      simp only [FT.ev]
      rw [if_neg h2, evComp_two]
      refine FT.chk_small fun v s' e => ?_
      cases e1 : FT.ev g az (s + 1) with
      | none => rw [e1] at e; simp at e
      | some p =>
        rw [e1] at e
        simp only at e
        cases e2 : FT.ev k az p.2 with
        | none => rw [e2] at e; simp at e
        | some q => rw [e2] at e; exact ((FT.ev_runs f _ _).small _ _ e).1]
    exact h
  | c3 f g k l ihf ihg ihk ihl =>
    intro ho hz w0 S
    simp only [FT.size] at hz
    refine vk_of (fun w rb s sv az v0 hk hA hr hm hs h2 hv hl haz => ?_) (fun az s h => by simp only [FT.mv]; rw [if_pos h])
    have h := sv_c w0 S f [g, k, l] (by simp) (by simp) v0 hk (ihf ho.1 (by omega) w0 S) (fun j hj => by
        simp only [List.mem_cons, List.not_mem_nil, or_false] at hj
        rcases hj with rfl | rfl | rfl
        · exact ihg ho.2.1 (by omega) w0 S
        · exact ihk ho.2.2.1 (by omega) w0 S
        · exact ihl ho.2.2.2.1 (by omega) w0 S) w rb s sv az hA hr hm hs h2 hv (fun j hj => by
        simp only [List.mem_cons, List.not_mem_nil, or_false] at hj
        rcases hj with rfl | rfl | rfl
        · exact hl
        · exact hl.trans ho.2.2.2.2.2.1.symm
        · exact hl.trans ho.2.2.2.2.2.2.symm) (by simpa using ho.2.2.2.2.1.symm) haz (FT.arity (.c3 f g k l) : Nat) (2001 + 4 * FT.size (.c3 f g k l)) (2001 + 4 * (FT.size f + FT.size g + FT.size k + FT.size l))
      (fun j hj => by
        simp only [List.mem_cons, List.not_mem_nil, or_false] at hj
        rcases hj with rfl | rfl | rfl | rfl <;> omega) (by simp only [FT.size]; omega) (by omega)
    rw [FT.mv_eq _ az s haz]
    rw [show FT.ev (.c3 f g k l) az s = evComp f [g, k, l] az (s + 1) by
      simp only [FT.ev]
      rw [if_neg h2, evComp_three]
      refine FT.chk_small fun v s' e => ?_
      cases e1 : FT.ev g az (s + 1) with
      | none => rw [e1] at e; simp at e
      | some p =>
        rw [e1] at e
        simp only at e
        cases e2 : FT.ev k az p.2 with
        | none => rw [e2] at e; simp at e
        | some q =>
          rw [e2] at e
          simp only at e
          cases e3 : FT.ev l az q.2 with
          | none => rw [e3] at e; simp at e
          | some u => rw [e3] at e; exact ((FT.ev_runs f _ _).small _ _ e).1]
    exact h
  | r f g ihf ihg =>
    intro ho hz w0 S
    simp only [FT.size] at hz
    refine vk_of (fun w rb s sv az v0 hk hA hr hm hs h2 hv hl haz => ?_) (fun az s h => by simp only [FT.mv]; rw [if_pos h])
    rw [FT.mv_eq _ az s haz]
    rw [show FT.ev (.r f g) az s = evRec f g az (s + 1) by
      simp only [FT.ev]
      rw [if_neg h2]
      refine FT.chk_small fun v s' e => ?_
      cases e1 : FT.ev f az.tail (s + 1) with
      | none => rw [e1] at e; simp at e
      | some p =>
        rw [e1] at e
        have q1 := (FT.ev_runs f az.tail (s + 1)).small _ _ e1
        exact (FT.loopR_facts (FT.ev_runs g) az.tail _ _ _ _ _ _ q1.1 q1.2.2 e).1]
    match az, hl, hv, haz with
    | n0 :: rest, hl, hv, haz =>
      have hvc := hv
      rcases hv with ⟨h, _⟩ | ⟨b, o, cap, rfl, hle, hne, hb, hc⟩
      · cases h
      · have hrl : rest.length = FT.arity f := by simp only [FT.arity, List.length_cons] at hl; omega
        have hcap : rest.length + 1 ≤ cap := by simpa using hle
        have z1 : 2001 + 4 * FT.size f ≤ 2001 + 4 * FT.size (.r f g) := by simp only [FT.size]; omega
        have z2 : 2001 + 4 * FT.size g ≤ 2001 + 4 * FT.size (.r f g) := by simp only [FT.size]; omega
        have z3 : 2001 + 4 * FT.size (.r f g) ≤ 50000 := by simp only [FT.size]; omega
        by_cases hc1 : cap = 1
        · have hr0 : rest = [] := List.length_eq_zero_iff.1 (by omega)
          exact sv_r_at w0 S f g v0 hk (ihf ho.1 (by omega) w0 S) (ihg ho.2.1 (by omega) w0 S) ho.2.2 (FT.arity_le ho.2.1) w rb s b o cap n0 rest (.slice (some ⟨b, o, none⟩) rest.length 0) hA hr hm hs h2 hvc hrl haz hcap (Or.inl ⟨hc1, rfl⟩) (Or.inl ⟨hr0, _, _, by rw [hr0]; rfl⟩) _ _ z1 z2 z3
        · exact sv_r_at w0 S f g v0 hk (ihf ho.1 (by omega) w0 S) (ihg ho.2.1 (by omega) w0 S) ho.2.2 (FT.arity_le ho.2.1) w rb s b o cap n0 rest _ hA hr hm hs h2 hvc hrl haz hcap (Or.inr ⟨hc1, rfl⟩) hvc.rest _ _ z1 z2 z3
    | [], hl, _, _ => simp [FT.arity] at hl
  | m f ihf =>
    intro ho hz w0 S
    simp only [FT.size] at hz
    refine vk_of (fun w rb s sv az v0 hk hA hr hm hs h2 hv hl haz => ?_) (fun az s h => by simp only [FT.mv]; rw [if_pos h])
    have hl' : az.length + 1 = FT.arity f := by have := ho.2; simp only [FT.arity] at hl; omega
    rw [show FT.mv (.m f) az s = FT.loopN (FT.ev f) az 2001 0 (s + 1) by
      simp only [FT.mv]
      rw [if_neg h2]
      exact loopN_congr az haz (fun az s h => FT.mv_eq f az s h) _ _ _ (by omega)]
    exact sv_m w0 S f v0 hk (ihf ho.1 (by omega) w0 S) ho.2 (FT.arity_le ho.1) w rb s sv az hA hr hm hs h2 hv hl' haz _ _ (by simp only [FT.size]; omega) (by simp only [FT.size]; omega)
end Go.Proofs.YtjomocjlnjgkeaaGreat

namespace Go.Proofs.YtjomocjlnjgkeaaGreat
open Go.RowKit

set_option maxHeartbeats 2000000
set_option maxRecDepth 100000

theorem inNum_drop {zs : List Int} {k : Nat} (hk : k < zs.length) (h : inNum zs[k] = false) : zs.all inNum = false := by
  rw [← List.take_append_drop (k + 1) zs, List.all_append, List.take_succ_eq_append_getElem hk, List.all_append]
  simp [h]

theorem ValPost.one {w w' : World} {o : Option (Nat × Nat)} {e : Ending} (h : ValPost w o e w') : e = .returned (.tuple #[.int .i64 (((o.getD (0, 0)).1 : Nat) : Int), .int .i64 (((o.getD (0, 0)).2 : Nat) : Int), .bool o.isSome]) ∧ After w w' := by
  obtain ⟨⟨v, s, b, he, hb⟩, ha⟩ := h
  refine ⟨?_, ha⟩
  rcases hb with ⟨rfl, rfl⟩ | ⟨rfl, rfl, rfl, rfl⟩
  · exact he
  · exact he

theorem spec_value (w : World) (l : List UInt8) (hl : l.length ≤ 1000000000) (sv : Value) (zs : List Int) (h : IntsZ w sv zs) (hn : zs.length ≤ 1048576) :
    Calls Tryz.prog 16 #[str l, sv] w (ValPost w (FT.pValue l zs)) := by
  have k1 := s_function w l hl
  obtain ⟨ao, cap, rfl⟩ := h.form
  have H := Lib.hid h
  clear h
  unfold S3Fn at k1
  cases hp : FT.parse l with
  | none =>
    have HP := Lib.hid (show FT.pValue l zs = none by simp [FT.pValue, hp])
    rw [hp] at k1
    clear hp
    generalize zs.length = N at *
    go_enter Tryz.func16, Tryz.ntmps16
    go_wp2_with fail
    refine k1.mono ?_
    rintro e w1 ⟨s1, ao1, n1, c1, a1, rfl, hb1, ht1⟩
    clear ht1 k1
    go_wp2_with fail
    go_ret3
    rw [HP.out]
    exact .no (hb1.alloc _)
  | some t =>
    obtain ⟨hok, hsz, _⟩ := FT.parse_facts hp
    have hp2 : FT.pValue l zs = if zs.length = FT.arity t ∧ ∀ a ∈ zs, 0 ≤ a ∧ a ≤ 60 then FT.ev t (zs.map Int.toNat) 0 else none := by simp [FT.pValue, hp]
    rw [hp] at k1
    clear hp
    have hall : (zs.all inNum = true) ↔ ∀ a ∈ zs, 0 ≤ a ∧ a ≤ 60 := by simp [List.all_eq_true, inNum]
    have har := FT.arity_le hok
    obtain ⟨N, hN⟩ : ∃ N, N = zs.length := ⟨_, rfl⟩
    obtain ⟨R, hR⟩ : ∃ R, R = FT.pValue l zs := ⟨_, rfl⟩
    rw [← hR]
    rw [← hR] at hp2
    by_cases hla : zs.length = FT.arity t
    · have h3 : N ≤ 3 := by omega
      have hcall : ∀ (w1 wr : World) (v : Value), SF w1 w.heap.size t v → After w w1 → After w1 wr → zs.all inNum = true → Calls Tryz.prog 40 #[ptr wr.heap.size, v, .slice ao zs.length cap] (wr.alloc (.cells #[.int .i64 0, .bool false] 74)) (MPost (wr.alloc (.cells #[.int .i64 0, .bool false] 74)) wr.heap.size 100000 R) := fun w1 wr v hS h1 h2 hin => by
        have aW : After wr (wr.alloc (.cells #[.int .i64 0, .bool false] 74)) := After.new _ _
        have hz0 : ∀ z ∈ zs, 0 ≤ z := fun z hz => (hall.1 hin z hz).1
        have hz6 : ∀ a ∈ zs.map Int.toNat, a ≤ 1000 := fun a ha => by
          obtain ⟨z, hz, rfl⟩ := List.mem_map.1 ha
          have := (hall.1 hin z hz).2
          omega
        have hlm : (zs.map Int.toNat).length = FT.arity t := by rw [List.length_map]; exact hla
        have hv := (vk_any hok (by omega) wr w.heap.size (wr.alloc (.cells #[.int .i64 0, .bool false] 74)) wr.heap.size 0 false v _ (zs.map Int.toNat) _ _ _ (hS.after h2) ⟨aW.size, fun k _ hk => aW.block k hk⟩ (Nat.le_refl _) (heap_top _ _) (by omega) rfl).2 rfl (by omega) (H.out.nats (h1.trans h2).size hz0 ((h1.trans h2).trans aW)) hlm hz6
        rw [FT.mv_eq _ _ _ hz6] at hv
        rw [show R = FT.ev t (zs.map Int.toNat) 0 by rw [hp2, if_pos ⟨hla, hall.1 hin⟩]]
        refine hv.mono ?_
        rintro e w' ⟨hg, x, rfl, hx⟩
        refine ⟨hg, x, rfl, ?_⟩
        cases hev : FT.ev t (zs.map Int.toNat) 0 with
        | none =>
          rw [hev] at hx
          obtain ⟨s', hs', hst⟩ := hx
          exact ⟨s', by omega, hst⟩
        | some p => rw [hev] at hx; exact hx
      have hno : zs.all inNum = false → R = none := fun h => by rw [hp2, if_neg (fun hc => by have := hall.2 hc.2; rw [h] at this; cases this)]
      have hRb : ∀ v s, R = some (v, s) → v ≤ 1000 ∧ s ≤ 2000 := fun v s h => by
        rw [hp2] at h
        split at h
        · have := (FT.ev_runs t _ 0).small _ _ h; exact ⟨this.1, this.2.2⟩
        · cases h
      have HCALL := Lib.hid hcall
      have HNO := Lib.hid hno
      have HRB := Lib.hid hRb
      have HR := Lib.hid hR
      have HLA := Lib.hid hla
      rw [← hN] at HCALL hn ⊢
      have HNN := Lib.hid hN
      clear hcall hno hRb hR hla hN hp2 hall har hok hsz
      go_enter Tryz.func16, Tryz.ntmps16
      go_wp2_with fail
      refine k1.mono ?_
      rintro e w1 ⟨s1, ao1, n1, c1, a1, rfl, hb1, ht1⟩
      have hst := ht1 t rfl
      obtain ⟨aof, nf, cf, hf⟩ := hst.form
      injection hf with hf
      injection hf with hf
      injection hf with f1 hf
      injection hf with f2 hf
      injection hf with f3 hf
      injection f3 with _ f3
      have f3' : a1 = (N : Int) := by rw [f3, HNN.out, HLA.out]
      subst f3'
      have HSF := Lib.hid hst
      clear ht1 k1 hst f3 f1 f2 hf
      obtain ⟨W2, hW2⟩ : ∃ W2, W2 = w1.alloc (.cells #[str s1, .slice ao1 n1 c1, .int .i64 (N : Int)] 63) := ⟨_, rfl⟩
      have a2 : After w1 W2 := by rw [hW2]; exact After.new _ _
      have hh2 : W2.heap[w1.heap.size]? = some (.cells #[str s1, .slice ao1 n1 c1, .int .i64 (N : Int)] 63 (0, 0)) := by rw [hW2]; exact heap_top _ _
      have HW2 := Lib.hid hW2
      have HH2 := Lib.hid hh2
      clear hW2 hh2
      go_wp2_with fail
      rw [← HW2.out]
      go_loopw [9] (fun i wr => ∃ k : Nat, i = .int .i64 k ∧ k ≤ N ∧ Hid ((zs.take k).all inNum = true) ∧ After W2 wr) (fun i _ => N - (intOf i).toNat)
      case atStart => exact ⟨0, rfl, Nat.zero_le _, rfl, After.refl _⟩
      case round =>
        obtain ⟨k, rfl, hk, HE, hA⟩ := hrel
        have hAw : After w wr := (hb1.trans a2).trans hA
        by_cases hlt : k < N
        · have hkl : k < zs.length := by rw [← HNN.out]; exact hlt
          obtain ⟨b, o, cap', hsv, hc⟩ := (H.out.after hAw).at k hkl
          injection hsv with e1 e2 e3
          subst e1
          clear e2 e3
          have hnext : (zs.take (k + 1)).all inNum = inNum zs[k] := by
            rw [List.take_succ_eq_append_getElem hkl, List.all_append, HE.out]; simp
          have hbad : inNum zs[k] = false → R = none := fun h => HNO.out (inNum_drop hkl h)
          generalize zs[k] = z at *
          have hltI : (k : Int) < (N : Int) := by omega
          have hin6 : ∀ W, Calls Tryz.prog 39 #[.int .i64 z, .int .i64 0, .int .i64 60] W fun e w' => e = .returned (.bool (inNum z)) ∧ W = w' := fun W => by
            have := in_any W z 0 60
            rwa [show decide (0 ≤ z ∧ z ≤ 60) = inNum z by simp [inNum]] at this
          cases hiz : inNum z with
          | false =>
            have HF := Lib.hid (hbad hiz)
            rw [hiz] at hin6
            clear hbad hnext hiz
            go_wp2_with (go_at_call 39; refine (hin6 _).mono ?_; rintro e w' ⟨rfl, rfl⟩)
            go_ret3
            rw [HF.out]
            exact .no hAw
          | true =>
            have HX := Lib.hid (show (zs.take (k + 1)).all inNum = true from hnext.trans hiz)
            rw [hiz] at hin6
            clear hbad hnext hiz
            go_wp2_with (go_at_call 39; refine (hin6 _).mono ?_; rintro e w' ⟨rfl, rfl⟩)
            go_roundw
            case rel => exact ⟨k + 1, by go_num, by omega, HX.out, hA⟩
            case measure => simp [intOf]; omega
        · obtain rfl : k = N := by omega
          have hin : zs.all inNum = true := by rw [← HE.out, HNN.out, List.take_length]
          have hk2 := HCALL.out w1 wr _ HSF.out hb1 (a2.trans hA) hin
          have hbx := hA.heap HH2.out
          have x0 : (wr.alloc (.cells #[.int .i64 0, .bool false] 74)).cell? ⟨w1.heap.size, 0, none⟩ = some (str s1) := cell_of_heap (i := 0) ((After.new _ _ : After wr _).heap hbx)
          have x1 : (wr.alloc (.cells #[.int .i64 0, .bool false] 74)).cell? ⟨w1.heap.size, 1, none⟩ = some (.slice ao1 n1 c1) := cell_of_heap (i := 1) ((After.new _ _ : After wr _).heap hbx)
          have x2 : (wr.alloc (.cells #[.int .i64 0, .bool false] 74)).cell? ⟨w1.heap.size, 2, none⟩ = some (.int .i64 (k : Int)) := cell_of_heap (i := 2) ((After.new _ _ : After wr _).heap hbx)
          clear hbx hin
          go_wp2_with fail
          refine hk2.mono ?_
          rintro e w4 ⟨g4, x, rfl, hx⟩
          have a4 : After w w4 := hAw.trans (after_own2 g4)
          clear hk2 x0 x1 x2
          cases R with
          | none =>
            obtain ⟨s', hs', hm⟩ := hx
            have m1 := hm.c1
            clear hm
            go_wp2_with fail
            go_ret3
            exact .no a4
          | some p =>
            obtain ⟨v, s'⟩ := p
            obtain ⟨rfl, hm⟩ := hx
            obtain ⟨hv1, hs1⟩ := HRB.out v s' rfl
            have m1 := hm.c1
            have m0 := hm.c0
            clear hm
            go_wp2_with fail
            go_region
            go_wp2_with fail
            go_ret3
            exact .yes (After.drew a4)
    · have HP := Lib.hid (show R = none by rw [hp2, if_neg (fun h => hla h.1)])
      have hne : ((zs.length : Int) != (FT.arity t : Int)) = true := by rw [bne_iff_ne]; omega
      clear hp2 hall hla hR
      rw [← hN] at hne hn ⊢
      clear hN
      go_enter Tryz.func16, Tryz.ntmps16
      go_wp2_with fail
      refine k1.mono ?_
      rintro e w1 ⟨s1, ao1, n1, c1, a1, rfl, hb1, ht1⟩
      have hst := ht1 t rfl
      obtain ⟨aof, nf, cf, hf⟩ := hst.form
      injection hf with hf
      injection hf with hf
      injection hf with f1 hf
      injection hf with f2 hf
      injection hf with f3 hf
      injection f3 with _ f3
      subst f3
      clear ht1 k1 hst
      go_wp2_with fail
      go_ret3
      rw [HP.out]
      exact .no (hb1.alloc _)
end Go.Proofs.YtjomocjlnjgkeaaGreat

namespace Go.Proofs.YtjomocjlnjgkeaaGreat
namespace FT

theorem if_none {c : Prop} [Decidable c] {o : Option (Nat × Nat)} {q : Nat × Nat} (h : (if c then none else o) = some q) : o = some q := by
  split at h
  · cases h
  · exact h

/-- What is reckoned from s and from s + d on. -/
def Shifts (g : List Nat → Nat → Option (Nat × Nat)) : Prop := ∀ (az : List Nat) (s d v s' v2 s2 : Nat), g az s = some (v, s') → g az (s + d) = some (v2, s2) → v2 = v ∧ s2 = s' + d

theorem loopR_shift {g : List Nat → Nat → Option (Nat × Nat)} (hg : Shifts g) (rest : List Nat) : ∀ (n i v s d r s' r2 s2 : Nat), loopR g rest n i v s = some (r, s') → loopR g rest n i v (s + d) = some (r2, s2) → r2 = r ∧ s2 = s' + d
  | 0, _, _, _, _, _, _, _, _, h1, h2 => by
    simp only [loopR, Option.some.injEq, Prod.mk.injEq] at h1 h2
    omega
  | n + 1, i, v, s, d, e1, s', e2, s2, h1, h2 => by
    simp only [loopR] at h1 h2
    cases q1 : g (i :: v :: rest) s with
    | none => rw [q1] at h1; simp at h1
    | some p1 =>
      obtain ⟨a, b⟩ := p1
      cases q2 : g (i :: v :: rest) (s + d) with
      | none => rw [q2] at h2; simp at h2
      | some p2 =>
        obtain ⟨a2, b2⟩ := p2
        obtain ⟨rfl, rfl⟩ := hg _ _ _ _ _ _ _ q1 q2
        rw [q1] at h1
        rw [q2] at h2
        exact loopR_shift hg rest n (i + 1) _ b d e1 s' e2 s2 h1 h2

theorem loopM_shift {f : List Nat → Nat → Option (Nat × Nat)} (hf : Shifts f) (rest : List Nat) : ∀ (k n s d r s' r2 s2 : Nat), loopM f rest k n s = some (r, s') → loopM f rest k n (s + d) = some (r2, s2) → r2 = r ∧ s2 = s' + d
  | 0, _, _, _, _, _, _, _, h1, _ => by simp [loopM] at h1
  | k + 1, n, s, d, e1, s', e2, s2, h1, h2 => by
    simp only [loopM] at h1 h2
    cases q1 : f (n :: rest) s with
    | none => rw [q1] at h1; simp at h1
    | some p1 =>
      obtain ⟨a, b⟩ := p1
      cases q2 : f (n :: rest) (s + d) with
      | none => rw [q2] at h2; simp at h2
      | some p2 =>
        obtain ⟨a2, b2⟩ := p2
        obtain ⟨rfl, rfl⟩ := hf _ _ _ _ _ _ _ q1 q2
        rw [q1] at h1
        rw [q2] at h2
        simp only at h1 h2
        by_cases h0 : a2 = 0
        · rw [if_pos h0] at h1 h2
          simp only [Option.some.injEq, Prod.mk.injEq] at h1 h2
          omega
        · rw [if_neg h0] at h1 h2
          exact loopM_shift hf rest k (n + 1) b d e1 s' e2 s2 h1 h2

theorem ev_shift : ∀ t : FT, Shifts (ev t) := by
  intro t
  induction t with
  | z a =>
    intro az s d v s' v2 s2 h1 h2
    simp only [ev] at h1 h2
    have h1 := if_none h1
    have h2 := if_none h2
    simp only [Option.some.injEq, Prod.mk.injEq] at h1 h2
    omega
  | inc =>
    intro az s d v s' v2 s2 h1 h2
    simp only [ev] at h1 h2
    have h1 := (chk_some (if_none h1)).1
    have h2 := (chk_some (if_none h2)).1
    simp only [Option.some.injEq, Prod.mk.injEq] at h1 h2
    omega
  | p i a =>
    intro az s d v s' v2 s2 h1 h2
    simp only [ev] at h1 h2
    have h1 := (chk_some (if_none h1)).1
    have h2 := (chk_some (if_none h2)).1
    simp only [Option.some.injEq, Prod.mk.injEq] at h1 h2
    omega
  | c1 f g ihf ihg =>
    intro az s d v s' v2 s2 h1 h2
    simp only [ev] at h1 h2
    have h1 := (chk_some (if_none h1)).1
    have h2 := (chk_some (if_none h2)).1
    rw [show s + d + 1 = s + 1 + d by omega] at h2
    cases q1 : ev g az (s + 1) with
    | none => rw [q1] at h1; simp at h1
    | some p1 =>
      obtain ⟨x, t1⟩ := p1
      cases q2 : ev g az (s + 1 + d) with
      | none => rw [q2] at h2; simp at h2
      | some p2 =>
        obtain ⟨x2, t2⟩ := p2
        obtain ⟨rfl, rfl⟩ := ihg _ _ _ _ _ _ _ q1 q2
        rw [q1] at h1
        rw [q2] at h2
        exact ihf _ _ _ _ _ _ _ h1 h2
  | c2 f g k ihf ihg ihk =>
    intro az s d v s' v2 s2 h1 h2
    simp only [ev] at h1 h2
    have h1 := (chk_some (if_none h1)).1
    have h2 := (chk_some (if_none h2)).1
    rw [show s + d + 1 = s + 1 + d by omega] at h2
    cases q1 : ev g az (s + 1) with
    | none => rw [q1] at h1; simp at h1
    | some p1 =>
      obtain ⟨x, t1⟩ := p1
      cases q2 : ev g az (s + 1 + d) with
      | none => rw [q2] at h2; simp at h2
      | some p2 =>
        obtain ⟨x2, t2⟩ := p2
        obtain ⟨rfl, rfl⟩ := ihg _ _ _ _ _ _ _ q1 q2
        rw [q1] at h1
        rw [q2] at h2
        simp only at h1 h2
        cases r1 : ev k az t1 with
        | none => rw [r1] at h1; simp at h1
        | some p1 =>
          obtain ⟨y, u1⟩ := p1
          cases r2 : ev k az (t1 + d) with
          | none => rw [r2] at h2; simp at h2
          | some p2 =>
            obtain ⟨y2, u2⟩ := p2
            obtain ⟨rfl, rfl⟩ := ihk _ _ _ _ _ _ _ r1 r2
            rw [r1] at h1
            rw [r2] at h2
            exact ihf _ _ _ _ _ _ _ h1 h2
  | c3 f g k l ihf ihg ihk ihl =>
    intro az s d v s' v2 s2 h1 h2
    simp only [ev] at h1 h2
    have h1 := (chk_some (if_none h1)).1
    have h2 := (chk_some (if_none h2)).1
    rw [show s + d + 1 = s + 1 + d by omega] at h2
    cases q1 : ev g az (s + 1) with
    | none => rw [q1] at h1; simp at h1
    | some p1 =>
      obtain ⟨x, t1⟩ := p1
      cases q2 : ev g az (s + 1 + d) with
      | none => rw [q2] at h2; simp at h2
      | some p2 =>
        obtain ⟨x2, t2⟩ := p2
        obtain ⟨rfl, rfl⟩ := ihg _ _ _ _ _ _ _ q1 q2
        rw [q1] at h1
        rw [q2] at h2
        simp only at h1 h2
        cases r1 : ev k az t1 with
        | none => rw [r1] at h1; simp at h1
        | some p1 =>
          obtain ⟨y, u1⟩ := p1
          cases r2 : ev k az (t1 + d) with
          | none => rw [r2] at h2; simp at h2
          | some p2 =>
            obtain ⟨y2, u2⟩ := p2
            obtain ⟨rfl, rfl⟩ := ihk _ _ _ _ _ _ _ r1 r2
            rw [r1] at h1
            rw [r2] at h2
            simp only at h1 h2
            cases e1 : ev l az u1 with
            | none => rw [e1] at h1; simp at h1
            | some p1 =>
              obtain ⟨z1, v1⟩ := p1
              cases e2 : ev l az (u1 + d) with
              | none => rw [e2] at h2; simp at h2
              | some p2 =>
                obtain ⟨z2, v2'⟩ := p2
                obtain ⟨rfl, rfl⟩ := ihl _ _ _ _ _ _ _ e1 e2
                rw [e1] at h1
                rw [e2] at h2
                exact ihf _ _ _ _ _ _ _ h1 h2
  | r f g ihf ihg =>
    intro az s d v s' v2 s2 h1 h2
    simp only [ev] at h1 h2
    have h1 := (chk_some (if_none h1)).1
    have h2 := (chk_some (if_none h2)).1
    rw [show s + d + 1 = s + 1 + d by omega] at h2
    cases q1 : ev f az.tail (s + 1) with
    | none => rw [q1] at h1; simp at h1
    | some p1 =>
      obtain ⟨x, t1⟩ := p1
      cases q2 : ev f az.tail (s + 1 + d) with
      | none => rw [q2] at h2; simp at h2
      | some p2 =>
        obtain ⟨x2, t2⟩ := p2
        obtain ⟨rfl, rfl⟩ := ihf _ _ _ _ _ _ _ q1 q2
        rw [q1] at h1
        rw [q2] at h2
        exact loopR_shift ihg _ _ _ _ _ _ _ _ _ _ h1 h2
  | m f ihf =>
    intro az s d v s' v2 s2 h1 h2
    simp only [ev] at h1 h2
    have h1 := (chk_some (if_none h1)).1
    have h2 := (chk_some (if_none h2)).1
    rw [show s + d + 1 = s + 1 + d by omega] at h2
    exact loopM_shift ihf _ _ _ _ _ _ _ _ _ h1 h2

end FT
end Go.Proofs.YtjomocjlnjgkeaaGreat
