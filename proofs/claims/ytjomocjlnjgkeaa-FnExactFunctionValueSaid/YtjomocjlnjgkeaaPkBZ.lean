/-
  The program's reckon for every function text; haveNumerals; FunctionValue.
-/
import Derived.Test.YtjomocjlnjgkeaaPkBY
namespace Go.Proofs.Ytjomocjlnjgkeaa
open Go.RowKit

set_option maxHeartbeats 2000000
set_option maxRecDepth 100000

theorem evComp_one (f g : FT) (az : List Nat) (s : Nat) : evComp f [g] az s = match FT.ev g az s with | none => none | some (x, s1) => FT.ev f [x] s1 := by
  simp only [evComp, evAll]
  cases FT.ev g az s with
  | none => rfl
  | some p => rfl
theorem evComp_two (f g h : FT) (az : List Nat) (s : Nat) : evComp f [g, h] az s = match FT.ev g az s with | none => none | some (x, s1) => match FT.ev h az s1 with | none => none | some (y, s2) => FT.ev f [x, y] s2 := by
  simp only [evComp, evAll]
  cases FT.ev g az s with
  | none => rfl
  | some p =>
    obtain ⟨x, s1⟩ := p
    simp only
    cases FT.ev h az s1 with
    | none => rfl
    | some q => rfl
theorem evComp_three (f g h i : FT) (az : List Nat) (s : Nat) : evComp f [g, h, i] az s = match FT.ev g az s with | none => none | some (x, s1) => match FT.ev h az s1 with | none => none | some (y, s2) => match FT.ev i az s2 with | none => none | some (t, s3) => FT.ev f [x, y, t] s3 := by
  simp only [evComp, evAll]
  cases FT.ev g az s with
  | none => rfl
  | some p =>
    obtain ⟨x, s1⟩ := p
    simp only
    cases FT.ev h az s1 with
    | none => rfl
    | some q =>
      obtain ⟨y, s2⟩ := q
      simp only
      cases FT.ev i az s2 with
      | none => rfl
      | some r => rfl

theorem evComp_small {f : FT} {gs : List FT} {az : List Nat} {s : Nat} : ∀ v s', evComp f gs az s = some (v, s') → v ≤ 100000 := by
  intro v s' h
  unfold evComp at h
  cases he : evAll gs az s with
  | none => rw [he] at h; simp at h
  | some p =>
    obtain ⟨xs, s1⟩ := p
    rw [he] at h
    have := ((FT.ev_runs f xs s1).small _ _ h).1
    omega

theorem loopM_lt {f : List Nat → Nat → Option (Nat × Nat)} (rest : List Nat) : ∀ (k n s v' s' : Nat), FT.loopM f rest k n s = some (v', s') → v' < n + k
  | 0, _, _, _, _, h => by simp [FT.loopM] at h
  | k + 1, n, s, v', s', h => by
    simp only [FT.loopM] at h
    cases hq : f (n :: rest) s with
    | none => rw [hq] at h; simp at h
    | some q =>
      obtain ⟨a, b⟩ := q
      rw [hq] at h
      simp only at h
      split at h
      · simp only [Option.some.injEq, Prod.mk.injEq] at h
        obtain ⟨rfl, rfl⟩ := h
        omega
      · have := loopM_lt rest k (n + 1) b v' s' h
        omega

/-- What stands ahead of a closure. -/
theorem rk_ahead {w0 w : World} {S rb s b : Nat} {sv vf : Value} {az : List Nat} {t : FT} {vr : Value} (hA : Agree w0 w S) (hr : w0.heap.size ≤ rb) (hs : Steps w rb s) (hv : IntsV w rb sv az) (hb : S ≤ b)
    (hh : w0.heap[b]? = some (.cells #[.int .i64 (FT.arity t : Nat), .int .i64 (FT.size t : Nat), .bool (FT.total t), vr, vf] 73 (0, 0))) :
    ∃ W1, W1 = w.setCell ⟨rb, 0, none⟩ (.int .i64 ((s : Int) + 1)) ∧ Steps W1 rb (s + 1) ∧ Agree w0 W1 S ∧ IntsV W1 rb sv az ∧ W1.cell? ⟨b, 4, none⟩ = some vf := by
  have hg : w.grownBy (w.setCell ⟨rb, 0, none⟩ (.int .i64 ((s : Int) + 1))) (some rb) := grown_setx _ _ _ _
  have hA1 := hA.grown hg hr
  refine ⟨_, rfl, ?_, hA1, hv.grown hg, cell_of_heap (i := 4) (hA1.heap hb hh)⟩
  have := hs.set (s + 1)
  simpa using this

theorem rk_any : ∀ {g : FT}, FT.ok g → ∀ (w0 : World) (S : Nat), RK w0 S g := by
  intro g
  induction g with
  | z a =>
    intro _ w0 S w rb s v sv az hC hA hr hs hs2 hv hl ha
    obtain ⟨b, vr, vf, rfl, hb, hh, _, rfl⟩ := hC
    by_cases h2 : 2000 < s + 1
    · rw [show FT.ev (.z a) az s = none by simp only [FT.ev]; rw [if_pos h2]]
      exact reck_over w rb s _ sv ⟨_, rfl⟩ hs h2 (by omega)
    · obtain ⟨W1, hW1, hs1, hA1, hv1, c4⟩ := rk_ahead (t := .z a) hA hr hs hv hb hh
      have := reck_zero w W1 rb s b sv (some (0, s + 1)) hs h2 hW1 c4 (clo_zero W1 rb (s + 1) sv hs1) (fun v s' h => by simp at h; omega)
      rw [show FT.ev (.z a) az s = FT.chk (some (0, s + 1)) by simp only [FT.ev]; rw [if_neg h2]; rfl]
      exact this
  | inc =>
    intro _ w0 S w rb s v sv az hC hA hr hs hs2 hv hl ha
    obtain ⟨b, vr, vf, rfl, hb, hh, _, rfl⟩ := hC
    by_cases h2 : 2000 < s + 1
    · rw [show FT.ev .inc az s = none by simp only [FT.ev]; rw [if_pos h2]]
      exact reck_over w rb s _ sv ⟨_, rfl⟩ hs h2 (by omega)
    · obtain ⟨W1, hW1, hs1, hA1, hv1, c4⟩ := rk_ahead (t := .inc) hA hr hs hv hb hh
      match az, hl, ha, hv1 with
      | [x], _, ha, hv1 =>
        have hx := ha x (by simp)
        have := reck_next w W1 rb s b sv (some (x + 1, s + 1)) hs h2 hW1 c4 (clo_next W1 rb (s + 1) x sv hs1 hv1 hx) (fun v s' h => by simp at h; omega)
        rw [show FT.ev .inc [x] s = FT.chk (some (x + 1, s + 1)) by simp only [FT.ev]; rw [if_neg h2]; rfl]
        exact this
  | p i a =>
    intro ho w0 S w rb s v sv az hC hA hr hs hs2 hv hl ha
    obtain ⟨b, vr, vf, rfl, hb, hh, _, q, rfl, hq, hqh⟩ := hC
    by_cases h2 : 2000 < s + 1
    · rw [show FT.ev (.p i a) az s = none by simp only [FT.ev]; rw [if_pos h2]]
      exact reck_over w rb s _ sv ⟨_, rfl⟩ hs h2 (by omega)
    · obtain ⟨W1, hW1, hs1, hA1, hv1, c4⟩ := rk_ahead (t := .p i a) hA hr hs hv hb hh
      have hi : i < az.length := by rw [hl]; exact ho.1
      have hle : az.getD i 0 ≤ 10000 := by
        rw [List.getD_eq_getElem?_getD, List.getElem?_eq_getElem hi]
        exact ha _ (List.getElem_mem hi)
      have := reck_arg w W1 rb s b sv q (some (az.getD i 0, s + 1)) hs h2 hW1 c4 (clo_arg W1 rb (s + 1) i q az sv hs1 hv1 hi (hA1.heap hq hqh)) (fun v s' h => by simp only [Option.some.injEq, Prod.mk.injEq] at h; omega)
      rw [show FT.ev (.p i a) az s = FT.chk (some (az.getD i 0, s + 1)) by simp only [FT.ev]; rw [if_neg h2]]
      exact this
  | c1 f g ihf ihg =>
    intro ho w0 S w rb s v sv az hC hA hr hs hs2 hv hl ha
    obtain ⟨b, vr, vf, rfl, hb, hh, _, q1, q2, so, o, cap, cs, T, fr, pf, p1, rfl, b1, h1, b2, hq2, hf, bs, h3, e1, hg⟩ := hC
    by_cases h2 : 2000 < s + 1
    · rw [show FT.ev (.c1 f g) az s = none by simp only [FT.ev]; rw [if_pos h2]]
      exact reck_over w rb s _ sv ⟨_, rfl⟩ hs h2 (by omega)
    · obtain ⟨W1, hW1, hs1, hA1, hv1, c4⟩ := rk_ahead (t := .c1 f g) hA hr hs hv hb hh
      have hP : PartsU w0 S (.slice (some ⟨so, o, none⟩) 1 cap) [g] := ⟨so, o, cap, cs, T, fr, rfl, bs, h3, fun j hj => by match j, hj with | 0, _ => exact ⟨_, e1, hg⟩⟩
      have hclo := clo_comp w0 S f [g] _ pf q1 q2 hP hf h1 b1 hq2 b2 (by simp) (ihf ho.1 w0 S) (fun k hk => by simp at hk; subst hk; exact ihg ho.2.1 w0 S) (by simpa using ho.2.2) W1 rb (s + 1) sv az hA1 hr hs1 (by omega) hv1 (fun k hk => by simp at hk; subst hk; exact hl) ha
      have := reck_comp w W1 rb s b sv q1 q2 _ hs h2 hW1 c4 hclo evComp_small
      rw [show FT.ev (.c1 f g) az s = FT.chk (evComp f [g] az (s + 1)) by simp only [FT.ev]; rw [if_neg h2, evComp_one]; rfl]
      exact this
  | c2 f g k ihf ihg ihk =>
    intro ho w0 S w rb s v sv az hC hA hr hs hs2 hv hl ha
    obtain ⟨b, vr, vf, rfl, hb, hh, _, q1, q2, so, o, cap, cs, T, fr, pf, p1, p2, rfl, b1, h1, b2, hq2, hf, bs, h3, e1, hg, e2, hk⟩ := hC
    by_cases h2 : 2000 < s + 1
    · rw [show FT.ev (.c2 f g k) az s = none by simp only [FT.ev]; rw [if_pos h2]]
      exact reck_over w rb s _ sv ⟨_, rfl⟩ hs h2 (by omega)
    · obtain ⟨W1, hW1, hs1, hA1, hv1, c4⟩ := rk_ahead (t := .c2 f g k) hA hr hs hv hb hh
      have hP : PartsU w0 S (.slice (some ⟨so, o, none⟩) 2 cap) [g, k] := ⟨so, o, cap, cs, T, fr, rfl, bs, h3, fun j hj => by match j, hj with | 0, _ => exact ⟨_, e1, hg⟩ | 1, _ => exact ⟨_, e2, hk⟩⟩
      have hclo := clo_comp w0 S f [g, k] _ pf q1 q2 hP hf h1 b1 hq2 b2 (by simp) (ihf ho.1 w0 S) (fun j hj => by
        simp only [List.mem_cons, List.not_mem_nil, or_false] at hj
        rcases hj with rfl | rfl
        · exact ihg ho.2.1 w0 S
        · exact ihk ho.2.2.1 w0 S) (by simpa using ho.2.2.2.1) W1 rb (s + 1) sv az hA1 hr hs1 (by omega) hv1 (fun j hj => by
        simp only [List.mem_cons, List.not_mem_nil, or_false] at hj
        rcases hj with rfl | rfl
        · exact hl
        · exact hl.trans ho.2.2.2.2.symm) ha
      have := reck_comp w W1 rb s b sv q1 q2 _ hs h2 hW1 c4 hclo evComp_small
      rw [show FT.ev (.c2 f g k) az s = FT.chk (evComp f [g, k] az (s + 1)) by simp only [FT.ev]; rw [if_neg h2, evComp_two]; rfl]
      exact this
  | c3 f g k l ihf ihg ihk ihl =>
    intro ho w0 S w rb s v sv az hC hA hr hs hs2 hv hl ha
    obtain ⟨b, vr, vf, rfl, hb, hh, _, q1, q2, so, o, cap, cs, T, fr, pf, p1, p2, p3, rfl, b1, h1, b2, hq2, hf, bs, h3, e1, hg, e2, hk, e3, hl3⟩ := hC
    by_cases h2 : 2000 < s + 1
    · rw [show FT.ev (.c3 f g k l) az s = none by simp only [FT.ev]; rw [if_pos h2]]
      exact reck_over w rb s _ sv ⟨_, rfl⟩ hs h2 (by omega)
    · obtain ⟨W1, hW1, hs1, hA1, hv1, c4⟩ := rk_ahead (t := .c3 f g k l) hA hr hs hv hb hh
      have hP : PartsU w0 S (.slice (some ⟨so, o, none⟩) 3 cap) [g, k, l] := ⟨so, o, cap, cs, T, fr, rfl, bs, h3, fun j hj => by match j, hj with | 0, _ => exact ⟨_, e1, hg⟩ | 1, _ => exact ⟨_, e2, hk⟩ | 2, _ => exact ⟨_, e3, hl3⟩⟩
      have hclo := clo_comp w0 S f [g, k, l] _ pf q1 q2 hP hf h1 b1 hq2 b2 (by simp) (ihf ho.1 w0 S) (fun j hj => by
        simp only [List.mem_cons, List.not_mem_nil, or_false] at hj
        rcases hj with rfl | rfl | rfl
        · exact ihg ho.2.1 w0 S
        · exact ihk ho.2.2.1 w0 S
        · exact ihl ho.2.2.2.1 w0 S) (by simpa using ho.2.2.2.2.1) W1 rb (s + 1) sv az hA1 hr hs1 (by omega) hv1 (fun j hj => by
        simp only [List.mem_cons, List.not_mem_nil, or_false] at hj
        rcases hj with rfl | rfl | rfl
        · exact hl
        · exact hl.trans ho.2.2.2.2.2.1.symm
        · exact hl.trans ho.2.2.2.2.2.2.symm) ha
      have := reck_comp w W1 rb s b sv q1 q2 _ hs h2 hW1 c4 hclo evComp_small
      rw [show FT.ev (.c3 f g k l) az s = FT.chk (evComp f [g, k, l] az (s + 1)) by simp only [FT.ev]; rw [if_neg h2, evComp_three]; rfl]
      exact this
  | r f g ihf ihg =>
    intro ho w0 S w rb s v sv az hC hA hr hs hs2 hv hl ha
    obtain ⟨b, vr, vf, rfl, hb, hh, _, q1, q2, pf, pg, rfl, b1, h1, b2, hq2, hf, hg⟩ := hC
    by_cases h2 : 2000 < s + 1
    · rw [show FT.ev (.r f g) az s = none by simp only [FT.ev]; rw [if_pos h2]]
      exact reck_over w rb s _ sv ⟨_, rfl⟩ hs h2 (by omega)
    · obtain ⟨W1, hW1, hs1, hA1, hv1, c4⟩ := rk_ahead (t := .r f g) hA hr hs hv hb hh
      have hclo := clo_rec w0 S f g pf pg q1 q2 hf hg h1 b1 hq2 b2 (ihf ho.1 w0 S) (ihg ho.2.1 w0 S) ho.2.2 (FT.arity_le ho.2.1) W1 rb (s + 1) sv az hA1 hr hs1 (by omega) hv1 hl ha
      have := reck_rec w W1 rb s b sv q1 q2 _ hs h2 hW1 c4 hclo (evRec_small)
      rw [show FT.ev (.r f g) az s = FT.chk (evRec f g az (s + 1)) by simp only [FT.ev]; rw [if_neg h2]; rfl]
      exact this
  | m f ihf =>
    intro ho w0 S w rb s v sv az hC hA hr hs hs2 hv hl ha
    obtain ⟨b, vr, vf, rfl, hb, hh, _, q1, pf, rfl, b1, h1, hf⟩ := hC
    by_cases h2 : 2000 < s + 1
    · rw [show FT.ev (.m f) az s = none by simp only [FT.ev]; rw [if_pos h2]]
      exact reck_over w rb s _ sv ⟨_, rfl⟩ hs h2 (by omega)
    · obtain ⟨W1, hW1, hs1, hA1, hv1, c4⟩ := rk_ahead (t := .m f) hA hr hs hv hb hh
      have hclo := clo_sea w0 S f pf q1 hf h1 b1 (ihf ho.1 w0 S) ho.2 (FT.arity_le ho.1) W1 rb (s + 1) sv az hA1 hr hs1 (by omega) hv1 hl ha
      have := reck_sea w W1 rb s b sv q1 _ hs h2 hW1 c4 hclo (fun v s' h => by have := loopM_lt _ _ _ _ _ _ h; omega)
      rw [show FT.ev (.m f) az s = FT.chk (FT.loopM (FT.ev f) az 2001 0 (s + 1)) by simp only [FT.ev]; rw [if_neg h2]]
      exact this
end Go.Proofs.Ytjomocjlnjgkeaa

namespace Go.Proofs.Ytjomocjlnjgkeaa
open Go.RowKit

set_option maxHeartbeats 2000000
set_option maxRecDepth 100000

theorem step_app_on {P : Program} (w : World) {ops : Array Oper} {o : Oper} {a : Act} {K : Act → World → Prop} {Q : Exit → Act → World → Prop} {E : Prop} (hw : Region.wanted o (yielded ops a.tmps) = true) (s x : Operand) (t : TypeId)
    (ho : o.op = .call { callee := .builtin .append, args := #[s, x], argTypes := #[t, t] })
    (base : Nat) (e : TypeId) (i : TypeInfo) (z : Value) (bytes : Nat) (ht : P.underlying t = some (.slice e)) (hi : P.info? e = some i) (hz : i.zero = some z)
    (hsize : i.size = 1) (hby : i.bytes = bytes) (hzs : z.cells.size = 1)
    (v : Value) (n : Nat) (xs : List Value) (hs : a.eval s = v) (hown : w.ownsRow base e 1 v n xs) (sv : Value) (news : List Value) (hx : a.eval x = sv) (hsrc : SrcOk w sv news) (h1 : ∀ u ∈ news, u.oneCell' = true)
    (h63 : n + news.length ≤ maxLen) (hbytes : (n + news.length) * bytes ≤ 140737488355328) (hbase : base ≤ w.heap.size)
    (h : ∀ v' w', w'.ownsRow base e 1 v' (n + news.length) (xs ++ news) → w.grownBy w' v.ownBlock → K (a.put o.dst v') w') :
    if Region.wanted o (yielded ops a.tmps) = true then Oper.wp P o a w K Q else E := by
  rw [if_pos hw]
  exact wp_app w s x t ho base e i z bytes ht hi hz hsize hby hzs v n xs hs hown sv news hx hsrc h1 h63 hbytes hbase h

theorem loopN_step (f : FT) (az : List Nat) (k s : Nat) (hk : k ≤ 2000) : FT.loopN (FT.ev f) az (2001 - k) k s = match FT.ev f (k :: az) s with
    | none => none
    | some (v, s') => if v = 0 then some (k, s') else if 1000 < k + 1 then none else FT.loopN (FT.ev f) az (2001 - (k + 1)) (k + 1) s' := by
  rw [show 2001 - k = (2001 - (k + 1)) + 1 by omega]
  rfl

theorem loopN_congr {f f' : List Nat → Nat → Option (Nat × Nat)} (rest : List Nat) (hr : ∀ a ∈ rest, a ≤ 1000) (he : ∀ az s, (∀ a ∈ az, a ≤ 1000) → f' az s = f az s) :
    ∀ (k n s : Nat), n ≤ 1000 → FT.loopN f' rest k n s = FT.loopN f rest k n s
  | 0, _, _, _ => rfl
  | k + 1, n, s, hn => by
    simp only [FT.loopN]
    rw [he (n :: rest) s (by simp; exact ⟨hn, hr⟩)]
    cases hq : f (n :: rest) s with
    | none => rfl
    | some q =>
      obtain ⟨a, b⟩ := q
      simp only
      split
      · rfl
      · split
        · rfl
        · exact loopN_congr rest hr he k (n + 1) b (by omega)

theorem sv_m (w0 : World) (S : Nat) (f : FT) (v0 : Value) (hk : KidsV w0 S v0 [f]) (ihf : VK w0 S f) (h0 : 0 < FT.arity f) (h3 : FT.arity f ≤ 3)
    (w : World) (rb s : Nat) (sv : Value) (az : List Nat) (hA : Agree w0 w S) (hr : w0.heap.size ≤ rb) (hm : MSt w rb s false) (hs : s ≤ 2000) (h2 : ¬ 2000 < s + 1) (hv : IntsV w rb sv az) (hl : az.length + 1 = FT.arity f) (haz : ∀ a ∈ az, a ≤ 1000)
    (ar : Int) (N : Nat) (hNf : 2001 + 4 * FT.size f ≤ N) (hNs : N ≤ 50000) :
    Calls Try.prog 51 #[ptr rb, .agg #[str [109], v0, .int .i64 ar], sv] w (MPost w rb N (FT.loopN (FT.ev f) az 2001 0 (s + 1))) := by
  obtain ⟨kb, kcap, fo, fn, fc, rfl, hkf, hcf⟩ := hk.fix 0 (by simp)
  obtain ⟨ao, sc, rfl⟩ := hv.form
  simp only [List.getElem_cons_zero] at hkf hcf
  simp only [Nat.zero_mul, Nat.zero_add] at hcf
  have p0 : ∀ W, GB w rb W → W.cell? ⟨kb, 0, none⟩ = some (str (FT.atomOf f)) := fun W hW => (hcf W (hA.grown hW hr)).1
  have p1 : ∀ W, GB w rb W → W.cell? ⟨kb, 1, none⟩ = some (.slice fo fn fc) := fun W hW => (hcf W (hA.grown hW hr)).2.1
  have p2 : ∀ W, GB w rb W → W.cell? ⟨kb, 2, none⟩ = some (.int .i64 (FT.arity f : Nat)) := fun W hW => (hcf W (hA.grown hW hr)).2.2
  have hlen1 : ([f] : List FT).length = 1 := rfl
  rw [hlen1]
  have hqr : w.heap.size ≠ rb := by have := hm.lt; omega
  obtain ⟨W1, hW1, hm1, hgw1, hh, c0, f0, d0, d1, f1⟩ := ms_ahead hm (.cells #[str [109], .slice (some ⟨kb, 0, none⟩) 1 kcap, .int .i64 ar] 65)
  have t0 : W1.cell? ⟨w.heap.size, 0, none⟩ = some (str [109]) := cell_of_heap (i := 0) hh
  have t1 : ∀ W, GB W1 rb W → W.cell? ⟨w.heap.size, 1, none⟩ = some (.slice (some ⟨kb, 0, none⟩) 1 kcap) := fun W hW => grown_cell' (cell_of_heap (i := 1) hh) hqr hW
  have hgw : ∀ W, GB W1 rb W → GB w rb W := fun W hW => GB.trans hgw1 hW
  have hself1 := GB.refl W1 rb
  obtain ⟨R, hR⟩ : ∃ R, R = FT.loopN (FT.ev f) az 2001 0 (s + 1) := ⟨_, rfl⟩
  rw [← hR]
  obtain ⟨m, hmm⟩ : ∃ m, m = az.length := ⟨_, rfl⟩
  have hm2 : m ≤ 2 := by omega
  have h2' : ¬ (2000 : Int) < (s : Int) + 1 := by omega
  have hun : Try.prog.underlying 32 = some (.slice 3) := by kernel_rfl
  obtain ⟨i0, hi0, hz0, hz1, hz2⟩ : ∃ i, (Try.prog).info? 3 = some i ∧ i.zero = some (.int .i64 0) ∧ i.size = 1 ∧ i.bytes = 8 := ⟨_, rfl, rfl, rfl, rfl⟩
  have hone := one_ints az
  have hnl : (intL az).length = m := by simp [intL, hmm]
  rw [hW1] at t0
  have hss : s + 1 ≤ 2000 := by omega
  rw [← hmm]
  have HL := Lib.hid hl
  have HM := Lib.hid hmm
  have HR := Lib.hid hR
  have HIF := Lib.hid ihf
  have HKF := Lib.hid hkf
  have HA := Lib.hid hA
  have HV := Lib.hid hv
  have HAZ := Lib.hid haz
  have HONE := Lib.hid hone
  have HNL := Lib.hid hnl
  have HW1 := Lib.hid hW1
  have HM1 := Lib.hid hm1
  have HGW1 := Lib.hid hgw1
  have HP := Lib.hid (And.intro p0 (And.intro p1 p2))
  have HT1 := Lib.hid t1
  clear hR hkf ihf hA hv haz hl hmm hone hnl hk hm hcf hW1 hm1 hgw1 p0 p1 p2 hqr hh h2 hgw h0 h3 t1
  go_enter Try.func51, Try.ntmps51
  go_wp2_with fail
  rw [← HW1.out]
  clear t0 c0 f0 d0 d1 f1
  go_loopw [11] (fun n wr => ∃ (k : Nat) (sk : Nat) (bad : Bool), n = .int .i64 (k : Nat) ∧ k ≤ 1001 ∧ sk ≤ 60000 ∧ Hid (MSt wr rb sk bad) ∧ Hid (GB W1 rb wr) ∧ Hid (bad = true → R = none ∧ sk ≤ N) ∧ Hid (bad = false → k ≤ 1000 ∧ sk ≤ 2000 ∧ R = FT.loopN (FT.ev f) az (2001 - k) k sk)) (fun n _ => 2000 - (intOf n).toNat)
  case atStart => exact ⟨0, s + 1, false, rfl, by omega, by omega, HM1.out, hself1, (fun h => by cases h), fun _ => ⟨by omega, hss, HR.out⟩⟩
  case round =>
    obtain ⟨k, sk, bad, rfl, hk, hsk, HST, HGR, HBAD, HGOOD⟩ := hrel
    have hgwr : GB w rb wr := GB.trans HGW1.out HGR.out
    have HGWR := Lib.hid hgwr
    have r1 := HST.out.c1
    cases bad with
    | true =>
      obtain ⟨hR0, hskN⟩ := HBAD.out rfl
      have HN0 := Lib.hid hR0
      clear hR0
      go_wp2_with fail
      go_quiet (fail)
      go_wp2_with fail
      go_ret
      exact ⟨GB.trans HGWR.out (grown_drawn wr rb _), (k : Nat), rfl, by rw [HN0.out]; exact ⟨sk, hskN, HST.out⟩⟩
    | false =>
      obtain ⟨hk2, hsk2, hRk⟩ := HGOOD.out rfl
      have HRK := Lib.hid hRk
      clear hRk
      have hself := GB.refl wr rb
      obtain ⟨p0, p1, p2⟩ := HP.out
      have q0 : ∀ W, GB wr rb W → W.cell? ⟨kb, 0, none⟩ = some (str (FT.atomOf f)) := fun W hW => p0 W (GB.trans hgwr hW)
      have q1 : ∀ W, GB wr rb W → W.cell? ⟨kb, 1, none⟩ = some (.slice fo fn fc) := fun W hW => p1 W (GB.trans hgwr hW)
      have q2 : ∀ W, GB wr rb W → W.cell? ⟨kb, 2, none⟩ = some (.int .i64 (FT.arity f : Nat)) := fun W hW => p2 W (GB.trans hgwr hW)
      have b1' : ∀ W, GB wr rb W → W.cell? ⟨w.heap.size, 1, none⟩ = some (.slice (some ⟨kb, 0, none⟩) 1 kcap) := fun W hW => HT1.out W (GB.trans HGR.out hW)
      have hcall0 := row_callS HIF.out HKF.out wr rb sk (HA.out.grown hgwr hr) hr HST.out hsk2 (k :: az) (by rw [List.length_cons]; exact HL.out) (fun a h => by
        rcases List.mem_cons.1 h with rfl | h
        · exact hk2
        · exact HAZ.out a h)
      have hruns := FT.ev_runs f (k :: az) sk
      have hstep := HRK.out.trans (loopN_step f az k sk (by omega))
      have hcall : ∀ (W : World) (u : Value) (n : Nat) (vs : List Value), n = (k :: az).length → vs = intL (k :: az) → W.ownsRow wr.heap.size 3 1 u n vs → After wr W → Calls Try.prog 51 #[ptr rb, .agg #[str (FT.atomOf f), .slice fo fn fc, .int .i64 (FT.arity f : Nat)], u] W fun e w1 => W.grownBy w1 (some rb) ∧ ∃ (x : Int) (s' : Nat) (bad' : Bool), e = .returned (.int .i64 x) ∧ MSt w1 rb s' bad' ∧ s' ≤ 60000 ∧
          (bad' = true → R = none ∧ s' ≤ N) ∧ (bad' = false → s' ≤ 2000 ∧ (x = 0 → R = some (k, s')) ∧ (x ≠ 0 → if 1000 < k + 1 then R = none else R = FT.loopN (FT.ev f) az (2001 - (k + 1)) (k + 1) s')) := fun W u n vs h1 h2 h3 h4 => by
        refine (hcall0 W u n vs h1 h2 h3 h4).mono ?_
        rintro e w1 ⟨hg1, x, rfl, hx⟩
        cases hev : FT.ev f (k :: az) sk with
        | none =>
          rw [hev] at hx hstep
          obtain ⟨s', hs', hst⟩ := hx
          exact ⟨hg1, x, s', true, rfl, hst, by omega, (fun _ => ⟨hstep, by omega⟩), fun h => by cases h⟩
        | some p =>
          obtain ⟨y, s2⟩ := p
          have hb := hruns.small _ _ hev
          rw [hev] at hx hstep
          obtain ⟨rfl, hst⟩ := hx
          refine ⟨hg1, _, s2, false, rfl, hst, by omega, (fun h => by cases h), fun _ => ⟨hb.2.2, fun h => ?_, fun h => ?_⟩⟩
          · rw [hstep]; simp only; rw [if_pos (by omega)]
          · rw [hstep]; simp only; rw [if_neg (show ¬ y = 0 by omega)]; split <;> rfl
      have hwr : After wr ((wr.alloc (.cells #[.int .i64 (k : Nat)] 3)).drew) := After.drew (After.new _ _)
      have hsrc := src_ints (HV.out.grown hgwr) hwr
      have hl2 : 1 + (intL az).length = (k :: az).length := by simp only [intL, List.length_map, List.length_cons]; omega
      have hl3 : [Value.int .i64 (k : Nat)] ++ intL az = intL (k :: az) := rfl
      have hmax : 1 + (intL az).length ≤ maxLen := by rw [HNL.out]; unfold maxLen; omega
      have hm8 : (1 + (intL az).length) * 8 ≤ 140737488355328 := by rw [HNL.out]; omega
      have hsz : wr.heap.size ≤ ((wr.alloc (.cells #[.int .i64 (k : Nat)] 3)).drew).heap.size := hwr.size
      rw [← HM.out] at hsrc
      have HSRC := Lib.hid hsrc
      have HL2 := Lib.hid hl2
      have HL3 := Lib.hid hl3
      have HMAX := Lib.hid hmax
      have HM8 := Lib.hid hm8
      have HCALL := Lib.hid hcall
      clear hcall0 hcall hsrc hl2 hl3 hstep hmax hm8 hruns p0 p1 p2 hgwr
      go_wp2_with fail
      have BO : GB wr rb ((wr.alloc (.cells #[.int .i64 (k : Nat)] 3)).drew) := GB.drew (GB.alloc hself _)
      have xa := q0 _ (GB.drew hself)
      have xb := q1 _ (GB.drew hself)
      have xc := q2 _ (GB.drew hself)
      have xd := b1' _ (GB.drew hself)
      have ya := q0 _ BO
      have yb := q1 _ BO
      have yc := q2 _ BO
      have yd := b1' _ BO
      go_region_law (first
        | (refine step_app_on _ (by rfl) _ _ 32 (by rfl) wr.heap.size 3 i0 (.int .i64 0) 8 hun hi0 hz0 hz1 hz2 rfl _ 1 [.int .i64 (k : Nat)] (by rfl) ((owns_built wr (.int .i64 (k : Nat)) _).drew) _ (intL az) (by rfl) HSRC.out HONE.out HMAX.out HM8.out hsz ?_; intro v2 w2 ho2 hg2; obtain ⟨co, cn, cc, rfl⟩ := o_slice ho2; have ha2 := after_own2 (undrew hg2); have HA2 := Lib.hid ha2; have HO2 := Lib.hid ho2; have hb2 : GB wr rb w2 := GB.after ha2 rb; have za := q0 _ hb2; have zb := q1 _ hb2; have zc := q2 _ hb2; have zd := b1' _ hb2; clear ho2 hg2 ha2)
        | (go_simp; go_at_call 51; refine (HCALL.out _ _ _ _ HL2.out HL3.out HO2.out HA2.out).mono ?_; rintro e w3 ⟨hg3, x3, s3, bad3, rfl, hst3, hs3, hbad3, hgood3⟩; have hb3 : GB wr rb w3 := GB.trans hb2 hg3; have HST3 := Lib.hid hst3; have HBAD3 := Lib.hid hbad3; have HGOOD3 := Lib.hid hgood3; clear hst3 hbad3 hgood3))
      all_goals
        have r3 := HST3.out.c1
        have fr3 := HST3.out.fr 1
        have hwk : GB w rb w3 := GB.trans HGWR.out hb3
        have HWK := Lib.hid hwk
        have HGK := Lib.hid (GB.trans HGR.out hb3)
        clear hwk
        by_cases hx0 : x3 = 0
        · subst hx0
          go_wp2_with fail
          go_ret
          refine ⟨HWK.out, (k : Nat), rfl, ?_⟩
          cases bad3 with
          | true =>
            obtain ⟨q1, q2⟩ := HBAD3.out rfl
            rw [q1]
            exact ⟨s3, q2, HST3.out⟩
          | false =>
            obtain ⟨q1, q2, _⟩ := HGOOD3.out rfl
            rw [q2 (by trivial)]
            exact ⟨rfl, HST3.out⟩
        · have hxb : (x3 == 0) = false := by rw [beq_eq_false_iff_ne]; exact hx0
          have hki : (k : Int) ≤ 1000 := by omega
          cases bad3 with
          | true =>
            go_wp2_with fail
            go_roundw
            case rel => exact ⟨k + 1, s3, true, by go_num, by omega, hs3, HST3.out.set1 true, GB.trans HGK.out (grown_setx _ _ _ _), HBAD3.out, fun h => by cases h⟩
            case measure => simp [intOf]; omega
          | false =>
            by_cases hbig : 1000 < k + 1
            · have hbigI : (1000 : Int) < (k : Int) + 1 := by omega
              have HQ := Lib.hid (show R = none by have := (HGOOD3.out rfl).2.2 hx0; rwa [if_pos hbig] at this)
              have hs3' := (HGOOD3.out rfl).1
              go_wp2_with fail
              go_roundw
              case rel => exact ⟨k + 1, s3, true, by go_num, by omega, hs3, HST3.out.set1 true, GB.trans HGK.out (grown_setx _ _ _ _), (fun _ => ⟨HQ.out, by omega⟩), fun h => by cases h⟩
              case measure => simp [intOf]; omega
            · have hbigI : ¬ (1000 : Int) < (k : Int) + 1 := by omega
              have HQ := Lib.hid (show R = FT.loopN (FT.ev f) az (2001 - (k + 1)) (k + 1) s3 by have := (HGOOD3.out rfl).2.2 hx0; rwa [if_neg hbig] at this)
              have hs3' := (HGOOD3.out rfl).1
              go_wp2_with fail
              go_roundw
              case rel => exact ⟨k + 1, s3, false, by go_num, by omega, hs3, HST3.out.set1 false, GB.trans HGK.out (grown_setx _ _ _ _), (fun h => by cases h), fun _ => ⟨by omega, hs3', HQ.out⟩⟩
              case measure => simp [intOf]; omega

/-! ### every function text -/

theorem vk_any : ∀ {g : FT}, FT.ok g → FT.size g ≤ 5000 → ∀ (w0 : World) (S : Nat), VK w0 S g := by
  intro g
  induction g with
  | z a => exact fun _ _ w0 S => vk_z w0 S a
  | inc => exact fun _ _ w0 S => vk_inc w0 S
  | p i a => exact fun ho _ w0 S => vk_p w0 S i a ho.1 ho.2
  | c1 f g ihf ihg =>
    intro ho hz w0 S
    simp only [FT.size] at hz
    refine vk_of (fun w rb s sv az v0 hk hA hr hm hs h2 hv hl haz => ?_) (fun az s h => by simp only [FT.mv]; rw [if_pos h])
    have h := sv_c w0 S f [g] (by simp) (by simp) v0 hk (ihf ho.1 (by omega) w0 S) (fun k hk => by simp at hk; subst hk; exact ihg ho.2.1 (by omega) w0 S) w rb s sv az hA hr hm hs h2 hv (fun k hk => by simp at hk; subst hk; exact hl) (by simpa using ho.2.2.symm) haz (FT.arity (.c1 f g) : Nat) (2001 + 4 * FT.size (.c1 f g)) (2001 + 4 * (FT.size f + FT.size g))
      (fun k hk => by
        simp only [List.mem_cons, List.not_mem_nil, or_false] at hk
        rcases hk with rfl | rfl <;> omega) (by simp only [FT.size]; omega) (by omega)
    rw [FT.mv_eq _ az s haz]
    rw [show FT.ev (.c1 f g) az s = evComp f [g] az (s + 1) by
      simp only [FT.ev]
      rw [if_neg h2, evComp_one]
      refine FT.chk_small fun v s' e => ?_
      cases e1 : FT.ev g az (s + 1) with
      | none => rw [e1] at e; simp at e
      | some p => rw [e1] at e; exact ((FT.ev_runs f _ _).small _ _ e).1]
    exact h
  | c2 f g k ihf ihg ihk =>
    intro ho hz w0 S
    simp only [FT.size] at hz
    refine vk_of (fun w rb s sv az v0 hk hA hr hm hs h2 hv hl haz => ?_) (fun az s h => by simp only [FT.mv]; rw [if_pos h])
    have h := sv_c w0 S f [g, k] (by simp) (by simp) v0 hk (ihf ho.1 (by omega) w0 S) (fun j hj => by
        simp only [List.mem_cons, List.not_mem_nil, or_false] at hj
        rcases hj with rfl | rfl
        · exact ihg ho.2.1 (by omega) w0 S
        · exact ihk ho.2.2.1 (by omega) w0 S) w rb s sv az hA hr hm hs h2 hv (fun j hj => by
        simp only [List.mem_cons, List.not_mem_nil, or_false] at hj
        rcases hj with rfl | rfl
        · exact hl
        · exact hl.trans ho.2.2.2.2.symm) (by simpa using ho.2.2.2.1.symm) haz (FT.arity (.c2 f g k) : Nat) (2001 + 4 * FT.size (.c2 f g k)) (2001 + 4 * (FT.size f + FT.size g + FT.size k))
      (fun j hj => by
        simp only [List.mem_cons, List.not_mem_nil, or_false] at hj
        rcases hj with rfl | rfl | rfl <;> omega) (by simp only [FT.size]; omega) (by omega)
    rw [FT.mv_eq _ az s haz]
    rw [show FT.ev (.c2 f g k) az s = evComp f [g, k] az (s + 1) by
      simp only [FT.ev]
      rw [if_neg h2, evComp_two]
      refine FT.chk_small fun v s' e => ?_
      cases e1 : FT.ev g az (s + 1) with
      | none => rw [e1] at e; simp at e
      | some p =>
        rw [e1] at e
        simp only at e
        cases e2 : FT.ev k az p.2 with
        | none => rw [e2] at e; simp at e
        | some q => rw [e2] at e; exact ((FT.ev_runs f _ _).small _ _ e).1]
    exact h
  | c3 f g k l ihf ihg ihk ihl =>
    intro ho hz w0 S
    simp only [FT.size] at hz
    refine vk_of (fun w rb s sv az v0 hk hA hr hm hs h2 hv hl haz => ?_) (fun az s h => by simp only [FT.mv]; rw [if_pos h])
    have h := sv_c w0 S f [g, k, l] (by simp) (by simp) v0 hk (ihf ho.1 (by omega) w0 S) (fun j hj => by
        simp only [List.mem_cons, List.not_mem_nil, or_false] at hj
        rcases hj with rfl | rfl | rfl
        · exact ihg ho.2.1 (by omega) w0 S
        · exact ihk ho.2.2.1 (by omega) w0 S
        · exact ihl ho.2.2.2.1 (by omega) w0 S) w rb s sv az hA hr hm hs h2 hv (fun j hj => by
        simp only [List.mem_cons, List.not_mem_nil, or_false] at hj
        rcases hj with rfl | rfl | rfl
        · exact hl
        · exact hl.trans ho.2.2.2.2.2.1.symm
        · exact hl.trans ho.2.2.2.2.2.2.symm) (by simpa using ho.2.2.2.2.1.symm) haz (FT.arity (.c3 f g k l) : Nat) (2001 + 4 * FT.size (.c3 f g k l)) (2001 + 4 * (FT.size f + FT.size g + FT.size k + FT.size l))
      (fun j hj => by
        simp only [List.mem_cons, List.not_mem_nil, or_false] at hj
        rcases hj with rfl | rfl | rfl | rfl <;> omega) (by simp only [FT.size]; omega) (by omega)
    rw [FT.mv_eq _ az s haz]
    rw [show FT.ev (.c3 f g k l) az s = evComp f [g, k, l] az (s + 1) by
      simp only [FT.ev]
      rw [if_neg h2, evComp_three]
      refine FT.chk_small fun v s' e => ?_
      cases e1 : FT.ev g az (s + 1) with
      | none => rw [e1] at e; simp at e
      | some p =>
        rw [e1] at e
        simp only at e
        cases e2 : FT.ev k az p.2 with
        | none => rw [e2] at e; simp at e
        | some q =>
          rw [e2] at e
          simp only at e
          cases e3 : FT.ev l az q.2 with
          | none => rw [e3] at e; simp at e
          | some u => rw [e3] at e; exact ((FT.ev_runs f _ _).small _ _ e).1]
    exact h
  | r f g ihf ihg =>
    intro ho hz w0 S
    simp only [FT.size] at hz
    refine vk_of (fun w rb s sv az v0 hk hA hr hm hs h2 hv hl haz => ?_) (fun az s h => by simp only [FT.mv]; rw [if_pos h])
    rw [FT.mv_eq _ az s haz]
    rw [show FT.ev (.r f g) az s = evRec f g az (s + 1) by
      simp only [FT.ev]
      rw [if_neg h2]
      refine FT.chk_small fun v s' e => ?_
      cases e1 : FT.ev f az.tail (s + 1) with
      | none => rw [e1] at e; simp at e
      | some p =>
        rw [e1] at e
        have q1 := (FT.ev_runs f az.tail (s + 1)).small _ _ e1
        exact (FT.loopR_facts (FT.ev_runs g) az.tail _ _ _ _ _ _ q1.1 q1.2.2 e).1]
    match az, hl, hv, haz with
    | n0 :: rest, hl, hv, haz =>
      have hvc := hv
      rcases hv with ⟨h, _⟩ | ⟨b, o, cap, rfl, hle, hne, hb, hc⟩
      · cases h
      · have hrl : rest.length = FT.arity f := by simp only [FT.arity, List.length_cons] at hl; omega
        have hcap : rest.length + 1 ≤ cap := by simpa using hle
        have z1 : 2001 + 4 * FT.size f ≤ 2001 + 4 * FT.size (.r f g) := by simp only [FT.size]; omega
        have z2 : 2001 + 4 * FT.size g ≤ 2001 + 4 * FT.size (.r f g) := by simp only [FT.size]; omega
        have z3 : 2001 + 4 * FT.size (.r f g) ≤ 50000 := by simp only [FT.size]; omega
        by_cases hc1 : cap = 1
        · have hr0 : rest = [] := List.length_eq_zero_iff.1 (by omega)
          exact sv_r_at w0 S f g v0 hk (ihf ho.1 (by omega) w0 S) (ihg ho.2.1 (by omega) w0 S) ho.2.2 (FT.arity_le ho.2.1) w rb s b o cap n0 rest (.slice (some ⟨b, o, none⟩) rest.length 0) hA hr hm hs h2 hvc hrl haz hcap (Or.inl ⟨hc1, rfl⟩) (Or.inl ⟨hr0, _, _, by rw [hr0]; rfl⟩) _ _ z1 z2 z3
        · exact sv_r_at w0 S f g v0 hk (ihf ho.1 (by omega) w0 S) (ihg ho.2.1 (by omega) w0 S) ho.2.2 (FT.arity_le ho.2.1) w rb s b o cap n0 rest _ hA hr hm hs h2 hvc hrl haz hcap (Or.inr ⟨hc1, rfl⟩) hvc.rest _ _ z1 z2 z3
    | [], hl, _, _ => simp [FT.arity] at hl
  | m f ihf =>
    intro ho hz w0 S
    simp only [FT.size] at hz
    refine vk_of (fun w rb s sv az v0 hk hA hr hm hs h2 hv hl haz => ?_) (fun az s h => by simp only [FT.mv]; rw [if_pos h])
    have hl' : az.length + 1 = FT.arity f := by have := ho.2; simp only [FT.arity] at hl; omega
    rw [show FT.mv (.m f) az s = FT.loopN (FT.ev f) az 2001 0 (s + 1) by
      simp only [FT.mv]
      rw [if_neg h2]
      exact loopN_congr az haz (fun az s h => FT.mv_eq f az s h) _ _ _ (by omega)]
    exact sv_m w0 S f v0 hk (ihf ho.1 (by omega) w0 S) ho.2 (FT.arity_le ho.1) w rb s sv az hA hr hm hs h2 hv hl' haz _ _ (by simp only [FT.size]; omega) (by simp only [FT.size]; omega)
end Go.Proofs.Ytjomocjlnjgkeaa
