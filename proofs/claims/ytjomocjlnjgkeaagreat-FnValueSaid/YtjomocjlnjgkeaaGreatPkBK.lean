/-
  The program's reckonAll; the closures of composition, recursion, search.
-/
import Derived.Test.YtjomocjlnjgkeaaGreatPkBJ
import Derived.OwnWalk
import Derived.Laws.AppendOwn
import Derived.Deep.AppendLies
namespace Go.Proofs.YtjomocjlnjgkeaaGreat
open Go.RowKit

set_option maxHeartbeats 2000000
set_option maxRecDepth 100000

/-- reckon does for g what it has to. -/
def RK (w0 : World) (S : Nat) (g : FT) : Prop := ∀ (w : World) (rb s : Nat) (v sv : Value) (az : List Nat), CV w0 S g v → Agree w0 w S → w0.heap.size ≤ rb → Steps w rb s → s ≤ 2000 → IntsV w rb sv az → az.length = FT.arity g → (∀ a ∈ az, a ≤ 10000) →
  Calls Tryz.prog 38 #[v, ptr rb, sv] w (ReckPost w rb (FT.ev g az s))

def evAll : List FT → List Nat → Nat → Option (List Nat × Nat)
  | [], _, s => some ([], s)
  | g :: gs, az, s => match FT.ev g az s with
    | none => none
    | some (x, s1) => match evAll gs az s1 with
      | none => none
      | some (xs, s2) => some (x :: xs, s2)

theorem evAll_append (ls bs : List FT) (az : List Nat) (s : Nat) : evAll (ls ++ bs) az s = match evAll ls az s with
    | none => none
    | some (xs, s1) => match evAll bs az s1 with
      | none => none
      | some (ys, s2) => some (xs ++ ys, s2) := by
  induction ls generalizing s with
  | nil => simp only [List.nil_append, evAll]; cases evAll bs az s with | none => rfl | some p => rfl
  | cons a ls ih =>
    simp only [List.cons_append, evAll]
    cases FT.ev a az s with
    | none => rfl
    | some p =>
      obtain ⟨x, s1⟩ := p
      simp only [ih]
      cases evAll ls az s1 with
      | none => rfl
      | some q =>
        obtain ⟨xs, s2⟩ := q
        simp only
        cases evAll bs az s2 with
        | none => rfl
        | some r => rfl

theorem evAll_none {gs : List FT} {az : List Nat} {s k : Nat} (h : evAll (gs.take k) az s = none) : evAll gs az s = none := by
  rw [← List.take_append_drop k gs, evAll_append, h]

theorem evAll_one (g : FT) (az : List Nat) (s : Nat) : evAll [g] az s = match FT.ev g az s with | none => none | some (x, s1) => some ([x], s1) := by
  simp only [evAll]

theorem evAll_facts : ∀ {gs : List FT} {az : List Nat} {s : Nat} {xs : List Nat} {s' : Nat}, evAll gs az s = some (xs, s') → xs.length = gs.length ∧ (∀ x ∈ xs, x ≤ 1000) ∧ (s ≤ 2000 → s' ≤ 2000)
  | [], _, _, _, _, h => by simp only [evAll, Option.some.injEq, Prod.mk.injEq] at h; obtain ⟨rfl, rfl⟩ := h; exact ⟨rfl, by simp, id⟩
  | g :: gs, az, s, xs, s', h => by
    simp only [evAll] at h
    cases hg : FT.ev g az s with
    | none => rw [hg] at h; simp at h
    | some p =>
      obtain ⟨x, s1⟩ := p
      rw [hg] at h
      simp only at h
      have h1 := (FT.ev_runs g az s).small _ _ hg
      cases hs : evAll gs az s1 with
      | none => rw [hs] at h; simp at h
      | some q =>
        obtain ⟨ys, s2⟩ := q
        rw [hs] at h
        simp only [Option.some.injEq, Prod.mk.injEq] at h
        obtain ⟨rfl, rfl⟩ := h
        obtain ⟨h2, h3, h4⟩ := evAll_facts hs
        refine ⟨by simp [h2], ?_, fun _ => h4 h1.2.2⟩
        intro y hy
        rcases List.mem_cons.1 hy with rfl | hy
        · exact h1.1
        · exact h3 y hy

def AllPost (w : World) (rb : Nat) (o : Option (List Nat × Nat)) (e : Ending) (w' : World) : Prop :=
  w.grownBy w' (some rb) ∧ match o with
    | none => e = .returned (.tuple #[.slice none 0 0, .bool false])
    | some (xs, s) => ∃ sv, e = .returned (.tuple #[sv, .bool true]) ∧ IntsV w' rb sv xs ∧ Steps w' rb s

def intL (xs : List Nat) : List Value := xs.map fun x => Value.int .i64 (x : Nat)

theorem ints_own {w : World} {base rb n : Nat} {v : Value} {vs : List Value} (xs : List Nat) (hn : n = xs.length) (hvs : vs = intL xs) (h : w.ownsRow base 3 1 v n vs) (hb : rb < base) : IntsV w rb v xs := by
  subst hn
  subst hvs
  rcases h.2 with ⟨h1, h2⟩ | ⟨g, cap, cur, h1, hg, hh, hle, _⟩
  · exact Or.inl ⟨List.length_eq_zero_iff.1 h2, none, 0, h1⟩
  · refine Or.inr ⟨g, 0, cap, h1, hle, by omega, (Array.getElem?_eq_some_iff.1 hh).1, fun j hj => ?_⟩
    rw [Nat.zero_add, World.ownsRow.cellAt (h1 ▸ h) j (by omega)]
    simp [intL, List.getElem?_map, List.getElem?_eq_getElem hj]

/-- Parts of a compiled function text, where they lie. -/
def PartsU (w : World) (B : Nat) (sv : Value) (ps : List FT) : Prop :=
  ∃ s o cap cs T fr, sv = .slice (some ⟨s, o, none⟩) ps.length cap ∧ B ≤ s ∧ w.heap[s]? = some (.cells cs T fr) ∧ ∀ j (h : j < ps.length), ∃ v, cs[o + j]? = some v ∧ CV w B ps[j] v

theorem PartsU.form {w : World} {B : Nat} {sv : Value} {ps : List FT} (h : PartsU w B sv ps) : ∃ ao cap, sv = .slice ao ps.length cap := by
  obtain ⟨s, o, cap, _, _, _, hv, _⟩ := h
  exact ⟨_, _, hv⟩

theorem PartsU.agree {w0 w : World} {S : Nat} {sl : Value} {ps : List FT} (h : PartsU w0 S sl ps) (hA : Agree w0 w S) (j : Nat) (hj : j < ps.length) : ∃ s o cap v, sl = .slice (some ⟨s, o, none⟩) ps.length cap ∧ w.cell? ⟨s, o + j, none⟩ = some v ∧ CV w0 S ps[j] v := by
  obtain ⟨s, o, cap, cs, T, fr, hv, hs, hh, hc⟩ := h
  obtain ⟨v, h1, h2⟩ := hc j hj
  exact ⟨s, o, cap, v, hv, by rw [cell_of_heap (hA.heap hs hh)]; exact h1, h2⟩

theorem reckAll_any (w0 : World) (S : Nat) (gs : List FT) (sl : Value) (hP : PartsU w0 S sl gs) (hn : gs.length ≤ 10) (ih : ∀ g ∈ gs, RK w0 S g) (w : World) (rb s : Nat) (sv : Value) (az : List Nat) (hA : Agree w0 w S) (hr : w0.heap.size ≤ rb) (hs : Steps w rb s) (hs2 : s ≤ 2000)
    (hv : IntsV w rb sv az) (har : ∀ g ∈ gs, az.length = FT.arity g) (haz : ∀ a ∈ az, a ≤ 10000) :
    Calls Tryz.prog 130 #[sl, ptr rb, sv] w (AllPost w rb (evAll gs az s)) := by
  obtain ⟨ao, cap, rfl⟩ := hP.form
  obtain ⟨N, hN⟩ : ∃ N, N = gs.length := ⟨_, rfl⟩
  obtain ⟨R, hR⟩ : ∃ R, R = evAll gs az s := ⟨_, rfl⟩
  obtain ⟨base, hbase⟩ : ∃ base, base = w.heap.size := ⟨_, rfl⟩
  have hrb : rb < base := by rw [hbase]; exact (Array.getElem?_eq_some_iff.1 hs).1
  rw [← hR]
  rw [← hN] at hn ⊢
  have HBS := Lib.hid hbase
  have HN := Lib.hid hN
  have HR := Lib.hid hR
  have HP := Lib.hid hP
  have HIH := Lib.hid ih
  have HA := Lib.hid hA
  have HS := Lib.hid hs
  have HV := Lib.hid hv
  have HAR := Lib.hid har
  have HAZ := Lib.hid haz
  have hrbN : ¬ rb = base := by omega
  clear hR hN hP ih hA hs hv har haz hbase
  go_enter Tryz.func130, Tryz.ntmps130
  go_wp2_with fail
  go_loopw [8, 15] (fun vs i wr => ∃ (k : Nat) (xs : List Nat) (sk : Nat), i = .int .i64 k ∧ k ≤ N ∧ Hid (evAll (gs.take k) az s = some (xs, sk)) ∧ Hid (wr.ownsRow base 3 1 vs k (intL xs)) ∧ Hid (Steps wr rb sk) ∧ Hid (w.grownBy wr (some rb))) (fun _ i _ => N - (intOf i).toNat)
  case atStart => exact ⟨0, [], s, rfl, Nat.zero_le _, rfl, World.ownsRow_nil _ _ _ _, HS.out, World.grownBy.refl _ _⟩
  case round =>
    obtain ⟨k, xs, sk, rfl, hk, HE, HO, HST, HG⟩ := hrel
    obtain ⟨hxl, hx1, hsk⟩ := evAll_facts HE.out
    obtain ⟨bo, bc, rfl⟩ := o_slice_len HO.out
    have hsk2 := hsk hs2
    by_cases hlt : k < N
    · have hkl : k < gs.length := by rw [← HN.out]; exact hlt
      obtain ⟨b, o, cap', vk, hsv, hck, hcv⟩ := HP.out.agree (HA.out.grown HG.out hr) k hkl
      injection hsv with e1 e2 e3
      subst e1
      clear e2 e3
      have hcall := HIH.out gs[k] (List.getElem_mem hkl) wr rb sk vk sv az hcv (HA.out.grown HG.out hr) hr HST.out hsk2 (HV.out.grown HG.out) (HAR.out _ (List.getElem_mem hkl)) HAZ.out
      have hnext : evAll (gs.take (k + 1)) az s = match FT.ev gs[k] az sk with | none => none | some (x, s2) => some (xs ++ [x], s2) := by
        rw [List.take_succ_eq_append_getElem hkl, evAll_append, HE.out]
        simp only [evAll_one]
        cases FT.ev gs[k] az sk with
        | none => rfl
        | some p => rfl
      cases hev : FT.ev gs[k] az sk with
      | none =>
        rw [hev] at hcall hnext
        have HF := Lib.hid (show R = none by rw [HR.out]; exact evAll_none hnext)
        clear hnext hev hcv hx1 hsk
        go_wp2_with fail
        refine hcall.mono ?_
        rintro e w1 ⟨hg1, rfl⟩
        have HG1 := Lib.hid hg1
        clear hcall hg1
        go_wp2_with fail
        go_ret2
        exact ⟨grown_trans HG.out HG1.out, by rw [HF.out]; rfl⟩
      | some p =>
        obtain ⟨x, s1⟩ := p
        have hxv := (FT.ev_runs gs[k] az sk).small _ _ hev
        rw [hev] at hcall hnext
        have HX := Lib.hid hnext
        clear hnext hev hcv hx1 hsk
        go_wp2_with fail
        refine hcall.mono ?_
        rintro e w1 ⟨hg1, rfl, hs1⟩
        have hg0 := grown_trans HG.out hg1
        have hO1 : w1.ownsRow base 3 1 (.slice bo k bc) k (intL xs) := HO.out.kept hg1 (by
          cases hv : (Value.slice bo k bc).ownBlock with
          | none => exact Or.inl rfl
          | some g => exact Or.inr (fun e => by injection e with e; have := (HO.out.lt g hv).1; omega))
        obtain ⟨i0, hi0, hz0, hz1, hz2⟩ : ∃ i, (Tryz.prog).info? 3 = some i ∧ i.zero = some (.int .i64 0) ∧ i.size = 1 ∧ i.bytes = 8 := ⟨_, rfl, rfl, rfl, rfl⟩
        have hun : Tryz.prog.underlying 30 = some (.slice 3) := by kernel_rfl
        have hown := World.ownsRow.alloc hO1 (.cells #[.int .i64 (x : Nat)] 3)
        have hnew : ∀ j u, [Value.int .i64 (x : Nat)][j]? = some u → (w1.alloc (.cells #[.int .i64 (x : Nat)] 3)).cell? ((⟨w1.heap.size, 0, none⟩ : Addr).add j) = some u := fun j u h => by
          match j with
          | 0 =>
            simp at h
            subst h
            rw [show ((⟨w1.heap.size, 0, none⟩ : Addr).add 0) = ⟨w1.heap.size, 0, none⟩ from rfl, cell_of_heap (heap_top w1 (.cells #[.int .i64 (x : Nat)] 3))]
            rfl
          | j + 1 => simp at h
        have hone : ∀ u ∈ [Value.int .i64 (x : Nat)], u.oneCell' = true := by simp [Value.oneCell']
        have hmax : k + 1 ≤ maxLen := by unfold maxLen; omega
        have hm8 : (k + 1) * 8 ≤ 140737488355328 := by omega
        have hb1 : base ≤ w1.heap.size := by rw [HBS.out]; exact hg0.size
        have hsz : base ≤ (w1.alloc (.cells #[.int .i64 (x : Nat)] 3)).heap.size := by simp; omega
        have HG0 := Lib.hid hg0
        have HS1 := Lib.hid hs1
        clear hcall hg1 hs1 hO1 hg0
        go_wp2_with (at_builtin; refine wpList_append_own _ rfl _ _ 30 rfl base 3 i0 (.int .i64 0) 1 8 hun hi0 hz0 hz1 hz2 rfl (by decide) _ _ _ rfl hown ⟨w1.heap.size, 0, none⟩ 1 1 [.int .i64 (x : Nat)] rfl rfl hnew hone hmax hm8 hsz ?_; intro v2 w2 ho2 hg2 hiff; clear hiff; obtain ⟨co, cn, cc, rfl⟩ := o_slice ho2; have HO2 := Lib.hid ho2; have HG2 := Lib.hid hg2; clear ho2 hg2)
        go_roundw
        case measure => simp [intOf]; omega
        case rel =>
          have hlow : ∀ g, (Value.slice bo k bc).ownBlock = some g → base ≤ g := fun g hg => (hown.lt g hg).1
          have hg02 : w.grownBy w2 (some rb) := by
            have h45 := HG0.out
            refine ⟨HG2.out.os.trans h45.os, HG2.out.tape.trans h45.tape, HG2.out.output.trans h45.output, by have := HG2.out.size; have := h45.size; simp at *; omega, fun q hq hne => ?_⟩
            have h45s := h45.size
            rw [HG2.out.block q (by simp; omega) (fun e => by have := hlow q e.symm; have := HBS.out; omega)]
            rw [(below_new w1 _).block q (by omega)]
            exact h45.block q hq hne
          refine ⟨k + 1, xs ++ [x], s1, by go_num, by omega, HX.out, (by show World.ownsRow _ _ _ _ _ _ _; simpa [intL] using HO2.out), ?_, hg02⟩
          have h6 := HG2.out.block rb (by have := (Array.getElem?_eq_some_iff.1 HS1.out).1; simp; omega) (fun e => by have := hlow rb e.symm; omega)
          have h7 := (below_new w1 (.cells #[.int .i64 (x : Nat)] 3)).block rb (Array.getElem?_eq_some_iff.1 HS1.out).1
          exact (h6.trans h7).trans HS1.out
    · obtain rfl : k = N := by omega
      have HF := Lib.hid (show R = some (xs, sk) by rw [HR.out, ← HE.out, HN.out, List.take_length])
      have hkx : k = xs.length := by have := HO.out.1; simp [intL] at this; omega
      have HK := Lib.hid hkx
      clear hkx hx1 hsk
      go_wp2_with fail
      go_ret2
      exact ⟨HG.out, by rw [HF.out]; exact ⟨_, rfl, ints_own xs HK.out rfl HO.out hrb, HST.out⟩⟩
end Go.Proofs.YtjomocjlnjgkeaaGreat

namespace Go.Proofs.YtjomocjlnjgkeaaGreat
open Go

section
variable {P : Program} (w : World)

/-- What is appended: nothing, or cells that lie there. -/
def SrcOk (w : World) (sv : Value) (news : List Value) : Prop :=
  (news = [] ∧ ∃ ao cap, sv = .slice ao 0 cap) ∨ ∃ ad m c, sv = .slice (some ad) m c ∧ 0 < m ∧ news.length = m ∧ ∀ j u, news[j]? = some u → w.cell? (ad.add j) = some u

theorem run_app {t ty e : TypeId} {i : TypeInfo} {z : Value} {base bytes : Nat} (ht : P.underlying t = some (.slice e)) (hi : P.info? e = some i) (hz : i.zero = some z)
    (hsize : i.size = 1) (hby : i.bytes = bytes) (hzs : z.cells.size = 1)
    {v : Value} {n : Nat} {xs : List Value} (hown : w.ownsRow base e 1 v n xs) {sv : Value} {news : List Value} (hsrc : SrcOk w sv news) (h1 : ∀ u ∈ news, u.oneCell' = true)
    (h63 : n + news.length ≤ maxLen) (hbytes : (n + news.length) * bytes ≤ 140737488355328) (hbase : base ≤ w.heap.size) :
    ∃ v' w', (Builtin.append_ #[t, t] ty #[v, sv]).run P w = .ok v' w' ∧ w'.ownsRow base e 1 v' (n + news.length) (xs ++ news) ∧ w.grownBy w' v.ownBlock := by
  rcases hsrc with ⟨rfl, ao, cap, rfl⟩ | ⟨ad, m, c, rfl, hm, hl, hc⟩
  · refine ⟨v, w, ?_, by simpa using hown, World.grownBy.refl _ _⟩
    rcases hown.2 with ⟨rfl, rfl⟩ | ⟨g, cap', cur, rfl, _, _, hnc, _⟩
    · cases ao <;> simp [Builtin.append_, run_underlying ht, sizeOf, typeInfo, hi, Builtin.lenOf, Builtin.firstCells, loadCells, loadCellsFrom]
    · cases ao <;> simp [Builtin.append_, run_underlying ht, sizeOf, typeInfo, hi, Builtin.lenOf, Builtin.firstCells, loadCells, loadCellsFrom, hnc, storeCells]
  · subst hl
    obtain ⟨v', w', h2, h3, h4, _⟩ := run_append_own (P := P) w base t ty e i z 1 bytes ht hi hz hsize hby hzs (by decide) v n xs hown ad news.length c news (by omega) hc h1 h63 hbytes hbase
    exact ⟨v', w', h2, h3, h4⟩

theorem wp_app {o : Oper} {a : Act} {K : Act → World → Prop} {Q : Exit → Act → World → Prop} (s x : Operand) (t : TypeId)
    (ho : o.op = .call { callee := .builtin .append, args := #[s, x], argTypes := #[t, t] })
    (base : Nat) (e : TypeId) (i : TypeInfo) (z : Value) (bytes : Nat) (ht : P.underlying t = some (.slice e)) (hi : P.info? e = some i) (hz : i.zero = some z)
    (hsize : i.size = 1) (hby : i.bytes = bytes) (hzs : z.cells.size = 1)
    (v : Value) (n : Nat) (xs : List Value) (hs : a.eval s = v) (hown : w.ownsRow base e 1 v n xs) (sv : Value) (news : List Value) (hx : a.eval x = sv) (hsrc : SrcOk w sv news) (h1 : ∀ u ∈ news, u.oneCell' = true)
    (h63 : n + news.length ≤ maxLen) (hbytes : (n + news.length) * bytes ≤ 140737488355328) (hbase : base ≤ w.heap.size)
    (h : ∀ v' w', w'.ownsRow base e 1 v' (n + news.length) (xs ++ news) → w.grownBy w' v.ownBlock → K (a.put o.dst v') w') : o.wp P a w K Q := by
  obtain ⟨v', w', hr, h2, h3⟩ := run_app (P := P) w (t := t) (ty := o.type) ht hi hz hsize hby hzs hown hsrc h1 h63 hbytes hbase
  unfold Oper.wp execOp
  simp only [ho, resolve, invoke, builtin, Sem.run_bind, Sem.run_pure, Result.andThen_ok, List.map_toArray, List.map_cons, List.map_nil, hs, hx, hr]
  exact h v' w' h2 h3

theorem wpList_app {ops : Array Oper} {rest : List Oper} {o : Oper} {a : Act} {Q : Exit → Act → World → Prop} (hgd : o.guard = none) (s x : Operand) (t : TypeId)
    (ho : o.op = .call { callee := .builtin .append, args := #[s, x], argTypes := #[t, t] })
    (base : Nat) (e : TypeId) (i : TypeInfo) (z : Value) (bytes : Nat) (ht : P.underlying t = some (.slice e)) (hi : P.info? e = some i) (hz : i.zero = some z)
    (hsize : i.size = 1) (hby : i.bytes = bytes) (hzs : z.cells.size = 1)
    (v : Value) (n : Nat) (xs : List Value) (hs : a.eval s = v) (hown : w.ownsRow base e 1 v n xs) (sv : Value) (news : List Value) (hx : a.eval x = sv) (hsrc : SrcOk w sv news) (h1 : ∀ u ∈ news, u.oneCell' = true)
    (h63 : n + news.length ≤ maxLen) (hbytes : (n + news.length) * bytes ≤ 140737488355328) (hbase : base ≤ w.heap.size)
    (h : ∀ v' w', w'.ownsRow base e 1 v' (n + news.length) (xs ++ news) → w.grownBy w' v.ownBlock → wpList P ops Q rest (a.put o.dst v') w') : wpList P ops Q (o :: rest) a w :=
  wpList_plain hgd fun _ hK => wp_app w s x t ho base e i z bytes ht hi hz hsize hby hzs v n xs hs hown sv news hx hsrc h1 h63 hbytes hbase fun v' w' h2 h3 => hK _ _ (h v' w' h2 h3)

theorem step_app {ops : Array Oper} {o : Oper} {a : Act} {K : Act → World → Prop} {Q : Exit → Act → World → Prop} {E : Prop} (hgd : o.guard = none) (s x : Operand) (t : TypeId)
    (ho : o.op = .call { callee := .builtin .append, args := #[s, x], argTypes := #[t, t] })
    (base : Nat) (e : TypeId) (i : TypeInfo) (z : Value) (bytes : Nat) (ht : P.underlying t = some (.slice e)) (hi : P.info? e = some i) (hz : i.zero = some z)
    (hsize : i.size = 1) (hby : i.bytes = bytes) (hzs : z.cells.size = 1)
    (v : Value) (n : Nat) (xs : List Value) (hs : a.eval s = v) (hown : w.ownsRow base e 1 v n xs) (sv : Value) (news : List Value) (hx : a.eval x = sv) (hsrc : SrcOk w sv news) (h1 : ∀ u ∈ news, u.oneCell' = true)
    (h63 : n + news.length ≤ maxLen) (hbytes : (n + news.length) * bytes ≤ 140737488355328) (hbase : base ≤ w.heap.size)
    (h : ∀ v' w', w'.ownsRow base e 1 v' (n + news.length) (xs ++ news) → w.grownBy w' v.ownBlock → K (a.put o.dst v') w') :
    if Region.wanted o (yielded ops a.tmps) = true then Oper.wp P o a w K Q else E := by
  have hw : Region.wanted o (yielded ops a.tmps) = true := by simp [Region.wanted, hgd]
  rw [if_pos hw]
  exact wp_app w s x t ho base e i z bytes ht hi hz hsize hby hzs v n xs hs hown sv news hx hsrc h1 h63 hbytes hbase h
end
end Go.Proofs.YtjomocjlnjgkeaaGreat

namespace Go.Proofs.YtjomocjlnjgkeaaGreat
open Go.RowKit

set_option maxHeartbeats 2000000
set_option maxRecDepth 100000

def evComp (f : FT) (gs : List FT) (az : List Nat) (s : Nat) : Option (Nat × Nat) := match evAll gs az s with
  | none => none
  | some (xs, s1) => FT.ev f xs s1

theorem clo_comp (w0 : World) (S : Nat) (f : FT) (gs : List FT) (sl pf : Value) (q1 q2 : Nat) (hP : PartsU w0 S sl gs) (hf : CV w0 S f pf) (h1 : w0.heap[q1]? = some (.cells #[sl] 149 (0, 0))) (b1 : S ≤ q1) (h2 : w0.heap[q2]? = some (.cells #[pf] 55 (0, 0))) (b2 : S ≤ q2)
    (hn : gs.length ≤ 10) (ihf : RK w0 S f) (ih : ∀ g ∈ gs, RK w0 S g) (hfl : FT.arity f = gs.length) (w : World) (rb s : Nat) (sv : Value) (az : List Nat) (hA : Agree w0 w S) (hr : w0.heap.size ≤ rb) (hs : Steps w rb s) (hs2 : s ≤ 2000)
    (hv : IntsV w rb sv az) (har : ∀ g ∈ gs, az.length = FT.arity g) (haz : ∀ a ∈ az, a ≤ 10000) :
    Calls Tryz.prog 129 #[ptr rb, sv, ptr q1, ptr q2] w (ReckPost w rb (evComp f gs az s)) := by
  have k1 := reckAll_any w0 S gs sl hP hn ih w rb s sv az hA hr hs hs2 hv har haz
  have c1 : w.cell? ⟨q1, 0, none⟩ = some sl := cell_of_heap (i := 0) (hA.heap b1 h1)
  have c2 : ∀ w', w.grownBy w' (some rb) → w'.cell? ⟨q2, 0, none⟩ = some pf := fun w' hg => cell_of_heap (i := 0) ((hA.grown hg hr).heap b2 h2)
  obtain ⟨ao, cap, rfl⟩ := hP.form
  obtain ⟨bo, bc, rfl⟩ := hv.form
  obtain ⟨bf, Tf, xf, vf, rfl, _⟩ := hf.fields
  have HF := Lib.hid hf
  have HIF := Lib.hid ihf
  have HA := Lib.hid hA
  have HFL := Lib.hid hfl
  clear hP hf h1 h2 ih ihf hA hv hs
  cases he : evAll gs az s with
  | none =>
    have HE := Lib.hid (show evComp f gs az s = none by simp [evComp, he])
    rw [he] at k1
    clear he c2
    generalize gs.length = n at *
    generalize az.length = m at *
    go_enter Tryz.func129, Tryz.ntmps129
    go_wp2_with fail
    refine k1.mono ?_
    rintro e w1 ⟨hg1, rfl⟩
    clear k1
    go_wp2_with fail
    go_ret2
    exact ⟨hg1, by rw [HE.out]; rfl⟩
  | some p =>
    obtain ⟨xs, s1⟩ := p
    obtain ⟨hxl, hx1, hss⟩ := evAll_facts he
    have hs1 := hss hs2
    have HE := Lib.hid (show evComp f gs az s = FT.ev f xs s1 by simp [evComp, he])
    rw [he] at k1
    have HXL := Lib.hid hxl
    have HX1 := Lib.hid hx1
    clear he hxl hx1 hss
    generalize hng : gs.length = n at *
    generalize az.length = m at *
    go_enter Tryz.func129, Tryz.ntmps129
    go_wp2_with fail
    refine k1.mono ?_
    rintro e w1 ⟨hg1, sv1, rfl, hv1, hst1⟩
    obtain ⟨co, cc, rfl⟩ := hv1.form
    have c2' := c2 w1 hg1
    have k2 := HIF.out w1 rb s1 _ _ xs HF.out (HA.out.grown hg1 hr) hr hst1 hs1 hv1 (by rw [HFL.out, HXL.out]) (fun a ha => Nat.le_trans (HX1.out a ha) (by omega))
    clear k1 c2 hv1 hst1
    generalize xs.length = xl at *
    go_wp2_with fail
    refine k2.mono ?_
    rintro e w2 ⟨hg2, hp2⟩
    cases hev : FT.ev f xs s1 with
    | none =>
      have HEV := Lib.hid (HE.out.trans hev)
      rw [hev] at hp2
      simp only at hp2
      subst hp2
      go_wp2_with fail
      go_ret2
      exact ⟨grown_trans hg1 hg2, by rw [HEV.out]; rfl⟩
    | some r =>
      obtain ⟨x, s2⟩ := r
      have HEV := Lib.hid (HE.out.trans hev)
      rw [hev] at hp2
      obtain ⟨rfl, hst2⟩ := hp2
      have HS2 := Lib.hid hst2
      clear hst2
      go_wp2_with fail
      go_ret2
      exact ⟨grown_trans hg1 hg2, by rw [HEV.out]; exact ⟨rfl, HS2.out⟩⟩
end Go.Proofs.YtjomocjlnjgkeaaGreat
