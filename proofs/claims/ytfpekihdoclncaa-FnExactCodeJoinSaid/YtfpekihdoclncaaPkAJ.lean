/-
  An append of a slice that may be empty, to a row that the call owns. Program-independent.
-/
import Derived.OwnWalk
import Derived.Laws.AppendOwn
import Derived.Deep.AppendLies
import Derived.RegionTactic
namespace Go.Proofs.Ytfpekihdoclncaa
open Go

section
variable {P : Program} (w : World)

/-- What is appended: nothing, or cells that lie there. -/
def SrcOk (w : World) (sv : Value) (news : List Value) : Prop :=
  (news = [] ∧ ∃ ao cap, sv = .slice ao 0 cap) ∨ ∃ ad m c, sv = .slice (some ad) m c ∧ 0 < m ∧ news.length = m ∧ ∀ j u, news[j]? = some u → w.cell? (ad.add j) = some u

theorem run_app {t ty e : TypeId} {i : TypeInfo} {z : Value} {base bytes : Nat} (ht : P.underlying t = some (.slice e)) (hi : P.info? e = some i) (hz : i.zero = some z)
    (hsize : i.size = 1) (hby : i.bytes = bytes) (hzs : z.cells.size = 1)
    {v : Value} {n : Nat} {xs : List Value} (hown : w.ownsRow base e 1 v n xs) {sv : Value} {news : List Value} (hsrc : SrcOk w sv news) (h1 : ∀ u ∈ news, u.oneCell' = true)
    (h63 : n + news.length ≤ maxLen) (hbytes : (n + news.length) * bytes ≤ 140737488355328) (hbase : base ≤ w.heap.size) :
    ∃ v' w', (Builtin.append_ #[t, t] ty #[v, sv]).run P w = .ok v' w' ∧ w'.ownsRow base e 1 v' (n + news.length) (xs ++ news) ∧ w.grownBy w' v.ownBlock := by
  rcases hsrc with ⟨rfl, ao, cap, rfl⟩ | ⟨ad, m, c, rfl, hm, hl, hc⟩
  · refine ⟨v, w, ?_, by simpa using hown, World.grownBy.refl _ _⟩
    rcases hown.2 with ⟨rfl, rfl⟩ | ⟨g, cap', cur, rfl, _, _, hnc, _⟩
    · cases ao <;> simp [Builtin.append_, run_underlying ht, sizeOf, typeInfo, hi, Builtin.lenOf, Builtin.firstCells, loadCells, loadCellsFrom]
    · cases ao <;> simp [Builtin.append_, run_underlying ht, sizeOf, typeInfo, hi, Builtin.lenOf, Builtin.firstCells, loadCells, loadCellsFrom, hnc, storeCells]
  · subst hl
    obtain ⟨v', w', h2, h3, h4, _⟩ := run_append_own (P := P) w base t ty e i z 1 bytes ht hi hz hsize hby hzs (by decide) v n xs hown ad news.length c news (by omega) hc h1 h63 hbytes hbase
    exact ⟨v', w', h2, h3, h4⟩

theorem wp_app {o : Oper} {a : Act} {K : Act → World → Prop} {Q : Exit → Act → World → Prop} (s x : Operand) (t : TypeId)
    (ho : o.op = .call { callee := .builtin .append, args := #[s, x], argTypes := #[t, t] })
    (base : Nat) (e : TypeId) (i : TypeInfo) (z : Value) (bytes : Nat) (ht : P.underlying t = some (.slice e)) (hi : P.info? e = some i) (hz : i.zero = some z)
    (hsize : i.size = 1) (hby : i.bytes = bytes) (hzs : z.cells.size = 1)
    (v : Value) (n : Nat) (xs : List Value) (hs : a.eval s = v) (hown : w.ownsRow base e 1 v n xs) (sv : Value) (news : List Value) (hx : a.eval x = sv) (hsrc : SrcOk w sv news) (h1 : ∀ u ∈ news, u.oneCell' = true)
    (h63 : n + news.length ≤ maxLen) (hbytes : (n + news.length) * bytes ≤ 140737488355328) (hbase : base ≤ w.heap.size)
    (h : ∀ v' w', w'.ownsRow base e 1 v' (n + news.length) (xs ++ news) → w.grownBy w' v.ownBlock → K (a.put o.dst v') w') : o.wp P a w K Q := by
  obtain ⟨v', w', hr, h2, h3⟩ := run_app (P := P) w (t := t) (ty := o.type) ht hi hz hsize hby hzs hown hsrc h1 h63 hbytes hbase
  unfold Oper.wp execOp
  simp only [ho, resolve, invoke, builtin, Sem.run_bind, Sem.run_pure, Result.andThen_ok, List.map_toArray, List.map_cons, List.map_nil, hs, hx, hr]
  exact h v' w' h2 h3

theorem wpList_app {ops : Array Oper} {rest : List Oper} {o : Oper} {a : Act} {Q : Exit → Act → World → Prop} (hgd : o.guard = none) (s x : Operand) (t : TypeId)
    (ho : o.op = .call { callee := .builtin .append, args := #[s, x], argTypes := #[t, t] })
    (base : Nat) (e : TypeId) (i : TypeInfo) (z : Value) (bytes : Nat) (ht : P.underlying t = some (.slice e)) (hi : P.info? e = some i) (hz : i.zero = some z)
    (hsize : i.size = 1) (hby : i.bytes = bytes) (hzs : z.cells.size = 1)
    (v : Value) (n : Nat) (xs : List Value) (hs : a.eval s = v) (hown : w.ownsRow base e 1 v n xs) (sv : Value) (news : List Value) (hx : a.eval x = sv) (hsrc : SrcOk w sv news) (h1 : ∀ u ∈ news, u.oneCell' = true)
    (h63 : n + news.length ≤ maxLen) (hbytes : (n + news.length) * bytes ≤ 140737488355328) (hbase : base ≤ w.heap.size)
    (h : ∀ v' w', w'.ownsRow base e 1 v' (n + news.length) (xs ++ news) → w.grownBy w' v.ownBlock → wpList P ops Q rest (a.put o.dst v') w') : wpList P ops Q (o :: rest) a w :=
  wpList_plain hgd fun _ hK => wp_app w s x t ho base e i z bytes ht hi hz hsize hby hzs v n xs hs hown sv news hx hsrc h1 h63 hbytes hbase fun v' w' h2 h3 => hK _ _ (h v' w' h2 h3)

theorem step_app {ops : Array Oper} {o : Oper} {a : Act} {K : Act → World → Prop} {Q : Exit → Act → World → Prop} {E : Prop} (hgd : o.guard = none) (s x : Operand) (t : TypeId)
    (ho : o.op = .call { callee := .builtin .append, args := #[s, x], argTypes := #[t, t] })
    (base : Nat) (e : TypeId) (i : TypeInfo) (z : Value) (bytes : Nat) (ht : P.underlying t = some (.slice e)) (hi : P.info? e = some i) (hz : i.zero = some z)
    (hsize : i.size = 1) (hby : i.bytes = bytes) (hzs : z.cells.size = 1)
    (v : Value) (n : Nat) (xs : List Value) (hs : a.eval s = v) (hown : w.ownsRow base e 1 v n xs) (sv : Value) (news : List Value) (hx : a.eval x = sv) (hsrc : SrcOk w sv news) (h1 : ∀ u ∈ news, u.oneCell' = true)
    (h63 : n + news.length ≤ maxLen) (hbytes : (n + news.length) * bytes ≤ 140737488355328) (hbase : base ≤ w.heap.size)
    (h : ∀ v' w', w'.ownsRow base e 1 v' (n + news.length) (xs ++ news) → w.grownBy w' v.ownBlock → K (a.put o.dst v') w') :
    if Region.wanted o (yielded ops a.tmps) = true then Oper.wp P o a w K Q else E := by
  have hw : Region.wanted o (yielded ops a.tmps) = true := by simp [Region.wanted, hgd]
  rw [if_pos hw]
  exact wp_app w s x t ho base e i z bytes ht hi hz hsize hby hzs v n xs hs hown sv news hx hsrc h1 h63 hbytes hbase h
end
end Go.Proofs.Ytfpekihdoclncaa

namespace Go.Proofs.Ytfpekihdoclncaa
open Go

section
variable {P : Program} {ops : Array Oper} {Q : Exit → Act → World → Prop} {md : Region.Mode}

/-- How many are not listed. -/
def openN (listed : Array Bool) : Nat := listed.toList.countP fun b => !b

theorem openN_set {listed : Array Bool} {i : Nat} (h : listed.getD i true = false) : openN (listed.setIfInBounds i true) + 1 = openN listed := by
  obtain ⟨l⟩ := listed
  have hi : i < l.length := by
    by_cases hi : i < l.length
    · exact hi
    · simp [Array.getD, hi] at h
  have hf : l[i] = false := by simpa [Array.getD, hi] using h
  show (((⟨l⟩ : Array Bool).setIfInBounds i true).toList.countP fun b => !b) + 1 = l.countP fun b => !b
  have e : ((⟨l⟩ : Array Bool).setIfInBounds i true).toList = l.set i true := by simp
  rw [e]
  clear e h
  induction l generalizing i with
  | nil => simp at hi
  | cons b l ih =>
    cases i with
    | zero =>
      simp only [List.getElem_cons_zero] at hf
      subst hf
      simp
    | succ i =>
      simp only [List.set_cons_succ, List.countP_cons]
      have := ih (i := i) (by simpa using hi) (by simpa using hf)
      omega

theorem ready_open {listed : Array Bool} {i : Nat} (h : i ∈ Region.ready md ops listed) : i < ops.size ∧ listed.getD i true = false ∧ ∃ o, ops[i]? = some o ∧ ∀ e ∈ o.after, Region.binds md e = true → listed.getD e.on false = true := by
  simp only [Region.ready, List.mem_filter, List.mem_range, Bool.and_eq_true, Bool.not_eq_true'] at h
  obtain ⟨h1, h2, h3⟩ := h
  refine ⟨h1, h2, ?_⟩
  cases ho : ops[i]? with
  | none => rw [ho] at h3; simp at h3
  | some o =>
    rw [ho] at h3
    simp only [Option.map_some, Option.getD_some, Array.all_eq_true_iff_forall_mem, Bool.or_eq_true, Bool.not_eq_true'] at h3
    refine ⟨o, rfl, fun e he hb => ?_⟩
    rcases h3 e he with h | h
    · rw [hb] at h; cases h
    · exact h

theorem wpAny_inv (I : Array Bool → Act → World → Prop)
    (hend : ∀ listed a w, I listed a w → Region.ready md ops listed = [] → Q .normal a w)
    (hstep : ∀ listed a w i, I listed a w → i ∈ Region.ready md ops listed → wpOp P ops Q i (fun a' w' => I (listed.setIfInBounds i true) a' w') a w) :
    ∀ (fuel : Nat) (listed : Array Bool) (a : Act) (w : World), openN listed ≤ fuel → I listed a w → wpAny P md ops Q fuel listed a w
  | 0, listed, a, w, hn, hI => by
    have hr : Region.ready md ops listed = [] := by
      cases hc : Region.ready md ops listed with
      | nil => rfl
      | cons i l =>
        have := openN_set (ready_open (md := md) (ops := ops) (listed := listed) (i := i) (by rw [hc]; simp)).2.1
        omega
    exact ⟨hr, hend _ _ _ hI hr⟩
  | fuel + 1, listed, a, w, hn, hI => by
    refine ⟨fun hr => hend _ _ _ hI hr, fun i hi => ?_⟩
    have hs := openN_set (ready_open hi).2.1
    exact wpOp_mono (fun a' w' h' => wpAny_inv I hend hstep fuel _ a' w' (by omega) h') (hstep listed a w i hI hi)

/-- The values of a region's operations, put into the frame in which it began. -/
def putAll (a : Act) (dst : Nat → Option Tmp) (vs : Nat → Value) : Nat → Act
  | 0 => a
  | n + 1 => (putAll a dst vs n).put (dst n) (vs n)

theorem put_comm' (a : Act) (d e : Option Tmp) (v u : Value) (h : d ≠ e ∨ d = none) : (a.put d v).put e u = (a.put e u).put d v := by
  cases d with
  | none => rfl
  | some d =>
    cases e with
    | none => rfl
    | some e =>
      have hne : d ≠ e := by
        rcases h with h | h
        · exact fun e' => h (by rw [e'])
        · cases h
      simp [Act.put, Array.setIfInBounds_comm _ _ hne]

theorem put_put' (a : Act) (d : Option Tmp) (v u : Value) : (a.put d v).put d u = a.put d u := by
  cases d with
  | none => rfl
  | some d => simp [Act.put]

theorem putAll_same (a : Act) (dst : Nat → Option Tmp) {vs us : Nat → Value} : ∀ n, (∀ j, j < n → vs j = us j) → putAll a dst vs n = putAll a dst us n
  | 0, _ => rfl
  | n + 1, h => by simp only [putAll]; rw [putAll_same a dst n (fun j hj => h j (by omega)), h n (by omega)]

theorem putAll_upd (a : Act) (dst : Nat → Option Tmp) (vs : Nat → Value) (i : Nat) (v : Value) : ∀ n, i < n → (∀ j, j < n → j ≠ i → dst j ≠ dst i ∨ dst j = none) → putAll a dst (fun j => if j = i then v else vs j) n = (putAll a dst vs n).put (dst i) v
  | 0, h, _ => by omega
  | n + 1, h, hd => by
    by_cases hn : i = n
    · subst hn
      simp only [putAll, if_true]
      rw [putAll_same a dst (us := vs) i (fun j hj => by simp [show j ≠ i by omega]), put_put']
    · simp only [putAll]
      rw [putAll_upd a dst vs i v n (by omega) (fun j hj => hd j (by omega)), if_neg (fun e => hn e.symm)]
      exact (put_comm' _ _ _ _ _ (hd n (by omega) (fun e => hn e.symm))).symm

theorem wp_region_mono {id : Nat} {a0 : Act} {w0 : World} (hm : P.follows .mixedOrders = true)
    (S : World → Prop) (Ext : World → World → Prop) (hrefl : ∀ w, Ext w w) (htrans : ∀ a b c, Ext a b → Ext b c → Ext a c)
    (R : Nat → Value → World → Prop) (hR : ∀ i v w w', S w → R i v w → Ext w w' → R i v w')
    (dst : Nat → Option Tmp) (_hdst : ∀ i o, ops[i]? = some o → o.dst = dst i) (hdd : ∀ i j, i < ops.size → j < ops.size → j ≠ i → dst j ≠ dst i ∨ dst j = none)
    (hback : ∀ (i : Nat) (o : Oper), ops[i]? = some o → ∀ e : Edge, e ∈ o.after → e.on < i) (init : Nat → Value) (hinit : putAll a0 dst init ops.size = a0) (hS : S w0.drew)
    (hstep : ∀ i o, ops[i]? = some o → ∀ (vs : Nat → Value) (w : World), S w → Ext w0.drew w → (∀ j, (o.after.any fun e => Region.binds .any e && e.on == j) = true → R j (vs j) w) →
      ∀ K : Act → World → Prop, (∀ v w', S w' → Ext w w' → R i v w' → K ((putAll a0 dst vs ops.size).put (dst i) v) w') →
        if Region.wanted o (yielded ops (putAll a0 dst vs ops.size).tmps) = true then Oper.wp P o (putAll a0 dst vs ops.size) w K Q else K ((putAll a0 dst vs ops.size).put o.dst undef) w)
    (hend : ∀ (vs : Nat → Value) (w : World), S w → Ext w0.drew w → (∀ i, i < ops.size → R i (vs i) w) → Q .normal (putAll a0 dst vs ops.size) w) : (Code.region id ops true).wp P Q a0 w0 := by
  refine wp_region_any hm ?_
  refine wpAny_inv (fun listed a w => listed.size = ops.size ∧ ∃ vs, a = putAll a0 dst vs ops.size ∧ S w ∧ Ext w0.drew w ∧ ∀ j, listed.getD j false = true → R j (vs j) w) ?_ ?_ ops.size _ _ _ ?_ ⟨by simp, init, hinit.symm, hS, hrefl _, fun j hj => ?_⟩
  · rintro listed a w ⟨hsz, vs, rfl, hs, he, hj⟩ hr
    refine hend vs w hs he (fun i hi => hj i ?_)
    have hall : ∀ n i, i < n → i < ops.size → listed.getD i false = true := by
      intro n
      induction n with
      | zero => intro i h; omega
      | succ n ih =>
        intro i hin hi
        by_cases hl : listed.getD i true = false
        · exfalso
          have hmem : i ∈ Region.ready .any ops listed := by
            simp only [Region.ready, List.mem_filter, List.mem_range, Bool.and_eq_true, Bool.not_eq_true']
            refine ⟨hi, hl, ?_⟩
            have ho : ops[i]? = some ops[i] := Array.getElem?_eq_getElem hi
            rw [ho]
            simp only [Option.map_some, Option.getD_some, Array.all_eq_true_iff_forall_mem, Bool.or_eq_true, Bool.not_eq_true']
            intro e hm'
            right
            have := hback i _ ho e hm'
            exact ih e.on (by omega) (by omega)
          rw [hr] at hmem
          cases hmem
        · have hlt : i < listed.size := by omega
          simp only [Array.getD, hlt, dif_pos] at hl ⊢
          simpa using hl
    exact hall (i + 1) i (by omega) hi
  · rintro listed a w i ⟨hsz, vs, rfl, hs, he, hj⟩ hi
    obtain ⟨hlt, hun, o, ho, hdeps⟩ := ready_open hi
    refine wpOp_step ho (fun K' hK => hstep i o ho vs w hs he (fun j hjd => ?_) K' (fun v w' hs' he' hr' => hK _ _ ⟨by simpa using hsz, fun j => if j = i then v else vs j, ?_, hs', htrans _ _ _ he he', fun j hjl => ?_⟩))
    · rw [Array.any_eq_true] at hjd
      obtain ⟨k, hk, hb⟩ := hjd
      simp only [Bool.and_eq_true, beq_iff_eq] at hb
      exact hj j (by rw [← hb.2]; exact hdeps _ (Array.getElem_mem hk) hb.1)
    · exact (putAll_upd a0 dst vs i v ops.size hlt (fun j hj' hne => hdd i j hlt hj' hne)).symm
    · by_cases hji : j = i
      · subst hji; simpa using hr'
      · simp only [hji, if_false]
        refine hR j _ w w' hs (hj j ?_) he'
        have e : (listed.setIfInBounds i true).getD j false = listed.getD j false := by
          simp only [Array.getD_eq_getD_getElem?, Array.getElem?_setIfInBounds]
          rw [if_neg (fun e => hji e.symm)]
        rw [← e]
        exact hjl
  · have := List.countP_le_length (p := fun b : Bool => !b) (l := (Array.replicate ops.size false).toList)
    unfold openN
    simpa using this
  · simp [Array.getD] at hj

theorem all_listed {listed : Array Bool} (hsz : listed.size = ops.size) (hback : ∀ (i : Nat) (o : Oper), ops[i]? = some o → ∀ e : Edge, e ∈ o.after → e.on < i) (hr : Region.ready .any ops listed = []) : ∀ i, i < ops.size → listed.getD i false = true := by
  have hall : ∀ n i, i < n → i < ops.size → listed.getD i false = true := by
    intro n
    induction n with
    | zero => intro i h; omega
    | succ n ih =>
      intro i hin hi
      by_cases hl : listed.getD i true = false
      · exfalso
        have hmem : i ∈ Region.ready .any ops listed := by
          simp only [Region.ready, List.mem_filter, List.mem_range, Bool.and_eq_true, Bool.not_eq_true']
          refine ⟨hi, hl, ?_⟩
          have ho : ops[i]? = some ops[i] := Array.getElem?_eq_getElem hi
          rw [ho]
          simp only [Option.map_some, Option.getD_some, Array.all_eq_true_iff_forall_mem, Bool.or_eq_true, Bool.not_eq_true']
          intro e hm'
          right
          have := hback i _ ho e hm'
          exact ih e.on (by omega) (by omega)
        rw [hr] at hmem
        cases hmem
      · have hlt : i < listed.size := by omega
        simp only [Array.getD, hlt, dif_pos] at hl ⊢
        simpa using hl
  exact fun i hi => hall (i + 1) i (by omega) hi

/-- The same, the last operation (a store) by itself: it comes when all others have come. -/
theorem wp_region_mono1 {id n : Nat} {a0 : Act} {w0 : World} (hm : P.follows .mixedOrders = true) (hn : ops.size = n + 1)
    (Ext : World → World → Prop) (hrefl : ∀ w, Ext w w) (htrans : ∀ a b c, Ext a b → Ext b c → Ext a c)
    (R : Nat → Value → World → Prop) (hR : ∀ i v w w', Ext w0.drew w → R i v w → Ext w w' → R i v w')
    (dst : Nat → Option Tmp) (hdd : ∀ i j, i < n → j < ops.size → j ≠ i → dst j ≠ dst i ∨ dst j = none)
    (hback : ∀ (i : Nat) (o : Oper), ops[i]? = some o → ∀ e : Edge, e ∈ o.after → e.on < i)
    (hall : ∀ o, ops[n]? = some o → ∀ j, j < n → (o.after.any fun e => Region.binds .any e && e.on == j) = true) (init : Nat → Value) (hinit : putAll a0 dst init ops.size = a0)
    (hstep : ∀ i o, i < n → ops[i]? = some o → ∀ (vs : Nat → Value) (w : World), Ext w0.drew w → (∀ j, (o.after.any fun e => Region.binds .any e && e.on == j) = true → R j (vs j) w) →
      ∀ K : Act → World → Prop, (∀ v w', Ext w w' → R i v w' → K ((putAll a0 dst vs ops.size).put (dst i) v) w') →
        if Region.wanted o (yielded ops (putAll a0 dst vs ops.size).tmps) = true then Oper.wp P o (putAll a0 dst vs ops.size) w K Q else K ((putAll a0 dst vs ops.size).put o.dst undef) w)
    (hlast : ∀ o, ops[n]? = some o → ∀ (vs : Nat → Value) (w : World), Ext w0.drew w → (∀ i, i < n → R i (vs i) w) → ∀ K : Act → World → Prop, (∀ a w, Q .normal a w → K a w) →
        if Region.wanted o (yielded ops (putAll a0 dst vs ops.size).tmps) = true then Oper.wp P o (putAll a0 dst vs ops.size) w K Q else K ((putAll a0 dst vs ops.size).put o.dst undef) w) : (Code.region id ops true).wp P Q a0 w0 := by
  refine wp_region_any hm ?_
  refine wpAny_inv (fun listed a w => listed.size = ops.size ∧ (((∀ j, j < ops.size → listed.getD j false = true) ∧ Q .normal a w) ∨ ∃ vs, a = putAll a0 dst vs ops.size ∧ Ext w0.drew w ∧ listed.getD n false = false ∧ ∀ j, listed.getD j false = true → R j (vs j) w)) ?_ ?_ ops.size _ _ _ ?_ ⟨by simp, Or.inr ⟨init, hinit.symm, hrefl _, ?_, fun j hj => ?_⟩⟩
  · rintro listed a w ⟨hsz, ⟨_, hq⟩ | ⟨vs, rfl, he, hl, hj⟩⟩ hr
    · exact hq
    · have := all_listed hsz hback hr n (by omega)
      rw [hl] at this
      cases this
  · rintro listed a w i ⟨hsz, ⟨hl, hq⟩ | ⟨vs, rfl, he, hl, hj⟩⟩ hi
    · -- behind the last nothing comes
      exfalso
      obtain ⟨hlt, hun, o, ho, hdeps⟩ := ready_open hi
      have := hl i hlt
      have hls : i < listed.size := by omega
      simp only [Array.getD, hls, dif_pos] at hun this
      rw [hun] at this
      cases this
    · obtain ⟨hlt, hun, o, ho, hdeps⟩ := ready_open hi
      by_cases hin : i = n
      · subst hin
        have hdone : ∀ j, j < i → listed.getD j false = true := fun j hjn => by
          have := hall o ho j hjn
          rw [Array.any_eq_true] at this
          obtain ⟨k, hk, hb⟩ := this
          simp only [Bool.and_eq_true, beq_iff_eq] at hb
          rw [← hb.2]
          exact hdeps _ (Array.getElem_mem hk) hb.1
        refine wpOp_step ho (fun K' hK => hlast o ho vs w he (fun j hjn => hj j (hdone j hjn)) K' (fun a w' hq => hK _ _ ⟨by simpa using hsz, Or.inl ⟨fun j hjs => ?_, hq⟩⟩))
        by_cases hji : j = i
        · subst hji
          simp [Array.getD_eq_getD_getElem?, show j < listed.size by omega]
        · have e : (listed.setIfInBounds i true).getD j false = listed.getD j false := by
            simp only [Array.getD_eq_getD_getElem?, Array.getElem?_setIfInBounds]
            rw [if_neg (fun e => hji e.symm)]
          rw [e]
          exact hdone j (by omega)
      · refine wpOp_step ho (fun K' hK => hstep i o (by omega) ho vs w he (fun j hjd => ?_) K' (fun v w' he' hr' => hK _ _ ⟨by simpa using hsz, Or.inr ⟨fun j => if j = i then v else vs j, ?_, htrans _ _ _ he he', ?_, fun j hjl => ?_⟩⟩))
        · rw [Array.any_eq_true] at hjd
          obtain ⟨k, hk, hb⟩ := hjd
          simp only [Bool.and_eq_true, beq_iff_eq] at hb
          exact hj j (by rw [← hb.2]; exact hdeps _ (Array.getElem_mem hk) hb.1)
        · exact (putAll_upd a0 dst vs i v ops.size hlt (fun j hj' hne => hdd i j (by omega) hj' hne)).symm
        · simp only [Array.getD_eq_getD_getElem?, Array.getElem?_setIfInBounds] at hl ⊢
          rw [if_neg hin]
          exact hl
        · by_cases hji : j = i
          · subst hji; simpa using hr'
          · simp only [hji, if_false]
            refine hR j _ w w' he (hj j ?_) he'
            have e : (listed.setIfInBounds i true).getD j false = listed.getD j false := by
              simp only [Array.getD_eq_getD_getElem?, Array.getElem?_setIfInBounds]
              rw [if_neg (fun e => hji e.symm)]
            rw [← e]
            exact hjl
  · have := List.countP_le_length (p := fun b : Bool => !b) (l := (Array.replicate ops.size false).toList)
    unfold openN
    simpa using this
  · rw [Array.getD_eq_getD_getElem?, Array.getElem?_replicate]; split <;> rfl
  · simp [Array.getD] at hj
end
end Go.Proofs.Ytfpekihdoclncaa

namespace Go.Proofs.Ytfpekihdoclncaa
open Go

set_option maxRecDepth 100000

section
variable {P : Program} {ops : Array Oper} {Q : Exit → Act → World → Prop}

def dstOf (ops : Array Oper) (i : Nat) : Option Tmp := (ops[i]?).bind (·.dst)
def depsOn (ops : Array Oper) (i j : Nat) : Bool := match ops[i]? with
  | some o => o.after.any fun e => Region.binds .any e && e.on == j
  | none => false
/-- What of a region is seen by reckoning: no slot twice, nothing waits for a later one. -/
def regOk (ops : Array Oper) (n : Nat) : Bool :=
  (List.range n).all (fun i => (List.range ops.size).all fun j => j == i || (dstOf ops j).isNone || !((dstOf ops j) == (dstOf ops i))) &&
  (List.range ops.size).all (fun i => match ops[i]? with | none => true | some o => o.after.all fun e => decide (e.on < i))
def regLast (ops : Array Oper) (n : Nat) : Bool := (List.range n).all fun j => depsOn ops n j

theorem regOk_dst {n : Nat} (h : regOk ops n = true) : ∀ i j, i < n → j < ops.size → j ≠ i → dstOf ops j ≠ dstOf ops i ∨ dstOf ops j = none := by
  intro i j hi hj hne
  simp only [regOk, Bool.and_eq_true, List.all_eq_true, List.mem_range, Bool.or_eq_true, beq_iff_eq, Bool.not_eq_true'] at h
  rcases h.1 i hi j hj with (h1 | h1) | h1
  · exact absurd h1 hne
  · exact Or.inr (Option.isNone_iff_eq_none.1 h1)
  · exact Or.inl (by simpa using h1)

theorem regOk_back {n : Nat} (h : regOk ops n = true) : ∀ (i : Nat) (o : Oper), ops[i]? = some o → ∀ e : Edge, e ∈ o.after → e.on < i := by
  intro i o ho e he
  have hi : i < ops.size := (Array.getElem?_eq_some_iff.1 ho).1
  simp only [regOk, Bool.and_eq_true, List.all_eq_true, List.mem_range] at h
  have := h.2 i hi
  rw [ho] at this
  simp only [Array.all_eq_true_iff_forall_mem] at this
  simpa using this e he

theorem putAll_init (a : Act) (dst : Nat → Option Tmp) : ∀ n, putAll a dst (fun i => match dst i with | some d => a.tmps.getD d undef | none => undef) n = a
  | 0 => rfl
  | n + 1 => by
    simp only [putAll]
    rw [putAll_init a dst n]
    cases hd : dst n with
    | none => rfl
    | some d =>
      have : a.tmps.setIfInBounds d (a.tmps.getD d undef) = a.tmps := by
        by_cases h : d < a.tmps.size
        · apply Array.ext
          · simp
          · intro i h1 h2
            rw [Array.getElem_setIfInBounds (hj := by simpa using h1)]
            split
            · rename_i e; subst e; simp
            · rfl
        · exact Array.setIfInBounds_eq_of_size_le (Nat.le_of_not_lt h)
      show (a.put (some d) (a.tmps.getD d undef)) = a
      unfold Act.put
      simp only [this]

/-- The frame of a region whose operations yield vs. -/
def frame (a : Act) (ops : Array Oper) (vs : Nat → Value) : Act := putAll a (dstOf ops) vs ops.size

/-- What is to be shown of an operation. -/
structure OpDo (P : Program) (ops : Array Oper) (Q : Exit → Act → World → Prop) (A : Act) (i : Nat) (w : World) (K : Act → World → Prop) : Prop where
  out : match ops[i]? with
    | some o => if Region.wanted o (yielded ops A.tmps) = true then Oper.wp P o A w K Q else K (A.put o.dst undef) w
    | none => False

theorem wp_region_reg1 {id n : Nat} {a0 : Act} {w0 : World} (hm : P.follows .mixedOrders = true) (hn : ops.size = n + 1) (hok : regOk ops n = true) (hl : regLast ops n = true)
    (Ext : World → World → Prop) (hrefl : ∀ w, Ext w w) (htrans : ∀ a b c, Ext a b → Ext b c → Ext a c)
    (R : Nat → Value → World → Prop) (hR : ∀ i v w w', Ext w0.drew w → R i v w → Ext w w' → R i v w')
    (hstep : ∀ i, i < n → ∀ (vs : Nat → Value) (w : World), Ext w0.drew w → (∀ j, depsOn ops i j = true → R j (vs j) w) →
      ∀ K : Act → World → Prop, (∀ v w', Ext w w' → R i v w' → K ((frame a0 ops vs).put (dstOf ops i) v) w') → OpDo P ops Q (frame a0 ops vs) i w K)
    (hlast : ∀ (vs : Nat → Value) (w : World), Ext w0.drew w → (∀ i, i < n → R i (vs i) w) → ∀ K : Act → World → Prop, (∀ a w, Q .normal a w → K a w) → OpDo P ops Q (frame a0 ops vs) n w K) : (Code.region id ops true).wp P Q a0 w0 := by
  refine wp_region_mono1 hm hn Ext hrefl htrans R hR (dstOf ops) (regOk_dst hok) (regOk_back hok) ?_ _ (putAll_init a0 _ _) ?_ ?_
  · intro o ho j hj
    have := List.all_eq_true.1 hl j (List.mem_range.2 hj)
    simpa [depsOn, ho] using this
  · intro i o hi ho vs w hE hd K hK
    have := hstep i hi vs w hE (fun j hj => hd j (by simpa [depsOn, ho] using hj)) K hK
    have this := this.out
    rw [ho] at this
    exact this
  · intro o ho vs w hE hd K hK
    have := hlast vs w hE hd K hK
    have this := this.out
    rw [ho] at this
    exact this

theorem wp_region_reg {id : Nat} {a0 : Act} {w0 : World} (hm : P.follows .mixedOrders = true) (hok : regOk ops ops.size = true)
    (Ext : World → World → Prop) (hrefl : ∀ w, Ext w w) (htrans : ∀ a b c, Ext a b → Ext b c → Ext a c)
    (R : Nat → Value → World → Prop) (hR : ∀ i v w w', Ext w0.drew w → R i v w → Ext w w' → R i v w')
    (hstep : ∀ i, i < ops.size → ∀ (vs : Nat → Value) (w : World), Ext w0.drew w → (∀ j, depsOn ops i j = true → R j (vs j) w) →
      ∀ K : Act → World → Prop, (∀ v w', Ext w w' → R i v w' → K ((frame a0 ops vs).put (dstOf ops i) v) w') → OpDo P ops Q (frame a0 ops vs) i w K)
    (hend : ∀ (vs : Nat → Value) (w : World), Ext w0.drew w → (∀ i, i < ops.size → R i (vs i) w) → Q .normal (frame a0 ops vs) w) : (Code.region id ops true).wp P Q a0 w0 := by
  refine wp_region_mono hm (fun w => Ext w0.drew w) Ext hrefl htrans R (fun i v w w' h1 h2 h3 => hR i v w w' h1 h2 h3) (dstOf ops) ?_ (fun i j hi hj hne => regOk_dst hok i j hi hj hne) (regOk_back hok) _ (putAll_init a0 _ _) (hrefl _) ?_ (fun vs w hS _ hr => hend vs w hS hr)
  · intro i o ho; simp [dstOf, ho]
  · intro i o ho vs w hS hE hd K hK
    have hi : i < ops.size := (Array.getElem?_eq_some_iff.1 ho).1
    have := hstep i hi vs w hE (fun j hj => hd j (by simpa [depsOn, ho] using hj)) K (fun v w' h1 h2 => hK v w' (htrans _ _ _ hS h1) h1 h2)
    have this := this.out
    rw [ho] at this
    exact this

/-- The same, where what binds points back: other edges may point forward. -/
def regOkB (ops : Array Oper) (n : Nat) : Bool :=
  (List.range n).all (fun i => (List.range ops.size).all fun j => j == i || (dstOf ops j).isNone || !((dstOf ops j) == (dstOf ops i))) &&
  (List.range ops.size).all (fun i => match ops[i]? with | none => true | some o => o.after.all fun e => !(Region.binds .any e) || decide (e.on < i))

theorem regOkB_dst {n : Nat} (h : regOkB ops n = true) : ∀ i j, i < n → j < ops.size → j ≠ i → dstOf ops j ≠ dstOf ops i ∨ dstOf ops j = none := by
  intro i j hi hj hne
  simp only [regOkB, Bool.and_eq_true, List.all_eq_true, List.mem_range, Bool.or_eq_true, beq_iff_eq, Bool.not_eq_true'] at h
  rcases h.1 i hi j hj with (h1 | h1) | h1
  · exact absurd h1 hne
  · exact Or.inr (Option.isNone_iff_eq_none.1 h1)
  · exact Or.inl (by simpa using h1)

theorem regOkB_back {n : Nat} (h : regOkB ops n = true) : ∀ (i : Nat) (o : Oper), ops[i]? = some o → ∀ e : Edge, e ∈ o.after → Region.binds .any e = true → e.on < i := by
  intro i o ho e he hb
  have hi : i < ops.size := (Array.getElem?_eq_some_iff.1 ho).1
  simp only [regOkB, Bool.and_eq_true, List.all_eq_true, List.mem_range] at h
  have := h.2 i hi
  rw [ho] at this
  simp only [Array.all_eq_true_iff_forall_mem] at this
  have h2 := this e he
  rw [hb] at h2
  simpa using h2

theorem wp_region_monoB {id : Nat} {a0 : Act} {w0 : World} (hm : P.follows .mixedOrders = true)
    (S : World → Prop) (Ext : World → World → Prop) (hrefl : ∀ w, Ext w w) (htrans : ∀ a b c, Ext a b → Ext b c → Ext a c)
    (R : Nat → Value → World → Prop) (hR : ∀ i v w w', S w → R i v w → Ext w w' → R i v w')
    (dst : Nat → Option Tmp) (_hdst : ∀ i o, ops[i]? = some o → o.dst = dst i) (hdd : ∀ i j, i < ops.size → j < ops.size → j ≠ i → dst j ≠ dst i ∨ dst j = none)
    (hback : ∀ (i : Nat) (o : Oper), ops[i]? = some o → ∀ e : Edge, e ∈ o.after → Region.binds .any e = true → e.on < i) (init : Nat → Value) (hinit : putAll a0 dst init ops.size = a0) (hS : S w0.drew)
    (hstep : ∀ i o, ops[i]? = some o → ∀ (vs : Nat → Value) (w : World), S w → Ext w0.drew w → (∀ j, (o.after.any fun e => Region.binds .any e && e.on == j) = true → R j (vs j) w) →
      ∀ K : Act → World → Prop, (∀ v w', S w' → Ext w w' → R i v w' → K ((putAll a0 dst vs ops.size).put (dst i) v) w') →
        if Region.wanted o (yielded ops (putAll a0 dst vs ops.size).tmps) = true then Oper.wp P o (putAll a0 dst vs ops.size) w K Q else K ((putAll a0 dst vs ops.size).put o.dst undef) w)
    (hend : ∀ (vs : Nat → Value) (w : World), S w → Ext w0.drew w → (∀ i, i < ops.size → R i (vs i) w) → Q .normal (putAll a0 dst vs ops.size) w) : (Code.region id ops true).wp P Q a0 w0 := by
  refine wp_region_any hm ?_
  refine wpAny_inv (fun listed a w => listed.size = ops.size ∧ ∃ vs, a = putAll a0 dst vs ops.size ∧ S w ∧ Ext w0.drew w ∧ ∀ j, listed.getD j false = true → R j (vs j) w) ?_ ?_ ops.size _ _ _ ?_ ⟨by simp, init, hinit.symm, hS, hrefl _, fun j hj => ?_⟩
  · rintro listed a w ⟨hsz, vs, rfl, hs, he, hj⟩ hr
    refine hend vs w hs he (fun i hi => hj i ?_)
    have hall : ∀ n i, i < n → i < ops.size → listed.getD i false = true := by
      intro n
      induction n with
      | zero => intro i h; omega
      | succ n ih =>
        intro i hin hi
        by_cases hl : listed.getD i true = false
        · exfalso
          have hmem : i ∈ Region.ready .any ops listed := by
            simp only [Region.ready, List.mem_filter, List.mem_range, Bool.and_eq_true, Bool.not_eq_true']
            refine ⟨hi, hl, ?_⟩
            have ho : ops[i]? = some ops[i] := Array.getElem?_eq_getElem hi
            rw [ho]
            simp only [Option.map_some, Option.getD_some, Array.all_eq_true_iff_forall_mem, Bool.or_eq_true, Bool.not_eq_true']
            intro e hm'
            cases hbd : Region.binds .any e with
            | false => exact Or.inl rfl
            | true =>
            right
            have := hback i _ ho e hm' hbd
            exact ih e.on (by omega) (by omega)
          rw [hr] at hmem
          cases hmem
        · have hlt : i < listed.size := by omega
          simp only [Array.getD, hlt, dif_pos] at hl ⊢
          simpa using hl
    exact hall (i + 1) i (by omega) hi
  · rintro listed a w i ⟨hsz, vs, rfl, hs, he, hj⟩ hi
    obtain ⟨hlt, hun, o, ho, hdeps⟩ := ready_open hi
    refine wpOp_step ho (fun K' hK => hstep i o ho vs w hs he (fun j hjd => ?_) K' (fun v w' hs' he' hr' => hK _ _ ⟨by simpa using hsz, fun j => if j = i then v else vs j, ?_, hs', htrans _ _ _ he he', fun j hjl => ?_⟩))
    · rw [Array.any_eq_true] at hjd
      obtain ⟨k, hk, hb⟩ := hjd
      simp only [Bool.and_eq_true, beq_iff_eq] at hb
      exact hj j (by rw [← hb.2]; exact hdeps _ (Array.getElem_mem hk) hb.1)
    · exact (putAll_upd a0 dst vs i v ops.size hlt (fun j hj' hne => hdd i j hlt hj' hne)).symm
    · by_cases hji : j = i
      · subst hji; simpa using hr'
      · simp only [hji, if_false]
        refine hR j _ w w' hs (hj j ?_) he'
        have e : (listed.setIfInBounds i true).getD j false = listed.getD j false := by
          simp only [Array.getD_eq_getD_getElem?, Array.getElem?_setIfInBounds]
          rw [if_neg (fun e => hji e.symm)]
        rw [← e]
        exact hjl
  · have := List.countP_le_length (p := fun b : Bool => !b) (l := (Array.replicate ops.size false).toList)
    unfold openN
    simpa using this
  · simp [Array.getD] at hj

theorem wp_region_regB {id : Nat} {a0 : Act} {w0 : World} (hm : P.follows .mixedOrders = true) (hok : regOkB ops ops.size = true)
    (Ext : World → World → Prop) (hrefl : ∀ w, Ext w w) (htrans : ∀ a b c, Ext a b → Ext b c → Ext a c)
    (R : Nat → Value → World → Prop) (hR : ∀ i v w w', Ext w0.drew w → R i v w → Ext w w' → R i v w')
    (hstep : ∀ i, i < ops.size → ∀ (vs : Nat → Value) (w : World), Ext w0.drew w → (∀ j, depsOn ops i j = true → R j (vs j) w) →
      ∀ K : Act → World → Prop, (∀ v w', Ext w w' → R i v w' → K ((frame a0 ops vs).put (dstOf ops i) v) w') → OpDo P ops Q (frame a0 ops vs) i w K)
    (hend : ∀ (vs : Nat → Value) (w : World), Ext w0.drew w → (∀ i, i < ops.size → R i (vs i) w) → Q .normal (frame a0 ops vs) w) : (Code.region id ops true).wp P Q a0 w0 := by
  refine wp_region_monoB hm (fun w => Ext w0.drew w) Ext hrefl htrans R (fun i v w w' h1 h2 h3 => hR i v w w' h1 h2 h3) (dstOf ops) ?_ (fun i j hi hj hne => regOkB_dst hok i j hi hj hne) (regOkB_back hok) _ (putAll_init a0 _ _) (hrefl _) ?_ (fun vs w hS _ hr => hend vs w hS hr)
  · intro i o ho; simp [dstOf, ho]
  · intro i o ho vs w hS hE hd K hK
    have hi : i < ops.size := (Array.getElem?_eq_some_iff.1 ho).1
    have := hstep i hi vs w hE (fun j hj => hd j (by simpa [depsOn, ho] using hj)) K (fun v w' h1 h2 => hK v w' (htrans _ _ _ hS h1) h1 h2)
    have this := this.out
    rw [ho] at this
    exact this

def opAt (ops : Array Oper) (i : Nat) : Oper := (ops[i]?).getD default
theorem opAt_of {i : Nat} (h : (ops[i]?).isSome = true) : ops[i]? = some (opAt ops i) := by
  unfold opAt
  cases ho : ops[i]? with
  | none => rw [ho] at h; cases h
  | some o => rfl
theorem opAt_dst {i : Nat} (h : (ops[i]?).isSome = true) : (opAt ops i).dst = dstOf ops i := by
  unfold dstOf
  rw [opAt_of h]
  rfl

/-- An operation that is on and hands back a value at once. -/
theorem op_val {A : Act} {i : Nat} {w w' : World} {K : Act → World → Prop} {v : Value} (hs : (ops[i]?).isSome = true) (hg : Region.wanted (opAt ops i) (yielded ops A.tmps) = true) (hr : (execOp A.eval (opAt ops i)).run P w = .ok (.value v) w') (hK : K (A.put (dstOf ops i) v) w') : OpDo P ops Q A i w K := by
  constructor
  rw [opAt_of hs]
  simp only [hg, if_true]
  unfold Oper.wp
  rw [hr]
  rw [← opAt_dst hs] at hK
  exact hK
/-- An operation that is off. -/
theorem op_off {A : Act} {i : Nat} {w : World} {K : Act → World → Prop} (hs : (ops[i]?).isSome = true) (hg : Region.wanted (opAt ops i) (yielded ops A.tmps) = false) (hK : K (A.put (dstOf ops i) undef) w) : OpDo P ops Q A i w K := by
  constructor
  rw [opAt_of hs]
  simp only [hg, Bool.false_eq_true, if_false]
  rw [← opAt_dst hs] at hK
  exact hK
/-- A call. -/
theorem op_call {A : Act} {i : Nat} {w : World} {K : Act → World → Prop} {f : FuncId} {args : Array Value} (hs : (ops[i]?).isSome = true) (hg : Region.wanted (opAt ops i) (yielded ops A.tmps) = true) (hr : (execOp A.eval (opAt ops i)).run P w = .ok (.enter f args) w)
    (hK : Calls P f args w fun e w' => ∃ v, e = .returned v ∧ K (A.put (dstOf ops i) v) w') : OpDo P ops Q A i w K := by
  constructor
  rw [opAt_of hs]
  simp only [hg, if_true]
  unfold Oper.wp
  rw [hr]
  refine hK.mono ?_
  rintro e w' ⟨v, rfl, h⟩
  rw [← opAt_dst hs] at h
  exact h
end

/-! ### one after the other -/
theorem lt1 {p : Nat → Prop} (h0 : p 0) : ∀ i, i < 1 → p i := fun i hi => by
  obtain rfl : i = 0 := by omega
  exact h0
theorem lt2 {p : Nat → Prop} (h0 : p 0) (h1 : p 1) : ∀ i, i < 2 → p i := fun i hi => by
  rcases Nat.lt_succ_iff_lt_or_eq.1 hi with h | h
  · exact lt1 h0 i h
  · subst h; exact h1
theorem lt3 {p : Nat → Prop} (h0 : p 0) (h1 : p 1) (h2 : p 2) : ∀ i, i < 3 → p i := fun i hi => by
  rcases Nat.lt_succ_iff_lt_or_eq.1 hi with h | h
  · exact lt2 h0 h1 i h
  · subst h; exact h2
theorem lt4 {p : Nat → Prop} (h0 : p 0) (h1 : p 1) (h2 : p 2) (h3 : p 3) : ∀ i, i < 4 → p i := fun i hi => by
  rcases Nat.lt_succ_iff_lt_or_eq.1 hi with h | h
  · exact lt3 h0 h1 h2 i h
  · subst h; exact h3
theorem lt5 {p : Nat → Prop} (h0 : p 0) (h1 : p 1) (h2 : p 2) (h3 : p 3) (h4 : p 4) : ∀ i, i < 5 → p i := fun i hi => by
  rcases Nat.lt_succ_iff_lt_or_eq.1 hi with h | h
  · exact lt4 h0 h1 h2 h3 i h
  · subst h; exact h4
theorem lt6 {p : Nat → Prop} (h0 : p 0) (h1 : p 1) (h2 : p 2) (h3 : p 3) (h4 : p 4) (h5 : p 5) : ∀ i, i < 6 → p i := fun i hi => by
  rcases Nat.lt_succ_iff_lt_or_eq.1 hi with h | h
  · exact lt5 h0 h1 h2 h3 h4 i h
  · subst h; exact h5
theorem lt7 {p : Nat → Prop} (h0 : p 0) (h1 : p 1) (h2 : p 2) (h3 : p 3) (h4 : p 4) (h5 : p 5) (h6 : p 6) : ∀ i, i < 7 → p i := fun i hi => by
  rcases Nat.lt_succ_iff_lt_or_eq.1 hi with h | h
  · exact lt6 h0 h1 h2 h3 h4 h5 i h
  · subst h; exact h6
theorem lt8 {p : Nat → Prop} (h0 : p 0) (h1 : p 1) (h2 : p 2) (h3 : p 3) (h4 : p 4) (h5 : p 5) (h6 : p 6) (h7 : p 7) : ∀ i, i < 8 → p i := fun i hi => by
  rcases Nat.lt_succ_iff_lt_or_eq.1 hi with h | h
  · exact lt7 h0 h1 h2 h3 h4 h5 h6 i h
  · subst h; exact h7
theorem lt9 {p : Nat → Prop} (h0 : p 0) (h1 : p 1) (h2 : p 2) (h3 : p 3) (h4 : p 4) (h5 : p 5) (h6 : p 6) (h7 : p 7) (h8 : p 8) : ∀ i, i < 9 → p i := fun i hi => by
  rcases Nat.lt_succ_iff_lt_or_eq.1 hi with h | h
  · exact lt8 h0 h1 h2 h3 h4 h5 h6 h7 i h
  · subst h; exact h8
theorem lt10 {p : Nat → Prop} (h0 : p 0) (h1 : p 1) (h2 : p 2) (h3 : p 3) (h4 : p 4) (h5 : p 5) (h6 : p 6) (h7 : p 7) (h8 : p 8) (h9 : p 9) : ∀ i, i < 10 → p i := fun i hi => by
  rcases Nat.lt_succ_iff_lt_or_eq.1 hi with h | h
  · exact lt9 h0 h1 h2 h3 h4 h5 h6 h7 h8 i h
  · subst h; exact h9
theorem lt11 {p : Nat → Prop} (h0 : p 0) (h1 : p 1) (h2 : p 2) (h3 : p 3) (h4 : p 4) (h5 : p 5) (h6 : p 6) (h7 : p 7) (h8 : p 8) (h9 : p 9) (h10 : p 10) : ∀ i, i < 11 → p i := fun i hi => by
  rcases Nat.lt_succ_iff_lt_or_eq.1 hi with h | h
  · exact lt10 h0 h1 h2 h3 h4 h5 h6 h7 h8 h9 i h
  · subst h; exact h10
theorem lt12 {p : Nat → Prop} (h0 : p 0) (h1 : p 1) (h2 : p 2) (h3 : p 3) (h4 : p 4) (h5 : p 5) (h6 : p 6) (h7 : p 7) (h8 : p 8) (h9 : p 9) (h10 : p 10) (h11 : p 11) : ∀ i, i < 12 → p i := fun i hi => by
  rcases Nat.lt_succ_iff_lt_or_eq.1 hi with h | h
  · exact lt11 h0 h1 h2 h3 h4 h5 h6 h7 h8 h9 h10 i h
  · subst h; exact h11
theorem lt13 {p : Nat → Prop} (h0 : p 0) (h1 : p 1) (h2 : p 2) (h3 : p 3) (h4 : p 4) (h5 : p 5) (h6 : p 6) (h7 : p 7) (h8 : p 8) (h9 : p 9) (h10 : p 10) (h11 : p 11) (h12 : p 12) : ∀ i, i < 13 → p i := fun i hi => by
  rcases Nat.lt_succ_iff_lt_or_eq.1 hi with h | h
  · exact lt12 h0 h1 h2 h3 h4 h5 h6 h7 h8 h9 h10 h11 i h
  · subst h; exact h12
theorem lt14 {p : Nat → Prop} (h0 : p 0) (h1 : p 1) (h2 : p 2) (h3 : p 3) (h4 : p 4) (h5 : p 5) (h6 : p 6) (h7 : p 7) (h8 : p 8) (h9 : p 9) (h10 : p 10) (h11 : p 11) (h12 : p 12) (h13 : p 13) : ∀ i, i < 14 → p i := fun i hi => by
  rcases Nat.lt_succ_iff_lt_or_eq.1 hi with h | h
  · exact lt13 h0 h1 h2 h3 h4 h5 h6 h7 h8 h9 h10 h11 h12 i h
  · subst h; exact h13
theorem lt15 {p : Nat → Prop} (h0 : p 0) (h1 : p 1) (h2 : p 2) (h3 : p 3) (h4 : p 4) (h5 : p 5) (h6 : p 6) (h7 : p 7) (h8 : p 8) (h9 : p 9) (h10 : p 10) (h11 : p 11) (h12 : p 12) (h13 : p 13) (h14 : p 14) : ∀ i, i < 15 → p i := fun i hi => by
  rcases Nat.lt_succ_iff_lt_or_eq.1 hi with h | h
  · exact lt14 h0 h1 h2 h3 h4 h5 h6 h7 h8 h9 h10 h11 h12 h13 i h
  · subst h; exact h14
theorem lt16 {p : Nat → Prop} (h0 : p 0) (h1 : p 1) (h2 : p 2) (h3 : p 3) (h4 : p 4) (h5 : p 5) (h6 : p 6) (h7 : p 7) (h8 : p 8) (h9 : p 9) (h10 : p 10) (h11 : p 11) (h12 : p 12) (h13 : p 13) (h14 : p 14) (h15 : p 15) : ∀ i, i < 16 → p i := fun i hi => by
  rcases Nat.lt_succ_iff_lt_or_eq.1 hi with h | h
  · exact lt15 h0 h1 h2 h3 h4 h5 h6 h7 h8 h9 h10 h11 h12 h13 h14 i h
  · subst h; exact h15
theorem lt17 {p : Nat → Prop} (h0 : p 0) (h1 : p 1) (h2 : p 2) (h3 : p 3) (h4 : p 4) (h5 : p 5) (h6 : p 6) (h7 : p 7) (h8 : p 8) (h9 : p 9) (h10 : p 10) (h11 : p 11) (h12 : p 12) (h13 : p 13) (h14 : p 14) (h15 : p 15) (h16 : p 16) : ∀ i, i < 17 → p i := fun i hi => by
  rcases Nat.lt_succ_iff_lt_or_eq.1 hi with h | h
  · exact lt16 h0 h1 h2 h3 h4 h5 h6 h7 h8 h9 h10 h11 h12 h13 h14 h15 i h
  · subst h; exact h16
theorem lt18 {p : Nat → Prop} (h0 : p 0) (h1 : p 1) (h2 : p 2) (h3 : p 3) (h4 : p 4) (h5 : p 5) (h6 : p 6) (h7 : p 7) (h8 : p 8) (h9 : p 9) (h10 : p 10) (h11 : p 11) (h12 : p 12) (h13 : p 13) (h14 : p 14) (h15 : p 15) (h16 : p 16) (h17 : p 17) : ∀ i, i < 18 → p i := fun i hi => by
  rcases Nat.lt_succ_iff_lt_or_eq.1 hi with h | h
  · exact lt17 h0 h1 h2 h3 h4 h5 h6 h7 h8 h9 h10 h11 h12 h13 h14 h15 h16 i h
  · subst h; exact h17
theorem lt19 {p : Nat → Prop} (h0 : p 0) (h1 : p 1) (h2 : p 2) (h3 : p 3) (h4 : p 4) (h5 : p 5) (h6 : p 6) (h7 : p 7) (h8 : p 8) (h9 : p 9) (h10 : p 10) (h11 : p 11) (h12 : p 12) (h13 : p 13) (h14 : p 14) (h15 : p 15) (h16 : p 16) (h17 : p 17) (h18 : p 18) : ∀ i, i < 19 → p i := fun i hi => by
  rcases Nat.lt_succ_iff_lt_or_eq.1 hi with h | h
  · exact lt18 h0 h1 h2 h3 h4 h5 h6 h7 h8 h9 h10 h11 h12 h13 h14 h15 h16 h17 i h
  · subst h; exact h18
theorem lt20 {p : Nat → Prop} (h0 : p 0) (h1 : p 1) (h2 : p 2) (h3 : p 3) (h4 : p 4) (h5 : p 5) (h6 : p 6) (h7 : p 7) (h8 : p 8) (h9 : p 9) (h10 : p 10) (h11 : p 11) (h12 : p 12) (h13 : p 13) (h14 : p 14) (h15 : p 15) (h16 : p 16) (h17 : p 17) (h18 : p 18) (h19 : p 19) : ∀ i, i < 20 → p i := fun i hi => by
  rcases Nat.lt_succ_iff_lt_or_eq.1 hi with h | h
  · exact lt19 h0 h1 h2 h3 h4 h5 h6 h7 h8 h9 h10 h11 h12 h13 h14 h15 h16 h17 h18 i h
  · subst h; exact h19
theorem lt21 {p : Nat → Prop} (h0 : p 0) (h1 : p 1) (h2 : p 2) (h3 : p 3) (h4 : p 4) (h5 : p 5) (h6 : p 6) (h7 : p 7) (h8 : p 8) (h9 : p 9) (h10 : p 10) (h11 : p 11) (h12 : p 12) (h13 : p 13) (h14 : p 14) (h15 : p 15) (h16 : p 16) (h17 : p 17) (h18 : p 18) (h19 : p 19) (h20 : p 20) : ∀ i, i < 21 → p i := fun i hi => by
  rcases Nat.lt_succ_iff_lt_or_eq.1 hi with h | h
  · exact lt20 h0 h1 h2 h3 h4 h5 h6 h7 h8 h9 h10 h11 h12 h13 h14 h15 h16 h17 h18 h19 i h
  · subst h; exact h20
theorem lt22 {p : Nat → Prop} (h0 : p 0) (h1 : p 1) (h2 : p 2) (h3 : p 3) (h4 : p 4) (h5 : p 5) (h6 : p 6) (h7 : p 7) (h8 : p 8) (h9 : p 9) (h10 : p 10) (h11 : p 11) (h12 : p 12) (h13 : p 13) (h14 : p 14) (h15 : p 15) (h16 : p 16) (h17 : p 17) (h18 : p 18) (h19 : p 19) (h20 : p 20) (h21 : p 21) : ∀ i, i < 22 → p i := fun i hi => by
  rcases Nat.lt_succ_iff_lt_or_eq.1 hi with h | h
  · exact lt21 h0 h1 h2 h3 h4 h5 h6 h7 h8 h9 h10 h11 h12 h13 h14 h15 h16 h17 h18 h19 h20 i h
  · subst h; exact h21
theorem lt23 {p : Nat → Prop} (h0 : p 0) (h1 : p 1) (h2 : p 2) (h3 : p 3) (h4 : p 4) (h5 : p 5) (h6 : p 6) (h7 : p 7) (h8 : p 8) (h9 : p 9) (h10 : p 10) (h11 : p 11) (h12 : p 12) (h13 : p 13) (h14 : p 14) (h15 : p 15) (h16 : p 16) (h17 : p 17) (h18 : p 18) (h19 : p 19) (h20 : p 20) (h21 : p 21) (h22 : p 22) : ∀ i, i < 23 → p i := fun i hi => by
  rcases Nat.lt_succ_iff_lt_or_eq.1 hi with h | h
  · exact lt22 h0 h1 h2 h3 h4 h5 h6 h7 h8 h9 h10 h11 h12 h13 h14 h15 h16 h17 h18 h19 h20 h21 i h
  · subst h; exact h22
theorem lt24 {p : Nat → Prop} (h0 : p 0) (h1 : p 1) (h2 : p 2) (h3 : p 3) (h4 : p 4) (h5 : p 5) (h6 : p 6) (h7 : p 7) (h8 : p 8) (h9 : p 9) (h10 : p 10) (h11 : p 11) (h12 : p 12) (h13 : p 13) (h14 : p 14) (h15 : p 15) (h16 : p 16) (h17 : p 17) (h18 : p 18) (h19 : p 19) (h20 : p 20) (h21 : p 21) (h22 : p 22) (h23 : p 23) : ∀ i, i < 24 → p i := fun i hi => by
  rcases Nat.lt_succ_iff_lt_or_eq.1 hi with h | h
  · exact lt23 h0 h1 h2 h3 h4 h5 h6 h7 h8 h9 h10 h11 h12 h13 h14 h15 h16 h17 h18 h19 h20 h21 h22 i h
  · subst h; exact h23
end Go.Proofs.Ytfpekihdoclncaa
