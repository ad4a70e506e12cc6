/-
  Where the row of an append lies: where it was, or in the world's next block. Program-independent.
-/
import Derived.OwnWalk
import Derived.Laws.AppendOwn
import Derived.Deep.AppendLies
import Derived.RegionTactic
import Derived.Test.YtfjohagdlaiapaaGreatPkR
import Derived.Deep.MidRow
import Derived.Test.YtfjohagdlaiapaaGreatPkC
namespace Go.Proofs.YtfjohagdlaiapaaGreat
open Go

section
variable {P : Program} (w : World)

/-- An append's row is the old one or a new one. -/
theorem append_where {t ty e : TypeId} {i : TypeInfo} {z : Value} {base size bytes : Nat} (ht : P.underlying t = some (.slice e)) (hi : P.info? e = some i) (hz : i.zero = some z)
    (hsize : i.size = size) (hby : i.bytes = bytes)
    {v : Value} {n : Nat} {xs : List Value} (hown : w.ownsRow base e size v n xs)
    {a : Addr} {m c : Nat} {news : List Value} (hl : news.length = m * size) (hnews : ∀ j u, news[j]? = some u → w.cell? (a.add j) = some u) (h1 : ∀ u ∈ news, u.oneCell' = true)
    (h63 : n + m ≤ maxLen) (hbytes : (n + m) * bytes ≤ 140737488355328) (h0 : 0 < m) {v' : Value} {w' : World}
    (hr : (Builtin.append_ #[t, t] ty #[v, .slice (some a) m c]).run P w = .ok v' w') : v'.ownBlock = v.ownBlock ∨ v'.ownBlock = some w.heap.size := by
  subst hsize
  subst hby
  have hsmall : n + m ≤ 9223372036854775807 := by simp only [maxLen] at h63; omega
  rcases hown.2 with ⟨rfl, rfl⟩ | ⟨g, cap, cur, rfl, hbg, hg, hnc, hcm, hcs, htake⟩
  · have h2 := run_append_nil (P := P) w t ty e i z ht hi hz a m c news hl hnews h0 (by omega) (by have hb := hbytes; simp only [Nat.zero_add] at hb; omega)
    rw [h2] at hr
    injection hr with hr _
    subst hr
    exact Or.inr rfl
  · by_cases hroom : n + m ≤ cap
    · have hfit : n * i.size + news.length ≤ cur.size := by rw [hl, hcs, ← Nat.add_mul]; exact Nat.mul_le_mul_right _ hroom
      have h2 := run_append_room (P := P) w t ty e i ht hi g n cap cur hg a m c news hl hnews h1 hroom hfit
      rw [h2] at hr
      injection hr with hr _
      subst hr
      exact Or.inl rfl
    · have holds : ∀ j u, xs[j]? = some u → w.cell? ((⟨g, 0, none⟩ : Addr).add j) = some u := hown.cells (g := g) rfl
      have h2 := run_append_grow (P := P) w t ty e i z ht hi hz ⟨g, 0, none⟩ n cap xs hown.1 holds a m c news hl hnews (by omega) (by omega) (growslice_fits (by omega) hbytes)
      rw [h2] at hr
      injection hr with hr _
      subst hr
      exact Or.inr rfl

theorem wp_append_at {o : Oper} {a : Act} {K : Act → World → Prop} {Q : Exit → Act → World → Prop} (s x : Operand) (t : TypeId)
    (ho : o.op = .call { callee := .builtin .append, args := #[s, x], argTypes := #[t, t] })
    (base : Nat) (e : TypeId) (i : TypeInfo) (z : Value) (size bytes : Nat) (ht : P.underlying t = some (.slice e)) (hi : P.info? e = some i) (hz : i.zero = some z)
    (hsize : i.size = size) (hby : i.bytes = bytes) (hzs : z.cells.size = size) (hsz : 0 < size)
    (v : Value) (n : Nat) (xs : List Value) (hs : a.eval s = v) (hown : w.ownsRow base e size v n xs)
    (ad : Addr) (m c : Nat) (news : List Value) (hx : a.eval x = .slice (some ad) m c) (hl : news.length = m * size) (hnews : ∀ j u, news[j]? = some u → w.cell? (ad.add j) = some u) (h1 : ∀ u ∈ news, u.oneCell' = true)
    (h63 : n + m ≤ maxLen) (hbytes : (n + m) * bytes ≤ 140737488355328) (hbase : base ≤ w.heap.size) (h0 : 0 < m)
    (h : ∀ v' w', w'.ownsRow base e size v' (n + m) (xs ++ news) → w.grownBy w' v.ownBlock → (v'.ownBlock = v.ownBlock ∨ v'.ownBlock = some w.heap.size) → K (a.put o.dst v') w') : o.wp P a w K Q := by
  obtain ⟨v', w', hr, h2, h3, _⟩ := run_append_own (P := P) w base t o.type e i z size bytes ht hi hz hsize hby hzs hsz v n xs hown ad m c news hl hnews h1 h63 hbytes hbase
  have h4 := append_where w ht hi hz hsize hby hown hl hnews h1 h63 hbytes h0 hr
  unfold Oper.wp execOp
  simp only [ho, resolve, invoke, builtin, Sem.run_bind, Sem.run_pure, Result.andThen_ok, List.map_toArray, List.map_cons, List.map_nil, hs, hx, hr]
  exact h v' w' h2 h3 h4

theorem wpList_append_at {ops : Array Oper} {rest : List Oper} {o : Oper} {a : Act} {Q : Exit → Act → World → Prop} (hgd : o.guard = none) (s x : Operand) (t : TypeId)
    (ho : o.op = .call { callee := .builtin .append, args := #[s, x], argTypes := #[t, t] })
    (base : Nat) (e : TypeId) (i : TypeInfo) (z : Value) (size bytes : Nat) (ht : P.underlying t = some (.slice e)) (hi : P.info? e = some i) (hz : i.zero = some z)
    (hsize : i.size = size) (hby : i.bytes = bytes) (hzs : z.cells.size = size) (hsz : 0 < size)
    (v : Value) (n : Nat) (xs : List Value) (hs : a.eval s = v) (hown : w.ownsRow base e size v n xs)
    (ad : Addr) (m c : Nat) (news : List Value) (hx : a.eval x = .slice (some ad) m c) (hl : news.length = m * size) (hnews : ∀ j u, news[j]? = some u → w.cell? (ad.add j) = some u) (h1 : ∀ u ∈ news, u.oneCell' = true)
    (h63 : n + m ≤ maxLen) (hbytes : (n + m) * bytes ≤ 140737488355328) (hbase : base ≤ w.heap.size) (h0 : 0 < m)
    (h : ∀ v' w', w'.ownsRow base e size v' (n + m) (xs ++ news) → w.grownBy w' v.ownBlock → (v'.ownBlock = v.ownBlock ∨ v'.ownBlock = some w.heap.size) → wpList P ops Q rest (a.put o.dst v') w') : wpList P ops Q (o :: rest) a w :=
  wpList_plain hgd fun _ hK => wp_append_at w s x t ho base e i z size bytes ht hi hz hsize hby hzs hsz v n xs hs hown ad m c news hx hl hnews h1 h63 hbytes hbase h0 fun v' w' h2 h3 h4 => hK _ _ (h v' w' h2 h3 h4)
end
end Go.Proofs.YtfjohagdlaiapaaGreat

namespace Go.Proofs.YtfjohagdlaiapaaGreat
open Go

section
variable {P : Program} (w : World)

/-- What is appended: nothing, or cells that lie there. -/
def SrcOk (w : World) (sv : Value) (news : List Value) : Prop :=
  (news = [] ∧ ∃ ao cap, sv = .slice ao 0 cap) ∨ ∃ ad m c, sv = .slice (some ad) m c ∧ 0 < m ∧ news.length = m ∧ ∀ j u, news[j]? = some u → w.cell? (ad.add j) = some u

theorem run_app {t ty e : TypeId} {i : TypeInfo} {z : Value} {base bytes : Nat} (ht : P.underlying t = some (.slice e)) (hi : P.info? e = some i) (hz : i.zero = some z)
    (hsize : i.size = 1) (hby : i.bytes = bytes) (hzs : z.cells.size = 1)
    {v : Value} {n : Nat} {xs : List Value} (hown : w.ownsRow base e 1 v n xs) {sv : Value} {news : List Value} (hsrc : SrcOk w sv news) (h1 : ∀ u ∈ news, u.oneCell' = true)
    (h63 : n + news.length ≤ maxLen) (hbytes : (n + news.length) * bytes ≤ 140737488355328) (hbase : base ≤ w.heap.size) :
    ∃ v' w', (Builtin.append_ #[t, t] ty #[v, sv]).run P w = .ok v' w' ∧ w'.ownsRow base e 1 v' (n + news.length) (xs ++ news) ∧ w.grownBy w' v.ownBlock := by
  rcases hsrc with ⟨rfl, ao, cap, rfl⟩ | ⟨ad, m, c, rfl, hm, hl, hc⟩
  · refine ⟨v, w, ?_, by simpa using hown, World.grownBy.refl _ _⟩
    rcases hown.2 with ⟨rfl, rfl⟩ | ⟨g, cap', cur, rfl, _, _, hnc, _⟩
    · cases ao <;> simp [Builtin.append_, run_underlying ht, sizeOf, typeInfo, hi, Builtin.lenOf, Builtin.firstCells, loadCells, loadCellsFrom]
    · cases ao <;> simp [Builtin.append_, run_underlying ht, sizeOf, typeInfo, hi, Builtin.lenOf, Builtin.firstCells, loadCells, loadCellsFrom, hnc, storeCells]
  · subst hl
    obtain ⟨v', w', h2, h3, h4, _⟩ := run_append_own (P := P) w base t ty e i z 1 bytes ht hi hz hsize hby hzs (by decide) v n xs hown ad news.length c news (by omega) hc h1 h63 hbytes hbase
    exact ⟨v', w', h2, h3, h4⟩

theorem wp_app {o : Oper} {a : Act} {K : Act → World → Prop} {Q : Exit → Act → World → Prop} (s x : Operand) (t : TypeId)
    (ho : o.op = .call { callee := .builtin .append, args := #[s, x], argTypes := #[t, t] })
    (base : Nat) (e : TypeId) (i : TypeInfo) (z : Value) (bytes : Nat) (ht : P.underlying t = some (.slice e)) (hi : P.info? e = some i) (hz : i.zero = some z)
    (hsize : i.size = 1) (hby : i.bytes = bytes) (hzs : z.cells.size = 1)
    (v : Value) (n : Nat) (xs : List Value) (hs : a.eval s = v) (hown : w.ownsRow base e 1 v n xs) (sv : Value) (news : List Value) (hx : a.eval x = sv) (hsrc : SrcOk w sv news) (h1 : ∀ u ∈ news, u.oneCell' = true)
    (h63 : n + news.length ≤ maxLen) (hbytes : (n + news.length) * bytes ≤ 140737488355328) (hbase : base ≤ w.heap.size)
    (h : ∀ v' w', w'.ownsRow base e 1 v' (n + news.length) (xs ++ news) → w.grownBy w' v.ownBlock → K (a.put o.dst v') w') : o.wp P a w K Q := by
  obtain ⟨v', w', hr, h2, h3⟩ := run_app (P := P) w (t := t) (ty := o.type) ht hi hz hsize hby hzs hown hsrc h1 h63 hbytes hbase
  unfold Oper.wp execOp
  simp only [ho, resolve, invoke, builtin, Sem.run_bind, Sem.run_pure, Result.andThen_ok, List.map_toArray, List.map_cons, List.map_nil, hs, hx, hr]
  exact h v' w' h2 h3

theorem wpList_app {ops : Array Oper} {rest : List Oper} {o : Oper} {a : Act} {Q : Exit → Act → World → Prop} (hgd : o.guard = none) (s x : Operand) (t : TypeId)
    (ho : o.op = .call { callee := .builtin .append, args := #[s, x], argTypes := #[t, t] })
    (base : Nat) (e : TypeId) (i : TypeInfo) (z : Value) (bytes : Nat) (ht : P.underlying t = some (.slice e)) (hi : P.info? e = some i) (hz : i.zero = some z)
    (hsize : i.size = 1) (hby : i.bytes = bytes) (hzs : z.cells.size = 1)
    (v : Value) (n : Nat) (xs : List Value) (hs : a.eval s = v) (hown : w.ownsRow base e 1 v n xs) (sv : Value) (news : List Value) (hx : a.eval x = sv) (hsrc : SrcOk w sv news) (h1 : ∀ u ∈ news, u.oneCell' = true)
    (h63 : n + news.length ≤ maxLen) (hbytes : (n + news.length) * bytes ≤ 140737488355328) (hbase : base ≤ w.heap.size)
    (h : ∀ v' w', w'.ownsRow base e 1 v' (n + news.length) (xs ++ news) → w.grownBy w' v.ownBlock → wpList P ops Q rest (a.put o.dst v') w') : wpList P ops Q (o :: rest) a w :=
  wpList_plain hgd fun _ hK => wp_app w s x t ho base e i z bytes ht hi hz hsize hby hzs v n xs hs hown sv news hx hsrc h1 h63 hbytes hbase fun v' w' h2 h3 => hK _ _ (h v' w' h2 h3)

theorem step_app {ops : Array Oper} {o : Oper} {a : Act} {K : Act → World → Prop} {Q : Exit → Act → World → Prop} {E : Prop} (hgd : o.guard = none) (s x : Operand) (t : TypeId)
    (ho : o.op = .call { callee := .builtin .append, args := #[s, x], argTypes := #[t, t] })
    (base : Nat) (e : TypeId) (i : TypeInfo) (z : Value) (bytes : Nat) (ht : P.underlying t = some (.slice e)) (hi : P.info? e = some i) (hz : i.zero = some z)
    (hsize : i.size = 1) (hby : i.bytes = bytes) (hzs : z.cells.size = 1)
    (v : Value) (n : Nat) (xs : List Value) (hs : a.eval s = v) (hown : w.ownsRow base e 1 v n xs) (sv : Value) (news : List Value) (hx : a.eval x = sv) (hsrc : SrcOk w sv news) (h1 : ∀ u ∈ news, u.oneCell' = true)
    (h63 : n + news.length ≤ maxLen) (hbytes : (n + news.length) * bytes ≤ 140737488355328) (hbase : base ≤ w.heap.size)
    (h : ∀ v' w', w'.ownsRow base e 1 v' (n + news.length) (xs ++ news) → w.grownBy w' v.ownBlock → K (a.put o.dst v') w') :
    if Region.wanted o (yielded ops a.tmps) = true then Oper.wp P o a w K Q else E := by
  have hw : Region.wanted o (yielded ops a.tmps) = true := by simp [Region.wanted, hgd]
  rw [if_pos hw]
  exact wp_app w s x t ho base e i z bytes ht hi hz hsize hby hzs v n xs hs hown sv news hx hsrc h1 h63 hbytes hbase h
end
end Go.Proofs.YtfjohagdlaiapaaGreat

namespace Go.Proofs.YtfjohagdlaiapaaGreat
open Go

section
variable {P : Program} {ops : Array Oper} {Q : Exit → Act → World → Prop} {md : Region.Mode}

/-- How many are not listed. -/
def openN (listed : Array Bool) : Nat := listed.toList.countP fun b => !b

theorem openN_set {listed : Array Bool} {i : Nat} (h : listed.getD i true = false) : openN (listed.setIfInBounds i true) + 1 = openN listed := by
  obtain ⟨l⟩ := listed
  have hi : i < l.length := by
    by_cases hi : i < l.length
    · exact hi
    · simp [Array.getD, hi] at h
  have hf : l[i] = false := by simpa [Array.getD, hi] using h
  show (((⟨l⟩ : Array Bool).setIfInBounds i true).toList.countP fun b => !b) + 1 = l.countP fun b => !b
  have e : ((⟨l⟩ : Array Bool).setIfInBounds i true).toList = l.set i true := by simp
  rw [e]
  clear e h
  induction l generalizing i with
  | nil => simp at hi
  | cons b l ih =>
    cases i with
    | zero =>
      simp only [List.getElem_cons_zero] at hf
      subst hf
      simp
    | succ i =>
      simp only [List.set_cons_succ, List.countP_cons]
      have := ih (i := i) (by simpa using hi) (by simpa using hf)
      omega

theorem ready_open {listed : Array Bool} {i : Nat} (h : i ∈ Region.ready md ops listed) : i < ops.size ∧ listed.getD i true = false ∧ ∃ o, ops[i]? = some o ∧ ∀ e ∈ o.after, Region.binds md e = true → listed.getD e.on false = true := by
  simp only [Region.ready, List.mem_filter, List.mem_range, Bool.and_eq_true, Bool.not_eq_true'] at h
  obtain ⟨h1, h2, h3⟩ := h
  refine ⟨h1, h2, ?_⟩
  cases ho : ops[i]? with
  | none => rw [ho] at h3; simp at h3
  | some o =>
    rw [ho] at h3
    simp only [Option.map_some, Option.getD_some, Array.all_eq_true_iff_forall_mem, Bool.or_eq_true, Bool.not_eq_true'] at h3
    refine ⟨o, rfl, fun e he hb => ?_⟩
    rcases h3 e he with h | h
    · rw [hb] at h; cases h
    · exact h

theorem wpAny_inv (I : Array Bool → Act → World → Prop)
    (hend : ∀ listed a w, I listed a w → Region.ready md ops listed = [] → Q .normal a w)
    (hstep : ∀ listed a w i, I listed a w → i ∈ Region.ready md ops listed → wpOp P ops Q i (fun a' w' => I (listed.setIfInBounds i true) a' w') a w) :
    ∀ (fuel : Nat) (listed : Array Bool) (a : Act) (w : World), openN listed ≤ fuel → I listed a w → wpAny P md ops Q fuel listed a w
  | 0, listed, a, w, hn, hI => by
    have hr : Region.ready md ops listed = [] := by
      cases hc : Region.ready md ops listed with
      | nil => rfl
      | cons i l =>
        have := openN_set (ready_open (md := md) (ops := ops) (listed := listed) (i := i) (by rw [hc]; simp)).2.1
        omega
    exact ⟨hr, hend _ _ _ hI hr⟩
  | fuel + 1, listed, a, w, hn, hI => by
    refine ⟨fun hr => hend _ _ _ hI hr, fun i hi => ?_⟩
    have hs := openN_set (ready_open hi).2.1
    exact wpOp_mono (fun a' w' h' => wpAny_inv I hend hstep fuel _ a' w' (by omega) h') (hstep listed a w i hI hi)

/-- The values of a region's operations, put into the frame in which it began. -/
def putAll (a : Act) (dst : Nat → Option Tmp) (vs : Nat → Value) : Nat → Act
  | 0 => a
  | n + 1 => (putAll a dst vs n).put (dst n) (vs n)

theorem put_comm' (a : Act) (d e : Option Tmp) (v u : Value) (h : d ≠ e ∨ d = none) : (a.put d v).put e u = (a.put e u).put d v := by
  cases d with
  | none => rfl
  | some d =>
    cases e with
    | none => rfl
    | some e =>
      have hne : d ≠ e := by
        rcases h with h | h
        · exact fun e' => h (by rw [e'])
        · cases h
      simp [Act.put, Array.setIfInBounds_comm _ _ hne]

theorem put_put' (a : Act) (d : Option Tmp) (v u : Value) : (a.put d v).put d u = a.put d u := by
  cases d with
  | none => rfl
  | some d => simp [Act.put]

theorem putAll_same (a : Act) (dst : Nat → Option Tmp) {vs us : Nat → Value} : ∀ n, (∀ j, j < n → vs j = us j) → putAll a dst vs n = putAll a dst us n
  | 0, _ => rfl
  | n + 1, h => by simp only [putAll]; rw [putAll_same a dst n (fun j hj => h j (by omega)), h n (by omega)]

theorem putAll_upd (a : Act) (dst : Nat → Option Tmp) (vs : Nat → Value) (i : Nat) (v : Value) : ∀ n, i < n → (∀ j, j < n → j ≠ i → dst j ≠ dst i ∨ dst j = none) → putAll a dst (fun j => if j = i then v else vs j) n = (putAll a dst vs n).put (dst i) v
  | 0, h, _ => by omega
  | n + 1, h, hd => by
    by_cases hn : i = n
    · subst hn
      simp only [putAll, if_true]
      rw [putAll_same a dst (us := vs) i (fun j hj => by simp [show j ≠ i by omega]), put_put']
    · simp only [putAll]
      rw [putAll_upd a dst vs i v n (by omega) (fun j hj => hd j (by omega)), if_neg (fun e => hn e.symm)]
      exact (put_comm' _ _ _ _ _ (hd n (by omega) (fun e => hn e.symm))).symm

theorem wp_region_mono {id : Nat} {a0 : Act} {w0 : World} (hm : P.follows .mixedOrders = true)
    (S : World → Prop) (Ext : World → World → Prop) (hrefl : ∀ w, Ext w w) (htrans : ∀ a b c, Ext a b → Ext b c → Ext a c)
    (R : Nat → Value → World → Prop) (hR : ∀ i v w w', S w → R i v w → Ext w w' → R i v w')
    (dst : Nat → Option Tmp) (_hdst : ∀ i o, ops[i]? = some o → o.dst = dst i) (hdd : ∀ i j, i < ops.size → j < ops.size → j ≠ i → dst j ≠ dst i ∨ dst j = none)
    (hback : ∀ (i : Nat) (o : Oper), ops[i]? = some o → ∀ e : Edge, e ∈ o.after → e.on < i) (init : Nat → Value) (hinit : putAll a0 dst init ops.size = a0) (hS : S w0.drew)
    (hstep : ∀ i o, ops[i]? = some o → ∀ (vs : Nat → Value) (w : World), S w → Ext w0.drew w → (∀ j, (o.after.any fun e => Region.binds .any e && e.on == j) = true → R j (vs j) w) →
      ∀ K : Act → World → Prop, (∀ v w', S w' → Ext w w' → R i v w' → K ((putAll a0 dst vs ops.size).put (dst i) v) w') →
        if Region.wanted o (yielded ops (putAll a0 dst vs ops.size).tmps) = true then Oper.wp P o (putAll a0 dst vs ops.size) w K Q else K ((putAll a0 dst vs ops.size).put o.dst undef) w)
    (hend : ∀ (vs : Nat → Value) (w : World), S w → Ext w0.drew w → (∀ i, i < ops.size → R i (vs i) w) → Q .normal (putAll a0 dst vs ops.size) w) : (Code.region id ops true).wp P Q a0 w0 := by
  refine wp_region_any hm ?_
  refine wpAny_inv (fun listed a w => listed.size = ops.size ∧ ∃ vs, a = putAll a0 dst vs ops.size ∧ S w ∧ Ext w0.drew w ∧ ∀ j, listed.getD j false = true → R j (vs j) w) ?_ ?_ ops.size _ _ _ ?_ ⟨by simp, init, hinit.symm, hS, hrefl _, fun j hj => ?_⟩
  · rintro listed a w ⟨hsz, vs, rfl, hs, he, hj⟩ hr
    refine hend vs w hs he (fun i hi => hj i ?_)
    have hall : ∀ n i, i < n → i < ops.size → listed.getD i false = true := by
      intro n
      induction n with
      | zero => intro i h; omega
      | succ n ih =>
        intro i hin hi
        by_cases hl : listed.getD i true = false
        · exfalso
          have hmem : i ∈ Region.ready .any ops listed := by
            simp only [Region.ready, List.mem_filter, List.mem_range, Bool.and_eq_true, Bool.not_eq_true']
            refine ⟨hi, hl, ?_⟩
            have ho : ops[i]? = some ops[i] := Array.getElem?_eq_getElem hi
            rw [ho]
            simp only [Option.map_some, Option.getD_some, Array.all_eq_true_iff_forall_mem, Bool.or_eq_true, Bool.not_eq_true']
            intro e hm'
            right
            have := hback i _ ho e hm'
            exact ih e.on (by omega) (by omega)
          rw [hr] at hmem
          cases hmem
        · have hlt : i < listed.size := by omega
          simp only [Array.getD, hlt, dif_pos] at hl ⊢
          simpa using hl
    exact hall (i + 1) i (by omega) hi
  · rintro listed a w i ⟨hsz, vs, rfl, hs, he, hj⟩ hi
    obtain ⟨hlt, hun, o, ho, hdeps⟩ := ready_open hi
    refine wpOp_step ho (fun K' hK => hstep i o ho vs w hs he (fun j hjd => ?_) K' (fun v w' hs' he' hr' => hK _ _ ⟨by simpa using hsz, fun j => if j = i then v else vs j, ?_, hs', htrans _ _ _ he he', fun j hjl => ?_⟩))
    · rw [Array.any_eq_true] at hjd
      obtain ⟨k, hk, hb⟩ := hjd
      simp only [Bool.and_eq_true, beq_iff_eq] at hb
      exact hj j (by rw [← hb.2]; exact hdeps _ (Array.getElem_mem hk) hb.1)
    · exact (putAll_upd a0 dst vs i v ops.size hlt (fun j hj' hne => hdd i j hlt hj' hne)).symm
    · by_cases hji : j = i
      · subst hji; simpa using hr'
      · simp only [hji, if_false]
        refine hR j _ w w' hs (hj j ?_) he'
        have e : (listed.setIfInBounds i true).getD j false = listed.getD j false := by
          simp only [Array.getD_eq_getD_getElem?, Array.getElem?_setIfInBounds]
          rw [if_neg (fun e => hji e.symm)]
        rw [← e]
        exact hjl
  · have := List.countP_le_length (p := fun b : Bool => !b) (l := (Array.replicate ops.size false).toList)
    unfold openN
    simpa using this
  · simp [Array.getD] at hj

theorem all_listed {listed : Array Bool} (hsz : listed.size = ops.size) (hback : ∀ (i : Nat) (o : Oper), ops[i]? = some o → ∀ e : Edge, e ∈ o.after → e.on < i) (hr : Region.ready .any ops listed = []) : ∀ i, i < ops.size → listed.getD i false = true := by
  have hall : ∀ n i, i < n → i < ops.size → listed.getD i false = true := by
    intro n
    induction n with
    | zero => intro i h; omega
    | succ n ih =>
      intro i hin hi
      by_cases hl : listed.getD i true = false
      · exfalso
        have hmem : i ∈ Region.ready .any ops listed := by
          simp only [Region.ready, List.mem_filter, List.mem_range, Bool.and_eq_true, Bool.not_eq_true']
          refine ⟨hi, hl, ?_⟩
          have ho : ops[i]? = some ops[i] := Array.getElem?_eq_getElem hi
          rw [ho]
          simp only [Option.map_some, Option.getD_some, Array.all_eq_true_iff_forall_mem, Bool.or_eq_true, Bool.not_eq_true']
          intro e hm'
          right
          have := hback i _ ho e hm'
          exact ih e.on (by omega) (by omega)
        rw [hr] at hmem
        cases hmem
      · have hlt : i < listed.size := by omega
        simp only [Array.getD, hlt, dif_pos] at hl ⊢
        simpa using hl
  exact fun i hi => hall (i + 1) i (by omega) hi

/-- The same, the last operation (a store) by itself: it comes when all others have come. -/
theorem wp_region_mono1 {id n : Nat} {a0 : Act} {w0 : World} (hm : P.follows .mixedOrders = true) (hn : ops.size = n + 1)
    (Ext : World → World → Prop) (hrefl : ∀ w, Ext w w) (htrans : ∀ a b c, Ext a b → Ext b c → Ext a c)
    (R : Nat → Value → World → Prop) (hR : ∀ i v w w', Ext w0.drew w → R i v w → Ext w w' → R i v w')
    (dst : Nat → Option Tmp) (hdd : ∀ i j, i < n → j < ops.size → j ≠ i → dst j ≠ dst i ∨ dst j = none)
    (hback : ∀ (i : Nat) (o : Oper), ops[i]? = some o → ∀ e : Edge, e ∈ o.after → e.on < i)
    (hall : ∀ o, ops[n]? = some o → ∀ j, j < n → (o.after.any fun e => Region.binds .any e && e.on == j) = true) (init : Nat → Value) (hinit : putAll a0 dst init ops.size = a0)
    (hstep : ∀ i o, i < n → ops[i]? = some o → ∀ (vs : Nat → Value) (w : World), Ext w0.drew w → (∀ j, (o.after.any fun e => Region.binds .any e && e.on == j) = true → R j (vs j) w) →
      ∀ K : Act → World → Prop, (∀ v w', Ext w w' → R i v w' → K ((putAll a0 dst vs ops.size).put (dst i) v) w') →
        if Region.wanted o (yielded ops (putAll a0 dst vs ops.size).tmps) = true then Oper.wp P o (putAll a0 dst vs ops.size) w K Q else K ((putAll a0 dst vs ops.size).put o.dst undef) w)
    (hlast : ∀ o, ops[n]? = some o → ∀ (vs : Nat → Value) (w : World), Ext w0.drew w → (∀ i, i < n → R i (vs i) w) → ∀ K : Act → World → Prop, (∀ a w, Q .normal a w → K a w) →
        if Region.wanted o (yielded ops (putAll a0 dst vs ops.size).tmps) = true then Oper.wp P o (putAll a0 dst vs ops.size) w K Q else K ((putAll a0 dst vs ops.size).put o.dst undef) w) : (Code.region id ops true).wp P Q a0 w0 := by
  refine wp_region_any hm ?_
  refine wpAny_inv (fun listed a w => listed.size = ops.size ∧ (((∀ j, j < ops.size → listed.getD j false = true) ∧ Q .normal a w) ∨ ∃ vs, a = putAll a0 dst vs ops.size ∧ Ext w0.drew w ∧ listed.getD n false = false ∧ ∀ j, listed.getD j false = true → R j (vs j) w)) ?_ ?_ ops.size _ _ _ ?_ ⟨by simp, Or.inr ⟨init, hinit.symm, hrefl _, ?_, fun j hj => ?_⟩⟩
  · rintro listed a w ⟨hsz, ⟨_, hq⟩ | ⟨vs, rfl, he, hl, hj⟩⟩ hr
    · exact hq
    · have := all_listed hsz hback hr n (by omega)
      rw [hl] at this
      cases this
  · rintro listed a w i ⟨hsz, ⟨hl, hq⟩ | ⟨vs, rfl, he, hl, hj⟩⟩ hi
    · -- behind the last nothing comes
      exfalso
      obtain ⟨hlt, hun, o, ho, hdeps⟩ := ready_open hi
      have := hl i hlt
      have hls : i < listed.size := by omega
      simp only [Array.getD, hls, dif_pos] at hun this
      rw [hun] at this
      cases this
    · obtain ⟨hlt, hun, o, ho, hdeps⟩ := ready_open hi
      by_cases hin : i = n
      · subst hin
        have hdone : ∀ j, j < i → listed.getD j false = true := fun j hjn => by
          have := hall o ho j hjn
          rw [Array.any_eq_true] at this
          obtain ⟨k, hk, hb⟩ := this
          simp only [Bool.and_eq_true, beq_iff_eq] at hb
          rw [← hb.2]
          exact hdeps _ (Array.getElem_mem hk) hb.1
        refine wpOp_step ho (fun K' hK => hlast o ho vs w he (fun j hjn => hj j (hdone j hjn)) K' (fun a w' hq => hK _ _ ⟨by simpa using hsz, Or.inl ⟨fun j hjs => ?_, hq⟩⟩))
        by_cases hji : j = i
        · subst hji
          simp [Array.getD_eq_getD_getElem?, show j < listed.size by omega]
        · have e : (listed.setIfInBounds i true).getD j false = listed.getD j false := by
            simp only [Array.getD_eq_getD_getElem?, Array.getElem?_setIfInBounds]
            rw [if_neg (fun e => hji e.symm)]
          rw [e]
          exact hdone j (by omega)
      · refine wpOp_step ho (fun K' hK => hstep i o (by omega) ho vs w he (fun j hjd => ?_) K' (fun v w' he' hr' => hK _ _ ⟨by simpa using hsz, Or.inr ⟨fun j => if j = i then v else vs j, ?_, htrans _ _ _ he he', ?_, fun j hjl => ?_⟩⟩))
        · rw [Array.any_eq_true] at hjd
          obtain ⟨k, hk, hb⟩ := hjd
          simp only [Bool.and_eq_true, beq_iff_eq] at hb
          exact hj j (by rw [← hb.2]; exact hdeps _ (Array.getElem_mem hk) hb.1)
        · exact (putAll_upd a0 dst vs i v ops.size hlt (fun j hj' hne => hdd i j (by omega) hj' hne)).symm
        · simp only [Array.getD_eq_getD_getElem?, Array.getElem?_setIfInBounds] at hl ⊢
          rw [if_neg hin]
          exact hl
        · by_cases hji : j = i
          · subst hji; simpa using hr'
          · simp only [hji, if_false]
            refine hR j _ w w' he (hj j ?_) he'
            have e : (listed.setIfInBounds i true).getD j false = listed.getD j false := by
              simp only [Array.getD_eq_getD_getElem?, Array.getElem?_setIfInBounds]
              rw [if_neg (fun e => hji e.symm)]
            rw [← e]
            exact hjl
  · have := List.countP_le_length (p := fun b : Bool => !b) (l := (Array.replicate ops.size false).toList)
    unfold openN
    simpa using this
  · rw [Array.getD_eq_getD_getElem?, Array.getElem?_replicate]; split <;> rfl
  · simp [Array.getD] at hj
end
end Go.Proofs.YtfjohagdlaiapaaGreat

namespace Go.Proofs.YtfjohagdlaiapaaGreat
open Go Go.RowKit

set_option maxRecDepth 100000

section
variable {P : Program} {ops : Array Oper} {Q : Exit → Act → World → Prop}

def dstOf (ops : Array Oper) (i : Nat) : Option Tmp := (ops[i]?).bind (·.dst)
def depsOn (ops : Array Oper) (i j : Nat) : Bool := match ops[i]? with
  | some o => o.after.any fun e => Region.binds .any e && e.on == j
  | none => false
/-- What of a region is seen by reckoning: no slot twice, nothing waits for a later one. -/
def regOk (ops : Array Oper) (n : Nat) : Bool :=
  (List.range n).all (fun i => (List.range ops.size).all fun j => j == i || (dstOf ops j).isNone || !((dstOf ops j) == (dstOf ops i))) &&
  (List.range ops.size).all (fun i => match ops[i]? with | none => true | some o => o.after.all fun e => decide (e.on < i))
def regLast (ops : Array Oper) (n : Nat) : Bool := (List.range n).all fun j => depsOn ops n j

theorem regOk_dst {n : Nat} (h : regOk ops n = true) : ∀ i j, i < n → j < ops.size → j ≠ i → dstOf ops j ≠ dstOf ops i ∨ dstOf ops j = none := by
  intro i j hi hj hne
  simp only [regOk, Bool.and_eq_true, List.all_eq_true, List.mem_range, Bool.or_eq_true, beq_iff_eq, Bool.not_eq_true'] at h
  rcases h.1 i hi j hj with (h1 | h1) | h1
  · exact absurd h1 hne
  · exact Or.inr (Option.isNone_iff_eq_none.1 h1)
  · exact Or.inl (by simpa using h1)

theorem regOk_back {n : Nat} (h : regOk ops n = true) : ∀ (i : Nat) (o : Oper), ops[i]? = some o → ∀ e : Edge, e ∈ o.after → e.on < i := by
  intro i o ho e he
  have hi : i < ops.size := (Array.getElem?_eq_some_iff.1 ho).1
  simp only [regOk, Bool.and_eq_true, List.all_eq_true, List.mem_range] at h
  have := h.2 i hi
  rw [ho] at this
  simp only [Array.all_eq_true_iff_forall_mem] at this
  simpa using this e he

theorem putAll_init (a : Act) (dst : Nat → Option Tmp) : ∀ n, putAll a dst (fun i => match dst i with | some d => a.tmps.getD d undef | none => undef) n = a
  | 0 => rfl
  | n + 1 => by
    simp only [putAll]
    rw [putAll_init a dst n]
    cases hd : dst n with
    | none => rfl
    | some d =>
      have : a.tmps.setIfInBounds d (a.tmps.getD d undef) = a.tmps := by
        by_cases h : d < a.tmps.size
        · apply Array.ext
          · simp
          · intro i h1 h2
            rw [Array.getElem_setIfInBounds (hj := by simpa using h1)]
            split
            · rename_i e; subst e; simp
            · rfl
        · exact Array.setIfInBounds_eq_of_size_le (Nat.le_of_not_lt h)
      show (a.put (some d) (a.tmps.getD d undef)) = a
      unfold Act.put
      simp only [this]

/-- The frame of a region whose operations yield vs. -/
def frame (a : Act) (ops : Array Oper) (vs : Nat → Value) : Act := putAll a (dstOf ops) vs ops.size

/-- What is to be shown of an operation. -/
structure OpDo (P : Program) (ops : Array Oper) (Q : Exit → Act → World → Prop) (A : Act) (i : Nat) (w : World) (K : Act → World → Prop) : Prop where
  out : match ops[i]? with
    | some o => if Region.wanted o (yielded ops A.tmps) = true then Oper.wp P o A w K Q else K (A.put o.dst undef) w
    | none => False

theorem wp_region_reg1 {id n : Nat} {a0 : Act} {w0 : World} (hm : P.follows .mixedOrders = true) (hn : ops.size = n + 1) (hok : regOk ops n = true) (hl : regLast ops n = true)
    (Ext : World → World → Prop) (hrefl : ∀ w, Ext w w) (htrans : ∀ a b c, Ext a b → Ext b c → Ext a c)
    (R : Nat → Value → World → Prop) (hR : ∀ i v w w', Ext w0.drew w → R i v w → Ext w w' → R i v w')
    (hstep : ∀ i, i < n → ∀ (vs : Nat → Value) (w : World), Ext w0.drew w → (∀ j, depsOn ops i j = true → R j (vs j) w) →
      ∀ K : Act → World → Prop, (∀ v w', Ext w w' → R i v w' → K ((frame a0 ops vs).put (dstOf ops i) v) w') → OpDo P ops Q (frame a0 ops vs) i w K)
    (hlast : ∀ (vs : Nat → Value) (w : World), Ext w0.drew w → (∀ i, i < n → R i (vs i) w) → ∀ K : Act → World → Prop, (∀ a w, Q .normal a w → K a w) → OpDo P ops Q (frame a0 ops vs) n w K) : (Code.region id ops true).wp P Q a0 w0 := by
  refine wp_region_mono1 hm hn Ext hrefl htrans R hR (dstOf ops) (regOk_dst hok) (regOk_back hok) ?_ _ (putAll_init a0 _ _) ?_ ?_
  · intro o ho j hj
    have := List.all_eq_true.1 hl j (List.mem_range.2 hj)
    simpa [depsOn, ho] using this
  · intro i o hi ho vs w hE hd K hK
    have := hstep i hi vs w hE (fun j hj => hd j (by simpa [depsOn, ho] using hj)) K hK
    have this := this.out
    rw [ho] at this
    exact this
  · intro o ho vs w hE hd K hK
    have := hlast vs w hE hd K hK
    have this := this.out
    rw [ho] at this
    exact this

theorem wp_region_reg {id : Nat} {a0 : Act} {w0 : World} (hm : P.follows .mixedOrders = true) (hok : regOk ops ops.size = true)
    (Ext : World → World → Prop) (hrefl : ∀ w, Ext w w) (htrans : ∀ a b c, Ext a b → Ext b c → Ext a c)
    (R : Nat → Value → World → Prop) (hR : ∀ i v w w', Ext w0.drew w → R i v w → Ext w w' → R i v w')
    (hstep : ∀ i, i < ops.size → ∀ (vs : Nat → Value) (w : World), Ext w0.drew w → (∀ j, depsOn ops i j = true → R j (vs j) w) →
      ∀ K : Act → World → Prop, (∀ v w', Ext w w' → R i v w' → K ((frame a0 ops vs).put (dstOf ops i) v) w') → OpDo P ops Q (frame a0 ops vs) i w K)
    (hend : ∀ (vs : Nat → Value) (w : World), Ext w0.drew w → (∀ i, i < ops.size → R i (vs i) w) → Q .normal (frame a0 ops vs) w) : (Code.region id ops true).wp P Q a0 w0 := by
  refine wp_region_mono hm (fun w => Ext w0.drew w) Ext hrefl htrans R (fun i v w w' h1 h2 h3 => hR i v w w' h1 h2 h3) (dstOf ops) ?_ (fun i j hi hj hne => regOk_dst hok i j hi hj hne) (regOk_back hok) _ (putAll_init a0 _ _) (hrefl _) ?_ (fun vs w hS _ hr => hend vs w hS hr)
  · intro i o ho; simp [dstOf, ho]
  · intro i o ho vs w hS hE hd K hK
    have hi : i < ops.size := (Array.getElem?_eq_some_iff.1 ho).1
    have := hstep i hi vs w hE (fun j hj => hd j (by simpa [depsOn, ho] using hj)) K (fun v w' h1 h2 => hK v w' (htrans _ _ _ hS h1) h1 h2)
    have this := this.out
    rw [ho] at this
    exact this

def opAt (ops : Array Oper) (i : Nat) : Oper := (ops[i]?).getD default
theorem opAt_of {i : Nat} (h : (ops[i]?).isSome = true) : ops[i]? = some (opAt ops i) := by
  unfold opAt
  cases ho : ops[i]? with
  | none => rw [ho] at h; cases h
  | some o => rfl
theorem opAt_dst {i : Nat} (h : (ops[i]?).isSome = true) : (opAt ops i).dst = dstOf ops i := by
  unfold dstOf
  rw [opAt_of h]
  rfl

/-- An operation that is on and hands back a value at once. -/
theorem op_val {A : Act} {i : Nat} {w w' : World} {K : Act → World → Prop} {v : Value} (hs : (ops[i]?).isSome = true) (hg : Region.wanted (opAt ops i) (yielded ops A.tmps) = true) (hr : (execOp A.eval (opAt ops i)).run P w = .ok (.value v) w') (hK : K (A.put (dstOf ops i) v) w') : OpDo P ops Q A i w K := by
  constructor
  rw [opAt_of hs]
  simp only [hg, if_true]
  unfold Oper.wp
  rw [hr]
  rw [← opAt_dst hs] at hK
  exact hK
/-- An operation that is off. -/
theorem op_off {A : Act} {i : Nat} {w : World} {K : Act → World → Prop} (hs : (ops[i]?).isSome = true) (hg : Region.wanted (opAt ops i) (yielded ops A.tmps) = false) (hK : K (A.put (dstOf ops i) undef) w) : OpDo P ops Q A i w K := by
  constructor
  rw [opAt_of hs]
  simp only [hg, Bool.false_eq_true, if_false]
  rw [← opAt_dst hs] at hK
  exact hK
/-- A call. -/
theorem op_call {A : Act} {i : Nat} {w : World} {K : Act → World → Prop} {f : FuncId} {args : Array Value} (hs : (ops[i]?).isSome = true) (hg : Region.wanted (opAt ops i) (yielded ops A.tmps) = true) (hr : (execOp A.eval (opAt ops i)).run P w = .ok (.enter f args) w)
    (hK : Calls P f args w fun e w' => ∃ v, e = .returned v ∧ K (A.put (dstOf ops i) v) w') : OpDo P ops Q A i w K := by
  constructor
  rw [opAt_of hs]
  simp only [hg, if_true]
  unfold Oper.wp
  rw [hr]
  refine hK.mono ?_
  rintro e w' ⟨v, rfl, h⟩
  rw [← opAt_dst hs] at h
  exact h
end

/-! ### the kinds of operations, at a seat's program -/

theorem run_load_tree {w : World} {b o : Nat} {c0 c1 : Value} (h0 : w.cell? ⟨b, o, none⟩ = some c0) (h1 : w.cell? ⟨b, o + 1, none⟩ = some c1) :
    (Instr.loadAt 55 (.pointer (some ⟨b, o, none⟩))).run Tryz.prog w = .ok (.agg #[c0, c1]) w := by
  obtain ⟨d, hd, hr⟩ : ∃ d, Tryz.prog.underlying 55 = some d ∧ d.isRow = true := ⟨_, rfl, rfl⟩
  exact run_loadAt_mid w b o 55 [c0, c1] d (fun j v hj => by
    match j, hj with
    | 0, hj => simp at hj; subst hj; exact h0
    | 1, hj => simp at hj; subst hj; exact h1) hd hr (by kernel_rfl)

/-- The pointed-at tree is loaded. -/
theorem op_load {ops : Array Oper} {Q : Exit → Act → World → Prop} {A : Act} {i : Nat} {w : World} {K : Act → World → Prop} {x : Operand} {b k : Nat} {c0 c1 : Value} (hs : (ops[i]?).isSome = true) (hop : (opAt ops i).op = .load 55 x) (hg : (opAt ops i).guard = none) (hx : A.eval x = .pointer (some ⟨b, k, none⟩))
    (h0 : w.cell? ⟨b, k, none⟩ = some c0) (h1 : w.cell? ⟨b, k + 1, none⟩ = some c1) (hK : K (A.put (dstOf ops i) (.agg #[c0, c1])) w) : OpDo Tryz.prog ops Q A i w K := by
  refine op_val hs (by unfold Region.wanted; rw [hg]) ?_ hK
  unfold execOp
  simp only [hop, hx, Sem.run_bind, run_load_tree h0 h1, Result.andThen_ok, Sem.run_pure]
end Go.Proofs.YtfjohagdlaiapaaGreat

namespace Go.Proofs.YtfjohagdlaiapaaGreat
open Go.RowKit

set_option maxHeartbeats 2000000
set_option maxRecDepth 100000

/-- A row of trees. -/
def ArgsST (w : World) (sv : Value) (us : List Tm) : Prop :=
  (us = [] ∧ ∃ ao cap, sv = .slice ao 0 cap) ∨ ∃ g o cap, sv = .slice (some ⟨g, o, none⟩) us.length cap ∧ g < w.heap.size ∧ ∀ j (h : j < us.length), ∃ s ao n c, w.cell? ⟨g, o + j * 2, none⟩ = some (str s) ∧ w.cell? ⟨g, o + j * 2 + 1, none⟩ = some (.slice ao n c) ∧ ST w us[j] (.agg #[str s, .slice ao n c])

theorem ArgsST.after {w W : World} {sv : Value} {us : List Tm} (h : ArgsST w sv us) (ha : After w W) : ArgsST W sv us := by
  rcases h with h | ⟨g, o, cap, hv, hg, hc⟩
  · exact Or.inl h
  · refine Or.inr ⟨g, o, cap, hv, Nat.lt_of_lt_of_le hg ha.size, fun j hj => ?_⟩
    obtain ⟨s, ao, n, c, h1, h2, h3⟩ := hc j hj
    exact ⟨s, ao, n, c, ha.cell h1, ha.cell h2, h3.later ha⟩
theorem ArgsST.form {w : World} {sv : Value} {us : List Tm} (h : ArgsST w sv us) : ∃ ao cap, sv = .slice ao us.length cap := by
  rcases h with ⟨rfl, ao, cap, rfl⟩ | ⟨g, o, cap, rfl, _⟩
  · exact ⟨_, _, rfl⟩
  · exact ⟨_, _, rfl⟩
theorem ArgsST.at {w : World} {sv : Value} {us : List Tm} (h : ArgsST w sv us) (j : Nat) (hj : j < us.length) : ∃ g o cap s ao n c, sv = .slice (some ⟨g, o, none⟩) us.length cap ∧ g < w.heap.size ∧ w.cell? ⟨g, o + j * 2, none⟩ = some (str s) ∧ w.cell? ⟨g, o + j * 2 + 1, none⟩ = some (.slice ao n c) ∧ ST w us[j] (.agg #[str s, .slice ao n c]) := by
  rcases h with ⟨h, _⟩ | ⟨g, o, cap, hv, hg, hc⟩
  · rw [h] at hj; simp at hj
  · obtain ⟨s, ao, n, c, h1, h2, h3⟩ := hc j hj
    exact ⟨g, o, cap, s, ao, n, c, hv, hg, h1, h2, h3⟩

theorem appL_snoc (f : Tm) (us : List Tm) (u : Tm) : FT.appL f (us ++ [u]) = .app (FT.appL f us) u := by simp [FT.appL, List.foldl_append]

/-- The application of a term to a list of terms. -/
theorem s_appL (w : World) (f : Tm) (us : List Tm) (s0 : List UInt8) (a0 : Option Addr) (n0 c0 : Nat) (sv : Value) (hf : ST w f (.agg #[str s0, .slice a0 n0 c0])) (hu : ArgsST w sv us) (hn : us.length ≤ 1000) :
    Calls Tryz.prog 32 #[.agg #[str s0, .slice a0 n0 c0], sv] w (TreePost w (FT.appL f us)) := by
  obtain ⟨ao, cap, rfl⟩ := hu.form
  obtain ⟨N, hN⟩ : ∃ N, N = us.length := ⟨_, rfl⟩
  rw [← hN] at hn ⊢
  obtain ⟨W1, hW1⟩ : ∃ W1, W1 = (w.alloc (.cells #[str s0, .slice a0 n0 c0] 55)).alloc (.cells #[.string ⟨#[]⟩, .slice none 0 0] 55) := ⟨_, rfl⟩
  have a1 : After w W1 := by rw [hW1]; exact (After.new _ _).alloc _
  have hq : W1.heap[w.heap.size]? = some (.cells #[str s0, .slice a0 n0 c0] 55 (0, 0)) := by rw [hW1]; exact heap_old2 _ _ _
  have hr : W1.heap[w.heap.size + 1]? = some (.cells #[.string ⟨#[]⟩, .slice none 0 0] 55 (0, 0)) := by rw [hW1]; exact heap_new2 w _ _ _ rfl
  have HN := Lib.hid hN
  have HW1 := Lib.hid hW1
  have HU := Lib.hid hu
  have HA1 := Lib.hid a1
  have HQ := Lib.hid hq
  have HR := Lib.hid hr
  have HF := Lib.hid (hf.later a1)
  obtain ⟨R, hR⟩ : ∃ R, R = FT.appL f us := ⟨_, rfl⟩
  rw [← hR]
  have HRR := Lib.hid hR
  clear hN hW1 hu hq hr hf hR a1
  go_enter Tryz.func32, Tryz.ntmps32
  go_wp2_with fail
  rw [← HW1.out]
  go_loopw [5] (fun i wr => ∃ (k : Nat) (s : List UInt8) (b : Option Addr) (n c : Nat), i = .int .i64 (k : Nat) ∧ k ≤ N ∧ Hid (wr.heap[w.heap.size]? = some (.cells #[str s, .slice b n c] 55 (0, 0))) ∧ Hid (ST wr (FT.appL f (us.take k)) (.agg #[str s, .slice b n c])) ∧ Hid (W1.grownBy wr (some w.heap.size))) (fun i _ => N - (intOf i).toNat)
  case atStart => exact ⟨0, s0, a0, n0, c0, rfl, Nat.zero_le _, HQ.out, HF.out, World.grownBy.refl _ _⟩
  case round =>
    obtain ⟨k, s, b, n, c, rfl, hk, HB, HT, HG⟩ := hrel
    have b0 : wr.cell? ⟨w.heap.size, 0, none⟩ = some (str s) := cell_of_heap (i := 0) HB.out
    have b1 : wr.cell? ⟨w.heap.size, 1, none⟩ = some (.slice b n c) := cell_of_heap (i := 1) HB.out
    have f0 : ∀ i, wr.frozen? ⟨w.heap.size, i, none⟩ = false := fun i => by have := HB.out; simp [World.frozen?, this]
    have hres : wr.heap[w.heap.size + 1]? = some (.cells #[.string ⟨#[]⟩, .slice none 0 0] 55 (0, 0)) := by
      rw [HG.out.block (w.heap.size + 1) (Array.getElem?_eq_some_iff.1 HR.out).1 (fun e => by injection e with e; omega)]
      exact HR.out
    have r0 : wr.cell? ⟨w.heap.size + 1, 0, none⟩ = some (.string ⟨#[]⟩) := cell_of_heap (i := 0) hres
    have r1 : wr.cell? ⟨w.heap.size + 1, 1, none⟩ = some (.slice none 0 0) := cell_of_heap (i := 1) hres
    have f1 : ∀ i, wr.frozen? ⟨w.heap.size + 1, i, none⟩ = false := fun i => by simp [World.frozen?, hres]
    have HRES := Lib.hid hres
    clear hres
    by_cases hlt : k < N
    · have hkl : k < us.length := by rw [← HN.out]; exact hlt
      obtain ⟨g, o, cap', s1, ao1, n1, c1, hsv, hg, h1, h2, h3⟩ := HU.out.at k hkl
      injection hsv with e1 e2 e3
      subst e1
      clear e2 e3
      have hAw : After w wr := after_own HA1.out (Nat.le_refl _) HG.out
      have x1 := hAw.cell h1
      have x2 := hAw.cell h2
      have HX := Lib.hid (h3.later hAw)
      have hgq : g ≠ w.heap.size := by omega
      have hltI : (k : Int) < (N : Int) := by omega
      have hqw : w.heap.size < wr.heap.size := (Array.getElem?_eq_some_iff.1 HB.out).1
      have hnext : FT.appL f (us.take (k + 1)) = .app (FT.appL f (us.take k)) us[k] := by rw [List.take_succ_eq_append_getElem hkl, appL_snoc]
      have HNX := Lib.hid hnext
      clear h1 h2 h3 hnext
      go_wp2_with fail
      go_region
      all_goals
        go_wp2_with fail
        go_roundw
        case measure => simp [intOf]; omega
        case rel =>
          have hX : ((wr.setCell ⟨w.heap.size, 0, none⟩ (.string ⟨#[]⟩)).setCell ⟨w.heap.size, 1, none⟩ (.slice (some ⟨wr.heap.size, 0, none⟩) 2 2)).heap[w.heap.size]? = some (.cells #[str [], .slice (some ⟨wr.heap.size, 0, none⟩) 2 2] 55 (0, 0)) := by
            have := HB.out
            simp [World.setCell, Array.getElem?_modify, this]
          have hXs : ((wr.setCell ⟨w.heap.size, 0, none⟩ (.string ⟨#[]⟩)).setCell ⟨w.heap.size, 1, none⟩ (.slice (some ⟨wr.heap.size, 0, none⟩) 2 2)).heap.size = wr.heap.size := by simp [World.setCell]
          have hT2 := HT.out.sets2 HB.out (i := 0) (j := 1) (u := .string ⟨#[]⟩) (u' := .slice (some ⟨wr.heap.size, 0, none⟩) 2 2)
          have hX2 := HX.out.sets2 HB.out (i := 0) (j := 1) (u := .string ⟨#[]⟩) (u' := .slice (some ⟨wr.heap.size, 0, none⟩) 2 2)
          have hGX : W1.grownBy ((wr.setCell ⟨w.heap.size, 0, none⟩ (.string ⟨#[]⟩)).setCell ⟨w.heap.size, 1, none⟩ (.slice (some ⟨wr.heap.size, 0, none⟩) 2 2)) (some w.heap.size) := grown_trans (grown_trans HG.out (grown_setx _ _ _ _)) (grown_setx _ _ _ _)
          generalize (wr.setCell ⟨w.heap.size, 0, none⟩ (.string ⟨#[]⟩)).setCell ⟨w.heap.size, 1, none⟩ (.slice (some ⟨wr.heap.size, 0, none⟩) 2 2) = X at *
          have hn4 := heap_new' X (.cells #[str s, .slice b n c, str s1, .slice ao1 n1 c1] 55)
          rw [hXs] at hn4
          have ha4 := After.new X (.cells #[str s, .slice b n c, str s1, .slice ao1 n1 c1] 55)
          refine ⟨k + 1, [], some ⟨wr.heap.size, 0, none⟩, 2, 2, by go_num, by omega, ha4.heap hX, ?_, grown_trans hGX (after_grown _ (After.drew ha4))⟩
          rw [HNX.out]
          exact ⟨wr.heap.size, 2, (0, 0), _, _, _, _, rfl, hn4, hT2.later (After.drew ha4), hX2.later (After.drew ha4)⟩
    · obtain rfl : k = N := by omega
      have HF' := Lib.hid (show FT.appL f (us.take k) = R by rw [HRR.out, HN.out, List.take_length])
      have z0 := after_own HA1.out (Nat.le_refl _) HG.out
      go_wp2_with fail
      refine bodyPost_ret (v := .agg #[str s, .slice b n c]) (by have := HRES.out; simp [results, Tryz.results32, go_sem, World.setCell, World.cell?, Array.getElem?_modify, this]) rfl
        ⟨s, b, n, c, rfl, Below.setCell (p := ⟨w.heap.size + 1, 1, none⟩) (Below.setCell (p := ⟨w.heap.size + 1, 0, none⟩) z0 (Nat.le_succ _) _) (Nat.le_succ _) _, ?_⟩
      have h := HT.out
      rw [HF'.out] at h
      exact h.sets2 HRES.out

/-- A row of values that look like trees. -/
def RawRow (w : World) (sv : Value) (n : Nat) : Prop := ∃ g o cap, sv = .slice (some ⟨g, o, none⟩) n cap ∧ g < w.heap.size ∧ ∀ j, j < n → ∃ s ao m c, w.cell? ⟨g, o + j * 2, none⟩ = some (str s) ∧ w.cell? ⟨g, o + j * 2 + 1, none⟩ = some (.slice ao m c)
theorem RawRow.after {w W : World} {sv : Value} {n : Nat} (h : RawRow w sv n) (ha : After w W) : RawRow W sv n := by
  obtain ⟨g, o, cap, hv, hg, hc⟩ := h
  refine ⟨g, o, cap, hv, Nat.lt_of_lt_of_le hg ha.size, fun j hj => ?_⟩
  obtain ⟨s, ao, n, c, h1, h2⟩ := hc j hj
  exact ⟨s, ao, n, c, ha.cell h1, ha.cell h2⟩

/-- An application of what only looks like trees. -/
theorem s_appR (w : World) (s0 : List UInt8) (a0 : Option Addr) (n0 c0 N : Nat) (sv : Value) (hu : RawRow w sv N) (hn : N ≤ 1000) :
    Calls Tryz.prog 32 #[.agg #[str s0, .slice a0 n0 c0], sv] w fun e w' => ∃ s ao n c, e = .returned (.agg #[str s, .slice ao n c]) ∧ After w w' := by
  obtain ⟨g, o, cap, rfl, hg, hc⟩ := hu
  obtain ⟨W1, hW1⟩ : ∃ W1, W1 = (w.alloc (.cells #[str s0, .slice a0 n0 c0] 55)).alloc (.cells #[.string ⟨#[]⟩, .slice none 0 0] 55) := ⟨_, rfl⟩
  have a1 : After w W1 := by rw [hW1]; exact (After.new _ _).alloc _
  have hq : W1.heap[w.heap.size]? = some (.cells #[str s0, .slice a0 n0 c0] 55 (0, 0)) := by rw [hW1]; exact heap_old2 _ _ _
  have hr : W1.heap[w.heap.size + 1]? = some (.cells #[.string ⟨#[]⟩, .slice none 0 0] 55 (0, 0)) := by rw [hW1]; exact heap_new2 w _ _ _ rfl
  have HW1 := Lib.hid hW1
  have HU := Lib.hid hc
  have HA1 := Lib.hid a1
  have HQ := Lib.hid hq
  have HR := Lib.hid hr
  clear hW1 hc hq hr a1
  go_enter Tryz.func32, Tryz.ntmps32
  go_wp2_with fail
  rw [← HW1.out]
  go_loopw [5] (fun i wr => ∃ (k : Nat) (s : List UInt8) (b : Option Addr) (n c : Nat), i = .int .i64 (k : Nat) ∧ k ≤ N ∧ Hid (wr.heap[w.heap.size]? = some (.cells #[str s, .slice b n c] 55 (0, 0))) ∧ Hid (W1.grownBy wr (some w.heap.size))) (fun i _ => N - (intOf i).toNat)
  case atStart => exact ⟨0, s0, a0, n0, c0, rfl, Nat.zero_le _, HQ.out, World.grownBy.refl _ _⟩
  case round =>
    obtain ⟨k, s, b, n, c, rfl, hk, HB, HG⟩ := hrel
    have b0 : wr.cell? ⟨w.heap.size, 0, none⟩ = some (str s) := cell_of_heap (i := 0) HB.out
    have b1 : wr.cell? ⟨w.heap.size, 1, none⟩ = some (.slice b n c) := cell_of_heap (i := 1) HB.out
    have f0 : ∀ i, wr.frozen? ⟨w.heap.size, i, none⟩ = false := fun i => by have := HB.out; simp [World.frozen?, this]
    have hres : wr.heap[w.heap.size + 1]? = some (.cells #[.string ⟨#[]⟩, .slice none 0 0] 55 (0, 0)) := by
      rw [HG.out.block (w.heap.size + 1) (Array.getElem?_eq_some_iff.1 HR.out).1 (fun e => by injection e with e; omega)]
      exact HR.out
    have r0 : wr.cell? ⟨w.heap.size + 1, 0, none⟩ = some (.string ⟨#[]⟩) := cell_of_heap (i := 0) hres
    have r1 : wr.cell? ⟨w.heap.size + 1, 1, none⟩ = some (.slice none 0 0) := cell_of_heap (i := 1) hres
    have f1 : ∀ i, wr.frozen? ⟨w.heap.size + 1, i, none⟩ = false := fun i => by simp [World.frozen?, hres]
    have HRES := Lib.hid hres
    clear hres
    by_cases hlt : k < N
    · obtain ⟨s1, ao1, n1, c1, h1, h2⟩ := HU.out k hlt
      have hAw : After w wr := after_own HA1.out (Nat.le_refl _) HG.out
      have x1 := hAw.cell h1
      have x2 := hAw.cell h2
      have hgq : g ≠ w.heap.size := by omega
      have hltI : (k : Int) < (N : Int) := by omega
      have hqw : w.heap.size < wr.heap.size := (Array.getElem?_eq_some_iff.1 HB.out).1
      clear h1 h2
      go_wp2_with fail
      go_region
      all_goals
        go_wp2_with fail
        go_roundw
        case measure => simp [intOf]; omega
        case rel =>
          have hX : ((wr.setCell ⟨w.heap.size, 0, none⟩ (.string ⟨#[]⟩)).setCell ⟨w.heap.size, 1, none⟩ (.slice (some ⟨wr.heap.size, 0, none⟩) 2 2)).heap[w.heap.size]? = some (.cells #[str [], .slice (some ⟨wr.heap.size, 0, none⟩) 2 2] 55 (0, 0)) := by
            have := HB.out
            simp [World.setCell, Array.getElem?_modify, this]
          have hXs : ((wr.setCell ⟨w.heap.size, 0, none⟩ (.string ⟨#[]⟩)).setCell ⟨w.heap.size, 1, none⟩ (.slice (some ⟨wr.heap.size, 0, none⟩) 2 2)).heap.size = wr.heap.size := by simp [World.setCell]
          have hGX : W1.grownBy ((wr.setCell ⟨w.heap.size, 0, none⟩ (.string ⟨#[]⟩)).setCell ⟨w.heap.size, 1, none⟩ (.slice (some ⟨wr.heap.size, 0, none⟩) 2 2)) (some w.heap.size) := grown_trans (grown_trans HG.out (grown_setx _ _ _ _)) (grown_setx _ _ _ _)
          generalize (wr.setCell ⟨w.heap.size, 0, none⟩ (.string ⟨#[]⟩)).setCell ⟨w.heap.size, 1, none⟩ (.slice (some ⟨wr.heap.size, 0, none⟩) 2 2) = X at *
          have hn4 := heap_new' X (.cells #[str s, .slice b n c, str s1, .slice ao1 n1 c1] 55)
          rw [hXs] at hn4
          have ha4 := After.new X (.cells #[str s, .slice b n c, str s1, .slice ao1 n1 c1] 55)
          refine ⟨k + 1, [], some ⟨wr.heap.size, 0, none⟩, 2, 2, by go_num, by omega, ha4.heap hX, grown_trans hGX (after_grown _ (After.drew ha4))⟩
    · obtain rfl : k = N := by omega
      have z0 := after_own HA1.out (Nat.le_refl _) HG.out
      go_wp2_with fail
      refine bodyPost_ret (v := .agg #[str s, .slice b n c]) (by have := HRES.out; simp [results, Tryz.results32, go_sem, World.setCell, World.cell?, Array.getElem?_modify, this]) rfl
        ⟨s, b, n, c, rfl, Below.setCell (p := ⟨w.heap.size + 1, 1, none⟩) (Below.setCell (p := ⟨w.heap.size + 1, 0, none⟩) z0 (Nat.le_succ _) _) (Nat.le_succ _) _⟩

end Go.Proofs.YtfjohagdlaiapaaGreat

namespace Go.Proofs.YtfjohagdlaiapaaGreat
open Go Go.RowKit

set_option maxRecDepth 100000

/-- What an operation yields. -/
inductive Yd where
  | lit (v : Value)
  | tree (t : Tm)
  | raw
  | row (ts : List Tm)
  | names (xs : List (List UInt8))
  | cell (base : Nat)
  | rraw (n : Nat)
  | free

def Yd.holds : Yd → Value → World → Prop
  | .lit u, v, _ => v = u
  | .tree t, v, W => ∃ s ao n c, v = .agg #[str s, .slice ao n c] ∧ ST W t v
  | .raw, v, _ => ∃ s ao n c, v = .agg #[str s, .slice ao n c]
  | .row ts, v, W => ArgsST W v ts
  | .names xs, v, W => ∃ g, v = .slice (some ⟨g, 0, none⟩) xs.length xs.length ∧ W.heap[g]? = some (.cells (xs.map str).toArray 9 (0, 0))
  | .cell base, v, W => ∃ g x y, v = .pointer (some ⟨g, 0, none⟩) ∧ base ≤ g ∧ W.heap[g]? = some (.cells #[x, y] 55 (0, 0))
  | .rraw n, v, W => RawRow W v n
  | .free, _, _ => True

theorem Yd.later {W W' : World} (hW : After W W') : ∀ {y : Yd} {v : Value}, y.holds v W → y.holds v W'
  | .lit _, _, h => h
  | .tree _, _, ⟨s, ao, n, c, e, h⟩ => ⟨s, ao, n, c, e, h.later hW⟩
  | .raw, _, h => h
  | .row _, _, h => ArgsST.after h hW
  | .names _, _, ⟨g, e, h⟩ => ⟨g, e, hW.heap h⟩
  | .cell _, _, ⟨g, x, y, e, hb, h⟩ => ⟨g, x, y, e, hb, hW.heap h⟩
  | .rraw _, _, h => RawRow.after h hW
  | .free, _, _ => trivial

/-- The yields of a region, one after the other. -/
def yds (L : List Yd) (i : Nat) (v : Value) (W : World) : Prop := (L.getD i .free).holds v W
theorem yds_later {L : List Yd} {w0 : World} : ∀ i v w w', After w0 w → yds L i v w → After w w' → yds L i v w' := fun _ _ _ _ _ h hW => Yd.later hW h

/-! ### one after the other -/
theorem lt1 {p : Nat → Prop} (h0 : p 0) : ∀ i, i < 1 → p i := fun i hi => by
  obtain rfl : i = 0 := by omega
  exact h0
theorem lt2 {p : Nat → Prop} (h0 : p 0) (h1 : p 1) : ∀ i, i < 2 → p i := fun i hi => by
  rcases Nat.lt_succ_iff_lt_or_eq.1 hi with h | h
  · exact lt1 h0 i h
  · subst h; exact h1
theorem lt3 {p : Nat → Prop} (h0 : p 0) (h1 : p 1) (h2 : p 2) : ∀ i, i < 3 → p i := fun i hi => by
  rcases Nat.lt_succ_iff_lt_or_eq.1 hi with h | h
  · exact lt2 h0 h1 i h
  · subst h; exact h2
theorem lt4 {p : Nat → Prop} (h0 : p 0) (h1 : p 1) (h2 : p 2) (h3 : p 3) : ∀ i, i < 4 → p i := fun i hi => by
  rcases Nat.lt_succ_iff_lt_or_eq.1 hi with h | h
  · exact lt3 h0 h1 h2 i h
  · subst h; exact h3
theorem lt5 {p : Nat → Prop} (h0 : p 0) (h1 : p 1) (h2 : p 2) (h3 : p 3) (h4 : p 4) : ∀ i, i < 5 → p i := fun i hi => by
  rcases Nat.lt_succ_iff_lt_or_eq.1 hi with h | h
  · exact lt4 h0 h1 h2 h3 i h
  · subst h; exact h4
theorem lt6 {p : Nat → Prop} (h0 : p 0) (h1 : p 1) (h2 : p 2) (h3 : p 3) (h4 : p 4) (h5 : p 5) : ∀ i, i < 6 → p i := fun i hi => by
  rcases Nat.lt_succ_iff_lt_or_eq.1 hi with h | h
  · exact lt5 h0 h1 h2 h3 h4 i h
  · subst h; exact h5
theorem lt7 {p : Nat → Prop} (h0 : p 0) (h1 : p 1) (h2 : p 2) (h3 : p 3) (h4 : p 4) (h5 : p 5) (h6 : p 6) : ∀ i, i < 7 → p i := fun i hi => by
  rcases Nat.lt_succ_iff_lt_or_eq.1 hi with h | h
  · exact lt6 h0 h1 h2 h3 h4 h5 i h
  · subst h; exact h6
theorem lt8 {p : Nat → Prop} (h0 : p 0) (h1 : p 1) (h2 : p 2) (h3 : p 3) (h4 : p 4) (h5 : p 5) (h6 : p 6) (h7 : p 7) : ∀ i, i < 8 → p i := fun i hi => by
  rcases Nat.lt_succ_iff_lt_or_eq.1 hi with h | h
  · exact lt7 h0 h1 h2 h3 h4 h5 h6 i h
  · subst h; exact h7
theorem lt9 {p : Nat → Prop} (h0 : p 0) (h1 : p 1) (h2 : p 2) (h3 : p 3) (h4 : p 4) (h5 : p 5) (h6 : p 6) (h7 : p 7) (h8 : p 8) : ∀ i, i < 9 → p i := fun i hi => by
  rcases Nat.lt_succ_iff_lt_or_eq.1 hi with h | h
  · exact lt8 h0 h1 h2 h3 h4 h5 h6 h7 i h
  · subst h; exact h8
theorem lt10 {p : Nat → Prop} (h0 : p 0) (h1 : p 1) (h2 : p 2) (h3 : p 3) (h4 : p 4) (h5 : p 5) (h6 : p 6) (h7 : p 7) (h8 : p 8) (h9 : p 9) : ∀ i, i < 10 → p i := fun i hi => by
  rcases Nat.lt_succ_iff_lt_or_eq.1 hi with h | h
  · exact lt9 h0 h1 h2 h3 h4 h5 h6 h7 h8 i h
  · subst h; exact h9
theorem lt11 {p : Nat → Prop} (h0 : p 0) (h1 : p 1) (h2 : p 2) (h3 : p 3) (h4 : p 4) (h5 : p 5) (h6 : p 6) (h7 : p 7) (h8 : p 8) (h9 : p 9) (h10 : p 10) : ∀ i, i < 11 → p i := fun i hi => by
  rcases Nat.lt_succ_iff_lt_or_eq.1 hi with h | h
  · exact lt10 h0 h1 h2 h3 h4 h5 h6 h7 h8 h9 i h
  · subst h; exact h10
theorem lt12 {p : Nat → Prop} (h0 : p 0) (h1 : p 1) (h2 : p 2) (h3 : p 3) (h4 : p 4) (h5 : p 5) (h6 : p 6) (h7 : p 7) (h8 : p 8) (h9 : p 9) (h10 : p 10) (h11 : p 11) : ∀ i, i < 12 → p i := fun i hi => by
  rcases Nat.lt_succ_iff_lt_or_eq.1 hi with h | h
  · exact lt11 h0 h1 h2 h3 h4 h5 h6 h7 h8 h9 h10 i h
  · subst h; exact h11
theorem lt13 {p : Nat → Prop} (h0 : p 0) (h1 : p 1) (h2 : p 2) (h3 : p 3) (h4 : p 4) (h5 : p 5) (h6 : p 6) (h7 : p 7) (h8 : p 8) (h9 : p 9) (h10 : p 10) (h11 : p 11) (h12 : p 12) : ∀ i, i < 13 → p i := fun i hi => by
  rcases Nat.lt_succ_iff_lt_or_eq.1 hi with h | h
  · exact lt12 h0 h1 h2 h3 h4 h5 h6 h7 h8 h9 h10 h11 i h
  · subst h; exact h12
theorem lt14 {p : Nat → Prop} (h0 : p 0) (h1 : p 1) (h2 : p 2) (h3 : p 3) (h4 : p 4) (h5 : p 5) (h6 : p 6) (h7 : p 7) (h8 : p 8) (h9 : p 9) (h10 : p 10) (h11 : p 11) (h12 : p 12) (h13 : p 13) : ∀ i, i < 14 → p i := fun i hi => by
  rcases Nat.lt_succ_iff_lt_or_eq.1 hi with h | h
  · exact lt13 h0 h1 h2 h3 h4 h5 h6 h7 h8 h9 h10 h11 h12 i h
  · subst h; exact h13
theorem lt15 {p : Nat → Prop} (h0 : p 0) (h1 : p 1) (h2 : p 2) (h3 : p 3) (h4 : p 4) (h5 : p 5) (h6 : p 6) (h7 : p 7) (h8 : p 8) (h9 : p 9) (h10 : p 10) (h11 : p 11) (h12 : p 12) (h13 : p 13) (h14 : p 14) : ∀ i, i < 15 → p i := fun i hi => by
  rcases Nat.lt_succ_iff_lt_or_eq.1 hi with h | h
  · exact lt14 h0 h1 h2 h3 h4 h5 h6 h7 h8 h9 h10 h11 h12 h13 i h
  · subst h; exact h14
theorem lt16 {p : Nat → Prop} (h0 : p 0) (h1 : p 1) (h2 : p 2) (h3 : p 3) (h4 : p 4) (h5 : p 5) (h6 : p 6) (h7 : p 7) (h8 : p 8) (h9 : p 9) (h10 : p 10) (h11 : p 11) (h12 : p 12) (h13 : p 13) (h14 : p 14) (h15 : p 15) : ∀ i, i < 16 → p i := fun i hi => by
  rcases Nat.lt_succ_iff_lt_or_eq.1 hi with h | h
  · exact lt15 h0 h1 h2 h3 h4 h5 h6 h7 h8 h9 h10 h11 h12 h13 h14 i h
  · subst h; exact h15
theorem lt17 {p : Nat → Prop} (h0 : p 0) (h1 : p 1) (h2 : p 2) (h3 : p 3) (h4 : p 4) (h5 : p 5) (h6 : p 6) (h7 : p 7) (h8 : p 8) (h9 : p 9) (h10 : p 10) (h11 : p 11) (h12 : p 12) (h13 : p 13) (h14 : p 14) (h15 : p 15) (h16 : p 16) : ∀ i, i < 17 → p i := fun i hi => by
  rcases Nat.lt_succ_iff_lt_or_eq.1 hi with h | h
  · exact lt16 h0 h1 h2 h3 h4 h5 h6 h7 h8 h9 h10 h11 h12 h13 h14 h15 i h
  · subst h; exact h16
theorem lt18 {p : Nat → Prop} (h0 : p 0) (h1 : p 1) (h2 : p 2) (h3 : p 3) (h4 : p 4) (h5 : p 5) (h6 : p 6) (h7 : p 7) (h8 : p 8) (h9 : p 9) (h10 : p 10) (h11 : p 11) (h12 : p 12) (h13 : p 13) (h14 : p 14) (h15 : p 15) (h16 : p 16) (h17 : p 17) : ∀ i, i < 18 → p i := fun i hi => by
  rcases Nat.lt_succ_iff_lt_or_eq.1 hi with h | h
  · exact lt17 h0 h1 h2 h3 h4 h5 h6 h7 h8 h9 h10 h11 h12 h13 h14 h15 h16 i h
  · subst h; exact h17
theorem lt19 {p : Nat → Prop} (h0 : p 0) (h1 : p 1) (h2 : p 2) (h3 : p 3) (h4 : p 4) (h5 : p 5) (h6 : p 6) (h7 : p 7) (h8 : p 8) (h9 : p 9) (h10 : p 10) (h11 : p 11) (h12 : p 12) (h13 : p 13) (h14 : p 14) (h15 : p 15) (h16 : p 16) (h17 : p 17) (h18 : p 18) : ∀ i, i < 19 → p i := fun i hi => by
  rcases Nat.lt_succ_iff_lt_or_eq.1 hi with h | h
  · exact lt18 h0 h1 h2 h3 h4 h5 h6 h7 h8 h9 h10 h11 h12 h13 h14 h15 h16 h17 i h
  · subst h; exact h18
theorem lt20 {p : Nat → Prop} (h0 : p 0) (h1 : p 1) (h2 : p 2) (h3 : p 3) (h4 : p 4) (h5 : p 5) (h6 : p 6) (h7 : p 7) (h8 : p 8) (h9 : p 9) (h10 : p 10) (h11 : p 11) (h12 : p 12) (h13 : p 13) (h14 : p 14) (h15 : p 15) (h16 : p 16) (h17 : p 17) (h18 : p 18) (h19 : p 19) : ∀ i, i < 20 → p i := fun i hi => by
  rcases Nat.lt_succ_iff_lt_or_eq.1 hi with h | h
  · exact lt19 h0 h1 h2 h3 h4 h5 h6 h7 h8 h9 h10 h11 h12 h13 h14 h15 h16 h17 h18 i h
  · subst h; exact h19
theorem lt21 {p : Nat → Prop} (h0 : p 0) (h1 : p 1) (h2 : p 2) (h3 : p 3) (h4 : p 4) (h5 : p 5) (h6 : p 6) (h7 : p 7) (h8 : p 8) (h9 : p 9) (h10 : p 10) (h11 : p 11) (h12 : p 12) (h13 : p 13) (h14 : p 14) (h15 : p 15) (h16 : p 16) (h17 : p 17) (h18 : p 18) (h19 : p 19) (h20 : p 20) : ∀ i, i < 21 → p i := fun i hi => by
  rcases Nat.lt_succ_iff_lt_or_eq.1 hi with h | h
  · exact lt20 h0 h1 h2 h3 h4 h5 h6 h7 h8 h9 h10 h11 h12 h13 h14 h15 h16 h17 h18 h19 i h
  · subst h; exact h20
theorem lt22 {p : Nat → Prop} (h0 : p 0) (h1 : p 1) (h2 : p 2) (h3 : p 3) (h4 : p 4) (h5 : p 5) (h6 : p 6) (h7 : p 7) (h8 : p 8) (h9 : p 9) (h10 : p 10) (h11 : p 11) (h12 : p 12) (h13 : p 13) (h14 : p 14) (h15 : p 15) (h16 : p 16) (h17 : p 17) (h18 : p 18) (h19 : p 19) (h20 : p 20) (h21 : p 21) : ∀ i, i < 22 → p i := fun i hi => by
  rcases Nat.lt_succ_iff_lt_or_eq.1 hi with h | h
  · exact lt21 h0 h1 h2 h3 h4 h5 h6 h7 h8 h9 h10 h11 h12 h13 h14 h15 h16 h17 h18 h19 h20 i h
  · subst h; exact h21
theorem lt23 {p : Nat → Prop} (h0 : p 0) (h1 : p 1) (h2 : p 2) (h3 : p 3) (h4 : p 4) (h5 : p 5) (h6 : p 6) (h7 : p 7) (h8 : p 8) (h9 : p 9) (h10 : p 10) (h11 : p 11) (h12 : p 12) (h13 : p 13) (h14 : p 14) (h15 : p 15) (h16 : p 16) (h17 : p 17) (h18 : p 18) (h19 : p 19) (h20 : p 20) (h21 : p 21) (h22 : p 22) : ∀ i, i < 23 → p i := fun i hi => by
  rcases Nat.lt_succ_iff_lt_or_eq.1 hi with h | h
  · exact lt22 h0 h1 h2 h3 h4 h5 h6 h7 h8 h9 h10 h11 h12 h13 h14 h15 h16 h17 h18 h19 h20 h21 i h
  · subst h; exact h22
theorem lt24 {p : Nat → Prop} (h0 : p 0) (h1 : p 1) (h2 : p 2) (h3 : p 3) (h4 : p 4) (h5 : p 5) (h6 : p 6) (h7 : p 7) (h8 : p 8) (h9 : p 9) (h10 : p 10) (h11 : p 11) (h12 : p 12) (h13 : p 13) (h14 : p 14) (h15 : p 15) (h16 : p 16) (h17 : p 17) (h18 : p 18) (h19 : p 19) (h20 : p 20) (h21 : p 21) (h22 : p 22) (h23 : p 23) : ∀ i, i < 24 → p i := fun i hi => by
  rcases Nat.lt_succ_iff_lt_or_eq.1 hi with h | h
  · exact lt23 h0 h1 h2 h3 h4 h5 h6 h7 h8 h9 h10 h11 h12 h13 h14 h15 h16 h17 h18 h19 h20 h21 h22 i h
  · subst h; exact h23

section
variable {ops : Array Oper} {Q : Exit → Act → World → Prop} {A : Act} {i : Nat} {w : World} {K : Act → World → Prop}

/-- The operation hands back a value that is known; the world is not touched. -/
theorem do_val {v : Value} (hs : (ops[i]?).isSome = true) (hg : (opAt ops i).guard = none) (hr : (execOp A.eval (opAt ops i)).run Tryz.prog w = .ok (.value v) w) (hK : ∀ w', After w w' → K (A.put (dstOf ops i) v) w') : OpDo Tryz.prog ops Q A i w K :=
  op_val hs (by unfold Region.wanted; rw [hg]) hr (hK w (After.refl w))

theorem wanted_of {o : Oper} {y : Nat → Option Bool} (hg : o.guard = none) : Region.wanted o y = true := by unfold Region.wanted; rw [hg]

theorem do_load {x : Operand} {b k : Nat} {c0 c1 : Value} (y : Yd) (hs : (ops[i]?).isSome = true) (hop : (opAt ops i).op = .load 55 x) (hg : (opAt ops i).guard = none) (hx : A.eval x = .pointer (some ⟨b, k, none⟩))
    (h0 : w.cell? ⟨b, k, none⟩ = some c0) (h1 : w.cell? ⟨b, k + 1, none⟩ = some c1) (hy : y.holds (.agg #[c0, c1]) w) (hK : ∀ v w', After w w' → y.holds v w' → K (A.put (dstOf ops i) v) w') : OpDo Tryz.prog ops Q A i w K :=
  op_load hs hop hg hx h0 h1 (hK _ _ (After.refl _) hy)

theorem do_call {f : FuncId} {args : Array Value} (t : Tm) (hs : (ops[i]?).isSome = true) (hg : (opAt ops i).guard = none) (hr : (execOp A.eval (opAt ops i)).run Tryz.prog w = .ok (.enter f args) w) (hc : Calls Tryz.prog f args w (TreePost w t))
    (hK : ∀ v w', After w w' → (Yd.tree t).holds v w' → K (A.put (dstOf ops i) v) w') : OpDo Tryz.prog ops Q A i w K := by
  refine op_call hs (wanted_of hg) hr (hc.mono ?_)
  rintro e w' ⟨s, ao, n, c, rfl, ha, ht⟩
  exact ⟨_, rfl, hK _ _ ha ⟨s, ao, n, c, rfl, ht⟩⟩

theorem do_name {x : List UInt8} (hs : (ops[i]?).isSome = true) (hg : (opAt ops i).guard = none) (hr : (execOp A.eval (opAt ops i)).run Tryz.prog w = .ok (.enter 60 #[str x]) w)
    (hK : ∀ v w', After w w' → (Yd.tree (.nm x)).holds v w' → K (A.put (dstOf ops i) v) w') : OpDo Tryz.prog ops Q A i w K := by
  refine op_call hs (wanted_of hg) hr ((s_nm w x).mono ?_)
  rintro e w' ⟨rfl, ha⟩
  exact ⟨_, rfl, hK _ _ ha ⟨x, none, 0, 0, rfl, rfl⟩⟩

theorem do_app {u1 u2 : Value} {f : Tm} {us : List Tm} (hs : (ops[i]?).isSome = true) (hg : (opAt ops i).guard = none) (hr : (execOp A.eval (opAt ops i)).run Tryz.prog w = .ok (.enter 32 #[u1, u2]) w) (h1 : (Yd.tree f).holds u1 w) (h2 : (Yd.row us).holds u2 w) (hn : us.length ≤ 1000)
    (hK : ∀ v w', After w w' → (Yd.tree (FT.appL f us)).holds v w' → K (A.put (dstOf ops i) v) w') : OpDo Tryz.prog ops Q A i w K := by
  obtain ⟨s, ao, n, c, rfl, h⟩ := h1
  exact do_call _ hs hg hr (s_appL w f us s ao n c u2 h h2 hn) hK

theorem do_all {u1 u2 : Value} {xs : List (List UInt8)} {t : Tm} (hs : (ops[i]?).isSome = true) (hg : (opAt ops i).guard = none) (hr : (execOp A.eval (opAt ops i)).run Tryz.prog w = .ok (.enter 61 #[u1, u2]) w) (h1 : (Yd.names xs).holds u1 w) (h2 : (Yd.tree t).holds u2 w) (hn : xs.length ≤ 8) (hxs : ∀ x ∈ xs, Tm.nameOk x = true) (hgd : t.good = true) (hf : t.fits = true)
    (hK : ∀ v w', After w w' → (Yd.tree (lastL xs.reverse t)).holds v w' → K (A.put (dstOf ops i) v) w') : OpDo Tryz.prog ops Q A i w K := by
  obtain ⟨s, ao, n, c, rfl, h⟩ := h2
  obtain ⟨g, rfl, hh⟩ := h1
  refine do_call _ hs hg hr (s_all w g 0 xs.length xs t s ao n c h hgd hf hn hxs (fun j hj => ?_)) hK
  rw [Nat.zero_add, cell_of_heap hh]
  simp [hj]

theorem do_names {xs : List (List UInt8)} (hs : (ops[i]?).isSome = true) (hg : (opAt ops i).guard = none) (hr : (execOp A.eval (opAt ops i)).run Tryz.prog w = .ok (.value (.slice (some ⟨w.heap.size, 0, none⟩) xs.length xs.length)) (w.alloc (.cells (xs.map str).toArray 9)))
    (hK : ∀ v w', After w w' → (Yd.names xs).holds v w' → K (A.put (dstOf ops i) v) w') : OpDo Tryz.prog ops Q A i w K :=
  op_val hs (wanted_of hg) hr (hK _ _ (After.new w _) ⟨_, rfl, heap_new' w _⟩)

theorem do_cell {base : Nat} (hs : (ops[i]?).isSome = true) (hg : (opAt ops i).guard = none) (hb : base ≤ w.heap.size) (hr : (execOp A.eval (opAt ops i)).run Tryz.prog w = .ok (.value (.pointer (some ⟨w.heap.size, 0, none⟩))) (w.alloc (.cells #[.string ⟨#[]⟩, .slice none 0 0] 55)))
    (hK : ∀ v w', After w w' → (Yd.cell base).holds v w' → K (A.put (dstOf ops i) v) w') : OpDo Tryz.prog ops Q A i w K :=
  op_val hs (wanted_of hg) hr (hK _ _ (After.new w _) ⟨_, _, _, rfl, hb, heap_new' w _⟩)

theorem row1 (w : World) (s : List UInt8) (ao : Option Addr) (n c : Nat) : (Instr.buildSlice 53 1 #[(0, .agg #[str s, .slice ao n c])]).run Tryz.prog w = .ok (.slice (some ⟨w.heap.size, 0, none⟩) 1 1) (w.alloc (.cells #[str s, .slice ao n c] 55)) := by kernel_rfl
theorem row2 (w : World) (s : List UInt8) (ao : Option Addr) (n c : Nat) (s' : List UInt8) (ao' : Option Addr) (n' c' : Nat) : (Instr.buildSlice 53 2 #[(0, .agg #[str s, .slice ao n c]), (1, .agg #[str s', .slice ao' n' c'])]).run Tryz.prog w = .ok (.slice (some ⟨w.heap.size, 0, none⟩) 2 2) (w.alloc (.cells #[str s, .slice ao n c, str s', .slice ao' n' c'] 55)) := by kernel_rfl
theorem row3 (w : World) (s : List UInt8) (ao : Option Addr) (n c : Nat) (s' : List UInt8) (ao' : Option Addr) (n' c' : Nat) (s'' : List UInt8) (ao'' : Option Addr) (n'' c'' : Nat) : (Instr.buildSlice 53 3 #[(0, .agg #[str s, .slice ao n c]), (1, .agg #[str s', .slice ao' n' c']), (2, .agg #[str s'', .slice ao'' n'' c''])]).run Tryz.prog w = .ok (.slice (some ⟨w.heap.size, 0, none⟩) 3 3) (w.alloc (.cells #[str s, .slice ao n c, str s', .slice ao' n' c', str s'', .slice ao'' n'' c''] 55)) := by kernel_rfl

theorem do_row1 {x : Operand} {a : Tm} {u : Value} (hs : (ops[i]?).isSome = true) (hop : (opAt ops i).op = .buildSlice 53 1 #[(0, x)]) (hg : (opAt ops i).guard = none) (hx : A.eval x = u) (hu : (Yd.tree a).holds u w)
    (hK : ∀ v w', After w w' → (Yd.row [a]).holds v w' → K (A.put (dstOf ops i) v) w') : OpDo Tryz.prog ops Q A i w K := by
  obtain ⟨s, ao, n, c, rfl, h⟩ := hu
  have hA := After.new w (.cells #[str s, .slice ao n c] 55)
  have hh := heap_new' w (.cells #[str s, .slice ao n c] 55)
  refine op_val hs (wanted_of hg) (v := .slice (some ⟨w.heap.size, 0, none⟩) 1 1) (w' := w.alloc (.cells #[str s, .slice ao n c] 55)) ?_ (hK _ _ hA (Or.inr ⟨_, _, _, rfl, by simp, fun j hj => ?_⟩))
  · unfold execOp
    simp only [hop, List.map_toArray, List.map_cons, List.map_nil, hx, Sem.run_bind, row1, Result.andThen_ok, Sem.run_pure]
  · match j, hj with
    | 0, _ => exact ⟨s, ao, n, c, cell_of_heap (i := 0) hh, cell_of_heap (i := 1) hh, h.later hA⟩

theorem do_row2 {x y : Operand} {a b : Tm} {u v : Value} (hs : (ops[i]?).isSome = true) (hop : (opAt ops i).op = .buildSlice 53 2 #[(0, x), (1, y)]) (hg : (opAt ops i).guard = none) (hx : A.eval x = u) (hy : A.eval y = v) (hu : (Yd.tree a).holds u w) (hv : (Yd.tree b).holds v w)
    (hK : ∀ v w', After w w' → (Yd.row [a, b]).holds v w' → K (A.put (dstOf ops i) v) w') : OpDo Tryz.prog ops Q A i w K := by
  obtain ⟨s, ao, n, c, rfl, h⟩ := hu
  obtain ⟨s', ao', n', c', rfl, h'⟩ := hv
  have hA := After.new w (.cells #[str s, .slice ao n c, str s', .slice ao' n' c'] 55)
  have hh := heap_new' w (.cells #[str s, .slice ao n c, str s', .slice ao' n' c'] 55)
  refine op_val hs (wanted_of hg) (v := .slice (some ⟨w.heap.size, 0, none⟩) 2 2) (w' := w.alloc (.cells #[str s, .slice ao n c, str s', .slice ao' n' c'] 55)) ?_ (hK _ _ hA (Or.inr ⟨_, _, _, rfl, by simp, fun j hj => ?_⟩))
  · unfold execOp
    simp only [hop, List.map_toArray, List.map_cons, List.map_nil, hx, hy, Sem.run_bind, row2, Result.andThen_ok, Sem.run_pure]
  · match j, hj with
    | 0, _ => exact ⟨s, ao, n, c, cell_of_heap (i := 0) hh, cell_of_heap (i := 1) hh, h.later hA⟩
    | 1, _ => exact ⟨s', ao', n', c', cell_of_heap (i := 2) hh, cell_of_heap (i := 3) hh, h'.later hA⟩

theorem do_row3 {x y z : Operand} {a b d : Tm} {u v q : Value} (hs : (ops[i]?).isSome = true) (hop : (opAt ops i).op = .buildSlice 53 3 #[(0, x), (1, y), (2, z)]) (hg : (opAt ops i).guard = none) (hx : A.eval x = u) (hy : A.eval y = v) (hz : A.eval z = q) (hu : (Yd.tree a).holds u w) (hv : (Yd.tree b).holds v w) (hq : (Yd.tree d).holds q w)
    (hK : ∀ v w', After w w' → (Yd.row [a, b, d]).holds v w' → K (A.put (dstOf ops i) v) w') : OpDo Tryz.prog ops Q A i w K := by
  obtain ⟨s, ao, n, c, rfl, h⟩ := hu
  obtain ⟨s', ao', n', c', rfl, h'⟩ := hv
  obtain ⟨s2, ao2, n2, c2, rfl, h2⟩ := hq
  have hA := After.new w (.cells #[str s, .slice ao n c, str s', .slice ao' n' c', str s2, .slice ao2 n2 c2] 55)
  have hh := heap_new' w (.cells #[str s, .slice ao n c, str s', .slice ao' n' c', str s2, .slice ao2 n2 c2] 55)
  refine op_val hs (wanted_of hg) (v := .slice (some ⟨w.heap.size, 0, none⟩) 3 3) (w' := w.alloc (.cells #[str s, .slice ao n c, str s', .slice ao' n' c', str s2, .slice ao2 n2 c2] 55)) ?_ (hK _ _ hA (Or.inr ⟨_, _, _, rfl, by simp, fun j hj => ?_⟩))
  · unfold execOp
    simp only [hop, List.map_toArray, List.map_cons, List.map_nil, hx, hy, hz, Sem.run_bind, row3, Result.andThen_ok, Sem.run_pure]
  · match j, hj with
    | 0, _ => exact ⟨s, ao, n, c, cell_of_heap (i := 0) hh, cell_of_heap (i := 1) hh, h.later hA⟩
    | 1, _ => exact ⟨s', ao', n', c', cell_of_heap (i := 2) hh, cell_of_heap (i := 3) hh, h'.later hA⟩
    | 2, _ => exact ⟨s2, ao2, n2, c2, cell_of_heap (i := 4) hh, cell_of_heap (i := 5) hh, h2.later hA⟩

/-- A value that is there at once. -/
theorem do_pure {v : Value} (y : Yd) (hs : (ops[i]?).isSome = true) (hg : (opAt ops i).guard = none) (hr : (execOp A.eval (opAt ops i)).run Tryz.prog w = .ok (.value v) w) (hy : y.holds v w) (hK : ∀ v w', After w w' → y.holds v w' → K (A.put (dstOf ops i) v) w') : OpDo Tryz.prog ops Q A i w K :=
  op_val hs (wanted_of hg) hr (hK _ _ (After.refl w) hy)

/-- The last: a tree is stored into a cell. -/
theorem do_store {x y : Operand} {b : Nat} {p q v : Value} (t : Tm) (hs : (ops[i]?).isSome = true) (hop : (opAt ops i).op = .store 55 x y) (hg : (opAt ops i).guard = none) (hd : dstOf ops i = none) (hx : A.eval x = .pointer (some ⟨b, 0, none⟩)) (hv : A.eval y = v) (hy : (Yd.tree t).holds v w) (hb : w.heap[b]? = some (.cells #[p, q] 55 (0, 0)))
    (hK : ∀ s ao n c, ST ((w.setCell ⟨b, 0, none⟩ (str s)).setCell ⟨b, 1, none⟩ (.slice ao n c)) t (.agg #[str s, .slice ao n c]) → K A ((w.setCell ⟨b, 0, none⟩ (str s)).setCell ⟨b, 1, none⟩ (.slice ao n c))) : OpDo Tryz.prog ops Q A i w K := by
  obtain ⟨s, ao, n, c, rfl, h⟩ := hy
  have hth : w.there b 0 2 := fun j hj => by
    rw [Nat.zero_add]
    refine ⟨?_, by simp [World.frozen?, hb]⟩
    match j, hj with
    | 0, _ => rw [cell_of_heap (i := 0) hb]; rfl
    | 1, _ => rw [cell_of_heap (i := 1) hb]; rfl
  have hst : (Instr.storeAt 55 (.pointer (some ⟨b, 0, none⟩)) (.agg #[str s, .slice ao n c])).run Tryz.prog w = .ok () (w.setCells b 0 [str s, .slice ao n c]) := run_storeAt_mid w b 0 55 #[str s, .slice ao n c] hth (by kernel_rfl) (by kernel_rfl)
  constructor
  rw [opAt_of hs]
  simp only [wanted_of hg, if_true]
  unfold Oper.wp execOp
  simp only [hop, hx, hv, Sem.run_bind, hst, Result.andThen_ok, Sem.run_pure, Oper.upon_skip]
  rw [opAt_dst hs, hd]
  exact hK s ao n c (h.sets2 hb)

theorem do_store_at {x y : Operand} {b : Nat} {p q u v : Value} (t : Tm) (hs : (ops[i]?).isSome = true) (hop : (opAt ops i).op = .store 55 x y) (hg : (opAt ops i).guard = none) (hd : (dstOf ops i) = none) (hx : A.eval x = u) (hu : u = .pointer (some ⟨b, 0, none⟩)) (hv : A.eval y = v) (hy : (Yd.tree t).holds v w) (hb : w.heap[b]? = some (.cells #[p, q] 55 (0, 0)))
    (hK : ∀ s ao n c, ST ((w.setCell ⟨b, 0, none⟩ (str s)).setCell ⟨b, 1, none⟩ (.slice ao n c)) t (.agg #[str s, .slice ao n c]) → K A ((w.setCell ⟨b, 0, none⟩ (str s)).setCell ⟨b, 1, none⟩ (.slice ao n c))) : OpDo Tryz.prog ops Q A i w K :=
  do_store t hs hop hg hd (hx.trans hu) hv hy hb hK

theorem do_loadu {x : Operand} {b k : Nat} {u c0 c1 : Value} (y : Yd) (hs : (ops[i]?).isSome = true) (hop : (opAt ops i).op = .load 55 x) (hg : (opAt ops i).guard = none) (hx : A.eval x = u) (hu : u = .pointer (some ⟨b, k, none⟩))
    (h0 : w.cell? ⟨b, k, none⟩ = some c0) (h1 : w.cell? ⟨b, k + 1, none⟩ = some c1) (hy : y.holds (.agg #[c0, c1]) w) (hK : ∀ v w', After w w' → y.holds v w' → K (A.put (dstOf ops i) v) w') : OpDo Tryz.prog ops Q A i w K :=
  do_load y hs hop hg (hx.trans hu) h0 h1 hy hK

theorem run_load_slice {w : World} {p : Addr} {v : Value} (h : w.cell? p = some v) : (Instr.loadAt 53 (.pointer (some p))).run Tryz.prog w = .ok v w := by
  obtain ⟨d, hd, hr⟩ : ∃ d, Tryz.prog.underlying 53 = some d ∧ d.isRow = false := ⟨_, rfl, rfl⟩
  have hagg : (isAgg 53).run Tryz.prog w = .ok false w := by
    unfold isAgg
    rw [Sem.run_bind, run_underlying hd w]
    cases d <;> simp_all
  simp [Instr.loadAt, Instr.sureAddr, loadVar, Sem.run_bind, hagg, go_sem, h]

theorem do_load1 {x : Operand} {p : Addr} {u c : Value} (y : Yd) (hs : (ops[i]?).isSome = true) (hop : (opAt ops i).op = .load 53 x) (hg : (opAt ops i).guard = none) (hx : A.eval x = u) (hu : u = .pointer (some p))
    (h0 : w.cell? p = some c) (hy : y.holds c w) (hK : ∀ v w', After w w' → y.holds v w' → K (A.put (dstOf ops i) v) w') : OpDo Tryz.prog ops Q A i w K := by
  subst hu
  refine op_val hs (wanted_of hg) ?_ (hK _ _ (After.refl _) hy)
  unfold execOp
  simp only [hop, hx, Sem.run_bind, run_load_slice h0, Result.andThen_ok, Sem.run_pure]

theorem run_index0 (w : World) (g cap : Nat) : (Instr.indexAt 53 (.slice (some ⟨g, 0, none⟩) 2 cap) (.int .i64 0)).run Tryz.prog w = .ok (.pointer (some ⟨g, 0, none⟩)) w := by kernel_rfl
theorem run_index1 (w : World) (g cap : Nat) : (Instr.indexAt 53 (.slice (some ⟨g, 0, none⟩) 2 cap) (.int .i64 1)).run Tryz.prog w = .ok (.pointer (some ⟨g, 2, none⟩)) w := by kernel_rfl

theorem do_index0 {x : Operand} {g cap : Nat} {u : Value} (hs : (ops[i]?).isSome = true) (hop : (opAt ops i).op = .indexAddr 53 x (.const (.int .i64 0))) (hg : (opAt ops i).guard = none) (hx : A.eval x = u) (hu : u = .slice (some ⟨g, 0, none⟩) 2 cap)
    (hK : ∀ v w', After w w' → (Yd.lit (.pointer (some ⟨g, 0, none⟩))).holds v w' → K (A.put (dstOf ops i) v) w') : OpDo Tryz.prog ops Q A i w K := by
  subst hu
  refine op_val hs (wanted_of hg) ?_ (hK _ _ (After.refl _) rfl)
  unfold execOp
  simp only [hop, hx, show A.eval (.const (.int .i64 0)) = .int .i64 0 from rfl, Sem.run_bind, run_index0, Result.andThen_ok, Sem.run_pure]
theorem do_index1 {x : Operand} {g cap : Nat} {u : Value} (hs : (ops[i]?).isSome = true) (hop : (opAt ops i).op = .indexAddr 53 x (.const (.int .i64 1))) (hg : (opAt ops i).guard = none) (hx : A.eval x = u) (hu : u = .slice (some ⟨g, 0, none⟩) 2 cap)
    (hK : ∀ v w', After w w' → (Yd.lit (.pointer (some ⟨g, 2, none⟩))).holds v w' → K (A.put (dstOf ops i) v) w') : OpDo Tryz.prog ops Q A i w K := by
  subst hu
  refine op_val hs (wanted_of hg) ?_ (hK _ _ (After.refl _) rfl)
  unfold execOp
  simp only [hop, hx, show A.eval (.const (.int .i64 1)) = .int .i64 1 from rfl, Sem.run_bind, run_index1, Result.andThen_ok, Sem.run_pure]

theorem treeOf {t : Tm} {v : Value} (h : ST w t v) : (Yd.tree t).holds v w := by
  cases t with
  | k => exact ⟨_, _, _, _, h, h⟩
  | s => exact ⟨_, _, _, _, h, h⟩
  | nm n => exact ⟨_, _, _, _, h, h⟩
  | app f a =>
    obtain ⟨g, cap, fr, s0, p0, s1, p1, rfl, hh⟩ := id h
    exact ⟨_, _, _, _, rfl, h⟩
theorem stOf {t : Tm} {v : Value} (h : (Yd.tree t).holds v w) : ST w t v := let ⟨_, _, _, _, _, h⟩ := h; h

theorem rawOf {t : Tm} {v : Value} (h : (Yd.tree t).holds v w) : Yd.raw.holds v w := let ⟨s, ao, n, c, e, _⟩ := h; ⟨s, ao, n, c, e⟩

theorem do_calllit {f : FuncId} {args : Array Value} {v : Value} (hs : (ops[i]?).isSome = true) (hg : (opAt ops i).guard = none) (hr : (execOp A.eval (opAt ops i)).run Tryz.prog w = .ok (.enter f args) w) (hc : Calls Tryz.prog f args w fun e w' => e = .returned v ∧ After w w')
    (hK : ∀ v' w', After w w' → (Yd.lit v).holds v' w' → K (A.put (dstOf ops i) v') w') : OpDo Tryz.prog ops Q A i w K := by
  refine op_call hs (wanted_of hg) hr (hc.mono ?_)
  rintro e w' ⟨rfl, ha⟩
  exact ⟨_, rfl, hK _ _ ha rfl⟩

theorem do_extract0 {x : Operand} {u a b : Value} (hs : (ops[i]?).isSome = true) (hop : (opAt ops i).op = .extract x 0) (hg : (opAt ops i).guard = none) (hx : A.eval x = u) (hu : u = .tuple #[a, b])
    (hK : ∀ v w', After w w' → (Yd.lit a).holds v w' → K (A.put (dstOf ops i) v) w') : OpDo Tryz.prog ops Q A i w K := by
  subst hu
  refine op_val hs (wanted_of hg) (v := a) ?_ (hK _ _ (After.refl _) rfl)
  unfold execOp
  simp only [hop, hx]
  kernel_rfl
theorem do_extract1 {x : Operand} {u a b : Value} (hs : (ops[i]?).isSome = true) (hop : (opAt ops i).op = .extract x 1) (hg : (opAt ops i).guard = none) (hx : A.eval x = u) (hu : u = .tuple #[a, b])
    (hK : ∀ v w', After w w' → (Yd.lit b).holds v w' → K (A.put (dstOf ops i) v) w') : OpDo Tryz.prog ops Q A i w K := by
  subst hu
  refine op_val hs (wanted_of hg) (v := b) ?_ (hK _ _ (After.refl _) rfl)
  unfold execOp
  simp only [hop, hx]
  kernel_rfl

theorem do_pick {c x y : Operand} {u : Value} {p : Bool} {r : Value} (hs : (ops[i]?).isSome = true) (hop : (opAt ops i).op = .pick c x y) (hg : (opAt ops i).guard = none) (hc : A.eval c = u) (hu : u = .bool p) (hr : (if p = true then A.eval x else A.eval y) = r)
    (hK : ∀ v w', After w w' → (Yd.lit r).holds v w' → K (A.put (dstOf ops i) v) w') : OpDo Tryz.prog ops Q A i w K := by
  subst hu
  refine op_val hs (wanted_of hg) (v := r) ?_ (hK _ _ (After.refl _) rfl)
  unfold execOp
  simp only [hop, hc]
  subst hr
  cases p <;> kernel_rfl

/-- What an operation has yielded, as guards see it. -/
theorem yielded_at {j : Nat} {v : Value} {b : Bool} (hj : ((ops[j]?).bind (·.dst)).bind (A.tmps[·]?) = some v) (hv : v = .bool b) : yielded ops A.tmps j = some b := by
  subst hv
  unfold yielded
  rw [hj]

theorem do_on {j : Nat} {u v : Value} {b : Bool} (y : Yd) (hs : (ops[i]?).isSome = true) (hg : (opAt ops i).guard = some (j, b)) (hj : ((ops[j]?).bind (·.dst)).bind (A.tmps[·]?) = some u) (hu : u = .bool b) (hr : (execOp A.eval (opAt ops i)).run Tryz.prog w = .ok (.value v) w) (hy : y.holds v w)
    (hK : ∀ v w', After w w' → y.holds v w' → K (A.put (dstOf ops i) v) w') : OpDo Tryz.prog ops Q A i w K :=
  op_val hs (by unfold Region.wanted; rw [hg]; simp [yielded_at hj hu]) hr (hK _ _ (After.refl w) hy)

theorem do_offg {j : Nat} {u : Value} {b c : Bool} (hs : (ops[i]?).isSome = true) (hg : (opAt ops i).guard = some (j, b)) (hj : ((ops[j]?).bind (·.dst)).bind (A.tmps[·]?) = some u) (hu : u = .bool c) (hne : c ≠ b)
    (hK : ∀ v w', After w w' → Yd.free.holds v w' → K (A.put (dstOf ops i) v) w') : OpDo Tryz.prog ops Q A i w K :=
  op_off hs (by unfold Region.wanted; rw [hg]; simp [yielded_at hj hu, hne]) (hK _ _ (After.refl w) trivial)

theorem do_rraw1 {x : Operand} {u : Value} (hs : (ops[i]?).isSome = true) (hop : (opAt ops i).op = .buildSlice 53 1 #[(0, x)]) (hg : (opAt ops i).guard = none) (hx : A.eval x = u) (hu : Yd.raw.holds u w)
    (hK : ∀ v w', After w w' → (Yd.rraw 1).holds v w' → K (A.put (dstOf ops i) v) w') : OpDo Tryz.prog ops Q A i w K := by
  obtain ⟨s, ao, n, c, rfl⟩ := hu
  have hA := After.new w (.cells #[str s, .slice ao n c] 55)
  have hh := heap_new' w (.cells #[str s, .slice ao n c] 55)
  refine op_val hs (wanted_of hg) (v := .slice (some ⟨w.heap.size, 0, none⟩) 1 1) (w' := w.alloc (.cells #[str s, .slice ao n c] 55)) ?_ (hK _ _ hA ⟨_, _, _, rfl, by simp, fun j hj => ?_⟩)
  · unfold execOp
    simp only [hop, List.map_toArray, List.map_cons, List.map_nil, hx, Sem.run_bind, row1, Result.andThen_ok, Sem.run_pure]
  · match j, hj with
    | 0, _ => exact ⟨s, ao, n, c, cell_of_heap (i := 0) hh, cell_of_heap (i := 1) hh⟩

theorem do_rraw2 {x y : Operand} {u v : Value} (hs : (ops[i]?).isSome = true) (hop : (opAt ops i).op = .buildSlice 53 2 #[(0, x), (1, y)]) (hg : (opAt ops i).guard = none) (hx : A.eval x = u) (hy : A.eval y = v) (hu : Yd.raw.holds u w) (hv : Yd.raw.holds v w)
    (hK : ∀ v w', After w w' → (Yd.rraw 2).holds v w' → K (A.put (dstOf ops i) v) w') : OpDo Tryz.prog ops Q A i w K := by
  obtain ⟨s, ao, n, c, rfl⟩ := hu
  obtain ⟨s', ao', n', c', rfl⟩ := hv
  have hA := After.new w (.cells #[str s, .slice ao n c, str s', .slice ao' n' c'] 55)
  have hh := heap_new' w (.cells #[str s, .slice ao n c, str s', .slice ao' n' c'] 55)
  refine op_val hs (wanted_of hg) (v := .slice (some ⟨w.heap.size, 0, none⟩) 2 2) (w' := w.alloc (.cells #[str s, .slice ao n c, str s', .slice ao' n' c'] 55)) ?_ (hK _ _ hA ⟨_, _, _, rfl, by simp, fun j hj => ?_⟩)
  · unfold execOp
    simp only [hop, List.map_toArray, List.map_cons, List.map_nil, hx, hy, Sem.run_bind, row2, Result.andThen_ok, Sem.run_pure]
  · match j, hj with
    | 0, _ => exact ⟨s, ao, n, c, cell_of_heap (i := 0) hh, cell_of_heap (i := 1) hh⟩
    | 1, _ => exact ⟨s', ao', n', c', cell_of_heap (i := 2) hh, cell_of_heap (i := 3) hh⟩

theorem do_appraw {u1 u2 : Value} {n : Nat} (hs : (ops[i]?).isSome = true) (hg : (opAt ops i).guard = none) (hr : (execOp A.eval (opAt ops i)).run Tryz.prog w = .ok (.enter 32 #[u1, u2]) w) (h1 : Yd.raw.holds u1 w) (h2 : (Yd.rraw n).holds u2 w) (hn : n ≤ 1000)
    (hK : ∀ v w', After w w' → Yd.raw.holds v w' → K (A.put (dstOf ops i) v) w') : OpDo Tryz.prog ops Q A i w K := by
  obtain ⟨s, ao, m, c, rfl⟩ := h1
  refine op_call hs (wanted_of hg) hr ((s_appR w s ao m c n u2 h2 hn).mono ?_)
  rintro e w' ⟨s1, a1, n1, c1, rfl, ha⟩
  exact ⟨_, rfl, hK _ _ ha ⟨_, _, _, _, rfl⟩⟩

/-- The last: what looks like a tree is stored into a cell. -/
theorem do_store_raw {x y : Operand} {b : Nat} {p q u v : Value} (hs : (ops[i]?).isSome = true) (hop : (opAt ops i).op = .store 55 x y) (hg : (opAt ops i).guard = none) (hd : (dstOf ops i) = none) (hx : A.eval x = u) (hu : u = .pointer (some ⟨b, 0, none⟩)) (hv : A.eval y = v) (hy : Yd.raw.holds v w) (hb : w.heap[b]? = some (.cells #[p, q] 55 (0, 0)))
    (hK : ∀ s ao n c, v = .agg #[str s, .slice ao n c] → K A ((w.setCell ⟨b, 0, none⟩ (str s)).setCell ⟨b, 1, none⟩ (.slice ao n c))) : OpDo Tryz.prog ops Q A i w K := by
  obtain ⟨s, ao, n, c, rfl⟩ := hy
  have hth : w.there b 0 2 := fun j hj => by
    rw [Nat.zero_add]
    refine ⟨?_, by simp [World.frozen?, hb]⟩
    match j, hj with
    | 0, _ => rw [cell_of_heap (i := 0) hb]; rfl
    | 1, _ => rw [cell_of_heap (i := 1) hb]; rfl
  have hst : (Instr.storeAt 55 (.pointer (some ⟨b, 0, none⟩)) (.agg #[str s, .slice ao n c])).run Tryz.prog w = .ok () (w.setCells b 0 [str s, .slice ao n c]) := run_storeAt_mid w b 0 55 #[str s, .slice ao n c] hth (by kernel_rfl) (by kernel_rfl)
  constructor
  rw [opAt_of hs]
  simp only [wanted_of hg, if_true]
  unfold Oper.wp execOp
  simp only [hop, hx.trans hu, hv, Sem.run_bind, hst, Result.andThen_ok, Sem.run_pure, Oper.upon_skip]
  rw [opAt_dst hs, hd]
  exact hK s ao n c rfl
end
end Go.Proofs.YtfjohagdlaiapaaGreat
