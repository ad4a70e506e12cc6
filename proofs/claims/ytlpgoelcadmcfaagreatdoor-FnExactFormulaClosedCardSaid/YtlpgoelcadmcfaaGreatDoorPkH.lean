/-
  A region that draws its order, by one obligation an operation: what each operation yields stays true behind the others. Program-independent.
-/
import Derived.Test.YtlpgoelcadmcfaaGreatDoorPkG
import Derived.RegionTactic
import Derived.Test.YtlpgoelcadmcfaaGreatDoorPkC
import Derived.Maps.AppendAt
import Derived.Test.YtlpgoelcadmcfaaGreatDoorPkD
import Derived.Deep.MidRow
import Derived.Test.YtlpgoelcadmcfaaGreatDoorPkB
import Derived.Test.YtlpgoelcadmcfaaGreatDoorPkE
namespace Go.Proofs.YtlpgoelcadmcfaaGreatDoor
open Go

section
variable {P : Program} {ops : Array Oper} {Q : Exit → Act → World → Prop} {md : Region.Mode}

/-- How many are not listed. -/
def openN (listed : Array Bool) : Nat := listed.toList.countP fun b => !b

theorem openN_set {listed : Array Bool} {i : Nat} (h : listed.getD i true = false) : openN (listed.setIfInBounds i true) + 1 = openN listed := by
  obtain ⟨l⟩ := listed
  have hi : i < l.length := by
    by_cases hi : i < l.length
    · exact hi
    · simp [Array.getD, hi] at h
  have hf : l[i] = false := by simpa [Array.getD, hi] using h
  show (((⟨l⟩ : Array Bool).setIfInBounds i true).toList.countP fun b => !b) + 1 = l.countP fun b => !b
  have e : ((⟨l⟩ : Array Bool).setIfInBounds i true).toList = l.set i true := by simp
  rw [e]
  clear e h
  induction l generalizing i with
  | nil => simp at hi
  | cons b l ih =>
    cases i with
    | zero =>
      simp only [List.getElem_cons_zero] at hf
      subst hf
      simp
    | succ i =>
      simp only [List.set_cons_succ, List.countP_cons]
      have := ih (i := i) (by simpa using hi) (by simpa using hf)
      omega

theorem ready_open {listed : Array Bool} {i : Nat} (h : i ∈ Region.ready md ops listed) : i < ops.size ∧ listed.getD i true = false ∧ ∃ o, ops[i]? = some o ∧ ∀ e ∈ o.after, Region.binds md e = true → listed.getD e.on false = true := by
  simp only [Region.ready, List.mem_filter, List.mem_range, Bool.and_eq_true, Bool.not_eq_true'] at h
  obtain ⟨h1, h2, h3⟩ := h
  refine ⟨h1, h2, ?_⟩
  cases ho : ops[i]? with
  | none => rw [ho] at h3; simp at h3
  | some o =>
    rw [ho] at h3
    simp only [Option.map_some, Option.getD_some, Array.all_eq_true_iff_forall_mem, Bool.or_eq_true, Bool.not_eq_true'] at h3
    refine ⟨o, rfl, fun e he hb => ?_⟩
    rcases h3 e he with h | h
    · rw [hb] at h; cases h
    · exact h

theorem wpAny_inv (I : Array Bool → Act → World → Prop)
    (hend : ∀ listed a w, I listed a w → Region.ready md ops listed = [] → Q .normal a w)
    (hstep : ∀ listed a w i, I listed a w → i ∈ Region.ready md ops listed → wpOp P ops Q i (fun a' w' => I (listed.setIfInBounds i true) a' w') a w) :
    ∀ (fuel : Nat) (listed : Array Bool) (a : Act) (w : World), openN listed ≤ fuel → I listed a w → wpAny P md ops Q fuel listed a w
  | 0, listed, a, w, hn, hI => by
    have hr : Region.ready md ops listed = [] := by
      cases hc : Region.ready md ops listed with
      | nil => rfl
      | cons i l =>
        have := openN_set (ready_open (md := md) (ops := ops) (listed := listed) (i := i) (by rw [hc]; simp)).2.1
        omega
    exact ⟨hr, hend _ _ _ hI hr⟩
  | fuel + 1, listed, a, w, hn, hI => by
    refine ⟨fun hr => hend _ _ _ hI hr, fun i hi => ?_⟩
    have hs := openN_set (ready_open hi).2.1
    exact wpOp_mono (fun a' w' h' => wpAny_inv I hend hstep fuel _ a' w' (by omega) h') (hstep listed a w i hI hi)

/-- The values of a region's operations, put into the frame in which it began. -/
def putAll (a : Act) (dst : Nat → Option Tmp) (vs : Nat → Value) : Nat → Act
  | 0 => a
  | n + 1 => (putAll a dst vs n).put (dst n) (vs n)

theorem put_comm' (a : Act) (d e : Option Tmp) (v u : Value) (h : d ≠ e ∨ d = none) : (a.put d v).put e u = (a.put e u).put d v := by
  cases d with
  | none => rfl
  | some d =>
    cases e with
    | none => rfl
    | some e =>
      have hne : d ≠ e := by
        rcases h with h | h
        · exact fun e' => h (by rw [e'])
        · cases h
      simp [Act.put, Array.setIfInBounds_comm _ _ hne]

theorem put_put' (a : Act) (d : Option Tmp) (v u : Value) : (a.put d v).put d u = a.put d u := by
  cases d with
  | none => rfl
  | some d => simp [Act.put]

theorem putAll_same (a : Act) (dst : Nat → Option Tmp) {vs us : Nat → Value} : ∀ n, (∀ j, j < n → vs j = us j) → putAll a dst vs n = putAll a dst us n
  | 0, _ => rfl
  | n + 1, h => by simp only [putAll]; rw [putAll_same a dst n (fun j hj => h j (by omega)), h n (by omega)]

theorem putAll_upd (a : Act) (dst : Nat → Option Tmp) (vs : Nat → Value) (i : Nat) (v : Value) : ∀ n, i < n → (∀ j, j < n → j ≠ i → dst j ≠ dst i ∨ dst j = none) → putAll a dst (fun j => if j = i then v else vs j) n = (putAll a dst vs n).put (dst i) v
  | 0, h, _ => by omega
  | n + 1, h, hd => by
    by_cases hn : i = n
    · subst hn
      simp only [putAll, if_true]
      rw [putAll_same a dst (us := vs) i (fun j hj => by simp [show j ≠ i by omega]), put_put']
    · simp only [putAll]
      rw [putAll_upd a dst vs i v n (by omega) (fun j hj => hd j (by omega)), if_neg (fun e => hn e.symm)]
      exact (put_comm' _ _ _ _ _ (hd n (by omega) (fun e => hn e.symm))).symm

theorem wp_region_mono {id : Nat} {a0 : Act} {w0 : World} (hm : P.follows .mixedOrders = true)
    (S : World → Prop) (Ext : World → World → Prop) (hrefl : ∀ w, Ext w w) (htrans : ∀ a b c, Ext a b → Ext b c → Ext a c)
    (R : Nat → Value → World → Prop) (hR : ∀ i v w w', S w → R i v w → Ext w w' → R i v w')
    (dst : Nat → Option Tmp) (_hdst : ∀ i o, ops[i]? = some o → o.dst = dst i) (hdd : ∀ i j, i < ops.size → j < ops.size → j ≠ i → dst j ≠ dst i ∨ dst j = none)
    (hback : ∀ (i : Nat) (o : Oper), ops[i]? = some o → ∀ e : Edge, e ∈ o.after → e.on < i) (init : Nat → Value) (hinit : putAll a0 dst init ops.size = a0) (hS : S w0.drew)
    (hstep : ∀ i o, ops[i]? = some o → ∀ (vs : Nat → Value) (w : World), S w → Ext w0.drew w → (∀ j, (o.after.any fun e => Region.binds .any e && e.on == j) = true → R j (vs j) w) →
      ∀ K : Act → World → Prop, (∀ v w', S w' → Ext w w' → R i v w' → K ((putAll a0 dst vs ops.size).put (dst i) v) w') →
        if Region.wanted o (yielded ops (putAll a0 dst vs ops.size).tmps) = true then Oper.wp P o (putAll a0 dst vs ops.size) w K Q else K ((putAll a0 dst vs ops.size).put o.dst undef) w)
    (hend : ∀ (vs : Nat → Value) (w : World), S w → Ext w0.drew w → (∀ i, i < ops.size → R i (vs i) w) → Q .normal (putAll a0 dst vs ops.size) w) : (Code.region id ops true).wp P Q a0 w0 := by
  refine wp_region_any hm ?_
  refine wpAny_inv (fun listed a w => listed.size = ops.size ∧ ∃ vs, a = putAll a0 dst vs ops.size ∧ S w ∧ Ext w0.drew w ∧ ∀ j, listed.getD j false = true → R j (vs j) w) ?_ ?_ ops.size _ _ _ ?_ ⟨by simp, init, hinit.symm, hS, hrefl _, fun j hj => ?_⟩
  · rintro listed a w ⟨hsz, vs, rfl, hs, he, hj⟩ hr
    refine hend vs w hs he (fun i hi => hj i ?_)
    have hall : ∀ n i, i < n → i < ops.size → listed.getD i false = true := by
      intro n
      induction n with
      | zero => intro i h; omega
      | succ n ih =>
        intro i hin hi
        by_cases hl : listed.getD i true = false
        · exfalso
          have hmem : i ∈ Region.ready .any ops listed := by
            simp only [Region.ready, List.mem_filter, List.mem_range, Bool.and_eq_true, Bool.not_eq_true']
            refine ⟨hi, hl, ?_⟩
            have ho : ops[i]? = some ops[i] := Array.getElem?_eq_getElem hi
            rw [ho]
            simp only [Option.map_some, Option.getD_some, Array.all_eq_true_iff_forall_mem, Bool.or_eq_true, Bool.not_eq_true']
            intro e hm'
            right
            have := hback i _ ho e hm'
            exact ih e.on (by omega) (by omega)
          rw [hr] at hmem
          cases hmem
        · have hlt : i < listed.size := by omega
          simp only [Array.getD, hlt, dif_pos] at hl ⊢
          simpa using hl
    exact hall (i + 1) i (by omega) hi
  · rintro listed a w i ⟨hsz, vs, rfl, hs, he, hj⟩ hi
    obtain ⟨hlt, hun, o, ho, hdeps⟩ := ready_open hi
    refine wpOp_step ho (fun K' hK => hstep i o ho vs w hs he (fun j hjd => ?_) K' (fun v w' hs' he' hr' => hK _ _ ⟨by simpa using hsz, fun j => if j = i then v else vs j, ?_, hs', htrans _ _ _ he he', fun j hjl => ?_⟩))
    · rw [Array.any_eq_true] at hjd
      obtain ⟨k, hk, hb⟩ := hjd
      simp only [Bool.and_eq_true, beq_iff_eq] at hb
      exact hj j (by rw [← hb.2]; exact hdeps _ (Array.getElem_mem hk) hb.1)
    · exact (putAll_upd a0 dst vs i v ops.size hlt (fun j hj' hne => hdd i j hlt hj' hne)).symm
    · by_cases hji : j = i
      · subst hji; simpa using hr'
      · simp only [hji, if_false]
        refine hR j _ w w' hs (hj j ?_) he'
        have e : (listed.setIfInBounds i true).getD j false = listed.getD j false := by
          simp only [Array.getD_eq_getD_getElem?, Array.getElem?_setIfInBounds]
          rw [if_neg (fun e => hji e.symm)]
        rw [← e]
        exact hjl
  · have := List.countP_le_length (p := fun b : Bool => !b) (l := (Array.replicate ops.size false).toList)
    unfold openN
    simpa using this
  · simp [Array.getD] at hj

theorem all_listed {listed : Array Bool} (hsz : listed.size = ops.size) (hback : ∀ (i : Nat) (o : Oper), ops[i]? = some o → ∀ e : Edge, e ∈ o.after → e.on < i) (hr : Region.ready .any ops listed = []) : ∀ i, i < ops.size → listed.getD i false = true := by
  have hall : ∀ n i, i < n → i < ops.size → listed.getD i false = true := by
    intro n
    induction n with
    | zero => intro i h; omega
    | succ n ih =>
      intro i hin hi
      by_cases hl : listed.getD i true = false
      · exfalso
        have hmem : i ∈ Region.ready .any ops listed := by
          simp only [Region.ready, List.mem_filter, List.mem_range, Bool.and_eq_true, Bool.not_eq_true']
          refine ⟨hi, hl, ?_⟩
          have ho : ops[i]? = some ops[i] := Array.getElem?_eq_getElem hi
          rw [ho]
          simp only [Option.map_some, Option.getD_some, Array.all_eq_true_iff_forall_mem, Bool.or_eq_true, Bool.not_eq_true']
          intro e hm'
          right
          have := hback i _ ho e hm'
          exact ih e.on (by omega) (by omega)
        rw [hr] at hmem
        cases hmem
      · have hlt : i < listed.size := by omega
        simp only [Array.getD, hlt, dif_pos] at hl ⊢
        simpa using hl
  exact fun i hi => hall (i + 1) i (by omega) hi

/-- The same, the last operation (a store) by itself: it comes when all others have come. -/
theorem wp_region_mono1 {id n : Nat} {a0 : Act} {w0 : World} (hm : P.follows .mixedOrders = true) (hn : ops.size = n + 1)
    (Ext : World → World → Prop) (hrefl : ∀ w, Ext w w) (htrans : ∀ a b c, Ext a b → Ext b c → Ext a c)
    (R : Nat → Value → World → Prop) (hR : ∀ i v w w', Ext w0.drew w → R i v w → Ext w w' → R i v w')
    (dst : Nat → Option Tmp) (hdd : ∀ i j, i < n → j < ops.size → j ≠ i → dst j ≠ dst i ∨ dst j = none)
    (hback : ∀ (i : Nat) (o : Oper), ops[i]? = some o → ∀ e : Edge, e ∈ o.after → e.on < i)
    (hall : ∀ o, ops[n]? = some o → ∀ j, j < n → (o.after.any fun e => Region.binds .any e && e.on == j) = true) (init : Nat → Value) (hinit : putAll a0 dst init ops.size = a0)
    (hstep : ∀ i o, i < n → ops[i]? = some o → ∀ (vs : Nat → Value) (w : World), Ext w0.drew w → (∀ j, (o.after.any fun e => Region.binds .any e && e.on == j) = true → R j (vs j) w) →
      ∀ K : Act → World → Prop, (∀ v w', Ext w w' → R i v w' → K ((putAll a0 dst vs ops.size).put (dst i) v) w') →
        if Region.wanted o (yielded ops (putAll a0 dst vs ops.size).tmps) = true then Oper.wp P o (putAll a0 dst vs ops.size) w K Q else K ((putAll a0 dst vs ops.size).put o.dst undef) w)
    (hlast : ∀ o, ops[n]? = some o → ∀ (vs : Nat → Value) (w : World), Ext w0.drew w → (∀ i, i < n → R i (vs i) w) → ∀ K : Act → World → Prop, (∀ a w, Q .normal a w → K a w) →
        if Region.wanted o (yielded ops (putAll a0 dst vs ops.size).tmps) = true then Oper.wp P o (putAll a0 dst vs ops.size) w K Q else K ((putAll a0 dst vs ops.size).put o.dst undef) w) : (Code.region id ops true).wp P Q a0 w0 := by
  refine wp_region_any hm ?_
  refine wpAny_inv (fun listed a w => listed.size = ops.size ∧ (((∀ j, j < ops.size → listed.getD j false = true) ∧ Q .normal a w) ∨ ∃ vs, a = putAll a0 dst vs ops.size ∧ Ext w0.drew w ∧ listed.getD n false = false ∧ ∀ j, listed.getD j false = true → R j (vs j) w)) ?_ ?_ ops.size _ _ _ ?_ ⟨by simp, Or.inr ⟨init, hinit.symm, hrefl _, ?_, fun j hj => ?_⟩⟩
  · rintro listed a w ⟨hsz, ⟨_, hq⟩ | ⟨vs, rfl, he, hl, hj⟩⟩ hr
    · exact hq
    · have := all_listed hsz hback hr n (by omega)
      rw [hl] at this
      cases this
  · rintro listed a w i ⟨hsz, ⟨hl, hq⟩ | ⟨vs, rfl, he, hl, hj⟩⟩ hi
    · -- behind the last nothing comes
      exfalso
      obtain ⟨hlt, hun, o, ho, hdeps⟩ := ready_open hi
      have := hl i hlt
      have hls : i < listed.size := by omega
      simp only [Array.getD, hls, dif_pos] at hun this
      rw [hun] at this
      cases this
    · obtain ⟨hlt, hun, o, ho, hdeps⟩ := ready_open hi
      by_cases hin : i = n
      · subst hin
        have hdone : ∀ j, j < i → listed.getD j false = true := fun j hjn => by
          have := hall o ho j hjn
          rw [Array.any_eq_true] at this
          obtain ⟨k, hk, hb⟩ := this
          simp only [Bool.and_eq_true, beq_iff_eq] at hb
          rw [← hb.2]
          exact hdeps _ (Array.getElem_mem hk) hb.1
        refine wpOp_step ho (fun K' hK => hlast o ho vs w he (fun j hjn => hj j (hdone j hjn)) K' (fun a w' hq => hK _ _ ⟨by simpa using hsz, Or.inl ⟨fun j hjs => ?_, hq⟩⟩))
        by_cases hji : j = i
        · subst hji
          simp [Array.getD_eq_getD_getElem?, show j < listed.size by omega]
        · have e : (listed.setIfInBounds i true).getD j false = listed.getD j false := by
            simp only [Array.getD_eq_getD_getElem?, Array.getElem?_setIfInBounds]
            rw [if_neg (fun e => hji e.symm)]
          rw [e]
          exact hdone j (by omega)
      · refine wpOp_step ho (fun K' hK => hstep i o (by omega) ho vs w he (fun j hjd => ?_) K' (fun v w' he' hr' => hK _ _ ⟨by simpa using hsz, Or.inr ⟨fun j => if j = i then v else vs j, ?_, htrans _ _ _ he he', ?_, fun j hjl => ?_⟩⟩))
        · rw [Array.any_eq_true] at hjd
          obtain ⟨k, hk, hb⟩ := hjd
          simp only [Bool.and_eq_true, beq_iff_eq] at hb
          exact hj j (by rw [← hb.2]; exact hdeps _ (Array.getElem_mem hk) hb.1)
        · exact (putAll_upd a0 dst vs i v ops.size hlt (fun j hj' hne => hdd i j (by omega) hj' hne)).symm
        · simp only [Array.getD_eq_getD_getElem?, Array.getElem?_setIfInBounds] at hl ⊢
          rw [if_neg hin]
          exact hl
        · by_cases hji : j = i
          · subst hji; simpa using hr'
          · simp only [hji, if_false]
            refine hR j _ w w' he (hj j ?_) he'
            have e : (listed.setIfInBounds i true).getD j false = listed.getD j false := by
              simp only [Array.getD_eq_getD_getElem?, Array.getElem?_setIfInBounds]
              rw [if_neg (fun e => hji e.symm)]
            rw [← e]
            exact hjl
  · have := List.countP_le_length (p := fun b : Bool => !b) (l := (Array.replicate ops.size false).toList)
    unfold openN
    simpa using this
  · rw [Array.getD_eq_getD_getElem?, Array.getElem?_replicate]; split <;> rfl
  · simp [Array.getD] at hj
end
end Go.Proofs.YtlpgoelcadmcfaaGreatDoor

namespace Go.Proofs.YtlpgoelcadmcfaaGreatDoor
open Go

set_option maxRecDepth 100000

section
variable {P : Program} {ops : Array Oper} {Q : Exit → Act → World → Prop}

def dstOf (ops : Array Oper) (i : Nat) : Option Tmp := (ops[i]?).bind (·.dst)
def depsOn (ops : Array Oper) (i j : Nat) : Bool := match ops[i]? with
  | some o => o.after.any fun e => Region.binds .any e && e.on == j
  | none => false
/-- What of a region is seen by reckoning: no slot twice, nothing waits for a later one. -/
def regOk (ops : Array Oper) (n : Nat) : Bool :=
  (List.range n).all (fun i => (List.range ops.size).all fun j => j == i || (dstOf ops j).isNone || !((dstOf ops j) == (dstOf ops i))) &&
  (List.range ops.size).all (fun i => match ops[i]? with | none => true | some o => o.after.all fun e => decide (e.on < i))
def regLast (ops : Array Oper) (n : Nat) : Bool := (List.range n).all fun j => depsOn ops n j

theorem regOk_dst {n : Nat} (h : regOk ops n = true) : ∀ i j, i < n → j < ops.size → j ≠ i → dstOf ops j ≠ dstOf ops i ∨ dstOf ops j = none := by
  intro i j hi hj hne
  simp only [regOk, Bool.and_eq_true, List.all_eq_true, List.mem_range, Bool.or_eq_true, beq_iff_eq, Bool.not_eq_true'] at h
  rcases h.1 i hi j hj with (h1 | h1) | h1
  · exact absurd h1 hne
  · exact Or.inr (Option.isNone_iff_eq_none.1 h1)
  · exact Or.inl (by simpa using h1)

theorem regOk_back {n : Nat} (h : regOk ops n = true) : ∀ (i : Nat) (o : Oper), ops[i]? = some o → ∀ e : Edge, e ∈ o.after → e.on < i := by
  intro i o ho e he
  have hi : i < ops.size := (Array.getElem?_eq_some_iff.1 ho).1
  simp only [regOk, Bool.and_eq_true, List.all_eq_true, List.mem_range] at h
  have := h.2 i hi
  rw [ho] at this
  simp only [Array.all_eq_true_iff_forall_mem] at this
  simpa using this e he

theorem putAll_init (a : Act) (dst : Nat → Option Tmp) : ∀ n, putAll a dst (fun i => match dst i with | some d => a.tmps.getD d undef | none => undef) n = a
  | 0 => rfl
  | n + 1 => by
    simp only [putAll]
    rw [putAll_init a dst n]
    cases hd : dst n with
    | none => rfl
    | some d =>
      have : a.tmps.setIfInBounds d (a.tmps.getD d undef) = a.tmps := by
        by_cases h : d < a.tmps.size
        · apply Array.ext
          · simp
          · intro i h1 h2
            rw [Array.getElem_setIfInBounds (hj := by simpa using h1)]
            split
            · rename_i e; subst e; simp
            · rfl
        · exact Array.setIfInBounds_eq_of_size_le (Nat.le_of_not_lt h)
      show (a.put (some d) (a.tmps.getD d undef)) = a
      unfold Act.put
      simp only [this]

/-- The frame of a region whose operations yield vs. -/
def frame (a : Act) (ops : Array Oper) (vs : Nat → Value) : Act := putAll a (dstOf ops) vs ops.size

/-- What is to be shown of an operation. -/
structure OpDo (P : Program) (ops : Array Oper) (Q : Exit → Act → World → Prop) (A : Act) (i : Nat) (w : World) (K : Act → World → Prop) : Prop where
  out : match ops[i]? with
    | some o => if Region.wanted o (yielded ops A.tmps) = true then Oper.wp P o A w K Q else K (A.put o.dst undef) w
    | none => False

theorem wp_region_reg1 {id n : Nat} {a0 : Act} {w0 : World} (hm : P.follows .mixedOrders = true) (hn : ops.size = n + 1) (hok : regOk ops n = true) (hl : regLast ops n = true)
    (Ext : World → World → Prop) (hrefl : ∀ w, Ext w w) (htrans : ∀ a b c, Ext a b → Ext b c → Ext a c)
    (R : Nat → Value → World → Prop) (hR : ∀ i v w w', Ext w0.drew w → R i v w → Ext w w' → R i v w')
    (hstep : ∀ i, i < n → ∀ (vs : Nat → Value) (w : World), Ext w0.drew w → (∀ j, depsOn ops i j = true → R j (vs j) w) →
      ∀ K : Act → World → Prop, (∀ v w', Ext w w' → R i v w' → K ((frame a0 ops vs).put (dstOf ops i) v) w') → OpDo P ops Q (frame a0 ops vs) i w K)
    (hlast : ∀ (vs : Nat → Value) (w : World), Ext w0.drew w → (∀ i, i < n → R i (vs i) w) → ∀ K : Act → World → Prop, (∀ a w, Q .normal a w → K a w) → OpDo P ops Q (frame a0 ops vs) n w K) : (Code.region id ops true).wp P Q a0 w0 := by
  refine wp_region_mono1 hm hn Ext hrefl htrans R hR (dstOf ops) (regOk_dst hok) (regOk_back hok) ?_ _ (putAll_init a0 _ _) ?_ ?_
  · intro o ho j hj
    have := List.all_eq_true.1 hl j (List.mem_range.2 hj)
    simpa [depsOn, ho] using this
  · intro i o hi ho vs w hE hd K hK
    have := hstep i hi vs w hE (fun j hj => hd j (by simpa [depsOn, ho] using hj)) K hK
    have this := this.out
    rw [ho] at this
    exact this
  · intro o ho vs w hE hd K hK
    have := hlast vs w hE hd K hK
    have this := this.out
    rw [ho] at this
    exact this

theorem wp_region_reg {id : Nat} {a0 : Act} {w0 : World} (hm : P.follows .mixedOrders = true) (hok : regOk ops ops.size = true)
    (Ext : World → World → Prop) (hrefl : ∀ w, Ext w w) (htrans : ∀ a b c, Ext a b → Ext b c → Ext a c)
    (R : Nat → Value → World → Prop) (hR : ∀ i v w w', Ext w0.drew w → R i v w → Ext w w' → R i v w')
    (hstep : ∀ i, i < ops.size → ∀ (vs : Nat → Value) (w : World), Ext w0.drew w → (∀ j, depsOn ops i j = true → R j (vs j) w) →
      ∀ K : Act → World → Prop, (∀ v w', Ext w w' → R i v w' → K ((frame a0 ops vs).put (dstOf ops i) v) w') → OpDo P ops Q (frame a0 ops vs) i w K)
    (hend : ∀ (vs : Nat → Value) (w : World), Ext w0.drew w → (∀ i, i < ops.size → R i (vs i) w) → Q .normal (frame a0 ops vs) w) : (Code.region id ops true).wp P Q a0 w0 := by
  refine wp_region_mono hm (fun w => Ext w0.drew w) Ext hrefl htrans R (fun i v w w' h1 h2 h3 => hR i v w w' h1 h2 h3) (dstOf ops) ?_ (fun i j hi hj hne => regOk_dst hok i j hi hj hne) (regOk_back hok) _ (putAll_init a0 _ _) (hrefl _) ?_ (fun vs w hS _ hr => hend vs w hS hr)
  · intro i o ho; simp [dstOf, ho]
  · intro i o ho vs w hS hE hd K hK
    have hi : i < ops.size := (Array.getElem?_eq_some_iff.1 ho).1
    have := hstep i hi vs w hE (fun j hj => hd j (by simpa [depsOn, ho] using hj)) K (fun v w' h1 h2 => hK v w' (htrans _ _ _ hS h1) h1 h2)
    have this := this.out
    rw [ho] at this
    exact this

/-- The same, where what binds points back: other edges may point forward. -/
def regOkB (ops : Array Oper) (n : Nat) : Bool :=
  (List.range n).all (fun i => (List.range ops.size).all fun j => j == i || (dstOf ops j).isNone || !((dstOf ops j) == (dstOf ops i))) &&
  (List.range ops.size).all (fun i => match ops[i]? with | none => true | some o => o.after.all fun e => !(Region.binds .any e) || decide (e.on < i))

theorem regOkB_dst {n : Nat} (h : regOkB ops n = true) : ∀ i j, i < n → j < ops.size → j ≠ i → dstOf ops j ≠ dstOf ops i ∨ dstOf ops j = none := by
  intro i j hi hj hne
  simp only [regOkB, Bool.and_eq_true, List.all_eq_true, List.mem_range, Bool.or_eq_true, beq_iff_eq, Bool.not_eq_true'] at h
  rcases h.1 i hi j hj with (h1 | h1) | h1
  · exact absurd h1 hne
  · exact Or.inr (Option.isNone_iff_eq_none.1 h1)
  · exact Or.inl (by simpa using h1)

theorem regOkB_back {n : Nat} (h : regOkB ops n = true) : ∀ (i : Nat) (o : Oper), ops[i]? = some o → ∀ e : Edge, e ∈ o.after → Region.binds .any e = true → e.on < i := by
  intro i o ho e he hb
  have hi : i < ops.size := (Array.getElem?_eq_some_iff.1 ho).1
  simp only [regOkB, Bool.and_eq_true, List.all_eq_true, List.mem_range] at h
  have := h.2 i hi
  rw [ho] at this
  simp only [Array.all_eq_true_iff_forall_mem] at this
  have h2 := this e he
  rw [hb] at h2
  simpa using h2

theorem wp_region_monoB {id : Nat} {a0 : Act} {w0 : World} (hm : P.follows .mixedOrders = true)
    (S : World → Prop) (Ext : World → World → Prop) (hrefl : ∀ w, Ext w w) (htrans : ∀ a b c, Ext a b → Ext b c → Ext a c)
    (R : Nat → Value → World → Prop) (hR : ∀ i v w w', S w → R i v w → Ext w w' → R i v w')
    (dst : Nat → Option Tmp) (_hdst : ∀ i o, ops[i]? = some o → o.dst = dst i) (hdd : ∀ i j, i < ops.size → j < ops.size → j ≠ i → dst j ≠ dst i ∨ dst j = none)
    (hback : ∀ (i : Nat) (o : Oper), ops[i]? = some o → ∀ e : Edge, e ∈ o.after → Region.binds .any e = true → e.on < i) (init : Nat → Value) (hinit : putAll a0 dst init ops.size = a0) (hS : S w0.drew)
    (hstep : ∀ i o, ops[i]? = some o → ∀ (vs : Nat → Value) (w : World), S w → Ext w0.drew w → (∀ j, (o.after.any fun e => Region.binds .any e && e.on == j) = true → R j (vs j) w) →
      ∀ K : Act → World → Prop, (∀ v w', S w' → Ext w w' → R i v w' → K ((putAll a0 dst vs ops.size).put (dst i) v) w') →
        if Region.wanted o (yielded ops (putAll a0 dst vs ops.size).tmps) = true then Oper.wp P o (putAll a0 dst vs ops.size) w K Q else K ((putAll a0 dst vs ops.size).put o.dst undef) w)
    (hend : ∀ (vs : Nat → Value) (w : World), S w → Ext w0.drew w → (∀ i, i < ops.size → R i (vs i) w) → Q .normal (putAll a0 dst vs ops.size) w) : (Code.region id ops true).wp P Q a0 w0 := by
  refine wp_region_any hm ?_
  refine wpAny_inv (fun listed a w => listed.size = ops.size ∧ ∃ vs, a = putAll a0 dst vs ops.size ∧ S w ∧ Ext w0.drew w ∧ ∀ j, listed.getD j false = true → R j (vs j) w) ?_ ?_ ops.size _ _ _ ?_ ⟨by simp, init, hinit.symm, hS, hrefl _, fun j hj => ?_⟩
  · rintro listed a w ⟨hsz, vs, rfl, hs, he, hj⟩ hr
    refine hend vs w hs he (fun i hi => hj i ?_)
    have hall : ∀ n i, i < n → i < ops.size → listed.getD i false = true := by
      intro n
      induction n with
      | zero => intro i h; omega
      | succ n ih =>
        intro i hin hi
        by_cases hl : listed.getD i true = false
        · exfalso
          have hmem : i ∈ Region.ready .any ops listed := by
            simp only [Region.ready, List.mem_filter, List.mem_range, Bool.and_eq_true, Bool.not_eq_true']
            refine ⟨hi, hl, ?_⟩
            have ho : ops[i]? = some ops[i] := Array.getElem?_eq_getElem hi
            rw [ho]
            simp only [Option.map_some, Option.getD_some, Array.all_eq_true_iff_forall_mem, Bool.or_eq_true, Bool.not_eq_true']
            intro e hm'
            cases hbd : Region.binds .any e with
            | false => exact Or.inl rfl
            | true =>
            right
            have := hback i _ ho e hm' hbd
            exact ih e.on (by omega) (by omega)
          rw [hr] at hmem
          cases hmem
        · have hlt : i < listed.size := by omega
          simp only [Array.getD, hlt, dif_pos] at hl ⊢
          simpa using hl
    exact hall (i + 1) i (by omega) hi
  · rintro listed a w i ⟨hsz, vs, rfl, hs, he, hj⟩ hi
    obtain ⟨hlt, hun, o, ho, hdeps⟩ := ready_open hi
    refine wpOp_step ho (fun K' hK => hstep i o ho vs w hs he (fun j hjd => ?_) K' (fun v w' hs' he' hr' => hK _ _ ⟨by simpa using hsz, fun j => if j = i then v else vs j, ?_, hs', htrans _ _ _ he he', fun j hjl => ?_⟩))
    · rw [Array.any_eq_true] at hjd
      obtain ⟨k, hk, hb⟩ := hjd
      simp only [Bool.and_eq_true, beq_iff_eq] at hb
      exact hj j (by rw [← hb.2]; exact hdeps _ (Array.getElem_mem hk) hb.1)
    · exact (putAll_upd a0 dst vs i v ops.size hlt (fun j hj' hne => hdd i j hlt hj' hne)).symm
    · by_cases hji : j = i
      · subst hji; simpa using hr'
      · simp only [hji, if_false]
        refine hR j _ w w' hs (hj j ?_) he'
        have e : (listed.setIfInBounds i true).getD j false = listed.getD j false := by
          simp only [Array.getD_eq_getD_getElem?, Array.getElem?_setIfInBounds]
          rw [if_neg (fun e => hji e.symm)]
        rw [← e]
        exact hjl
  · have := List.countP_le_length (p := fun b : Bool => !b) (l := (Array.replicate ops.size false).toList)
    unfold openN
    simpa using this
  · simp [Array.getD] at hj

theorem wp_region_regB {id : Nat} {a0 : Act} {w0 : World} (hm : P.follows .mixedOrders = true) (hok : regOkB ops ops.size = true)
    (Ext : World → World → Prop) (hrefl : ∀ w, Ext w w) (htrans : ∀ a b c, Ext a b → Ext b c → Ext a c)
    (R : Nat → Value → World → Prop) (hR : ∀ i v w w', Ext w0.drew w → R i v w → Ext w w' → R i v w')
    (hstep : ∀ i, i < ops.size → ∀ (vs : Nat → Value) (w : World), Ext w0.drew w → (∀ j, depsOn ops i j = true → R j (vs j) w) →
      ∀ K : Act → World → Prop, (∀ v w', Ext w w' → R i v w' → K ((frame a0 ops vs).put (dstOf ops i) v) w') → OpDo P ops Q (frame a0 ops vs) i w K)
    (hend : ∀ (vs : Nat → Value) (w : World), Ext w0.drew w → (∀ i, i < ops.size → R i (vs i) w) → Q .normal (frame a0 ops vs) w) : (Code.region id ops true).wp P Q a0 w0 := by
  refine wp_region_monoB hm (fun w => Ext w0.drew w) Ext hrefl htrans R (fun i v w w' h1 h2 h3 => hR i v w w' h1 h2 h3) (dstOf ops) ?_ (fun i j hi hj hne => regOkB_dst hok i j hi hj hne) (regOkB_back hok) _ (putAll_init a0 _ _) (hrefl _) ?_ (fun vs w hS _ hr => hend vs w hS hr)
  · intro i o ho; simp [dstOf, ho]
  · intro i o ho vs w hS hE hd K hK
    have hi : i < ops.size := (Array.getElem?_eq_some_iff.1 ho).1
    have := hstep i hi vs w hE (fun j hj => hd j (by simpa [depsOn, ho] using hj)) K (fun v w' h1 h2 => hK v w' (htrans _ _ _ hS h1) h1 h2)
    have this := this.out
    rw [ho] at this
    exact this

def opAt (ops : Array Oper) (i : Nat) : Oper := (ops[i]?).getD default
theorem opAt_of {i : Nat} (h : (ops[i]?).isSome = true) : ops[i]? = some (opAt ops i) := by
  unfold opAt
  cases ho : ops[i]? with
  | none => rw [ho] at h; cases h
  | some o => rfl
theorem opAt_dst {i : Nat} (h : (ops[i]?).isSome = true) : (opAt ops i).dst = dstOf ops i := by
  unfold dstOf
  rw [opAt_of h]
  rfl

/-- An operation that is on and hands back a value at once. -/
theorem op_val {A : Act} {i : Nat} {w w' : World} {K : Act → World → Prop} {v : Value} (hs : (ops[i]?).isSome = true) (hg : Region.wanted (opAt ops i) (yielded ops A.tmps) = true) (hr : (execOp A.eval (opAt ops i)).run P w = .ok (.value v) w') (hK : K (A.put (dstOf ops i) v) w') : OpDo P ops Q A i w K := by
  constructor
  rw [opAt_of hs]
  simp only [hg, if_true]
  unfold Oper.wp
  rw [hr]
  rw [← opAt_dst hs] at hK
  exact hK
/-- An operation that is off. -/
theorem op_off {A : Act} {i : Nat} {w : World} {K : Act → World → Prop} (hs : (ops[i]?).isSome = true) (hg : Region.wanted (opAt ops i) (yielded ops A.tmps) = false) (hK : K (A.put (dstOf ops i) undef) w) : OpDo P ops Q A i w K := by
  constructor
  rw [opAt_of hs]
  simp only [hg, Bool.false_eq_true, if_false]
  rw [← opAt_dst hs] at hK
  exact hK
/-- A call. -/
theorem op_call {A : Act} {i : Nat} {w : World} {K : Act → World → Prop} {f : FuncId} {args : Array Value} (hs : (ops[i]?).isSome = true) (hg : Region.wanted (opAt ops i) (yielded ops A.tmps) = true) (hr : (execOp A.eval (opAt ops i)).run P w = .ok (.enter f args) w)
    (hK : Calls P f args w fun e w' => ∃ v, e = .returned v ∧ K (A.put (dstOf ops i) v) w') : OpDo P ops Q A i w K := by
  constructor
  rw [opAt_of hs]
  simp only [hg, if_true]
  unfold Oper.wp
  rw [hr]
  refine hK.mono ?_
  rintro e w' ⟨v, rfl, h⟩
  rw [← opAt_dst hs] at h
  exact h
end

/-! ### one after the other -/
theorem lt1 {p : Nat → Prop} (h0 : p 0) : ∀ i, i < 1 → p i := fun i hi => by
  obtain rfl : i = 0 := by omega
  exact h0
theorem lt2 {p : Nat → Prop} (h0 : p 0) (h1 : p 1) : ∀ i, i < 2 → p i := fun i hi => by
  rcases Nat.lt_succ_iff_lt_or_eq.1 hi with h | h
  · exact lt1 h0 i h
  · subst h; exact h1
theorem lt3 {p : Nat → Prop} (h0 : p 0) (h1 : p 1) (h2 : p 2) : ∀ i, i < 3 → p i := fun i hi => by
  rcases Nat.lt_succ_iff_lt_or_eq.1 hi with h | h
  · exact lt2 h0 h1 i h
  · subst h; exact h2
theorem lt4 {p : Nat → Prop} (h0 : p 0) (h1 : p 1) (h2 : p 2) (h3 : p 3) : ∀ i, i < 4 → p i := fun i hi => by
  rcases Nat.lt_succ_iff_lt_or_eq.1 hi with h | h
  · exact lt3 h0 h1 h2 i h
  · subst h; exact h3
theorem lt5 {p : Nat → Prop} (h0 : p 0) (h1 : p 1) (h2 : p 2) (h3 : p 3) (h4 : p 4) : ∀ i, i < 5 → p i := fun i hi => by
  rcases Nat.lt_succ_iff_lt_or_eq.1 hi with h | h
  · exact lt4 h0 h1 h2 h3 i h
  · subst h; exact h4
theorem lt6 {p : Nat → Prop} (h0 : p 0) (h1 : p 1) (h2 : p 2) (h3 : p 3) (h4 : p 4) (h5 : p 5) : ∀ i, i < 6 → p i := fun i hi => by
  rcases Nat.lt_succ_iff_lt_or_eq.1 hi with h | h
  · exact lt5 h0 h1 h2 h3 h4 i h
  · subst h; exact h5
theorem lt7 {p : Nat → Prop} (h0 : p 0) (h1 : p 1) (h2 : p 2) (h3 : p 3) (h4 : p 4) (h5 : p 5) (h6 : p 6) : ∀ i, i < 7 → p i := fun i hi => by
  rcases Nat.lt_succ_iff_lt_or_eq.1 hi with h | h
  · exact lt6 h0 h1 h2 h3 h4 h5 i h
  · subst h; exact h6
theorem lt8 {p : Nat → Prop} (h0 : p 0) (h1 : p 1) (h2 : p 2) (h3 : p 3) (h4 : p 4) (h5 : p 5) (h6 : p 6) (h7 : p 7) : ∀ i, i < 8 → p i := fun i hi => by
  rcases Nat.lt_succ_iff_lt_or_eq.1 hi with h | h
  · exact lt7 h0 h1 h2 h3 h4 h5 h6 i h
  · subst h; exact h7
theorem lt9 {p : Nat → Prop} (h0 : p 0) (h1 : p 1) (h2 : p 2) (h3 : p 3) (h4 : p 4) (h5 : p 5) (h6 : p 6) (h7 : p 7) (h8 : p 8) : ∀ i, i < 9 → p i := fun i hi => by
  rcases Nat.lt_succ_iff_lt_or_eq.1 hi with h | h
  · exact lt8 h0 h1 h2 h3 h4 h5 h6 h7 i h
  · subst h; exact h8
theorem lt10 {p : Nat → Prop} (h0 : p 0) (h1 : p 1) (h2 : p 2) (h3 : p 3) (h4 : p 4) (h5 : p 5) (h6 : p 6) (h7 : p 7) (h8 : p 8) (h9 : p 9) : ∀ i, i < 10 → p i := fun i hi => by
  rcases Nat.lt_succ_iff_lt_or_eq.1 hi with h | h
  · exact lt9 h0 h1 h2 h3 h4 h5 h6 h7 h8 i h
  · subst h; exact h9
theorem lt11 {p : Nat → Prop} (h0 : p 0) (h1 : p 1) (h2 : p 2) (h3 : p 3) (h4 : p 4) (h5 : p 5) (h6 : p 6) (h7 : p 7) (h8 : p 8) (h9 : p 9) (h10 : p 10) : ∀ i, i < 11 → p i := fun i hi => by
  rcases Nat.lt_succ_iff_lt_or_eq.1 hi with h | h
  · exact lt10 h0 h1 h2 h3 h4 h5 h6 h7 h8 h9 i h
  · subst h; exact h10
theorem lt12 {p : Nat → Prop} (h0 : p 0) (h1 : p 1) (h2 : p 2) (h3 : p 3) (h4 : p 4) (h5 : p 5) (h6 : p 6) (h7 : p 7) (h8 : p 8) (h9 : p 9) (h10 : p 10) (h11 : p 11) : ∀ i, i < 12 → p i := fun i hi => by
  rcases Nat.lt_succ_iff_lt_or_eq.1 hi with h | h
  · exact lt11 h0 h1 h2 h3 h4 h5 h6 h7 h8 h9 h10 i h
  · subst h; exact h11
theorem lt13 {p : Nat → Prop} (h0 : p 0) (h1 : p 1) (h2 : p 2) (h3 : p 3) (h4 : p 4) (h5 : p 5) (h6 : p 6) (h7 : p 7) (h8 : p 8) (h9 : p 9) (h10 : p 10) (h11 : p 11) (h12 : p 12) : ∀ i, i < 13 → p i := fun i hi => by
  rcases Nat.lt_succ_iff_lt_or_eq.1 hi with h | h
  · exact lt12 h0 h1 h2 h3 h4 h5 h6 h7 h8 h9 h10 h11 i h
  · subst h; exact h12
theorem lt14 {p : Nat → Prop} (h0 : p 0) (h1 : p 1) (h2 : p 2) (h3 : p 3) (h4 : p 4) (h5 : p 5) (h6 : p 6) (h7 : p 7) (h8 : p 8) (h9 : p 9) (h10 : p 10) (h11 : p 11) (h12 : p 12) (h13 : p 13) : ∀ i, i < 14 → p i := fun i hi => by
  rcases Nat.lt_succ_iff_lt_or_eq.1 hi with h | h
  · exact lt13 h0 h1 h2 h3 h4 h5 h6 h7 h8 h9 h10 h11 h12 i h
  · subst h; exact h13
theorem lt15 {p : Nat → Prop} (h0 : p 0) (h1 : p 1) (h2 : p 2) (h3 : p 3) (h4 : p 4) (h5 : p 5) (h6 : p 6) (h7 : p 7) (h8 : p 8) (h9 : p 9) (h10 : p 10) (h11 : p 11) (h12 : p 12) (h13 : p 13) (h14 : p 14) : ∀ i, i < 15 → p i := fun i hi => by
  rcases Nat.lt_succ_iff_lt_or_eq.1 hi with h | h
  · exact lt14 h0 h1 h2 h3 h4 h5 h6 h7 h8 h9 h10 h11 h12 h13 i h
  · subst h; exact h14
theorem lt16 {p : Nat → Prop} (h0 : p 0) (h1 : p 1) (h2 : p 2) (h3 : p 3) (h4 : p 4) (h5 : p 5) (h6 : p 6) (h7 : p 7) (h8 : p 8) (h9 : p 9) (h10 : p 10) (h11 : p 11) (h12 : p 12) (h13 : p 13) (h14 : p 14) (h15 : p 15) : ∀ i, i < 16 → p i := fun i hi => by
  rcases Nat.lt_succ_iff_lt_or_eq.1 hi with h | h
  · exact lt15 h0 h1 h2 h3 h4 h5 h6 h7 h8 h9 h10 h11 h12 h13 h14 i h
  · subst h; exact h15
theorem lt17 {p : Nat → Prop} (h0 : p 0) (h1 : p 1) (h2 : p 2) (h3 : p 3) (h4 : p 4) (h5 : p 5) (h6 : p 6) (h7 : p 7) (h8 : p 8) (h9 : p 9) (h10 : p 10) (h11 : p 11) (h12 : p 12) (h13 : p 13) (h14 : p 14) (h15 : p 15) (h16 : p 16) : ∀ i, i < 17 → p i := fun i hi => by
  rcases Nat.lt_succ_iff_lt_or_eq.1 hi with h | h
  · exact lt16 h0 h1 h2 h3 h4 h5 h6 h7 h8 h9 h10 h11 h12 h13 h14 h15 i h
  · subst h; exact h16
theorem lt18 {p : Nat → Prop} (h0 : p 0) (h1 : p 1) (h2 : p 2) (h3 : p 3) (h4 : p 4) (h5 : p 5) (h6 : p 6) (h7 : p 7) (h8 : p 8) (h9 : p 9) (h10 : p 10) (h11 : p 11) (h12 : p 12) (h13 : p 13) (h14 : p 14) (h15 : p 15) (h16 : p 16) (h17 : p 17) : ∀ i, i < 18 → p i := fun i hi => by
  rcases Nat.lt_succ_iff_lt_or_eq.1 hi with h | h
  · exact lt17 h0 h1 h2 h3 h4 h5 h6 h7 h8 h9 h10 h11 h12 h13 h14 h15 h16 i h
  · subst h; exact h17
theorem lt19 {p : Nat → Prop} (h0 : p 0) (h1 : p 1) (h2 : p 2) (h3 : p 3) (h4 : p 4) (h5 : p 5) (h6 : p 6) (h7 : p 7) (h8 : p 8) (h9 : p 9) (h10 : p 10) (h11 : p 11) (h12 : p 12) (h13 : p 13) (h14 : p 14) (h15 : p 15) (h16 : p 16) (h17 : p 17) (h18 : p 18) : ∀ i, i < 19 → p i := fun i hi => by
  rcases Nat.lt_succ_iff_lt_or_eq.1 hi with h | h
  · exact lt18 h0 h1 h2 h3 h4 h5 h6 h7 h8 h9 h10 h11 h12 h13 h14 h15 h16 h17 i h
  · subst h; exact h18
theorem lt20 {p : Nat → Prop} (h0 : p 0) (h1 : p 1) (h2 : p 2) (h3 : p 3) (h4 : p 4) (h5 : p 5) (h6 : p 6) (h7 : p 7) (h8 : p 8) (h9 : p 9) (h10 : p 10) (h11 : p 11) (h12 : p 12) (h13 : p 13) (h14 : p 14) (h15 : p 15) (h16 : p 16) (h17 : p 17) (h18 : p 18) (h19 : p 19) : ∀ i, i < 20 → p i := fun i hi => by
  rcases Nat.lt_succ_iff_lt_or_eq.1 hi with h | h
  · exact lt19 h0 h1 h2 h3 h4 h5 h6 h7 h8 h9 h10 h11 h12 h13 h14 h15 h16 h17 h18 i h
  · subst h; exact h19
theorem lt21 {p : Nat → Prop} (h0 : p 0) (h1 : p 1) (h2 : p 2) (h3 : p 3) (h4 : p 4) (h5 : p 5) (h6 : p 6) (h7 : p 7) (h8 : p 8) (h9 : p 9) (h10 : p 10) (h11 : p 11) (h12 : p 12) (h13 : p 13) (h14 : p 14) (h15 : p 15) (h16 : p 16) (h17 : p 17) (h18 : p 18) (h19 : p 19) (h20 : p 20) : ∀ i, i < 21 → p i := fun i hi => by
  rcases Nat.lt_succ_iff_lt_or_eq.1 hi with h | h
  · exact lt20 h0 h1 h2 h3 h4 h5 h6 h7 h8 h9 h10 h11 h12 h13 h14 h15 h16 h17 h18 h19 i h
  · subst h; exact h20
theorem lt22 {p : Nat → Prop} (h0 : p 0) (h1 : p 1) (h2 : p 2) (h3 : p 3) (h4 : p 4) (h5 : p 5) (h6 : p 6) (h7 : p 7) (h8 : p 8) (h9 : p 9) (h10 : p 10) (h11 : p 11) (h12 : p 12) (h13 : p 13) (h14 : p 14) (h15 : p 15) (h16 : p 16) (h17 : p 17) (h18 : p 18) (h19 : p 19) (h20 : p 20) (h21 : p 21) : ∀ i, i < 22 → p i := fun i hi => by
  rcases Nat.lt_succ_iff_lt_or_eq.1 hi with h | h
  · exact lt21 h0 h1 h2 h3 h4 h5 h6 h7 h8 h9 h10 h11 h12 h13 h14 h15 h16 h17 h18 h19 h20 i h
  · subst h; exact h21
theorem lt23 {p : Nat → Prop} (h0 : p 0) (h1 : p 1) (h2 : p 2) (h3 : p 3) (h4 : p 4) (h5 : p 5) (h6 : p 6) (h7 : p 7) (h8 : p 8) (h9 : p 9) (h10 : p 10) (h11 : p 11) (h12 : p 12) (h13 : p 13) (h14 : p 14) (h15 : p 15) (h16 : p 16) (h17 : p 17) (h18 : p 18) (h19 : p 19) (h20 : p 20) (h21 : p 21) (h22 : p 22) : ∀ i, i < 23 → p i := fun i hi => by
  rcases Nat.lt_succ_iff_lt_or_eq.1 hi with h | h
  · exact lt22 h0 h1 h2 h3 h4 h5 h6 h7 h8 h9 h10 h11 h12 h13 h14 h15 h16 h17 h18 h19 h20 h21 i h
  · subst h; exact h22
theorem lt24 {p : Nat → Prop} (h0 : p 0) (h1 : p 1) (h2 : p 2) (h3 : p 3) (h4 : p 4) (h5 : p 5) (h6 : p 6) (h7 : p 7) (h8 : p 8) (h9 : p 9) (h10 : p 10) (h11 : p 11) (h12 : p 12) (h13 : p 13) (h14 : p 14) (h15 : p 15) (h16 : p 16) (h17 : p 17) (h18 : p 18) (h19 : p 19) (h20 : p 20) (h21 : p 21) (h22 : p 22) (h23 : p 23) : ∀ i, i < 24 → p i := fun i hi => by
  rcases Nat.lt_succ_iff_lt_or_eq.1 hi with h | h
  · exact lt23 h0 h1 h2 h3 h4 h5 h6 h7 h8 h9 h10 h11 h12 h13 h14 h15 h16 h17 h18 h19 h20 h21 h22 i h
  · subst h; exact h23
end Go.Proofs.YtlpgoelcadmcfaaGreatDoor

namespace Go.Proofs.YtlpgoelcadmcfaaGreatDoor
open Go.RowKit

set_option maxHeartbeats 1000000
set_option maxRecDepth 100000

/-- The slice value holds these texts. -/
def Strs (w : World) (sv : Value) (ns : List (List UInt8)) : Prop :=
  (sv = .slice none 0 0 ∧ ns = []) ∨ ∃ b off cap, sv = .slice (some ⟨b, off, none⟩) ns.length cap ∧ ∀ j (h : j < ns.length), w.cell? ⟨b, off + j, none⟩ = some (str ns[j])

theorem ownsRow_strs {w : World} {base : Nat} {T : TypeId} {sv : Value} {ns : List (List UInt8)} (h : w.ownsRow base T 1 sv ns.length (ns.map str)) : Strs w sv ns := by
  rcases h.2 with ⟨rfl, h0⟩ | ⟨g, cap, cur, rfl, hb, hh, hn, hc, hs, ht⟩
  · exact Or.inl ⟨rfl, List.length_eq_zero_iff.1 h0⟩
  · refine Or.inr ⟨g, 0, cap, rfl, fun j hj => ?_⟩
    have := h.cells (g := g) rfl j (str ns[j]) (by simp [hj])
    have hadd : (⟨g, 0, none⟩ : Addr).add j = ⟨g, 0 + j, none⟩ := by unfold Addr.add; split <;> simp_all
    rw [hadd] at this
    exact this

theorem s_has (w : World) (sv : Value) (ns : List (List UInt8)) (x : List UInt8) (h : Strs w sv ns) (hn : ns.length ≤ 1000000000) :
    Calls Tryz.prog 51 #[sv, str x] w fun e w' => e = .returned (.bool (decide (x ∈ ns))) ∧ w = w' := by
  rcases h with ⟨rfl, rfl⟩ | ⟨b, off, cap, rfl, hc⟩
  · go_enter Tryz.func51, Tryz.ntmps51
    go_wp2_with fail
    go_loop [5] (fun i => i = .int .i64 0) (fun _ => 0)
    case atStart => rfl
    case round =>
      obtain rfl := hrel
      go_wp2_with fail
      go_ret
      exact ⟨by simp, rfl⟩
  · obtain ⟨r, hr⟩ : ∃ r, r = decide (x ∈ ns) := ⟨_, rfl⟩
    rw [← hr]
    have hstart : Hid (r = decide (x ∈ ns.drop 0)) := by show _ = _; rw [hr]; simp
    have HC := Lib.hid hc
    clear hr hc
    go_enter Tryz.func51, Tryz.ntmps51
    go_wp2_with fail
    go_loop [5] (fun i => ∃ k : Nat, i = .int .i64 k ∧ k ≤ ns.length ∧ Hid (r = decide (x ∈ ns.drop k))) (fun i => ns.length - (intOf i).toNat)
    case atStart => exact ⟨0, rfl, Nat.zero_le _, hstart⟩
    case round =>
      obtain ⟨k, rfl, hk, hr⟩ := hrel
      clear hstart
      by_cases hlt : k < ns.length
      · have hck := HC.out k hlt
        have hd := List.drop_eq_getElem_cons hlt
        rw [hd] at hr
        clear hd
        generalize ns[k] = y at hck hr
        by_cases he : y = x
        · subst he
          have HS : Hid (r = true) := by show _ = _; rw [hr.out]; simp
          clear hr
          go_wp2_with fail
          go_ret
          exact ⟨by rw [HS.out]; rfl, rfl⟩
        · have heq : (y == x) = false := beq_eq_false_iff_ne.2 he
          have HS : Hid (r = decide (x ∈ ns.drop (k + 1))) := by show _ = _; rw [hr.out]; simp [Ne.symm he]
          clear hr he
          go_wp2_with fail
          go_round
          case rel => exact ⟨k + 1, by go_num, by omega, HS⟩
          case measure => simp [intOf]; omega
      · have HS : Hid (r = false) := by show _ = _; rw [hr.out, List.drop_eq_nil_of_le (by omega)]; simp
        clear hr
        go_wp2_with fail
        go_ret
        exact ⟨by rw [HS.out]; rfl, rfl⟩

/-! ### growing -/

theorem grew_drew {a b : World} {r : Option Nat} (h : a.grownBy b r) : a.grownBy b.drew r := ⟨h.os, h.tape, h.output, h.size, h.block⟩
theorem grew_refl (a : World) (r : Option Nat) : a.grownBy a r := ⟨rfl, rfl, rfl, Nat.le_refl _, fun _ _ _ => rfl⟩
theorem grew_alloc {a b : World} {r : Option Nat} (h : a.grownBy b r) (o : Obj) : a.grownBy (b.alloc o) r :=
  ⟨h.os, h.tape, h.output, by simp; have := h.size; omega, fun k hk hr => by rw [Below.heap_alloc _ _ _ (Nat.lt_of_lt_of_le hk h.size)]; exact h.block k hk hr⟩
theorem grew_trans {a b c : World} {r r2 : Option Nat} (h1 : a.grownBy b r) (h2 : b.grownBy c r2) (hr : r2 = r ∨ ∃ k, r2 = some k ∧ a.heap.size ≤ k) : a.grownBy c r := by
  refine ⟨h2.os.trans h1.os, h2.tape.trans h1.tape, h2.output.trans h1.output, Nat.le_trans h1.size h2.size, fun k hk hne => ?_⟩
  rw [h2.block k (Nat.lt_of_lt_of_le hk h1.size) ?_]
  · exact h1.block k hk hne
  · rcases hr with rfl | ⟨k', rfl, hk'⟩
    · exact hne
    · intro e; injection e with e; omega

theorem grew_heap {a b : World} {r : Option Nat} (h : a.grownBy b r) {k : Nat} {o : Obj} (hk : a.heap[k]? = some o) (hr : some k ≠ r) : b.heap[k]? = some o := by
  rw [h.block k (Array.getElem?_eq_some_iff.1 hk).1 hr]; exact hk

def NamesP (mb : Nat) (w : World) (sv : Value) (ns : List (List UInt8)) (e : Ending) (w' : World) : Prop :=
  ∃ sv', e = .returned sv' ∧ w'.ownsRow mb 9 1 sv' ns.length (ns.map str) ∧ w.grownBy w' sv.ownBlock ∧ (sv'.ownBlock = sv.ownBlock ∨ ∃ k, sv'.ownBlock = some k ∧ w.heap.size ≤ k)

theorem name_ne {n : List UInt8} (h : Tm.nameOk n = true) : n.isEmpty = false ∧ (n == [107]) = false ∧ (n == [115]) = false := by
  refine ⟨?_, ?_, ?_⟩
  · cases n with
    | nil => simp [Tm.nameOk] at h
    | cons => rfl
  · rw [beq_eq_false_iff_ne]; rintro rfl; revert h; decide
  · rw [beq_eq_false_iff_ne]; rintro rfl; revert h; decide

theorem sinfo_string : (Tryz.prog.info? 9).map (fun i => (i.zero, i.size, i.bytes)) = some (some (.string ⟨#[]⟩), 1, 16) := by kernel_rfl

end Go.Proofs.YtlpgoelcadmcfaaGreatDoor

namespace Go.Proofs.YtlpgoelcadmcfaaGreatDoor
open Go Go.RowKit

set_option maxHeartbeats 1000000
set_option maxRecDepth 100000

/-- The world grows; of its old blocks the block q alone may change, to o. -/
def ExtQ (q : Nat) (o : Obj) (w w' : World) : Prop := w.grownBy w' (some q) ∧ (q < w.heap.size → w'.heap[q]? = w.heap[q]? ∨ w'.heap[q]? = some o)
theorem ExtQ.refl (q : Nat) (o : Obj) (w : World) : ExtQ q o w w := ⟨grew_refl w _, fun _ => Or.inl rfl⟩
theorem ExtQ.trans {q : Nat} {o : Obj} (a b c : World) (h : ExtQ q o a b) (g : ExtQ q o b c) : ExtQ q o a c := by
  refine ⟨grew_trans h.1 g.1 (Or.inl rfl), fun hq => ?_⟩
  rcases g.2 (Nat.lt_of_lt_of_le hq h.1.size) with e | e
  · rw [e]; exact h.2 hq
  · exact Or.inr e
theorem ExtQ.of {q : Nat} {o : Obj} {w w' : World} (h : After w w') : ExtQ q o w w' := ⟨after_grown q h, fun hq => Or.inl (h.block q hq)⟩
theorem ExtQ.heap {q : Nat} {o p : Obj} {k : Nat} {w w' : World} (h : ExtQ q o w w') (hk : w.heap[k]? = some p) (hne : k ≠ q) : w'.heap[k]? = some p := grew_heap h.1 hk (fun e => hne (by injection e))
theorem ExtQ.kept {q : Nat} {o : Obj} {w w' : World} (h : ExtQ q o w w') (hk : w.heap[q]? = some o) : w'.heap[q]? = some o := by
  rcases h.2 (Array.getElem?_eq_some_iff.1 hk).1 with e | e
  · rw [e, hk]
  · exact e
theorem ExtQ.cells {q : Nat} {cs cs' : Array Value} {T : TypeId} {f : Nat × Nat} {w w' : World} (h : ExtQ q (.cells cs' T f) w w') (hk : w.heap[q]? = some (.cells cs T f)) : ∃ c, w'.heap[q]? = some (.cells c T f) ∧ (c = cs ∨ c = cs') := by
  rcases h.2 (Array.getElem?_eq_some_iff.1 hk).1 with e | e
  · exact ⟨cs, by rw [e, hk], Or.inl rfl⟩
  · exact ⟨cs', e, Or.inr rfl⟩

/-- What an operation yields: a value, nothing, or a fact of the world that stays. -/
inductive Yq where
  | lit (v : Value)
  | free
  | fact (F : World → Prop)
def Yq.holds : Yq → Value → World → Prop
  | .lit u, v, _ => v = u
  | .free, _, _ => True
  | .fact F, _, w => F w
def yqs (L : List Yq) (i : Nat) (v : Value) (w : World) : Prop := (L.getD i .free).holds v w
def keepsQ (E : World → World → Prop) : Yq → Prop
  | .fact F => ∀ w w', E w w' → F w → F w'
  | _ => True
theorem yqs_later {L : List Yq} {E : World → World → Prop} (hL : ∀ y ∈ L, keepsQ E y) {w0 : World} : ∀ i v w w', E w0 w → yqs L i v w → E w w' → yqs L i v w' := by
  intro i v w w' _ h g
  unfold yqs at *
  by_cases hi : i < L.length
  · have hm : L.getD i .free ∈ L := by rw [List.getD_eq_getElem?_getD, List.getElem?_eq_getElem hi]; exact List.getElem_mem hi
    have hk := hL _ hm
    cases hy : L.getD i .free with
    | lit u => rw [hy] at h; exact h
    | free => trivial
    | fact F => rw [hy] at h hk; exact hk w w' g h
  · rw [List.getD_eq_getElem?_getD, List.getElem?_eq_none (by omega)]
    trivial

theorem frame_is {a : Act} {ops : Array Oper} {vs : Nat → Value} (A : Act) (h : frame a ops vs = A) : frame a ops vs = A := h

section
variable {P : Program} {ops : Array Oper} {Q : Exit → Act → World → Prop} {A : Act} {i : Nat} {w : World} {K : Act → World → Prop} {E : World → World → Prop}

theorem yieldedq_at {j : Nat} {v : Value} {b : Bool} (hj : ((ops[j]?).bind (·.dst)).bind (A.tmps[·]?) = some v) (hv : v = .bool b) : yielded ops A.tmps j = some b := by
  subst hv
  unfold yielded
  rw [hj]
theorem wantedq {o : Oper} {y : Nat → Option Bool} (hg : o.guard = none) : Region.wanted o y = true := by unfold Region.wanted; rw [hg]
theorem wantedq_on {j : Nat} {u : Value} {b : Bool} (hg : (opAt ops i).guard = some (j, b)) (hj : ((ops[j]?).bind (·.dst)).bind (A.tmps[·]?) = some u) (hu : u = .bool b) : Region.wanted (opAt ops i) (yielded ops A.tmps) = true := by
  unfold Region.wanted; rw [hg]; simp [yieldedq_at hj hu]
theorem wantedq_off {j : Nat} {u : Value} {b c : Bool} (hg : (opAt ops i).guard = some (j, b)) (hj : ((ops[j]?).bind (·.dst)).bind (A.tmps[·]?) = some u) (hu : u = .bool c) (hne : c ≠ b) : Region.wanted (opAt ops i) (yielded ops A.tmps) = false := by
  unfold Region.wanted; rw [hg]; simp [yieldedq_at hj hu, hne]

theorem dq_val {u v : Value} (hE : E w w) (hs : (ops[i]?).isSome = true) (hw : Region.wanted (opAt ops i) (yielded ops A.tmps) = true) (hr : (execOp A.eval (opAt ops i)).run P w = .ok (.value u) w) (hy : u = v)
    (hK : ∀ v' w', E w w' → (Yq.lit v).holds v' w' → K (A.put (dstOf ops i) v') w') : OpDo P ops Q A i w K :=
  op_val hs hw hr (hK _ _ hE hy)
theorem dq_new {v : Value} {w' : World} (hE : E w w') (hs : (ops[i]?).isSome = true) (hw : Region.wanted (opAt ops i) (yielded ops A.tmps) = true) (hr : (execOp A.eval (opAt ops i)).run P w = .ok (.value v) w')
    (y : Yq) (hy : y.holds v w') (hK : ∀ v' w', E w w' → y.holds v' w' → K (A.put (dstOf ops i) v') w') : OpDo P ops Q A i w K :=
  op_val hs hw hr (hK _ _ hE hy)
theorem dq_off (hE : E w w) (hs : (ops[i]?).isSome = true) (hw : Region.wanted (opAt ops i) (yielded ops A.tmps) = false)
    (hK : ∀ v' w', E w w' → Yq.free.holds v' w' → K (A.put (dstOf ops i) v') w') : OpDo P ops Q A i w K :=
  op_off hs hw (hK _ _ hE trivial)
theorem op_skip {w' : World} (hs : (ops[i]?).isSome = true) (hg : Region.wanted (opAt ops i) (yielded ops A.tmps) = true) (hr : (execOp A.eval (opAt ops i)).run P w = .ok .skip w') (hK : K (A.put (dstOf ops i) undef) w') : OpDo P ops Q A i w K := by
  constructor
  rw [opAt_of hs]
  simp only [hg, if_true]
  unfold Oper.wp
  rw [hr]
  rw [← opAt_dst hs] at hK
  exact hK
theorem dq_skip {w' : World} (hE : E w w') (hs : (ops[i]?).isSome = true) (hw : Region.wanted (opAt ops i) (yielded ops A.tmps) = true) (hr : (execOp A.eval (opAt ops i)).run P w = .ok .skip w') (F : World → Prop) (hF : F w')
    (hK : ∀ v' w', E w w' → (Yq.fact F).holds v' w' → K (A.put (dstOf ops i) v') w') : OpDo P ops Q A i w K := op_skip hs hw hr (hK undef w' hE hF)
theorem dq_call {f : FuncId} {args : Array Value} {v : Value} (hs : (ops[i]?).isSome = true) (hw : Region.wanted (opAt ops i) (yielded ops A.tmps) = true) (hr : (execOp A.eval (opAt ops i)).run P w = .ok (.enter f args) w)
    (hc : Calls P f args w fun e w' => e = .returned v ∧ E w w')
    (hK : ∀ v' w', E w w' → (Yq.lit v).holds v' w' → K (A.put (dstOf ops i) v') w') : OpDo P ops Q A i w K := by
  refine op_call hs hw hr (hc.mono ?_)
  rintro e w' ⟨rfl, ha⟩
  exact ⟨_, rfl, hK _ _ ha rfl⟩
end

section
variable {ops : Array Oper} {A : Act} {i : Nat} {w : World}
theorem rq_pick {c x y : Operand} {u : Value} {p : Bool} {r : Value} (hop : (opAt ops i).op = .pick c x y) (hc : A.eval c = u) (hu : u = .bool p) (hr : (if p = true then A.eval x else A.eval y) = r) : (execOp A.eval (opAt ops i)).run Tryz.prog w = .ok (.value r) w := by
  subst hu
  unfold execOp
  simp only [hop, hc]
  subst hr
  cases p <;> kernel_rfl
theorem rq_not {x : Operand} {T : TypeId} {u : Value} {b : Bool} (hop : (opAt ops i).op = .unOp .not T x) (hx : A.eval x = u) (hu : u = .bool b) : (execOp A.eval (opAt ops i)).run Tryz.prog w = .ok (.value (.bool !b)) w := by
  subst hu
  unfold execOp
  simp only [hop, hx]
  cases b <;> kernel_rfl
theorem rq_eql {x y : Operand} {T T' : TypeId} {u u' : Value} {n m : Int} {r : Bool} (hop : (opAt ops i).op = .binOp .eql T x y T') (hx : A.eval x = u) (hu : u = .int .i64 n) (hy : A.eval y = u') (hu' : u' = .int .i64 m) (hr : (n == m) = r) :
    (execOp A.eval (opAt ops i)).run Tryz.prog w = .ok (.value (.bool r)) w := by
  subst hu hu' hr
  unfold execOp
  simp only [hop, hx, hy]
  simp [go_sem]
theorem rq_leq {x y : Operand} {T T' : TypeId} {u u' : Value} {n m : Int} {r : Bool} (hop : (opAt ops i).op = .binOp .leq T x y T') (hx : A.eval x = u) (hu : u = .int .i64 n) (hy : A.eval y = u') (hu' : u' = .int .i64 m) (hr : decide (n ≤ m) = r) :
    (execOp A.eval (opAt ops i)).run Tryz.prog w = .ok (.value (.bool r)) w := by
  subst hu hu' hr
  unfold execOp
  simp only [hop, hx, hy]
  simp [go_sem]
theorem rq_gtr {x y : Operand} {T T' : TypeId} {u u' : Value} {n m : Int} {r : Bool} (hop : (opAt ops i).op = .binOp .gtr T x y T') (hx : A.eval x = u) (hu : u = .int .i64 n) (hy : A.eval y = u') (hu' : u' = .int .i64 m) (hr : decide (n > m) = r) :
    (execOp A.eval (opAt ops i)).run Tryz.prog w = .ok (.value (.bool r)) w := by
  subst hu hu' hr
  unfold execOp
  simp only [hop, hx, hy]
  simp [go_sem]
/-- The length of a text. -/
theorem rq_len {x : Operand} {u : Value} {l : List UInt8} (hop : (opAt ops i).op = .call { callee := .builtin .len, args := #[x], argTypes := #[9] }) (hx : A.eval x = u) (hu : u = str l) :
    (execOp A.eval (opAt ops i)).run Tryz.prog w = .ok (.value (.int .i64 l.length)) w := by
  subst hu
  unfold execOp
  generalize A.eval = E at *
  simp only [hop]
  have h : (Builtin.len_ #[9] (opAt ops i).type #[str l]).run Tryz.prog w = .ok (.int .i64 l.length) w := by
    have : (Builtin.len_ #[9] (opAt ops i).type #[str l]).run Tryz.prog w = .ok (.int .i64 ((⟨l.toArray⟩ : ByteArray).size : Nat)) w := by kernel_rfl
    rw [this]
    rfl
  simp [go_sem, hx, h]
/-- A tree is loaded whole. -/
theorem rq_tree {x : Operand} {u c0 c1 : Value} {b k : Nat} (hop : (opAt ops i).op = .load 31 x) (hx : A.eval x = u) (hu : u = .pointer (some ⟨b, k, none⟩)) (h0 : w.cell? ⟨b, k, none⟩ = some c0) (h1 : w.cell? ⟨b, k + 1, none⟩ = some c1) :
    (execOp A.eval (opAt ops i)).run Tryz.prog w = .ok (.value (.agg #[c0, c1])) w := by
  subst hu
  obtain ⟨d, hd, hr⟩ : ∃ d, Tryz.prog.underlying 31 = some d ∧ d.isRow = true := ⟨_, rfl, rfl⟩
  have hl := run_loadAt_mid w b k 31 [c0, c1] d (fun j v hj => by
    match j, hj with
    | 0, hj => simp at hj; subst hj; exact h0
    | 1, hj => simp at hj; subst hj; exact h1) hd hr (by kernel_rfl)
  unfold execOp
  simp only [hop, hx, Sem.run_bind, hl, Result.andThen_ok, Sem.run_pure]
/-- A tree is stored whole. -/
theorem rq_store {x y : Operand} {u v c0 c1 p0 p1 : Value} {b : Nat} (hop : (opAt ops i).op = .store 31 x y) (hx : A.eval x = u) (hu : u = .pointer (some ⟨b, 0, none⟩)) (hy : A.eval y = v) (hv : v = .agg #[c0, c1])
    (hb : w.heap[b]? = some (.cells #[p0, p1] 31 (0, 0))) (h0 : c0.oneCell' = true) (h1 : c1.oneCell' = true) :
    ∃ w', (execOp A.eval (opAt ops i)).run Tryz.prog w = .ok .skip w' ∧ ExtQ b (.cells #[c0, c1] 31 (0, 0)) w w' ∧ w'.heap[b]? = some (.cells #[c0, c1] 31 (0, 0)) := by
  subst hu hv
  have hth : w.there b 0 2 := fun j hj => by
    rw [Nat.zero_add]
    refine ⟨?_, by simp [World.frozen?, hb]⟩
    match j, hj with
    | 0, _ => rw [cell_of_heap (i := 0) hb]; rfl
    | 1, _ => rw [cell_of_heap (i := 1) hb]; rfl
  have hst : (Instr.storeAt 31 (.pointer (some ⟨b, 0, none⟩)) (.agg #[c0, c1])).run Tryz.prog w = .ok () (w.setCells b 0 [c0, c1]) := run_storeAt_mid w b 0 31 #[c0, c1] hth (by kernel_rfl) (by simp [h0, h1])
  have hfin : (w.setCells b 0 [c0, c1]).heap[b]? = some (.cells #[c0, c1] 31 (0, 0)) := by
    simp [World.setCells, World.setCell, Array.getElem?_modify, hb]
  have hrun : (execOp A.eval (opAt ops i)).run Tryz.prog w = .ok .skip (w.setCells b 0 [c0, c1]) := by
    unfold execOp
    simp only [hop, hx, hy, Sem.run_bind, hst, Result.andThen_ok, Sem.run_pure]
  refine ⟨w.setCells b 0 [c0, c1], hrun, ⟨⟨rfl, rfl, rfl, by simp [World.setCells], fun k hk hne => ?_⟩, fun _ => Or.inr hfin⟩, hfin⟩
  have hkb : b ≠ k := fun e => hne (by rw [e])
  simp [World.setCells, World.setCell, Array.getElem?_modify, hkb]
end
end Go.Proofs.YtlpgoelcadmcfaaGreatDoor

namespace Go.Proofs.YtlpgoelcadmcfaaGreatDoor
open Go.RowKit

set_option maxHeartbeats 4000000
set_option maxRecDepth 100000

/-- What l6fFormula hands back. -/
def MFPost (w : World) (o : Option SX) (e : Ending) (w' : World) : Prop :=
  ∃ s ao n c, e = .returned (.tuple #[.agg #[str s, .slice ao n c], .bool o.isSome]) ∧ After w w' ∧ ∀ t, o = some t → SV w' w.heap.size t (.agg #[str s, .slice ao n c])

theorem s_form_long (w : World) (l : List UInt8) (h : 1000 < l.length) : Calls Tryz.prog 21 #[str l] w (MFPost w (Fm.mform l)) := by
  have e : Fm.mform l = none := by unfold Fm.mform; rw [if_pos h]
  have hsz : (⟨l.toArray⟩ : ByteArray).size = l.length := by show l.toArray.size = _; simp
  have hb : (1000 : Int) < (l.length : Int) := by omega
  rw [e]
  clear e h
  go_enter Tryz.func21, Tryz.ntmps21
  go_wp2_with fail
  exact bodyPost_ret (v := .tuple #[.agg #[.string ⟨#[]⟩, .slice none 0 0], .bool false]) (by simp [results, Tryz.results21, go_sem]) rfl
    ⟨[], none, 0, 0, rfl, by repeat (first | exact After.refl _ | refine After.alloc ?_ _ | refine Below.setCell ?_ (by first | exact Nat.le_refl _ | exact Nat.le_succ _) _), fun t h => by cases h⟩

theorem two_of {w : World} {q : Nat} {a b : Value} {T : TypeId} {fr : Nat × Nat} {x y : Value} (h : ∃ c, w.heap[q]? = some (.cells c T fr) ∧ (c = #[a, b] ∨ c = #[x, y])) : ∃ p0 p1, w.heap[q]? = some (.cells #[p0, p1] T fr) := by
  obtain ⟨c, hc, rfl | rfl⟩ := h
  · exact ⟨_, _, hc⟩
  · exact ⟨_, _, hc⟩

/-- Behind the region: what was read lies as it was; of the old blocks only the result's own was written. -/
theorem fin_form {w w1 W : World} {p ob : Obj} {o : Option SX} {v : Value} (ha : After (w.alloc p) w1) (hs : ∀ t, o = some t → SV w1 (w.heap.size + 1) t v) (hX : ExtQ w.heap.size ob w1 W) :
    After w W ∧ ∀ t, o = some t → SV W w.heap.size t v := by
  have hsz : (w.alloc p).heap.size = w.heap.size + 1 := by simp
  have h1 : w.heap.size + 1 ≤ w1.heap.size := by rw [← hsz]; exact ha.size
  have ha' : After w w1 := (After.new w p).trans ha
  refine ⟨⟨hX.1.os.trans ha'.os, hX.1.tape.trans ha'.tape, hX.1.output.trans ha'.output, Nat.le_trans ha'.size hX.1.size, fun b hb => ?_⟩, fun t ht => ?_⟩
  · rw [hX.1.block b (by omega) (fun e => by injection e with e; omega)]
    exact ha'.block b hb
  · refine ((hs t ht).same fun b hb hl => ?_).less (Nat.le_succ _)
    exact hX.1.block b hl (fun e => by injection e with e; omega)

/-- What is read of the text, and what the three checks answer of it. -/
def FormRead (w : World) (l : List UInt8) (o : Option SX) (e : Ending) (w' : World) : Prop :=
  ∃ (s : List UInt8) (ao : Option Addr) (n c : Nat) (z : Int) (b1 : Bool) (x y : Int), e = .returned (.tuple #[.agg #[str s, .slice ao n c], .int .i64 z]) ∧ After (w.alloc (.cells #[.string ⟨#[]⟩, .slice none 0 0] 31)) w' ∧
     (∀ t, o = some t → SV w' (w.heap.size + 1) t (.agg #[str s, .slice ao n c])) ∧
     (z = (l.length : Int) → ∀ W, ExtQ w.heap.size (.cells #[str s, .slice ao n c] 31 (0, 0)) w' W → Calls Tryz.prog 40 #[.agg #[str s, .slice ao n c]] W fun e w' => e = .returned (.bool b1) ∧ After W w') ∧
     (z = (l.length : Int) → b1 = true → ∀ W, ExtQ w.heap.size (.cells #[str s, .slice ao n c] 31 (0, 0)) w' W → Calls Tryz.prog 33 #[.agg #[str s, .slice ao n c]] W fun e w' => e = .returned (.int .i64 x) ∧ After W w') ∧
     (z = (l.length : Int) → b1 = true → x ≤ 60 → ∀ W, ExtQ w.heap.size (.cells #[str s, .slice ao n c] 31 (0, 0)) w' W → Calls Tryz.prog 41 #[.agg #[str s, .slice ao n c]] W fun e w' => e = .returned (.int .i64 y) ∧ After W w') ∧
     o.isSome = (decide (z = (l.length : Int)) && (b1 && (decide (x ≤ 60) && decide (y ≤ 300))))

theorem s_form_core (w : World) (l : List UInt8) (h : l.length ≤ 1000) (o : Option SX)
   (hr : Calls Tryz.prog 31 #[str l, .int .i64 0, .int .i64 0] (w.alloc (.cells #[.string ⟨#[]⟩, .slice none 0 0] 31)) (FormRead w l o)) : Calls Tryz.prog 21 #[str l] w (MFPost w o) := by
  have hsz : (⟨l.toArray⟩ : ByteArray).size = l.length := by show l.toArray.size = _; simp
  have hb : (l.length : Int) ≤ (1000 : Int) := by omega
  have hq : (w.alloc (.cells #[.string ⟨#[]⟩, .slice none 0 0] 31)).heap[w.heap.size]? = some (.cells #[str [], .slice none 0 0] 31 (0, 0)) := heap_top _ _
  clear h
  unfold FormRead at hr
  go_enter Tryz.func21, Tryz.ntmps21
  go_wp2_with fail
  refine hr.mono ?_
  rintro e w1 ⟨s, ao, n, c, z, b1, x, y, rfl, ha, hsv, hIs, hSz, hWd, ho⟩
  have HO := Lib.hid ho
  clear hr
  have HA := Lib.hid ha
  have HS := Lib.hid hsv
  have HQ0 := Lib.hid (ha.heap hq)
  have HI := Lib.hid hIs
  have HZ := Lib.hid hSz
  have HD := Lib.hid hWd
  have HNE : Hid (w1.heap.size ≠ w.heap.size) := by show _ ≠ _; have := (Array.getElem?_eq_some_iff.1 HQ0.out).1; omega
  clear ha hq hsv hIs hSz hWd ho
  go_wp2_with fail
  rename_i KK hKK
  obtain ⟨Y, hY⟩ : ∃ Y, Y = w1.alloc (.cells #[.string ⟨s.toArray⟩, .slice ao n c] 31) := ⟨_, rfl⟩
  rw [← hY]
  have HYA : Hid (After w1 Y) := by show After _ _; rw [hY]; exact After.new _ _
  have HT : Hid (Y.drew.heap[w1.heap.size]? = some (.cells #[str s, .slice ao n c] 31 (0, 0))) := by show Y.heap[_]? = _; rw [hY]; exact heap_top _ _
  have HQ : Hid (Y.drew.heap[w.heap.size]? = some (.cells #[str [], .slice none 0 0] 31 (0, 0))) := HYA.out.heap HQ0.out
  have HX : Hid (∀ W, ExtQ w.heap.size (.cells #[str s, .slice ao n c] 31 (0, 0)) Y.drew W → ExtQ w.heap.size (.cells #[str s, .slice ao n c] 31 (0, 0)) w1 W) := fun W hW => (ExtQ.of (HYA.out.trans (After.refl Y).drew)).trans _ _ _ hW
  clear hY
  by_cases hz : z = (l.length : Int)
  case neg =>
    have hz2 : (z == ((l.length : Nat) : Int)) = false := beq_eq_false_iff_ne.2 hz
    
    refine wp_region_regB (by kernel_rfl) (by kernel_rfl) (ExtQ w.heap.size (.cells #[str s, .slice ao n c] 31 (0, 0))) (fun w => (ExtQ.refl _ _ w)) ExtQ.trans
      (yqs [.lit (.agg #[str s, .slice ao n c]), .lit (.int .i64 z), .lit (str l), .lit (.int .i64 (l.length : Nat)), .lit (.bool false), .lit (.bool false), .free, .free, .lit (.bool false), .lit (.bool false), .free, .free, .free, .lit (.bool false), .lit (.bool false), .free, .free, .free, .lit (.bool false), .fact (fun W => W.heap[w.heap.size]? = some (.cells #[str s, .slice ao n c] 31 (0, 0))), .lit (.bool false)]) (yqs_later ?_) (lt21 ?_ ?_ ?_ ?_ ?_ ?_ ?_ ?_ ?_ ?_ ?_ ?_ ?_ ?_ ?_ ?_ ?_ ?_ ?_ ?_ ?_) ?_
    · intro y hy
      simp only [List.mem_cons, List.not_mem_nil, or_false] at hy
      rcases hy with rfl | rfl | rfl | rfl | rfl | rfl | rfl | rfl | rfl | rfl | rfl | rfl | rfl | rfl | rfl | rfl | rfl | rfl | rfl | rfl | rfl
      all_goals first | exact trivial | exact fun _ _ h k => ExtQ.kept h k
    · intro vs W hE hd K hK
      exact dq_val (u := .agg #[str s, .slice ao n c]) (v := .agg #[str s, .slice ao n c]) (ExtQ.refl _ _ _) (by kernel_rfl) (wantedq (by kernel_rfl)) (rq_tree (x := .tmp 4) (u := .pointer (some ⟨w1.heap.size, 0, none⟩)) (b := w1.heap.size) (k := 0) (by kernel_rfl) (by kernel_rfl) rfl (cell_of_heap (i := 0) (hE.heap HT.out HNE.out)) (cell_of_heap (i := 1) (hE.heap HT.out HNE.out))) rfl hK
    · intro vs W hE hd K hK
      exact dq_val (u := .int .i64 z) (v := .int .i64 z) (ExtQ.refl _ _ _) (by kernel_rfl) (wantedq (by kernel_rfl)) (by kernel_rfl) rfl hK
    · intro vs W hE hd K hK
      exact dq_val (u := str l) (v := str l) (ExtQ.refl _ _ _) (by kernel_rfl) (wantedq (by kernel_rfl)) (by kernel_rfl) rfl hK
    · intro vs W hE hd K hK
      exact dq_val (u := .int .i64 (l.length : Nat)) (v := .int .i64 (l.length : Nat)) (ExtQ.refl _ _ _) (by kernel_rfl) (wantedq (by kernel_rfl)) (rq_len (x := .tmp 17) (u := vs 2) (l := l) (by kernel_rfl) (by kernel_rfl) (hd 2 (by kernel_rfl))) rfl hK
    · intro vs W hE hd K hK
      exact dq_val (u := .bool false) (v := .bool false) (ExtQ.refl _ _ _) (by kernel_rfl) (wantedq (by kernel_rfl)) (rq_eql (T := 3) (T' := 3) (x := .tmp 16) (y := .tmp 18) (u := vs 1) (u' := vs 3) (n := z) (m := (l.length : Nat)) (by kernel_rfl) (by kernel_rfl) (hd 1 (by kernel_rfl)) (by kernel_rfl) (hd 3 (by kernel_rfl)) hz2) rfl hK
    · intro vs W hE hd K hK
      exact dq_val (u := vs 4) (v := .bool false) (ExtQ.refl _ _ _) (by kernel_rfl) (wantedq (by kernel_rfl)) (by kernel_rfl) (hd 4 (by kernel_rfl)) hK
    · intro vs W hE hd K hK
      exact dq_off (ExtQ.refl _ _ _) (by kernel_rfl) (wantedq_off (j := 5) (b := true) (c := false) (u := vs 5) (by kernel_rfl) (by kernel_rfl) (hd 5 (by kernel_rfl)) (by decide)) hK
    · intro vs W hE hd K hK
      exact dq_off (ExtQ.refl _ _ _) (by kernel_rfl) (wantedq_off (j := 5) (b := true) (c := false) (u := vs 5) (by kernel_rfl) (by kernel_rfl) (hd 5 (by kernel_rfl)) (by decide)) hK
    · intro vs W hE hd K hK
      exact dq_val (u := .bool false) (v := .bool false) (ExtQ.refl _ _ _) (by kernel_rfl) (wantedq (by kernel_rfl)) (rq_pick (c := .tmp 20) (x := .tmp 22) (y := .const (.bool false)) (u := vs 5) (p := false) (r := .bool false) (by kernel_rfl) (by kernel_rfl) (hd 5 (by kernel_rfl)) (by rw [if_neg (by decide)]; exact Eq.trans (by kernel_rfl : _ = .bool false) rfl)) rfl hK
    · intro vs W hE hd K hK
      exact dq_val (u := vs 8) (v := .bool false) (ExtQ.refl _ _ _) (by kernel_rfl) (wantedq (by kernel_rfl)) (by kernel_rfl) (hd 8 (by kernel_rfl)) hK
    · intro vs W hE hd K hK
      exact dq_off (ExtQ.refl _ _ _) (by kernel_rfl) (wantedq_off (j := 9) (b := true) (c := false) (u := vs 9) (by kernel_rfl) (by kernel_rfl) (hd 9 (by kernel_rfl)) (by decide)) hK
    · intro vs W hE hd K hK
      exact dq_off (ExtQ.refl _ _ _) (by kernel_rfl) (wantedq_off (j := 9) (b := true) (c := false) (u := vs 9) (by kernel_rfl) (by kernel_rfl) (hd 9 (by kernel_rfl)) (by decide)) hK
    · intro vs W hE hd K hK
      exact dq_off (ExtQ.refl _ _ _) (by kernel_rfl) (wantedq_off (j := 9) (b := true) (c := false) (u := vs 9) (by kernel_rfl) (by kernel_rfl) (hd 9 (by kernel_rfl)) (by decide)) hK
    · intro vs W hE hd K hK
      exact dq_val (u := .bool false) (v := .bool false) (ExtQ.refl _ _ _) (by kernel_rfl) (wantedq (by kernel_rfl)) (rq_pick (c := .tmp 24) (x := .tmp 27) (y := .const (.bool false)) (u := vs 9) (p := false) (r := .bool false) (by kernel_rfl) (by kernel_rfl) (hd 9 (by kernel_rfl)) (by rw [if_neg (by decide)]; exact Eq.trans (by kernel_rfl : _ = .bool false) rfl)) rfl hK
    · intro vs W hE hd K hK
      exact dq_val (u := vs 13) (v := .bool false) (ExtQ.refl _ _ _) (by kernel_rfl) (wantedq (by kernel_rfl)) (by kernel_rfl) (hd 13 (by kernel_rfl)) hK
    · intro vs W hE hd K hK
      exact dq_off (ExtQ.refl _ _ _) (by kernel_rfl) (wantedq_off (j := 14) (b := true) (c := false) (u := vs 14) (by kernel_rfl) (by kernel_rfl) (hd 14 (by kernel_rfl)) (by decide)) hK
    · intro vs W hE hd K hK
      exact dq_off (ExtQ.refl _ _ _) (by kernel_rfl) (wantedq_off (j := 14) (b := true) (c := false) (u := vs 14) (by kernel_rfl) (by kernel_rfl) (hd 14 (by kernel_rfl)) (by decide)) hK
    · intro vs W hE hd K hK
      exact dq_off (ExtQ.refl _ _ _) (by kernel_rfl) (wantedq_off (j := 14) (b := true) (c := false) (u := vs 14) (by kernel_rfl) (by kernel_rfl) (hd 14 (by kernel_rfl)) (by decide)) hK
    · intro vs W hE hd K hK
      exact dq_val (u := .bool false) (v := .bool false) (ExtQ.refl _ _ _) (by kernel_rfl) (wantedq (by kernel_rfl)) (rq_pick (c := .tmp 29) (x := .tmp 32) (y := .const (.bool false)) (u := vs 14) (p := false) (r := .bool false) (by kernel_rfl) (by kernel_rfl) (hd 14 (by kernel_rfl)) (by rw [if_neg (by decide)]; exact Eq.trans (by kernel_rfl : _ = .bool false) rfl)) rfl hK
    · intro vs W hE hd K hK
      have hp0 : ∃ p0 p1, W.heap[w.heap.size]? = some (.cells #[p0, p1] 31 (0, 0)) := two_of (hE.cells HQ.out)
      obtain ⟨p0, p1, hp⟩ := hp0
      obtain ⟨W', hrun, hext, hfin⟩ := rq_store (ops := _) (A := frame _ _ vs) (i := 19) (x := .tmp 2) (y := .tmp 15) (u := .pointer (some ⟨w.heap.size, 0, none⟩)) (v := vs 0) (b := w.heap.size) (by kernel_rfl) (by kernel_rfl) rfl (by kernel_rfl) (hd 0 (by kernel_rfl)) hp rfl rfl
      exact dq_skip hext (by kernel_rfl) (wantedq (by kernel_rfl)) hrun _ hfin hK
    · intro vs W hE hd K hK
      exact dq_val (u := vs 18) (v := .bool false) (ExtQ.refl _ _ _) (by kernel_rfl) (wantedq (by kernel_rfl)) (by kernel_rfl) (hd 18 (by kernel_rfl)) hK
    intro vs W hE hd
    have ev0 : vs 0 = .agg #[str s, .slice ao n c] := hd 0 (by decide)
    have ev1 : vs 1 = .int .i64 z := hd 1 (by decide)
    have ev2 : vs 2 = str l := hd 2 (by decide)
    have ev3 : vs 3 = .int .i64 (l.length : Nat) := hd 3 (by decide)
    have ev4 : vs 4 = .bool false := hd 4 (by decide)
    have ev5 : vs 5 = .bool false := hd 5 (by decide)
    have ev8 : vs 8 = .bool false := hd 8 (by decide)
    have ev9 : vs 9 = .bool false := hd 9 (by decide)
    have ev13 : vs 13 = .bool false := hd 13 (by decide)
    have ev14 : vs 14 = .bool false := hd 14 (by decide)
    have ev18 : vs 18 = .bool false := hd 18 (by decide)
    have hst19 : (fun W => W.heap[w.heap.size]? = some (.cells #[str s, .slice ao n c] 31 (0, 0))) W := hd 19 (by decide)
    have ev20 : vs 20 = .bool false := hd 20 (by decide)
    refine hKK _ _ ?_
    rw [frame_is (⟨#[str l, undef, .pointer (some ⟨w.heap.size, 0, none⟩), vs 20, .pointer (some ⟨w1.heap.size, 0, none⟩), .int .i64 z, str l, .int .i64 (l.length : Nat), .bool (decide (1000 < (l.length : Int))), undef, .tuple #[.agg #[str s, .slice ao n c], .int .i64 z], str l, .tuple #[.agg #[str s, .slice ao n c], .int .i64 z], .agg #[str s, .slice ao n c], .int .i64 z, vs 0, vs 1, vs 2, vs 3, vs 4, vs 5, vs 6, vs 7, vs 8, vs 9, vs 10, vs 11, vs 12, vs 13, vs 14, vs 15, vs 16, vs 17, vs 18], []⟩ : Act) (by kernel_rfl)]
    rw [ev0, ev1, ev2, ev3, ev4, ev5, ev8, ev9, ev13, ev14, ev18, ev20]
    clear hd ev0 ev1 ev2 ev3 ev4 ev5 ev8 ev9 ev13 ev14 ev18 ev20
    generalize vs 6 = y6 at *
    generalize vs 7 = y7 at *
    generalize vs 10 = y10 at *
    generalize vs 11 = y11 at *
    generalize vs 12 = y12 at *
    generalize vs 15 = y15 at *
    generalize vs 16 = y16 at *
    generalize vs 17 = y17 at *
    have HFIN : Hid (After w W ∧ ∀ t, o = some t → SV W w.heap.size t (.agg #[str s, .slice ao n c])) := fin_form HA.out HS.out (HX.out W hE)
    have k0 : W.cell? ⟨w.heap.size, 0, none⟩ = some (str s) := cell_of_heap (i := 0) hst19
    have k1 : W.cell? ⟨w.heap.size, 1, none⟩ = some (.slice ao n c) := cell_of_heap (i := 1) hst19
    clear hst19 hE
    go_wp2_with fail
    exact bodyPost_ret (v := .tuple #[.agg #[str s, .slice ao n c], .bool false]) (by simp [results, Tryz.results21, go_sem, k0, k1]) rfl
      ⟨s, ao, n, c, by rw [HO.out]; rw [decide_eq_false hz]; rfl, HFIN.out.1, HFIN.out.2⟩
  have hz2 : (z == ((l.length : Nat) : Int)) = true := by rw [hz]; simp
  have HZE := Lib.hid hz
  clear hz
  cases b1 with
  | false =>
    have hIs := fun W (hW : ExtQ w.heap.size (.cells #[str s, .slice ao n c] 31 (0, 0)) Y.drew W) => HI.out HZE.out W (HX.out W hW)
    refine wp_region_regB (by kernel_rfl) (by kernel_rfl) (ExtQ w.heap.size (.cells #[str s, .slice ao n c] 31 (0, 0))) (fun w => (ExtQ.refl _ _ w)) ExtQ.trans
      (yqs [.lit (.agg #[str s, .slice ao n c]), .lit (.int .i64 z), .lit (str l), .lit (.int .i64 (l.length : Nat)), .lit (.bool true), .lit (.bool true), .lit (.agg #[str s, .slice ao n c]), .lit (.bool false), .lit (.bool false), .lit (.bool false), .free, .free, .free, .lit (.bool false), .lit (.bool false), .free, .free, .free, .lit (.bool false), .fact (fun W => W.heap[w.heap.size]? = some (.cells #[str s, .slice ao n c] 31 (0, 0))), .lit (.bool false)]) (yqs_later ?_) (lt21 ?_ ?_ ?_ ?_ ?_ ?_ ?_ ?_ ?_ ?_ ?_ ?_ ?_ ?_ ?_ ?_ ?_ ?_ ?_ ?_ ?_) ?_
    · intro y hy
      simp only [List.mem_cons, List.not_mem_nil, or_false] at hy
      rcases hy with rfl | rfl | rfl | rfl | rfl | rfl | rfl | rfl | rfl | rfl | rfl | rfl | rfl | rfl | rfl | rfl | rfl | rfl | rfl | rfl | rfl
      all_goals first | exact trivial | exact fun _ _ h k => ExtQ.kept h k
    · intro vs W hE hd K hK
      exact dq_val (u := .agg #[str s, .slice ao n c]) (v := .agg #[str s, .slice ao n c]) (ExtQ.refl _ _ _) (by kernel_rfl) (wantedq (by kernel_rfl)) (rq_tree (x := .tmp 4) (u := .pointer (some ⟨w1.heap.size, 0, none⟩)) (b := w1.heap.size) (k := 0) (by kernel_rfl) (by kernel_rfl) rfl (cell_of_heap (i := 0) (hE.heap HT.out HNE.out)) (cell_of_heap (i := 1) (hE.heap HT.out HNE.out))) rfl hK
    · intro vs W hE hd K hK
      exact dq_val (u := .int .i64 z) (v := .int .i64 z) (ExtQ.refl _ _ _) (by kernel_rfl) (wantedq (by kernel_rfl)) (by kernel_rfl) rfl hK
    · intro vs W hE hd K hK
      exact dq_val (u := str l) (v := str l) (ExtQ.refl _ _ _) (by kernel_rfl) (wantedq (by kernel_rfl)) (by kernel_rfl) rfl hK
    · intro vs W hE hd K hK
      exact dq_val (u := .int .i64 (l.length : Nat)) (v := .int .i64 (l.length : Nat)) (ExtQ.refl _ _ _) (by kernel_rfl) (wantedq (by kernel_rfl)) (rq_len (x := .tmp 17) (u := vs 2) (l := l) (by kernel_rfl) (by kernel_rfl) (hd 2 (by kernel_rfl))) rfl hK
    · intro vs W hE hd K hK
      exact dq_val (u := .bool true) (v := .bool true) (ExtQ.refl _ _ _) (by kernel_rfl) (wantedq (by kernel_rfl)) (rq_eql (T := 3) (T' := 3) (x := .tmp 16) (y := .tmp 18) (u := vs 1) (u' := vs 3) (n := z) (m := (l.length : Nat)) (by kernel_rfl) (by kernel_rfl) (hd 1 (by kernel_rfl)) (by kernel_rfl) (hd 3 (by kernel_rfl)) hz2) rfl hK
    · intro vs W hE hd K hK
      exact dq_val (u := vs 4) (v := .bool true) (ExtQ.refl _ _ _) (by kernel_rfl) (wantedq (by kernel_rfl)) (by kernel_rfl) (hd 4 (by kernel_rfl)) hK
    · intro vs W hE hd K hK
      exact dq_val (u := .agg #[str s, .slice ao n c]) (v := .agg #[str s, .slice ao n c]) (ExtQ.refl _ _ _) (by kernel_rfl) (wantedq_on (j := 5) (b := true) (u := vs 5) (by kernel_rfl) (by kernel_rfl) (hd 5 (by kernel_rfl))) (rq_tree (x := .tmp 4) (u := .pointer (some ⟨w1.heap.size, 0, none⟩)) (b := w1.heap.size) (k := 0) (by kernel_rfl) (by kernel_rfl) rfl (cell_of_heap (i := 0) (hE.heap HT.out HNE.out)) (cell_of_heap (i := 1) (hE.heap HT.out HNE.out))) rfl hK
    · intro vs W hE hd K hK
      exact dq_call (v := .bool false) (f := 40) (args := #[vs 6]) (by kernel_rfl) (wantedq_on (j := 5) (b := true) (u := vs 5) (by kernel_rfl) (by kernel_rfl) (hd 5 (by kernel_rfl))) (by kernel_rfl) (by rw [show vs 6 = .agg #[str s, .slice ao n c] from hd 6 (by kernel_rfl)]; exact (hIs W hE).mono fun e w' h => ⟨h.1, ExtQ.of h.2⟩) hK
    · intro vs W hE hd K hK
      exact dq_val (u := .bool false) (v := .bool false) (ExtQ.refl _ _ _) (by kernel_rfl) (wantedq (by kernel_rfl)) (rq_pick (c := .tmp 20) (x := .tmp 22) (y := .const (.bool false)) (u := vs 5) (p := true) (r := .bool false) (by kernel_rfl) (by kernel_rfl) (hd 5 (by kernel_rfl)) (by rw [if_pos rfl]; exact Eq.trans (by kernel_rfl : _ = vs 7) (hd 7 (by kernel_rfl)))) rfl hK
    · intro vs W hE hd K hK
      exact dq_val (u := vs 8) (v := .bool false) (ExtQ.refl _ _ _) (by kernel_rfl) (wantedq (by kernel_rfl)) (by kernel_rfl) (hd 8 (by kernel_rfl)) hK
    · intro vs W hE hd K hK
      exact dq_off (ExtQ.refl _ _ _) (by kernel_rfl) (wantedq_off (j := 9) (b := true) (c := false) (u := vs 9) (by kernel_rfl) (by kernel_rfl) (hd 9 (by kernel_rfl)) (by decide)) hK
    · intro vs W hE hd K hK
      exact dq_off (ExtQ.refl _ _ _) (by kernel_rfl) (wantedq_off (j := 9) (b := true) (c := false) (u := vs 9) (by kernel_rfl) (by kernel_rfl) (hd 9 (by kernel_rfl)) (by decide)) hK
    · intro vs W hE hd K hK
      exact dq_off (ExtQ.refl _ _ _) (by kernel_rfl) (wantedq_off (j := 9) (b := true) (c := false) (u := vs 9) (by kernel_rfl) (by kernel_rfl) (hd 9 (by kernel_rfl)) (by decide)) hK
    · intro vs W hE hd K hK
      exact dq_val (u := .bool false) (v := .bool false) (ExtQ.refl _ _ _) (by kernel_rfl) (wantedq (by kernel_rfl)) (rq_pick (c := .tmp 24) (x := .tmp 27) (y := .const (.bool false)) (u := vs 9) (p := false) (r := .bool false) (by kernel_rfl) (by kernel_rfl) (hd 9 (by kernel_rfl)) (by rw [if_neg (by decide)]; exact Eq.trans (by kernel_rfl : _ = .bool false) rfl)) rfl hK
    · intro vs W hE hd K hK
      exact dq_val (u := vs 13) (v := .bool false) (ExtQ.refl _ _ _) (by kernel_rfl) (wantedq (by kernel_rfl)) (by kernel_rfl) (hd 13 (by kernel_rfl)) hK
    · intro vs W hE hd K hK
      exact dq_off (ExtQ.refl _ _ _) (by kernel_rfl) (wantedq_off (j := 14) (b := true) (c := false) (u := vs 14) (by kernel_rfl) (by kernel_rfl) (hd 14 (by kernel_rfl)) (by decide)) hK
    · intro vs W hE hd K hK
      exact dq_off (ExtQ.refl _ _ _) (by kernel_rfl) (wantedq_off (j := 14) (b := true) (c := false) (u := vs 14) (by kernel_rfl) (by kernel_rfl) (hd 14 (by kernel_rfl)) (by decide)) hK
    · intro vs W hE hd K hK
      exact dq_off (ExtQ.refl _ _ _) (by kernel_rfl) (wantedq_off (j := 14) (b := true) (c := false) (u := vs 14) (by kernel_rfl) (by kernel_rfl) (hd 14 (by kernel_rfl)) (by decide)) hK
    · intro vs W hE hd K hK
      exact dq_val (u := .bool false) (v := .bool false) (ExtQ.refl _ _ _) (by kernel_rfl) (wantedq (by kernel_rfl)) (rq_pick (c := .tmp 29) (x := .tmp 32) (y := .const (.bool false)) (u := vs 14) (p := false) (r := .bool false) (by kernel_rfl) (by kernel_rfl) (hd 14 (by kernel_rfl)) (by rw [if_neg (by decide)]; exact Eq.trans (by kernel_rfl : _ = .bool false) rfl)) rfl hK
    · intro vs W hE hd K hK
      have hp0 : ∃ p0 p1, W.heap[w.heap.size]? = some (.cells #[p0, p1] 31 (0, 0)) := two_of (hE.cells HQ.out)
      obtain ⟨p0, p1, hp⟩ := hp0
      obtain ⟨W', hrun, hext, hfin⟩ := rq_store (ops := _) (A := frame _ _ vs) (i := 19) (x := .tmp 2) (y := .tmp 15) (u := .pointer (some ⟨w.heap.size, 0, none⟩)) (v := vs 0) (b := w.heap.size) (by kernel_rfl) (by kernel_rfl) rfl (by kernel_rfl) (hd 0 (by kernel_rfl)) hp rfl rfl
      exact dq_skip hext (by kernel_rfl) (wantedq (by kernel_rfl)) hrun _ hfin hK
    · intro vs W hE hd K hK
      exact dq_val (u := vs 18) (v := .bool false) (ExtQ.refl _ _ _) (by kernel_rfl) (wantedq (by kernel_rfl)) (by kernel_rfl) (hd 18 (by kernel_rfl)) hK
    intro vs W hE hd
    have ev0 : vs 0 = .agg #[str s, .slice ao n c] := hd 0 (by decide)
    have ev1 : vs 1 = .int .i64 z := hd 1 (by decide)
    have ev2 : vs 2 = str l := hd 2 (by decide)
    have ev3 : vs 3 = .int .i64 (l.length : Nat) := hd 3 (by decide)
    have ev4 : vs 4 = .bool true := hd 4 (by decide)
    have ev5 : vs 5 = .bool true := hd 5 (by decide)
    have ev6 : vs 6 = .agg #[str s, .slice ao n c] := hd 6 (by decide)
    have ev7 : vs 7 = .bool false := hd 7 (by decide)
    have ev8 : vs 8 = .bool false := hd 8 (by decide)
    have ev9 : vs 9 = .bool false := hd 9 (by decide)
    have ev13 : vs 13 = .bool false := hd 13 (by decide)
    have ev14 : vs 14 = .bool false := hd 14 (by decide)
    have ev18 : vs 18 = .bool false := hd 18 (by decide)
    have hst19 : (fun W => W.heap[w.heap.size]? = some (.cells #[str s, .slice ao n c] 31 (0, 0))) W := hd 19 (by decide)
    have ev20 : vs 20 = .bool false := hd 20 (by decide)
    refine hKK _ _ ?_
    rw [frame_is (⟨#[str l, undef, .pointer (some ⟨w.heap.size, 0, none⟩), vs 20, .pointer (some ⟨w1.heap.size, 0, none⟩), .int .i64 z, str l, .int .i64 (l.length : Nat), .bool (decide (1000 < (l.length : Int))), undef, .tuple #[.agg #[str s, .slice ao n c], .int .i64 z], str l, .tuple #[.agg #[str s, .slice ao n c], .int .i64 z], .agg #[str s, .slice ao n c], .int .i64 z, vs 0, vs 1, vs 2, vs 3, vs 4, vs 5, vs 6, vs 7, vs 8, vs 9, vs 10, vs 11, vs 12, vs 13, vs 14, vs 15, vs 16, vs 17, vs 18], []⟩ : Act) (by kernel_rfl)]
    rw [ev0, ev1, ev2, ev3, ev4, ev5, ev6, ev7, ev8, ev9, ev13, ev14, ev18, ev20]
    clear hd ev0 ev1 ev2 ev3 ev4 ev5 ev6 ev7 ev8 ev9 ev13 ev14 ev18 ev20
    generalize vs 10 = y10 at *
    generalize vs 11 = y11 at *
    generalize vs 12 = y12 at *
    generalize vs 15 = y15 at *
    generalize vs 16 = y16 at *
    generalize vs 17 = y17 at *
    have HFIN : Hid (After w W ∧ ∀ t, o = some t → SV W w.heap.size t (.agg #[str s, .slice ao n c])) := fin_form HA.out HS.out (HX.out W hE)
    have k0 : W.cell? ⟨w.heap.size, 0, none⟩ = some (str s) := cell_of_heap (i := 0) hst19
    have k1 : W.cell? ⟨w.heap.size, 1, none⟩ = some (.slice ao n c) := cell_of_heap (i := 1) hst19
    clear hst19 hE
    go_wp2_with fail
    exact bodyPost_ret (v := .tuple #[.agg #[str s, .slice ao n c], .bool false]) (by simp [results, Tryz.results21, go_sem, k0, k1]) rfl
      ⟨s, ao, n, c, by rw [HO.out]; simp, HFIN.out.1, HFIN.out.2⟩
  | true =>
    by_cases hx : x ≤ 60
    case neg =>
      have hx2 : decide (x ≤ 60) = false := decide_eq_false hx
      have hIs := fun W (hW : ExtQ w.heap.size (.cells #[str s, .slice ao n c] 31 (0, 0)) Y.drew W) => HI.out HZE.out W (HX.out W hW)
      have hSz := fun W (hW : ExtQ w.heap.size (.cells #[str s, .slice ao n c] 31 (0, 0)) Y.drew W) => HZ.out HZE.out rfl W (HX.out W hW)
      refine wp_region_regB (by kernel_rfl) (by kernel_rfl) (ExtQ w.heap.size (.cells #[str s, .slice ao n c] 31 (0, 0))) (fun w => (ExtQ.refl _ _ w)) ExtQ.trans
        (yqs [.lit (.agg #[str s, .slice ao n c]), .lit (.int .i64 z), .lit (str l), .lit (.int .i64 (l.length : Nat)), .lit (.bool true), .lit (.bool true), .lit (.agg #[str s, .slice ao n c]), .lit (.bool true), .lit (.bool true), .lit (.bool true), .lit (.agg #[str s, .slice ao n c]), .lit (.int .i64 x), .lit (.bool false), .lit (.bool false), .lit (.bool false), .free, .free, .free, .lit (.bool false), .fact (fun W => W.heap[w.heap.size]? = some (.cells #[str s, .slice ao n c] 31 (0, 0))), .lit (.bool false)]) (yqs_later ?_) (lt21 ?_ ?_ ?_ ?_ ?_ ?_ ?_ ?_ ?_ ?_ ?_ ?_ ?_ ?_ ?_ ?_ ?_ ?_ ?_ ?_ ?_) ?_
      · intro y hy
        simp only [List.mem_cons, List.not_mem_nil, or_false] at hy
        rcases hy with rfl | rfl | rfl | rfl | rfl | rfl | rfl | rfl | rfl | rfl | rfl | rfl | rfl | rfl | rfl | rfl | rfl | rfl | rfl | rfl | rfl
        all_goals first | exact trivial | exact fun _ _ h k => ExtQ.kept h k
      · intro vs W hE hd K hK
        exact dq_val (u := .agg #[str s, .slice ao n c]) (v := .agg #[str s, .slice ao n c]) (ExtQ.refl _ _ _) (by kernel_rfl) (wantedq (by kernel_rfl)) (rq_tree (x := .tmp 4) (u := .pointer (some ⟨w1.heap.size, 0, none⟩)) (b := w1.heap.size) (k := 0) (by kernel_rfl) (by kernel_rfl) rfl (cell_of_heap (i := 0) (hE.heap HT.out HNE.out)) (cell_of_heap (i := 1) (hE.heap HT.out HNE.out))) rfl hK
      · intro vs W hE hd K hK
        exact dq_val (u := .int .i64 z) (v := .int .i64 z) (ExtQ.refl _ _ _) (by kernel_rfl) (wantedq (by kernel_rfl)) (by kernel_rfl) rfl hK
      · intro vs W hE hd K hK
        exact dq_val (u := str l) (v := str l) (ExtQ.refl _ _ _) (by kernel_rfl) (wantedq (by kernel_rfl)) (by kernel_rfl) rfl hK
      · intro vs W hE hd K hK
        exact dq_val (u := .int .i64 (l.length : Nat)) (v := .int .i64 (l.length : Nat)) (ExtQ.refl _ _ _) (by kernel_rfl) (wantedq (by kernel_rfl)) (rq_len (x := .tmp 17) (u := vs 2) (l := l) (by kernel_rfl) (by kernel_rfl) (hd 2 (by kernel_rfl))) rfl hK
      · intro vs W hE hd K hK
        exact dq_val (u := .bool true) (v := .bool true) (ExtQ.refl _ _ _) (by kernel_rfl) (wantedq (by kernel_rfl)) (rq_eql (T := 3) (T' := 3) (x := .tmp 16) (y := .tmp 18) (u := vs 1) (u' := vs 3) (n := z) (m := (l.length : Nat)) (by kernel_rfl) (by kernel_rfl) (hd 1 (by kernel_rfl)) (by kernel_rfl) (hd 3 (by kernel_rfl)) hz2) rfl hK
      · intro vs W hE hd K hK
        exact dq_val (u := vs 4) (v := .bool true) (ExtQ.refl _ _ _) (by kernel_rfl) (wantedq (by kernel_rfl)) (by kernel_rfl) (hd 4 (by kernel_rfl)) hK
      · intro vs W hE hd K hK
        exact dq_val (u := .agg #[str s, .slice ao n c]) (v := .agg #[str s, .slice ao n c]) (ExtQ.refl _ _ _) (by kernel_rfl) (wantedq_on (j := 5) (b := true) (u := vs 5) (by kernel_rfl) (by kernel_rfl) (hd 5 (by kernel_rfl))) (rq_tree (x := .tmp 4) (u := .pointer (some ⟨w1.heap.size, 0, none⟩)) (b := w1.heap.size) (k := 0) (by kernel_rfl) (by kernel_rfl) rfl (cell_of_heap (i := 0) (hE.heap HT.out HNE.out)) (cell_of_heap (i := 1) (hE.heap HT.out HNE.out))) rfl hK
      · intro vs W hE hd K hK
        exact dq_call (v := .bool true) (f := 40) (args := #[vs 6]) (by kernel_rfl) (wantedq_on (j := 5) (b := true) (u := vs 5) (by kernel_rfl) (by kernel_rfl) (hd 5 (by kernel_rfl))) (by kernel_rfl) (by rw [show vs 6 = .agg #[str s, .slice ao n c] from hd 6 (by kernel_rfl)]; exact (hIs W hE).mono fun e w' h => ⟨h.1, ExtQ.of h.2⟩) hK
      · intro vs W hE hd K hK
        exact dq_val (u := .bool true) (v := .bool true) (ExtQ.refl _ _ _) (by kernel_rfl) (wantedq (by kernel_rfl)) (rq_pick (c := .tmp 20) (x := .tmp 22) (y := .const (.bool false)) (u := vs 5) (p := true) (r := .bool true) (by kernel_rfl) (by kernel_rfl) (hd 5 (by kernel_rfl)) (by rw [if_pos rfl]; exact Eq.trans (by kernel_rfl : _ = vs 7) (hd 7 (by kernel_rfl)))) rfl hK
      · intro vs W hE hd K hK
        exact dq_val (u := vs 8) (v := .bool true) (ExtQ.refl _ _ _) (by kernel_rfl) (wantedq (by kernel_rfl)) (by kernel_rfl) (hd 8 (by kernel_rfl)) hK
      · intro vs W hE hd K hK
        exact dq_val (u := .agg #[str s, .slice ao n c]) (v := .agg #[str s, .slice ao n c]) (ExtQ.refl _ _ _) (by kernel_rfl) (wantedq_on (j := 9) (b := true) (u := vs 9) (by kernel_rfl) (by kernel_rfl) (hd 9 (by kernel_rfl))) (rq_tree (x := .tmp 4) (u := .pointer (some ⟨w1.heap.size, 0, none⟩)) (b := w1.heap.size) (k := 0) (by kernel_rfl) (by kernel_rfl) rfl (cell_of_heap (i := 0) (hE.heap HT.out HNE.out)) (cell_of_heap (i := 1) (hE.heap HT.out HNE.out))) rfl hK
      · intro vs W hE hd K hK
        exact dq_call (v := .int .i64 x) (f := 33) (args := #[vs 10]) (by kernel_rfl) (wantedq_on (j := 9) (b := true) (u := vs 9) (by kernel_rfl) (by kernel_rfl) (hd 9 (by kernel_rfl))) (by kernel_rfl) (by rw [show vs 10 = .agg #[str s, .slice ao n c] from hd 10 (by kernel_rfl)]; exact (hSz W hE).mono fun e w' h => ⟨h.1, ExtQ.of h.2⟩) hK
      · intro vs W hE hd K hK
        exact dq_val (u := .bool false) (v := .bool false) (ExtQ.refl _ _ _) (by kernel_rfl) (wantedq_on (j := 9) (b := true) (u := vs 9) (by kernel_rfl) (by kernel_rfl) (hd 9 (by kernel_rfl))) (rq_leq (T := 3) (T' := 3) (x := .tmp 26) (y := .const (.int .i64 60)) (u := vs 11) (u' := .int .i64 60) (n := x) (m := 60) (by kernel_rfl) (by kernel_rfl) (hd 11 (by kernel_rfl)) (by kernel_rfl) rfl hx2) rfl hK
      · intro vs W hE hd K hK
        exact dq_val (u := .bool false) (v := .bool false) (ExtQ.refl _ _ _) (by kernel_rfl) (wantedq (by kernel_rfl)) (rq_pick (c := .tmp 24) (x := .tmp 27) (y := .const (.bool false)) (u := vs 9) (p := true) (r := .bool false) (by kernel_rfl) (by kernel_rfl) (hd 9 (by kernel_rfl)) (by rw [if_pos rfl]; exact Eq.trans (by kernel_rfl : _ = vs 12) (hd 12 (by kernel_rfl)))) rfl hK
      · intro vs W hE hd K hK
        exact dq_val (u := vs 13) (v := .bool false) (ExtQ.refl _ _ _) (by kernel_rfl) (wantedq (by kernel_rfl)) (by kernel_rfl) (hd 13 (by kernel_rfl)) hK
      · intro vs W hE hd K hK
        exact dq_off (ExtQ.refl _ _ _) (by kernel_rfl) (wantedq_off (j := 14) (b := true) (c := false) (u := vs 14) (by kernel_rfl) (by kernel_rfl) (hd 14 (by kernel_rfl)) (by decide)) hK
      · intro vs W hE hd K hK
        exact dq_off (ExtQ.refl _ _ _) (by kernel_rfl) (wantedq_off (j := 14) (b := true) (c := false) (u := vs 14) (by kernel_rfl) (by kernel_rfl) (hd 14 (by kernel_rfl)) (by decide)) hK
      · intro vs W hE hd K hK
        exact dq_off (ExtQ.refl _ _ _) (by kernel_rfl) (wantedq_off (j := 14) (b := true) (c := false) (u := vs 14) (by kernel_rfl) (by kernel_rfl) (hd 14 (by kernel_rfl)) (by decide)) hK
      · intro vs W hE hd K hK
        exact dq_val (u := .bool false) (v := .bool false) (ExtQ.refl _ _ _) (by kernel_rfl) (wantedq (by kernel_rfl)) (rq_pick (c := .tmp 29) (x := .tmp 32) (y := .const (.bool false)) (u := vs 14) (p := false) (r := .bool false) (by kernel_rfl) (by kernel_rfl) (hd 14 (by kernel_rfl)) (by rw [if_neg (by decide)]; exact Eq.trans (by kernel_rfl : _ = .bool false) rfl)) rfl hK
      · intro vs W hE hd K hK
        have hp0 : ∃ p0 p1, W.heap[w.heap.size]? = some (.cells #[p0, p1] 31 (0, 0)) := two_of (hE.cells HQ.out)
        obtain ⟨p0, p1, hp⟩ := hp0
        obtain ⟨W', hrun, hext, hfin⟩ := rq_store (ops := _) (A := frame _ _ vs) (i := 19) (x := .tmp 2) (y := .tmp 15) (u := .pointer (some ⟨w.heap.size, 0, none⟩)) (v := vs 0) (b := w.heap.size) (by kernel_rfl) (by kernel_rfl) rfl (by kernel_rfl) (hd 0 (by kernel_rfl)) hp rfl rfl
        exact dq_skip hext (by kernel_rfl) (wantedq (by kernel_rfl)) hrun _ hfin hK
      · intro vs W hE hd K hK
        exact dq_val (u := vs 18) (v := .bool false) (ExtQ.refl _ _ _) (by kernel_rfl) (wantedq (by kernel_rfl)) (by kernel_rfl) (hd 18 (by kernel_rfl)) hK
      intro vs W hE hd
      have ev0 : vs 0 = .agg #[str s, .slice ao n c] := hd 0 (by decide)
      have ev1 : vs 1 = .int .i64 z := hd 1 (by decide)
      have ev2 : vs 2 = str l := hd 2 (by decide)
      have ev3 : vs 3 = .int .i64 (l.length : Nat) := hd 3 (by decide)
      have ev4 : vs 4 = .bool true := hd 4 (by decide)
      have ev5 : vs 5 = .bool true := hd 5 (by decide)
      have ev6 : vs 6 = .agg #[str s, .slice ao n c] := hd 6 (by decide)
      have ev7 : vs 7 = .bool true := hd 7 (by decide)
      have ev8 : vs 8 = .bool true := hd 8 (by decide)
      have ev9 : vs 9 = .bool true := hd 9 (by decide)
      have ev10 : vs 10 = .agg #[str s, .slice ao n c] := hd 10 (by decide)
      have ev11 : vs 11 = .int .i64 x := hd 11 (by decide)
      have ev12 : vs 12 = .bool false := hd 12 (by decide)
      have ev13 : vs 13 = .bool false := hd 13 (by decide)
      have ev14 : vs 14 = .bool false := hd 14 (by decide)
      have ev18 : vs 18 = .bool false := hd 18 (by decide)
      have hst19 : (fun W => W.heap[w.heap.size]? = some (.cells #[str s, .slice ao n c] 31 (0, 0))) W := hd 19 (by decide)
      have ev20 : vs 20 = .bool false := hd 20 (by decide)
      refine hKK _ _ ?_
      rw [frame_is (⟨#[str l, undef, .pointer (some ⟨w.heap.size, 0, none⟩), vs 20, .pointer (some ⟨w1.heap.size, 0, none⟩), .int .i64 z, str l, .int .i64 (l.length : Nat), .bool (decide (1000 < (l.length : Int))), undef, .tuple #[.agg #[str s, .slice ao n c], .int .i64 z], str l, .tuple #[.agg #[str s, .slice ao n c], .int .i64 z], .agg #[str s, .slice ao n c], .int .i64 z, vs 0, vs 1, vs 2, vs 3, vs 4, vs 5, vs 6, vs 7, vs 8, vs 9, vs 10, vs 11, vs 12, vs 13, vs 14, vs 15, vs 16, vs 17, vs 18], []⟩ : Act) (by kernel_rfl)]
      rw [ev0, ev1, ev2, ev3, ev4, ev5, ev6, ev7, ev8, ev9, ev10, ev11, ev12, ev13, ev14, ev18, ev20]
      clear hd ev0 ev1 ev2 ev3 ev4 ev5 ev6 ev7 ev8 ev9 ev10 ev11 ev12 ev13 ev14 ev18 ev20
      generalize vs 15 = y15 at *
      generalize vs 16 = y16 at *
      generalize vs 17 = y17 at *
      have HFIN : Hid (After w W ∧ ∀ t, o = some t → SV W w.heap.size t (.agg #[str s, .slice ao n c])) := fin_form HA.out HS.out (HX.out W hE)
      have k0 : W.cell? ⟨w.heap.size, 0, none⟩ = some (str s) := cell_of_heap (i := 0) hst19
      have k1 : W.cell? ⟨w.heap.size, 1, none⟩ = some (.slice ao n c) := cell_of_heap (i := 1) hst19
      clear hst19 hE
      go_wp2_with fail
      exact bodyPost_ret (v := .tuple #[.agg #[str s, .slice ao n c], .bool false]) (by simp [results, Tryz.results21, go_sem, k0, k1]) rfl
        ⟨s, ao, n, c, by rw [HO.out]; rw [hx2]; simp, HFIN.out.1, HFIN.out.2⟩
    have hx2 : decide (x ≤ 60) = true := decide_eq_true hx
    obtain ⟨b4, hb4⟩ : ∃ b4, b4 = decide (y ≤ 300) := ⟨_, rfl⟩
    have hy2 := hb4.symm
    clear hb4
    have hIs := fun W (hW : ExtQ w.heap.size (.cells #[str s, .slice ao n c] 31 (0, 0)) Y.drew W) => HI.out HZE.out W (HX.out W hW)
    have hSz := fun W (hW : ExtQ w.heap.size (.cells #[str s, .slice ao n c] 31 (0, 0)) Y.drew W) => HZ.out HZE.out rfl W (HX.out W hW)
    have hWd := fun W (hW : ExtQ w.heap.size (.cells #[str s, .slice ao n c] 31 (0, 0)) Y.drew W) => HD.out HZE.out rfl hx W (HX.out W hW)
    refine wp_region_regB (by kernel_rfl) (by kernel_rfl) (ExtQ w.heap.size (.cells #[str s, .slice ao n c] 31 (0, 0))) (fun w => (ExtQ.refl _ _ w)) ExtQ.trans
      (yqs [.lit (.agg #[str s, .slice ao n c]), .lit (.int .i64 z), .lit (str l), .lit (.int .i64 (l.length : Nat)), .lit (.bool true), .lit (.bool true), .lit (.agg #[str s, .slice ao n c]), .lit (.bool true), .lit (.bool true), .lit (.bool true), .lit (.agg #[str s, .slice ao n c]), .lit (.int .i64 x), .lit (.bool true), .lit (.bool true), .lit (.bool true), .lit (.agg #[str s, .slice ao n c]), .lit (.int .i64 y), .lit (.bool b4), .lit (.bool b4), .fact (fun W => W.heap[w.heap.size]? = some (.cells #[str s, .slice ao n c] 31 (0, 0))), .lit (.bool b4)]) (yqs_later ?_) (lt21 ?_ ?_ ?_ ?_ ?_ ?_ ?_ ?_ ?_ ?_ ?_ ?_ ?_ ?_ ?_ ?_ ?_ ?_ ?_ ?_ ?_) ?_
    · intro y hy
      simp only [List.mem_cons, List.not_mem_nil, or_false] at hy
      rcases hy with rfl | rfl | rfl | rfl | rfl | rfl | rfl | rfl | rfl | rfl | rfl | rfl | rfl | rfl | rfl | rfl | rfl | rfl | rfl | rfl | rfl
      all_goals first | exact trivial | exact fun _ _ h k => ExtQ.kept h k
    · intro vs W hE hd K hK
      exact dq_val (u := .agg #[str s, .slice ao n c]) (v := .agg #[str s, .slice ao n c]) (ExtQ.refl _ _ _) (by kernel_rfl) (wantedq (by kernel_rfl)) (rq_tree (x := .tmp 4) (u := .pointer (some ⟨w1.heap.size, 0, none⟩)) (b := w1.heap.size) (k := 0) (by kernel_rfl) (by kernel_rfl) rfl (cell_of_heap (i := 0) (hE.heap HT.out HNE.out)) (cell_of_heap (i := 1) (hE.heap HT.out HNE.out))) rfl hK
    · intro vs W hE hd K hK
      exact dq_val (u := .int .i64 z) (v := .int .i64 z) (ExtQ.refl _ _ _) (by kernel_rfl) (wantedq (by kernel_rfl)) (by kernel_rfl) rfl hK
    · intro vs W hE hd K hK
      exact dq_val (u := str l) (v := str l) (ExtQ.refl _ _ _) (by kernel_rfl) (wantedq (by kernel_rfl)) (by kernel_rfl) rfl hK
    · intro vs W hE hd K hK
      exact dq_val (u := .int .i64 (l.length : Nat)) (v := .int .i64 (l.length : Nat)) (ExtQ.refl _ _ _) (by kernel_rfl) (wantedq (by kernel_rfl)) (rq_len (x := .tmp 17) (u := vs 2) (l := l) (by kernel_rfl) (by kernel_rfl) (hd 2 (by kernel_rfl))) rfl hK
    · intro vs W hE hd K hK
      exact dq_val (u := .bool true) (v := .bool true) (ExtQ.refl _ _ _) (by kernel_rfl) (wantedq (by kernel_rfl)) (rq_eql (T := 3) (T' := 3) (x := .tmp 16) (y := .tmp 18) (u := vs 1) (u' := vs 3) (n := z) (m := (l.length : Nat)) (by kernel_rfl) (by kernel_rfl) (hd 1 (by kernel_rfl)) (by kernel_rfl) (hd 3 (by kernel_rfl)) hz2) rfl hK
    · intro vs W hE hd K hK
      exact dq_val (u := vs 4) (v := .bool true) (ExtQ.refl _ _ _) (by kernel_rfl) (wantedq (by kernel_rfl)) (by kernel_rfl) (hd 4 (by kernel_rfl)) hK
    · intro vs W hE hd K hK
      exact dq_val (u := .agg #[str s, .slice ao n c]) (v := .agg #[str s, .slice ao n c]) (ExtQ.refl _ _ _) (by kernel_rfl) (wantedq_on (j := 5) (b := true) (u := vs 5) (by kernel_rfl) (by kernel_rfl) (hd 5 (by kernel_rfl))) (rq_tree (x := .tmp 4) (u := .pointer (some ⟨w1.heap.size, 0, none⟩)) (b := w1.heap.size) (k := 0) (by kernel_rfl) (by kernel_rfl) rfl (cell_of_heap (i := 0) (hE.heap HT.out HNE.out)) (cell_of_heap (i := 1) (hE.heap HT.out HNE.out))) rfl hK
    · intro vs W hE hd K hK
      exact dq_call (v := .bool true) (f := 40) (args := #[vs 6]) (by kernel_rfl) (wantedq_on (j := 5) (b := true) (u := vs 5) (by kernel_rfl) (by kernel_rfl) (hd 5 (by kernel_rfl))) (by kernel_rfl) (by rw [show vs 6 = .agg #[str s, .slice ao n c] from hd 6 (by kernel_rfl)]; exact (hIs W hE).mono fun e w' h => ⟨h.1, ExtQ.of h.2⟩) hK
    · intro vs W hE hd K hK
      exact dq_val (u := .bool true) (v := .bool true) (ExtQ.refl _ _ _) (by kernel_rfl) (wantedq (by kernel_rfl)) (rq_pick (c := .tmp 20) (x := .tmp 22) (y := .const (.bool false)) (u := vs 5) (p := true) (r := .bool true) (by kernel_rfl) (by kernel_rfl) (hd 5 (by kernel_rfl)) (by rw [if_pos rfl]; exact Eq.trans (by kernel_rfl : _ = vs 7) (hd 7 (by kernel_rfl)))) rfl hK
    · intro vs W hE hd K hK
      exact dq_val (u := vs 8) (v := .bool true) (ExtQ.refl _ _ _) (by kernel_rfl) (wantedq (by kernel_rfl)) (by kernel_rfl) (hd 8 (by kernel_rfl)) hK
    · intro vs W hE hd K hK
      exact dq_val (u := .agg #[str s, .slice ao n c]) (v := .agg #[str s, .slice ao n c]) (ExtQ.refl _ _ _) (by kernel_rfl) (wantedq_on (j := 9) (b := true) (u := vs 9) (by kernel_rfl) (by kernel_rfl) (hd 9 (by kernel_rfl))) (rq_tree (x := .tmp 4) (u := .pointer (some ⟨w1.heap.size, 0, none⟩)) (b := w1.heap.size) (k := 0) (by kernel_rfl) (by kernel_rfl) rfl (cell_of_heap (i := 0) (hE.heap HT.out HNE.out)) (cell_of_heap (i := 1) (hE.heap HT.out HNE.out))) rfl hK
    · intro vs W hE hd K hK
      exact dq_call (v := .int .i64 x) (f := 33) (args := #[vs 10]) (by kernel_rfl) (wantedq_on (j := 9) (b := true) (u := vs 9) (by kernel_rfl) (by kernel_rfl) (hd 9 (by kernel_rfl))) (by kernel_rfl) (by rw [show vs 10 = .agg #[str s, .slice ao n c] from hd 10 (by kernel_rfl)]; exact (hSz W hE).mono fun e w' h => ⟨h.1, ExtQ.of h.2⟩) hK
    · intro vs W hE hd K hK
      exact dq_val (u := .bool true) (v := .bool true) (ExtQ.refl _ _ _) (by kernel_rfl) (wantedq_on (j := 9) (b := true) (u := vs 9) (by kernel_rfl) (by kernel_rfl) (hd 9 (by kernel_rfl))) (rq_leq (T := 3) (T' := 3) (x := .tmp 26) (y := .const (.int .i64 60)) (u := vs 11) (u' := .int .i64 60) (n := x) (m := 60) (by kernel_rfl) (by kernel_rfl) (hd 11 (by kernel_rfl)) (by kernel_rfl) rfl hx2) rfl hK
    · intro vs W hE hd K hK
      exact dq_val (u := .bool true) (v := .bool true) (ExtQ.refl _ _ _) (by kernel_rfl) (wantedq (by kernel_rfl)) (rq_pick (c := .tmp 24) (x := .tmp 27) (y := .const (.bool false)) (u := vs 9) (p := true) (r := .bool true) (by kernel_rfl) (by kernel_rfl) (hd 9 (by kernel_rfl)) (by rw [if_pos rfl]; exact Eq.trans (by kernel_rfl : _ = vs 12) (hd 12 (by kernel_rfl)))) rfl hK
    · intro vs W hE hd K hK
      exact dq_val (u := vs 13) (v := .bool true) (ExtQ.refl _ _ _) (by kernel_rfl) (wantedq (by kernel_rfl)) (by kernel_rfl) (hd 13 (by kernel_rfl)) hK
    · intro vs W hE hd K hK
      exact dq_val (u := .agg #[str s, .slice ao n c]) (v := .agg #[str s, .slice ao n c]) (ExtQ.refl _ _ _) (by kernel_rfl) (wantedq_on (j := 14) (b := true) (u := vs 14) (by kernel_rfl) (by kernel_rfl) (hd 14 (by kernel_rfl))) (rq_tree (x := .tmp 4) (u := .pointer (some ⟨w1.heap.size, 0, none⟩)) (b := w1.heap.size) (k := 0) (by kernel_rfl) (by kernel_rfl) rfl (cell_of_heap (i := 0) (hE.heap HT.out HNE.out)) (cell_of_heap (i := 1) (hE.heap HT.out HNE.out))) rfl hK
    · intro vs W hE hd K hK
      exact dq_call (v := .int .i64 y) (f := 41) (args := #[vs 15]) (by kernel_rfl) (wantedq_on (j := 14) (b := true) (u := vs 14) (by kernel_rfl) (by kernel_rfl) (hd 14 (by kernel_rfl))) (by kernel_rfl) (by rw [show vs 15 = .agg #[str s, .slice ao n c] from hd 15 (by kernel_rfl)]; exact (hWd W hE).mono fun e w' h => ⟨h.1, ExtQ.of h.2⟩) hK
    · intro vs W hE hd K hK
      exact dq_val (u := .bool b4) (v := .bool b4) (ExtQ.refl _ _ _) (by kernel_rfl) (wantedq_on (j := 14) (b := true) (u := vs 14) (by kernel_rfl) (by kernel_rfl) (hd 14 (by kernel_rfl))) (rq_leq (T := 3) (T' := 3) (x := .tmp 31) (y := .const (.int .i64 300)) (u := vs 16) (u' := .int .i64 300) (n := y) (m := 300) (by kernel_rfl) (by kernel_rfl) (hd 16 (by kernel_rfl)) (by kernel_rfl) rfl hy2) rfl hK
    · intro vs W hE hd K hK
      exact dq_val (u := .bool b4) (v := .bool b4) (ExtQ.refl _ _ _) (by kernel_rfl) (wantedq (by kernel_rfl)) (rq_pick (c := .tmp 29) (x := .tmp 32) (y := .const (.bool false)) (u := vs 14) (p := true) (r := .bool b4) (by kernel_rfl) (by kernel_rfl) (hd 14 (by kernel_rfl)) (by rw [if_pos rfl]; exact Eq.trans (by kernel_rfl : _ = vs 17) (hd 17 (by kernel_rfl)))) rfl hK
    · intro vs W hE hd K hK
      have hp0 : ∃ p0 p1, W.heap[w.heap.size]? = some (.cells #[p0, p1] 31 (0, 0)) := two_of (hE.cells HQ.out)
      obtain ⟨p0, p1, hp⟩ := hp0
      obtain ⟨W', hrun, hext, hfin⟩ := rq_store (ops := _) (A := frame _ _ vs) (i := 19) (x := .tmp 2) (y := .tmp 15) (u := .pointer (some ⟨w.heap.size, 0, none⟩)) (v := vs 0) (b := w.heap.size) (by kernel_rfl) (by kernel_rfl) rfl (by kernel_rfl) (hd 0 (by kernel_rfl)) hp rfl rfl
      exact dq_skip hext (by kernel_rfl) (wantedq (by kernel_rfl)) hrun _ hfin hK
    · intro vs W hE hd K hK
      exact dq_val (u := vs 18) (v := .bool b4) (ExtQ.refl _ _ _) (by kernel_rfl) (wantedq (by kernel_rfl)) (by kernel_rfl) (hd 18 (by kernel_rfl)) hK
    intro vs W hE hd
    have ev0 : vs 0 = .agg #[str s, .slice ao n c] := hd 0 (by decide)
    have ev1 : vs 1 = .int .i64 z := hd 1 (by decide)
    have ev2 : vs 2 = str l := hd 2 (by decide)
    have ev3 : vs 3 = .int .i64 (l.length : Nat) := hd 3 (by decide)
    have ev4 : vs 4 = .bool true := hd 4 (by decide)
    have ev5 : vs 5 = .bool true := hd 5 (by decide)
    have ev6 : vs 6 = .agg #[str s, .slice ao n c] := hd 6 (by decide)
    have ev7 : vs 7 = .bool true := hd 7 (by decide)
    have ev8 : vs 8 = .bool true := hd 8 (by decide)
    have ev9 : vs 9 = .bool true := hd 9 (by decide)
    have ev10 : vs 10 = .agg #[str s, .slice ao n c] := hd 10 (by decide)
    have ev11 : vs 11 = .int .i64 x := hd 11 (by decide)
    have ev12 : vs 12 = .bool true := hd 12 (by decide)
    have ev13 : vs 13 = .bool true := hd 13 (by decide)
    have ev14 : vs 14 = .bool true := hd 14 (by decide)
    have ev15 : vs 15 = .agg #[str s, .slice ao n c] := hd 15 (by decide)
    have ev16 : vs 16 = .int .i64 y := hd 16 (by decide)
    have ev17 : vs 17 = .bool b4 := hd 17 (by decide)
    have ev18 : vs 18 = .bool b4 := hd 18 (by decide)
    have hst19 : (fun W => W.heap[w.heap.size]? = some (.cells #[str s, .slice ao n c] 31 (0, 0))) W := hd 19 (by decide)
    have ev20 : vs 20 = .bool b4 := hd 20 (by decide)
    refine hKK _ _ ?_
    rw [frame_is (⟨#[str l, undef, .pointer (some ⟨w.heap.size, 0, none⟩), vs 20, .pointer (some ⟨w1.heap.size, 0, none⟩), .int .i64 z, str l, .int .i64 (l.length : Nat), .bool (decide (1000 < (l.length : Int))), undef, .tuple #[.agg #[str s, .slice ao n c], .int .i64 z], str l, .tuple #[.agg #[str s, .slice ao n c], .int .i64 z], .agg #[str s, .slice ao n c], .int .i64 z, vs 0, vs 1, vs 2, vs 3, vs 4, vs 5, vs 6, vs 7, vs 8, vs 9, vs 10, vs 11, vs 12, vs 13, vs 14, vs 15, vs 16, vs 17, vs 18], []⟩ : Act) (by kernel_rfl)]
    rw [ev0, ev1, ev2, ev3, ev4, ev5, ev6, ev7, ev8, ev9, ev10, ev11, ev12, ev13, ev14, ev15, ev16, ev17, ev18, ev20]
    clear hd ev0 ev1 ev2 ev3 ev4 ev5 ev6 ev7 ev8 ev9 ev10 ev11 ev12 ev13 ev14 ev15 ev16 ev17 ev18 ev20
    have HFIN : Hid (After w W ∧ ∀ t, o = some t → SV W w.heap.size t (.agg #[str s, .slice ao n c])) := fin_form HA.out HS.out (HX.out W hE)
    have k0 : W.cell? ⟨w.heap.size, 0, none⟩ = some (str s) := cell_of_heap (i := 0) hst19
    have k1 : W.cell? ⟨w.heap.size, 1, none⟩ = some (.slice ao n c) := cell_of_heap (i := 1) hst19
    clear hst19 hE
    go_wp2_with fail
    exact bodyPost_ret (v := .tuple #[.agg #[str s, .slice ao n c], .bool b4]) (by simp [results, Tryz.results21, go_sem, k0, k1]) rfl
      ⟨s, ao, n, c, by rw [HO.out]; rw [hx2, hy2, decide_eq_true HZE.out]; simp, HFIN.out.1, HFIN.out.2⟩

theorem s_form (w : World) (l : List UInt8) : Calls Tryz.prog 21 #[str l] w (MFPost w (Fm.mform l)) := by
  by_cases hl : 1000 < l.length
  · exact s_form_long w l hl
  have hl' : l.length ≤ 1000 := by omega
  refine s_form_core w l hl' _ ?_
  have hx := s_xread l hl' 151 0 0 (w.alloc (.cells #[.string ⟨#[]⟩, .slice none 0 0] 31)) rfl (Nat.le_refl _) (Nat.zero_le _)
  refine hx.mono ?_
  rintro e w1 ⟨s, ao, n, c, he, ha, hv⟩
  rw [show (w.alloc (.cells #[.string ⟨#[]⟩, .slice none 0 0] 31)).heap.size = w.heap.size + 1 by simp] at hv
  have hmf : Fm.mform l = match Fm.sread l 151 0 with
    | some (t, j) => if j = l.length ∧ Fm.isF 151 t = true ∧ Fm.szS 151 t ≤ 60 ∧ Fm.wdS 151 t ≤ 300 then some t else none
    | none => none := by
    unfold Fm.mform
    rw [if_neg hl]
    cases Fm.sread l 151 0 <;> rfl
  cases hr : Fm.sread l 151 0 with
  | none =>
    rw [hr] at he hmf
    refine ⟨s, ao, n, c, -1, false, 0, 0, he, ha, (fun t ht => by rw [hmf] at ht; cases ht), (fun h => by omega), (fun h => by omega), (fun h => by omega), ?_⟩
    rw [hmf, decide_eq_false (by omega)]
    rfl
  | some p =>
    obtain ⟨t, j⟩ := p
    rw [hr] at he hmf
    simp only at hmf
    obtain ⟨h1, h2, h3⟩ := Fm.sread_sound l _ _ _ _ hr
    have hsv := hv t j hr
    have hgood : j = l.length → GoodX t := fun e => by
      rw [e] at h1
      simp at h1
      exact ⟨h2, by rw [← h1]; omega⟩
    have later : ∀ W, ExtQ w.heap.size (.cells #[str s, .slice ao n c] 31 (0, 0)) w1 W → SV W (w.heap.size + 1) t (.agg #[str s, .slice ao n c]) := fun W hW => hsv.same fun b hb hlt => hW.1.block b hlt (fun e => by injection e with e; omega)
    refine ⟨s, ao, n, c, (j : Nat), Fm.isF 151 t, (Fm.szS 151 t : Nat), (Fm.wdS 151 t : Nat), he, ha, fun t' ht => ?_, fun hz W hW => ?_, fun hz hb W hW => ?_, fun hz hb hx W hW => ?_, ?_⟩
    · rw [hmf] at ht
      split at ht
      · obtain rfl := Option.some.inj ht
        exact hsv
      · cases ht
    · exact s_is 151 t W _ _ (later W hW) (hgood (by omega)) (by omega)
    · exact s_size 151 t W _ _ (later W hW) (hgood (by omega)) (by omega)
    · obtain ⟨f, rfl, _⟩ := (Fm.isF_iff 151 t (by omega)).1 hb
      exact s_wide 151 _ W _ _ (later W hW) (hgood (by omega)) (Fm.wOk_fo f 151 (by omega))
    · rw [hmf]
      by_cases c1 : j = l.length
      · rw [decide_eq_true (show ((j : Nat) : Int) = (l.length : Int) by omega)]
        by_cases c2 : Fm.isF 151 t = true
        · by_cases c3 : Fm.szS 151 t ≤ 60
          · by_cases c4 : Fm.wdS 151 t ≤ 300
            · rw [if_pos ⟨c1, c2, c3, c4⟩, c2, decide_eq_true (show ((Fm.szS 151 t : Nat) : Int) ≤ 60 by omega), decide_eq_true (show ((Fm.wdS 151 t : Nat) : Int) ≤ 300 by omega)]; rfl
            · rw [if_neg (fun h => c4 h.2.2.2), decide_eq_false (show ¬ ((Fm.wdS 151 t : Nat) : Int) ≤ 300 by omega)]; simp
          · rw [if_neg (fun h => c3 h.2.2.1), decide_eq_false (show ¬ ((Fm.szS 151 t : Nat) : Int) ≤ 60 by omega)]; simp
        · rw [if_neg (fun h => c2 h.2.1)]
          simp only [Bool.not_eq_true] at c2
          rw [c2]; rfl
      · rw [if_neg (fun h => c1 h.1), decide_eq_false (show ¬ ((j : Nat) : Int) = (l.length : Int) by omega)]; rfl
end Go.Proofs.YtlpgoelcadmcfaaGreatDoor

namespace Go.Proofs.YtlpgoelcadmcfaaGreatDoor
open Go.RowKit

set_option maxHeartbeats 400000
set_option maxRecDepth 100000

/-! ### nameValid -/

theorem nameOk_len (l : List UInt8) : Tm.nameOk l = (!l.isEmpty && decide (Tm.nameLen l 0 = l.length)) := by
  cases hl : l with
  | nil => rfl
  | cons c ds =>
    rw [← hl]
    have hne : l.isEmpty = false := by rw [hl]; rfl
    rw [hne, Bool.eq_iff_iff]
    simp only [Bool.not_false, Bool.true_and, decide_eq_true_eq]
    constructor
    · exact fun h => Tm.nameLen_of l l [] 0 (by simp) h (by simp)
    · intro h
      have := Tm.nameLen_sound l 0 (by rw [h, hl]; simp)
      rw [h] at this
      simpa using this.1

theorem nameValid_any (w : World) (l : List UInt8) (hl : l.length ≤ 1000000000) :
    Calls Tryz.prog 29 #[str l] w fun e w' => e = .returned (.bool (Tm.nameOk l)) ∧ w = w' := by
  have hnl := nameLength_any w l hl
  have hsz : (⟨l.toArray⟩ : ByteArray).size = l.length := by show l.toArray.size = _; simp
  have hok := nameOk_len l
  generalize Tm.nameLen l 0 = k at *
  cases hl0 : l.isEmpty with
  | true =>
    have hfin : Tm.nameOk l = false := by rw [hok, hl0]; rfl
    rw [hfin]
    clear hok hfin
    go_enter Tryz.func29, Tryz.ntmps29
    go_wp2_with (go_at_call 47; refine hnl.mono ?_; rintro e w' ⟨rfl, rfl⟩)
    go_ret
    exact ⟨by simp_all, rfl⟩
  | false =>
    by_cases hk : k = l.length
    · have hfin : Tm.nameOk l = true := by rw [hok, hl0]; simp [hk]
      rw [hfin]
      have he : ((k : Int) == (l.length : Int)) = true := by rw [beq_iff_eq]; omega
      clear hok hfin hk
      go_enter Tryz.func29, Tryz.ntmps29
      go_wp2_with (go_at_call 47; refine hnl.mono ?_; rintro e w' ⟨rfl, rfl⟩)
      go_ret
      exact ⟨by simp_all, rfl⟩
    · have hfin : Tm.nameOk l = false := by rw [hok, hl0]; simp [hk]
      rw [hfin]
      have he : ((k : Int) == (l.length : Int)) = false := by rw [beq_eq_false_iff_ne]; omega
      clear hok hfin hk
      go_enter Tryz.func29, Tryz.ntmps29
      go_wp2_with (go_at_call 47; refine hnl.mono ?_; rintro e w' ⟨rfl, rfl⟩)
      go_ret
      exact ⟨by simp_all, rfl⟩
end Go.Proofs.YtlpgoelcadmcfaaGreatDoor

namespace Go.Proofs.YtlpgoelcadmcfaaGreatDoor
open Go.RowKit

set_option maxHeartbeats 1000000
set_option maxRecDepth 100000

def MAtom (w : World) (b : Nat) (l : List UInt8) (i n : Nat) (e : Ending) (w' : World) : Prop :=
  e = .returned (.tuple #[str (FT.sl l i (Tm.atomEnd l i)), .bool (decide (n + 1 ≤ 60))]) ∧ w.grownBy w' (some b) ∧ MRd w' b l (Tm.atomEnd l i) (n + 1)

theorem matom_any (w : World) (b i n : Nat) (l : List UInt8) (h : MRd w b l i n) (hl : l.length ≤ 1000000000) (hi : i ≤ l.length) (hn : n ≤ 1000000000) :
    Calls Tryz.prog 59 #[.pointer (some ⟨b, 0, none⟩)] w (MAtom w b l i n) := by
  have c2 : w.cell? ⟨b, 2, none⟩ = some (.int .i64 (n : Nat)) := cell_of_heap h
  have f2 : w.frozen? ⟨b, 2, none⟩ = false := by unfold MRd at h; simp [World.frozen?, h]
  have H := Lib.hid h
  clear h
  unfold MAtom
  go_enter Tryz.func59, Tryz.ntmps59
  go_wp2_with fail
  have e1 : ((n : Int) + 1) = ((n + 1 : Nat) : Int) := by omega
  have H1 : MRd (w.setCell ⟨b, 2, none⟩ (.int .i64 ((n : Int) + 1))) b l i (n + 1) := by rw [e1]; exact H.out.set2 (n + 1)
  have hg1 : w.grownBy (w.setCell ⟨b, 2, none⟩ (.int .i64 ((n : Int) + 1))) (some b) := grown_setx _ _ _ _
  have he : decide ((n : Int) + 1 ≤ 60) = decide (n + 1 ≤ 60) := decide_eq_decide.2 (by omega)
  generalize w.setCell ⟨b, 2, none⟩ (.int .i64 ((n : Int) + 1)) = W at *
  have c2W : W.cell? ⟨b, 2, none⟩ = some (.int .i64 ((n : Int) + 1)) := by rw [e1]; exact cell_of_heap H1
  have HW := Lib.hid H1
  clear H1 H c2 f2 e1
  go_region_with (go_at_call 66; refine (mword_any _ b i (n + 1) l (by first | exact HW.out | exact (show MRd _ b l i (n + 1) from HW.out)) hl hi).mono ?_; rintro e w1 ⟨rfl, hgw, hmw⟩; have c2w : w1.cell? ⟨b, 2, none⟩ = some (.int .i64 ((n + 1 : Nat) : Int)) := cell_of_heap hmw; have HM := Lib.hid hmw; clear hmw)
  all_goals
    go_wp2_with fail
    go_ret2
    refine ⟨?_, grown_trans hg1 (grown_trans (after_grown b (After.refl W).drew) hgw), HM.out⟩
    rw [← he]
    simp
    exact ⟨rfl, Eq.trans (b := Value.bool (decide (n ≤ 59))) rfl (congrArg Value.bool (decide_eq_decide.2 (by omega)))⟩

end Go.Proofs.YtlpgoelcadmcfaaGreatDoor

namespace Go.Proofs.YtlpgoelcadmcfaaGreatDoor
open Go.RowKit

set_option maxHeartbeats 1000000
set_option maxRecDepth 100000

/-- Blocks from S on below E only. -/
def EVr (w : World) (S E : Nat) (t : Ex) (v : Value) : Prop := ∀ w'' : World, (∀ k, S ≤ k → k < E → w''.heap[k]? = w.heap[k]?) → EV w'' S t v
theorem EV.ranged {w : World} {S : Nat} {t : Ex} {v : Value} (h : EV w S t v) : EVr w S w.heap.size t v := fun _ hk => h.move (Nat.le_refl _) hk
theorem EVr.keep {w w' : World} {S E : Nat} {t : Ex} {v : Value} (h : EVr w S E t v) (hk : ∀ k, S ≤ k → k < E → w'.heap[k]? = w.heap[k]?) : EVr w' S E t v := fun w'' h2 => h w'' fun k h1 h3 => (h2 k h1 h3).trans (hk k h1 h3)
theorem EVr.ev {w : World} {S E : Nat} {t : Ex} {v : Value} (h : EVr w S E t v) : EV w S t v := h w fun _ _ _ => rfl

def RowX (w : World) (base : Nat) (sv : Value) (ps : List Ex) (xs : List Value) : Prop :=
  w.ownsRow base 51 1 sv ps.length xs ∧ ∀ j (h : j < ps.length), ∃ S E x, base ≤ S ∧ E ≤ w.heap.size ∧ (∀ g, sv.ownBlock = some g → g < S ∨ E ≤ g) ∧ xs[j]? = some x ∧ EVr w S E ps[j] x

theorem RowX.nil (w : World) (base : Nat) : RowX w base (.slice none 0 0) [] [] := ⟨World.ownsRow_nil w base _ _, fun j h => absurd h (by simp)⟩

theorem RowX.grown {w w' : World} {base b : Nat} {sv : Value} {ps : List Ex} {xs : List Value} (h : RowX w base sv ps xs) (hg : w.grownBy w' (some b)) (hb : b < base) : RowX w' base sv ps xs := by
  refine ⟨h.1.kept hg ?_, fun j hj => ?_⟩
  · cases hv : sv.ownBlock with
    | none => exact Or.inl rfl
    | some g => exact Or.inr (fun e => by injection e with e; have := (h.1.lt g hv).1; omega)
  · obtain ⟨S, E, x, h2, h3, h4, h5, h6⟩ := h.2 j hj
    exact ⟨S, E, x, h2, Nat.le_trans h3 hg.size, h4, h5, h6.keep fun k hk1 hk2 => hg.block k (by omega) (fun e => by injection e with e; omega)⟩

theorem RowX.push {w w' : World} {base S : Nat} {sv v' x : Value} {ps : List Ex} {xs : List Value} {t : Ex} (h : RowX w base sv ps xs) (hS : base ≤ S) (hgS : ∀ g, sv.ownBlock = some g → g < S) (ht : EV w S t x) (o : Obj)
    (ho : w'.ownsRow base 51 1 v' (ps.length + 1) (xs ++ [x])) (hg : (w.alloc o).grownBy w' sv.ownBlock) (hw : sv.ownBlock = v'.ownBlock ∨ v'.ownBlock = some (w.alloc o).heap.size) :
    RowX w' base v' (ps ++ [t]) (xs ++ [x]) := by
  have hxl : xs.length = ps.length := by have := h.1.1; omega
  have hsz : (w.alloc o).heap.size = w.heap.size + 1 := by simp
  have hkeep : ∀ k, k < w.heap.size → (∀ g, sv.ownBlock = some g → k ≠ g) → w'.heap[k]? = w.heap[k]? := fun k hk hne => by
    rw [hg.block k (by omega) (fun e => hne k e.symm rfl)]
    exact (below_new w o).block k hk
  refine ⟨by rw [List.length_append]; exact ho, fun j hj => ?_⟩
  by_cases hjl : j < ps.length
  · obtain ⟨S', E, x1, h2, h3, h4, e1, h5⟩ := h.2 j hjl
    refine ⟨S', E, x1, h2, by have := hg.size; omega, fun g hg' => ?_, ?_, ?_⟩
    · rcases hw with hw | hw
      · exact h4 g (hw.trans hg')
      · rw [hw] at hg'; injection hg' with hg'; right; omega
    · rw [List.getElem?_append_left (by omega)]; exact e1
    · rw [List.getElem_append_left hjl]
      exact h5.keep fun k hk1 hk2 => hkeep k (by omega) (fun g hg' e => by have := h4 g hg'; omega)
  · have hj' : j = ps.length := by rw [List.length_append, List.length_singleton] at hj; omega
    subst hj'
    refine ⟨S, w.heap.size, x, hS, by have := hg.size; omega, fun g hg' => ?_, ?_, ?_⟩
    · rcases hw with hw | hw
      · exact Or.inl (hgS g (hw.trans hg'))
      · rw [hw] at hg'; injection hg' with hg'; right; omega
    · rw [List.getElem?_append_right (by omega), hxl, Nat.sub_self]; rfl
    · simp only [List.getElem_concat_length]
      exact ht.ranged.keep fun k hk1 hk2 => hkeep k hk2 (fun g hg' e => by have := hgS g hg'; omega)

theorem RowX.at {w : World} {base : Nat} {sv : Value} {ps : List Ex} {xs : List Value} (h : RowX w base sv ps xs) (h0 : 0 < ps.length) : ∃ b cap cs fr, sv = .slice (some ⟨b, 0, none⟩) ps.length cap ∧ base ≤ b ∧ w.heap[b]? = some (.cells cs 51 fr) ∧
    ∀ j (hj : j < ps.length), ∃ x, cs[j]? = some x ∧ EV w base ps[j] x := by
  obtain ⟨ho, hc⟩ := h
  rcases ho.2 with ⟨h1, h2⟩ | ⟨g, cap, cur, hv, hb, hh, hle, _, hcs, hct⟩
  · omega
  · refine ⟨g, cap, cur, _, hv, hb, hh, fun j hj => ?_⟩
    obtain ⟨S, E, x, h2, _, _, e1, h5⟩ := hc j hj
    refine ⟨x, ?_, h5.ev.less h2⟩
    rw [← hct, List.getElem?_take, if_pos (by omega)] at e1
    simpa using e1

namespace Fm
def mkOp (w : List UInt8) : List Ex → Ex
  | [e] => .suc e
  | [a, b] => if w = wAdd then .add a b else .mul a b
  | _ => .num 0
def opCount (w : List UInt8) : Nat := if w = wSuc then 1 else if w = wAdd ∨ w = wMul then 2 else 0
/-- What is left of an operation: so many parts, and the closing parenthesis. -/
def rest (l w : List UInt8) (d : Nat) : Nat → List Ex → Nat → Nat → Option (Ex × Nat × Nat)
  | 0, ps, j, n => (sp l 41 j).map fun j => (mkOp w ps, j, n)
  | m + 1, ps, j, n => (sp l 32 j).bind fun j => (rdE l d j n).bind fun p => rest l w d m (ps ++ [p.1]) p.2.1 p.2.2
def rdOp (l w : List UInt8) (d j n : Nat) : Option (Ex × Nat × Nat) := if opCount w = 0 then none else rest l w d (opCount w) [] j n

theorem rdE_succ (l : List UInt8) (d i n : Nat) : rdE l (d + 1) i n = if 60 ≤ n then none else if l[i]? = some 40 then rdOp l (wd l (i + 1)) d (Tm.atomEnd l (i + 1)) (n + 1)
    else if Tm.nameOk (wd l i) = true then some (.var (wd l i), Tm.atomEnd l i, n + 1) else (numOf (wd l i) 0 60).map fun m => (.num m, Tm.atomEnd l i, n + 1) := by
  have hop : ∀ w j n, rdOp l w d j n = if w = wSuc then
        (sp l 32 j).bind fun j => (rdE l d j n).bind fun p => (sp l 41 p.2.1).map fun j => (.suc p.1, j, p.2.2)
      else if w = wAdd then
        (sp l 32 j).bind fun j => (rdE l d j n).bind fun p => (sp l 32 p.2.1).bind fun j => (rdE l d j p.2.2).bind fun q => (sp l 41 q.2.1).map fun j => (.add p.1 q.1, j, q.2.2)
      else if w = wMul then
        (sp l 32 j).bind fun j => (rdE l d j n).bind fun p => (sp l 32 p.2.1).bind fun j => (rdE l d j p.2.2).bind fun q => (sp l 41 q.2.1).map fun j => (.mul p.1 q.1, j, q.2.2)
      else none := by
    intro w j n
    by_cases h1 : w = wSuc
    · subst h1
      rfl
    by_cases h2 : w = wAdd
    · subst h2
      rfl
    by_cases h3 : w = wMul
    · subst h3
      rfl
    have : opCount w = 0 := by simp [opCount, h1, h2, h3]
    rw [rdOp, if_pos this, if_neg h1, if_neg h2, if_neg h3]
  simp only [rdE, hop]
end Fm
end Go.Proofs.YtlpgoelcadmcfaaGreatDoor
