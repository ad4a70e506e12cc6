/-
  A region that draws its order, by one obligation an operation: what each operation yields stays true behind the others. Program-independent.
-/
import Derived.Test.YtidpkmkhcomcdaaGreatPkE
import Derived.RegionTactic
import Derived.Test.YtidpkmkhcomcdaaGreatPkD
import Derived.Test.YtidpkmkhcomcdaaGreatPkA
import Derived.Test.YtidpkmkhcomcdaaGreatPkC
import Derived.Deep.RegionHeld3
import Derived.BigGuard
import Derived.Deep.MidRow
import Derived.OwnWalk
import Derived.Laws.AppendOwn
namespace Go.Proofs.YtidpkmkhcomcdaaGreat
open Go

section
variable {P : Program} {ops : Array Oper} {Q : Exit → Act → World → Prop} {md : Region.Mode}

/-- How many are not listed. -/
def openN (listed : Array Bool) : Nat := listed.toList.countP fun b => !b

theorem openN_set {listed : Array Bool} {i : Nat} (h : listed.getD i true = false) : openN (listed.setIfInBounds i true) + 1 = openN listed := by
  obtain ⟨l⟩ := listed
  have hi : i < l.length := by
    by_cases hi : i < l.length
    · exact hi
    · simp [Array.getD, hi] at h
  have hf : l[i] = false := by simpa [Array.getD, hi] using h
  show (((⟨l⟩ : Array Bool).setIfInBounds i true).toList.countP fun b => !b) + 1 = l.countP fun b => !b
  have e : ((⟨l⟩ : Array Bool).setIfInBounds i true).toList = l.set i true := by simp
  rw [e]
  clear e h
  induction l generalizing i with
  | nil => simp at hi
  | cons b l ih =>
    cases i with
    | zero =>
      simp only [List.getElem_cons_zero] at hf
      subst hf
      simp
    | succ i =>
      simp only [List.set_cons_succ, List.countP_cons]
      have := ih (i := i) (by simpa using hi) (by simpa using hf)
      omega

theorem ready_open {listed : Array Bool} {i : Nat} (h : i ∈ Region.ready md ops listed) : i < ops.size ∧ listed.getD i true = false ∧ ∃ o, ops[i]? = some o ∧ ∀ e ∈ o.after, Region.binds md e = true → listed.getD e.on false = true := by
  simp only [Region.ready, List.mem_filter, List.mem_range, Bool.and_eq_true, Bool.not_eq_true'] at h
  obtain ⟨h1, h2, h3⟩ := h
  refine ⟨h1, h2, ?_⟩
  cases ho : ops[i]? with
  | none => rw [ho] at h3; simp at h3
  | some o =>
    rw [ho] at h3
    simp only [Option.map_some, Option.getD_some, Array.all_eq_true_iff_forall_mem, Bool.or_eq_true, Bool.not_eq_true'] at h3
    refine ⟨o, rfl, fun e he hb => ?_⟩
    rcases h3 e he with h | h
    · rw [hb] at h; cases h
    · exact h

theorem wpAny_inv (I : Array Bool → Act → World → Prop)
    (hend : ∀ listed a w, I listed a w → Region.ready md ops listed = [] → Q .normal a w)
    (hstep : ∀ listed a w i, I listed a w → i ∈ Region.ready md ops listed → wpOp P ops Q i (fun a' w' => I (listed.setIfInBounds i true) a' w') a w) :
    ∀ (fuel : Nat) (listed : Array Bool) (a : Act) (w : World), openN listed ≤ fuel → I listed a w → wpAny P md ops Q fuel listed a w
  | 0, listed, a, w, hn, hI => by
    have hr : Region.ready md ops listed = [] := by
      cases hc : Region.ready md ops listed with
      | nil => rfl
      | cons i l =>
        have := openN_set (ready_open (md := md) (ops := ops) (listed := listed) (i := i) (by rw [hc]; simp)).2.1
        omega
    exact ⟨hr, hend _ _ _ hI hr⟩
  | fuel + 1, listed, a, w, hn, hI => by
    refine ⟨fun hr => hend _ _ _ hI hr, fun i hi => ?_⟩
    have hs := openN_set (ready_open hi).2.1
    exact wpOp_mono (fun a' w' h' => wpAny_inv I hend hstep fuel _ a' w' (by omega) h') (hstep listed a w i hI hi)

/-- The values of a region's operations, put into the frame in which it began. -/
def putAll (a : Act) (dst : Nat → Option Tmp) (vs : Nat → Value) : Nat → Act
  | 0 => a
  | n + 1 => (putAll a dst vs n).put (dst n) (vs n)

theorem put_comm' (a : Act) (d e : Option Tmp) (v u : Value) (h : d ≠ e ∨ d = none) : (a.put d v).put e u = (a.put e u).put d v := by
  cases d with
  | none => rfl
  | some d =>
    cases e with
    | none => rfl
    | some e =>
      have hne : d ≠ e := by
        rcases h with h | h
        · exact fun e' => h (by rw [e'])
        · cases h
      simp [Act.put, Array.setIfInBounds_comm _ _ hne]

theorem put_put' (a : Act) (d : Option Tmp) (v u : Value) : (a.put d v).put d u = a.put d u := by
  cases d with
  | none => rfl
  | some d => simp [Act.put]

theorem putAll_same (a : Act) (dst : Nat → Option Tmp) {vs us : Nat → Value} : ∀ n, (∀ j, j < n → vs j = us j) → putAll a dst vs n = putAll a dst us n
  | 0, _ => rfl
  | n + 1, h => by simp only [putAll]; rw [putAll_same a dst n (fun j hj => h j (by omega)), h n (by omega)]

theorem putAll_upd (a : Act) (dst : Nat → Option Tmp) (vs : Nat → Value) (i : Nat) (v : Value) : ∀ n, i < n → (∀ j, j < n → j ≠ i → dst j ≠ dst i ∨ dst j = none) → putAll a dst (fun j => if j = i then v else vs j) n = (putAll a dst vs n).put (dst i) v
  | 0, h, _ => by omega
  | n + 1, h, hd => by
    by_cases hn : i = n
    · subst hn
      simp only [putAll, if_true]
      rw [putAll_same a dst (us := vs) i (fun j hj => by simp [show j ≠ i by omega]), put_put']
    · simp only [putAll]
      rw [putAll_upd a dst vs i v n (by omega) (fun j hj => hd j (by omega)), if_neg (fun e => hn e.symm)]
      exact (put_comm' _ _ _ _ _ (hd n (by omega) (fun e => hn e.symm))).symm

theorem wp_region_mono {id : Nat} {a0 : Act} {w0 : World} (hm : P.follows .mixedOrders = true)
    (S : World → Prop) (Ext : World → World → Prop) (hrefl : ∀ w, Ext w w) (htrans : ∀ a b c, Ext a b → Ext b c → Ext a c)
    (R : Nat → Value → World → Prop) (hR : ∀ i v w w', S w → R i v w → Ext w w' → R i v w')
    (dst : Nat → Option Tmp) (_hdst : ∀ i o, ops[i]? = some o → o.dst = dst i) (hdd : ∀ i j, i < ops.size → j < ops.size → j ≠ i → dst j ≠ dst i ∨ dst j = none)
    (hback : ∀ (i : Nat) (o : Oper), ops[i]? = some o → ∀ e : Edge, e ∈ o.after → e.on < i) (init : Nat → Value) (hinit : putAll a0 dst init ops.size = a0) (hS : S w0.drew)
    (hstep : ∀ i o, ops[i]? = some o → ∀ (vs : Nat → Value) (w : World), S w → Ext w0.drew w → (∀ j, (o.after.any fun e => Region.binds .any e && e.on == j) = true → R j (vs j) w) →
      ∀ K : Act → World → Prop, (∀ v w', S w' → Ext w w' → R i v w' → K ((putAll a0 dst vs ops.size).put (dst i) v) w') →
        if Region.wanted o (yielded ops (putAll a0 dst vs ops.size).tmps) = true then Oper.wp P o (putAll a0 dst vs ops.size) w K Q else K ((putAll a0 dst vs ops.size).put o.dst undef) w)
    (hend : ∀ (vs : Nat → Value) (w : World), S w → Ext w0.drew w → (∀ i, i < ops.size → R i (vs i) w) → Q .normal (putAll a0 dst vs ops.size) w) : (Code.region id ops true).wp P Q a0 w0 := by
  refine wp_region_any hm ?_
  refine wpAny_inv (fun listed a w => listed.size = ops.size ∧ ∃ vs, a = putAll a0 dst vs ops.size ∧ S w ∧ Ext w0.drew w ∧ ∀ j, listed.getD j false = true → R j (vs j) w) ?_ ?_ ops.size _ _ _ ?_ ⟨by simp, init, hinit.symm, hS, hrefl _, fun j hj => ?_⟩
  · rintro listed a w ⟨hsz, vs, rfl, hs, he, hj⟩ hr
    refine hend vs w hs he (fun i hi => hj i ?_)
    have hall : ∀ n i, i < n → i < ops.size → listed.getD i false = true := by
      intro n
      induction n with
      | zero => intro i h; omega
      | succ n ih =>
        intro i hin hi
        by_cases hl : listed.getD i true = false
        · exfalso
          have hmem : i ∈ Region.ready .any ops listed := by
            simp only [Region.ready, List.mem_filter, List.mem_range, Bool.and_eq_true, Bool.not_eq_true']
            refine ⟨hi, hl, ?_⟩
            have ho : ops[i]? = some ops[i] := Array.getElem?_eq_getElem hi
            rw [ho]
            simp only [Option.map_some, Option.getD_some, Array.all_eq_true_iff_forall_mem, Bool.or_eq_true, Bool.not_eq_true']
            intro e hm'
            right
            have := hback i _ ho e hm'
            exact ih e.on (by omega) (by omega)
          rw [hr] at hmem
          cases hmem
        · have hlt : i < listed.size := by omega
          simp only [Array.getD, hlt, dif_pos] at hl ⊢
          simpa using hl
    exact hall (i + 1) i (by omega) hi
  · rintro listed a w i ⟨hsz, vs, rfl, hs, he, hj⟩ hi
    obtain ⟨hlt, hun, o, ho, hdeps⟩ := ready_open hi
    refine wpOp_step ho (fun K' hK => hstep i o ho vs w hs he (fun j hjd => ?_) K' (fun v w' hs' he' hr' => hK _ _ ⟨by simpa using hsz, fun j => if j = i then v else vs j, ?_, hs', htrans _ _ _ he he', fun j hjl => ?_⟩))
    · rw [Array.any_eq_true] at hjd
      obtain ⟨k, hk, hb⟩ := hjd
      simp only [Bool.and_eq_true, beq_iff_eq] at hb
      exact hj j (by rw [← hb.2]; exact hdeps _ (Array.getElem_mem hk) hb.1)
    · exact (putAll_upd a0 dst vs i v ops.size hlt (fun j hj' hne => hdd i j hlt hj' hne)).symm
    · by_cases hji : j = i
      · subst hji; simpa using hr'
      · simp only [hji, if_false]
        refine hR j _ w w' hs (hj j ?_) he'
        have e : (listed.setIfInBounds i true).getD j false = listed.getD j false := by
          simp only [Array.getD_eq_getD_getElem?, Array.getElem?_setIfInBounds]
          rw [if_neg (fun e => hji e.symm)]
        rw [← e]
        exact hjl
  · have := List.countP_le_length (p := fun b : Bool => !b) (l := (Array.replicate ops.size false).toList)
    unfold openN
    simpa using this
  · simp [Array.getD] at hj

theorem all_listed {listed : Array Bool} (hsz : listed.size = ops.size) (hback : ∀ (i : Nat) (o : Oper), ops[i]? = some o → ∀ e : Edge, e ∈ o.after → e.on < i) (hr : Region.ready .any ops listed = []) : ∀ i, i < ops.size → listed.getD i false = true := by
  have hall : ∀ n i, i < n → i < ops.size → listed.getD i false = true := by
    intro n
    induction n with
    | zero => intro i h; omega
    | succ n ih =>
      intro i hin hi
      by_cases hl : listed.getD i true = false
      · exfalso
        have hmem : i ∈ Region.ready .any ops listed := by
          simp only [Region.ready, List.mem_filter, List.mem_range, Bool.and_eq_true, Bool.not_eq_true']
          refine ⟨hi, hl, ?_⟩
          have ho : ops[i]? = some ops[i] := Array.getElem?_eq_getElem hi
          rw [ho]
          simp only [Option.map_some, Option.getD_some, Array.all_eq_true_iff_forall_mem, Bool.or_eq_true, Bool.not_eq_true']
          intro e hm'
          right
          have := hback i _ ho e hm'
          exact ih e.on (by omega) (by omega)
        rw [hr] at hmem
        cases hmem
      · have hlt : i < listed.size := by omega
        simp only [Array.getD, hlt, dif_pos] at hl ⊢
        simpa using hl
  exact fun i hi => hall (i + 1) i (by omega) hi

/-- The same, the last operation (a store) by itself: it comes when all others have come. -/
theorem wp_region_mono1 {id n : Nat} {a0 : Act} {w0 : World} (hm : P.follows .mixedOrders = true) (hn : ops.size = n + 1)
    (Ext : World → World → Prop) (hrefl : ∀ w, Ext w w) (htrans : ∀ a b c, Ext a b → Ext b c → Ext a c)
    (R : Nat → Value → World → Prop) (hR : ∀ i v w w', Ext w0.drew w → R i v w → Ext w w' → R i v w')
    (dst : Nat → Option Tmp) (hdd : ∀ i j, i < n → j < ops.size → j ≠ i → dst j ≠ dst i ∨ dst j = none)
    (hback : ∀ (i : Nat) (o : Oper), ops[i]? = some o → ∀ e : Edge, e ∈ o.after → e.on < i)
    (hall : ∀ o, ops[n]? = some o → ∀ j, j < n → (o.after.any fun e => Region.binds .any e && e.on == j) = true) (init : Nat → Value) (hinit : putAll a0 dst init ops.size = a0)
    (hstep : ∀ i o, i < n → ops[i]? = some o → ∀ (vs : Nat → Value) (w : World), Ext w0.drew w → (∀ j, (o.after.any fun e => Region.binds .any e && e.on == j) = true → R j (vs j) w) →
      ∀ K : Act → World → Prop, (∀ v w', Ext w w' → R i v w' → K ((putAll a0 dst vs ops.size).put (dst i) v) w') →
        if Region.wanted o (yielded ops (putAll a0 dst vs ops.size).tmps) = true then Oper.wp P o (putAll a0 dst vs ops.size) w K Q else K ((putAll a0 dst vs ops.size).put o.dst undef) w)
    (hlast : ∀ o, ops[n]? = some o → ∀ (vs : Nat → Value) (w : World), Ext w0.drew w → (∀ i, i < n → R i (vs i) w) → ∀ K : Act → World → Prop, (∀ a w, Q .normal a w → K a w) →
        if Region.wanted o (yielded ops (putAll a0 dst vs ops.size).tmps) = true then Oper.wp P o (putAll a0 dst vs ops.size) w K Q else K ((putAll a0 dst vs ops.size).put o.dst undef) w) : (Code.region id ops true).wp P Q a0 w0 := by
  refine wp_region_any hm ?_
  refine wpAny_inv (fun listed a w => listed.size = ops.size ∧ (((∀ j, j < ops.size → listed.getD j false = true) ∧ Q .normal a w) ∨ ∃ vs, a = putAll a0 dst vs ops.size ∧ Ext w0.drew w ∧ listed.getD n false = false ∧ ∀ j, listed.getD j false = true → R j (vs j) w)) ?_ ?_ ops.size _ _ _ ?_ ⟨by simp, Or.inr ⟨init, hinit.symm, hrefl _, ?_, fun j hj => ?_⟩⟩
  · rintro listed a w ⟨hsz, ⟨_, hq⟩ | ⟨vs, rfl, he, hl, hj⟩⟩ hr
    · exact hq
    · have := all_listed hsz hback hr n (by omega)
      rw [hl] at this
      cases this
  · rintro listed a w i ⟨hsz, ⟨hl, hq⟩ | ⟨vs, rfl, he, hl, hj⟩⟩ hi
    · -- behind the last nothing comes
      exfalso
      obtain ⟨hlt, hun, o, ho, hdeps⟩ := ready_open hi
      have := hl i hlt
      have hls : i < listed.size := by omega
      simp only [Array.getD, hls, dif_pos] at hun this
      rw [hun] at this
      cases this
    · obtain ⟨hlt, hun, o, ho, hdeps⟩ := ready_open hi
      by_cases hin : i = n
      · subst hin
        have hdone : ∀ j, j < i → listed.getD j false = true := fun j hjn => by
          have := hall o ho j hjn
          rw [Array.any_eq_true] at this
          obtain ⟨k, hk, hb⟩ := this
          simp only [Bool.and_eq_true, beq_iff_eq] at hb
          rw [← hb.2]
          exact hdeps _ (Array.getElem_mem hk) hb.1
        refine wpOp_step ho (fun K' hK => hlast o ho vs w he (fun j hjn => hj j (hdone j hjn)) K' (fun a w' hq => hK _ _ ⟨by simpa using hsz, Or.inl ⟨fun j hjs => ?_, hq⟩⟩))
        by_cases hji : j = i
        · subst hji
          simp [Array.getD_eq_getD_getElem?, show j < listed.size by omega]
        · have e : (listed.setIfInBounds i true).getD j false = listed.getD j false := by
            simp only [Array.getD_eq_getD_getElem?, Array.getElem?_setIfInBounds]
            rw [if_neg (fun e => hji e.symm)]
          rw [e]
          exact hdone j (by omega)
      · refine wpOp_step ho (fun K' hK => hstep i o (by omega) ho vs w he (fun j hjd => ?_) K' (fun v w' he' hr' => hK _ _ ⟨by simpa using hsz, Or.inr ⟨fun j => if j = i then v else vs j, ?_, htrans _ _ _ he he', ?_, fun j hjl => ?_⟩⟩))
        · rw [Array.any_eq_true] at hjd
          obtain ⟨k, hk, hb⟩ := hjd
          simp only [Bool.and_eq_true, beq_iff_eq] at hb
          exact hj j (by rw [← hb.2]; exact hdeps _ (Array.getElem_mem hk) hb.1)
        · exact (putAll_upd a0 dst vs i v ops.size hlt (fun j hj' hne => hdd i j (by omega) hj' hne)).symm
        · simp only [Array.getD_eq_getD_getElem?, Array.getElem?_setIfInBounds] at hl ⊢
          rw [if_neg hin]
          exact hl
        · by_cases hji : j = i
          · subst hji; simpa using hr'
          · simp only [hji, if_false]
            refine hR j _ w w' he (hj j ?_) he'
            have e : (listed.setIfInBounds i true).getD j false = listed.getD j false := by
              simp only [Array.getD_eq_getD_getElem?, Array.getElem?_setIfInBounds]
              rw [if_neg (fun e => hji e.symm)]
            rw [← e]
            exact hjl
  · have := List.countP_le_length (p := fun b : Bool => !b) (l := (Array.replicate ops.size false).toList)
    unfold openN
    simpa using this
  · rw [Array.getD_eq_getD_getElem?, Array.getElem?_replicate]; split <;> rfl
  · simp [Array.getD] at hj
end
end Go.Proofs.YtidpkmkhcomcdaaGreat

namespace Go.Proofs.YtidpkmkhcomcdaaGreat
open Go.RowKit

set_option maxHeartbeats 2000000
set_option maxRecDepth 100000

def lastL : List (List UInt8) → Tm → Tm
  | [], t => t
  | x :: xs, t => if (Tm.abs x t).fits = true then lastL xs (Tm.abs x t) else Tm.abs x t

theorem absL_last : ∀ (xs : List (List UInt8)) {t : Tm}, t.fits = true → absL xs t = if (lastL xs t).fits = true then some (lastL xs t) else none
  | [], t, h => by simp [absL, lastL, h]
  | x :: xs, t, _ => by
    by_cases hf : (Tm.abs x t).fits = true
    · have hl : lastL (x :: xs) t = lastL xs (Tm.abs x t) := by simp [lastL, hf]
      rw [hl]
      simp only [absL, if_pos hf]
      exact absL_last xs hf
    · have hl : lastL (x :: xs) t = Tm.abs x t := by simp [lastL, hf]
      rw [hl, if_neg hf]
      simp [absL, hf]

theorem abs_good (x : List UInt8) : ∀ {t : Tm}, t.good = true → (Tm.abs x t).good = true
  | .k, _ => rfl
  | .s, _ => rfl
  | .nm n, hn => by by_cases he : n = x <;> simp [Tm.abs, he, Tm.I, Tm.good] <;> simpa [Tm.good] using hn
  | .app f a, h => by
    have h' := h
    simp only [Tm.good, Bool.and_eq_true] at h'
    simp only [Tm.abs]
    split
    · simpa [Tm.good] using h'
    · split
      · exact h'.1
      · simp [Tm.good, abs_good x h'.1, abs_good x h'.2]

theorem last_good : ∀ (xs : List (List UInt8)) {t : Tm}, t.good = true → t.fits = true → (lastL xs t).good = true ∧ (lastL xs t).size ≤ 12000
  | [], t, hg, hf => ⟨hg, by have := fits_size hf; simp only [lastL]; omega⟩
  | x :: xs, t, hg, hf => by
    simp only [lastL]
    have hga := abs_good x hg
    have hsz := abs_size x t
    have hfs := fits_size hf
    split
    · rename_i h; exact last_good xs hga h
    · exact ⟨hga, by omega⟩

theorem name_not3 {n : List UInt8} (h : Tm.nameOk n = true) : ([] == n) = false ∧ ([107] == n) = false ∧ ([115] == n) = false := by
  refine ⟨?_, ?_, ?_⟩ <;> (rw [beq_eq_false_iff_ne]; rintro rfl; revert h; decide)

end Go.Proofs.YtidpkmkhcomcdaaGreat

namespace Go.Proofs.YtidpkmkhcomcdaaGreat
open Go.RowKit

set_option maxHeartbeats 1000000
set_option maxRecDepth 100000

namespace Tm
/-- A number of at most f digits in decimals. -/
def decs : Nat → Nat → List UInt8
  | 0, _ => []
  | f + 1, n => if n < 10 then [UInt8.ofNat (48 + n)] else decs f (n / 10) ++ [UInt8.ofNat (48 + n % 10)]
theorem decs_len (f n : Nat) : (decs f n).length ≤ f := by
  induction f generalizing n with
  | zero => simp [decs]
  | succ f ih => simp only [decs]; split; · simp
                 have := ih (n / 10); simp; omega
theorem decs_dig (f n : Nat) : (decs f n).all dig = true := by
  induction f generalizing n with
  | zero => rfl
  | succ f ih =>
    have h10 : ∀ m, m < 10 → dig (UInt8.ofNat (48 + m)) = true := by decide +kernel
    simp only [decs]
    split
    · rename_i h; simp only [List.all_cons, List.all_nil, h10 n h, Bool.and_true]
    · simp only [List.all_append, ih (n / 10), List.all_cons, List.all_nil, h10 (n % 10) (by omega), Bool.and_true]
end Tm

/-- A byte as the walk spells it. -/
theorem conv_one (W : World) (c : UInt8) : (convert 22 9 (.slice (some ⟨W.heap.size, 0, none⟩) 1 1)).run Tryz.prog (W.alloc (.cells #[.int .u8 (c.toNat : Int)] 5)) = .ok (str [c]) (W.alloc (.cells #[.int .u8 (c.toNat : Int)] 5)) := by
  have hown : Own (W.alloc (.cells #[.int .u8 (c.toNat : Int)] 5)) W.heap.size (.slice (some ⟨W.heap.size, 0, none⟩) 1 1) [c] := by
    have := World.ownsRow_lit (base := W.heap.size) (e := 5) (size := 1) W #[.int .u8 (c.toNat : Int)] 1 (Nat.le_refl _) (by decide) (by simp)
    unfold Own
    simpa [bcells] using this
  exact run_text hown (by simp)

theorem conv_later (W : World) (g : Nat) (c : UInt8) (h : W.heap[g]? = some (.cells #[.int .u8 (c.toNat : Int)] 5 (0, 0))) : (convert 22 9 (.slice (some ⟨g, 0, none⟩) 1 1)).run Tryz.prog W = .ok (str [c]) W := by
  have hlt := (Array.getElem?_eq_some_iff.1 h).1
  have hown : Own W g (.slice (some ⟨g, 0, none⟩) 1 1) [c] := by
    unfold Own
    unfold World.ownsRow
    exact ⟨by simp [bcells], Or.inr ⟨g, 1, _, rfl, Nat.le_refl _, h, by simp, by decide, rfl, by simp [bcells]⟩⟩
  exact run_text hown (by simp)

theorem dec_any : ∀ (f n : Nat) (w : World), n < 10 ^ (f + 1) → f ≤ 16 →
    Calls Tryz.prog 110 #[.int .i64 n] w fun e w' => e = .returned (str (Tm.decs (f + 1) n)) ∧ After w w' := by
  intro f
  induction f with
  | zero =>
    intro n w hn _
    have hn10 : n < 10 := by simpa using hn
    obtain ⟨c, hc⟩ : ∃ c : UInt8, c = UInt8.ofNat (48 + n) := ⟨_, rfl⟩
    have hcn : (48 + (n : Int)) = (c.toNat : Int) := by
      have : c.toNat = 48 + n := by rw [hc, UInt8.toNat_ofNat']; omega
      omega
    have hr : Tm.decs (0 + 1) n = [c] := by simp [Tm.decs, hn10, hc]
    rw [hr]
    have hconv := conv_one w c
    rw [← hcn] at hconv
    clear hr hcn hc hn
    go_enter Tryz.func110, Tryz.ntmps110
    go_wp2_with fail
    go_ret
    exact ⟨rfl, After.new _ _⟩
  | succ f ih =>
    intro n w hn hf
    by_cases hn10 : n < 10
    · obtain ⟨c, hc⟩ : ∃ c : UInt8, c = UInt8.ofNat (48 + n) := ⟨_, rfl⟩
      have hcn : (48 + (n : Int)) = (c.toNat : Int) := by
        have : c.toNat = 48 + n := by rw [hc, UInt8.toNat_ofNat']; omega
        omega
      have hr : Tm.decs (f + 1 + 1) n = [c] := by simp [Tm.decs, hn10, hc]
      rw [hr]
      have hconv := conv_one w c
      rw [← hcn] at hconv
      clear hr hcn hc hn ih
      go_enter Tryz.func110, Tryz.ntmps110
      go_wp2_with fail
      go_ret
      exact ⟨rfl, After.new _ _⟩
    · have hq : n / 10 < 10 ^ (f + 1) := by rw [Nat.pow_succ] at hn; omega
      have hbig : n < 1000000000000000000 := Nat.lt_of_lt_of_le hn (Nat.le_trans (Nat.pow_le_pow_right (by omega) (show f + 1 + 1 ≤ 18 by omega)) (by decide +kernel))
      have hcall := fun W => ih (n / 10) W hq (by omega)
      obtain ⟨c, hc⟩ : ∃ c : UInt8, c = UInt8.ofNat (48 + n % 10) := ⟨_, rfl⟩
      have hct : c.toNat = 48 + n % 10 := by rw [hc, UInt8.toNat_ofNat']; omega
      have hr : Tm.decs (f + 1 + 1) n = Tm.decs (f + 1) (n / 10) ++ [c] := by
        rw [Tm.decs, if_neg hn10, hc]
      rw [hr]
      have hlen := Tm.decs_len (f + 1) (n / 10)
      generalize Tm.decs (f + 1) (n / 10) = ds at *
      have hadd : ∀ W, (Op.stringOp .add ⟨ds.toArray⟩ ⟨[c].toArray⟩).run Tryz.prog W = .ok (str (ds ++ [c])) W := by
        have h1 : (⟨[c].toArray⟩ : ByteArray).size = 1 := rfl
        have h2 : (⟨ds.toArray⟩ : ByteArray).size = ds.length := by show ds.toArray.size = _; simp
        obtain ⟨t, hl, _, he⟩ := cat ⟨ds.toArray⟩ ⟨[c].toArray⟩ (by omega)
        have : (.string t : Value) = str (ds ++ [c]) := congrArg Value.string (ByteArray.ext (Array.ext' (by rw [hl])))
        rw [← this]; exact he
      have hself := After.refl w
      have hbig' : n < 9000000000000000000 := by omega
      obtain ⟨q, hqq⟩ : ∃ q, q = n / 10 := ⟨_, rfl⟩
      obtain ⟨d, hdd⟩ : ∃ d, d = n % 10 := ⟨_, rfl⟩
      rw [← hqq] at hcall
      have hd10 : d < 10 := by omega
      have e1 : (n : Int).tdiv 10 = (q : Int) := by rw [Int.tdiv_eq_ediv_of_nonneg (by omega)]; omega
      have e2 : (n : Int).tmod 10 = (d : Int) := by rw [Int.tmod_eq_emod_of_nonneg (by omega)]; omega
      have e3 : (n : Int) / 10 = (q : Int) := by omega
      have e4 : (n : Int) % 10 = (d : Int) := by omega
      have e5 : IntKind.i64.wrap (q : Int) = (q : Int) := IntWalk.i64_in _ (by omega)
      have e6 : IntKind.i64.wrap (d : Int) = (d : Int) := IntWalk.i64_in _ (by omega)
      have e7 : IntKind.i64.wrap (c.toNat : Int) = (c.toNat : Int) := IntWalk.i64_in _ (by omega)
      have e8 : (48 + (d : Int)) = (c.toNat : Int) := by rw [hct]; omega
      have e9 : IntKind.u8.wrap (c.toNat : Int) = (c.toNat : Int) := by rw [IntKind.wrap_u8']; omega
      have hn0 : (10 : Int) ≤ (n : Int) := by omega
      have hconv0 := conv_later (w.alloc (.cells #[.int .u8 (c.toNat : Int)] 5)).drew w.heap.size c (heap_new' w _)
      have hl0 : ∀ w1, After (w.alloc (.cells #[.int .u8 (c.toNat : Int)] 5)).drew w1 → (convert 22 9 (.slice (some ⟨w.heap.size, 0, none⟩) 1 1)).run Tryz.prog w1 = .ok (str [c]) w1 := fun w1 h => conv_later w1 _ c (h.heap (w := (w.alloc (.cells #[.int .u8 (c.toNat : Int)] 5)).drew) (heap_new' w _))
      have hl1 := fun w1 : World => conv_one w1 c
      have HL0 := Lib.hid hl0
      clear hc hr hl0 hlen hn hbig hbig' ih hqq hdd hct hd10 hq hn10
      go_enter Tryz.func110, Tryz.ntmps110
      go_wp2_with fail
      go_region_with ((go_at_call 110; refine (hcall _).mono ?_; rintro e w1 ⟨rfl, hb1⟩; have hb1' := After.trans (by first | exact hself.drew | exact (hself.drew).alloc _ | exact (hself.alloc _).drew) hb1; try (have hcv := HL0.out _ hb1)))
      all_goals
        go_wp2_with fail
        go_ret
        first
          | exact ⟨rfl, hb1'⟩
          | exact ⟨rfl, hb1'.alloc _⟩
end Go.Proofs.YtidpkmkhcomcdaaGreat

namespace Go.Proofs.YtidpkmkhcomcdaaGreat
open Go.RowKit

set_option maxHeartbeats 2000000
set_option maxRecDepth 100000

/-- The name z and a number. -/
def zn (k : Nat) : List UInt8 := 122 :: Tm.decs 4 k

theorem zn_last : Tm.nameOk (zn 1000) = false := by decide +kernel

def FreePost (w : World) (a b : Tm) (e : Ending) (w' : World) : Prop :=
  ∃ k, k ≤ 1000 ∧ e = .returned (str (zn k)) ∧ After w w' ∧ a.uses (zn k) = 0 ∧ b.uses (zn k) = 0

theorem zn_not (k : Nat) : ([107] == zn k) = false ∧ ([115] == zn k) = false ∧ ([] == zn k) = false := by
  refine ⟨?_, ?_, ?_⟩ <;> (rw [beq_eq_false_iff_ne]; simp [zn])

theorem zn_add (k : Nat) (W : World) : (Op.stringOp .add ⟨#[122]⟩ ⟨(Tm.decs 4 k).toArray⟩).run Tryz.prog W = .ok (str (zn k)) W := by
  have hl := Tm.decs_len 4 k
  have h1 : (⟨#[122]⟩ : ByteArray).size = 1 := rfl
  have h2 : (⟨(Tm.decs 4 k).toArray⟩ : ByteArray).size = (Tm.decs 4 k).length := by show (Tm.decs 4 k).toArray.size = _; simp
  obtain ⟨t, hl, _, he⟩ := cat ⟨#[122]⟩ ⟨(Tm.decs 4 k).toArray⟩ (by omega)
  have : (.string t : Value) = str (zn k) := congrArg Value.string (ByteArray.ext (Array.ext' (by rw [hl]; rfl)))
  rw [← this]; exact he W

theorem free_any (w : World) (a b : Tm) (s1 s2 : List UInt8) (ao1 ao2 : Option Addr) (n1 c1 n2 c2 : Nat) (ha : ST w a (.agg #[str s1, .slice ao1 n1 c1])) (hb : ST w b (.agg #[str s2, .slice ao2 n2 c2])) (hga : a.good = true) (hgb : b.good = true) (hza : a.size ≤ 1000000) (hzb : b.size ≤ 1000000) :
    Calls Tryz.prog 95 #[.agg #[str s1, .slice ao1 n1 c1], .agg #[str s2, .slice ao2 n2 c2]] w (FreePost w a b) := by
  have hA0 := (After.new w (.cells #[str s1, .slice ao1 n1 c1] 53)).alloc (.cells #[str s2, .slice ao2 n2 c2] 53)
  have hb1 := heap_old2 w (.cells #[str s1, .slice ao1 n1 c1] 53) (.cells #[str s2, .slice ao2 n2 c2] 53)
  have hb2 := heap_new2 w _ (.cells #[str s1, .slice ao1 n1 c1] 53) (.cells #[str s2, .slice ao2 n2 c2] 53) rfl
  obtain ⟨Y, hY⟩ : ∃ Y, Y = (w.alloc (.cells #[str s1, .slice ao1 n1 c1] 53)).alloc (.cells #[str s2, .slice ao2 n2 c2] 53) := ⟨_, rfl⟩
  rw [← hY] at hA0 hb1 hb2
  have HA := Lib.hid (ha.later hA0)
  have HB := Lib.hid (hb.later hA0)
  have HA0 := Lib.hid hA0
  have p0 : ∀ W, After Y W → W.cell? ⟨w.heap.size, 0, none⟩ = some (str s1) := fun W hW => hW.cell (cell_of_heap hb1)
  have p1 : ∀ W, After Y W → W.cell? ⟨w.heap.size, 1, none⟩ = some (.slice ao1 n1 c1) := fun W hW => hW.cell (cell_of_heap hb1)
  have p2 : ∀ W, After Y W → W.cell? ⟨w.heap.size + 1, 0, none⟩ = some (str s2) := fun W hW => hW.cell (cell_of_heap hb2)
  have p3 : ∀ W, After Y W → W.cell? ⟨w.heap.size + 1, 1, none⟩ = some (.slice ao2 n2 c2) := fun W hW => hW.cell (cell_of_heap hb2)
  have hself := After.refl Y
  clear ha hb hb1 hb2 hA0
  go_enter Tryz.func95, Tryz.ntmps95
  go_wp2_with fail
  rw [← hY]
  clear hY
  go_loopw [5] (fun i wr => ∃ k : Nat, i = .int .i64 k ∧ k ≤ 1000 ∧ After Y wr) (fun i _ => 1000 - (intOf i).toNat)
  case atStart => exact ⟨0, rfl, by omega, hself⟩
  case round =>
    obtain ⟨k, rfl, hk, hA⟩ := hrel
    obtain ⟨z1, z2, _⟩ := zn_not k
    have hdec := fun W => dec_any 3 k W (by omega) (by omega)
    have hadd := zn_add k
    have hua := fun W (hW : After Y W) => (HA.out.later hW).usesG (zn k) z1 z2 (Tm.plain_good hga) (by omega)
    have hub := fun W (hW : After Y W) => (HB.out.later hW).usesG (zn k) z1 z2 (Tm.plain_good hgb) (by omega)
    have hend : k = 1000 → a.uses (zn k) = 0 ∧ b.uses (zn k) = 0 := fun h => by subst h; exact ⟨Tm.uses_bad _ zn_last hga, Tm.uses_bad _ zn_last hgb⟩
    obtain ⟨u1, hu1⟩ : ∃ u, u = a.uses (zn k) := ⟨_, rfl⟩
    obtain ⟨u2, hu2⟩ : ∃ u, u = b.uses (zn k) := ⟨_, rfl⟩
    rw [← hu1] at hua hend
    rw [← hu2] at hub hend
    have HU1 := Lib.hid hu1
    have HU2 := Lib.hid hu2
    have HE := Lib.hid hend
    have HAY := Lib.hid hA
    obtain ⟨z, hz⟩ : ∃ z, z = zn k := ⟨_, rfl⟩
    rw [← hz] at hadd hua hub
    have HZ := Lib.hid hz
    obtain ⟨ds, hds⟩ : ∃ ds, ds = Tm.decs (3 + 1) k := ⟨_, rfl⟩
    rw [← hds] at hdec
    have hadd' : ∀ W, (Op.stringOp .add ⟨#[122]⟩ ⟨ds.toArray⟩).run Tryz.prog W = .ok (str z) W := by rw [hds]; exact hadd
    clear hu1 hu2 hend z1 z2 hadd hz hds
    by_cases h1 : 0 < u1
    · have hi1 : (0 : Int) < (u1 : Int) := by omega
      have hd1 : decide ((0 : Int) < (u1 : Int)) = true := by simp [h1]
      have hk' : k < 1000 := by rcases Nat.lt_or_ge k 1000 with h | h; · exact h
                                · have := (HE.out (by omega)).1; omega
      clear h1 hub
      go_wp2_with fail
      have hAd := hA.drew
      first
      | (go_region_with (first
          | (go_at_call 110; refine (hdec _).mono ?_; rintro e w1 ⟨rfl, hb1⟩; have hb1' := After.trans hAd hb1)
          | (go_at_call 99; refine (hua _ (by assumption)).mono ?_; rintro e w2 ⟨rfl, hb2⟩; have hb2' := After.trans (by assumption) hb2)))
      | fail
      all_goals
        go_wp2_with fail
        go_roundw
        case rel => exact ⟨k + 1, by go_num, by omega, by assumption⟩
        case measure => simp [intOf]; omega
    · obtain rfl : u1 = 0 := by omega
      clear h1
      simp only [Int.natCast_zero] at hua
      have hAd := hA.drew
      by_cases h2 : 0 < u2
      · have hi2 : (0 : Int) < (u2 : Int) := by omega
        have hd2 : decide ((0 : Int) < (u2 : Int)) = true := by simp [h2]
        have hk' : k < 1000 := by
          rcases Nat.lt_or_ge k 1000 with h | h
          · exact h
          · have := (HE.out (by omega)).2; omega
        clear h2
        go_wp2_with fail
        go_region_with (first
            | (go_at_call 110; refine (hdec _).mono ?_; rintro e w1 ⟨rfl, hb1⟩; have hb1' := After.trans (by assumption) hb1)
            | (go_at_call_of 99 ao1; refine (hua _ (by assumption)).mono ?_; rintro e w2 ⟨rfl, hb2⟩; have hb2' := After.trans (by assumption) hb2)
            | (go_at_call_of 99 ao2; refine (hub _ (by assumption)).mono ?_; rintro e w4 ⟨rfl, hb4⟩; have hb4' := After.trans (by assumption) hb4))
        all_goals
          go_wp2_with fail
          go_roundw
          case rel => exact ⟨k + 1, by go_num, by omega, by assumption⟩
          case measure => simp [intOf]; omega
      · obtain rfl : u2 = 0 := by omega
        simp only [Int.natCast_zero] at hub
        clear h2
        go_wp2_with fail
        go_region_with (first
            | (go_at_call 110; refine (hdec _).mono ?_; rintro e w1 ⟨rfl, hb1⟩; have hb1' := After.trans (by assumption) hb1)
            | (go_at_call_of 99 ao1; refine (hua _ (by assumption)).mono ?_; rintro e w2 ⟨rfl, hb2⟩; have hb2' := After.trans (by assumption) hb2)
            | (go_at_call_of 99 ao2; refine (hub _ (by assumption)).mono ?_; rintro e w4 ⟨rfl, hb4⟩; have hb4' := After.trans (by assumption) hb4))
        all_goals
          go_wp2_with (go_at_call 110; refine (hdec _).mono ?_; rintro e w6 ⟨rfl, hb6⟩; have hb6' := After.trans (by assumption) hb6)
          go_ret
          exact ⟨k, hk, by rw [HZ.out]; rfl, HA0.out.trans hb6', HU1.out.symm, HU2.out.symm⟩
end Go.Proofs.YtidpkmkhcomcdaaGreat

namespace Go.Proofs.YtidpkmkhcomcdaaGreat
open Go.RowKit

set_option maxHeartbeats 400000
set_option maxRecDepth 100000

/-- What PairOf answers. -/
def pPair (l m : List UInt8) : Option (List UInt8) := match Tm.parse l, Tm.parse m with
  | some t, some u => if (Tm.pair t u).fits = true then some (Tm.pair t u).text else none
  | _, _ => none

end Go.Proofs.YtidpkmkhcomcdaaGreat

namespace Go.Proofs.YtidpkmkhcomcdaaGreat
open Go.RowKit

set_option maxHeartbeats 2000000
set_option maxRecDepth 100000

theorem heap_newD (w : World) (o : Obj) : ((w.alloc o).drew).heap[w.heap.size]? = some o := heap_new' w o
theorem heap_old2D (w : World) (o p : Obj) : (((w.alloc o).alloc p).drew).heap[w.heap.size]? = some o := heap_old2 w o p
theorem heap_new2D (w : World) (o p : Obj) : (((w.alloc o).alloc p).drew).heap[w.heap.size + 1]? = some p := heap_new2 w _ o p rfl

theorem after_sets2 {X W : World} {G : Nat} {o : Obj} (h : After X W) (_hG : W.heap[G]? = some o) (hle : X.heap.size ≤ G) (u u' : Value) : After X ((W.setCell ⟨G, 0, none⟩ u).setCell ⟨G, 1, none⟩ u') :=
  Below.setCell (p := ⟨G, 1, none⟩) (Below.setCell (p := ⟨G, 0, none⟩) h hle _) hle _

theorem s_pair_none1 (w : World) (l m : List UInt8) (hl : l.length ≤ 1000000000) (hm : m.length ≤ 1000000000) (hp : Tm.parse l = none) :
    Calls Tryz.prog 72 #[str l, str m] w (SNumOne w none) := by
  have h1 := s_term w l hl
  have h2 := fun W => s_term W m hm
  unfold STermPost at h1 h2
  rw [hp] at h1
  generalize (Tm.parse m).isSome = b at h2
  clear hp
  go_enter Tryz.func72, Tryz.ntmps72
  go_wp2_with fail
  refine h1.mono ?_
  rintro e w1 ⟨s1, ao1, n1, c1, rfl, hb1, ht1⟩
  clear ht1
  go_wp2_with fail
  refine (h2 _).mono ?_
  rintro e w2 ⟨s2, ao2, n2, c2, rfl, hb2, ht2⟩
  clear ht2 h2 h1
  have hb3 := (After.alloc ((After.alloc hb1 (.cells #[str s1, .slice ao1 n1 c1] 53)).trans hb2) (.cells #[str s2, .slice ao2 n2 c2] 53))
  go_wp2_with fail
  go_ret2
  exact ⟨rfl, hb3⟩

theorem s_pair_none2 (w : World) (l m : List UInt8) (hl : l.length ≤ 1000000000) (hm : m.length ≤ 1000000000) (hp : (Tm.parse l).isSome = true) (hq : Tm.parse m = none) :
    Calls Tryz.prog 72 #[str l, str m] w (SNumOne w none) := by
  have h1 := s_term w l hl
  have h2 := fun W => s_term W m hm
  unfold STermPost at h1 h2
  rw [hp] at h1
  rw [hq] at h2
  clear hp hq
  go_enter Tryz.func72, Tryz.ntmps72
  go_wp2_with fail
  refine h1.mono ?_
  rintro e w1 ⟨s1, ao1, n1, c1, rfl, hb1, ht1⟩
  clear ht1
  go_wp2_with fail
  refine (h2 _).mono ?_
  rintro e w2 ⟨s2, ao2, n2, c2, rfl, hb2, ht2⟩
  clear ht2 h2 h1
  have hb3 := (After.alloc ((After.alloc hb1 (.cells #[str s1, .slice ao1 n1 c1] 53)).trans hb2) (.cells #[str s2, .slice ao2 n2 c2] 53))
  go_wp2_with fail
  go_ret2
  exact ⟨rfl, hb3⟩

theorem s_pair_some (w : World) (l m : List UInt8) (t u : Tm) (hl : l.length ≤ 1000000000) (hm : m.length ≤ 1000000000) (hp : Tm.parse l = some t) (hq : Tm.parse m = some u) :
    Calls Tryz.prog 72 #[str l, str m] w (SNumOne w (if (Tm.pair t u).fits = true then some (Tm.pair t u).text else none)) := by
  have h1 := s_term w l hl
  have h2 := fun W => s_term W m hm
  unfold STermPost at h1 h2
  rw [hp] at h1
  rw [hq] at h2
  obtain ⟨hg, hf, hs, _, _⟩ := Tm.parse_facts hp
  obtain ⟨hgu, hfu, hsu, _, _⟩ := Tm.parse_facts hq
  have hgp : (Tm.pair t u).good = true := by rw [Tm.good_pair, hg, hgu]; rfl
  have hsz := Tm.size_pair t u
  have htl := Tm.text_le _ hgp
  obtain ⟨fb, hfb⟩ : ∃ fb, fb = (Tm.pair t u).fits := ⟨_, rfl⟩
  rw [← hfb]
  obtain ⟨r, hr⟩ : ∃ r, r = if fb = true then some (Tm.pair t u).text else none := ⟨_, rfl⟩
  rw [← hr]
  have HFB := Lib.hid hfb
  have HSZ := Lib.hid hsz
  have HR := Lib.hid hr
  clear hp hq hfb hsz hr
  go_enter Tryz.func72, Tryz.ntmps72
  go_wp2_with fail
  refine h1.mono ?_
  rintro e w1 ⟨s1, ao1, n1, c1, rfl, hb1, ht1⟩
  have HT1 := Lib.hid (ht1 t rfl)
  clear ht1
  go_wp2_with fail
  refine (h2 _).mono ?_
  rintro e w2 ⟨s2, ao2, n2, c2, rfl, hb2, ht2⟩
  have HT2 := Lib.hid (ht2 u rfl)
  clear ht2 h2 h1
  obtain ⟨X, hX⟩ : ∃ X, X = w2.alloc (.cells #[str s2, .slice ao2 n2 c2] 53) := ⟨_, rfl⟩
  have h2X : After w2 X := by rw [hX]; exact After.new _ _
  have hA1 : After (w1.alloc (.cells #[str s1, .slice ao1 n1 c1] 53)) X := hb2.trans h2X
  have hAX : After w X := (After.alloc hb1 _).trans hA1
  have hT1 := HT1.out.later ((After.new w1 (.cells #[str s1, .slice ao1 n1 c1] 53)).trans hA1)
  have hT2 := HT2.out.later h2X
  have hbox1 := hA1.heap (heap_new' w1 (.cells #[str s1, .slice ao1 n1 c1] 53))
  have hbox2 : X.heap[w2.heap.size]? = some (.cells #[str s2, .slice ao2 n2 c2] 53 (0, 0)) := by rw [hX]; exact heap_new' _ _
  have hfree := free_any X t u s1 s2 ao1 ao2 n1 c1 n2 c2 hT1 hT2 hg hgu (by omega) (by omega)
  unfold FreePost at hfree
  have k0 : ∀ W, After X W → W.cell? ⟨w1.heap.size, 0, none⟩ = some (str s1) := fun W hW => hW.cell (cell_of_heap hbox1)
  have k1 : ∀ W, After X W → W.cell? ⟨w1.heap.size, 1, none⟩ = some (.slice ao1 n1 c1) := fun W hW => hW.cell (cell_of_heap hbox1)
  have k2 : ∀ W, After X W → W.cell? ⟨w2.heap.size, 0, none⟩ = some (str s2) := fun W hW => hW.cell (cell_of_heap hbox2)
  have k3 : ∀ W, After X W → W.cell? ⟨w2.heap.size, 1, none⟩ = some (.slice ao2 n2 c2) := fun W hW => hW.cell (cell_of_heap hbox2)
  have HAX := Lib.hid hAX
  have HTX1 := Lib.hid hT1
  have HTX2 := Lib.hid hT2
  have hself := After.refl X
  have x0 := k0 X hself
  have x1 := k1 X hself
  have x2 := k2 X hself
  have x3 := k3 X hself
  rw [hX] at x0 x1 x2 x3 hfree
  have HX := Lib.hid hX
  clear hX h2X hA1 hAX hT1 hT2 hbox1 hbox2 HT1 HT2 hb1 hb2
  go_wp2_with fail
  refine hfree.mono ?_
  rintro e w3 ⟨k, _, rfl, hb3, hu1, hu2⟩
  rw [← HX.out] at hb3
  clear x0 x1 x2 x3
  obtain ⟨hzk, hzs, hz0⟩ := zn_not k
  have hplain : (Tm.app (.app (.nm (zn k)) t) u).Plain := ⟨⟨by show zn k ≠ []; simp [zn], Tm.plain_good hg⟩, Tm.plain_good hgu⟩
  have habs := fun W v (h : ST W (.app (.app (.nm (zn k)) t) u) v) => h.abs (zn k) hz0 hzk hzs hplain (by simp [Tm.size]; omega)
  rw [Tm.pair_abs (zn k) t u hu1 hu2] at habs
  unfold TreePost at habs
  have hnm := fun W => s_nm W (zn k)
  generalize zn k = z at *
  have HAB := Lib.hid habs
  clear hzk hzs hz0 hplain hu1 hu2 hfree habs
  have sz3 := hb3.size
  go_wp2_with fail
  go_region_held3 (fun W' => After X W') (first | assumption | exact After.drew (by assumption) | exact After.alloc (by assumption) _ | exact Below.setCell (by assumption) (by first | omega | (simp; omega)) _ | exact Below.setCell (Below.setCell (by assumption) (by first | omega | (simp; omega)) _) (by first | omega | (simp; omega)) _)
    (first
      | (go_at_call 81
         refine (hnm _).mono ?_
         rintro e w4 ⟨rfl, hb4⟩
         have hA4 := After.trans (a := X) (by repeat (first | assumption | exact After.refl _ | apply After.alloc | apply After.drew | apply After.drews)) hb4
         have sz4 := hA4.size)
      | (go_at_call 78
         refine (s_app2 _ (.nm z) t u _ s1 s2 none ao1 ao2 0 0 n1 c1 n2 c2 _ (0, 0) ?_ ?_ ?_ ?_).mono ?_
         · rfl
         · exact HTX1.out.later (by repeat (first | assumption | exact After.refl _ | apply After.alloc | apply After.drew | apply After.drews))
         · exact HTX2.out.later (by repeat (first | assumption | exact After.refl _ | apply After.alloc | apply After.drew | apply After.drews))
         · (first | (first | exact heap_new' _ _ | exact heap_newD _ _ | exact heap_old2 _ _ _ | exact heap_old2D _ _ _ | exact heap_new2 _ _ _ _ rfl | exact heap_new2D _ _ _) | (refine After.heap hb4 ?_; (first | exact heap_new' _ _ | exact heap_newD _ _ | exact heap_old2 _ _ _ | exact heap_old2D _ _ _ | exact heap_new2 _ _ _ _ rfl | exact heap_new2D _ _ _)) | (refine After.heap (After.alloc hb4 _) ?_; (first | exact heap_new' _ _ | exact heap_newD _ _ | exact heap_old2 _ _ _ | exact heap_old2D _ _ _ | exact heap_new2 _ _ _ _ rfl | exact heap_new2D _ _ _)))
         rintro e w5 ⟨t5, ao5, n5, c5, rfl, hb5, ht5⟩
         have HT5 := Lib.hid ht5
         clear ht5
         have hA5 := After.trans (a := X) (by repeat (first | assumption | exact After.refl _ | apply After.alloc | apply After.drew | apply After.drews)) hb5
         have sz5 := hA5.size)
      | (go_at_call 80
         refine (HAB.out _ _ (HT5.out.later (by repeat (first | assumption | exact After.refl _ | apply After.alloc | apply After.drew | apply After.drews)))).mono ?_
         rintro e w6 ⟨t6, ao6, n6, c6, rfl, hb6, ht6⟩
         have HT6 := Lib.hid ht6
         clear ht6
         have hA6 := After.trans (a := X) (by repeat (first | assumption | exact After.refl _ | apply After.alloc | apply After.drew | apply After.drews)) hb6
         have sz6 := hA6.size
         first
           | ((first | (have hG : w6.heap[w5.heap.size]? = some (.cells #[.string ⟨#[]⟩, .slice none 0 0] 53 (0, 0)) := by (first | (first | exact heap_new' _ _ | exact heap_newD _ _ | exact heap_old2 _ _ _ | exact heap_old2D _ _ _ | exact heap_new2 _ _ _ _ rfl | exact heap_new2D _ _ _) | (refine After.heap hb6 ?_; (first | exact heap_new' _ _ | exact heap_newD _ _ | exact heap_old2 _ _ _ | exact heap_old2D _ _ _ | exact heap_new2 _ _ _ _ rfl | exact heap_new2D _ _ _)) | (refine After.heap (After.alloc hb6 _) ?_; (first | exact heap_new' _ _ | exact heap_newD _ _ | exact heap_old2 _ _ _ | exact heap_old2D _ _ _ | exact heap_new2 _ _ _ _ rfl | exact heap_new2D _ _ _)))) | (have hG : w6.heap[w4.heap.size]? = some (.cells #[.string ⟨#[]⟩, .slice none 0 0] 53 (0, 0)) := by (first | (first | exact heap_new' _ _ | exact heap_newD _ _ | exact heap_old2 _ _ _ | exact heap_old2D _ _ _ | exact heap_new2 _ _ _ _ rfl | exact heap_new2D _ _ _) | (refine After.heap hb6 ?_; (first | (first | exact heap_new' _ _ | exact heap_newD _ _ | exact heap_old2 _ _ _ | exact heap_old2D _ _ _ | exact heap_new2 _ _ _ _ rfl | exact heap_new2D _ _ _) | (refine After.heap hb5 ?_; (first | exact heap_new' _ _ | exact heap_newD _ _ | exact heap_old2 _ _ _ | exact heap_old2D _ _ _ | exact heap_new2 _ _ _ _ rfl | exact heap_new2D _ _ _)) | (refine After.heap (After.alloc hb5 _) ?_; (first | exact heap_new' _ _ | exact heap_newD _ _ | exact heap_old2 _ _ _ | exact heap_old2D _ _ _ | exact heap_new2 _ _ _ _ rfl | exact heap_new2D _ _ _)))) | (refine After.heap (After.alloc hb6 _) ?_; (first | (first | exact heap_new' _ _ | exact heap_newD _ _ | exact heap_old2 _ _ _ | exact heap_old2D _ _ _ | exact heap_new2 _ _ _ _ rfl | exact heap_new2D _ _ _) | (refine After.heap hb5 ?_; (first | exact heap_new' _ _ | exact heap_newD _ _ | exact heap_old2 _ _ _ | exact heap_old2D _ _ _ | exact heap_new2 _ _ _ _ rfl | exact heap_new2D _ _ _)) | (refine After.heap (After.alloc hb5 _) ?_; (first | exact heap_new' _ _ | exact heap_newD _ _ | exact heap_old2 _ _ _ | exact heap_old2D _ _ _ | exact heap_new2 _ _ _ _ rfl | exact heap_new2D _ _ _)))))) | (have hG : w6.heap[w4.heap.size + 1]? = some (.cells #[.string ⟨#[]⟩, .slice none 0 0] 53 (0, 0)) := by (first | (first | exact heap_new' _ _ | exact heap_newD _ _ | exact heap_old2 _ _ _ | exact heap_old2D _ _ _ | exact heap_new2 _ _ _ _ rfl | exact heap_new2D _ _ _) | (refine After.heap hb6 ?_; (first | (first | exact heap_new' _ _ | exact heap_newD _ _ | exact heap_old2 _ _ _ | exact heap_old2D _ _ _ | exact heap_new2 _ _ _ _ rfl | exact heap_new2D _ _ _) | (refine After.heap hb5 ?_; (first | exact heap_new' _ _ | exact heap_newD _ _ | exact heap_old2 _ _ _ | exact heap_old2D _ _ _ | exact heap_new2 _ _ _ _ rfl | exact heap_new2D _ _ _)) | (refine After.heap (After.alloc hb5 _) ?_; (first | exact heap_new' _ _ | exact heap_newD _ _ | exact heap_old2 _ _ _ | exact heap_old2D _ _ _ | exact heap_new2 _ _ _ _ rfl | exact heap_new2D _ _ _)))) | (refine After.heap (After.alloc hb6 _) ?_; (first | (first | exact heap_new' _ _ | exact heap_newD _ _ | exact heap_old2 _ _ _ | exact heap_old2D _ _ _ | exact heap_new2 _ _ _ _ rfl | exact heap_new2D _ _ _) | (refine After.heap hb5 ?_; (first | exact heap_new' _ _ | exact heap_newD _ _ | exact heap_old2 _ _ _ | exact heap_old2D _ _ _ | exact heap_new2 _ _ _ _ rfl | exact heap_new2D _ _ _)) | (refine After.heap (After.alloc hb5 _) ?_; (first | exact heap_new' _ _ | exact heap_newD _ _ | exact heap_old2 _ _ _ | exact heap_old2D _ _ _ | exact heap_new2 _ _ _ _ rfl | exact heap_new2D _ _ _)))))) | (have hG : w6.heap[w3.heap.size]? = some (.cells #[.string ⟨#[]⟩, .slice none 0 0] 53 (0, 0)) := by (first | (first | exact heap_new' _ _ | exact heap_newD _ _ | exact heap_old2 _ _ _ | exact heap_old2D _ _ _ | exact heap_new2 _ _ _ _ rfl | exact heap_new2D _ _ _) | (refine After.heap hb6 ?_; (first | (first | exact heap_new' _ _ | exact heap_newD _ _ | exact heap_old2 _ _ _ | exact heap_old2D _ _ _ | exact heap_new2 _ _ _ _ rfl | exact heap_new2D _ _ _) | (refine After.heap hb5 ?_; (first | (first | exact heap_new' _ _ | exact heap_newD _ _ | exact heap_old2 _ _ _ | exact heap_old2D _ _ _ | exact heap_new2 _ _ _ _ rfl | exact heap_new2D _ _ _) | (refine After.heap hb4 ?_; (first | exact heap_new' _ _ | exact heap_newD _ _ | exact heap_old2 _ _ _ | exact heap_old2D _ _ _ | exact heap_new2 _ _ _ _ rfl | exact heap_new2D _ _ _)) | (refine After.heap (After.alloc hb4 _) ?_; (first | exact heap_new' _ _ | exact heap_newD _ _ | exact heap_old2 _ _ _ | exact heap_old2D _ _ _ | exact heap_new2 _ _ _ _ rfl | exact heap_new2D _ _ _)))) | (refine After.heap (After.alloc hb5 _) ?_; (first | (first | exact heap_new' _ _ | exact heap_newD _ _ | exact heap_old2 _ _ _ | exact heap_old2D _ _ _ | exact heap_new2 _ _ _ _ rfl | exact heap_new2D _ _ _) | (refine After.heap hb4 ?_; (first | exact heap_new' _ _ | exact heap_newD _ _ | exact heap_old2 _ _ _ | exact heap_old2D _ _ _ | exact heap_new2 _ _ _ _ rfl | exact heap_new2D _ _ _)) | (refine After.heap (After.alloc hb4 _) ?_; (first | exact heap_new' _ _ | exact heap_newD _ _ | exact heap_old2 _ _ _ | exact heap_old2D _ _ _ | exact heap_new2 _ _ _ _ rfl | exact heap_new2D _ _ _)))))) | (refine After.heap (After.alloc hb6 _) ?_; (first | (first | exact heap_new' _ _ | exact heap_newD _ _ | exact heap_old2 _ _ _ | exact heap_old2D _ _ _ | exact heap_new2 _ _ _ _ rfl | exact heap_new2D _ _ _) | (refine After.heap hb5 ?_; (first | (first | exact heap_new' _ _ | exact heap_newD _ _ | exact heap_old2 _ _ _ | exact heap_old2D _ _ _ | exact heap_new2 _ _ _ _ rfl | exact heap_new2D _ _ _) | (refine After.heap hb4 ?_; (first | exact heap_new' _ _ | exact heap_newD _ _ | exact heap_old2 _ _ _ | exact heap_old2D _ _ _ | exact heap_new2 _ _ _ _ rfl | exact heap_new2D _ _ _)) | (refine After.heap (After.alloc hb4 _) ?_; (first | exact heap_new' _ _ | exact heap_newD _ _ | exact heap_old2 _ _ _ | exact heap_old2D _ _ _ | exact heap_new2 _ _ _ _ rfl | exact heap_new2D _ _ _)))) | (refine After.heap (After.alloc hb5 _) ?_; (first | (first | exact heap_new' _ _ | exact heap_newD _ _ | exact heap_old2 _ _ _ | exact heap_old2D _ _ _ | exact heap_new2 _ _ _ _ rfl | exact heap_new2D _ _ _) | (refine After.heap hb4 ?_; (first | exact heap_new' _ _ | exact heap_newD _ _ | exact heap_old2 _ _ _ | exact heap_old2D _ _ _ | exact heap_new2 _ _ _ _ rfl | exact heap_new2D _ _ _)) | (refine After.heap (After.alloc hb4 _) ?_; (first | exact heap_new' _ _ | exact heap_newD _ _ | exact heap_old2 _ _ _ | exact heap_old2D _ _ _ | exact heap_new2 _ _ _ _ rfl | exact heap_new2D _ _ _)))))))) | (have hG : w6.heap[w3.heap.size + 1]? = some (.cells #[.string ⟨#[]⟩, .slice none 0 0] 53 (0, 0)) := by (first | (first | exact heap_new' _ _ | exact heap_newD _ _ | exact heap_old2 _ _ _ | exact heap_old2D _ _ _ | exact heap_new2 _ _ _ _ rfl | exact heap_new2D _ _ _) | (refine After.heap hb6 ?_; (first | (first | exact heap_new' _ _ | exact heap_newD _ _ | exact heap_old2 _ _ _ | exact heap_old2D _ _ _ | exact heap_new2 _ _ _ _ rfl | exact heap_new2D _ _ _) | (refine After.heap hb5 ?_; (first | (first | exact heap_new' _ _ | exact heap_newD _ _ | exact heap_old2 _ _ _ | exact heap_old2D _ _ _ | exact heap_new2 _ _ _ _ rfl | exact heap_new2D _ _ _) | (refine After.heap hb4 ?_; (first | exact heap_new' _ _ | exact heap_newD _ _ | exact heap_old2 _ _ _ | exact heap_old2D _ _ _ | exact heap_new2 _ _ _ _ rfl | exact heap_new2D _ _ _)) | (refine After.heap (After.alloc hb4 _) ?_; (first | exact heap_new' _ _ | exact heap_newD _ _ | exact heap_old2 _ _ _ | exact heap_old2D _ _ _ | exact heap_new2 _ _ _ _ rfl | exact heap_new2D _ _ _)))) | (refine After.heap (After.alloc hb5 _) ?_; (first | (first | exact heap_new' _ _ | exact heap_newD _ _ | exact heap_old2 _ _ _ | exact heap_old2D _ _ _ | exact heap_new2 _ _ _ _ rfl | exact heap_new2D _ _ _) | (refine After.heap hb4 ?_; (first | exact heap_new' _ _ | exact heap_newD _ _ | exact heap_old2 _ _ _ | exact heap_old2D _ _ _ | exact heap_new2 _ _ _ _ rfl | exact heap_new2D _ _ _)) | (refine After.heap (After.alloc hb4 _) ?_; (first | exact heap_new' _ _ | exact heap_newD _ _ | exact heap_old2 _ _ _ | exact heap_old2D _ _ _ | exact heap_new2 _ _ _ _ rfl | exact heap_new2D _ _ _)))))) | (refine After.heap (After.alloc hb6 _) ?_; (first | (first | exact heap_new' _ _ | exact heap_newD _ _ | exact heap_old2 _ _ _ | exact heap_old2D _ _ _ | exact heap_new2 _ _ _ _ rfl | exact heap_new2D _ _ _) | (refine After.heap hb5 ?_; (first | (first | exact heap_new' _ _ | exact heap_newD _ _ | exact heap_old2 _ _ _ | exact heap_old2D _ _ _ | exact heap_new2 _ _ _ _ rfl | exact heap_new2D _ _ _) | (refine After.heap hb4 ?_; (first | exact heap_new' _ _ | exact heap_newD _ _ | exact heap_old2 _ _ _ | exact heap_old2D _ _ _ | exact heap_new2 _ _ _ _ rfl | exact heap_new2D _ _ _)) | (refine After.heap (After.alloc hb4 _) ?_; (first | exact heap_new' _ _ | exact heap_newD _ _ | exact heap_old2 _ _ _ | exact heap_old2D _ _ _ | exact heap_new2 _ _ _ _ rfl | exact heap_new2D _ _ _)))) | (refine After.heap (After.alloc hb5 _) ?_; (first | (first | exact heap_new' _ _ | exact heap_newD _ _ | exact heap_old2 _ _ _ | exact heap_old2D _ _ _ | exact heap_new2 _ _ _ _ rfl | exact heap_new2D _ _ _) | (refine After.heap hb4 ?_; (first | exact heap_new' _ _ | exact heap_newD _ _ | exact heap_old2 _ _ _ | exact heap_old2D _ _ _ | exact heap_new2 _ _ _ _ rfl | exact heap_new2D _ _ _)) | (refine After.heap (After.alloc hb4 _) ?_; (first | exact heap_new' _ _ | exact heap_newD _ _ | exact heap_old2 _ _ _ | exact heap_old2D _ _ _ | exact heap_new2 _ _ _ _ rfl | exact heap_new2D _ _ _)))))))))
              have HG := Lib.hid hG
              obtain ⟨g0, g1, g2, g3, g4⟩ := pair_facts hG (After.refl _)
              clear hG)
           | skip))
  all_goals
    have hr := HR.out
    clear hb3 hb4 hb5 k0 k1 k2 k3
    first
      | (have hbox := heap_sets2 (u := str t6) (u' := .slice ao6 n6 c6) HG.out
         have hst := HT6.out.sets2 (u := str t6) (u' := .slice ao6 n6 c6) (i := 0) (j := 1) HG.out
         have hAc := after_sets2 hA6 HG.out (by omega) (str t6) (.slice ao6 n6 c6)
         clear HG g0 g1 g2 g3 g4)
      | (have hbox := heap_new' w6 (.cells #[str t6, .slice ao6 n6 c6] 53)
         have hst := HT6.out.later (After.new w6 (.cells #[str t6, .slice ao6 n6 c6] 53))
         have hAc := hA6.alloc (.cells #[str t6, .slice ao6 n6 c6] 53))
    obtain ⟨y0, y1, y2, y3, y4⟩ := pair_facts hbox (After.refl _)
    have hfine := hst.fine hgp (by have := HSZ.out; omega)
    have hbl := hbox
    have HBX := Lib.hid hbox
    have HST := Lib.hid hst
    have HAC := Lib.hid hAc
    rw [← HFB.out] at hfine
    clear hbox hst hAc hbl hA6 hA5 hA4 hb6 HT6 HT5
    cases fb
    all_goals
      simp only [if_true, Bool.false_eq_true, if_false] at hr
      subst hr
      go_wp2_with fail
      refine hfine.mono ?_
      rintro e w7 ⟨rfl, hb7⟩
      obtain ⟨i0, i1, i2, i3, i4⟩ := pair_facts HBX.out hb7
      have htx := (HST.out.later hb7).text hgp (by have := HSZ.out; omega)
      clear hfine y0 y1 y2 y3 y4
      go_wp2_with (go_at_call 32; refine htx.mono ?_; rintro e w8 ⟨rfl, hb8⟩)
      go_ret2
      first
        | exact ⟨rfl, HAX.out.trans ((HAC.out.trans hb7).trans hb8)⟩
        | exact ⟨rfl, HAX.out.trans (HAC.out.trans hb7)⟩

theorem spec_pair (w : World) (l m : List UInt8) (hl : l.length ≤ 1000000000) (hm : m.length ≤ 1000000000) :
    Calls Tryz.prog 72 #[str l, str m] w (SNumOne w (pPair l m)) := by
  unfold pPair
  cases hp : Tm.parse l with
  | none => exact s_pair_none1 w l m hl hm hp
  | some t =>
    cases hq : Tm.parse m with
    | none => exact s_pair_none2 w l m hl hm (by rw [hp]; rfl) hq
    | some u => exact s_pair_some w l m t u hl hm hp hq

end Go.Proofs.YtidpkmkhcomcdaaGreat

namespace Go.Proofs.YtidpkmkhcomcdaaGreat
open Go.RowKit

set_option maxHeartbeats 4000000
set_option maxRecDepth 100000

end Go.Proofs.YtidpkmkhcomcdaaGreat

namespace Go.Proofs.YtidpkmkhcomcdaaGreat
open Go Go.RowKit

set_option maxRecDepth 100000

section
variable {P : Program} {ops : Array Oper} {Q : Exit → Act → World → Prop}

def dstOf (ops : Array Oper) (i : Nat) : Option Tmp := (ops[i]?).bind (·.dst)
def depsOn (ops : Array Oper) (i j : Nat) : Bool := match ops[i]? with
  | some o => o.after.any fun e => Region.binds .any e && e.on == j
  | none => false
/-- What of a region is seen by reckoning: no slot twice, nothing waits for a later one. -/
def regOk (ops : Array Oper) (n : Nat) : Bool :=
  (List.range n).all (fun i => (List.range ops.size).all fun j => j == i || (dstOf ops j).isNone || !((dstOf ops j) == (dstOf ops i))) &&
  (List.range ops.size).all (fun i => match ops[i]? with | none => true | some o => o.after.all fun e => decide (e.on < i))
def regLast (ops : Array Oper) (n : Nat) : Bool := (List.range n).all fun j => depsOn ops n j

theorem regOk_dst {n : Nat} (h : regOk ops n = true) : ∀ i j, i < n → j < ops.size → j ≠ i → dstOf ops j ≠ dstOf ops i ∨ dstOf ops j = none := by
  intro i j hi hj hne
  simp only [regOk, Bool.and_eq_true, List.all_eq_true, List.mem_range, Bool.or_eq_true, beq_iff_eq, Bool.not_eq_true'] at h
  rcases h.1 i hi j hj with (h1 | h1) | h1
  · exact absurd h1 hne
  · exact Or.inr (Option.isNone_iff_eq_none.1 h1)
  · exact Or.inl (by simpa using h1)

theorem regOk_back {n : Nat} (h : regOk ops n = true) : ∀ (i : Nat) (o : Oper), ops[i]? = some o → ∀ e : Edge, e ∈ o.after → e.on < i := by
  intro i o ho e he
  have hi : i < ops.size := (Array.getElem?_eq_some_iff.1 ho).1
  simp only [regOk, Bool.and_eq_true, List.all_eq_true, List.mem_range] at h
  have := h.2 i hi
  rw [ho] at this
  simp only [Array.all_eq_true_iff_forall_mem] at this
  simpa using this e he

theorem putAll_init (a : Act) (dst : Nat → Option Tmp) : ∀ n, putAll a dst (fun i => match dst i with | some d => a.tmps.getD d undef | none => undef) n = a
  | 0 => rfl
  | n + 1 => by
    simp only [putAll]
    rw [putAll_init a dst n]
    cases hd : dst n with
    | none => rfl
    | some d =>
      have : a.tmps.setIfInBounds d (a.tmps.getD d undef) = a.tmps := by
        by_cases h : d < a.tmps.size
        · apply Array.ext
          · simp
          · intro i h1 h2
            rw [Array.getElem_setIfInBounds (hj := by simpa using h1)]
            split
            · rename_i e; subst e; simp
            · rfl
        · exact Array.setIfInBounds_eq_of_size_le (Nat.le_of_not_lt h)
      show (a.put (some d) (a.tmps.getD d undef)) = a
      unfold Act.put
      simp only [this]

/-- The frame of a region whose operations yield vs. -/
def frame (a : Act) (ops : Array Oper) (vs : Nat → Value) : Act := putAll a (dstOf ops) vs ops.size

/-- What is to be shown of an operation. -/
structure OpDo (P : Program) (ops : Array Oper) (Q : Exit → Act → World → Prop) (A : Act) (i : Nat) (w : World) (K : Act → World → Prop) : Prop where
  out : match ops[i]? with
    | some o => if Region.wanted o (yielded ops A.tmps) = true then Oper.wp P o A w K Q else K (A.put o.dst undef) w
    | none => False

theorem wp_region_reg1 {id n : Nat} {a0 : Act} {w0 : World} (hm : P.follows .mixedOrders = true) (hn : ops.size = n + 1) (hok : regOk ops n = true) (hl : regLast ops n = true)
    (Ext : World → World → Prop) (hrefl : ∀ w, Ext w w) (htrans : ∀ a b c, Ext a b → Ext b c → Ext a c)
    (R : Nat → Value → World → Prop) (hR : ∀ i v w w', Ext w0.drew w → R i v w → Ext w w' → R i v w')
    (hstep : ∀ i, i < n → ∀ (vs : Nat → Value) (w : World), Ext w0.drew w → (∀ j, depsOn ops i j = true → R j (vs j) w) →
      ∀ K : Act → World → Prop, (∀ v w', Ext w w' → R i v w' → K ((frame a0 ops vs).put (dstOf ops i) v) w') → OpDo P ops Q (frame a0 ops vs) i w K)
    (hlast : ∀ (vs : Nat → Value) (w : World), Ext w0.drew w → (∀ i, i < n → R i (vs i) w) → ∀ K : Act → World → Prop, (∀ a w, Q .normal a w → K a w) → OpDo P ops Q (frame a0 ops vs) n w K) : (Code.region id ops true).wp P Q a0 w0 := by
  refine wp_region_mono1 hm hn Ext hrefl htrans R hR (dstOf ops) (regOk_dst hok) (regOk_back hok) ?_ _ (putAll_init a0 _ _) ?_ ?_
  · intro o ho j hj
    have := List.all_eq_true.1 hl j (List.mem_range.2 hj)
    simpa [depsOn, ho] using this
  · intro i o hi ho vs w hE hd K hK
    have := hstep i hi vs w hE (fun j hj => hd j (by simpa [depsOn, ho] using hj)) K hK
    have this := this.out
    rw [ho] at this
    exact this
  · intro o ho vs w hE hd K hK
    have := hlast vs w hE hd K hK
    have this := this.out
    rw [ho] at this
    exact this

theorem wp_region_reg {id : Nat} {a0 : Act} {w0 : World} (hm : P.follows .mixedOrders = true) (hok : regOk ops ops.size = true)
    (Ext : World → World → Prop) (hrefl : ∀ w, Ext w w) (htrans : ∀ a b c, Ext a b → Ext b c → Ext a c)
    (R : Nat → Value → World → Prop) (hR : ∀ i v w w', Ext w0.drew w → R i v w → Ext w w' → R i v w')
    (hstep : ∀ i, i < ops.size → ∀ (vs : Nat → Value) (w : World), Ext w0.drew w → (∀ j, depsOn ops i j = true → R j (vs j) w) →
      ∀ K : Act → World → Prop, (∀ v w', Ext w w' → R i v w' → K ((frame a0 ops vs).put (dstOf ops i) v) w') → OpDo P ops Q (frame a0 ops vs) i w K)
    (hend : ∀ (vs : Nat → Value) (w : World), Ext w0.drew w → (∀ i, i < ops.size → R i (vs i) w) → Q .normal (frame a0 ops vs) w) : (Code.region id ops true).wp P Q a0 w0 := by
  refine wp_region_mono hm (fun w => Ext w0.drew w) Ext hrefl htrans R (fun i v w w' h1 h2 h3 => hR i v w w' h1 h2 h3) (dstOf ops) ?_ (fun i j hi hj hne => regOk_dst hok i j hi hj hne) (regOk_back hok) _ (putAll_init a0 _ _) (hrefl _) ?_ (fun vs w hS _ hr => hend vs w hS hr)
  · intro i o ho; simp [dstOf, ho]
  · intro i o ho vs w hS hE hd K hK
    have hi : i < ops.size := (Array.getElem?_eq_some_iff.1 ho).1
    have := hstep i hi vs w hE (fun j hj => hd j (by simpa [depsOn, ho] using hj)) K (fun v w' h1 h2 => hK v w' (htrans _ _ _ hS h1) h1 h2)
    have this := this.out
    rw [ho] at this
    exact this

def opAt (ops : Array Oper) (i : Nat) : Oper := (ops[i]?).getD default
theorem opAt_of {i : Nat} (h : (ops[i]?).isSome = true) : ops[i]? = some (opAt ops i) := by
  unfold opAt
  cases ho : ops[i]? with
  | none => rw [ho] at h; cases h
  | some o => rfl
theorem opAt_dst {i : Nat} (h : (ops[i]?).isSome = true) : (opAt ops i).dst = dstOf ops i := by
  unfold dstOf
  rw [opAt_of h]
  rfl

/-- An operation that is on and hands back a value at once. -/
theorem op_val {A : Act} {i : Nat} {w w' : World} {K : Act → World → Prop} {v : Value} (hs : (ops[i]?).isSome = true) (hg : Region.wanted (opAt ops i) (yielded ops A.tmps) = true) (hr : (execOp A.eval (opAt ops i)).run P w = .ok (.value v) w') (hK : K (A.put (dstOf ops i) v) w') : OpDo P ops Q A i w K := by
  constructor
  rw [opAt_of hs]
  simp only [hg, if_true]
  unfold Oper.wp
  rw [hr]
  rw [← opAt_dst hs] at hK
  exact hK
/-- An operation that is off. -/
theorem op_off {A : Act} {i : Nat} {w : World} {K : Act → World → Prop} (hs : (ops[i]?).isSome = true) (hg : Region.wanted (opAt ops i) (yielded ops A.tmps) = false) (hK : K (A.put (dstOf ops i) undef) w) : OpDo P ops Q A i w K := by
  constructor
  rw [opAt_of hs]
  simp only [hg, Bool.false_eq_true, if_false]
  rw [← opAt_dst hs] at hK
  exact hK
/-- A call. -/
theorem op_call {A : Act} {i : Nat} {w : World} {K : Act → World → Prop} {f : FuncId} {args : Array Value} (hs : (ops[i]?).isSome = true) (hg : Region.wanted (opAt ops i) (yielded ops A.tmps) = true) (hr : (execOp A.eval (opAt ops i)).run P w = .ok (.enter f args) w)
    (hK : Calls P f args w fun e w' => ∃ v, e = .returned v ∧ K (A.put (dstOf ops i) v) w') : OpDo P ops Q A i w K := by
  constructor
  rw [opAt_of hs]
  simp only [hg, if_true]
  unfold Oper.wp
  rw [hr]
  refine hK.mono ?_
  rintro e w' ⟨v, rfl, h⟩
  rw [← opAt_dst hs] at h
  exact h
end

/-! ### the kinds of operations, at a seat's program -/

theorem run_load_tree {w : World} {b o : Nat} {c0 c1 : Value} (h0 : w.cell? ⟨b, o, none⟩ = some c0) (h1 : w.cell? ⟨b, o + 1, none⟩ = some c1) :
    (Instr.loadAt 53 (.pointer (some ⟨b, o, none⟩))).run Tryz.prog w = .ok (.agg #[c0, c1]) w := by
  obtain ⟨d, hd, hr⟩ : ∃ d, Tryz.prog.underlying 53 = some d ∧ d.isRow = true := ⟨_, rfl, rfl⟩
  exact run_loadAt_mid w b o 53 [c0, c1] d (fun j v hj => by
    match j, hj with
    | 0, hj => simp at hj; subst hj; exact h0
    | 1, hj => simp at hj; subst hj; exact h1) hd hr (by kernel_rfl)

/-- The pointed-at tree is loaded. -/
theorem op_load {ops : Array Oper} {Q : Exit → Act → World → Prop} {A : Act} {i : Nat} {w : World} {K : Act → World → Prop} {x : Operand} {b k : Nat} {c0 c1 : Value} (hs : (ops[i]?).isSome = true) (hop : (opAt ops i).op = .load 53 x) (hg : (opAt ops i).guard = none) (hx : A.eval x = .pointer (some ⟨b, k, none⟩))
    (h0 : w.cell? ⟨b, k, none⟩ = some c0) (h1 : w.cell? ⟨b, k + 1, none⟩ = some c1) (hK : K (A.put (dstOf ops i) (.agg #[c0, c1])) w) : OpDo Tryz.prog ops Q A i w K := by
  refine op_val hs (by unfold Region.wanted; rw [hg]) ?_ hK
  unfold execOp
  simp only [hop, hx, Sem.run_bind, run_load_tree h0 h1, Result.andThen_ok, Sem.run_pure]
end Go.Proofs.YtidpkmkhcomcdaaGreat

namespace Go.Proofs.YtidpkmkhcomcdaaGreat
open Go

section
variable {P : Program} (w : World)

/-- An append's row is the old one or a new one. -/
theorem append_where {t ty e : TypeId} {i : TypeInfo} {z : Value} {base size bytes : Nat} (ht : P.underlying t = some (.slice e)) (hi : P.info? e = some i) (hz : i.zero = some z)
    (hsize : i.size = size) (hby : i.bytes = bytes)
    {v : Value} {n : Nat} {xs : List Value} (hown : w.ownsRow base e size v n xs)
    {a : Addr} {m c : Nat} {news : List Value} (hl : news.length = m * size) (hnews : ∀ j u, news[j]? = some u → w.cell? (a.add j) = some u) (h1 : ∀ u ∈ news, u.oneCell' = true)
    (h63 : n + m ≤ maxLen) (hbytes : (n + m) * bytes ≤ 140737488355328) (h0 : 0 < m) {v' : Value} {w' : World}
    (hr : (Builtin.append_ #[t, t] ty #[v, .slice (some a) m c]).run P w = .ok v' w') : v'.ownBlock = v.ownBlock ∨ v'.ownBlock = some w.heap.size := by
  subst hsize
  subst hby
  have hsmall : n + m ≤ 9223372036854775807 := by simp only [maxLen] at h63; omega
  rcases hown.2 with ⟨rfl, rfl⟩ | ⟨g, cap, cur, rfl, hbg, hg, hnc, hcm, hcs, htake⟩
  · have h2 := run_append_nil (P := P) w t ty e i z ht hi hz a m c news hl hnews h0 (by omega) (by have hb := hbytes; simp only [Nat.zero_add] at hb; omega)
    rw [h2] at hr
    injection hr with hr _
    subst hr
    exact Or.inr rfl
  · by_cases hroom : n + m ≤ cap
    · have hfit : n * i.size + news.length ≤ cur.size := by rw [hl, hcs, ← Nat.add_mul]; exact Nat.mul_le_mul_right _ hroom
      have h2 := run_append_room (P := P) w t ty e i ht hi g n cap cur hg a m c news hl hnews h1 hroom hfit
      rw [h2] at hr
      injection hr with hr _
      subst hr
      exact Or.inl rfl
    · have holds : ∀ j u, xs[j]? = some u → w.cell? ((⟨g, 0, none⟩ : Addr).add j) = some u := hown.cells (g := g) rfl
      have h2 := run_append_grow (P := P) w t ty e i z ht hi hz ⟨g, 0, none⟩ n cap xs hown.1 holds a m c news hl hnews (by omega) (by omega) (growslice_fits (by omega) hbytes)
      rw [h2] at hr
      injection hr with hr _
      subst hr
      exact Or.inr rfl

theorem wp_append_at {o : Oper} {a : Act} {K : Act → World → Prop} {Q : Exit → Act → World → Prop} (s x : Operand) (t : TypeId)
    (ho : o.op = .call { callee := .builtin .append, args := #[s, x], argTypes := #[t, t] })
    (base : Nat) (e : TypeId) (i : TypeInfo) (z : Value) (size bytes : Nat) (ht : P.underlying t = some (.slice e)) (hi : P.info? e = some i) (hz : i.zero = some z)
    (hsize : i.size = size) (hby : i.bytes = bytes) (hzs : z.cells.size = size) (hsz : 0 < size)
    (v : Value) (n : Nat) (xs : List Value) (hs : a.eval s = v) (hown : w.ownsRow base e size v n xs)
    (ad : Addr) (m c : Nat) (news : List Value) (hx : a.eval x = .slice (some ad) m c) (hl : news.length = m * size) (hnews : ∀ j u, news[j]? = some u → w.cell? (ad.add j) = some u) (h1 : ∀ u ∈ news, u.oneCell' = true)
    (h63 : n + m ≤ maxLen) (hbytes : (n + m) * bytes ≤ 140737488355328) (hbase : base ≤ w.heap.size) (h0 : 0 < m)
    (h : ∀ v' w', w'.ownsRow base e size v' (n + m) (xs ++ news) → w.grownBy w' v.ownBlock → (v'.ownBlock = v.ownBlock ∨ v'.ownBlock = some w.heap.size) → K (a.put o.dst v') w') : o.wp P a w K Q := by
  obtain ⟨v', w', hr, h2, h3, _⟩ := run_append_own (P := P) w base t o.type e i z size bytes ht hi hz hsize hby hzs hsz v n xs hown ad m c news hl hnews h1 h63 hbytes hbase
  have h4 := append_where w ht hi hz hsize hby hown hl hnews h1 h63 hbytes h0 hr
  unfold Oper.wp execOp
  simp only [ho, resolve, invoke, builtin, Sem.run_bind, Sem.run_pure, Result.andThen_ok, List.map_toArray, List.map_cons, List.map_nil, hs, hx, hr]
  exact h v' w' h2 h3 h4

theorem wpList_append_at {ops : Array Oper} {rest : List Oper} {o : Oper} {a : Act} {Q : Exit → Act → World → Prop} (hgd : o.guard = none) (s x : Operand) (t : TypeId)
    (ho : o.op = .call { callee := .builtin .append, args := #[s, x], argTypes := #[t, t] })
    (base : Nat) (e : TypeId) (i : TypeInfo) (z : Value) (size bytes : Nat) (ht : P.underlying t = some (.slice e)) (hi : P.info? e = some i) (hz : i.zero = some z)
    (hsize : i.size = size) (hby : i.bytes = bytes) (hzs : z.cells.size = size) (hsz : 0 < size)
    (v : Value) (n : Nat) (xs : List Value) (hs : a.eval s = v) (hown : w.ownsRow base e size v n xs)
    (ad : Addr) (m c : Nat) (news : List Value) (hx : a.eval x = .slice (some ad) m c) (hl : news.length = m * size) (hnews : ∀ j u, news[j]? = some u → w.cell? (ad.add j) = some u) (h1 : ∀ u ∈ news, u.oneCell' = true)
    (h63 : n + m ≤ maxLen) (hbytes : (n + m) * bytes ≤ 140737488355328) (hbase : base ≤ w.heap.size) (h0 : 0 < m)
    (h : ∀ v' w', w'.ownsRow base e size v' (n + m) (xs ++ news) → w.grownBy w' v.ownBlock → (v'.ownBlock = v.ownBlock ∨ v'.ownBlock = some w.heap.size) → wpList P ops Q rest (a.put o.dst v') w') : wpList P ops Q (o :: rest) a w :=
  wpList_plain hgd fun _ hK => wp_append_at w s x t ho base e i z size bytes ht hi hz hsize hby hzs hsz v n xs hs hown ad m c news hx hl hnews h1 h63 hbytes hbase h0 fun v' w' h2 h3 h4 => hK _ _ (h v' w' h2 h3 h4)
end
end Go.Proofs.YtidpkmkhcomcdaaGreat

namespace Go.Proofs.YtidpkmkhcomcdaaGreat

/-- A function text. -/
inductive FT where
  | z (a : Nat)
  | inc
  | p (i a : Nat)
  | c1 (f g : FT)
  | c2 (f g h : FT)
  | c3 (f g h i : FT)
  | r (f g : FT)
  | m (f : FT)

namespace FT

def arity : FT → Nat
  | z a => a
  | inc => 1
  | p _ a => a
  | c1 _ g => arity g
  | c2 _ g _ => arity g
  | c3 _ g _ _ => arity g
  | r f _ => arity f + 1
  | m f => arity f - 1

def size : FT → Nat
  | c1 f g => 1 + (size f + size g)
  | c2 f g h => 1 + (size f + (size g + size h))
  | c3 f g h i => 1 + (size f + (size g + (size h + size i)))
  | r f g => 1 + (size f + size g)
  | m f => 1 + size f
  | _ => 1

def total : FT → Bool
  | c1 f g => total f && total g
  | c2 f g h => total f && total g && total h
  | c3 f g h i => total f && total g && total h && total i
  | r f g => total f && total g
  | m _ => false
  | _ => true

/-- All parts have the arities that they have to have. -/
def ok : FT → Prop
  | z a => a ≤ 3
  | inc => True
  | p i a => i < a ∧ a ≤ 3
  | c1 f g => ok f ∧ ok g ∧ arity f = 1
  | c2 f g h => ok f ∧ ok g ∧ ok h ∧ arity f = 2 ∧ arity h = arity g
  | c3 f g h i => ok f ∧ ok g ∧ ok h ∧ ok i ∧ arity f = 3 ∧ arity h = arity g ∧ arity i = arity g
  | r f g => ok f ∧ ok g ∧ arity g = arity f + 2
  | m f => ok f ∧ 0 < arity f

theorem arity_le : ∀ {t : FT}, ok t → arity t ≤ 3
  | z _, h => h
  | inc, _ => by simp [arity]
  | p _ _, h => h.2
  | c1 _ _, h => by have := arity_le h.2.1; simpa only [arity] using this
  | c2 _ _ _, h => by have := arity_le h.2.1; simpa only [arity] using this
  | c3 _ _ _ _, h => by have := arity_le h.2.1; simpa only [arity] using this
  | r _ _, h => by have := arity_le h.2.1; have := h.2.2; simp only [arity]; omega
  | m _, h => by have := arity_le h.1; simp only [arity]; omega

theorem size_pos (t : FT) : 1 ≤ size t := by cases t <;> simp only [size] <;> omega

/-! ### words and combinations -/

def word (s : List UInt8) : Option FT :=
  if s = [122, 48] then some (z 0) else if s = [122, 49] then some (z 1) else if s = [122, 50] then some (z 2) else if s = [122, 51] then some (z 3)
  else if s = [105, 110, 99] then some inc
  else if s = [112, 48, 49] then some (p 0 1) else if s = [112, 48, 50] then some (p 0 2) else if s = [112, 49, 50] then some (p 1 2)
  else if s = [112, 48, 51] then some (p 0 3) else if s = [112, 49, 51] then some (p 1 3) else if s = [112, 50, 51] then some (p 2 3)
  else none

theorem word_facts {s : List UInt8} {t : FT} (h : word s = some t) : t.ok ∧ t.size = 1 ∧ 1 ≤ s.length ∧ s.length ≤ 3 ∧ t.total = true := by
  unfold word at h
  repeat (split at h; · (rename_i hs; cases h; subst hs; simp [ok, size, total]))
  cases h

def comb (a : List UInt8) (ps : List FT) : Option FT :=
  if a = [99] then match ps with
    | [f, g] => if arity f = 1 then some (c1 f g) else none
    | [f, g, h] => if arity f = 2 ∧ arity h = arity g then some (c2 f g h) else none
    | [f, g, h, i] => if arity f = 3 ∧ arity h = arity g ∧ arity i = arity g then some (c3 f g h i) else none
    | _ => none
  else if a = [114] then match ps with
    | [f, g] => if arity g = arity f + 2 then some (r f g) else none
    | _ => none
  else if a = [109] then match ps with
    | [f] => if 0 < arity f then some (m f) else none
    | _ => none
  else none

theorem comb_facts {a : List UInt8} {ps : List FT} {t : FT} (h : comb a ps = some t) (ho : ∀ f ∈ ps, ok f) : ok t ∧ size t = 1 + (ps.map size).sum ∧ a.length = 1 := by
  unfold comb at h
  split at h
  · rename_i ha; subst ha
    split at h
    · split at h
      · rename_i f g hc; cases h; simp at ho; exact ⟨⟨ho.1, ho.2, hc⟩, by simp [size], rfl⟩
      · cases h
    · split at h
      · rename_i f g k hc; cases h; simp at ho; exact ⟨⟨ho.1, ho.2.1, ho.2.2, hc⟩, by simp [size], rfl⟩
      · cases h
    · split at h
      · rename_i f g k l hc; cases h; simp at ho; exact ⟨⟨ho.1, ho.2.1, ho.2.2.1, ho.2.2.2, hc⟩, by simp [size], rfl⟩
      · cases h
    · cases h
  · split at h
    · rename_i ha; subst ha
      split at h
      · split at h
        · rename_i f g hc; cases h; simp at ho; exact ⟨⟨ho.1, ho.2, hc⟩, by simp [size], rfl⟩
        · cases h
      · cases h
    · split at h
      · rename_i ha; subst ha
        split at h
        · split at h
          · rename_i f hc; cases h; simp at ho; exact ⟨⟨ho, hc⟩, by simp [size], rfl⟩
          · cases h
        · cases h
      · cases h

/-! ### the readers -/

def sl (l : List UInt8) (i j : Nat) : List UInt8 := (l.drop i).take (j - i)

def mparts (rd : Nat → Option (FT × Nat)) (l : List UInt8) : Nat → Nat → List FT → Option (List FT × Nat)
  | 0, _, _ => none
  | n + 1, i, acc => if l[i]? = some 32 then match rd (i + 1) with
      | none => none
      | some (t, j) => mparts rd l n j (acc ++ [t])
    else some (acc, i)

/-- The model's reader: d is 41 less the depth. -/
def mread (l : List UInt8) : Nat → Nat → Option (FT × Nat)
  | 0, _ => none
  | d + 1, i =>
    if l.length ≤ i then none
    else if l[i]? = some 40 then
      match mparts (mread l d) l (l.length + 1) (Tm.atomEnd l (i + 1)) [] with
      | none => none
      | some (ps, j) => if l[j]? = some 41 then match comb (sl l (i + 1) (Tm.atomEnd l (i + 1))) ps with
          | none => none
          | some t => some (t, j + 1)
        else none
    else match word (sl l i (Tm.atomEnd l i)) with
      | none => none
      | some t => some (t, Tm.atomEnd l i)

def mfun (l : List UInt8) : Option FT :=
  if 400 < l.length then none else
  match mread l 41 0 with
  | some (t, j) => if j = l.length ∧ size t ≤ 40 then some t else none
  | none => none

def pparts (rd : Nat → Nat → Option (FT × Nat × Nat)) (l : List UInt8) : Nat → Nat → Nat → List FT → Option (List FT × Nat × Nat)
  | 0, _, _, _ => none
  | n + 1, i, k, acc => if l[i]? = some 32 then match rd (i + 1) k with
      | none => none
      | some (t, j, k') => pparts rd l n j k' (acc ++ [t])
    else some (acc, i, k)

/-- The program's reader: k is how many atoms may still come, at most d. -/
def pread (l : List UInt8) : Nat → Nat → Nat → Option (FT × Nat × Nat)
  | 0, _, _ => none
  | d + 1, i, k =>
    if k = 0 then none
    else if l[i]? = some 40 then
      match pparts (pread l d) l (l.length + 1) (Tm.atomEnd l (i + 1)) (k - 1) [] with
      | none => none
      | some (ps, j, k') => if l[j]? = some 41 then match comb (sl l (i + 1) (Tm.atomEnd l (i + 1))) ps with
          | none => none
          | some t => some (t, j + 1, k')
        else none
    else match word (sl l i (Tm.atomEnd l i)) with
      | none => none
      | some t => some (t, Tm.atomEnd l i, k - 1)

def parse (l : List UInt8) : Option FT :=
  match pread l 40 0 40 with
  | some (t, j, _) => if j = l.length then some t else none
  | none => none

theorem atomEnd_ge (l : List UInt8) (i : Nat) : i ≤ Tm.atomEnd l i := by unfold Tm.atomEnd; omega
theorem atomEnd_le (l : List UInt8) (i : Nat) (h : i ≤ l.length) : Tm.atomEnd l i ≤ l.length := by
  unfold Tm.atomEnd
  have : ((l.drop i).takeWhile fun c => c != 32 && c != 40 && c != 41).length ≤ (l.drop i).length := (List.takeWhile_prefix _).length_le
  simp at this
  omega
theorem sl_len (l : List UInt8) (i j : Nat) (h : j ≤ l.length) : (sl l i j).length = j - i := by
  simp [sl]; omega

theorem sum_app (xs : List FT) (t : FT) : ((xs ++ [t]).map size).sum = (xs.map size).sum + size t := by simp

/-! what the model's reader reads is well made -/

theorem mparts_facts {rd : Nat → Option (FT × Nat)} {l : List UInt8}
    (hrd : ∀ i t j, i ≤ l.length → rd i = some (t, j) → ok t ∧ i + 1 ≤ j ∧ j ≤ l.length ∧ j + 1 ≤ i + 4 * size t) :
    ∀ (n i : Nat) (acc ps : List FT) (j : Nat), i ≤ l.length → (∀ f ∈ acc, ok f) → mparts rd l n i acc = some (ps, j) →
      (∀ f ∈ ps, ok f) ∧ i ≤ j ∧ j ≤ l.length ∧ (acc.map size).sum ≤ (ps.map size).sum ∧ j + 4 * (acc.map size).sum ≤ i + 4 * (ps.map size).sum
  | 0, _, _, _, _, _, _, h => by simp [mparts] at h
  | n + 1, i, acc, ps, j, hi, ha, h => by
    simp only [mparts] at h
    split at h
    · rename_i h32
      have hi1 : i + 1 ≤ l.length := (List.getElem?_eq_some_iff.1 h32).1
      cases hr : rd (i + 1) with
      | none => rw [hr] at h; simp at h
      | some q =>
        obtain ⟨t, k⟩ := q
        rw [hr] at h
        simp only at h
        obtain ⟨h1, h2, h3, h4⟩ := hrd _ _ _ hi1 hr
        obtain ⟨g1, g2, g3, g4, g5⟩ := mparts_facts hrd n k (acc ++ [t]) ps j h3 (by intro f hf; rcases List.mem_append.1 hf with hf | hf; exact ha f hf; simp at hf; subst hf; exact h1) h
        rw [sum_app] at g4 g5
        exact ⟨g1, by omega, g3, by omega, by omega⟩
    · simp only [Option.some.injEq, Prod.mk.injEq] at h
      obtain ⟨rfl, rfl⟩ := h
      exact ⟨ha, Nat.le_refl _, hi, Nat.le_refl _, Nat.le_refl _⟩

theorem mread_facts (l : List UInt8) : ∀ (d i : Nat) (t : FT) (j : Nat), i ≤ l.length → mread l d i = some (t, j) → ok t ∧ i + 1 ≤ j ∧ j ≤ l.length ∧ j + 1 ≤ i + 4 * size t
  | 0, _, _, _, _, h => by simp [mread] at h
  | d + 1, i, t, j, hi, h => by
    simp only [mread] at h
    split at h
    · cases h
    · rename_i hlt
      split at h
      · rename_i h40
        have hi1 : i + 1 ≤ l.length := by omega
        have ha1 := atomEnd_ge l (i + 1)
        have ha2 := atomEnd_le l (i + 1) hi1
        cases hm : mparts (mread l d) l (l.length + 1) (Tm.atomEnd l (i + 1)) [] with
        | none => rw [hm] at h; simp at h
        | some q =>
          obtain ⟨ps, k⟩ := q
          rw [hm] at h
          simp only at h
          obtain ⟨g1, g2, g3, _, g5⟩ := mparts_facts (mread_facts l d) _ _ _ _ _ ha2 (by simp) hm
          split at h
          · rename_i h41
            cases hc : comb (sl l (i + 1) (Tm.atomEnd l (i + 1))) ps with
            | none => rw [hc] at h; simp at h
            | some u =>
              rw [hc] at h
              simp only [Option.some.injEq, Prod.mk.injEq] at h
              obtain ⟨rfl, rfl⟩ := h
              obtain ⟨c1, c2, c3⟩ := comb_facts hc g1
              rw [sl_len _ _ _ ha2] at c3
              have hk : k + 1 ≤ l.length := (List.getElem?_eq_some_iff.1 h41).1
              simp at g5
              exact ⟨c1, by omega, hk, by omega⟩
          · cases h
      · cases hw : word (sl l i (Tm.atomEnd l i)) with
        | none => rw [hw] at h; simp at h
        | some u =>
          rw [hw] at h
          simp only [Option.some.injEq, Prod.mk.injEq] at h
          obtain ⟨rfl, rfl⟩ := h
          obtain ⟨w1, w2, w3, w4, _⟩ := word_facts hw
          have ha2 := atomEnd_le l i hi
          rw [sl_len _ _ _ ha2] at w3 w4
          exact ⟨w1, by omega, ha2, by omega⟩

/-! both read the same -/

theorem pparts_m {pd : Nat → Nat → Option (FT × Nat × Nat)} {rd : Nat → Option (FT × Nat)} {l : List UInt8}
    (hp : ∀ i k t j k', pd i k = some (t, j, k') → rd i = some (t, j) ∧ size t + k' = k) :
    ∀ (n i k : Nat) (acc ps : List FT) (j k' : Nat), pparts pd l n i k acc = some (ps, j, k') → mparts rd l n i acc = some (ps, j) ∧ (ps.map size).sum + k' = (acc.map size).sum + k
  | 0, _, _, _, _, _, _, h => by simp [pparts] at h
  | n + 1, i, k, acc, ps, j, k', h => by
    simp only [pparts] at h
    simp only [mparts]
    split at h
    · rename_i h32
      rw [if_pos h32]
      cases hr : pd (i + 1) k with
      | none => rw [hr] at h; simp at h
      | some q =>
        obtain ⟨t, a, b⟩ := q
        rw [hr] at h
        simp only at h
        obtain ⟨h1, h2⟩ := hp _ _ _ _ _ hr
        obtain ⟨g1, g2⟩ := pparts_m hp n a b (acc ++ [t]) ps j k' h
        rw [sum_app] at g2
        rw [h1]
        exact ⟨g1, by omega⟩
    · rename_i h32
      rw [if_neg h32]
      simp only [Option.some.injEq, Prod.mk.injEq] at h
      obtain ⟨rfl, rfl, rfl⟩ := h
      exact ⟨rfl, rfl⟩

theorem pread_m (l : List UInt8) : ∀ (d e i k : Nat) (t : FT) (j k' : Nat), d ≤ e → pread l d i k = some (t, j, k') → mread l e i = some (t, j) ∧ size t + k' = k
  | 0, _, _, _, _, _, _, _, h => by simp [pread] at h
  | d + 1, 0, _, _, _, _, _, hd, _ => by omega
  | d + 1, e + 1, i, k, t, j, k', hd, h => by
    simp only [pread] at h
    simp only [mread]
    split at h
    · cases h
    · rename_i hk
      split at h
      · rename_i h40
        rw [if_neg (by have := (List.getElem?_eq_some_iff.1 h40).1; omega), if_pos h40]
        cases hm : pparts (pread l d) l (l.length + 1) (Tm.atomEnd l (i + 1)) (k - 1) [] with
        | none => rw [hm] at h; simp at h
        | some q =>
          obtain ⟨ps, a, b⟩ := q
          rw [hm] at h
          simp only at h
          obtain ⟨g1, g2⟩ := pparts_m (fun i k t j k' => pread_m l d e i k t j k' (by omega)) _ _ _ _ _ _ _ hm
          rw [g1]
          simp only
          split at h
          · rename_i h41
            rw [if_pos h41]
            cases hc : comb (sl l (i + 1) (Tm.atomEnd l (i + 1))) ps with
            | none => rw [hc] at h; simp at h
            | some u =>
              rw [hc] at h
              simp only [Option.some.injEq, Prod.mk.injEq] at h
              obtain ⟨rfl, rfl, rfl⟩ := h
              refine ⟨rfl, ?_⟩
              have := comb_size hc
              simp at g2
              omega
          · cases h
      · rename_i h40
        cases hw : word (sl l i (Tm.atomEnd l i)) with
        | none => rw [hw] at h; simp at h
        | some u =>
          rw [hw] at h
          simp only [Option.some.injEq, Prod.mk.injEq] at h
          obtain ⟨rfl, rfl, rfl⟩ := h
          have hlt : ¬ l.length ≤ i := by
            intro hle
            have w3 := (word_facts hw).2.2.1
            simp [sl, List.drop_eq_nil_of_le hle] at w3
          rw [if_neg hlt, if_neg h40]
          exact ⟨rfl, by have := (word_facts hw).2.1; omega⟩
where
  comb_size {a : List UInt8} {ps : List FT} {t : FT} (h : comb a ps = some t) : size t = 1 + (ps.map size).sum := by
    unfold comb at h
    repeat' split at h
    all_goals first
      | (cases h; simp [size])
      | cases h

theorem mparts_p {pd : Nat → Nat → Option (FT × Nat × Nat)} {rd : Nat → Option (FT × Nat)} {l : List UInt8} {K : Nat}
    (hp : ∀ i k t j, rd i = some (t, j) → size t ≤ k → k ≤ K → pd i k = some (t, j, k - size t)) :
    ∀ (n i k : Nat) (acc ps : List FT) (j : Nat), mparts rd l n i acc = some (ps, j) → (ps.map size).sum ≤ (acc.map size).sum + k → k ≤ K →
      (acc.map size).sum ≤ (ps.map size).sum ∧ pparts pd l n i k acc = some (ps, j, k + (acc.map size).sum - (ps.map size).sum)
  | 0, _, _, _, _, _, h, _, _ => by simp [mparts] at h
  | n + 1, i, k, acc, ps, j, h, hk, hK => by
    simp only [mparts] at h
    simp only [pparts]
    split at h
    · rename_i h32
      rw [if_pos h32]
      cases hr : rd (i + 1) with
      | none => rw [hr] at h; simp at h
      | some q =>
        obtain ⟨t, a⟩ := q
        rw [hr] at h
        simp only at h
        have hmono := mparts_mono n a (acc ++ [t]) ps j h
        rw [sum_app] at hmono
        rw [hp _ k _ _ hr (by omega) hK]
        obtain ⟨g1, g2⟩ := mparts_p hp n a (k - size t) (acc ++ [t]) ps j h (by rw [sum_app]; omega) (by omega)
        rw [sum_app] at g1 g2
        simp only
        rw [g2]
        exact ⟨by omega, by congr 3; omega⟩
    · rename_i h32
      rw [if_neg h32]
      simp only [Option.some.injEq, Prod.mk.injEq] at h
      obtain ⟨rfl, rfl⟩ := h
      exact ⟨Nat.le_refl _, by simp⟩
where
  mparts_mono {rd : Nat → Option (FT × Nat)} {l : List UInt8} : ∀ (n i : Nat) (acc ps : List FT) (j : Nat), mparts rd l n i acc = some (ps, j) → (acc.map size).sum ≤ (ps.map size).sum
    | 0, _, _, _, _, h => by simp [mparts] at h
    | n + 1, i, acc, ps, j, h => by
      simp only [mparts] at h
      split at h
      · cases hr : rd (i + 1) with
        | none => rw [hr] at h; simp at h
        | some q =>
          rw [hr] at h
          have := mparts_mono n _ _ _ _ h
          rw [sum_app] at this
          omega
      · simp only [Option.some.injEq, Prod.mk.injEq] at h
        obtain ⟨rfl, rfl⟩ := h
        exact Nat.le_refl _

theorem mread_p (l : List UInt8) : ∀ (e d i k : Nat) (t : FT) (j : Nat), mread l e i = some (t, j) → size t ≤ k → k ≤ d → pread l d i k = some (t, j, k - size t)
  | 0, _, _, _, _, _, h, _, _ => by simp [mread] at h
  | e + 1, 0, i, k, t, j, h, hk, hd => by have := size_pos t; omega
  | e + 1, d + 1, i, k, t, j, h, hk, hd => by
    have hpos := size_pos t
    simp only [mread] at h
    simp only [pread]
    rw [if_neg (by omega)]
    split at h
    · cases h
    · split at h
      · rename_i h40
        rw [if_pos h40]
        cases hm : mparts (mread l e) l (l.length + 1) (Tm.atomEnd l (i + 1)) [] with
        | none => rw [hm] at h; simp at h
        | some q =>
          obtain ⟨ps, a⟩ := q
          rw [hm] at h
          simp only at h
          split at h
          · rename_i h41
            cases hc : comb (sl l (i + 1) (Tm.atomEnd l (i + 1))) ps with
            | none => rw [hc] at h; simp at h
            | some u =>
              rw [hc] at h
              simp only [Option.some.injEq, Prod.mk.injEq] at h
              obtain ⟨rfl, rfl⟩ := h
              have hs := pread_m.comb_size hc
              obtain ⟨_, g2⟩ := mparts_p (K := d) (fun i k t j h h1 h2 => mread_p l e d i k t j h h1 h2) _ _ (k - 1) _ _ _ hm (by simp; omega) (by omega)
              rw [g2]
              simp only
              rw [if_pos h41, hc]
              simp
              omega
          · cases h
      · rename_i h40
        rw [if_neg h40]
        cases hw : word (sl l i (Tm.atomEnd l i)) with
        | none => rw [hw] at h; simp at h
        | some u =>
          rw [hw] at h
          simp only [Option.some.injEq, Prod.mk.injEq] at h
          obtain ⟨rfl, rfl⟩ := h
          simp [(word_facts hw).2.1]

theorem parse_eq (l : List UInt8) : parse l = mfun l := by
  unfold parse mfun
  cases hp : pread l 40 0 40 with
  | some q =>
    obtain ⟨t, j, k⟩ := q
    obtain ⟨h1, h2⟩ := pread_m l 40 41 0 40 t j k (by omega) hp
    obtain ⟨_, _, h3, h4⟩ := mread_facts l 41 0 t j (by omega) h1
    simp only
    by_cases hj : j = l.length
    · rw [if_pos hj, if_neg (by omega), h1]; simp only; rw [if_pos ⟨hj, by omega⟩]
    · rw [if_neg hj, h1]; simp [hj]
  | none =>
    simp only
    split
    · rfl
    · cases hm : mread l 41 0 with
      | none => rfl
      | some q =>
        obtain ⟨t, j⟩ := q
        simp only
        split
        · rename_i h
          rw [mread_p l 41 40 0 40 t j hm h.2 (by omega)] at hp
          cases hp
        · rfl

theorem parse_facts {l : List UInt8} {t : FT} (h : parse l = some t) : ok t ∧ size t ≤ 40 ∧ l.length ≤ 400 := by
  rw [parse_eq] at h
  unfold mfun at h
  split at h
  · cases h
  · rename_i hl
    cases hm : mread l 41 0 with
    | none => rw [hm] at h; simp at h
    | some q =>
      obtain ⟨t', j⟩ := q
      rw [hm] at h
      simp only at h
      split at h
      · rename_i hc
        cases h
        exact ⟨(mread_facts l 41 0 t j (by omega) hm).1, hc.2, by omega⟩
      · cases h

end FT
end Go.Proofs.YtidpkmkhcomcdaaGreat

namespace Go.Proofs.YtidpkmkhcomcdaaGreat
namespace FT

/-- The value may be at most 1000. -/
def chk : Option (Nat × Nat) → Option (Nat × Nat)
  | some (v, s) => if v ≤ 1000 then some (v, s) else none
  | none => none

/-- The rounds of (r F G): n rounds are left, i is the number, v the value, s the steps. -/
def loopR (g : List Nat → Nat → Option (Nat × Nat)) (rest : List Nat) : Nat → Nat → Nat → Nat → Option (Nat × Nat)
  | 0, _, v, s => some (v, s)
  | n + 1, i, v, s => match g (i :: v :: rest) s with
    | none => none
    | some (v', s') => loopR g rest n (i + 1) v' s'

/-- The rounds of (m F), the program's. -/
def loopM (f : List Nat → Nat → Option (Nat × Nat)) (rest : List Nat) : Nat → Nat → Nat → Option (Nat × Nat)
  | 0, _, _ => none
  | k + 1, n, s => match f (n :: rest) s with
    | none => none
    | some (v, s') => if v = 0 then some (n, s') else loopM f rest k (n + 1) s'

/-- The rounds of (m F), the model's. -/
def loopN (f : List Nat → Nat → Option (Nat × Nat)) (rest : List Nat) : Nat → Nat → Nat → Option (Nat × Nat)
  | 0, _, _ => none
  | k + 1, n, s => match f (n :: rest) s with
    | none => none
    | some (v, s') => if v = 0 then some (n, s') else if 1000 < n + 1 then none else loopN f rest k (n + 1) s'

/-- What the program reckons behind s steps. -/
def ev : FT → List Nat → Nat → Option (Nat × Nat)
  | z _, _, s => if 2000 < s + 1 then none else some (0, s + 1)
  | inc, az, s => if 2000 < s + 1 then none else chk (some (az.headD 0 + 1, s + 1))
  | p i _, az, s => if 2000 < s + 1 then none else chk (some (az.getD i 0, s + 1))
  | c1 f g, az, s => if 2000 < s + 1 then none else chk (match ev g az (s + 1) with
    | none => none
    | some (x, s1) => ev f [x] s1)
  | c2 f g h, az, s => if 2000 < s + 1 then none else chk (match ev g az (s + 1) with
    | none => none
    | some (x, s1) => match ev h az s1 with
      | none => none
      | some (y, s2) => ev f [x, y] s2)
  | c3 f g h i, az, s => if 2000 < s + 1 then none else chk (match ev g az (s + 1) with
    | none => none
    | some (x, s1) => match ev h az s1 with
      | none => none
      | some (y, s2) => match ev i az s2 with
        | none => none
        | some (t, s3) => ev f [x, y, t] s3)
  | r f g, az, s => if 2000 < s + 1 then none else chk (match ev f az.tail (s + 1) with
    | none => none
    | some (v, s1) => loopR (ev g) az.tail (az.headD 0) 0 v s1)
  | m f, az, s => if 2000 < s + 1 then none else chk (loopM (ev f) az 2001 0 (s + 1))

/-- What the model reckons behind s steps. -/
def mv : FT → List Nat → Nat → Option (Nat × Nat)
  | z _, _, s => if 2000 < s + 1 then none else some (0, s + 1)
  | inc, az, s => if 2000 < s + 1 then none else if 1000 ≤ az.headD 0 then none else some (az.headD 0 + 1, s + 1)
  | p i _, az, s => if 2000 < s + 1 then none else some (az.getD i 0, s + 1)
  | c1 f g, az, s => if 2000 < s + 1 then none else match mv g az (s + 1) with
    | none => none
    | some (x, s1) => mv f [x] s1
  | c2 f g h, az, s => if 2000 < s + 1 then none else match mv g az (s + 1) with
    | none => none
    | some (x, s1) => match mv h az s1 with
      | none => none
      | some (y, s2) => mv f [x, y] s2
  | c3 f g h i, az, s => if 2000 < s + 1 then none else match mv g az (s + 1) with
    | none => none
    | some (x, s1) => match mv h az s1 with
      | none => none
      | some (y, s2) => match mv i az s2 with
        | none => none
        | some (t, s3) => mv f [x, y, t] s3
  | r f g, az, s => if 2000 < s + 1 then none else match mv f az.tail (s + 1) with
    | none => none
    | some (v, s1) => loopR (mv g) az.tail (az.headD 0) 0 v s1
  | m f, az, s => if 2000 < s + 1 then none else loopN (mv f) az 2001 0 (s + 1)

theorem chk_some {o : Option (Nat × Nat)} {v s : Nat} (h : chk o = some (v, s)) : o = some (v, s) ∧ v ≤ 1000 := by
  cases o with
  | none => simp [chk] at h
  | some q =>
    obtain ⟨a, b⟩ := q
    simp only [chk] at h
    split at h
    · simp only [Option.some.injEq, Prod.mk.injEq] at h
      obtain ⟨rfl, rfl⟩ := h
      exact ⟨rfl, by assumption⟩
    · cases h

theorem chk_small {o : Option (Nat × Nat)} (h : ∀ v s, o = some (v, s) → v ≤ 1000) : chk o = o := by
  cases o with
  | none => rfl
  | some q => obtain ⟨a, b⟩ := q; simp [chk, h a b rfl]

/-- What a value and its steps keep. -/
structure Runs (o : Option (Nat × Nat)) (s : Nat) : Prop where
  small : ∀ v s', o = some (v, s') → v ≤ 1000 ∧ s < s' ∧ s' ≤ 2000

theorem loopR_facts {g : List Nat → Nat → Option (Nat × Nat)} (hg : ∀ az s, Runs (g az s) s) (rest : List Nat) : ∀ (n i v s v' s' : Nat), v ≤ 1000 → s ≤ 2000 → loopR g rest n i v s = some (v', s') → v' ≤ 1000 ∧ s ≤ s' ∧ s' ≤ 2000
  | 0, _, _, _, _, _, hv, hs, h => by
    simp only [loopR, Option.some.injEq, Prod.mk.injEq] at h
    obtain ⟨rfl, rfl⟩ := h
    exact ⟨hv, Nat.le_refl _, hs⟩
  | n + 1, i, v, s, v', s', hv, hs, h => by
    simp only [loopR] at h
    cases hq : g (i :: v :: rest) s with
    | none => rw [hq] at h; simp at h
    | some q =>
      obtain ⟨a, b⟩ := q
      rw [hq] at h
      have hr := (hg (i :: v :: rest) s).small a b hq
      have := loopR_facts hg rest n (i + 1) a b v' s' hr.1 hr.2.2 h
      exact ⟨this.1, by omega, this.2.2⟩

theorem loopM_facts {f : List Nat → Nat → Option (Nat × Nat)} (hf : ∀ az s, Runs (f az s) s) (rest : List Nat) : ∀ (k n s v' s' : Nat), loopM f rest k n s = some (v', s') → n ≤ v' ∧ s < s' ∧ s' ≤ 2000
  | 0, _, _, _, _, h => by simp [loopM] at h
  | k + 1, n, s, v', s', h => by
    simp only [loopM] at h
    cases hq : f (n :: rest) s with
    | none => rw [hq] at h; simp at h
    | some q =>
      obtain ⟨a, b⟩ := q
      rw [hq] at h
      have hr := (hf (n :: rest) s).small a b hq
      simp only at h
      split at h
      · simp only [Option.some.injEq, Prod.mk.injEq] at h
        obtain ⟨rfl, rfl⟩ := h
        exact ⟨Nat.le_refl _, hr.2.1, hr.2.2⟩
      · have := loopM_facts hf rest k (n + 1) b v' s' h
        exact ⟨by omega, by omega, this.2.2⟩

theorem loopN_facts {f : List Nat → Nat → Option (Nat × Nat)} (hf : ∀ az s, Runs (f az s) s) (rest : List Nat) : ∀ (k n s v' s' : Nat), n ≤ 1000 → loopN f rest k n s = some (v', s') → v' ≤ 1000
  | 0, _, _, _, _, _, h => by simp [loopN] at h
  | k + 1, n, s, v', s', hn, h => by
    simp only [loopN] at h
    cases hq : f (n :: rest) s with
    | none => rw [hq] at h; simp at h
    | some q =>
      obtain ⟨a, b⟩ := q
      rw [hq] at h
      simp only at h
      split at h
      · simp only [Option.some.injEq, Prod.mk.injEq] at h
        obtain ⟨rfl, rfl⟩ := h
        exact hn
      · split at h
        · cases h
        · exact loopN_facts hf rest k (n + 1) b v' s' (by omega) h

theorem ev_runs : ∀ (t : FT) (az : List Nat) (s : Nat), Runs (ev t az s) s
  | z _, az, s => ⟨fun v s' h => by
    simp only [ev] at h
    split at h
    · cases h
    · simp only [Option.some.injEq, Prod.mk.injEq] at h; omega⟩
  | inc, az, s => ⟨fun v s' h => by
    simp only [ev] at h
    split at h
    · cases h
    · obtain ⟨h, hv⟩ := chk_some h; simp only [Option.some.injEq, Prod.mk.injEq] at h; omega⟩
  | p _ _, az, s => ⟨fun v s' h => by
    simp only [ev] at h
    split at h
    · cases h
    · obtain ⟨h, hv⟩ := chk_some h; simp only [Option.some.injEq, Prod.mk.injEq] at h; omega⟩
  | c1 f g, az, s => ⟨fun v s' h => by
    simp only [ev] at h
    split at h
    · cases h
    · obtain ⟨h, hv⟩ := chk_some h
      cases hg : ev g az (s + 1) with
      | none => rw [hg] at h; simp at h
      | some q =>
        obtain ⟨x, s1⟩ := q
        rw [hg] at h
        have h1 := (ev_runs g az (s + 1)).small _ _ hg
        have h2 := (ev_runs f [x] s1).small _ _ h
        omega⟩
  | c2 f g k, az, s => ⟨fun v s' h => by
    simp only [ev] at h
    split at h
    · cases h
    · obtain ⟨h, hv⟩ := chk_some h
      cases hg : ev g az (s + 1) with
      | none => rw [hg] at h; simp at h
      | some q =>
        obtain ⟨x, s1⟩ := q
        rw [hg] at h
        simp only at h
        cases hk : ev k az s1 with
        | none => rw [hk] at h; simp at h
        | some q =>
          obtain ⟨y, s2⟩ := q
          rw [hk] at h
          have h1 := (ev_runs g az (s + 1)).small _ _ hg
          have h3 := (ev_runs k az s1).small _ _ hk
          have h2 := (ev_runs f [x, y] s2).small _ _ h
          omega⟩
  | c3 f g k l, az, s => ⟨fun v s' h => by
    simp only [ev] at h
    split at h
    · cases h
    · obtain ⟨h, hv⟩ := chk_some h
      cases hg : ev g az (s + 1) with
      | none => rw [hg] at h; simp at h
      | some q =>
        obtain ⟨x, s1⟩ := q
        rw [hg] at h
        simp only at h
        cases hk : ev k az s1 with
        | none => rw [hk] at h; simp at h
        | some q =>
          obtain ⟨y, s2⟩ := q
          rw [hk] at h
          simp only at h
          cases hl : ev l az s2 with
          | none => rw [hl] at h; simp at h
          | some q =>
            obtain ⟨u, s3⟩ := q
            rw [hl] at h
            have h1 := (ev_runs g az (s + 1)).small _ _ hg
            have h3 := (ev_runs k az s1).small _ _ hk
            have h4 := (ev_runs l az s2).small _ _ hl
            have h2 := (ev_runs f [x, y, u] s3).small _ _ h
            omega⟩
  | r f g, az, s => ⟨fun v s' h => by
    simp only [ev] at h
    split at h
    · cases h
    · obtain ⟨h, hv⟩ := chk_some h
      cases hg : ev f az.tail (s + 1) with
      | none => rw [hg] at h; simp at h
      | some q =>
        obtain ⟨x, s1⟩ := q
        rw [hg] at h
        have h1 := (ev_runs f az.tail (s + 1)).small _ _ hg
        have h2 := loopR_facts (ev_runs g) az.tail _ _ _ _ _ _ h1.1 h1.2.2 h
        omega⟩
  | m f, az, s => ⟨fun v s' h => by
    simp only [ev] at h
    split at h
    · cases h
    · obtain ⟨h, hv⟩ := chk_some h
      have h2 := loopM_facts (ev_runs f) az _ _ _ _ _ h
      omega⟩

theorem loopR_same {g g' : List Nat → Nat → Option (Nat × Nat)} (hg : ∀ az s, Runs (g az s) s) (rest : List Nat) (hr : ∀ a ∈ rest, a ≤ 1000) (he : ∀ az s, (∀ a ∈ az, a ≤ 1000) → g' az s = g az s) :
    ∀ (n i v s : Nat), v ≤ 1000 → i + n ≤ 1000 → loopR g' rest n i v s = loopR g rest n i v s
  | 0, _, _, _, _, _ => rfl
  | n + 1, i, v, s, hv, hi => by
    simp only [loopR]
    rw [he (i :: v :: rest) s (by simp; exact ⟨by omega, hv, hr⟩)]
    cases hq : g (i :: v :: rest) s with
    | none => rfl
    | some q =>
      obtain ⟨a, b⟩ := q
      exact loopR_same hg rest hr he n (i + 1) a b ((hg _ s).small _ _ hq).1 (by omega)

theorem loopN_same {f f' : List Nat → Nat → Option (Nat × Nat)} (hf : ∀ az s, Runs (f az s) s) (rest : List Nat) (hr : ∀ a ∈ rest, a ≤ 1000) (he : ∀ az s, (∀ a ∈ az, a ≤ 1000) → f' az s = f az s) :
    ∀ (k n s : Nat), n ≤ 1000 → loopN f' rest k n s = chk (loopM f rest k n s)
  | 0, _, _, _ => rfl
  | k + 1, n, s, hn => by
    simp only [loopN, loopM]
    rw [he (n :: rest) s (by simp; exact ⟨hn, hr⟩)]
    cases hq : f (n :: rest) s with
    | none => rfl
    | some q =>
      obtain ⟨a, b⟩ := q
      simp only
      split
      · simp [chk, hn]
      · split
        · cases hl : loopM f rest k (n + 1) b with
          | none => rfl
          | some q =>
            obtain ⟨c, d⟩ := q
            have := loopM_facts hf rest k (n + 1) b c d hl
            simp only [chk]
            rw [if_neg (by omega)]
        · exact loopN_same hf rest hr he k (n + 1) b (by omega)

theorem head_le {az : List Nat} (h : ∀ a ∈ az, a ≤ 1000) : az.headD 0 ≤ 1000 := by cases az with | nil => simp | cons a l => simpa using h a (by simp)
theorem tail_le {az : List Nat} (h : ∀ a ∈ az, a ≤ 1000) : ∀ a ∈ az.tail, a ≤ 1000 := fun a ha => h a (List.mem_of_mem_tail ha)
theorem get_le {az : List Nat} (h : ∀ a ∈ az, a ≤ 1000) (i : Nat) : az.getD i 0 ≤ 1000 := by
  rw [List.getD_eq_getElem?_getD]
  cases hg : az[i]? with
  | none => simp
  | some a => simpa using h a (List.mem_of_getElem? hg)

theorem mv_eq : ∀ (t : FT) (az : List Nat) (s : Nat), (∀ a ∈ az, a ≤ 1000) → mv t az s = ev t az s
  | z _, az, s, _ => rfl
  | inc, az, s, _ => by
    simp only [mv, ev, chk]
    split
    · rfl
    · by_cases h : 1000 ≤ az.headD 0
      · rw [if_pos h, if_neg (by omega)]
      · rw [if_neg h, if_pos (by omega)]
  | p i _, az, s, h => by simp only [mv, ev, chk]; rw [if_pos (get_le h i)]
  | c1 f g, az, s, h => by
    simp only [mv, ev]
    rw [mv_eq g az (s + 1) h]
    split
    · rfl
    · cases hg : ev g az (s + 1) with
      | none => rfl
      | some q =>
        obtain ⟨x, s1⟩ := q
        have h1 := (ev_runs g az (s + 1)).small _ _ hg
        simp only
        rw [mv_eq f [x] s1 (by simpa using h1.1), chk_small fun v s' e => ((ev_runs f [x] s1).small _ _ e).1]
  | c2 f g k, az, s, h => by
    simp only [mv, ev]
    rw [mv_eq g az (s + 1) h]
    split
    · rfl
    · cases hg : ev g az (s + 1) with
      | none => rfl
      | some q =>
        obtain ⟨x, s1⟩ := q
        have h1 := (ev_runs g az (s + 1)).small _ _ hg
        simp only
        rw [mv_eq k az s1 h]
        cases hk : ev k az s1 with
        | none => rfl
        | some q =>
          obtain ⟨y, s2⟩ := q
          have h2 := (ev_runs k az s1).small _ _ hk
          simp only
          rw [mv_eq f [x, y] s2 (by simpa using ⟨h1.1, h2.1⟩), chk_small fun v s' e => ((ev_runs f [x, y] s2).small _ _ e).1]
  | c3 f g k l, az, s, h => by
    simp only [mv, ev]
    rw [mv_eq g az (s + 1) h]
    split
    · rfl
    · cases hg : ev g az (s + 1) with
      | none => rfl
      | some q =>
        obtain ⟨x, s1⟩ := q
        have h1 := (ev_runs g az (s + 1)).small _ _ hg
        simp only
        rw [mv_eq k az s1 h]
        cases hk : ev k az s1 with
        | none => rfl
        | some q =>
          obtain ⟨y, s2⟩ := q
          have h2 := (ev_runs k az s1).small _ _ hk
          simp only
          rw [mv_eq l az s2 h]
          cases hl : ev l az s2 with
          | none => rfl
          | some q =>
            obtain ⟨u, s3⟩ := q
            have h3 := (ev_runs l az s2).small _ _ hl
            simp only
            rw [mv_eq f [x, y, u] s3 (by simpa using ⟨h1.1, h2.1, h3.1⟩), chk_small fun v s' e => ((ev_runs f [x, y, u] s3).small _ _ e).1]
  | r f g, az, s, h => by
    simp only [mv, ev]
    rw [mv_eq f az.tail (s + 1) (tail_le h)]
    split
    · rfl
    · cases hg : ev f az.tail (s + 1) with
      | none => rfl
      | some q =>
        obtain ⟨x, s1⟩ := q
        have h1 := (ev_runs f az.tail (s + 1)).small _ _ hg
        have hh := head_le h
        simp only
        rw [loopR_same (ev_runs g) az.tail (tail_le h) (fun az s h => mv_eq g az s h) _ _ _ _ h1.1 (by omega)]
        rw [chk_small fun v s' e => (loopR_facts (ev_runs g) az.tail _ _ _ _ _ _ h1.1 h1.2.2 e).1]
  | m f, az, s, h => by
    simp only [mv, ev]
    rw [loopN_same (ev_runs f) az h (fun az s h => mv_eq f az s h) _ _ _ (by omega)]

/-- FunctionValue: the value and the steps. -/
def pValue (l : List UInt8) (az : List Int) : Option (Nat × Nat) := match parse l with
  | some t => if az.length = arity t ∧ ∀ a ∈ az, 0 ≤ a ∧ a ≤ 60 then ev t (az.map Int.toNat) 0 else none
  | none => none

end FT
end Go.Proofs.YtidpkmkhcomcdaaGreat
