/-
  A region that draws its order, by one obligation an operation: the rule as it is used, and the model's kinds of operations on trees.
-/
import Derived.Test.YtjfdindlfakmcaaInv
import Derived.Test.YtjfdindlfakmcaaPkR
import Derived.Deep.MidRow
namespace Go.Proofs.Ytjfdindlfakmcaa
open Go Go.RowKit

set_option maxRecDepth 100000

section
variable {P : Program} {ops : Array Oper} {Q : Exit → Act → World → Prop}

def dstOf (ops : Array Oper) (i : Nat) : Option Tmp := (ops[i]?).bind (·.dst)
def depsOn (ops : Array Oper) (i j : Nat) : Bool := match ops[i]? with
  | some o => o.after.any fun e => Region.binds .any e && e.on == j
  | none => false
/-- What of a region is seen by reckoning: no slot twice, nothing waits for a later one. -/
def regOk (ops : Array Oper) (n : Nat) : Bool :=
  (List.range n).all (fun i => (List.range ops.size).all fun j => j == i || (dstOf ops j).isNone || !((dstOf ops j) == (dstOf ops i))) &&
  (List.range ops.size).all (fun i => match ops[i]? with | none => true | some o => o.after.all fun e => decide (e.on < i))
def regLast (ops : Array Oper) (n : Nat) : Bool := (List.range n).all fun j => depsOn ops n j

theorem regOk_dst {n : Nat} (h : regOk ops n = true) : ∀ i j, i < n → j < ops.size → j ≠ i → dstOf ops j ≠ dstOf ops i ∨ dstOf ops j = none := by
  intro i j hi hj hne
  simp only [regOk, Bool.and_eq_true, List.all_eq_true, List.mem_range, Bool.or_eq_true, beq_iff_eq, Bool.not_eq_true'] at h
  rcases h.1 i hi j hj with (h1 | h1) | h1
  · exact absurd h1 hne
  · exact Or.inr (Option.isNone_iff_eq_none.1 h1)
  · exact Or.inl (by simpa using h1)

theorem regOk_back {n : Nat} (h : regOk ops n = true) : ∀ (i : Nat) (o : Oper), ops[i]? = some o → ∀ e : Edge, e ∈ o.after → e.on < i := by
  intro i o ho e he
  have hi : i < ops.size := (Array.getElem?_eq_some_iff.1 ho).1
  simp only [regOk, Bool.and_eq_true, List.all_eq_true, List.mem_range] at h
  have := h.2 i hi
  rw [ho] at this
  simp only [Array.all_eq_true_iff_forall_mem] at this
  simpa using this e he

theorem putAll_init (a : Act) (dst : Nat → Option Tmp) : ∀ n, putAll a dst (fun i => match dst i with | some d => a.tmps.getD d undef | none => undef) n = a
  | 0 => rfl
  | n + 1 => by
    simp only [putAll]
    rw [putAll_init a dst n]
    cases hd : dst n with
    | none => rfl
    | some d =>
      have : a.tmps.setIfInBounds d (a.tmps.getD d undef) = a.tmps := by
        by_cases h : d < a.tmps.size
        · apply Array.ext
          · simp
          · intro i h1 h2
            rw [Array.getElem_setIfInBounds (hj := by simpa using h1)]
            split
            · rename_i e; subst e; simp
            · rfl
        · exact Array.setIfInBounds_eq_of_size_le (Nat.le_of_not_lt h)
      show (a.put (some d) (a.tmps.getD d undef)) = a
      unfold Act.put
      simp only [this]

/-- The frame of a region whose operations yield vs. -/
def frame (a : Act) (ops : Array Oper) (vs : Nat → Value) : Act := putAll a (dstOf ops) vs ops.size

/-- What is to be shown of an operation. -/
structure OpDo (P : Program) (ops : Array Oper) (Q : Exit → Act → World → Prop) (A : Act) (i : Nat) (w : World) (K : Act → World → Prop) : Prop where
  out : match ops[i]? with
    | some o => if Region.wanted o (yielded ops A.tmps) = true then Oper.wp P o A w K Q else K (A.put o.dst undef) w
    | none => False

theorem wp_region_reg1 {id n : Nat} {a0 : Act} {w0 : World} (hm : P.follows .mixedOrders = true) (hn : ops.size = n + 1) (hok : regOk ops n = true) (hl : regLast ops n = true)
    (Ext : World → World → Prop) (hrefl : ∀ w, Ext w w) (htrans : ∀ a b c, Ext a b → Ext b c → Ext a c)
    (R : Nat → Value → World → Prop) (hR : ∀ i v w w', Ext w0.drew w → R i v w → Ext w w' → R i v w')
    (hstep : ∀ i, i < n → ∀ (vs : Nat → Value) (w : World), Ext w0.drew w → (∀ j, depsOn ops i j = true → R j (vs j) w) →
      ∀ K : Act → World → Prop, (∀ v w', Ext w w' → R i v w' → K ((frame a0 ops vs).put (dstOf ops i) v) w') → OpDo P ops Q (frame a0 ops vs) i w K)
    (hlast : ∀ (vs : Nat → Value) (w : World), Ext w0.drew w → (∀ i, i < n → R i (vs i) w) → ∀ K : Act → World → Prop, (∀ a w, Q .normal a w → K a w) → OpDo P ops Q (frame a0 ops vs) n w K) : (Code.region id ops true).wp P Q a0 w0 := by
  refine wp_region_mono1 hm hn Ext hrefl htrans R hR (dstOf ops) (regOk_dst hok) (regOk_back hok) ?_ _ (putAll_init a0 _ _) ?_ ?_
  · intro o ho j hj
    have := List.all_eq_true.1 hl j (List.mem_range.2 hj)
    simpa [depsOn, ho] using this
  · intro i o hi ho vs w hE hd K hK
    have := hstep i hi vs w hE (fun j hj => hd j (by simpa [depsOn, ho] using hj)) K hK
    have this := this.out
    rw [ho] at this
    exact this
  · intro o ho vs w hE hd K hK
    have := hlast vs w hE hd K hK
    have this := this.out
    rw [ho] at this
    exact this

theorem wp_region_reg {id : Nat} {a0 : Act} {w0 : World} (hm : P.follows .mixedOrders = true) (hok : regOk ops ops.size = true)
    (Ext : World → World → Prop) (hrefl : ∀ w, Ext w w) (htrans : ∀ a b c, Ext a b → Ext b c → Ext a c)
    (R : Nat → Value → World → Prop) (hR : ∀ i v w w', Ext w0.drew w → R i v w → Ext w w' → R i v w')
    (hstep : ∀ i, i < ops.size → ∀ (vs : Nat → Value) (w : World), Ext w0.drew w → (∀ j, depsOn ops i j = true → R j (vs j) w) →
      ∀ K : Act → World → Prop, (∀ v w', Ext w w' → R i v w' → K ((frame a0 ops vs).put (dstOf ops i) v) w') → OpDo P ops Q (frame a0 ops vs) i w K)
    (hend : ∀ (vs : Nat → Value) (w : World), Ext w0.drew w → (∀ i, i < ops.size → R i (vs i) w) → Q .normal (frame a0 ops vs) w) : (Code.region id ops true).wp P Q a0 w0 := by
  refine wp_region_mono hm (fun w => Ext w0.drew w) Ext hrefl htrans R (fun i v w w' h1 h2 h3 => hR i v w w' h1 h2 h3) (dstOf ops) ?_ (fun i j hi hj hne => regOk_dst hok i j hi hj hne) (regOk_back hok) _ (putAll_init a0 _ _) (hrefl _) ?_ (fun vs w hS _ hr => hend vs w hS hr)
  · intro i o ho; simp [dstOf, ho]
  · intro i o ho vs w hS hE hd K hK
    have hi : i < ops.size := (Array.getElem?_eq_some_iff.1 ho).1
    have := hstep i hi vs w hE (fun j hj => hd j (by simpa [depsOn, ho] using hj)) K (fun v w' h1 h2 => hK v w' (htrans _ _ _ hS h1) h1 h2)
    have this := this.out
    rw [ho] at this
    exact this

def opAt (ops : Array Oper) (i : Nat) : Oper := (ops[i]?).getD default
theorem opAt_of {i : Nat} (h : (ops[i]?).isSome = true) : ops[i]? = some (opAt ops i) := by
  unfold opAt
  cases ho : ops[i]? with
  | none => rw [ho] at h; cases h
  | some o => rfl
theorem opAt_dst {i : Nat} (h : (ops[i]?).isSome = true) : (opAt ops i).dst = dstOf ops i := by
  unfold dstOf
  rw [opAt_of h]
  rfl

/-- An operation that is on and hands back a value at once. -/
theorem op_val {A : Act} {i : Nat} {w w' : World} {K : Act → World → Prop} {v : Value} (hs : (ops[i]?).isSome = true) (hg : Region.wanted (opAt ops i) (yielded ops A.tmps) = true) (hr : (execOp A.eval (opAt ops i)).run P w = .ok (.value v) w') (hK : K (A.put (dstOf ops i) v) w') : OpDo P ops Q A i w K := by
  constructor
  rw [opAt_of hs]
  simp only [hg, if_true]
  unfold Oper.wp
  rw [hr]
  rw [← opAt_dst hs] at hK
  exact hK
/-- An operation that is off. -/
theorem op_off {A : Act} {i : Nat} {w : World} {K : Act → World → Prop} (hs : (ops[i]?).isSome = true) (hg : Region.wanted (opAt ops i) (yielded ops A.tmps) = false) (hK : K (A.put (dstOf ops i) undef) w) : OpDo P ops Q A i w K := by
  constructor
  rw [opAt_of hs]
  simp only [hg, Bool.false_eq_true, if_false]
  rw [← opAt_dst hs] at hK
  exact hK
/-- A call. -/
theorem op_call {A : Act} {i : Nat} {w : World} {K : Act → World → Prop} {f : FuncId} {args : Array Value} (hs : (ops[i]?).isSome = true) (hg : Region.wanted (opAt ops i) (yielded ops A.tmps) = true) (hr : (execOp A.eval (opAt ops i)).run P w = .ok (.enter f args) w)
    (hK : Calls P f args w fun e w' => ∃ v, e = .returned v ∧ K (A.put (dstOf ops i) v) w') : OpDo P ops Q A i w K := by
  constructor
  rw [opAt_of hs]
  simp only [hg, if_true]
  unfold Oper.wp
  rw [hr]
  refine hK.mono ?_
  rintro e w' ⟨v, rfl, h⟩
  rw [← opAt_dst hs] at h
  exact h
end

/-! ### the kinds of operations, at a seat's program -/

theorem run_load_tree {w : World} {b o : Nat} {c0 c1 : Value} (h0 : w.cell? ⟨b, o, none⟩ = some c0) (h1 : w.cell? ⟨b, o + 1, none⟩ = some c1) :
    (Instr.loadAt 49 (.pointer (some ⟨b, o, none⟩))).run Try.prog w = .ok (.agg #[c0, c1]) w := by
  obtain ⟨d, hd, hr⟩ : ∃ d, Try.prog.underlying 49 = some d ∧ d.isRow = true := ⟨_, rfl, rfl⟩
  exact run_loadAt_mid w b o 49 [c0, c1] d (fun j v hj => by
    match j, hj with
    | 0, hj => simp at hj; subst hj; exact h0
    | 1, hj => simp at hj; subst hj; exact h1) hd hr (by kernel_rfl)

/-- The pointed-at tree is loaded. -/
theorem op_load {ops : Array Oper} {Q : Exit → Act → World → Prop} {A : Act} {i : Nat} {w : World} {K : Act → World → Prop} {x : Operand} {b k : Nat} {c0 c1 : Value} (hs : (ops[i]?).isSome = true) (hop : (opAt ops i).op = .load 49 x) (hg : (opAt ops i).guard = none) (hx : A.eval x = .pointer (some ⟨b, k, none⟩))
    (h0 : w.cell? ⟨b, k, none⟩ = some c0) (h1 : w.cell? ⟨b, k + 1, none⟩ = some c1) (hK : K (A.put (dstOf ops i) (.agg #[c0, c1])) w) : OpDo Try.prog ops Q A i w K := by
  refine op_val hs (by unfold Region.wanted; rw [hg]) ?_ hK
  unfold execOp
  simp only [hop, hx, Sem.run_bind, run_load_tree h0 h1, Result.andThen_ok, Sem.run_pure]
end Go.Proofs.Ytjfdindlfakmcaa
