/-
  Regions 'x, ok := f(toAssembly(a), toAssembly(b))' of laws over two assemblies.
-/
import Derived.Test.YtipmgfbncfkmiaaToO
import Derived.Test.YtipmgfbncfkmiaaPkY
import Derived.Test.YtipmgfbncfkmiaaPkW
namespace Go.Proofs.Ytipmgfbncfkmiaa
open Go.RowKit

set_option maxHeartbeats 2000000
set_option maxRecDepth 100000

def Sp.asm (a : List (List (List UInt8))) : Sp := ⟨fun v w => ∃ s, v = .agg #[s] ∧ SSU 0 w s a, fun _ _ _ ⟨s, e, h⟩ ha => ⟨s, e, h.later ha⟩⟩
def Sp.asmO (C : Nat) (a : List (List (List UInt8))) : Sp := ⟨fun v w => ∃ s, v = .agg #[s] ∧ OwnSS w C s a, fun _ _ _ ⟨s, e, h⟩ ha => ⟨s, e, h.later ha⟩⟩
def Sp.res (C : Nat) (a : List (List (List UInt8))) (b : Bool) : Sp := ⟨fun v w => ∃ s, v = .tuple #[.agg #[s], .bool b] ∧ OwnSS w C s a, fun _ _ _ ⟨s, e, h⟩ ha => ⟨s, e, h.later ha⟩⟩
def Sp.cellA (C : Nat) : Sp := ⟨fun v w => ∃ b, v = .pointer (some ⟨b, 0, none⟩) ∧ C ≤ b ∧ w.heap[b]? = some (.cells #[.slice none 0 0] 58 (0, 0)), fun _ _ _ ⟨b, e, h, h2⟩ ha => ⟨b, e, h, ha.heap h2⟩⟩

def putL (a : Act) : List (Option Tmp) → (Nat → Value) → Nat → Act
  | [], _, _ => a
  | d :: ds, vs, i => putL (a.put d (vs i)) ds vs (i + 1)
theorem putL_snoc (vs : Nat → Value) (d : Option Tmp) : ∀ (ds : List (Option Tmp)) (a : Act) (i : Nat), putL a (ds ++ [d]) vs i = (putL a ds vs i).put d (vs (i + ds.length))
  | [], a, i => rfl
  | e :: ds, a, i => by
    show putL (a.put e (vs i)) (ds ++ [d]) vs (i + 1) = _
    rw [putL_snoc vs d ds]
    show _ = (putL (a.put e (vs i)) ds vs (i + 1)).put d (vs (i + (ds.length + 1)))
    rw [show i + 1 + ds.length = i + (ds.length + 1) by omega]
theorem frame_ds {a : Act} {ops : Array Oper} {vs : Nat → Value} (ds : List (Option Tmp)) (h : (List.range ops.size).map (dstOf ops) = ds) : frame a ops vs = putL a ds vs 0 := by
  have key : ∀ n, putAll a (dstOf ops) vs n = putL a ((List.range n).map (dstOf ops)) vs 0 := by
    intro n
    induction n with
    | zero => rfl
    | succ n ih =>
      rw [List.range_succ, List.map_append]
      show (putAll a (dstOf ops) vs n).put (dstOf ops n) (vs n) = putL a (_ ++ [dstOf ops n]) vs 0
      rw [putL_snoc, ih, List.length_map, List.length_range, Nat.zero_add]
  subst h
  exact key _

theorem put_dst {a : Act} {ops : Array Oper} {i : Nat} {v : Value} {d : Option Tmp} (h : dstOf ops i = d) : a.put (dstOf ops i) v = a.put d v := by rw [h]
theorem lt10n9 {q : Nat → Prop} (h0 : q 0) (h1 : q 1) (h2 : q 2) (h3 : q 3) (h4 : q 4) (h5 : q 5) (h6 : q 6) (h7 : q 7) (h8 : q 8) : ∀ i, i < 10 → i ≠ 9 → q i := fun i hi hne => lt9 h0 h1 h2 h3 h4 h5 h6 h7 h8 i (by omega)

section
variable {ops : Array Oper} {Q : Exit → Act → World → Prop} {A : Act} {i : Nat} {w : World} {K : Act → World → Prop}
theorem run_lda {x : Operand} {p : Addr} {v : Value} (hop : (opAt ops i).op = .load 54 x) (hx : A.eval x = .pointer (some p)) (hc : w.cell? p = some v) :
    (execOp A.eval (opAt ops i)).run Try.prog w = .ok (.value (.agg #[v])) w := by
  unfold execOp
  simp only [hop, hx]
  obtain ⟨b, off, spot⟩ := p
  simp [go_sem, hc]
theorem run_ex0 {x : Operand} {u a b : Value} (hop : (opAt ops i).op = .extract x 0) (hx : A.eval x = u) (hu : u = .tuple #[a, b]) : (execOp A.eval (opAt ops i)).run Try.prog w = .ok (.value a) w := by
  subst hu
  unfold execOp
  simp only [hop, hx]
  kernel_rfl
theorem run_ex1 {x : Operand} {u a b : Value} (hop : (opAt ops i).op = .extract x 1) (hx : A.eval x = u) (hu : u = .tuple #[a, b]) : (execOp A.eval (opAt ops i)).run Try.prog w = .ok (.value b) w := by
  subst hu
  unfold execOp
  simp only [hop, hx]
  kernel_rfl
theorem run_alA (hop : (opAt ops i).op = .alloc 58) : (execOp A.eval (opAt ops i)).run Try.prog w = .ok (.value (.pointer (some ⟨w.heap.size, 0, none⟩))) (w.alloc (.cells #[.slice none 0 0] 58)) := by
  unfold execOp
  simp only [hop]
  kernel_rfl
theorem do_stA {x y : Operand} {u u' s : Value} {b C : Nat} {z : List (List (List UInt8))} (hs : (ops[i]?).isSome = true) (hop : (opAt ops i).op = .store 58 x y) (hg : (opAt ops i).guard = none) (hd : dstOf ops i = none) (hx : A.eval x = u) (hu : u = .pointer (some ⟨b, 0, none⟩)) (hy : A.eval y = u') (hu' : u' = .agg #[s])
    (ho : OwnSS w C s z) (hb : w.heap[b]? = some (.cells #[.slice none 0 0] 58 (0, 0)))
    (hK : ∀ W, W.heap[b]? = some (.cells #[s] 58 (0, 0)) → OwnSS W C s z → (∀ {Y : World}, Y.heap.size ≤ w.heap.size → Y.heap.size ≤ b → Below Y.heap.size w W) → K (A.put (dstOf ops i) undef) W) : OpDo Try.prog ops Q A i w K := by
  rw [hd] at hK
  subst hu hu'
  obtain ⟨ao, cap, rfl⟩ := ho.form
  have r0 : w.cell? ⟨b, 0, none⟩ = some (.slice none 0 0) := cell_of_heap hb
  have f0 : w.frozen? ⟨b, 0, none⟩ = false := by simp [World.frozen?, hb]
  have hst : (Instr.storeAt 58 (.pointer (some ⟨b, 0, none⟩)) (.agg #[.slice ao z.length cap])).run Try.prog w = .ok () (w.setCell ⟨b, 0, none⟩ (.slice ao z.length cap)) := by
    simp [go_sem, r0, f0]
  constructor
  rw [opAt_of hs]
  simp only [wanted_of hg, if_true]
  unfold Oper.wp execOp
  simp only [hop, hx, hy, Sem.run_bind, hst, Result.andThen_ok, Sem.run_pure, Oper.upon_skip]
  rw [opAt_dst hs, hd]
  refine hK _ ?_ (ho.keptT fun b' cs T fr hT hb' => ?_) (fun {Y} h1 h2 => Below.setCell (Below.refl _ _) h2 _)
  · simp [World.setCell, Array.getElem?_modify, hb]
  · rw [Below.heap_setCell _ _ _ _ (fun e => by have e' : b' = b := e; subst e'; rw [hb] at hb'; injection hb' with hb'; injection hb' with _ hb' _; exact hT hb'.symm)]
    exact hb'
end

theorem own_hi {w w' : World} {base hi : Nat} (hf : FrameHi hi w w') (hb : hi ≤ base) {E : TypeId} {n : Nat} {v : Value} {vs : List Value} (h : w.ownsRow base E 1 v n vs) : w'.ownsRow base E 1 v n vs := by
  refine ⟨h.1, ?_⟩
  rcases h.2 with h | ⟨g, cap, cur, h1, h2, h3, h4⟩
  · exact Or.inl h
  · exact Or.inr ⟨g, cap, cur, h1, h2, by rw [hf g (by omega) (Array.getElem?_eq_some_iff.1 h3).1]; exact h3, h4⟩
theorem OwnSS.hi {w w' : World} {base hi : Nat} {sv : Value} {a : List (List (List UInt8))} (h : OwnSS w base sv a) (hf : FrameHi hi w w') (hb : hi ≤ base) : OwnSS w' base sv a := by
  obtain ⟨cs, ho, hc, hd⟩ := h
  exact ⟨cs, own_hi hf hb ho, fun j hj => by obtain ⟨rv, h1, h2⟩ := hc j hj; exact ⟨rv, h1, own_hi hf hb h2⟩, hd⟩
theorem RowsLo.hi {w w' : World} {base hi hi' : Nat} {sv : Value} {a : List (List (List UInt8))} (h : RowsLo hi' w base sv a.length) (ho : OwnSS w base sv a) (hf : FrameHi hi w w') (hb : hi ≤ base) : RowsLo hi' w' base sv a.length := by
  intro cs' hcs'
  obtain ⟨cs, ho, _⟩ := ho
  obtain rfl := own_unique hcs' (own_hi hf hb ho)
  exact h _ ho

theorem offA_le' (m : Nat) (a : List (List (List UInt8))) (h : ∀ ns ∈ a, ns.length ≤ m) : ∀ j, j ≤ a.length → offA a j ≤ j * m
  | 0, _ => by simp [offA]
  | j + 1, hj => by
    rw [offA_succ, Nat.succ_mul]
    have h1 := offA_le' m a h j (by omega)
    have h2 : (a.getD j []).length ≤ m := h _ (by rw [List.getD, List.getElem?_eq_getElem (show j < a.length by omega)]; exact List.getElem_mem _)
    omega
end Go.Proofs.Ytipmgfbncfkmiaa
