/-
  A region that draws its order up to some operation, and goes on in sequence from there (an append, then a store): one obligation an operation, then the rest one by one. Program-independent.
-/
import Derived.Test.YtipmgfbncfkmiaaPkV
import Derived.Test.YtipmgfbncfkmiaaPkO
import Derived.Test.YtipmgfbncfkmiaaPkU
import Derived.Test.YtipmgfbncfkmiaaPkA
import Derived.BigQuiet
import Derived.Deep.QuietTactic
import Derived.Laws.OwnMore
namespace Go.Proofs.Ytipmgfbncfkmiaa
open Go

section
variable {P : Program} {ops : Array Oper} {Q : Exit → Act → World → Prop}

/-- Whether operation i comes behind operation j, by edges at most f deep. -/
def reachF (ops : Array Oper) : Nat → Nat → Nat → Bool
  | 0, _, _ => false
  | f + 1, i, j => depsOn ops i j || (List.range i).any fun k => depsOn ops i k && reachF ops f k j
/-- The operations from m on come one behind the other, each behind all ahead of it. -/
def regTail (ops : Array Oper) (m f : Nat) : Bool := (List.range ops.size).all fun i => decide (i < m) || (List.range i).all fun j => reachF ops f i j

theorem reach_listed {listed : Array Bool} (hc : ∀ i, listed.getD i false = true → ∀ j, depsOn ops i j = true → listed.getD j false = true) : ∀ (f i j : Nat), (∀ j, depsOn ops i j = true → listed.getD j false = true) → reachF ops f i j = true → listed.getD j false = true
  | 0, _, _, _, h => by cases h
  | f + 1, i, j, hi, h => by
    rw [reachF, Bool.or_eq_true] at h
    rcases h with h | h
    · exact hi j h
    · rw [List.any_eq_true] at h
      obtain ⟨k, _, h⟩ := h
      rw [Bool.and_eq_true] at h
      exact reach_listed hc f k j (hc k (hi k h.1)) h.2

/-- The operations from i on, k of them, one behind the other. -/
def tailP (P : Program) (ops : Array Oper) (Q : Exit → Act → World → Prop) : Nat → Nat → Act → World → Prop
  | 0, _, a, w => Q .normal a w
  | k + 1, i, a, w => OpDo P ops Q a i w (tailP P ops Q k (i + 1))

theorem wp_region_tail {id m k f : Nat} {a0 : Act} {w0 : World} (hm : P.follows .mixedOrders = true) (hn : ops.size = m + k) (hok : regOk ops m = true) (htl : regTail ops m f = true)
    (Ext : World → World → Prop) (hrefl : ∀ w, Ext w w) (htrans : ∀ a b c, Ext a b → Ext b c → Ext a c)
    (R : Nat → Value → World → Prop) (hR : ∀ i v w w', Ext w0.drew w → R i v w → Ext w w' → R i v w')
    (hstep : ∀ i, i < m → ∀ (vs : Nat → Value) (w : World), Ext w0.drew w → (∀ j, depsOn ops i j = true → R j (vs j) w) →
      ∀ K : Act → World → Prop, (∀ v w', Ext w w' → R i v w' → K ((frame a0 ops vs).put (dstOf ops i) v) w') → OpDo P ops Q (frame a0 ops vs) i w K)
    (htail : ∀ (vs : Nat → Value) (w : World), Ext w0.drew w → (∀ i, i < m → R i (vs i) w) → tailP P ops Q k m (frame a0 ops vs) w) :
    (Code.region id ops true).wp P Q a0 w0 := by
  have getSet : ∀ (listed : Array Bool) (i j : Nat), (listed.setIfInBounds i true).getD j false = if j = i ∧ i < listed.size then true else listed.getD j false := fun listed i j => by
    simp only [Array.getD_eq_getD_getElem?, Array.getElem?_setIfInBounds]
    by_cases h : i = j
    · subst h
      by_cases hi : i < listed.size
      · simp [hi]
      · simp [hi]
    · have h' : ¬ j = i := fun e => h e.symm
      simp [h, h']
  refine wp_region_any hm ?_
  refine wpAny_inv (fun listed a w => listed.size = ops.size ∧ (∀ i, listed.getD i false = true → ∀ j, depsOn ops i j = true → listed.getD j false = true) ∧
    ((∃ vs, a = frame a0 ops vs ∧ Ext w0.drew w ∧ (∀ j, m ≤ j → listed.getD j false = false) ∧ ∀ j, listed.getD j false = true → R j (vs j) w) ∨
     (∃ t, t ≤ k ∧ (∀ j, j < m + t → listed.getD j false = true) ∧ (∀ j, m + t ≤ j → listed.getD j false = false) ∧ tailP P ops Q (k - t) (m + t) a w))) ?_ ?_ ops.size _ _ _ ?_ ⟨by simp, fun i hi => ?_, Or.inl ⟨_, (putAll_init a0 (dstOf ops) ops.size).symm, hrefl _, fun j _ => ?_, fun j hj => ?_⟩⟩
  · rintro listed a w ⟨hsz, hc, h⟩ hr
    have hall := all_listed hsz (regOk_back hok) hr
    rcases h with ⟨vs, rfl, hE, h1, h2⟩ | ⟨t, ht, h1, h2, hp⟩
    · have hk : k = 0 := by
        by_cases hk : k = 0
        · exact hk
        · have := hall m (by omega); rw [h1 m (Nat.le_refl _)] at this; cases this
      have := htail vs w hE (fun i hi => h2 i (hall i (by omega)))
      rw [hk] at this
      exact this
    · have hk : t = k := by
        by_cases hk : t = k
        · exact hk
        · have := hall (m + t) (by omega); rw [h2 _ (Nat.le_refl _)] at this; cases this
      rw [hk, Nat.sub_self] at hp
      exact hp
  · rintro listed a w i ⟨hsz, hc, h⟩ hi
    obtain ⟨hlt, hun, o, ho, hdeps⟩ := ready_open hi
    have hun' : listed.getD i false = false := by
      have hls : i < listed.size := by omega
      simp only [Array.getD, hls, dif_pos] at hun ⊢
      exact hun
    have hdep : ∀ j, depsOn ops i j = true → listed.getD j false = true := fun j hj => by
      unfold depsOn at hj
      rw [ho] at hj
      simp only at hj
      rw [Array.any_eq_true] at hj
      obtain ⟨k, hk, hb⟩ := hj
      simp only [Bool.and_eq_true, beq_iff_eq] at hb
      rw [← hb.2]
      exact hdeps _ (Array.getElem_mem hk) hb.1
    have fin : ∀ {A : Act} {K2 : Act → World → Prop}, (∀ K' : Act → World → Prop, (∀ a w, K2 a w → K' a w) → OpDo P ops Q A i w K') → wpOp P ops Q i K2 A w := fun {A K2} h => wpOp_step ho (fun K' hK => by
      have := (h K' hK).out
      rw [ho] at this
      exact this)
    have hsz' : (listed.setIfInBounds i true).size = ops.size := by simpa using hsz
    have hil : i < listed.size := by omega
    have same : ∀ j, listed.getD j false = true → (listed.setIfInBounds i true).getD j false = true := fun j hj => by rw [getSet]; split <;> simp [hj]
    have here : (listed.setIfInBounds i true).getD i false = true := by rw [getSet]; simp [hil]
    have other : ∀ j, j ≠ i → listed.getD j false = false → (listed.setIfInBounds i true).getD j false = false := fun j hne hj => by rw [getSet]; simp [hne, hj]
    have back : ∀ j, j ≠ i → (listed.setIfInBounds i true).getD j false = true → listed.getD j false = true := fun j hne hj => by rw [getSet, if_neg (fun h => hne h.1)] at hj; exact hj
    have hc' : ∀ q, (listed.setIfInBounds i true).getD q false = true → ∀ j, depsOn ops q j = true → (listed.setIfInBounds i true).getD j false = true := fun q hq j hj => by
      by_cases hqi : q = i
      · subst hqi; exact same j (hdep j hj)
      · exact same j (hc q (back q hqi hq) j hj)
    have hahead : m ≤ i → ∀ j, j < i → listed.getD j false = true := fun hmi j hj => by
      have := List.all_eq_true.1 htl i (List.mem_range.2 hlt)
      rw [Bool.or_eq_true] at this
      rcases this with h | h
      · rw [decide_eq_true_eq] at h; omega
      · exact reach_listed hc f i j hdep (List.all_eq_true.1 h j (List.mem_range.2 hj))
    have mono : ∀ {A : Act} {K1 K2 : Act → World → Prop}, (∀ a w, K1 a w → K2 a w) → OpDo P ops Q A i w K1 → ∀ K', (∀ a w, K2 a w → K' a w) → OpDo P ops Q A i w K' := fun {A K1 K2} h12 h K' hK => by
      refine ⟨?_⟩
      have := h.out
      rw [ho] at this ⊢
      simp only at this ⊢
      split
      · rename_i hw
        rw [if_pos hw] at this
        exact Oper.wp_mono (fun a w h => hK a w (h12 a w h)) this
      · rename_i hw
        rw [if_neg hw] at this
        exact hK _ _ (h12 _ _ this)
    rcases h with ⟨vs, rfl, hE, h1, h2⟩ | ⟨t, ht, h1, h2, hp⟩
    · by_cases him : i < m
      · refine fin (fun K' hK => hstep i him vs w hE (fun j hjd => h2 j (hdep j hjd)) K' (fun v w' he hr => hK _ _ ⟨hsz', hc', Or.inl ⟨fun j => if j = i then v else vs j, (putAll_upd a0 (dstOf ops) vs i v ops.size hlt (fun j hj' hne => regOk_dst hok i j him hj' hne)).symm, htrans _ _ _ hE he, fun j hj => other j (by omega) (h1 j hj), fun j hjl => ?_⟩⟩))
        by_cases hji : j = i
        · subst hji; simpa using hr
        · simp only [hji, if_false]
          exact hR j _ w w' hE (h2 j (back j hji hjl)) he
      · have him' : i = m := by
          by_cases he : i = m
          · exact he
          · have := hahead (by omega) m (by omega); rw [h1 m (Nat.le_refl _)] at this; cases this
        subst him'
        have := htail vs w hE (fun j hj => h2 j (hahead (Nat.le_refl _) j hj))
        obtain ⟨k', rfl⟩ : ∃ k', k = k' + 1 := ⟨k - 1, by omega⟩
        refine fin (mono (fun a' w' h' => ?_) this)
        refine ⟨hsz', hc', Or.inr ⟨1, by omega, fun j hj => ?_, fun j hj => other j (by omega) (h1 j (by omega)), ?_⟩⟩
        · by_cases hji : j = i
          · rw [hji]; exact here
          · exact same j (hahead (Nat.le_refl _) j (by omega))
        · rw [Nat.add_sub_cancel]; exact h'
    · have hi1 : i = m + t := by
        by_cases hlt' : i < m + t
        · have := h1 i hlt'; rw [hun'] at this; cases this
        · by_cases he : i = m + t
          · exact he
          · have := hahead (by omega) (m + t) (by omega); rw [h2 _ (Nat.le_refl _)] at this; cases this
      subst hi1
      obtain ⟨k', hk'⟩ : ∃ k', k - t = k' + 1 := ⟨k - t - 1, by omega⟩
      rw [hk'] at hp
      refine fin (mono (fun a' w' h' => ?_) hp)
      refine ⟨hsz', hc', Or.inr ⟨t + 1, by omega, fun j hj => ?_, fun j hj => other j (by omega) (h2 j (by omega)), ?_⟩⟩
      · by_cases hji : j = m + t
        · rw [hji]; exact here
        · exact same j (h1 j (by omega))
      · rw [show k - (t + 1) = k' by omega]; exact h'
  · have := List.countP_le_length (p := fun b : Bool => !b) (l := (Array.replicate ops.size false).toList)
    unfold openN
    simpa using this
  · rw [Array.getD_eq_getD_getElem?, Array.getElem?_replicate] at hi; split at hi <;> cases hi
  · rw [Array.getD_eq_getD_getElem?, Array.getElem?_replicate]; split <;> rfl
  · rw [Array.getD_eq_getD_getElem?, Array.getElem?_replicate] at hj; split at hj <;> cases hj
end
end Go.Proofs.Ytipmgfbncfkmiaa

namespace Go.Proofs.Ytipmgfbncfkmiaa
open Go.RowKit

set_option maxHeartbeats 1000000
set_option maxRecDepth 100000

/-- A row of rows of texts, all of the call's own, no two rows in one block. -/
def OwnSS (w : World) (base : Nat) (sv : Value) (a : List (List (List UInt8))) : Prop :=
  ∃ cs : List Value, w.ownsRow base 25 1 sv a.length cs ∧ (∀ j, j < a.length → ∃ rv, cs[j]? = some rv ∧ w.ownsRow base 9 1 rv (a.getD j []).length ((a.getD j []).map str)) ∧
    ∀ (i j : Nat) (ri rj : Value), i < j → cs[i]? = some ri → cs[j]? = some rj → ri.ownBlock = none ∨ ri.ownBlock ≠ rj.ownBlock

theorem OwnSS.nil (w : World) (base : Nat) : OwnSS w base (.slice none 0 0) [] := ⟨[], World.ownsRow_nil w base _ _, fun j h => absurd h (Nat.not_lt_zero j), fun i j ri rj _ h => by simp at h⟩

theorem own_keptT {w W : World} {base n size : Nat} {E : TypeId} {sv : Value} {vs : List Value} (h : w.ownsRow base E size sv n vs) (hk : ∀ (b : Nat) (cs : Array Value) (fr : Nat × Nat), w.heap[b]? = some (.cells cs E fr) → W.heap[b]? = some (.cells cs E fr)) : W.ownsRow base E size sv n vs := by
  refine ⟨h.1, ?_⟩
  rcases h.2 with h | ⟨g, cap, cur, h1, h2, h3, h4⟩
  · exact Or.inl h
  · exact Or.inr ⟨g, cap, cur, h1, h2, hk _ _ _ h3, h4⟩

theorem OwnSS.keptT {w W : World} {base : Nat} {sv : Value} {a : List (List (List UInt8))} (h : OwnSS w base sv a)
    (hk : ∀ (b : Nat) (cs : Array Value) (T : TypeId) (fr : Nat × Nat), T ≠ 58 → w.heap[b]? = some (.cells cs T fr) → W.heap[b]? = some (.cells cs T fr)) : OwnSS W base sv a := by
  obtain ⟨cs, ho, hc, hd⟩ := h
  refine ⟨cs, own_keptT ho fun b cs fr hb => hk b cs _ fr (by decide) hb, fun j hj => ?_, hd⟩
  obtain ⟨rv, h1, h2⟩ := hc j hj
  exact ⟨rv, h1, own_keptT h2 fun b cs fr hb => hk b cs _ fr (by decide) hb⟩

theorem OwnSS.later {w W : World} {base : Nat} {sv : Value} {a : List (List (List UInt8))} (h : OwnSS w base sv a) (hA : After w W) : OwnSS W base sv a :=
  h.keptT fun _ _ _ _ _ hb => hA.heap hb

theorem OwnSS.form {w : World} {base : Nat} {sv : Value} {a : List (List (List UInt8))} (h : OwnSS w base sv a) : ∃ ao cap, sv = .slice ao a.length cap := by
  obtain ⟨cs, ho, _⟩ := h
  rcases ho.2 with ⟨rfl, h0⟩ | ⟨g, cap, cur, rfl, _⟩
  · exact ⟨_, _, by rw [h0]⟩
  · exact ⟨_, _, rfl⟩

theorem own_strsU {w : World} {base B : Nat} {sv : Value} {ns : List (List UInt8)} (h : w.ownsRow base 9 1 sv ns.length (ns.map str)) (hB : B ≤ base) : StrsU B w sv ns := by
  rcases h.2 with ⟨rfl, h0⟩ | ⟨g, cap, cur, rfl, hb, hh, hle, hcap, _⟩
  · exact ⟨none, 0, by rw [h0], fun j hj => absurd hj (by omega)⟩
  · refine ⟨some ⟨g, 0, none⟩, cap, rfl, fun j hj => ⟨g, 0, rfl, ⟨by omega, hle, by unfold maxLen at hcap; omega⟩, ?_⟩⟩
    rw [Nat.zero_add]
    exact (h.cellAt j (by omega)).trans (by simp [List.getD, hj])

theorem OwnSS.ssu {w : World} {base B : Nat} {sv : Value} {a : List (List (List UInt8))} (h : OwnSS w base sv a) (hB : B ≤ base) : SSU B w sv a := by
  obtain ⟨cs, ho, hc, _⟩ := h
  refine ⟨fun j => cs.getD j undef, ?_, fun j hj => ?_⟩
  · rcases ho.2 with ⟨rfl, h0⟩ | ⟨g, cap, cur, rfl, hb, hh, hle, hcap, _⟩
    · exact ⟨none, 0, by rw [h0], fun j hj => absurd hj (by omega)⟩
    · refine ⟨some ⟨g, 0, none⟩, cap, rfl, fun j hj => ⟨g, 0, rfl, ⟨by omega, hle, by unfold maxLen at hcap; omega⟩, ?_⟩⟩
      rw [Nat.zero_add]
      obtain ⟨rv, h1, _⟩ := hc j hj
      exact (ho.cellAt j (by omega)).trans (by rw [h1]; show some rv = some (cs.getD j undef); rw [List.getD, h1]; rfl)
  · obtain ⟨rv, h1, h2⟩ := hc j hj
    show StrsU B w (cs.getD j undef) _
    rw [List.getD, h1]
    exact own_strsU h2 hB

theorem OwnSS.push {w w' : World} {base g cap : Nat} {sv rv : Value} {a : List (List (List UInt8))} {xs : List (List UInt8)} {cs : List Value} (ho : w.ownsRow base 25 1 sv a.length cs)
    (hc : ∀ j, j < a.length → ∃ rv, cs[j]? = some rv ∧ w.ownsRow base 9 1 rv (a.getD j []).length ((a.getD j []).map str)) (hd : ∀ (i j : Nat) (ri rj : Value), i < j → cs[i]? = some ri → cs[j]? = some rj → ri.ownBlock = none ∨ ri.ownBlock ≠ rj.ownBlock)
    (ho' : w'.ownsRow base 25 1 (.slice (some ⟨g, 0, none⟩) (a.length + 1) cap) (a.length + 1) (cs ++ [rv])) (hg : w.grownBy w' sv.ownBlock)
    (hx : w.ownsRow base 9 1 rv xs.length (xs.map str)) (hnew : ∀ (j : Nat) (u : Value), cs[j]? = some u → u.ownBlock = none ∨ u.ownBlock ≠ rv.ownBlock) : OwnSS w' base (.slice (some ⟨g, 0, none⟩) (a.length + 1) cap) (a ++ [xs]) := by
  have hcl : cs.length = a.length := by have := ho.1; omega
  have hk : ∀ {v : Value} {ys : List (List UInt8)}, w.ownsRow base 9 1 v ys.length (ys.map str) → w'.ownsRow base 9 1 v ys.length (ys.map str) := fun h => own_keptT h fun b cs fr hb => row_keeps ho hg b cs _ fr (by decide) hb
  refine ⟨_, by rw [List.length_append]; exact ho', fun j hj => ?_, fun i j ri rj hij hi hj => ?_⟩
  · by_cases hjl : j < a.length
    · obtain ⟨rv', h1, h2⟩ := hc j hjl
      have hgd : (a ++ [xs]).getD j [] = a.getD j [] := by simp [List.getD, List.getElem?_append_left hjl]
      rw [hgd]
      exact ⟨rv', by rw [List.getElem?_append_left (by omega)]; exact h1, hk h2⟩
    · have hj' : j = a.length := by rw [List.length_append, List.length_singleton] at hj; omega
      subst hj'
      have hgd : (a ++ [xs]).getD a.length [] = xs := by simp [List.getD]
      rw [hgd]
      exact ⟨rv, by rw [List.getElem?_append_right (by omega), hcl, Nat.sub_self]; rfl, hk hx⟩
  · by_cases hjl : j < cs.length
    · rw [List.getElem?_append_left (by omega)] at hi
      rw [List.getElem?_append_left hjl] at hj
      exact hd i j ri rj hij hi hj
    · have hj2 : j < (cs ++ [rv]).length := (List.getElem?_eq_some_iff.1 hj).1
      have hj' : j = cs.length := by rw [List.length_append, List.length_singleton] at hj2; omega
      subst hj'
      rw [List.getElem?_append_left hij] at hi
      rw [List.getElem?_append_right (Nat.le_refl _), Nat.sub_self] at hj
      have e : rv = rj := by simpa using hj
      rw [← e]
      exact hnew i ri hi

section
variable {ops : Array Oper} {Q : Exit → Act → World → Prop} {A : Act} {i : Nat} {w : World} {K : Act → World → Prop}

theorem do_rp {v : Value} {w' : World} (p : Value → World → Prop) (hs : (ops[i]?).isSome = true) (hw : Region.wanted (opAt ops i) (yielded ops A.tmps) = true) (hr : (execOp A.eval (opAt ops i)).run Try.prog w = .ok (.value v) w') (ha : After w w') (hp : p v w')
    (hK : ∀ v w', After w w' → p v w' → K (A.put (dstOf ops i) v) w') : OpDo Try.prog ops Q A i w K :=
  op_val hs hw hr (hK _ _ ha hp)

theorem do_cp {f : FuncId} {args : Array Value} (p : Value → World → Prop) (hs : (ops[i]?).isSome = true) (hw : Region.wanted (opAt ops i) (yielded ops A.tmps) = true) (hr : (execOp A.eval (opAt ops i)).run Try.prog w = .ok (.enter f args) w)
    (hc : Calls Try.prog f args w fun e w' => ∃ v, e = .returned v ∧ After w w' ∧ p v w') (hK : ∀ v w', After w w' → p v w' → K (A.put (dstOf ops i) v) w') : OpDo Try.prog ops Q A i w K := by
  refine op_call hs hw hr (hc.mono ?_)
  rintro e w' ⟨v, rfl, ha, h⟩
  exact ⟨_, rfl, hK _ _ ha h⟩

theorem run_ld_ss {x : Operand} {u : Value} {p : Addr} {v : Value} (hop : (opAt ops i).op = .load 52 x) (hx : A.eval x = u) (hu : u = .pointer (some p)) (hc : w.cell? p = some v) :
    (execOp A.eval (opAt ops i)).run Try.prog w = .ok (.value v) w := by
  subst hu
  unfold execOp
  simp only [hop, hx]
  simp [go_sem, hc]

/-- A new row of one text. -/
theorem run_row1 {x : Operand} {u : Value} {s : List UInt8} (hop : (opAt ops i).op = .buildSlice 25 1 #[(0, x)]) (hx : A.eval x = u) (hu : u = str s) :
    (execOp A.eval (opAt ops i)).run Try.prog w = .ok (.value (.slice (some ⟨w.heap.size, 0, none⟩) 1 1)) (w.alloc (.cells #[str s] 9)) := by
  subst hu
  unfold execOp
  generalize A.eval = E at *
  simp only [hop]
  simp [go_sem, hx]

theorem run_rows1 {x : Operand} {u : Value} {ao : Option Addr} {n c : Nat} (hop : (opAt ops i).op = .buildSlice 52 1 #[(0, x)]) (hx : A.eval x = u) (hu : u = .slice ao n c) :
    (execOp A.eval (opAt ops i)).run Try.prog w = .ok (.value (.slice (some ⟨w.heap.size, 0, none⟩) 1 1)) (w.alloc (.cells #[.slice ao n c] 25)) := by
  subst hu
  unfold execOp
  generalize A.eval = E at *
  simp only [hop]
  simp [go_sem, hx]

/-- The end of a region 'x.f = append(x.f, row)': the append, the field's address, the store. -/
theorem tail_push {ops : Array Oper} {Q : Exit → Act → World → Prop} {A : Act} {w : World} {m q base b2 : Nat} {sv : Value} {s x t y z : Operand} {d7 d8 : Tmp} {a : List (List (List UInt8))} {xs : List (List UInt8)} {rv : Value}
    (hs0 : (ops[m]?).isSome = true) (hg0 : (opAt ops m).guard = none) (ho0 : (opAt ops m).op = .call { callee := .builtin .append, args := #[s, x], argTypes := #[52, 52] }) (hd0 : dstOf ops m = some d7)
    (hs1 : (ops[m + 1]?).isSome = true) (hg1 : (opAt ops (m + 1)).guard = none) (ho1 : (opAt ops (m + 1)).op = .fieldAddr 58 t 0) (hd1 : dstOf ops (m + 1) = some d8)
    (hs2 : (ops[m + 2]?).isSome = true) (hg2 : (opAt ops (m + 2)).guard = none) (ho2 : (opAt ops (m + 2)).op = .store 52 y z) (hd2 : dstOf ops (m + 2) = none)
    (e0 : A.eval s = sv) (e1 : A.eval x = .slice (some ⟨b2, 0, none⟩) 1 1) (e2 : ∀ v, (A.put (some d7) v).eval t = .pointer (some ⟨q, 0, none⟩))
    (e3 : ∀ v, ((A.put (some d7) v).put (some d8) (.pointer (some ⟨q, 0, none⟩))).eval y = .pointer (some ⟨q, 0, none⟩)) (e4 : ∀ v, ((A.put (some d7) v).put (some d8) (.pointer (some ⟨q, 0, none⟩))).eval z = v)
    (hown : OwnSS w base sv a) (hbase : base ≤ w.heap.size) (hlen : a.length ≤ 1000000) (hq : base ≤ q) (hbox : w.heap[q]? = some (.cells #[sv] 58 (0, 0)))
    (hrow : w.ownsRow base 9 1 rv xs.length (xs.map str)) (hb2 : w.heap[b2]? = some (.cells #[rv] 25 (0, 0))) (hone : rv.oneCell' = true)
    (hnew : ∀ (cs : List Value), w.ownsRow base 25 1 sv a.length cs → (∀ j, j < a.length → ∃ rv, cs[j]? = some rv ∧ w.ownsRow base 9 1 rv (a.getD j []).length ((a.getD j []).map str)) → ∀ (j : Nat) (u : Value), cs[j]? = some u → u.ownBlock = none ∨ u.ownBlock ≠ rv.ownBlock)
    (hQ : ∀ g cap w', OwnSS w' base (.slice (some ⟨g, 0, none⟩) (a.length + 1) cap) (a ++ [xs]) → w'.heap[q]? = some (.cells #[.slice (some ⟨g, 0, none⟩) (a.length + 1) cap] 58 (0, 0)) → Below base w w' →
      Q .normal ((A.put (some d7) (.slice (some ⟨g, 0, none⟩) (a.length + 1) cap)).put (some d8) (.pointer (some ⟨q, 0, none⟩))) w') : tailP Try.prog ops Q 3 m A w := by
  have hi : ∃ i, (Try.prog).info? 25 = some i ∧ i.zero = some (.slice none 0 0) ∧ i.size = 1 ∧ i.bytes = 24 := ⟨_, rfl, rfl, rfl, rfl⟩
  obtain ⟨i0, hi0, hz0, hz1, hz2⟩ := hi
  have hun : Try.prog.underlying 52 = some (.slice 25) := by kernel_rfl
  obtain ⟨cs, ho, hc, hd⟩ := id hown
  obtain ⟨g, cap, w5, hr, hown5, hg5, hwhere, hlt⟩ := run_append_lies (P := Try.prog) w 52 (opAt ops m).type base 25 i0 (.slice none 0 0) 1 24 hun hi0 hz0 hz1 hz2 rfl (by decide) sv a.length cs ho ⟨b2, 0, none⟩ 1 1 [rv] rfl
    (fun j u hu => by
      match j, hu with
      | 0, hu =>
        have e : rv = u := by simpa using hu
        subst e
        have := cell_of_heap (i := 0) hb2
        simpa [Addr.add] using this) (by simpa using hone) (by decide) (by unfold maxLen; omega) (by omega) hbase _ rfl
  have hpush := OwnSS.push ho hc hd hown5 hg5 hrow (hnew cs ho hc)
  have hbq : w5.heap[q]? = some (.cells #[sv] 58 (0, 0)) := row_keeps ho hg5 _ _ _ _ (by decide) hbox
  have hb5 : Below base w w5 := (Below.refl base w).grown hg5 hbase (fun k hk => (ho.lt k hk).1)
  show OpDo _ _ _ _ _ _ _
  refine op_val (v := .slice (some ⟨g, 0, none⟩) (a.length + 1) cap) (w' := w5) hs0 (wanted_of hg0) ?_ ?_
  · unfold execOp
    simp only [ho0, resolve, invoke, builtin, Sem.run_bind, Sem.run_pure, Result.andThen_ok, List.map_toArray, List.map_cons, List.map_nil, e0, e1, hr]
  · rw [hd0]
    show OpDo _ _ _ _ _ _ _
    refine op_val (v := .pointer (some ⟨q, 0, none⟩)) (w' := w5) hs1 (wanted_of hg1) ?_ ?_
    · have e2' := e2 (.slice (some ⟨g, 0, none⟩) (a.length + 1) cap)
      unfold execOp
      simp only [ho1, e2']
      first | rfl | simp [go_sem]
    · rw [hd1]
      show OpDo _ _ _ _ _ _ _
      have e3' := e3 (.slice (some ⟨g, 0, none⟩) (a.length + 1) cap)
      have e4' := e4 (.slice (some ⟨g, 0, none⟩) (a.length + 1) cap)
      have r0 : w5.cell? ⟨q, 0, none⟩ = some sv := cell_of_heap hbq
      have f0 : w5.frozen? ⟨q, 0, none⟩ = false := by simp [World.frozen?, hbq]
      have hst : (Instr.storeAt 52 (.pointer (some ⟨q, 0, none⟩)) (.slice (some ⟨g, 0, none⟩) (a.length + 1) cap)).run Try.prog w5 = .ok () (w5.setCell ⟨q, 0, none⟩ (.slice (some ⟨g, 0, none⟩) (a.length + 1) cap)) := by
        simp [go_sem, r0, f0]
      constructor
      rw [opAt_of hs2]
      simp only [wanted_of hg2, if_true]
      unfold Oper.wp execOp
      simp only [ho2, e3', e4', Sem.run_bind, hst, Result.andThen_ok, Sem.run_pure, Oper.upon_skip]
      rw [opAt_dst hs2, hd2]
      show Q .normal _ _
      refine hQ g cap _ (hpush.keptT fun b cs T fr hT hb => ?_) ?_ (hb5.setCell hq _)
      · rw [Below.heap_setCell _ _ _ _ (fun e => by have : b = q := e; subst this; rw [hbq] at hb; injection hb with hb; injection hb with _ hb _; exact hT hb.symm)]
        exact hb
      · simp [World.setCell, Array.getElem?_modify, hbq]
end
end Go.Proofs.Ytipmgfbncfkmiaa

namespace Go.Proofs.Ytipmgfbncfkmiaa
open Go.RowKit

set_option maxHeartbeats 1000000
set_option maxRecDepth 100000

/-- A fact of a value that stays true while the world grows. -/
structure Sp where
  p : Value → World → Prop
  st : ∀ v w w', p v w → After w w' → p v w'
def Sp.lit (v : Value) : Sp := ⟨fun u _ => u = v, fun _ _ _ h _ => h⟩
def Sp.free : Sp := ⟨fun _ _ => True, fun _ _ _ h _ => h⟩
def Sp.tv (B : Nat) (t : Tm) : Sp := ⟨fun v w => TV w B t v, fun _ _ _ h ha => h.below ha⟩
def Sp.tree (t : Tm) : Sp := ⟨fun v w => ST w t v, fun _ _ _ h ha => h.later ha⟩
theorem own_later {w W : World} {base n size : Nat} {E : TypeId} {sv : Value} {vs : List Value} (h : w.ownsRow base E size sv n vs) (ha : After w W) : W.ownsRow base E size sv n vs := own_keptT h fun _ _ _ hb => ha.heap hb
/-- A new row of texts. -/
def Sp.row (C : Nat) (xs : List (List UInt8)) : Sp := ⟨fun v w => w.ownsRow C 9 1 v xs.length (xs.map str), fun _ _ _ h ha => own_later h ha⟩
/-- A new row of one row of texts. -/
def Sp.rows (C : Nat) (xs : List (List UInt8)) : Sp := ⟨fun v w => ∃ b2 rv, v = .slice (some ⟨b2, 0, none⟩) 1 1 ∧ w.heap[b2]? = some (.cells #[rv] 25 (0, 0)) ∧ rv.oneCell' = true ∧ w.ownsRow C 9 1 rv xs.length (xs.map str),
  fun _ _ _ ⟨b2, rv, e, hh, h1, h⟩ ha => ⟨b2, rv, e, ha.heap hh, h1, own_later h ha⟩⟩
/-- A row of one text, in its own block. -/
def rl (ps : List Sp) (i : Nat) (v : Value) (w : World) : Prop := (ps.getD i Sp.free).p v w
theorem rl_later {ps : List Sp} {w0 : World} : ∀ i v w w', After w0 w → rl ps i v w → After w w' → rl ps i v w' := fun _ _ _ _ _ h ha => Sp.st _ _ _ _ h ha

theorem own_unique {w : World} {base base' n size : Nat} {E : TypeId} {sv : Value} {xs ys : List Value} (h : w.ownsRow base E size sv n xs) (g : w.ownsRow base' E size sv n ys) : xs = ys := by
  rcases h.2 with ⟨rfl, h0⟩ | ⟨b, cap, cur, rfl, _, hh, _, _, _, ht⟩
  · have h1 := h.1
    have g1 := g.1
    rw [h0, Nat.zero_mul] at h1 g1
    rw [List.length_eq_zero_iff.1 h1, List.length_eq_zero_iff.1 g1]
  · rcases g.2 with ⟨e, _⟩ | ⟨b', cap', cur', e, _, hh', _, _, _, ht'⟩
    · cases e
    · injection e with e
      injection e with e
      injection e with e
      subst e
      rw [hh] at hh'
      injection hh' with hh'
      injection hh' with hh'
      subst hh'
      rw [← ht, ← ht']

theorem own_mono {w : World} {base base' n size : Nat} {E : TypeId} {sv : Value} {xs : List Value} (h : w.ownsRow base E size sv n xs) (hB : base' ≤ base) : w.ownsRow base' E size sv n xs := by
  refine ⟨h.1, ?_⟩
  rcases h.2 with h | ⟨g, cap, cur, h1, h2, h3⟩
  · exact Or.inl h
  · exact Or.inr ⟨g, cap, cur, h1, Nat.le_trans hB h2, h3⟩

theorem own_one (w : World) (C : Nat) (hC : C ≤ w.heap.size) (s : List UInt8) : (w.alloc (.cells #[str s] 9)).ownsRow C 9 1 (.slice (some ⟨w.heap.size, 0, none⟩) 1 1) ([s] : List (List UInt8)).length ([s].map str) :=
  World.ownsRow_lit (base := C) (e := 9) (size := 1) w #[str s] 1 hC (by decide) (by simp)

theorem own_oneCell {w : World} {base n size : Nat} {E : TypeId} {sv : Value} {xs : List Value} (h : w.ownsRow base E size sv n xs) : sv.oneCell' = true := by
  rcases h.2 with ⟨rfl, _⟩ | ⟨g, cap, cur, rfl, _⟩ <;> rfl

theorem tail_push2 {ops : Array Oper} {Q : Exit → Act → World → Prop} {A : Act} {wr w : World} {m q base b2 : Nat} {sv : Value} {s x t y z : Operand} {d7 d8 : Tmp} {a : List (List (List UInt8))} {xs : List (List UInt8)} {rv : Value}
    (hs0 : (ops[m]?).isSome = true) (hg0 : (opAt ops m).guard = none) (ho0 : (opAt ops m).op = .call { callee := .builtin .append, args := #[s, x], argTypes := #[52, 52] }) (hd0 : dstOf ops m = some d7)
    (hs1 : (ops[m + 1]?).isSome = true) (hg1 : (opAt ops (m + 1)).guard = none) (ho1 : (opAt ops (m + 1)).op = .fieldAddr 58 t 0) (hd1 : dstOf ops (m + 1) = some d8)
    (hs2 : (ops[m + 2]?).isSome = true) (hg2 : (opAt ops (m + 2)).guard = none) (ho2 : (opAt ops (m + 2)).op = .store 52 y z) (hd2 : dstOf ops (m + 2) = none)
    (e0 : A.eval s = sv) (e1 : A.eval x = .slice (some ⟨b2, 0, none⟩) 1 1) (e2 : ∀ v, (A.put (some d7) v).eval t = .pointer (some ⟨q, 0, none⟩))
    (e3 : ∀ v, ((A.put (some d7) v).put (some d8) (.pointer (some ⟨q, 0, none⟩))).eval y = .pointer (some ⟨q, 0, none⟩)) (e4 : ∀ v, ((A.put (some d7) v).put (some d8) (.pointer (some ⟨q, 0, none⟩))).eval z = v)
    (hown : OwnSS wr base sv a) (hA : After wr w) (hbase : base ≤ wr.heap.size) (hlen : a.length ≤ 1000000) (hq : base ≤ q) (hbox : wr.heap[q]? = some (.cells #[sv] 58 (0, 0)))
    (hrow : w.ownsRow wr.heap.size 9 1 rv xs.length (xs.map str)) (hb2 : w.heap[b2]? = some (.cells #[rv] 25 (0, 0)))
    (hQ : ∀ g cap w', OwnSS w' base (.slice (some ⟨g, 0, none⟩) (a.length + 1) cap) (a ++ [xs]) → w'.heap[q]? = some (.cells #[.slice (some ⟨g, 0, none⟩) (a.length + 1) cap] 58 (0, 0)) → Below base wr w' →
      Q .normal ((A.put (some d7) (.slice (some ⟨g, 0, none⟩) (a.length + 1) cap)).put (some d8) (.pointer (some ⟨q, 0, none⟩))) w') : tailP Try.prog ops Q 3 m A w := by
  refine tail_push (base := base) (a := a) (xs := xs) hs0 hg0 ho0 hd0 hs1 hg1 ho1 hd1 hs2 hg2 ho2 hd2 e0 e1 e2 e3 e4 (hown.later hA) (Nat.le_trans hbase hA.size) hlen hq (hA.heap hbox) (own_mono hrow hbase) hb2 (own_oneCell hrow) ?_ (fun g cap w' h1 h2 h3 => hQ g cap w' h1 h2 ?_)
  · intro cs hcs hc j u hu
    obtain ⟨cs', ho', hc', _⟩ := hown
    obtain rfl := own_unique hcs (own_later ho' hA)
    have hj : j < a.length := by
      have := (List.getElem?_eq_some_iff.1 hu).1
      have := ho'.1
      omega
    obtain ⟨rv', h1, h2⟩ := hc' j hj
    rw [hu] at h1
    injection h1 with h1
    subst h1
    cases hu' : u.ownBlock with
    | none => exact Or.inl rfl
    | some k =>
      right
      intro e
      have hk := (h2.lt k hu').2
      have := (hrow.lt k e.symm).1
      omega
  · exact (hA.mono hbase).trans h3
end Go.Proofs.Ytipmgfbncfkmiaa

namespace Go.Proofs.Ytipmgfbncfkmiaa
open Go.RowKit

set_option maxHeartbeats 1000000
set_option maxRecDepth 100000

/-- The digits of a number before what is there. -/
def dig10 : Nat → Nat → List UInt8 → List UInt8
  | 0, _, acc => acc
  | f + 1, k, acc => if k = 0 then acc else dig10 f (k / 10) (UInt8.ofNat (48 + k % 10) :: acc)

def markT (k : Nat) : List UInt8 := 109 :: dig10 k k []

theorem dig10_step (f k : Nat) (acc : List UInt8) (hk : 0 < k) (hf : k ≤ f) : dig10 f k acc = dig10 (f - 1) (k / 10) (UInt8.ofNat (48 + k % 10) :: acc) := by
  obtain ⟨g, rfl⟩ : ∃ g, f = g + 1 := ⟨f - 1, by omega⟩
  simp only [dig10, if_neg (show ¬ k = 0 by omega), Nat.add_sub_cancel]

/-! ### lists that are alike -/

theorem l_eq (w : World) (a b : Value) (ns : List (List UInt8)) (ha : Strs w a ns) (hb : Strs w b ns) (hn : ns.length ≤ 1000000000) :
    Calls Try.prog 142 #[a, b] w fun e w' => e = .returned (.bool true) ∧ After w w' := by
  by_cases h0 : ns = []
  · subst h0
    have form : ∀ v, Strs w v [] → ∃ ao cap, v = .slice ao 0 cap := fun v h => by
      rcases h with ⟨rfl, _⟩ | ⟨b, off, cap, rfl, _⟩
      · exact ⟨_, _, rfl⟩
      · exact ⟨_, _, rfl⟩
    obtain ⟨ao, ac, rfl⟩ := form a ha
    obtain ⟨bo, bc, rfl⟩ := form b hb
    clear ha hb form
    go_enter Try.func142, Try.ntmps142
    go_wp2_with fail
    go_loop [5] (fun i => i = .int .i64 0) (fun _ => 0)
    case atStart => rfl
    case round =>
      obtain rfl := hrel
      go_wp2_with fail
      go_ret
      exact ⟨rfl, After.refl _⟩
  · rcases ha with ⟨_, h⟩ | ⟨x, xo, xc, rfl, hca⟩
    · exact absurd h h0
    rcases hb with ⟨_, h⟩ | ⟨y, yo, yc, rfl, hcb⟩
    · exact absurd h h0
    have HA := Lib.hid hca
    have HB := Lib.hid hcb
    clear hca hcb
    go_enter Try.func142, Try.ntmps142
    go_wp2_with fail
    go_loopw [5] (fun i wr => ∃ k : Nat, i = .int .i64 k ∧ k ≤ ns.length ∧ After w wr) (fun i _ => ns.length - (intOf i).toNat)
    case atStart => exact ⟨0, rfl, Nat.zero_le _, After.refl _⟩
    case round =>
      obtain ⟨k, rfl, hk, hA⟩ := hrel
      by_cases hlt : k < ns.length
      · have h1 := hA.cell (HA.out k hlt)
        have h2 := hA.cell (HB.out k hlt)
        generalize ns[k] = z at h1 h2
        have hlt' : (k : Int) < (ns.length : Int) := by omega
        go_wp2_with fail
        go_quiet (fail)
        go_wp2_with fail
        go_roundw
        case rel => exact ⟨k + 1, by go_num, by omega, ⟨hA.os, hA.tape, hA.output, hA.size, hA.block⟩⟩
        case measure => simp [intOf]; omega
      · go_wp2_with fail
        go_ret
        exact ⟨rfl, hA⟩

/-! ### marks -/

def marks (k0 n : Nat) : List (List UInt8) := (List.range n).map fun i => markT (k0 + i)

theorem marks_len (k0 n : Nat) : (marks k0 n).length = n := by simp [marks]
theorem marks_at (k0 n j : Nat) (h : j < (marks k0 n).length) : (marks k0 n)[j] = markT (k0 + j) := by simp [marks]
theorem marks_succ (k0 n : Nat) : marks k0 (n + 1) = marks k0 n ++ [markT (k0 + n)] := by simp [marks, List.range_succ]

theorem marks_set (k0 j : Nat) (ns : List (List UInt8)) (hj : j < ns.length) : ((marks k0 j ++ ns.drop j).map str).set j (str (markT (k0 + j))) = (marks k0 (j + 1) ++ ns.drop (j + 1)).map str := by
  rw [List.drop_eq_getElem_cons hj, marks_succ, List.map_append, List.set_append_right _ _ (by simp [marks_len]), List.map_cons, List.length_map, marks_len, Nat.sub_self, List.set_cons_zero]
  simp

theorem grew_after {a b : World} (h : After a b) : a.grownBy b none := ⟨h.os, h.tape, h.output, h.size, fun k hk _ => h.block k hk⟩

end Go.Proofs.Ytipmgfbncfkmiaa

namespace Go.Proofs.Ytipmgfbncfkmiaa
open Go.RowKit

set_option maxHeartbeats 1000000
set_option maxRecDepth 100000

/-- How many texts stand ahead of row j. -/
def offA (a : List (List (List UInt8))) (j : Nat) : Nat := ((List.range j).map fun i => (a.getD i []).length).sum
theorem offA_succ (a : List (List (List UInt8))) (j : Nat) : offA a (j + 1) = offA a j + (a.getD j []).length := by simp [offA, List.range_succ]
theorem offA_mono (a : List (List (List UInt8))) {i j : Nat} (h : i ≤ j) : offA a i ≤ offA a j := by
  induction h with
  | refl => exact Nat.le_refl _
  | step _ ih => rw [offA_succ]; omega

/-- The first i rows marked. -/
def mixA (k0 : Nat) (a : List (List (List UInt8))) (i : Nat) : List (List (List UInt8)) := (List.range a.length).map fun j => if j < i then marks (k0 + offA a j) (a.getD j []).length else a.getD j []
theorem mixA_len (k0 : Nat) (a : List (List (List UInt8))) (i : Nat) : (mixA k0 a i).length = a.length := by simp [mixA]
theorem mixA_at (k0 : Nat) (a : List (List (List UInt8))) (i j : Nat) (h : j < a.length) : (mixA k0 a i).getD j [] = if j < i then marks (k0 + offA a j) (a.getD j []).length else a.getD j [] := by simp [mixA, List.getD, h]
theorem mixA_zero (k0 : Nat) (a : List (List (List UInt8))) : mixA k0 a 0 = a := by
  apply List.ext_getElem?
  intro i
  by_cases h : i < a.length
  · simp [mixA, h, List.getD]
  · simp [mixA, h]

/-- One row is written anew. -/
theorem OwnSS.setRow {w w' : World} {base : Nat} {sv rv : Value} {a a' : List (List (List UInt8))} {xs : List (List UInt8)} {j : Nat} {cs : List Value} (ho : w.ownsRow base 25 1 sv a.length cs)
    (hc : ∀ j, j < a.length → ∃ rv, cs[j]? = some rv ∧ w.ownsRow base 9 1 rv (a.getD j []).length ((a.getD j []).map str)) (hd : ∀ (i j : Nat) (ri rj : Value), i < j → cs[i]? = some ri → cs[j]? = some rj → ri.ownBlock = none ∨ ri.ownBlock ≠ rj.ownBlock)
    (hj : j < a.length) (hrv : cs[j]? = some rv) (hx : w'.ownsRow base 9 1 rv xs.length (xs.map str)) (hg : w.grownBy w' rv.ownBlock) (hl : a'.length = a.length) (hat : a'.getD j [] = xs) (hne : ∀ i, i ≠ j → i < a.length → a'.getD i [] = a.getD i []) : OwnSS w' base sv a' := by
  obtain ⟨rv0, h1, hrow⟩ := hc j hj
  rw [hrv] at h1
  injection h1 with h1
  subst h1
  refine ⟨cs, by rw [hl]; exact own_keptT ho fun b cs fr hb => row_keeps hrow hg b cs _ fr (by decide) hb, fun i hi => ?_, hd⟩
  rw [hl] at hi
  by_cases hij : i = j
  · subst hij
    rw [hat]
    exact ⟨rv, hrv, hx⟩
  · rw [hne i hij hi]
    obtain ⟨ri, h1, h2⟩ := hc i hi
    refine ⟨ri, h1, h2.kept hg ?_⟩
    rcases Nat.lt_or_ge i j with h | h
    · exact hd i j ri rv h h1 hrv
    · rcases hd j i rv ri (by omega) hrv h1 with h | h
      · cases hri : ri.ownBlock with
        | none => exact Or.inl rfl
        | some k => right; rw [h]; simp
      · exact Or.inr (fun e => h e.symm)

/-- All but texts stays. -/
def KeptS (w w' : World) : Prop := ∀ (b : Nat) (cs : Array Value) (T : TypeId) (fr : Nat × Nat), T ≠ 9 → w.heap[b]? = some (.cells cs T fr) → w'.heap[b]? = some (.cells cs T fr)
theorem KeptS.refl (w : World) : KeptS w w := fun _ _ _ _ _ h => h
theorem KeptS.trans {a b c : World} (h : KeptS a b) (g : KeptS b c) : KeptS a c := fun q cs T fr hT hq => g q cs T fr hT (h q cs T fr hT hq)

/-- What lies from hi on stays. -/
def FrameHi (hi : Nat) (w w' : World) : Prop := ∀ b, hi ≤ b → b < w.heap.size → w'.heap[b]? = w.heap[b]?
/-- The rows lie below hi. -/
def RowsLo (hi : Nat) (w : World) (base : Nat) (sv : Value) (n : Nat) : Prop := ∀ cs : List Value, w.ownsRow base 25 1 sv n cs → ∀ (j : Nat) (rv : Value) (k : Nat), cs[j]? = some rv → rv.ownBlock = some k → k < hi
theorem OwnSS.lo {w : World} {base : Nat} {sv : Value} {a : List (List (List UInt8))} (h : OwnSS w base sv a) : RowsLo w.heap.size w base sv a.length := by
  intro cs' hcs' j rv k hj hk
  obtain ⟨cs, ho, hc, _⟩ := h
  obtain rfl := own_unique hcs' ho
  have hjl : j < a.length := by have := (List.getElem?_eq_some_iff.1 hj).1; have := ho.1; omega
  obtain ⟨rv', h1, h2⟩ := hc j hjl
  rw [hj] at h1
  injection h1 with h1
  subst h1
  exact (h2.lt k hk).2
theorem RowsLo.later {hi : Nat} {w W : World} {base : Nat} {sv : Value} {a : List (List (List UInt8))} (h : RowsLo hi w base sv a.length) (hown : OwnSS w base sv a) (hA : After w W) : RowsLo hi W base sv a.length := by
  intro cs' hcs'
  obtain ⟨cs, ho, _⟩ := hown
  obtain rfl := own_unique hcs' (own_later ho hA)
  exact h _ ho

end Go.Proofs.Ytipmgfbncfkmiaa

namespace Go.Proofs.Ytipmgfbncfkmiaa
open Go

section
variable {P : Program} {ops : Array Oper} {Q : Exit → Act → World → Prop}

/-- The operations' places differ, and what binds points back. -/
def regBack (ops : Array Oper) (n : Nat) : Bool :=
  (List.range n).all (fun i => (List.range ops.size).all fun j => (j == i) || (dstOf ops j != dstOf ops i) || (dstOf ops j == none)) && (List.range ops.size).all fun i => (List.range ops.size).all fun j => !depsOn ops i j || decide (j < i)

theorem regBack_dst {n : Nat} (h : regBack ops n = true) : ∀ i j, i < n → j < ops.size → j ≠ i → dstOf ops j ≠ dstOf ops i ∨ dstOf ops j = none := by
  intro i j hi hj hne
  rw [regBack, Bool.and_eq_true] at h
  have := List.all_eq_true.1 (List.all_eq_true.1 h.1 i (List.mem_range.2 hi)) j (List.mem_range.2 hj)
  simp only [Bool.or_eq_true, beq_iff_eq, bne_iff_ne, ne_eq] at this
  rcases this with (h | h) | h
  · exact absurd h hne
  · exact Or.inl h
  · exact Or.inr h

theorem regBack_back {n : Nat} (h : regBack ops n = true) {i j : Nat} (hi : i < ops.size) (hj : j < ops.size) (hd : depsOn ops i j = true) : j < i := by
  rw [regBack, Bool.and_eq_true] at h
  have := List.all_eq_true.1 (List.all_eq_true.1 h.2 i (List.mem_range.2 hi)) j (List.mem_range.2 hj)
  rw [hd] at this
  simpa using this

/-- All that is bound has been listed: so all has been. -/
theorem all_listed' {n : Nat} {listed : Array Bool} (hsz : listed.size = ops.size) (hb : regBack ops n = true) (hin : (List.range ops.size).all (fun i => match ops[i]? with | some o => o.after.all fun e => decide (e.on < ops.size) | none => true) = true)
    (hr : Region.ready .any ops listed = []) : ∀ i, i < ops.size → listed.getD i false = true := by
  have hall : ∀ n i, i < n → i < ops.size → listed.getD i false = true := by
    intro n
    induction n with
    | zero => intro i h; omega
    | succ n ih =>
      intro i hin' hi
      by_cases hl : listed.getD i true = false
      · exfalso
        have hmem : i ∈ Region.ready .any ops listed := by
          simp only [Region.ready, List.mem_filter, List.mem_range, Bool.and_eq_true, Bool.not_eq_true']
          refine ⟨hi, hl, ?_⟩
          have ho : ops[i]? = some ops[i] := Array.getElem?_eq_getElem hi
          rw [ho]
          simp only [Option.map_some, Option.getD_some, Array.all_eq_true_iff_forall_mem, Bool.or_eq_true, Bool.not_eq_true']
          intro e hm'
          cases hbd : Region.binds .any e with
          | false => left; rfl
          | true =>
            right
            have hd : depsOn ops i e.on = true := by
              unfold depsOn
              rw [ho]
              simp only
              rw [Array.any_eq_true]
              obtain ⟨k, hk, hke⟩ := Array.getElem_of_mem hm'
              exact ⟨k, hk, by rw [hke]; simp [hbd]⟩
            have hon : e.on < ops.size := by
              have := List.all_eq_true.1 hin i (List.mem_range.2 hi)
              rw [ho] at this
              simp only [Array.all_eq_true_iff_forall_mem, decide_eq_true_eq] at this
              exact this e hm'
            have := regBack_back hb hi hon hd
            exact ih e.on (by omega) hon
        rw [hr] at hmem
        cases hmem
      · have hlt : i < listed.size := by omega
        simp only [Array.getD, hlt, dif_pos] at hl ⊢
        simpa using hl
  exact fun i hi => hall (i + 1) i (by omega) hi

theorem wp_region_mid {id n p : Nat} {a0 : Act} {w0 : World} (hm : P.follows .mixedOrders = true) (hn : ops.size = n + 1) (hp : p < n) (hok : regBack ops n = true) (hl : regLast ops n = true)
    (hin : (List.range ops.size).all (fun i => match ops[i]? with | some o => o.after.all fun e => decide (e.on < ops.size) | none => true) = true)
    (Ext : World → World → Prop) (hrefl : ∀ w, Ext w w) (htrans : ∀ a b c, Ext a b → Ext b c → Ext a c)
    (R : Nat → Value → World → Prop) (hR : ∀ i v w w', Ext w0.drew w → R i v w → Ext w w' → R i v w') (fr : Nat → Bool) (hfr : ((List.range n).all fun i => (i == p) || fr i || depsOn ops p i) = true)
    (R2 : Nat → Value → Prop) (hR2 : ∀ i v w, i < n → i ≠ p → R i v w → R2 i v) (S : (Nat → Value) → World → Prop) (hS : ∀ vs w i v, fr i = true → S vs w → S (fun j => if j = i then v else vs j) w)
    (hstep : ∀ i, i < n → i ≠ p → ∀ (vs : Nat → Value) (w : World), Ext w0.drew w → (∀ j, depsOn ops i j = true → R j (vs j) w) →
      ∀ K : Act → World → Prop, (∀ v w', Ext w w' → R i v w' → K ((frame a0 ops vs).put (dstOf ops i) v) w') → OpDo P ops Q (frame a0 ops vs) i w K)
    (hmid : ∀ (vs : Nat → Value) (w : World), Ext w0.drew w → (∀ j, depsOn ops p j = true → R j (vs j) w) →
      ∀ K : Act → World → Prop, (∀ v w', S (fun j => if j = p then v else vs j) w' → K ((frame a0 ops vs).put (dstOf ops p) v) w') → OpDo P ops Q (frame a0 ops vs) p w K)
    (hfree : ∀ i, i < n → i ≠ p → fr i = true → ∀ (vs : Nat → Value) (w : World), (∀ j, j ≠ p → depsOn ops i j = true → R2 j (vs j)) → ∀ (K : Act → World → Prop), (∀ v, R2 i v → K ((frame a0 ops vs).put (dstOf ops i) v) w) → OpDo P ops Q (frame a0 ops vs) i w K)
    (hlast : ∀ (vs : Nat → Value) (w : World), S vs w → (∀ j, j < n → j ≠ p → R2 j (vs j)) → ∀ K : Act → World → Prop, (∀ a w, Q .normal a w → K a w) → OpDo P ops Q (frame a0 ops vs) n w K) :
    (Code.region id ops true).wp P Q a0 w0 := by
  have getSet : ∀ (listed : Array Bool) (i j : Nat), (listed.setIfInBounds i true).getD j false = if j = i ∧ i < listed.size then true else listed.getD j false := fun listed i j => by
    simp only [Array.getD_eq_getD_getElem?, Array.getElem?_setIfInBounds]
    by_cases h : i = j
    · subst h
      by_cases hi : i < listed.size
      · simp [hi]
      · simp [hi]
    · have h' : ¬ j = i := fun e => h e.symm
      simp [h, h']
  refine wp_region_any hm ?_
  refine wpAny_inv (fun listed a w => listed.size = ops.size ∧
    ((∃ vs, a = frame a0 ops vs ∧ Ext w0.drew w ∧ listed.getD p false = false ∧ listed.getD n false = false ∧ ∀ j, listed.getD j false = true → R j (vs j) w) ∨
     (∃ vs, a = frame a0 ops vs ∧ S vs w ∧ listed.getD p false = true ∧ listed.getD n false = false ∧ (∀ j, depsOn ops p j = true → listed.getD j false = true) ∧ ∀ j, j < n → j ≠ p → listed.getD j false = true → R2 j (vs j)) ∨
     ((∀ j, j < ops.size → listed.getD j false = true) ∧ Q .normal a w))) ?_ ?_ ops.size _ _ _ ?_ ⟨by simp, Or.inl ⟨_, (putAll_init a0 (dstOf ops) ops.size).symm, hrefl _, ?_, ?_, fun j hj => ?_⟩⟩
  · rintro listed a w ⟨hsz, h⟩ hr
    have hall := all_listed' hsz hok hin hr
    rcases h with ⟨vs, _, _, _, h1, _⟩ | ⟨vs, _, _, _, h1, _⟩ | ⟨_, hq⟩
    · have := hall n (by omega); rw [h1] at this; cases this
    · have := hall n (by omega); rw [h1] at this; cases this
    · exact hq
  · rintro listed a w i ⟨hsz, h⟩ hi
    obtain ⟨hlt, hun, o, ho, hdeps⟩ := ready_open hi
    have hun' : listed.getD i false = false := by
      have hls : i < listed.size := by omega
      simp only [Array.getD, hls, dif_pos] at hun ⊢
      exact hun
    have hdep : ∀ j, depsOn ops i j = true → listed.getD j false = true := fun j hj => by
      unfold depsOn at hj
      rw [ho] at hj
      simp only at hj
      rw [Array.any_eq_true] at hj
      obtain ⟨k, hk, hb⟩ := hj
      simp only [Bool.and_eq_true, beq_iff_eq] at hb
      rw [← hb.2]
      exact hdeps _ (Array.getElem_mem hk) hb.1
    have fin : ∀ {A : Act} {K2 : Act → World → Prop}, (∀ K' : Act → World → Prop, (∀ a w, K2 a w → K' a w) → OpDo P ops Q A i w K') → wpOp P ops Q i K2 A w := fun {A K2} h => wpOp_step ho (fun K' hK => by
      have := (h K' hK).out
      rw [ho] at this
      exact this)
    have hsz' : (listed.setIfInBounds i true).size = ops.size := by simpa using hsz
    have hil : i < listed.size := by omega
    have same : ∀ j, listed.getD j false = true → (listed.setIfInBounds i true).getD j false = true := fun j hj => by rw [getSet]; split <;> simp [hj]
    have here : (listed.setIfInBounds i true).getD i false = true := by rw [getSet]; simp [hil]
    have other : ∀ j, j ≠ i → listed.getD j false = false → (listed.setIfInBounds i true).getD j false = false := fun j hne hj => by rw [getSet]; simp [hne, hj]
    have back : ∀ j, j ≠ i → (listed.setIfInBounds i true).getD j false = true → listed.getD j false = true := fun j hne hj => by rw [getSet, if_neg (fun h => hne h.1)] at hj; exact hj
    have dn : ∀ j, j < n → depsOn ops n j = true := fun j hj => List.all_eq_true.1 hl j (List.mem_range.2 hj)
    have upd : ∀ vs v, i < n → frame a0 ops (fun j => if j = i then v else vs j) = (frame a0 ops vs).put (dstOf ops i) v := fun vs v hin => putAll_upd a0 (dstOf ops) vs i v ops.size hlt (fun j hj' hne => regBack_dst hok i j hin hj' hne)
    rcases h with ⟨vs, rfl, hE, h1, h2, hj⟩ | ⟨vs, rfl, hSS, h1, h2, h3, hj⟩ | ⟨h1, hq⟩
    · by_cases hip : i = p
      · subst hip
        refine fin (fun K' hK => hmid vs w hE (fun j hjd => hj j (hdep j hjd)) K' (fun v w' hs => hK _ _ ⟨hsz', Or.inr (Or.inl ⟨fun j => if j = i then v else vs j, (upd vs v hp).symm, hs, here, other n (by omega) h2, fun j hjd => same j (hdep j hjd), fun j hjn hne hjl => ?_⟩)⟩))
        simp only [hne, if_false]
        exact hR2 j _ w hjn hne (hj j (back j hne hjl))
      · have hin' : i < n := by
          by_cases hin' : i < n
          · exact hin'
          · exfalso
            obtain rfl : i = n := by omega
            have := hdep p (dn p hp)
            rw [h1] at this; cases this
        refine fin (fun K' hK => hstep i hin' hip vs w hE (fun j hjd => hj j (hdep j hjd)) K' (fun v w' he hr => hK _ _ ⟨hsz', Or.inl ⟨fun j => if j = i then v else vs j, (upd vs v hin').symm, htrans _ _ _ hE he, other p (fun e => hip e.symm) h1, other n (by omega) h2, fun j hjl => ?_⟩⟩))
        by_cases hji : j = i
        · subst hji; simpa using hr
        · simp only [hji, if_false]
          exact hR j _ w w' hE (hj j (back j hji hjl)) he
    · by_cases hin' : i < n
      · have hip : i ≠ p := fun e => by rw [e, h1] at hun'; cases hun'
        have hf : fr i = true := by
          have := List.all_eq_true.1 hfr i (List.mem_range.2 hin')
          simp only [Bool.or_eq_true, beq_iff_eq] at this
          rcases this with (h | h) | h
          · exact absurd h hip
          · exact h
          · have := h3 i h; rw [hun'] at this; cases this
        have hji : ∀ j, depsOn ops i j = true → j < n := fun j hjd => by
          by_cases hjn : j < ops.size
          · have := regBack_back hok hlt hjn hjd; omega
          · have := hdep j hjd
            rw [Array.getD_eq_getD_getElem?, Array.getElem?_eq_none (by omega)] at this
            cases this
        refine fin (fun K' hK => hfree i hin' hip hf vs w (fun j hne hjd => hj j (hji j hjd) hne (hdep j hjd)) K' (fun v hv => hK _ _ ⟨hsz', Or.inr (Or.inl ⟨fun j => if j = i then v else vs j, (upd vs v hin').symm, hS vs w i v hf hSS, same p h1, other n (by omega) h2, fun j hjd => same j (h3 j hjd), fun j hjn hne hjl => ?_⟩)⟩))
        by_cases hji' : j = i
        · subst hji'; simpa using hv
        · simp only [hji', if_false]
          exact hj j hjn hne (back j hji' hjl)
      · obtain rfl : i = n := by omega
        refine fin (fun K' hK => hlast vs w hSS (fun j hjn hne => hj j hjn hne (hdep j (dn j hjn))) K' (fun a w hq => hK _ _ ⟨hsz', Or.inr (Or.inr ⟨fun j hjs => ?_, hq⟩)⟩))
        by_cases hji : j = i
        · rw [hji]; exact here
        · exact same j (hdep j (dn j (by omega)))
    · have := h1 i hlt; rw [hun'] at this; cases this
  · have := List.countP_le_length (p := fun b : Bool => !b) (l := (Array.replicate ops.size false).toList)
    unfold openN
    simpa using this
  · rw [Array.getD_eq_getD_getElem?, Array.getElem?_replicate]; split <;> rfl
  · rw [Array.getD_eq_getD_getElem?, Array.getElem?_replicate]; split <;> rfl
  · rw [Array.getD_eq_getD_getElem?, Array.getElem?_replicate] at hj; split at hj <;> cases hj
end
end Go.Proofs.Ytipmgfbncfkmiaa
