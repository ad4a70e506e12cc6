/-
  A region that draws its order up to some operation, and goes on in sequence from there (an append, then a store): one obligation an operation, then the rest one by one. Program-independent.
-/
import Derived.Test.YtfeeegnkmojpeaaGreatPkV
import Derived.Test.YtfeeegnkmojpeaaGreatPkO
import Derived.Test.YtfeeegnkmojpeaaGreatPkA
import Derived.Test.YtfeeegnkmojpeaaGreatPkB
import Derived.Test.YtfeeegnkmojpeaaGreatPkU
import Derived.BigQuiet
import Derived.Deep.QuietTactic
import Derived.Laws.OwnMore
namespace Go.Proofs.YtfeeegnkmojpeaaGreat
open Go

section
variable {P : Program} {ops : Array Oper} {Q : Exit → Act → World → Prop}

/-- Whether operation i comes behind operation j, by edges at most f deep. -/
def reachF (ops : Array Oper) : Nat → Nat → Nat → Bool
  | 0, _, _ => false
  | f + 1, i, j => depsOn ops i j || (List.range i).any fun k => depsOn ops i k && reachF ops f k j
/-- The operations from m on come one behind the other, each behind all ahead of it. -/
def regTail (ops : Array Oper) (m f : Nat) : Bool := (List.range ops.size).all fun i => decide (i < m) || (List.range i).all fun j => reachF ops f i j

theorem reach_listed {listed : Array Bool} (hc : ∀ i, listed.getD i false = true → ∀ j, depsOn ops i j = true → listed.getD j false = true) : ∀ (f i j : Nat), (∀ j, depsOn ops i j = true → listed.getD j false = true) → reachF ops f i j = true → listed.getD j false = true
  | 0, _, _, _, h => by cases h
  | f + 1, i, j, hi, h => by
    rw [reachF, Bool.or_eq_true] at h
    rcases h with h | h
    · exact hi j h
    · rw [List.any_eq_true] at h
      obtain ⟨k, _, h⟩ := h
      rw [Bool.and_eq_true] at h
      exact reach_listed hc f k j (hc k (hi k h.1)) h.2

/-- The operations from i on, k of them, one behind the other. -/
def tailP (P : Program) (ops : Array Oper) (Q : Exit → Act → World → Prop) : Nat → Nat → Act → World → Prop
  | 0, _, a, w => Q .normal a w
  | k + 1, i, a, w => OpDo P ops Q a i w (tailP P ops Q k (i + 1))

theorem wp_region_tail {id m k f : Nat} {a0 : Act} {w0 : World} (hm : P.follows .mixedOrders = true) (hn : ops.size = m + k) (hok : regOk ops m = true) (htl : regTail ops m f = true)
    (Ext : World → World → Prop) (hrefl : ∀ w, Ext w w) (htrans : ∀ a b c, Ext a b → Ext b c → Ext a c)
    (R : Nat → Value → World → Prop) (hR : ∀ i v w w', Ext w0.drew w → R i v w → Ext w w' → R i v w')
    (hstep : ∀ i, i < m → ∀ (vs : Nat → Value) (w : World), Ext w0.drew w → (∀ j, depsOn ops i j = true → R j (vs j) w) →
      ∀ K : Act → World → Prop, (∀ v w', Ext w w' → R i v w' → K ((frame a0 ops vs).put (dstOf ops i) v) w') → OpDo P ops Q (frame a0 ops vs) i w K)
    (htail : ∀ (vs : Nat → Value) (w : World), Ext w0.drew w → (∀ i, i < m → R i (vs i) w) → tailP P ops Q k m (frame a0 ops vs) w) :
    (Code.region id ops true).wp P Q a0 w0 := by
  have getSet : ∀ (listed : Array Bool) (i j : Nat), (listed.setIfInBounds i true).getD j false = if j = i ∧ i < listed.size then true else listed.getD j false := fun listed i j => by
    simp only [Array.getD_eq_getD_getElem?, Array.getElem?_setIfInBounds]
    by_cases h : i = j
    · subst h
      by_cases hi : i < listed.size
      · simp [hi]
      · simp [hi]
    · have h' : ¬ j = i := fun e => h e.symm
      simp [h, h']
  refine wp_region_any hm ?_
  refine wpAny_inv (fun listed a w => listed.size = ops.size ∧ (∀ i, listed.getD i false = true → ∀ j, depsOn ops i j = true → listed.getD j false = true) ∧
    ((∃ vs, a = frame a0 ops vs ∧ Ext w0.drew w ∧ (∀ j, m ≤ j → listed.getD j false = false) ∧ ∀ j, listed.getD j false = true → R j (vs j) w) ∨
     (∃ t, t ≤ k ∧ (∀ j, j < m + t → listed.getD j false = true) ∧ (∀ j, m + t ≤ j → listed.getD j false = false) ∧ tailP P ops Q (k - t) (m + t) a w))) ?_ ?_ ops.size _ _ _ ?_ ⟨by simp, fun i hi => ?_, Or.inl ⟨_, (putAll_init a0 (dstOf ops) ops.size).symm, hrefl _, fun j _ => ?_, fun j hj => ?_⟩⟩
  · rintro listed a w ⟨hsz, hc, h⟩ hr
    have hall := all_listed hsz (regOk_back hok) hr
    rcases h with ⟨vs, rfl, hE, h1, h2⟩ | ⟨t, ht, h1, h2, hp⟩
    · have hk : k = 0 := by
        by_cases hk : k = 0
        · exact hk
        · have := hall m (by omega); rw [h1 m (Nat.le_refl _)] at this; cases this
      have := htail vs w hE (fun i hi => h2 i (hall i (by omega)))
      rw [hk] at this
      exact this
    · have hk : t = k := by
        by_cases hk : t = k
        · exact hk
        · have := hall (m + t) (by omega); rw [h2 _ (Nat.le_refl _)] at this; cases this
      rw [hk, Nat.sub_self] at hp
      exact hp
  · rintro listed a w i ⟨hsz, hc, h⟩ hi
    obtain ⟨hlt, hun, o, ho, hdeps⟩ := ready_open hi
    have hun' : listed.getD i false = false := by
      have hls : i < listed.size := by omega
      simp only [Array.getD, hls, dif_pos] at hun ⊢
      exact hun
    have hdep : ∀ j, depsOn ops i j = true → listed.getD j false = true := fun j hj => by
      unfold depsOn at hj
      rw [ho] at hj
      simp only at hj
      rw [Array.any_eq_true] at hj
      obtain ⟨k, hk, hb⟩ := hj
      simp only [Bool.and_eq_true, beq_iff_eq] at hb
      rw [← hb.2]
      exact hdeps _ (Array.getElem_mem hk) hb.1
    have fin : ∀ {A : Act} {K2 : Act → World → Prop}, (∀ K' : Act → World → Prop, (∀ a w, K2 a w → K' a w) → OpDo P ops Q A i w K') → wpOp P ops Q i K2 A w := fun {A K2} h => wpOp_step ho (fun K' hK => by
      have := (h K' hK).out
      rw [ho] at this
      exact this)
    have hsz' : (listed.setIfInBounds i true).size = ops.size := by simpa using hsz
    have hil : i < listed.size := by omega
    have same : ∀ j, listed.getD j false = true → (listed.setIfInBounds i true).getD j false = true := fun j hj => by rw [getSet]; split <;> simp [hj]
    have here : (listed.setIfInBounds i true).getD i false = true := by rw [getSet]; simp [hil]
    have other : ∀ j, j ≠ i → listed.getD j false = false → (listed.setIfInBounds i true).getD j false = false := fun j hne hj => by rw [getSet]; simp [hne, hj]
    have back : ∀ j, j ≠ i → (listed.setIfInBounds i true).getD j false = true → listed.getD j false = true := fun j hne hj => by rw [getSet, if_neg (fun h => hne h.1)] at hj; exact hj
    have hc' : ∀ q, (listed.setIfInBounds i true).getD q false = true → ∀ j, depsOn ops q j = true → (listed.setIfInBounds i true).getD j false = true := fun q hq j hj => by
      by_cases hqi : q = i
      · subst hqi; exact same j (hdep j hj)
      · exact same j (hc q (back q hqi hq) j hj)
    have hahead : m ≤ i → ∀ j, j < i → listed.getD j false = true := fun hmi j hj => by
      have := List.all_eq_true.1 htl i (List.mem_range.2 hlt)
      rw [Bool.or_eq_true] at this
      rcases this with h | h
      · rw [decide_eq_true_eq] at h; omega
      · exact reach_listed hc f i j hdep (List.all_eq_true.1 h j (List.mem_range.2 hj))
    have mono : ∀ {A : Act} {K1 K2 : Act → World → Prop}, (∀ a w, K1 a w → K2 a w) → OpDo P ops Q A i w K1 → ∀ K', (∀ a w, K2 a w → K' a w) → OpDo P ops Q A i w K' := fun {A K1 K2} h12 h K' hK => by
      refine ⟨?_⟩
      have := h.out
      rw [ho] at this ⊢
      simp only at this ⊢
      split
      · rename_i hw
        rw [if_pos hw] at this
        exact Oper.wp_mono (fun a w h => hK a w (h12 a w h)) this
      · rename_i hw
        rw [if_neg hw] at this
        exact hK _ _ (h12 _ _ this)
    rcases h with ⟨vs, rfl, hE, h1, h2⟩ | ⟨t, ht, h1, h2, hp⟩
    · by_cases him : i < m
      · refine fin (fun K' hK => hstep i him vs w hE (fun j hjd => h2 j (hdep j hjd)) K' (fun v w' he hr => hK _ _ ⟨hsz', hc', Or.inl ⟨fun j => if j = i then v else vs j, (putAll_upd a0 (dstOf ops) vs i v ops.size hlt (fun j hj' hne => regOk_dst hok i j him hj' hne)).symm, htrans _ _ _ hE he, fun j hj => other j (by omega) (h1 j hj), fun j hjl => ?_⟩⟩))
        by_cases hji : j = i
        · subst hji; simpa using hr
        · simp only [hji, if_false]
          exact hR j _ w w' hE (h2 j (back j hji hjl)) he
      · have him' : i = m := by
          by_cases he : i = m
          · exact he
          · have := hahead (by omega) m (by omega); rw [h1 m (Nat.le_refl _)] at this; cases this
        subst him'
        have := htail vs w hE (fun j hj => h2 j (hahead (Nat.le_refl _) j hj))
        obtain ⟨k', rfl⟩ : ∃ k', k = k' + 1 := ⟨k - 1, by omega⟩
        refine fin (mono (fun a' w' h' => ?_) this)
        refine ⟨hsz', hc', Or.inr ⟨1, by omega, fun j hj => ?_, fun j hj => other j (by omega) (h1 j (by omega)), ?_⟩⟩
        · by_cases hji : j = i
          · rw [hji]; exact here
          · exact same j (hahead (Nat.le_refl _) j (by omega))
        · rw [Nat.add_sub_cancel]; exact h'
    · have hi1 : i = m + t := by
        by_cases hlt' : i < m + t
        · have := h1 i hlt'; rw [hun'] at this; cases this
        · by_cases he : i = m + t
          · exact he
          · have := hahead (by omega) (m + t) (by omega); rw [h2 _ (Nat.le_refl _)] at this; cases this
      subst hi1
      obtain ⟨k', hk'⟩ : ∃ k', k - t = k' + 1 := ⟨k - t - 1, by omega⟩
      rw [hk'] at hp
      refine fin (mono (fun a' w' h' => ?_) hp)
      refine ⟨hsz', hc', Or.inr ⟨t + 1, by omega, fun j hj => ?_, fun j hj => other j (by omega) (h2 j (by omega)), ?_⟩⟩
      · by_cases hji : j = m + t
        · rw [hji]; exact here
        · exact same j (h1 j (by omega))
      · rw [show k - (t + 1) = k' by omega]; exact h'
  · have := List.countP_le_length (p := fun b : Bool => !b) (l := (Array.replicate ops.size false).toList)
    unfold openN
    simpa using this
  · rw [Array.getD_eq_getD_getElem?, Array.getElem?_replicate] at hi; split at hi <;> cases hi
  · rw [Array.getD_eq_getD_getElem?, Array.getElem?_replicate]; split <;> rfl
  · rw [Array.getD_eq_getD_getElem?, Array.getElem?_replicate] at hj; split at hj <;> cases hj
end
end Go.Proofs.YtfeeegnkmojpeaaGreat

namespace Go.Proofs.YtfeeegnkmojpeaaGreat
open Go.RowKit

set_option maxHeartbeats 1000000
set_option maxRecDepth 100000

/-- A row of rows of texts, all of the call's own, no two rows in one block. -/
def OwnSS (w : World) (base : Nat) (sv : Value) (a : List (List (List UInt8))) : Prop :=
  ∃ cs : List Value, w.ownsRow base 69 1 sv a.length cs ∧ (∀ j, j < a.length → ∃ rv, cs[j]? = some rv ∧ w.ownsRow base 9 1 rv (a.getD j []).length ((a.getD j []).map str)) ∧
    ∀ (i j : Nat) (ri rj : Value), i < j → cs[i]? = some ri → cs[j]? = some rj → ri.ownBlock = none ∨ ri.ownBlock ≠ rj.ownBlock

theorem OwnSS.nil (w : World) (base : Nat) : OwnSS w base (.slice none 0 0) [] := ⟨[], World.ownsRow_nil w base _ _, fun j h => absurd h (Nat.not_lt_zero j), fun i j ri rj _ h => by simp at h⟩

theorem own_keptT {w W : World} {base n size : Nat} {E : TypeId} {sv : Value} {vs : List Value} (h : w.ownsRow base E size sv n vs) (hk : ∀ (b : Nat) (cs : Array Value) (fr : Nat × Nat), w.heap[b]? = some (.cells cs E fr) → W.heap[b]? = some (.cells cs E fr)) : W.ownsRow base E size sv n vs := by
  refine ⟨h.1, ?_⟩
  rcases h.2 with h | ⟨g, cap, cur, h1, h2, h3, h4⟩
  · exact Or.inl h
  · exact Or.inr ⟨g, cap, cur, h1, h2, hk _ _ _ h3, h4⟩

theorem OwnSS.keptT {w W : World} {base : Nat} {sv : Value} {a : List (List (List UInt8))} (h : OwnSS w base sv a)
    (hk : ∀ (b : Nat) (cs : Array Value) (T : TypeId) (fr : Nat × Nat), T ≠ 25 → w.heap[b]? = some (.cells cs T fr) → W.heap[b]? = some (.cells cs T fr)) : OwnSS W base sv a := by
  obtain ⟨cs, ho, hc, hd⟩ := h
  refine ⟨cs, own_keptT ho fun b cs fr hb => hk b cs _ fr (by decide) hb, fun j hj => ?_, hd⟩
  obtain ⟨rv, h1, h2⟩ := hc j hj
  exact ⟨rv, h1, own_keptT h2 fun b cs fr hb => hk b cs _ fr (by decide) hb⟩

theorem OwnSS.later {w W : World} {base : Nat} {sv : Value} {a : List (List (List UInt8))} (h : OwnSS w base sv a) (hA : After w W) : OwnSS W base sv a :=
  h.keptT fun b cs T fr _ hb => hA.heap hb

theorem OwnSS.form {w : World} {base : Nat} {sv : Value} {a : List (List (List UInt8))} (h : OwnSS w base sv a) : ∃ ao cap, sv = .slice ao a.length cap := by
  obtain ⟨cs, ho, _⟩ := h
  rcases ho.2 with ⟨rfl, h0⟩ | ⟨g, cap, cur, rfl, _⟩
  · exact ⟨_, _, by rw [h0]⟩
  · exact ⟨_, _, rfl⟩

theorem own_strsU {w : World} {base B : Nat} {sv : Value} {ns : List (List UInt8)} (h : w.ownsRow base 9 1 sv ns.length (ns.map str)) (hB : B ≤ base) : StrsU B w sv ns := by
  rcases h.2 with ⟨rfl, h0⟩ | ⟨g, cap, cur, rfl, hb, hh, hle, hcap, _⟩
  · exact ⟨none, 0, by rw [h0], fun j hj => absurd hj (by omega)⟩
  · refine ⟨some ⟨g, 0, none⟩, cap, rfl, fun j hj => ⟨g, 0, rfl, ⟨by omega, hle, by unfold maxLen at hcap; omega⟩, ?_⟩⟩
    rw [Nat.zero_add]
    exact (h.cellAt j (by omega)).trans (by simp [List.getD, hj])

theorem OwnSS.ssu {w : World} {base B : Nat} {sv : Value} {a : List (List (List UInt8))} (h : OwnSS w base sv a) (hB : B ≤ base) : SSU B w sv a := by
  obtain ⟨cs, ho, hc, _⟩ := h
  refine ⟨fun j => cs.getD j undef, ?_, fun j hj => ?_⟩
  · rcases ho.2 with ⟨rfl, h0⟩ | ⟨g, cap, cur, rfl, hb, hh, hle, hcap, _⟩
    · exact ⟨none, 0, by rw [h0], fun j hj => absurd hj (by omega)⟩
    · refine ⟨some ⟨g, 0, none⟩, cap, rfl, fun j hj => ⟨g, 0, rfl, ⟨by omega, hle, by unfold maxLen at hcap; omega⟩, ?_⟩⟩
      rw [Nat.zero_add]
      obtain ⟨rv, h1, _⟩ := hc j hj
      exact (ho.cellAt j (by omega)).trans (by rw [h1]; show some rv = some (cs.getD j undef); rw [List.getD, h1]; rfl)
  · obtain ⟨rv, h1, h2⟩ := hc j hj
    show StrsU B w (cs.getD j undef) _
    rw [List.getD, h1]
    exact own_strsU h2 hB

theorem OwnSS.push {w w' : World} {base g cap : Nat} {sv rv : Value} {a : List (List (List UInt8))} {xs : List (List UInt8)} {cs : List Value} (ho : w.ownsRow base 69 1 sv a.length cs)
    (hc : ∀ j, j < a.length → ∃ rv, cs[j]? = some rv ∧ w.ownsRow base 9 1 rv (a.getD j []).length ((a.getD j []).map str)) (hd : ∀ (i j : Nat) (ri rj : Value), i < j → cs[i]? = some ri → cs[j]? = some rj → ri.ownBlock = none ∨ ri.ownBlock ≠ rj.ownBlock)
    (ho' : w'.ownsRow base 69 1 (.slice (some ⟨g, 0, none⟩) (a.length + 1) cap) (a.length + 1) (cs ++ [rv])) (hg : w.grownBy w' sv.ownBlock)
    (hx : w.ownsRow base 9 1 rv xs.length (xs.map str)) (hnew : ∀ (j : Nat) (u : Value), cs[j]? = some u → u.ownBlock = none ∨ u.ownBlock ≠ rv.ownBlock) : OwnSS w' base (.slice (some ⟨g, 0, none⟩) (a.length + 1) cap) (a ++ [xs]) := by
  have hcl : cs.length = a.length := by have := ho.1; omega
  have hk : ∀ {v : Value} {ys : List (List UInt8)}, w.ownsRow base 9 1 v ys.length (ys.map str) → w'.ownsRow base 9 1 v ys.length (ys.map str) := fun h => own_keptT h fun b cs fr hb => row_keeps ho hg b cs _ fr (by decide) hb
  refine ⟨_, by rw [List.length_append]; exact ho', fun j hj => ?_, fun i j ri rj hij hi hj => ?_⟩
  · by_cases hjl : j < a.length
    · obtain ⟨rv', h1, h2⟩ := hc j hjl
      have hgd : (a ++ [xs]).getD j [] = a.getD j [] := by simp [List.getD, List.getElem?_append_left hjl]
      rw [hgd]
      exact ⟨rv', by rw [List.getElem?_append_left (by omega)]; exact h1, hk h2⟩
    · have hj' : j = a.length := by rw [List.length_append, List.length_singleton] at hj; omega
      subst hj'
      have hgd : (a ++ [xs]).getD a.length [] = xs := by simp [List.getD]
      rw [hgd]
      exact ⟨rv, by rw [List.getElem?_append_right (by omega), hcl, Nat.sub_self]; rfl, hk hx⟩
  · by_cases hjl : j < cs.length
    · rw [List.getElem?_append_left (by omega)] at hi
      rw [List.getElem?_append_left hjl] at hj
      exact hd i j ri rj hij hi hj
    · have hj2 : j < (cs ++ [rv]).length := (List.getElem?_eq_some_iff.1 hj).1
      have hj' : j = cs.length := by rw [List.length_append, List.length_singleton] at hj2; omega
      subst hj'
      rw [List.getElem?_append_left hij] at hi
      rw [List.getElem?_append_right (Nat.le_refl _), Nat.sub_self] at hj
      have e : rv = rj := by simpa using hj
      rw [← e]
      exact hnew i ri hi

section
variable {ops : Array Oper} {Q : Exit → Act → World → Prop} {A : Act} {i : Nat} {w : World} {K : Act → World → Prop}

theorem do_rp {v : Value} {w' : World} (p : Value → World → Prop) (hs : (ops[i]?).isSome = true) (hw : Region.wanted (opAt ops i) (yielded ops A.tmps) = true) (hr : (execOp A.eval (opAt ops i)).run Tryz.prog w = .ok (.value v) w') (ha : After w w') (hp : p v w')
    (hK : ∀ v w', After w w' → p v w' → K (A.put (dstOf ops i) v) w') : OpDo Tryz.prog ops Q A i w K :=
  op_val hs hw hr (hK _ _ ha hp)

theorem do_cp {f : FuncId} {args : Array Value} (p : Value → World → Prop) (hs : (ops[i]?).isSome = true) (hw : Region.wanted (opAt ops i) (yielded ops A.tmps) = true) (hr : (execOp A.eval (opAt ops i)).run Tryz.prog w = .ok (.enter f args) w)
    (hc : Calls Tryz.prog f args w fun e w' => ∃ v, e = .returned v ∧ After w w' ∧ p v w') (hK : ∀ v w', After w w' → p v w' → K (A.put (dstOf ops i) v) w') : OpDo Tryz.prog ops Q A i w K := by
  refine op_call hs hw hr (hc.mono ?_)
  rintro e w' ⟨v, rfl, ha, h⟩
  exact ⟨_, rfl, hK _ _ ha h⟩

theorem run_ld_ss {x : Operand} {u : Value} {p : Addr} {v : Value} (hop : (opAt ops i).op = .load 23 x) (hx : A.eval x = u) (hu : u = .pointer (some p)) (hc : w.cell? p = some v) :
    (execOp A.eval (opAt ops i)).run Tryz.prog w = .ok (.value v) w := by
  subst hu
  unfold execOp
  simp only [hop, hx]
  simp [go_sem, hc]

/-- A new row of one text. -/
theorem run_row1 {x : Operand} {u : Value} {s : List UInt8} (hop : (opAt ops i).op = .buildSlice 69 1 #[(0, x)]) (hx : A.eval x = u) (hu : u = str s) :
    (execOp A.eval (opAt ops i)).run Tryz.prog w = .ok (.value (.slice (some ⟨w.heap.size, 0, none⟩) 1 1)) (w.alloc (.cells #[str s] 9)) := by
  subst hu
  unfold execOp
  generalize A.eval = E at *
  simp only [hop]
  simp [go_sem, hx]

theorem run_rows1 {x : Operand} {u : Value} {ao : Option Addr} {n c : Nat} (hop : (opAt ops i).op = .buildSlice 23 1 #[(0, x)]) (hx : A.eval x = u) (hu : u = .slice ao n c) :
    (execOp A.eval (opAt ops i)).run Tryz.prog w = .ok (.value (.slice (some ⟨w.heap.size, 0, none⟩) 1 1)) (w.alloc (.cells #[.slice ao n c] 69)) := by
  subst hu
  unfold execOp
  generalize A.eval = E at *
  simp only [hop]
  simp [go_sem, hx]

/-- The end of a region 'x.f = append(x.f, row)': the append, the field's address, the store. -/
theorem tail_push {ops : Array Oper} {Q : Exit → Act → World → Prop} {A : Act} {w : World} {m q base b2 n bao bn bc : Nat} {sv : Value} {s x t y z : Operand} {d7 d8 : Tmp} {a : List (List (List UInt8))} {xs : List (List UInt8)} {rv : Value}
    (hs0 : (ops[m]?).isSome = true) (hg0 : (opAt ops m).guard = none) (ho0 : (opAt ops m).op = .call { callee := .builtin .append, args := #[s, x], argTypes := #[23, 23] }) (hd0 : dstOf ops m = some d7)
    (hs1 : (ops[m + 1]?).isSome = true) (hg1 : (opAt ops (m + 1)).guard = none) (ho1 : (opAt ops (m + 1)).op = .fieldAddr 25 t 0) (hd1 : dstOf ops (m + 1) = some d8)
    (hs2 : (ops[m + 2]?).isSome = true) (hg2 : (opAt ops (m + 2)).guard = none) (ho2 : (opAt ops (m + 2)).op = .store 23 y z) (hd2 : dstOf ops (m + 2) = none)
    (e0 : A.eval s = sv) (e1 : A.eval x = .slice (some ⟨b2, 0, none⟩) 1 1) (e2 : ∀ v, (A.put (some d7) v).eval t = .pointer (some ⟨q, 0, none⟩))
    (e3 : ∀ v, ((A.put (some d7) v).put (some d8) (.pointer (some ⟨q, 0, none⟩))).eval y = .pointer (some ⟨q, 0, none⟩)) (e4 : ∀ v, ((A.put (some d7) v).put (some d8) (.pointer (some ⟨q, 0, none⟩))).eval z = v)
    (hown : OwnSS w base sv a) (hbase : base ≤ w.heap.size) (hlen : a.length ≤ 1000000) (hq : base ≤ q) (hbox : w.heap[q]? = some (.cells #[sv] 25 (0, 0)))
    (hrow : w.ownsRow base 9 1 rv xs.length (xs.map str)) (hb2 : w.heap[b2]? = some (.cells #[rv] 69 (0, 0))) (hone : rv.oneCell' = true)
    (hnew : ∀ (cs : List Value), w.ownsRow base 69 1 sv a.length cs → (∀ j, j < a.length → ∃ rv, cs[j]? = some rv ∧ w.ownsRow base 9 1 rv (a.getD j []).length ((a.getD j []).map str)) → ∀ (j : Nat) (u : Value), cs[j]? = some u → u.ownBlock = none ∨ u.ownBlock ≠ rv.ownBlock)
    (hQ : ∀ g cap w', OwnSS w' base (.slice (some ⟨g, 0, none⟩) (a.length + 1) cap) (a ++ [xs]) → w'.heap[q]? = some (.cells #[.slice (some ⟨g, 0, none⟩) (a.length + 1) cap] 25 (0, 0)) → Below base w w' →
      Q .normal ((A.put (some d7) (.slice (some ⟨g, 0, none⟩) (a.length + 1) cap)).put (some d8) (.pointer (some ⟨q, 0, none⟩))) w') : tailP Tryz.prog ops Q 3 m A w := by
  have hi : ∃ i, (Tryz.prog).info? 69 = some i ∧ i.zero = some (.slice none 0 0) ∧ i.size = 1 ∧ i.bytes = 24 := ⟨_, rfl, rfl, rfl, rfl⟩
  obtain ⟨i0, hi0, hz0, hz1, hz2⟩ := hi
  have hun : Tryz.prog.underlying 23 = some (.slice 69) := by kernel_rfl
  obtain ⟨cs, ho, hc, hd⟩ := id hown
  obtain ⟨g, cap, w5, hr, hown5, hg5, hwhere, hlt⟩ := run_append_lies (P := Tryz.prog) w 23 (opAt ops m).type base 69 i0 (.slice none 0 0) 1 24 hun hi0 hz0 hz1 hz2 rfl (by decide) sv a.length cs ho ⟨b2, 0, none⟩ 1 1 [rv] rfl
    (fun j u hu => by
      match j, hu with
      | 0, hu =>
        have e : rv = u := by simpa using hu
        subst e
        have := cell_of_heap (i := 0) hb2
        simpa [Addr.add] using this) (by simpa using hone) (by decide) (by unfold maxLen; omega) (by omega) hbase _ rfl
  have hpush := OwnSS.push ho hc hd hown5 hg5 hrow (hnew cs ho hc)
  have hbq : w5.heap[q]? = some (.cells #[sv] 25 (0, 0)) := row_keeps ho hg5 _ _ _ _ (by decide) hbox
  have hb5 : Below base w w5 := (Below.refl base w).grown hg5 hbase (fun k hk => (ho.lt k hk).1)
  show OpDo _ _ _ _ _ _ _
  refine op_val (v := .slice (some ⟨g, 0, none⟩) (a.length + 1) cap) (w' := w5) hs0 (wanted_of hg0) ?_ ?_
  · unfold execOp
    simp only [ho0, resolve, invoke, builtin, Sem.run_bind, Sem.run_pure, Result.andThen_ok, List.map_toArray, List.map_cons, List.map_nil, e0, e1, hr]
  · rw [hd0]
    show OpDo _ _ _ _ _ _ _
    refine op_val (v := .pointer (some ⟨q, 0, none⟩)) (w' := w5) hs1 (wanted_of hg1) ?_ ?_
    · have e2' := e2 (.slice (some ⟨g, 0, none⟩) (a.length + 1) cap)
      unfold execOp
      simp only [ho1, e2']
      first | rfl | simp [go_sem]
    · rw [hd1]
      show OpDo _ _ _ _ _ _ _
      have e3' := e3 (.slice (some ⟨g, 0, none⟩) (a.length + 1) cap)
      have e4' := e4 (.slice (some ⟨g, 0, none⟩) (a.length + 1) cap)
      have r0 : w5.cell? ⟨q, 0, none⟩ = some sv := cell_of_heap hbq
      have f0 : w5.frozen? ⟨q, 0, none⟩ = false := by simp [World.frozen?, hbq]
      have hst : (Instr.storeAt 23 (.pointer (some ⟨q, 0, none⟩)) (.slice (some ⟨g, 0, none⟩) (a.length + 1) cap)).run Tryz.prog w5 = .ok () (w5.setCell ⟨q, 0, none⟩ (.slice (some ⟨g, 0, none⟩) (a.length + 1) cap)) := by
        simp [go_sem, r0, f0]
      constructor
      rw [opAt_of hs2]
      simp only [wanted_of hg2, if_true]
      unfold Oper.wp execOp
      simp only [ho2, e3', e4', Sem.run_bind, hst, Result.andThen_ok, Sem.run_pure, Oper.upon_skip]
      rw [opAt_dst hs2, hd2]
      show Q .normal _ _
      refine hQ g cap _ (hpush.keptT fun b cs T fr hT hb => ?_) ?_ (hb5.setCell hq _)
      · rw [Below.heap_setCell _ _ _ _ (fun e => by have : b = q := e; subst this; rw [hbq] at hb; injection hb with hb; injection hb with _ hb _; exact hT hb.symm)]
        exact hb
      · simp [World.setCell, Array.getElem?_modify, hbq]
end
end Go.Proofs.YtfeeegnkmojpeaaGreat

namespace Go.Proofs.YtfeeegnkmojpeaaGreat
open Go.RowKit

set_option maxHeartbeats 1000000
set_option maxRecDepth 100000

/-- A fact of a value that stays true while the world grows. -/
structure Sp where
  p : Value → World → Prop
  st : ∀ v w w', p v w → After w w' → p v w'
def Sp.lit (v : Value) : Sp := ⟨fun u _ => u = v, fun _ _ _ h _ => h⟩
def Sp.free : Sp := ⟨fun _ _ => True, fun _ _ _ h _ => h⟩
def Sp.tv (B : Nat) (t : Tm) : Sp := ⟨fun v w => TV w B t v, fun _ _ _ h ha => h.below ha⟩
def Sp.tree (t : Tm) : Sp := ⟨fun v w => ST w t v, fun _ _ _ h ha => h.later ha⟩
theorem own_later {w W : World} {base n size : Nat} {E : TypeId} {sv : Value} {vs : List Value} (h : w.ownsRow base E size sv n vs) (ha : After w W) : W.ownsRow base E size sv n vs := own_keptT h fun _ _ _ hb => ha.heap hb
/-- A new row of texts. -/
def Sp.row (C : Nat) (xs : List (List UInt8)) : Sp := ⟨fun v w => w.ownsRow C 9 1 v xs.length (xs.map str), fun _ _ _ h ha => own_later h ha⟩
/-- A new row of one row of texts. -/
def Sp.rows (C : Nat) (xs : List (List UInt8)) : Sp := ⟨fun v w => ∃ b2 rv, v = .slice (some ⟨b2, 0, none⟩) 1 1 ∧ w.heap[b2]? = some (.cells #[rv] 69 (0, 0)) ∧ rv.oneCell' = true ∧ w.ownsRow C 9 1 rv xs.length (xs.map str),
  fun _ _ _ ⟨b2, rv, e, hh, h1, h⟩ ha => ⟨b2, rv, e, ha.heap hh, h1, own_later h ha⟩⟩
/-- A row of one text, in its own block. -/
def rl (ps : List Sp) (i : Nat) (v : Value) (w : World) : Prop := (ps.getD i Sp.free).p v w
theorem rl_later {ps : List Sp} {w0 : World} : ∀ i v w w', After w0 w → rl ps i v w → After w w' → rl ps i v w' := fun _ _ _ _ _ h ha => Sp.st _ _ _ _ h ha

theorem own_unique {w : World} {base base' n size : Nat} {E : TypeId} {sv : Value} {xs ys : List Value} (h : w.ownsRow base E size sv n xs) (g : w.ownsRow base' E size sv n ys) : xs = ys := by
  rcases h.2 with ⟨rfl, h0⟩ | ⟨b, cap, cur, rfl, _, hh, _, _, _, ht⟩
  · have h1 := h.1
    have g1 := g.1
    rw [h0, Nat.zero_mul] at h1 g1
    rw [List.length_eq_zero_iff.1 h1, List.length_eq_zero_iff.1 g1]
  · rcases g.2 with ⟨e, _⟩ | ⟨b', cap', cur', e, _, hh', _, _, _, ht'⟩
    · cases e
    · injection e with e
      injection e with e
      injection e with e
      subst e
      rw [hh] at hh'
      injection hh' with hh'
      injection hh' with hh'
      subst hh'
      rw [← ht, ← ht']

theorem own_mono {w : World} {base base' n size : Nat} {E : TypeId} {sv : Value} {xs : List Value} (h : w.ownsRow base E size sv n xs) (hB : base' ≤ base) : w.ownsRow base' E size sv n xs := by
  refine ⟨h.1, ?_⟩
  rcases h.2 with h | ⟨g, cap, cur, h1, h2, h3⟩
  · exact Or.inl h
  · exact Or.inr ⟨g, cap, cur, h1, Nat.le_trans hB h2, h3⟩

theorem own_one (w : World) (C : Nat) (hC : C ≤ w.heap.size) (s : List UInt8) : (w.alloc (.cells #[str s] 9)).ownsRow C 9 1 (.slice (some ⟨w.heap.size, 0, none⟩) 1 1) ([s] : List (List UInt8)).length ([s].map str) :=
  World.ownsRow_lit (base := C) (e := 9) (size := 1) w #[str s] 1 hC (by decide) (by simp)

theorem own_oneCell {w : World} {base n size : Nat} {E : TypeId} {sv : Value} {xs : List Value} (h : w.ownsRow base E size sv n xs) : sv.oneCell' = true := by
  rcases h.2 with ⟨rfl, _⟩ | ⟨g, cap, cur, rfl, _⟩ <;> rfl

theorem tail_push2 {ops : Array Oper} {Q : Exit → Act → World → Prop} {A : Act} {wr w : World} {m q base b2 : Nat} {sv : Value} {s x t y z : Operand} {d7 d8 : Tmp} {a : List (List (List UInt8))} {xs : List (List UInt8)} {rv : Value}
    (hs0 : (ops[m]?).isSome = true) (hg0 : (opAt ops m).guard = none) (ho0 : (opAt ops m).op = .call { callee := .builtin .append, args := #[s, x], argTypes := #[23, 23] }) (hd0 : dstOf ops m = some d7)
    (hs1 : (ops[m + 1]?).isSome = true) (hg1 : (opAt ops (m + 1)).guard = none) (ho1 : (opAt ops (m + 1)).op = .fieldAddr 25 t 0) (hd1 : dstOf ops (m + 1) = some d8)
    (hs2 : (ops[m + 2]?).isSome = true) (hg2 : (opAt ops (m + 2)).guard = none) (ho2 : (opAt ops (m + 2)).op = .store 23 y z) (hd2 : dstOf ops (m + 2) = none)
    (e0 : A.eval s = sv) (e1 : A.eval x = .slice (some ⟨b2, 0, none⟩) 1 1) (e2 : ∀ v, (A.put (some d7) v).eval t = .pointer (some ⟨q, 0, none⟩))
    (e3 : ∀ v, ((A.put (some d7) v).put (some d8) (.pointer (some ⟨q, 0, none⟩))).eval y = .pointer (some ⟨q, 0, none⟩)) (e4 : ∀ v, ((A.put (some d7) v).put (some d8) (.pointer (some ⟨q, 0, none⟩))).eval z = v)
    (hown : OwnSS wr base sv a) (hA : After wr w) (hbase : base ≤ wr.heap.size) (hlen : a.length ≤ 1000000) (hq : base ≤ q) (hbox : wr.heap[q]? = some (.cells #[sv] 25 (0, 0)))
    (hrow : w.ownsRow wr.heap.size 9 1 rv xs.length (xs.map str)) (hb2 : w.heap[b2]? = some (.cells #[rv] 69 (0, 0)))
    (hQ : ∀ g cap w', OwnSS w' base (.slice (some ⟨g, 0, none⟩) (a.length + 1) cap) (a ++ [xs]) → w'.heap[q]? = some (.cells #[.slice (some ⟨g, 0, none⟩) (a.length + 1) cap] 25 (0, 0)) → Below base wr w' →
      Q .normal ((A.put (some d7) (.slice (some ⟨g, 0, none⟩) (a.length + 1) cap)).put (some d8) (.pointer (some ⟨q, 0, none⟩))) w') : tailP Tryz.prog ops Q 3 m A w := by
  refine tail_push (base := base) (a := a) (xs := xs) (n := 0) (bao := 0) (bn := 0) (bc := 0) hs0 hg0 ho0 hd0 hs1 hg1 ho1 hd1 hs2 hg2 ho2 hd2 e0 e1 e2 e3 e4 (hown.later hA) (Nat.le_trans hbase hA.size) hlen hq (hA.heap hbox) (own_mono hrow hbase) hb2 (own_oneCell hrow) ?_ (fun g cap w' h1 h2 h3 => hQ g cap w' h1 h2 ?_)
  · intro cs hcs hc j u hu
    obtain ⟨cs', ho', hc', _⟩ := hown
    obtain rfl := own_unique hcs (own_later ho' hA)
    have hj : j < a.length := by
      have := (List.getElem?_eq_some_iff.1 hu).1
      have := ho'.1
      omega
    obtain ⟨rv', h1, h2⟩ := hc' j hj
    rw [hu] at h1
    injection h1 with h1
    subst h1
    cases hu' : u.ownBlock with
    | none => exact Or.inl rfl
    | some k =>
      right
      intro e
      have hk := (h2.lt k hu').2
      have := (hrow.lt k e.symm).1
      omega
  · exact (hA.mono hbase).trans h3
end Go.Proofs.YtfeeegnkmojpeaaGreat

namespace Go.Proofs.YtfeeegnkmojpeaaGreat
open Go.RowKit

set_option maxHeartbeats 2000000
set_option maxRecDepth 100000

def numsA (n : Nat) : List (List (List UInt8)) := (List.range n).map fun i => [(Tm.num i).text]
theorem numsA_succ (n : Nat) : numsA (n + 1) = numsA n ++ [[(Tm.num n).text]] := by simp [numsA, List.range_succ]
theorem numsA_len (n : Nat) : (numsA n).length = n := by simp [numsA]
def pNums (n : Int) : Option (List (List (List UInt8))) := if 1 ≤ n ∧ n ≤ 6 then some (numsA n.toNat) else none
theorem nums_ok : ∀ n, n ≤ 6 → 1 ≤ n → Asm.ok (numsA n) = true
  | 0, _, h => by omega
  | 1, _, _ | 2, _, _ | 3, _, _ | 4, _, _ | 5, _, _ | 6, _, _ => by decide +kernel
  | n + 7, h, _ => by omega
theorem nums_lens : ∀ n, n ≤ 6 → Lens 1000 (numsA n)
  | 0, _ | 1, _ | 2, _ | 3, _ | 4, _ | 5, _ | 6, _ => by unfold Lens; decide +kernel
  | n + 7, h => by omega

/-- An assembly handed back, all of its memory new, or nothing. -/
def AsmOwn (w : World) (r : Option (List (List (List UInt8)))) (e : Ending) (w' : World) : Prop :=
  ∃ sv, e = .returned (.tuple #[.agg #[sv], .bool r.isSome]) ∧ OwnSS w' w.heap.size sv (r.getD []) ∧ After w w'

theorem OwnSS.less {w : World} {base base' : Nat} {sv : Value} {a : List (List (List UInt8))} (h : OwnSS w base sv a) (hB : base' ≤ base) : OwnSS w base' sv a := by
  obtain ⟨cs, ho, hc, hd⟩ := h
  exact ⟨cs, own_mono ho hB, fun j hj => by obtain ⟨rv, h1, h2⟩ := hc j hj; exact ⟨rv, h1, own_mono h2 hB⟩, hd⟩

theorem num_small (k : Nat) (hk : k ≤ 60) : (Tm.num k).good = true ∧ (Tm.num k).size ≤ 1000 ∧ (Tm.num k).text.length ≤ 1000000 := by
  have hg := Tm.good_num k
  have hz := Tm.size_num k
  have htl := Tm.text_le _ hg
  have hd := Tm.depth_lt (Tm.num k)
  exact ⟨hg, by omega, by omega⟩

theorem lit2_31_17_9 {x0 x1 x2 x3 x4 x5 x6 x7 x8 x9 x10 x11 x12 x13 x14 x15 x16 x17 x18 x19 x20 x21 x22 x23 x24 x25 x26 x27 x28 x29 x30 u u' : Value} {d : List Deferred} {vs : Nat → Value} : ((putFrom ⟨#[x0, x1, x2, x3, x4, x5, x6, x7, x8, x9, x10, x11, x12, x13, x14, x15, x16, x17, x18, x19, x20, x21, x22, x23, x24, x25, x26, x27, x28, x29, x30], d⟩ 17 vs 9).put (some 24) u).put (some 25) u' = ⟨#[x0, x1, x2, x3, x4, x5, x6, x7, x8, x9, x10, x11, x12, x13, x14, x15, x16, vs 0, vs 1, vs 2, vs 3, vs 4, vs 5, vs 6, u, u', x26, x27, x28, x29, x30], d⟩ := by kernel_rfl

theorem validOnly_any (w : World) (sv : Value) (a : List (List (List UInt8))) (h : SSU 0 w sv a) (hl : Lens 1000000000 a) :
    Calls Tryz.prog 50 #[.agg #[sv]] w fun e w' => e = .returned (.tuple #[.agg #[if Asm.ok a = true then sv else .slice none 0 0], .bool (Asm.ok a)]) ∧ After w w' := by
  have hcall := fun W (hW : After w W) => impl_asmValid W sv a (h.later hW) hl
  obtain ⟨ao, cap, rfl⟩ := h.form
  generalize a.length = n at *
  obtain ⟨os, hos⟩ : ∃ os : List Obj, os = [.cells #[.slice ao n cap] 25, .cells #[.slice none 0 0] 25] := ⟨_, rfl⟩
  have hX : allocL w os = (w.alloc (.cells #[.slice ao n cap] 25)).alloc (.cells #[.slice none 0 0] 25) := by rw [hos]; rfl
  have hA : After w (allocL w os) := allocL_below w os
  have h0 : (allocL w os).heap[w.heap.size]? = some (.cells #[.slice ao n cap] 25 (0, 0)) := by have := allocL_heap w os 0 (by rw [hos]; simp); simpa [hos] using this
  have h1 : (allocL w os).heap[w.heap.size + 1]? = some (.cells #[.slice none 0 0] 25 (0, 0)) := by have := allocL_heap w os 1 (by rw [hos]; simp); simpa [hos] using this
  rw [hX] at hA h0 h1
  have H0 := Lib.hid h0
  have H1 := Lib.hid h1
  have hc := hcall _ hA
  have HA := Lib.hid hA
  clear hos hX h hl h0 h1 hcall hA
  generalize Asm.ok a = b at *
  go_enter Tryz.func50, Tryz.ntmps50
  go_wp2_with fail
  refine hc.mono ?_
  rintro e w1 ⟨rfl, hb1⟩
  obtain ⟨p0, p1, p2⟩ := one_facts H0.out hb1
  obtain ⟨r0, r1, r2⟩ := one_facts H1.out hb1
  have HB := Lib.hid (HA.out.trans hb1)
  cases b with
  | true =>
    go_wp2_with fail
    exact bodyPost_ret (v := .tuple #[.agg #[.slice ao n cap], .bool true]) (by simp [results, Tryz.results50, go_sem, r0]) rfl ⟨rfl, Below.setCell HB.out (by show w.heap.size ≤ w.heap.size + 1; omega) _⟩
  | false =>
    go_wp2_with fail
    exact bodyPost_ret (v := .tuple #[.agg #[.slice none 0 0], .bool false]) (by simp [results, Tryz.results50, go_sem, r0]) rfl ⟨rfl, Below.setCell HB.out (by show w.heap.size ≤ w.heap.size + 1; omega) _⟩

theorem impl_nums (w : World) (n : Int) : Calls Tryz.prog 21 #[.int .i64 n] w (AsmOwn w (pNums n)) := by
  by_cases hn : 1 ≤ n ∧ n ≤ 6
  · obtain ⟨N, rfl⟩ : ∃ N : Nat, n = N := ⟨n.toNat, by omega⟩
    have hn1 : ¬ (N : Int) < 1 := by omega
    have hn6 : ¬ (6 : Int) < (N : Int) := by omega
    rw [show pNums (N : Int) = some (numsA N) by unfold pNums; rw [if_pos hn, Int.toNat_natCast]]
    have hok := nums_ok N (by omega) (by omega)
    have hlens := nums_lens N (by omega)
    have hval := fun W sv (h : SSU 0 W sv (numsA N)) => validOnly_any W sv (numsA N) h ⟨by have := hlens.1; omega, fun ns hs => ⟨by have := (hlens.2 ns hs).1; omega, fun s h => by have := (hlens.2 ns hs).2 s h; omega⟩⟩
    rw [hok] at hval
    simp only [if_true] at hval
    have hA0 := (After.new w (.cells #[.slice none 0 0] 25)).alloc (.cells #[.slice none 0 0] 25)
    have hr0 := heap_old2 w (.cells #[.slice none 0 0] 25) (.cells #[.slice none 0 0] 25)
    have hb0 := heap_new2 w w.heap.size (.cells #[.slice none 0 0] 25) (.cells #[.slice none 0 0] 25) rfl
    have hs0 : ((w.alloc (.cells #[.slice none 0 0] 25)).alloc (.cells #[.slice none 0 0] 25)).heap.size = w.heap.size + 2 := by simp
    have HVAL := Lib.hid hval
    have HA0 := Lib.hid hA0
    have HR0 := Lib.hid hr0
    have HB0 := Lib.hid hb0
    have HS0 := Lib.hid hs0
    clear hok hlens hval hA0 hr0 hb0 hs0
    go_enter Tryz.func21, Tryz.ntmps21
    go_wp2_with fail
    obtain ⟨q, hq⟩ : ∃ q, q = w.heap.size + 1 := ⟨_, rfl⟩
    simp only [← hq]
    rw [← hq] at HB0
    have HQ := Lib.hid hq
    clear hq
    generalize ((w.alloc (.cells #[.slice none 0 0] 25)).alloc (.cells #[.slice none 0 0] 25)) = w0 at *
    go_loopw [14] (fun i wr => ∃ (k : Nat) (sv : Value), i = .int .i64 k ∧ k ≤ N ∧ Hid (wr.heap[q]? = some (.cells #[sv] 25 (0, 0))) ∧ Hid (OwnSS wr q sv (numsA k)) ∧ Hid (wr.heap[w.heap.size]? = some (.cells #[.slice none 0 0] 25 (0, 0))) ∧ Hid (After w wr)) (fun i _ => N - (intOf i).toNat)
    case atStart => exact ⟨0, _, rfl, Nat.zero_le _, HB0, by show OwnSS _ _ _ _; exact OwnSS.nil _ _, HR0, HA0⟩
    case round =>
      obtain ⟨k, sv, rfl, hk, HBOX, HOWN, HRES, HAW⟩ := hrel
      by_cases hlt : k < N
      · have hlt' : (k : Int) < (N : Int) := by omega
        have hself := (After.refl wr).drew
        have HSM := Lib.hid (num_small k (by omega))
        obtain ⟨z, hz⟩ : ∃ z, z = (Tm.num k).text := ⟨_, rfl⟩
        have HZ := Lib.hid hz
        have HLN : Hid ((numsA k).length ≤ 1000000) := by show _ ≤ _; rw [numsA_len]; omega
        have HQS : Hid (q ≤ wr.heap.size) := by show _ ≤ _; have := (Array.getElem?_eq_some_iff.1 HBOX.out).1; omega
        clear hz
        have hA := HAW.out
        go_wp2_with fail
        rename_i KK hKK
        refine wp_region_tail (m := 7) (k := 3) (f := 12) (by kernel_rfl) (by kernel_rfl) (by kernel_rfl) (by kernel_rfl) After After.refl (fun _ _ _ h g => h.trans g)
          (rl [Sp.lit (.pointer (some ⟨q, 0, none⟩)), Sp.lit sv, Sp.lit (.int .i64 k), Sp.tv w.heap.size (Tm.num k), Sp.lit (str z), Sp.row wr.heap.size [z], Sp.rows wr.heap.size [z]]) rl_later (lt7 ?_ ?_ ?_ ?_ ?_ ?_ ?_) ?_
        · intro vs W hE hd K hK
          have hE' : After wr W := hself.trans hE
          exact do_rp (v := .pointer (some ⟨q, 0, none⟩)) (Sp.lit (.pointer (some ⟨q, 0, none⟩))).p (by kernel_rfl) (wanted_of (by kernel_rfl)) (by kernel_rfl) (After.refl W) rfl hK
        · intro vs W hE hd K hK
          have hE' : After wr W := hself.trans hE
          exact do_rp (v := sv) (Sp.lit sv).p (by kernel_rfl) (wanted_of (by kernel_rfl)) (run_ld_ss (x := .tmp 17) (u := vs 0) (by kernel_rfl) (by kernel_rfl) (hd 0 (by kernel_rfl)) (cell_of_heap (i := 0) (hE'.heap HBOX.out))) (After.refl W) rfl hK
        · intro vs W hE hd K hK
          have hE' : After wr W := hself.trans hE
          exact do_rp (v := .int .i64 k) (Sp.lit (.int .i64 k)).p (by kernel_rfl) (wanted_of (by kernel_rfl)) (by kernel_rfl) (After.refl W) rfl hK
        · intro vs W hE hd K hK
          have hE' : After wr W := hself.trans hE
          exact do_cp (Sp.tv w.heap.size (Tm.num k)).p (by kernel_rfl) (wanted_of (by kernel_rfl)) (f := 56) (args := #[vs 2]) (by kernel_rfl) (by rw [show vs 2 = .int .i64 k from hd 2 (by kernel_rfl)]; exact numeral_any W w.heap.size k (Nat.le_trans hA.size hE'.size) (by omega)) hK
        · intro vs W hE hd K hK
          have hE' : After wr W := hself.trans hE
          exact do_cp (Sp.lit (str z)).p (by kernel_rfl) (wanted_of (by kernel_rfl)) (f := 55) (args := #[vs 3]) (by kernel_rfl) ((textOf_any W w.heap.size (Tm.num k) (vs 3) (hd 3 (by kernel_rfl)) HSM.out.1 HSM.out.2.2).mono fun e w' h => ⟨_, h.1, h.2, by rw [HZ.out]; rfl⟩) hK
        · intro vs W hE hd K hK
          have hE' : After wr W := hself.trans hE
          exact do_rp (Sp.row wr.heap.size [z]).p (by kernel_rfl) (wanted_of (by kernel_rfl)) (run_row1 (x := .tmp 21) (u := vs 4) (by kernel_rfl) (by kernel_rfl) (hd 4 (by kernel_rfl))) (After.new _ _) (own_one W _ hE'.size z) hK
        · intro vs W hE hd K hK
          have hE' : After wr W := hself.trans hE
          have h5 : W.ownsRow wr.heap.size 9 1 (vs 5) ([z] : List (List UInt8)).length ([z].map str) := hd 5 (by kernel_rfl)
          obtain ⟨g5, c5, e5, _⟩ := h5.form (by simp)
          exact do_rp (Sp.rows wr.heap.size [z]).p (by kernel_rfl) (wanted_of (by kernel_rfl)) (run_rows1 (x := .tmp 22) (u := vs 5) (by kernel_rfl) (by kernel_rfl) e5) (After.new _ _) ⟨_, _, rfl, heap_new' _ _, rfl, by rw [← e5]; exact own_later h5 (After.new _ _)⟩ hK
        intro vs W hE hd
        have hE' : After wr W := hself.trans hE
        obtain ⟨b2, rv, eb2, hb2, _, hrow⟩ := hd 6 (by decide)
        refine tail_push2 (wr := wr) (m := 7) (q := q) (base := q) (b2 := b2) (sv := sv) (s := .tmp 18) (x := .tmp 23) (t := .tmp 4) (y := .tmp 25) (z := .tmp 24) (d7 := 24) (d8 := 25) (rv := rv)
          (by kernel_rfl) (by kernel_rfl) (by kernel_rfl) (by kernel_rfl) (by kernel_rfl) (by kernel_rfl) (by kernel_rfl) (by kernel_rfl) (by kernel_rfl) (by kernel_rfl) (by kernel_rfl) (by kernel_rfl)
          (Eq.trans (by kernel_rfl : _ = vs 1) (hd 1 (by decide))) (Eq.trans (by kernel_rfl : _ = vs 6) eb2) (fun v => by kernel_rfl) (fun v => by kernel_rfl) (fun v => by kernel_rfl) HOWN.out hE' HQS.out HLN.out (Nat.le_refl _) HBOX.out hrow hb2 (fun g cap w9 hown9 hbox9 hb9 => ?_)
        refine hKK _ _ ?_
        rw [frame_from 17 9 (by kernel_rfl) (by kernel_rfl) (by kernel_rfl), lit2_31_17_9]
        clear hd eb2 hb2 hrow
        generalize vs 0 = y0 at *
        generalize vs 1 = y1 at *
        generalize vs 2 = y2 at *
        generalize vs 3 = y3 at *
        generalize vs 4 = y4 at *
        generalize vs 5 = y5 at *
        generalize vs 6 = y6 at *
        go_wp2_with fail
        go_roundw
        case rel =>
          refine ⟨k + 1, _, by go_num, by omega, hbox9, ?_, ?_, ?_⟩
          · show OwnSS _ _ _ _
            rw [numsA_succ, ← HZ.out]
            exact hown9
          · show _ = _
            rw [hb9.block _ (by rw [HQ.out]; omega)]
            exact HRES.out
          · show After _ _
            exact Below.trans HAW.out (hb9.mono (by rw [HQ.out]; omega))
        case measure => simp [intOf]; omega
      · obtain rfl : k = N := by omega
        have hv := HVAL.out wr sv (HOWN.out.ssu (Nat.zero_le _))
        obtain ⟨ao, cap, rfl⟩ := HOWN.out.form
        obtain ⟨p0, p1, p2⟩ := one_facts HBOX.out (After.refl _)
        generalize (numsA k).length = L at *
        go_wp2_with fail
        refine hv.mono ?_
        rintro e w1 ⟨rfl, hb1⟩
        obtain ⟨r0, r1, r2⟩ := one_facts HRES.out hb1
        clear p0 p1 p2
        go_wp2_with fail
        refine bodyPost_ret (v := .tuple #[.agg #[.slice ao L cap], .bool true]) (by simp [results, Tryz.results21, go_sem, r0]) rfl ⟨_, rfl, ?_, ?_⟩
        · refine OwnSS.less (base := q) ((HOWN.out.later hb1).keptT fun b cs T fr hT hb => ?_) (by rw [HQ.out]; omega)
          rw [Below.heap_setCell _ _ _ _ (fun e => by have e' : b = w.heap.size := e; subst e'; rw [hb1.heap HRES.out] at hb; injection hb with hb; injection hb with _ hb _; exact hT hb.symm)]
          exact hb
        · exact Below.setCell (Below.trans HAW.out (hb1.mono (Nat.le_trans (Nat.le_refl _) HAW.out.size))) (Nat.le_refl _) _
  · rw [show pNums n = none by unfold pNums; rw [if_neg hn]]
    have hA0 := After.new w (.cells #[.slice none 0 0] 25)
    obtain ⟨r0, r1, r2⟩ := one_facts (heap_new' w (.cells #[.slice none 0 0] 25)) (After.refl _)
    have hfin : AsmOwn w none (.returned (.tuple #[.agg #[.slice none 0 0], .bool false])) (w.alloc (.cells #[.slice none 0 0] 25)) := ⟨_, rfl, OwnSS.nil _ _, hA0⟩
    by_cases hn1 : n < 1
    · go_enter Tryz.func21, Tryz.ntmps21
      go_wp2_with fail
      exact bodyPost_ret (v := .tuple #[.agg #[.slice none 0 0], .bool false]) (by simp [results, Tryz.results21, go_sem, r0]) rfl hfin
    · have hn6 : 6 < n := by omega
      go_enter Tryz.func21, Tryz.ntmps21
      go_wp2_with fail
      exact bodyPost_ret (v := .tuple #[.agg #[.slice none 0 0], .bool false]) (by simp [results, Tryz.results21, go_sem, r0]) rfl hfin
end Go.Proofs.YtfeeegnkmojpeaaGreat

namespace Go.Proofs.YtfeeegnkmojpeaaGreat
open Go.RowKit

set_option maxHeartbeats 2000000
set_option maxRecDepth 100000


theorem OwnSS.empty {w : World} {base g : Nat} (h : w.heap[g]? = some (.cells #[] 69 (0, 0))) (hb : base ≤ g) : OwnSS w base (.slice (some ⟨g, 0, none⟩) 0 0) [] :=
  ⟨[], ⟨rfl, Or.inr ⟨g, 0, #[], rfl, hb, h, Nat.le_refl _, Nat.zero_le _, rfl, rfl⟩⟩, fun j h => absurd h (Nat.not_lt_zero j), fun i j ri rj _ h => by simp at h⟩

theorem spec_nums (w : World) (n : Int) : Calls Tryz.prog 22 #[.int .i64 n] w (AsmOwn w (pNums n)) := by
  have hA1 := After.new w (.cells #[.slice none 0 0] 25)
  by_cases hn : 1 ≤ n ∧ n ≤ 6
  · obtain ⟨N, rfl⟩ : ∃ N : Nat, n = N := ⟨n.toNat, by omega⟩
    have hin := fun W => s_in W N 1 6 true (by rw [decide_eq_true_eq]; exact hn)
    rw [show pNums (N : Int) = some (numsA N) by unfold pNums; rw [if_pos hn, Int.toNat_natCast]]
    have hN6 : N ≤ 6 := by omega
    have hok := nums_ok N (by omega) (by omega)
    have hlens := nums_lens N (by omega)
    have hval := fun W sv (h : SSU 0 W sv (numsA N)) => s_asmValid W sv (numsA N) h ⟨by have := hlens.1; omega, fun ns hs => ⟨by have := (hlens.2 ns hs).1; omega, fun s h => by have := (hlens.2 ns hs).2 s h; omega⟩⟩
    rw [hok] at hval
    obtain ⟨os, hos⟩ : ∃ os : List Obj, os = [.cells #[.slice none 0 0] 25, .cells #[] 69, .cells #[.slice (some ⟨w.heap.size + 1, 0, none⟩) 0 0] 25] := ⟨_, rfl⟩
    have hX : allocL w os = ((w.alloc (.cells #[.slice none 0 0] 25)).alloc (.cells #[] 69)).alloc (.cells #[.slice (some ⟨w.heap.size + 1, 0, none⟩) 0 0] 25) := by rw [hos]; rfl
    have hA0 : After w (allocL w os) := allocL_below w os
    have hr0 : (allocL w os).heap[w.heap.size]? = some (.cells #[.slice none 0 0] 25 (0, 0)) := by have := allocL_heap w os 0 (by rw [hos]; simp); simpa [hos] using this
    have he0 : (allocL w os).heap[w.heap.size + 1]? = some (.cells #[] 69 (0, 0)) := by have := allocL_heap w os 1 (by rw [hos]; simp); simpa [hos] using this
    have hb0 : (allocL w os).heap[w.heap.size + 1 + 1]? = some (.cells #[.slice (some ⟨w.heap.size + 1, 0, none⟩) 0 0] 25 (0, 0)) := by have := allocL_heap w os 2 (by rw [hos]; simp); simpa [hos] using this
    have ho0 := OwnSS.empty (base := w.heap.size + 1) he0 (Nat.le_refl _)
    rw [hX] at hA0 hr0 hb0 ho0
    have HVAL := Lib.hid hval
    have HA0 := Lib.hid hA0
    have HR0 := Lib.hid hr0
    have HB0 := Lib.hid hb0
    have HO0 := Lib.hid ho0
    clear hok hlens hval hA0 hr0 hb0 ho0 he0 hX hos
    go_enter Tryz.func22, Tryz.ntmps22
    go_wp2_with (go_at_call 43; refine (hin _).mono ?_; rintro e w1 ⟨rfl, rfl⟩)
    obtain ⟨base, hbs⟩ : ∃ base, base = w.heap.size + 1 := ⟨_, rfl⟩
    obtain ⟨q, hq⟩ : ∃ q, q = base + 1 := ⟨_, rfl⟩
    simp only [← hbs, ← hq] at HB0 HO0 HR0 HA0 ⊢
    have HBS := Lib.hid hbs
    have HQ := Lib.hid hq
    clear hbs hq
    generalize (((w.alloc (.cells #[.slice none 0 0] 25)).alloc (.cells #[] 69)).alloc (.cells #[.slice (some ⟨base, 0, none⟩) 0 0] 25)) = w0 at *
    go_loopw [5] (fun i wr => ∃ (k : Nat) (sv : Value), i = .int .i64 k ∧ k ≤ N ∧ Hid (wr.heap[q]? = some (.cells #[sv] 25 (0, 0))) ∧ Hid (OwnSS wr base sv (numsA k)) ∧ Hid (wr.heap[w.heap.size]? = some (.cells #[.slice none 0 0] 25 (0, 0))) ∧ Hid (After w wr)) (fun i _ => N - (intOf i).toNat)
    case atStart => exact ⟨0, _, rfl, Nat.zero_le _, HB0, HO0, HR0, HA0⟩
    case round =>
      obtain ⟨k, sv, rfl, hk, HBOX, HOWN, HRES, HAW⟩ := hrel
      by_cases hlt : k < N
      · have hlt' : (k : Int) < (N : Int) := by omega
        have hself := (After.refl wr).drew
        have HSM := Lib.hid (num_small k (by omega))
        obtain ⟨z, hz⟩ : ∃ z, z = (Tm.num k).text := ⟨_, rfl⟩
        have HZ := Lib.hid hz
        have HLN : Hid ((numsA k).length ≤ 1000000) := by show _ ≤ _; rw [numsA_len]; omega
        have HBQ : Hid (base ≤ q) := by show _ ≤ _; rw [HQ.out]; omega
        have HQS : Hid (base ≤ wr.heap.size) := by show _ ≤ _; have := (Array.getElem?_eq_some_iff.1 HBOX.out).1; have := HBQ.out; omega
        clear hz
        have hA := HAW.out
        go_wp2_with fail
        rename_i KK hKK
        refine wp_region_tail (m := 7) (k := 3) (f := 12) (by kernel_rfl) (by kernel_rfl) (by kernel_rfl) (by kernel_rfl) After After.refl (fun _ _ _ h g => h.trans g)
          (rl [Sp.lit (.pointer (some ⟨q, 0, none⟩)), Sp.lit sv, Sp.lit (.int .i64 k), Sp.tree (Tm.num k), Sp.lit (str z), Sp.row wr.heap.size [z], Sp.rows wr.heap.size [z]]) rl_later (lt7 ?_ ?_ ?_ ?_ ?_ ?_ ?_) ?_
        · intro vs W hE hd K hK
          have hE' : After wr W := hself.trans hE
          exact do_rp (v := .pointer (some ⟨q, 0, none⟩)) (Sp.lit (.pointer (some ⟨q, 0, none⟩))).p (by kernel_rfl) (wanted_of (by kernel_rfl)) (by kernel_rfl) (After.refl W) rfl hK
        · intro vs W hE hd K hK
          have hE' : After wr W := hself.trans hE
          exact do_rp (v := sv) (Sp.lit sv).p (by kernel_rfl) (wanted_of (by kernel_rfl)) (run_ld_ss (x := .tmp 17) (u := vs 0) (by kernel_rfl) (by kernel_rfl) (hd 0 (by kernel_rfl)) (cell_of_heap (i := 0) (hE'.heap HBOX.out))) (After.refl W) rfl hK
        · intro vs W hE hd K hK
          have hE' : After wr W := hself.trans hE
          exact do_rp (v := .int .i64 k) (Sp.lit (.int .i64 k)).p (by kernel_rfl) (wanted_of (by kernel_rfl)) (by kernel_rfl) (After.refl W) rfl hK
        · intro vs W hE hd K hK
          have hE' : After wr W := hself.trans hE
          exact do_cp (Sp.tree (Tm.num k)).p (by kernel_rfl) (wanted_of (by kernel_rfl)) (f := 58) (args := #[vs 2]) (by kernel_rfl) (by rw [show vs 2 = .int .i64 k from hd 2 (by kernel_rfl)]; exact (s_number W k (by omega)).mono fun e w' ⟨s, ao, n, c, he, ha, ht⟩ => ⟨_, he, ha, ht⟩) hK
        · intro vs W hE hd K hK
          have hE' : After wr W := hself.trans hE
          exact do_cp (Sp.lit (str z)).p (by kernel_rfl) (wanted_of (by kernel_rfl)) (f := 57) (args := #[vs 3]) (by kernel_rfl) ((ST.text (show ST W (Tm.num k) (vs 3) from hd 3 (by kernel_rfl)) HSM.out.1 (by have := HSM.out.2.2; omega)).mono fun e w' h => ⟨_, h.1, h.2, by rw [HZ.out]; rfl⟩) hK
        · intro vs W hE hd K hK
          have hE' : After wr W := hself.trans hE
          exact do_rp (Sp.row wr.heap.size [z]).p (by kernel_rfl) (wanted_of (by kernel_rfl)) (run_row1 (x := .tmp 21) (u := vs 4) (by kernel_rfl) (by kernel_rfl) (hd 4 (by kernel_rfl))) (After.new _ _) (own_one W _ hE'.size z) hK
        · intro vs W hE hd K hK
          have hE' : After wr W := hself.trans hE
          have h5 : W.ownsRow wr.heap.size 9 1 (vs 5) ([z] : List (List UInt8)).length ([z].map str) := hd 5 (by kernel_rfl)
          obtain ⟨g5, c5, e5, _⟩ := h5.form (by simp)
          exact do_rp (Sp.rows wr.heap.size [z]).p (by kernel_rfl) (wanted_of (by kernel_rfl)) (run_rows1 (x := .tmp 22) (u := vs 5) (by kernel_rfl) (by kernel_rfl) e5) (After.new _ _) ⟨_, _, rfl, heap_new' _ _, rfl, by rw [← e5]; exact own_later h5 (After.new _ _)⟩ hK
        intro vs W hE hd
        have hE' : After wr W := hself.trans hE
        obtain ⟨b2, rv, eb2, hb2, _, hrow⟩ := hd 6 (by decide)
        refine tail_push2 (wr := wr) (m := 7) (q := q) (base := base) (b2 := b2) (sv := sv) (s := .tmp 18) (x := .tmp 23) (t := .tmp 4) (y := .tmp 25) (z := .tmp 24) (d7 := 24) (d8 := 25) (rv := rv)
          (by kernel_rfl) (by kernel_rfl) (by kernel_rfl) (by kernel_rfl) (by kernel_rfl) (by kernel_rfl) (by kernel_rfl) (by kernel_rfl) (by kernel_rfl) (by kernel_rfl) (by kernel_rfl) (by kernel_rfl)
          (Eq.trans (by kernel_rfl : _ = vs 1) (hd 1 (by decide))) (Eq.trans (by kernel_rfl : _ = vs 6) eb2) (fun v => by kernel_rfl) (fun v => by kernel_rfl) (fun v => by kernel_rfl) HOWN.out hE' HQS.out HLN.out HBQ.out HBOX.out hrow hb2 (fun g cap w9 hown9 hbox9 hb9 => ?_)
        refine hKK _ _ ?_
        rw [frame_from 17 9 (by kernel_rfl) (by kernel_rfl) (by kernel_rfl), lit2_31_17_9]
        clear hd eb2 hb2 hrow
        generalize vs 0 = y0 at *
        generalize vs 1 = y1 at *
        generalize vs 2 = y2 at *
        generalize vs 3 = y3 at *
        generalize vs 4 = y4 at *
        generalize vs 5 = y5 at *
        generalize vs 6 = y6 at *
        go_wp2_with fail
        go_roundw
        case rel =>
          refine ⟨k + 1, _, by go_num, by omega, hbox9, ?_, ?_, ?_⟩
          · show OwnSS _ _ _ _
            rw [numsA_succ, ← HZ.out]
            exact hown9
          · show _ = _
            rw [hb9.block _ (by rw [HBS.out]; omega)]
            exact HRES.out
          · show After _ _
            exact Below.trans HAW.out (hb9.mono (by rw [HBS.out]; omega))
        case measure => simp [intOf]; omega
      · obtain rfl : k = N := by omega
        have hv := HVAL.out wr sv (HOWN.out.ssu (Nat.zero_le _))
        obtain ⟨ao, cap, rfl⟩ := HOWN.out.form
        obtain ⟨p0, p1, p2⟩ := one_facts HBOX.out (After.refl _)
        generalize (numsA k).length = L at *
        go_wp2_with fail
        refine hv.mono ?_
        rintro e w1 ⟨rfl, hb1⟩
        obtain ⟨r0, r1, r2⟩ := one_facts HRES.out hb1
        obtain ⟨s0, s1, s2⟩ := one_facts HBOX.out hb1
        clear p0 p1 p2
        go_wp2_with fail
        refine bodyPost_ret (v := .tuple #[.agg #[.slice ao L cap], .bool true]) (by simp [results, Tryz.results22, go_sem, r0]) rfl ⟨_, rfl, ?_, ?_⟩
        · refine OwnSS.less (base := base) ((HOWN.out.later hb1).keptT fun b cs T fr hT hb => ?_) (by rw [HBS.out]; omega)
          rw [Below.heap_setCell _ _ _ _ (fun e => by have e' : b = w.heap.size := e; subst e'; rw [hb1.heap HRES.out] at hb; injection hb with hb; injection hb with _ hb _; exact hT hb.symm)]
          exact hb
        · exact Below.setCell (Below.trans HAW.out (hb1.mono (Nat.le_trans (Nat.le_refl _) HAW.out.size))) (Nat.le_refl _) _
  · rw [show pNums n = none by unfold pNums; rw [if_neg hn]]
    have hin := fun W => s_in W n 1 6 false (by rw [decide_eq_false_iff_not]; exact hn)
    obtain ⟨r0, r1, r2⟩ := one_facts (heap_new' w (.cells #[.slice none 0 0] 25)) (After.refl _)
    have hfin : AsmOwn w none (.returned (.tuple #[.agg #[.slice none 0 0], .bool false])) (w.alloc (.cells #[.slice none 0 0] 25)) := ⟨_, rfl, OwnSS.nil _ _, hA1⟩
    go_enter Tryz.func22, Tryz.ntmps22
    go_wp2_with (go_at_call 43; refine (hin _).mono ?_; rintro e w1 ⟨rfl, rfl⟩)
    exact bodyPost_ret (v := .tuple #[.agg #[.slice none 0 0], .bool false]) (by simp [results, Tryz.results22, go_sem, r0]) rfl hfin
end Go.Proofs.YtfeeegnkmojpeaaGreat

namespace Go.Proofs.YtfeeegnkmojpeaaGreat
open Go.RowKit

set_option maxHeartbeats 1000000
set_option maxRecDepth 100000

/-- The digits of a number before what is there. -/
def dig10 : Nat → Nat → List UInt8 → List UInt8
  | 0, _, acc => acc
  | f + 1, k, acc => if k = 0 then acc else dig10 f (k / 10) (UInt8.ofNat (48 + k % 10) :: acc)

def markT (k : Nat) : List UInt8 := 109 :: dig10 k k []

theorem dig10_step (f k : Nat) (acc : List UInt8) (hk : 0 < k) (hf : k ≤ f) : dig10 f k acc = dig10 (f - 1) (k / 10) (UInt8.ofNat (48 + k % 10) :: acc) := by
  obtain ⟨g, rfl⟩ : ∃ g, f = g + 1 := ⟨f - 1, by omega⟩
  simp only [dig10, if_neg (show ¬ k = 0 by omega), Nat.add_sub_cancel]

theorem l_text (w : World) (k : Nat) (hk : 0 < k) (hk2 : k ≤ 1000000000) :
    Calls Tryz.prog 134 #[.int .i64 k] w fun e w' => e = .returned (str (markT k)) ∧ After w w' := by
  have hstart : Hid (markT k = 109 :: dig10 k k []) := rfl
  generalize markT k = r at *
  go_enter Tryz.func134, Tryz.ntmps134
  go_wp2_with fail
  go_loopw [0, 3] (fun a b wr => ∃ (m f : Nat) (acc : List UInt8), a = .int .i64 m ∧ b = str acc ∧ m ≤ f ∧ m ≤ k ∧ acc.length + f ≤ k ∧ After w wr ∧ Hid (r = 109 :: dig10 f m acc)) (fun a _ _ => (intOf a).toNat)
  case atStart => exact ⟨k, k, [], rfl, by simp, Nat.le_refl _, Nat.le_refl _, by simp, After.refl _, hstart⟩
  case round =>
    obtain ⟨m, f, acc, rfl, rfl, hmf, hmk, hlen, hA, hr⟩ := hrel
    clear hstart
    by_cases hm : 0 < m
    · obtain ⟨c, hc⟩ : ∃ c : UInt8, c = UInt8.ofNat (48 + m % 10) := ⟨_, rfl⟩
      have hcn : (48 + (m : Int) % 10) = (c.toNat : Int) := by
        have : c.toNat = 48 + m % 10 := by rw [hc, UInt8.toNat_ofNat']; omega
        omega
      have hown : Own (wr.alloc (.cells #[.int .u8 (48 + (m : Int) % 10)] 5)) wr.heap.size (.slice (some ⟨wr.heap.size, 0, none⟩) 1 1) [c] := by
        have := World.ownsRow_lit (base := wr.heap.size) (e := 5) (size := 1) wr #[.int .u8 (48 + (m : Int) % 10)] 1 (Nat.le_refl _) (by decide) (by simp)
        unfold Own
        simpa [bcells, hcn] using this
      have hconv := run_text hown (by simp)
      have hadd : ∀ W, (Op.stringOp .add ⟨[c].toArray⟩ ⟨acc.toArray⟩).run Tryz.prog W = .ok (str (c :: acc)) W := by
        have h1 : (⟨[c].toArray⟩ : ByteArray).size = 1 := rfl
        have h2 : (⟨acc.toArray⟩ : ByteArray).size = acc.length := by show acc.toArray.size = _; simp
        obtain ⟨t, hl, _, he⟩ := cat ⟨[c].toArray⟩ ⟨acc.toArray⟩ (by omega)
        have : (.string t : Value) = str (c :: acc) := congrArg Value.string (ByteArray.ext (Array.ext' (by rw [hl]; simp)))
        rw [← this]; exact he
      have HS : Hid (r = 109 :: dig10 (f - 1) (m / 10) (c :: acc)) := by show _ = _; rw [hr.out, dig10_step f m acc hm hmf, hc]
      have hA2 := hA.alloc (.cells #[.int .u8 (48 + (m : Int) % 10)] 5)
      clear hr hown hcn hc
      go_wp2_with fail
      go_roundw
      case rel => exact ⟨m / 10, f - 1, c :: acc, by go_num, rfl, by omega, by omega, by simp; omega, hA2, HS⟩
      case measure => simp [intOf]; omega
    · obtain rfl : m = 0 := by omega
      have hadd : ∀ W, (Op.stringOp .add ⟨#[109]⟩ ⟨acc.toArray⟩).run Tryz.prog W = .ok (str (109 :: acc)) W := by
        have h1 : (⟨#[109]⟩ : ByteArray).size = 1 := rfl
        have h2 : (⟨acc.toArray⟩ : ByteArray).size = acc.length := by show acc.toArray.size = _; simp
        obtain ⟨t, hl, _, he⟩ := cat ⟨#[109]⟩ ⟨acc.toArray⟩ (by omega)
        have : (.string t : Value) = str (109 :: acc) := congrArg Value.string (ByteArray.ext (Array.ext' (by rw [hl]; simp)))
        rw [← this]; exact he
      have HS : Hid (r = 109 :: acc) := by show _ = _; rw [hr.out]; cases f <;> simp [dig10]
      clear hr
      go_wp2_with fail
      go_ret
      exact ⟨by rw [HS.out]; rfl, hA⟩

/-! ### lists that are alike -/

theorem l_eq (w : World) (a b : Value) (ns : List (List UInt8)) (ha : Strs w a ns) (hb : Strs w b ns) (hn : ns.length ≤ 1000000000) :
    Calls Tryz.prog 103 #[a, b] w fun e w' => e = .returned (.bool true) ∧ After w w' := by
  by_cases h0 : ns = []
  · subst h0
    have form : ∀ v, Strs w v [] → ∃ ao cap, v = .slice ao 0 cap := fun v h => by
      rcases h with ⟨rfl, _⟩ | ⟨b, off, cap, rfl, _⟩
      · exact ⟨_, _, rfl⟩
      · exact ⟨_, _, rfl⟩
    obtain ⟨ao, ac, rfl⟩ := form a ha
    obtain ⟨bo, bc, rfl⟩ := form b hb
    clear ha hb form
    go_enter Tryz.func103, Tryz.ntmps103
    go_wp2_with fail
    go_loop [5] (fun i => i = .int .i64 0) (fun _ => 0)
    case atStart => rfl
    case round =>
      obtain rfl := hrel
      go_wp2_with fail
      go_ret
      exact ⟨rfl, After.refl _⟩
  · rcases ha with ⟨_, h⟩ | ⟨x, xo, xc, rfl, hca⟩
    · exact absurd h h0
    rcases hb with ⟨_, h⟩ | ⟨y, yo, yc, rfl, hcb⟩
    · exact absurd h h0
    have HA := Lib.hid hca
    have HB := Lib.hid hcb
    clear hca hcb
    go_enter Tryz.func103, Tryz.ntmps103
    go_wp2_with fail
    go_loopw [5] (fun i wr => ∃ k : Nat, i = .int .i64 k ∧ k ≤ ns.length ∧ After w wr) (fun i _ => ns.length - (intOf i).toNat)
    case atStart => exact ⟨0, rfl, Nat.zero_le _, After.refl _⟩
    case round =>
      obtain ⟨k, rfl, hk, hA⟩ := hrel
      by_cases hlt : k < ns.length
      · have h1 := hA.cell (HA.out k hlt)
        have h2 := hA.cell (HB.out k hlt)
        generalize ns[k] = z at h1 h2
        have hlt' : (k : Int) < (ns.length : Int) := by omega
        go_wp2_with fail
        go_quiet (fail)
        go_wp2_with fail
        go_roundw
        case rel => exact ⟨k + 1, by go_num, by omega, ⟨hA.os, hA.tape, hA.output, hA.size, hA.block⟩⟩
        case measure => simp [intOf]; omega
      · go_wp2_with fail
        go_ret
        exact ⟨rfl, hA⟩

/-! ### marks -/

def marks (k0 n : Nat) : List (List UInt8) := (List.range n).map fun i => markT (k0 + i)

theorem marks_len (k0 n : Nat) : (marks k0 n).length = n := by simp [marks]
theorem marks_at (k0 n j : Nat) (h : j < (marks k0 n).length) : (marks k0 n)[j] = markT (k0 + j) := by simp [marks]
theorem marks_succ (k0 n : Nat) : marks k0 (n + 1) = marks k0 n ++ [markT (k0 + n)] := by simp [marks, List.range_succ]

theorem marks_set (k0 j : Nat) (ns : List (List UInt8)) (hj : j < ns.length) : ((marks k0 j ++ ns.drop j).map str).set j (str (markT (k0 + j))) = (marks k0 (j + 1) ++ ns.drop (j + 1)).map str := by
  rw [List.drop_eq_getElem_cons hj, marks_succ, List.map_append, List.set_append_right _ _ (by simp [marks_len]), List.map_cons, List.length_map, marks_len, Nat.sub_self, List.set_cons_zero]
  simp

theorem grew_after {a b : World} (h : After a b) : a.grownBy b none := ⟨h.os, h.tape, h.output, h.size, fun k hk _ => h.block k hk⟩

theorem l_mark (w : World) (base : Nat) (sv : Value) (ns : List (List UInt8)) (k0 : Nat) (ho : w.ownsRow base 9 1 sv ns.length (ns.map str)) (hk0 : 0 < k0) (hn : k0 + ns.length ≤ 1000000000) :
    Calls Tryz.prog 104 #[sv, .int .i64 k0] w fun e w' => e = .returned (.int .i64 ((k0 + ns.length : Nat) : Int)) ∧ w'.ownsRow base 9 1 sv ns.length ((marks k0 ns.length).map str) ∧ w.grownBy w' sv.ownBlock := by
  rcases ho.2 with ⟨rfl, h0⟩ | ⟨g, cap, cur, rfl, _⟩
  · have : ns = [] := List.length_eq_zero_iff.1 h0
    subst this
    have HO := Lib.hid ho
    clear ho h0
    go_enter Tryz.func104, Tryz.ntmps104
    go_wp2_with fail
    go_loop [1, 5] (fun kv i => kv = .int .i64 k0 ∧ i = .int .i64 0) (fun _ _ => 0)
    case atStart => exact ⟨rfl, rfl⟩
    case round =>
      obtain ⟨rfl, rfl⟩ := hrel
      go_wp2_with fail
      go_ret
      exact ⟨rfl, HO.out, grew_refl _ _⟩
  · obtain ⟨n, hnn⟩ : ∃ n, n = ns.length := ⟨_, rfl⟩
    rw [← hnn] at ho hn ⊢
    have hstart : Hid (w.ownsRow base 9 1 (.slice (some ⟨g, 0, none⟩) n cap) n ((marks k0 0 ++ ns.drop 0).map str)) := by show World.ownsRow _ _ _ _ _ _ _; simpa [marks] using ho
    have HN := Lib.hid hnn
    clear ho hnn
    go_enter Tryz.func104, Tryz.ntmps104
    go_wp2_with fail
    go_loopw [1, 5] (fun kv i wr => ∃ (j m : Nat), Hid (m = k0 + j) ∧ kv = .int .i64 m ∧ i = .int .i64 j ∧ j ≤ n ∧ Hid (wr.ownsRow base 9 1 (.slice (some ⟨g, 0, none⟩) n cap) n ((marks k0 j ++ ns.drop j).map str)) ∧ w.grownBy wr (some g)) (fun _ i _ => n - (intOf i).toNat)
    case atStart => exact ⟨0, k0, by show _ = _; rfl, rfl, rfl, Nat.zero_le _, hstart, grew_refl _ _⟩
    case round =>
      obtain ⟨j, m, hm, rfl, rfl, hj, hrow, hgr⟩ := hrel
      have hmb : m ≤ 1000000000 := by have := hm.out; omega
      clear hstart
      by_cases hlt : j < n
      · have hcall := l_text wr m (by have := hm.out; omega) (by have := hm.out; omega)
        obtain ⟨z, hz⟩ : ∃ z, z = markT m := ⟨_, rfl⟩
        rw [← hz] at hcall
        have HZ := Lib.hid hz
        have hkeep : ∀ W, After wr W → W.cell? ⟨g, j, none⟩ = ((marks k0 j ++ ns.drop j).map str)[j]? ∧ W.frozen? ⟨g, j, none⟩ = false := fun W hW => by
          have h := hrow.out.kept (grew_after hW) (Or.inr (by simp [Value.ownBlock]))
          exact ⟨h.cellAt j (by omega), h.frozenAt j⟩
        have hsome : ((marks k0 j ++ ns.drop j).map str)[j]? = some (str (ns.getD j [])) := by
          have h1 : j < ns.length := by rw [← HN.out]; exact hlt
          rw [List.getElem?_map, List.getElem?_append_right (by rw [marks_len]; exact Nat.le_refl _), marks_len, Nat.sub_self, List.getElem?_drop, Nat.add_zero, List.getElem?_eq_getElem h1]
          simp [List.getD, h1]
        rw [hsome] at hkeep
        have HK := Lib.hid hkeep
        clear hsome hkeep hz
        generalize ns.getD j [] = y at HK
        go_wp2_with fail
        refine hcall.mono ?_
        rintro e w1 ⟨rfl, hb1⟩
        obtain ⟨h1, h2⟩ := HK.out w1 hb1
        go_wp2_with fail
        go_roundw
        case rel =>
          refine ⟨j + 1, m + 1, by show _ = _; have := hm.out; omega, by go_num, by go_num, by omega, ?_, ?_⟩
          · have h := (hrow.out.kept (grew_after hb1) (Or.inr (by simp [Value.ownBlock]))).stored j (str z)
            rw [HZ.out, hm.out, marks_set k0 j ns (by rw [← HN.out]; exact hlt), ← hm.out, ← HZ.out] at h
            exact h.1
          · refine ⟨hb1.os.trans hgr.os, hb1.tape.trans hgr.tape, hb1.output.trans hgr.output, by have h1 := hgr.size; have h2 := hb1.size; simp [World.setCell]; omega, fun b hb hne => ?_⟩
            rw [Below.heap_setCell _ _ _ _ (by intro e; exact hne (by rw [e])), hb1.block b (Nat.lt_of_lt_of_le hb hgr.size)]
            exact hgr.block b hb hne
        case measure => simp [intOf]; omega
      · obtain rfl : j = n := by omega
        have HR := Lib.hid hrow.out
        clear hrow
        go_wp2_with fail
        go_ret
        refine ⟨by rw [← hm.out]; rfl, ?_, hgr⟩
        have h := HR.out
        rw [List.drop_eq_nil_of_le (by rw [← HN.out]; exact Nat.le_refl _), List.append_nil] at h
        exact h

theorem l_held (w : World) (sv : Value) (n k0 : Nat) (h : Strs w sv (marks k0 n)) (hk0 : 0 < k0) (hn : k0 + n ≤ 1000000000) :
    Calls Tryz.prog 105 #[sv, .int .i64 k0] w fun e w' => e = .returned (.int .i64 ((k0 + n : Nat) : Int)) ∧ After w w' := by
  rcases h with ⟨rfl, h0⟩ | ⟨b, off, cap, rfl, hc⟩
  · have : n = 0 := by have := congrArg List.length h0; simpa [marks_len] using this
    subst this
    clear h0
    go_enter Tryz.func105, Tryz.ntmps105
    go_wp2_with fail
    go_loop [1, 5] (fun kv i => kv = .int .i64 k0 ∧ i = .int .i64 0) (fun _ _ => 0)
    case atStart => exact ⟨rfl, rfl⟩
    case round =>
      obtain ⟨rfl, rfl⟩ := hrel
      go_wp2_with fail
      go_ret
      exact ⟨rfl, After.refl _⟩
  · have hc' : ∀ j, j < n → w.cell? ⟨b, off + j, none⟩ = some (str (markT (k0 + j))) := fun j hj => by
      have := hc j (by rw [marks_len]; exact hj)
      rwa [marks_at] at this
    simp only [marks_len]
    have HC := Lib.hid hc'
    clear hc hc'
    go_enter Tryz.func105, Tryz.ntmps105
    go_wp2_with fail
    go_loopw [1, 5] (fun kv i wr => ∃ (j m : Nat), Hid (m = k0 + j) ∧ kv = .int .i64 m ∧ i = .int .i64 j ∧ j ≤ n ∧ After w wr) (fun _ i _ => n - (intOf i).toNat)
    case atStart => exact ⟨0, k0, by show _ = _; rfl, rfl, rfl, Nat.zero_le _, After.refl _⟩
    case round =>
      obtain ⟨j, m, hm, rfl, rfl, hj, hA⟩ := hrel
      have hmb : m ≤ 1000000000 := by have := hm.out; omega
      by_cases hlt : j < n
      · have hcall := fun W => l_text W m (by have := hm.out; omega) (by have := hm.out; omega)
        have hx : ∀ W, After wr W → W.cell? ⟨b, off + j, none⟩ = some (str (markT m)) := fun W hW => by rw [hm.out]; exact (hA.trans hW).cell (HC.out j hlt)
        have hself := After.refl wr
        have hlt' : (j : Int) < (n : Int) := by omega
        generalize markT m = z at hcall hx
        go_wp2_with fail
        go_region_held3 (fun W' => After wr W') (first | assumption | exact hself.drew | go_keep)
          ((go_at_call 134; refine (hcall _).mono ?_; rintro e w1 ⟨rfl, hb1⟩; have hb1' := After.trans (by first | assumption | exact hself.drew) hb1))
        all_goals
          go_wp2_with fail
          go_roundw
          case rel => exact ⟨j + 1, m + 1, by show _ = _; have := hm.out; omega, by go_num, by go_num, by omega, hA.trans hb1'⟩
          case measure => simp [intOf]; omega
      · obtain rfl : j = n := by omega
        go_wp2_with fail
        go_ret
        exact ⟨by rw [← hm.out]; rfl, hA⟩
end Go.Proofs.YtfeeegnkmojpeaaGreat

namespace Go.Proofs.YtfeeegnkmojpeaaGreat
open Go.RowKit

set_option maxHeartbeats 1000000
set_option maxRecDepth 100000

/-- How many texts stand ahead of row j. -/
def offA (a : List (List (List UInt8))) (j : Nat) : Nat := ((List.range j).map fun i => (a.getD i []).length).sum
theorem offA_succ (a : List (List (List UInt8))) (j : Nat) : offA a (j + 1) = offA a j + (a.getD j []).length := by simp [offA, List.range_succ]
theorem offA_mono (a : List (List (List UInt8))) {i j : Nat} (h : i ≤ j) : offA a i ≤ offA a j := by
  induction h with
  | refl => exact Nat.le_refl _
  | step _ ih => rw [offA_succ]; omega

/-- The first i rows marked. -/
def mixA (k0 : Nat) (a : List (List (List UInt8))) (i : Nat) : List (List (List UInt8)) := (List.range a.length).map fun j => if j < i then marks (k0 + offA a j) (a.getD j []).length else a.getD j []
theorem mixA_len (k0 : Nat) (a : List (List (List UInt8))) (i : Nat) : (mixA k0 a i).length = a.length := by simp [mixA]
theorem mixA_at (k0 : Nat) (a : List (List (List UInt8))) (i j : Nat) (h : j < a.length) : (mixA k0 a i).getD j [] = if j < i then marks (k0 + offA a j) (a.getD j []).length else a.getD j [] := by simp [mixA, List.getD, h]
theorem mixA_zero (k0 : Nat) (a : List (List (List UInt8))) : mixA k0 a 0 = a := by
  apply List.ext_getElem?
  intro i
  by_cases h : i < a.length
  · simp [mixA, h, List.getD]
  · simp [mixA, h]

/-- One row is written anew. -/
theorem OwnSS.setRow {w w' : World} {base : Nat} {sv rv : Value} {a a' : List (List (List UInt8))} {xs : List (List UInt8)} {j : Nat} {cs : List Value} (ho : w.ownsRow base 69 1 sv a.length cs)
    (hc : ∀ j, j < a.length → ∃ rv, cs[j]? = some rv ∧ w.ownsRow base 9 1 rv (a.getD j []).length ((a.getD j []).map str)) (hd : ∀ (i j : Nat) (ri rj : Value), i < j → cs[i]? = some ri → cs[j]? = some rj → ri.ownBlock = none ∨ ri.ownBlock ≠ rj.ownBlock)
    (hj : j < a.length) (hrv : cs[j]? = some rv) (hx : w'.ownsRow base 9 1 rv xs.length (xs.map str)) (hg : w.grownBy w' rv.ownBlock) (hl : a'.length = a.length) (hat : a'.getD j [] = xs) (hne : ∀ i, i ≠ j → i < a.length → a'.getD i [] = a.getD i []) : OwnSS w' base sv a' := by
  obtain ⟨rv0, h1, hrow⟩ := hc j hj
  rw [hrv] at h1
  injection h1 with h1
  subst h1
  refine ⟨cs, by rw [hl]; exact own_keptT ho fun b cs fr hb => row_keeps hrow hg b cs _ fr (by decide) hb, fun i hi => ?_, hd⟩
  rw [hl] at hi
  by_cases hij : i = j
  · subst hij
    rw [hat]
    exact ⟨rv, hrv, hx⟩
  · rw [hne i hij hi]
    obtain ⟨ri, h1, h2⟩ := hc i hi
    refine ⟨ri, h1, h2.kept hg ?_⟩
    rcases Nat.lt_or_ge i j with h | h
    · exact hd i j ri rv h h1 hrv
    · rcases hd j i rv ri (by omega) hrv h1 with h | h
      · cases hri : ri.ownBlock with
        | none => exact Or.inl rfl
        | some k => right; rw [h]; simp
      · exact Or.inr (fun e => h e.symm)

/-- All but texts stays. -/
def KeptS (w w' : World) : Prop := ∀ (b : Nat) (cs : Array Value) (T : TypeId) (fr : Nat × Nat), T ≠ 9 → w.heap[b]? = some (.cells cs T fr) → w'.heap[b]? = some (.cells cs T fr)
theorem KeptS.refl (w : World) : KeptS w w := fun _ _ _ _ _ h => h
theorem KeptS.trans {a b c : World} (h : KeptS a b) (g : KeptS b c) : KeptS a c := fun q cs T fr hT hq => g q cs T fr hT (h q cs T fr hT hq)

/-- What lies from hi on stays. -/
def FrameHi (hi : Nat) (w w' : World) : Prop := ∀ b, hi ≤ b → b < w.heap.size → w'.heap[b]? = w.heap[b]?
/-- The rows lie below hi. -/
def RowsLo (hi : Nat) (w : World) (base : Nat) (sv : Value) (n : Nat) : Prop := ∀ cs : List Value, w.ownsRow base 69 1 sv n cs → ∀ (j : Nat) (rv : Value) (k : Nat), cs[j]? = some rv → rv.ownBlock = some k → k < hi
theorem OwnSS.lo {w : World} {base : Nat} {sv : Value} {a : List (List (List UInt8))} (h : OwnSS w base sv a) : RowsLo w.heap.size w base sv a.length := by
  intro cs' hcs' j rv k hj hk
  obtain ⟨cs, ho, hc, _⟩ := h
  obtain rfl := own_unique hcs' ho
  have hjl : j < a.length := by have := (List.getElem?_eq_some_iff.1 hj).1; have := ho.1; omega
  obtain ⟨rv', h1, h2⟩ := hc j hjl
  rw [hj] at h1
  injection h1 with h1
  subst h1
  exact (h2.lt k hk).2
theorem RowsLo.later {hi : Nat} {w W : World} {base : Nat} {sv : Value} {a : List (List (List UInt8))} (h : RowsLo hi w base sv a.length) (hown : OwnSS w base sv a) (hA : After w W) : RowsLo hi W base sv a.length := by
  intro cs' hcs'
  obtain ⟨cs, ho, _⟩ := hown
  obtain rfl := own_unique hcs' (own_later ho hA)
  exact h _ ho

theorem l_markSS (w : World) (base : Nat) (sv : Value) (a : List (List (List UInt8))) (k0 hi : Nat) (hlo : RowsLo hi w base sv a.length) (h : OwnSS w base sv a) (hk0 : 0 < k0) (hn : k0 + offA a a.length ≤ 1000000000) (hl : a.length ≤ 1000000000) :
    Calls Tryz.prog 64 #[sv, .int .i64 k0] w fun e w' => e = .returned (.int .i64 ((k0 + offA a a.length : Nat) : Int)) ∧ OwnSS w' base sv (mixA k0 a a.length) ∧ Below base w w' ∧ KeptS w w' ∧ FrameHi hi w w' := by
  obtain ⟨ao, cap, rfl⟩ := h.form
  have hstart : Hid (OwnSS w base (.slice ao a.length cap) (mixA k0 a 0)) := by show OwnSS _ _ _ _; rw [mixA_zero]; exact h
  have hcall : ∀ i, i < a.length → ∀ W, OwnSS W base (.slice ao a.length cap) (mixA k0 a i) → RowsLo hi W base (.slice ao a.length cap) a.length → ∃ g ev, ao = some ⟨g, 0, none⟩ ∧ W.cell? ⟨g, i, none⟩ = some ev ∧ (∃ ao' c', ev = .slice ao' (a.getD i []).length c') ∧
      Calls Tryz.prog 104 #[ev, .int .i64 ((k0 + offA a i : Nat) : Int)] W fun e w' => e = .returned (.int .i64 ((k0 + offA a (i + 1) : Nat) : Int)) ∧ OwnSS w' base (.slice ao a.length cap) (mixA k0 a (i + 1)) ∧ Below base W w' ∧ KeptS W w' ∧ FrameHi hi W w' ∧ RowsLo hi w' base (.slice ao a.length cap) a.length := by
    intro i hi' W hW hLo
    obtain ⟨cs, ho, hc, hd⟩ := hW
    have hml := mixA_len k0 a i
    have ho9 := ho
    rw [hml] at ho9
    obtain ⟨rv, h1, h2⟩ := hc i (by omega)
    have hrow := h2
    rw [mixA_at k0 a i i hi', if_neg (Nat.lt_irrefl i)] at h2
    have hoff := offA_mono a (show i + 1 ≤ a.length by omega)
    rw [offA_succ] at hoff
    have hmk := l_mark W base rv (a.getD i []) (k0 + offA a i) h2 (by omega) (by omega)
    rcases ho.2 with ⟨e, h0⟩ | ⟨g, cap', cur, e, _⟩
    · rw [hml] at h0; omega
    · injection e with e1 e2 e3
      subst e1
      refine ⟨g, rv, rfl, ?_, ?_, hmk.mono ?_⟩
      · rw [hml] at ho
        exact (ho.cellAt i (by omega)).trans h1
      · rcases h2.2 with ⟨rfl, h0⟩ | ⟨g', c', cur', rfl, _⟩
        · exact ⟨_, _, by rw [h0]⟩
        · exact ⟨_, _, rfl⟩
      · rintro e w' ⟨rfl, hrow', hg⟩
        refine ⟨by rw [offA_succ, Nat.add_assoc], ?_, (Below.refl base W).grown hg (by rcases ho.lt g rfl with ⟨q1, q2⟩; omega) (fun k hk => (h2.lt k hk).1), fun b cs T fr hT hb => row_keeps h2 hg b cs T fr hT hb, fun b hb hbs => hg.block b hbs (fun e => by have := hLo cs ho9 i rv b h1 e.symm; omega), ?_⟩
        rotate_left
        · intro cs' hcs'
          obtain rfl := own_unique hcs' (own_keptT ho9 fun b cs fr hb => row_keeps h2 hg b cs _ fr (by decide) hb)
          exact hLo _ ho9
        refine OwnSS.setRow (a := mixA k0 a i) (xs := marks (k0 + offA a i) (a.getD i []).length) (j := i) ho hc hd (by omega) h1 (by rw [marks_len]; exact hrow') hg (by rw [mixA_len, mixA_len]) (by rw [mixA_at k0 a (i + 1) i hi', if_pos (Nat.lt_succ_self i)]) (fun q hq hql => ?_)
        rw [hml] at hql
        rw [mixA_at k0 a (i + 1) q hql, mixA_at k0 a i q hql]
        by_cases hqi : q < i
        · rw [if_pos hqi, if_pos (by omega)]
        · rw [if_neg hqi, if_neg (by omega)]
  have HCALL := Lib.hid hcall
  have hoffb : ∀ i, i ≤ a.length → k0 + offA a i ≤ 1000000000 := fun i hi => by have := offA_mono a hi; omega
  have HOFF := Lib.hid hoffb
  have HLO := Lib.hid hlo
  clear hcall h hoffb hlo
  obtain ⟨n, hnn⟩ : ∃ n, n = a.length := ⟨_, rfl⟩
  rw [← hnn] at HCALL HOFF hstart hl HLO ⊢
  clear hnn hn
  have h00 : offA a 0 = 0 := rfl
  go_enter Tryz.func64, Tryz.ntmps64
  go_wp2_with fail
  go_loopw [1, 5] (fun kv i wr => ∃ (j m : Nat), Hid (m = k0 + offA a j) ∧ kv = .int .i64 m ∧ i = .int .i64 j ∧ j ≤ n ∧ Hid (OwnSS wr base (.slice ao n cap) (mixA k0 a j)) ∧ Below base w wr ∧ Hid (KeptS w wr) ∧ Hid (FrameHi hi w wr) ∧ Hid (RowsLo hi wr base (.slice ao n cap) n)) (fun _ i _ => n - (intOf i).toNat)
  case atStart => exact ⟨0, k0, by show _ = _; rw [h00]; rfl, rfl, rfl, Nat.zero_le _, hstart, Below.refl _ _, by show KeptS _ _; exact KeptS.refl w, by show FrameHi _ _ _; exact fun b _ _ => rfl, HLO⟩
  case round =>
    obtain ⟨j, m, hm, rfl, rfl, hj, hown, hbw, hkp, hfh, hrl⟩ := hrel
    clear hstart
    by_cases hlt : j < n
    · obtain ⟨g, ev, rfl, h1, ⟨ao', c', rfl⟩, hcall⟩ := HCALL.out j hlt wr hown.out hrl.out
      rw [← hm.out] at hcall
      have hlt' : (j : Int) < (n : Int) := by omega
      obtain ⟨m2, hm2⟩ : ∃ m2, m2 = k0 + offA a (j + 1) := ⟨_, rfl⟩
      rw [← hm2] at hcall
      have HM2 := Lib.hid hm2
      clear hm2
      go_wp2_with fail
      refine hcall.mono ?_
      rintro e w1 ⟨rfl, ho1, hb1, hk1, hf1, hr1⟩
      have HO1 := Lib.hid ho1
      have HK1 : Hid (KeptS w w1) := KeptS.trans hkp.out hk1
      have HF1 : Hid (FrameHi hi w w1) := fun b hb hbs => (hf1 b hb (Nat.lt_of_lt_of_le hbs hbw.size)).trans (hfh.out b hb hbs)
      have HR1 := Lib.hid hr1
      clear hcall ho1 hk1 hf1 hr1
      go_wp2_with fail
      go_roundw
      case rel => exact ⟨j + 1, m2, HM2, rfl, by go_num, by omega, HO1, hbw.trans hb1, HK1, HF1, HR1⟩
      case measure => simp [intOf]; omega
    · obtain rfl : j = n := by omega
      go_wp2_with fail
      go_ret
      exact ⟨by rw [← hm.out]; rfl, hown.out, hbw, hkp.out, hfh.out⟩

theorem l_heldU (w : World) (sv : Value) (n k0 : Nat) (h : StrsU 0 w sv (marks k0 n)) (hk0 : 0 < k0) (hn : k0 + n ≤ 1000000000) :
    Calls Tryz.prog 105 #[sv, .int .i64 k0] w fun e w' => e = .returned (.int .i64 ((k0 + n : Nat) : Int)) ∧ After w w' := by
  obtain ⟨ao, cap, rfl, hc⟩ := h
  have hc' : ∀ j, j < n → ∃ b off, ao = some ⟨b, off, none⟩ ∧ w.cell? ⟨b, off + j, none⟩ = some (str (markT (k0 + j))) := fun j hj => by
    obtain ⟨b, off, e, _, h1⟩ := hc j (by rw [marks_len]; exact hj)
    refine ⟨b, off, e, h1.trans ?_⟩
    show some (str ((marks k0 n).getD j [])) = _
    rw [show (marks k0 n).getD j [] = markT (k0 + j) by simp [marks, List.getD, hj]]
  simp only [marks_len]
  have HC := Lib.hid hc'
  clear hc hc'
  go_enter Tryz.func105, Tryz.ntmps105
  go_wp2_with fail
  go_loopw [1, 5] (fun kv i wr => ∃ (j m : Nat), Hid (m = k0 + j) ∧ kv = .int .i64 m ∧ i = .int .i64 j ∧ j ≤ n ∧ After w wr) (fun _ i _ => n - (intOf i).toNat)
  case atStart => exact ⟨0, k0, by show _ = _; rfl, rfl, rfl, Nat.zero_le _, After.refl _⟩
  case round =>
    obtain ⟨j, m, hm, rfl, rfl, hj, hA⟩ := hrel
    have hmb : m ≤ 1000000000 := by have := hm.out; omega
    by_cases hlt : j < n
    · have hcall := fun W => l_text W m (by have := hm.out; omega) (by have := hm.out; omega)
      obtain ⟨b, off, rfl, h1⟩ := HC.out j hlt
      have hx : ∀ W, After wr W → W.cell? ⟨b, off + j, none⟩ = some (str (markT m)) := fun W hW => by rw [hm.out]; exact (hA.trans hW).cell h1
      have hself := After.refl wr
      have hlt' : (j : Int) < (n : Int) := by omega
      clear h1
      generalize markT m = z at hcall hx
      go_wp2_with fail
      go_region_held3 (fun W' => After wr W') (first | assumption | exact hself.drew | go_keep)
        ((go_at_call 134; refine (hcall _).mono ?_; rintro e w1 ⟨rfl, hb1⟩; have hb1' := After.trans (by first | assumption | exact hself.drew) hb1))
      all_goals
        go_wp2_with fail
        go_roundw
        case rel => exact ⟨j + 1, m + 1, by show _ = _; have := hm.out; omega, by go_num, by go_num, by omega, hA.trans hb1'⟩
        case measure => simp [intOf]; omega
    · obtain rfl : j = n := by omega
      go_wp2_with fail
      go_ret
      exact ⟨by rw [← hm.out]; rfl, hA⟩

theorem l_heldSS (w : World) (sv : Value) (a : List (List (List UInt8))) (k0 : Nat) (h : SSU 0 w sv (mixA k0 a a.length)) (hk0 : 0 < k0) (hn : k0 + offA a a.length ≤ 1000000000) (hl : a.length ≤ 1000000000) :
    Calls Tryz.prog 65 #[sv, .int .i64 k0] w fun e w' => e = .returned (.int .i64 ((k0 + offA a a.length : Nat) : Int)) ∧ After w w' := by
  obtain ⟨f, ⟨ao, cap, rfl, hc⟩, hf⟩ := h
  rw [mixA_len] at hc hf ⊢
  have hcall : ∀ i, i < a.length → ∃ b off, ao = some ⟨b, off, none⟩ ∧ w.cell? ⟨b, off + i, none⟩ = some (f i) ∧ (∃ ao' c', f i = .slice ao' (a.getD i []).length c') ∧
      ∀ W, After w W → Calls Tryz.prog 105 #[f i, .int .i64 ((k0 + offA a i : Nat) : Int)] W fun e w' => e = .returned (.int .i64 ((k0 + offA a (i + 1) : Nat) : Int)) ∧ After W w' := fun i hi => by
    obtain ⟨b, off, e, _, h1⟩ := hc i hi
    have h2 := hf i hi
    rw [mixA_at k0 a a.length i hi, if_pos hi] at h2
    have hoff := offA_mono a (show i + 1 ≤ a.length by omega)
    rw [offA_succ] at hoff
    refine ⟨b, off, e, h1, ?_, fun W hW => ?_⟩
    · obtain ⟨ao', c', e', _⟩ := h2
      rw [marks_len] at e'
      exact ⟨_, _, e'⟩
    · refine (l_heldU W (f i) _ (k0 + offA a i) (h2.later hW) (by omega) (by omega)).mono fun e w' h => ⟨?_, h.2⟩
      rw [h.1, offA_succ, Nat.add_assoc]
  have hoffb : ∀ i, i ≤ a.length → k0 + offA a i ≤ 1000000000 := fun i hi => by have := offA_mono a hi; omega
  have HOFF := Lib.hid hoffb
  have HCALL := Lib.hid hcall
  clear hcall hc hf hoffb
  obtain ⟨n, hnn⟩ : ∃ n, n = a.length := ⟨_, rfl⟩
  rw [← hnn] at HCALL HOFF hl ⊢
  clear hnn hn
  have h00 : offA a 0 = 0 := rfl
  go_enter Tryz.func65, Tryz.ntmps65
  go_wp2_with fail
  go_loopw [1, 5] (fun kv i wr => ∃ (j m : Nat), Hid (m = k0 + offA a j) ∧ kv = .int .i64 m ∧ i = .int .i64 j ∧ j ≤ n ∧ After w wr) (fun _ i _ => n - (intOf i).toNat)
  case atStart => exact ⟨0, k0, by show _ = _; rw [h00]; rfl, rfl, rfl, Nat.zero_le _, After.refl _⟩
  case round =>
    obtain ⟨j, m, hm, rfl, rfl, hj, hA⟩ := hrel
    by_cases hlt : j < n
    · obtain ⟨b, off, rfl, h1, ⟨ao', c', e1⟩, hcall⟩ := HCALL.out j hlt
      replace h1 := hA.cell h1
      replace hcall := hcall wr hA
      rw [e1] at h1 hcall
      rw [← hm.out] at hcall
      have hlt' : (j : Int) < (n : Int) := by omega
      obtain ⟨m2, hm2⟩ : ∃ m2, m2 = k0 + offA a (j + 1) := ⟨_, rfl⟩
      rw [← hm2] at hcall
      have hm2b : (0 : Int) ≤ (m2 : Int) := by omega
      have HM2 := Lib.hid hm2
      clear hm2 e1
      go_wp2_with fail
      refine hcall.mono ?_
      rintro e w1 ⟨rfl, hb1⟩
      clear hcall
      go_wp2_with fail
      go_roundw
      case rel => exact ⟨j + 1, m2, HM2, rfl, by go_num, by omega, hA.trans hb1⟩
      case measure => simp [intOf]; omega
    · obtain rfl : j = n := by omega
      go_wp2_with fail
      go_ret
      exact ⟨by rw [← hm.out]; rfl, hA⟩

theorem l_markAsmH (w : World) (base : Nat) (sv : Value) (a : List (List (List UInt8))) (k0 hi : Nat) (hlo : RowsLo hi w base sv a.length) (h : OwnSS w base sv a) (hb : base ≤ w.heap.size) (hk0 : 0 < k0) (hn : k0 + offA a a.length ≤ 1000000000) (hl : a.length ≤ 1000000000) :
    Calls Tryz.prog 29 #[.agg #[sv], .int .i64 k0] w fun e w' => e = .returned (.int .i64 ((k0 + offA a a.length : Nat) : Int)) ∧ OwnSS w' base sv (mixA k0 a a.length) ∧ Below base w w' ∧ KeptS w w' ∧ FrameHi hi w w' := by
  have hcall := fun W (hW : After w W) => l_markSS W base sv a k0 hi (hlo.later h hW) (h.later hW) hk0 hn hl
  obtain ⟨ao, cap, rfl⟩ := h.form
  have hA := After.new w (.cells #[.slice ao a.length cap] 25)
  have hc := hcall _ hA
  have HAK : Hid (KeptS w (w.alloc (.cells #[.slice ao a.length cap] 25))) := fun b cs T fr _ hb => hA.heap hb
  have HAB : Hid (Below base w (w.alloc (.cells #[.slice ao a.length cap] 25))) := Below.mono hA hb
  have HAF : Hid (FrameHi hi w (w.alloc (.cells #[.slice ao a.length cap] 25))) := fun b _ hbs => hA.block b hbs
  have HSZ := Lib.hid hA.size
  clear hcall h hn hA hlo
  obtain ⟨m, hm⟩ : ∃ m, m = k0 + offA a a.length := ⟨_, rfl⟩
  rw [← hm] at hc ⊢
  have HQ : ∀ W, OwnSS W base (.slice ao a.length cap) (mixA k0 a a.length) → Hid (OwnSS W base (.slice ao a.length cap) (mixA k0 a a.length)) := fun W h => h
  generalize hX : mixA k0 a a.length = X at *
  clear hm hX HQ
  generalize a.length = n at *
  go_enter Tryz.func29, Tryz.ntmps29
  go_wp2_with fail
  refine hc.mono ?_
  rintro e w1 ⟨rfl, ho1, hb1, hk1, hf1⟩
  have HO := Lib.hid ho1
  have HK1 := Lib.hid (KeptS.trans HAK.out hk1)
  have HF1 : Hid (FrameHi hi w w1) := fun b hb hbs => (hf1 b hb (Nat.lt_of_lt_of_le hbs HSZ.out)).trans (HAF.out b hb hbs)
  clear hc ho1 hk1 hf1
  go_wp2_with fail
  go_ret
  exact ⟨rfl, HO.out, HAB.out.trans hb1, HK1.out, HF1.out⟩

theorem l_markAsm (w : World) (base : Nat) (sv : Value) (a : List (List (List UInt8))) (k0 : Nat) (h : OwnSS w base sv a) (hb : base ≤ w.heap.size) (hk0 : 0 < k0) (hn : k0 + offA a a.length ≤ 1000000000) (hl : a.length ≤ 1000000000) :
    Calls Tryz.prog 29 #[.agg #[sv], .int .i64 k0] w fun e w' => e = .returned (.int .i64 ((k0 + offA a a.length : Nat) : Int)) ∧ OwnSS w' base sv (mixA k0 a a.length) ∧ Below base w w' ∧ KeptS w w' :=
  (l_markAsmH w base sv a k0 w.heap.size h.lo h hb hk0 hn hl).mono fun _ _ ⟨h1, h2, h3, h4, _⟩ => ⟨h1, h2, h3, h4⟩

theorem l_heldAsm (w : World) (sv : Value) (a : List (List (List UInt8))) (k0 : Nat) (h : SSU 0 w sv (mixA k0 a a.length)) (hk0 : 0 < k0) (hn : k0 + offA a a.length ≤ 1000000000) (hl : a.length ≤ 1000000000) :
    Calls Tryz.prog 30 #[.agg #[sv], .int .i64 k0] w fun e w' => e = .returned (.int .i64 ((k0 + offA a a.length : Nat) : Int)) ∧ After w w' := by
  have hcall := fun W (hW : After w W) => l_heldSS W sv a k0 (h.later hW) hk0 hn hl
  obtain ⟨ao, cap, e⟩ := h.form
  rw [mixA_len] at e
  subst e
  have hA := After.new w (.cells #[.slice ao a.length cap] 25)
  have hc := hcall _ hA
  clear hcall h hn
  obtain ⟨m, hm⟩ : ∃ m, m = k0 + offA a a.length := ⟨_, rfl⟩
  rw [← hm] at hc ⊢
  have hm0 : (0 : Int) ≤ (m : Int) := by omega
  clear hm
  generalize a.length = n at *
  go_enter Tryz.func30, Tryz.ntmps30
  go_wp2_with fail
  refine hc.mono ?_
  rintro e w1 ⟨rfl, hb1⟩
  clear hc
  go_wp2_with fail
  go_ret
  exact ⟨rfl, hA.trans hb1⟩
end Go.Proofs.YtfeeegnkmojpeaaGreat
