/-
  What operations on the model's trees yield (Yd), and one law for each kind of operation in a region that draws its order.
-/
import Derived.Test.YtjfdindlfakmcaaReg
import Derived.Test.YtjfdindlfakmcaaSRow
namespace Go.Proofs.Ytjfdindlfakmcaa
open Go Go.RowKit

set_option maxRecDepth 100000

/-- What an operation yields. -/
inductive Yd where
  | lit (v : Value)
  | tree (t : Tm)
  | raw
  | row (ts : List Tm)
  | names (xs : List (List UInt8))
  | cell (base : Nat)
  | rraw (n : Nat)
  | free

def Yd.holds : Yd → Value → World → Prop
  | .lit u, v, _ => v = u
  | .tree t, v, W => ∃ s ao n c, v = .agg #[str s, .slice ao n c] ∧ ST W t v
  | .raw, v, _ => ∃ s ao n c, v = .agg #[str s, .slice ao n c]
  | .row ts, v, W => ArgsST W v ts
  | .names xs, v, W => ∃ g, v = .slice (some ⟨g, 0, none⟩) xs.length xs.length ∧ W.heap[g]? = some (.cells (xs.map str).toArray 9 (0, 0))
  | .cell base, v, W => ∃ g x y, v = .pointer (some ⟨g, 0, none⟩) ∧ base ≤ g ∧ W.heap[g]? = some (.cells #[x, y] 49 (0, 0))
  | .rraw n, v, W => RawRow W v n
  | .free, _, _ => True

theorem Yd.later {W W' : World} (hW : After W W') : ∀ {y : Yd} {v : Value}, y.holds v W → y.holds v W'
  | .lit _, _, h => h
  | .tree _, _, ⟨s, ao, n, c, e, h⟩ => ⟨s, ao, n, c, e, h.later hW⟩
  | .raw, _, h => h
  | .row _, _, h => ArgsST.after h hW
  | .names _, _, ⟨g, e, h⟩ => ⟨g, e, hW.heap h⟩
  | .cell _, _, ⟨g, x, y, e, hb, h⟩ => ⟨g, x, y, e, hb, hW.heap h⟩
  | .rraw _, _, h => RawRow.after h hW
  | .free, _, _ => trivial

/-- The yields of a region, one after the other. -/
def yds (L : List Yd) (i : Nat) (v : Value) (W : World) : Prop := (L.getD i .free).holds v W
theorem yds_later {L : List Yd} {w0 : World} : ∀ i v w w', After w0 w → yds L i v w → After w w' → yds L i v w' := fun _ _ _ _ _ h hW => Yd.later hW h

/-! ### one after the other -/
theorem lt1 {p : Nat → Prop} (h0 : p 0) : ∀ i, i < 1 → p i := fun i hi => by
  obtain rfl : i = 0 := by omega
  exact h0
theorem lt2 {p : Nat → Prop} (h0 : p 0) (h1 : p 1) : ∀ i, i < 2 → p i := fun i hi => by
  rcases Nat.lt_succ_iff_lt_or_eq.1 hi with h | h
  · exact lt1 h0 i h
  · subst h; exact h1
theorem lt3 {p : Nat → Prop} (h0 : p 0) (h1 : p 1) (h2 : p 2) : ∀ i, i < 3 → p i := fun i hi => by
  rcases Nat.lt_succ_iff_lt_or_eq.1 hi with h | h
  · exact lt2 h0 h1 i h
  · subst h; exact h2
theorem lt4 {p : Nat → Prop} (h0 : p 0) (h1 : p 1) (h2 : p 2) (h3 : p 3) : ∀ i, i < 4 → p i := fun i hi => by
  rcases Nat.lt_succ_iff_lt_or_eq.1 hi with h | h
  · exact lt3 h0 h1 h2 i h
  · subst h; exact h3
theorem lt5 {p : Nat → Prop} (h0 : p 0) (h1 : p 1) (h2 : p 2) (h3 : p 3) (h4 : p 4) : ∀ i, i < 5 → p i := fun i hi => by
  rcases Nat.lt_succ_iff_lt_or_eq.1 hi with h | h
  · exact lt4 h0 h1 h2 h3 i h
  · subst h; exact h4
theorem lt6 {p : Nat → Prop} (h0 : p 0) (h1 : p 1) (h2 : p 2) (h3 : p 3) (h4 : p 4) (h5 : p 5) : ∀ i, i < 6 → p i := fun i hi => by
  rcases Nat.lt_succ_iff_lt_or_eq.1 hi with h | h
  · exact lt5 h0 h1 h2 h3 h4 i h
  · subst h; exact h5
theorem lt7 {p : Nat → Prop} (h0 : p 0) (h1 : p 1) (h2 : p 2) (h3 : p 3) (h4 : p 4) (h5 : p 5) (h6 : p 6) : ∀ i, i < 7 → p i := fun i hi => by
  rcases Nat.lt_succ_iff_lt_or_eq.1 hi with h | h
  · exact lt6 h0 h1 h2 h3 h4 h5 i h
  · subst h; exact h6
theorem lt8 {p : Nat → Prop} (h0 : p 0) (h1 : p 1) (h2 : p 2) (h3 : p 3) (h4 : p 4) (h5 : p 5) (h6 : p 6) (h7 : p 7) : ∀ i, i < 8 → p i := fun i hi => by
  rcases Nat.lt_succ_iff_lt_or_eq.1 hi with h | h
  · exact lt7 h0 h1 h2 h3 h4 h5 h6 i h
  · subst h; exact h7
theorem lt9 {p : Nat → Prop} (h0 : p 0) (h1 : p 1) (h2 : p 2) (h3 : p 3) (h4 : p 4) (h5 : p 5) (h6 : p 6) (h7 : p 7) (h8 : p 8) : ∀ i, i < 9 → p i := fun i hi => by
  rcases Nat.lt_succ_iff_lt_or_eq.1 hi with h | h
  · exact lt8 h0 h1 h2 h3 h4 h5 h6 h7 i h
  · subst h; exact h8
theorem lt10 {p : Nat → Prop} (h0 : p 0) (h1 : p 1) (h2 : p 2) (h3 : p 3) (h4 : p 4) (h5 : p 5) (h6 : p 6) (h7 : p 7) (h8 : p 8) (h9 : p 9) : ∀ i, i < 10 → p i := fun i hi => by
  rcases Nat.lt_succ_iff_lt_or_eq.1 hi with h | h
  · exact lt9 h0 h1 h2 h3 h4 h5 h6 h7 h8 i h
  · subst h; exact h9
theorem lt11 {p : Nat → Prop} (h0 : p 0) (h1 : p 1) (h2 : p 2) (h3 : p 3) (h4 : p 4) (h5 : p 5) (h6 : p 6) (h7 : p 7) (h8 : p 8) (h9 : p 9) (h10 : p 10) : ∀ i, i < 11 → p i := fun i hi => by
  rcases Nat.lt_succ_iff_lt_or_eq.1 hi with h | h
  · exact lt10 h0 h1 h2 h3 h4 h5 h6 h7 h8 h9 i h
  · subst h; exact h10
theorem lt12 {p : Nat → Prop} (h0 : p 0) (h1 : p 1) (h2 : p 2) (h3 : p 3) (h4 : p 4) (h5 : p 5) (h6 : p 6) (h7 : p 7) (h8 : p 8) (h9 : p 9) (h10 : p 10) (h11 : p 11) : ∀ i, i < 12 → p i := fun i hi => by
  rcases Nat.lt_succ_iff_lt_or_eq.1 hi with h | h
  · exact lt11 h0 h1 h2 h3 h4 h5 h6 h7 h8 h9 h10 i h
  · subst h; exact h11
theorem lt13 {p : Nat → Prop} (h0 : p 0) (h1 : p 1) (h2 : p 2) (h3 : p 3) (h4 : p 4) (h5 : p 5) (h6 : p 6) (h7 : p 7) (h8 : p 8) (h9 : p 9) (h10 : p 10) (h11 : p 11) (h12 : p 12) : ∀ i, i < 13 → p i := fun i hi => by
  rcases Nat.lt_succ_iff_lt_or_eq.1 hi with h | h
  · exact lt12 h0 h1 h2 h3 h4 h5 h6 h7 h8 h9 h10 h11 i h
  · subst h; exact h12
theorem lt14 {p : Nat → Prop} (h0 : p 0) (h1 : p 1) (h2 : p 2) (h3 : p 3) (h4 : p 4) (h5 : p 5) (h6 : p 6) (h7 : p 7) (h8 : p 8) (h9 : p 9) (h10 : p 10) (h11 : p 11) (h12 : p 12) (h13 : p 13) : ∀ i, i < 14 → p i := fun i hi => by
  rcases Nat.lt_succ_iff_lt_or_eq.1 hi with h | h
  · exact lt13 h0 h1 h2 h3 h4 h5 h6 h7 h8 h9 h10 h11 h12 i h
  · subst h; exact h13
theorem lt15 {p : Nat → Prop} (h0 : p 0) (h1 : p 1) (h2 : p 2) (h3 : p 3) (h4 : p 4) (h5 : p 5) (h6 : p 6) (h7 : p 7) (h8 : p 8) (h9 : p 9) (h10 : p 10) (h11 : p 11) (h12 : p 12) (h13 : p 13) (h14 : p 14) : ∀ i, i < 15 → p i := fun i hi => by
  rcases Nat.lt_succ_iff_lt_or_eq.1 hi with h | h
  · exact lt14 h0 h1 h2 h3 h4 h5 h6 h7 h8 h9 h10 h11 h12 h13 i h
  · subst h; exact h14
theorem lt16 {p : Nat → Prop} (h0 : p 0) (h1 : p 1) (h2 : p 2) (h3 : p 3) (h4 : p 4) (h5 : p 5) (h6 : p 6) (h7 : p 7) (h8 : p 8) (h9 : p 9) (h10 : p 10) (h11 : p 11) (h12 : p 12) (h13 : p 13) (h14 : p 14) (h15 : p 15) : ∀ i, i < 16 → p i := fun i hi => by
  rcases Nat.lt_succ_iff_lt_or_eq.1 hi with h | h
  · exact lt15 h0 h1 h2 h3 h4 h5 h6 h7 h8 h9 h10 h11 h12 h13 h14 i h
  · subst h; exact h15
theorem lt17 {p : Nat → Prop} (h0 : p 0) (h1 : p 1) (h2 : p 2) (h3 : p 3) (h4 : p 4) (h5 : p 5) (h6 : p 6) (h7 : p 7) (h8 : p 8) (h9 : p 9) (h10 : p 10) (h11 : p 11) (h12 : p 12) (h13 : p 13) (h14 : p 14) (h15 : p 15) (h16 : p 16) : ∀ i, i < 17 → p i := fun i hi => by
  rcases Nat.lt_succ_iff_lt_or_eq.1 hi with h | h
  · exact lt16 h0 h1 h2 h3 h4 h5 h6 h7 h8 h9 h10 h11 h12 h13 h14 h15 i h
  · subst h; exact h16
theorem lt18 {p : Nat → Prop} (h0 : p 0) (h1 : p 1) (h2 : p 2) (h3 : p 3) (h4 : p 4) (h5 : p 5) (h6 : p 6) (h7 : p 7) (h8 : p 8) (h9 : p 9) (h10 : p 10) (h11 : p 11) (h12 : p 12) (h13 : p 13) (h14 : p 14) (h15 : p 15) (h16 : p 16) (h17 : p 17) : ∀ i, i < 18 → p i := fun i hi => by
  rcases Nat.lt_succ_iff_lt_or_eq.1 hi with h | h
  · exact lt17 h0 h1 h2 h3 h4 h5 h6 h7 h8 h9 h10 h11 h12 h13 h14 h15 h16 i h
  · subst h; exact h17
theorem lt19 {p : Nat → Prop} (h0 : p 0) (h1 : p 1) (h2 : p 2) (h3 : p 3) (h4 : p 4) (h5 : p 5) (h6 : p 6) (h7 : p 7) (h8 : p 8) (h9 : p 9) (h10 : p 10) (h11 : p 11) (h12 : p 12) (h13 : p 13) (h14 : p 14) (h15 : p 15) (h16 : p 16) (h17 : p 17) (h18 : p 18) : ∀ i, i < 19 → p i := fun i hi => by
  rcases Nat.lt_succ_iff_lt_or_eq.1 hi with h | h
  · exact lt18 h0 h1 h2 h3 h4 h5 h6 h7 h8 h9 h10 h11 h12 h13 h14 h15 h16 h17 i h
  · subst h; exact h18
theorem lt20 {p : Nat → Prop} (h0 : p 0) (h1 : p 1) (h2 : p 2) (h3 : p 3) (h4 : p 4) (h5 : p 5) (h6 : p 6) (h7 : p 7) (h8 : p 8) (h9 : p 9) (h10 : p 10) (h11 : p 11) (h12 : p 12) (h13 : p 13) (h14 : p 14) (h15 : p 15) (h16 : p 16) (h17 : p 17) (h18 : p 18) (h19 : p 19) : ∀ i, i < 20 → p i := fun i hi => by
  rcases Nat.lt_succ_iff_lt_or_eq.1 hi with h | h
  · exact lt19 h0 h1 h2 h3 h4 h5 h6 h7 h8 h9 h10 h11 h12 h13 h14 h15 h16 h17 h18 i h
  · subst h; exact h19
theorem lt21 {p : Nat → Prop} (h0 : p 0) (h1 : p 1) (h2 : p 2) (h3 : p 3) (h4 : p 4) (h5 : p 5) (h6 : p 6) (h7 : p 7) (h8 : p 8) (h9 : p 9) (h10 : p 10) (h11 : p 11) (h12 : p 12) (h13 : p 13) (h14 : p 14) (h15 : p 15) (h16 : p 16) (h17 : p 17) (h18 : p 18) (h19 : p 19) (h20 : p 20) : ∀ i, i < 21 → p i := fun i hi => by
  rcases Nat.lt_succ_iff_lt_or_eq.1 hi with h | h
  · exact lt20 h0 h1 h2 h3 h4 h5 h6 h7 h8 h9 h10 h11 h12 h13 h14 h15 h16 h17 h18 h19 i h
  · subst h; exact h20
theorem lt22 {p : Nat → Prop} (h0 : p 0) (h1 : p 1) (h2 : p 2) (h3 : p 3) (h4 : p 4) (h5 : p 5) (h6 : p 6) (h7 : p 7) (h8 : p 8) (h9 : p 9) (h10 : p 10) (h11 : p 11) (h12 : p 12) (h13 : p 13) (h14 : p 14) (h15 : p 15) (h16 : p 16) (h17 : p 17) (h18 : p 18) (h19 : p 19) (h20 : p 20) (h21 : p 21) : ∀ i, i < 22 → p i := fun i hi => by
  rcases Nat.lt_succ_iff_lt_or_eq.1 hi with h | h
  · exact lt21 h0 h1 h2 h3 h4 h5 h6 h7 h8 h9 h10 h11 h12 h13 h14 h15 h16 h17 h18 h19 h20 i h
  · subst h; exact h21
theorem lt23 {p : Nat → Prop} (h0 : p 0) (h1 : p 1) (h2 : p 2) (h3 : p 3) (h4 : p 4) (h5 : p 5) (h6 : p 6) (h7 : p 7) (h8 : p 8) (h9 : p 9) (h10 : p 10) (h11 : p 11) (h12 : p 12) (h13 : p 13) (h14 : p 14) (h15 : p 15) (h16 : p 16) (h17 : p 17) (h18 : p 18) (h19 : p 19) (h20 : p 20) (h21 : p 21) (h22 : p 22) : ∀ i, i < 23 → p i := fun i hi => by
  rcases Nat.lt_succ_iff_lt_or_eq.1 hi with h | h
  · exact lt22 h0 h1 h2 h3 h4 h5 h6 h7 h8 h9 h10 h11 h12 h13 h14 h15 h16 h17 h18 h19 h20 h21 i h
  · subst h; exact h22
theorem lt24 {p : Nat → Prop} (h0 : p 0) (h1 : p 1) (h2 : p 2) (h3 : p 3) (h4 : p 4) (h5 : p 5) (h6 : p 6) (h7 : p 7) (h8 : p 8) (h9 : p 9) (h10 : p 10) (h11 : p 11) (h12 : p 12) (h13 : p 13) (h14 : p 14) (h15 : p 15) (h16 : p 16) (h17 : p 17) (h18 : p 18) (h19 : p 19) (h20 : p 20) (h21 : p 21) (h22 : p 22) (h23 : p 23) : ∀ i, i < 24 → p i := fun i hi => by
  rcases Nat.lt_succ_iff_lt_or_eq.1 hi with h | h
  · exact lt23 h0 h1 h2 h3 h4 h5 h6 h7 h8 h9 h10 h11 h12 h13 h14 h15 h16 h17 h18 h19 h20 h21 h22 i h
  · subst h; exact h23

section
variable {ops : Array Oper} {Q : Exit → Act → World → Prop} {A : Act} {i : Nat} {w : World} {K : Act → World → Prop}

/-- The operation hands back a value that is known; the world is not touched. -/
theorem do_val {v : Value} (hs : (ops[i]?).isSome = true) (hg : (opAt ops i).guard = none) (hr : (execOp A.eval (opAt ops i)).run Try.prog w = .ok (.value v) w) (hK : ∀ w', After w w' → K (A.put (dstOf ops i) v) w') : OpDo Try.prog ops Q A i w K :=
  op_val hs (by unfold Region.wanted; rw [hg]) hr (hK w (After.refl w))

theorem wanted_of {o : Oper} {y : Nat → Option Bool} (hg : o.guard = none) : Region.wanted o y = true := by unfold Region.wanted; rw [hg]

theorem do_load {x : Operand} {b k : Nat} {c0 c1 : Value} (y : Yd) (hs : (ops[i]?).isSome = true) (hop : (opAt ops i).op = .load 49 x) (hg : (opAt ops i).guard = none) (hx : A.eval x = .pointer (some ⟨b, k, none⟩))
    (h0 : w.cell? ⟨b, k, none⟩ = some c0) (h1 : w.cell? ⟨b, k + 1, none⟩ = some c1) (hy : y.holds (.agg #[c0, c1]) w) (hK : ∀ v w', After w w' → y.holds v w' → K (A.put (dstOf ops i) v) w') : OpDo Try.prog ops Q A i w K :=
  op_load hs hop hg hx h0 h1 (hK _ _ (After.refl _) hy)

theorem do_call {f : FuncId} {args : Array Value} (t : Tm) (hs : (ops[i]?).isSome = true) (hg : (opAt ops i).guard = none) (hr : (execOp A.eval (opAt ops i)).run Try.prog w = .ok (.enter f args) w) (hc : Calls Try.prog f args w (TreePost w t))
    (hK : ∀ v w', After w w' → (Yd.tree t).holds v w' → K (A.put (dstOf ops i) v) w') : OpDo Try.prog ops Q A i w K := by
  refine op_call hs (wanted_of hg) hr (hc.mono ?_)
  rintro e w' ⟨s, ao, n, c, rfl, ha, ht⟩
  exact ⟨_, rfl, hK _ _ ha ⟨s, ao, n, c, rfl, ht⟩⟩

theorem do_name {x : List UInt8} (hs : (ops[i]?).isSome = true) (hg : (opAt ops i).guard = none) (hr : (execOp A.eval (opAt ops i)).run Try.prog w = .ok (.enter 19 #[str x]) w)
    (hK : ∀ v w', After w w' → (Yd.tree (.nm x)).holds v w' → K (A.put (dstOf ops i) v) w') : OpDo Try.prog ops Q A i w K := by
  refine op_call hs (wanted_of hg) hr ((s_nm w x).mono ?_)
  rintro e w' ⟨rfl, ha⟩
  exact ⟨_, rfl, hK _ _ ha ⟨x, none, 0, 0, rfl, rfl⟩⟩

theorem do_app {u1 u2 : Value} {f : Tm} {us : List Tm} (hs : (ops[i]?).isSome = true) (hg : (opAt ops i).guard = none) (hr : (execOp A.eval (opAt ops i)).run Try.prog w = .ok (.enter 18 #[u1, u2]) w) (h1 : (Yd.tree f).holds u1 w) (h2 : (Yd.row us).holds u2 w) (hn : us.length ≤ 1000)
    (hK : ∀ v w', After w w' → (Yd.tree (FT.appL f us)).holds v w' → K (A.put (dstOf ops i) v) w') : OpDo Try.prog ops Q A i w K := by
  obtain ⟨s, ao, n, c, rfl, h⟩ := h1
  exact do_call _ hs hg hr (s_appL w f us s ao n c u2 h h2 hn) hK

theorem do_names {xs : List (List UInt8)} (hs : (ops[i]?).isSome = true) (hg : (opAt ops i).guard = none) (hr : (execOp A.eval (opAt ops i)).run Try.prog w = .ok (.value (.slice (some ⟨w.heap.size, 0, none⟩) xs.length xs.length)) (w.alloc (.cells (xs.map str).toArray 9)))
    (hK : ∀ v w', After w w' → (Yd.names xs).holds v w' → K (A.put (dstOf ops i) v) w') : OpDo Try.prog ops Q A i w K :=
  op_val hs (wanted_of hg) hr (hK _ _ (After.new w _) ⟨_, rfl, heap_new' w _⟩)

theorem do_cell {base : Nat} (hs : (ops[i]?).isSome = true) (hg : (opAt ops i).guard = none) (hb : base ≤ w.heap.size) (hr : (execOp A.eval (opAt ops i)).run Try.prog w = .ok (.value (.pointer (some ⟨w.heap.size, 0, none⟩))) (w.alloc (.cells #[.string ⟨#[]⟩, .slice none 0 0] 49)))
    (hK : ∀ v w', After w w' → (Yd.cell base).holds v w' → K (A.put (dstOf ops i) v) w') : OpDo Try.prog ops Q A i w K :=
  op_val hs (wanted_of hg) hr (hK _ _ (After.new w _) ⟨_, _, _, rfl, hb, heap_new' w _⟩)

theorem row1 (w : World) (s : List UInt8) (ao : Option Addr) (n c : Nat) : (Instr.buildSlice 47 1 #[(0, .agg #[str s, .slice ao n c])]).run Try.prog w = .ok (.slice (some ⟨w.heap.size, 0, none⟩) 1 1) (w.alloc (.cells #[str s, .slice ao n c] 49)) := by kernel_rfl
theorem row2 (w : World) (s : List UInt8) (ao : Option Addr) (n c : Nat) (s' : List UInt8) (ao' : Option Addr) (n' c' : Nat) : (Instr.buildSlice 47 2 #[(0, .agg #[str s, .slice ao n c]), (1, .agg #[str s', .slice ao' n' c'])]).run Try.prog w = .ok (.slice (some ⟨w.heap.size, 0, none⟩) 2 2) (w.alloc (.cells #[str s, .slice ao n c, str s', .slice ao' n' c'] 49)) := by kernel_rfl
theorem row3 (w : World) (s : List UInt8) (ao : Option Addr) (n c : Nat) (s' : List UInt8) (ao' : Option Addr) (n' c' : Nat) (s'' : List UInt8) (ao'' : Option Addr) (n'' c'' : Nat) : (Instr.buildSlice 47 3 #[(0, .agg #[str s, .slice ao n c]), (1, .agg #[str s', .slice ao' n' c']), (2, .agg #[str s'', .slice ao'' n'' c''])]).run Try.prog w = .ok (.slice (some ⟨w.heap.size, 0, none⟩) 3 3) (w.alloc (.cells #[str s, .slice ao n c, str s', .slice ao' n' c', str s'', .slice ao'' n'' c''] 49)) := by kernel_rfl

theorem do_row1 {x : Operand} {a : Tm} {u : Value} (hs : (ops[i]?).isSome = true) (hop : (opAt ops i).op = .buildSlice 47 1 #[(0, x)]) (hg : (opAt ops i).guard = none) (hx : A.eval x = u) (hu : (Yd.tree a).holds u w)
    (hK : ∀ v w', After w w' → (Yd.row [a]).holds v w' → K (A.put (dstOf ops i) v) w') : OpDo Try.prog ops Q A i w K := by
  obtain ⟨s, ao, n, c, rfl, h⟩ := hu
  have hA := After.new w (.cells #[str s, .slice ao n c] 49)
  have hh := heap_new' w (.cells #[str s, .slice ao n c] 49)
  refine op_val hs (wanted_of hg) (v := .slice (some ⟨w.heap.size, 0, none⟩) 1 1) (w' := w.alloc (.cells #[str s, .slice ao n c] 49)) ?_ (hK _ _ hA (Or.inr ⟨_, _, _, rfl, by simp, fun j hj => ?_⟩))
  · unfold execOp
    simp only [hop, List.map_toArray, List.map_cons, List.map_nil, hx, Sem.run_bind, row1, Result.andThen_ok, Sem.run_pure]
  · match j, hj with
    | 0, _ => exact ⟨s, ao, n, c, cell_of_heap (i := 0) hh, cell_of_heap (i := 1) hh, h.later hA⟩

theorem do_row2 {x y : Operand} {a b : Tm} {u v : Value} (hs : (ops[i]?).isSome = true) (hop : (opAt ops i).op = .buildSlice 47 2 #[(0, x), (1, y)]) (hg : (opAt ops i).guard = none) (hx : A.eval x = u) (hy : A.eval y = v) (hu : (Yd.tree a).holds u w) (hv : (Yd.tree b).holds v w)
    (hK : ∀ v w', After w w' → (Yd.row [a, b]).holds v w' → K (A.put (dstOf ops i) v) w') : OpDo Try.prog ops Q A i w K := by
  obtain ⟨s, ao, n, c, rfl, h⟩ := hu
  obtain ⟨s', ao', n', c', rfl, h'⟩ := hv
  have hA := After.new w (.cells #[str s, .slice ao n c, str s', .slice ao' n' c'] 49)
  have hh := heap_new' w (.cells #[str s, .slice ao n c, str s', .slice ao' n' c'] 49)
  refine op_val hs (wanted_of hg) (v := .slice (some ⟨w.heap.size, 0, none⟩) 2 2) (w' := w.alloc (.cells #[str s, .slice ao n c, str s', .slice ao' n' c'] 49)) ?_ (hK _ _ hA (Or.inr ⟨_, _, _, rfl, by simp, fun j hj => ?_⟩))
  · unfold execOp
    simp only [hop, List.map_toArray, List.map_cons, List.map_nil, hx, hy, Sem.run_bind, row2, Result.andThen_ok, Sem.run_pure]
  · match j, hj with
    | 0, _ => exact ⟨s, ao, n, c, cell_of_heap (i := 0) hh, cell_of_heap (i := 1) hh, h.later hA⟩
    | 1, _ => exact ⟨s', ao', n', c', cell_of_heap (i := 2) hh, cell_of_heap (i := 3) hh, h'.later hA⟩

theorem do_row3 {x y z : Operand} {a b d : Tm} {u v q : Value} (hs : (ops[i]?).isSome = true) (hop : (opAt ops i).op = .buildSlice 47 3 #[(0, x), (1, y), (2, z)]) (hg : (opAt ops i).guard = none) (hx : A.eval x = u) (hy : A.eval y = v) (hz : A.eval z = q) (hu : (Yd.tree a).holds u w) (hv : (Yd.tree b).holds v w) (hq : (Yd.tree d).holds q w)
    (hK : ∀ v w', After w w' → (Yd.row [a, b, d]).holds v w' → K (A.put (dstOf ops i) v) w') : OpDo Try.prog ops Q A i w K := by
  obtain ⟨s, ao, n, c, rfl, h⟩ := hu
  obtain ⟨s', ao', n', c', rfl, h'⟩ := hv
  obtain ⟨s2, ao2, n2, c2, rfl, h2⟩ := hq
  have hA := After.new w (.cells #[str s, .slice ao n c, str s', .slice ao' n' c', str s2, .slice ao2 n2 c2] 49)
  have hh := heap_new' w (.cells #[str s, .slice ao n c, str s', .slice ao' n' c', str s2, .slice ao2 n2 c2] 49)
  refine op_val hs (wanted_of hg) (v := .slice (some ⟨w.heap.size, 0, none⟩) 3 3) (w' := w.alloc (.cells #[str s, .slice ao n c, str s', .slice ao' n' c', str s2, .slice ao2 n2 c2] 49)) ?_ (hK _ _ hA (Or.inr ⟨_, _, _, rfl, by simp, fun j hj => ?_⟩))
  · unfold execOp
    simp only [hop, List.map_toArray, List.map_cons, List.map_nil, hx, hy, hz, Sem.run_bind, row3, Result.andThen_ok, Sem.run_pure]
  · match j, hj with
    | 0, _ => exact ⟨s, ao, n, c, cell_of_heap (i := 0) hh, cell_of_heap (i := 1) hh, h.later hA⟩
    | 1, _ => exact ⟨s', ao', n', c', cell_of_heap (i := 2) hh, cell_of_heap (i := 3) hh, h'.later hA⟩
    | 2, _ => exact ⟨s2, ao2, n2, c2, cell_of_heap (i := 4) hh, cell_of_heap (i := 5) hh, h2.later hA⟩

/-- A value that is there at once. -/
theorem do_pure {v : Value} (y : Yd) (hs : (ops[i]?).isSome = true) (hg : (opAt ops i).guard = none) (hr : (execOp A.eval (opAt ops i)).run Try.prog w = .ok (.value v) w) (hy : y.holds v w) (hK : ∀ v w', After w w' → y.holds v w' → K (A.put (dstOf ops i) v) w') : OpDo Try.prog ops Q A i w K :=
  op_val hs (wanted_of hg) hr (hK _ _ (After.refl w) hy)

/-- The last: a tree is stored into a cell. -/
theorem do_store {x y : Operand} {b : Nat} {p q v : Value} (t : Tm) (hs : (ops[i]?).isSome = true) (hop : (opAt ops i).op = .store 49 x y) (hg : (opAt ops i).guard = none) (hd : dstOf ops i = none) (hx : A.eval x = .pointer (some ⟨b, 0, none⟩)) (hv : A.eval y = v) (hy : (Yd.tree t).holds v w) (hb : w.heap[b]? = some (.cells #[p, q] 49 (0, 0)))
    (hK : ∀ s ao n c, ST ((w.setCell ⟨b, 0, none⟩ (str s)).setCell ⟨b, 1, none⟩ (.slice ao n c)) t (.agg #[str s, .slice ao n c]) → K A ((w.setCell ⟨b, 0, none⟩ (str s)).setCell ⟨b, 1, none⟩ (.slice ao n c))) : OpDo Try.prog ops Q A i w K := by
  obtain ⟨s, ao, n, c, rfl, h⟩ := hy
  have hth : w.there b 0 2 := fun j hj => by
    rw [Nat.zero_add]
    refine ⟨?_, by simp [World.frozen?, hb]⟩
    match j, hj with
    | 0, _ => rw [cell_of_heap (i := 0) hb]; rfl
    | 1, _ => rw [cell_of_heap (i := 1) hb]; rfl
  have hst : (Instr.storeAt 49 (.pointer (some ⟨b, 0, none⟩)) (.agg #[str s, .slice ao n c])).run Try.prog w = .ok () (w.setCells b 0 [str s, .slice ao n c]) := run_storeAt_mid w b 0 49 #[str s, .slice ao n c] hth (by kernel_rfl) (by kernel_rfl)
  constructor
  rw [opAt_of hs]
  simp only [wanted_of hg, if_true]
  unfold Oper.wp execOp
  simp only [hop, hx, hv, Sem.run_bind, hst, Result.andThen_ok, Sem.run_pure, Oper.upon_skip]
  rw [opAt_dst hs, hd]
  exact hK s ao n c (h.sets2 hb)

theorem do_store_at {x y : Operand} {b : Nat} {p q u v : Value} (t : Tm) (hs : (ops[i]?).isSome = true) (hop : (opAt ops i).op = .store 49 x y) (hg : (opAt ops i).guard = none) (hd : (dstOf ops i) = none) (hx : A.eval x = u) (hu : u = .pointer (some ⟨b, 0, none⟩)) (hv : A.eval y = v) (hy : (Yd.tree t).holds v w) (hb : w.heap[b]? = some (.cells #[p, q] 49 (0, 0)))
    (hK : ∀ s ao n c, ST ((w.setCell ⟨b, 0, none⟩ (str s)).setCell ⟨b, 1, none⟩ (.slice ao n c)) t (.agg #[str s, .slice ao n c]) → K A ((w.setCell ⟨b, 0, none⟩ (str s)).setCell ⟨b, 1, none⟩ (.slice ao n c))) : OpDo Try.prog ops Q A i w K :=
  do_store t hs hop hg hd (hx.trans hu) hv hy hb hK

theorem do_loadu {x : Operand} {b k : Nat} {u c0 c1 : Value} (y : Yd) (hs : (ops[i]?).isSome = true) (hop : (opAt ops i).op = .load 49 x) (hg : (opAt ops i).guard = none) (hx : A.eval x = u) (hu : u = .pointer (some ⟨b, k, none⟩))
    (h0 : w.cell? ⟨b, k, none⟩ = some c0) (h1 : w.cell? ⟨b, k + 1, none⟩ = some c1) (hy : y.holds (.agg #[c0, c1]) w) (hK : ∀ v w', After w w' → y.holds v w' → K (A.put (dstOf ops i) v) w') : OpDo Try.prog ops Q A i w K :=
  do_load y hs hop hg (hx.trans hu) h0 h1 hy hK

theorem run_load_slice {w : World} {p : Addr} {v : Value} (h : w.cell? p = some v) : (Instr.loadAt 47 (.pointer (some p))).run Try.prog w = .ok v w := by
  obtain ⟨d, hd, hr⟩ : ∃ d, Try.prog.underlying 47 = some d ∧ d.isRow = false := ⟨_, rfl, rfl⟩
  have hagg : (isAgg 47).run Try.prog w = .ok false w := by
    unfold isAgg
    rw [Sem.run_bind, run_underlying hd w]
    cases d <;> simp_all
  simp [Instr.loadAt, Instr.sureAddr, loadVar, Sem.run_bind, hagg, go_sem, h]

theorem do_load1 {x : Operand} {p : Addr} {u c : Value} (y : Yd) (hs : (ops[i]?).isSome = true) (hop : (opAt ops i).op = .load 47 x) (hg : (opAt ops i).guard = none) (hx : A.eval x = u) (hu : u = .pointer (some p))
    (h0 : w.cell? p = some c) (hy : y.holds c w) (hK : ∀ v w', After w w' → y.holds v w' → K (A.put (dstOf ops i) v) w') : OpDo Try.prog ops Q A i w K := by
  subst hu
  refine op_val hs (wanted_of hg) ?_ (hK _ _ (After.refl _) hy)
  unfold execOp
  simp only [hop, hx, Sem.run_bind, run_load_slice h0, Result.andThen_ok, Sem.run_pure]

theorem run_index0 (w : World) (g cap : Nat) : (Instr.indexAt 47 (.slice (some ⟨g, 0, none⟩) 2 cap) (.int .i64 0)).run Try.prog w = .ok (.pointer (some ⟨g, 0, none⟩)) w := by kernel_rfl
theorem run_index1 (w : World) (g cap : Nat) : (Instr.indexAt 47 (.slice (some ⟨g, 0, none⟩) 2 cap) (.int .i64 1)).run Try.prog w = .ok (.pointer (some ⟨g, 2, none⟩)) w := by kernel_rfl

theorem do_index0 {x : Operand} {g cap : Nat} {u : Value} (hs : (ops[i]?).isSome = true) (hop : (opAt ops i).op = .indexAddr 47 x (.const (.int .i64 0))) (hg : (opAt ops i).guard = none) (hx : A.eval x = u) (hu : u = .slice (some ⟨g, 0, none⟩) 2 cap)
    (hK : ∀ v w', After w w' → (Yd.lit (.pointer (some ⟨g, 0, none⟩))).holds v w' → K (A.put (dstOf ops i) v) w') : OpDo Try.prog ops Q A i w K := by
  subst hu
  refine op_val hs (wanted_of hg) ?_ (hK _ _ (After.refl _) rfl)
  unfold execOp
  simp only [hop, hx, show A.eval (.const (.int .i64 0)) = .int .i64 0 from rfl, Sem.run_bind, run_index0, Result.andThen_ok, Sem.run_pure]
theorem do_index1 {x : Operand} {g cap : Nat} {u : Value} (hs : (ops[i]?).isSome = true) (hop : (opAt ops i).op = .indexAddr 47 x (.const (.int .i64 1))) (hg : (opAt ops i).guard = none) (hx : A.eval x = u) (hu : u = .slice (some ⟨g, 0, none⟩) 2 cap)
    (hK : ∀ v w', After w w' → (Yd.lit (.pointer (some ⟨g, 2, none⟩))).holds v w' → K (A.put (dstOf ops i) v) w') : OpDo Try.prog ops Q A i w K := by
  subst hu
  refine op_val hs (wanted_of hg) ?_ (hK _ _ (After.refl _) rfl)
  unfold execOp
  simp only [hop, hx, show A.eval (.const (.int .i64 1)) = .int .i64 1 from rfl, Sem.run_bind, run_index1, Result.andThen_ok, Sem.run_pure]

theorem treeOf {t : Tm} {v : Value} (h : ST w t v) : (Yd.tree t).holds v w := by
  cases t with
  | k => exact ⟨_, _, _, _, h, h⟩
  | s => exact ⟨_, _, _, _, h, h⟩
  | nm n => exact ⟨_, _, _, _, h, h⟩
  | app f a =>
    obtain ⟨g, cap, fr, s0, p0, s1, p1, rfl, hh⟩ := id h
    exact ⟨_, _, _, _, rfl, h⟩
theorem stOf {t : Tm} {v : Value} (h : (Yd.tree t).holds v w) : ST w t v := let ⟨_, _, _, _, _, h⟩ := h; h

theorem rawOf {t : Tm} {v : Value} (h : (Yd.tree t).holds v w) : Yd.raw.holds v w := let ⟨s, ao, n, c, e, _⟩ := h; ⟨s, ao, n, c, e⟩

theorem do_calllit {f : FuncId} {args : Array Value} {v : Value} (hs : (ops[i]?).isSome = true) (hg : (opAt ops i).guard = none) (hr : (execOp A.eval (opAt ops i)).run Try.prog w = .ok (.enter f args) w) (hc : Calls Try.prog f args w fun e w' => e = .returned v ∧ After w w')
    (hK : ∀ v' w', After w w' → (Yd.lit v).holds v' w' → K (A.put (dstOf ops i) v') w') : OpDo Try.prog ops Q A i w K := by
  refine op_call hs (wanted_of hg) hr (hc.mono ?_)
  rintro e w' ⟨rfl, ha⟩
  exact ⟨_, rfl, hK _ _ ha rfl⟩

theorem do_extract0 {x : Operand} {u a b : Value} (hs : (ops[i]?).isSome = true) (hop : (opAt ops i).op = .extract x 0) (hg : (opAt ops i).guard = none) (hx : A.eval x = u) (hu : u = .tuple #[a, b])
    (hK : ∀ v w', After w w' → (Yd.lit a).holds v w' → K (A.put (dstOf ops i) v) w') : OpDo Try.prog ops Q A i w K := by
  subst hu
  refine op_val hs (wanted_of hg) (v := a) ?_ (hK _ _ (After.refl _) rfl)
  unfold execOp
  simp only [hop, hx]
  kernel_rfl
theorem do_extract1 {x : Operand} {u a b : Value} (hs : (ops[i]?).isSome = true) (hop : (opAt ops i).op = .extract x 1) (hg : (opAt ops i).guard = none) (hx : A.eval x = u) (hu : u = .tuple #[a, b])
    (hK : ∀ v w', After w w' → (Yd.lit b).holds v w' → K (A.put (dstOf ops i) v) w') : OpDo Try.prog ops Q A i w K := by
  subst hu
  refine op_val hs (wanted_of hg) (v := b) ?_ (hK _ _ (After.refl _) rfl)
  unfold execOp
  simp only [hop, hx]
  kernel_rfl

theorem do_pick {c x y : Operand} {u : Value} {p : Bool} {r : Value} (hs : (ops[i]?).isSome = true) (hop : (opAt ops i).op = .pick c x y) (hg : (opAt ops i).guard = none) (hc : A.eval c = u) (hu : u = .bool p) (hr : (if p = true then A.eval x else A.eval y) = r)
    (hK : ∀ v w', After w w' → (Yd.lit r).holds v w' → K (A.put (dstOf ops i) v) w') : OpDo Try.prog ops Q A i w K := by
  subst hu
  refine op_val hs (wanted_of hg) (v := r) ?_ (hK _ _ (After.refl _) rfl)
  unfold execOp
  simp only [hop, hc]
  subst hr
  cases p <;> kernel_rfl

/-- What an operation has yielded, as guards see it. -/
theorem yielded_at {j : Nat} {v : Value} {b : Bool} (hj : ((ops[j]?).bind (·.dst)).bind (A.tmps[·]?) = some v) (hv : v = .bool b) : yielded ops A.tmps j = some b := by
  subst hv
  unfold yielded
  rw [hj]

theorem do_on {j : Nat} {u v : Value} {b : Bool} (y : Yd) (hs : (ops[i]?).isSome = true) (hg : (opAt ops i).guard = some (j, b)) (hj : ((ops[j]?).bind (·.dst)).bind (A.tmps[·]?) = some u) (hu : u = .bool b) (hr : (execOp A.eval (opAt ops i)).run Try.prog w = .ok (.value v) w) (hy : y.holds v w)
    (hK : ∀ v w', After w w' → y.holds v w' → K (A.put (dstOf ops i) v) w') : OpDo Try.prog ops Q A i w K :=
  op_val hs (by unfold Region.wanted; rw [hg]; simp [yielded_at hj hu]) hr (hK _ _ (After.refl w) hy)

theorem do_offg {j : Nat} {u : Value} {b c : Bool} (hs : (ops[i]?).isSome = true) (hg : (opAt ops i).guard = some (j, b)) (hj : ((ops[j]?).bind (·.dst)).bind (A.tmps[·]?) = some u) (hu : u = .bool c) (hne : c ≠ b)
    (hK : ∀ v w', After w w' → Yd.free.holds v w' → K (A.put (dstOf ops i) v) w') : OpDo Try.prog ops Q A i w K :=
  op_off hs (by unfold Region.wanted; rw [hg]; simp [yielded_at hj hu, hne]) (hK _ _ (After.refl w) trivial)

theorem do_rraw1 {x : Operand} {u : Value} (hs : (ops[i]?).isSome = true) (hop : (opAt ops i).op = .buildSlice 47 1 #[(0, x)]) (hg : (opAt ops i).guard = none) (hx : A.eval x = u) (hu : Yd.raw.holds u w)
    (hK : ∀ v w', After w w' → (Yd.rraw 1).holds v w' → K (A.put (dstOf ops i) v) w') : OpDo Try.prog ops Q A i w K := by
  obtain ⟨s, ao, n, c, rfl⟩ := hu
  have hA := After.new w (.cells #[str s, .slice ao n c] 49)
  have hh := heap_new' w (.cells #[str s, .slice ao n c] 49)
  refine op_val hs (wanted_of hg) (v := .slice (some ⟨w.heap.size, 0, none⟩) 1 1) (w' := w.alloc (.cells #[str s, .slice ao n c] 49)) ?_ (hK _ _ hA ⟨_, _, _, rfl, by simp, fun j hj => ?_⟩)
  · unfold execOp
    simp only [hop, List.map_toArray, List.map_cons, List.map_nil, hx, Sem.run_bind, row1, Result.andThen_ok, Sem.run_pure]
  · match j, hj with
    | 0, _ => exact ⟨s, ao, n, c, cell_of_heap (i := 0) hh, cell_of_heap (i := 1) hh⟩

theorem do_rraw2 {x y : Operand} {u v : Value} (hs : (ops[i]?).isSome = true) (hop : (opAt ops i).op = .buildSlice 47 2 #[(0, x), (1, y)]) (hg : (opAt ops i).guard = none) (hx : A.eval x = u) (hy : A.eval y = v) (hu : Yd.raw.holds u w) (hv : Yd.raw.holds v w)
    (hK : ∀ v w', After w w' → (Yd.rraw 2).holds v w' → K (A.put (dstOf ops i) v) w') : OpDo Try.prog ops Q A i w K := by
  obtain ⟨s, ao, n, c, rfl⟩ := hu
  obtain ⟨s', ao', n', c', rfl⟩ := hv
  have hA := After.new w (.cells #[str s, .slice ao n c, str s', .slice ao' n' c'] 49)
  have hh := heap_new' w (.cells #[str s, .slice ao n c, str s', .slice ao' n' c'] 49)
  refine op_val hs (wanted_of hg) (v := .slice (some ⟨w.heap.size, 0, none⟩) 2 2) (w' := w.alloc (.cells #[str s, .slice ao n c, str s', .slice ao' n' c'] 49)) ?_ (hK _ _ hA ⟨_, _, _, rfl, by simp, fun j hj => ?_⟩)
  · unfold execOp
    simp only [hop, List.map_toArray, List.map_cons, List.map_nil, hx, hy, Sem.run_bind, row2, Result.andThen_ok, Sem.run_pure]
  · match j, hj with
    | 0, _ => exact ⟨s, ao, n, c, cell_of_heap (i := 0) hh, cell_of_heap (i := 1) hh⟩
    | 1, _ => exact ⟨s', ao', n', c', cell_of_heap (i := 2) hh, cell_of_heap (i := 3) hh⟩

theorem do_appraw {u1 u2 : Value} {n : Nat} (hs : (ops[i]?).isSome = true) (hg : (opAt ops i).guard = none) (hr : (execOp A.eval (opAt ops i)).run Try.prog w = .ok (.enter 18 #[u1, u2]) w) (h1 : Yd.raw.holds u1 w) (h2 : (Yd.rraw n).holds u2 w) (hn : n ≤ 1000)
    (hK : ∀ v w', After w w' → Yd.raw.holds v w' → K (A.put (dstOf ops i) v) w') : OpDo Try.prog ops Q A i w K := by
  obtain ⟨s, ao, m, c, rfl⟩ := h1
  refine op_call hs (wanted_of hg) hr ((s_appR w s ao m c n u2 h2 hn).mono ?_)
  rintro e w' ⟨s1, a1, n1, c1, rfl, ha⟩
  exact ⟨_, rfl, hK _ _ ha ⟨_, _, _, _, rfl⟩⟩

/-- The last: what looks like a tree is stored into a cell. -/
theorem do_store_raw {x y : Operand} {b : Nat} {p q u v : Value} (hs : (ops[i]?).isSome = true) (hop : (opAt ops i).op = .store 49 x y) (hg : (opAt ops i).guard = none) (hd : (dstOf ops i) = none) (hx : A.eval x = u) (hu : u = .pointer (some ⟨b, 0, none⟩)) (hv : A.eval y = v) (hy : Yd.raw.holds v w) (hb : w.heap[b]? = some (.cells #[p, q] 49 (0, 0)))
    (hK : ∀ s ao n c, v = .agg #[str s, .slice ao n c] → K A ((w.setCell ⟨b, 0, none⟩ (str s)).setCell ⟨b, 1, none⟩ (.slice ao n c))) : OpDo Try.prog ops Q A i w K := by
  obtain ⟨s, ao, n, c, rfl⟩ := hy
  have hth : w.there b 0 2 := fun j hj => by
    rw [Nat.zero_add]
    refine ⟨?_, by simp [World.frozen?, hb]⟩
    match j, hj with
    | 0, _ => rw [cell_of_heap (i := 0) hb]; rfl
    | 1, _ => rw [cell_of_heap (i := 1) hb]; rfl
  have hst : (Instr.storeAt 49 (.pointer (some ⟨b, 0, none⟩)) (.agg #[str s, .slice ao n c])).run Try.prog w = .ok () (w.setCells b 0 [str s, .slice ao n c]) := run_storeAt_mid w b 0 49 #[str s, .slice ao n c] hth (by kernel_rfl) (by kernel_rfl)
  constructor
  rw [opAt_of hs]
  simp only [wanted_of hg, if_true]
  unfold Oper.wp execOp
  simp only [hop, hx.trans hu, hv, Sem.run_bind, hst, Result.andThen_ok, Sem.run_pure, Oper.upon_skip]
  rw [opAt_dst hs, hd]
  exact hK s ao n c rfl
end
end Go.Proofs.Ytjfdindlfakmcaa
