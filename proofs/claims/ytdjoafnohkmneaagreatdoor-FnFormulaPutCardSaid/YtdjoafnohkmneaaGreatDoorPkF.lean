/-
  The program's compositionRealizer and composition.
-/
import Derived.Test.YtdjoafnohkmneaaGreatDoorPkE
import Derived.OwnWalk
import Derived.Laws.AppendOwn
import Derived.Test.YtdjoafnohkmneaaGreatDoorPkC
import Derived.Test.YtdjoafnohkmneaaGreatDoorPkA
import Derived.Test.YtdjoafnohkmneaaGreatDoorPkD
namespace Go.Proofs.YtdjoafnohkmneaaGreatDoor
open Go.RowKit

set_option maxHeartbeats 2000000
set_option maxRecDepth 100000

def compL (F : Tm) (a : Nat) (gs : List FT) : Tm := gs.foldl (fun acc g => Tm.app acc (FT.appL (FT.real g) (FT.vs a))) F

theorem compL_snoc (F : Tm) (a : Nat) (gs : List FT) (g : FT) : compL F a (gs ++ [g]) = Tm.app (compL F a gs) (FT.appL (FT.real g) (FT.vs a)) := by simp [compL, List.foldl_append]

theorem appL_size (F : Tm) (a : Nat) (ha : a ≤ 3) : (FT.appL F (FT.vs a)).size = F.size + a := by
  match a, ha with
  | 0, _ => rfl
  | 1, _ => rfl
  | 2, _ => rfl
  | 3, _ => rfl

theorem vs_sum (a : Nat) (ha : a ≤ 3) : ((FT.vs a).map Tm.size).sum = a := by
  match a, ha with
  | 0, _ => rfl
  | 1, _ => rfl
  | 2, _ => rfl
  | 3, _ => rfl

theorem vs_ns (a : Nat) : (FT.ns a).map Tm.nm = FT.vs a := by simp [FT.ns, FT.vs, List.map_take, Tm.X, Tm.Y, Tm.Z]
theorem vs_len (a : Nat) : (FT.vs a).length ≤ 3 := by simp [FT.vs]; omega

theorem compL_size (F : Tm) (a : Nat) (ha : a ≤ 3) : ∀ gs : List FT, (compL F a gs).size = F.size + (gs.map fun g => (FT.real g).size + a).sum := by
  intro gs
  unfold compL
  induction gs generalizing F with
  | nil => simp
  | cons g gs ih => rw [List.foldl_cons, ih]; simp only [Tm.size, appL_size _ a ha, List.map_cons, List.sum_cons]; omega

theorem le_sum {n : Nat} : ∀ {l : List Nat}, n ∈ l → n ≤ l.sum
  | [], h => by cases h
  | m :: l, h => by
    rw [List.sum_cons]
    rcases List.mem_cons.1 h with rfl | h
    · omega
    · have := le_sum h; omega

theorem compL_le (F : Tm) (a : Nat) (ha : a ≤ 3) (gs : List FT) (k : Nat) : (compL F a (gs.take k)).size ≤ (compL F a gs).size := by
  rw [compL_size F a ha, compL_size F a ha, List.map_take]
  have := sum_take (gs.map fun g => (FT.real g).size + a) k
  omega

end Go.Proofs.YtdjoafnohkmneaaGreatDoor

namespace Go.Proofs.YtdjoafnohkmneaaGreatDoor
open Go.RowKit

set_option maxHeartbeats 2000000
set_option maxRecDepth 100000

theorem strs2 (W : World) (x y : List UInt8) : StrsB (W.alloc (.cells #[str x, str y] 9 (0, 0))).heap.size (W.alloc (.cells #[str x, str y] 9 (0, 0))) (.slice (some ⟨W.heap.size, 0, none⟩) 2 2) [x, y] := by
  refine Or.inr ⟨W.heap.size, 0, 2, rfl, by simp, fun j hj => ?_⟩
  rw [Nat.zero_add, cell_of_heap (heap_top W _)]
  match j, hj with
  | 0, _ => rfl
  | 1, _ => rfl

theorem StrsB.after {b b' : Nat} {w W : World} {sv : Value} {ns : List (List UInt8)} (h : StrsB b w sv ns) (ha : After w W) (hb : b ≤ b') : StrsB b' W sv ns := by
  rcases h with h | ⟨g, o, c, hv, hg, hc⟩
  · exact Or.inl h
  · exact Or.inr ⟨g, o, c, hv, Nat.lt_of_lt_of_le hg hb, fun j hj => cell_later' (hc j hj) _ ha⟩

theorem size_absAll (xs : List (List UInt8)) (t : Tm) (h5 : xs.length < 5) (hz : t.size ≤ 3900) : (FT.absAll xs t).size ≤ 1000000 := absR_small _ _ (by simpa using h5) hz

end Go.Proofs.YtdjoafnohkmneaaGreatDoor

namespace Go.Proofs.YtdjoafnohkmneaaGreatDoor
open Go.RowKit

set_option maxHeartbeats 2000000
set_option maxRecDepth 100000

theorem strs_own {w : World} {base n : Nat} {v : Value} {T : TypeId} {vs : List Value} (xs : List (List UInt8)) (hn : n = xs.length) (hvs : vs = xs.map str) (h : w.ownsRow base T 1 v n vs) : StrsB w.heap.size w v xs := by
  subst hn
  subst hvs
  rcases h.2 with ⟨h1, h2⟩ | ⟨g, cap, cur, h1, _, hh, _⟩
  · exact Or.inl ⟨none, 0, h1, List.length_eq_zero_iff.1 h2⟩
  · refine Or.inr ⟨g, 0, cap, h1, (Array.getElem?_eq_some_iff.1 hh).1, fun j hj => ?_⟩
    rw [Nat.zero_add, World.ownsRow.cellAt (h1 ▸ h) j (by omega)]
    simp [List.getElem?_eq_getElem hj]

end Go.Proofs.YtdjoafnohkmneaaGreatDoor

namespace Go.Proofs.YtdjoafnohkmneaaGreatDoor
open Go.RowKit

set_option maxHeartbeats 2000000
set_option maxRecDepth 100000

/-- Whether one is composed of these. -/
def searOk : List FT → Bool
  | [f] => decide (0 < FT.arity f)
  | _ => false
def recOk : List FT → Bool
  | [f, g] => decide (FT.arity g = FT.arity f + 2)
  | _ => false
def compOk : List FT → Bool
  | f :: g :: gs => decide (FT.arity f = gs.length + 1) && (g :: gs).all fun h => FT.arity h == FT.arity g
  | _ => false

def BitPost (w : World) (b : Bool) (e : Ending) (w' : World) : Prop := e = .returned (.bool b) ∧ After w w'

theorem compOk_cons (f g : FT) (gs : List FT) (h : FT.arity f = gs.length + 1) : compOk (f :: g :: gs) = (g :: gs).all fun h => FT.arity h == FT.arity g := by simp [compOk, h]

end Go.Proofs.YtdjoafnohkmneaaGreatDoor

namespace Go.Proofs.YtdjoafnohkmneaaGreatDoor
open Go.RowKit

set_option maxHeartbeats 2000000
set_option maxRecDepth 100000

def sumL (ps : List FT) (k : Nat) : Nat := ((ps.take k).map FT.size).sum
def allL (ps : List FT) (k : Nat) : Bool := (ps.take k).all FT.total

theorem sumL_succ (ps : List FT) (k : Nat) (h : k < ps.length) : sumL ps (k + 1) = sumL ps k + FT.size ps[k] := by
  unfold sumL
  rw [List.take_succ_eq_append_getElem h, List.map_append, List.sum_append]
  rfl
theorem allL_succ (ps : List FT) (k : Nat) (h : k < ps.length) : allL ps (k + 1) = (allL ps k && FT.total ps[k]) := by
  unfold allL
  rw [List.take_succ_eq_append_getElem h, List.all_append]
  simp only [List.all_cons, List.all_nil, Bool.and_true]
theorem sumL_le (ps : List FT) (k : Nat) : sumL ps k ≤ (ps.map FT.size).sum := by
  have := sum_take (ps.map FT.size) k
  rw [← List.map_take] at this
  exact this

end Go.Proofs.YtdjoafnohkmneaaGreatDoor

namespace Go.Proofs.YtdjoafnohkmneaaGreatDoor
open Go.RowKit

set_option maxHeartbeats 2000000
set_option maxRecDepth 100000

theorem comp_sum (F : FT) (hF : FT.ok F) (a : Nat) (ha : a ≤ 3) (gs : List FT) (hg : ∀ g ∈ gs, FT.ok g) (hn : gs.length ≤ 3) (hs : FT.size F + (gs.map FT.size).sum ≤ 39) : (compL (FT.real F) a gs).size ≤ 3900 := by
  rw [compL_size _ a ha]
  have h0 := (FT.real_small hF).1
  have hoff : ∀ a, FT.off a ≤ 21 := fun a => by
    match a with
    | 0 => decide
    | 1 => decide
    | 2 => decide
    | a + 3 => simp [FT.off]
  have h1 := hoff (FT.arity F)
  have hall : ((gs.map fun g => (FT.real g).size + a).sum : Int) ≤ 63 * ((gs.map FT.size).sum : Nat) + 24 * gs.length := by
    clear hn hs
    induction gs with
    | nil => simp
    | cons g gs ih =>
      have h2 := (FT.real_small (hg g (by simp))).1
      have h3 := hoff (FT.arity g)
      have := ih (fun q hq => hg q (by simp [hq]))
      simp only [List.map_cons, List.sum_cons, List.length_cons]
      omega
  omega

end Go.Proofs.YtdjoafnohkmneaaGreatDoor

namespace Go.Proofs.YtdjoafnohkmneaaGreatDoor
open Go

section
variable {P : Program} (w : World)

/-- An append's row is the old one or a new one. -/
theorem append_where {t ty e : TypeId} {i : TypeInfo} {z : Value} {base size bytes : Nat} (ht : P.underlying t = some (.slice e)) (hi : P.info? e = some i) (hz : i.zero = some z)
    (hsize : i.size = size) (hby : i.bytes = bytes)
    {v : Value} {n : Nat} {xs : List Value} (hown : w.ownsRow base e size v n xs)
    {a : Addr} {m c : Nat} {news : List Value} (hl : news.length = m * size) (hnews : ∀ j u, news[j]? = some u → w.cell? (a.add j) = some u) (h1 : ∀ u ∈ news, u.oneCell' = true)
    (h63 : n + m ≤ maxLen) (hbytes : (n + m) * bytes ≤ 140737488355328) (h0 : 0 < m) {v' : Value} {w' : World}
    (hr : (Builtin.append_ #[t, t] ty #[v, .slice (some a) m c]).run P w = .ok v' w') : v'.ownBlock = v.ownBlock ∨ v'.ownBlock = some w.heap.size := by
  subst hsize
  subst hby
  have hsmall : n + m ≤ 9223372036854775807 := by simp only [maxLen] at h63; omega
  rcases hown.2 with ⟨rfl, rfl⟩ | ⟨g, cap, cur, rfl, hbg, hg, hnc, hcm, hcs, htake⟩
  · have h2 := run_append_nil (P := P) w t ty e i z ht hi hz a m c news hl hnews h0 (by omega) (by have hb := hbytes; simp only [Nat.zero_add] at hb; omega)
    rw [h2] at hr
    injection hr with hr _
    subst hr
    exact Or.inr rfl
  · by_cases hroom : n + m ≤ cap
    · have hfit : n * i.size + news.length ≤ cur.size := by rw [hl, hcs, ← Nat.add_mul]; exact Nat.mul_le_mul_right _ hroom
      have h2 := run_append_room (P := P) w t ty e i ht hi g n cap cur hg a m c news hl hnews h1 hroom hfit
      rw [h2] at hr
      injection hr with hr _
      subst hr
      exact Or.inl rfl
    · have holds : ∀ j u, xs[j]? = some u → w.cell? ((⟨g, 0, none⟩ : Addr).add j) = some u := hown.cells (g := g) rfl
      have h2 := run_append_grow (P := P) w t ty e i z ht hi hz ⟨g, 0, none⟩ n cap xs hown.1 holds a m c news hl hnews (by omega) (by omega) (growslice_fits (by omega) hbytes)
      rw [h2] at hr
      injection hr with hr _
      subst hr
      exact Or.inr rfl

theorem wp_append_at {o : Oper} {a : Act} {K : Act → World → Prop} {Q : Exit → Act → World → Prop} (s x : Operand) (t : TypeId)
    (ho : o.op = .call { callee := .builtin .append, args := #[s, x], argTypes := #[t, t] })
    (base : Nat) (e : TypeId) (i : TypeInfo) (z : Value) (size bytes : Nat) (ht : P.underlying t = some (.slice e)) (hi : P.info? e = some i) (hz : i.zero = some z)
    (hsize : i.size = size) (hby : i.bytes = bytes) (hzs : z.cells.size = size) (hsz : 0 < size)
    (v : Value) (n : Nat) (xs : List Value) (hs : a.eval s = v) (hown : w.ownsRow base e size v n xs)
    (ad : Addr) (m c : Nat) (news : List Value) (hx : a.eval x = .slice (some ad) m c) (hl : news.length = m * size) (hnews : ∀ j u, news[j]? = some u → w.cell? (ad.add j) = some u) (h1 : ∀ u ∈ news, u.oneCell' = true)
    (h63 : n + m ≤ maxLen) (hbytes : (n + m) * bytes ≤ 140737488355328) (hbase : base ≤ w.heap.size) (h0 : 0 < m)
    (h : ∀ v' w', w'.ownsRow base e size v' (n + m) (xs ++ news) → w.grownBy w' v.ownBlock → (v'.ownBlock = v.ownBlock ∨ v'.ownBlock = some w.heap.size) → K (a.put o.dst v') w') : o.wp P a w K Q := by
  obtain ⟨v', w', hr, h2, h3, _⟩ := run_append_own (P := P) w base t o.type e i z size bytes ht hi hz hsize hby hzs hsz v n xs hown ad m c news hl hnews h1 h63 hbytes hbase
  have h4 := append_where w ht hi hz hsize hby hown hl hnews h1 h63 hbytes h0 hr
  unfold Oper.wp execOp
  simp only [ho, resolve, invoke, builtin, Sem.run_bind, Sem.run_pure, Result.andThen_ok, List.map_toArray, List.map_cons, List.map_nil, hs, hx, hr]
  exact h v' w' h2 h3 h4

theorem wpList_append_at {ops : Array Oper} {rest : List Oper} {o : Oper} {a : Act} {Q : Exit → Act → World → Prop} (hgd : o.guard = none) (s x : Operand) (t : TypeId)
    (ho : o.op = .call { callee := .builtin .append, args := #[s, x], argTypes := #[t, t] })
    (base : Nat) (e : TypeId) (i : TypeInfo) (z : Value) (size bytes : Nat) (ht : P.underlying t = some (.slice e)) (hi : P.info? e = some i) (hz : i.zero = some z)
    (hsize : i.size = size) (hby : i.bytes = bytes) (hzs : z.cells.size = size) (hsz : 0 < size)
    (v : Value) (n : Nat) (xs : List Value) (hs : a.eval s = v) (hown : w.ownsRow base e size v n xs)
    (ad : Addr) (m c : Nat) (news : List Value) (hx : a.eval x = .slice (some ad) m c) (hl : news.length = m * size) (hnews : ∀ j u, news[j]? = some u → w.cell? (ad.add j) = some u) (h1 : ∀ u ∈ news, u.oneCell' = true)
    (h63 : n + m ≤ maxLen) (hbytes : (n + m) * bytes ≤ 140737488355328) (hbase : base ≤ w.heap.size) (h0 : 0 < m)
    (h : ∀ v' w', w'.ownsRow base e size v' (n + m) (xs ++ news) → w.grownBy w' v.ownBlock → (v'.ownBlock = v.ownBlock ∨ v'.ownBlock = some w.heap.size) → wpList P ops Q rest (a.put o.dst v') w') : wpList P ops Q (o :: rest) a w :=
  wpList_plain hgd fun _ hK => wp_append_at w s x t ho base e i z size bytes ht hi hz hsize hby hzs hsz v n xs hs hown ad m c news hx hl hnews h1 h63 hbytes hbase h0 fun v' w' h2 h3 h4 => hK _ _ (h v' w' h2 h3 h4)
end
end Go.Proofs.YtdjoafnohkmneaaGreatDoor

namespace Go.Proofs.YtdjoafnohkmneaaGreatDoor
open Go.RowKit

set_option maxHeartbeats 1000000
set_option maxRecDepth 100000

end Go.Proofs.YtdjoafnohkmneaaGreatDoor

namespace Go.Proofs.YtdjoafnohkmneaaGreatDoor
open Go.RowKit

set_option maxHeartbeats 1000000
set_option maxRecDepth 100000

mutual
/-- The value v is the tree as the model has it. -/
def SV (w : World) (B : Nat) : SX → Value → Prop
  | .atom a, v => v = .agg #[str a, .slice none 0 0]
  | .node ps, v => ∃ b cap cs fr, v = .agg #[.string ⟨#[]⟩, .slice (some ⟨b, 0, none⟩) ps.length cap] ∧ B ≤ b ∧ w.heap[b]? = some (.cells cs 35 fr) ∧ SVs w B ps (fun i => cs[i]?) 0
def SVs (w : World) (B : Nat) : List SX → (Nat → Option Value) → Nat → Prop
  | [], _, _ => True
  | p :: ps, get, j => (∃ x y, get (2 * j) = some x ∧ get (2 * j + 1) = some y ∧ SV w B p (.agg #[x, y])) ∧ SVs w B ps get (j + 1)
end

def K2 (get : Nat → Option Value) (j : Nat) (F : Value → Prop) : Prop := ∃ x y, get (2 * j) = some x ∧ get (2 * j + 1) = some y ∧ F (.agg #[x, y])
theorem K2.imp {get : Nat → Option Value} {j : Nat} {F F' : Value → Prop} (hF : ∀ v, F v → F' v) : K2 get j F → K2 get j F' := fun ⟨x, y, h1, h2, h4⟩ => ⟨x, y, h1, h2, hF _ h4⟩

theorem SVs.iff {w : World} {B : Nat} {get : Nat → Option Value} : ∀ (ps : List SX) (j0 : Nat), SVs w B ps get j0 ↔ ∀ j (h : j < ps.length), K2 get (j0 + j) (SV w B ps[j])
  | [], j0 => by simp [SVs]
  | p :: ps, j0 => by
    rw [SVs, SVs.iff ps (j0 + 1)]
    constructor
    · rintro ⟨h0, h⟩ j hj
      cases j with
      | zero => exact h0
      | succ j =>
        have := h j (by simpa using hj)
        rw [show j0 + (j + 1) = j0 + 1 + j by omega]
        exact this
    · intro h
      refine ⟨h 0 (by simp), fun j hj => ?_⟩
      have := h (j + 1) (by simpa using hj)
      rw [show j0 + (j + 1) = j0 + 1 + j by omega] at this
      exact this

mutual
theorem SV.move {w w' : World} {B B' : Nat} (hB : B' ≤ B) (hs : ∀ b, B ≤ b → b < w.heap.size → w'.heap[b]? = w.heap[b]?) : ∀ (t : SX) (v : Value), SV w B t v → SV w' B' t v
  | .atom _, _, h => by simpa only [SV] using h
  | .node ps, v, h => by
    simp only [SV] at h ⊢
    obtain ⟨b, cap, cs, fr, hv, hb, hh, hc⟩ := h
    exact ⟨b, cap, cs, fr, hv, Nat.le_trans hB hb, by rw [hs b hb (Array.getElem?_eq_some_iff.1 hh).1]; exact hh, SVs.move hB hs ps _ _ hc⟩
theorem SVs.move {w w' : World} {B B' : Nat} (hB : B' ≤ B) (hs : ∀ b, B ≤ b → b < w.heap.size → w'.heap[b]? = w.heap[b]?) : ∀ (ps : List SX) (get : Nat → Option Value) (j : Nat), SVs w B ps get j → SVs w' B' ps get j
  | [], _, _, _ => by simp only [SVs]
  | p :: ps, get, j, h => by
    simp only [SVs] at h ⊢
    obtain ⟨⟨x, y, h1, h2, h3⟩, h4⟩ := h
    exact ⟨⟨x, y, h1, h2, SV.move hB hs p _ h3⟩, SVs.move hB hs ps get _ h4⟩
end

theorem SV.same {w w' : World} {B : Nat} {t : SX} {v : Value} (h : SV w B t v) (hs : ∀ b, B ≤ b → b < w.heap.size → w'.heap[b]? = w.heap[b]?) : SV w' B t v := SV.move (Nat.le_refl _) hs t v h
theorem SV.less {w : World} {B B' : Nat} {t : SX} {v : Value} (h : SV w B t v) (hB : B' ≤ B) : SV w B' t v := SV.move hB (fun _ _ _ => rfl) t v h
theorem SV.after {w w' : World} {B : Nat} {t : SX} {v : Value} (h : SV w B t v) (ha : After w w') : SV w' B t v := h.same fun b _ hl => ha.block b hl

/-- Parts of a tree. -/
def KidsX (w : World) (B : Nat) (sv : Value) (ps : List SX) : Prop :=
  (ps = [] ∧ sv = .slice none 0 0) ∨ ∃ b cap cs fr, ps ≠ [] ∧ sv = .slice (some ⟨b, 0, none⟩) ps.length cap ∧ B ≤ b ∧ w.heap[b]? = some (.cells cs 35 fr) ∧ ∀ j (h : j < ps.length), K2 (fun i => cs[i]?) j (SV w B ps[j])

theorem KidsX.after {w w' : World} {B : Nat} {sv : Value} {ps : List SX} (h : KidsX w B sv ps) (ha : After w w') : KidsX w' B sv ps := by
  rcases h with h | ⟨b, cap, cs, fr, hne, hv, hb, hh, hc⟩
  · exact Or.inl h
  · exact Or.inr ⟨b, cap, cs, fr, hne, hv, hb, ha.heap hh, fun j hj => (hc j hj).imp fun _ h => h.after ha⟩

def atomX : SX → List UInt8
  | .atom a => a
  | .node _ => []
def partsX : SX → List SX
  | .atom _ => []
  | .node ps => ps

/-- Trees as the reader makes them: nodes have parts. -/
theorem SV.kids {w : World} {B : Nat} {t : SX} {v : Value} (h : SV w B t v) (hne : ∀ ps, t = .node ps → ps ≠ []) : ∃ sv, v = .agg #[str (atomX t), sv] ∧ KidsX w B sv (partsX t) := by
  cases t with
  | atom a => simp only [SV] at h; exact ⟨_, h, Or.inl ⟨rfl, rfl⟩⟩
  | node ps =>
    simp only [SV] at h
    obtain ⟨b, cap, cs, fr, hv, hb, hh, hc⟩ := h
    refine ⟨_, hv, Or.inr ⟨b, cap, cs, fr, hne ps rfl, rfl, hb, hh, fun j hj => ?_⟩⟩
    have := (SVs.iff ps 0).1 hc j hj
    rwa [Nat.zero_add] at this

theorem SV.mk {w : World} {B : Nat} {ps : List SX} {sv : Value} (h : KidsX w B sv ps) (hne : ps ≠ []) : SV w B (.node ps) (.agg #[.string ⟨#[]⟩, sv]) := by
  simp only [SV]
  rcases h with ⟨e, _⟩ | ⟨b, cap, cs, fr, _, rfl, hb, hh, hc⟩
  · exact absurd e hne
  · exact ⟨b, cap, cs, fr, rfl, hb, hh, (SVs.iff ps 0).2 fun j hj => by rw [Nat.zero_add]; exact hc j hj⟩

theorem KidsX.form {w : World} {B : Nat} {sv : Value} {ps : List SX} (h : KidsX w B sv ps) : ∃ ao cap, sv = .slice ao ps.length cap := by
  rcases h with ⟨rfl, rfl⟩ | ⟨b, cap, cs, fr, _, rfl, _⟩
  · exact ⟨_, _, rfl⟩
  · exact ⟨_, _, rfl⟩

/-- Blocks from S on below E only. -/
def SVr (w : World) (S E : Nat) (t : SX) (v : Value) : Prop := ∀ w'' : World, (∀ k, S ≤ k → k < E → w''.heap[k]? = w.heap[k]?) → SV w'' S t v
theorem SV.ranged {w : World} {S : Nat} {t : SX} {v : Value} (h : SV w S t v) : SVr w S w.heap.size t v := fun _ hk => h.same hk
theorem SVr.keep {w w' : World} {S E : Nat} {t : SX} {v : Value} (h : SVr w S E t v) (hk : ∀ k, S ≤ k → k < E → w'.heap[k]? = w.heap[k]?) : SVr w' S E t v := fun w'' h2 => h w'' fun k h1 h3 => (h2 k h1 h3).trans (hk k h1 h3)
theorem SVr.sv {w : World} {S E : Nat} {t : SX} {v : Value} (h : SVr w S E t v) : SV w S t v := h w fun _ _ _ => rfl

/-- A row of parts that may grow, the model's. -/
def RowT (w : World) (base : Nat) (sv : Value) (ps : List SX) (xs : List Value) : Prop :=
  w.ownsRow base 35 2 sv ps.length xs ∧ (ps = [] → sv = .slice none 0 0) ∧ ∀ j (h : j < ps.length), ∃ S E, base ≤ S ∧ E ≤ w.heap.size ∧ (∀ g, sv.ownBlock = some g → g < S ∨ E ≤ g) ∧ K2 (fun i => xs[i]?) j (SVr w S E ps[j])

theorem RowT.nil (w : World) (base : Nat) : RowT w base (.slice none 0 0) [] [] := ⟨World.ownsRow_nil w base _ _, fun _ => rfl, fun j h => absurd h (by simp)⟩

theorem RowT.grown {w w' : World} {base b : Nat} {sv : Value} {ps : List SX} {xs : List Value} (h : RowT w base sv ps xs) (hg : w.grownBy w' (some b)) (hb : b < base) : RowT w' base sv ps xs := by
  refine ⟨h.1.kept hg ?_, h.2.1, fun j hj => ?_⟩
  · cases hv : sv.ownBlock with
    | none => exact Or.inl rfl
    | some g => exact Or.inr (fun e => by injection e with e; have := (h.1.lt g hv).1; omega)
  · obtain ⟨S, E, h2, h3, h4, h5⟩ := h.2.2 j hj
    exact ⟨S, E, h2, Nat.le_trans h3 hg.size, h4, h5.imp fun _ h => h.keep fun k hk1 hk2 => hg.block k (by omega) (fun e => by injection e with e; omega)⟩

theorem RowT.push {w w' : World} {base S : Nat} {sv v' x y : Value} {ps : List SX} {xs : List Value} {t : SX} (h : RowT w base sv ps xs) (hS : base ≤ S) (hgS : ∀ g, sv.ownBlock = some g → g < S) (ht : SV w S t (.agg #[x, y])) (o : Obj)
    (ho : w'.ownsRow base 35 2 v' (ps.length + 1) (xs ++ [x, y])) (hg : (w.alloc o).grownBy w' sv.ownBlock) (hw : v'.ownBlock = sv.ownBlock ∨ v'.ownBlock = some (w.alloc o).heap.size) :
    RowT w' base v' (ps ++ [t]) (xs ++ [x, y]) := by
  have hxl : xs.length = 2 * ps.length := by have := h.1.1; omega
  have hsz : (w.alloc o).heap.size = w.heap.size + 1 := by simp
  have hkeep : ∀ k, k < w.heap.size → (∀ g, sv.ownBlock = some g → k ≠ g) → w'.heap[k]? = w.heap[k]? := fun k hk hne => by
    rw [hg.block k (by omega) (fun e => hne k e.symm rfl)]
    exact (below_new w o).block k hk
  refine ⟨by rw [List.length_append]; exact ho, fun e => by simp at e, fun j hj => ?_⟩
  by_cases hjl : j < ps.length
  · obtain ⟨S', E, h2, h3, h4, x1, y1, e1, e2, h5⟩ := h.2.2 j hjl
    refine ⟨S', E, h2, by have := hg.size; omega, fun g hg' => ?_, x1, y1, ?_, ?_, ?_⟩
    · rcases hw with hw | hw
      · exact h4 g (hw ▸ hg')
      · rw [hw] at hg'; injection hg' with hg'; right; omega
    · show (xs ++ [x, y])[2 * j]? = _
      rw [List.getElem?_append_left (by omega)]; exact e1
    · show (xs ++ [x, y])[2 * j + 1]? = _
      rw [List.getElem?_append_left (by omega)]; exact e2
    · rw [List.getElem_append_left hjl]
      exact h5.keep fun k hk1 hk2 => hkeep k (by omega) (fun g hg' e => by have := h4 g hg'; omega)
  · have hj' : j = ps.length := by rw [List.length_append, List.length_singleton] at hj; omega
    subst hj'
    refine ⟨S, w.heap.size, hS, by have := hg.size; omega, fun g hg' => ?_, x, y, ?_, ?_, ?_⟩
    · rcases hw with hw | hw
      · exact Or.inl (hgS g (hw ▸ hg'))
      · rw [hw] at hg'; injection hg' with hg'; right; omega
    · show (xs ++ [x, y])[2 * ps.length]? = _
      rw [List.getElem?_append_right (by omega), hxl, Nat.sub_self]; rfl
    · show (xs ++ [x, y])[2 * ps.length + 1]? = _
      rw [List.getElem?_append_right (by omega), hxl, show 2 * ps.length + 1 - 2 * ps.length = 1 by omega]; rfl
    · simp only [List.getElem_concat_length]
      exact ht.ranged.keep fun k hk1 hk2 => hkeep k hk2 (fun g hg' e => by have := hgS g hg'; omega)

theorem RowT.kids {w : World} {base B : Nat} {sv : Value} {ps : List SX} {xs : List Value} (h : RowT w base sv ps xs) (hB : B ≤ base) : KidsX w B sv ps := by
  obtain ⟨ho, hn, hc⟩ := h
  by_cases hp : ps = []
  · exact Or.inl ⟨hp, hn hp⟩
  rcases ho.2 with ⟨h1, h2⟩ | ⟨g, cap, cur, hv, hb, hh, hle, _, hcs, hct⟩
  · exact absurd (List.length_eq_zero_iff.1 h2) hp
  · refine Or.inr ⟨g, cap, cur, _, hp, hv, Nat.le_trans hB hb, hh, fun j hj => ?_⟩
    obtain ⟨S, E, h2, _, _, x, y, e1, e2, h5⟩ := hc j hj
    have hat : ∀ i v, i < ps.length * 2 → xs[i]? = some v → cur[i]? = some v := fun i v hi e => by
      rw [← hct, List.getElem?_take, if_pos hi] at e
      simpa using e
    exact ⟨x, y, hat _ _ (by omega) e1, hat _ _ (by omega) e2, h5.sv.less (by omega)⟩
end Go.Proofs.YtdjoafnohkmneaaGreatDoor

namespace Go.Proofs.YtdjoafnohkmneaaGreatDoor
open Go.RowKit

set_option maxHeartbeats 2000000
set_option maxRecDepth 100000

theorem pread_facts (l : List UInt8) {d i k j k' : Nat} {t : FT} (hi : i ≤ l.length) (h : FT.pread l d i k = some (t, j, k')) : FT.ok t ∧ i + 1 ≤ j ∧ j ≤ l.length ∧ FT.size t + k' = k := by
  obtain ⟨h1, h2⟩ := FT.pread_m l d d i k t j k' (Nat.le_refl _) h
  obtain ⟨g1, g2, g3, _⟩ := FT.mread_facts l d i t j hi h1
  exact ⟨g1, g2, g3, h2⟩

theorem grown_after {w W : World} {b : Nat} (h : After w W) : w.grownBy W (some b) := ⟨h.os, h.tape, h.output, h.size, fun k hk _ => h.block k hk⟩

theorem grown_own {w a c : World} {b g : Nat} (h1 : w.grownBy a (some b)) (h2 : a.grownBy c (some g)) (hg : w.heap.size ≤ g) : w.grownBy c (some b) :=
  ⟨h2.os.trans h1.os, h2.tape.trans h1.tape, h2.output.trans h1.output, Nat.le_trans h1.size h2.size, fun k hk hne => by
    rw [h2.block k (Nat.lt_of_lt_of_le hk h1.size) (fun e => by injection e with e; omega)]
    exact h1.block k hk hne⟩

theorem ok_len : ∀ {ps : List FT}, (ps.map FT.size).sum ≤ 39 → ps.length ≤ 39 := by
  intro ps h
  have : ps.length ≤ (ps.map FT.size).sum := by
    clear h
    induction ps with
    | nil => simp
    | cons f ps ih => have := FT.size_pos f; simp only [List.length_cons, List.map_cons, List.sum_cons]; omega
  omega

end Go.Proofs.YtdjoafnohkmneaaGreatDoor

namespace Go.Proofs.YtdjoafnohkmneaaGreatDoor
open Go.RowKit

set_option maxHeartbeats 2000000
set_option maxRecDepth 100000

theorem after_own2 {w w' : World} {o : Obj} (h : (w.alloc o).grownBy w' (some w.heap.size)) : After w w' :=
  ⟨h.os, h.tape, h.output, by have := h.size; simp at this; omega, fun k hk => by
    rw [h.block k (by simp; omega) (fun e => by injection e with e; omega)]
    exact (below_new w o).block k hk⟩

def IntPost (w : World) (n : Int) (e : Ending) (w' : World) : Prop := e = .returned (.int .i64 n) ∧ After w w'
def pArity (l : List UInt8) : Int := match FT.parse l with | some t => (FT.arity t : Nat) | none => -1
def pSizeF (l : List UInt8) : Int := match FT.parse l with | some t => (FT.size t : Nat) | none => -1
def pTotal (l : List UInt8) : Bool := match FT.parse l with | some t => FT.total t | none => false

end Go.Proofs.YtdjoafnohkmneaaGreatDoor

namespace Go.Proofs.YtdjoafnohkmneaaGreatDoor
open Go.RowKit

set_option maxHeartbeats 4000000
set_option maxRecDepth 100000

def placeX : Option (SX × Nat) → Int
  | some (_, j) => (j : Nat)
  | none => -1

def SXPost (w : World) (o : Option (SX × Nat)) (e : Ending) (w' : World) : Prop :=
  ∃ s ao n c, e = .returned (.tuple #[.agg #[str s, .slice ao n c], .int .i64 (placeX o)]) ∧ After w w' ∧ ∀ t j, o = some (t, j) → SV w' w.heap.size t (.agg #[str s, .slice ao n c])

theorem SXPost.no {w w' : World} {o : Option (SX × Nat)} (ho : o = none) (h : After w w') (s : List UInt8) (ao : Option Addr) (n c : Nat) : SXPost w o (.returned (.tuple #[.agg #[str s, .slice ao n c], .int .i64 (-1)])) w' :=
  ⟨s, ao, n, c, by rw [ho]; rfl, h, fun t j ht => by rw [ho] at ht; cases ht⟩

theorem cells2 {W : World} {q : Nat} {x y : Value} {T : TypeId} (h : W.heap[q]? = some (.cells #[x, y] T (0, 0))) :
    W.cell? ⟨q, 0, none⟩ = some x ∧ W.cell? ⟨q, 1, none⟩ = some y ∧ W.frozen? ⟨q, 0, none⟩ = false ∧ W.frozen? ⟨q, 1, none⟩ = false ∧ q < W.heap.size :=
  ⟨cell_of_heap h, cell_of_heap h, by simp [World.frozen?, h], by simp [World.frozen?, h], (Array.getElem?_eq_some_iff.1 h).1⟩

theorem y_slice_len {w : World} {base n size : Nat} {T : TypeId} {v : Value} {xs : List Value} (h : w.ownsRow base T size v n xs) : ∃ ao ac, v = .slice ao n ac := by
  rcases h.2 with ⟨rfl, rfl⟩ | ⟨g, cap, cur, rfl, _⟩
  · exact ⟨_, _, rfl⟩
  · exact ⟨_, _, rfl⟩
theorem y_slice {w : World} {base n size : Nat} {T : TypeId} {v : Value} {xs : List Value} (h : w.ownsRow base T size v n xs) : ∃ ao an ac, v = .slice ao an ac := by
  obtain ⟨ao, ac, h⟩ := y_slice_len h
  exact ⟨ao, n, ac, h⟩

/-- The place behind what is read lies further on. -/
theorem sread_on {l : List UInt8} {d i e : Nat} {t : SX} (h : Fm.sread l d i = some (t, e)) (he : e < l.length) : i < e := by
  obtain ⟨h1, h2, _⟩ := Fm.sread_sound l d i t e h
  have h3 := Fm.sxText_pos t h2
  have h4 := congrArg List.length h1
  simp only [List.length_drop, List.length_append] at h4
  omega

theorem s_xread_deep (w : World) (l : List UInt8) (k : Nat) : Calls Tryz.prog 32 #[str l, .int .i64 (k : Nat), .int .i64 151] w (SXPost w none) := by
  go_enter Tryz.func32, Tryz.ntmps32
  go_wp2_with fail
  exact bodyPost_ret (v := .tuple #[.agg #[.string ⟨#[]⟩, .slice none 0 0], .int .i64 (-1)]) (by simp [results, Tryz.results32, go_sem]) rfl
    (SXPost.no rfl (by repeat (first | exact After.refl _ | refine After.alloc ?_ _ | refine Below.setCell ?_ (by first | exact Nat.le_refl _ | exact Nat.le_succ _) _)) [] _ _ _)

theorem s_xread_word (w : World) (l : List UInt8) (hl : l.length ≤ 1000) (d k : Nat) (a : Int) (ha : 0 ≤ a) (ha2 : a ≤ 150) (hk : k < l.length) (h40 : ¬ l[k]? = some 40) :
    Calls Tryz.prog 32 #[str l, .int .i64 (k : Nat), .int .i64 a] w (SXPost w (Fm.sread l (d + 1) k)) := by
  have hsz : (⟨l.toArray⟩ : ByteArray).size = l.length := by show l.toArray.size = _; simp
  have hget : l[k]? = some l[k] := List.getElem?_eq_getElem hk
  have h40e : ((((⟨l.toArray⟩ : ByteArray)[k]'(by rw [hsz]; exact hk)).toNat : Int) != 40) = true := by
    rw [byte_at l k hk (by rw [hsz]; exact hk), byte_ne_lit' l[k] 40 40 rfl rfl]
    rw [hget] at h40
    simpa using h40
  have hat := fun W => s_atom W l k (by omega) (Nat.le_of_lt hk)
  obtain ⟨m, hm⟩ : ∃ m, m = Tm.atomEnd l k := ⟨_, rfl⟩
  have hword : (⟨l.toArray⟩ : ByteArray).extract k m = ⟨((l.drop k).take (m - k)).toArray⟩ := bytes_ext l k m
  have hend := Tm.atomEnd_le l k (Nat.le_of_lt hk)
  have hmr : Fm.sread l (d + 1) k = if (l.drop k).take (m - k) = [] then none else some (.atom ((l.drop k).take (m - k)), m) := by
    rw [hm]
    simp only [Fm.sread, if_neg (show ¬ l.length ≤ k by omega), if_neg h40]
    rfl
  rw [← hm] at hend hat
  obtain ⟨x, hx⟩ : ∃ x, x = (l.drop k).take (m - k) := ⟨_, rfl⟩
  rw [← hx] at hword hmr
  obtain ⟨hm1, hm2⟩ := hend
  have hk0 : (k : Int) < (l.length : Int) := by omega
  have HM := Lib.hid hmr
  clear hmr hx hm h40 hget
  by_cases h0 : x = []
  · have H := Lib.hid (show Fm.sread l (d + 1) k = none by rw [HM.out, if_pos h0])
    subst h0
    clear HM
    go_enter Tryz.func32, Tryz.ntmps32
    go_wp2_with (go_at_call 56; refine (hat _).mono ?_; rintro e w' ⟨rfl, rfl⟩)
    exact bodyPost_ret (v := .tuple #[.agg #[.string ⟨#[]⟩, .slice none 0 0], .int .i64 (-1)]) (by simp [results, Tryz.results32, go_sem]) rfl
      (SXPost.no H.out (by repeat (first | exact After.refl _ | refine After.alloc ?_ _ | refine Below.setCell ?_ (by first | exact Nat.le_refl _ | exact Nat.le_succ _) _)) [] _ _ _)
  · have H := Lib.hid (show Fm.sread l (d + 1) k = some (.atom x, m) by rw [HM.out, if_neg h0])
    have e0 : (x == []) = false := beq_eq_false_iff_ne.2 h0
    clear HM h0
    go_enter Tryz.func32, Tryz.ntmps32
    go_wp2_with (go_at_call 56; refine (hat _).mono ?_; rintro e w' ⟨rfl, rfl⟩)
    refine bodyPost_ret (v := .tuple #[.agg #[str x, .slice none 0 0], .int .i64 (m : Nat)]) (by simp [results, Tryz.results32, go_sem]) rfl ?_
    exact ⟨x, none, 0, 0, by rw [H.out]; rfl, (by repeat (first | exact After.refl _ | refine After.alloc ?_ _ | refine Below.setCell ?_ (by first | exact Nat.le_refl _ | exact Nat.le_succ _) _)), fun t' j he => by
      rw [H.out] at he
      simp only [Option.some.injEq, Prod.mk.injEq] at he
      obtain ⟨rfl, rfl⟩ := he
      simp only [SV]⟩
end Go.Proofs.YtdjoafnohkmneaaGreatDoor
