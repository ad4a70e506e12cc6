/-
  A region that draws its order, by one obligation an operation: the rule as it is used, and the model's kinds of operations on trees.
-/
import Derived.Test.YtfpekihdoclncaaPkAJ
import Derived.Test.YtfpekihdoclncaaPkAP
import Derived.Deep.MidRow
import Derived.OwnWalk
import Derived.Laws.AppendOwn
import Derived.Test.YtfpekihdoclncaaPkAN
namespace Go.Proofs.Ytfpekihdoclncaa
open Go Go.RowKit

set_option maxRecDepth 100000

/-! ### the kinds of operations, at a seat's program -/

theorem run_load_tree {w : World} {b o : Nat} {c0 c1 : Value} (h0 : w.cell? ⟨b, o, none⟩ = some c0) (h1 : w.cell? ⟨b, o + 1, none⟩ = some c1) :
    (Instr.loadAt 32 (.pointer (some ⟨b, o, none⟩))).run Try.prog w = .ok (.agg #[c0, c1]) w := by
  obtain ⟨d, hd, hr⟩ : ∃ d, Try.prog.underlying 32 = some d ∧ d.isRow = true := ⟨_, rfl, rfl⟩
  exact run_loadAt_mid w b o 32 [c0, c1] d (fun j v hj => by
    match j, hj with
    | 0, hj => simp at hj; subst hj; exact h0
    | 1, hj => simp at hj; subst hj; exact h1) hd hr (by kernel_rfl)

/-- The pointed-at tree is loaded. -/
theorem op_load {ops : Array Oper} {Q : Exit → Act → World → Prop} {A : Act} {i : Nat} {w : World} {K : Act → World → Prop} {x : Operand} {b k : Nat} {c0 c1 : Value} (hs : (ops[i]?).isSome = true) (hop : (opAt ops i).op = .load 32 x) (hg : (opAt ops i).guard = none) (hx : A.eval x = .pointer (some ⟨b, k, none⟩))
    (h0 : w.cell? ⟨b, k, none⟩ = some c0) (h1 : w.cell? ⟨b, k + 1, none⟩ = some c1) (hK : K (A.put (dstOf ops i) (.agg #[c0, c1])) w) : OpDo Try.prog ops Q A i w K := by
  refine op_val hs (by unfold Region.wanted; rw [hg]) ?_ hK
  unfold execOp
  simp only [hop, hx, Sem.run_bind, run_load_tree h0 h1, Result.andThen_ok, Sem.run_pure]
end Go.Proofs.Ytfpekihdoclncaa

namespace Go.Proofs.Ytfpekihdoclncaa
open Go

section
variable {P : Program} (w : World)

/-- An append's row is the old one or a new one. -/
theorem append_where {t ty e : TypeId} {i : TypeInfo} {z : Value} {base size bytes : Nat} (ht : P.underlying t = some (.slice e)) (hi : P.info? e = some i) (hz : i.zero = some z)
    (hsize : i.size = size) (hby : i.bytes = bytes)
    {v : Value} {n : Nat} {xs : List Value} (hown : w.ownsRow base e size v n xs)
    {a : Addr} {m c : Nat} {news : List Value} (hl : news.length = m * size) (hnews : ∀ j u, news[j]? = some u → w.cell? (a.add j) = some u) (h1 : ∀ u ∈ news, u.oneCell' = true)
    (h63 : n + m ≤ maxLen) (hbytes : (n + m) * bytes ≤ 140737488355328) (h0 : 0 < m) {v' : Value} {w' : World}
    (hr : (Builtin.append_ #[t, t] ty #[v, .slice (some a) m c]).run P w = .ok v' w') : v'.ownBlock = v.ownBlock ∨ v'.ownBlock = some w.heap.size := by
  subst hsize
  subst hby
  have hsmall : n + m ≤ 9223372036854775807 := by simp only [maxLen] at h63; omega
  rcases hown.2 with ⟨rfl, rfl⟩ | ⟨g, cap, cur, rfl, hbg, hg, hnc, hcm, hcs, htake⟩
  · have h2 := run_append_nil (P := P) w t ty e i z ht hi hz a m c news hl hnews h0 (by omega) (by have hb := hbytes; simp only [Nat.zero_add] at hb; omega)
    rw [h2] at hr
    injection hr with hr _
    subst hr
    exact Or.inr rfl
  · by_cases hroom : n + m ≤ cap
    · have hfit : n * i.size + news.length ≤ cur.size := by rw [hl, hcs, ← Nat.add_mul]; exact Nat.mul_le_mul_right _ hroom
      have h2 := run_append_room (P := P) w t ty e i ht hi g n cap cur hg a m c news hl hnews h1 hroom hfit
      rw [h2] at hr
      injection hr with hr _
      subst hr
      exact Or.inl rfl
    · have holds : ∀ j u, xs[j]? = some u → w.cell? ((⟨g, 0, none⟩ : Addr).add j) = some u := hown.cells (g := g) rfl
      have h2 := run_append_grow (P := P) w t ty e i z ht hi hz ⟨g, 0, none⟩ n cap xs hown.1 holds a m c news hl hnews (by omega) (by omega) (growslice_fits (by omega) hbytes)
      rw [h2] at hr
      injection hr with hr _
      subst hr
      exact Or.inr rfl

theorem wp_append_at {o : Oper} {a : Act} {K : Act → World → Prop} {Q : Exit → Act → World → Prop} (s x : Operand) (t : TypeId)
    (ho : o.op = .call { callee := .builtin .append, args := #[s, x], argTypes := #[t, t] })
    (base : Nat) (e : TypeId) (i : TypeInfo) (z : Value) (size bytes : Nat) (ht : P.underlying t = some (.slice e)) (hi : P.info? e = some i) (hz : i.zero = some z)
    (hsize : i.size = size) (hby : i.bytes = bytes) (hzs : z.cells.size = size) (hsz : 0 < size)
    (v : Value) (n : Nat) (xs : List Value) (hs : a.eval s = v) (hown : w.ownsRow base e size v n xs)
    (ad : Addr) (m c : Nat) (news : List Value) (hx : a.eval x = .slice (some ad) m c) (hl : news.length = m * size) (hnews : ∀ j u, news[j]? = some u → w.cell? (ad.add j) = some u) (h1 : ∀ u ∈ news, u.oneCell' = true)
    (h63 : n + m ≤ maxLen) (hbytes : (n + m) * bytes ≤ 140737488355328) (hbase : base ≤ w.heap.size) (h0 : 0 < m)
    (h : ∀ v' w', w'.ownsRow base e size v' (n + m) (xs ++ news) → w.grownBy w' v.ownBlock → (v'.ownBlock = v.ownBlock ∨ v'.ownBlock = some w.heap.size) → K (a.put o.dst v') w') : o.wp P a w K Q := by
  obtain ⟨v', w', hr, h2, h3, _⟩ := run_append_own (P := P) w base t o.type e i z size bytes ht hi hz hsize hby hzs hsz v n xs hown ad m c news hl hnews h1 h63 hbytes hbase
  have h4 := append_where w ht hi hz hsize hby hown hl hnews h1 h63 hbytes h0 hr
  unfold Oper.wp execOp
  simp only [ho, resolve, invoke, builtin, Sem.run_bind, Sem.run_pure, Result.andThen_ok, List.map_toArray, List.map_cons, List.map_nil, hs, hx, hr]
  exact h v' w' h2 h3 h4

theorem wpList_append_at {ops : Array Oper} {rest : List Oper} {o : Oper} {a : Act} {Q : Exit → Act → World → Prop} (hgd : o.guard = none) (s x : Operand) (t : TypeId)
    (ho : o.op = .call { callee := .builtin .append, args := #[s, x], argTypes := #[t, t] })
    (base : Nat) (e : TypeId) (i : TypeInfo) (z : Value) (size bytes : Nat) (ht : P.underlying t = some (.slice e)) (hi : P.info? e = some i) (hz : i.zero = some z)
    (hsize : i.size = size) (hby : i.bytes = bytes) (hzs : z.cells.size = size) (hsz : 0 < size)
    (v : Value) (n : Nat) (xs : List Value) (hs : a.eval s = v) (hown : w.ownsRow base e size v n xs)
    (ad : Addr) (m c : Nat) (news : List Value) (hx : a.eval x = .slice (some ad) m c) (hl : news.length = m * size) (hnews : ∀ j u, news[j]? = some u → w.cell? (ad.add j) = some u) (h1 : ∀ u ∈ news, u.oneCell' = true)
    (h63 : n + m ≤ maxLen) (hbytes : (n + m) * bytes ≤ 140737488355328) (hbase : base ≤ w.heap.size) (h0 : 0 < m)
    (h : ∀ v' w', w'.ownsRow base e size v' (n + m) (xs ++ news) → w.grownBy w' v.ownBlock → (v'.ownBlock = v.ownBlock ∨ v'.ownBlock = some w.heap.size) → wpList P ops Q rest (a.put o.dst v') w') : wpList P ops Q (o :: rest) a w :=
  wpList_plain hgd fun _ hK => wp_append_at w s x t ho base e i z size bytes ht hi hz hsize hby hzs hsz v n xs hs hown ad m c news hx hl hnews h1 h63 hbytes hbase h0 fun v' w' h2 h3 h4 => hK _ _ (h v' w' h2 h3 h4)
end
end Go.Proofs.Ytfpekihdoclncaa

namespace Go.Proofs.Ytfpekihdoclncaa

/-- A function text. -/
inductive FT where
  | z (a : Nat)
  | inc
  | p (i a : Nat)
  | c1 (f g : FT)
  | c2 (f g h : FT)
  | c3 (f g h i : FT)
  | r (f g : FT)
  | m (f : FT)

namespace FT

def arity : FT → Nat
  | z a => a
  | inc => 1
  | p _ a => a
  | c1 _ g => arity g
  | c2 _ g _ => arity g
  | c3 _ g _ _ => arity g
  | r f _ => arity f + 1
  | m f => arity f - 1

def size : FT → Nat
  | c1 f g => 1 + (size f + size g)
  | c2 f g h => 1 + (size f + (size g + size h))
  | c3 f g h i => 1 + (size f + (size g + (size h + size i)))
  | r f g => 1 + (size f + size g)
  | m f => 1 + size f
  | _ => 1

def total : FT → Bool
  | c1 f g => total f && total g
  | c2 f g h => total f && total g && total h
  | c3 f g h i => total f && total g && total h && total i
  | r f g => total f && total g
  | m _ => false
  | _ => true

/-- All parts have the arities that they have to have. -/
def ok : FT → Prop
  | z a => a ≤ 3
  | inc => True
  | p i a => i < a ∧ a ≤ 3
  | c1 f g => ok f ∧ ok g ∧ arity f = 1
  | c2 f g h => ok f ∧ ok g ∧ ok h ∧ arity f = 2 ∧ arity h = arity g
  | c3 f g h i => ok f ∧ ok g ∧ ok h ∧ ok i ∧ arity f = 3 ∧ arity h = arity g ∧ arity i = arity g
  | r f g => ok f ∧ ok g ∧ arity g = arity f + 2
  | m f => ok f ∧ 0 < arity f

theorem arity_le : ∀ {t : FT}, ok t → arity t ≤ 3
  | z _, h => h
  | inc, _ => by simp [arity]
  | p _ _, h => h.2
  | c1 _ _, h => by have := arity_le h.2.1; simpa only [arity] using this
  | c2 _ _ _, h => by have := arity_le h.2.1; simpa only [arity] using this
  | c3 _ _ _ _, h => by have := arity_le h.2.1; simpa only [arity] using this
  | r _ _, h => by have := arity_le h.2.1; have := h.2.2; simp only [arity]; omega
  | m _, h => by have := arity_le h.1; simp only [arity]; omega

theorem size_pos (t : FT) : 1 ≤ size t := by cases t <;> simp only [size] <;> omega

/-! ### words and combinations -/

def word (s : List UInt8) : Option FT :=
  if s = [122, 48] then some (z 0) else if s = [122, 49] then some (z 1) else if s = [122, 50] then some (z 2) else if s = [122, 51] then some (z 3)
  else if s = [105, 110, 99] then some inc
  else if s = [112, 48, 49] then some (p 0 1) else if s = [112, 48, 50] then some (p 0 2) else if s = [112, 49, 50] then some (p 1 2)
  else if s = [112, 48, 51] then some (p 0 3) else if s = [112, 49, 51] then some (p 1 3) else if s = [112, 50, 51] then some (p 2 3)
  else none

theorem word_facts {s : List UInt8} {t : FT} (h : word s = some t) : t.ok ∧ t.size = 1 ∧ 1 ≤ s.length ∧ s.length ≤ 3 ∧ t.total = true := by
  unfold word at h
  repeat (split at h; · (rename_i hs; cases h; subst hs; simp [ok, size, total]))
  cases h

def comb (a : List UInt8) (ps : List FT) : Option FT :=
  if a = [99] then match ps with
    | [f, g] => if arity f = 1 then some (c1 f g) else none
    | [f, g, h] => if arity f = 2 ∧ arity h = arity g then some (c2 f g h) else none
    | [f, g, h, i] => if arity f = 3 ∧ arity h = arity g ∧ arity i = arity g then some (c3 f g h i) else none
    | _ => none
  else if a = [114] then match ps with
    | [f, g] => if arity g = arity f + 2 then some (r f g) else none
    | _ => none
  else if a = [109] then match ps with
    | [f] => if 0 < arity f then some (m f) else none
    | _ => none
  else none

theorem comb_facts {a : List UInt8} {ps : List FT} {t : FT} (h : comb a ps = some t) (ho : ∀ f ∈ ps, ok f) : ok t ∧ size t = 1 + (ps.map size).sum ∧ a.length = 1 := by
  unfold comb at h
  split at h
  · rename_i ha; subst ha
    split at h
    · split at h
      · rename_i f g hc; cases h; simp at ho; exact ⟨⟨ho.1, ho.2, hc⟩, by simp [size], rfl⟩
      · cases h
    · split at h
      · rename_i f g k hc; cases h; simp at ho; exact ⟨⟨ho.1, ho.2.1, ho.2.2, hc⟩, by simp [size], rfl⟩
      · cases h
    · split at h
      · rename_i f g k l hc; cases h; simp at ho; exact ⟨⟨ho.1, ho.2.1, ho.2.2.1, ho.2.2.2, hc⟩, by simp [size], rfl⟩
      · cases h
    · cases h
  · split at h
    · rename_i ha; subst ha
      split at h
      · split at h
        · rename_i f g hc; cases h; simp at ho; exact ⟨⟨ho.1, ho.2, hc⟩, by simp [size], rfl⟩
        · cases h
      · cases h
    · split at h
      · rename_i ha; subst ha
        split at h
        · split at h
          · rename_i f hc; cases h; simp at ho; exact ⟨⟨ho, hc⟩, by simp [size], rfl⟩
          · cases h
        · cases h
      · cases h

/-! ### the readers -/

def sl (l : List UInt8) (i j : Nat) : List UInt8 := (l.drop i).take (j - i)

def mparts (rd : Nat → Option (FT × Nat)) (l : List UInt8) : Nat → Nat → List FT → Option (List FT × Nat)
  | 0, _, _ => none
  | n + 1, i, acc => if l[i]? = some 32 then match rd (i + 1) with
      | none => none
      | some (t, j) => mparts rd l n j (acc ++ [t])
    else some (acc, i)

/-- The model's reader: d is 41 less the depth. -/
def mread (l : List UInt8) : Nat → Nat → Option (FT × Nat)
  | 0, _ => none
  | d + 1, i =>
    if l.length ≤ i then none
    else if l[i]? = some 40 then
      match mparts (mread l d) l (l.length + 1) (Tm.atomEnd l (i + 1)) [] with
      | none => none
      | some (ps, j) => if l[j]? = some 41 then match comb (sl l (i + 1) (Tm.atomEnd l (i + 1))) ps with
          | none => none
          | some t => some (t, j + 1)
        else none
    else match word (sl l i (Tm.atomEnd l i)) with
      | none => none
      | some t => some (t, Tm.atomEnd l i)

def mfun (l : List UInt8) : Option FT :=
  if 400 < l.length then none else
  match mread l 41 0 with
  | some (t, j) => if j = l.length ∧ size t ≤ 40 then some t else none
  | none => none

def pparts (rd : Nat → Nat → Option (FT × Nat × Nat)) (l : List UInt8) : Nat → Nat → Nat → List FT → Option (List FT × Nat × Nat)
  | 0, _, _, _ => none
  | n + 1, i, k, acc => if l[i]? = some 32 then match rd (i + 1) k with
      | none => none
      | some (t, j, k') => pparts rd l n j k' (acc ++ [t])
    else some (acc, i, k)

/-- The program's reader: k is how many atoms may still come, at most d. -/
def pread (l : List UInt8) : Nat → Nat → Nat → Option (FT × Nat × Nat)
  | 0, _, _ => none
  | d + 1, i, k =>
    if k = 0 then none
    else if l[i]? = some 40 then
      match pparts (pread l d) l (l.length + 1) (Tm.atomEnd l (i + 1)) (k - 1) [] with
      | none => none
      | some (ps, j, k') => if l[j]? = some 41 then match comb (sl l (i + 1) (Tm.atomEnd l (i + 1))) ps with
          | none => none
          | some t => some (t, j + 1, k')
        else none
    else match word (sl l i (Tm.atomEnd l i)) with
      | none => none
      | some t => some (t, Tm.atomEnd l i, k - 1)

def parse (l : List UInt8) : Option FT :=
  match pread l 40 0 40 with
  | some (t, j, _) => if j = l.length then some t else none
  | none => none

theorem atomEnd_ge (l : List UInt8) (i : Nat) : i ≤ Tm.atomEnd l i := by unfold Tm.atomEnd; omega
theorem atomEnd_le (l : List UInt8) (i : Nat) (h : i ≤ l.length) : Tm.atomEnd l i ≤ l.length := by
  unfold Tm.atomEnd
  have : ((l.drop i).takeWhile fun c => c != 32 && c != 40 && c != 41).length ≤ (l.drop i).length := (List.takeWhile_prefix _).length_le
  simp at this
  omega
theorem sl_len (l : List UInt8) (i j : Nat) (h : j ≤ l.length) : (sl l i j).length = j - i := by
  simp [sl]; omega

theorem sum_app (xs : List FT) (t : FT) : ((xs ++ [t]).map size).sum = (xs.map size).sum + size t := by simp

/-! what the model's reader reads is well made -/

theorem mparts_facts {rd : Nat → Option (FT × Nat)} {l : List UInt8}
    (hrd : ∀ i t j, i ≤ l.length → rd i = some (t, j) → ok t ∧ i + 1 ≤ j ∧ j ≤ l.length ∧ j + 1 ≤ i + 4 * size t) :
    ∀ (n i : Nat) (acc ps : List FT) (j : Nat), i ≤ l.length → (∀ f ∈ acc, ok f) → mparts rd l n i acc = some (ps, j) →
      (∀ f ∈ ps, ok f) ∧ i ≤ j ∧ j ≤ l.length ∧ (acc.map size).sum ≤ (ps.map size).sum ∧ j + 4 * (acc.map size).sum ≤ i + 4 * (ps.map size).sum
  | 0, _, _, _, _, _, _, h => by simp [mparts] at h
  | n + 1, i, acc, ps, j, hi, ha, h => by
    simp only [mparts] at h
    split at h
    · rename_i h32
      have hi1 : i + 1 ≤ l.length := (List.getElem?_eq_some_iff.1 h32).1
      cases hr : rd (i + 1) with
      | none => rw [hr] at h; simp at h
      | some q =>
        obtain ⟨t, k⟩ := q
        rw [hr] at h
        simp only at h
        obtain ⟨h1, h2, h3, h4⟩ := hrd _ _ _ hi1 hr
        obtain ⟨g1, g2, g3, g4, g5⟩ := mparts_facts hrd n k (acc ++ [t]) ps j h3 (by intro f hf; rcases List.mem_append.1 hf with hf | hf; exact ha f hf; simp at hf; subst hf; exact h1) h
        rw [sum_app] at g4 g5
        exact ⟨g1, by omega, g3, by omega, by omega⟩
    · simp only [Option.some.injEq, Prod.mk.injEq] at h
      obtain ⟨rfl, rfl⟩ := h
      exact ⟨ha, Nat.le_refl _, hi, Nat.le_refl _, Nat.le_refl _⟩

theorem mread_facts (l : List UInt8) : ∀ (d i : Nat) (t : FT) (j : Nat), i ≤ l.length → mread l d i = some (t, j) → ok t ∧ i + 1 ≤ j ∧ j ≤ l.length ∧ j + 1 ≤ i + 4 * size t
  | 0, _, _, _, _, h => by simp [mread] at h
  | d + 1, i, t, j, hi, h => by
    simp only [mread] at h
    split at h
    · cases h
    · rename_i hlt
      split at h
      · rename_i h40
        have hi1 : i + 1 ≤ l.length := by omega
        have ha1 := atomEnd_ge l (i + 1)
        have ha2 := atomEnd_le l (i + 1) hi1
        cases hm : mparts (mread l d) l (l.length + 1) (Tm.atomEnd l (i + 1)) [] with
        | none => rw [hm] at h; simp at h
        | some q =>
          obtain ⟨ps, k⟩ := q
          rw [hm] at h
          simp only at h
          obtain ⟨g1, g2, g3, _, g5⟩ := mparts_facts (mread_facts l d) _ _ _ _ _ ha2 (by simp) hm
          split at h
          · rename_i h41
            cases hc : comb (sl l (i + 1) (Tm.atomEnd l (i + 1))) ps with
            | none => rw [hc] at h; simp at h
            | some u =>
              rw [hc] at h
              simp only [Option.some.injEq, Prod.mk.injEq] at h
              obtain ⟨rfl, rfl⟩ := h
              obtain ⟨c1, c2, c3⟩ := comb_facts hc g1
              rw [sl_len _ _ _ ha2] at c3
              have hk : k + 1 ≤ l.length := (List.getElem?_eq_some_iff.1 h41).1
              simp at g5
              exact ⟨c1, by omega, hk, by omega⟩
          · cases h
      · cases hw : word (sl l i (Tm.atomEnd l i)) with
        | none => rw [hw] at h; simp at h
        | some u =>
          rw [hw] at h
          simp only [Option.some.injEq, Prod.mk.injEq] at h
          obtain ⟨rfl, rfl⟩ := h
          obtain ⟨w1, w2, w3, w4, _⟩ := word_facts hw
          have ha2 := atomEnd_le l i hi
          rw [sl_len _ _ _ ha2] at w3 w4
          exact ⟨w1, by omega, ha2, by omega⟩

/-! both read the same -/

theorem pparts_m {pd : Nat → Nat → Option (FT × Nat × Nat)} {rd : Nat → Option (FT × Nat)} {l : List UInt8}
    (hp : ∀ i k t j k', pd i k = some (t, j, k') → rd i = some (t, j) ∧ size t + k' = k) :
    ∀ (n i k : Nat) (acc ps : List FT) (j k' : Nat), pparts pd l n i k acc = some (ps, j, k') → mparts rd l n i acc = some (ps, j) ∧ (ps.map size).sum + k' = (acc.map size).sum + k
  | 0, _, _, _, _, _, _, h => by simp [pparts] at h
  | n + 1, i, k, acc, ps, j, k', h => by
    simp only [pparts] at h
    simp only [mparts]
    split at h
    · rename_i h32
      rw [if_pos h32]
      cases hr : pd (i + 1) k with
      | none => rw [hr] at h; simp at h
      | some q =>
        obtain ⟨t, a, b⟩ := q
        rw [hr] at h
        simp only at h
        obtain ⟨h1, h2⟩ := hp _ _ _ _ _ hr
        obtain ⟨g1, g2⟩ := pparts_m hp n a b (acc ++ [t]) ps j k' h
        rw [sum_app] at g2
        rw [h1]
        exact ⟨g1, by omega⟩
    · rename_i h32
      rw [if_neg h32]
      simp only [Option.some.injEq, Prod.mk.injEq] at h
      obtain ⟨rfl, rfl, rfl⟩ := h
      exact ⟨rfl, rfl⟩

theorem pread_m (l : List UInt8) : ∀ (d e i k : Nat) (t : FT) (j k' : Nat), d ≤ e → pread l d i k = some (t, j, k') → mread l e i = some (t, j) ∧ size t + k' = k
  | 0, _, _, _, _, _, _, _, h => by simp [pread] at h
  | d + 1, 0, _, _, _, _, _, hd, _ => by omega
  | d + 1, e + 1, i, k, t, j, k', hd, h => by
    simp only [pread] at h
    simp only [mread]
    split at h
    · cases h
    · rename_i hk
      split at h
      · rename_i h40
        rw [if_neg (by have := (List.getElem?_eq_some_iff.1 h40).1; omega), if_pos h40]
        cases hm : pparts (pread l d) l (l.length + 1) (Tm.atomEnd l (i + 1)) (k - 1) [] with
        | none => rw [hm] at h; simp at h
        | some q =>
          obtain ⟨ps, a, b⟩ := q
          rw [hm] at h
          simp only at h
          obtain ⟨g1, g2⟩ := pparts_m (fun i k t j k' => pread_m l d e i k t j k' (by omega)) _ _ _ _ _ _ _ hm
          rw [g1]
          simp only
          split at h
          · rename_i h41
            rw [if_pos h41]
            cases hc : comb (sl l (i + 1) (Tm.atomEnd l (i + 1))) ps with
            | none => rw [hc] at h; simp at h
            | some u =>
              rw [hc] at h
              simp only [Option.some.injEq, Prod.mk.injEq] at h
              obtain ⟨rfl, rfl, rfl⟩ := h
              refine ⟨rfl, ?_⟩
              have := comb_size hc
              simp at g2
              omega
          · cases h
      · rename_i h40
        cases hw : word (sl l i (Tm.atomEnd l i)) with
        | none => rw [hw] at h; simp at h
        | some u =>
          rw [hw] at h
          simp only [Option.some.injEq, Prod.mk.injEq] at h
          obtain ⟨rfl, rfl, rfl⟩ := h
          have hlt : ¬ l.length ≤ i := by
            intro hle
            have w3 := (word_facts hw).2.2.1
            simp [sl, List.drop_eq_nil_of_le hle] at w3
          rw [if_neg hlt, if_neg h40]
          exact ⟨rfl, by have := (word_facts hw).2.1; omega⟩
where
  comb_size {a : List UInt8} {ps : List FT} {t : FT} (h : comb a ps = some t) : size t = 1 + (ps.map size).sum := by
    unfold comb at h
    repeat' split at h
    all_goals first
      | (cases h; simp [size])
      | cases h

theorem mparts_p {pd : Nat → Nat → Option (FT × Nat × Nat)} {rd : Nat → Option (FT × Nat)} {l : List UInt8} {K : Nat}
    (hp : ∀ i k t j, rd i = some (t, j) → size t ≤ k → k ≤ K → pd i k = some (t, j, k - size t)) :
    ∀ (n i k : Nat) (acc ps : List FT) (j : Nat), mparts rd l n i acc = some (ps, j) → (ps.map size).sum ≤ (acc.map size).sum + k → k ≤ K →
      (acc.map size).sum ≤ (ps.map size).sum ∧ pparts pd l n i k acc = some (ps, j, k + (acc.map size).sum - (ps.map size).sum)
  | 0, _, _, _, _, _, h, _, _ => by simp [mparts] at h
  | n + 1, i, k, acc, ps, j, h, hk, hK => by
    simp only [mparts] at h
    simp only [pparts]
    split at h
    · rename_i h32
      rw [if_pos h32]
      cases hr : rd (i + 1) with
      | none => rw [hr] at h; simp at h
      | some q =>
        obtain ⟨t, a⟩ := q
        rw [hr] at h
        simp only at h
        have hmono := mparts_mono n a (acc ++ [t]) ps j h
        rw [sum_app] at hmono
        rw [hp _ k _ _ hr (by omega) hK]
        obtain ⟨g1, g2⟩ := mparts_p hp n a (k - size t) (acc ++ [t]) ps j h (by rw [sum_app]; omega) (by omega)
        rw [sum_app] at g1 g2
        simp only
        rw [g2]
        exact ⟨by omega, by congr 3; omega⟩
    · rename_i h32
      rw [if_neg h32]
      simp only [Option.some.injEq, Prod.mk.injEq] at h
      obtain ⟨rfl, rfl⟩ := h
      exact ⟨Nat.le_refl _, by simp⟩
where
  mparts_mono {rd : Nat → Option (FT × Nat)} {l : List UInt8} : ∀ (n i : Nat) (acc ps : List FT) (j : Nat), mparts rd l n i acc = some (ps, j) → (acc.map size).sum ≤ (ps.map size).sum
    | 0, _, _, _, _, h => by simp [mparts] at h
    | n + 1, i, acc, ps, j, h => by
      simp only [mparts] at h
      split at h
      · cases hr : rd (i + 1) with
        | none => rw [hr] at h; simp at h
        | some q =>
          rw [hr] at h
          have := mparts_mono n _ _ _ _ h
          rw [sum_app] at this
          omega
      · simp only [Option.some.injEq, Prod.mk.injEq] at h
        obtain ⟨rfl, rfl⟩ := h
        exact Nat.le_refl _

theorem mread_p (l : List UInt8) : ∀ (e d i k : Nat) (t : FT) (j : Nat), mread l e i = some (t, j) → size t ≤ k → k ≤ d → pread l d i k = some (t, j, k - size t)
  | 0, _, _, _, _, _, h, _, _ => by simp [mread] at h
  | e + 1, 0, i, k, t, j, h, hk, hd => by have := size_pos t; omega
  | e + 1, d + 1, i, k, t, j, h, hk, hd => by
    have hpos := size_pos t
    simp only [mread] at h
    simp only [pread]
    rw [if_neg (by omega)]
    split at h
    · cases h
    · split at h
      · rename_i h40
        rw [if_pos h40]
        cases hm : mparts (mread l e) l (l.length + 1) (Tm.atomEnd l (i + 1)) [] with
        | none => rw [hm] at h; simp at h
        | some q =>
          obtain ⟨ps, a⟩ := q
          rw [hm] at h
          simp only at h
          split at h
          · rename_i h41
            cases hc : comb (sl l (i + 1) (Tm.atomEnd l (i + 1))) ps with
            | none => rw [hc] at h; simp at h
            | some u =>
              rw [hc] at h
              simp only [Option.some.injEq, Prod.mk.injEq] at h
              obtain ⟨rfl, rfl⟩ := h
              have hs := pread_m.comb_size hc
              obtain ⟨_, g2⟩ := mparts_p (K := d) (fun i k t j h h1 h2 => mread_p l e d i k t j h h1 h2) _ _ (k - 1) _ _ _ hm (by simp; omega) (by omega)
              rw [g2]
              simp only
              rw [if_pos h41, hc]
              simp
              omega
          · cases h
      · rename_i h40
        rw [if_neg h40]
        cases hw : word (sl l i (Tm.atomEnd l i)) with
        | none => rw [hw] at h; simp at h
        | some u =>
          rw [hw] at h
          simp only [Option.some.injEq, Prod.mk.injEq] at h
          obtain ⟨rfl, rfl⟩ := h
          simp [(word_facts hw).2.1]

theorem parse_eq (l : List UInt8) : parse l = mfun l := by
  unfold parse mfun
  cases hp : pread l 40 0 40 with
  | some q =>
    obtain ⟨t, j, k⟩ := q
    obtain ⟨h1, h2⟩ := pread_m l 40 41 0 40 t j k (by omega) hp
    obtain ⟨_, _, h3, h4⟩ := mread_facts l 41 0 t j (by omega) h1
    simp only
    by_cases hj : j = l.length
    · rw [if_pos hj, if_neg (by omega), h1]; simp only; rw [if_pos ⟨hj, by omega⟩]
    · rw [if_neg hj, h1]; simp [hj]
  | none =>
    simp only
    split
    · rfl
    · cases hm : mread l 41 0 with
      | none => rfl
      | some q =>
        obtain ⟨t, j⟩ := q
        simp only
        split
        · rename_i h
          rw [mread_p l 41 40 0 40 t j hm h.2 (by omega)] at hp
          cases hp
        · rfl

theorem parse_facts {l : List UInt8} {t : FT} (h : parse l = some t) : ok t ∧ size t ≤ 40 ∧ l.length ≤ 400 := by
  rw [parse_eq] at h
  unfold mfun at h
  split at h
  · cases h
  · rename_i hl
    cases hm : mread l 41 0 with
    | none => rw [hm] at h; simp at h
    | some q =>
      obtain ⟨t', j⟩ := q
      rw [hm] at h
      simp only at h
      split at h
      · rename_i hc
        cases h
        exact ⟨(mread_facts l 41 0 t j (by omega) hm).1, hc.2, by omega⟩
      · cases h

end FT
end Go.Proofs.Ytfpekihdoclncaa
