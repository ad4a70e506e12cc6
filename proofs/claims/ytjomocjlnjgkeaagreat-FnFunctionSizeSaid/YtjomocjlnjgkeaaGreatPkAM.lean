/-
  Plain mathematics of the promises of chapters 1 and 2: texts tell terms apart; abstractions applied; data.
-/
import Derived.Test.YtjomocjlnjgkeaaGreatPkAL
import Derived.Test.YtjomocjlnjgkeaaGreatPkAK
import Derived.Test.YtjomocjlnjgkeaaGreatPkAE
import Derived.Maps.OwnSet
namespace Go.Proofs.YtjomocjlnjgkeaaGreat
namespace Tm

theorem text_inj {t u : Tm} (ht : t.good = true) (hu : u.good = true) (h : t.text = u.text) : t = u := by
  have h1 := read_of (l := t.text) (t := t) (d := max t.depth u.depth + 1) (i := 0) (r := []) (by simp) ht (by omega) (Or.inl rfl)
  have h2 := read_of (l := t.text) (t := u) (d := max t.depth u.depth + 1) (i := 0) (r := []) (by simp [h]) hu (by omega) (Or.inl rfl)
  rw [h1] at h2
  simp only [Option.some.injEq, Prod.mk.injEq] at h2
  exact h2.1


/-- What is read of the text of a term is that term. -/
theorem parse_of_text {t u : Tm} (hg : t.good = true) (h : parse t.text = some u) : u = t ∧ t.fits = true := by
  obtain ⟨h1, h2, h3⟩ := parse_iff.1 h
  have := text_inj h2 hg h1
  subst this
  exact ⟨rfl, h3⟩

theorem text_app (f a : Tm) : (app f a).text = 40 :: (f.text ++ 32 :: (a.text ++ [41])) := rfl

/-! ### names -/

theorem uses_has (x : List UInt8) : ∀ t : Tm, has x t = false ↔ uses x t = 0
  | nm n => by simp [has, uses]
  | app f a => by simp [has, uses, uses_has x f, uses_has x a]
  | k => by simp [has, uses]
  | s => by simp [has, uses]

theorem put_unused (x : List UInt8) (b : Tm) : ∀ {t : Tm}, uses x t = 0 → put t x b = t
  | nm n, h => by
    simp only [uses] at h
    split at h
    · simp at h
    · rename_i hn; simp [put, hn]
  | app f a, h => by simp only [uses] at h; simp [put, put_unused x b (t := f) (by omega), put_unused x b (t := a) (by omega)]
  | k, _ => rfl
  | s, _ => rfl

/-! ### abstractions applied -/

theorem star_k (m n : Tm) : Star (app (app k m) n) m := Star.one (.k n (.refl m))
theorem star_s (m n p : Tm) : Star (app (app (app s m) n) p) (app (app m p) (app n p)) := Star.one (.s (.refl m) (.refl n) (.refl p))
theorem star_i (a : Tm) : Star (app I a) a := (star_s k k a).trans (star_k a _)

theorem abs_star (x : List UInt8) (a : Tm) : ∀ t : Tm, Star (app (abs x t) a) (put t x a)
  | k => star_k _ _
  | s => star_k _ _
  | nm n => by
    by_cases hn : n = x
    · subst hn; simp only [abs, put, if_true]; exact star_i a
    · simp only [abs, put, hn, if_false]; exact star_k _ _
  | app f g => by
    simp only [abs]
    split
    · rename_i h; rw [put_unused x a h]; exact star_k _ _
    · split
      · rename_i h
        obtain ⟨h1, h2⟩ := h
        cases g with
        | nm n =>
          simp only [isNm, beq_iff_eq] at h1
          subst h1
          simp only [put, if_true, put_unused n a h2]
          exact .refl _
        | k => simp [isNm] at h1
        | s => simp [isNm] at h1
        | app _ _ => simp [isNm] at h1
      · exact (star_s _ _ _).trans ((abs_star x a f).app (abs_star x a g))

theorem pair_star (m n p : Tm) : Star (app (pair m n) p) (app (app p m) n) :=
  (star_s _ _ _).trans (((star_s _ _ _).trans ((star_i p).app (star_k m p))).app (star_k n p))

/-! ### numerals -/

theorem num_inj : ∀ {m n : Nat}, num m = num n → m = n := fun {m n} h => by
  have := congrArg size h
  rw [size_num, size_num] at this
  omega

theorem pair_normal {m n : Tm} (hm : step m = none) (hn : step n = none) : step (pair m n) = none := by
  simp [pair, step, redex, I, hm, hn]

theorem num_normal : ∀ n : Nat, step (num n) = none
  | 0 => by decide +kernel
  | n + 1 => pair_normal (by decide +kernel) (num_normal n)

theorem succ_star (n : Nat) : Star (app succ (num n)) (num (n + 1)) := abs_star [120] (num n) (pair no X)

theorem pred_star (n : Nat) : Star (app pred (num (n + 1))) (num n) := by
  have h := abs_star [120] (num (n + 1)) (app (app (app X .k) I) (app X no))
  have e : put (app (app (app X .k) I) (app X no)) [120] (num (n + 1)) = app (app (app (num (n + 1)) .k) I) (app (num (n + 1)) no) := rfl
  rw [e] at h
  have h1 : Star (app (num (n + 1)) k) no := (pair_star no (num n) k).trans (star_k _ _)
  have h2 : Star (app (num (n + 1)) no) (num n) := (pair_star no (num n) no).trans (((star_k I no).app (.refl _)).trans (star_i _))
  exact h.trans ((((h1.app (.refl I)).trans (star_k I I)).app h2).trans (star_i _))

theorem norm_unique {t u v : Tm} {n : Nat} (h : norm t = some (u, n)) (g : Star t v) (hv : step v = none) : u = v := by
  obtain ⟨h1, h2⟩ := norm_star h
  exact normal_one h1 g h2 hv

end Tm
end Go.Proofs.YtjomocjlnjgkeaaGreat

namespace Go.Proofs.YtjomocjlnjgkeaaGreat
open Go.RowKit

set_option maxHeartbeats 400000
set_option maxRecDepth 100000

/-! ### nameValid -/

theorem nameOk_len (l : List UInt8) : Tm.nameOk l = (!l.isEmpty && decide (Tm.nameLen l 0 = l.length)) := by
  cases hl : l with
  | nil => rfl
  | cons c ds =>
    rw [← hl]
    have hne : l.isEmpty = false := by rw [hl]; rfl
    rw [hne, Bool.eq_iff_iff]
    simp only [Bool.not_false, Bool.true_and, decide_eq_true_eq]
    constructor
    · exact fun h => Tm.nameLen_of l l [] 0 (by simp) h (by simp)
    · intro h
      have := Tm.nameLen_sound l 0 (by rw [h, hl]; simp)
      rw [h] at this
      simpa using this.1

end Go.Proofs.YtjomocjlnjgkeaaGreat

namespace Go.Proofs.YtjomocjlnjgkeaaGreat
open Go.RowKit Go.WideMaps Go.Maps

set_option maxHeartbeats 400000
set_option maxRecDepth 100000

theorem law_key : Keyed Tryz.prog 9 := string_keyed Tryz.underlying9
theorem zero_bool (w : World) : (zeroValue 4).run Tryz.prog w = .ok (.bool false) w := by kernel_rfl
theorem info_string : (Tryz.prog.info? 9).map (fun i => (i.zero, i.size, i.bytes)) = some (some (.string ⟨#[]⟩), 1, 16) := by kernel_rfl

/-- The list lies in the blocks from mb on: the map, the list's own block, the row of names. -/
def NL (w : World) (mb : Nat) (ns : List (List UInt8)) : Prop :=
  ∃ sv, w.heap[mb + 1]? = some (.cells #[sv, .map (some mb)] 216 (0, 0)) ∧ w.ownsRow (mb + 2) 9 1 sv ns.length (ns.map str) ∧
    ∃ D : DataW Unit, w.ownsMap Tryz.prog 9 (plainElem Tryz.prog 4) mb ns.length D ∧ ∀ x, D.atKey (.string x) (.lit (.bool false)) = .lit (.bool (decide (x ∈ ns)))

theorem NL.lt {w : World} {mb : Nat} {ns : List (List UInt8)} (h : NL w mb ns) : mb + 2 ≤ w.heap.size := by
  obtain ⟨sv, h, _⟩ := h
  exact (Array.getElem?_eq_some_iff.1 h).1

theorem key_str (n : List UInt8) (h : n.length ≤ maxLen) : keyOf Tryz.prog 9 (str n) = some (.string n) := by
  have := keyOf_string_mk Tryz.underlying9 (s := ⟨n.toArray⟩) (by show n.toArray.size ≤ _; simpa using h)
  simpa using this

theorem look_run {w : World} {mb k : Nat} {D : DataW Unit} {ns : List (List UInt8)} (ho : w.ownsMap Tryz.prog 9 (plainElem Tryz.prog 4) mb k D) (hD : ∀ x, D.atKey (.string x) (.lit (.bool false)) = .lit (.bool (decide (x ∈ ns)))) (n : List UInt8) (h : n.length ≤ maxLen) :
    (Instr.lookup 214 (.map (some mb)) (str n) false).run Tryz.prog w = .ok (.bool (decide (n ∈ ns))) w := by
  obtain ⟨v, ps, hrun, hv⟩ := ho.lookup law_key Tryz.underlying214 (zero_bool w) (plainElem_bool Tryz.underlying4 false) (key_str n h)
  rw [hD] at hv
  unfold plainElem at hv
  rw [Tryz.underlying4] at hv
  cases v <;> simp at hv
  obtain ⟨rfl, _⟩ := hv
  exact hrun

theorem list_kept {w1 w2 : World} {mb : Nat} {sv : Value} {k : Nat} {xs : List Value} {o : Obj} (h : w1.heap[mb + 1]? = some (.cells #[sv, .map (some mb)] 216 (0, 0))) (hr : w1.ownsRow (mb + 2) 9 1 sv k xs) (hg : (w1.alloc o).grownBy w2 sv.ownBlock) :
    w2.heap[mb + 1]? = some (.cells #[sv, .map (some mb)] 216 (0, 0)) := by
  have hlt := (Array.getElem?_eq_some_iff.1 h).1
  rw [hg.block _ (by simp; omega) (fun e => by have := (hr.lt _ e.symm).1; omega), Below.heap_alloc _ _ _ hlt]
  exact h

theorem list_free {w : World} {mb : Nat} {cs : Array Value} {T : TypeId} (h : w.heap[mb + 1]? = some (.cells cs T (0, 0))) : w.frozen? ⟨mb + 1, 0, none⟩ = false := by
  simp [World.frozen?, h]

theorem own_slice {w : World} {base n size : Nat} {T : TypeId} {v : Value} {xs : List Value} (h : w.ownsRow base T size v n xs) : ∃ ao an ac, v = .slice ao an ac := by
  rcases h.2 with ⟨rfl, _⟩ | ⟨g, cap, cur, rfl, _⟩
  · exact ⟨_, _, _, rfl⟩
  · exact ⟨_, _, _, rfl⟩

theorem own_slice_len {w : World} {base n size : Nat} {T : TypeId} {v : Value} {xs : List Value} (h : w.ownsRow base T size v n xs) : ∃ ao ac, v = .slice ao n ac := by
  rcases h.2 with ⟨rfl, rfl⟩ | ⟨g, cap, cur, rfl, _⟩
  · exact ⟨_, _, rfl⟩
  · exact ⟨_, _, rfl⟩

/-! ### listNames -/

def ListPost (mb : Nat) (w : World) (ns : List (List UInt8)) (e : Ending) (w' : World) : Prop := e = .returned (.tuple #[]) ∧ NL w' mb ns ∧ Below mb w w'

/-- The method listNames of v, a term in blocks below mb. -/
def ListOk (w : World) (mb : Nat) (v : Value) (t : Tm) : Prop :=
  ∃ T x f y, v = .iface T x ∧ (∀ W, Below mb w W → (method 317 T x "loop.example/realizers/impl.listNames").run Tryz.prog W = .ok (f, y) W) ∧ (∀ args w', (callFunc f args).run Tryz.prog w' = .ok (.enter f args) w') ∧
    ∀ W, Below mb w W → ∀ ns, NL W mb ns → ns.length + t.size ≤ 1000000 → Calls Tryz.prog f #[y, .pointer (some ⟨mb + 1, 0, none⟩)] W (ListPost mb W (t.names ns))

theorem NL.alloc {w : World} {mb : Nat} {ns : List (List UInt8)} (h : NL w mb ns) (o : Obj) : NL (w.alloc o) mb ns := by
  obtain ⟨sv, h0, hr, D, hm, hD⟩ := h
  exact ⟨sv, by rw [Below.heap_alloc _ _ _ (Array.getElem?_eq_some_iff.1 h0).1]; exact h0, hr.alloc _, D, hm.alloc _, hD⟩

theorem cell_mb {w : World} {mb b i : Nat} {v : Value} (h : w.cell? ⟨b, i, none⟩ = some v) (hb : b < mb) : ∀ W, Below mb w W → W.cell? ⟨b, i, none⟩ = some v := fun W hW => by rw [hW.cell (p := ⟨b, i, none⟩) hb]; exact h

theorem heap_mb {w W : World} {mb b : Nat} {o : Obj} (h : w.heap[b]? = some o) (hb : b < mb) (hW : Below mb w W) : W.heap[b]? = some o := by rw [hW.block b hb]; exact h

/-! ### namesOf -/

def NamesPost (w : World) (t : Tm) (e : Ending) (w' : World) : Prop :=
  ∃ sv, e = .returned sv ∧ Below w.heap.size w w' ∧ w'.ownsRow w.heap.size 9 1 sv (t.names []).length ((t.names []).map str)

theorem ownsRow_base {w : World} {B B' n size : Nat} {T : TypeId} {v : Value} {xs : List Value} (h : w.ownsRow B T size v n xs) (hB : B' ≤ B) : w.ownsRow B' T size v n xs := by
  obtain ⟨h1, h2⟩ := h
  refine ⟨h1, ?_⟩
  rcases h2 with h2 | ⟨g, cap, cur, hv, hg, r⟩
  · exact Or.inl h2
  · exact Or.inr ⟨g, cap, cur, hv, Nat.le_trans hB hg, r⟩

theorem NL.start (w : World) : NL ((w.alloc (.map #[] 0)).alloc (.cells #[.slice none 0 0, .map (some w.heap.size)] 216)) w.heap.size [] := by
  refine ⟨.slice none 0 0, ?_, World.ownsRow_nil _ _ _ _, .map [], (World.ownsMap_made w _ _ _).alloc _, fun x => by simp [DataW.atKey]⟩
  have := heap_new (w.alloc (.map #[] 0)) (.cells #[.slice none 0 0, .map (some w.heap.size)] 216)
  simpa using this

end Go.Proofs.YtjomocjlnjgkeaaGreat
