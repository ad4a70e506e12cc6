/-
  The program's atoms: atomOf.
-/
import Derived.Test.YtfjohagdlaiapaaGreatPkW
import Derived.Laws.OwnMore
import Derived.Test.YtfjohagdlaiapaaGreatPkB
import Derived.Laws.AppendOwnNone
import Derived.Deep.AppendLies
import Derived.Test.YtfjohagdlaiapaaGreatPkV
namespace Go.Proofs.YtfjohagdlaiapaaGreat
open Go.RowKit

set_option maxHeartbeats 1000000
set_option maxRecDepth 100000

/-- What a term is told by at its root. -/
def atV : Tm → Value
  | .k => .agg #[.int .u8 107, str []]
  | .s => .agg #[.int .u8 115, str []]
  | .nm n => .agg #[.int .u8 (n.headD 0).toNat, str n.tail]
  | .app _ _ => .agg #[.int .u8 0, str []]

theorem below_two {w : World} (o : Obj) (i j : Nat) (u v : Value) : Below w.heap.size w (((w.alloc o).setCell ⟨w.heap.size, i, none⟩ u).setCell ⟨w.heap.size, j, none⟩ v) :=
  (below_alloc (Below.refl _ _) o |>.setCell (Nat.le_refl _) _).setCell (Nat.le_refl _) _

theorem as_n_n (W : World) (x : Value) : (Instr.typeAssert (.iface 122 x) 38 122 true).run Tryz.prog W = .ok (.tuple #[x, .bool true]) W := by kernel_rfl

theorem str_tail (c : UInt8) (l : List UInt8) : (⟨(c :: l).toArray⟩ : ByteArray).extract 1 (l.length + 1) = ⟨l.toArray⟩ := by
  refine ByteArray.ext (Array.ext' ?_)
  simp

end Go.Proofs.YtfjohagdlaiapaaGreat

namespace Go.Proofs.YtfjohagdlaiapaaGreat
open Go.RowKit

set_option maxHeartbeats 2000000
set_option maxRecDepth 100000

/-- What stands at the names of a term, read along another one. -/
def Tm.mt : Tm → Tm → Option (List Tm)
  | .nm _, t => some [t]
  | .app f a, .app g b => (Tm.mt f g).bind fun xs => (Tm.mt a b).bind fun ys => some (xs ++ ys)
  | .k, .k => some []
  | .s, .s => some []
  | _, _ => none

end Go.Proofs.YtfjohagdlaiapaaGreat

namespace Go.Proofs.YtfjohagdlaiapaaGreat
open Go.RowKit

set_option maxHeartbeats 2000000
set_option maxRecDepth 100000

/-- A row of terms that the call owns. -/
def RowTV (w : World) (base B : Nat) (sv : Value) (l : List Tm) : Prop :=
  (l = [] ∧ sv = .slice none 0 0) ∨ (l ≠ [] ∧ ∃ vs, w.ownsRow base 38 1 sv l.length vs ∧ ∀ j (h : j < l.length), ∃ v, vs[j]? = some v ∧ TV w B l[j] v)

def RdPost (w : World) (B : Nat) (r : Option (List Tm)) (e : Ending) (w' : World) : Prop :=
  ∃ sv, e = .returned (.tuple #[sv, .bool r.isSome]) ∧ Below w.heap.size w w' ∧ ∀ l, r = some l → RowTV w' w.heap.size B sv l

/-- The letter of an atom, as a number. -/
def lett : Tm → Nat
  | .k => 107
  | .s => 115
  | .nm n => (n.headD 0).toNat
  | .app _ _ => 0
theorem atV_lett (t : Tm) : ∃ d, atV t = .agg #[.int .u8 (lett t : Nat), str d] := by
  cases t with
  | k => exact ⟨[], rfl⟩
  | s => exact ⟨[], rfl⟩
  | nm n => exact ⟨_, rfl⟩
  | app f a => exact ⟨[], rfl⟩
theorem lett_nm {n : List UInt8} (h : Tm.nameOk n = true) : 117 ≤ lett (.nm n) := by
  cases n with
  | nil => simp [Tm.nameOk] at h
  | cons c l =>
    simp only [Tm.nameOk, Tm.lead, Bool.and_eq_true, decide_eq_true_eq] at h
    have := h.1.1.1
    simp only [lett, List.headD_cons]
    exact UInt8.le_iff_toNat_le.1 this

end Go.Proofs.YtfjohagdlaiapaaGreat

namespace Go.Proofs.YtfjohagdlaiapaaGreat
open Go.RowKit

set_option maxHeartbeats 2000000
set_option maxRecDepth 100000

theorem RowTV.own {w : World} {base B : Nat} {sv : Value} {l : List Tm} (h : RowTV w base B sv l) : ∃ vs, w.ownsRow base 38 1 sv l.length vs ∧ ∀ j (h : j < l.length), ∃ v, vs[j]? = some v ∧ TV w B l[j] v := by
  rcases h with ⟨rfl, rfl⟩ | ⟨_, h⟩
  · exact ⟨[], World.ownsRow_nil _ _ _ _, fun j hj => absurd hj (by simp)⟩
  · exact h
theorem row_later {w W : World} {base : Nat} {sv : Value} {n : Nat} {vs : List Value} (h : w.ownsRow base 38 1 sv n vs) (hb : Below w.heap.size w W) : W.ownsRow base 38 1 sv n vs :=
  h.kept (row := none) ⟨hb.os, hb.tape, hb.output, hb.size, fun k hk _ => hb.block k hk⟩ (by
    cases hv : sv.ownBlock with
    | none => exact Or.inl rfl
    | some g => exact Or.inr (fun e => by cases e))
theorem row_base {w : World} {B B' n : Nat} {v : Value} {xs : List Value} (h : w.ownsRow B 38 1 v n xs) (hB : B' ≤ B) : w.ownsRow B' 38 1 v n xs := by
  refine ⟨h.1, ?_⟩
  rcases h.2 with h | ⟨g, cap, cur, e, hg, hr⟩
  · exact Or.inl h
  · exact Or.inr ⟨g, cap, cur, e, Nat.le_trans hB hg, hr⟩
theorem row_form {w : World} {base n : Nat} {v : Value} {xs : List Value} (h : w.ownsRow base 38 1 v n xs) : ∃ ao cap, v = .slice ao n cap := by
  rcases h.2 with ⟨rfl, rfl⟩ | ⟨g, cap, cur, rfl, _⟩
  · exact ⟨_, _, rfl⟩
  · exact ⟨_, _, rfl⟩
/-- Terms live through a growing row. -/
theorem TV.row {w W : World} {base n B : Nat} {sv : Value} {vs : List Value} (ho : w.ownsRow base 38 1 sv n vs) (hg : w.grownBy W sv.ownBlock) {t : Tm} {v : Value} (h : TV w B t v) : TV W B t v :=
  h.keptCells fun b cs T fr hT _ hb => by
    rw [hg.block b (Array.getElem?_eq_some_iff.1 hb).1 (fun e => by
      rcases ho.2 with ⟨rfl, _⟩ | ⟨g, cap, cur, rfl, _, hh, _⟩
      · cases e
      · injection e with e
        subst e
        rw [hb] at hh
        injection hh with hh
        injection hh with _ hh _
        exact hT hh)]
    exact hb

theorem info_termP : (Tryz.prog.info? 38).map (fun i => (i.zero, i.size, i.bytes)) = some (some .nilIface, 1, 16) := by kernel_rfl

theorem RdPost.own {w : World} {B : Nat} {l : List Tm} {e : Ending} {w' : World} (h : RdPost w B (some l) e w') : ∃ ao cap vs, e = .returned (.tuple #[.slice ao l.length cap, .bool true]) ∧ Below w.heap.size w w' ∧ w'.ownsRow w.heap.size 38 1 (.slice ao l.length cap) l.length vs ∧ (∀ j (h : j < l.length), ∃ v, vs[j]? = some v ∧ TV w' B l[j] v) ∧ (l = [] → ao = none ∧ cap = 0) := by
  obtain ⟨sv, rfl, hb, hr⟩ := h
  have h0 := hr l rfl
  obtain ⟨vs, ho, he⟩ := RowTV.own h0
  obtain ⟨ao, cap, rfl⟩ := row_form ho
  refine ⟨ao, cap, vs, rfl, hb, ho, he, fun hl => ?_⟩
  rcases h0 with ⟨_, h⟩ | ⟨h, _⟩
  · injection h with h1 h2 h3
    exact ⟨h1, h3⟩
  · exact absurd hl h
theorem elems_append {W : World} {B : Nat} {xs ys : List Tm} {vs us : List Value} (hl : vs.length = xs.length) (e1 : ∀ j (h : j < xs.length), ∃ v, vs[j]? = some v ∧ TV W B xs[j] v) (e2 : ∀ j (h : j < ys.length), ∃ v, us[j]? = some v ∧ TV W B ys[j] v) :
    ∀ j (h : j < (xs ++ ys).length), ∃ v, (vs ++ us)[j]? = some v ∧ TV W B (xs ++ ys)[j] v := by
  intro j h
  by_cases hj : j < xs.length
  · obtain ⟨v, h1, h2⟩ := e1 j hj
    refine ⟨v, ?_, ?_⟩
    · rw [List.getElem?_append_left (by omega)]; exact h1
    · rw [List.getElem_append_left hj]; exact h2
  · rw [List.length_append] at h
    obtain ⟨v, h1, h2⟩ := e2 (j - xs.length) (by omega)
    refine ⟨v, ?_, ?_⟩
    · rw [List.getElem?_append_right (by omega), hl]; exact h1
    · rw [List.getElem_append_right (by omega)]; exact h2

theorem mt_len : ∀ (u t : Tm) (l : List Tm), Tm.mt u t = some l → l.length ≤ u.size
  | .nm _, t, l, h => by simp only [Tm.mt] at h; obtain rfl := Option.some.inj h; simp [Tm.size]
  | .k, t, l, h => by cases t <;> simp [Tm.mt] at h; subst h; simp
  | .s, t, l, h => by cases t <;> simp [Tm.mt] at h; subst h; simp
  | .app f a, t, l, h => by
    cases t with
    | app g b =>
      simp only [Tm.mt, Option.bind_eq_some_iff] at h
      obtain ⟨xs, h1, ys, h2, h3⟩ := h
      obtain rfl := Option.some.inj h3
      have := mt_len f g xs h1
      have := mt_len a b ys h2
      simp only [List.length_append, Tm.size]
      omega
    | k => simp [Tm.mt] at h
    | s => simp [Tm.mt] at h
    | nm n => simp [Tm.mt] at h

end Go.Proofs.YtfjohagdlaiapaaGreat

namespace Go.Proofs.YtfjohagdlaiapaaGreat
open Go.RowKit

set_option maxHeartbeats 2000000
set_option maxRecDepth 100000

namespace Tm
theorem mt_app_inv {f a t : Tm} {l : List Tm} (h : mt (app f a) t = some l) : ∃ g b xs ys, t = app g b ∧ mt f g = some xs ∧ mt a b = some ys ∧ l = xs ++ ys := by
  cases t with
  | app g b =>
    simp only [mt, Option.bind_eq_some_iff] at h
    obtain ⟨xs, h1, ys, h2, h3⟩ := h
    exact ⟨g, b, xs, ys, rfl, h1, h2, (Option.some.inj h3).symm⟩
  | k => simp [mt] at h
  | s => simp [mt] at h
  | nm n => simp [mt] at h
theorem mt_closed : ∀ (u t : Tm) (l : List Tm), (∀ n, has n u = false) → mt u t = some l → t = u ∧ l = []
  | .k, t, l, _, h => by cases t <;> simp [mt] at h; exact ⟨rfl, h⟩
  | .s, t, l, _, h => by cases t <;> simp [mt] at h; exact ⟨rfl, h⟩
  | .nm n, _, _, hn, _ => by have := hn n; simp [has] at this
  | .app f a, t, l, hn, h => by
    obtain ⟨g, b, xs, ys, rfl, h1, h2, rfl⟩ := mt_app_inv h
    have hf := mt_closed f g xs (fun n => by have := hn n; simp [has] at this; exact this.1) h1
    have ha := mt_closed a b ys (fun n => by have := hn n; simp [has] at this; exact this.2) h2
    rw [hf.1, ha.1, hf.2, ha.2]
    exact ⟨rfl, rfl⟩
theorem mt_self : ∀ (u : Tm), (∀ n, has n u = false) → mt u u = some []
  | .k, _ => rfl
  | .s, _ => rfl
  | .nm n, hn => by have := hn n; simp [has] at this
  | .app f a, hn => by
    simp only [mt, mt_self f (fun n => by have := hn n; simp [has] at this; exact this.1), mt_self a (fun n => by have := hn n; simp [has] at this; exact this.2)]
    rfl
theorem has_none {t : Tm} (h : names [] t = []) (n : List UInt8) : has n t = false := by
  cases hh : has n t with
  | false => rfl
  | true =>
    have := (mem_names n t []).2 (Or.inr hh)
    rw [h] at this
    cases this
theorem kC_has : ∀ n, has n kC = false := has_none (by kernel_rfl)
theorem sC_has : ∀ n, has n sC = false := has_none (by kernel_rfl)
theorem mt_appC {t : Tm} {l : List Tm} (h : mt (appC X Y) t = some l) : ∃ c d, l = [c, d] ∧ t = appC c d := by
  unfold appC pair at h
  obtain ⟨g1, b1, x1, y1, rfl, h1, h2, rfl⟩ := mt_app_inv h
  obtain ⟨g2, b2, x2, y2, rfl, h3, h4, rfl⟩ := mt_app_inv h2
  obtain ⟨g3, b3, x3, y3, rfl, h5, h6, rfl⟩ := mt_app_inv h4
  obtain ⟨g4, b4, x4, y4, rfl, h7, h8, rfl⟩ := mt_app_inv h5
  obtain ⟨g5, b5, x5, y5, rfl, h9, h10, rfl⟩ := mt_app_inv h6
  obtain ⟨g6, b6, x6, y6, rfl, h11, h12, rfl⟩ := mt_app_inv h8
  obtain ⟨g7, b7, x7, y7, rfl, h13, h14, rfl⟩ := mt_app_inv h11
  obtain ⟨g8, b8, x8, y8, rfl, h15, h16, rfl⟩ := mt_app_inv h12
  have k0 : ∀ n, has n .k = false := fun _ => rfl
  have s0 : ∀ n, has n .s = false := fun _ => rfl
  have i0 : ∀ n, has n I = false := fun _ => rfl
  obtain ⟨rfl, rfl⟩ := mt_closed _ _ _ k0 h1
  obtain ⟨rfl, rfl⟩ := mt_closed _ _ _ k0 h3
  obtain ⟨rfl, rfl⟩ := mt_closed _ _ _ s0 h7
  obtain ⟨rfl, rfl⟩ := mt_closed _ _ _ k0 h9
  obtain ⟨rfl, rfl⟩ := mt_closed _ _ _ s0 h13
  obtain ⟨rfl, rfl⟩ := mt_closed _ _ _ i0 h14
  obtain ⟨rfl, rfl⟩ := mt_closed _ _ _ k0 h15
  simp only [X, Y, mt] at h10 h16
  obtain rfl := Option.some.inj h10
  obtain rfl := Option.some.inj h16
  exact ⟨b8, b5, rfl, rfl⟩
theorem mt_appC_self (c d : Tm) : mt (appC X Y) (appC c d) = some [c, d] := rfl

/-- The term whose code a term is; n is enough steps. -/
def back : Nat → Tm → Option Tm
  | 0, _ => none
  | n + 1, t => if (mt kC t).isSome = true then some k else if (mt sC t).isSome = true then some s else match mt (appC X Y) t with
    | some [c, d] => (back n c).bind fun x => (back n d).bind fun y => some (app x y)
    | _ => none
theorem size_appC (c d : Tm) : (appC c d).size = c.size + d.size + 9 := by simp only [appC, size, size_pair]; omega
theorem back_facts : ∀ (n : Nat) (t u : Tm), back n t = some u → code u = t ∧ u.size ≤ t.size ∧ u.good = true ∧ ∀ m, has m u = false
  | 0, _, _, h => by cases h
  | n + 1, t, u, h => by
    simp only [back] at h
    split at h
    · rename_i hk
      obtain rfl := Option.some.inj h
      obtain ⟨l, hl⟩ := Option.isSome_iff_exists.1 hk
      exact ⟨(mt_closed _ _ _ kC_has hl).1.symm, size_pos t, rfl, fun _ => rfl⟩
    · split at h
      · rename_i hs
        obtain rfl := Option.some.inj h
        obtain ⟨l, hl⟩ := Option.isSome_iff_exists.1 hs
        exact ⟨(mt_closed _ _ _ sC_has hl).1.symm, size_pos t, rfl, fun _ => rfl⟩
      · split at h
        · rename_i c d hcd
          obtain ⟨c', d', e, rfl⟩ := mt_appC hcd
          simp only [List.cons.injEq, and_true] at e
          obtain ⟨rfl, rfl⟩ := e
          simp only [Option.bind_eq_some_iff] at h
          obtain ⟨x, hx, y, hy, h⟩ := h
          obtain rfl := Option.some.inj h
          obtain ⟨a1, a2, a3, a4⟩ := back_facts n _ _ hx
          obtain ⟨b1, b2, b3, b4⟩ := back_facts n _ _ hy
          refine ⟨by simp [code, a1, b1], by rw [size_appC]; simp only [size]; omega, by simp [good, a3, b3], fun m => by simp [has, a4 m, b4 m]⟩
        · cases h
def pCodeRead (l : List UInt8) : Option (List UInt8) := (parse l).bind fun t => (back t.size t).map text
end Tm

end Go.Proofs.YtfjohagdlaiapaaGreat

namespace Go.Proofs.YtfjohagdlaiapaaGreat
open Go.RowKit

set_option maxHeartbeats 4000000
set_option maxRecDepth 100000

theorem back_more : ∀ (n m : Nat) (t : Tm), t.size ≤ n → t.size ≤ m → Tm.back n t = Tm.back m t
  | 0, _, t, h, _ => by have := Tm.size_pos t; omega
  | _, 0, t, _, h => by have := Tm.size_pos t; omega
  | n + 1, m + 1, t, h1, h2 => by
    simp only [Tm.back]
    split
    · rfl
    · split
      · rfl
      · split
        · rename_i c d hcd
          obtain ⟨c', d', e, rfl⟩ := Tm.mt_appC hcd
          simp only [List.cons.injEq, and_true] at e
          obtain ⟨rfl, rfl⟩ := e
          have hz := Tm.size_appC c d
          rw [back_more n m c (by omega) (by omega), back_more n m d (by omega) (by omega)]
        · rfl

end Go.Proofs.YtfjohagdlaiapaaGreat

namespace Go.Proofs.YtfjohagdlaiapaaGreat
open Go Go.RowKit

set_option maxRecDepth 100000

section
variable {P : Program} {ops : Array Oper} {Q : Exit → Act → World → Prop}

theorem wp_region_reg2 {id n : Nat} {a0 : Act} {w0 : World} (hm : P.follows .mixedOrders = true) (hn : ops.size = n + 2) (hok : regOk ops n = true) (hl1 : regLast ops n = true) (hl2 : ((List.range n).all fun j => depsOn ops (n + 1) j) = true)
    (Ext : World → World → Prop) (hrefl : ∀ w, Ext w w) (htrans : ∀ a b c, Ext a b → Ext b c → Ext a c)
    (R : Nat → Value → World → Prop) (hR : ∀ i v w w', Ext w0.drew w → R i v w → Ext w w' → R i v w')
    (hstep : ∀ i, i < n → ∀ (vs : Nat → Value) (w : World), Ext w0.drew w → (∀ j, depsOn ops i j = true → R j (vs j) w) →
      ∀ K : Act → World → Prop, (∀ v w', Ext w w' → R i v w' → K ((frame a0 ops vs).put (dstOf ops i) v) w') → OpDo P ops Q (frame a0 ops vs) i w K)
    (hA : ∀ (vs : Nat → Value) (w : World), Ext w0.drew w → (∀ i, i < n → R i (vs i) w) → ∀ K : Act → World → Prop, (∀ a' w', (∀ K' : Act → World → Prop, (∀ a w, Q .normal a w → K' a w) → OpDo P ops Q a' (n + 1) w' K') → K a' w') → OpDo P ops Q (frame a0 ops vs) n w K)
    (hB : ∀ (vs : Nat → Value) (w : World), Ext w0.drew w → (∀ i, i < n → R i (vs i) w) → ∀ K : Act → World → Prop, (∀ a' w', (∀ K' : Act → World → Prop, (∀ a w, Q .normal a w → K' a w) → OpDo P ops Q a' n w' K') → K a' w') → OpDo P ops Q (frame a0 ops vs) (n + 1) w K) : (Code.region id ops true).wp P Q a0 w0 := by
  have getSet : ∀ (listed : Array Bool) (i j : Nat), (listed.setIfInBounds i true).getD j false = if j = i ∧ i < listed.size then true else listed.getD j false := fun listed i j => by
    simp only [Array.getD_eq_getD_getElem?, Array.getElem?_setIfInBounds]
    by_cases h : i = j
    · subst h
      by_cases hi : i < listed.size
      · simp [hi]
      · simp [hi]
    · have h' : ¬ j = i := fun e => h e.symm
      simp [h, h']
  refine wp_region_any hm ?_
  refine wpAny_inv (fun listed a w => listed.size = ops.size ∧
    ((∃ vs, a = frame a0 ops vs ∧ Ext w0.drew w ∧ listed.getD n false = false ∧ listed.getD (n + 1) false = false ∧ ∀ j, listed.getD j false = true → R j (vs j) w) ∨
     ((∀ j, j < n + 1 → listed.getD j false = true) ∧ listed.getD (n + 1) false = false ∧ ∀ K' : Act → World → Prop, (∀ a w, Q .normal a w → K' a w) → OpDo P ops Q a (n + 1) w K') ∨
     ((∀ j, j < n → listed.getD j false = true) ∧ listed.getD n false = false ∧ listed.getD (n + 1) false = true ∧ ∀ K' : Act → World → Prop, (∀ a w, Q .normal a w → K' a w) → OpDo P ops Q a n w K') ∨
     ((∀ j, j < ops.size → listed.getD j false = true) ∧ Q .normal a w))) ?_ ?_ ops.size _ _ _ ?_ ⟨by simp, Or.inl ⟨_, (putAll_init a0 (dstOf ops) ops.size).symm, hrefl _, ?_, ?_, fun j hj => ?_⟩⟩
  · rintro listed a w ⟨hsz, h⟩ hr
    have hall := all_listed hsz (regOk_back hok) hr
    rcases h with ⟨vs, _, _, h1, _⟩ | ⟨_, h1, _⟩ | ⟨_, h1, _⟩ | ⟨_, hq⟩
    · have := hall n (by omega); rw [h1] at this; cases this
    · have := hall (n + 1) (by omega); rw [h1] at this; cases this
    · have := hall n (by omega); rw [h1] at this; cases this
    · exact hq
  · rintro listed a w i ⟨hsz, h⟩ hi
    obtain ⟨hlt, hun, o, ho, hdeps⟩ := ready_open hi
    have hun' : listed.getD i false = false := by
      have hls : i < listed.size := by omega
      simp only [Array.getD, hls, dif_pos] at hun ⊢
      exact hun
    have hdep : ∀ j, depsOn ops i j = true → listed.getD j false = true := fun j hj => by
      unfold depsOn at hj
      rw [ho] at hj
      simp only at hj
      rw [Array.any_eq_true] at hj
      obtain ⟨k, hk, hb⟩ := hj
      simp only [Bool.and_eq_true, beq_iff_eq] at hb
      rw [← hb.2]
      exact hdeps _ (Array.getElem_mem hk) hb.1
    have fin : ∀ {A : Act} {K2 : Act → World → Prop}, (∀ K' : Act → World → Prop, (∀ a w, K2 a w → K' a w) → OpDo P ops Q A i w K') → wpOp P ops Q i K2 A w := fun {A K2} h => wpOp_step ho (fun K' hK => by
      have := (h K' hK).out
      rw [ho] at this
      exact this)
    have hsz' : (listed.setIfInBounds i true).size = ops.size := by simpa using hsz
    have d1 : ∀ j, j < n → depsOn ops n j = true := fun j hj => List.all_eq_true.1 hl1 j (List.mem_range.2 hj)
    have d2 : ∀ j, j < n → depsOn ops (n + 1) j = true := fun j hj => List.all_eq_true.1 hl2 j (List.mem_range.2 hj)
    have hil : i < listed.size := by omega
    have same : ∀ j, listed.getD j false = true → (listed.setIfInBounds i true).getD j false = true := fun j hj => by rw [getSet]; split <;> simp [hj]
    have here : (listed.setIfInBounds i true).getD i false = true := by rw [getSet]; simp [hil]
    have other : ∀ j, j ≠ i → listed.getD j false = false → (listed.setIfInBounds i true).getD j false = false := fun j hne hj => by rw [getSet]; simp [hne, hj]
    rcases h with ⟨vs, rfl, hE, h1, h2, hj⟩ | ⟨h1, h2, hp⟩ | ⟨h1, h2, h3, hp⟩ | ⟨h1, hq⟩
    · by_cases hin : i < n
      · refine fin (fun K' hK => hstep i hin vs w hE (fun j hjd => hj j (hdep j hjd)) K' (fun v w' he hr => hK _ _ ⟨hsz', Or.inl ⟨fun j => if j = i then v else vs j, ?_, htrans _ _ _ hE he, other n (by omega) h1, other (n + 1) (by omega) h2, fun j hjl => ?_⟩⟩))
        · exact (putAll_upd a0 (dstOf ops) vs i v ops.size hlt (fun j hj' hne => regOk_dst hok i j hin hj' hne)).symm
        · by_cases hji : j = i
          · subst hji; simpa using hr
          · simp only [hji, if_false]
            refine hR j _ w w' hE (hj j ?_) he
            rw [getSet, if_neg (fun h => hji h.1)] at hjl
            exact hjl
      · by_cases hi0 : i = n
        · subst hi0
          refine fin (fun K' hK => hA vs w hE (fun j hjn => hj j (hdep j (d1 j hjn))) K' (fun a' w' hp => hK _ _ ⟨hsz', Or.inr (Or.inl ⟨fun j hjn => ?_, other _ (by omega) h2, hp⟩)⟩))
          by_cases hji : j = i
          · rw [hji]; exact here
          · exact same j (hdep j (d1 j (by omega)))
        · obtain rfl : i = n + 1 := by omega
          refine fin (fun K' hK => hB vs w hE (fun j hjn => hj j (hdep j (d2 j hjn))) K' (fun a' w' hp => hK _ _ ⟨hsz', Or.inr (Or.inr (Or.inl ⟨fun j hjn => same j (hdep j (d2 j hjn)), other n (by omega) h1, here, hp⟩))⟩))
    · have hi1 : i = n + 1 := by
        by_cases hlt' : i < n + 1
        · have := h1 i hlt'; rw [hun'] at this; cases this
        · omega
      subst hi1
      refine fin (fun K' hK => hp K' (fun a w hq => hK _ _ ⟨hsz', Or.inr (Or.inr (Or.inr ⟨fun j hjs => ?_, hq⟩))⟩))
      by_cases hji : j = n + 1
      · rw [hji]; exact here
      · exact same j (h1 j (by omega))
    · have hi1 : i = n := by
        by_cases hlt' : i < n
        · have := h1 i hlt'; rw [hun'] at this; cases this
        · by_cases he : i = n + 1
          · rw [he, h3] at hun'; cases hun'
          · omega
      subst hi1
      refine fin (fun K' hK => hp K' (fun a w hq => hK _ _ ⟨hsz', Or.inr (Or.inr (Or.inr ⟨fun j hjs => ?_, hq⟩))⟩))
      by_cases hji : j = i
      · rw [hji]; exact here
      · by_cases hjn : j = i + 1
        · rw [hjn]; exact same _ h3
        · exact same j (h1 j (by omega))
    · have := h1 i hlt; rw [hun'] at this; cases this
  · have := List.countP_le_length (p := fun b : Bool => !b) (l := (Array.replicate ops.size false).toList)
    unfold openN
    simpa using this
  · rw [Array.getD_eq_getD_getElem?, Array.getElem?_replicate]; split <;> rfl
  · rw [Array.getD_eq_getD_getElem?, Array.getElem?_replicate]; split <;> rfl
  · rw [Array.getD_eq_getD_getElem?, Array.getElem?_replicate] at hj; split at hj <;> cases hj
end
end Go.Proofs.YtfjohagdlaiapaaGreat
