/-
  The model's l2Parts for every tree; PairParts of the model, and the law.
-/
import Derived.Test.YtfpekihdoclncaaGreatPkBC
import Derived.Test.YtfpekihdoclncaaGreatPkAW
import Derived.Test.YtfpekihdoclncaaGreatPkAY
import Derived.Test.YtfpekihdoclncaaGreatPkAT
import Derived.Test.YtfpekihdoclncaaGreatPkAU
namespace Go.Proofs.YtfpekihdoclncaaGreat
open Go.RowKit

set_option maxHeartbeats 2000000
set_option maxRecDepth 100000

/-- Is a tree no atom. -/
def Tm.isApp : Tm → Bool
  | .app _ _ => true
  | _ => false

theorem empty_app {w : World} {t : Tm} {s : List UInt8} {y : Value} (h : ST w t (.agg #[str s, y])) (hg : t.good = true) : s.isEmpty = t.isApp := by
  cases t with
  | app f a => obtain ⟨rfl, _⟩ := app_form h; rfl
  | k => obtain rfl := atom_form h rfl; rfl
  | s => obtain rfl := atom_form h rfl; rfl
  | nm n =>
    have e := atom_form h rfl
    rw [e]
    have := Tm.text_ne (.nm n) hg
    simp only [Tm.text] at this ⊢
    cases n with
    | nil => exact absurd rfl this
    | cons => rfl

theorem text_app_ne (f a : Tm) (c : UInt8) : (Tm.app f a).text ≠ [c] := by
  intro h
  have := congrArg List.length h
  simp [Tm.text] at this

/-- The letter of an atom, as the model and as the program ask for it. -/
theorem letter_eq {w : World} {t : Tm} {s : List UInt8} {y : Value} (c : UInt8) (h : ST w t (.agg #[str s, y])) : s = [c] ↔ t.text = [c] := by
  cases t with
  | app f a => obtain ⟨rfl, _⟩ := app_form h; simp [text_app_ne]
  | k => obtain rfl := atom_form h rfl; exact Iff.rfl
  | s => obtain rfl := atom_form h rfl; exact Iff.rfl
  | nm n => obtain rfl := atom_form h rfl; exact Iff.rfl

theorem text_si (f a : Tm) (hf : f.good = true) : (Tm.app f a).text = [40, 115, 32, 40, 40, 115, 32, 107, 41, 32, 107, 41, 41] ↔ f.text = [115] ∧ a.text = Tm.text Tm.I := by
  have hI : Tm.text Tm.I = [40, 40, 115, 32, 107, 41, 32, 107, 41] := by decide
  constructor
  · intro h
    simp only [Tm.text, List.cons.injEq, true_and] at h
    have hs : f.text = [115] := by
      cases f with
      | k => simp [Tm.text] at h
      | s => rfl
      | app x y => simp [Tm.text] at h
      | nm n =>
        cases n with
        | nil => simp [Tm.good, Tm.nameOk] at hf
        | cons c ds =>
          simp only [Tm.good, Tm.nameOk, Bool.and_eq_true] at hf
          simp only [Tm.text, List.cons_append, List.cons.injEq] at h
          obtain ⟨hc, _⟩ := h
          have := hf.1.1
          rw [hc] at this
          exact absurd this (by decide)
    rw [hs] at h
    simp only [List.cons_append, List.nil_append, List.cons.injEq, true_and] at h
    refine ⟨hs, ?_⟩
    rw [hI]
    have h2 : a.text ++ [41] = [40, 40, 115, 32, 107, 41, 32, 107, 41] ++ [41] := by simpa using h
    exact List.append_cancel_right h2
  · rintro ⟨h1, h2⟩
    simp only [Tm.text, h1, h2, hI]
    rfl

theorem atom_short {t : Tm} (hg : t.good = true) (h : t.isApp = false) : t.text ≠ [40, 115, 32, 40, 40, 115, 32, 107, 41, 32, 107, 41, 41] := by
  cases t with
  | app f a => simp [Tm.isApp] at h
  | k => decide
  | s => decide
  | nm n =>
    intro e
    simp only [Tm.text] at e
    rw [e] at hg
    exact absurd hg (by decide)

theorem parts_y {x y : Tm} (h : y.isApp = false) : (Tm.app x y).parts = none := by
  cases y with
  | app f a => simp [Tm.isApp] at h
  | _ => simp [Tm.parts, Tm.behind]
theorem parts_x {x y : Tm} (h : x.isApp = false) : (Tm.app x y).parts = none := by
  have : Tm.behind [115] x = none := by
    cases x with
    | app f a => simp [Tm.isApp] at h
    | _ => simp [Tm.behind]
  simp only [Tm.parts, this]
  split <;> rfl
theorem behind_no {F : List UInt8} {t : Tm} (h : t.isApp = false) : Tm.behind F t = none := by
  cases t with
  | app f a => simp [Tm.isApp] at h
  | _ => simp [Tm.behind]

theorem parts_app (x y : Tm) : (Tm.app x y).parts = (Tm.behind [107] y).bind fun n => (Tm.behind [115] x).bind fun l => (Tm.behind [40, 115, 32, 40, 40, 115, 32, 107, 41, 32, 107, 41, 41] l).bind fun fr => (Tm.behind [107] fr).map fun m => (m, n) := by
  simp only [Tm.parts]
  cases Tm.behind [107] y with
  | none => rfl
  | some n =>
    cases Tm.behind [115] x with
    | none => rfl
    | some l =>
      simp only [Option.bind_some]
      cases Tm.behind [40, 115, 32, 40, 40, 115, 32, 107, 41, 32, 107, 41, 41] l with
      | none => rfl
      | some fr =>
        simp only [Option.bind_some]
        cases Tm.behind [107] fr with
        | none => rfl
        | some m => rfl
theorem behind_app (F : List UInt8) (f a : Tm) : Tm.behind F (.app f a) = if f.text = F then some a else none := rfl

end Go.Proofs.YtfpekihdoclncaaGreat

namespace Go.Proofs.YtfpekihdoclncaaGreat
open Go Go.RowKit

set_option maxRecDepth 100000

section
variable {P : Program} {ops : Array Oper} {Q : Exit → Act → World → Prop}

theorem wp_region_reg2 {id n : Nat} {a0 : Act} {w0 : World} (hm : P.follows .mixedOrders = true) (hn : ops.size = n + 2) (hok : regOk ops n = true) (hl1 : regLast ops n = true) (hl2 : ((List.range n).all fun j => depsOn ops (n + 1) j) = true)
    (Ext : World → World → Prop) (hrefl : ∀ w, Ext w w) (htrans : ∀ a b c, Ext a b → Ext b c → Ext a c)
    (R : Nat → Value → World → Prop) (hR : ∀ i v w w', Ext w0.drew w → R i v w → Ext w w' → R i v w')
    (hstep : ∀ i, i < n → ∀ (vs : Nat → Value) (w : World), Ext w0.drew w → (∀ j, depsOn ops i j = true → R j (vs j) w) →
      ∀ K : Act → World → Prop, (∀ v w', Ext w w' → R i v w' → K ((frame a0 ops vs).put (dstOf ops i) v) w') → OpDo P ops Q (frame a0 ops vs) i w K)
    (hA : ∀ (vs : Nat → Value) (w : World), Ext w0.drew w → (∀ i, i < n → R i (vs i) w) → ∀ K : Act → World → Prop, (∀ a' w', (∀ K' : Act → World → Prop, (∀ a w, Q .normal a w → K' a w) → OpDo P ops Q a' (n + 1) w' K') → K a' w') → OpDo P ops Q (frame a0 ops vs) n w K)
    (hB : ∀ (vs : Nat → Value) (w : World), Ext w0.drew w → (∀ i, i < n → R i (vs i) w) → ∀ K : Act → World → Prop, (∀ a' w', (∀ K' : Act → World → Prop, (∀ a w, Q .normal a w → K' a w) → OpDo P ops Q a' n w' K') → K a' w') → OpDo P ops Q (frame a0 ops vs) (n + 1) w K) : (Code.region id ops true).wp P Q a0 w0 := by
  have getSet : ∀ (listed : Array Bool) (i j : Nat), (listed.setIfInBounds i true).getD j false = if j = i ∧ i < listed.size then true else listed.getD j false := fun listed i j => by
    simp only [Array.getD_eq_getD_getElem?, Array.getElem?_setIfInBounds]
    by_cases h : i = j
    · subst h
      by_cases hi : i < listed.size
      · simp [hi]
      · simp [hi]
    · have h' : ¬ j = i := fun e => h e.symm
      simp [h, h']
  refine wp_region_any hm ?_
  refine wpAny_inv (fun listed a w => listed.size = ops.size ∧
    ((∃ vs, a = frame a0 ops vs ∧ Ext w0.drew w ∧ listed.getD n false = false ∧ listed.getD (n + 1) false = false ∧ ∀ j, listed.getD j false = true → R j (vs j) w) ∨
     ((∀ j, j < n + 1 → listed.getD j false = true) ∧ listed.getD (n + 1) false = false ∧ ∀ K' : Act → World → Prop, (∀ a w, Q .normal a w → K' a w) → OpDo P ops Q a (n + 1) w K') ∨
     ((∀ j, j < n → listed.getD j false = true) ∧ listed.getD n false = false ∧ listed.getD (n + 1) false = true ∧ ∀ K' : Act → World → Prop, (∀ a w, Q .normal a w → K' a w) → OpDo P ops Q a n w K') ∨
     ((∀ j, j < ops.size → listed.getD j false = true) ∧ Q .normal a w))) ?_ ?_ ops.size _ _ _ ?_ ⟨by simp, Or.inl ⟨_, (putAll_init a0 (dstOf ops) ops.size).symm, hrefl _, ?_, ?_, fun j hj => ?_⟩⟩
  · rintro listed a w ⟨hsz, h⟩ hr
    have hall := all_listed hsz (regOk_back hok) hr
    rcases h with ⟨vs, _, _, h1, _⟩ | ⟨_, h1, _⟩ | ⟨_, h1, _⟩ | ⟨_, hq⟩
    · have := hall n (by omega); rw [h1] at this; cases this
    · have := hall (n + 1) (by omega); rw [h1] at this; cases this
    · have := hall n (by omega); rw [h1] at this; cases this
    · exact hq
  · rintro listed a w i ⟨hsz, h⟩ hi
    obtain ⟨hlt, hun, o, ho, hdeps⟩ := ready_open hi
    have hun' : listed.getD i false = false := by
      have hls : i < listed.size := by omega
      simp only [Array.getD, hls, dif_pos] at hun ⊢
      exact hun
    have hdep : ∀ j, depsOn ops i j = true → listed.getD j false = true := fun j hj => by
      unfold depsOn at hj
      rw [ho] at hj
      simp only at hj
      rw [Array.any_eq_true] at hj
      obtain ⟨k, hk, hb⟩ := hj
      simp only [Bool.and_eq_true, beq_iff_eq] at hb
      rw [← hb.2]
      exact hdeps _ (Array.getElem_mem hk) hb.1
    have fin : ∀ {A : Act} {K2 : Act → World → Prop}, (∀ K' : Act → World → Prop, (∀ a w, K2 a w → K' a w) → OpDo P ops Q A i w K') → wpOp P ops Q i K2 A w := fun {A K2} h => wpOp_step ho (fun K' hK => by
      have := (h K' hK).out
      rw [ho] at this
      exact this)
    have hsz' : (listed.setIfInBounds i true).size = ops.size := by simpa using hsz
    have d1 : ∀ j, j < n → depsOn ops n j = true := fun j hj => List.all_eq_true.1 hl1 j (List.mem_range.2 hj)
    have d2 : ∀ j, j < n → depsOn ops (n + 1) j = true := fun j hj => List.all_eq_true.1 hl2 j (List.mem_range.2 hj)
    have hil : i < listed.size := by omega
    have same : ∀ j, listed.getD j false = true → (listed.setIfInBounds i true).getD j false = true := fun j hj => by rw [getSet]; split <;> simp [hj]
    have here : (listed.setIfInBounds i true).getD i false = true := by rw [getSet]; simp [hil]
    have other : ∀ j, j ≠ i → listed.getD j false = false → (listed.setIfInBounds i true).getD j false = false := fun j hne hj => by rw [getSet]; simp [hne, hj]
    rcases h with ⟨vs, rfl, hE, h1, h2, hj⟩ | ⟨h1, h2, hp⟩ | ⟨h1, h2, h3, hp⟩ | ⟨h1, hq⟩
    · by_cases hin : i < n
      · refine fin (fun K' hK => hstep i hin vs w hE (fun j hjd => hj j (hdep j hjd)) K' (fun v w' he hr => hK _ _ ⟨hsz', Or.inl ⟨fun j => if j = i then v else vs j, ?_, htrans _ _ _ hE he, other n (by omega) h1, other (n + 1) (by omega) h2, fun j hjl => ?_⟩⟩))
        · exact (putAll_upd a0 (dstOf ops) vs i v ops.size hlt (fun j hj' hne => regOk_dst hok i j hin hj' hne)).symm
        · by_cases hji : j = i
          · subst hji; simpa using hr
          · simp only [hji, if_false]
            refine hR j _ w w' hE (hj j ?_) he
            rw [getSet, if_neg (fun h => hji h.1)] at hjl
            exact hjl
      · by_cases hi0 : i = n
        · subst hi0
          refine fin (fun K' hK => hA vs w hE (fun j hjn => hj j (hdep j (d1 j hjn))) K' (fun a' w' hp => hK _ _ ⟨hsz', Or.inr (Or.inl ⟨fun j hjn => ?_, other _ (by omega) h2, hp⟩)⟩))
          by_cases hji : j = i
          · rw [hji]; exact here
          · exact same j (hdep j (d1 j (by omega)))
        · obtain rfl : i = n + 1 := by omega
          refine fin (fun K' hK => hB vs w hE (fun j hjn => hj j (hdep j (d2 j hjn))) K' (fun a' w' hp => hK _ _ ⟨hsz', Or.inr (Or.inr (Or.inl ⟨fun j hjn => same j (hdep j (d2 j hjn)), other n (by omega) h1, here, hp⟩))⟩))
    · have hi1 : i = n + 1 := by
        by_cases hlt' : i < n + 1
        · have := h1 i hlt'; rw [hun'] at this; cases this
        · omega
      subst hi1
      refine fin (fun K' hK => hp K' (fun a w hq => hK _ _ ⟨hsz', Or.inr (Or.inr (Or.inr ⟨fun j hjs => ?_, hq⟩))⟩))
      by_cases hji : j = n + 1
      · rw [hji]; exact here
      · exact same j (h1 j (by omega))
    · have hi1 : i = n := by
        by_cases hlt' : i < n
        · have := h1 i hlt'; rw [hun'] at this; cases this
        · by_cases he : i = n + 1
          · rw [he, h3] at hun'; cases hun'
          · omega
      subst hi1
      refine fin (fun K' hK => hp K' (fun a w hq => hK _ _ ⟨hsz', Or.inr (Or.inr (Or.inr ⟨fun j hjs => ?_, hq⟩))⟩))
      by_cases hji : j = i
      · rw [hji]; exact here
      · by_cases hjn : j = i + 1
        · rw [hjn]; exact same _ h3
        · exact same j (h1 j (by omega))
    · have := h1 i hlt; rw [hun'] at this; cases this
  · have := List.countP_le_length (p := fun b : Bool => !b) (l := (Array.replicate ops.size false).toList)
    unfold openN
    simpa using this
  · rw [Array.getD_eq_getD_getElem?, Array.getElem?_replicate]; split <;> rfl
  · rw [Array.getD_eq_getD_getElem?, Array.getElem?_replicate]; split <;> rfl
  · rw [Array.getD_eq_getD_getElem?, Array.getElem?_replicate] at hj; split at hj <;> cases hj
end
end Go.Proofs.YtfpekihdoclncaaGreat

namespace Go.Proofs.YtfpekihdoclncaaGreat
open Go.RowKit

set_option maxHeartbeats 2000000
set_option maxRecDepth 100000

def SBackPost (w : World) (r : Option Tm) (e : Ending) (w' : World) : Prop :=
  ∃ x s ao n c, e = .returned (.tuple #[.agg #[str s, .slice ao n c], .bool r.isSome]) ∧ After w w' ∧ ST w' x (.agg #[str s, .slice ao n c]) ∧ ∀ u, r = some u → x = u

end Go.Proofs.YtfpekihdoclncaaGreat
