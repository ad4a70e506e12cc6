/-
  How a function text of the model lies in memory.
-/
import Derived.Test.YtfjohagdlaiapaaGreatPkF
import Derived.Test.YtfjohagdlaiapaaGreatPkB
import Derived.Test.YtfjohagdlaiapaaGreatPkU
namespace Go.Proofs.YtfjohagdlaiapaaGreat
open Go.RowKit

set_option maxHeartbeats 1000000
set_option maxRecDepth 100000

namespace FT
def atomOf : FT → List UInt8
  | z a => [122, UInt8.ofNat (48 + a)]
  | inc => [105, 110, 99]
  | p i a => [112, UInt8.ofNat (48 + i), UInt8.ofNat (48 + a)]
  | r _ _ => [114]
  | m _ => [109]
  | _ => [99]
def partsOf : FT → List FT
  | c1 f g => [f, g]
  | c2 f g h => [f, g, h]
  | c3 f g h i => [f, g, h, i]
  | r f g => [f, g]
  | m f => [f]
  | _ => []

theorem word_atom {s : List UInt8} {t : FT} (h : word s = some t) : s = atomOf t ∧ partsOf t = [] := by
  unfold word at h
  repeat (split at h; · (rename_i hs; cases h; subst hs; exact ⟨rfl, rfl⟩))
  cases h

theorem comb_atom {a : List UInt8} {ps : List FT} {t : FT} (h : comb a ps = some t) : a = atomOf t ∧ partsOf t = ps := by
  unfold comb at h
  split at h
  · rename_i ha
    subst ha
    split at h <;> first | (split at h <;> first | (cases h; exact ⟨rfl, rfl⟩) | cases h) | cases h
  · split at h
    · rename_i ha
      subst ha
      split at h <;> first | (split at h <;> first | (cases h; exact ⟨rfl, rfl⟩) | cases h) | cases h
    · split at h
      · rename_i ha
        subst ha
        split at h <;> first | (split at h <;> first | (cases h; exact ⟨rfl, rfl⟩) | cases h) | cases h
      · cases h

theorem size_parts (t : FT) : size t = 1 + ((partsOf t).map size).sum := by
  cases t <;> simp [size, partsOf]
theorem parts_ok {t : FT} (h : ok t) : ∀ f ∈ partsOf t, ok f := by
  cases t <;> simp only [ok] at h <;> simp [partsOf, h]
end FT

def K3 (get : Nat → Option Value) (j : Nat) (F : Value → Prop) : Prop := ∃ x y z, get (3 * j) = some x ∧ get (3 * j + 1) = some y ∧ get (3 * j + 2) = some z ∧ F (.agg #[x, y, z])

theorem K3.imp {get : Nat → Option Value} {j : Nat} {F F' : Value → Prop} (hF : ∀ v, F v → F' v) : K3 get j F → K3 get j F' := fun ⟨x, y, z, h1, h2, h3, h4⟩ => ⟨x, y, z, h1, h2, h3, hF _ h4⟩

/-- The value v is the function text t as the model has it. -/
def SF (w : World) (B : Nat) : FT → Value → Prop
  | .c1 f g, v => ∃ b cap cs fr, v = .agg #[str [99], .slice (some ⟨b, 0, none⟩) 2 cap, .int .i64 (FT.arity (.c1 f g) : Nat)] ∧ B ≤ b ∧ w.heap[b]? = some (.cells cs 44 fr) ∧ K3 (fun i => cs[i]?) 0 (SF w B f) ∧ K3 (fun i => cs[i]?) 1 (SF w B g)
  | .c2 f g h, v => ∃ b cap cs fr, v = .agg #[str [99], .slice (some ⟨b, 0, none⟩) 3 cap, .int .i64 (FT.arity (.c2 f g h) : Nat)] ∧ B ≤ b ∧ w.heap[b]? = some (.cells cs 44 fr) ∧ K3 (fun i => cs[i]?) 0 (SF w B f) ∧ K3 (fun i => cs[i]?) 1 (SF w B g) ∧ K3 (fun i => cs[i]?) 2 (SF w B h)
  | .c3 f g h k, v => ∃ b cap cs fr, v = .agg #[str [99], .slice (some ⟨b, 0, none⟩) 4 cap, .int .i64 (FT.arity (.c3 f g h k) : Nat)] ∧ B ≤ b ∧ w.heap[b]? = some (.cells cs 44 fr) ∧ K3 (fun i => cs[i]?) 0 (SF w B f) ∧ K3 (fun i => cs[i]?) 1 (SF w B g) ∧ K3 (fun i => cs[i]?) 2 (SF w B h) ∧ K3 (fun i => cs[i]?) 3 (SF w B k)
  | .r f g, v => ∃ b cap cs fr, v = .agg #[str [114], .slice (some ⟨b, 0, none⟩) 2 cap, .int .i64 (FT.arity (.r f g) : Nat)] ∧ B ≤ b ∧ w.heap[b]? = some (.cells cs 44 fr) ∧ K3 (fun i => cs[i]?) 0 (SF w B f) ∧ K3 (fun i => cs[i]?) 1 (SF w B g)
  | .m f, v => ∃ b cap cs fr, v = .agg #[str [109], .slice (some ⟨b, 0, none⟩) 1 cap, .int .i64 (FT.arity (.m f) : Nat)] ∧ B ≤ b ∧ w.heap[b]? = some (.cells cs 44 fr) ∧ K3 (fun i => cs[i]?) 0 (SF w B f)
  | t, v => v = .agg #[str (FT.atomOf t), .slice none 0 0, .int .i64 (FT.arity t : Nat)]

/-- Parts of a function text of the model. -/
def KidsV (w : World) (B : Nat) (sv : Value) (ps : List FT) : Prop :=
  (ps = [] ∧ sv = .slice none 0 0) ∨ ∃ b cap cs fr, ps ≠ [] ∧ sv = .slice (some ⟨b, 0, none⟩) ps.length cap ∧ B ≤ b ∧ w.heap[b]? = some (.cells cs 44 fr) ∧ ∀ j (h : j < ps.length), K3 (fun i => cs[i]?) j (SF w B ps[j])

theorem SF.kids {w : World} {B : Nat} {t : FT} {v : Value} (h : SF w B t v) : ∃ sv, v = .agg #[str (FT.atomOf t), sv, .int .i64 (FT.arity t : Nat)] ∧ KidsV w B sv (FT.partsOf t) := by
  cases t with
  | z a => exact ⟨_, h, Or.inl ⟨rfl, rfl⟩⟩
  | inc => exact ⟨_, h, Or.inl ⟨rfl, rfl⟩⟩
  | p i a => exact ⟨_, h, Or.inl ⟨rfl, rfl⟩⟩
  | c1 f g =>
    obtain ⟨b, cap, cs, fr, hv, hb, hh, k0, k1⟩ := h
    exact ⟨_, hv, Or.inr ⟨b, cap, cs, fr, by simp [FT.partsOf], rfl, hb, hh, fun j hj => by match j, hj with | 0, _ => exact k0 | 1, _ => exact k1⟩⟩
  | c2 f g k =>
    obtain ⟨b, cap, cs, fr, hv, hb, hh, k0, k1, k2⟩ := h
    exact ⟨_, hv, Or.inr ⟨b, cap, cs, fr, by simp [FT.partsOf], rfl, hb, hh, fun j hj => by match j, hj with | 0, _ => exact k0 | 1, _ => exact k1 | 2, _ => exact k2⟩⟩
  | c3 f g k l =>
    obtain ⟨b, cap, cs, fr, hv, hb, hh, k0, k1, k2, k3⟩ := h
    exact ⟨_, hv, Or.inr ⟨b, cap, cs, fr, by simp [FT.partsOf], rfl, hb, hh, fun j hj => by match j, hj with | 0, _ => exact k0 | 1, _ => exact k1 | 2, _ => exact k2 | 3, _ => exact k3⟩⟩
  | r f g =>
    obtain ⟨b, cap, cs, fr, hv, hb, hh, k0, k1⟩ := h
    exact ⟨_, hv, Or.inr ⟨b, cap, cs, fr, by simp [FT.partsOf], rfl, hb, hh, fun j hj => by match j, hj with | 0, _ => exact k0 | 1, _ => exact k1⟩⟩
  | m f =>
    obtain ⟨b, cap, cs, fr, hv, hb, hh, k0⟩ := h
    exact ⟨_, hv, Or.inr ⟨b, cap, cs, fr, by simp [FT.partsOf], rfl, hb, hh, fun j hj => by match j, hj with | 0, _ => exact k0⟩⟩

theorem SF.mk {w : World} {B : Nat} {t : FT} {sv : Value} (h : KidsV w B sv (FT.partsOf t)) : SF w B t (.agg #[str (FT.atomOf t), sv, .int .i64 (FT.arity t : Nat)]) := by
  rcases h with ⟨he, rfl⟩ | ⟨b, cap, cs, fr, hne, rfl, hb, hh, hc⟩
  · cases t <;> first | rfl | simp [FT.partsOf] at he
  · cases t with
    | z a => exact absurd rfl hne
    | inc => exact absurd rfl hne
    | p i a => exact absurd rfl hne
    | c1 f g => exact ⟨b, cap, cs, fr, rfl, hb, hh, hc 0 (by simp [FT.partsOf]), hc 1 (by simp [FT.partsOf])⟩
    | c2 f g k => exact ⟨b, cap, cs, fr, rfl, hb, hh, hc 0 (by simp [FT.partsOf]), hc 1 (by simp [FT.partsOf]), hc 2 (by simp [FT.partsOf])⟩
    | c3 f g k l => exact ⟨b, cap, cs, fr, rfl, hb, hh, hc 0 (by simp [FT.partsOf]), hc 1 (by simp [FT.partsOf]), hc 2 (by simp [FT.partsOf]), hc 3 (by simp [FT.partsOf])⟩
    | r f g => exact ⟨b, cap, cs, fr, rfl, hb, hh, hc 0 (by simp [FT.partsOf]), hc 1 (by simp [FT.partsOf])⟩
    | m f => exact ⟨b, cap, cs, fr, rfl, hb, hh, hc 0 (by simp [FT.partsOf])⟩

/-- A function text of the model in another world, and with another bound. -/
theorem SF.move {w w' : World} {B B' : Nat} (hB : B' ≤ B) (hs : ∀ b, B ≤ b → b < w.heap.size → w'.heap[b]? = w.heap[b]?) : ∀ {t : FT} {v : Value}, SF w B t v → SF w' B' t v := by
  have hk : ∀ {b : Nat} {o : Obj}, B ≤ b → w.heap[b]? = some o → w'.heap[b]? = some o := fun {b o} hb h => by rw [hs b hb (Array.getElem?_eq_some_iff.1 h).1]; exact h
  intro t
  induction t with
  | z _ => exact fun h => h
  | inc => exact fun h => h
  | p _ _ => exact fun h => h
  | c1 f g ihf ihg => rintro v ⟨b, cap, cs, fr, hv, hb, hh, k0, k1⟩; exact ⟨b, cap, cs, fr, hv, Nat.le_trans hB hb, hk hb hh, k0.imp fun _ => ihf, k1.imp fun _ => ihg⟩
  | c2 f g k ihf ihg ihk => rintro v ⟨b, cap, cs, fr, hv, hb, hh, k0, k1, k2⟩; exact ⟨b, cap, cs, fr, hv, Nat.le_trans hB hb, hk hb hh, k0.imp fun _ => ihf, k1.imp fun _ => ihg, k2.imp fun _ => ihk⟩
  | c3 f g k l ihf ihg ihk ihl => rintro v ⟨b, cap, cs, fr, hv, hb, hh, k0, k1, k2, k3⟩; exact ⟨b, cap, cs, fr, hv, Nat.le_trans hB hb, hk hb hh, k0.imp fun _ => ihf, k1.imp fun _ => ihg, k2.imp fun _ => ihk, k3.imp fun _ => ihl⟩
  | r f g ihf ihg => rintro v ⟨b, cap, cs, fr, hv, hb, hh, k0, k1⟩; exact ⟨b, cap, cs, fr, hv, Nat.le_trans hB hb, hk hb hh, k0.imp fun _ => ihf, k1.imp fun _ => ihg⟩
  | m f ihf => rintro v ⟨b, cap, cs, fr, hv, hb, hh, k0⟩; exact ⟨b, cap, cs, fr, hv, Nat.le_trans hB hb, hk hb hh, k0.imp fun _ => ihf⟩

theorem SF.same {w w' : World} {B : Nat} {t : FT} {v : Value} (h : SF w B t v) (hs : ∀ b, B ≤ b → b < w.heap.size → w'.heap[b]? = w.heap[b]?) : SF w' B t v := h.move (Nat.le_refl _) hs
theorem SF.less {w : World} {B B' : Nat} {t : FT} {v : Value} (h : SF w B t v) (hB : B' ≤ B) : SF w B' t v := h.move hB fun _ _ _ => rfl
theorem SF.after {w w' : World} {B : Nat} {t : FT} {v : Value} (h : SF w B t v) (ha : After w w') : SF w' B t v := h.same fun b _ hl => ha.block b hl
theorem KidsV.after {w w' : World} {B : Nat} {sv : Value} {ps : List FT} (h : KidsV w B sv ps) (ha : After w w') : KidsV w' B sv ps := by
  rcases h with h | ⟨b, cap, cs, fr, hne, hv, hb, hh, hc⟩
  · exact Or.inl h
  · exact Or.inr ⟨b, cap, cs, fr, hne, hv, hb, ha.heap hh, fun j hj => (hc j hj).imp fun _ h => h.after ha⟩

theorem SF.form {w : World} {B : Nat} {t : FT} {v : Value} (h : SF w B t v) : ∃ ao n c, v = .agg #[str (FT.atomOf t), .slice ao n c, .int .i64 (FT.arity t : Nat)] := by
  obtain ⟨sv, rfl, hk⟩ := h.kids
  rcases hk with ⟨_, rfl⟩ | ⟨b, cap, cs, fr, _, rfl, _⟩
  · exact ⟨_, _, _, rfl⟩
  · exact ⟨_, _, _, rfl⟩

/-- Blocks from S on below E only. -/
def SFr (w : World) (S E : Nat) (t : FT) (v : Value) : Prop := ∀ w'' : World, (∀ k, S ≤ k → k < E → w''.heap[k]? = w.heap[k]?) → SF w'' S t v
theorem SF.ranged {w : World} {S : Nat} {t : FT} {v : Value} (h : SF w S t v) : SFr w S w.heap.size t v := fun _ hk => h.same hk
theorem SFr.keep {w w' : World} {S E : Nat} {t : FT} {v : Value} (h : SFr w S E t v) (hk : ∀ k, S ≤ k → k < E → w'.heap[k]? = w.heap[k]?) : SFr w' S E t v := fun w'' h2 => h w'' fun k h1 h3 => (h2 k h1 h3).trans (hk k h1 h3)
theorem SFr.sf {w : World} {S E : Nat} {t : FT} {v : Value} (h : SFr w S E t v) : SF w S t v := h w fun _ _ _ => rfl

/-- A row of parts that may grow, the model's. -/
def RowS (w : World) (base : Nat) (sv : Value) (ps : List FT) (xs : List Value) : Prop :=
  w.ownsRow base 44 3 sv ps.length xs ∧ (ps = [] → sv = .slice none 0 0) ∧ ∀ j (h : j < ps.length), ∃ S E, base ≤ S ∧ E ≤ w.heap.size ∧ (∀ g, sv.ownBlock = some g → g < S ∨ E ≤ g) ∧ K3 (fun i => xs[i]?) j (SFr w S E ps[j])

theorem RowS.nil (w : World) (base : Nat) : RowS w base (.slice none 0 0) [] [] := ⟨World.ownsRow_nil w base _ _, fun _ => rfl, fun j h => absurd h (by simp)⟩

theorem RowS.grown {w w' : World} {base b : Nat} {sv : Value} {ps : List FT} {xs : List Value} (h : RowS w base sv ps xs) (hg : w.grownBy w' (some b)) (hb : b < base) : RowS w' base sv ps xs := by
  refine ⟨h.1.kept hg ?_, h.2.1, fun j hj => ?_⟩
  · cases hv : sv.ownBlock with
    | none => exact Or.inl rfl
    | some g => exact Or.inr (fun e => by injection e with e; have := (h.1.lt g hv).1; omega)
  · obtain ⟨S, E, h2, h3, h4, h5⟩ := h.2.2 j hj
    exact ⟨S, E, h2, Nat.le_trans h3 hg.size, h4, h5.imp fun _ h => h.keep fun k hk1 hk2 => hg.block k (by omega) (fun e => by injection e with e; omega)⟩

theorem RowS.push {w w' : World} {base S : Nat} {sv v' x y z : Value} {ps : List FT} {xs : List Value} {t : FT} (h : RowS w base sv ps xs) (hS : base ≤ S) (hgS : ∀ g, sv.ownBlock = some g → g < S) (ht : SF w S t (.agg #[x, y, z])) (o : Obj)
    (ho : w'.ownsRow base 44 3 v' (ps.length + 1) (xs ++ [x, y, z])) (hg : (w.alloc o).grownBy w' sv.ownBlock) (hw : v'.ownBlock = sv.ownBlock ∨ v'.ownBlock = some (w.alloc o).heap.size) :
    RowS w' base v' (ps ++ [t]) (xs ++ [x, y, z]) := by
  have hxl : xs.length = 3 * ps.length := by have := h.1.1; omega
  have hsz : (w.alloc o).heap.size = w.heap.size + 1 := by simp
  have hkeep : ∀ k, k < w.heap.size → (∀ g, sv.ownBlock = some g → k ≠ g) → w'.heap[k]? = w.heap[k]? := fun k hk hne => by
    rw [hg.block k (by omega) (fun e => hne k e.symm rfl)]
    exact (below_new w o).block k hk
  refine ⟨by rw [List.length_append]; exact ho, fun e => by simp at e, fun j hj => ?_⟩
  by_cases hjl : j < ps.length
  · obtain ⟨S', E, h2, h3, h4, x1, y1, z1, e1, e2, e3, h5⟩ := h.2.2 j hjl
    refine ⟨S', E, h2, by have := hg.size; omega, fun g hg' => ?_, x1, y1, z1, ?_, ?_, ?_, ?_⟩
    · rcases hw with hw | hw
      · exact h4 g (hw ▸ hg')
      · rw [hw] at hg'; injection hg' with hg'; right; omega
    · show (xs ++ [x, y, z])[3 * j]? = _
      rw [List.getElem?_append_left (by omega)]; exact e1
    · show (xs ++ [x, y, z])[3 * j + 1]? = _
      rw [List.getElem?_append_left (by omega)]; exact e2
    · show (xs ++ [x, y, z])[3 * j + 2]? = _
      rw [List.getElem?_append_left (by omega)]; exact e3
    · rw [List.getElem_append_left hjl]
      exact h5.keep fun k hk1 hk2 => hkeep k (by omega) (fun g hg' e => by have := h4 g hg'; omega)
  · have hj' : j = ps.length := by rw [List.length_append, List.length_singleton] at hj; omega
    subst hj'
    refine ⟨S, w.heap.size, hS, by have := hg.size; omega, fun g hg' => ?_, x, y, z, ?_, ?_, ?_, ?_⟩
    · rcases hw with hw | hw
      · exact Or.inl (hgS g (hw ▸ hg'))
      · rw [hw] at hg'; injection hg' with hg'; right; omega
    · show (xs ++ [x, y, z])[3 * ps.length]? = _
      rw [List.getElem?_append_right (by omega), hxl, Nat.sub_self]; rfl
    · show (xs ++ [x, y, z])[3 * ps.length + 1]? = _
      rw [List.getElem?_append_right (by omega), hxl, show 3 * ps.length + 1 - 3 * ps.length = 1 by omega]; rfl
    · show (xs ++ [x, y, z])[3 * ps.length + 2]? = _
      rw [List.getElem?_append_right (by omega), hxl, show 3 * ps.length + 2 - 3 * ps.length = 2 by omega]; rfl
    · simp only [List.getElem_concat_length]
      exact ht.ranged.keep fun k hk1 hk2 => hkeep k hk2 (fun g hg' e => by have := hgS g hg'; omega)

theorem RowS.kids {w : World} {base B : Nat} {sv : Value} {ps : List FT} {xs : List Value} (h : RowS w base sv ps xs) (hB : B ≤ base) : KidsV w B sv ps := by
  obtain ⟨ho, hn, hc⟩ := h
  by_cases hp : ps = []
  · exact Or.inl ⟨hp, hn hp⟩
  rcases ho.2 with ⟨h1, h2⟩ | ⟨g, cap, cur, hv, hb, hh, hle, _, hcs, hct⟩
  · exact absurd (List.length_eq_zero_iff.1 h2) hp
  · refine Or.inr ⟨g, cap, cur, _, hp, hv, Nat.le_trans hB hb, hh, fun j hj => ?_⟩
    obtain ⟨S, E, h2, _, _, x, y, z, e1, e2, e3, h5⟩ := hc j hj
    have hat : ∀ i v, i < ps.length * 3 → xs[i]? = some v → cur[i]? = some v := fun i v hi e => by
      rw [← hct, List.getElem?_take, if_pos hi] at e
      simpa using e
    exact ⟨x, y, z, hat _ _ (by omega) e1, hat _ _ (by omega) e2, hat _ _ (by omega) e3, h5.sf.less (by omega)⟩
end Go.Proofs.YtfjohagdlaiapaaGreat

namespace Go.Proofs.YtfjohagdlaiapaaGreat
open Go.RowKit

set_option maxHeartbeats 1000000
set_option maxRecDepth 100000

def digI (c : UInt8) : Int := if (48 : Int) ≤ (c.toNat : Int) ∧ (c.toNat : Int) ≤ 51 then (c.toNat : Int) - 48 else -1

theorem s_digit (w : World) (c : UInt8) (n : Int) (hn : n = c.toNat) : Calls Tryz.prog 101 #[.int .u8 n] w fun e w' => e = .returned (.int .i64 (digI c)) ∧ ∃ m, w' = w.drewN m := by
  subst hn
  have hlt : (c.toNat : Int) < 256 := by have := c.toNat_lt; omega
  by_cases h1 : (c.toNat : Int) < 48
  · have hd : digI c = -1 := by unfold digI; rw [if_neg (by omega)]
    rw [hd]
    clear hd
    go_enter Tryz.func101, Tryz.ntmps101
    go_wp2_with fail
    go_ret
    exact ⟨rfl, 0, rfl⟩
  · by_cases h2 : (51 : Int) < (c.toNat : Int)
    · have hd : digI c = -1 := by unfold digI; rw [if_neg (by omega)]
      rw [hd]
      clear hd
      go_enter Tryz.func101, Tryz.ntmps101
      go_wp2_with fail
      go_ret
      exact ⟨rfl, 0, rfl⟩
    · have hd : digI c = (c.toNat : Int) - 48 := by unfold digI; rw [if_pos (by omega)]
      have hw2 : IntKind.i64.wrap ((c.toNat : Int) - 48) = (c.toNat : Int) - 48 := IntWalk.i64_in _ (by omega)
      rw [hd]
      clear hd
      go_enter Tryz.func101, Tryz.ntmps101
      go_wp2_with fail
      go_ret
      exact ⟨rfl, 0, rfl⟩

theorem digI_cases (c : UInt8) : digI c = -1 ∧ c ≠ 48 ∧ c ≠ 49 ∧ c ≠ 50 ∧ c ≠ 51 ∨ c = 48 ∨ c = 49 ∨ c = 50 ∨ c = 51 := by
  by_cases h0 : c = 48
  · exact Or.inr (Or.inl h0)
  by_cases h1 : c = 49
  · exact Or.inr (Or.inr (Or.inl h1))
  by_cases h2 : c = 50
  · exact Or.inr (Or.inr (Or.inr (Or.inl h2)))
  by_cases h3 : c = 51
  · exact Or.inr (Or.inr (Or.inr (Or.inr h3)))
  refine Or.inl ⟨?_, h0, h1, h2, h3⟩
  have hn : ∀ k : UInt8, c ≠ k → c.toNat ≠ k.toNat := fun k hk e => hk (UInt8.toNat_inj.1 e)
  have e0 := hn 48 h0
  have e1 := hn 49 h1
  have e2 := hn 50 h2
  have e3 := hn 51 h3
  unfold digI
  rw [if_neg]
  rintro ⟨g1, g2⟩
  have : c.toNat = 48 ∨ c.toNat = 49 ∨ c.toNat = 50 ∨ c.toNat = 51 := by omega
  rcases this with h | h | h | h
  · exact e0 h
  · exact e1 h
  · exact e2 h
  · exact e3 h

theorem digI_le (c : UInt8) : -1 ≤ digI c ∧ digI c ≤ 3 := by
  rcases digI_cases c with ⟨h, _⟩ | rfl | rfl | rfl | rfl
  · rw [h]; omega
  · decide
  · decide
  · decide
  · decide

/-- The words of two letters. -/
theorem word2 (c0 c1 : UInt8) : FT.word [c0, c1] = if c0 = 122 ∧ 0 ≤ digI c1 then some (.z (digI c1).toNat) else none := by
  by_cases h0 : c0 = 122
  · subst h0
    rcases digI_cases c1 with ⟨h, n0, n1, n2, n3⟩ | rfl | rfl | rfl | rfl
    · rw [if_neg (by rw [h]; omega)]
      simp [FT.word, n0, n1, n2, n3]
    all_goals rfl
  · rw [if_neg (by simp [h0])]
    simp [FT.word, h0]

theorem word2_z {c0 c1 : UInt8} (h0 : c0 = 122) (h1 : 0 ≤ digI c1) : FT.atomOf (.z (digI c1).toNat) = [c0, c1] ∧ (FT.arity (.z (digI c1).toNat) : Int) = digI c1 := by
  subst h0
  rcases digI_cases c1 with ⟨h, _⟩ | rfl | rfl | rfl | rfl
  · omega
  all_goals exact ⟨by decide +kernel, by decide +kernel⟩

/-- The words of three letters. -/
theorem word3 (c0 c1 c2 : UInt8) (hne : [c0, c1, c2] ≠ [105, 110, 99]) : FT.word [c0, c1, c2] = if c0 = 112 ∧ 0 ≤ digI c1 ∧ digI c1 < digI c2 then some (.p (digI c1).toNat (digI c2).toNat) else none := by
  by_cases h0 : c0 = 112
  · subst h0
    rcases digI_cases c1 with ⟨h, n0, n1, n2, n3⟩ | rfl | rfl | rfl | rfl
    · rw [if_neg (by rw [h]; omega)]
      simp [FT.word, n0, n1, n2, n3]
    all_goals
      rcases digI_cases c2 with ⟨h, m0, m1, m2, m3⟩ | rfl | rfl | rfl | rfl
      · rw [if_neg (by rw [h]; decide)]
        first | simp [FT.word, m1, m2, m3] | simp [FT.word, m2, m3] | simp [FT.word, m3] | simp [FT.word]
      all_goals rfl
  · rw [if_neg (by simp [h0])]
    have h1 : ¬ (c0 = 105 ∧ c1 = 110 ∧ c2 = 99) := fun h => hne (by rw [h.1, h.2.1, h.2.2])
    simp [FT.word, h0, h1]

theorem word3_p {c0 c1 c2 : UInt8} (h0 : c0 = 112) (h1 : 0 ≤ digI c1) (h2 : digI c1 < digI c2) : FT.atomOf (.p (digI c1).toNat (digI c2).toNat) = [c0, c1, c2] ∧ (FT.arity (.p (digI c1).toNat (digI c2).toNat) : Int) = digI c2 := by
  subst h0
  rcases digI_cases c1 with ⟨h, _⟩ | rfl | rfl | rfl | rfl
  · omega
  all_goals
    rcases digI_cases c2 with ⟨h, _⟩ | rfl | rfl | rfl | rfl
    · rw [h] at h2; exact absurd h2 (by decide)
    all_goals exact ⟨by decide +kernel, by decide +kernel⟩

theorem word_long (l : List UInt8) (h2 : l.length ≠ 2) (h3 : l.length ≠ 3) : FT.word l = none := by
  match l, h2, h3 with
  | [], _, _ => rfl
  | [_], _, _ => simp [FT.word]
  | _ :: _ :: _ :: _ :: _, _, _ => simp [FT.word]

def S3Word (w : World) (o : Option FT) (e : Ending) (w' : World) : Prop :=
  ∃ s ao n c a, e = .returned (.tuple #[.agg #[str s, .slice ao n c, .int .i64 a], .bool o.isSome]) ∧ After w w' ∧ ∀ t, o = some t → SF w' w.heap.size t (.agg #[str s, .slice ao n c, .int .i64 a])

theorem S3Word.no {w w' : World} {o : Option FT} (ho : o = none) (h : After w w') : S3Word w o (.returned (.tuple #[.agg #[.string ⟨#[]⟩, .slice none 0 0, .int .i64 0], .bool false])) w' :=
  ⟨[], none, 0, 0, 0, by rw [ho]; rfl, h, fun t ht => by rw [ho] at ht; cases ht⟩

/-- What stands in a result's box behind its store. -/
theorem After.set3 {w W : World} {o : Obj} (h : After (w.alloc o) W) (x y z : Value) : After w (((W.setCell ⟨w.heap.size, 0, none⟩ x).setCell ⟨w.heap.size, 1, none⟩ y).setCell ⟨w.heap.size, 2, none⟩ z) :=
  ((Below.setCell ((After.new w o).trans h) (Nat.le_refl _) x).setCell (Nat.le_refl _) y).setCell (p := ⟨w.heap.size, 2, none⟩) (Nat.le_refl _) z

theorem sw_2 (w : World) (c0 c1 : UInt8) : Calls Tryz.prog 74 #[str [c0, c1]] w (S3Word w (FT.word [c0, c1])) := by
  have hneq : ([c0, c1] == [105, 110, 99]) = false := by simp
  have hd := digI_le c1
  by_cases h0 : c0 = 122
  · have e0 : ((c0.toNat : Int) == 122) = true := by rw [h0]; rfl
    by_cases h1 : 0 ≤ digI c1
    · have H := Lib.hid (show FT.word [c0, c1] = some (.z (digI c1).toNat) by rw [word2, if_pos ⟨h0, h1⟩])
      have HZ := Lib.hid (word2_z h0 h1)
      have hb : ∀ h, digI (({ data := #[c0, c1] } : ByteArray)[1]'h) = digI c1 := fun _ => rfl
      have hb0 : ∀ h, ((({ data := #[c0, c1] } : ByteArray)[0]'h).toNat : Int) = 122 := fun _ => by rw [h0]; rfl
      clear h0 e0
      generalize digI c1 = d at *
      go_enter Tryz.func74, Tryz.ntmps74
      go_wp2_with (go_at_call 101; refine (s_digit _ _ _ rfl).mono ?_; rintro e w' ⟨rfl, _, rfl⟩)
      exact bodyPost_ret (v := .tuple #[.agg #[str [c0, c1], .slice none 0 0, .int .i64 d], .bool true]) (by simp [results, Tryz.results74, go_sem]) rfl
        ⟨[c0, c1], none, 0, 0, d, by rw [H.out]; rfl, After.set3 (below_drews (After.refl _) _) _ _ _, fun t ht => by
          rw [H.out] at ht
          obtain rfl := Option.some.inj ht
          show _ = _
          rw [HZ.out.1, HZ.out.2]⟩
    · have H := Lib.hid (show FT.word [c0, c1] = none by rw [word2, if_neg (fun h => h1 h.2)])
      have hb : ∀ h, digI (({ data := #[c0, c1] } : ByteArray)[1]'h) = digI c1 := fun _ => rfl
      have hb0 : ∀ h, ((({ data := #[c0, c1] } : ByteArray)[0]'h).toNat : Int) = 122 := fun _ => by rw [h0]; rfl
      clear h0 e0
      generalize digI c1 = d at *
      go_enter Tryz.func74, Tryz.ntmps74
      go_wp2_with (go_at_call 101; refine (s_digit _ _ _ rfl).mono ?_; rintro e w' ⟨rfl, _, rfl⟩)
      go_quiet (fail)
      go_wp2_with fail
      exact bodyPost_ret (v := .tuple #[.agg #[.string ⟨#[]⟩, .slice none 0 0, .int .i64 0], .bool false]) (by simp [results, Tryz.results74, go_sem]) rfl (S3Word.no H.out (After.set3 (by first | exact below_drews (After.refl _) _ | exact below_drews (below_drews (After.refl _) _) _ | exact After.refl _) _ _ _))
  · have H := Lib.hid (show FT.word [c0, c1] = none by rw [word2, if_neg (fun h => h0 h.1)])
    have hb0 : ∀ h, (((({ data := #[c0, c1] } : ByteArray)[0]'h).toNat : Int) == 122) = false := fun _ => by
      show ((c0.toNat : Int) == 122) = false
      rw [beq_eq_false_iff_ne]
      exact fun e => h0 (UInt8.toNat_inj.1 (by show c0.toNat = 122; omega))
    clear h0
    go_enter Tryz.func74, Tryz.ntmps74
    go_wp2_with fail
    go_quiet (fail)
    go_wp2_with fail
    exact bodyPost_ret (v := .tuple #[.agg #[.string ⟨#[]⟩, .slice none 0 0, .int .i64 0], .bool false]) (by simp [results, Tryz.results74, go_sem]) rfl (S3Word.no H.out (After.set3 (by first | exact below_drews (After.refl _) _ | exact below_drews (below_drews (After.refl _) _) _ | exact After.refl _) _ _ _))

theorem sw_inc (w : World) : Calls Tryz.prog 74 #[str [105, 110, 99]] w (S3Word w (some .inc)) := by
  go_enter Tryz.func74, Tryz.ntmps74
  go_wp2_with fail
  exact bodyPost_ret (v := .tuple #[.agg #[str [105, 110, 99], .slice none 0 0, .int .i64 1], .bool true]) (by simp [results, Tryz.results74, go_sem]) rfl
    ⟨[105, 110, 99], none, 0, 0, 1, rfl, After.new _ _, fun t ht => by obtain rfl := Option.some.inj ht; rfl⟩

theorem sw_3 (w : World) (c0 c1 c2 : UInt8) (hinc : [c0, c1, c2] ≠ [105, 110, 99]) : Calls Tryz.prog 74 #[str [c0, c1, c2]] w (S3Word w (FT.word [c0, c1, c2])) := by
  have hneq : ([c0, c1, c2] == [105, 110, 99]) = false := beq_eq_false_iff_ne.2 hinc
  have hd1 := digI_le c1
  have hd2 := digI_le c2
  have hb1 : ∀ h, digI (({ data := #[c0, c1, c2] } : ByteArray)[1]'h) = digI c1 := fun _ => rfl
  have hb2 : ∀ h, digI (({ data := #[c0, c1, c2] } : ByteArray)[2]'h) = digI c2 := fun _ => rfl
  by_cases h0 : c0 = 112
  · have hb0 : ∀ h, ((({ data := #[c0, c1, c2] } : ByteArray)[0]'h).toNat : Int) = 112 := fun _ => by rw [h0]; rfl
    by_cases h1 : 0 ≤ digI c1
    · by_cases h2 : digI c1 < digI c2
      · have H := Lib.hid (show FT.word [c0, c1, c2] = some (.p (digI c1).toNat (digI c2).toNat) by rw [word3 _ _ _ hinc, if_pos ⟨h0, h1, h2⟩])
        have HZ := Lib.hid (word3_p h0 h1 h2)
        clear h0 hinc
        generalize digI c1 = d1 at *
        generalize digI c2 = d2 at *
        go_enter Tryz.func74, Tryz.ntmps74
        go_wp2_with fail
        go_quiet ((go_at_call 101; exact Calls.quiet_of (s_digit _ _ _ rfl)))
        go_wp2_with (go_at_call 101; refine (s_digit _ _ _ rfl).mono ?_; rintro e w' ⟨rfl, _, rfl⟩)
        exact bodyPost_ret (v := .tuple #[.agg #[str [c0, c1, c2], .slice none 0 0, .int .i64 d2], .bool true]) (by simp [results, Tryz.results74, go_sem]) rfl
          ⟨[c0, c1, c2], none, 0, 0, d2, by rw [H.out]; rfl, After.set3 (below_drews (After.refl _) _) _ _ _, fun t ht => by
            rw [H.out] at ht
            obtain rfl := Option.some.inj ht
            show _ = _
            rw [HZ.out.1, HZ.out.2]⟩
      · have H := Lib.hid (show FT.word [c0, c1, c2] = none by rw [word3 _ _ _ hinc, if_neg (fun h => h2 h.2.2)])
        clear h0 hinc
        generalize digI c1 = d1 at *
        generalize digI c2 = d2 at *
        go_enter Tryz.func74, Tryz.ntmps74
        go_wp2_with fail
        go_quiet ((go_at_call 101; exact Calls.quiet_of (s_digit _ _ _ rfl)))
        go_wp2_with fail
        exact bodyPost_ret (v := .tuple #[.agg #[.string ⟨#[]⟩, .slice none 0 0, .int .i64 0], .bool false]) (by simp [results, Tryz.results74, go_sem]) rfl (S3Word.no H.out (After.set3 (by first | exact below_drews (After.refl _) _ | exact below_drews (below_drews (After.refl _) _) _ | exact After.refl _) _ _ _))
    · have H := Lib.hid (show FT.word [c0, c1, c2] = none by rw [word3 _ _ _ hinc, if_neg (fun h => h1 h.2.1)])
      have h1d : decide (0 ≤ digI c1) = false := decide_eq_false h1
      clear h0 hinc
      generalize digI c1 = d1 at *
      generalize digI c2 = d2 at *
      go_enter Tryz.func74, Tryz.ntmps74
      go_wp2_with fail
      go_quiet ((go_at_call 101; exact Calls.quiet_of (s_digit _ _ _ rfl)))
      go_wp2_with fail
      exact bodyPost_ret (v := .tuple #[.agg #[.string ⟨#[]⟩, .slice none 0 0, .int .i64 0], .bool false]) (by simp [results, Tryz.results74, go_sem]) rfl (S3Word.no H.out (After.set3 (by first | exact below_drews (After.refl _) _ | exact below_drews (below_drews (After.refl _) _) _ | exact After.refl _) _ _ _))
  · have H := Lib.hid (show FT.word [c0, c1, c2] = none by rw [word3 _ _ _ hinc, if_neg (fun h => h0 h.1)])
    have hb0 : ∀ h, (((({ data := #[c0, c1, c2] } : ByteArray)[0]'h).toNat : Int) == 112) = false := fun _ => by
      show ((c0.toNat : Int) == 112) = false
      rw [beq_eq_false_iff_ne]
      exact fun e => h0 (UInt8.toNat_inj.1 (by show c0.toNat = 112; omega))
    clear h0 hinc hb1 hb2
    go_enter Tryz.func74, Tryz.ntmps74
    go_wp2_with fail
    go_quiet (fail)
    go_wp2_with fail
    exact bodyPost_ret (v := .tuple #[.agg #[.string ⟨#[]⟩, .slice none 0 0, .int .i64 0], .bool false]) (by simp [results, Tryz.results74, go_sem]) rfl (S3Word.no H.out (After.set3 (by first | exact below_drews (After.refl _) _ | exact below_drews (below_drews (After.refl _) _) _ | exact After.refl _) _ _ _))

theorem sw_long (w : World) (l : List UInt8) (h2 : l.length ≠ 2) (h3 : l.length ≠ 3) (_hl : l.length ≤ 1000000000) : Calls Tryz.prog 74 #[str l] w (S3Word w (FT.word l)) := by
  have hsz : (⟨l.toArray⟩ : ByteArray).size = l.length := by show l.toArray.size = _; simp
  have hneq : (l == [105, 110, 99]) = false := beq_eq_false_iff_ne.2 (fun e => h3 (by rw [e]; rfl))
  have e2 : ((l.length : Int) == 2) = false := beq_eq_false_iff_ne.2 (by omega)
  have e3 : ((l.length : Int) == 3) = false := beq_eq_false_iff_ne.2 (by omega)
  have H := Lib.hid (word_long l h2 h3)
  clear h2 h3
  go_enter Tryz.func74, Tryz.ntmps74
  go_wp2_with fail
  go_quiet (fail)
  go_wp2_with fail
  exact bodyPost_ret (v := .tuple #[.agg #[.string ⟨#[]⟩, .slice none 0 0, .int .i64 0], .bool false]) (by simp [results, Tryz.results74, go_sem]) rfl (S3Word.no H.out (After.set3 (by first | exact below_drews (After.refl _) _ | exact below_drews (below_drews (After.refl _) _) _ | exact After.refl _) _ _ _))

theorem s_word (w : World) (l : List UInt8) (hl : l.length ≤ 1000000000) : Calls Tryz.prog 74 #[str l] w (S3Word w (FT.word l)) := by
  match l, hl with
  | [a, b], _ => exact sw_2 w a b
  | [a, b, c], _ =>
    by_cases h : [a, b, c] = [105, 110, 99]
    · rw [h]; exact sw_inc w
    · exact sw_3 w a b c h
  | [], hl => exact sw_long w [] (by simp) (by simp) hl
  | [a], hl => exact sw_long w [a] (by simp) (by simp) hl
  | a :: b :: c :: d :: r, hl => exact sw_long w _ (by simp) (by simp) hl
end Go.Proofs.YtfjohagdlaiapaaGreat

namespace Go.Proofs.YtfjohagdlaiapaaGreat
open Go.RowKit

set_option maxHeartbeats 2000000
set_option maxRecDepth 100000

def SkipF (w : World) (b : Nat) (l : List UInt8) (i n : Nat) (r : Bool) (e : Ending) (w' : World) : Prop :=
  e = .returned (.bool r) ∧ w.grownBy w' (some b) ∧ FRd w' b l (if r then i + 1 else i) n

theorem skipF (w : World) (b i n : Nat) (l : List UInt8) (m : Int) (c : UInt8) (hm : m = c.toNat) (h : FRd w b l i n) (hl : l.length ≤ 1000000000) (hi : i ≤ l.length) :
    Calls Tryz.prog 69 #[.pointer (some ⟨b, 0, none⟩), .int .u8 m] w (SkipF w b l i n (decide (l[i]? = some c))) := by
  refine (skip_on w b i l m c hm _ _ h rfl rfl hl hi).mono ?_
  rintro e w' ⟨h1, h2, h3⟩
  refine ⟨h1, h2, ?_⟩
  unfold FRd
  rw [h3]
  cases decide (l[i]? = some c) <;> rfl

theorem pread_facts (l : List UInt8) {d i k j k' : Nat} {t : FT} (hi : i ≤ l.length) (h : FT.pread l d i k = some (t, j, k')) : FT.ok t ∧ i + 1 ≤ j ∧ j ≤ l.length ∧ FT.size t + k' = k := by
  obtain ⟨h1, h2⟩ := FT.pread_m l d d i k t j k' (Nat.le_refl _) h
  obtain ⟨g1, g2, g3, _⟩ := FT.mread_facts l d i t j hi h1
  exact ⟨g1, g2, g3, h2⟩

def FReadPost (w : World) (b : Nat) (l : List UInt8) (o : Option (FT × Nat × Nat)) (e : Ending) (w' : World) : Prop :=
  ∃ v, e = .returned (.tuple #[v, .bool o.isSome]) ∧ w.grownBy w' (some b) ∧ ∀ t j k', o = some (t, j, k') → (∃ n', FRd w' b l j n' ∧ n' + k' = 40) ∧ CV w' w.heap.size t v

theorem FReadPost.no {w w' : World} {b : Nat} {l : List UInt8} {o : Option (FT × Nat × Nat)} (ho : o = none) (hg : w.grownBy w' (some b)) (v : Value) : FReadPost w b l o (.returned (.tuple #[v, .bool false])) w' :=
  ⟨v, by rw [ho]; rfl, hg, fun t j k' h => by rw [ho] at h; cases h⟩

theorem grown_after {w W : World} {b : Nat} (h : After w W) : w.grownBy W (some b) := ⟨h.os, h.tape, h.output, h.size, fun k hk _ => h.block k hk⟩

theorem grown_own {w a c : World} {b g : Nat} (h1 : w.grownBy a (some b)) (h2 : a.grownBy c (some g)) (hg : w.heap.size ≤ g) : w.grownBy c (some b) :=
  ⟨h2.os.trans h1.os, h2.tape.trans h1.tape, h2.output.trans h1.output, Nat.le_trans h1.size h2.size, fun k hk hne => by
    rw [h2.block k (Nat.lt_of_lt_of_le hk h1.size) (fun e => by injection e with e; omega)]
    exact h1.block k hk hne⟩

theorem fread_word (l : List UInt8) (hl : l.length ≤ 1000000000) (d k : Nat) (w : World) (b i n : Nat) (hi : i ≤ l.length) (h : FRd w b l i n) (hn : n + (k + 1) = 40) (h0 : ¬ l[i]? = some 40) :
    Calls Tryz.prog 41 #[.pointer (some ⟨b, 0, none⟩)] w (FReadPost w b l (FT.pread l (d + 1) i (k + 1))) := by
  have hfin : FT.pread l (d + 1) i (k + 1) = match FT.word (FT.sl l i (Tm.atomEnd l i)) with
      | none => none
      | some t => some (t, Tm.atomEnd l i, k) := by
    simp only [FT.pread, if_neg h0]
    cases FT.word (FT.sl l i (Tm.atomEnd l i)) <;> rfl
  have hlt := h.lt
  have c2 : w.cell? ⟨b, 2, none⟩ = some (.int .i64 (n : Nat)) := cell_of_heap h
  have f2 : w.frozen? ⟨b, 2, none⟩ = false := by unfold FRd at h; simp [World.frozen?, h]
  have hW1 : ∀ m : Int, m = (n : Int) + 1 → FRd (w.setCell ⟨b, 2, none⟩ (.int .i64 m)) b l i (n + 1) := fun m hm => by
    rw [hm, show (n : Int) + 1 = ((n + 1 : Nat) : Int) by omega]; exact h.set2 (n + 1)
  obtain ⟨W1, hWe⟩ : ∃ W1, W1 = w.setCell ⟨b, 2, none⟩ (.int .i64 ((n : Int) + 1)) := ⟨_, rfl⟩
  have h1 : FRd W1 b l i (n + 1) := by rw [hWe]; exact hW1 _ rfl
  have g1 : w.grownBy W1 (some b) := by rw [hWe]; exact grown_setx _ _ _ _
  have hd1 : W1.cell? ⟨b, 2, none⟩ = some (.int .i64 ((n : Int) + 1)) := by have := cell_of_heap (i := 2) h1; simpa using this
  have k1 := skipF W1 b i (n + 1) l 40 40 rfl h1 hl hi
  rw [show decide (l[i]? = some 40) = false by simp [h0]] at k1
  have hn1 : n ≤ 39 := by omega
  have hn40 : ¬ ((40 : Int) < (n : Int) + 1) := by omega
  have HF := Lib.hid hfin
  have HWE := Lib.hid hWe
  have HL := Lib.hid hlt
  have HN := Lib.hid hn
  rw [hWe] at hd1
  clear hfin h hW1 hWe h1 hn hlt
  go_enter Tryz.func41, Tryz.ntmps41
  go_wp2_with fail
  rw [← HWE.out]
  refine k1.mono ?_
  rintro e w2 ⟨rfl, g2, h2⟩
  have k2 := readWord_any w2 b i (n + 1) l h2 hl hi
  clear k1 c2 f2 hd1
  go_wp2_with fail
  refine k2.mono ?_
  rintro e w3 ⟨rfl, g3, h3⟩
  have h3l := h3.lt
  have gg := grown_trans g1 (grown_trans g2 g3)
  have k3 := wordF_any w3 w.heap.size (FT.sl l i (Tm.atomEnd l i)) gg.size
  have H3 := Lib.hid h3
  clear k2 h2 h3
  go_wp2_with fail
  refine k3.mono ?_
  rintro e w4 ⟨v4, rfl, a4, hv4⟩
  have HV := Lib.hid hv4
  clear hv4 k3
  go_wp2_with fail
  go_ret2
  refine ⟨v4, ?_, grown_trans gg (grown_after a4), fun t j k' ht => ?_⟩
  · rw [HF.out]
    cases FT.word (FT.sl l i (Tm.atomEnd l i)) <;> rfl
  · rw [HF.out] at ht
    cases hw : FT.word (FT.sl l i (Tm.atomEnd l i)) with
    | none => rw [hw] at ht; cases ht
    | some u =>
      rw [hw] at ht
      simp only [Option.some.injEq, Prod.mk.injEq] at ht
      obtain ⟨rfl, rfl, rfl⟩ := ht
      exact ⟨⟨n + 1, H3.out.after a4, by have := HN.out; omega⟩, HV.out u hw⟩

theorem fread_zero (l : List UInt8) (d : Nat) (w : World) (b i n : Nat) (h : FRd w b l i n) (hn : n = 40) :
    Calls Tryz.prog 41 #[.pointer (some ⟨b, 0, none⟩)] w (FReadPost w b l (FT.pread l d i 0)) := by
  subst hn
  have hfin : FT.pread l d i 0 = none := by cases d <;> simp [FT.pread]
  have c2 : w.cell? ⟨b, 2, none⟩ = some (.int .i64 40) := cell_of_heap h
  have f2 : w.frozen? ⟨b, 2, none⟩ = false := by unfold FRd at h; simp [World.frozen?, h]
  have d2 : (w.setCell ⟨b, 2, none⟩ (.int .i64 41)).cell? ⟨b, 2, none⟩ = some (.int .i64 41) := cell_of_heap (i := 2) (h.set2 41)
  have HF := Lib.hid hfin
  clear hfin h
  go_enter Tryz.func41, Tryz.ntmps41
  go_wp2_with fail
  go_ret2
  exact FReadPost.no HF.out (grown_setx _ _ _ _) _

/-- What holds ahead of each round of read's loop. -/
def FLoop (l : List UInt8) (d : Nat) (R : Option (List FT × Nat × Nat)) (w3 : World) (b K : Nat) (sv : Value) (wr : World) : Prop :=
  ∃ fuel m k' n' ps xs, FT.pparts (FT.pread l d) l fuel m k' ps = R ∧ m ≤ l.length ∧ l.length < fuel + m ∧ k' ≤ d ∧ n' + k' = 40 ∧ FRd wr b l m n' ∧ RowV wr w3.heap.size sv ps xs ∧ w3.grownBy wr (some b) ∧ (∀ f ∈ ps, FT.ok f) ∧ (ps.map FT.size).sum + k' = K

theorem ok_len : ∀ {ps : List FT}, (ps.map FT.size).sum ≤ 39 → ps.length ≤ 39 := by
  intro ps h
  have : ps.length ≤ (ps.map FT.size).sum := by
    clear h
    induction ps with
    | nil => simp
    | cons f ps ih => have := FT.size_pos f; simp only [List.length_cons, List.map_cons, List.sum_cons]; omega
  omega

set_option maxHeartbeats 4000000 in
theorem fread_any (l : List UInt8) (hl : l.length ≤ 1000000000) : ∀ (d k : Nat) (w : World) (b i n : Nat), k ≤ d → i ≤ l.length → FRd w b l i n → n + k = 40 →
    Calls Tryz.prog 41 #[.pointer (some ⟨b, 0, none⟩)] w (FReadPost w b l (FT.pread l d i k)) := by
  intro d
  induction d with
  | zero =>
    intro k w b i n hk hi h hn
    have e : k = 0 := by omega
    rw [e] at hn ⊢
    exact fread_zero l 0 w b i n h hn
  | succ d ih =>
    intro k w b i n hk hi h hn
    match k, hk, hn with
    | 0, _, hn => exact fread_zero l (d + 1) w b i n h (by omega)
    | k + 1, hk, hn =>
      by_cases h0 : l[i]? = some 40
      case neg => exact fread_word l hl d k w b i n hi h hn h0
      have hi1 : i + 1 ≤ l.length := (List.getElem?_eq_some_iff.1 h0).1
      obtain ⟨e1, he1⟩ : ∃ e1, e1 = Tm.atomEnd l (i + 1) := ⟨_, rfl⟩
      obtain ⟨lt, hlt⟩ : ∃ lt, lt = FT.sl l (i + 1) e1 := ⟨_, rfl⟩
      obtain ⟨R, hR⟩ : ∃ R, R = FT.pparts (FT.pread l d) l (l.length + 1) e1 k [] := ⟨_, rfl⟩
      have hel : e1 ≤ l.length := by rw [he1]; exact FT.atomEnd_le l (i + 1) hi1
      have hnone : R = none → FT.pread l (d + 1) i (k + 1) = none := fun e => by
        rw [hR, he1] at e
        simp only [FT.pread, if_pos h0, Nat.add_sub_cancel, e]
        rfl
      have hsome : ∀ ps j k', R = some (ps, j, k') → FT.pread l (d + 1) i (k + 1) = if l[j]? = some 41 then (match FT.comb lt ps with | none => none | some t => some (t, j + 1, k')) else none := fun ps j k' e => by
        rw [hR, he1] at e
        rw [hlt, he1]
        simp only [FT.pread, if_pos h0, Nat.add_sub_cancel, e]
        cases FT.comb (FT.sl l (i + 1) (Tm.atomEnd l (i + 1))) ps <;> rfl
      have hblt := h.lt
      have c2 : w.cell? ⟨b, 2, none⟩ = some (.int .i64 (n : Nat)) := cell_of_heap h
      have f2 : w.frozen? ⟨b, 2, none⟩ = false := by unfold FRd at h; simp [World.frozen?, h]
      obtain ⟨W1, hWe⟩ : ∃ W1, W1 = w.setCell ⟨b, 2, none⟩ (.int .i64 ((n : Int) + 1)) := ⟨_, rfl⟩
      have h1 : FRd W1 b l i (n + 1) := by rw [hWe, show (n : Int) + 1 = ((n + 1 : Nat) : Int) by omega]; exact h.set2 (n + 1)
      have g1 : w.grownBy W1 (some b) := by rw [hWe]; exact grown_setx _ _ _ _
      have hd1 : W1.cell? ⟨b, 2, none⟩ = some (.int .i64 ((n : Int) + 1)) := by have := cell_of_heap (i := 2) h1; simpa using this
      have k1 := skipF W1 b i (n + 1) l 40 40 rfl h1 hl hi
      rw [show decide (l[i]? = some 40) = true by simp [h0]] at k1
      have hn1 : n ≤ 39 := by omega
      have hn40 : ¬ ((40 : Int) < (n : Int) + 1) := by omega
      have HNO := Lib.hid hnone
      have HSO := Lib.hid hsome
      have HR := Lib.hid hR
      have HLT := Lib.hid hlt
      have HE1 := Lib.hid he1
      have HWE := Lib.hid hWe
      have HL := Lib.hid hblt
      have HN := Lib.hid hn
      have HIH := Lib.hid ih
      rw [hWe] at hd1
      clear hnone hsome hR hlt he1 hWe h h1 hn hblt ih h0
      go_enter Tryz.func41, Tryz.ntmps41
      go_wp2_with fail
      rw [← HWE.out]
      refine k1.mono ?_
      rintro e w2 ⟨rfl, g2, h2⟩
      have k2 := readWord_any w2 b (i + 1) (n + 1) l h2 hl hi1
      clear k1 c2 f2 hd1
      unfold WordPost at k2
      rw [← HE1.out, ← HLT.out] at k2
      go_wp2_with fail
      refine k2.mono ?_
      rintro e w3 ⟨rfl, g3, h3⟩
      have gg := grown_trans g1 (grown_trans g2 g3)
      have h3l := h3.lt
      have H3 := Lib.hid h3
      clear k2 h2 h3 g1 g2 g3
      go_wp2_with fail
      go_loopw [5, 6, 7] (fun sv _ _ wr => Hid (FLoop l d R w3 b k sv wr)) (fun _ _ _ wr => l.length - (intOf ((wr.cell? ⟨b, 1, none⟩).getD undef)).toNat)
      case atStart =>
        exact ⟨l.length + 1, e1, k, n + 1, [], [], HR.out.symm, hel, by omega, by omega, by have := HN.out; omega, H3.out, RowV.nil _ _, World.grownBy.refl _ _, by simp, by simp⟩
      case round =>
        obtain ⟨fuel, m, k', n', ps, xs, hP, hm, hfm, hkd, hnk, hF, hRow, hG, hok, hsum⟩ := hrel.out
        have k4 := skipF wr b m n' l 32 32 rfl hF hl hm
        obtain ⟨fu, rfl⟩ : ∃ fu, fuel = fu + 1 := ⟨fuel - 1, by omega⟩
        obtain ⟨ao, cap, rfl⟩ := o_slice_len hRow.1
        have hmeas : (intOf ((wr.cell? ⟨b, 1, none⟩).getD undef)).toNat = m := by
          have : wr.cell? ⟨b, 1, none⟩ = some (.int .i64 (m : Nat)) := cell_of_heap (i := 1) hF
          rw [this]; simp [intOf]
        by_cases h32 : l[m]? = some 32
        · rw [show decide (l[m]? = some 32) = true by simp [h32]] at k4
          have hm1 : m + 1 ≤ l.length := (List.getElem?_eq_some_iff.1 h32).1
          have HPd := Lib.hid hP
          have HRow := Lib.hid hRow
          have HG := Lib.hid hG
          have HOK := Lib.hid hok
          have HSUM := Lib.hid hsum
          have HNK := Lib.hid hnk
          have HM := Lib.hid hmeas
          have HFL := Lib.hid hF.lt
          have H32 := Lib.hid h32
          clear hP hRow hG hok hsum hnk hmeas hF h32 hrel
          go_wp2_with fail
          refine k4.mono ?_
          rintro e w4 ⟨rfl, g4, h4⟩
          have k5 := HIH.out k' w4 b (m + 1) n' hkd hm1 h4 HNK.out
          clear k4 h4
          cases hp : FT.pread l d (m + 1) k' with
          | none =>
            rw [hp] at k5
            have HF := Lib.hid (HNO.out (by rw [← HPd.out]; simp [FT.pparts, H32.out, hp]))
            go_wp2_with fail
            refine k5.mono ?_
            rintro e w5 ⟨v5, rfl, g5, hv5⟩
            clear hv5 k5
            go_wp2_with fail
            go_ret2
            exact FReadPost.no HF.out (grown_trans gg (grown_trans HG.out (grown_trans g4 g5))) _
          | some q =>
            obtain ⟨t, j, k''⟩ := q
            rw [hp] at k5
            obtain ⟨ht, hj1, hj2, hts⟩ := pread_facts l hm1 hp
            have HPn := Lib.hid (show FT.pparts (FT.pread l d) l fu j k'' (ps ++ [t]) = R by rw [← HPd.out]; simp [FT.pparts, H32.out, hp])
            clear hp
            go_wp2_with fail
            refine k5.mono ?_
            rintro e w5 ⟨v5, rfl, g5, hv5⟩
            obtain ⟨⟨n'', hF5, hn5⟩, hc5⟩ := hv5 t j k'' rfl
            obtain ⟨bv, Tv, xv, vfv, rfl, _⟩ := hc5.fields
            have hR5 := (HRow.out.grown g4 h3l).grown g5 h3l
            have hs34 : w3.heap.size ≤ w4.heap.size := Nat.le_trans HG.out.size g4.size
            have hs45 := g5.size
            have hgS : ∀ g, (Value.slice ao ps.length cap).ownBlock = some g → g < w4.heap.size := fun g hg => ((HRow.out.grown g4 h3l).1.lt g hg).2
            have hpl : ps.length ≤ 40 := by have := ok_len (ps := ps) (by have := HSUM.out; have := HN.out; omega); omega
            obtain ⟨i0, hi0, hz0, hz1, hz2⟩ : ∃ i, (Tryz.prog).info? 34 = some i ∧ i.zero = some (.pointer none) ∧ i.size = 1 ∧ i.bytes = 8 := ⟨_, rfl, rfl, rfl, rfl⟩
            have hun : Tryz.prog.underlying 114 = some (.slice 34) := by kernel_rfl
            have hown := World.ownsRow.alloc hR5.1 (.cells #[ptr bv] 34)
            have hnew : ∀ j u, [ptr bv][j]? = some u → (w5.alloc (.cells #[ptr bv] 34)).cell? ((⟨w5.heap.size, 0, none⟩ : Addr).add j) = some u := fun j u h => by
              match j with
              | 0 =>
                simp at h
                subst h
                rw [show ((⟨w5.heap.size, 0, none⟩ : Addr).add 0) = ⟨w5.heap.size, 0, none⟩ from rfl, cell_of_heap (heap_top w5 (.cells #[ptr bv] 34))]
                rfl
              | j + 1 => simp at h
            have hone : ∀ u ∈ [ptr bv], u.oneCell' = true := by simp [Value.oneCell']
            have hmax : ps.length + 1 ≤ maxLen := by unfold maxLen; omega
            have hm8 : (ps.length + 1) * 8 ≤ 140737488355328 := by omega
            have hsz : w3.heap.size ≤ (w5.alloc (.cells #[ptr bv] 34)).heap.size := by simp; omega
            have HF5 := Lib.hid hF5
            have HC5 := Lib.hid hc5
            have HR5 := Lib.hid hR5
            have HGS := Lib.hid hgS
            have HTS := Lib.hid hts
            have HN5 := Lib.hid hn5
            have HOT := Lib.hid ht
            clear hv5 hF5 hc5 hR5 hgS k5 hts hn5 ht
            go_wp2_with (at_builtin; refine wpList_append_at _ rfl _ _ 114 rfl w3.heap.size 34 i0 (.pointer none) 1 8 hun hi0 hz0 hz1 hz2 rfl (by decide) _ _ _ rfl hown ⟨w5.heap.size, 0, none⟩ 1 1 [ptr bv] rfl rfl hnew hone hmax hm8 hsz (by decide) ?_; intro v6 w6 ho6 hg6 hw6; obtain ⟨bo, bn, bc, rfl⟩ := o_slice ho6; have HO6 := Lib.hid ho6; have HG6 := Lib.hid hg6; have HW6 := Lib.hid hw6; clear ho6 hg6 hw6)
            go_roundw
            all_goals
              have hF6 : FRd w6 b l j n'' := by
                have h6 := HG6.out.block b (by have := HF5.out.lt; simp; omega) (fun e => by
                  have := (hown.lt b e.symm).1
                  omega)
                have h7 := (below_new w5 (.cells #[ptr bv] 34)).block b HF5.out.lt
                exact (h6.trans h7).trans HF5.out
            case measure =>
              have : w6.cell? ⟨b, 1, none⟩ = some (.int .i64 (j : Nat)) := cell_of_heap (i := 1) hF6
              simp only [this, HM.out]
              simp [intOf]
              omega
            case rel =>
              refine ⟨fu, j, k'', n'', ps ++ [t], _, HPn.out, hj2, by omega, by have := HTS.out; omega, HN5.out, hF6, HR5.out.push hs34 HGS.out HC5.out _ HO6.out HG6.out HW6.out, ?_, ?_, ?_⟩
              · have hlow : ∀ g, (Value.slice ao ps.length cap).ownBlock = some g → w3.heap.size ≤ g := fun g hg => (hown.lt g hg).1
                have h45 := grown_trans HG.out (grown_trans g4 g5)
                refine ⟨HG6.out.os.trans h45.os, HG6.out.tape.trans h45.tape, HG6.out.output.trans h45.output, by have := HG6.out.size; have := h45.size; simp at *; omega, fun q hq hne => ?_⟩
                have h45s := h45.size
                rw [HG6.out.block q (by simp; omega) (fun e => by have := hlow q e.symm; omega)]
                rw [(below_new w5 _).block q (by omega)]
                exact h45.block q hq hne
              · intro f hf
                rcases List.mem_append.1 hf with hf | hf
                · exact HOK.out f hf
                · simp at hf; subst hf; exact HOT.out
              · have := HSUM.out
                have := HTS.out
                simp only [List.map_append, List.sum_append, List.map_cons, List.map_nil, List.sum_cons, List.sum_nil]
                omega
        · have hfinR : R = some (ps, m, k') := by rw [← hP]; simp [FT.pparts, h32]
          have hS := HSO.out ps m k' hfinR
          rw [show decide (l[m]? = some 32) = false by simp [h32]] at k4
          have HRow := Lib.hid hRow
          have HG := Lib.hid hG
          have HOK := Lib.hid hok
          have HSUM := Lib.hid hsum
          have HNK := Lib.hid hnk
          clear hP hRow hG hok hsum hnk hmeas hF h32 hrel hfinR
          go_wp2_with fail
          refine k4.mono ?_
          rintro e w4 ⟨rfl, g4, h4⟩
          have k5 := skipF w4 b m n' l 41 41 rfl h4 hl hm
          clear k4 h4
          by_cases h41 : l[m]? = some 41
          · rw [show decide (l[m]? = some 41) = true by simp [h41]] at k5
            rw [if_pos h41] at hS
            have HS := Lib.hid hS
            clear h41 hS
            go_wp2_with fail
            refine k5.mono ?_
            rintro e w5 ⟨rfl, g5, h5⟩
            have hR5 := (HRow.out.grown g4 h3l).grown g5 h3l
            have g05 := grown_trans gg (grown_trans HG.out (grown_trans g4 g5))
            have k6 := combination_any w5 w.heap.size lt _ ps (hR5.parts gg.size) g05.size (by have := ok_len (ps := ps) (by have := HSUM.out; have := HN.out; omega); omega) HOK.out (by have := HSUM.out; have := HN.out; omega)
            have H5 := Lib.hid h5
            clear k5 h5 hR5
            go_wp2_with fail
            refine k6.mono ?_
            rintro e w6 ⟨v6, rfl, a6, hv6⟩
            have HV := Lib.hid hv6
            clear hv6 k6
            go_wp2_with fail
            go_ret2
            refine ⟨v6, ?_, grown_trans g05 (grown_after a6), fun t j k'' ht => ?_⟩
            · rw [HS.out]
              cases FT.comb lt ps <;> rfl
            · rw [HS.out] at ht
              cases hw : FT.comb lt ps with
              | none => rw [hw] at ht; cases ht
              | some u =>
                rw [hw] at ht
                simp only [Option.some.injEq, Prod.mk.injEq] at ht
                obtain ⟨rfl, rfl, rfl⟩ := ht
                exact ⟨⟨n', H5.out.after a6, HNK.out⟩, HV.out u hw⟩
          · rw [show decide (l[m]? = some 41) = false by simp [h41]] at k5
            rw [if_neg h41] at hS
            have HS := Lib.hid hS
            clear h41 hS
            go_wp2_with fail
            refine k5.mono ?_
            rintro e w5 ⟨rfl, g5, h5⟩
            clear h5 k5
            go_wp2_with fail
            go_ret2
            exact FReadPost.no HS.out (grown_trans gg (grown_trans HG.out (grown_trans g4 g5))) _
end Go.Proofs.YtfjohagdlaiapaaGreat

namespace Go.Proofs.YtfjohagdlaiapaaGreat
open Go.RowKit

set_option maxHeartbeats 2000000
set_option maxRecDepth 100000

theorem after_own2 {w w' : World} {o : Obj} (h : (w.alloc o).grownBy w' (some w.heap.size)) : After w w' :=
  ⟨h.os, h.tape, h.output, by have := h.size; simp at this; omega, fun k hk => by
    rw [h.block k (by simp; omega) (fun e => by injection e with e; omega)]
    exact (below_new w o).block k hk⟩

theorem readFunction_any (w : World) (l : List UInt8) (hl : l.length ≤ 1000000000) :
    Calls Tryz.prog 21 #[str l] w (WFPost w w.heap.size (FT.parse l)) := by
  obtain ⟨W1, hW1⟩ : ∃ W1, W1 = w.alloc (.cells #[str l, .int .i64 0, .int .i64 0] 76 (0, 0)) := ⟨_, rfl⟩
  have h1 : FRd W1 w.heap.size l 0 0 := by rw [hW1]; exact heap_top _ _
  have hg : ∀ w', W1.grownBy w' (some w.heap.size) → After w w' := fun w' h => by rw [hW1] at h; exact after_own2 h
  have hs1 : W1.heap.size = w.heap.size + 1 := by rw [hW1]; simp
  have k1 := fread_any l hl 40 40 W1 w.heap.size 0 0 (Nat.le_refl _) (Nat.zero_le _) h1 rfl
  have HW1 := Lib.hid hW1
  have HG := Lib.hid hg
  have HS := Lib.hid hs1
  clear hW1 h1 hg hs1
  cases hp : FT.pread l 40 0 40 with
  | none =>
    have H := Lib.hid (show FT.parse l = none by simp [FT.parse, hp])
    rw [hp] at k1
    clear hp
    go_enter Tryz.func21, Tryz.ntmps21
    go_wp2_with fail
    rw [← HW1.out]
    refine k1.mono ?_
    rintro e w2 ⟨v2, rfl, g2, hv2⟩
    clear hv2 k1
    go_wp2_with fail
    go_ret2
    rw [H.out]
    exact wf_no (HG.out _ g2) _
  | some q =>
    obtain ⟨t, j, k'⟩ := q
    obtain ⟨_, _, hj, _⟩ := pread_facts l (Nat.zero_le _) hp
    by_cases hje : j = l.length
    · have H := Lib.hid (show FT.parse l = some t by simp [FT.parse, hp, hje])
      rw [hp] at k1
      have hd : decide (j = l.length) = true := by simp [hje]
      clear hp
      go_enter Tryz.func21, Tryz.ntmps21
      go_wp2_with fail
      rw [← HW1.out]
      refine k1.mono ?_
      rintro e w2 ⟨v2, rfl, g2, hv2⟩
      obtain ⟨⟨n', hF, _⟩, hc⟩ := hv2 t j k' rfl
      have k2 := ended_any w2 w.heap.size j l (cell_of_heap (i := 0) hF) (cell_of_heap (i := 1) hF) hl
      rw [hd] at k2
      have HC := Lib.hid hc
      clear hv2 k1 hF hc hd
      go_wp2_with (go_at_call 42; refine k2.mono ?_; rintro e w3 ⟨rfl, q3, rfl⟩)
      go_ret2
      rw [H.out]
      refine ⟨_, rfl, below_drews (HG.out _ g2) _, fun u hu => ?_⟩
      obtain rfl := Option.some.inj hu
      exact (HC.out.less (by have := HS.out; omega)).after (below_drews (After.refl w2) _)
    · have H := Lib.hid (show FT.parse l = none by simp [FT.parse, hp, hje])
      rw [hp] at k1
      have hd : decide (j = l.length) = false := by simp [hje]
      clear hp hje
      go_enter Tryz.func21, Tryz.ntmps21
      go_wp2_with fail
      rw [← HW1.out]
      refine k1.mono ?_
      rintro e w2 ⟨v2, rfl, g2, hv2⟩
      obtain ⟨⟨n', hF, _⟩, hc⟩ := hv2 t j k' rfl
      have k2 := ended_any w2 w.heap.size j l (cell_of_heap (i := 0) hF) (cell_of_heap (i := 1) hF) hl
      rw [hd] at k2
      clear hv2 k1 hF hd hc
      go_wp2_with (go_at_call 42; refine k2.mono ?_; rintro e w3 ⟨rfl, q3, rfl⟩)
      go_ret2
      rw [H.out]
      exact wf_no (below_drews (HG.out _ g2) _) _

def IntPost (w : World) (n : Int) (e : Ending) (w' : World) : Prop := e = .returned (.int .i64 n) ∧ After w w'
def pArity (l : List UInt8) : Int := match FT.parse l with | some t => (FT.arity t : Nat) | none => -1
def pSizeF (l : List UInt8) : Int := match FT.parse l with | some t => (FT.size t : Nat) | none => -1
def pTotal (l : List UInt8) : Bool := match FT.parse l with | some t => FT.total t | none => false

theorem impl_arity (w : World) (l : List UInt8) (hl : l.length ≤ 1000000000) : Calls Tryz.prog 9 #[str l] w (IntPost w (pArity l)) := by
  have k1 := readFunction_any w l hl
  cases hp : FT.parse l with
  | none =>
    have H := Lib.hid (show pArity l = -1 by simp [pArity, hp])
    rw [hp] at k1
    clear hp
    go_enter Tryz.func9, Tryz.ntmps9
    go_wp2_with fail
    refine k1.mono ?_
    rintro e w2 ⟨v2, rfl, a2, hv2⟩
    clear hv2 k1
    go_wp2_with fail
    go_ret
    exact ⟨by rw [H.out]; rfl, a2⟩
  | some t =>
    have H := Lib.hid (show pArity l = (FT.arity t : Nat) by simp [pArity, hp])
    rw [hp] at k1
    clear hp
    go_enter Tryz.func9, Tryz.ntmps9
    go_wp2_with fail
    refine k1.mono ?_
    rintro e w2 ⟨v2, rfl, a2, hv2⟩
    obtain ⟨b, T, x, vf, rfl, _, hh, _, _⟩ := (hv2 t rfl).fields
    have c0 : w2.cell? ⟨b, 0, none⟩ = some (.int .i64 (FT.arity t : Nat)) := cell_of_heap (i := 0) hh
    clear hv2 k1 hh
    go_wp2_with fail
    go_ret
    exact ⟨by rw [H.out]; rfl, a2⟩

theorem impl_total (w : World) (l : List UInt8) (hl : l.length ≤ 1000000000) : Calls Tryz.prog 7 #[str l] w (BitPost w (pTotal l)) := by
  have k1 := readFunction_any w l hl
  cases hp : FT.parse l with
  | none =>
    have H := Lib.hid (show pTotal l = false by simp [pTotal, hp])
    rw [hp] at k1
    clear hp
    go_enter Tryz.func7, Tryz.ntmps7
    go_wp2_with fail
    refine k1.mono ?_
    rintro e w2 ⟨v2, rfl, a2, hv2⟩
    clear hv2 k1
    go_wp2_with fail
    go_ret
    exact ⟨by rw [H.out]; rfl, a2⟩
  | some t =>
    have H := Lib.hid (show pTotal l = FT.total t by simp [pTotal, hp])
    rw [hp] at k1
    clear hp
    go_enter Tryz.func7, Tryz.ntmps7
    go_wp2_with fail
    refine k1.mono ?_
    rintro e w2 ⟨v2, rfl, a2, hv2⟩
    obtain ⟨b, T, x, vf, rfl, _, hh, _, _⟩ := (hv2 t rfl).fields
    have c2 : w2.cell? ⟨b, 2, none⟩ = some (.bool (FT.total t)) := cell_of_heap (i := 2) hh
    clear hv2 k1 hh
    go_wp2_with fail
    go_ret
    exact ⟨by rw [H.out]; rfl, a2⟩
end Go.Proofs.YtfjohagdlaiapaaGreat

namespace Go.Proofs.YtfjohagdlaiapaaGreat
open Go.RowKit

set_option maxHeartbeats 1000000
set_option maxRecDepth 100000

theorem KidsV.at {w : World} {B : Nat} {sv : Value} {ps : List FT} (h : KidsV w B sv ps) (j : Nat) (hj : j < ps.length) : ∃ b cap ao n c, sv = .slice (some ⟨b, 0, none⟩) ps.length cap ∧ w.cell? ⟨b, j * 3, none⟩ = some (str (FT.atomOf ps[j])) ∧
    w.cell? ⟨b, j * 3 + 1, none⟩ = some (.slice ao n c) ∧ w.cell? ⟨b, j * 3 + 2, none⟩ = some (.int .i64 (FT.arity ps[j] : Nat)) ∧ SF w B ps[j] (.agg #[str (FT.atomOf ps[j]), .slice ao n c, .int .i64 (FT.arity ps[j] : Nat)]) ∧ B ≤ b := by
  rcases h with ⟨rfl, _⟩ | ⟨b, cap, cs, fr, _, hv, hb, hh, hc⟩
  · simp at hj
  · obtain ⟨x, y, z, e1, e2, e3, h5⟩ := hc j hj
    obtain ⟨ao, n, c, hf⟩ := h5.form
    injection hf with hf
    injection hf with hf
    injection hf with f1 hf
    injection hf with f2 hf
    injection hf with f3 hf
    subst f1
    subst f2
    subst f3
    exact ⟨b, cap, ao, n, c, hv, by rw [cell_of_heap hh, Nat.mul_comm]; exact e1, by rw [cell_of_heap hh, Nat.mul_comm]; exact e2, by rw [cell_of_heap hh, Nat.mul_comm]; exact e3, h5, hb⟩

theorem KidsV.form {w : World} {B : Nat} {sv : Value} {ps : List FT} (h : KidsV w B sv ps) : ∃ ao cap, sv = .slice ao ps.length cap := by
  rcases h with ⟨rfl, rfl⟩ | ⟨b, cap, cs, fr, _, rfl, _⟩
  · exact ⟨_, _, rfl⟩
  · exact ⟨_, _, rfl⟩

theorem sar_m (w : World) (B : Nat) (sv : Value) (ps : List FT) (a : Int) (h : KidsV w B sv ps) (ho : ∀ f ∈ ps, FT.arity f ≤ 3) (hn : ps.length ≤ 1000) :
    Calls Tryz.prog 75 #[.agg #[str [109], sv, .int .i64 a]] w (IntPost w (if searOk ps then (FT.arity (ps.headD .inc) : Int) - 1 else -1)) := by
  obtain ⟨ao, cap, rfl⟩ := h.form
  by_cases h1 : ps.length = 1
  · obtain ⟨f, rfl⟩ : ∃ f, ps = [f] := by
      match ps, h1 with
      | [f], _ => exact ⟨_, rfl⟩
    obtain ⟨b, cap', ao0, n0, c0', hsv, _, _, hc2, _⟩ := h.at 0 (by simp)
    injection hsv with e1 e2 e3
    subst e1
    subst e3
    have ha := ho f (by simp)
    have c2 : ∀ W, After w W → W.cell? ⟨b, 2, none⟩ = some (.int .i64 (FT.arity f : Nat)) := fun W hW => cell_later' hc2 W hW
    have hW1 := After.new w (.cells #[str [109], .slice (some ⟨b, 0, none⟩) 1 cap, .int .i64 a] 44)
    have hself := After.refl w
    simp only [List.length_cons, List.length_nil, Nat.zero_add, List.headD_cons]
    by_cases h0 : 0 < FT.arity f
    · rw [show searOk [f] = true by simp [searOk, h0]]
      simp only [if_true]
      have h0' : (1 : Int) ≤ (FT.arity f : Int) := by omega
      clear h hc2 ho
      generalize FT.arity f = m at *
      go_enter Tryz.func75, Tryz.ntmps75
      go_wp2_with fail
      go_quiet (fail)
      go_wp2_with fail
      go_ret
      exact ⟨rfl, below_drews (After.new _ _) _⟩
    · rw [show searOk [f] = false by simp [searOk, h0]]
      simp only [Bool.false_eq_true, if_false]
      have h0' : decide ((1 : Int) ≤ (FT.arity f : Int)) = false := decide_eq_false (by omega)
      clear h hc2 ho h0
      generalize FT.arity f = m at *
      go_enter Tryz.func75, Tryz.ntmps75
      go_wp2_with fail
      go_quiet (fail)
      go_wp2_with fail
      go_ret
      exact ⟨rfl, below_drews (After.new _ _) _⟩
  · rw [show searOk ps = false from ?_]
    · simp only [Bool.false_eq_true, if_false]
      have h1' : ((ps.length : Int) == 1) = false := beq_eq_false_iff_ne.2 (by omega)
      clear h ho h1
      generalize ps.length = n at *
      go_enter Tryz.func75, Tryz.ntmps75
      go_wp2_with fail
      go_quiet (fail)
      go_wp2_with fail
      go_ret
      exact ⟨rfl, below_drews (After.new _ _) _⟩
    · match ps, h1 with
      | [], _ => rfl
      | [_], h1 => simp at h1
      | _ :: _ :: _, _ => rfl

theorem sar_r (w : World) (B : Nat) (sv : Value) (ps : List FT) (a : Int) (h : KidsV w B sv ps) (ho : ∀ f ∈ ps, FT.arity f ≤ 3) (hn : ps.length ≤ 1000) :
    Calls Tryz.prog 75 #[.agg #[str [114], sv, .int .i64 a]] w (IntPost w (if recOk ps then (FT.arity (ps.headD .inc) : Int) + 1 else -1)) := by
  obtain ⟨ao, cap, rfl⟩ := h.form
  by_cases h1 : ps.length = 2
  · obtain ⟨f, g, rfl⟩ : ∃ f g, ps = [f, g] := by
      match ps, h1 with
      | [f, g], _ => exact ⟨_, _, rfl⟩
    obtain ⟨b, cap', ao0, n0, c0', hsv, _, _, hc2, _⟩ := h.at 0 (by simp)
    injection hsv with e1 e2 e3
    subst e1
    subst e3
    obtain ⟨b', cap'', ao1, n1, c1', hsv, _, _, hc5, _⟩ := h.at 1 (by simp)
    injection hsv with e1 e2 e3
    injection e1 with e1
    injection e1 with e1 e4
    subst e1
    subst e3
    have ha := ho f (by simp)
    have hb := ho g (by simp)
    have c2 : ∀ W, After w W → W.cell? ⟨b, 2, none⟩ = some (.int .i64 (FT.arity f : Nat)) := fun W hW => cell_later' hc2 W hW
    have c5 : ∀ W, After w W → W.cell? ⟨b, 5, none⟩ = some (.int .i64 (FT.arity g : Nat)) := fun W hW => cell_later' hc5 W hW
    have hW1 := After.new w (.cells #[str [114], .slice (some ⟨b, 0, none⟩) 2 cap, .int .i64 a] 44)
    have d2 := c2 _ hW1
    have d5 := c5 _ hW1
    simp only [List.length_cons, List.length_nil, Nat.zero_add, List.headD_cons, Nat.reduceAdd]
    by_cases h0 : FT.arity f ≤ 2
    · have h0' : decide ((FT.arity f : Int) ≤ 2) = true := decide_eq_true (by omega)
      by_cases h2 : FT.arity g = FT.arity f + 2
      · rw [show recOk [f, g] = true by simp [recOk, h2]]
        simp only [if_true]
        have h2' : ((FT.arity g : Int) == (FT.arity f : Int) + 2) = true := beq_iff_eq.2 (by omega)
        clear h hc2 hc5 ho h2
        generalize FT.arity f = m at *
        generalize FT.arity g = k at *
        go_enter Tryz.func75, Tryz.ntmps75
        go_wp2_with fail
        go_quiet (fail)
        go_wp2_with fail
        go_ret
        exact ⟨rfl, below_drews (After.new _ _) _⟩
      · rw [show recOk [f, g] = false by simp [recOk, h2]]
        simp only [Bool.false_eq_true, if_false]
        have h2' : ((FT.arity g : Int) == (FT.arity f : Int) + 2) = false := beq_eq_false_iff_ne.2 (by omega)
        clear h hc2 hc5 ho h2
        generalize FT.arity f = m at *
        generalize FT.arity g = k at *
        go_enter Tryz.func75, Tryz.ntmps75
        go_wp2_with fail
        go_quiet (fail)
        go_wp2_with fail
        go_ret
        exact ⟨rfl, below_drews (After.new _ _) _⟩
    · have h0' : decide ((FT.arity f : Int) ≤ 2) = false := decide_eq_false (by omega)
      rw [show recOk [f, g] = false by simp [recOk]; omega]
      simp only [Bool.false_eq_true, if_false]
      clear h hc2 hc5 ho h0
      generalize FT.arity f = m at *
      generalize FT.arity g = k at *
      go_enter Tryz.func75, Tryz.ntmps75
      go_wp2_with fail
      go_quiet (fail)
      go_wp2_with fail
      go_ret
      exact ⟨rfl, below_drews (After.new _ _) _⟩
  · rw [show recOk ps = false from ?_]
    · simp only [Bool.false_eq_true, if_false]
      have h1' : ((ps.length : Int) == 2) = false := beq_eq_false_iff_ne.2 (by omega)
      clear h ho h1
      generalize ps.length = n at *
      go_enter Tryz.func75, Tryz.ntmps75
      go_wp2_with fail
      go_quiet (fail)
      go_wp2_with fail
      go_ret
      exact ⟨rfl, below_drews (After.new _ _) _⟩
    · match ps, h1 with
      | [], _ => rfl
      | [_], _ => rfl
      | [_, _], h1 => simp at h1
      | _ :: _ :: _ :: _, _ => rfl

theorem sar_o (w : World) (B : Nat) (sv : Value) (ps : List FT) (a : Int) (l : List UInt8) (h : KidsV w B sv ps) (n1 : (l == [99]) = false) (n2 : (l == [114]) = false) (n3 : (l == [109]) = false) :
    Calls Tryz.prog 75 #[.agg #[str l, sv, .int .i64 a]] w (IntPost w (-1)) := by
  obtain ⟨ao, cap, rfl⟩ := h.form
  clear h
  generalize ps.length = n at *
  go_enter Tryz.func75, Tryz.ntmps75
  go_wp2_with fail
  go_quiet (fail)
  go_wp2_with fail
  go_ret
  exact ⟨rfl, below_drews (After.new _ _) _⟩

theorem sar_c (w : World) (B : Nat) (sv : Value) (ps : List FT) (a : Int) (h : KidsV w B sv ps) (ho : ∀ f ∈ ps, FT.arity f ≤ 3) (hn : ps.length ≤ 1000) :
    Calls Tryz.prog 75 #[.agg #[str [99], sv, .int .i64 a]] w (IntPost w (if compOk ps then (FT.arity (ps.getD 1 .inc) : Int) else -1)) := by
  obtain ⟨ao, cap, rfl⟩ := h.form
  by_cases h2 : ps.length < 2
  · rw [show compOk ps = false from ?_]
    · simp only [Bool.false_eq_true, if_false]
      have h2' : decide ((2 : Int) ≤ (ps.length : Int)) = false := decide_eq_false (by omega)
      clear h ho h2
      generalize ps.length = n at *
      go_enter Tryz.func75, Tryz.ntmps75
      go_wp2_with fail
      go_quiet (fail)
      go_wp2_with fail
      go_ret
      exact ⟨rfl, below_drews (After.new _ _) _⟩
    · match ps, h2 with
      | [], _ => rfl
      | [_], _ => rfl
  · obtain ⟨f, g, gs, rfl⟩ : ∃ f g gs, ps = f :: g :: gs := by
      match ps, h2 with
      | f :: g :: gs, _ => exact ⟨_, _, _, rfl⟩
      | [], h => simp at h
      | [_], h => simp at h
    obtain ⟨b, cap', ao0, n0, c0', hsv, _, _, hc2, _⟩ := h.at 0 (by simp)
    injection hsv with e1 e2 e3
    subst e1
    subst e3
    obtain ⟨b', cap'', ao1, n1, c1', hsv, _, _, hc5, _⟩ := h.at 1 (by simp)
    injection hsv with e1 e2 e3
    injection e1 with e1
    injection e1 with e1 e4
    subst e1
    subst e3
    have ha := ho f (by simp)
    have hb := ho g (by simp)
    obtain ⟨n, hnn⟩ : ∃ n, n = gs.length := ⟨_, rfl⟩
    have hl : (f :: g :: gs).length = n + 2 := by simp [hnn]
    have HP := Lib.hid h
    obtain ⟨R, hR⟩ : ∃ R : Int, R = if compOk (f :: g :: gs) then (FT.arity ((f :: g :: gs).getD 1 .inc) : Int) else -1 := ⟨_, rfl⟩
    rw [← hR]
    have HR := Lib.hid hR
    clear hR
    rw [hl] at HP ⊢
    obtain ⟨W1, hW1⟩ : ∃ W1, W1 = w.alloc (.cells #[str [99], .slice (some ⟨b, 0, none⟩) (n + 2) cap, .int .i64 a] 44 (0, 0)) := ⟨_, rfl⟩
    have aW1 : After w W1 := by rw [hW1]; exact After.new _ _
    have d2 : W1.cell? ⟨b, 2, none⟩ = some (.int .i64 (FT.arity f : Nat)) := cell_later' hc2 W1 aW1
    have d5 : ∀ W, After W1 W → W.cell? ⟨b, 5, none⟩ = some (.int .i64 (FT.arity g : Nat)) := fun W hW => cell_later' hc5 W (aW1.trans hW)
    have hh := heap_top w (.cells #[str [99], .slice (some ⟨b, 0, none⟩) (n + 2) cap, .int .i64 a] 44 (0, 0))
    rw [← hW1] at hh
    have b0 : W1.cell? ⟨w.heap.size, 0, none⟩ = some (str [99]) := cell_of_heap (i := 0) hh
    have b1 : W1.cell? ⟨w.heap.size, 1, none⟩ = some (.slice (some ⟨b, 0, none⟩) (n + 2) cap) := cell_of_heap (i := 1) hh
    have HW1 := Lib.hid hW1
    have hn1 : n ≤ 1000 := by omega
    have hl2 : decide ((2 : Int) ≤ (n : Int) + 2) = true := decide_eq_true (by omega)
    by_cases hfa : FT.arity f = n + 1
    · have hx : ((FT.arity f : Int) == (n : Int) + 2 - 1) = true := beq_iff_eq.2 (by omega)
      have hcOk := Lib.hid (compOk_cons f g gs (by omega))
      have HN := Lib.hid hnn
      have hn2 : n ≤ 2 := by omega
      have hself := After.refl W1
      rw [hW1] at d2 d5 b0 b1 aW1 hself
      clear h hc2 hc5 hnn hl h2 hW1 hh hfa HW1
      go_enter Tryz.func75, Tryz.ntmps75
      go_wp2_with fail
      have HL := Lib.hid (show (g :: gs).length = n + 1 by rw [List.length_cons, HN.out])
      go_loopw [5] (fun i wr => ∃ k : Nat, i = .int .i64 k ∧ 2 ≤ k ∧ k ≤ n + 2 ∧ Hid (∀ j (hj : j < (g :: gs).length), j + 1 < k → FT.arity ((g :: gs)[j]) = FT.arity g) ∧ After (w.alloc (.cells #[str [99], .slice (some ⟨b, 0, none⟩) (n + 2) cap, .int .i64 a] 44 (0, 0))) wr) (fun i _ => n + 2 - (intOf i).toNat)
      case atStart => exact ⟨2, rfl, by omega, by omega, fun j hj h => by
        obtain rfl : j = 0 := by omega
        rfl, hself⟩
      case round =>
        obtain ⟨k, rfl, hk2, hk, HE, hr⟩ := hrel
        clear d2 hx b0 b1
        have d5r := d5 _ hr
        by_cases hlt : k < n + 2
        · obtain ⟨k', hk'⟩ : ∃ k', k' + 1 = k := ⟨k - 1, by omega⟩
          have hgl : k' < (g :: gs).length := by rw [HL.out]; omega
          have hkl : k < (f :: g :: gs).length := by rw [List.length_cons, HL.out]; omega
          obtain ⟨b', cap', ao1, n1, c1', hsv, _, _, hck, _⟩ := (HP.out.after (aW1.trans hr)).at k hkl
          injection hsv with e1 e2 e3
          injection e1 with e1
          injection e1 with e1 e4
          subst e1
          clear e2 e3
          rw [show (f :: g :: gs)[k] = (g :: gs)[k'] by subst hk'; rfl] at hck
          have hgz : FT.arity ((g :: gs)[k']) ≤ 3 := ho _ (by simp only [List.mem_cons]; exact Or.inr (List.mem_cons.1 (List.getElem_mem hgl)))
          have hkn : (k : Int) < (n : Int) + 2 := by omega
          have HQ := Lib.hid hk'
          clear hk'
          by_cases hak : FT.arity ((g :: gs)[k']) = FT.arity g
          · have hne : ((FT.arity ((g :: gs)[k']) : Int) != (FT.arity g : Int)) = false := by simp [hak]
            have HX := Lib.hid (show ∀ j (hj : j < (g :: gs).length), j + 1 < k + 1 → FT.arity ((g :: gs)[j]) = FT.arity g from fun j hj h => by
              by_cases hjk : j = k'
              · subst hjk; exact hak
              · exact HE.out j hj (by have := HQ.out; omega))
            clear hak ho HE hgz
            generalize FT.arity ((g :: gs)[k']) = mk at *
            go_wp2_with fail
            go_quiet (fail)
            go_wp2_with fail
            go_roundw
            case rel => exact ⟨k + 1, by go_num, by omega, by omega, HX, below_drews hr _⟩
            case measure => simp [intOf]; omega
          · have hne : ((FT.arity ((g :: gs)[k']) : Int) != (FT.arity g : Int)) = true := by simp; omega
            have hfin := Lib.hid (show R = -1 by
              rw [HR.out, hcOk.out, if_neg]
              rw [Bool.not_eq_true, List.all_eq_false]
              exact ⟨(g :: gs)[k'], List.getElem_mem hgl, by simpa using hak⟩)
            clear hak ho HE hgz
            generalize FT.arity ((g :: gs)[k']) = mk at *
            go_wp2_with fail
            go_quiet (fail)
            go_wp2_with fail
            go_ret
            exact ⟨by rw [hfin.out]; rfl, aW1.trans (below_drews hr _)⟩
        · obtain rfl : k = n + 2 := by omega
          have hfin := Lib.hid (show R = (FT.arity g : Nat) by
            rw [HR.out, hcOk.out, if_pos]
            · rfl
            · rw [List.all_eq_true]
              intro h hh
              obtain ⟨j, hj, rfl⟩ := List.getElem_of_mem hh
              rw [HE.out j hj (by have := HL.out; omega)]
              simp)
          clear ho HE
          go_wp2_with fail
          go_ret
          exact ⟨by rw [hfin.out]; rfl, aW1.trans hr⟩
    · have hx : ((FT.arity f : Int) == (n : Int) + 2 - 1) = false := beq_eq_false_iff_ne.2 (by omega)
      have hfin := Lib.hid (show R = -1 by
        rw [HR.out, if_neg]
        simp only [compOk]
        rw [decide_eq_false (by omega)]
        simp)
      rw [hW1] at d2
      clear h hc2 hc5 hnn hl h2 hW1 hh hfa HW1 ho HP b0 b1
      generalize FT.arity f = m at *
      go_enter Tryz.func75, Tryz.ntmps75
      go_wp2_with fail
      go_quiet (fail)
      go_wp2_with fail
      go_ret
      exact ⟨by rw [hfin.out]; rfl, below_drews (After.new _ _) _⟩

def arityL (l : List UInt8) (ps : List FT) : Int := match FT.comb l ps with | some t => (FT.arity t : Nat) | none => -1

theorem s_arity (w : World) (B : Nat) (l : List UInt8) (sv : Value) (ps : List FT) (a : Int) (h : KidsV w B sv ps) (ho : ∀ f ∈ ps, FT.arity f ≤ 3) (hn : ps.length ≤ 1000) :
    Calls Tryz.prog 75 #[.agg #[str l, sv, .int .i64 a]] w (IntPost w (arityL l ps)) := by
  by_cases hc : l = [99]
  · subst hc
    have := sar_c w B sv ps a h ho hn
    rwa [show (if compOk ps then (FT.arity (ps.getD 1 .inc) : Int) else -1) = arityL [99] ps from ?_] at this
    match ps, ho with
    | [], _ => rfl
    | [_], _ => rfl
    | [f, g], _ => by_cases h1 : FT.arity f = 1 <;> simp [compOk, arityL, FT.comb, h1, FT.arity]
    | [f, g, k], _ => by_cases h1 : FT.arity f = 2 <;> by_cases h2 : FT.arity k = FT.arity g <;> simp [compOk, arityL, FT.comb, h1, h2, FT.arity]
    | [f, g, k, i], _ => by_cases h1 : FT.arity f = 3 <;> by_cases h2 : FT.arity k = FT.arity g <;> by_cases h3 : FT.arity i = FT.arity g <;> simp [compOk, arityL, FT.comb, h1, h2, h3, FT.arity]
    | f :: g :: k :: i :: j :: r, ho =>
      have h1 := ho f (by simp)
      have : ¬ FT.arity f = r.length + 1 + 1 + 1 + 1 := by omega
      simp [compOk, arityL, FT.comb, this]
  by_cases hr : l = [114]
  · subst hr
    have := sar_r w B sv ps a h ho hn
    rwa [show (if recOk ps then (FT.arity (ps.headD .inc) : Int) + 1 else -1) = arityL [114] ps from ?_] at this
    match ps with
    | [] => rfl
    | [_] => rfl
    | [f, g] => by_cases h1 : FT.arity g = FT.arity f + 2 <;> simp [recOk, arityL, FT.comb, h1, FT.arity]
    | _ :: _ :: _ :: _ => rfl
  by_cases hm : l = [109]
  · subst hm
    have := sar_m w B sv ps a h ho hn
    rwa [show (if searOk ps then (FT.arity (ps.headD .inc) : Int) - 1 else -1) = arityL [109] ps from ?_] at this
    match ps with
    | [] => rfl
    | [f] => by_cases h1 : 0 < FT.arity f <;> simp [searOk, arityL, FT.comb, h1, FT.arity]; omega
    | _ :: _ :: _ => rfl
  rw [show arityL l ps = -1 by simp [arityL, FT.comb, hc, hr, hm]]
  exact sar_o w B sv ps a l h (by simpa using hc) (by simpa using hr) (by simpa using hm)
end Go.Proofs.YtfjohagdlaiapaaGreat

namespace Go.Proofs.YtfjohagdlaiapaaGreat
open Go.RowKit

set_option maxHeartbeats 1000000
set_option maxRecDepth 100000

def place3 : Option (FT × Nat) → Int
  | some (_, j) => (j : Nat)
  | none => -1

def S3Post (w : World) (o : Option (FT × Nat)) (e : Ending) (w' : World) : Prop :=
  ∃ s ao n c a, e = .returned (.tuple #[.agg #[str s, .slice ao n c, .int .i64 a], .int .i64 (place3 o)]) ∧ After w w' ∧ ∀ t j, o = some (t, j) → SF w' w.heap.size t (.agg #[str s, .slice ao n c, .int .i64 a])

theorem S3Post.no {w w' : World} {o : Option (FT × Nat)} (ho : o = none) (h : After w w') (s : List UInt8) (ao : Option Addr) (n c : Nat) (a : Int) : S3Post w o (.returned (.tuple #[.agg #[str s, .slice ao n c, .int .i64 a], .int .i64 (-1)])) w' :=
  ⟨s, ao, n, c, a, by rw [ho]; rfl, h, fun t j ht => by rw [ho] at ht; cases ht⟩

/-- What is known of a result's box in a later world. -/
theorem box3 {w W : World} {x y z : Value} {T : TypeId} (h : After (w.alloc (.cells #[x, y, z] T)) W) :
    W.cell? ⟨w.heap.size, 0, none⟩ = some x ∧ W.cell? ⟨w.heap.size, 1, none⟩ = some y ∧ W.cell? ⟨w.heap.size, 2, none⟩ = some z ∧ W.frozen? ⟨w.heap.size, 0, none⟩ = false ∧ W.frozen? ⟨w.heap.size, 1, none⟩ = false ∧ W.frozen? ⟨w.heap.size, 2, none⟩ = false ∧ w.heap.size < W.heap.size := by
  have hh := h.heap (heap_new' w (.cells #[x, y, z] T))
  exact ⟨cell_of_heap hh, cell_of_heap hh, cell_of_heap hh, by simp [World.frozen?, hh], by simp [World.frozen?, hh], by simp [World.frozen?, hh], (Array.getElem?_eq_some_iff.1 hh).1⟩

theorem cells3 {W : World} {q : Nat} {x y z : Value} {T : TypeId} (h : W.heap[q]? = some (.cells #[x, y, z] T (0, 0))) :
    W.cell? ⟨q, 0, none⟩ = some x ∧ W.cell? ⟨q, 1, none⟩ = some y ∧ W.cell? ⟨q, 2, none⟩ = some z ∧ W.frozen? ⟨q, 0, none⟩ = false ∧ W.frozen? ⟨q, 1, none⟩ = false ∧ W.frozen? ⟨q, 2, none⟩ = false ∧ q < W.heap.size :=
  ⟨cell_of_heap h, cell_of_heap h, cell_of_heap h, by simp [World.frozen?, h], by simp [World.frozen?, h], by simp [World.frozen?, h], (Array.getElem?_eq_some_iff.1 h).1⟩

theorem set3_heap (W : World) (q b : Nat) (x y z : Value) (h : b ≠ q) : (((W.setCell ⟨q, 0, none⟩ x).setCell ⟨q, 1, none⟩ y).setCell ⟨q, 2, none⟩ z).heap[b]? = W.heap[b]? := by
  rw [Below.heap_setCell _ _ _ _ h, Below.heap_setCell _ _ _ _ h, Below.heap_setCell _ _ _ _ h]

/-- A function text stays behind a store into a box below it, and a new block. -/
theorem SF.set3 {W : World} {B B' q : Nat} {t : FT} {v : Value} (h : SF W B t v) (hq : B' < B) (hqe : q < B) (x y z : Value) (o : Obj) : SF ((((W.setCell ⟨q, 0, none⟩ x).setCell ⟨q, 1, none⟩ y).setCell ⟨q, 2, none⟩ z).alloc o) B' t v := by
  refine h.move (Nat.le_of_lt hq) (fun b hb hl => ?_)
  have e := set3_heap W q b x y z (by omega)
  rw [← e]
  exact (below_new _ o).block b (by simpa [World.setCell] using hl)

theorem s_fread_deep (w : World) (l : List UInt8) (k : Nat) : Calls Tryz.prog 43 #[str l, .int .i64 (k : Nat), .int .i64 41] w (S3Post w none) := by
  go_enter Tryz.func43, Tryz.ntmps43
  go_wp2_with fail
  exact bodyPost_ret (v := .tuple #[.agg #[.string ⟨#[]⟩, .slice none 0 0, .int .i64 0], .int .i64 (-1)]) (by simp [results, Tryz.results43, go_sem]) rfl (S3Post.no rfl (After.new _ _) _ _ _ _ _)

theorem s_fread_word (w : World) (l : List UInt8) (hl : l.length ≤ 1000000000) (d k : Nat) (a : Int) (ha : 0 ≤ a) (ha2 : a ≤ 40) (hk : k < l.length) (h40 : ¬ l[k]? = some 40) :
    Calls Tryz.prog 43 #[str l, .int .i64 (k : Nat), .int .i64 a] w (S3Post w (FT.mread l (d + 1) k)) := by
  have hsz : (⟨l.toArray⟩ : ByteArray).size = l.length := by show l.toArray.size = _; simp
  have hget : l[k]? = some l[k] := List.getElem?_eq_getElem hk
  have h40e : ((((⟨l.toArray⟩ : ByteArray)[k]'(by rw [hsz]; exact hk)).toNat : Int) != 40) = true := by
    rw [byte_at l k hk (by rw [hsz]; exact hk), byte_ne_lit' l[k] 40 40 rfl rfl]
    rw [hget] at h40
    simpa using h40
  have hat := fun W => s_atom W l k hl (Nat.le_of_lt hk)
  obtain ⟨m, hm⟩ : ∃ m, m = Tm.atomEnd l k := ⟨_, rfl⟩
  have hword : (⟨l.toArray⟩ : ByteArray).extract k m = ⟨((l.drop k).take (m - k)).toArray⟩ := bytes_ext l k m
  have hend := Tm.atomEnd_le l k (Nat.le_of_lt hk)
  have hmr : FT.mread l (d + 1) k = match FT.word ((l.drop k).take (m - k)) with | none => none | some t => some (t, m) := by
    rw [hm]
    simp only [FT.mread, if_neg (show ¬ l.length ≤ k by omega), if_neg h40, FT.sl]
    cases FT.word ((l.drop k).take (Tm.atomEnd l k - k)) <;> rfl
  rw [← hm] at hend hat
  obtain ⟨x, hx⟩ : ∃ x, x = (l.drop k).take (m - k) := ⟨_, rfl⟩
  rw [← hx] at hword hmr
  have hxl : x.length ≤ 1000000000 := by rw [hx]; simp; omega
  have hwd := fun W => s_word W x hxl
  obtain ⟨hm1, hm2⟩ := hend
  have hk0 : (k : Int) < (l.length : Int) := by omega
  have HM := Lib.hid hmr
  clear hmr hx hm h40 hget
  cases hw : FT.word x with
  | none =>
    have H := Lib.hid (show FT.mread l (d + 1) k = none by rw [HM.out, hw])
    rw [hw] at hwd
    clear HM hw
    go_enter Tryz.func43, Tryz.ntmps43
    go_wp2_with (go_at_call 73; refine (hat _).mono ?_; rintro e w' ⟨rfl, rfl⟩)
    refine (hwd _).mono ?_
    rintro e w1 ⟨s1, ao1, n1, c1, a1, rfl, hb1, ht1⟩
    clear ht1 hwd
    obtain ⟨r0, r1, r2, f0, f1, f2, hz⟩ := box3 hb1
    go_wp2_with fail
    exact bodyPost_ret (v := .tuple #[.agg #[str s1, .slice ao1 n1 c1, .int .i64 a1], .int .i64 (-1)]) (by simp [results, Tryz.results43, go_sem, r0, r1, r2, hz]) rfl (S3Post.no H.out (After.alloc (After.set3 hb1 _ _ _) _) _ _ _ _ _)
  | some t =>
    have H := Lib.hid (show FT.mread l (d + 1) k = some (t, m) by rw [HM.out, hw])
    rw [hw] at hwd
    clear HM hw
    go_enter Tryz.func43, Tryz.ntmps43
    go_wp2_with (go_at_call 73; refine (hat _).mono ?_; rintro e w' ⟨rfl, rfl⟩)
    refine (hwd _).mono ?_
    rintro e w1 ⟨s1, ao1, n1, c1, a1, rfl, hb1, ht1⟩
    have hst := ht1 t rfl
    have HST := Lib.hid hst
    clear ht1 hwd hst
    obtain ⟨r0, r1, r2, f0, f1, f2, hz⟩ := box3 hb1
    go_wp2_with fail
    exact bodyPost_ret (v := .tuple #[.agg #[str s1, .slice ao1 n1 c1, .int .i64 a1], .int .i64 (m : Nat)]) (by simp [results, Tryz.results43, go_sem, r0, r1, r2, hz]) rfl
      ⟨s1, ao1, n1, c1, a1, by rw [H.out]; rfl, After.alloc (After.set3 hb1 _ _ _) _, fun t' j he => by
        rw [H.out] at he
        simp only [Option.some.injEq, Prod.mk.injEq] at he
        obtain ⟨rfl, rfl⟩ := he
        exact HST.out.set3 (by simp) (by simp) _ _ _ _⟩

/-- What holds ahead of each round of l3Read's loop. -/
def SLoop (l lt : List UInt8) (d : Nat) (R : Option (List FT × Nat)) (W2 : World) (q : Nat) (m : Nat) (wr : World) : Prop :=
  ∃ fuel ps xs ao n c, FT.mparts (FT.mread l d) l fuel m ps = R ∧ l.length < fuel + m ∧ wr.heap[q]? = some (.cells #[str lt, .slice ao n c, .int .i64 0] 44 (0, 0)) ∧ RowS wr W2.heap.size (.slice ao n c) ps xs ∧ W2.grownBy wr (some q) ∧ (∀ f ∈ ps, FT.ok f) ∧ ps.length ≤ m

set_option maxHeartbeats 4000000 in
theorem s_fread (l : List UInt8) (hl : l.length ≤ 400) : ∀ (d k : Nat) (a : Int) (w : World), a + d = 41 → d ≤ 41 → k ≤ l.length →
    Calls Tryz.prog 43 #[str l, .int .i64 (k : Nat), .int .i64 a] w (S3Post w (FT.mread l d k)) := by
  intro d
  induction d with
  | zero => intro k a w ha _ _; obtain rfl : a = 41 := by omega
            exact s_fread_deep w l k
  | succ d ih =>
    intro k a w ha hd hk
    have hsz : (⟨l.toArray⟩ : ByteArray).size = l.length := by show l.toArray.size = _; simp
    have ha0 : 0 ≤ a := by omega
    have ha40 : a ≤ 40 := by omega
    by_cases hlen : l.length ≤ k
    · have H := Lib.hid (show FT.mread l (d + 1) k = none by simp only [FT.mread, if_pos hlen])
      have hk0 : (l.length : Int) ≤ (k : Int) := by omega
      clear ih hlen ha
      go_enter Tryz.func43, Tryz.ntmps43
      go_wp2_with fail
      exact bodyPost_ret (v := .tuple #[.agg #[.string ⟨#[]⟩, .slice none 0 0, .int .i64 0], .int .i64 (-1)]) (by simp [results, Tryz.results43, go_sem]) rfl (S3Post.no H.out (After.new _ _) _ _ _ _ _)
    have hlt : k < l.length := by omega
    by_cases h0 : l[k]? = some 40
    case neg => exact s_fread_word w l (by omega) d k a ha0 ha40 hlt h0
    have h40e : ((((⟨l.toArray⟩ : ByteArray)[k]'(by rw [hsz]; exact hlt)).toNat : Int) != 40) = false := by
      rw [byte_at l k hlt (by rw [hsz]; exact hlt), byte_ne_lit' l[k] 40 40 rfl rfl]
      rw [List.getElem?_eq_getElem hlt] at h0
      simpa using h0
    have hi1 : k + 1 ≤ l.length := hlt
    obtain ⟨e1, he1⟩ : ∃ e1, e1 = Tm.atomEnd l (k + 1) := ⟨_, rfl⟩
    obtain ⟨lt, hltr⟩ : ∃ lt, lt = FT.sl l (k + 1) e1 := ⟨_, rfl⟩
    obtain ⟨R, hR⟩ : ∃ R, R = FT.mparts (FT.mread l d) l (l.length + 1) e1 [] := ⟨_, rfl⟩
    have hel := FT.atomEnd_le l (k + 1) hi1
    have heg := FT.atomEnd_ge l (k + 1)
    rw [← he1] at hel heg
    have hnone : R = none → FT.mread l (d + 1) k = none := fun e => by
      rw [hR, he1] at e
      simp only [FT.mread, if_neg hlen, if_pos h0, e]
    have hsome : ∀ ps j, R = some (ps, j) → FT.mread l (d + 1) k = if l[j]? = some 41 then (match FT.comb lt ps with | none => none | some t => some (t, j + 1)) else none := fun ps j e => by
      rw [hR, he1] at e
      rw [hltr, he1]
      simp only [FT.mread, if_neg hlen, if_pos h0, e]
      cases FT.comb (FT.sl l (k + 1) (Tm.atomEnd l (k + 1))) ps <;> rfl
    have hat : ∀ W (i : Int), i = (k : Int) + 1 → Calls Tryz.prog 73 #[str l, .int .i64 i] W fun e w' => e = .returned (.int .i64 (e1 : Nat)) ∧ W = w' := fun W i hi => by
      rw [hi, he1, show (k : Int) + 1 = ((k + 1 : Nat) : Int) by omega]; exact s_atom W l (k + 1) (by omega) hi1
    have hword : ∀ i : Nat, i = k + 1 → (⟨l.toArray⟩ : ByteArray).extract i e1 = ⟨lt.toArray⟩ := fun i hi => by rw [hi, hltr]; exact bytes_ext l (k + 1) e1
    have hwd := hword (k + 1) rfl
    have hk1 : (k : Int) + 1 ≤ (e1 : Int) := by omega
    have hk2 : (e1 : Int) ≤ (l.length : Int) := by omega
    have hk0 : (k : Int) < (l.length : Int) := by omega
    have HNO := Lib.hid hnone
    have HSO := Lib.hid hsome
    have HR := Lib.hid hR
    have HIH := Lib.hid ih
    have HA := Lib.hid ha
    clear hnone hsome hR hltr he1 ih h0 ha hlen hword
    go_enter Tryz.func43, Tryz.ntmps43
    go_wp2_with (go_at_call 73; refine (hat _ _ (by first | rfl | omega)).mono ?_; rintro e w' ⟨rfl, rfl⟩)
    obtain ⟨W2, hW2⟩ : ∃ W2, W2 = (w.alloc (.cells #[.string ⟨#[]⟩, .slice none 0 0, .int .i64 0] 44 (0, 0))).alloc (.cells #[.string ⟨lt.toArray⟩, .slice none 0 0, .int .i64 0] 44 (0, 0)) := ⟨_, rfl⟩
    rw [← hW2]
    have aW2 : After w W2 := by rw [hW2]; exact (After.new _ _).alloc _
    have hq0 : W2.heap[w.heap.size]? = some (.cells #[.string ⟨#[]⟩, .slice none 0 0, .int .i64 0] 44 (0, 0)) := by rw [hW2]; exact heap_below2 _ _ _
    have hq1 : W2.heap[w.heap.size + 1]? = some (.cells #[str lt, .slice none 0 0, .int .i64 0] 44 (0, 0)) := by rw [hW2]; exact heap_top2 _ _ _
    have hs2 : W2.heap.size = w.heap.size + 2 := by rw [hW2]; simp
    have HQ0 := Lib.hid hq0
    have HQ1 := Lib.hid hq1
    have HS2 := Lib.hid hs2
    clear hW2 hq0 hq1 hs2 hwd
    go_loopw [11] (fun e wr => ∃ m : Nat, e = .int .i64 m ∧ m ≤ l.length ∧ Hid (SLoop l lt d R W2 (w.heap.size + 1) m wr)) (fun e _ => l.length - (intOf e).toNat)
    case atStart =>
      exact ⟨e1, rfl, hel, l.length + 1, [], [], none, 0, 0, HR.out.symm, by omega, HQ1.out, RowS.nil _ _, World.grownBy.refl _ _, by simp, by simp⟩
    case round =>
      obtain ⟨m, rfl, hm, HSL⟩ := hrel
      obtain ⟨fuel, ps, xs, ao, n, c, hP, hfm, hq, hRow, hG, hok, hpm⟩ := HSL.out
      obtain ⟨fu, rfl⟩ : ∃ fu, fuel = fu + 1 := ⟨fuel - 1, by omega⟩
      have b0 : wr.cell? ⟨w.heap.size + 1, 0, none⟩ = some (str lt) := cell_of_heap (i := 0) hq
      have b1 : wr.cell? ⟨w.heap.size + 1, 1, none⟩ = some (.slice ao n c) := cell_of_heap (i := 1) hq
      have b2 : wr.cell? ⟨w.heap.size + 1, 2, none⟩ = some (.int .i64 0) := cell_of_heap (i := 2) hq
      have g1 : wr.frozen? ⟨w.heap.size + 1, 1, none⟩ = false := by simp [World.frozen?, hq]
      have g2 : wr.frozen? ⟨w.heap.size + 1, 2, none⟩ = false := by simp [World.frozen?, hq]
      have hr0 : wr.heap[w.heap.size]? = some (.cells #[.string ⟨#[]⟩, .slice none 0 0, .int .i64 0] 44 (0, 0)) := by
        rw [hG.block w.heap.size (by have := HS2.out; omega) (fun e => by injection e with e; omega)]; exact HQ0.out
      have r0 : wr.cell? ⟨w.heap.size, 0, none⟩ = some (.string ⟨#[]⟩) := cell_of_heap (i := 0) hr0
      have r1 : wr.cell? ⟨w.heap.size, 1, none⟩ = some (.slice none 0 0) := cell_of_heap (i := 1) hr0
      have r2 : wr.cell? ⟨w.heap.size, 2, none⟩ = some (.int .i64 0) := cell_of_heap (i := 2) hr0
      have f0 : wr.frozen? ⟨w.heap.size, 0, none⟩ = false := by simp [World.frozen?, hr0]
      have f1 : wr.frozen? ⟨w.heap.size, 1, none⟩ = false := by simp [World.frozen?, hr0]
      have f2 : wr.frozen? ⟨w.heap.size, 2, none⟩ = false := by simp [World.frozen?, hr0]
      have hwz : w.heap.size + 1 < wr.heap.size := (Array.getElem?_eq_some_iff.1 hq).1
      have awr : After w wr := after_own aW2 (by omega) hG
      have HRow := Lib.hid hRow
      have HG := Lib.hid hG
      have HOK := Lib.hid hok
      have HP := Lib.hid hP
      have HHQ := Lib.hid hq
      have HHR := Lib.hid hr0
      clear hRow hG hok hP hq hr0 HSL
      by_cases h32 : l[m]? = some 32
      · have hm1 : m < l.length := (List.getElem?_eq_some_iff.1 h32).1
        have h32e : ((((⟨l.toArray⟩ : ByteArray)[m]'(by rw [hsz]; exact hm1)).toNat : Int) == 32) = true := by
          have hv := (List.getElem?_eq_some_iff.1 h32).2
          rw [byte_at l m hm1 (by rw [hsz]; exact hm1), hv]; rfl
        have hm1i : (m : Int) < (l.length : Int) := by omega
        have k1 := fun W => HIH.out (m + 1) (a + 1) W (by have := HA.out; omega) (by omega) hm1
        have hcast : ((m + 1 : Nat) : Int) = (m : Int) + 1 := by omega
        rw [hcast] at k1
        have H32 := Lib.hid h32
        clear h32 hcast
        cases hp : FT.mread l d (m + 1) with
        | none =>
          rw [hp] at k1
          have HF := Lib.hid (HNO.out (by rw [← HP.out]; simp [FT.mparts, H32.out, hp]))
          clear hp
          go_wp2_with fail
          refine (k1 _).mono ?_
          rintro e w1 ⟨s1, ao1, n1, c1, a1, rfl, hb1, ht1⟩
          clear ht1 k1 b0 b1 b2 g1 g2 r0 r1 r2 f0 f1 f2
          have hq1 := After.heap hb1 HHQ.out
          have hr1 := After.heap hb1 HHR.out
          obtain ⟨b0, b1, b2, g0, g1, g2, gz⟩ := cells3 hq1
          obtain ⟨r0, r1, r2, f0, f1, f2, hz⟩ := cells3 hr1
          clear hq1 hr1
          go_wp2_with fail
          exact bodyPost_ret (v := .tuple #[.agg #[str lt, .slice ao n c, .int .i64 0], .int .i64 (-1)]) (by simp [results, Tryz.results43, go_sem, r0, r1, r2, hz]) rfl (S3Post.no HF.out (by repeat (first | exact awr.trans hb1 | exact awr | refine After.alloc ?_ _ | refine Below.setCell ?_ (by first | exact Nat.le_refl _ | exact Nat.le_succ _) _)) _ _ _ _ _)
        | some p =>
          obtain ⟨t, j⟩ := p
          rw [hp] at k1
          obtain ⟨ht, hj1, hj2, _⟩ := FT.mread_facts l d (m + 1) t j hm1 hp
          have HPn := Lib.hid (show FT.mparts (FT.mread l d) l fu j (ps ++ [t]) = R by rw [← HP.out]; simp [FT.mparts, H32.out, hp])
          clear hp
          go_wp2_with fail
          refine (k1 _).mono ?_
          rintro e w1 ⟨s1, ao1, n1, c1, a1, rfl, hb1, ht1⟩
          have HT1 := Lib.hid (ht1 t j rfl)
          clear ht1 k1 b0 b1 b2 g1 g2 r0 r1 r2 f0 f1 f2
          have hq1 := After.heap hb1 HHQ.out
          obtain ⟨b0, b1, b2, g0, g1, g2, gz⟩ := cells3 hq1
          have hpl : place3 (some (t, j)) = (j : Int) := rfl
          have hgq : wr.grownBy w1 (some (w.heap.size + 1)) := grown_after hb1
          have hbase : w.heap.size + 1 < W2.heap.size := by have := HS2.out; omega
          have hR1 := HRow.out.grown hgq hbase
          have hgS : ∀ g, (Value.slice ao n c).ownBlock = some g → g < wr.heap.size := fun g hg => (HRow.out.1.lt g hg).2
          have hlen : n = ps.length := by obtain ⟨_, _, e⟩ := o_slice_len HRow.out.1; injection e
          subst hlen
          obtain ⟨i0, hi0, hz0, hz1, hz2⟩ : ∃ i, (Tryz.prog).info? 44 = some i ∧ i.zero = some (.agg #[.string ⟨#[]⟩, .slice none 0 0, .int .i64 0]) ∧ i.size = 3 ∧ i.bytes = 48 := ⟨_, rfl, rfl, rfl, rfl⟩
          have hun : Tryz.prog.underlying 42 = some (.slice 44) := by kernel_rfl
          have hown := World.ownsRow.alloc (World.ownsRow.alloc hR1.1 (.cells #[str s1, .slice ao1 n1 c1, .int .i64 a1] 44)) (.cells #[str s1, .slice ao1 n1 c1, .int .i64 a1] 44)
          have hnew : ∀ i u, [str s1, .slice ao1 n1 c1, .int .i64 a1][i]? = some u → ((w1.alloc (.cells #[str s1, .slice ao1 n1 c1, .int .i64 a1] 44)).alloc (.cells #[str s1, .slice ao1 n1 c1, .int .i64 a1] 44)).cell? ((⟨w1.heap.size + 1, 0, none⟩ : Addr).add i) = some u := fun i u h => by
            rw [show ((⟨w1.heap.size + 1, 0, none⟩ : Addr).add i) = ⟨w1.heap.size + 1, i, none⟩ by unfold Addr.add; split <;> simp_all, cell_of_heap (heap_top2 w1 (.cells #[str s1, .slice ao1 n1 c1, .int .i64 a1] 44) (.cells #[str s1, .slice ao1 n1 c1, .int .i64 a1] 44))]
            simpa using h
          have hone : ∀ u ∈ [str s1, .slice ao1 n1 c1, .int .i64 a1], u.oneCell' = true := by simp [Value.oneCell']
          have hmax : ps.length + 1 ≤ maxLen := by unfold maxLen; omega
          have hm8 : (ps.length + 1) * 48 ≤ 140737488355328 := by omega
          have hw12 : wr.heap.size ≤ w1.heap.size := After.le hb1
          have hW2r := HG.out.size
          have hszb : W2.heap.size ≤ ((w1.alloc (.cells #[str s1, .slice ao1 n1 c1, .int .i64 a1] 44)).alloc (.cells #[str s1, .slice ao1 n1 c1, .int .i64 a1] 44)).heap.size := by simp; omega
          have HR1 := Lib.hid hR1
          have HGS := Lib.hid hgS
          have HHQ1 := Lib.hid (After.heap hb1 HHQ.out)
          clear hq1 hR1 hgS
          go_wp2_with (at_builtin; refine wpList_append_at _ rfl _ _ 42 rfl W2.heap.size 44 i0 (.agg #[.string ⟨#[]⟩, .slice none 0 0, .int .i64 0]) 3 48 hun hi0 hz0 hz1 hz2 rfl (by decide) _ _ _ rfl hown ⟨w1.heap.size + 1, 0, none⟩ 1 1 [str s1, .slice ao1 n1 c1, .int .i64 a1] rfl rfl hnew hone hmax hm8 hszb (by decide) ?_; intro v6 w6 ho6 hg6 hw6; obtain ⟨bo, bn, bc, rfl⟩ := o_slice ho6; have hq6 := (hg6.block (w.heap.size + 1) (by simp; omega) (fun e => by have := (hown.lt _ e.symm).1; omega)).trans (After.heap (After.alloc (After.new w1 _) _) HHQ1.out); obtain ⟨b0, b1, b2, g0, g1, g2, gz⟩ := cells3 hq6; have HQ6 := Lib.hid hq6; have HO6 := Lib.hid ho6; have HG6 := Lib.hid hg6; have HW6 := Lib.hid hw6; clear ho6 hg6 hw6 hq6)
          go_roundw
          case measure => simp [intOf]; omega
          case rel =>
            have hHQ7 : (w6.setCell ⟨w.heap.size + 1, 1, none⟩ (.slice bo bn bc)).heap[w.heap.size + 1]? = some (.cells #[str lt, .slice bo bn bc, .int .i64 0] 44 (0, 0)) := by
              have := HQ6.out
              simp [World.setCell, Array.getElem?_modify, this]
            have hR7 : RowS w6 W2.heap.size (.slice bo bn bc) (ps ++ [t]) (xs ++ [str s1, .slice ao1 n1 c1, .int .i64 a1]) :=
              RowS.push (w := w1.alloc (.cells #[str s1, .slice ao1 n1 c1, .int .i64 a1] 44)) (S := wr.heap.size) (HR1.out.grown (grown_after (After.new w1 _)) hbase) hW2r HGS.out (HT1.out.after (After.new w1 _)) _ HO6.out HG6.out HW6.out
            have hlow : ∀ g, (Value.slice ao ps.length c).ownBlock = some g → W2.heap.size ≤ g := fun g hg => (hown.lt g hg).1
            have hG1 : W2.grownBy w1 (some (w.heap.size + 1)) := grown_trans HG.out hgq
            have hG6 : W2.grownBy w6 (some (w.heap.size + 1)) := by
              have h45s := hG1.size
              refine ⟨HG6.out.os.trans hG1.os, HG6.out.tape.trans hG1.tape, HG6.out.output.trans hG1.output, by have := HG6.out.size; simp at this; omega, fun q hq hne => ?_⟩
              rw [HG6.out.block q (by simp; omega) (fun e => by have := hlow q e.symm; omega)]
              rw [((After.new w1 (.cells #[str s1, .slice ao1 n1 c1, .int .i64 a1] 44)).alloc _).block q (by omega)]
              exact hG1.block q hq hne
            refine ⟨j, rfl, hj2, fu, ps ++ [t], _, bo, bn, bc, HPn.out, by omega, hHQ7, hR7.grown (grown_setx _ _ _ _) hbase, grown_trans hG6 (grown_setx _ _ _ _), ?_, by simp; omega⟩
            intro f hf
            rcases List.mem_append.1 hf with hf | hf
            · exact HOK.out f hf
            · simp at hf; subst hf; exact ht
      · have hfinR : R = some (ps, m) := by rw [← HP.out]; simp [FT.mparts, h32]
        have hS := HSO.out ps m hfinR
        have hK := HRow.out.kids (Nat.le_refl W2.heap.size)
        by_cases hml : m = l.length
        · have hS2 : FT.mread l (d + 1) k = none := by rw [hS, if_neg]; rw [hml]; simp
          have HF := Lib.hid hS2
          have hmi : (m : Int) = (l.length : Int) := by omega
          clear hS hS2 hfinR h32 hK
          subst hml
          go_wp2_with fail
          exact bodyPost_ret (v := .tuple #[.agg #[str lt, .slice ao n c, .int .i64 0], .int .i64 (-1)]) (by simp [results, Tryz.results43, go_sem, r0, r1, r2]; try omega) rfl (S3Post.no HF.out (by repeat (first | exact awr.trans hb1 | exact awr | refine After.alloc ?_ _ | refine Below.setCell ?_ (by first | exact Nat.le_refl _ | exact Nat.le_succ _) _)) _ _ _ _ _)
        · have hm1 : m < l.length := by omega
          have h32e : ((((⟨l.toArray⟩ : ByteArray)[m]'(by rw [hsz]; exact hm1)).toNat : Int) == 32) = false := by
            rw [byte_at l m hm1 (by rw [hsz]; exact hm1)]
            rw [List.getElem?_eq_getElem hm1] at h32
            rw [beq_eq_false_iff_ne]
            exact fun e => h32 (congrArg some (UInt8.toNat_inj.1 (by show (l[m]).toNat = 32; omega)))
          have hm1i : (m : Int) < (l.length : Int) := by omega
          by_cases h41 : l[m]? = some 41
          · have h41e : ((((⟨l.toArray⟩ : ByteArray)[m]'(by rw [hsz]; exact hm1)).toNat : Int) != 41) = false := by
              have hv := (List.getElem?_eq_some_iff.1 h41).2
              rw [byte_at l m hm1 (by rw [hsz]; exact hm1), hv]; rfl
            rw [if_pos h41] at hS
            have hpl : ps.length ≤ 1000 := by omega
            have k1 := fun W (hW : After wr W) => s_arity W W2.heap.size lt _ ps 0 (hK.after hW) (fun f hf => FT.arity_le (HOK.out f hf)) hpl
            have HS := Lib.hid hS
            have HK := Lib.hid hK
            clear hS hfinR h32 hK h41
            cases hcb : FT.comb lt ps with
            | none =>
              have HF := Lib.hid (show FT.mread l (d + 1) k = none by rw [HS.out, hcb])
              rw [show arityL lt ps = -1 by simp [arityL, hcb]] at k1
              clear hcb HS
              go_wp2_with fail
              refine (k1 _ (After.refl _)).mono ?_
              rintro e w1 ⟨rfl, hb1⟩
              clear k1 b0 b1 b2 g1 g2 r0 r1 r2 f0 f1 f2
              obtain ⟨b0, b1, b2, g0, g1, g2, gz⟩ := cells3 (After.heap hb1 HHQ.out)
              obtain ⟨r0, r1, r2, f0, f1, f2, hz⟩ := cells3 (After.heap hb1 HHR.out)
              go_wp2_with fail
              exact bodyPost_ret (v := .tuple #[.agg #[str lt, .slice ao n c, .int .i64 (-1)], .int .i64 (-1)]) (by simp [results, Tryz.results43, go_sem, r0, r1, r2]; try omega) rfl (S3Post.no HF.out (by repeat (first | exact awr.trans hb1 | exact awr | refine After.alloc ?_ _ | refine Below.setCell ?_ (by first | exact Nat.le_refl _ | exact Nat.le_succ _) _)) _ _ _ _ _)
            | some t =>
              have HF := Lib.hid (show FT.mread l (d + 1) k = some (t, m + 1) by rw [HS.out, hcb])
              obtain ⟨hat1, hat2⟩ := FT.comb_atom hcb
              obtain ⟨hokt, _, _⟩ := FT.comb_facts hcb HOK.out
              have har := FT.arity_le hokt
              rw [show arityL lt ps = (FT.arity t : Nat) by simp [arityL, hcb]] at k1
              have HSF := Lib.hid (show SF wr W2.heap.size t (.agg #[str lt, .slice ao n c, .int .i64 (FT.arity t : Nat)]) by rw [hat1]; exact SF.mk (by rw [hat2]; exact HK.out))
              clear hcb HS hat1 hat2 hokt
              have ha1 : ¬ ((FT.arity t : Int) < 0) := by omega
              have ha2 : ¬ ((3 : Int) < (FT.arity t : Int)) := by omega
              generalize har' : FT.arity t = art at *
              go_wp2_with fail
              refine (k1 _ (After.refl _)).mono ?_
              rintro e w1 ⟨rfl, hb1⟩
              clear k1 b0 b1 b2 g1 g2 r0 r1 r2 f0 f1 f2
              obtain ⟨b0, b1, b2, g0, g1, g2, gz⟩ := cells3 (After.heap hb1 HHQ.out)
              obtain ⟨r0, r1, r2, f0, f1, f2, hz⟩ := cells3 (After.heap hb1 HHR.out)
              go_wp2_with fail
              refine bodyPost_ret (v := .tuple #[.agg #[str lt, .slice ao n c, .int .i64 (art : Nat)], .int .i64 ((m : Int) + 1)]) (by simp [results, Tryz.results43, go_sem, r0, r1, r2]; try omega) rfl ?_
              refine ⟨lt, ao, n, c, (art : Nat), by rw [HF.out]; rfl, (by repeat (first | exact awr.trans hb1 | exact awr | refine After.alloc ?_ _ | refine Below.setCell ?_ (by first | exact Nat.le_refl _ | exact Nat.le_succ _) _)), fun t' j' he => ?_⟩
              rw [HF.out] at he
              simp only [Option.some.injEq, Prod.mk.injEq] at he
              obtain ⟨rfl, rfl⟩ := he
              refine HSF.out.move (by have := HS2.out; omega) (fun b hb hl => ?_)
              have hs2 := HS2.out
              have hbl := hb1.block b hl
              rw [← hbl]
              rw [Below.heap_setCell _ _ _ _ (show b ≠ w.heap.size by omega), Below.heap_setCell _ _ _ _ (show b ≠ w.heap.size by omega), Below.heap_setCell _ _ _ _ (show b ≠ w.heap.size by omega)]
              exact Below.heap_setCell _ _ _ _ (show b ≠ w.heap.size + 1 by omega)
          · have h41e : ((((⟨l.toArray⟩ : ByteArray)[m]'(by rw [hsz]; exact hm1)).toNat : Int) != 41) = true := by
              rw [byte_at l m hm1 (by rw [hsz]; exact hm1), byte_ne_lit' l[m] 41 41 rfl rfl]
              rw [List.getElem?_eq_getElem hm1] at h41
              simpa using h41
            rw [if_neg h41] at hS
            have HF := Lib.hid hS
            clear hS hfinR h32 hK h41
            go_wp2_with fail
            exact bodyPost_ret (v := .tuple #[.agg #[str lt, .slice ao n c, .int .i64 0], .int .i64 (-1)]) (by simp [results, Tryz.results43, go_sem, r0, r1, r2]; try omega) rfl (S3Post.no HF.out (by repeat (first | exact awr.trans hb1 | exact awr | refine After.alloc ?_ _ | refine Below.setCell ?_ (by first | exact Nat.le_refl _ | exact Nat.le_succ _) _)) _ _ _ _ _)
end Go.Proofs.YtfjohagdlaiapaaGreat

namespace Go.Proofs.YtfjohagdlaiapaaGreat
open Go.RowKit

set_option maxHeartbeats 1000000
set_option maxRecDepth 100000

theorem FT.total_parts (t : FT) : FT.total t = (allL (FT.partsOf t) (FT.partsOf t).length && (FT.atomOf t != [109])) := by
  cases t <;> simp [FT.total, FT.partsOf, FT.atomOf, allL, Bool.and_assoc, show (([99] : List UInt8) != [109]) = true from rfl, show (([114] : List UInt8) != [109]) = true from rfl]

theorem part_lt (t : FT) (k : Nat) (h : k < (FT.partsOf t).length) : FT.size (FT.partsOf t)[k] < FT.size t := by
  have h1 := FT.size_parts t
  have h2 : FT.size (FT.partsOf t)[k] ≤ ((FT.partsOf t).map FT.size).sum := le_sum (List.mem_map.2 ⟨_, List.getElem_mem h, rfl⟩)
  omega

theorem s_fsize : ∀ (N : Nat) (t : FT) (w : World) (B : Nat) (v : Value), FT.size t ≤ N → FT.size t ≤ 100000 → SF w B t v → Calls Tryz.prog 44 #[v] w (IntPost w (FT.size t : Nat)) := by
  intro N
  induction N with
  | zero => intro t w B v h; have := FT.size_pos t; omega
  | succ N ih =>
    intro t w B v hN hz hS
    obtain ⟨sv, rfl, hk⟩ := hS.kids
    obtain ⟨ao, cap, rfl⟩ := hk.form
    have hsz := FT.size_parts t
    have hlt := fun k h => part_lt t k h
    clear hS
    generalize FT.partsOf t = ps at *
    have hlen : ps.length ≤ 100000 := by
      have : ps.length ≤ (ps.map FT.size).sum := by
        clear hsz hlt hk
        induction ps with
        | nil => simp
        | cons f ps ih => have := FT.size_pos f; simp only [List.length_cons, List.map_cons, List.sum_cons]; omega
      omega
    obtain ⟨P, hP⟩ : ∃ P, P = ps.length := ⟨_, rfl⟩
    rw [← hP] at hlen ⊢
    obtain ⟨W1, hW1⟩ : ∃ W1, W1 = w.alloc (.cells #[str (FT.atomOf t), .slice ao P cap, .int .i64 (FT.arity t : Nat)] 44 (0, 0)) := ⟨_, rfl⟩
    have a1 : After w W1 := by rw [hW1]; exact After.new _ _
    have hh := heap_top w (.cells #[str (FT.atomOf t), .slice ao P cap, .int .i64 (FT.arity t : Nat)] 44 (0, 0))
    rw [← hW1] at hh
    have b1 : ∀ W, After W1 W → W.cell? ⟨w.heap.size, 1, none⟩ = some (.slice ao P cap) := fun W hW => cell_later' (cell_of_heap (i := 1) hh) W hW
    have HPL := Lib.hid hP
    have HK := Lib.hid (hk.after a1)
    have HIH := Lib.hid ih
    have HLT := Lib.hid hlt
    have HSZ := Lib.hid hsz
    have HW1 := Lib.hid hW1
    have hself := After.refl W1
    clear hk hP hW1 hh ih hlt hsz
    go_enter Tryz.func44, Tryz.ntmps44
    go_wp2_with fail
    rw [← HW1.out]
    go_loopw [3, 4] (fun n i wr => ∃ k : Nat, i = .int .i64 k ∧ k ≤ P ∧ n = .int .i64 ((1 + sumL ps k : Nat) : Int) ∧ After W1 wr) (fun _ i _ => P - (intOf i).toNat)
    case atStart => exact ⟨0, rfl, by omega, rfl, hself⟩
    case round =>
      obtain ⟨k, rfl, hkP, rfl, hr⟩ := hrel
      have c1 := b1 _ hr
      by_cases hlt : k < P
      · have hkl : k < ps.length := by rw [← HPL.out]; exact hlt
        obtain ⟨b, cap', ao1, n1, c1', hsv, hc0, hc1, hc2, hkid, _⟩ := (HK.out.after hr).at k hkl
        injection hsv with e1 e2 e3
        subst e1
        clear e2 e3
        have hcall := HIH.out ps[k] wr B _ (by have := HLT.out k hkl; omega) (by have := HLT.out k hkl; omega) hkid
        have hs2 := sumL_succ ps k hkl
        have hs3 := sumL_le ps (k + 1)
        have hs4 : (ps.map FT.size).sum ≤ 100000 := by have := HSZ.out; omega
        rw [hs2] at hs3
        have HS2 := Lib.hid hs2
        clear hkid hs2
        generalize FT.size ps[k] = zk at *
        generalize hsk : sumL ps k = sk at *
        go_wp2_with fail
        refine hcall.mono ?_
        rintro e w1 ⟨rfl, hb1⟩
        clear hcall
        go_wp2_with fail
        go_roundw
        case rel => exact ⟨k + 1, by go_num, by omega, by rw [HS2.out]; go_num, hr.trans hb1⟩
        case measure => simp [intOf]; omega
      · obtain rfl : k = P := by omega
        have HF := Lib.hid (show 1 + sumL ps k = FT.size t by rw [HSZ.out, HPL.out]; simp [sumL])
        go_wp2_with fail
        go_ret
        exact ⟨by rw [← HF.out]; rfl, a1.trans hr⟩

theorem s_ftotal : ∀ (N : Nat) (t : FT) (w : World) (B : Nat) (v : Value), FT.size t ≤ N → FT.size t ≤ 100000 → SF w B t v → Calls Tryz.prog 23 #[v] w (BitPost w (FT.total t)) := by
  intro N
  induction N with
  | zero => intro t w B v h; have := FT.size_pos t; omega
  | succ N ih =>
    intro t w B v hN hz hS
    obtain ⟨sv, rfl, hk⟩ := hS.kids
    obtain ⟨ao, cap, rfl⟩ := hk.form
    have hsz := FT.size_parts t
    have hlt := fun k h => part_lt t k h
    have hto := FT.total_parts t
    clear hS
    generalize FT.partsOf t = ps at *
    have hlen : ps.length ≤ 100000 := by
      have : ps.length ≤ (ps.map FT.size).sum := by
        clear hsz hlt hk hto
        induction ps with
        | nil => simp
        | cons f ps ih => have := FT.size_pos f; simp only [List.length_cons, List.map_cons, List.sum_cons]; omega
      omega
    obtain ⟨P, hP⟩ : ∃ P, P = ps.length := ⟨_, rfl⟩
    rw [← hP] at hlen ⊢
    obtain ⟨W1, hW1⟩ : ∃ W1, W1 = w.alloc (.cells #[str (FT.atomOf t), .slice ao P cap, .int .i64 (FT.arity t : Nat)] 44 (0, 0)) := ⟨_, rfl⟩
    have a1 : After w W1 := by rw [hW1]; exact After.new _ _
    have hh := heap_top w (.cells #[str (FT.atomOf t), .slice ao P cap, .int .i64 (FT.arity t : Nat)] 44 (0, 0))
    rw [← hW1] at hh
    have b0 : ∀ W, After W1 W → W.cell? ⟨w.heap.size, 0, none⟩ = some (str (FT.atomOf t)) := fun W hW => cell_later' (cell_of_heap (i := 0) hh) W hW
    have b1 : ∀ W, After W1 W → W.cell? ⟨w.heap.size, 1, none⟩ = some (.slice ao P cap) := fun W hW => cell_later' (cell_of_heap (i := 1) hh) W hW
    have HPL := Lib.hid hP
    have HK := Lib.hid (hk.after a1)
    have HIH := Lib.hid ih
    have HLT := Lib.hid hlt
    have HTO := Lib.hid hto
    have HW1 := Lib.hid hW1
    have hself := After.refl W1
    clear hk hP hW1 hh ih hlt hsz hto
    obtain ⟨R, hR⟩ : ∃ R, R = FT.total t := ⟨_, rfl⟩
    rw [← hR]
    have HR := Lib.hid hR
    clear hR
    go_enter Tryz.func23, Tryz.ntmps23
    go_wp2_with fail
    rw [← HW1.out]
    go_loopw [3] (fun i wr => ∃ k : Nat, i = .int .i64 k ∧ k ≤ P ∧ Hid (allL ps k = true) ∧ After W1 wr) (fun i _ => P - (intOf i).toNat)
    case atStart => exact ⟨0, rfl, by omega, rfl, hself⟩
    case round =>
      obtain ⟨k, rfl, hkP, HAL, hr⟩ := hrel
      have c1 := b1 _ hr
      have c0 := b0 _ hr
      by_cases hlt : k < P
      · have hkl : k < ps.length := by rw [← HPL.out]; exact hlt
        obtain ⟨b, cap', ao1, n1, c1', hsv, hc0, hc1, hc2, hkid, _⟩ := (HK.out.after hr).at k hkl
        injection hsv with e1 e2 e3
        subst e1
        clear e2 e3
        have hcall := HIH.out ps[k] wr B _ (by have := HLT.out k hkl; omega) (by have := HLT.out k hkl; omega) hkid
        have hs2 := allL_succ ps k hkl
        have HS2 := Lib.hid hs2
        clear hkid hs2
        cases htk : FT.total ps[k] with
        | true =>
          have HX := Lib.hid (show allL ps (k + 1) = true by rw [HS2.out, HAL.out, htk]; rfl)
          rw [htk] at hcall
          clear htk HS2
          go_wp2_with fail
          refine hcall.mono ?_
          rintro e w1 ⟨rfl, hb1⟩
          clear hcall
          go_wp2_with fail
          go_roundw
          case rel => exact ⟨k + 1, by go_num, by omega, HX, hr.trans hb1⟩
          case measure => simp [intOf]; omega
        | false =>
          have HX := Lib.hid (show R = false by
            rw [HR.out, HTO.out, show allL ps ps.length = false from ?_]
            · rfl
            · unfold allL
              rw [List.take_length, List.all_eq_false]
              exact ⟨ps[k], List.getElem_mem hkl, by rw [htk]; simp⟩)
          rw [htk] at hcall
          clear htk HS2
          go_wp2_with fail
          refine hcall.mono ?_
          rintro e w1 ⟨rfl, hb1⟩
          clear hcall
          go_wp2_with fail
          go_ret
          exact ⟨by rw [HX.out]; rfl, a1.trans (hr.trans hb1)⟩
      · obtain rfl : k = P := by omega
        have HF := Lib.hid (show R = (FT.atomOf t != [109]) by rw [HR.out, HTO.out, ← HPL.out, HAL.out]; rfl)
        go_wp2_with fail
        go_ret
        exact ⟨by rw [HF.out]; rfl, a1.trans hr⟩
end Go.Proofs.YtfjohagdlaiapaaGreat

namespace Go.Proofs.YtfjohagdlaiapaaGreat
open Go.RowKit

set_option maxHeartbeats 4000000
set_option maxRecDepth 100000

def S3Fn (w : World) (l : List UInt8) (e : Ending) (w' : World) : Prop :=
  ∃ s ao n c a, e = .returned (.tuple #[.agg #[str s, .slice ao n c, .int .i64 a], .bool (FT.parse l).isSome]) ∧ After w w' ∧ ∀ t, FT.parse l = some t → SF w' w.heap.size t (.agg #[str s, .slice ao n c, .int .i64 a])

theorem mparts_up {rd : Nat → Option (FT × Nat)} {l : List UInt8} (hrd : ∀ i t j, rd i = some (t, j) → FT.size t + i ≤ j) :
    ∀ (n i : Nat) (acc ps : List FT) (j : Nat), FT.mparts rd l n i acc = some (ps, j) → (ps.map FT.size).sum + i ≤ j + (acc.map FT.size).sum
  | 0, _, _, _, _, h => by simp [FT.mparts] at h
  | n + 1, i, acc, ps, j, h => by
    simp only [FT.mparts] at h
    split at h
    · cases hr : rd (i + 1) with
      | none => rw [hr] at h; simp at h
      | some q =>
        obtain ⟨t, k⟩ := q
        rw [hr] at h
        simp only at h
        have h1 := hrd _ _ _ hr
        have h2 := mparts_up hrd n k (acc ++ [t]) ps j h
        rw [FT.sum_app] at h2
        omega
    · simp only [Option.some.injEq, Prod.mk.injEq] at h
      obtain ⟨rfl, rfl⟩ := h
      omega

theorem mread_up (l : List UInt8) : ∀ (d i : Nat) (t : FT) (j : Nat), FT.mread l d i = some (t, j) → FT.size t + i ≤ j
  | 0, _, _, _, h => by simp [FT.mread] at h
  | d + 1, i, t, j, h => by
    have hcopy := h
    simp only [FT.mread] at h
    split at h
    · cases h
    · rename_i hlt
      split at h
      · cases hm : FT.mparts (FT.mread l d) l (l.length + 1) (Tm.atomEnd l (i + 1)) [] with
        | none => rw [hm] at h; simp at h
        | some q =>
          obtain ⟨ps, k⟩ := q
          rw [hm] at h
          simp only at h
          have h1 := mparts_up (mread_up l d) _ _ _ _ _ hm
          have h2 := FT.atomEnd_ge l (i + 1)
          split at h
          · cases hc : FT.comb (FT.sl l (i + 1) (Tm.atomEnd l (i + 1))) ps with
            | none => rw [hc] at h; simp at h
            | some u =>
              rw [hc] at h
              simp only [Option.some.injEq, Prod.mk.injEq] at h
              obtain ⟨rfl, rfl⟩ := h
              have := FT.pread_m.comb_size hc
              simp at h1
              omega
          · cases h
      · have h3 := (FT.mread_facts l (d + 1) i t j (by omega) hcopy).2.1
        cases hw : FT.word (FT.sl l i (Tm.atomEnd l i)) with
        | none => rw [hw] at h; simp at h
        | some u =>
          rw [hw] at h
          simp only [Option.some.injEq, Prod.mk.injEq] at h
          obtain ⟨rfl, rfl⟩ := h
          have := (FT.word_facts hw).2.1
          omega

theorem SF.sets {W : World} {B B' q : Nat} {t : FT} {v : Value} (h : SF W B t v) (hq : B' ≤ B) (hqe : q < B) (x y z : Value) : SF (((W.setCell ⟨q, 0, none⟩ x).setCell ⟨q, 1, none⟩ y).setCell ⟨q, 2, none⟩ z) B' t v :=
  h.move hq (fun b hb _ => set3_heap W q b x y z (by omega))

theorem s_function (w : World) (l : List UInt8) (hl : l.length ≤ 1000000000) :
    Calls Tryz.prog 22 #[str l] w (S3Fn w l) := by
  have hsz : (⟨l.toArray⟩ : ByteArray).size = l.length := by show l.toArray.size = _; simp
  have hp : FT.parse l = FT.mfun l := FT.parse_eq l
  by_cases hbig : 400 < l.length
  · have H := Lib.hid (show FT.parse l = none by rw [hp]; unfold FT.mfun; rw [if_pos hbig])
    have hbi : (400 : Int) < (l.length : Int) := by omega
    clear hp
    go_enter Tryz.func22, Tryz.ntmps22
    go_wp2_with fail
    exact bodyPost_ret (v := .tuple #[.agg #[.string ⟨#[]⟩, .slice none 0 0, .int .i64 0], .bool false]) (by simp [results, Tryz.results22, go_sem]) rfl
      ⟨[], none, 0, 0, 0, by rw [H.out]; rfl, After.new _ _, fun t he => by rw [H.out] at he; simp at he⟩
  · have hcall : ∀ W, Calls Tryz.prog 43 #[str l, .int .i64 0, .int .i64 0] W (S3Post W (FT.mread l 41 0)) := fun W => s_fread l (by omega) 41 0 0 W (by omega) (by omega) (Nat.zero_le _)
    have hp2 : FT.parse l = match FT.mread l 41 0 with | some (t, j) => if j = l.length ∧ FT.size t ≤ 40 then some t else none | none => none := by
      rw [hp]; unfold FT.mfun; rw [if_neg hbig]; rfl
    have hbi : ¬ (400 : Int) < (l.length : Int) := by omega
    clear hp
    cases hq : FT.mread l 41 0 with
    | none =>
      have H := Lib.hid (show FT.parse l = none by rw [hp2, hq])
      have hpl : place3 none = -1 := rfl
      rw [hq] at hcall
      have hne : ((-1 : Int) == (l.length : Int)) = false := by rw [beq_eq_false_iff_ne]; omega
      clear hp2 hq
      go_enter Tryz.func22, Tryz.ntmps22
      go_wp2_with fail
      refine (hcall _).mono ?_
      rintro e w1 ⟨s1, ao1, n1, c1, a1, rfl, hb1, ht1⟩
      clear ht1 hcall
      obtain ⟨r0, r1, r2, f0, f1, f2, hz⟩ := box3 hb1
      go_wp2_with fail
      go_region
      go_wp2_with fail
      exact bodyPost_ret (v := .tuple #[.agg #[str s1, .slice ao1 n1 c1, .int .i64 a1], .bool false]) (by simp [results, Tryz.results22, go_sem, r0, r1, r2, hz]) rfl
        ⟨s1, ao1, n1, c1, a1, by rw [H.out]; rfl, After.drew (After.alloc (After.set3 hb1 _ _ _) _), fun t he => by rw [H.out] at he; simp at he⟩
    | some p =>
      obtain ⟨t, j⟩ := p
      obtain ⟨hok, _, hj, hj4⟩ := FT.mread_facts l 41 0 t j (Nat.zero_le _) hq
      have hpl : place3 (some (t, j)) = (j : Int) := rfl
      have hz3 : FT.size t ≤ 100000 := by have := mread_up l 41 0 t j hq; omega
      rw [hq] at hcall hp2
      simp only at hp2
      by_cases hjl : j = l.length
      · subst hjl
        by_cases h3 : FT.size t ≤ 40
        · have H := Lib.hid (show FT.parse l = some t by rw [hp2]; simp [h3])
          have h3' : (FT.size t : Int) ≤ 40 := by omega
          clear hp2 hq
          go_enter Tryz.func22, Tryz.ntmps22
          go_wp2_with fail
          refine (hcall _).mono ?_
          rintro e w1 ⟨s1, ao1, n1, c1, a1, rfl, hb1, ht1⟩
          have hst := Lib.hid (ht1 t _ rfl)
          clear ht1 hcall
          obtain ⟨r0, r1, r2, f0, f1, f2, hz⟩ := box3 hb1
          have hal := After.new w1 (.cells #[str s1, .slice ao1 n1 c1, .int .i64 a1] 44)
          go_wp2_with fail
          go_region_with (go_at_call 44; refine (s_fsize _ t _ _ _ (Nat.le_refl _) hz3 (SF.after hst.out hal.drew)).mono ?_; rintro e w2 ⟨rfl, hb2⟩; have hb3 := (hb1.trans hal.drew).trans hb2; obtain ⟨p0, p1, p2, p3, p4, p5, p6⟩ := box3 hb3; obtain ⟨q0, q1, q2, q3, q4, q5, q6⟩ := box3 ((After.refl (w1.alloc (.cells #[str s1, .slice ao1 n1 c1, .int .i64 a1] 44))).drew.trans hb2); have hne : w1.heap.size ≠ w.heap.size := by omega)
          all_goals
            go_wp2_with fail
            exact bodyPost_ret (v := .tuple #[.agg #[str s1, .slice ao1 n1 c1, .int .i64 a1], .bool true]) (by simp [results, Tryz.results22, go_sem, p0, p1, p2]) rfl
              ⟨s1, ao1, n1, c1, a1, by rw [H.out]; rfl, After.set3 hb3 _ _ _, fun t' he => by
                rw [H.out] at he
                obtain rfl := Option.some.inj he
                exact (SF.after hst.out (hal.drew.trans hb2)).sets (by simp) (by simp) _ _ _⟩
        · have H := Lib.hid (show FT.parse l = none by rw [hp2]; simp [h3])
          have h3' : (40 : Int) < (FT.size t : Int) := by omega
          clear hp2 hq
          go_enter Tryz.func22, Tryz.ntmps22
          go_wp2_with fail
          refine (hcall _).mono ?_
          rintro e w1 ⟨s1, ao1, n1, c1, a1, rfl, hb1, ht1⟩
          have hst := Lib.hid (ht1 t _ rfl)
          clear ht1 hcall
          obtain ⟨r0, r1, r2, f0, f1, f2, hz⟩ := box3 hb1
          have hal := After.new w1 (.cells #[str s1, .slice ao1 n1 c1, .int .i64 a1] 44)
          go_wp2_with fail
          go_region_with (go_at_call 44; refine (s_fsize _ t _ _ _ (Nat.le_refl _) hz3 (SF.after hst.out hal.drew)).mono ?_; rintro e w2 ⟨rfl, hb2⟩; have hb3 := (hb1.trans hal.drew).trans hb2; obtain ⟨p0, p1, p2, p3, p4, p5, p6⟩ := box3 hb3; obtain ⟨q0, q1, q2, q3, q4, q5, q6⟩ := box3 ((After.refl (w1.alloc (.cells #[str s1, .slice ao1 n1 c1, .int .i64 a1] 44))).drew.trans hb2); have hne : w1.heap.size ≠ w.heap.size := by omega)
          all_goals
            go_wp2_with fail
            exact bodyPost_ret (v := .tuple #[.agg #[str s1, .slice ao1 n1 c1, .int .i64 a1], .bool false]) (by simp [results, Tryz.results22, go_sem, p0, p1, p2]; exact h3') rfl
              ⟨s1, ao1, n1, c1, a1, by rw [H.out]; rfl, After.set3 hb3 _ _ _, fun t' he => by rw [H.out] at he; simp at he⟩
      · have H := Lib.hid (show FT.parse l = none by rw [hp2]; simp [hjl])
        have hne : ((j : Int) == (l.length : Int)) = false := by rw [beq_eq_false_iff_ne]; omega
        clear hp2 hq
        go_enter Tryz.func22, Tryz.ntmps22
        go_wp2_with fail
        refine (hcall _).mono ?_
        rintro e w1 ⟨s1, ao1, n1, c1, a1, rfl, hb1, ht1⟩
        clear ht1 hcall
        obtain ⟨r0, r1, r2, f0, f1, f2, hz⟩ := box3 hb1
        go_wp2_with fail
        go_region
        go_wp2_with fail
        exact bodyPost_ret (v := .tuple #[.agg #[str s1, .slice ao1 n1 c1, .int .i64 a1], .bool false]) (by simp [results, Tryz.results22, go_sem, r0, r1, r2, hz]) rfl
          ⟨s1, ao1, n1, c1, a1, by rw [H.out]; rfl, After.drew (After.alloc (After.set3 hb1 _ _ _) _), fun t he => by rw [H.out] at he; simp at he⟩
end Go.Proofs.YtfjohagdlaiapaaGreat

namespace Go.Proofs.YtfjohagdlaiapaaGreat
open Go.RowKit

set_option maxHeartbeats 1000000
set_option maxRecDepth 100000

theorem str_size (l : List UInt8) : (⟨l.toArray⟩ : ByteArray).size = l.length := by show l.toArray.size = _; simp

end Go.Proofs.YtfjohagdlaiapaaGreat

namespace Go.Proofs.YtfjohagdlaiapaaGreat
open Go.RowKit

set_option maxHeartbeats 1000000
set_option maxRecDepth 100000

theorem spec_total (w : World) (l : List UInt8) (hl : l.length ≤ 1000000000) : Calls Tryz.prog 8 #[str l] w (BitPost w (pTotal l)) := by
  have k1 := s_function w l hl
  cases hp : FT.parse l with
  | none =>
    have H := Lib.hid (show pTotal l = false by simp [pTotal, hp])
    unfold S3Fn at k1
    rw [hp] at k1
    clear hp
    go_enter Tryz.func8, Tryz.ntmps8
    go_wp2_with fail
    refine k1.mono ?_
    rintro e w1 ⟨s1, ao1, n1, c1, a1, rfl, hb1, ht1⟩
    clear ht1 k1
    go_wp2_with fail
    go_ret
    exact ⟨by rw [H.out]; rfl, hb1.alloc _⟩
  | some t =>
    have H := Lib.hid (show pTotal l = FT.total t by simp [pTotal, hp])
    have hz := (FT.parse_facts hp).2.1
    unfold S3Fn at k1
    rw [hp] at k1
    clear hp
    go_enter Tryz.func8, Tryz.ntmps8
    go_wp2_with fail
    refine k1.mono ?_
    rintro e w1 ⟨s1, ao1, n1, c1, a1, rfl, hb1, ht1⟩
    have hst := ht1 t rfl
    have k2 := s_ftotal _ t (w1.alloc (.cells #[str s1, .slice ao1 n1 c1, .int .i64 a1] 44)) w.heap.size _ (Nat.le_refl _) (by omega) (hst.after (After.new _ _))
    clear ht1 k1 hst
    go_wp2_with fail
    refine k2.mono ?_
    rintro e w2 ⟨rfl, hb2⟩
    go_wp2_with fail
    go_ret
    exact ⟨by rw [H.out]; rfl, (hb1.alloc _).trans hb2⟩

end Go.Proofs.YtfjohagdlaiapaaGreat
