/-
  How a function text of the model lies in memory.
-/
import Derived.Test.YtjomocjlnjgkeaaGreatPkBF
import Derived.Test.YtjomocjlnjgkeaaGreatPkAE
import Derived.Test.YtjomocjlnjgkeaaGreatPkAD
namespace Go.Proofs.YtjomocjlnjgkeaaGreat
open Go.RowKit

set_option maxHeartbeats 1000000
set_option maxRecDepth 100000

namespace FT
def atomOf : FT → List UInt8
  | z a => [122, UInt8.ofNat (48 + a)]
  | inc => [105, 110, 99]
  | p i a => [112, UInt8.ofNat (48 + i), UInt8.ofNat (48 + a)]
  | r _ _ => [114]
  | m _ => [109]
  | _ => [99]
def partsOf : FT → List FT
  | c1 f g => [f, g]
  | c2 f g h => [f, g, h]
  | c3 f g h i => [f, g, h, i]
  | r f g => [f, g]
  | m f => [f]
  | _ => []

theorem word_atom {s : List UInt8} {t : FT} (h : word s = some t) : s = atomOf t ∧ partsOf t = [] := by
  unfold word at h
  repeat (split at h; · (rename_i hs; cases h; subst hs; exact ⟨rfl, rfl⟩))
  cases h

theorem comb_atom {a : List UInt8} {ps : List FT} {t : FT} (h : comb a ps = some t) : a = atomOf t ∧ partsOf t = ps := by
  unfold comb at h
  split at h
  · rename_i ha
    subst ha
    split at h <;> first | (split at h <;> first | (cases h; exact ⟨rfl, rfl⟩) | cases h) | cases h
  · split at h
    · rename_i ha
      subst ha
      split at h <;> first | (split at h <;> first | (cases h; exact ⟨rfl, rfl⟩) | cases h) | cases h
    · split at h
      · rename_i ha
        subst ha
        split at h <;> first | (split at h <;> first | (cases h; exact ⟨rfl, rfl⟩) | cases h) | cases h
      · cases h

theorem size_parts (t : FT) : size t = 1 + ((partsOf t).map size).sum := by
  cases t <;> simp [size, partsOf]
theorem parts_ok {t : FT} (h : ok t) : ∀ f ∈ partsOf t, ok f := by
  cases t <;> simp only [ok] at h <;> simp [partsOf, h]
end FT

def K3 (get : Nat → Option Value) (j : Nat) (F : Value → Prop) : Prop := ∃ x y z, get (3 * j) = some x ∧ get (3 * j + 1) = some y ∧ get (3 * j + 2) = some z ∧ F (.agg #[x, y, z])

theorem K3.imp {get : Nat → Option Value} {j : Nat} {F F' : Value → Prop} (hF : ∀ v, F v → F' v) : K3 get j F → K3 get j F' := fun ⟨x, y, z, h1, h2, h3, h4⟩ => ⟨x, y, z, h1, h2, h3, hF _ h4⟩

/-- The value v is the function text t as the model has it. -/
def SF (w : World) (B : Nat) : FT → Value → Prop
  | .c1 f g, v => ∃ b cap cs fr, v = .agg #[str [99], .slice (some ⟨b, 0, none⟩) 2 cap, .int .i64 (FT.arity (.c1 f g) : Nat)] ∧ B ≤ b ∧ w.heap[b]? = some (.cells cs 63 fr) ∧ K3 (fun i => cs[i]?) 0 (SF w B f) ∧ K3 (fun i => cs[i]?) 1 (SF w B g)
  | .c2 f g h, v => ∃ b cap cs fr, v = .agg #[str [99], .slice (some ⟨b, 0, none⟩) 3 cap, .int .i64 (FT.arity (.c2 f g h) : Nat)] ∧ B ≤ b ∧ w.heap[b]? = some (.cells cs 63 fr) ∧ K3 (fun i => cs[i]?) 0 (SF w B f) ∧ K3 (fun i => cs[i]?) 1 (SF w B g) ∧ K3 (fun i => cs[i]?) 2 (SF w B h)
  | .c3 f g h k, v => ∃ b cap cs fr, v = .agg #[str [99], .slice (some ⟨b, 0, none⟩) 4 cap, .int .i64 (FT.arity (.c3 f g h k) : Nat)] ∧ B ≤ b ∧ w.heap[b]? = some (.cells cs 63 fr) ∧ K3 (fun i => cs[i]?) 0 (SF w B f) ∧ K3 (fun i => cs[i]?) 1 (SF w B g) ∧ K3 (fun i => cs[i]?) 2 (SF w B h) ∧ K3 (fun i => cs[i]?) 3 (SF w B k)
  | .r f g, v => ∃ b cap cs fr, v = .agg #[str [114], .slice (some ⟨b, 0, none⟩) 2 cap, .int .i64 (FT.arity (.r f g) : Nat)] ∧ B ≤ b ∧ w.heap[b]? = some (.cells cs 63 fr) ∧ K3 (fun i => cs[i]?) 0 (SF w B f) ∧ K3 (fun i => cs[i]?) 1 (SF w B g)
  | .m f, v => ∃ b cap cs fr, v = .agg #[str [109], .slice (some ⟨b, 0, none⟩) 1 cap, .int .i64 (FT.arity (.m f) : Nat)] ∧ B ≤ b ∧ w.heap[b]? = some (.cells cs 63 fr) ∧ K3 (fun i => cs[i]?) 0 (SF w B f)
  | t, v => v = .agg #[str (FT.atomOf t), .slice none 0 0, .int .i64 (FT.arity t : Nat)]

/-- Parts of a function text of the model. -/
def KidsV (w : World) (B : Nat) (sv : Value) (ps : List FT) : Prop :=
  (ps = [] ∧ sv = .slice none 0 0) ∨ ∃ b cap cs fr, ps ≠ [] ∧ sv = .slice (some ⟨b, 0, none⟩) ps.length cap ∧ B ≤ b ∧ w.heap[b]? = some (.cells cs 63 fr) ∧ ∀ j (h : j < ps.length), K3 (fun i => cs[i]?) j (SF w B ps[j])

theorem SF.kids {w : World} {B : Nat} {t : FT} {v : Value} (h : SF w B t v) : ∃ sv, v = .agg #[str (FT.atomOf t), sv, .int .i64 (FT.arity t : Nat)] ∧ KidsV w B sv (FT.partsOf t) := by
  cases t with
  | z a => exact ⟨_, h, Or.inl ⟨rfl, rfl⟩⟩
  | inc => exact ⟨_, h, Or.inl ⟨rfl, rfl⟩⟩
  | p i a => exact ⟨_, h, Or.inl ⟨rfl, rfl⟩⟩
  | c1 f g =>
    obtain ⟨b, cap, cs, fr, hv, hb, hh, k0, k1⟩ := h
    exact ⟨_, hv, Or.inr ⟨b, cap, cs, fr, by simp [FT.partsOf], rfl, hb, hh, fun j hj => by match j, hj with | 0, _ => exact k0 | 1, _ => exact k1⟩⟩
  | c2 f g k =>
    obtain ⟨b, cap, cs, fr, hv, hb, hh, k0, k1, k2⟩ := h
    exact ⟨_, hv, Or.inr ⟨b, cap, cs, fr, by simp [FT.partsOf], rfl, hb, hh, fun j hj => by match j, hj with | 0, _ => exact k0 | 1, _ => exact k1 | 2, _ => exact k2⟩⟩
  | c3 f g k l =>
    obtain ⟨b, cap, cs, fr, hv, hb, hh, k0, k1, k2, k3⟩ := h
    exact ⟨_, hv, Or.inr ⟨b, cap, cs, fr, by simp [FT.partsOf], rfl, hb, hh, fun j hj => by match j, hj with | 0, _ => exact k0 | 1, _ => exact k1 | 2, _ => exact k2 | 3, _ => exact k3⟩⟩
  | r f g =>
    obtain ⟨b, cap, cs, fr, hv, hb, hh, k0, k1⟩ := h
    exact ⟨_, hv, Or.inr ⟨b, cap, cs, fr, by simp [FT.partsOf], rfl, hb, hh, fun j hj => by match j, hj with | 0, _ => exact k0 | 1, _ => exact k1⟩⟩
  | m f =>
    obtain ⟨b, cap, cs, fr, hv, hb, hh, k0⟩ := h
    exact ⟨_, hv, Or.inr ⟨b, cap, cs, fr, by simp [FT.partsOf], rfl, hb, hh, fun j hj => by match j, hj with | 0, _ => exact k0⟩⟩

theorem SF.mk {w : World} {B : Nat} {t : FT} {sv : Value} (h : KidsV w B sv (FT.partsOf t)) : SF w B t (.agg #[str (FT.atomOf t), sv, .int .i64 (FT.arity t : Nat)]) := by
  rcases h with ⟨he, rfl⟩ | ⟨b, cap, cs, fr, hne, rfl, hb, hh, hc⟩
  · cases t <;> first | rfl | simp [FT.partsOf] at he
  · cases t with
    | z a => exact absurd rfl hne
    | inc => exact absurd rfl hne
    | p i a => exact absurd rfl hne
    | c1 f g => exact ⟨b, cap, cs, fr, rfl, hb, hh, hc 0 (by simp [FT.partsOf]), hc 1 (by simp [FT.partsOf])⟩
    | c2 f g k => exact ⟨b, cap, cs, fr, rfl, hb, hh, hc 0 (by simp [FT.partsOf]), hc 1 (by simp [FT.partsOf]), hc 2 (by simp [FT.partsOf])⟩
    | c3 f g k l => exact ⟨b, cap, cs, fr, rfl, hb, hh, hc 0 (by simp [FT.partsOf]), hc 1 (by simp [FT.partsOf]), hc 2 (by simp [FT.partsOf]), hc 3 (by simp [FT.partsOf])⟩
    | r f g => exact ⟨b, cap, cs, fr, rfl, hb, hh, hc 0 (by simp [FT.partsOf]), hc 1 (by simp [FT.partsOf])⟩
    | m f => exact ⟨b, cap, cs, fr, rfl, hb, hh, hc 0 (by simp [FT.partsOf])⟩

/-- A function text of the model in another world, and with another bound. -/
theorem SF.move {w w' : World} {B B' : Nat} (hB : B' ≤ B) (hs : ∀ b, B ≤ b → b < w.heap.size → w'.heap[b]? = w.heap[b]?) : ∀ {t : FT} {v : Value}, SF w B t v → SF w' B' t v := by
  have hk : ∀ {b : Nat} {o : Obj}, B ≤ b → w.heap[b]? = some o → w'.heap[b]? = some o := fun {b o} hb h => by rw [hs b hb (Array.getElem?_eq_some_iff.1 h).1]; exact h
  intro t
  induction t with
  | z _ => exact fun h => h
  | inc => exact fun h => h
  | p _ _ => exact fun h => h
  | c1 f g ihf ihg => rintro v ⟨b, cap, cs, fr, hv, hb, hh, k0, k1⟩; exact ⟨b, cap, cs, fr, hv, Nat.le_trans hB hb, hk hb hh, k0.imp fun _ => ihf, k1.imp fun _ => ihg⟩
  | c2 f g k ihf ihg ihk => rintro v ⟨b, cap, cs, fr, hv, hb, hh, k0, k1, k2⟩; exact ⟨b, cap, cs, fr, hv, Nat.le_trans hB hb, hk hb hh, k0.imp fun _ => ihf, k1.imp fun _ => ihg, k2.imp fun _ => ihk⟩
  | c3 f g k l ihf ihg ihk ihl => rintro v ⟨b, cap, cs, fr, hv, hb, hh, k0, k1, k2, k3⟩; exact ⟨b, cap, cs, fr, hv, Nat.le_trans hB hb, hk hb hh, k0.imp fun _ => ihf, k1.imp fun _ => ihg, k2.imp fun _ => ihk, k3.imp fun _ => ihl⟩
  | r f g ihf ihg => rintro v ⟨b, cap, cs, fr, hv, hb, hh, k0, k1⟩; exact ⟨b, cap, cs, fr, hv, Nat.le_trans hB hb, hk hb hh, k0.imp fun _ => ihf, k1.imp fun _ => ihg⟩
  | m f ihf => rintro v ⟨b, cap, cs, fr, hv, hb, hh, k0⟩; exact ⟨b, cap, cs, fr, hv, Nat.le_trans hB hb, hk hb hh, k0.imp fun _ => ihf⟩

theorem SF.same {w w' : World} {B : Nat} {t : FT} {v : Value} (h : SF w B t v) (hs : ∀ b, B ≤ b → b < w.heap.size → w'.heap[b]? = w.heap[b]?) : SF w' B t v := h.move (Nat.le_refl _) hs
theorem SF.less {w : World} {B B' : Nat} {t : FT} {v : Value} (h : SF w B t v) (hB : B' ≤ B) : SF w B' t v := h.move hB fun _ _ _ => rfl
theorem SF.after {w w' : World} {B : Nat} {t : FT} {v : Value} (h : SF w B t v) (ha : After w w') : SF w' B t v := h.same fun b _ hl => ha.block b hl
theorem KidsV.after {w w' : World} {B : Nat} {sv : Value} {ps : List FT} (h : KidsV w B sv ps) (ha : After w w') : KidsV w' B sv ps := by
  rcases h with h | ⟨b, cap, cs, fr, hne, hv, hb, hh, hc⟩
  · exact Or.inl h
  · exact Or.inr ⟨b, cap, cs, fr, hne, hv, hb, ha.heap hh, fun j hj => (hc j hj).imp fun _ h => h.after ha⟩

theorem SF.form {w : World} {B : Nat} {t : FT} {v : Value} (h : SF w B t v) : ∃ ao n c, v = .agg #[str (FT.atomOf t), .slice ao n c, .int .i64 (FT.arity t : Nat)] := by
  obtain ⟨sv, rfl, hk⟩ := h.kids
  rcases hk with ⟨_, rfl⟩ | ⟨b, cap, cs, fr, _, rfl, _⟩
  · exact ⟨_, _, _, rfl⟩
  · exact ⟨_, _, _, rfl⟩

/-- Blocks from S on below E only. -/
def SFr (w : World) (S E : Nat) (t : FT) (v : Value) : Prop := ∀ w'' : World, (∀ k, S ≤ k → k < E → w''.heap[k]? = w.heap[k]?) → SF w'' S t v
theorem SF.ranged {w : World} {S : Nat} {t : FT} {v : Value} (h : SF w S t v) : SFr w S w.heap.size t v := fun _ hk => h.same hk
theorem SFr.keep {w w' : World} {S E : Nat} {t : FT} {v : Value} (h : SFr w S E t v) (hk : ∀ k, S ≤ k → k < E → w'.heap[k]? = w.heap[k]?) : SFr w' S E t v := fun w'' h2 => h w'' fun k h1 h3 => (h2 k h1 h3).trans (hk k h1 h3)
theorem SFr.sf {w : World} {S E : Nat} {t : FT} {v : Value} (h : SFr w S E t v) : SF w S t v := h w fun _ _ _ => rfl

/-- A row of parts that may grow, the model's. -/
def RowS (w : World) (base : Nat) (sv : Value) (ps : List FT) (xs : List Value) : Prop :=
  w.ownsRow base 63 3 sv ps.length xs ∧ (ps = [] → sv = .slice none 0 0) ∧ ∀ j (h : j < ps.length), ∃ S E, base ≤ S ∧ E ≤ w.heap.size ∧ (∀ g, sv.ownBlock = some g → g < S ∨ E ≤ g) ∧ K3 (fun i => xs[i]?) j (SFr w S E ps[j])

theorem RowS.nil (w : World) (base : Nat) : RowS w base (.slice none 0 0) [] [] := ⟨World.ownsRow_nil w base _ _, fun _ => rfl, fun j h => absurd h (by simp)⟩

theorem RowS.grown {w w' : World} {base b : Nat} {sv : Value} {ps : List FT} {xs : List Value} (h : RowS w base sv ps xs) (hg : w.grownBy w' (some b)) (hb : b < base) : RowS w' base sv ps xs := by
  refine ⟨h.1.kept hg ?_, h.2.1, fun j hj => ?_⟩
  · cases hv : sv.ownBlock with
    | none => exact Or.inl rfl
    | some g => exact Or.inr (fun e => by injection e with e; have := (h.1.lt g hv).1; omega)
  · obtain ⟨S, E, h2, h3, h4, h5⟩ := h.2.2 j hj
    exact ⟨S, E, h2, Nat.le_trans h3 hg.size, h4, h5.imp fun _ h => h.keep fun k hk1 hk2 => hg.block k (by omega) (fun e => by injection e with e; omega)⟩

theorem RowS.push {w w' : World} {base S : Nat} {sv v' x y z : Value} {ps : List FT} {xs : List Value} {t : FT} (h : RowS w base sv ps xs) (hS : base ≤ S) (hgS : ∀ g, sv.ownBlock = some g → g < S) (ht : SF w S t (.agg #[x, y, z])) (o : Obj)
    (ho : w'.ownsRow base 63 3 v' (ps.length + 1) (xs ++ [x, y, z])) (hg : (w.alloc o).grownBy w' sv.ownBlock) (hw : v'.ownBlock = sv.ownBlock ∨ v'.ownBlock = some (w.alloc o).heap.size) :
    RowS w' base v' (ps ++ [t]) (xs ++ [x, y, z]) := by
  have hxl : xs.length = 3 * ps.length := by have := h.1.1; omega
  have hsz : (w.alloc o).heap.size = w.heap.size + 1 := by simp
  have hkeep : ∀ k, k < w.heap.size → (∀ g, sv.ownBlock = some g → k ≠ g) → w'.heap[k]? = w.heap[k]? := fun k hk hne => by
    rw [hg.block k (by omega) (fun e => hne k e.symm rfl)]
    exact (below_new w o).block k hk
  refine ⟨by rw [List.length_append]; exact ho, fun e => by simp at e, fun j hj => ?_⟩
  by_cases hjl : j < ps.length
  · obtain ⟨S', E, h2, h3, h4, x1, y1, z1, e1, e2, e3, h5⟩ := h.2.2 j hjl
    refine ⟨S', E, h2, by have := hg.size; omega, fun g hg' => ?_, x1, y1, z1, ?_, ?_, ?_, ?_⟩
    · rcases hw with hw | hw
      · exact h4 g (hw ▸ hg')
      · rw [hw] at hg'; injection hg' with hg'; right; omega
    · show (xs ++ [x, y, z])[3 * j]? = _
      rw [List.getElem?_append_left (by omega)]; exact e1
    · show (xs ++ [x, y, z])[3 * j + 1]? = _
      rw [List.getElem?_append_left (by omega)]; exact e2
    · show (xs ++ [x, y, z])[3 * j + 2]? = _
      rw [List.getElem?_append_left (by omega)]; exact e3
    · rw [List.getElem_append_left hjl]
      exact h5.keep fun k hk1 hk2 => hkeep k (by omega) (fun g hg' e => by have := h4 g hg'; omega)
  · have hj' : j = ps.length := by rw [List.length_append, List.length_singleton] at hj; omega
    subst hj'
    refine ⟨S, w.heap.size, hS, by have := hg.size; omega, fun g hg' => ?_, x, y, z, ?_, ?_, ?_, ?_⟩
    · rcases hw with hw | hw
      · exact Or.inl (hgS g (hw ▸ hg'))
      · rw [hw] at hg'; injection hg' with hg'; right; omega
    · show (xs ++ [x, y, z])[3 * ps.length]? = _
      rw [List.getElem?_append_right (by omega), hxl, Nat.sub_self]; rfl
    · show (xs ++ [x, y, z])[3 * ps.length + 1]? = _
      rw [List.getElem?_append_right (by omega), hxl, show 3 * ps.length + 1 - 3 * ps.length = 1 by omega]; rfl
    · show (xs ++ [x, y, z])[3 * ps.length + 2]? = _
      rw [List.getElem?_append_right (by omega), hxl, show 3 * ps.length + 2 - 3 * ps.length = 2 by omega]; rfl
    · simp only [List.getElem_concat_length]
      exact ht.ranged.keep fun k hk1 hk2 => hkeep k hk2 (fun g hg' e => by have := hgS g hg'; omega)

theorem RowS.kids {w : World} {base B : Nat} {sv : Value} {ps : List FT} {xs : List Value} (h : RowS w base sv ps xs) (hB : B ≤ base) : KidsV w B sv ps := by
  obtain ⟨ho, hn, hc⟩ := h
  by_cases hp : ps = []
  · exact Or.inl ⟨hp, hn hp⟩
  rcases ho.2 with ⟨h1, h2⟩ | ⟨g, cap, cur, hv, hb, hh, hle, _, hcs, hct⟩
  · exact absurd (List.length_eq_zero_iff.1 h2) hp
  · refine Or.inr ⟨g, cap, cur, _, hp, hv, Nat.le_trans hB hb, hh, fun j hj => ?_⟩
    obtain ⟨S, E, h2, _, _, x, y, z, e1, e2, e3, h5⟩ := hc j hj
    have hat : ∀ i v, i < ps.length * 3 → xs[i]? = some v → cur[i]? = some v := fun i v hi e => by
      rw [← hct, List.getElem?_take, if_pos hi] at e
      simpa using e
    exact ⟨x, y, z, hat _ _ (by omega) e1, hat _ _ (by omega) e2, hat _ _ (by omega) e3, h5.sf.less (by omega)⟩
end Go.Proofs.YtjomocjlnjgkeaaGreat

namespace Go.Proofs.YtjomocjlnjgkeaaGreat
open Go.RowKit

set_option maxHeartbeats 1000000
set_option maxRecDepth 100000

def digI (c : UInt8) : Int := if (48 : Int) ≤ (c.toNat : Int) ∧ (c.toNat : Int) ≤ 51 then (c.toNat : Int) - 48 else -1

theorem s_digit (w : World) (c : UInt8) (n : Int) (hn : n = c.toNat) : Calls Tryz.prog 72 #[.int .u8 n] w fun e w' => e = .returned (.int .i64 (digI c)) ∧ ∃ m, w' = w.drewN m := by
  subst hn
  have hlt : (c.toNat : Int) < 256 := by have := c.toNat_lt; omega
  by_cases h1 : (c.toNat : Int) < 48
  · have hd : digI c = -1 := by unfold digI; rw [if_neg (by omega)]
    rw [hd]
    clear hd
    go_enter Tryz.func72, Tryz.ntmps72
    go_wp2_with fail
    go_ret
    exact ⟨rfl, 0, rfl⟩
  · by_cases h2 : (51 : Int) < (c.toNat : Int)
    · have hd : digI c = -1 := by unfold digI; rw [if_neg (by omega)]
      rw [hd]
      clear hd
      go_enter Tryz.func72, Tryz.ntmps72
      go_wp2_with fail
      go_ret
      exact ⟨rfl, 0, rfl⟩
    · have hd : digI c = (c.toNat : Int) - 48 := by unfold digI; rw [if_pos (by omega)]
      have hw2 : IntKind.i64.wrap ((c.toNat : Int) - 48) = (c.toNat : Int) - 48 := IntWalk.i64_in _ (by omega)
      rw [hd]
      clear hd
      go_enter Tryz.func72, Tryz.ntmps72
      go_wp2_with fail
      go_ret
      exact ⟨rfl, 0, rfl⟩

theorem digI_cases (c : UInt8) : digI c = -1 ∧ c ≠ 48 ∧ c ≠ 49 ∧ c ≠ 50 ∧ c ≠ 51 ∨ c = 48 ∨ c = 49 ∨ c = 50 ∨ c = 51 := by
  by_cases h0 : c = 48
  · exact Or.inr (Or.inl h0)
  by_cases h1 : c = 49
  · exact Or.inr (Or.inr (Or.inl h1))
  by_cases h2 : c = 50
  · exact Or.inr (Or.inr (Or.inr (Or.inl h2)))
  by_cases h3 : c = 51
  · exact Or.inr (Or.inr (Or.inr (Or.inr h3)))
  refine Or.inl ⟨?_, h0, h1, h2, h3⟩
  have hn : ∀ k : UInt8, c ≠ k → c.toNat ≠ k.toNat := fun k hk e => hk (UInt8.toNat_inj.1 e)
  have e0 := hn 48 h0
  have e1 := hn 49 h1
  have e2 := hn 50 h2
  have e3 := hn 51 h3
  unfold digI
  rw [if_neg]
  rintro ⟨g1, g2⟩
  have : c.toNat = 48 ∨ c.toNat = 49 ∨ c.toNat = 50 ∨ c.toNat = 51 := by omega
  rcases this with h | h | h | h
  · exact e0 h
  · exact e1 h
  · exact e2 h
  · exact e3 h

theorem digI_le (c : UInt8) : -1 ≤ digI c ∧ digI c ≤ 3 := by
  rcases digI_cases c with ⟨h, _⟩ | rfl | rfl | rfl | rfl
  · rw [h]; omega
  · decide
  · decide
  · decide
  · decide

/-- The words of two letters. -/
theorem word2 (c0 c1 : UInt8) : FT.word [c0, c1] = if c0 = 122 ∧ 0 ≤ digI c1 then some (.z (digI c1).toNat) else none := by
  by_cases h0 : c0 = 122
  · subst h0
    rcases digI_cases c1 with ⟨h, n0, n1, n2, n3⟩ | rfl | rfl | rfl | rfl
    · rw [if_neg (by rw [h]; omega)]
      simp [FT.word, n0, n1, n2, n3]
    all_goals rfl
  · rw [if_neg (by simp [h0])]
    simp [FT.word, h0]

theorem word2_z {c0 c1 : UInt8} (h0 : c0 = 122) (h1 : 0 ≤ digI c1) : FT.atomOf (.z (digI c1).toNat) = [c0, c1] ∧ (FT.arity (.z (digI c1).toNat) : Int) = digI c1 := by
  subst h0
  rcases digI_cases c1 with ⟨h, _⟩ | rfl | rfl | rfl | rfl
  · omega
  all_goals exact ⟨by decide +kernel, by decide +kernel⟩

/-- The words of three letters. -/
theorem word3 (c0 c1 c2 : UInt8) (hne : [c0, c1, c2] ≠ [105, 110, 99]) : FT.word [c0, c1, c2] = if c0 = 112 ∧ 0 ≤ digI c1 ∧ digI c1 < digI c2 then some (.p (digI c1).toNat (digI c2).toNat) else none := by
  by_cases h0 : c0 = 112
  · subst h0
    rcases digI_cases c1 with ⟨h, n0, n1, n2, n3⟩ | rfl | rfl | rfl | rfl
    · rw [if_neg (by rw [h]; omega)]
      simp [FT.word, n0, n1, n2, n3]
    all_goals
      rcases digI_cases c2 with ⟨h, m0, m1, m2, m3⟩ | rfl | rfl | rfl | rfl
      · rw [if_neg (by rw [h]; decide)]
        first | simp [FT.word, m1, m2, m3] | simp [FT.word, m2, m3] | simp [FT.word, m3] | simp [FT.word]
      all_goals rfl
  · rw [if_neg (by simp [h0])]
    have h1 : ¬ (c0 = 105 ∧ c1 = 110 ∧ c2 = 99) := fun h => hne (by rw [h.1, h.2.1, h.2.2])
    simp [FT.word, h0, h1]

theorem word3_p {c0 c1 c2 : UInt8} (h0 : c0 = 112) (h1 : 0 ≤ digI c1) (h2 : digI c1 < digI c2) : FT.atomOf (.p (digI c1).toNat (digI c2).toNat) = [c0, c1, c2] ∧ (FT.arity (.p (digI c1).toNat (digI c2).toNat) : Int) = digI c2 := by
  subst h0
  rcases digI_cases c1 with ⟨h, _⟩ | rfl | rfl | rfl | rfl
  · omega
  all_goals
    rcases digI_cases c2 with ⟨h, _⟩ | rfl | rfl | rfl | rfl
    · rw [h] at h2; exact absurd h2 (by decide)
    all_goals exact ⟨by decide +kernel, by decide +kernel⟩

theorem word_long (l : List UInt8) (h2 : l.length ≠ 2) (h3 : l.length ≠ 3) : FT.word l = none := by
  match l, h2, h3 with
  | [], _, _ => rfl
  | [_], _, _ => simp [FT.word]
  | _ :: _ :: _ :: _ :: _, _, _ => simp [FT.word]

def S3Word (w : World) (o : Option FT) (e : Ending) (w' : World) : Prop :=
  ∃ s ao n c a, e = .returned (.tuple #[.agg #[str s, .slice ao n c, .int .i64 a], .bool o.isSome]) ∧ After w w' ∧ ∀ t, o = some t → SF w' w.heap.size t (.agg #[str s, .slice ao n c, .int .i64 a])

theorem S3Word.no {w w' : World} {o : Option FT} (ho : o = none) (h : After w w') : S3Word w o (.returned (.tuple #[.agg #[.string ⟨#[]⟩, .slice none 0 0, .int .i64 0], .bool false])) w' :=
  ⟨[], none, 0, 0, 0, by rw [ho]; rfl, h, fun t ht => by rw [ho] at ht; cases ht⟩

/-- What stands in a result's box behind its store. -/
theorem After.set3 {w W : World} {o : Obj} (h : After (w.alloc o) W) (x y z : Value) : After w (((W.setCell ⟨w.heap.size, 0, none⟩ x).setCell ⟨w.heap.size, 1, none⟩ y).setCell ⟨w.heap.size, 2, none⟩ z) :=
  ((Below.setCell ((After.new w o).trans h) (Nat.le_refl _) x).setCell (Nat.le_refl _) y).setCell (p := ⟨w.heap.size, 2, none⟩) (Nat.le_refl _) z

theorem sw_2 (w : World) (c0 c1 : UInt8) : Calls Tryz.prog 98 #[str [c0, c1]] w (S3Word w (FT.word [c0, c1])) := by
  have hneq : ([c0, c1] == [105, 110, 99]) = false := by simp
  have hd := digI_le c1
  by_cases h0 : c0 = 122
  · have e0 : ((c0.toNat : Int) == 122) = true := by rw [h0]; rfl
    by_cases h1 : 0 ≤ digI c1
    · have H := Lib.hid (show FT.word [c0, c1] = some (.z (digI c1).toNat) by rw [word2, if_pos ⟨h0, h1⟩])
      have HZ := Lib.hid (word2_z h0 h1)
      have hb : ∀ h, digI (({ data := #[c0, c1] } : ByteArray)[1]'h) = digI c1 := fun _ => rfl
      have hb0 : ∀ h, ((({ data := #[c0, c1] } : ByteArray)[0]'h).toNat : Int) = 122 := fun _ => by rw [h0]; rfl
      clear h0 e0
      generalize digI c1 = d at *
      go_enter Tryz.func98, Tryz.ntmps98
      go_wp2_with (go_at_call 72; refine (s_digit _ _ _ rfl).mono ?_; rintro e w' ⟨rfl, _, rfl⟩)
      exact bodyPost_ret (v := .tuple #[.agg #[str [c0, c1], .slice none 0 0, .int .i64 d], .bool true]) (by simp [results, Tryz.results98, go_sem]) rfl
        ⟨[c0, c1], none, 0, 0, d, by rw [H.out]; rfl, After.set3 (below_drews (After.refl _) _) _ _ _, fun t ht => by
          rw [H.out] at ht
          obtain rfl := Option.some.inj ht
          show _ = _
          rw [HZ.out.1, HZ.out.2]⟩
    · have H := Lib.hid (show FT.word [c0, c1] = none by rw [word2, if_neg (fun h => h1 h.2)])
      have hb : ∀ h, digI (({ data := #[c0, c1] } : ByteArray)[1]'h) = digI c1 := fun _ => rfl
      have hb0 : ∀ h, ((({ data := #[c0, c1] } : ByteArray)[0]'h).toNat : Int) = 122 := fun _ => by rw [h0]; rfl
      clear h0 e0
      generalize digI c1 = d at *
      go_enter Tryz.func98, Tryz.ntmps98
      go_wp2_with (go_at_call 72; refine (s_digit _ _ _ rfl).mono ?_; rintro e w' ⟨rfl, _, rfl⟩)
      go_quiet (fail)
      go_wp2_with fail
      exact bodyPost_ret (v := .tuple #[.agg #[.string ⟨#[]⟩, .slice none 0 0, .int .i64 0], .bool false]) (by simp [results, Tryz.results98, go_sem]) rfl (S3Word.no H.out (After.set3 (by first | exact below_drews (After.refl _) _ | exact below_drews (below_drews (After.refl _) _) _ | exact After.refl _) _ _ _))
  · have H := Lib.hid (show FT.word [c0, c1] = none by rw [word2, if_neg (fun h => h0 h.1)])
    have hb0 : ∀ h, (((({ data := #[c0, c1] } : ByteArray)[0]'h).toNat : Int) == 122) = false := fun _ => by
      show ((c0.toNat : Int) == 122) = false
      rw [beq_eq_false_iff_ne]
      exact fun e => h0 (UInt8.toNat_inj.1 (by show c0.toNat = 122; omega))
    clear h0
    go_enter Tryz.func98, Tryz.ntmps98
    go_wp2_with fail
    go_quiet (fail)
    go_wp2_with fail
    exact bodyPost_ret (v := .tuple #[.agg #[.string ⟨#[]⟩, .slice none 0 0, .int .i64 0], .bool false]) (by simp [results, Tryz.results98, go_sem]) rfl (S3Word.no H.out (After.set3 (by first | exact below_drews (After.refl _) _ | exact below_drews (below_drews (After.refl _) _) _ | exact After.refl _) _ _ _))

theorem sw_inc (w : World) : Calls Tryz.prog 98 #[str [105, 110, 99]] w (S3Word w (some .inc)) := by
  go_enter Tryz.func98, Tryz.ntmps98
  go_wp2_with fail
  exact bodyPost_ret (v := .tuple #[.agg #[str [105, 110, 99], .slice none 0 0, .int .i64 1], .bool true]) (by simp [results, Tryz.results98, go_sem]) rfl
    ⟨[105, 110, 99], none, 0, 0, 1, rfl, After.new _ _, fun t ht => by obtain rfl := Option.some.inj ht; rfl⟩

theorem sw_3 (w : World) (c0 c1 c2 : UInt8) (hinc : [c0, c1, c2] ≠ [105, 110, 99]) : Calls Tryz.prog 98 #[str [c0, c1, c2]] w (S3Word w (FT.word [c0, c1, c2])) := by
  have hneq : ([c0, c1, c2] == [105, 110, 99]) = false := beq_eq_false_iff_ne.2 hinc
  have hd1 := digI_le c1
  have hd2 := digI_le c2
  have hb1 : ∀ h, digI (({ data := #[c0, c1, c2] } : ByteArray)[1]'h) = digI c1 := fun _ => rfl
  have hb2 : ∀ h, digI (({ data := #[c0, c1, c2] } : ByteArray)[2]'h) = digI c2 := fun _ => rfl
  by_cases h0 : c0 = 112
  · have hb0 : ∀ h, ((({ data := #[c0, c1, c2] } : ByteArray)[0]'h).toNat : Int) = 112 := fun _ => by rw [h0]; rfl
    by_cases h1 : 0 ≤ digI c1
    · by_cases h2 : digI c1 < digI c2
      · have H := Lib.hid (show FT.word [c0, c1, c2] = some (.p (digI c1).toNat (digI c2).toNat) by rw [word3 _ _ _ hinc, if_pos ⟨h0, h1, h2⟩])
        have HZ := Lib.hid (word3_p h0 h1 h2)
        clear h0 hinc
        generalize digI c1 = d1 at *
        generalize digI c2 = d2 at *
        go_enter Tryz.func98, Tryz.ntmps98
        go_wp2_with fail
        go_quiet ((go_at_call 72; exact Calls.quiet_of (s_digit _ _ _ rfl)))
        go_wp2_with (go_at_call 72; refine (s_digit _ _ _ rfl).mono ?_; rintro e w' ⟨rfl, _, rfl⟩)
        exact bodyPost_ret (v := .tuple #[.agg #[str [c0, c1, c2], .slice none 0 0, .int .i64 d2], .bool true]) (by simp [results, Tryz.results98, go_sem]) rfl
          ⟨[c0, c1, c2], none, 0, 0, d2, by rw [H.out]; rfl, After.set3 (below_drews (After.refl _) _) _ _ _, fun t ht => by
            rw [H.out] at ht
            obtain rfl := Option.some.inj ht
            show _ = _
            rw [HZ.out.1, HZ.out.2]⟩
      · have H := Lib.hid (show FT.word [c0, c1, c2] = none by rw [word3 _ _ _ hinc, if_neg (fun h => h2 h.2.2)])
        clear h0 hinc
        generalize digI c1 = d1 at *
        generalize digI c2 = d2 at *
        go_enter Tryz.func98, Tryz.ntmps98
        go_wp2_with fail
        go_quiet ((go_at_call 72; exact Calls.quiet_of (s_digit _ _ _ rfl)))
        go_wp2_with fail
        exact bodyPost_ret (v := .tuple #[.agg #[.string ⟨#[]⟩, .slice none 0 0, .int .i64 0], .bool false]) (by simp [results, Tryz.results98, go_sem]) rfl (S3Word.no H.out (After.set3 (by first | exact below_drews (After.refl _) _ | exact below_drews (below_drews (After.refl _) _) _ | exact After.refl _) _ _ _))
    · have H := Lib.hid (show FT.word [c0, c1, c2] = none by rw [word3 _ _ _ hinc, if_neg (fun h => h1 h.2.1)])
      have h1d : decide (0 ≤ digI c1) = false := decide_eq_false h1
      clear h0 hinc
      generalize digI c1 = d1 at *
      generalize digI c2 = d2 at *
      go_enter Tryz.func98, Tryz.ntmps98
      go_wp2_with fail
      go_quiet ((go_at_call 72; exact Calls.quiet_of (s_digit _ _ _ rfl)))
      go_wp2_with fail
      exact bodyPost_ret (v := .tuple #[.agg #[.string ⟨#[]⟩, .slice none 0 0, .int .i64 0], .bool false]) (by simp [results, Tryz.results98, go_sem]) rfl (S3Word.no H.out (After.set3 (by first | exact below_drews (After.refl _) _ | exact below_drews (below_drews (After.refl _) _) _ | exact After.refl _) _ _ _))
  · have H := Lib.hid (show FT.word [c0, c1, c2] = none by rw [word3 _ _ _ hinc, if_neg (fun h => h0 h.1)])
    have hb0 : ∀ h, (((({ data := #[c0, c1, c2] } : ByteArray)[0]'h).toNat : Int) == 112) = false := fun _ => by
      show ((c0.toNat : Int) == 112) = false
      rw [beq_eq_false_iff_ne]
      exact fun e => h0 (UInt8.toNat_inj.1 (by show c0.toNat = 112; omega))
    clear h0 hinc hb1 hb2
    go_enter Tryz.func98, Tryz.ntmps98
    go_wp2_with fail
    go_quiet (fail)
    go_wp2_with fail
    exact bodyPost_ret (v := .tuple #[.agg #[.string ⟨#[]⟩, .slice none 0 0, .int .i64 0], .bool false]) (by simp [results, Tryz.results98, go_sem]) rfl (S3Word.no H.out (After.set3 (by first | exact below_drews (After.refl _) _ | exact below_drews (below_drews (After.refl _) _) _ | exact After.refl _) _ _ _))

theorem sw_long (w : World) (l : List UInt8) (h2 : l.length ≠ 2) (h3 : l.length ≠ 3) (_hl : l.length ≤ 1000000000) : Calls Tryz.prog 98 #[str l] w (S3Word w (FT.word l)) := by
  have hsz : (⟨l.toArray⟩ : ByteArray).size = l.length := by show l.toArray.size = _; simp
  have hneq : (l == [105, 110, 99]) = false := beq_eq_false_iff_ne.2 (fun e => h3 (by rw [e]; rfl))
  have e2 : ((l.length : Int) == 2) = false := beq_eq_false_iff_ne.2 (by omega)
  have e3 : ((l.length : Int) == 3) = false := beq_eq_false_iff_ne.2 (by omega)
  have H := Lib.hid (word_long l h2 h3)
  clear h2 h3
  go_enter Tryz.func98, Tryz.ntmps98
  go_wp2_with fail
  go_quiet (fail)
  go_wp2_with fail
  exact bodyPost_ret (v := .tuple #[.agg #[.string ⟨#[]⟩, .slice none 0 0, .int .i64 0], .bool false]) (by simp [results, Tryz.results98, go_sem]) rfl (S3Word.no H.out (After.set3 (by first | exact below_drews (After.refl _) _ | exact below_drews (below_drews (After.refl _) _) _ | exact After.refl _) _ _ _))

theorem s_word (w : World) (l : List UInt8) (hl : l.length ≤ 1000000000) : Calls Tryz.prog 98 #[str l] w (S3Word w (FT.word l)) := by
  match l, hl with
  | [a, b], _ => exact sw_2 w a b
  | [a, b, c], _ =>
    by_cases h : [a, b, c] = [105, 110, 99]
    · rw [h]; exact sw_inc w
    · exact sw_3 w a b c h
  | [], hl => exact sw_long w [] (by simp) (by simp) hl
  | [a], hl => exact sw_long w [a] (by simp) (by simp) hl
  | a :: b :: c :: d :: r, hl => exact sw_long w _ (by simp) (by simp) hl
end Go.Proofs.YtjomocjlnjgkeaaGreat

namespace Go.Proofs.YtjomocjlnjgkeaaGreat
open Go.RowKit

set_option maxHeartbeats 2000000
set_option maxRecDepth 100000

def SkipF (w : World) (b : Nat) (l : List UInt8) (i n : Nat) (r : Bool) (e : Ending) (w' : World) : Prop :=
  e = .returned (.bool r) ∧ w.grownBy w' (some b) ∧ FRd w' b l (if r then i + 1 else i) n

theorem skipF (w : World) (b i n : Nat) (l : List UInt8) (m : Int) (c : UInt8) (hm : m = c.toNat) (h : FRd w b l i n) (hl : l.length ≤ 1000000000) (hi : i ≤ l.length) :
    Calls Tryz.prog 94 #[.pointer (some ⟨b, 0, none⟩), .int .u8 m] w (SkipF w b l i n (decide (l[i]? = some c))) := by
  refine (skip_on w b i l m c hm _ _ h rfl rfl hl hi).mono ?_
  rintro e w' ⟨h1, h2, h3⟩
  refine ⟨h1, h2, ?_⟩
  unfold FRd
  rw [h3]
  cases decide (l[i]? = some c) <;> rfl

theorem pread_facts (l : List UInt8) {d i k j k' : Nat} {t : FT} (hi : i ≤ l.length) (h : FT.pread l d i k = some (t, j, k')) : FT.ok t ∧ i + 1 ≤ j ∧ j ≤ l.length ∧ FT.size t + k' = k := by
  obtain ⟨h1, h2⟩ := FT.pread_m l d d i k t j k' (Nat.le_refl _) h
  obtain ⟨g1, g2, g3, _⟩ := FT.mread_facts l d i t j hi h1
  exact ⟨g1, g2, g3, h2⟩

def FReadPost (w : World) (b : Nat) (l : List UInt8) (o : Option (FT × Nat × Nat)) (e : Ending) (w' : World) : Prop :=
  ∃ v, e = .returned (.tuple #[v, .bool o.isSome]) ∧ w.grownBy w' (some b) ∧ ∀ t j k', o = some (t, j, k') → (∃ n', FRd w' b l j n' ∧ n' + k' = 40) ∧ CV w' w.heap.size t v

theorem FReadPost.no {w w' : World} {b : Nat} {l : List UInt8} {o : Option (FT × Nat × Nat)} (ho : o = none) (hg : w.grownBy w' (some b)) (v : Value) : FReadPost w b l o (.returned (.tuple #[v, .bool false])) w' :=
  ⟨v, by rw [ho]; rfl, hg, fun t j k' h => by rw [ho] at h; cases h⟩

theorem grown_after {w W : World} {b : Nat} (h : After w W) : w.grownBy W (some b) := ⟨h.os, h.tape, h.output, h.size, fun k hk _ => h.block k hk⟩

theorem grown_own {w a c : World} {b g : Nat} (h1 : w.grownBy a (some b)) (h2 : a.grownBy c (some g)) (hg : w.heap.size ≤ g) : w.grownBy c (some b) :=
  ⟨h2.os.trans h1.os, h2.tape.trans h1.tape, h2.output.trans h1.output, Nat.le_trans h1.size h2.size, fun k hk hne => by
    rw [h2.block k (Nat.lt_of_lt_of_le hk h1.size) (fun e => by injection e with e; omega)]
    exact h1.block k hk hne⟩

theorem fread_word (l : List UInt8) (hl : l.length ≤ 1000000000) (d k : Nat) (w : World) (b i n : Nat) (hi : i ≤ l.length) (h : FRd w b l i n) (hn : n + (k + 1) = 40) (h0 : ¬ l[i]? = some 40) :
    Calls Tryz.prog 69 #[.pointer (some ⟨b, 0, none⟩)] w (FReadPost w b l (FT.pread l (d + 1) i (k + 1))) := by
  have hfin : FT.pread l (d + 1) i (k + 1) = match FT.word (FT.sl l i (Tm.atomEnd l i)) with
      | none => none
      | some t => some (t, Tm.atomEnd l i, k) := by
    simp only [FT.pread, if_neg h0]
    cases FT.word (FT.sl l i (Tm.atomEnd l i)) <;> rfl
  have hlt := h.lt
  have c2 : w.cell? ⟨b, 2, none⟩ = some (.int .i64 (n : Nat)) := cell_of_heap h
  have f2 : w.frozen? ⟨b, 2, none⟩ = false := by unfold FRd at h; simp [World.frozen?, h]
  have hW1 : ∀ m : Int, m = (n : Int) + 1 → FRd (w.setCell ⟨b, 2, none⟩ (.int .i64 m)) b l i (n + 1) := fun m hm => by
    rw [hm, show (n : Int) + 1 = ((n + 1 : Nat) : Int) by omega]; exact h.set2 (n + 1)
  obtain ⟨W1, hWe⟩ : ∃ W1, W1 = w.setCell ⟨b, 2, none⟩ (.int .i64 ((n : Int) + 1)) := ⟨_, rfl⟩
  have h1 : FRd W1 b l i (n + 1) := by rw [hWe]; exact hW1 _ rfl
  have g1 : w.grownBy W1 (some b) := by rw [hWe]; exact grown_setx _ _ _ _
  have hd1 : W1.cell? ⟨b, 2, none⟩ = some (.int .i64 ((n : Int) + 1)) := by have := cell_of_heap (i := 2) h1; simpa using this
  have k1 := skipF W1 b i (n + 1) l 40 40 rfl h1 hl hi
  rw [show decide (l[i]? = some 40) = false by simp [h0]] at k1
  have hn1 : n ≤ 39 := by omega
  have hn40 : ¬ ((40 : Int) < (n : Int) + 1) := by omega
  have HF := Lib.hid hfin
  have HWE := Lib.hid hWe
  have HL := Lib.hid hlt
  have HN := Lib.hid hn
  rw [hWe] at hd1
  clear hfin h hW1 hWe h1 hn hlt
  go_enter Tryz.func69, Tryz.ntmps69
  go_wp2_with fail
  rw [← HWE.out]
  refine k1.mono ?_
  rintro e w2 ⟨rfl, g2, h2⟩
  have k2 := readWord_any w2 b i (n + 1) l h2 hl hi
  clear k1 c2 f2 hd1
  go_wp2_with fail
  refine k2.mono ?_
  rintro e w3 ⟨rfl, g3, h3⟩
  have h3l := h3.lt
  have gg := grown_trans g1 (grown_trans g2 g3)
  have k3 := wordF_any w3 w.heap.size (FT.sl l i (Tm.atomEnd l i)) gg.size
  have H3 := Lib.hid h3
  clear k2 h2 h3
  go_wp2_with fail
  refine k3.mono ?_
  rintro e w4 ⟨v4, rfl, a4, hv4⟩
  have HV := Lib.hid hv4
  clear hv4 k3
  go_wp2_with fail
  go_ret2
  refine ⟨v4, ?_, grown_trans gg (grown_after a4), fun t j k' ht => ?_⟩
  · rw [HF.out]
    cases FT.word (FT.sl l i (Tm.atomEnd l i)) <;> rfl
  · rw [HF.out] at ht
    cases hw : FT.word (FT.sl l i (Tm.atomEnd l i)) with
    | none => rw [hw] at ht; cases ht
    | some u =>
      rw [hw] at ht
      simp only [Option.some.injEq, Prod.mk.injEq] at ht
      obtain ⟨rfl, rfl, rfl⟩ := ht
      exact ⟨⟨n + 1, H3.out.after a4, by have := HN.out; omega⟩, HV.out u hw⟩

theorem fread_zero (l : List UInt8) (d : Nat) (w : World) (b i n : Nat) (h : FRd w b l i n) (hn : n = 40) :
    Calls Tryz.prog 69 #[.pointer (some ⟨b, 0, none⟩)] w (FReadPost w b l (FT.pread l d i 0)) := by
  subst hn
  have hfin : FT.pread l d i 0 = none := by cases d <;> simp [FT.pread]
  have c2 : w.cell? ⟨b, 2, none⟩ = some (.int .i64 40) := cell_of_heap h
  have f2 : w.frozen? ⟨b, 2, none⟩ = false := by unfold FRd at h; simp [World.frozen?, h]
  have d2 : (w.setCell ⟨b, 2, none⟩ (.int .i64 41)).cell? ⟨b, 2, none⟩ = some (.int .i64 41) := cell_of_heap (i := 2) (h.set2 41)
  have HF := Lib.hid hfin
  clear hfin h
  go_enter Tryz.func69, Tryz.ntmps69
  go_wp2_with fail
  go_ret2
  exact FReadPost.no HF.out (grown_setx _ _ _ _) _

/-- What holds ahead of each round of read's loop. -/
def FLoop (l : List UInt8) (d : Nat) (R : Option (List FT × Nat × Nat)) (w3 : World) (b K : Nat) (sv : Value) (wr : World) : Prop :=
  ∃ fuel m k' n' ps xs, FT.pparts (FT.pread l d) l fuel m k' ps = R ∧ m ≤ l.length ∧ l.length < fuel + m ∧ k' ≤ d ∧ n' + k' = 40 ∧ FRd wr b l m n' ∧ RowV wr w3.heap.size sv ps xs ∧ w3.grownBy wr (some b) ∧ (∀ f ∈ ps, FT.ok f) ∧ (ps.map FT.size).sum + k' = K

theorem ok_len : ∀ {ps : List FT}, (ps.map FT.size).sum ≤ 39 → ps.length ≤ 39 := by
  intro ps h
  have : ps.length ≤ (ps.map FT.size).sum := by
    clear h
    induction ps with
    | nil => simp
    | cons f ps ih => have := FT.size_pos f; simp only [List.length_cons, List.map_cons, List.sum_cons]; omega
  omega

set_option maxHeartbeats 4000000 in
theorem fread_any (l : List UInt8) (hl : l.length ≤ 1000000000) : ∀ (d k : Nat) (w : World) (b i n : Nat), k ≤ d → i ≤ l.length → FRd w b l i n → n + k = 40 →
    Calls Tryz.prog 69 #[.pointer (some ⟨b, 0, none⟩)] w (FReadPost w b l (FT.pread l d i k)) := by
  intro d
  induction d with
  | zero =>
    intro k w b i n hk hi h hn
    have e : k = 0 := by omega
    rw [e] at hn ⊢
    exact fread_zero l 0 w b i n h hn
  | succ d ih =>
    intro k w b i n hk hi h hn
    match k, hk, hn with
    | 0, _, hn => exact fread_zero l (d + 1) w b i n h (by omega)
    | k + 1, hk, hn =>
      by_cases h0 : l[i]? = some 40
      case neg => exact fread_word l hl d k w b i n hi h hn h0
      have hi1 : i + 1 ≤ l.length := (List.getElem?_eq_some_iff.1 h0).1
      obtain ⟨e1, he1⟩ : ∃ e1, e1 = Tm.atomEnd l (i + 1) := ⟨_, rfl⟩
      obtain ⟨lt, hlt⟩ : ∃ lt, lt = FT.sl l (i + 1) e1 := ⟨_, rfl⟩
      obtain ⟨R, hR⟩ : ∃ R, R = FT.pparts (FT.pread l d) l (l.length + 1) e1 k [] := ⟨_, rfl⟩
      have hel : e1 ≤ l.length := by rw [he1]; exact FT.atomEnd_le l (i + 1) hi1
      have hnone : R = none → FT.pread l (d + 1) i (k + 1) = none := fun e => by
        rw [hR, he1] at e
        simp only [FT.pread, if_pos h0, Nat.add_sub_cancel, e]
        rfl
      have hsome : ∀ ps j k', R = some (ps, j, k') → FT.pread l (d + 1) i (k + 1) = if l[j]? = some 41 then (match FT.comb lt ps with | none => none | some t => some (t, j + 1, k')) else none := fun ps j k' e => by
        rw [hR, he1] at e
        rw [hlt, he1]
        simp only [FT.pread, if_pos h0, Nat.add_sub_cancel, e]
        cases FT.comb (FT.sl l (i + 1) (Tm.atomEnd l (i + 1))) ps <;> rfl
      have hblt := h.lt
      have c2 : w.cell? ⟨b, 2, none⟩ = some (.int .i64 (n : Nat)) := cell_of_heap h
      have f2 : w.frozen? ⟨b, 2, none⟩ = false := by unfold FRd at h; simp [World.frozen?, h]
      obtain ⟨W1, hWe⟩ : ∃ W1, W1 = w.setCell ⟨b, 2, none⟩ (.int .i64 ((n : Int) + 1)) := ⟨_, rfl⟩
      have h1 : FRd W1 b l i (n + 1) := by rw [hWe, show (n : Int) + 1 = ((n + 1 : Nat) : Int) by omega]; exact h.set2 (n + 1)
      have g1 : w.grownBy W1 (some b) := by rw [hWe]; exact grown_setx _ _ _ _
      have hd1 : W1.cell? ⟨b, 2, none⟩ = some (.int .i64 ((n : Int) + 1)) := by have := cell_of_heap (i := 2) h1; simpa using this
      have k1 := skipF W1 b i (n + 1) l 40 40 rfl h1 hl hi
      rw [show decide (l[i]? = some 40) = true by simp [h0]] at k1
      have hn1 : n ≤ 39 := by omega
      have hn40 : ¬ ((40 : Int) < (n : Int) + 1) := by omega
      have HNO := Lib.hid hnone
      have HSO := Lib.hid hsome
      have HR := Lib.hid hR
      have HLT := Lib.hid hlt
      have HE1 := Lib.hid he1
      have HWE := Lib.hid hWe
      have HL := Lib.hid hblt
      have HN := Lib.hid hn
      have HIH := Lib.hid ih
      rw [hWe] at hd1
      clear hnone hsome hR hlt he1 hWe h h1 hn hblt ih h0
      go_enter Tryz.func69, Tryz.ntmps69
      go_wp2_with fail
      rw [← HWE.out]
      refine k1.mono ?_
      rintro e w2 ⟨rfl, g2, h2⟩
      have k2 := readWord_any w2 b (i + 1) (n + 1) l h2 hl hi1
      clear k1 c2 f2 hd1
      unfold WordPost at k2
      rw [← HE1.out, ← HLT.out] at k2
      go_wp2_with fail
      refine k2.mono ?_
      rintro e w3 ⟨rfl, g3, h3⟩
      have gg := grown_trans g1 (grown_trans g2 g3)
      have h3l := h3.lt
      have H3 := Lib.hid h3
      clear k2 h2 h3 g1 g2 g3
      go_wp2_with fail
      go_loopw [5, 6, 7] (fun sv _ _ wr => Hid (FLoop l d R w3 b k sv wr)) (fun _ _ _ wr => l.length - (intOf ((wr.cell? ⟨b, 1, none⟩).getD undef)).toNat)
      case atStart =>
        exact ⟨l.length + 1, e1, k, n + 1, [], [], HR.out.symm, hel, by omega, by omega, by have := HN.out; omega, H3.out, RowV.nil _ _, World.grownBy.refl _ _, by simp, by simp⟩
      case round =>
        obtain ⟨fuel, m, k', n', ps, xs, hP, hm, hfm, hkd, hnk, hF, hRow, hG, hok, hsum⟩ := hrel.out
        have k4 := skipF wr b m n' l 32 32 rfl hF hl hm
        obtain ⟨fu, rfl⟩ : ∃ fu, fuel = fu + 1 := ⟨fuel - 1, by omega⟩
        obtain ⟨ao, cap, rfl⟩ := o_slice_len hRow.1
        have hmeas : (intOf ((wr.cell? ⟨b, 1, none⟩).getD undef)).toNat = m := by
          have : wr.cell? ⟨b, 1, none⟩ = some (.int .i64 (m : Nat)) := cell_of_heap (i := 1) hF
          rw [this]; simp [intOf]
        by_cases h32 : l[m]? = some 32
        · rw [show decide (l[m]? = some 32) = true by simp [h32]] at k4
          have hm1 : m + 1 ≤ l.length := (List.getElem?_eq_some_iff.1 h32).1
          have HPd := Lib.hid hP
          have HRow := Lib.hid hRow
          have HG := Lib.hid hG
          have HOK := Lib.hid hok
          have HSUM := Lib.hid hsum
          have HNK := Lib.hid hnk
          have HM := Lib.hid hmeas
          have HFL := Lib.hid hF.lt
          have H32 := Lib.hid h32
          clear hP hRow hG hok hsum hnk hmeas hF h32 hrel
          go_wp2_with fail
          refine k4.mono ?_
          rintro e w4 ⟨rfl, g4, h4⟩
          have k5 := HIH.out k' w4 b (m + 1) n' hkd hm1 h4 HNK.out
          clear k4 h4
          cases hp : FT.pread l d (m + 1) k' with
          | none =>
            rw [hp] at k5
            have HF := Lib.hid (HNO.out (by rw [← HPd.out]; simp [FT.pparts, H32.out, hp]))
            go_wp2_with fail
            refine k5.mono ?_
            rintro e w5 ⟨v5, rfl, g5, hv5⟩
            clear hv5 k5
            go_wp2_with fail
            go_ret2
            exact FReadPost.no HF.out (grown_trans gg (grown_trans HG.out (grown_trans g4 g5))) _
          | some q =>
            obtain ⟨t, j, k''⟩ := q
            rw [hp] at k5
            obtain ⟨ht, hj1, hj2, hts⟩ := pread_facts l hm1 hp
            have HPn := Lib.hid (show FT.pparts (FT.pread l d) l fu j k'' (ps ++ [t]) = R by rw [← HPd.out]; simp [FT.pparts, H32.out, hp])
            clear hp
            go_wp2_with fail
            refine k5.mono ?_
            rintro e w5 ⟨v5, rfl, g5, hv5⟩
            obtain ⟨⟨n'', hF5, hn5⟩, hc5⟩ := hv5 t j k'' rfl
            obtain ⟨bv, Tv, xv, vfv, rfl, _⟩ := hc5.fields
            have hR5 := (HRow.out.grown g4 h3l).grown g5 h3l
            have hs34 : w3.heap.size ≤ w4.heap.size := Nat.le_trans HG.out.size g4.size
            have hs45 := g5.size
            have hgS : ∀ g, (Value.slice ao ps.length cap).ownBlock = some g → g < w4.heap.size := fun g hg => ((HRow.out.grown g4 h3l).1.lt g hg).2
            have hpl : ps.length ≤ 40 := by have := ok_len (ps := ps) (by have := HSUM.out; have := HN.out; omega); omega
            obtain ⟨i0, hi0, hz0, hz1, hz2⟩ : ∃ i, (Tryz.prog).info? 55 = some i ∧ i.zero = some (.pointer none) ∧ i.size = 1 ∧ i.bytes = 8 := ⟨_, rfl, rfl, rfl, rfl⟩
            have hun : Tryz.prog.underlying 149 = some (.slice 55) := by kernel_rfl
            have hown := World.ownsRow.alloc hR5.1 (.cells #[ptr bv] 55)
            have hnew : ∀ j u, [ptr bv][j]? = some u → (w5.alloc (.cells #[ptr bv] 55)).cell? ((⟨w5.heap.size, 0, none⟩ : Addr).add j) = some u := fun j u h => by
              match j with
              | 0 =>
                simp at h
                subst h
                rw [show ((⟨w5.heap.size, 0, none⟩ : Addr).add 0) = ⟨w5.heap.size, 0, none⟩ from rfl, cell_of_heap (heap_top w5 (.cells #[ptr bv] 55))]
                rfl
              | j + 1 => simp at h
            have hone : ∀ u ∈ [ptr bv], u.oneCell' = true := by simp [Value.oneCell']
            have hmax : ps.length + 1 ≤ maxLen := by unfold maxLen; omega
            have hm8 : (ps.length + 1) * 8 ≤ 140737488355328 := by omega
            have hsz : w3.heap.size ≤ (w5.alloc (.cells #[ptr bv] 55)).heap.size := by simp; omega
            have HF5 := Lib.hid hF5
            have HC5 := Lib.hid hc5
            have HR5 := Lib.hid hR5
            have HGS := Lib.hid hgS
            have HTS := Lib.hid hts
            have HN5 := Lib.hid hn5
            have HOT := Lib.hid ht
            clear hv5 hF5 hc5 hR5 hgS k5 hts hn5 ht
            go_wp2_with (at_builtin; refine wpList_append_at _ rfl _ _ 149 rfl w3.heap.size 55 i0 (.pointer none) 1 8 hun hi0 hz0 hz1 hz2 rfl (by decide) _ _ _ rfl hown ⟨w5.heap.size, 0, none⟩ 1 1 [ptr bv] rfl rfl hnew hone hmax hm8 hsz (by decide) ?_; intro v6 w6 ho6 hg6 hw6; obtain ⟨bo, bn, bc, rfl⟩ := o_slice ho6; have HO6 := Lib.hid ho6; have HG6 := Lib.hid hg6; have HW6 := Lib.hid hw6; clear ho6 hg6 hw6)
            go_roundw
            all_goals
              have hF6 : FRd w6 b l j n'' := by
                have h6 := HG6.out.block b (by have := HF5.out.lt; simp; omega) (fun e => by
                  have := (hown.lt b e.symm).1
                  omega)
                have h7 := (below_new w5 (.cells #[ptr bv] 55)).block b HF5.out.lt
                exact (h6.trans h7).trans HF5.out
            case measure =>
              have : w6.cell? ⟨b, 1, none⟩ = some (.int .i64 (j : Nat)) := cell_of_heap (i := 1) hF6
              simp only [this, HM.out]
              simp [intOf]
              omega
            case rel =>
              refine ⟨fu, j, k'', n'', ps ++ [t], _, HPn.out, hj2, by omega, by have := HTS.out; omega, HN5.out, hF6, HR5.out.push hs34 HGS.out HC5.out _ HO6.out HG6.out HW6.out, ?_, ?_, ?_⟩
              · have hlow : ∀ g, (Value.slice ao ps.length cap).ownBlock = some g → w3.heap.size ≤ g := fun g hg => (hown.lt g hg).1
                have h45 := grown_trans HG.out (grown_trans g4 g5)
                refine ⟨HG6.out.os.trans h45.os, HG6.out.tape.trans h45.tape, HG6.out.output.trans h45.output, by have := HG6.out.size; have := h45.size; simp at *; omega, fun q hq hne => ?_⟩
                have h45s := h45.size
                rw [HG6.out.block q (by simp; omega) (fun e => by have := hlow q e.symm; omega)]
                rw [(below_new w5 _).block q (by omega)]
                exact h45.block q hq hne
              · intro f hf
                rcases List.mem_append.1 hf with hf | hf
                · exact HOK.out f hf
                · simp at hf; subst hf; exact HOT.out
              · have := HSUM.out
                have := HTS.out
                simp only [List.map_append, List.sum_append, List.map_cons, List.map_nil, List.sum_cons, List.sum_nil]
                omega
        · have hfinR : R = some (ps, m, k') := by rw [← hP]; simp [FT.pparts, h32]
          have hS := HSO.out ps m k' hfinR
          rw [show decide (l[m]? = some 32) = false by simp [h32]] at k4
          have HRow := Lib.hid hRow
          have HG := Lib.hid hG
          have HOK := Lib.hid hok
          have HSUM := Lib.hid hsum
          have HNK := Lib.hid hnk
          clear hP hRow hG hok hsum hnk hmeas hF h32 hrel hfinR
          go_wp2_with fail
          refine k4.mono ?_
          rintro e w4 ⟨rfl, g4, h4⟩
          have k5 := skipF w4 b m n' l 41 41 rfl h4 hl hm
          clear k4 h4
          by_cases h41 : l[m]? = some 41
          · rw [show decide (l[m]? = some 41) = true by simp [h41]] at k5
            rw [if_pos h41] at hS
            have HS := Lib.hid hS
            clear h41 hS
            go_wp2_with fail
            refine k5.mono ?_
            rintro e w5 ⟨rfl, g5, h5⟩
            have hR5 := (HRow.out.grown g4 h3l).grown g5 h3l
            have g05 := grown_trans gg (grown_trans HG.out (grown_trans g4 g5))
            have k6 := combination_any w5 w.heap.size lt _ ps (hR5.parts gg.size) g05.size (by have := ok_len (ps := ps) (by have := HSUM.out; have := HN.out; omega); omega) HOK.out (by have := HSUM.out; have := HN.out; omega)
            have H5 := Lib.hid h5
            clear k5 h5 hR5
            go_wp2_with fail
            refine k6.mono ?_
            rintro e w6 ⟨v6, rfl, a6, hv6⟩
            have HV := Lib.hid hv6
            clear hv6 k6
            go_wp2_with fail
            go_ret2
            refine ⟨v6, ?_, grown_trans g05 (grown_after a6), fun t j k'' ht => ?_⟩
            · rw [HS.out]
              cases FT.comb lt ps <;> rfl
            · rw [HS.out] at ht
              cases hw : FT.comb lt ps with
              | none => rw [hw] at ht; cases ht
              | some u =>
                rw [hw] at ht
                simp only [Option.some.injEq, Prod.mk.injEq] at ht
                obtain ⟨rfl, rfl, rfl⟩ := ht
                exact ⟨⟨n', H5.out.after a6, HNK.out⟩, HV.out u hw⟩
          · rw [show decide (l[m]? = some 41) = false by simp [h41]] at k5
            rw [if_neg h41] at hS
            have HS := Lib.hid hS
            clear h41 hS
            go_wp2_with fail
            refine k5.mono ?_
            rintro e w5 ⟨rfl, g5, h5⟩
            clear h5 k5
            go_wp2_with fail
            go_ret2
            exact FReadPost.no HS.out (grown_trans gg (grown_trans HG.out (grown_trans g4 g5))) _
end Go.Proofs.YtjomocjlnjgkeaaGreat
