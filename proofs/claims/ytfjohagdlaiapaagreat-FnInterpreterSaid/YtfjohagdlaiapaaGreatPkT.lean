/-
  The model's reader of codes: l4Back; what stands at the ends.
-/
import Derived.Test.YtfjohagdlaiapaaGreatPkP
import Derived.Test.YtfjohagdlaiapaaGreatPkD
import Derived.Test.YtfjohagdlaiapaaGreatPkX
import Derived.Test.YtfjohagdlaiapaaGreatPkS
import Derived.Test.YtfjohagdlaiapaaGreatPkYR
namespace Go.Proofs.YtfjohagdlaiapaaGreat
open Go.RowKit

set_option maxHeartbeats 2000000
set_option maxRecDepth 100000

def SBackPost (w : World) (r : Option Tm) (e : Ending) (w' : World) : Prop :=
  ∃ x s ao n c, e = .returned (.tuple #[.agg #[str s, .slice ao n c], .bool r.isSome]) ∧ After w w' ∧ ST w' x (.agg #[str s, .slice ao n c]) ∧ ∀ u, r = some u → x = u

end Go.Proofs.YtfjohagdlaiapaaGreat

namespace Go.Proofs.YtfjohagdlaiapaaGreat
open Go.RowKit

set_option maxHeartbeats 4000000
set_option maxRecDepth 100000

end Go.Proofs.YtfjohagdlaiapaaGreat

namespace Go.Proofs.YtfjohagdlaiapaaGreat
open Go.RowKit

set_option maxHeartbeats 2000000
set_option maxRecDepth 100000

namespace Tm
theorem behind_is {F : Tm} {t a : Tm} (hF : F.good = true) (hg : t.good = true) (h : behind F.text t = some a) : t = app F a := by
  cases t with
  | app f b =>
    simp only [behind] at h
    split at h
    · rename_i he
      obtain rfl := Option.some.inj h
      simp only [good, Bool.and_eq_true] at hg
      rw [text_inj hg.1 hF he]
    · cases h
  | _ => simp [behind] at h

theorem parts_pair {t m n : Tm} (h : t.parts = some (m, n)) (hg : t.good = true) : t = pair m n := by
  cases t with
  | app x y =>
    have hg' := hg
    simp only [good, Bool.and_eq_true] at hg'
    simp only [parts] at h
    split at h
    · simp at h
    · rename_i n' e1
      split at h
      · simp at h
      · rename_i left e2
        split at h
        · simp at h
        · rename_i front e3
          split at h
          · simp at h
          · rename_i m' e4
            simp only [Option.some.injEq, Prod.mk.injEq] at h
            obtain ⟨rfl, rfl⟩ := h
            have g1 := behind_is (F := k) rfl hg'.2 e1
            have g2 := behind_is (F := s) rfl hg'.1 e2
            subst g1
            subst g2
            simp only [good, Bool.and_eq_true] at hg'
            have g3 := behind_is (F := app s I) rfl hg'.1.2 e3
            subst g3
            simp only [good, Bool.and_eq_true] at hg'
            have g4 := behind_is (F := k) rfl hg'.1.2.2 e4
            subst g4
            rfl
  | _ => simp [parts] at h
theorem parts_of_pair (m n : Tm) : (pair m n).parts = some (m, n) := by
  have h1 : Tm.text .k = [107] := rfl
  have h2 : Tm.text .s = [115] := rfl
  have h3 : Tm.text (.app .s I) = [40, 115, 32, 40, 40, 115, 32, 107, 41, 32, 107, 41, 41] := by decide
  simp [pair, parts, behind, h1, h2, h3]
theorem text_mt {u t : Tm} (hu : u.good = true) (hn : ∀ n, has n u = false) (hg : t.good = true) : (t.text == u.text) = (mt u t).isSome := by
  rw [Bool.eq_iff_iff, beq_iff_eq, Option.isSome_iff_exists]
  constructor
  · intro h
    obtain rfl := text_inj hg hu h
    exact ⟨_, mt_self _ hn⟩
  · rintro ⟨l, h⟩
    rw [(mt_closed _ _ _ hn h).1]
end Tm

end Go.Proofs.YtfjohagdlaiapaaGreat

namespace Go.Proofs.YtfjohagdlaiapaaGreat
open Go.RowKit

set_option maxHeartbeats 2000000
set_option maxRecDepth 100000

theorem names_of_has {t : Tm} (h : ∀ n, Tm.has n t = false) : t.names [] = [] := by
  cases hn : t.names [] with
  | nil => rfl
  | cons n ns =>
    have h1 := (Tm.mem_names n t []).1 (by rw [hn]; simp)
    rcases h1 with h1 | h1
    · cases h1
    · rw [h n] at h1; cases h1

theorem read_open {l : List UInt8} (h : Tm.closedOf l = none) : Tm.pCodeRead l = none := by
  unfold Tm.pCodeRead
  cases hp : Tm.parse l with
  | none => rfl
  | some t =>
    simp only [Option.bind_some]
    cases hb : Tm.back t.size t with
    | none => rfl
    | some u =>
      obtain ⟨h1, _, _, h4⟩ := Tm.back_facts t.size t u hb
      have hn : t.names [] = [] := names_of_has (fun n => by rw [← h1, code_has]; exact h4 n)
      unfold Tm.closedOf at h
      rw [hp] at h
      simp [hn] at h

theorem str_size' (l : List UInt8) : (⟨l.toArray⟩ : ByteArray).size = l.length := by show l.toArray.size = _; simp

end Go.Proofs.YtfjohagdlaiapaaGreat
