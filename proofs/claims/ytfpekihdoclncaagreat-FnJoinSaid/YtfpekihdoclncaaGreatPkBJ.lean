/-
  The model's exported functions: TermValid, TermSize, TermClosed.
-/
import Derived.Test.YtfpekihdoclncaaGreatPkAW
import Derived.Test.YtfpekihdoclncaaGreatPkAX
import Derived.Test.YtfpekihdoclncaaGreatPkAM
import Derived.Test.YtfpekihdoclncaaGreatPkAG
import Derived.Test.YtfpekihdoclncaaGreatPkAU
import Derived.Test.YtfpekihdoclncaaGreatPkBB
import Derived.Test.YtfpekihdoclncaaGreatPkBI
import Derived.Test.YtfpekihdoclncaaGreatPkAN
namespace Go.Proofs.YtfpekihdoclncaaGreat
open Go.RowKit

set_option maxHeartbeats 1000000
set_option maxRecDepth 100000

end Go.Proofs.YtfpekihdoclncaaGreat

namespace Go.Proofs.YtfpekihdoclncaaGreat
open Go.RowKit

set_option maxHeartbeats 4000000
set_option maxRecDepth 100000

def SDataPost (w : World) (r : Option Tm) (e : Ending) (w' : World) : Prop :=
  ∃ s ao n c, e = .returned (.tuple #[.agg #[str s, .slice ao n c], .bool r.isSome]) ∧ After w w' ∧ ∀ t, r = some t → ST w' t (.agg #[str s, .slice ao n c])

end Go.Proofs.YtfpekihdoclncaaGreat

namespace Go.Proofs.YtfpekihdoclncaaGreat
open Go.RowKit

set_option maxHeartbeats 1000000
set_option maxRecDepth 100000

theorem CodeArg.form {w : World} {v : Value} {n : Nat} (h : CodeArg w v n) : ∃ a0 cap, v = .slice a0 n cap := by
  rcases h with ⟨a0, cap, rfl, rfl⟩ | ⟨b, o, cap, _, _, _, rfl, _⟩
  · exact ⟨_, _, rfl⟩
  · exact ⟨_, _, rfl⟩

/-- Some text, as a list of bytes. -/
def TextPost (w : World) (e : Ending) (w' : World) : Prop := ∃ l : List UInt8, e = .returned (str l) ∧ l.length ≤ 100000 ∧ After w w'

theorem DrawPost.text {w w' : World} {e : Ending} (h : DrawPost w e w') : TextPost w e w' := by
  obtain ⟨s, rfl, hs, ha⟩ := h
  refine ⟨s.data.toList, congrArg Ending.returned (congrArg Value.string ?_), ?_, ha⟩
  · exact ByteArray.ext (by simp)
  · have : s.size = s.data.toList.length := by show s.data.size = _; simp
    omega

theorem parse_text_iff {l : List UInt8} {t : Tm} (h : Tm.parse l = some t) : l = t.text ∧ t.good = true ∧ t.fits = true := by
  obtain ⟨h1, h2, h3⟩ := Tm.parse_iff.1 h
  first | exact ⟨h1, h2, h3⟩ | exact ⟨h1.symm, h2, h3⟩

theorem size_outer {l : List UInt8} {t : Tm} (h : Tm.parse l = some t) (hb : (Tm.parse (40 :: (l ++ [32, 107, 41]))).isSome = true) : Tm.pSize (40 :: (l ++ [32, 107, 41])) = Tm.pSize l + 1 := by
  obtain ⟨rfl, hg, hf⟩ := parse_text_iff h
  have e : 40 :: (t.text ++ [32, 107, 41]) = (Tm.app t .k).text := by simp [Tm.text]
  rw [e] at hb ⊢
  obtain ⟨u, hu⟩ := Option.isSome_iff_exists.1 hb
  obtain ⟨rfl, _⟩ := Tm.parse_of_text (t := Tm.app t .k) (by simp [Tm.good, hg]) hu
  unfold Tm.pSize
  rw [hu, h]
  simp [Tm.size]

theorem size_range {l : List UInt8} {t : Tm} (h : Tm.parse l = some t) : (1 : Int) ≤ Tm.pSize l ∧ Tm.pSize l ≤ 3000 := by
  obtain ⟨rfl, hg, hf⟩ := parse_text_iff h
  have h1 := Tm.size_pos t
  have h2 := fits_size hf
  unfold Tm.pSize
  rw [h]
  simp only
  omega

end Go.Proofs.YtfpekihdoclncaaGreat
