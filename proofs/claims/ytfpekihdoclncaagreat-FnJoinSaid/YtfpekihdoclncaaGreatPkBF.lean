/-
  The model's ApplyOf.
-/
import Derived.Test.YtfpekihdoclncaaGreatPkAJ
import Derived.Test.YtfpekihdoclncaaGreatPkAW
import Derived.Test.YtfpekihdoclncaaGreatPkBE
import Derived.Test.YtfpekihdoclncaaGreatPkAM
import Derived.Test.YtfpekihdoclncaaGreatPkAT
namespace Go.Proofs.YtfpekihdoclncaaGreat
open Go.RowKit

set_option maxHeartbeats 1000000
set_option maxRecDepth 100000

def SOne' (w : World) (r : Option (List UInt8)) (e : Ending) (w' : World) : Prop :=
  e = .returned (.tuple #[str (r.getD []), .bool r.isSome]) ∧ After w w'

end Go.Proofs.YtfpekihdoclncaaGreat

namespace Go.Proofs.YtfpekihdoclncaaGreat
open Go.RowKit

set_option maxHeartbeats 1000000
set_option maxRecDepth 100000

end Go.Proofs.YtfpekihdoclncaaGreat

namespace Go.Proofs.YtfpekihdoclncaaGreat
open Go.RowKit

set_option maxHeartbeats 1000000
set_option maxRecDepth 100000

theorem run_good : Tm.runC.good = true ∧ Tm.runC.size ≤ 1000 := ⟨by decide +kernel, by decide +kernel⟩
theorem join_good : Tm.joinC.good = true ∧ Tm.joinC.size ≤ 1000 := ⟨by decide +kernel, by decide +kernel⟩

theorem impl_codeJoin (w : World) (l m : List UInt8) (hl : l.length ≤ 1000000000) (hm : m.length ≤ 1000000000) :
    Calls Tryz.prog 5 #[str l, str m] w (TextRes' w (Tm.pCodeJoin l m)) := by
  have hc := codeOfText_any w w.heap.size l (Nat.le_refl _) hl
  have hd := fun W hB => codeOfText_any W w.heap.size m hB hm
  unfold DataPost at hc hd
  unfold Tm.pCodeJoin
  cases hp : Tm.codeT l with
  | none =>
    rw [hp] at hc
    clear hp hd
    go_enter Tryz.func5, Tryz.ntmps5
    go_wp2_with fail
    refine hc.mono ?_
    rintro e w1 ⟨v1, rfl, hb1, hv1⟩
    clear hv1 hc
    go_wp2_with fail
    go_ret2
    exact ⟨rfl, hb1⟩
  | some c =>
    obtain ⟨hf, hg⟩ : c.fits = true ∧ c.good = true := by obtain ⟨_, _, _, hf, hg⟩ := Tm.codeT_facts hp; exact ⟨hf, hg⟩
    have hcs := fits_size hf
    rw [hp] at hc
    clear hp
    show Calls _ _ _ _ (TextRes' w ((Tm.codeT m).bind fun d => (Tm.endOf (.app (.app Tm.joinC c) d)).map Tm.text))
    cases hq : Tm.codeT m with
    | none =>
      simp only [hq] at hd
      clear hq
      go_enter Tryz.func5, Tryz.ntmps5
      go_wp2_with fail
      refine hc.mono ?_
      rintro e w1 ⟨v1, rfl, hb1, hv1⟩
      clear hv1 hc
      go_wp2_with fail
      refine (hd _ hb1.size).mono ?_
      rintro e w2 ⟨v2, rfl, hb2, hv2⟩
      clear hv2 hd
      go_wp2_with fail
      go_ret2
      exact ⟨rfl, below_trans hb1 hb2⟩
    | some d =>
      obtain ⟨hfd, hgd⟩ : d.fits = true ∧ d.good = true := by obtain ⟨_, _, _, hf, hg⟩ := Tm.codeT_facts hq; exact ⟨hf, hg⟩
      have hds := fits_size hfd
      simp only [hq] at hd
      clear hq
      obtain ⟨rg, rz⟩ := join_good
      have hga : (Tm.app (.app Tm.joinC c) d).good = true := by simp [Tm.good, rg, hg, hgd]
      show Calls _ _ _ _ (TextRes' w ((Tm.endOf (.app (.app Tm.joinC c) d)).map Tm.text))
      have hjoin := fun W hB => join_any W w.heap.size hB
      have hcall := fun W v1 v2 h1 h2 hB => applyNormal_any W w.heap.size (.app Tm.joinC c) d v1 v2 h1 h2 hB (by simp only [Tm.size]; omega)
      unfold DataPost at hcall
      unfold TermPost at hjoin
      cases hE : Tm.endOf (.app (.app Tm.joinC c) d) with
      | none =>
        simp only [hE] at hcall
        clear hE
        go_enter Tryz.func5, Tryz.ntmps5
        go_wp2_with fail
        refine hc.mono ?_
        rintro e w1 ⟨v1, rfl, hb1, hv1⟩
        have HV1 := Lib.hid (hv1 c rfl)
        clear hv1 hc
        go_wp2_with fail
        refine (hd _ hb1.size).mono ?_
        rintro e w2 ⟨v2, rfl, hb2, hv2⟩
        have HV2 := Lib.hid (hv2 d rfl)
        have hb12 := below_trans hb1 hb2
        clear hv2 hd
        go_wp2_with fail
        refine (hjoin _ hb12.size).mono ?_
        rintro e w3 ⟨v3, rfl, hb3, ht3⟩
        have hb13 := below_trans hb12 hb3
        have happ := apply_any w3 _ _ _ v3 v1 ht3 (HV1.out.below (below_trans hb2 hb3)) hb13.size (by omega)
        clear ht3 hjoin
        go_wp2_with fail
        refine happ.mono ?_
        rintro e w4 ⟨v4, rfl, hb4, ht4⟩
        have hb14 := below_trans hb13 hb4
        have hn := hcall w4 v4 v2 ht4 (HV2.out.below (below_trans hb3 hb4)) hb14.size
        clear ht4 happ hcall
        go_wp2_with fail
        refine hn.mono ?_
        rintro e w5 ⟨v5, rfl, hb5, hv5⟩
        clear hv5 hn
        go_wp2_with fail
        go_ret2
        exact ⟨rfl, below_trans hb14 hb5⟩
      | some x =>
        obtain ⟨hgx, htx⟩ := end_small hE hga
        simp only [hE] at hcall
        clear hE
        go_enter Tryz.func5, Tryz.ntmps5
        go_wp2_with fail
        refine hc.mono ?_
        rintro e w1 ⟨v1, rfl, hb1, hv1⟩
        have HV1 := Lib.hid (hv1 c rfl)
        clear hv1 hc
        go_wp2_with fail
        refine (hd _ hb1.size).mono ?_
        rintro e w2 ⟨v2, rfl, hb2, hv2⟩
        have HV2 := Lib.hid (hv2 d rfl)
        have hb12 := below_trans hb1 hb2
        clear hv2 hd
        go_wp2_with fail
        refine (hjoin _ hb12.size).mono ?_
        rintro e w3 ⟨v3, rfl, hb3, ht3⟩
        have hb13 := below_trans hb12 hb3
        have happ := apply_any w3 _ _ _ v3 v1 ht3 (HV1.out.below (below_trans hb2 hb3)) hb13.size (by omega)
        clear ht3 hjoin
        go_wp2_with fail
        refine happ.mono ?_
        rintro e w4 ⟨v4, rfl, hb4, ht4⟩
        have hb14 := below_trans hb13 hb4
        have hn := hcall w4 v4 v2 ht4 (HV2.out.below (below_trans hb3 hb4)) hb14.size
        clear ht4 happ hcall
        go_wp2_with fail
        refine hn.mono ?_
        rintro e w5 ⟨v5, rfl, hb5, hv5⟩
        have htext := textOf_any w5 _ x v5 (hv5 x rfl) hgx htx
        clear hv5 hn
        go_wp2_with (go_at_call 15; refine htext.mono ?_; rintro e w7 ⟨rfl, hb7⟩)
        go_ret2
        exact ⟨rfl, below_trans (below_trans hb14 hb5) hb7⟩

end Go.Proofs.YtfpekihdoclncaaGreat
