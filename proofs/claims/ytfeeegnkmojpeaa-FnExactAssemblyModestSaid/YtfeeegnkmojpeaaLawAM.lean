/-
  The walk of the law of AssemblyModest: whatever the assembly, the program and the model answer alike.
-/
import Derived.Test.YtfeeegnkmojpeaaPkQ
namespace Go.Proofs.Ytfeeegnkmojpeaa
open Go.RowKit

set_option maxHeartbeats 2000000
set_option maxRecDepth 100000

theorem law_asmModest (w : World) (sv : Value) (a : List (List (List UInt8))) (h : SSU 0 w sv a) (hl : Lens 9223372036854775807 a) :
    Calls Try.prog 4 #[.agg #[sv]] w fun e w' => e = .returned (.bool true) ∧ After w w' := by
  have hsz := fun W (hW : After w W) => l_szAsm W sv a (h.later hW) hl 1048576 (by omega) (by omega)
  have hto := fun W (hW : After w W) (hl2 : Lens 1048576 a) => l_toAsm W sv a (h.later hW) hl2
  have hsp := fun W v (hv : SSU 0 W v a) (hl2 : Lens 1048576 a) => s_asmModest W v a hv hl2
  have hip := fun W v (hv : SSU 0 W v a) (hl2 : Lens 1000000000 a) => impl_asmModest W v a hv hl2
  have hform : ∀ {B : Nat} {W : World} {v : Value}, SSU B W v a → ∃ ao cap, v = .slice ao a.length cap := fun h => h.form
  have hbig : Lens 1048576 a → Lens 1000000000 a := fun hl => ⟨by have := hl.1; omega, fun ns hs => ⟨by have := (hl.2 ns hs).1; omega, fun s h => by have := (hl.2 ns hs).2 s h; omega⟩⟩
  obtain ⟨ao, cap, rfl⟩ := h.form
  have hA0 := After.new w (.cells #[.slice ao a.length cap] 24)
  have hbox := heap_new' w (.cells #[.slice ao a.length cap] 24)
  obtain ⟨o0, o1, o2⟩ := one_facts hbox (After.refl _)
  have hc := hsz _ hA0
  have HF : Hid (∀ {B : Nat} {W : World} {v : Value}, SSU B W v a → ∃ ao cap, v = .slice ao a.length cap) := hform
  have HSP := Lib.hid hsp
  have HIP := Lib.hid hip
  have HTO := Lib.hid hto
  have HBIG := Lib.hid hbig
  have HBOX := Lib.hid hbox
  clear h hl hform hsp hip hto hbig hsz hbox
  generalize Asm.modest a = b at *
  generalize a.length = n at *
  go_enter Try.func4, Try.ntmps4
  go_wp2_with fail
  refine hc.mono ?_
  rintro e w1 ⟨⟨r, rfl, hr1, hr2, hr⟩, hb1⟩
  have HR := Lib.hid hr
  have hA1 := hA0.trans hb1
  clear hr hc
  by_cases hneg : r < 0
  · go_wp2_with fail
    go_ret
    exact ⟨rfl, hA1⟩
  · have HL := Lib.hid (HR.out (by omega))
    obtain ⟨p0, p1, p2⟩ := one_facts HBOX.out hb1
    have hc1 := HTO.out w1 hA1 HL.out
    clear o0 o1 o2
    go_wp2_with fail
    refine hc1.mono ?_
    rintro e w2 ⟨s2, rfl, hs2, hb2⟩
    have hc2 := HSP.out w2 s2 (hs2.mono (Nat.zero_le _)) HL.out
    obtain ⟨ao2, cap2, rfl⟩ := HF.out hs2
    have hb12 := hb1.trans hb2
    clear hs2 hc1 p0 p1 p2
    go_wp2_with fail
    refine hc2.mono ?_
    rintro e w3 ⟨rfl, hb3⟩
    have hb13 := hb12.trans hb3
    obtain ⟨p0, p1, p2⟩ := one_facts HBOX.out hb13
    have hc3 := HTO.out w3 (hA0.trans hb13) HL.out
    clear hc2
    go_wp2_with fail
    refine hc3.mono ?_
    rintro e w4 ⟨s4, rfl, hs4, hb4⟩
    obtain ⟨ao4, cap4, e4⟩ := HF.out hs4
    subst e4
    have hb14 := hb13.trans hb4
    have hnw := After.new w4 (.cells #[.slice ao4 n cap4] 27)
    have hbox4 := heap_new' w4 (.cells #[.slice ao4 n cap4] 27)
    have hs4' := (hs4.mono (Nat.zero_le _)).later hnw
    have hc4 := HIP.out _ _ hs4' (HBIG.out HL.out)
    obtain ⟨q0, q1, q2⟩ := one_facts hbox4 (After.refl _)
    have HS4 := Lib.hid hs4'
    have HB4 := Lib.hid hbox4
    clear hs4 hs4' hc3 hbox4 p0 p1 p2
    go_wp2_with fail
    refine hc4.mono ?_
    rintro e w5 ⟨rfl, hb5⟩
    have hb15 := (hb14.trans hnw).trans hb5
    have HS5 := Lib.hid (HS4.out.later hb5)
    have x1 : ∀ W, After w5 W → W.cell? ⟨w4.heap.size, 0, none⟩ = some (.slice ao4 n cap4) := fun W hW => (one_facts HB4.out (hb5.trans hW)).1
    have x2 : ∀ W, After w5 W → W.cell? ⟨w.heap.size, 0, none⟩ = some (.slice ao n cap) := fun W hW => (one_facts HBOX.out (hb15.trans hW)).1
    have hself := After.refl w5
    clear hc4 q0 q1 q2
    cases b
    all_goals
      go_wp2_with fail
      go_region_held3 (fun W' => After w5 W') (first | assumption | exact hself.drew | go_keep)
        (first
          | (go_at_call 10
             have hd : After w5 w5.drew := hself.drew
             refine (HTO.out _ ((hA0.trans hb15).trans (by first | assumption | exact hself.drew)) HL.out).mono ?_
             rintro e w6 ⟨s6, rfl, hs6, hb6⟩
             obtain ⟨ao6, cap6, e6⟩ := HF.out hs6
             subst e6
             have hb6' := After.trans (by first | assumption | exact hself.drew) hb6
             have HS6 := Lib.hid (hs6.mono (Nat.zero_le _))
             clear hs6 hd)
          | (go_at_call 12
             refine (l_eqAsm _ _ _ a (HS5.out.later hb6') HS6.out (HBIG.out HL.out)).mono ?_
             rintro e w7 ⟨rfl, hb7⟩
             have hb7' := After.trans hb6' hb7))
      all_goals
        go_wp2_with fail
        go_ret
        exact ⟨rfl, (hA0.trans hb15).trans hb7'⟩
end Go.Proofs.Ytfeeegnkmojpeaa
