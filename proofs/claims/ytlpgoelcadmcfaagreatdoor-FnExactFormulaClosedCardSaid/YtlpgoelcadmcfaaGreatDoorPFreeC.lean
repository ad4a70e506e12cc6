/-
  The program's readClosedFormula, FormulaClosed; the law of FormulaClosed.
-/
import Derived.Test.YtlpgoelcadmcfaaGreatDoorPkJ
namespace Go.Proofs.YtlpgoelcadmcfaaGreatDoor
open Go.RowKit

set_option maxHeartbeats 2000000
set_option maxRecDepth 100000

theorem FoV.lf : ∀ {f : Fo} {w : World} {B : Nat} {v : Value}, FoV w B f v → Fm.okm f → Fm.atoms f ≤ 1000 → ∀ mb, w.heap.size ≤ mb → LFOk "loop.example/realizers/impl.listFree" w mb v (Fm.occ f) (Fm.atoms f)
  | .top, w, _, _, h, _, _, mb, _ => ⟨_, _, 212, .agg #[], h, fun _ => by kernel_rfl, fun _ _ => by kernel_rfl, fun W hW ns hn _ => (top_list W _).mono fun e w' h => by
      rw [h.1]; exact post_same hn h.2 (by have := hn.lt; omega)⟩
  | .bot, w, _, _, h, _, _, mb, _ => ⟨_, _, 217, .agg #[], h, fun _ => by kernel_rfl, fun _ _ => by kernel_rfl, fun W hW ns hn _ => (bot_list W _).mono fun e w' h => by
      rw [h.1]; exact post_same hn h.2 (by have := hn.lt; omega)⟩
  | .eq a b, w, _, _, ⟨x, y, h, ha, hb⟩, ho, hl, mb, hm => by
    simp only [Fm.atoms] at hl
    have k1 := ha.lf hm ho.1 (by omega)
    have k2 := hb.lf hm ho.2 (by omega)
    obtain ⟨T1, x1, rfl⟩ := ha.form
    obtain ⟨T2, x2, rfl⟩ := hb.form
    exact ⟨_, _, 251, .agg #[.iface T1 x1, .iface T2 x2], h, fun _ => by kernel_rfl, fun _ _ => by kernel_rfl, fun W hW ns hn hl => equality_list w W mb T1 T2 x1 x2 _ _ _ _ ns hW k1 k2 hn (by simp only [Fm.atoms] at hl; omega) (Fm.occE_len a)⟩
  | .and f g, w, _, _, ⟨x, y, h, hf, hg⟩, ho, hl, mb, hm => by
    simp only [Fm.atoms] at hl
    have k1 := hf.lf ho.1 (by omega) mb hm
    have k2 := hg.lf ho.2 (by omega) mb hm
    obtain ⟨T1, x1, rfl⟩ := hf.form
    obtain ⟨T2, x2, rfl⟩ := hg.form
    exact ⟨_, _, 256, .agg #[.iface T1 x1, .iface T2 x2], h, fun _ => by kernel_rfl, fun _ _ => by kernel_rfl, fun W hW ns hn hl => joined_list w W mb T1 T2 x1 x2 _ _ _ _ ns hW k1 k2 hn (by simp only [Fm.atoms] at hl; omega) (Fm.occ_len f)⟩
  | .or f g, w, _, _, ⟨x, y, h, hf, hg⟩, ho, hl, mb, hm => by
    simp only [Fm.atoms] at hl
    have k1 := hf.lf ho.1 (by omega) mb hm
    have k2 := hg.lf ho.2 (by omega) mb hm
    obtain ⟨T1, x1, rfl⟩ := hf.form
    obtain ⟨T2, x2, rfl⟩ := hg.form
    exact ⟨_, _, 256, .agg #[.iface T1 x1, .iface T2 x2], h, fun _ => by kernel_rfl, fun _ _ => by kernel_rfl, fun W hW ns hn hl => joined_list w W mb T1 T2 x1 x2 _ _ _ _ ns hW k1 k2 hn (by simp only [Fm.atoms] at hl; omega) (Fm.occ_len f)⟩
  | .imp f g, w, _, _, ⟨x, y, h, hf, hg⟩, ho, hl, mb, hm => by
    simp only [Fm.atoms] at hl
    have k1 := hf.lf ho.1 (by omega) mb hm
    have k2 := hg.lf ho.2.1 (by omega) mb hm
    obtain ⟨T1, x1, rfl⟩ := hf.form
    obtain ⟨T2, x2, rfl⟩ := hg.form
    exact ⟨_, _, 256, .agg #[.iface T1 x1, .iface T2 x2], h, fun _ => by kernel_rfl, fun _ _ => by kernel_rfl, fun W hW ns hn hl => joined_list w W mb T1 T2 x1 x2 _ _ _ _ ns hW k1 k2 hn (by simp only [Fm.atoms] at hl; omega) (Fm.occ_len f)⟩
  | .all x n f, w, B, _, ⟨y, h, hf⟩, ho, hl, mb, hm => by
    simp only [Fm.atoms] at hl
    have hfree : ∀ W, Below mb w W → mb ≤ W.heap.size → Calls Tryz.prog 44 #[y] W (FNPost W (Fm.occ f)) := fun W hW hs =>
      freeNames_of W y _ _ ((show FoV W B f y from hf.move (Nat.le_refl _) fun b _ hl => hW.block b (by omega)).lf ho.2.2.2 (by omega) W.heap.size (Nat.le_refl _)) (by omega)
    obtain ⟨T1, x1, rfl⟩ := hf.form
    exact ⟨_, _, 268, .agg #[str x, .int .i64 (n : Nat), .iface T1 x1], h, fun _ => by kernel_rfl, fun _ _ => by kernel_rfl, fun W hW ns hn hl => bound_list w W mb x n T1 x1 _ ns hW hn hfree (Fm.occ_ok f ho.2.2.2) (by have := Fm.occ_len f; simp only [Fm.atoms] at hl; omega)⟩
  | .ex x n f, w, B, _, ⟨y, h, hf⟩, ho, hl, mb, hm => by
    simp only [Fm.atoms] at hl
    have hfree : ∀ W, Below mb w W → mb ≤ W.heap.size → Calls Tryz.prog 44 #[y] W (FNPost W (Fm.occ f)) := fun W hW hs =>
      freeNames_of W y _ _ ((show FoV W B f y from hf.move (Nat.le_refl _) fun b _ hl => hW.block b (by omega)).lf ho.2.2.2 (by omega) W.heap.size (Nat.le_refl _)) (by omega)
    obtain ⟨T1, x1, rfl⟩ := hf.form
    exact ⟨_, _, 268, .agg #[str x, .int .i64 (n : Nat), .iface T1 x1], h, fun _ => by kernel_rfl, fun _ _ => by kernel_rfl, fun W hW ns hn hl => bound_list w W mb x n T1 x1 _ ns hW hn hfree (Fm.occ_ok f ho.2.2.2) (by have := Fm.occ_len f; simp only [Fm.atoms] at hl; omega)⟩

theorem readClosed_fo (w : World) (l : List UInt8) (hl : l.length ≤ 1000000000) (hS : LaidS w) :
    Calls Tryz.prog 24 #[str l] w (RFPost w (Fm.pclosed l)) := by
  have k1 := readFormula_any w l hl hS
  have hpc := fun f => @Fm.pclosed_iff l f
  cases hp : Fm.parse l with
  | none =>
    have e : Fm.pclosed l = none := by unfold Fm.pclosed; rw [hp]
    rw [hp] at k1
    rw [e]
    unfold RFPost at *
    clear hpc hp e hS
    go_enter Tryz.func24, Tryz.ntmps24
    go_wp2_with fail
    refine k1.mono ?_
    rintro e w2 ⟨v, rfl, hA, _, hi⟩
    have HI := Lib.hid hi
    clear k1 hi
    go_wp2_with fail
    go_ret2
    exact ⟨v, rfl, hA, (fun f h => by cases h), HI.out⟩
  | some f =>
    have e : Fm.pclosed l = if Fm.occ f = [] then some f else none := by unfold Fm.pclosed; rw [hp]
    have hom := (Fm.parse_okm hp).1
    have hat := (Fm.parse_okm hp).2.1
    rw [hp] at k1
    rw [e]
    obtain ⟨R, hR⟩ : ∃ R, R = if Fm.occ f = [] then some f else none := ⟨_, rfl⟩
    rw [← hR]
    have HR := Lib.hid hR
    clear hR
    unfold RFPost at *
    obtain ⟨b0, hb0⟩ : ∃ b0, b0 = decide (Fm.occ f = []) := ⟨_, rfl⟩
    have hlen : (((Fm.addA [] (Fm.occ f)).length : Int) == 0) = b0 := by
      rw [hb0]
      by_cases h0 : Fm.occ f = []
      · rw [h0]; rfl
      · have : (Fm.free f).length ≠ 0 := fun e => h0 ((Fm.free_nil f).1 (List.length_eq_zero_iff.1 e))
        have h2 : ((Fm.addA [] (Fm.occ f)).length : Int) ≠ 0 := by have h3 : (Fm.addA [] (Fm.occ f)).length ≠ 0 := this; omega
        rw [decide_eq_false h0]
        exact beq_eq_false_iff_ne.2 h2
    have HB := Lib.hid hb0
    have HOM := Lib.hid hom
    have HAT := Lib.hid hat
    generalize hn : (Fm.addA [] (Fm.occ f)).length = n0 at *
    have HN := Lib.hid hn
    have HLE := Lib.hid hlen
    clear hpc hp e hS hb0 hom hat hn hlen
    go_enter Tryz.func24, Tryz.ntmps24
    go_wp2_with fail
    refine k1.mono ?_
    rintro e w2 ⟨v, rfl, hA, hv, hi⟩
    have hfv := hv f rfl
    have hfree := freeNames_of w2 v _ _ (hfv.lf HOM.out (by have := HAT.out; omega) w2.heap.size (Nat.le_refl _)) (by have := HAT.out; omega)
    unfold FNPost at hfree
    rw [HN.out] at hfree
    have HI := Lib.hid hi
    have HFV := Lib.hid hfv
    clear k1 hi hv hfv
    go_wp2_with fail
    refine hfree.mono ?_
    rintro e w3 ⟨sv, rfl, ha3, ho3⟩
    obtain ⟨ao, cap, rfl⟩ := own_slice_len ho3
    clear hfree ho3
    have hlen := HLE.out
    go_wp2_with fail
    go_ret2
    refine ⟨v, ?_, hA.trans ha3, fun g hg => ?_, HI.out⟩
    · rw [HR.out]
      by_cases h0 : Fm.occ f = []
      · rw [if_pos h0, HB.out, decide_eq_true h0]; rfl
      · rw [if_neg h0, HB.out, decide_eq_false h0]; rfl
    · rw [HR.out] at hg
      split at hg
      · obtain rfl := Option.some.inj hg; exact HFV.out.after ha3
      · cases hg

theorem impl_formulaClosed (w : World) (l : List UInt8) (hl : l.length ≤ 1000000000) (hS : LaidS w) :
    Calls Tryz.prog 12 #[str l] w fun e w' => e = .returned (.bool (Fm.pclosed l).isSome) ∧ After w w' := by
  have k1 := readClosed_fo w l hl hS
  generalize Fm.pclosed l = o at *
  unfold RFPost at k1
  clear hS
  go_enter Tryz.func12, Tryz.ntmps12
  go_wp2_with fail
  refine k1.mono ?_
  rintro e w2 ⟨v, rfl, hA, _, hi⟩
  clear k1
  go_wp2_with fail
  go_ret
  exact ⟨rfl, hA⟩

theorem spec_formulaClosed (w : World) (l : List UInt8) :
    Calls Tryz.prog 11 #[str l] w fun e w' => e = .returned (.bool (Fm.mclosed l).isSome) ∧ After w w' := by
  have hc := s_closedf w l
  generalize Fm.mclosed l = o at *
  unfold MFPost at hc
  go_enter Tryz.func11, Tryz.ntmps11
  go_wp2_with fail
  refine hc.mono ?_
  rintro e w1 ⟨s, ao, n, c, rfl, ha, _⟩
  have ha2 := ha.alloc (.cells #[str s, .slice ao n c] 31)
  clear hc
  go_wp2_with fail
  go_ret
  exact ⟨rfl, ha2⟩

theorem law_formulaClosed (w : World) (l : List UInt8) (hS : LaidS w) :
    Calls Tryz.prog 4 #[str l] w fun e w' => e = .returned (.bool true) ∧ After w w' := by
  have hsz : (⟨l.toArray⟩ : ByteArray).size = l.length := by show l.toArray.size = _; simp
  by_cases hbig : 1048576 < l.length
  · have hb : (1048576 : Int) < (l.length : Int) := by omega
    clear hbig
    go_enter Tryz.func4, Tryz.ntmps4
    go_wp2_with fail
    go_ret
    exact ⟨rfl, After.refl _⟩
  have hb : (l.length : Int) ≤ 1048576 := by omega
  have hs := spec_formulaClosed w l
  have hi := fun W (hW : After w W) => impl_formulaClosed W l (by omega) (hS.after hW)
  rw [Fm.closed_eq] at hs
  generalize (Fm.pclosed l).isSome = r at *
  clear hbig hS
  go_enter Tryz.func4, Tryz.ntmps4
  go_wp2_with fail
  refine hs.mono ?_
  rintro e w1 ⟨rfl, ha⟩
  have hi1 := hi w1 ha
  clear hs hi
  go_wp2_with fail
  refine hi1.mono ?_
  rintro e w2 ⟨rfl, ha2⟩
  clear hi1
  cases r with
  | true =>
    go_wp2_with fail
    go_ret
    exact ⟨rfl, ha.trans ha2⟩
  | false =>
    go_wp2_with fail
    go_ret
    exact ⟨rfl, ha.trans ha2⟩
end Go.Proofs.YtlpgoelcadmcfaaGreatDoor
