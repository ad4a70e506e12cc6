/-
  The model's reader of codes: l4Back; applications.
-/
import Derived.Test.YtfpekihdoclncaaGreatPkBD
import Derived.Test.YtfpekihdoclncaaGreatPkAT
import Derived.Test.YtfpekihdoclncaaGreatPkAJ
import Derived.Test.YtfpekihdoclncaaGreatPkAW
import Derived.Test.YtfpekihdoclncaaGreatPkAN
namespace Go.Proofs.YtfpekihdoclncaaGreat
open Go.RowKit

set_option maxHeartbeats 4000000
set_option maxRecDepth 100000

end Go.Proofs.YtfpekihdoclncaaGreat

namespace Go.Proofs.YtfpekihdoclncaaGreat
open Go.RowKit

set_option maxHeartbeats 4000000
set_option maxRecDepth 100000

theorem rdr_step (n : Nat) (t : Tm) (w : World) (B : Nat) (r v : Value) (hr : RV w r) (h : TV w B t v) (hg : t.good = true) (hB : B ≤ w.heap.size) (hz : t.size ≤ 1000000)
    (ih : ∀ {u : Tm} {W : World} {v : Value}, RV W r → TV W B u v → u.good = true → B ≤ W.heap.size → u.size < t.size → Calls Tryz.prog 23 #[r, v] W (DataPost W B (Tm.back n u))) :
    Calls Tryz.prog 23 #[r, v] w (DataPost w B (Tm.back (n + 1) t)) := by
  have hself := Below.refl w.heap.size w
  have HR := Lib.hid hr
  obtain ⟨b, fr, p1, p2, p3, rfl, hh, hp1, hp2, hp3⟩ := hr
  obtain ⟨q1, rfl⟩ := hp1.form
  obtain ⟨q2, rfl⟩ := hp2.form
  obtain ⟨q3, rfl⟩ := hp3.form
  obtain ⟨T, x, rfl, _⟩ := h.asks
  have c0 := cell_later' (cell_of_heap (i := 0) hh)
  have c1 := cell_later' (cell_of_heap (i := 1) hh)
  have c2 := cell_later' (cell_of_heap (i := 2) hh)
  simp at c0 c1 c2
  have d0 := c0 w hself
  have k1 := pat_any hp1 h hg hB (by decide +kernel)
  have k2 := fun W (hW : Below w.heap.size w W) => pat_any (hp2.below hW) (h.below hW) hg (Nat.le_trans hB hW.size) (by decide +kernel)
  have k3 := fun W (hW : Below w.heap.size w W) => (pat_any (hp3.below hW) (h.below hW) hg (Nat.le_trans hB hW.size) (by decide +kernel))
  clear hh hp1 hp2 hp3 h
  simp only [Tm.back]
  cases h1 : (Tm.mt Tm.kC t).isSome with
  | true =>
    unfold RdPost at k1
    rw [h1] at k1
    simp only [if_true]
    clear h1 k2 k3
    go_enter Tryz.func23, Tryz.ntmps23
    go_wp2_with fail
    refine k1.mono ?_
    rintro e w1 ⟨s1, rfl, hb1, hr1⟩
    have hn := below_new w1 (.cells #[] 89)
    have ht := Lib.hid (show TV (w1.alloc (.cells #[] 89)) B .k (.iface 87 (.pointer (some ⟨w1.heap.size, 0, none⟩))) from ⟨_, _, rfl, Nat.le_trans hB hb1.size, heap_top w1 _⟩)
    clear hr1 k1
    go_wp2_with fail
    go_ret2
    exact ⟨_, rfl, below_trans hb1 hn, fun u hu => by obtain rfl := Option.some.inj hu; exact ht.out⟩
  | false =>
    unfold RdPost at k1
    rw [h1] at k1
    simp only [Bool.false_eq_true, if_false]
    cases h2 : (Tm.mt Tm.sC t).isSome with
    | true =>
      unfold RdPost at k2
      rw [h2] at k2
      simp only [if_true]
      clear h1 h2 k3
      go_enter Tryz.func23, Tryz.ntmps23
      go_wp2_with fail
      refine k1.mono ?_
      rintro e w1 ⟨s1, rfl, hb1, hr1⟩
      have k := k2 w1 hb1
      have e1 := c1 w1 hb1
      clear hr1 k1 k2
      go_wp2_with fail
      refine k.mono ?_
      rintro e w2 ⟨s2, rfl, hb2, hr2⟩
      have hb12 := below_trans hb1 hb2
      have hn := below_new w2 (.cells #[] 91)
      have ht := Lib.hid (show TV (w2.alloc (.cells #[] 91)) B .s (.iface 90 (.pointer (some ⟨w2.heap.size, 0, none⟩))) from ⟨_, _, rfl, Nat.le_trans hB hb12.size, heap_top w2 _⟩)
      clear hr2 k
      go_wp2_with fail
      go_ret2
      exact ⟨_, rfl, below_trans hb12 hn, fun u hu => by obtain rfl := Option.some.inj hu; exact ht.out⟩
    | false =>
      unfold RdPost at k2
      rw [h2] at k2
      simp only [Bool.false_eq_true, if_false]
      cases h3 : Tm.mt (Tm.appC Tm.X Tm.Y) t with
      | none =>
        unfold RdPost at k3
        simp only [h3] at k3
        clear h1 h2 h3
        go_enter Tryz.func23, Tryz.ntmps23
        go_wp2_with fail
        refine k1.mono ?_
        rintro e w1 ⟨s1, rfl, hb1, hr1⟩
        have kk2 := k2 w1 hb1
        have e1 := c1 w1 hb1
        clear hr1 k1 k2
        go_wp2_with fail
        refine kk2.mono ?_
        rintro e w2 ⟨s2, rfl, hb2, hr2⟩
        have hb12 := below_trans hb1 hb2
        have kk3 := k3 w2 hb12
        have e2 := c2 w2 hb12
        clear hr2 kk2 k3
        go_wp2_with fail
        refine kk3.mono ?_
        rintro e w3 ⟨s3, rfl, hb3, hr3⟩
        clear hr3 kk3
        go_wp2_with fail
        go_ret2
        exact ⟨_, rfl, below_trans hb12 hb3, fun u hu => by cases hu⟩
      | some l =>
        obtain ⟨cc, dd, rfl, rfl⟩ := Tm.mt_appC h3
        have k3 := fun W (hW : Below w.heap.size w W) => (k3 W hW).mono (fun e w' h => RdPost.own (by rw [h3] at h; exact h))
        have hgg : cc.good = true ∧ dd.good = true := by
          simp only [Tm.appC, Tm.good, Tm.good_pair, Bool.and_eq_true] at hg
          exact hg.2.2
        have hsz := Tm.size_appC cc dd
        have ihc := fun {W : World} {v : Value} (hR : RV W _) (hT : TV W B cc v) (hBW : B ≤ W.heap.size) => ih hR hT hgg.1 hBW (by omega)
        have ihd := fun {W : World} {v : Value} (hR : RV W _) (hT : TV W B dd v) (hBW : B ≤ W.heap.size) => ih hR hT hgg.2 hBW (by omega)
        have hfc := fun u (hu : Tm.back n cc = some u) => (Tm.back_facts n cc u hu).2.1
        have hfd := fun u (hu : Tm.back n dd = some u) => (Tm.back_facts n dd u hu).2.1
        unfold DataPost at ihc ihd
        simp only
        clear h1 h2 h3 ih hg
        generalize Tm.back n cc = rc at *
        generalize Tm.back n dd = rd at *
        cases rc with
        | none =>
          simp only [Option.bind_none]
          go_enter Tryz.func23, Tryz.ntmps23
          go_wp2_with fail
          refine k1.mono ?_
          rintro e w1 ⟨s1, rfl, hb1, hr1⟩
          have kk2 := k2 w1 hb1
          have e1 := c1 w1 hb1
          clear hr1 k1 k2
          go_wp2_with fail
          refine kk2.mono ?_
          rintro e w2 ⟨s2, rfl, hb2, hr2⟩
          have hb12 := below_trans hb1 hb2
          have kk3 := k3 w2 hb12
          have e2 := c2 w2 hb12
          clear hr2 kk2 k3
          go_wp2_with fail
          refine kk3.mono ?_
          rintro e w3 ⟨ao, cap, vs, rfl, hb3, ho3, he3, _⟩
          have hb13 := below_trans hb12 hb3
          obtain ⟨g, cp, e3, hbg, hlt⟩ := ho3.form (by simp)
          injection e3 with e3 _ _
          subst e3
          obtain ⟨v0, hv0, ht0⟩ := he3 0 (by simp)
          have y0 := ho3.cells (g := g) rfl 0 v0 hv0
          obtain ⟨T0, x0, rfl, _⟩ := ht0.asks
          have kc := ihc (HR.out.below hb13) ht0 (Nat.le_trans hB hb13.size)
          have y0 : w3.cell? ⟨g, 0, none⟩ = some (.iface T0 x0) := y0
          clear ho3 he3 kk3 ht0 hv0 ihc ihd
          go_wp2_with fail
          refine kc.mono ?_
          rintro e w4 ⟨v4, rfl, hb4, hv4⟩
          clear hv4 kc
          go_wp2_with fail
          go_ret2
          exact ⟨_, rfl, below_trans hb13 hb4, fun u hu => by cases hu⟩
        | some uc =>
          simp only [Option.bind_some]
          have hfc := hfc uc rfl
          cases rd with
          | none =>
            simp only [Option.bind_none]
            go_enter Tryz.func23, Tryz.ntmps23
            go_wp2_with fail
            refine k1.mono ?_
            rintro e w1 ⟨s1, rfl, hb1, hr1⟩
            have kk2 := k2 w1 hb1
            have e1 := c1 w1 hb1
            clear hr1 k1 k2
            go_wp2_with fail
            refine kk2.mono ?_
            rintro e w2 ⟨s2, rfl, hb2, hr2⟩
            have hb12 := below_trans hb1 hb2
            have kk3 := k3 w2 hb12
            have e2 := c2 w2 hb12
            clear hr2 kk2 k3
            go_wp2_with fail
            refine kk3.mono ?_
            rintro e w3 ⟨ao, cap, vs, rfl, hb3, ho3, he3, _⟩
            have hb13 := below_trans hb12 hb3
            obtain ⟨g, cp, e3, hbg, hlt⟩ := ho3.form (by simp)
            injection e3 with e3 _ _
            subst e3
            obtain ⟨v0, hv0, ht0⟩ := he3 0 (by simp)
            obtain ⟨v1, hv1, ht1⟩ := he3 1 (by simp)
            have y0 := ho3.cells (g := g) rfl 0 v0 hv0
            have y1 := ho3.cells (g := g) rfl 1 v1 hv1
            obtain ⟨T0, x0, rfl, _⟩ := ht0.asks
            obtain ⟨T1, x1, rfl, _⟩ := ht1.asks
            have kc := ihc (HR.out.below hb13) ht0 (Nat.le_trans hB hb13.size)
            have y0 : w3.cell? ⟨g, 0, none⟩ = some (.iface T0 x0) := y0
            have HT1 := Lib.hid ht1
            have y1' := cell_later' (show w3.cell? ⟨g, 1, none⟩ = some (.iface T1 x1) from y1)
            clear ho3 he3 kk3 ht0 ht1 hv0 hv1 ihc y1
            go_wp2_with fail
            refine kc.mono ?_
            rintro e w4 ⟨v4, rfl, hb4, hv4⟩
            have hb14 := below_trans hb13 hb4
            have y2 := y1' w4 hb4
            have kd := ihd (HR.out.below hb14) (HT1.out.below hb4) (Nat.le_trans hB hb14.size)
            clear hv4 kc y1' ihd
            go_wp2_with fail
            refine kd.mono ?_
            rintro e w5 ⟨v5, rfl, hb5, hv5⟩
            clear hv5 kd
            go_wp2_with fail
            go_ret2
            exact ⟨_, rfl, below_trans hb14 hb5, fun u hu => by cases hu⟩
          | some ud =>
            simp only [Option.bind_some]
            have hfd := hfd ud rfl
            go_enter Tryz.func23, Tryz.ntmps23
            go_wp2_with fail
            refine k1.mono ?_
            rintro e w1 ⟨s1, rfl, hb1, hr1⟩
            have kk2 := k2 w1 hb1
            have e1 := c1 w1 hb1
            clear hr1 k1 k2
            go_wp2_with fail
            refine kk2.mono ?_
            rintro e w2 ⟨s2, rfl, hb2, hr2⟩
            have hb12 := below_trans hb1 hb2
            have kk3 := k3 w2 hb12
            have e2 := c2 w2 hb12
            clear hr2 kk2 k3
            go_wp2_with fail
            refine kk3.mono ?_
            rintro e w3 ⟨ao, cap, vs, rfl, hb3, ho3, he3, _⟩
            have hb13 := below_trans hb12 hb3
            obtain ⟨g, cp, e3, hbg, hlt⟩ := ho3.form (by simp)
            injection e3 with e3 _ _
            subst e3
            obtain ⟨v0, hv0, ht0⟩ := he3 0 (by simp)
            obtain ⟨v1, hv1, ht1⟩ := he3 1 (by simp)
            have y0 := ho3.cells (g := g) rfl 0 v0 hv0
            have y1 := ho3.cells (g := g) rfl 1 v1 hv1
            obtain ⟨T0, x0, rfl, _⟩ := ht0.asks
            obtain ⟨T1, x1, rfl, _⟩ := ht1.asks
            have kc := ihc (HR.out.below hb13) ht0 (Nat.le_trans hB hb13.size)
            have y0 : w3.cell? ⟨g, 0, none⟩ = some (.iface T0 x0) := y0
            have HT1 := Lib.hid ht1
            have y1' := cell_later' (show w3.cell? ⟨g, 1, none⟩ = some (.iface T1 x1) from y1)
            clear ho3 he3 kk3 ht0 ht1 hv0 hv1 ihc y1
            go_wp2_with fail
            refine kc.mono ?_
            rintro e w4 ⟨v4, rfl, hb4, hv4⟩
            have hb14 := below_trans hb13 hb4
            have y2 := y1' w4 hb4
            have kd := ihd (HR.out.below hb14) (HT1.out.below hb4) (Nat.le_trans hB hb14.size)
            have HT4 := Lib.hid (hv4 uc rfl)
            clear hv4 kc y1' ihd
            go_wp2_with fail
            refine kd.mono ?_
            rintro e w5 ⟨v5, rfl, hb5, hv5⟩
            have hb15 := below_trans hb14 hb5
            have ka := apply_any w5 B uc ud v4 v5 (HT4.out.below hb5) (hv5 ud rfl) (Nat.le_trans hB hb15.size) (by omega)
            clear hv5 kd
            go_wp2_with fail
            refine ka.mono ?_
            rintro e w6 ⟨v6, rfl, hb6, ht6⟩
            have HT6 := Lib.hid ht6
            clear ht6 ka
            go_wp2_with fail
            go_ret2
            exact ⟨_, rfl, below_trans hb15 hb6, fun u hu => by obtain rfl := Option.some.inj hu; exact HT6.out⟩

theorem back_more : ∀ (n m : Nat) (t : Tm), t.size ≤ n → t.size ≤ m → Tm.back n t = Tm.back m t
  | 0, _, t, h, _ => by have := Tm.size_pos t; omega
  | _, 0, t, _, h => by have := Tm.size_pos t; omega
  | n + 1, m + 1, t, h1, h2 => by
    simp only [Tm.back]
    split
    · rfl
    · split
      · rfl
      · split
        · rename_i c d hcd
          obtain ⟨c', d', e, rfl⟩ := Tm.mt_appC hcd
          simp only [List.cons.injEq, and_true] at e
          obtain ⟨rfl, rfl⟩ := e
          have hz := Tm.size_appC c d
          rw [back_more n m c (by omega) (by omega), back_more n m d (by omega) (by omega)]
        · rfl

theorem rdr_any : ∀ (n : Nat) {t : Tm} {w : World} {B : Nat} {r v : Value}, t.size ≤ n → RV w r → TV w B t v → t.good = true → B ≤ w.heap.size → n ≤ 1000000 → Calls Tryz.prog 23 #[r, v] w (DataPost w B (Tm.back n t))
  | 0, t, _, _, _, _, h, _, _, _, _, _ => by have := Tm.size_pos t; omega
  | n + 1, t, w, B, r, v, h, hr, ht, hg, hB, hn => rdr_step n t w B r v hr ht hg hB (by omega) (fun hR hT hgu hBW hlt => rdr_any n (by omega) hR hT hgu hBW (by omega))

theorem impl_codeRead (w : World) (l : List UInt8) (hl : l.length ≤ 1000000000) :
    Calls Tryz.prog 8 #[str l] w (TextRes' w (Tm.pCodeRead l)) := by
  have hread := readTerm_any w _ l (Nat.le_refl _) hl
  unfold ParsePost at hread
  unfold Tm.pCodeRead
  cases hp : Tm.parse l with
  | none =>
    rw [hp] at hread
    clear hp
    go_enter Tryz.func8, Tryz.ntmps8
    go_wp2_with fail
    refine hread.mono ?_
    rintro e w1 ⟨v1, rfl, hb1, hv1⟩
    clear hv1 hread
    go_wp2_with fail
    go_ret2
    exact ⟨rfl, hb1⟩
  | some t =>
    obtain ⟨hg, hf, hs, _, _⟩ := Tm.parse_facts hp
    rw [hp] at hread
    clear hp
    show Calls _ _ _ _ (TextRes' w ((Tm.back t.size t).map Tm.text))
    have hnew := fun W => newReader_any W
    have hrd := fun W r v (hR : RV W r) (hT : TV W w.heap.size t v) (hB : w.heap.size ≤ W.heap.size) => rdr_any t.size (Nat.le_refl _) hR hT hg hB (by omega)
    unfold DataPost at hrd
    have hbf := fun u (hu : Tm.back t.size t = some u) => Tm.back_facts t.size t u hu
    generalize Tm.back t.size t = ro at *
    cases ro with
    | none =>
      go_enter Tryz.func8, Tryz.ntmps8
      go_wp2_with fail
      refine hread.mono ?_
      rintro e w1 ⟨v1, rfl, hb1, hv1⟩
      have HV1 := Lib.hid (hv1 t rfl)
      clear hv1 hread
      go_wp2_with fail
      refine (hnew w1).mono ?_
      rintro e w2 ⟨r2, rfl, hb2, hR2⟩
      have hb12 := below_trans hb1 hb2
      have k := hrd w2 r2 v1 hR2 (HV1.out.below hb2) hb12.size
      clear hrd hnew hR2
      go_wp2_with fail
      refine k.mono ?_
      rintro e w3 ⟨v3, rfl, hb3, hv3⟩
      clear hv3 k
      go_wp2_with fail
      go_ret2
      exact ⟨rfl, below_trans hb12 hb3⟩
    | some u =>
      obtain ⟨_, hsu, hgu, _⟩ := hbf u rfl
      have htx := Tm.text_le u hgu
      go_enter Tryz.func8, Tryz.ntmps8
      go_wp2_with fail
      refine hread.mono ?_
      rintro e w1 ⟨v1, rfl, hb1, hv1⟩
      have HV1 := Lib.hid (hv1 t rfl)
      clear hv1 hread
      go_wp2_with fail
      refine (hnew w1).mono ?_
      rintro e w2 ⟨r2, rfl, hb2, hR2⟩
      have hb12 := below_trans hb1 hb2
      have k := hrd w2 r2 v1 hR2 (HV1.out.below hb2) hb12.size
      clear hrd hnew hR2
      go_wp2_with fail
      refine k.mono ?_
      rintro e w3 ⟨v3, rfl, hb3, hv3⟩
      have htext := textOf_any w3 _ u v3 (hv3 u rfl) hgu (by omega)
      clear hv3 k
      go_wp2_with (go_at_call 15; refine htext.mono ?_; rintro e w7 ⟨rfl, hb7⟩)
      go_ret2
      exact ⟨rfl, below_trans (below_trans hb12 hb3) hb7⟩
end Go.Proofs.YtfpekihdoclncaaGreat

namespace Go.Proofs.YtfpekihdoclncaaGreat
open Go.RowKit

set_option maxHeartbeats 1000000
set_option maxRecDepth 100000

def SNum (w : World) (r : Option (List UInt8 × Nat)) (e : Ending) (w' : World) : Prop :=
  e = .returned (.tuple #[str ((r.map Prod.fst).getD []), .int .i64 (((r.map Prod.snd).getD 0 : Nat) : Int), .bool r.isSome]) ∧ After w w'

end Go.Proofs.YtfpekihdoclncaaGreat
