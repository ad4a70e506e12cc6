/-
  The program's reader of codes reads every term; CodeRead.
-/
import Derived.Test.YtfpekihdoclncaaPkBE
import Derived.Test.YtfpekihdoclncaaPkBG
import Derived.Test.YtfpekihdoclncaaPkBA
namespace Go.Proofs.Ytfpekihdoclncaa
open Go.RowKit

set_option maxHeartbeats 4000000
set_option maxRecDepth 100000

theorem rdr_step (n : Nat) (t : Tm) (w : World) (B : Nat) (r v : Value) (hr : RV w r) (h : TV w B t v) (hg : t.good = true) (hB : B ≤ w.heap.size) (hz : t.size ≤ 1000000)
    (ih : ∀ {u : Tm} {W : World} {v : Value}, RV W r → TV W B u v → u.good = true → B ≤ W.heap.size → u.size < t.size → Calls Try.prog 50 #[r, v] W (DataPost W B (Tm.back n u))) :
    Calls Try.prog 50 #[r, v] w (DataPost w B (Tm.back (n + 1) t)) := by
  have hself := Below.refl w.heap.size w
  have HR := Lib.hid hr
  obtain ⟨b, fr, p1, p2, p3, rfl, hh, hp1, hp2, hp3⟩ := hr
  obtain ⟨q1, rfl⟩ := hp1.form
  obtain ⟨q2, rfl⟩ := hp2.form
  obtain ⟨q3, rfl⟩ := hp3.form
  obtain ⟨T, x, rfl, _⟩ := h.asks
  have c0 := cell_later' (cell_of_heap (i := 0) hh)
  have c1 := cell_later' (cell_of_heap (i := 1) hh)
  have c2 := cell_later' (cell_of_heap (i := 2) hh)
  simp at c0 c1 c2
  have d0 := c0 w hself
  have k1 := pat_any hp1 h hg hB (by decide +kernel)
  have k2 := fun W (hW : Below w.heap.size w W) => pat_any (hp2.below hW) (h.below hW) hg (Nat.le_trans hB hW.size) (by decide +kernel)
  have k3 := fun W (hW : Below w.heap.size w W) => (pat_any (hp3.below hW) (h.below hW) hg (Nat.le_trans hB hW.size) (by decide +kernel))
  clear hh hp1 hp2 hp3 h
  simp only [Tm.back]
  cases h1 : (Tm.mt Tm.kC t).isSome with
  | true =>
    unfold RdPost at k1
    rw [h1] at k1
    simp only [if_true]
    clear h1 k2 k3
    go_enter Try.func50, Try.ntmps50
    go_wp2_with fail
    refine k1.mono ?_
    rintro e w1 ⟨s1, rfl, hb1, hr1⟩
    have hn := below_new w1 (.cells #[] 76)
    have ht := Lib.hid (show TV (w1.alloc (.cells #[] 76)) B .k (.iface 72 (.pointer (some ⟨w1.heap.size, 0, none⟩))) from ⟨_, _, rfl, Nat.le_trans hB hb1.size, heap_top w1 _⟩)
    clear hr1 k1
    go_wp2_with fail
    go_ret2
    exact ⟨_, rfl, below_trans hb1 hn, fun u hu => by obtain rfl := Option.some.inj hu; exact ht.out⟩
  | false =>
    unfold RdPost at k1
    rw [h1] at k1
    simp only [Bool.false_eq_true, if_false]
    cases h2 : (Tm.mt Tm.sC t).isSome with
    | true =>
      unfold RdPost at k2
      rw [h2] at k2
      simp only [if_true]
      clear h1 h2 k3
      go_enter Try.func50, Try.ntmps50
      go_wp2_with fail
      refine k1.mono ?_
      rintro e w1 ⟨s1, rfl, hb1, hr1⟩
      have k := k2 w1 hb1
      have e1 := c1 w1 hb1
      clear hr1 k1 k2
      go_wp2_with fail
      refine k.mono ?_
      rintro e w2 ⟨s2, rfl, hb2, hr2⟩
      have hb12 := below_trans hb1 hb2
      have hn := below_new w2 (.cells #[] 78)
      have ht := Lib.hid (show TV (w2.alloc (.cells #[] 78)) B .s (.iface 77 (.pointer (some ⟨w2.heap.size, 0, none⟩))) from ⟨_, _, rfl, Nat.le_trans hB hb12.size, heap_top w2 _⟩)
      clear hr2 k
      go_wp2_with fail
      go_ret2
      exact ⟨_, rfl, below_trans hb12 hn, fun u hu => by obtain rfl := Option.some.inj hu; exact ht.out⟩
    | false =>
      unfold RdPost at k2
      rw [h2] at k2
      simp only [Bool.false_eq_true, if_false]
      cases h3 : Tm.mt (Tm.appC Tm.X Tm.Y) t with
      | none =>
        unfold RdPost at k3
        simp only [h3] at k3
        clear h1 h2 h3
        go_enter Try.func50, Try.ntmps50
        go_wp2_with fail
        refine k1.mono ?_
        rintro e w1 ⟨s1, rfl, hb1, hr1⟩
        have kk2 := k2 w1 hb1
        have e1 := c1 w1 hb1
        clear hr1 k1 k2
        go_wp2_with fail
        refine kk2.mono ?_
        rintro e w2 ⟨s2, rfl, hb2, hr2⟩
        have hb12 := below_trans hb1 hb2
        have kk3 := k3 w2 hb12
        have e2 := c2 w2 hb12
        clear hr2 kk2 k3
        go_wp2_with fail
        refine kk3.mono ?_
        rintro e w3 ⟨s3, rfl, hb3, hr3⟩
        clear hr3 kk3
        go_wp2_with fail
        go_ret2
        exact ⟨_, rfl, below_trans hb12 hb3, fun u hu => by cases hu⟩
      | some l =>
        obtain ⟨cc, dd, rfl, rfl⟩ := Tm.mt_appC h3
        have k3 := fun W (hW : Below w.heap.size w W) => (k3 W hW).mono (fun e w' h => RdPost.own (by rw [h3] at h; exact h))
        have hgg : cc.good = true ∧ dd.good = true := by
          simp only [Tm.appC, Tm.good, Tm.good_pair, Bool.and_eq_true] at hg
          exact hg.2.2
        have hsz := Tm.size_appC cc dd
        have ihc := fun {W : World} {v : Value} (hR : RV W _) (hT : TV W B cc v) (hBW : B ≤ W.heap.size) => ih hR hT hgg.1 hBW (by omega)
        have ihd := fun {W : World} {v : Value} (hR : RV W _) (hT : TV W B dd v) (hBW : B ≤ W.heap.size) => ih hR hT hgg.2 hBW (by omega)
        have hfc := fun u (hu : Tm.back n cc = some u) => (Tm.back_facts n cc u hu).2.1
        have hfd := fun u (hu : Tm.back n dd = some u) => (Tm.back_facts n dd u hu).2.1
        unfold DataPost at ihc ihd
        simp only
        clear h1 h2 h3 ih hg
        generalize Tm.back n cc = rc at *
        generalize Tm.back n dd = rd at *
        cases rc with
        | none =>
          simp only [Option.bind_none]
          go_enter Try.func50, Try.ntmps50
          go_wp2_with fail
          refine k1.mono ?_
          rintro e w1 ⟨s1, rfl, hb1, hr1⟩
          have kk2 := k2 w1 hb1
          have e1 := c1 w1 hb1
          clear hr1 k1 k2
          go_wp2_with fail
          refine kk2.mono ?_
          rintro e w2 ⟨s2, rfl, hb2, hr2⟩
          have hb12 := below_trans hb1 hb2
          have kk3 := k3 w2 hb12
          have e2 := c2 w2 hb12
          clear hr2 kk2 k3
          go_wp2_with fail
          refine kk3.mono ?_
          rintro e w3 ⟨ao, cap, vs, rfl, hb3, ho3, he3, _⟩
          have hb13 := below_trans hb12 hb3
          obtain ⟨g, cp, e3, hbg, hlt⟩ := ho3.form (by simp)
          injection e3 with e3 _ _
          subst e3
          obtain ⟨v0, hv0, ht0⟩ := he3 0 (by simp)
          have y0 := ho3.cells (g := g) rfl 0 v0 hv0
          obtain ⟨T0, x0, rfl, _⟩ := ht0.asks
          have kc := ihc (HR.out.below hb13) ht0 (Nat.le_trans hB hb13.size)
          have y0 : w3.cell? ⟨g, 0, none⟩ = some (.iface T0 x0) := y0
          clear ho3 he3 kk3 ht0 hv0 ihc ihd
          go_wp2_with fail
          refine kc.mono ?_
          rintro e w4 ⟨v4, rfl, hb4, hv4⟩
          clear hv4 kc
          go_wp2_with fail
          go_ret2
          exact ⟨_, rfl, below_trans hb13 hb4, fun u hu => by cases hu⟩
        | some uc =>
          simp only [Option.bind_some]
          have hfc := hfc uc rfl
          cases rd with
          | none =>
            simp only [Option.bind_none]
            go_enter Try.func50, Try.ntmps50
            go_wp2_with fail
            refine k1.mono ?_
            rintro e w1 ⟨s1, rfl, hb1, hr1⟩
            have kk2 := k2 w1 hb1
            have e1 := c1 w1 hb1
            clear hr1 k1 k2
            go_wp2_with fail
            refine kk2.mono ?_
            rintro e w2 ⟨s2, rfl, hb2, hr2⟩
            have hb12 := below_trans hb1 hb2
            have kk3 := k3 w2 hb12
            have e2 := c2 w2 hb12
            clear hr2 kk2 k3
            go_wp2_with fail
            refine kk3.mono ?_
            rintro e w3 ⟨ao, cap, vs, rfl, hb3, ho3, he3, _⟩
            have hb13 := below_trans hb12 hb3
            obtain ⟨g, cp, e3, hbg, hlt⟩ := ho3.form (by simp)
            injection e3 with e3 _ _
            subst e3
            obtain ⟨v0, hv0, ht0⟩ := he3 0 (by simp)
            obtain ⟨v1, hv1, ht1⟩ := he3 1 (by simp)
            have y0 := ho3.cells (g := g) rfl 0 v0 hv0
            have y1 := ho3.cells (g := g) rfl 1 v1 hv1
            obtain ⟨T0, x0, rfl, _⟩ := ht0.asks
            obtain ⟨T1, x1, rfl, _⟩ := ht1.asks
            have kc := ihc (HR.out.below hb13) ht0 (Nat.le_trans hB hb13.size)
            have y0 : w3.cell? ⟨g, 0, none⟩ = some (.iface T0 x0) := y0
            have HT1 := Lib.hid ht1
            have y1' := cell_later' (show w3.cell? ⟨g, 1, none⟩ = some (.iface T1 x1) from y1)
            clear ho3 he3 kk3 ht0 ht1 hv0 hv1 ihc y1
            go_wp2_with fail
            refine kc.mono ?_
            rintro e w4 ⟨v4, rfl, hb4, hv4⟩
            have hb14 := below_trans hb13 hb4
            have y2 := y1' w4 hb4
            have kd := ihd (HR.out.below hb14) (HT1.out.below hb4) (Nat.le_trans hB hb14.size)
            clear hv4 kc y1' ihd
            go_wp2_with fail
            refine kd.mono ?_
            rintro e w5 ⟨v5, rfl, hb5, hv5⟩
            clear hv5 kd
            go_wp2_with fail
            go_ret2
            exact ⟨_, rfl, below_trans hb14 hb5, fun u hu => by cases hu⟩
          | some ud =>
            simp only [Option.bind_some]
            have hfd := hfd ud rfl
            go_enter Try.func50, Try.ntmps50
            go_wp2_with fail
            refine k1.mono ?_
            rintro e w1 ⟨s1, rfl, hb1, hr1⟩
            have kk2 := k2 w1 hb1
            have e1 := c1 w1 hb1
            clear hr1 k1 k2
            go_wp2_with fail
            refine kk2.mono ?_
            rintro e w2 ⟨s2, rfl, hb2, hr2⟩
            have hb12 := below_trans hb1 hb2
            have kk3 := k3 w2 hb12
            have e2 := c2 w2 hb12
            clear hr2 kk2 k3
            go_wp2_with fail
            refine kk3.mono ?_
            rintro e w3 ⟨ao, cap, vs, rfl, hb3, ho3, he3, _⟩
            have hb13 := below_trans hb12 hb3
            obtain ⟨g, cp, e3, hbg, hlt⟩ := ho3.form (by simp)
            injection e3 with e3 _ _
            subst e3
            obtain ⟨v0, hv0, ht0⟩ := he3 0 (by simp)
            obtain ⟨v1, hv1, ht1⟩ := he3 1 (by simp)
            have y0 := ho3.cells (g := g) rfl 0 v0 hv0
            have y1 := ho3.cells (g := g) rfl 1 v1 hv1
            obtain ⟨T0, x0, rfl, _⟩ := ht0.asks
            obtain ⟨T1, x1, rfl, _⟩ := ht1.asks
            have kc := ihc (HR.out.below hb13) ht0 (Nat.le_trans hB hb13.size)
            have y0 : w3.cell? ⟨g, 0, none⟩ = some (.iface T0 x0) := y0
            have HT1 := Lib.hid ht1
            have y1' := cell_later' (show w3.cell? ⟨g, 1, none⟩ = some (.iface T1 x1) from y1)
            clear ho3 he3 kk3 ht0 ht1 hv0 hv1 ihc y1
            go_wp2_with fail
            refine kc.mono ?_
            rintro e w4 ⟨v4, rfl, hb4, hv4⟩
            have hb14 := below_trans hb13 hb4
            have y2 := y1' w4 hb4
            have kd := ihd (HR.out.below hb14) (HT1.out.below hb4) (Nat.le_trans hB hb14.size)
            have HT4 := Lib.hid (hv4 uc rfl)
            clear hv4 kc y1' ihd
            go_wp2_with fail
            refine kd.mono ?_
            rintro e w5 ⟨v5, rfl, hb5, hv5⟩
            have hb15 := below_trans hb14 hb5
            have ka := apply_any w5 B uc ud v4 v5 (HT4.out.below hb5) (hv5 ud rfl) (Nat.le_trans hB hb15.size) (by omega)
            clear hv5 kd
            go_wp2_with fail
            refine ka.mono ?_
            rintro e w6 ⟨v6, rfl, hb6, ht6⟩
            have HT6 := Lib.hid ht6
            clear ht6 ka
            go_wp2_with fail
            go_ret2
            exact ⟨_, rfl, below_trans hb15 hb6, fun u hu => by obtain rfl := Option.some.inj hu; exact HT6.out⟩

theorem back_more : ∀ (n m : Nat) (t : Tm), t.size ≤ n → t.size ≤ m → Tm.back n t = Tm.back m t
  | 0, _, t, h, _ => by have := Tm.size_pos t; omega
  | _, 0, t, _, h => by have := Tm.size_pos t; omega
  | n + 1, m + 1, t, h1, h2 => by
    simp only [Tm.back]
    split
    · rfl
    · split
      · rfl
      · split
        · rename_i c d hcd
          obtain ⟨c', d', e, rfl⟩ := Tm.mt_appC hcd
          simp only [List.cons.injEq, and_true] at e
          obtain ⟨rfl, rfl⟩ := e
          have hz := Tm.size_appC c d
          rw [back_more n m c (by omega) (by omega), back_more n m d (by omega) (by omega)]
        · rfl

theorem rdr_any : ∀ (n : Nat) {t : Tm} {w : World} {B : Nat} {r v : Value}, t.size ≤ n → RV w r → TV w B t v → t.good = true → B ≤ w.heap.size → n ≤ 1000000 → Calls Try.prog 50 #[r, v] w (DataPost w B (Tm.back n t))
  | 0, t, _, _, _, _, h, _, _, _, _, _ => by have := Tm.size_pos t; omega
  | n + 1, t, w, B, r, v, h, hr, ht, hg, hB, hn => rdr_step n t w B r v hr ht hg hB (by omega) (fun hR hT hgu hBW hlt => rdr_any n (by omega) hR hT hgu hBW (by omega))

theorem impl_codeRead (w : World) (l : List UInt8) (hl : l.length ≤ 1000000000) :
    Calls Try.prog 23 #[str l] w (TextRes' w (Tm.pCodeRead l)) := by
  have hread := readTerm_any w _ l (Nat.le_refl _) hl
  unfold ParsePost at hread
  unfold Tm.pCodeRead
  cases hp : Tm.parse l with
  | none =>
    rw [hp] at hread
    clear hp
    go_enter Try.func23, Try.ntmps23
    go_wp2_with fail
    refine hread.mono ?_
    rintro e w1 ⟨v1, rfl, hb1, hv1⟩
    clear hv1 hread
    go_wp2_with fail
    go_ret2
    exact ⟨rfl, hb1⟩
  | some t =>
    obtain ⟨hg, hf, hs, _, _⟩ := Tm.parse_facts hp
    rw [hp] at hread
    clear hp
    show Calls _ _ _ _ (TextRes' w ((Tm.back t.size t).map Tm.text))
    have hnew := fun W => newReader_any W
    have hrd := fun W r v (hR : RV W r) (hT : TV W w.heap.size t v) (hB : w.heap.size ≤ W.heap.size) => rdr_any t.size (Nat.le_refl _) hR hT hg hB (by omega)
    unfold DataPost at hrd
    have hbf := fun u (hu : Tm.back t.size t = some u) => Tm.back_facts t.size t u hu
    generalize Tm.back t.size t = ro at *
    cases ro with
    | none =>
      go_enter Try.func23, Try.ntmps23
      go_wp2_with fail
      refine hread.mono ?_
      rintro e w1 ⟨v1, rfl, hb1, hv1⟩
      have HV1 := Lib.hid (hv1 t rfl)
      clear hv1 hread
      go_wp2_with fail
      refine (hnew w1).mono ?_
      rintro e w2 ⟨r2, rfl, hb2, hR2⟩
      have hb12 := below_trans hb1 hb2
      have k := hrd w2 r2 v1 hR2 (HV1.out.below hb2) hb12.size
      clear hrd hnew hR2
      go_wp2_with fail
      refine k.mono ?_
      rintro e w3 ⟨v3, rfl, hb3, hv3⟩
      clear hv3 k
      go_wp2_with fail
      go_ret2
      exact ⟨rfl, below_trans hb12 hb3⟩
    | some u =>
      obtain ⟨_, hsu, hgu, _⟩ := hbf u rfl
      have htx := Tm.text_le u hgu
      go_enter Try.func23, Try.ntmps23
      go_wp2_with fail
      refine hread.mono ?_
      rintro e w1 ⟨v1, rfl, hb1, hv1⟩
      have HV1 := Lib.hid (hv1 t rfl)
      clear hv1 hread
      go_wp2_with fail
      refine (hnew w1).mono ?_
      rintro e w2 ⟨r2, rfl, hb2, hR2⟩
      have hb12 := below_trans hb1 hb2
      have k := hrd w2 r2 v1 hR2 (HV1.out.below hb2) hb12.size
      clear hrd hnew hR2
      go_wp2_with fail
      refine k.mono ?_
      rintro e w3 ⟨v3, rfl, hb3, hv3⟩
      have htext := textOf_any w3 _ u v3 (hv3 u rfl) hgu (by omega)
      clear hv3 k
      go_wp2_with (go_at_call 32; refine htext.mono ?_; rintro e w7 ⟨rfl, hb7⟩)
      go_ret2
      exact ⟨rfl, below_trans (below_trans hb12 hb3) hb7⟩
end Go.Proofs.Ytfpekihdoclncaa

namespace Go.Proofs.Ytfpekihdoclncaa
open Go.RowKit

set_option maxHeartbeats 2000000
set_option maxRecDepth 100000

namespace Tm
theorem behind_is {F : Tm} {t a : Tm} (hF : F.good = true) (hg : t.good = true) (h : behind F.text t = some a) : t = app F a := by
  cases t with
  | app f b =>
    simp only [behind] at h
    split at h
    · rename_i he
      obtain rfl := Option.some.inj h
      simp only [good, Bool.and_eq_true] at hg
      rw [text_inj hg.1 hF he]
    · cases h
  | _ => simp [behind] at h

theorem parts_pair {t m n : Tm} (h : t.parts = some (m, n)) (hg : t.good = true) : t = pair m n := by
  cases t with
  | app x y =>
    have hg' := hg
    simp only [good, Bool.and_eq_true] at hg'
    simp only [parts] at h
    split at h
    · simp at h
    · rename_i n' e1
      split at h
      · simp at h
      · rename_i left e2
        split at h
        · simp at h
        · rename_i front e3
          split at h
          · simp at h
          · rename_i m' e4
            simp only [Option.some.injEq, Prod.mk.injEq] at h
            obtain ⟨rfl, rfl⟩ := h
            have g1 := behind_is (F := k) rfl hg'.2 e1
            have g2 := behind_is (F := s) rfl hg'.1 e2
            subst g1
            subst g2
            simp only [good, Bool.and_eq_true] at hg'
            have g3 := behind_is (F := app s I) rfl hg'.1.2 e3
            subst g3
            simp only [good, Bool.and_eq_true] at hg'
            have g4 := behind_is (F := k) rfl hg'.1.2.2 e4
            subst g4
            rfl
  | _ => simp [parts] at h
theorem parts_of_pair (m n : Tm) : (pair m n).parts = some (m, n) := by
  have h1 : Tm.text .k = [107] := rfl
  have h2 : Tm.text .s = [115] := rfl
  have h3 : Tm.text (.app .s I) = [40, 115, 32, 40, 40, 115, 32, 107, 41, 32, 107, 41, 41] := by decide
  simp [pair, parts, behind, h1, h2, h3]
theorem text_mt {u t : Tm} (hu : u.good = true) (hn : ∀ n, has n u = false) (hg : t.good = true) : (t.text == u.text) = (mt u t).isSome := by
  rw [Bool.eq_iff_iff, beq_iff_eq, Option.isSome_iff_exists]
  constructor
  · intro h
    obtain rfl := text_inj hg hu h
    exact ⟨_, mt_self _ hn⟩
  · rintro ⟨l, h⟩
    rw [(mt_closed _ _ _ hn h).1]
end Tm

theorem s_back : ∀ (n : Nat) {t : Tm} {w : World} {v : Value}, t.size ≤ n → ST w t v → t.good = true → t.size ≤ 3000 → Calls Try.prog 51 #[v] w (SBackPost w (Tm.back n t))
  | 0, t, _, _, h, _, _, _ => by have := Tm.size_pos t; omega
  | n + 1, t, w, v, hn, hst, hg, hz => by
    have hk := Tm.text_mt (u := Tm.kC) (by decide +kernel) Tm.kC_has hg
    have hs := Tm.text_mt (u := Tm.sC) (by decide +kernel) Tm.sC_has hg
    obtain ⟨x, ax, nx, cx, rfl⟩ := hst.form
    simp only [Tm.back]
    cases h1 : (Tm.mt Tm.kC t).isSome with
    | true =>
      rw [h1] at hk
      simp only [if_true]
      exact back_k w t x ax nx cx hst hg hz hk
    | false =>
      rw [h1] at hk
      simp only [Bool.false_eq_true, if_false]
      cases h2 : (Tm.mt Tm.sC t).isSome with
      | true =>
        rw [h2] at hs
        simp only [if_true]
        exact back_s w t x ax nx cx hst hg hz hk hs
      | false =>
        rw [h2] at hs
        simp only [Bool.false_eq_true, if_false]
        clear h1 h2
        cases hm : Tm.mt (Tm.appC Tm.X Tm.Y) t with
        | some l =>
          obtain ⟨c, d, rfl, rfl⟩ := Tm.mt_appC hm
          simp only
          have hsz := Tm.size_appC c d
          have hg' := hg
          simp only [Tm.appC, Tm.good, Bool.and_eq_true] at hg'
          have hgp := hg'.2.2
          have hgcd := hgp
          rw [Tm.good_pair, Bool.and_eq_true] at hgcd
          have hpz := Tm.size_pair c d
          obtain ⟨g, cap, fr, s0, p0, s1, p1, e, hh, hf, ha⟩ := hst
          obtain ⟨g2, cap2, fr2, s2, p2, s3, p3, e', hh2, hf2, ha2⟩ := ha
          simp only [Value.agg.injEq, Array.mk.injEq, List.cons.injEq, and_true] at e e'
          obtain ⟨ex, es⟩ := e
          obtain ⟨rfl, rfl⟩ := e'
          have hf' : Value.agg #[s0, p0] = .agg #[str [107], .slice none 0 0] := hf
          have hf2' : Value.agg #[s2, p2] = .agg #[str [107], .slice none 0 0] := hf2
          simp only [Value.agg.injEq, Array.mk.injEq, List.cons.injEq, and_true] at hf' hf2'
          obtain ⟨rfl, rfl⟩ := hf'
          obtain ⟨rfl, rfl⟩ := hf2'
          injection es with e1 e2 e3
          subst e1 e2 e3
          obtain rfl : x = [] := by
            injection ex with ex
            have := congrArg (fun b : ByteArray => b.data.toList) ex
            simpa using this
          have hst2 : ST w (Tm.appC c d) (.agg #[str [], .slice (some ⟨g, 0, none⟩) 2 cx]) := ⟨g, cx, fr, _, _, _, _, rfl, hh, hf, g2, cap2, fr2, _, _, _, _, rfl, hh2, hf2, ha2⟩
          have ihc : ∀ {W : World} {v : Value}, ST W c v → Calls Try.prog 51 #[v] W (SBackPost W (Tm.back n c)) := fun h => s_back n (by omega) h hgcd.1 (by omega)
          have ihd : ∀ {W : World} {v : Value}, ST W d v → Calls Try.prog 51 #[v] W (SBackPost W (Tm.back n d)) := fun h => s_back n (by omega) h hgcd.2 (by omega)
          generalize Tm.back n c = rc at *
          generalize Tm.back n d = rd at *
          cases rc with
          | none => exact back_7 w (Tm.appC c d) [] (some ⟨g, 0, none⟩) 2 cx hst2 hg hz hk hs g g2 cap2 _ _ s3 p3 fr fr2 (Tm.pair c d) rfl rfl rfl hh hh2 ha2 hgp (by omega) c d (Tm.parts_of_pair c d) rd ihc ihd
          | some uc => exact back_6 w (Tm.appC c d) [] (some ⟨g, 0, none⟩) 2 cx hst2 hg hz hk hs g g2 cap2 _ _ s3 p3 fr fr2 (Tm.pair c d) rfl rfl rfl hh hh2 ha2 hgp (by omega) c d (Tm.parts_of_pair c d) uc rd ihc ihd
        | none =>
          simp only
          cases t with
          | k => exact back_1 w .k x ax nx cx hst hg hz hk hs (by
              have : Value.agg #[str x, .slice ax nx cx] = .agg #[str [107], .slice none 0 0] := hst
              rw [empty_app hst hg]; rfl)
          | s => exact back_1 w .s x ax nx cx hst hg hz hk hs (by rw [empty_app hst hg]; rfl)
          | nm m => exact back_1 w (.nm m) x ax nx cx hst hg hz hk hs (by rw [empty_app hst hg]; rfl)
          | app f a =>
            have hgg := hg
            simp only [Tm.good, Bool.and_eq_true] at hgg
            have hsz : f.size + a.size ≤ 3000 := hz
            obtain ⟨g, cap, fr, s0, p0, s1, p1, e, hh, hf, ha⟩ := id hst
            obtain ⟨x0, a0, n0, c0, e0⟩ := hf.form
            obtain ⟨x1, a1, n1, c1, e1⟩ := ha.form
            simp only [Value.agg.injEq, Array.mk.injEq, List.cons.injEq, and_true] at e e0 e1
            obtain ⟨ex, es⟩ := e
            obtain ⟨rfl, rfl⟩ := e0
            obtain ⟨rfl, rfl⟩ := e1
            injection es with e1 e2 e3
            subst e1 e2 e3
            obtain rfl : x = [] := by
              injection ex with ex
              have := congrArg (fun b : ByteArray => b.data.toList) ex
              simpa using this
            by_cases hf107 : x0 = [107]
            · subst hf107
              have hfk : f = .k := Tm.text_inj hgg.1 (u := .k) rfl ((letter_eq 107 hf).1 rfl)
              cases hx1 : x1.isEmpty with
              | false => exact back_3 w (.app f a) [] (some ⟨g, 0, none⟩) 2 cx hst hg hz hk hs g x1 _ _ fr rfl rfl rfl hh hx1
              | true =>
                obtain rfl : x1 = [] := List.isEmpty_iff.1 hx1
                have hia := empty_app ha hgg.2
                rw [show ([] : List UInt8).isEmpty = true from rfl] at hia
                cases a with
                | k => cases hia
                | s => cases hia
                | nm m => cases hia
                | app h p =>
                  have hggp := hgg.2
                  simp only [Tm.good, Bool.and_eq_true] at hggp
                  obtain ⟨g2, cap2, fr2, s2, p2, s3, p3, e', hh2, hf2, ha2⟩ := ha
                  obtain ⟨x2, a2, n2, c2, e2⟩ := hf2.form
                  simp only [Value.agg.injEq, Array.mk.injEq, List.cons.injEq, and_true, true_and] at e' e2
                  obtain ⟨rfl, rfl⟩ := e2
                  injection e' with e1 e2 e3
                  subst e1 e2 e3
                  by_cases hx2 : x2 = [107]
                  · subst hx2
                    have hhk : h = .k := Tm.text_inj hggp.1 (u := .k) rfl ((letter_eq 107 hf2).1 rfl)
                    subst hhk
                    subst hfk
                    have hpn : p.parts = none := by
                      cases hpp : p.parts with
                      | none => rfl
                      | some q =>
                        obtain ⟨m1, m2⟩ := q
                        have := Tm.parts_pair hpp hggp.2
                        subst this
                        have := Tm.mt_appC_self m1 m2
                        unfold Tm.appC at this hm
                        rw [hm] at this
                        cases this
                    simp only [Tm.size] at hsz
                    exact back_5 w _ [] (some ⟨g, 0, none⟩) 2 cx hst hg hz hk hs g g2 c1 _ _ s3 p3 fr fr2 p rfl rfl rfl hh hh2 ha2 hggp.2 (by omega) hpn
                  · exact back_4 w _ [] (some ⟨g, 0, none⟩) 2 cx hst hg hz hk hs g g2 c1 x2 _ _ s3 p3 fr fr2 rfl rfl rfl hh hh2 (beq_eq_false_iff_ne.2 hx2)
            · exact back_2 w (.app f a) [] (some ⟨g, 0, none⟩) 2 cx hst hg hz hk hs g x0 _ _ _ fr rfl rfl rfl hh (beq_eq_false_iff_ne.2 hf107)
end Go.Proofs.Ytfpekihdoclncaa

namespace Go.Proofs.Ytfpekihdoclncaa
open Go.RowKit

set_option maxHeartbeats 2000000
set_option maxRecDepth 100000

theorem names_of_has {t : Tm} (h : ∀ n, Tm.has n t = false) : t.names [] = [] := by
  cases hn : t.names [] with
  | nil => rfl
  | cons n ns =>
    have h1 := (Tm.mem_names n t []).1 (by rw [hn]; simp)
    rcases h1 with h1 | h1
    · cases h1
    · rw [h n] at h1; cases h1

theorem read_open {l : List UInt8} (h : Tm.closedOf l = none) : Tm.pCodeRead l = none := by
  unfold Tm.pCodeRead
  cases hp : Tm.parse l with
  | none => rfl
  | some t =>
    simp only [Option.bind_some]
    cases hb : Tm.back t.size t with
    | none => rfl
    | some u =>
      obtain ⟨h1, _, _, h4⟩ := Tm.back_facts t.size t u hb
      have hn : t.names [] = [] := names_of_has (fun n => by rw [← h1, code_has]; exact h4 n)
      unfold Tm.closedOf at h
      rw [hp] at h
      simp [hn] at h

theorem spec_codeRead (w : World) (l : List UInt8) (hl : l.length ≤ 1000000000) :
    Calls Try.prog 24 #[str l] w (SOne' w (Tm.pCodeRead l)) := by
  have hc := s_closed4 w l hl
  unfold SClosedPost at hc
  cases hp : Tm.closedOf l with
  | none =>
    rw [hp] at hc
    rw [read_open hp]
    clear hp
    go_enter Try.func24, Try.ntmps24
    go_wp2_with fail
    refine hc.mono ?_
    rintro e w1 ⟨s1, ao1, n1, c1, rfl, hb1, ht1⟩
    clear ht1 hc
    go_wp2_with fail
    go_ret2
    exact ⟨rfl, hb1.alloc _⟩
  | some t =>
    obtain ⟨hg, hs, hn, _, _, _⟩ := small_facts hp
    obtain ⟨hpp, _⟩ := Tm.closed_facts hp
    rw [show Tm.pCodeRead l = (Tm.back t.size t).map Tm.text by unfold Tm.pCodeRead; rw [hpp]; rfl]
    rw [hp] at hc
    clear hp hpp
    have hbk := fun W v h => s_back t.size (w := W) (v := v) (Nat.le_refl _) h hg hs
    unfold SBackPost at hbk
    have hbf := fun u (hu : Tm.back t.size t = some u) => Tm.back_facts t.size t u hu
    generalize Tm.back t.size t = r at *
    cases r with
    | none =>
      go_enter Try.func24, Try.ntmps24
      go_wp2_with fail
      refine hc.mono ?_
      rintro e w1 ⟨s1, ao1, n1, c1, rfl, hb1, ht1⟩
      have hal1 := After.new w1 (.cells #[str s1, .slice ao1 n1 c1] 32)
      have hbox1 := heap_new' w1 (.cells #[str s1, .slice ao1 n1 c1] 32)
      obtain ⟨k0, k1, k2, k3, k4⟩ := pair_facts hbox1 (After.refl _)
      have hcall := hbk _ _ ((ht1 t rfl).later hal1)
      clear ht1 hc hbox1 hbk k2 k3 k4
      go_wp2_with fail
      refine hcall.mono ?_
      rintro e w2 ⟨x, s2, ao2, n2, c2, rfl, hb2, ht2, hx2⟩
      clear ht2 hx2 hcall
      go_wp2_with fail
      go_ret2
      exact ⟨rfl, ((hb1.trans hal1).trans hb2).alloc _⟩
    | some u =>
      obtain ⟨_, hsu, hgu, _⟩ := hbf u rfl
      have htx := Tm.text_le u hgu
      go_enter Try.func24, Try.ntmps24
      go_wp2_with fail
      refine hc.mono ?_
      rintro e w1 ⟨s1, ao1, n1, c1, rfl, hb1, ht1⟩
      have hal1 := After.new w1 (.cells #[str s1, .slice ao1 n1 c1] 32)
      have hbox1 := heap_new' w1 (.cells #[str s1, .slice ao1 n1 c1] 32)
      obtain ⟨k0, k1, k2, k3, k4⟩ := pair_facts hbox1 (After.refl _)
      have hcall := hbk _ _ ((ht1 t rfl).later hal1)
      clear ht1 hc hbox1 hbk k2 k3 k4
      go_wp2_with fail
      refine hcall.mono ?_
      rintro e w2 ⟨x, s2, ao2, n2, c2, rfl, hb2, ht2, hx2⟩
      obtain rfl := hx2 u rfl
      have hw2 := After.alloc ((hb1.trans hal1).trans hb2) (.cells #[str s2, .slice ao2 n2 c2] 32)
      have htext := (ht2.later (After.new w2 (.cells #[str s2, .slice ao2 n2 c2] 32))).text hgu (by omega)
      clear ht2 hcall hx2 k0 k1
      go_wp2_with (go_at_call 29; refine htext.mono ?_; rintro e w5 ⟨rfl, hb5⟩)
      go_ret2
      exact ⟨rfl, hw2.trans hb5⟩

theorem str_size' (l : List UInt8) : (⟨l.toArray⟩ : ByteArray).size = l.length := by show l.toArray.size = _; simp

end Go.Proofs.Ytfpekihdoclncaa
