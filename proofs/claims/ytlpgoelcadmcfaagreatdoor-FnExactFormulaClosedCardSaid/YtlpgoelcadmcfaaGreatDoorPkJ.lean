/-
  The program's names that are not bound: listNames of expressions, listFree of formulas, freeNames.
-/
import Derived.Test.YtlpgoelcadmcfaaGreatDoorPkI
import Derived.Test.YtlpgoelcadmcfaaGreatDoorPkH
namespace Go.Proofs.YtlpgoelcadmcfaaGreatDoor
open Go.RowKit

set_option maxHeartbeats 2000000
set_option maxRecDepth 100000

theorem NL.box {w : World} {mb : Nat} {ns : List (List UInt8)} (h : NL w mb ns) (o : Obj) : NotRow (w.alloc o) mb w.heap.size := by
  have hlt := h.lt
  have := h.notRow (Nat.le_refl w.heap.size)
  intro sv m T fr hs
  rw [(below_new w o).block (mb + 1) (by omega)] at hs
  exact this sv m T fr hs
theorem NL.after {w w' : World} {mb : Nat} {ns : List (List UInt8)} (h : NL w mb ns) (ha : After w w') : NL w' mb ns := by
  obtain ⟨sv, h0, hr, D, hm, hD⟩ := h
  have hg : w.grownBy w' none := ⟨ha.os, ha.tape, ha.output, ha.size, fun k hk _ => ha.block k hk⟩
  exact ⟨sv, ha.heap h0, hr.kept hg (by cases sv.ownBlock with | none => exact Or.inl rfl | some k => exact Or.inr (by simp)), D, hm.kept hg (by simp), hD⟩

theorem below_less {n m : Nat} {w w' : World} (h : Below n w w') (hm : m ≤ n) : Below m w w' := ⟨h.os, h.tape, h.output, h.size, fun b hb => h.block b (by omega)⟩

/-- The value answers the method m of lists: it adds these names. -/
def LFOk (m : String) (w : World) (mb : Nat) (v : Value) (oc : List (List UInt8)) (N : Nat) : Prop :=
  ∃ T x f y, v = .iface T x ∧ (∀ W, (method 420 T x m).run Tryz.prog W = .ok (f, y) W) ∧ (∀ args w', (callFunc f args).run Tryz.prog w' = .ok (.enter f args) w') ∧
    ∀ W, Below mb w W → ∀ ns, NL W mb ns → ns.length + N ≤ 1000000 → Calls Tryz.prog f #[y, .pointer (some ⟨mb + 1, 0, none⟩)] W (ListPost2 mb W (Fm.addA ns oc))

theorem post_same {w : World} {mb : Nat} {ns : List (List UInt8)} (h : NL w mb ns) {w' : World} (ha : After w w') (hlt : mb ≤ w.heap.size) : ListPost2 mb w (Fm.addA ns []) (.returned (.tuple #[])) w' :=
  ⟨rfl, h.after ha, below_less ha hlt, fun b _ hb hnr => ⟨fun sv m T fr hs => by
    have := h.lt
    rw [ha.block (mb + 1) (by omega)] at hs
    exact hnr sv m T fr hs, ha.block b hb⟩⟩

theorem num_list (W : World) (n : Int) (p : Value) : Calls Tryz.prog 204 #[.int .i64 n, p] W fun e w' => e = .returned (.tuple #[]) ∧ After W w' := by
  go_enter Tryz.func204, Tryz.ntmps204
  go_wp2_with fail
  go_end0
  exact ⟨rfl, by repeat (first | exact After.refl _ | refine After.alloc ?_ _)⟩
theorem top_list (W : World) (p : Value) : Calls Tryz.prog 212 #[.agg #[], p] W fun e w' => e = .returned (.tuple #[]) ∧ After W w' := by
  go_enter Tryz.func212, Tryz.ntmps212
  go_wp2_with fail
  go_end0
  exact ⟨rfl, by repeat (first | exact After.refl _ | refine After.alloc ?_ _)⟩
theorem bot_list (W : World) (p : Value) : Calls Tryz.prog 217 #[.agg #[], p] W fun e w' => e = .returned (.tuple #[]) ∧ After W w' := by
  go_enter Tryz.func217, Tryz.ntmps217
  go_wp2_with fail
  go_end0
  exact ⟨rfl, by repeat (first | exact After.refl _ | refine After.alloc ?_ _)⟩
theorem var_list (W : World) (mb : Nat) (x : List UInt8) (ns : List (List UInt8)) (h : NL W mb ns) (hl : x.length ≤ maxLen) (hk : ns.length ≤ 1000000) :
    Calls Tryz.prog 222 #[str x, .pointer (some ⟨mb + 1, 0, none⟩)] W (ListPost2 mb W (Fm.addA ns [x])) := by
  have k := add_any W mb ns x h hl hk
  rw [Fm.addA_one]
  unfold ListPost2 at *
  clear h
  go_enter Tryz.func222, Tryz.ntmps222
  go_wp2_with fail
  refine k.mono ?_
  rintro e w' ⟨rfl, h1, h2, h3⟩
  have H1 := Lib.hid h1
  have H3 := Lib.hid h3
  clear k h1 h3
  go_wp2_with fail
  go_end0
  exact ⟨rfl, H1.out, h2, H3.out⟩

theorem equality_list (w W : World) (mb : Nat) (T1 T2 : TypeId) (x1 x2 : Value) (oc od : List (List UInt8)) (N M : Nat) (ns : List (List UInt8)) (hW : Below mb w W) (h1 : LFOk "loop.example/realizers/impl.listNames" w mb (.iface T1 x1) oc N) (h2 : LFOk "loop.example/realizers/impl.listNames" w mb (.iface T2 x2) od M)
    (hn : NL W mb ns) (hl : ns.length + (N + M) ≤ 1000000) (hN : oc.length ≤ N) :
    Calls Tryz.prog 251 #[.agg #[.iface T1 x1, .iface T2 x2], .pointer (some ⟨mb + 1, 0, none⟩)] W (ListPost2 mb W (Fm.addA ns (oc ++ od))) := by
  rw [Fm.addA_app]
  obtain ⟨_, _, f1, y1, e0, m1, n1, d1⟩ := h1
  injection e0 with ea eb
  subst ea; subst eb
  obtain ⟨_, _, f2, y2, e0, m2, n2, d2⟩ := h2
  injection e0 with ea eb
  subst ea; subst eb
  obtain ⟨X, hX⟩ : ∃ X, X = W.alloc (.cells #[.iface T1 x1, .iface T2 x2] 129) := ⟨_, rfl⟩
  have hlt := hn.lt
  have hXn : NL X mb ns := by rw [hX]; exact hn.alloc _
  have hXb : Below mb w X := by rw [hX]; exact hW.alloc (by have := hn.lt; omega) _
  have hXW : Below mb W X := by rw [hX]; exact (Below.refl _ _).alloc (by omega) _
  have hXh : X.heap[W.heap.size]? = some (.cells #[.iface T1 x1, .iface T2 x2] 129 (0, 0)) := by rw [hX]; exact heap_new' _ _
  have hXs : X.heap.size = W.heap.size + 1 := by rw [hX]; simp
  have hXr : NotRow X mb W.heap.size := by rw [hX]; exact hn.box _
  have hXo : ∀ b, b < W.heap.size → X.heap[b]? = W.heap[b]? := fun b hb => by rw [hX]; exact (below_new W _).block b hb
  have hlen := Fm.addA_len oc ns
  have c0 : X.cell? ⟨W.heap.size, 0, none⟩ = some (.iface T1 x1) := cell_of_heap (i := 0) hXh
  have k1 := d1 X hXb ns hXn (by omega)
  unfold ListPost2 at k1
  generalize Fm.addA ns oc = n1' at *
  have HW := Lib.hid hXW
  have HB := Lib.hid hXb
  have HH := Lib.hid hXh
  have HS := Lib.hid hXs
  have HR := Lib.hid hXr
  have HO := Lib.hid hXo
  have HX := Lib.hid hX
  clear hXn hXb hXW hXh hXs hXr hXo d1 hn hW
  go_enter Tryz.func251, Tryz.ntmps251
  clear hX
  go_wp2_with fail
  rw [← HX.out]
  refine k1.mono ?_
  rintro e w2 ⟨rfl, hn2, hb2, hk2⟩
  obtain ⟨hr2, hh2⟩ := hk2 W.heap.size (by omega) (by rw [HS.out]; omega) HR.out
  have c1 : w2.cell? ⟨W.heap.size, 1, none⟩ = some (.iface T2 x2) := cell_of_heap (i := 1) (hh2.trans HH.out)
  have k2 := d2 w2 (HB.out.trans hb2) n1' hn2 (by omega)
  unfold ListPost2 at k2
  have HK2 := Lib.hid hk2
  have HB2 := Lib.hid hb2
  clear k1 hk2 hb2 hr2 hh2 hn2 d2
  go_wp2_with fail
  refine k2.mono ?_
  rintro e w3 ⟨rfl, hn3, hb3, hk3⟩
  have HN3 := Lib.hid hn3
  have HB3 := Lib.hid hb3
  have HK3 := Lib.hid hk3
  clear k2 hk3 hb3 hn3
  go_wp2_with fail
  go_end0
  refine ⟨rfl, HN3.out, (HW.out.trans HB2.out).trans HB3.out, fun b hb1 hb2 hnr => ?_⟩
  have hX1 : NotRow X mb b := fun sv m T fr hs => hnr sv m T fr ((HO.out (mb + 1) (by omega)).symm.trans hs)
  have hX2 : b < X.heap.size := by rw [HS.out]; omega
  obtain ⟨q1, q2⟩ := HK2.out b hb1 hX2 hX1
  have hlt2 : b < w2.heap.size := Nat.lt_of_lt_of_le hX2 HB2.out.size
  obtain ⟨q3, q4⟩ := HK3.out b hb1 hlt2 q1
  exact ⟨q3, q4.trans (q2.trans (HO.out b hb2))⟩

theorem joined_list (w W : World) (mb : Nat) (T1 T2 : TypeId) (x1 x2 : Value) (oc od : List (List UInt8)) (N M : Nat) (ns : List (List UInt8)) (hW : Below mb w W) (h1 : LFOk "loop.example/realizers/impl.listFree" w mb (.iface T1 x1) oc N) (h2 : LFOk "loop.example/realizers/impl.listFree" w mb (.iface T2 x2) od M)
    (hn : NL W mb ns) (hl : ns.length + (N + M) ≤ 1000000) (hN : oc.length ≤ N) :
    Calls Tryz.prog 256 #[.agg #[.iface T1 x1, .iface T2 x2], .pointer (some ⟨mb + 1, 0, none⟩)] W (ListPost2 mb W (Fm.addA ns (oc ++ od))) := by
  rw [Fm.addA_app]
  obtain ⟨_, _, f1, y1, e0, m1, n1, d1⟩ := h1
  injection e0 with ea eb
  subst ea; subst eb
  obtain ⟨_, _, f2, y2, e0, m2, n2, d2⟩ := h2
  injection e0 with ea eb
  subst ea; subst eb
  obtain ⟨X, hX⟩ : ∃ X, X = W.alloc (.cells #[.iface T1 x1, .iface T2 x2] 131) := ⟨_, rfl⟩
  have hlt := hn.lt
  have hXn : NL X mb ns := by rw [hX]; exact hn.alloc _
  have hXb : Below mb w X := by rw [hX]; exact hW.alloc (by have := hn.lt; omega) _
  have hXW : Below mb W X := by rw [hX]; exact (Below.refl _ _).alloc (by omega) _
  have hXh : X.heap[W.heap.size]? = some (.cells #[.iface T1 x1, .iface T2 x2] 131 (0, 0)) := by rw [hX]; exact heap_new' _ _
  have hXs : X.heap.size = W.heap.size + 1 := by rw [hX]; simp
  have hXr : NotRow X mb W.heap.size := by rw [hX]; exact hn.box _
  have hXo : ∀ b, b < W.heap.size → X.heap[b]? = W.heap[b]? := fun b hb => by rw [hX]; exact (below_new W _).block b hb
  have hlen := Fm.addA_len oc ns
  have c0 : X.cell? ⟨W.heap.size, 0, none⟩ = some (.iface T1 x1) := cell_of_heap (i := 0) hXh
  have k1 := d1 X hXb ns hXn (by omega)
  unfold ListPost2 at k1
  generalize Fm.addA ns oc = n1' at *
  have HW := Lib.hid hXW
  have HB := Lib.hid hXb
  have HH := Lib.hid hXh
  have HS := Lib.hid hXs
  have HR := Lib.hid hXr
  have HO := Lib.hid hXo
  have HX := Lib.hid hX
  clear hXn hXb hXW hXh hXs hXr hXo d1 hn hW
  go_enter Tryz.func256, Tryz.ntmps256
  clear hX
  go_wp2_with fail
  rw [← HX.out]
  refine k1.mono ?_
  rintro e w2 ⟨rfl, hn2, hb2, hk2⟩
  obtain ⟨hr2, hh2⟩ := hk2 W.heap.size (by omega) (by rw [HS.out]; omega) HR.out
  have c1 : w2.cell? ⟨W.heap.size, 1, none⟩ = some (.iface T2 x2) := cell_of_heap (i := 1) (hh2.trans HH.out)
  have k2 := d2 w2 (HB.out.trans hb2) n1' hn2 (by omega)
  unfold ListPost2 at k2
  have HK2 := Lib.hid hk2
  have HB2 := Lib.hid hb2
  clear k1 hk2 hb2 hr2 hh2 hn2 d2
  go_wp2_with fail
  refine k2.mono ?_
  rintro e w3 ⟨rfl, hn3, hb3, hk3⟩
  have HN3 := Lib.hid hn3
  have HB3 := Lib.hid hb3
  have HK3 := Lib.hid hk3
  clear k2 hk3 hb3 hn3
  go_wp2_with fail
  go_end0
  refine ⟨rfl, HN3.out, (HW.out.trans HB2.out).trans HB3.out, fun b hb1 hb2 hnr => ?_⟩
  have hX1 : NotRow X mb b := fun sv m T fr hs => hnr sv m T fr ((HO.out (mb + 1) (by omega)).symm.trans hs)
  have hX2 : b < X.heap.size := by rw [HS.out]; omega
  obtain ⟨q1, q2⟩ := HK2.out b hb1 hX2 hX1
  have hlt2 : b < w2.heap.size := Nat.lt_of_lt_of_le hX2 HB2.out.size
  obtain ⟨q3, q4⟩ := HK3.out b hb1 hlt2 q1
  exact ⟨q3, q4.trans (q2.trans (HO.out b hb2))⟩

theorem cell_of_heap2 {w w' : World} {b i : Nat} {cs : Array Value} {T : TypeId} {fr : Nat × Nat} {v : Value} (hs : w'.heap[b]? = w.heap[b]?) (hh : w.heap[b]? = some (.cells cs T fr)) (hc : cs[i]? = some v) : w'.cell? ⟨b, i, none⟩ = some v := by
  unfold World.cell?
  rw [hs, hh]
  exact hc

/-- An operation lists its parts one after the other. -/
theorem op_list (w W : World) (mb : Nat) (wd : List UInt8) (b K cap : Nat) (cs : Array Value) (fr : Nat × Nat) (ocs : List (List (List UInt8))) (Ns : List Nat) (ns : List (List UInt8)) (hW : Below mb w W) (hn : NL W mb ns)
    (hb : b < mb) (hh : w.heap[b]? = some (.cells cs 51 fr)) (hK : ocs.length = K) (hK2 : K ≤ 1000)
    (hx : ∀ j, j < K → ∃ T x, cs[j]? = some (.iface T x) ∧ LFOk "loop.example/realizers/impl.listNames" w mb (.iface T x) (ocs.getD j []) (Ns.getD j 0))
    (hl : ∀ j, j < K → ns.length + (ocs.take j).flatten.length + Ns.getD j 0 ≤ 1000000) :
    Calls Tryz.prog 226 #[.agg #[str wd, .slice (some ⟨b, 0, none⟩) K cap], .pointer (some ⟨mb + 1, 0, none⟩)] W (ListPost2 mb W (Fm.addA ns ocs.flatten)) := by
  obtain ⟨X, hX⟩ : ∃ X, X = W.alloc (.cells #[str wd, .slice (some ⟨b, 0, none⟩) K cap] 117) := ⟨_, rfl⟩
  have hlt := hn.lt
  have hXn : NL X mb ns := by rw [hX]; exact hn.alloc _
  have hXW : Below mb W X := by rw [hX]; exact (Below.refl _ _).alloc (by omega) _
  have hXh : X.heap[W.heap.size]? = some (.cells #[str wd, .slice (some ⟨b, 0, none⟩) K cap] 117 (0, 0)) := by rw [hX]; exact heap_new' _ _
  have hXs : X.heap.size = W.heap.size + 1 := by rw [hX]; simp
  have hXo : ∀ b, b < W.heap.size → X.heap[b]? = W.heap[b]? := fun b hb => by rw [hX]; exact (below_new W _).block b hb
  have c1 : X.cell? ⟨W.heap.size, 1, none⟩ = some (.slice (some ⟨b, 0, none⟩) K cap) := cell_of_heap (i := 1) hXh
  have HW := Lib.hid hXW
  have HWW := Lib.hid hW
  have HN := Lib.hid hXn
  have HS := Lib.hid hXs
  have HO := Lib.hid hXo
  have HX := Lib.hid hX
  have HH := Lib.hid hh
  have HP := Lib.hid hx
  have HL := Lib.hid hl
  have HKE := Lib.hid hK
  clear hXn hXW hXh hXs hXo hn hW hh hx hl hK
  go_enter Tryz.func226, Tryz.ntmps226
  clear hX
  go_wp2_with fail
  rw [← HX.out]
  clear c1
  go_loopw [9] (fun i wr => ∃ k : Nat, i = .int .i64 k ∧ k ≤ K ∧ NL wr mb (Fm.addA ns (ocs.take k).flatten) ∧ Below mb X wr ∧ ∀ b, mb + 2 ≤ b → b < X.heap.size → NotRow X mb b → NotRow wr mb b ∧ wr.heap[b]? = X.heap[b]?) (fun i _ => K - (intOf i).toNat)
  case atStart => exact ⟨0, rfl, Nat.zero_le _, HN.out, Below.refl _ _, fun b _ _ h => ⟨h, rfl⟩⟩
  case round =>
    obtain ⟨k, rfl, hk, hn, hB, hkeep⟩ := hrel
    have hXl : W.heap.size < X.heap.size := by rw [HS.out]; omega
    by_cases hlt : k < K
    · have hlti : (k : Int) < (K : Int) := by omega
      obtain ⟨T, x, hc, hok⟩ := HP.out k hlt
      obtain ⟨_, _, f1, y1, e0, m1, n1, d1⟩ := hok
      injection e0 with ea eb
      subst ea; subst eb
      have p0 : wr.cell? ⟨b, k, none⟩ = some (.iface T x) := cell_of_heap2 (((HWW.out.trans HW.out).trans hB).block b hb) HH.out hc
      have hlen := Fm.addA_len (ocs.take k).flatten ns
      have hcall := d1 wr ((HWW.out.trans HW.out).trans hB) _ hn (by have := HL.out k hlt; omega)
      have hnext : Fm.addA (Fm.addA ns (ocs.take k).flatten) (ocs.getD k []) = Fm.addA ns (ocs.take (k + 1)).flatten := by
        have hk' : k < ocs.length := by rw [HKE.out]; exact hlt
        rw [List.take_succ_eq_append_getElem hk', List.flatten_append, Fm.addA_app]
        simp [List.getD, hk']
      rw [hnext] at hcall
      unfold ListPost2 at hcall
      have HKP := Lib.hid hkeep
      clear hlen hnext hn hkeep hc d1
      go_wp2_with fail
      refine hcall.mono ?_
      rintro e w4 ⟨rfl, hn4, hb4, hk4⟩
      have HN4 := Lib.hid hn4
      have HK4 := Lib.hid hk4
      clear hcall hn4 hk4
      go_wp2_with fail
      go_roundw
      case rel =>
        refine ⟨k + 1, by go_num, by omega, HN4.out, hB.trans hb4, fun b h1 h2 h3 => ?_⟩
        obtain ⟨q1, q2⟩ := HKP.out b h1 h2 h3
        obtain ⟨q3, q4⟩ := HK4.out b h1 (Nat.lt_of_lt_of_le h2 hB.size) q1
        exact ⟨q3, q4.trans q2⟩
      case measure => simp [intOf]; omega
    · obtain rfl : k = K := by omega
      have hall : ocs.take k = ocs := List.take_of_length_le (by rw [HKE.out]; omega)
      rw [hall] at hn
      have HNN := Lib.hid hn
      have HKP := Lib.hid hkeep
      clear hn hkeep
      go_wp2_with fail
      go_end0
      refine ⟨rfl, HNN.out, HW.out.trans hB, fun b h1 h2 h3 => ?_⟩
      have hX1 : NotRow X mb b := fun sv m T fr hs => h3 sv m T fr ((HO.out (mb + 1) (by omega)).symm.trans hs)
      obtain ⟨q1, q2⟩ := HKP.out b h1 (by rw [HS.out]; omega) hX1
      exact ⟨q1, q2.trans (HO.out b h2)⟩

theorem EV.lf {w : World} {B mb : Nat} (hmb : w.heap.size ≤ mb) : ∀ {e : Ex} {v : Value}, EV w B e v → Fm.exOk e → Fm.exAtoms e ≤ 1000 → LFOk "loop.example/realizers/impl.listNames" w mb v (Fm.occE e) (Fm.exAtoms e)
  | .num n, _, h, _, _ => ⟨_, _, 204, .int .i64 (n : Nat), h, fun _ => by kernel_rfl, fun _ _ => by kernel_rfl, fun W hW ns hn _ => (num_list W n _).mono fun e w' h => by
      rw [h.1]; exact post_same hn h.2 (by have := hn.lt; omega)⟩
  | .var x, _, h, ho, _ => ⟨_, _, 222, str x, h, fun _ => by kernel_rfl, fun _ _ => by kernel_rfl, fun W hW ns hn hl => var_list W mb x ns hn (by have := (Fm.name_len4 (x := x) ho).1; unfold maxLen; omega) (by simp only [Fm.exAtoms] at hl; omega)⟩
  | .suc e, _, ⟨b, cap, cs, fr, x, h, hB, hh, k0, h0⟩, ho, ha => by
    have he := EV.lf hmb h0 ho (by simp only [Fm.exAtoms] at ha; omega)
    have hbl := (Array.getElem?_eq_some_iff.1 hh).1
    obtain ⟨T, x', rfl⟩ := h0.form
    refine ⟨_, _, 226, .agg #[str Fm.wSuc, .slice (some ⟨b, 0, none⟩) 1 cap], h, fun _ => by kernel_rfl, fun _ _ => by kernel_rfl, fun W hW ns hn hl => ?_⟩
    have := op_list w W mb Fm.wSuc b 1 cap cs fr [Fm.occE e] [Fm.exAtoms e] ns hW hn (by omega) hh rfl (by omega) (fun j hj => by
      obtain rfl : j = 0 := by omega
      exact ⟨_, _, k0, he⟩) (fun j hj => by
      obtain rfl : j = 0 := by omega
      simp only [Fm.exAtoms] at hl
      simp; omega)
    simpa [Fm.occE] using this
  | .add a c, _, ⟨b, cap, cs, fr, x, y, h, hB, hh, k0, k1, h0, h1⟩, ho, ha => by
    have he := EV.lf hmb h0 ho.1 (by simp only [Fm.exAtoms] at ha; omega)
    have hf := EV.lf hmb h1 ho.2 (by simp only [Fm.exAtoms] at ha; omega)
    have hbl := (Array.getElem?_eq_some_iff.1 hh).1
    obtain ⟨T, x', rfl⟩ := h0.form
    obtain ⟨T2, x2', rfl⟩ := h1.form
    refine ⟨_, _, 226, .agg #[str Fm.wAdd, .slice (some ⟨b, 0, none⟩) 2 cap], h, fun _ => by kernel_rfl, fun _ _ => by kernel_rfl, fun W hW ns hn hl => ?_⟩
    have := op_list w W mb Fm.wAdd b 2 cap cs fr [Fm.occE a, Fm.occE c] [Fm.exAtoms a, Fm.exAtoms c] ns hW hn (by omega) hh rfl (by omega) (fun j hj => by
      match j, hj with
      | 0, _ => exact ⟨_, _, k0, he⟩
      | 1, _ => exact ⟨_, _, k1, hf⟩) (fun j hj => by
      have := Fm.occE_len a
      simp only [Fm.exAtoms] at hl
      match j, hj with
      | 0, _ => simp; omega
      | 1, _ => simp; omega)
    simpa [Fm.occE] using this
  | .mul a c, _, ⟨b, cap, cs, fr, x, y, h, hB, hh, k0, k1, h0, h1⟩, ho, ha => by
    have he := EV.lf hmb h0 ho.1 (by simp only [Fm.exAtoms] at ha; omega)
    have hf := EV.lf hmb h1 ho.2 (by simp only [Fm.exAtoms] at ha; omega)
    have hbl := (Array.getElem?_eq_some_iff.1 hh).1
    obtain ⟨T, x', rfl⟩ := h0.form
    obtain ⟨T2, x2', rfl⟩ := h1.form
    refine ⟨_, _, 226, .agg #[str Fm.wMul, .slice (some ⟨b, 0, none⟩) 2 cap], h, fun _ => by kernel_rfl, fun _ _ => by kernel_rfl, fun W hW ns hn hl => ?_⟩
    have := op_list w W mb Fm.wMul b 2 cap cs fr [Fm.occE a, Fm.occE c] [Fm.exAtoms a, Fm.exAtoms c] ns hW hn (by omega) hh rfl (by omega) (fun j hj => by
      match j, hj with
      | 0, _ => exact ⟨_, _, k0, he⟩
      | 1, _ => exact ⟨_, _, k1, hf⟩) (fun j hj => by
      have := Fm.occE_len a
      simp only [Fm.exAtoms] at hl
      match j, hj with
      | 0, _ => simp; omega
      | 1, _ => simp; omega)
    simpa [Fm.occE] using this
end Go.Proofs.YtlpgoelcadmcfaaGreatDoor

namespace Go.Proofs.YtlpgoelcadmcfaaGreatDoor
open Go.RowKit

set_option maxHeartbeats 2000000
set_option maxRecDepth 100000

/-- What freeNames hands back. -/
def FNPost (w : World) (oc : List (List UInt8)) (e : Ending) (w' : World) : Prop :=
  ∃ sv, e = .returned sv ∧ After w w' ∧ w'.ownsRow w.heap.size 9 1 sv (Fm.addA [] oc).length ((Fm.addA [] oc).map str)

theorem freeNames_of (w : World) (v : Value) (oc : List (List UInt8)) (N : Nat) (h : LFOk "loop.example/realizers/impl.listFree" w w.heap.size v oc N) (hN : N ≤ 1000) :
    Calls Tryz.prog 44 #[v] w (FNPost w oc) := by
  obtain ⟨T1, x1, f1, y1, rfl, m1, n1, c1⟩ := h
  have hmm := @run_makeMap Tryz.prog
  have hst := NL.start w
  have hb1 : Below w.heap.size w ((w.alloc (.map #[] 0)).alloc (.cells #[.slice none 0 0, .map (some w.heap.size)] 108)) := ((Below.refl _ _).alloc (Nat.le_refl _) _).alloc (by simp) _
  have HS := Lib.hid hst
  clear hst
  go_enter Tryz.func44, Tryz.ntmps44
  go_wp2_with fail
  refine (c1 _ hb1 _ HS.out (by simp; omega)).mono ?_
  rintro e w1 ⟨rfl, hn1, hb2, _⟩
  obtain ⟨sv, h0, hr, _⟩ := hn1
  obtain ⟨ao, an, ac, rfl⟩ := own_slice hr
  have d0 : w1.cell? ⟨w.heap.size + 1, 0, none⟩ = some (.slice ao an ac) := cell_of_heap h0
  have HR := Lib.hid (ownsRow_base hr (B' := w.heap.size) (by omega))
  clear hr h0
  go_wp2_with fail
  go_ret
  exact ⟨_, rfl, hb1.trans hb2, HR.out⟩

theorem filt_next (L : List (List UInt8)) (x : List UInt8) (k : Nat) (hk : k < L.length) : (L.take (k + 1)).filter (fun y => decide (y ≠ x)) = (L.take k).filter (fun y => decide (y ≠ x)) ++ (if L[k] = x then [] else [L[k]]) := by
  rw [List.take_succ_eq_append_getElem hk, List.filter_append]
  congr 1
  by_cases h : L[k] = x <;> simp [h]

theorem row_at {w : World} {mb : Nat} {ns : List (List UInt8)} (h : NL w mb ns) (o : Obj) : ∀ sv m T fr, (w.alloc o).heap[mb + 1]? = some (.cells #[sv, m] T fr) → ∀ b, sv.ownBlock = some b → b < w.heap.size := by
  intro sv m T fr hs b e
  by_cases hb : b < w.heap.size
  · exact hb
  · have hlt := h.lt
    rw [(below_new w o).block (mb + 1) (by omega)] at hs
    exact absurd e (h.notRow (b := b) (by omega) sv m T fr hs)

/-- all and ex list what their body lists, but for the name that they bind. -/
theorem bound_list (w W : World) (mb : Nat) (x : List UInt8) (m : Int) (T : TypeId) (z : Value) (oc : List (List UInt8)) (ns : List (List UInt8)) (hW : Below mb w W) (hn : NL W mb ns)
    (hf : ∀ W, Below mb w W → mb ≤ W.heap.size → Calls Tryz.prog 44 #[.iface T z] W (FNPost W oc)) (hok : ∀ y ∈ oc, Tm.nameOk y = true) (hl : ns.length + oc.length ≤ 1000000) :
    Calls Tryz.prog 268 #[.agg #[str x, .int .i64 m, .iface T z], .pointer (some ⟨mb + 1, 0, none⟩)] W (ListPost2 mb W (Fm.addA ns (oc.filter fun y => decide (y ≠ x)))) := by
  obtain ⟨X, hX⟩ : ∃ X, X = W.alloc (.cells #[str x, .int .i64 m, .iface T z] 137) := ⟨_, rfl⟩
  have hlt := hn.lt
  have hrow0 : ∀ sv m T fr, X.heap[mb + 1]? = some (.cells #[sv, m] T fr) → ∀ b, sv.ownBlock = some b → b < W.heap.size := by
    rw [hX]
    exact row_at hn _
  have hXn : NL X mb ns := by rw [hX]; exact hn.alloc _
  have hXb : Below mb w X := by rw [hX]; exact hW.alloc (by omega) _
  have hXW : Below mb W X := by rw [hX]; exact (Below.refl _ _).alloc (by omega) _
  have hXh : X.heap[W.heap.size]? = some (.cells #[str x, .int .i64 m, .iface T z] 137 (0, 0)) := by rw [hX]; exact heap_new' _ _
  have hXs : X.heap.size = W.heap.size + 1 := by rw [hX]; simp
  have hXo : ∀ b, b < W.heap.size → X.heap[b]? = W.heap[b]? := fun b hb => by rw [hX]; exact (below_new W _).block b hb
  have c2 : X.cell? ⟨W.heap.size, 2, none⟩ = some (.iface T z) := cell_of_heap (i := 2) hXh
  have k1 := hf X hXb (by rw [hXs]; omega)
  unfold FNPost at k1
  obtain ⟨L, hL⟩ : ∃ L, L = Fm.addA [] oc := ⟨_, rfl⟩
  have hres : Fm.addA ns (oc.filter fun y => decide (y ≠ x)) = Fm.addA ns (L.filter fun y => decide (y ≠ x)) := by rw [hL]; exact (Fm.addA_filter _ _ _).symm
  have hLok : ∀ y ∈ L, Tm.nameOk y = true := fun y hy => by rw [hL, Fm.mem_addA] at hy; exact hok y (hy.resolve_left (by simp))
  have hLl : L.length ≤ oc.length := by rw [hL]; have := Fm.addA_len oc []; simpa using this
  rw [← hL] at k1
  rw [hres]
  have HW := Lib.hid hXW
  have HN := Lib.hid hXn
  have HS := Lib.hid hXs
  have HO := Lib.hid hXo
  have HX := Lib.hid hX
  have HH := Lib.hid hXh
  have HOK := Lib.hid hLok
  have HLL := Lib.hid hLl
  have HRW := Lib.hid hrow0
  clear hXn hXb hXW hXh hXs hXo hn hW hf hok hL hres hLok hLl hrow0
  go_enter Tryz.func268, Tryz.ntmps268
  clear hX
  go_wp2_with fail
  rw [← HX.out]
  refine k1.mono ?_
  rintro e w2 ⟨sv, rfl, ha2, ho2⟩
  clear k1 c2
  have hn2 : NL w2 mb ns := HN.out.after ha2
  have hstr := ownsRow_strs ho2
  obtain ⟨ao, cap, rfl⟩ := own_slice_len ho2
  have HA2 := Lib.hid ha2
  have HN2 := Lib.hid hn2
  have HO2 := Lib.hid ho2
  have HST := Lib.hid hstr
  have HX2 : Hid (w2.heap[W.heap.size]? = some (.cells #[str x, .int .i64 m, .iface T z] 137 (0, 0))) := ha2.heap HH.out
  have HNR : Hid (∀ b, W.heap.size ≤ b → NotRow w2 mb b) := fun b hb sv m' T fr hs => by
    rw [ha2.block (mb + 1) (by rw [HS.out]; omega)] at hs
    exact fun e => by have := HRW.out sv m' T fr hs b e; omega
  clear hn2 ho2 hstr ha2
  go_wp2_with fail
  go_loopw [10] (fun i wr => ∃ k : Nat, i = .int .i64 k ∧ k ≤ L.length ∧ NL wr mb (Fm.addA ns ((L.take k).filter fun y => decide (y ≠ x))) ∧ Below mb w2 wr ∧ ∀ b, mb + 2 ≤ b → b < w2.heap.size → NotRow w2 mb b → NotRow wr mb b ∧ wr.heap[b]? = w2.heap[b]?) (fun i _ => L.length - (intOf i).toNat)
  case atStart => exact ⟨0, rfl, Nat.zero_le _, HN2.out, Below.refl _ _, fun b _ _ h => ⟨h, rfl⟩⟩
  case round =>
    obtain ⟨k, rfl, hk, hn, hB, hkeep⟩ := hrel
    have hLb : L.length ≤ 1000000 := by have := HLL.out; omega
    by_cases hlt2 : k < L.length
    · have hlti : (k : Int) < (L.length : Int) := by omega
      rcases HST.out with ⟨e, e0⟩ | ⟨b, off, cap', e, hc⟩
      · rw [e0] at hlt2; simp at hlt2
      injection e with e1 e2 e3
      subst e1
      subst e3
      clear e2
      have hg := HO2.out.lt b rfl
      obtain ⟨q1, q2⟩ := hkeep b (by have := HS.out; omega) hg.2 (HNR.out b (by have := HS.out; omega))
      have p0 : wr.cell? ⟨b, off + k, none⟩ = some (str L[k]) := by
        have := hc k hlt2
        unfold World.cell? at this ⊢
        rw [q2]
        exact this
      obtain ⟨q3, q4⟩ := hkeep W.heap.size (by omega) (by have := HA2.out.size; have := HS.out; omega) (HNR.out _ (Nat.le_refl _))
      have p1 : wr.cell? ⟨W.heap.size, 0, none⟩ = some (str x) := cell_of_heap (i := 0) (q4.trans HX2.out)
      have hnext := filt_next L x k hlt2
      have hlen := Fm.addA_len ((L.take k).filter fun y => decide (y ≠ x)) ns
      have hlen2 : ((L.take k).filter fun y => decide (y ≠ x)).length ≤ k := by
        have h1 := List.length_filter_le (fun y => decide (y ≠ x)) (L.take k)
        have h2 := List.length_take_le k L
        omega
      have hyok := HOK.out L[k] (List.getElem_mem hlt2)
      have HNX := Lib.hid hnext
      have HKP := Lib.hid hkeep
      clear hnext hc q1 q2 q3 q4 hkeep
      generalize L[k] = y at *
      by_cases hy : y = x
      · subst hy
        have HNN : Hid (NL wr mb (Fm.addA ns ((L.take (k + 1)).filter fun y' => decide (y' ≠ y)))) := by
          show NL _ _ _
          rw [HNX.out, if_pos rfl, List.append_nil]
          exact hn
        clear hn hlen hlen2
        go_wp2_with fail
        go_roundw
        case rel => exact ⟨k + 1, by go_num, by omega, HNN.out, hB, HKP.out⟩
        case measure => simp [intOf]; omega
      · have hne : (y == x) = false := beq_eq_false_iff_ne.2 hy
        have hadd := add_any wr mb _ y hn (by have := (Fm.name_len4 (x := y) hyok).1; unfold maxLen; omega) (by have := HLL.out; omega)
        have hnx : Fm.addN (Fm.addA ns ((L.take k).filter fun y => decide (y ≠ x))) y = Fm.addA ns ((L.take (k + 1)).filter fun y => decide (y ≠ x)) := by
          rw [HNX.out, if_neg hy, Fm.addA_app, Fm.addA_one]
        rw [hnx] at hadd
        unfold ListPost2 at hadd
        clear hn hlen hlen2 hy hnx
        go_wp2_with fail
        refine hadd.mono ?_
        rintro e w4 ⟨rfl, hn4, hb4, hk4⟩
        have HN4 := Lib.hid hn4
        have HK4 := Lib.hid hk4
        clear hadd hn4 hk4
        go_wp2_with fail
        go_roundw
        case rel =>
          refine ⟨k + 1, by go_num, by omega, HN4.out, hB.trans hb4, fun b h1 h2 h3 => ?_⟩
          obtain ⟨q1, q2⟩ := HKP.out b h1 h2 h3
          obtain ⟨q3, q4⟩ := HK4.out b h1 (Nat.lt_of_lt_of_le h2 hB.size) q1
          exact ⟨q3, q4.trans q2⟩
        case measure => simp [intOf]; omega
    · obtain rfl : k = L.length := by omega
      rw [List.take_length] at hn
      have HNN := Lib.hid hn
      have HKP := Lib.hid hkeep
      clear hn hkeep
      go_wp2_with fail
      go_end0
      refine ⟨rfl, HNN.out, (HW.out.trans (below_less HA2.out (by have := HS.out; omega))).trans hB, fun b h1 h2 h3 => ?_⟩
      have hlt3 : b < X.heap.size := by rw [HS.out]; omega
      have hX1 : NotRow w2 mb b := fun sv m T fr hs => by
        rw [HA2.out.block (mb + 1) (by rw [HS.out]; omega), HO.out (mb + 1) (by omega)] at hs
        exact h3 sv m T fr hs
      obtain ⟨q1, q2⟩ := HKP.out b h1 (Nat.lt_of_lt_of_le hlt3 HA2.out.size) hX1
      exact ⟨q1, q2.trans ((HA2.out.block b hlt3).trans (HO.out b h2))⟩
end Go.Proofs.YtlpgoelcadmcfaaGreatDoor

namespace Go.Proofs.YtlpgoelcadmcfaaGreatDoor
open Go.RowKit

set_option maxHeartbeats 4000000
set_option maxRecDepth 100000

/-- The slice value holds the names that are bound. -/
def BdOk (W : World) (bv : Value) (bd : List (List UInt8)) : Prop :=
  ∃ b cap, bv = .slice (some ⟨b, 0, none⟩) bd.length cap ∧ (bd = [] ∨ ∃ cs fr, W.heap[b]? = some (.cells cs 9 fr) ∧ ∀ j (h : j < bd.length), cs[j]? = some (str bd[j]))
theorem BdOk.strs {W : World} {bv : Value} {bd : List (List UInt8)} (h : BdOk W bv bd) : Strs W bv bd := by
  obtain ⟨b, cap, rfl, rfl | ⟨cs, fr, hh, hc⟩⟩ := h
  · exact Or.inr ⟨b, 0, cap, rfl, fun j hj => absurd hj (by simp)⟩
  refine Or.inr ⟨b, 0, cap, rfl, fun j hj => ?_⟩
  rw [Nat.zero_add]
  unfold World.cell?
  rw [hh]
  exact hc j hj
theorem BdOk.grown {W W' : World} {r : Option Nat} {bv : Value} {bd : List (List UInt8)} (h : BdOk W bv bd) (hg : W.grownBy W' r) (hr : bd = [] ∨ bv.ownBlock ≠ r) : BdOk W' bv bd := by
  obtain ⟨b, cap, rfl, rfl | ⟨cs, fr, hh, hc⟩⟩ := h
  · exact ⟨b, cap, rfl, Or.inl rfl⟩
  rcases hr with rfl | hr
  · exact ⟨b, cap, rfl, Or.inl rfl⟩
  exact ⟨b, cap, rfl, Or.inr ⟨cs, fr, grew_heap hg hh hr, hc⟩⟩
theorem BdOk.lt {W : World} {bv : Value} {bd : List (List UInt8)} (h : BdOk W bv bd) : bd = [] ∨ ∃ b, bv.ownBlock = some b ∧ b < W.heap.size := by
  obtain ⟨b, cap, rfl, rfl | ⟨cs, fr, hh, hc⟩⟩ := h
  · exact Or.inl rfl
  exact Or.inr ⟨b, rfl, (Array.getElem?_eq_some_iff.1 hh).1⟩

theorem bd_src {W : World} {bv : Value} {bd : List (List UInt8)} (h : BdOk W bv bd) : SrcOk W bv (bd.map str) := by
  obtain ⟨b, cap, rfl, rfl | ⟨cs, fr, hh, hc⟩⟩ := h
  · exact Or.inl ⟨rfl, _, _, rfl⟩
  by_cases h0 : bd = []
  · subst h0; exact Or.inl ⟨rfl, _, _, rfl⟩
  · refine Or.inr ⟨⟨b, 0, none⟩, bd.length, cap, rfl, List.length_pos_iff.2 h0, by simp, fun j u hu => ?_⟩
    rw [List.getElem?_map] at hu
    obtain ⟨y, hy, rfl⟩ := Option.map_eq_some_iff.1 hu
    obtain ⟨hj, rfl⟩ := List.getElem?_eq_some_iff.1 hy
    have hadd : (⟨b, 0, none⟩ : Addr).add j = ⟨b, 0 + j, none⟩ := by unfold Addr.add; split <;> simp_all
    rw [hadd, Nat.zero_add]
    unfold World.cell?
    rw [hh]
    exact hc j hj
theorem own_bd {W : World} {base : Nat} {v : Value} {xs : List (List UInt8)} (h : W.ownsRow base 9 1 v xs.length (xs.map str)) (h0 : xs ≠ []) : BdOk W v xs := by
  rcases h.2 with ⟨_, h1⟩ | ⟨g, cap, cur, rfl, hb, hh, hn, hc, hs, ht⟩
  · exact absurd (List.length_eq_zero_iff.1 h1) h0
  · refine ⟨g, cap, rfl, Or.inr ⟨cur, _, hh, fun j hj => ?_⟩⟩
    have h2 : (xs.map str)[j]? = some (str xs[j]) := by simp [hj]
    rw [← ht, List.getElem?_take, if_pos (by omega)] at h2
    simpa using h2

def FreeOk (w : World) (v : Value) (oc : List (List UInt8)) (N : Nat) : Prop :=
  oc.length ≤ N ∧
  ∀ W, After w W → ∀ bv bd, BdOk W bv bd → ∀ sv ns, W.ownsRow w.heap.size 9 1 sv ns.length (ns.map str) → bd = [] ∨ bv.ownBlock ≠ sv.ownBlock → ns.length + N ≤ 1000000 → bd.length + N ≤ 1000000 →
    Calls Tryz.prog 34 #[v, bv, sv] W (NamesP w.heap.size W sv (Fm.addA ns (Fm.outOf bd oc)))

theorem free_atom (w : World) (a : List UInt8) (ha : a ≠ []) (hl : a.length ≤ 1000000000) : FreeOk w (.agg #[str a, .slice none 0 0]) (if Tm.nameOk a = true then [a] else []) 1 := by
  refine ⟨by split <;> simp, ?_⟩
  intro W hW bv bd hb sv ns ho hne hlen hbl
  have e0 : (a == []) = false := beq_eq_false_iff_ne.2 ha
  have e1 : (a != []) = true := by rw [bne, e0]; rfl
  have hn := s_name (W.alloc (.cells #[str a, .slice none 0 0] 31)) a hl
  have hbd := s_has (W.alloc (.cells #[str a, .slice none 0 0] 31)) bv bd a (hb.grown (grew_alloc (grew_refl _ _) _) hne).strs (by omega)
  have hls := s_has (W.alloc (.cells #[str a, .slice none 0 0] 31)) sv ns a (ownsRow_strs (ho.alloc _)) (by omega)
  have HO := Lib.hid ho
  cases hk : Tm.nameOk a with
  | false =>
    rw [hk] at hn
    rw [if_neg (by simp), show Fm.addA ns (Fm.outOf bd []) = ns from rfl]
    clear hk hbd hls hb ho hne hW ha
    go_enter Tryz.func34, Tryz.ntmps34
    go_wp2_with (go_at_call 25; refine hn.mono ?_; rintro e w' ⟨rfl, rfl⟩)
    go_ret
    exact ⟨_, rfl, HO.out.alloc _, grew_alloc (grew_refl _ _) _, Or.inl rfl⟩
  | true =>
    rw [hk] at hn
    rw [if_pos rfl, Fm.outOf_one]
    by_cases hm : a ∈ bd
    · rw [if_pos hm, show Fm.addA ns [] = ns from rfl]
      rw [show decide (a ∈ bd) = true by simpa using hm] at hbd
      clear hk hls hb ho hne hm hW ha
      go_enter Tryz.func34, Tryz.ntmps34
      go_wp2_with (first
        | (go_at_call 25; refine hn.mono ?_; rintro e w' ⟨rfl, rfl⟩)
        | (go_at_call 51; refine hbd.mono ?_; rintro e w' ⟨rfl, rfl⟩))
      go_ret
      exact ⟨_, rfl, HO.out.alloc _, grew_alloc (grew_refl _ _) _, Or.inl rfl⟩
    rw [if_neg hm, Fm.addA_one]
    rw [show decide (a ∈ bd) = false by simpa using hm] at hbd
    by_cases hm2 : a ∈ ns
    · rw [Fm.addN_old hm2]
      rw [show decide (a ∈ ns) = true by simpa using hm2] at hls
      clear hk hb ho hne hm hm2 hW ha
      go_enter Tryz.func34, Tryz.ntmps34
      go_wp2_with (first
        | (go_at_call 25; refine hn.mono ?_; rintro e w' ⟨rfl, rfl⟩)
        | (go_at_call_of 51 bv; refine hbd.mono ?_; rintro e w' ⟨rfl, rfl⟩)
        | (go_at_call_of 51 sv; refine hls.mono ?_; rintro e w' ⟨rfl, rfl⟩))
      go_ret
      exact ⟨_, rfl, HO.out.alloc _, grew_alloc (grew_refl _ _) _, Or.inl rfl⟩
    · rw [show Fm.addN ns a = ns ++ [a] from if_neg hm2]
      rw [show decide (a ∈ ns) = false by simpa using hm2] at hls
      obtain ⟨i0, hi, hz0, hz1, hz2⟩ := info_parts sinfo_string
      have hun := Tryz.underlying48
      have hmax : ns.length + 1 ≤ maxLen := by unfold maxLen; omega
      have hm16 : (ns.length + 1) * 16 ≤ 140737488355328 := by omega
      have hone : ∀ u ∈ [str a], u.oneCell' = true := by simp [Value.oneCell']
      have hsz : w.heap.size ≤ ((W.alloc (.cells #[str a, .slice none 0 0] 31)).alloc (.cells #[str a] 9)).heap.size := by have := hW.size; simp; omega
      have hown := (ho.alloc (.cells #[str a, .slice none 0 0] 31)).alloc (.cells #[str a] 9)
      have hnews := cell_one_new (W.alloc (.cells #[str a, .slice none 0 0] 31)) (str a) 9
      rw [show (W.alloc (.cells #[str a, .slice none 0 0] 31)).heap.size = W.heap.size + 1 by simp] at hnews
      have HO2 := Lib.hid hown
      have HSZ := Lib.hid hsz
      clear hk hb ho hne hm hm2 hW ha hown hlen hsz
      go_enter Tryz.func34, Tryz.ntmps34
      go_wp2_with (first
        | (go_at_call 25; refine hn.mono ?_; rintro e w' ⟨rfl, rfl⟩)
        | (go_at_call_of 51 bv; refine hbd.mono ?_; rintro e w' ⟨rfl, rfl⟩)
        | (go_at_call_of 51 sv; refine hls.mono ?_; rintro e w' ⟨rfl, rfl⟩)
        | (at_builtin; refine wpList_append_own_at _ rfl _ _ 48 rfl w.heap.size 9 i0 (.string ⟨#[]⟩) 1 16 hun hi hz0 hz1 hz2 rfl (by decide) _ _ _ rfl HO2.out ⟨W.heap.size + 1, 0, none⟩ 1 1 [str a] rfl rfl hnews hone hmax hm16 HSZ.out ?_; intro v2 w2 ho2 hg2 hiff hor2; clear hiff; have HO3 := Lib.hid ho2; have HG2 := Lib.hid hg2; have HOR := Lib.hid hor2; clear ho2 hg2 hor2))
      go_ret
      refine ⟨_, rfl, by simpa using HO3.out, grew_trans (grew_alloc (grew_alloc (grew_refl W sv.ownBlock) _) _) HG2.out (Or.inl rfl), ?_⟩
      rcases HOR.out with h | h
      · exact Or.inl h
      · exact Or.inr ⟨_, h, by simp; omega⟩

theorem after_grown' {w W : World} (r : Option Nat) (h : After w W) : w.grownBy W r := ⟨h.os, h.tape, h.output, h.size, fun k hk _ => h.block k hk⟩

theorem row_after {w w' : World} {base n size : Nat} {T : TypeId} {v : Value} {xs : List Value} (h : w.ownsRow base T size v n xs) (hb : After w w') : w'.ownsRow base T size v n xs :=
  h.kept (after_grown' none hb) (by cases v.ownBlock with | none => exact Or.inl rfl | some k => exact Or.inr (by simp))

theorem flat_step (os : List (List (List UInt8))) (k : Nat) (h1 : 1 ≤ k) (h : k < os.length) : (os.tail.take (k + 1 - 1)).flatten = (os.tail.take (k - 1)).flatten ++ os[k] := by
  obtain ⟨i, rfl⟩ : ∃ i, k = i + 1 := ⟨k - 1, by omega⟩
  rw [show i + 1 + 1 - 1 = i + 1 by omega, show i + 1 - 1 = i by omega, List.take_succ_eq_append_getElem (by rw [List.length_tail]; omega), List.flatten_append, List.getElem_tail]
  simp
theorem flat_all (os : List (List (List UInt8))) : (os.tail.take (os.length - 1)).flatten = os.tail.flatten := by
  rw [List.take_of_length_le (by rw [List.length_tail]; omega)]
theorem flat_len : ∀ (os : List (List (List UInt8))) (Ns : List Nat), os.length = Ns.length → (∀ j (h : j < os.length) (h' : j < Ns.length), os[j].length ≤ Ns[j]) → os.flatten.length ≤ Ns.sum
  | [], [], _, _ => by simp
  | o :: os, n :: Ns, h, hj => by
    have h0 := hj 0 (by simp) (by simp)
    have h1 := flat_len os Ns (by simpa using h) (fun j h1 h2 => by have := hj (j + 1) (by simpa using h1) (by simpa using h2); simpa using this)
    simp only [List.flatten_cons, List.length_append, List.sum_cons]
    simp only [List.getElem_cons_zero] at h0
    omega
theorem flat_take (os : List (List (List UInt8))) (Ns : List Nat) (h : os.length = Ns.length) (hj : ∀ j (h : j < os.length) (h' : j < Ns.length), os[j].length ≤ Ns[j]) (k : Nat) : (os.tail.take k).flatten.length ≤ (Ns.tail.take k).sum := by
  refine flat_len _ _ (by simp [h]) (fun j h1 h2 => ?_)
  simp only [List.getElem_take, List.getElem_tail]
  exact hj _ (by simp at h1; omega) (by simp at h2; omega)
theorem sum_next (Ns : List Nat) (k : Nat) (h1 : 1 ≤ k) (h : k < Ns.length) : (Ns.tail.take (k - 1)).sum + Ns.getD k 0 ≤ Ns.tail.sum := by
  have hgd : Ns.getD k 0 = Ns[k] := by simp [List.getD, h]
  rw [hgd]
  clear hgd
  obtain ⟨i, rfl⟩ : ∃ i, k = i + 1 := ⟨k - 1, by omega⟩
  have h2 := sum_take_le Ns.tail (i + 1)
  rw [List.take_succ_eq_append_getElem (by rw [List.length_tail]; omega), List.sum_append, List.getElem_tail] at h2
  simpa using h2

theorem free_node (w : World) (B : Nat) (ps : List SX) (v : Value) (h : SV w B (.node ps) v) (hg : GoodX (.node ps)) (hx : ¬ (headX (.node ps) = Fm.wAll ∨ headX (.node ps) = Fm.wEx)) (os : List (List (List UInt8))) (Ns : List Nat) (hol : os.length = ps.length) (hNl : os.length = Ns.length) (h1 : 1 ≤ ps.length)
    (hoN : ∀ j (h : j < os.length) (h' : j < Ns.length), os[j].length ≤ Ns[j])
    (hk : ∀ j (hj : j < ps.length), 1 ≤ j → ∀ v, SV w B ps[j] v → FreeOk w v os[j] Ns[j]) : FreeOk w v os.tail.flatten Ns.tail.sum := by
  refine ⟨?_, ?_⟩
  · have := flat_take os Ns hNl hoN os.length
    rwa [List.take_of_length_le (by rw [List.length_tail]; omega), List.take_of_length_le (by rw [List.length_tail]; omega)] at this
  obtain ⟨b, cap, rfl, hp⟩ := h.part
  intro W hW bv bd hb sv ns ho hne hlen hbl
  have hbb := hb.lt
  have hrlt := ho.lt
  obtain ⟨r, hr⟩ : ∃ r, r = sv.ownBlock := ⟨_, rfl⟩
  rw [← hr] at hrlt hne
  obtain ⟨X, hX⟩ : ∃ X, X = W.alloc (.cells #[.string ⟨#[]⟩, .slice (some ⟨b, 0, none⟩) ps.length cap] 31) := ⟨_, rfl⟩
  have hXs : X.heap.size = W.heap.size + 1 := by rw [hX]; simp
  have hWX : W.grownBy X r := by rw [hX]; exact grew_alloc (grew_refl _ _) _
  have hbX : X.heap[W.heap.size]? = some (.cells #[.string ⟨#[]⟩, .slice (some ⟨b, 0, none⟩) ps.length cap] 31 (0, 0)) := by rw [hX]; exact heap_new' _ _
  have hwX : After w X := by rw [hX]; exact hW.alloc _
  have hXA : After W X := by rw [hX]; exact After.new _ _
  have hhead := s_head X B (.node ps) _ (h.after hwX) hg.1
  have hbd := fun W => s_binds W (headX (.node ps))
  rw [decide_eq_false hx] at hbd
  have hqn : ps.length ≤ 1000000000 := by
    have h1 := Fm.sxTexts_len ps
    have h2 := hg.2
    simp only [Fm.sxText, List.length_cons] at h2
    omega
  have hpart : ∀ j (hj : j < os.length), 1 ≤ j → ∃ (s : List UInt8) (ao : Option Addr) (n c : Nat), (∀ W, After w W → W.cell? ⟨b, j * 2, none⟩ = some (str s) ∧ W.cell? ⟨b, j * 2 + 1, none⟩ = some (.slice ao n c)) ∧ FreeOk w (.agg #[str s, .slice ao n c]) os[j] (Ns.getD j 0) := fun j hj h1 => by
    have hj' : j < ps.length := by omega
    obtain ⟨ao, c, hc, hs⟩ := hp j hj'
    have hgd : Ns.getD j 0 = Ns[j]'(hNl ▸ hj) := by simp [List.getD, show j < Ns.length from hNl ▸ hj]
    rw [hgd]
    exact ⟨_, ao, _, c, hc, hk j hj' h1 _ hs⟩
  rw [← hol] at hX hbX hqn h1 hhead ⊢
  have c0 : X.cell? ⟨W.heap.size, 0, none⟩ = some (.string ⟨#[]⟩) := cell_of_heap (i := 0) hbX
  have HP := Lib.hid hpart
  have HB := Lib.hid hbX
  have HR := Lib.hid hr
  have HWX := Lib.hid hWX
  have HwX := Lib.hid hwX
  have HXA := Lib.hid hXA
  have HO := Lib.hid ho
  have HBD := Lib.hid hb
  have HNE := Lib.hid hne
  have HRL := Lib.hid hrlt
  have HBB := Lib.hid hbb
  have HSZ := Lib.hid hXs
  have HLN := Lib.hid hlen
  have HBL := Lib.hid hbl
  have HWS := Lib.hid hW.size
  have HNL := Lib.hid hNl
  have HFT := Lib.hid (flat_take os Ns hNl hoN)
  generalize headX (.node ps) = x at *
  clear hpart hbX hr hWX hwX hXA ho hb hne hrlt hbb hXs hlen hbl hk hp h hg hx hW hol hoN hNl
  go_enter Tryz.func34, Tryz.ntmps34
  go_wp2_with fail
  rw [← hX]
  refine hhead.mono ?_
  rintro e W2 ⟨rfl, ha2⟩
  have HX2 : Hid (X.grownBy W2 r) := after_grown' r ha2
  have HA2 := Lib.hid ha2
  clear hhead c0 hX ha2
  go_wp2_with fail
  refine (hbd _).mono ?_
  rintro e w3 ⟨rfl, rfl⟩
  clear hbd
  go_wp2_with fail
  go_loopw [2, 7] (fun v2 i wr => ∃ (k : Nat) (lv : Value), lv = v2 ∧ i = .int .i64 k ∧ 1 ≤ k ∧ k ≤ os.length ∧ wr.ownsRow w.heap.size 9 1 lv (Fm.addA ns (Fm.outOf bd (os.tail.take (k - 1)).flatten)).length ((Fm.addA ns (Fm.outOf bd (os.tail.take (k - 1)).flatten)).map str) ∧ W.grownBy wr r ∧ X.grownBy wr r ∧ (lv.ownBlock = r ∨ ∃ q, lv.ownBlock = some q ∧ X.heap.size ≤ q)) (fun _ i _ => os.length - (intOf i).toNat)
  case atStart =>
    refine ⟨1, _, rfl, rfl, Nat.le_refl _, h1, ?_, grew_trans HWX.out HX2.out (Or.inl rfl), HX2.out, Or.inl HR.out.symm⟩
    exact row_after HO.out (HXA.out.trans HA2.out)
  case round =>
    obtain ⟨k, lv, rfl, rfl, hk1, hk, hrow, hgW, hgX, hown⟩ := hrel
    have hAw : After w wr := HwX.out.grown hgX (by have := HwX.out.size; omega) (fun q hq => by have := (HRL.out q hq).1; omega)
    have hbk : wr.heap[W.heap.size]? = some (.cells #[.string ⟨#[]⟩, .slice (some ⟨b, 0, none⟩) os.length cap] 31 (0, 0)) := grew_heap hgX HB.out (fun e => by have := (HRL.out _ e.symm).2; omega)
    have d1 : wr.cell? ⟨W.heap.size, 1, none⟩ = some (.slice (some ⟨b, 0, none⟩) os.length cap) := cell_of_heap (i := 1) hbk
    by_cases hlt : k < os.length
    · have hlti : (k : Int) < (os.length : Int) := by omega
      obtain ⟨s, ao, m, c, hc, hF⟩ := HP.out k hlt hk1
      obtain ⟨p0, p1⟩ := hc wr hAw
      have hbdr : BdOk wr bv bd := HBD.out.grown hgW HNE.out
      have hne2 : bd = [] ∨ bv.ownBlock ≠ lv.ownBlock := by
        rcases HNE.out with e0 | hne0
        · exact Or.inl e0
        rcases HBB.out with e0 | ⟨bb, e1, hlt1⟩
        · exact Or.inl e0
        right
        rcases hown with e | ⟨q, e, hq⟩
        · rw [e]; exact hne0
        · rw [e, e1]
          intro e2
          injection e2 with e2
          have := HSZ.out
          omega
      have hall := sum_next Ns k hk1 (HNL.out ▸ hlt)
      have hfl := HFT.out (k - 1)
      have hstep := flat_step os k hk1 hlt
      have hln1 := Fm.addA_len (Fm.outOf bd (os.tail.take (k - 1)).flatten) ns
      have hln2 : (Fm.outOf bd (os.tail.take (k - 1)).flatten).length ≤ (os.tail.take (k - 1)).flatten.length := List.length_filter_le _ _
      have hnext : Fm.addA (Fm.addA ns (Fm.outOf bd (os.tail.take (k - 1)).flatten)) (Fm.outOf bd os[k]) = Fm.addA ns (Fm.outOf bd (os.tail.take (k + 1 - 1)).flatten) := by rw [hstep, Fm.outOf_app, Fm.addA_app]
      have hcall := hF.2 wr hAw bv bd hbdr lv _ hrow hne2 (by have := HLN.out; omega) (by have := HBL.out; omega)
      rw [hnext] at hcall
      unfold NamesP at hcall
      generalize Fm.addA ns (Fm.outOf bd (os.tail.take (k - 1)).flatten) = n1 at *
      have HN2 : Hid (∃ n2, n2 = Fm.addA ns (Fm.outOf bd (os.tail.take (k + 1 - 1)).flatten)) := ⟨_, rfl⟩
      have HOW := Lib.hid hown
      clear hc hF hbdr hne2 hall hfl hstep hln1 hln2 hnext hown hbk
      go_wp2_with fail
      refine hcall.mono ?_
      rintro e w4 ⟨sv', rfl, ho4, hg4, hor4⟩
      clear hcall
      go_wp2_with fail
      go_roundw
      case rel =>
        have hr4 : lv.ownBlock = r ∨ ∃ q, lv.ownBlock = some q ∧ W.heap.size ≤ q := by
          rcases HOW.out with e | ⟨q, e, hq⟩
          · exact Or.inl e
          · exact Or.inr ⟨q, e, by have := HSZ.out; omega⟩
        have hr5 : lv.ownBlock = r ∨ ∃ q, lv.ownBlock = some q ∧ X.heap.size ≤ q := HOW.out
        refine ⟨k + 1, _, rfl, by go_num, by omega, by omega, ho4, grew_trans hgW hg4 hr4, grew_trans hgX hg4 hr5, ?_⟩
        rcases hor4 with e | ⟨q, e, hq⟩
        · rw [e]; exact HOW.out
        · exact Or.inr ⟨q, e, Nat.le_trans hgX.size hq⟩
      case measure => simp [intOf]; omega
    · obtain rfl : k = os.length := by omega
      rw [flat_all os] at hrow
      have HOW := Lib.hid hown
      clear hown hbk
      go_wp2_with fail
      go_ret
      refine ⟨lv, rfl, hrow, by rw [← HR.out]; exact hgW, ?_⟩
      rw [← HR.out]
      rcases HOW.out with e | ⟨q, e, hq⟩
      · exact Or.inl e
      · exact Or.inr ⟨q, e, by have := HSZ.out; omega⟩
end Go.Proofs.YtlpgoelcadmcfaaGreatDoor

namespace Go.Proofs.YtlpgoelcadmcfaaGreatDoor
open Go

section
variable {P : Program} {ops : Array Oper} {Q : Exit → Act → World → Prop}

/-- Whether operation i comes behind operation j, by edges at most f deep. -/
def reachF (ops : Array Oper) : Nat → Nat → Nat → Bool
  | 0, _, _ => false
  | f + 1, i, j => depsOn ops i j || (List.range i).any fun k => depsOn ops i k && reachF ops f k j
/-- The operations from m on come one behind the other, each behind all ahead of it. -/
def regTail (ops : Array Oper) (m f : Nat) : Bool := (List.range ops.size).all fun i => decide (i < m) || (List.range i).all fun j => reachF ops f i j

theorem reach_listed {listed : Array Bool} (hc : ∀ i, listed.getD i false = true → ∀ j, depsOn ops i j = true → listed.getD j false = true) : ∀ (f i j : Nat), (∀ j, depsOn ops i j = true → listed.getD j false = true) → reachF ops f i j = true → listed.getD j false = true
  | 0, _, _, _, h => by cases h
  | f + 1, i, j, hi, h => by
    rw [reachF, Bool.or_eq_true] at h
    rcases h with h | h
    · exact hi j h
    · rw [List.any_eq_true] at h
      obtain ⟨k, _, h⟩ := h
      rw [Bool.and_eq_true] at h
      exact reach_listed hc f k j (hc k (hi k h.1)) h.2

/-- The operations from i on, k of them, one behind the other. -/
def tailP (P : Program) (ops : Array Oper) (Q : Exit → Act → World → Prop) : Nat → Nat → Act → World → Prop
  | 0, _, a, w => Q .normal a w
  | k + 1, i, a, w => OpDo P ops Q a i w (tailP P ops Q k (i + 1))

theorem wp_region_tail {id m k f : Nat} {a0 : Act} {w0 : World} (hm : P.follows .mixedOrders = true) (hn : ops.size = m + k) (hok : regOk ops m = true) (htl : regTail ops m f = true)
    (Ext : World → World → Prop) (hrefl : ∀ w, Ext w w) (htrans : ∀ a b c, Ext a b → Ext b c → Ext a c)
    (R : Nat → Value → World → Prop) (hR : ∀ i v w w', Ext w0.drew w → R i v w → Ext w w' → R i v w')
    (hstep : ∀ i, i < m → ∀ (vs : Nat → Value) (w : World), Ext w0.drew w → (∀ j, depsOn ops i j = true → R j (vs j) w) →
      ∀ K : Act → World → Prop, (∀ v w', Ext w w' → R i v w' → K ((frame a0 ops vs).put (dstOf ops i) v) w') → OpDo P ops Q (frame a0 ops vs) i w K)
    (htail : ∀ (vs : Nat → Value) (w : World), Ext w0.drew w → (∀ i, i < m → R i (vs i) w) → tailP P ops Q k m (frame a0 ops vs) w) :
    (Code.region id ops true).wp P Q a0 w0 := by
  have getSet : ∀ (listed : Array Bool) (i j : Nat), (listed.setIfInBounds i true).getD j false = if j = i ∧ i < listed.size then true else listed.getD j false := fun listed i j => by
    simp only [Array.getD_eq_getD_getElem?, Array.getElem?_setIfInBounds]
    by_cases h : i = j
    · subst h
      by_cases hi : i < listed.size
      · simp [hi]
      · simp [hi]
    · have h' : ¬ j = i := fun e => h e.symm
      simp [h, h']
  refine wp_region_any hm ?_
  refine wpAny_inv (fun listed a w => listed.size = ops.size ∧ (∀ i, listed.getD i false = true → ∀ j, depsOn ops i j = true → listed.getD j false = true) ∧
    ((∃ vs, a = frame a0 ops vs ∧ Ext w0.drew w ∧ (∀ j, m ≤ j → listed.getD j false = false) ∧ ∀ j, listed.getD j false = true → R j (vs j) w) ∨
     (∃ t, t ≤ k ∧ (∀ j, j < m + t → listed.getD j false = true) ∧ (∀ j, m + t ≤ j → listed.getD j false = false) ∧ tailP P ops Q (k - t) (m + t) a w))) ?_ ?_ ops.size _ _ _ ?_ ⟨by simp, fun i hi => ?_, Or.inl ⟨_, (putAll_init a0 (dstOf ops) ops.size).symm, hrefl _, fun j _ => ?_, fun j hj => ?_⟩⟩
  · rintro listed a w ⟨hsz, hc, h⟩ hr
    have hall := all_listed hsz (regOk_back hok) hr
    rcases h with ⟨vs, rfl, hE, h1, h2⟩ | ⟨t, ht, h1, h2, hp⟩
    · have hk : k = 0 := by
        by_cases hk : k = 0
        · exact hk
        · have := hall m (by omega); rw [h1 m (Nat.le_refl _)] at this; cases this
      have := htail vs w hE (fun i hi => h2 i (hall i (by omega)))
      rw [hk] at this
      exact this
    · have hk : t = k := by
        by_cases hk : t = k
        · exact hk
        · have := hall (m + t) (by omega); rw [h2 _ (Nat.le_refl _)] at this; cases this
      rw [hk, Nat.sub_self] at hp
      exact hp
  · rintro listed a w i ⟨hsz, hc, h⟩ hi
    obtain ⟨hlt, hun, o, ho, hdeps⟩ := ready_open hi
    have hun' : listed.getD i false = false := by
      have hls : i < listed.size := by omega
      simp only [Array.getD, hls, dif_pos] at hun ⊢
      exact hun
    have hdep : ∀ j, depsOn ops i j = true → listed.getD j false = true := fun j hj => by
      unfold depsOn at hj
      rw [ho] at hj
      simp only at hj
      rw [Array.any_eq_true] at hj
      obtain ⟨k, hk, hb⟩ := hj
      simp only [Bool.and_eq_true, beq_iff_eq] at hb
      rw [← hb.2]
      exact hdeps _ (Array.getElem_mem hk) hb.1
    have fin : ∀ {A : Act} {K2 : Act → World → Prop}, (∀ K' : Act → World → Prop, (∀ a w, K2 a w → K' a w) → OpDo P ops Q A i w K') → wpOp P ops Q i K2 A w := fun {A K2} h => wpOp_step ho (fun K' hK => by
      have := (h K' hK).out
      rw [ho] at this
      exact this)
    have hsz' : (listed.setIfInBounds i true).size = ops.size := by simpa using hsz
    have hil : i < listed.size := by omega
    have same : ∀ j, listed.getD j false = true → (listed.setIfInBounds i true).getD j false = true := fun j hj => by rw [getSet]; split <;> simp [hj]
    have here : (listed.setIfInBounds i true).getD i false = true := by rw [getSet]; simp [hil]
    have other : ∀ j, j ≠ i → listed.getD j false = false → (listed.setIfInBounds i true).getD j false = false := fun j hne hj => by rw [getSet]; simp [hne, hj]
    have back : ∀ j, j ≠ i → (listed.setIfInBounds i true).getD j false = true → listed.getD j false = true := fun j hne hj => by rw [getSet, if_neg (fun h => hne h.1)] at hj; exact hj
    have hc' : ∀ q, (listed.setIfInBounds i true).getD q false = true → ∀ j, depsOn ops q j = true → (listed.setIfInBounds i true).getD j false = true := fun q hq j hj => by
      by_cases hqi : q = i
      · subst hqi; exact same j (hdep j hj)
      · exact same j (hc q (back q hqi hq) j hj)
    have hahead : m ≤ i → ∀ j, j < i → listed.getD j false = true := fun hmi j hj => by
      have := List.all_eq_true.1 htl i (List.mem_range.2 hlt)
      rw [Bool.or_eq_true] at this
      rcases this with h | h
      · rw [decide_eq_true_eq] at h; omega
      · exact reach_listed hc f i j hdep (List.all_eq_true.1 h j (List.mem_range.2 hj))
    have mono : ∀ {A : Act} {K1 K2 : Act → World → Prop}, (∀ a w, K1 a w → K2 a w) → OpDo P ops Q A i w K1 → ∀ K', (∀ a w, K2 a w → K' a w) → OpDo P ops Q A i w K' := fun {A K1 K2} h12 h K' hK => by
      refine ⟨?_⟩
      have := h.out
      rw [ho] at this ⊢
      simp only at this ⊢
      split
      · rename_i hw
        rw [if_pos hw] at this
        exact Oper.wp_mono (fun a w h => hK a w (h12 a w h)) this
      · rename_i hw
        rw [if_neg hw] at this
        exact hK _ _ (h12 _ _ this)
    rcases h with ⟨vs, rfl, hE, h1, h2⟩ | ⟨t, ht, h1, h2, hp⟩
    · by_cases him : i < m
      · refine fin (fun K' hK => hstep i him vs w hE (fun j hjd => h2 j (hdep j hjd)) K' (fun v w' he hr => hK _ _ ⟨hsz', hc', Or.inl ⟨fun j => if j = i then v else vs j, (putAll_upd a0 (dstOf ops) vs i v ops.size hlt (fun j hj' hne => regOk_dst hok i j him hj' hne)).symm, htrans _ _ _ hE he, fun j hj => other j (by omega) (h1 j hj), fun j hjl => ?_⟩⟩))
        by_cases hji : j = i
        · subst hji; simpa using hr
        · simp only [hji, if_false]
          exact hR j _ w w' hE (h2 j (back j hji hjl)) he
      · have him' : i = m := by
          by_cases he : i = m
          · exact he
          · have := hahead (by omega) m (by omega); rw [h1 m (Nat.le_refl _)] at this; cases this
        subst him'
        have := htail vs w hE (fun j hj => h2 j (hahead (Nat.le_refl _) j hj))
        obtain ⟨k', rfl⟩ : ∃ k', k = k' + 1 := ⟨k - 1, by omega⟩
        refine fin (mono (fun a' w' h' => ?_) this)
        refine ⟨hsz', hc', Or.inr ⟨1, by omega, fun j hj => ?_, fun j hj => other j (by omega) (h1 j (by omega)), ?_⟩⟩
        · by_cases hji : j = i
          · rw [hji]; exact here
          · exact same j (hahead (Nat.le_refl _) j (by omega))
        · rw [Nat.add_sub_cancel]; exact h'
    · have hi1 : i = m + t := by
        by_cases hlt' : i < m + t
        · have := h1 i hlt'; rw [hun'] at this; cases this
        · by_cases he : i = m + t
          · exact he
          · have := hahead (by omega) (m + t) (by omega); rw [h2 _ (Nat.le_refl _)] at this; cases this
      subst hi1
      obtain ⟨k', hk'⟩ : ∃ k', k - t = k' + 1 := ⟨k - t - 1, by omega⟩
      rw [hk'] at hp
      refine fin (mono (fun a' w' h' => ?_) hp)
      refine ⟨hsz', hc', Or.inr ⟨t + 1, by omega, fun j hj => ?_, fun j hj => other j (by omega) (h2 j (by omega)), ?_⟩⟩
      · by_cases hji : j = m + t
        · rw [hji]; exact here
        · exact same j (h1 j (by omega))
      · rw [show k - (t + 1) = k' by omega]; exact h'
  · have := List.countP_le_length (p := fun b : Bool => !b) (l := (Array.replicate ops.size false).toList)
    unfold openN
    simpa using this
  · rw [Array.getD_eq_getD_getElem?, Array.getElem?_replicate] at hi; split at hi <;> cases hi
  · rw [Array.getD_eq_getD_getElem?, Array.getElem?_replicate]; split <;> rfl
  · rw [Array.getD_eq_getD_getElem?, Array.getElem?_replicate] at hj; split at hj <;> cases hj
end
end Go.Proofs.YtlpgoelcadmcfaaGreatDoor

namespace Go.Proofs.YtlpgoelcadmcfaaGreatDoor
open Go

set_option maxRecDepth 100000

section
variable {P : Program} {ops : Array Oper} {Q : Exit → Act → World → Prop}

/-- What an operation's value is needed for alone. -/
def usesOk (ops : Array Oper) (m : Nat) (use : Nat → Option Nat) : Bool :=
  (List.range m).all fun i => (List.range ops.size).all fun j => !depsOn ops i j || (use j).isNone || (use j == some i)

theorem usesOk_dep {m : Nat} {use : Nat → Option Nat} (h : usesOk ops m use = true) {i j : Nat} (hi : i < m) (hj : j < ops.size) (hd : depsOn ops i j = true) : use j = none ∨ use j = some i := by
  have := List.all_eq_true.1 (List.all_eq_true.1 h i (List.mem_range.2 hi)) j (List.mem_range.2 hj)
  rw [hd] at this
  simp only [Bool.not_true, Bool.false_or, Bool.or_eq_true, Option.isNone_iff_eq_none, beq_iff_eq] at this
  exact this

/-- What stays behind operation i: all that is there and not used up. -/
def StepU (ops : Array Oper) (p : Nat) (C B : World → Prop) (R : Nat → Value → World → Prop) (use : Nat → Option Nat) (i : Nat) (w w' : World) : Prop :=
  B w' ∧ (i ≠ p → C w → C w') ∧ ∀ j v, j ≠ i → depsOn ops j i = false → (∀ c, use j = some c → c ≠ i ∧ depsOn ops i c = false) → R j v w → R j v w'

theorem all_listedB {listed : Array Bool} (hsz : listed.size = ops.size) (hback : ∀ (i : Nat) (o : Oper), ops[i]? = some o → ∀ e : Edge, e ∈ o.after → Region.binds .any e = true → e.on < i) (hr : Region.ready .any ops listed = []) : ∀ i, i < ops.size → listed.getD i false = true := by
  have hall : ∀ n i, i < n → i < ops.size → listed.getD i false = true := by
    intro n
    induction n with
    | zero => intro i h; omega
    | succ n ih =>
      intro i hin hi
      by_cases hl : listed.getD i true = false
      · exfalso
        have hmem : i ∈ Region.ready .any ops listed := by
          simp only [Region.ready, List.mem_filter, List.mem_range, Bool.and_eq_true, Bool.not_eq_true']
          refine ⟨hi, hl, ?_⟩
          have ho : ops[i]? = some ops[i] := Array.getElem?_eq_getElem hi
          rw [ho]
          simp only [Option.map_some, Option.getD_some, Array.all_eq_true_iff_forall_mem, Bool.or_eq_true, Bool.not_eq_true']
          intro e hm'
          cases hbd : Region.binds .any e with
          | false => exact Or.inl rfl
          | true =>
          right
          have := hback i _ ho e hm' hbd
          exact ih e.on (by omega) (by omega)
        rw [hr] at hmem
        cases hmem
      · have hlt : i < listed.size := by omega
        simp only [Array.getD, hlt, dif_pos] at hl ⊢
        simpa using hl
  exact fun i hi => hall (i + 1) i (by omega) hi

theorem wp_region_use_tail {id m k f : Nat} {a0 : Act} {w0 : World} (hm : P.follows .mixedOrders = true) (hn : ops.size = m + k) (hok : regOkB ops m = true) (htl : regTail ops m f = true) (use : Nat → Option Nat) (huse : usesOk ops m use = true)
    (p : Nat) (C B : World → Prop) (R : Nat → Value → World → Prop) (hC : C w0.drew) (hB : B w0.drew)
    (hstep : ∀ i, i < m → ∀ (vs : Nat → Value) (w : World), B w → (i = p ∨ depsOn ops p i = true → C w) → (∀ j, depsOn ops i j = true → R j (vs j) w) →
      ∀ K : Act → World → Prop, (∀ v w', StepU ops p C B R use i w w' → R i v w' → K ((frame a0 ops vs).put (dstOf ops i) v) w') → OpDo P ops Q (frame a0 ops vs) i w K)
    (htail : ∀ (vs : Nat → Value) (w : World), B w → (∀ i, i < m → (∀ c, use i = some c → m ≤ c) → R i (vs i) w) → tailP P ops Q k m (frame a0 ops vs) w) :
    (Code.region id ops true).wp P Q a0 w0 := by
  have getSet : ∀ (listed : Array Bool) (i j : Nat), (listed.setIfInBounds i true).getD j false = if j = i ∧ i < listed.size then true else listed.getD j false := fun listed i j => by
    simp only [Array.getD_eq_getD_getElem?, Array.getElem?_setIfInBounds]
    by_cases h : i = j
    · subst h
      by_cases hi : i < listed.size
      · simp [hi]
      · simp [hi]
    · have h' : ¬ j = i := fun e => h e.symm
      simp [h, h']
  refine wp_region_any hm ?_
  refine wpAny_inv (fun listed a w => listed.size = ops.size ∧ (∀ i, listed.getD i false = true → ∀ j, depsOn ops i j = true → listed.getD j false = true) ∧
    ((∃ vs, a = frame a0 ops vs ∧ B w ∧ (listed.getD p false = false → C w) ∧ (∀ j, m ≤ j → listed.getD j false = false) ∧ ∀ j, listed.getD j false = true → (∀ c, use j = some c → listed.getD c false = false) → R j (vs j) w) ∨
     (∃ t, t ≤ k ∧ (∀ j, j < m + t → listed.getD j false = true) ∧ (∀ j, m + t ≤ j → listed.getD j false = false) ∧ tailP P ops Q (k - t) (m + t) a w))) ?_ ?_ ops.size _ _ _ ?_ ⟨by simp, fun i hi => ?_, Or.inl ⟨_, (putAll_init a0 (dstOf ops) ops.size).symm, hB, fun _ => hC, fun j _ => ?_, fun j hj => ?_⟩⟩
  · rintro listed a w ⟨hsz, hc, h⟩ hr
    have hall := all_listedB hsz (regOkB_back hok) hr
    rcases h with ⟨vs, rfl, hE, hCw, h1, h2⟩ | ⟨t, ht, h1, h2, hp⟩
    · have hk : k = 0 := by
        by_cases hk : k = 0
        · exact hk
        · have := hall m (by omega); rw [h1 m (Nat.le_refl _)] at this; cases this
      have := htail vs w hE (fun i hi hu => h2 i (hall i (by omega)) (fun c hc => h1 c (hu c hc)))
      rw [hk] at this
      exact this
    · have hk : t = k := by
        by_cases hk : t = k
        · exact hk
        · have := hall (m + t) (by omega); rw [h2 _ (Nat.le_refl _)] at this; cases this
      rw [hk, Nat.sub_self] at hp
      exact hp
  · rintro listed a w i ⟨hsz, hc, h⟩ hi
    obtain ⟨hlt, hun, o, ho, hdeps⟩ := ready_open hi
    have hun' : listed.getD i false = false := by
      have hls : i < listed.size := by omega
      simp only [Array.getD, hls, dif_pos] at hun ⊢
      exact hun
    have hdep : ∀ j, depsOn ops i j = true → listed.getD j false = true := fun j hj => by
      unfold depsOn at hj
      rw [ho] at hj
      simp only at hj
      rw [Array.any_eq_true] at hj
      obtain ⟨k, hk, hb⟩ := hj
      simp only [Bool.and_eq_true, beq_iff_eq] at hb
      rw [← hb.2]
      exact hdeps _ (Array.getElem_mem hk) hb.1
    have fin : ∀ {A : Act} {K2 : Act → World → Prop}, (∀ K' : Act → World → Prop, (∀ a w, K2 a w → K' a w) → OpDo P ops Q A i w K') → wpOp P ops Q i K2 A w := fun {A K2} h => wpOp_step ho (fun K' hK => by
      have := (h K' hK).out
      rw [ho] at this
      exact this)
    have hsz' : (listed.setIfInBounds i true).size = ops.size := by simpa using hsz
    have hil : i < listed.size := by omega
    have same : ∀ j, listed.getD j false = true → (listed.setIfInBounds i true).getD j false = true := fun j hj => by rw [getSet]; split <;> simp [hj]
    have here : (listed.setIfInBounds i true).getD i false = true := by rw [getSet]; simp [hil]
    have other : ∀ j, j ≠ i → listed.getD j false = false → (listed.setIfInBounds i true).getD j false = false := fun j hne hj => by rw [getSet]; simp [hne, hj]
    have back : ∀ j, j ≠ i → (listed.setIfInBounds i true).getD j false = true → listed.getD j false = true := fun j hne hj => by rw [getSet, if_neg (fun h => hne h.1)] at hj; exact hj
    have hc' : ∀ q, (listed.setIfInBounds i true).getD q false = true → ∀ j, depsOn ops q j = true → (listed.setIfInBounds i true).getD j false = true := fun q hq j hj => by
      by_cases hqi : q = i
      · subst hqi; exact same j (hdep j hj)
      · exact same j (hc q (back q hqi hq) j hj)
    have hahead : m ≤ i → ∀ j, j < i → listed.getD j false = true := fun hmi j hj => by
      have := List.all_eq_true.1 htl i (List.mem_range.2 hlt)
      rw [Bool.or_eq_true] at this
      rcases this with h | h
      · rw [decide_eq_true_eq] at h; omega
      · exact reach_listed hc f i j hdep (List.all_eq_true.1 h j (List.mem_range.2 hj))
    have mono : ∀ {A : Act} {K1 K2 : Act → World → Prop}, (∀ a w, K1 a w → K2 a w) → OpDo P ops Q A i w K1 → ∀ K', (∀ a w, K2 a w → K' a w) → OpDo P ops Q A i w K' := fun {A K1 K2} h12 h K' hK => by
      refine ⟨?_⟩
      have := h.out
      rw [ho] at this ⊢
      simp only at this ⊢
      split
      · rename_i hw
        rw [if_pos hw] at this
        exact Oper.wp_mono (fun a w h => hK a w (h12 a w h)) this
      · rename_i hw
        rw [if_neg hw] at this
        exact hK _ _ (h12 _ _ this)
    rcases h with ⟨vs, rfl, hE, hCw, h1, h2⟩ | ⟨t, ht, h1, h2, hp⟩
    · by_cases him : i < m
      · refine fin (fun K' hK => hstep i him vs w hE (fun hp => hCw (by
          rcases hp with rfl | hp
          · exact hun'
          · cases hl : listed.getD p false with
            | false => rfl
            | true => have := hc p hl i hp; rw [hun'] at this; cases this)) (fun j hjd => h2 j (hdep j hjd) (fun c hc => by
          have hj : j < ops.size := by
            have h3 := hdep j hjd
            by_cases hj : j < listed.size
            · omega
            · simp [Array.getD, hj] at h3
          rcases usesOk_dep huse him hj hjd with e | e
          · rw [e] at hc; cases hc
          · rw [e] at hc; obtain rfl := Option.some.inj hc; exact hun')) K' (fun v w' he hr => hK _ _ ⟨hsz', hc', Or.inl ⟨fun j => if j = i then v else vs j, (putAll_upd a0 (dstOf ops) vs i v ops.size hlt (fun j hj' hne => regOkB_dst hok i j him hj' hne)).symm, he.1, fun hp => ?_, fun j hj => other j (by omega) (h1 j hj), fun j hjl hju => ?_⟩⟩))
        · by_cases hip : i = p
          · subst hip; rw [here] at hp; cases hp
          · refine he.2.1 hip (hCw ?_)
            rw [getSet, if_neg (fun h => hip h.1.symm)] at hp
            exact hp
        by_cases hji : j = i
        · subst hji; simpa using hr
        · simp only [hji, if_false]
          have hcl : ∀ c, use j = some c → c ≠ i ∧ listed.getD c false = false := fun c hu => by
            have := hju c hu
            by_cases hci : c = i
            · subst hci; rw [here] at this; cases this
            · rw [getSet, if_neg (fun h => hci h.1)] at this; exact ⟨hci, this⟩
          refine he.2.2 j _ hji ?_ (fun c hu => ⟨(hcl c hu).1, ?_⟩) (h2 j (back j hji hjl) (fun c hc => (hcl c hc).2))
          · cases hd : depsOn ops j i with
            | false => rfl
            | true => have := hc j (back j hji hjl) i hd; rw [hun'] at this; cases this
          · cases hd : depsOn ops i c with
            | false => rfl
            | true => have := hdep c hd; rw [(hcl c hu).2] at this; cases this
      · have him' : i = m := by
          by_cases he : i = m
          · exact he
          · have := hahead (by omega) m (by omega); rw [h1 m (Nat.le_refl _)] at this; cases this
        subst him'
        have := htail vs w hE (fun j hj hu => h2 j (hahead (Nat.le_refl _) j hj) (fun c hc => h1 c (hu c hc)))
        obtain ⟨k', rfl⟩ : ∃ k', k = k' + 1 := ⟨k - 1, by omega⟩
        refine fin (mono (fun a' w' h' => ?_) this)
        refine ⟨hsz', hc', Or.inr ⟨1, by omega, fun j hj => ?_, fun j hj => other j (by omega) (h1 j (by omega)), ?_⟩⟩
        · by_cases hji : j = i
          · rw [hji]; exact here
          · exact same j (hahead (Nat.le_refl _) j (by omega))
        · rw [Nat.add_sub_cancel]; exact h'
    · have hi1 : i = m + t := by
        by_cases hlt' : i < m + t
        · have := h1 i hlt'; rw [hun'] at this; cases this
        · by_cases he : i = m + t
          · exact he
          · have := hahead (by omega) (m + t) (by omega); rw [h2 _ (Nat.le_refl _)] at this; cases this
      subst hi1
      obtain ⟨k', hk'⟩ : ∃ k', k - t = k' + 1 := ⟨k - t - 1, by omega⟩
      rw [hk'] at hp
      refine fin (mono (fun a' w' h' => ?_) hp)
      refine ⟨hsz', hc', Or.inr ⟨t + 1, by omega, fun j hj => ?_, fun j hj => other j (by omega) (h2 j (by omega)), ?_⟩⟩
      · by_cases hji : j = m + t
        · rw [hji]; exact here
        · exact same j (h1 j (by omega))
      · rw [show k - (t + 1) = k' by omega]; exact h'
  · have := List.countP_le_length (p := fun b : Bool => !b) (l := (Array.replicate ops.size false).toList)
    unfold openN
    simpa using this
  · rw [Array.getD_eq_getD_getElem?, Array.getElem?_replicate] at hi; split at hi <;> cases hi
  · rw [Array.getD_eq_getD_getElem?, Array.getElem?_replicate]; split <;> rfl
  · rw [Array.getD_eq_getD_getElem?, Array.getElem?_replicate] at hj; split at hj <;> cases hj
end

/-- What an operation yields, here: a value, nothing, or something said of the value and the world. -/
inductive Yu where
  | lit (v : Value)
  | free
  | pred (F : Value → World → Prop)
def Yu.holds : Yu → Value → World → Prop
  | .lit u, v, _ => v = u
  | .free, _, _ => True
  | .pred F, v, w => F v w
def yus (L : List Yu) (i : Nat) (v : Value) (w : World) : Prop := (L.getD i .free).holds v w
def keepsU (E : World → World → Prop) : Yu → Prop
  | .pred F => ∀ v w w', E w w' → F v w → F v w'
  | _ => True
theorem yus_keep {L : List Yu} {E : World → World → Prop} (hL : ∀ y ∈ L, keepsU E y) {w w' : World} (hE : E w w') (j : Nat) (v : Value) (h : yus L j v w) : yus L j v w' := by
  unfold yus at *
  by_cases hi : j < L.length
  · have hm : L.getD j .free ∈ L := by rw [List.getD_eq_getElem?_getD, List.getElem?_eq_getElem hi]; exact List.getElem_mem hi
    have hk := hL _ hm
    cases hy : L.getD j .free with
    | lit u => rw [hy] at h; exact h
    | free => trivial
    | pred F => rw [hy] at h hk; exact hk v w w' hE h
  · rw [List.getD_eq_getElem?_getD, List.getElem?_eq_none (by omega)]
    trivial

section
variable {P : Program} {ops : Array Oper} {Q : Exit → Act → World → Prop} {A : Act} {i : Nat} {w : World} {K : Act → World → Prop} {p : Nat} {C B : World → Prop} {R : Nat → Value → World → Prop} {use : Nat → Option Nat}

theorem du_val {u : Value} (hs : (ops[i]?).isSome = true) (hw : Region.wanted (opAt ops i) (yielded ops A.tmps) = true) (hr : (execOp A.eval (opAt ops i)).run P w = .ok (.value u) w) (hB : B w) (hy : R i u w)
    (hK : ∀ v w', StepU ops p C B R use i w w' → R i v w' → K (A.put (dstOf ops i) v) w') : OpDo P ops Q A i w K :=
  op_val hs hw hr (hK _ _ ⟨hB, fun _ h => h, fun _ _ _ _ _ h => h⟩ hy)
theorem du_new {u : Value} {w' : World} (hs : (ops[i]?).isSome = true) (hw : Region.wanted (opAt ops i) (yielded ops A.tmps) = true) (hr : (execOp A.eval (opAt ops i)).run P w = .ok (.value u) w') (hst : StepU ops p C B R use i w w') (hy : R i u w')
    (hK : ∀ v w', StepU ops p C B R use i w w' → R i v w' → K (A.put (dstOf ops i) v) w') : OpDo P ops Q A i w K :=
  op_val hs hw hr (hK _ _ hst hy)
theorem ru_app {s x : Operand} {t : TypeId} {v sv v' : Value} {w' : World} (hop : (opAt ops i).op = .call { callee := .builtin .append, args := #[s, x], argTypes := #[t, t] }) (hs : A.eval s = v) (hx : A.eval x = sv)
    (h : (Builtin.append_ #[t, t] (opAt ops i).type #[v, sv]).run P w = .ok v' w') : (execOp A.eval (opAt ops i)).run P w = .ok (.value v') w' := by
  unfold execOp
  simp only [hop, resolve, invoke, builtin, Sem.run_bind, Sem.run_pure, Result.andThen_ok, List.map_toArray, List.map_cons, List.map_nil, hs, hx, h]
end
end Go.Proofs.YtlpgoelcadmcfaaGreatDoor

namespace Go.Proofs.YtlpgoelcadmcfaaGreatDoor
open Go.RowKit

set_option maxHeartbeats 4000000
set_option maxRecDepth 100000

section
variable {ops : Array Oper} {A : Act} {i : Nat} {w : World}
theorem ruf_lds {x : Operand} {u v : Value} {p : Addr} (hop : (opAt ops i).op = .load 29 x) (hx : A.eval x = u) (hu : u = .pointer (some p)) (hc : w.cell? p = some v) :
    (execOp A.eval (opAt ops i)).run Tryz.prog w = .ok (.value v) w := by
  subst hu
  unfold execOp
  simp only [hop, hx]
  simp [go_sem, hc]
theorem ruf_ldstr {x : Operand} {u v : Value} {p : Addr} (hop : (opAt ops i).op = .load 9 x) (hx : A.eval x = u) (hu : u = .pointer (some p)) (hc : w.cell? p = some v) :
    (execOp A.eval (opAt ops i)).run Tryz.prog w = .ok (.value v) w := by
  subst hu
  unfold execOp
  simp only [hop, hx]
  simp [go_sem, hc]
theorem ruf_ix {x : Operand} {u : Value} {b n cap k : Nat} (hop : (opAt ops i).op = .indexAddr 29 x (.const (.int .i64 k))) (hx : A.eval x = u) (hu : u = .slice (some ⟨b, 0, none⟩) n cap) (hk : k < n) :
    (execOp A.eval (opAt ops i)).run Tryz.prog w = .ok (.value (.pointer (some ⟨b, k * 2, none⟩))) w := by
  subst hu
  have hk' : (k : Int) < (n : Int) := by omega
  have hc : A.eval (.const (.int .i64 k)) = .int .i64 k := rfl
  unfold execOp
  generalize A.eval = E at *
  simp only [hop]
  simp [go_sem, hx, hc, hk']
theorem ruf_f0 {x : Operand} {u : Value} {b k : Nat} (hop : (opAt ops i).op = .fieldAddr 31 x 0) (hx : A.eval x = u) (hu : u = .pointer (some ⟨b, k, none⟩)) :
    (execOp A.eval (opAt ops i)).run Tryz.prog w = .ok (.value (.pointer (some ⟨b, k, none⟩))) w := by
  subst hu
  unfold execOp
  simp only [hop, hx]
  kernel_rfl
theorem ruf_row0 (hop : (opAt ops i).op = .buildSlice 48 0 #[]) :
    (execOp A.eval (opAt ops i)).run Tryz.prog w = .ok (.value (.slice (some ⟨w.heap.size, 0, none⟩) 0 0)) (w.alloc (.cells #[] 9)) := by
  unfold execOp
  simp only [hop]
  kernel_rfl
theorem ruf_row1 {x : Operand} {u : Value} {s : List UInt8} (hop : (opAt ops i).op = .buildSlice 48 1 #[(0, x)]) (hx : A.eval x = u) (hu : u = str s) :
    (execOp A.eval (opAt ops i)).run Tryz.prog w = .ok (.value (.slice (some ⟨w.heap.size, 0, none⟩) 1 1)) (w.alloc (.cells #[str s] 9)) := by
  subst hu
  unfold execOp
  generalize A.eval = E at *
  simp only [hop]
  simp [go_sem, hx]
end

/-- What the operations of the region yield. -/
def bindL (Y W : World) (b cap : Nat) (s3 x : List UInt8) (ao3 : Option Addr) (n3 c3 : Nat) (bv sv : Value) (bd : List (List UInt8)) : List Yu :=
  [.lit (.pointer (some ⟨W.heap.size, 1, none⟩)), .lit (.slice (some ⟨b, 0, none⟩) 4 cap), .lit (.pointer (some ⟨b, 6, none⟩)), .lit (.agg #[str s3, .slice ao3 n3 c3]), .pred (fun v w => ∃ g, v = .slice (some ⟨g, 0, none⟩) 0 0 ∧ Y.heap.size ≤ g ∧ w.heap[g]? = some (.cells #[] 9 (0, 0))), .lit bv, .pred (fun v w => w.ownsRow Y.heap.size 9 1 v bd.length (bd.map str)), .lit (.pointer (some ⟨W.heap.size, 1, none⟩)), .lit (.slice (some ⟨b, 0, none⟩) 4 cap), .lit (.pointer (some ⟨b, 2, none⟩)), .lit (.pointer (some ⟨b, 2, none⟩)), .lit (str x), .pred (fun v w => ∃ g, v = .slice (some ⟨g, 0, none⟩) 1 1 ∧ Y.heap.size ≤ g ∧ w.heap[g]? = some (.cells #[str x] 9 (0, 0))), .pred (fun v w => w.ownsRow Y.heap.size 9 1 v (bd ++ [x]).length ((bd ++ [x]).map str)), .lit sv]

theorem bindL_keep {Y W : World} {b cap : Nat} {s3 x : List UInt8} {ao3 : Option Addr} {n3 c3 : Nat} {bv sv : Value} {bd : List (List UInt8)} : ∀ y ∈ bindL Y W b cap s3 x ao3 n3 c3 bv sv bd, keepsU After y := by
  intro y hy
  simp only [bindL, List.mem_cons, List.not_mem_nil, or_false] at hy
  rcases hy with rfl | rfl | rfl | rfl | rfl | rfl | rfl | rfl | rfl | rfl | rfl | rfl | rfl | rfl | rfl
  case inr.inr.inr.inr.inl => exact fun v w w' h ⟨g, e, hg, hh⟩ => ⟨g, e, hg, h.heap hh⟩
  case inr.inr.inr.inr.inr.inr.inl => exact fun v w w' h k => row_after k h
  case inr.inr.inr.inr.inr.inr.inr.inr.inr.inr.inr.inr.inl => exact fun v w w' h ⟨g, e, hg, hh⟩ => ⟨g, e, hg, h.heap hh⟩
  case inr.inr.inr.inr.inr.inr.inr.inr.inr.inr.inr.inr.inr.inl => exact fun v w w' h k => row_after k h
  all_goals exact trivial

theorem keep6 {Y W w w' : World} {b cap : Nat} {s3 x : List UInt8} {ao3 : Option Addr} {n3 c3 : Nat} {bv sv : Value} {bd : List (List UInt8)} {g : Nat} {j : Nat} {v : Value}
    (hg : w.grownBy w' (some g)) (hh : w.heap[g]? = some (.cells #[] 9 (0, 0))) (hj : j ≠ 6) (hj4 : j ≠ 4) (h : yus (bindL Y W b cap s3 x ao3 n3 c3 bv sv bd) j v w) : yus (bindL Y W b cap s3 x ao3 n3 c3 bv sv bd) j v w' := by
  match j, hj, hj4 with
  | 0, _, _ => exact h
  | 1, _, _ => exact h
  | 2, _, _ => exact h
  | 3, _, _ => exact h
  | 5, _, _ => exact h
  | 7, _, _ => exact h
  | 8, _, _ => exact h
  | 9, _, _ => exact h
  | 10, _, _ => exact h
  | 11, _, _ => exact h
  | 12, _, _ =>
    obtain ⟨q, e, hq, hqq⟩ := h
    exact ⟨q, e, hq, grew_heap hg hqq (fun e2 => by injection e2 with e2; rw [e2, hh] at hqq; simp at hqq)⟩
  | 13, _, _ =>
    have h' : w.ownsRow Y.heap.size 9 1 v (bd ++ [x]).length ((bd ++ [x]).map str) := h
    refine h'.kept hg ?_
    rcases h'.2 with ⟨rfl, _⟩ | ⟨q, c, cur, rfl, _, hqq, hn, _, hsz, _⟩
    · exact Or.inl rfl
    · right
      intro e2
      injection e2 with e2
      have e3 : q = g := e2
      rw [e3, hh] at hqq
      have e4 : (#[] : Array Value) = cur := by simpa using hqq
      rw [← e4] at hsz
      simp at hsz hn
      omega
  | 14, _, _ => exact h
  | j + 15, _, _ => exact h

theorem keep13 {Y W w w' : World} {b cap : Nat} {s3 x : List UInt8} {ao3 : Option Addr} {n3 c3 : Nat} {bv sv : Value} {bd : List (List UInt8)} {j : Nat} {v : Value}
    (hu : ¬ (j = 4 ∨ j = 6 ∨ j = 12)) (hj : j ≠ 13) (h : yus (bindL Y W b cap s3 x ao3 n3 c3 bv sv bd) j v w) : yus (bindL Y W b cap s3 x ao3 n3 c3 bv sv bd) j v w' := by
  match j, hu, hj with
  | 0, _, _ => exact h
  | 1, _, _ => exact h
  | 2, _, _ => exact h
  | 3, _, _ => exact h
  | 5, _, _ => exact h
  | 7, _, _ => exact h
  | 8, _, _ => exact h
  | 9, _, _ => exact h
  | 10, _, _ => exact h
  | 11, _, _ => exact h
  | 4, hu, _ => exact absurd (Or.inl rfl) hu
  | 6, hu, _ => exact absurd (Or.inr (Or.inl rfl)) hu
  | 12, hu, _ => exact absurd (Or.inr (Or.inr rfl)) hu
  | 14, _, _ => exact h
  | j + 15, _, _ => exact h

/-- What each value is needed for alone. -/
def bindU : Nat → Option Nat
  | 4 => some 6
  | 6 => some 13
  | 12 => some 13
  | _ => none

theorem wp_frame {P : Program} {c : Code} {Q : Exit → Act → World → Prop} {A : Act} {w : World} (A' : Act) (h : A = A') (hw : Code.wp P c Q A' w) : Code.wp P c Q A w := h ▸ hw

theorem free_bind (w : World) (B : Nat) (q x n : List UInt8) (p : SX) (v : Value) (h : SV w B (.node [.atom q, .atom x, .atom n, p]) v) (hg : GoodX (.node [.atom q, .atom x, .atom n, p])) (hq : q = Fm.wAll ∨ q = Fm.wEx) (oc : List (List UInt8)) (N : Nat)
    (hk : ∀ v, SV w B p v → FreeOk w v oc N) (hoN : oc.length ≤ N) : FreeOk w v (oc.filter fun y => decide (y ≠ x)) (N + 1) := by
  refine ⟨Nat.le_trans (List.length_filter_le _ _) (Nat.le_succ_of_le hoN), ?_⟩
  obtain ⟨b, cap, rfl, hp⟩ := h.part
  intro W hW bv bd hb sv ns ho hne hlen hbl
  rw [← Fm.outOf_bind]
  have hrlt := ho.lt
  obtain ⟨r, hr⟩ : ∃ r, r = sv.ownBlock := ⟨_, rfl⟩
  rw [← hr] at hrlt hne
  obtain ⟨X, hX⟩ : ∃ X, X = W.alloc (.cells #[.string ⟨#[]⟩, .slice (some ⟨b, 0, none⟩) 4 cap] 31) := ⟨_, rfl⟩
  have hXs : X.heap.size = W.heap.size + 1 := by rw [hX]; simp
  have hbX : X.heap[W.heap.size]? = some (.cells #[.string ⟨#[]⟩, .slice (some ⟨b, 0, none⟩) 4 cap] 31 (0, 0)) := by rw [hX]; exact heap_new' _ _
  have hwX : After w X := by rw [hX]; exact hW.alloc _
  have hXA : After W X := by rw [hX]; exact After.new _ _
  have hhead := s_head X B (.node [.atom q, .atom x, .atom n, p]) _ (h.after hwX) hg.1
  have hhq : headX (.node [.atom q, .atom x, .atom n, p]) = q := rfl
  rw [hhq] at hhead
  have hbd := fun W => s_binds W q
  rw [decide_eq_true hq] at hbd
  obtain ⟨a1, e1, hc1, hs1⟩ := hp 1 (by simp)
  obtain ⟨ao3, c3, hc3, hs3⟩ := hp 3 (by simp)
  have hx : atomX [SX.atom q, .atom x, .atom n, p][1] = x := rfl
  have hp3 : [SX.atom q, .atom x, .atom n, p][3] = p := rfl
  rw [hx] at hc1
  rw [hp3] at hc3 hs3
  have hfree := hk _ hs3
  generalize atomX p = s3 at *
  generalize (partsX p).length = n3 at *
  have c0 : X.cell? ⟨W.heap.size, 0, none⟩ = some (.string ⟨#[]⟩) := cell_of_heap (i := 0) hbX
  obtain ⟨i0, hi0, hz0, hz1, hz2⟩ := info_parts sinfo_string
  have hun := Tryz.underlying48
  have hone : ∀ u ∈ bd.map str, u.oneCell' = true := fun u hu => by obtain ⟨y, _, rfl⟩ := List.mem_map.1 hu; rfl
  have honx : ∀ u ∈ [str x], u.oneCell' = true := by simp [Value.oneCell']
  have m1 : 0 + (bd.map str).length ≤ maxLen := by unfold maxLen; simp; omega
  have m2 : (0 + (bd.map str).length) * 16 ≤ 140737488355328 := by simp; omega
  have m3 : bd.length + 1 ≤ maxLen := by unfold maxLen; omega
  have m4 : (bd.length + 1) * 16 ≤ 140737488355328 := by omega
  have HONE := Lib.hid hone
  have HONX := Lib.hid honx
  have HM1 := Lib.hid m1
  have HM2 := Lib.hid m2
  have HM3 := Lib.hid m3
  have HM4 := Lib.hid m4
  have HC1w := Lib.hid hc1
  have HC3w := Lib.hid hc3
  have HF := Lib.hid hfree
  have HB := Lib.hid hbX
  have HR := Lib.hid hr
  have HwX := Lib.hid hwX
  have HXA := Lib.hid hXA
  have HO := Lib.hid ho
  have HBD := Lib.hid hb
  have HNE := Lib.hid hne
  have HRL := Lib.hid hrlt
  have HSZ := Lib.hid hXs
  have HLN := Lib.hid hlen
  have HBL := Lib.hid hbl
  have HWS := Lib.hid hW.size
  clear hbX hr hwX hXA ho hb hne hrlt hXs hlen hbl hk hp h hg hq hW hc1 hc3 hs1 hs3 hfree hone honx m1 m2 m3 m4 hhq hx hp3 hoN
  go_enter Tryz.func34, Tryz.ntmps34
  go_wp2_with fail
  rw [← hX]
  refine hhead.mono ?_
  rintro e Y ⟨rfl, ha2⟩
  have HA2 := Lib.hid ha2
  clear hhead c0 hX ha2
  go_wp2_with fail
  refine (hbd _).mono ?_
  rintro e w3 ⟨rfl, rfl⟩
  clear hbd
  go_wp2_with fail
  rename_i KK hKK
  have HBY : Hid (Y.heap[W.heap.size]? = some (.cells #[.string ⟨#[]⟩, .slice (some ⟨b, 0, none⟩) 4 cap] 31 (0, 0))) := HA2.out.heap HB.out
  have HwY : Hid (After w Y) := HwX.out.trans HA2.out
  have HC1 : Hid (∀ W1, After Y W1 → W1.cell? ⟨W.heap.size, 1, none⟩ = some (.slice (some ⟨b, 0, none⟩) 4 cap)) := fun W1 h => cell_of_heap (i := 1) (h.heap HBY.out)
  have HC2 : Hid (∀ W1, After Y W1 → W1.cell? ⟨b, 2, none⟩ = some (str x)) := fun W1 h => (HC1w.out W1 (HwY.out.trans h)).1
  have HC6 : Hid (∀ W1, After Y W1 → W1.cell? ⟨b, 6, none⟩ = some (str s3)) := fun W1 h => (HC3w.out W1 (HwY.out.trans h)).1
  have HC7 : Hid (∀ W1, After Y W1 → W1.cell? ⟨b, 7, none⟩ = some (.slice ao3 n3 c3)) := fun W1 h => (HC3w.out W1 (HwY.out.trans h)).2
  have HAW : Hid (After W Y) := HXA.out.trans HA2.out
  have HSRC : Hid (∀ W1, After Y W1 → SrcOk W1 bv (bd.map str)) := fun W1 h => bd_src (HBD.out.grown (after_grown' r (HAW.out.trans h)) HNE.out)
  have HL : Hid (∀ y ∈ bindL Y W b cap s3 x ao3 n3 c3 bv sv bd, keepsU After y) := bindL_keep
  refine wp_region_use_tail (m := 15) (k := 2) (f := 12) (by kernel_rfl) (by kernel_rfl) (by kernel_rfl) (by kernel_rfl) bindU (by kernel_rfl)
    99 (fun _ => True) (After Y) (yus (bindL Y W b cap s3 x ao3 n3 c3 bv sv bd)) trivial (After.refl Y).drew (lt15 ?_ ?_ ?_ ?_ ?_ ?_ ?_ ?_ ?_ ?_ ?_ ?_ ?_ ?_ ?_) ?_
  · intro vs W1 hB _ hd K hK
    exact du_val (by kernel_rfl) (wantedq (by kernel_rfl)) (by kernel_rfl) hB rfl hK
  · intro vs W1 hB _ hd K hK
    exact du_val (by kernel_rfl) (wantedq (by kernel_rfl)) (ruf_lds (x := .tmp 37) (u := vs 0) (by kernel_rfl) (by kernel_rfl) (hd 0 (by kernel_rfl)) (HC1.out W1 hB)) hB rfl hK
  · intro vs W1 hB _ hd K hK
    exact du_val (by kernel_rfl) (wantedq (by kernel_rfl)) (ruf_ix (x := .tmp 38) (u := vs 1) (k := 3) (by kernel_rfl) (by kernel_rfl) (hd 1 (by kernel_rfl)) (by decide)) hB rfl hK
  · intro vs W1 hB _ hd K hK
    exact du_val (by kernel_rfl) (wantedq (by kernel_rfl)) (rq_tree (x := .tmp 39) (u := vs 2) (b := b) (k := 6) (by kernel_rfl) (by kernel_rfl) (hd 2 (by kernel_rfl)) (HC6.out W1 hB) (HC7.out W1 hB)) hB rfl hK
  · intro vs W1 hB _ hd K hK
    exact du_new (by kernel_rfl) (wantedq (by kernel_rfl)) (ruf_row0 (by kernel_rfl)) ⟨hB.alloc _, fun _ _ => trivial, fun j v _ _ _ h => yus_keep HL.out (After.new W1 _) j v h⟩ ⟨_, rfl, hB.size, heap_top _ _⟩ hK
  · intro vs W1 hB _ hd K hK
    exact du_val (by kernel_rfl) (wantedq (by kernel_rfl)) (by kernel_rfl) hB rfl hK
  · intro vs W1 hB _ hd K hK
    obtain ⟨g, e4, hg4, hh4⟩ := (hd 4 (by kernel_rfl))
    have h5 : vs 5 = bv := (hd 5 (by kernel_rfl))
    have hown0 : W1.ownsRow Y.heap.size 9 1 (vs 4) 0 [] := by rw [e4]; exact ⟨rfl, Or.inr ⟨g, 0, #[], rfl, hg4, hh4, Nat.le_refl _, Nat.zero_le _, rfl, rfl⟩⟩
    obtain ⟨v', w', hrun, ho6, hgr⟩ := run_app (P := Tryz.prog) W1 (t := 48) (ty := 48) (base := Y.heap.size) hun hi0 hz0 hz1 hz2 rfl hown0 (HSRC.out W1 hB) HONE.out (by simpa using HM1.out) (by simpa using HM2.out) hB.size
    rw [e4] at hgr
    have hgr2 : W1.grownBy w' (some g) := hgr
    have hB2 : After Y w' := hB.grown hgr2 hB.size (fun k hk => by obtain rfl := Option.some.inj hk; exact hg4)
    refine du_new (u := v') (by kernel_rfl) (wantedq (by kernel_rfl)) (ru_app (s := .tmp 41) (x := .tmp 42) (v := vs 4) (sv := bv) (by kernel_rfl) (by kernel_rfl) (Eq.trans (by kernel_rfl : _ = vs 5) h5) hrun) ⟨hB2, fun _ _ => trivial, fun j v hj hdj hu h => ?_⟩ (by show w'.ownsRow _ _ _ v' _ _; simpa using ho6) hK
    refine keep6 hgr2 hh4 hj (fun e => (hu 6 (by rw [e]; rfl)).1 rfl) h
  · intro vs W1 hB _ hd K hK
    exact du_val (by kernel_rfl) (wantedq (by kernel_rfl)) (by kernel_rfl) hB rfl hK
  · intro vs W1 hB _ hd K hK
    exact du_val (by kernel_rfl) (wantedq (by kernel_rfl)) (ruf_lds (x := .tmp 44) (u := vs 7) (by kernel_rfl) (by kernel_rfl) (hd 7 (by kernel_rfl)) (HC1.out W1 hB)) hB rfl hK
  · intro vs W1 hB _ hd K hK
    exact du_val (by kernel_rfl) (wantedq (by kernel_rfl)) (ruf_ix (x := .tmp 45) (u := vs 8) (k := 1) (by kernel_rfl) (by kernel_rfl) (hd 8 (by kernel_rfl)) (by decide)) hB rfl hK
  · intro vs W1 hB _ hd K hK
    exact du_val (by kernel_rfl) (wantedq (by kernel_rfl)) (ruf_f0 (x := .tmp 46) (u := vs 9) (by kernel_rfl) (by kernel_rfl) (hd 9 (by kernel_rfl))) hB rfl hK
  · intro vs W1 hB _ hd K hK
    exact du_val (by kernel_rfl) (wantedq (by kernel_rfl)) (ruf_ldstr (x := .tmp 47) (u := vs 10) (by kernel_rfl) (by kernel_rfl) (hd 10 (by kernel_rfl)) (HC2.out W1 hB)) hB rfl hK
  · intro vs W1 hB _ hd K hK
    exact du_new (by kernel_rfl) (wantedq (by kernel_rfl)) (ruf_row1 (x := .tmp 48) (u := vs 11) (by kernel_rfl) (by kernel_rfl) (hd 11 (by kernel_rfl))) ⟨hB.alloc _, fun _ _ => trivial, fun j v _ _ _ h => yus_keep HL.out (After.new W1 _) j v h⟩ ⟨_, rfl, hB.size, heap_top _ _⟩ hK
  · intro vs W1 hB _ hd K hK
    have ho6 : W1.ownsRow Y.heap.size 9 1 (vs 6) bd.length (bd.map str) := (hd 6 (by kernel_rfl))
    obtain ⟨g, e12, hg12, hh12⟩ := (hd 12 (by kernel_rfl))
    have hnews : ∀ j u, ([str x] : List Value)[j]? = some u → W1.cell? ((⟨g, 0, none⟩ : Addr).add j) = some u := fun j u hj => by
      obtain ⟨rfl, rfl⟩ : j = 0 ∧ u = str x := by
        cases j with
        | zero => simpa using hj.symm
        | succ j => simp at hj
      exact cell_of_heap (i := 0) hh12
    obtain ⟨v', w', hrun, ho13, hgr, _⟩ := run_append_own (P := Tryz.prog) W1 Y.heap.size 48 48 9 i0 (.string ⟨#[]⟩) 1 16 hun hi0 hz0 hz1 hz2 rfl (by decide) (vs 6) bd.length (bd.map str) ho6 ⟨g, 0, none⟩ 1 1 [str x] rfl hnews HONX.out HM3.out HM4.out hB.size
    have hB2 : After Y w' := hB.grown hgr hB.size (fun k hk => (ho6.lt k hk).1)
    refine du_new (u := v') (by kernel_rfl) (wantedq (by kernel_rfl)) (ru_app (s := .tmp 43) (x := .tmp 49) (v := vs 6) (sv := .slice (some ⟨g, 0, none⟩) 1 1) (by kernel_rfl) (by kernel_rfl) (Eq.trans (by kernel_rfl : _ = vs 12) e12) hrun) ⟨hB2, fun _ _ => trivial, fun j v hj hdj hu h => ?_⟩ (by show w'.ownsRow _ _ _ v' _ _; simpa using ho13) hK
    refine keep13 (fun e => ?_) hj h
    rcases e with rfl | rfl | rfl
    · have h3 := (hu 6 rfl).2; exact absurd h3 (by rw [show depsOn _ 13 6 = true by kernel_rfl]; decide)
    · exact absurd rfl (hu 13 rfl).1
    · exact absurd rfl (hu 13 rfl).1
  · intro vs W1 hB _ hd K hK
    exact du_val (by kernel_rfl) (wantedq (by kernel_rfl)) (by kernel_rfl) hB rfl hK
  intro vs W1 hB hd
  have h13 : W1.ownsRow Y.heap.size 9 1 (vs 13) (bd ++ [x]).length ((bd ++ [x]).map str) := hd 13 (by decide) (fun c hc => by cases hc)
  have e3 : vs 3 = .agg #[str s3, .slice ao3 n3 c3] := hd 3 (by decide) (fun c hc => by cases hc)
  have e14 : vs 14 = sv := hd 14 (by decide) (fun c hc => by cases hc)
  have hbd1 : BdOk W1 (vs 13) (bd ++ [x]) := own_bd h13 (by simp)
  have hrow1 : W1.ownsRow w.heap.size 9 1 sv ns.length (ns.map str) := row_after HO.out (HAW.out.trans hB)
  have hne1 : bd ++ [x] = [] ∨ (vs 13).ownBlock ≠ sv.ownBlock := by
    right
    obtain ⟨q1, e1, _⟩ := hbd1.lt.resolve_left (by simp)
    have h1 := (h13.lt q1 e1).1
    have h2 := HAW.out.size
    rw [e1]
    intro e2
    have h3 := (HO.out.lt q1 e2.symm).2
    omega
  have hcall := HF.out.2 W1 (HwY.out.trans hB) (vs 13) (bd ++ [x]) hbd1 sv ns hrow1 hne1 (by have := HLN.out; omega) (by have := HBL.out; simp; omega)
  unfold NamesP at hcall
  clear h13 hbd1 hrow1 hne1
  have HG1 : Hid (W.grownBy W1 r) := after_grown' r (HAW.out.trans hB)
  have HS1 : Hid (W.heap.size ≤ W1.heap.size) := (HAW.out.trans hB).size
  refine op_call (i := 15) (by kernel_rfl) (wantedq (by kernel_rfl)) (f := 34) (args := #[vs 3, vs 13, vs 14]) (by kernel_rfl) ?_
  rw [e3, e14]
  refine hcall.mono ?_
  rintro e w4 ⟨sv', rfl, ho4, hg4, hor4⟩
  refine ⟨_, rfl, ?_⟩
  refine op_val (i := 16) (w := w4) (w' := w4) (v := sv') (by kernel_rfl) (wantedq (by kernel_rfl)) (by kernel_rfl) ?_
  have HO4 := Lib.hid ho4
  have HG4 := Lib.hid hg4
  have HOR4 := Lib.hid hor4
  clear hcall ho4 hg4 hor4 hd e3 e14
  refine hKK _ _ ?_
  refine wp_frame (⟨#[.agg #[.string ⟨#[]⟩, .slice (some ⟨b, 0, none⟩) 4 cap], bv, sv, .pointer (some ⟨W.heap.size, 0, none⟩), undef, undef, sv', undef, .pointer (some ⟨W.heap.size, 0, none⟩), .string ⟨#[]⟩, .bool false, undef, undef, undef, undef, undef, undef, undef, undef, undef, undef, undef, undef, undef, undef, undef, undef, undef, undef, undef, undef, undef, undef, undef, .agg #[.string ⟨#[]⟩, .slice (some ⟨b, 0, none⟩) 4 cap], str q, .bool true, vs 0, vs 1, vs 2, vs 3, vs 4, vs 5, vs 6, vs 7, vs 8, vs 9, vs 10, vs 11, vs 12, vs 13, vs 14, sv', undef, undef, undef, undef, undef, undef, undef, undef, undef, undef, undef, undef, undef, undef, undef, undef], []⟩ : Act) (by kernel_rfl) ?_
  go_wp2_with fail
  go_ret
  refine ⟨sv', rfl, HO4.out, by rw [← HR.out]; exact grew_trans HG1.out HG4.out (Or.inl HR.out.symm), ?_⟩
  rw [← HR.out]
  rcases HOR4.out with e | ⟨k, e, hk⟩
  · exact Or.inl (e.trans HR.out.symm)
  · exact Or.inr ⟨k, e, Nat.le_trans HS1.out hk⟩
end Go.Proofs.YtlpgoelcadmcfaaGreatDoor

namespace Go.Proofs.YtlpgoelcadmcfaaGreatDoor
open Go.RowKit

set_option maxHeartbeats 1000000
set_option maxRecDepth 100000

theorem FreeOk.more {w : World} {v : Value} {oc : List (List UInt8)} {N N' : Nat} (h : FreeOk w v oc N) (hN : N ≤ N') : FreeOk w v oc N' :=
  ⟨Nat.le_trans h.1 hN, fun W hW bv bd hb sv ns ho hne h1 h2 => h.2 W hW bv bd hb sv ns ho hne (by omega) (by omega)⟩

theorem free_two (w : World) (B : Nat) (q : List UInt8) (t : SX) (v : Value) (h : SV w B (.node [.atom q, t]) v) (hg : GoodX (.node [.atom q, t])) (hx : ¬ (q = Fm.wAll ∨ q = Fm.wEx)) (oc : List (List UInt8)) (N : Nat) (hN : oc.length ≤ N)
    (hk : ∀ v, SV w B t v → FreeOk w v oc N) : FreeOk w v oc (1 + N) := by
  have := free_node w B _ v h hg hx [[], oc] [0, N] rfl rfl (by simp) (fun j h1 h2 => by
    match j, h1 with
    | 0, _ => simp
    | 1, _ => exact hN) (fun j hj h1 => by
    match j, hj, h1 with
    | 1, _, _ => exact hk)
  simp only [List.tail_cons, List.flatten_cons, List.flatten_nil, List.append_nil, List.sum_cons, List.sum_nil, Nat.add_zero] at this
  exact this.more (by omega)
theorem free_three (w : World) (B : Nat) (q : List UInt8) (t u : SX) (v : Value) (h : SV w B (.node [.atom q, t, u]) v) (hg : GoodX (.node [.atom q, t, u])) (hx : ¬ (q = Fm.wAll ∨ q = Fm.wEx)) (oc od : List (List UInt8)) (N M : Nat) (hN : oc.length ≤ N) (hM : od.length ≤ M)
    (hk : ∀ v, SV w B t v → FreeOk w v oc N) (hk2 : ∀ v, SV w B u v → FreeOk w v od M) : FreeOk w v (oc ++ od) (1 + N + M) := by
  have := free_node w B _ v h hg hx [[], oc, od] [0, N, M] rfl rfl (by simp) (fun j h1 h2 => by
    match j, h1 with
    | 0, _ => simp
    | 1, _ => exact hN
    | 2, _ => exact hM) (fun j hj h1 => by
    match j, hj, h1 with
    | 1, _, _ => exact hk
    | 2, _, _ => exact hk2)
  simp only [List.tail_cons, List.flatten_cons, List.flatten_nil, List.append_nil, List.sum_cons, List.sum_nil, Nat.add_zero] at this
  exact this.more (by omega)

theorem free_ex {w : World} {B : Nat} : ∀ (e : Ex), Fm.exOk e → GoodX (Fm.exTree e) → ∀ v, SV w B (Fm.exTree e) v → FreeOk w v (Fm.occE e) (Fm.exAtoms e)
  | .num n, h, hg, v, hv => by
    simp only [Fm.exTree, SV] at hv
    subst hv
    have hg1 := hg.1
    have hg2 := hg.2
    simp only [Fm.exTree, Fm.sxOk, Fm.sxText] at hg1 hg2
    have hn : n ≤ 60 := h
    have := free_atom w (Fm.dec n) hg1.1 hg2
    rw [if_neg (by rw [(Fm.dec_letters (m := n) (by omega)).2.1]; simp)] at this
    exact this
  | .var x, h, hg, v, hv => by
    simp only [Fm.exTree, SV] at hv
    subst hv
    have hg1 := hg.1
    have hg2 := hg.2
    simp only [Fm.exTree, Fm.sxOk, Fm.sxText] at hg1 hg2
    have hx : Tm.nameOk x = true := h
    have := free_atom w x hg1.1 hg2
    rw [if_pos hx] at this
    exact this
  | .suc e, h, hg, v, hv => free_two w B _ _ v hv hg (by decide) _ _ (Fm.occE_len e) (free_ex e h (hg.part (by simp)))
  | .add a b, h, hg, v, hv => free_three w B _ _ _ v hv hg (by decide) _ _ _ _ (Fm.occE_len a) (Fm.occE_len b) (free_ex a h.1 (hg.part (by simp))) (free_ex b h.2 (hg.part (by simp)))
  | .mul a b, h, hg, v, hv => free_three w B _ _ _ v hv hg (by decide) _ _ _ _ (Fm.occE_len a) (Fm.occE_len b) (free_ex a h.1 (hg.part (by simp))) (free_ex b h.2 (hg.part (by simp)))

theorem free_fo {w : World} {B : Nat} : ∀ (f : Fo), Fm.okm f → GoodX (Fm.tree f) → ∀ v, SV w B (Fm.tree f) v → FreeOk w v (Fm.occ f) (Fm.atoms f)
  | .top, _, hg, v, hv => by
    simp only [Fm.tree, SV] at hv
    subst hv
    exact free_atom w Fm.wTop (by decide) (by decide)
  | .bot, _, hg, v, hv => by
    simp only [Fm.tree, SV] at hv
    subst hv
    exact free_atom w Fm.wBot (by decide) (by decide)
  | .eq a b, h, hg, v, hv => free_three w B _ _ _ v hv hg (by decide) _ _ _ _ (Fm.occE_len a) (Fm.occE_len b) (free_ex a h.1 (hg.part (by simp))) (free_ex b h.2 (hg.part (by simp)))
  | .and f g, h, hg, v, hv => free_three w B _ _ _ v hv hg (by decide) _ _ _ _ (Fm.occ_len f) (Fm.occ_len g) (free_fo f h.1 (hg.part (by simp))) (free_fo g h.2 (hg.part (by simp)))
  | .or f g, h, hg, v, hv => free_three w B _ _ _ v hv hg (by decide) _ _ _ _ (Fm.occ_len f) (Fm.occ_len g) (free_fo f h.1 (hg.part (by simp))) (free_fo g h.2 (hg.part (by simp)))
  | .imp f g, h, hg, v, hv => free_three w B _ _ _ v hv hg (by decide) _ _ _ _ (Fm.occ_len f) (Fm.occ_len g) (free_fo f h.1 (hg.part (by simp))) (free_fo g h.2.1 (hg.part (by simp)))
  | .all x n f, h, hg, v, hv => (free_bind w B _ x _ _ v hv hg (Or.inl rfl) _ _ (free_fo f h.2.2.2 (hg.part (by simp))) (Fm.occ_len f)).more (by simp only [Fm.atoms]; omega)
  | .ex x n f, h, hg, v, hv => (free_bind w B _ x _ _ v hv hg (Or.inr rfl) _ _ (free_fo f h.2.2.2 (hg.part (by simp))) (Fm.occ_len f)).more (by simp only [Fm.atoms]; omega)
end Go.Proofs.YtlpgoelcadmcfaaGreatDoor

namespace Go.Proofs.YtlpgoelcadmcfaaGreatDoor
open Go.RowKit

set_option maxHeartbeats 4000000
set_option maxRecDepth 100000

section
variable {ops : Array Oper} {A : Act} {i : Nat} {w : World}
/-- The length of a row of texts. -/
theorem ruf_len {x : Operand} {ao : Option Addr} {n c : Nat} (hop : (opAt ops i).op = .call { callee := .builtin .len, args := #[x], argTypes := #[48] }) (hx : A.eval x = .slice ao n c) :
    (execOp A.eval (opAt ops i)).run Tryz.prog w = .ok (.value (.int .i64 n)) w := by
  have h : (Builtin.len_ #[48] (opAt ops i).type #[.slice ao n c]).run Tryz.prog w = .ok (.int .i64 n) w := by kernel_rfl
  unfold execOp
  generalize A.eval = E at *
  simp only [hop]
  simp [go_sem, hx, h]
end

theorem du_off {P : Program} {ops : Array Oper} {Q : Exit → Act → World → Prop} {A : Act} {i : Nat} {w : World} {K : Act → World → Prop} {p : Nat} {C B : World → Prop} {R : Nat → Value → World → Prop} {use : Nat → Option Nat}
    (hs : (ops[i]?).isSome = true) (hw : Region.wanted (opAt ops i) (yielded ops A.tmps) = false) (hB : B w) (hy : R i undef w) (hK : ∀ v w', StepU ops p C B R use i w w' → R i v w' → K (A.put (dstOf ops i) v) w') : OpDo P ops Q A i w K :=
  op_off hs hw (hK _ _ ⟨hB, fun _ h => h, fun _ _ _ _ _ h => h⟩ hy)

theorem grow_ext {q g : Nat} {o : Obj} {Y W W2 : World} (h : ExtQ q o Y W) (hg : W.grownBy W2 (some g)) (hgY : Y.heap.size ≤ g) (hq : q < Y.heap.size) : ExtQ q o Y W2 := by
  refine ⟨⟨hg.os.trans h.1.os, hg.tape.trans h.1.tape, hg.output.trans h.1.output, Nat.le_trans h.1.size hg.size, fun k hk hne => ?_⟩, fun _ => ?_⟩
  · rw [hg.block k (Nat.lt_of_lt_of_le hk h.1.size) (fun e => by injection e with e; omega)]
    exact h.1.block k hk hne
  · rw [hg.block q (Nat.lt_of_lt_of_le hq h.1.size) (fun e => by injection e with e; omega)]
    exact h.2 hq

theorem own_form2 {w : World} {base : Nat} {v : Value} {xs : List (List UInt8)} {T : TypeId} (h : w.ownsRow base T 1 v xs.length (xs.map str)) : ∃ ao cap, v = .slice ao xs.length cap := by
  rcases h.2 with ⟨rfl, h1⟩ | ⟨g, cap, cur, rfl, _⟩
  · exact ⟨none, 0, by rw [h1]⟩
  · exact ⟨_, _, rfl⟩

def clT (Y : World) (q : Nat) (s : List UInt8) (ao : Option Addr) (n c L : Nat) (b0 : Bool) : List Yu := [.lit (.agg #[str s, .slice ao n c]), .lit (.bool true), .lit (.bool true), .lit (.agg #[str s, .slice ao n c]), .pred (fun v _ => ∃ g, v = .slice (some ⟨g, 0, none⟩) 0 0), .pred (fun v w => ∃ g, v = .slice (some ⟨g, 0, none⟩) 0 0 ∧ Y.heap.size ≤ g ∧ w.ownsRow Y.heap.size 9 1 v 0 []), .pred (fun v _ => ∃ ao cap, v = .slice ao L cap), .lit (.int .i64 (L : Nat)), .lit (.bool b0), .lit (.bool b0), .pred (fun _ w => w.heap[q]? = some (.cells #[str s, .slice ao n c] 31 (0, 0))), .lit (.bool b0)]
def clF (q : Nat) (s : List UInt8) (ao : Option Addr) (n c : Nat) : List Yu := [.lit (.agg #[str s, .slice ao n c]), .lit (.bool false), .lit (.bool false), .free, .free, .free, .free, .free, .free, .lit (.bool false), .pred (fun _ w => w.heap[q]? = some (.cells #[str s, .slice ao n c] 31 (0, 0))), .lit (.bool false)]
def clU : Nat → Option Nat
  | 5 => some 6
  | _ => none

theorem clT_keep {Y : World} {q : Nat} {s : List UInt8} {ao : Option Addr} {n c L : Nat} {b0 : Bool} : ∀ y ∈ clT Y q s ao n c L b0, keepsU After y := by
  intro y hy
  simp only [clT, List.mem_cons, List.not_mem_nil, or_false] at hy
  rcases hy with rfl | rfl | rfl | rfl | rfl | rfl | rfl | rfl | rfl | rfl | rfl | rfl
  case inr.inr.inr.inr.inr.inl => exact fun v w w' h ⟨g, e, hg, hh⟩ => ⟨g, e, hg, row_after hh h⟩
  case inr.inr.inr.inr.inr.inr.inr.inr.inr.inr.inl => exact fun v w w' h k => h.heap k
  all_goals first | exact trivial | exact fun v w w' h k => k

theorem clKeep6 {Y w w' : World} {q : Nat} {s : List UInt8} {ao : Option Addr} {n c L : Nat} {b0 : Bool} {j : Nat} {v : Value} (h5 : j ≠ 5) (h10 : j ≠ 10) (h : yus (clT Y q s ao n c L b0) j v w) : yus (clT Y q s ao n c L b0) j v w' := by
  match j, h5, h10 with
  | 0, _, _ => exact h
  | 1, _, _ => exact h
  | 2, _, _ => exact h
  | 3, _, _ => exact h
  | 4, _, _ => exact h
  | 6, _, _ => exact h
  | 7, _, _ => exact h
  | 8, _, _ => exact h
  | 9, _, _ => exact h
  | 11, _, _ => exact h
  | j + 12, _, _ => exact h
theorem clKeep10 {Y w w' : World} {q : Nat} {s : List UInt8} {ao : Option Addr} {n c L : Nat} {b0 : Bool} {j : Nat} {v : Value} (h5 : j ≠ 5) (h10 : j ≠ 10) (h : yus (clT Y q s ao n c L b0) j v w) : yus (clT Y q s ao n c L b0) j v w' := clKeep6 h5 h10 h
theorem clKeep10n {w w' : World} {q : Nat} {s : List UInt8} {ao : Option Addr} {n c : Nat} {j : Nat} {v : Value} (h10 : j ≠ 10) (h : yus (clF q s ao n c) j v w) : yus (clF q s ao n c) j v w' := by
  match j, h10 with
  | 0, _ => exact h
  | 1, _ => exact h
  | 2, _ => exact h
  | 3, _ => exact h
  | 4, _ => exact h
  | 5, _ => exact h
  | 6, _ => exact h
  | 7, _ => exact h
  | 8, _ => exact h
  | 9, _ => exact h
  | 11, _ => exact h
  | j + 12, _ => exact h

theorem wp_frame2 : True := trivial

/-- What l6fFormula answers, and what l6fFree does behind it. -/
def ClRead (w : World) (o : Option SX) (e : Ending) (w1 : World) : Prop :=
  ∃ (s : List UInt8) (ao : Option Addr) (n c : Nat) (b1 : Bool) (L : Nat), e = .returned (.tuple #[.agg #[str s, .slice ao n c], .bool b1]) ∧ After (w.alloc (.cells #[.string ⟨#[]⟩, .slice none 0 0] 31)) w1 ∧
    (∀ t, o = some t → SV w1 (w.heap.size + 1) t (.agg #[str s, .slice ao n c])) ∧ o.isSome = (b1 && decide (L = 0)) ∧
    (b1 = true → ∀ Y, After w1 Y → ∀ W, After Y W → ∀ g4 v5, W.ownsRow Y.heap.size 9 1 v5 0 [] → Calls Tryz.prog 34 #[.agg #[str s, .slice ao n c], .slice (some ⟨g4, 0, none⟩) 0 0, v5] W fun e W' => ∃ (v' : Value) (xs : List (List UInt8)), e = .returned v' ∧ xs.length = L ∧ W'.ownsRow Y.heap.size 9 1 v' xs.length (xs.map str) ∧ W.grownBy W' v5.ownBlock)

theorem s_closed_core (w : World) (l : List UInt8) (o : Option SX)
   (hr : Calls Tryz.prog 21 #[str l] (w.alloc (.cells #[.string ⟨#[]⟩, .slice none 0 0] 31)) (ClRead w o)) : Calls Tryz.prog 23 #[str l] w (MFPost w o) := by
  have hq : (w.alloc (.cells #[.string ⟨#[]⟩, .slice none 0 0] 31)).heap[w.heap.size]? = some (.cells #[str [], .slice none 0 0] 31 (0, 0)) := heap_top _ _
  unfold ClRead at hr
  go_enter Tryz.func23, Tryz.ntmps23
  go_wp2_with fail
  refine hr.mono ?_
  rintro e w1 ⟨s, ao, n, c, b1, L, rfl, ha, hsv, ho, hfr⟩
  have HO := Lib.hid ho
  have HA := Lib.hid ha
  have HS := Lib.hid hsv
  have HQ0 := Lib.hid (ha.heap hq)
  have HF0 := Lib.hid hfr
  have HNE : Hid (w1.heap.size ≠ w.heap.size) := by show _ ≠ _; have := (Array.getElem?_eq_some_iff.1 HQ0.out).1; omega
  have HQ1 : Hid (w.heap.size < w1.heap.size) := (Array.getElem?_eq_some_iff.1 HQ0.out).1
  clear hr ha hq hsv ho hfr
  go_wp2_with fail
  rename_i KK hKK
  obtain ⟨Y, hY⟩ : ∃ Y, Y = w1.alloc (.cells #[.string ⟨s.toArray⟩, .slice ao n c] 31) := ⟨_, rfl⟩
  rw [← hY]
  have HYA : Hid (After w1 Y) := by show After _ _; rw [hY]; exact After.new _ _
  have HT : Hid (Y.drew.heap[w1.heap.size]? = some (.cells #[str s, .slice ao n c] 31 (0, 0))) := by show Y.heap[_]? = _; rw [hY]; exact heap_top _ _
  have HQ : Hid (Y.drew.heap[w.heap.size]? = some (.cells #[str [], .slice none 0 0] 31 (0, 0))) := HYA.out.heap HQ0.out
  have HQL : Hid (w.heap.size < Y.drew.heap.size) := Nat.lt_of_lt_of_le HQ1.out HYA.out.size
  have HX : Hid (∀ W, ExtQ w.heap.size (.cells #[str s, .slice ao n c] 31 (0, 0)) Y.drew W → ExtQ w.heap.size (.cells #[str s, .slice ao n c] 31 (0, 0)) w1 W) := fun W hW => (ExtQ.of (HYA.out.trans (After.refl Y).drew)).trans _ _ _ hW
  clear hY
  cases b1 with
  | false =>
    refine wp_region_use_tail (m := 11) (k := 1) (f := 12) (by kernel_rfl) (by kernel_rfl) (by kernel_rfl) (by kernel_rfl) (fun _ => none) (by kernel_rfl)
      10 (After Y.drew) (ExtQ w.heap.size (.cells #[str s, .slice ao n c] 31 (0, 0)) Y.drew) (yus (clF w.heap.size s ao n c)) (After.refl _) (ExtQ.refl _ _ _) (lt11 ?_ ?_ ?_ ?_ ?_ ?_ ?_ ?_ ?_ ?_ ?_) ?_
    · intro vs W hB hC hd K hK
      exact du_val (by kernel_rfl) (wantedq (by kernel_rfl)) (rq_tree (x := .tmp 4) (u := .pointer (some ⟨w1.heap.size, 0, none⟩)) (b := w1.heap.size) (k := 0) (by kernel_rfl) (by kernel_rfl) rfl (cell_of_heap (i := 0) (hB.heap HT.out HNE.out)) (cell_of_heap (i := 1) (hB.heap HT.out HNE.out))) hB rfl hK
    · intro vs W hB hC hd K hK
      exact du_val (by kernel_rfl) (wantedq (by kernel_rfl)) (by kernel_rfl) hB rfl hK
    · intro vs W hB hC hd K hK
      exact du_val (u := vs 1) (by kernel_rfl) (wantedq (by kernel_rfl)) (by kernel_rfl) hB (hd 1 (by kernel_rfl)) hK
    · intro vs W hB hC hd K hK
      exact du_off (by kernel_rfl) (wantedq_off (j := 2) (b := true) (c := false) (u := vs 2) (by kernel_rfl) (by kernel_rfl) (hd 2 (by kernel_rfl)) (by decide)) hB trivial hK
    · intro vs W hB hC hd K hK
      exact du_off (by kernel_rfl) (wantedq_off (j := 2) (b := true) (c := false) (u := vs 2) (by kernel_rfl) (by kernel_rfl) (hd 2 (by kernel_rfl)) (by decide)) hB trivial hK
    · intro vs W hB hC hd K hK
      exact du_off (by kernel_rfl) (wantedq_off (j := 2) (b := true) (c := false) (u := vs 2) (by kernel_rfl) (by kernel_rfl) (hd 2 (by kernel_rfl)) (by decide)) hB trivial hK
    · intro vs W hB hC hd K hK
      exact du_off (by kernel_rfl) (wantedq_off (j := 2) (b := true) (c := false) (u := vs 2) (by kernel_rfl) (by kernel_rfl) (hd 2 (by kernel_rfl)) (by decide)) hB trivial hK
    · intro vs W hB hC hd K hK
      exact du_off (by kernel_rfl) (wantedq_off (j := 2) (b := true) (c := false) (u := vs 2) (by kernel_rfl) (by kernel_rfl) (hd 2 (by kernel_rfl)) (by decide)) hB trivial hK
    · intro vs W hB hC hd K hK
      exact du_off (by kernel_rfl) (wantedq_off (j := 2) (b := true) (c := false) (u := vs 2) (by kernel_rfl) (by kernel_rfl) (hd 2 (by kernel_rfl)) (by decide)) hB trivial hK
    · intro vs W hB hC hd K hK
      exact du_val (by kernel_rfl) (wantedq (by kernel_rfl)) (rq_pick (c := .tmp 13) (x := .tmp 19) (y := .const (.bool false)) (u := vs 2) (p := false) (r := .bool false) (by kernel_rfl) (by kernel_rfl) (hd 2 (by kernel_rfl)) (by rw [if_neg (by decide)]; rfl)) hB rfl hK
    · intro vs W hB hC hd K hK
      obtain ⟨p0, p1, hp⟩ := two_of (hB.cells HQ.out)
      have e0 : vs 0 = .agg #[str s, .slice ao n c] := (hd 0 (by kernel_rfl))
      obtain ⟨W2, hrun, hext, hfin⟩ := rq_store (ops := _) (A := frame _ _ vs) (i := 10) (x := .tmp 2) (y := .tmp 11) (u := .pointer (some ⟨w.heap.size, 0, none⟩)) (v := vs 0) (b := w.heap.size) (by kernel_rfl) (by kernel_rfl) rfl (by kernel_rfl) e0 hp rfl rfl
      refine op_skip (by kernel_rfl) (wantedq (by kernel_rfl)) hrun (hK _ _ ⟨hB.trans _ _ _ hext, fun h => absurd rfl h, fun j v hj hdj hu h => ?_⟩ hfin)
      exact clKeep10n hj h
    intro vs W hB hd
    have e9 : vs 9 = .bool false := hd 9 (by decide) (fun c hc => by cases hc)
    have hst : W.heap[w.heap.size]? = some (.cells #[str s, .slice ao n c] 31 (0, 0)) := hd 10 (by decide) (fun c hc => by cases hc)
    refine op_val (i := 11) (w := W) (w' := W) (v := vs 9) (by kernel_rfl) (wantedq (by kernel_rfl)) (by kernel_rfl) ?_
    refine hKK _ _ ?_
    refine wp_frame (⟨#[str l, undef, .pointer (some ⟨w.heap.size, 0, none⟩), vs 9, .pointer (some ⟨w1.heap.size, 0, none⟩), .bool false, .tuple #[.agg #[str s, .slice ao n c], .bool false], str l, .tuple #[.agg #[str s, .slice ao n c], .bool false], .agg #[str s, .slice ao n c], .bool false, vs 0, vs 1, vs 2, vs 3, vs 4, vs 5, vs 6, vs 7, vs 8, vs 9], []⟩ : Act) (by kernel_rfl) ?_
    rw [e9]
    have HFIN : Hid (After w W ∧ ∀ t, o = some t → SV W w.heap.size t (.agg #[str s, .slice ao n c])) := fin_form HA.out HS.out (HX.out W hB)
    have k0 : W.cell? ⟨w.heap.size, 0, none⟩ = some (str s) := cell_of_heap (i := 0) hst
    have k1 : W.cell? ⟨w.heap.size, 1, none⟩ = some (.slice ao n c) := cell_of_heap (i := 1) hst
    clear hst hB hd e9
    go_wp2_with fail
    exact bodyPost_ret (v := .tuple #[.agg #[str s, .slice ao n c], .bool false]) (by simp [results, Tryz.results23, go_sem, k0, k1]) rfl
      ⟨s, ao, n, c, by rw [HO.out]; rfl, HFIN.out.1, HFIN.out.2⟩
  | true =>
    obtain ⟨b0, hb0⟩ : ∃ b0 : Bool, (((L : Nat) : Int) == 0) = b0 := ⟨_, rfl⟩
    have HB0 : Hid (decide (L = 0) = b0) := by show _ = _; rw [← hb0]; by_cases h : L = 0 <;> simp [h]
    have HFR : Hid (∀ W, After Y.drew W → ∀ g4 v5, W.ownsRow Y.heap.size 9 1 v5 0 [] → Calls Tryz.prog 34 #[.agg #[str s, .slice ao n c], .slice (some ⟨g4, 0, none⟩) 0 0, v5] W fun e W' => ∃ (v' : Value) (xs : List (List UInt8)), e = .returned v' ∧ xs.length = L ∧ W'.ownsRow Y.heap.size 9 1 v' xs.length (xs.map str) ∧ W.grownBy W' v5.ownBlock) := fun W hW => HF0.out rfl Y HYA.out W ((After.refl Y).drew.trans hW)
    have HL : Hid (∀ y ∈ clT Y w.heap.size s ao n c L b0, keepsU After y) := clT_keep
    clear HF0
    refine wp_region_use_tail (m := 11) (k := 1) (f := 12) (by kernel_rfl) (by kernel_rfl) (by kernel_rfl) (by kernel_rfl) clU (by kernel_rfl)
      10 (After Y.drew) (ExtQ w.heap.size (.cells #[str s, .slice ao n c] 31 (0, 0)) Y.drew) (yus (clT Y w.heap.size s ao n c L b0)) (After.refl _) (ExtQ.refl _ _ _) (lt11 ?_ ?_ ?_ ?_ ?_ ?_ ?_ ?_ ?_ ?_ ?_) ?_
    · intro vs W hB hC hd K hK
      exact du_val (by kernel_rfl) (wantedq (by kernel_rfl)) (rq_tree (x := .tmp 4) (u := .pointer (some ⟨w1.heap.size, 0, none⟩)) (b := w1.heap.size) (k := 0) (by kernel_rfl) (by kernel_rfl) rfl (cell_of_heap (i := 0) (hB.heap HT.out HNE.out)) (cell_of_heap (i := 1) (hB.heap HT.out HNE.out))) hB rfl hK
    · intro vs W hB hC hd K hK
      exact du_val (by kernel_rfl) (wantedq (by kernel_rfl)) (by kernel_rfl) hB rfl hK
    · intro vs W hB hC hd K hK
      exact du_val (u := vs 1) (by kernel_rfl) (wantedq (by kernel_rfl)) (by kernel_rfl) hB (hd 1 (by kernel_rfl)) hK
    · intro vs W hB hC hd K hK
      exact du_val (by kernel_rfl) (wantedq_on (j := 2) (b := true) (u := vs 2) (by kernel_rfl) (by kernel_rfl) (hd 2 (by kernel_rfl))) (rq_tree (x := .tmp 4) (u := .pointer (some ⟨w1.heap.size, 0, none⟩)) (b := w1.heap.size) (k := 0) (by kernel_rfl) (by kernel_rfl) rfl (cell_of_heap (i := 0) (hB.heap HT.out HNE.out)) (cell_of_heap (i := 1) (hB.heap HT.out HNE.out))) hB rfl hK
    · intro vs W hB hC hd K hK
      exact du_new (by kernel_rfl) (wantedq_on (j := 2) (b := true) (u := vs 2) (by kernel_rfl) (by kernel_rfl) (hd 2 (by kernel_rfl))) (ruf_row0 (by kernel_rfl)) ⟨hB.trans _ _ _ (ExtQ.of (After.new W _)), fun _ h => h.alloc _, fun j v _ _ _ h => yus_keep HL.out (After.new W _) j v h⟩ ⟨_, rfl⟩ hK
    · intro vs W hB hC hd K hK
      exact du_new (by kernel_rfl) (wantedq_on (j := 2) (b := true) (u := vs 2) (by kernel_rfl) (by kernel_rfl) (hd 2 (by kernel_rfl))) (ruf_row0 (by kernel_rfl)) ⟨hB.trans _ _ _ (ExtQ.of (After.new W _)), fun _ h => h.alloc _, fun j v _ _ _ h => yus_keep HL.out (After.new W _) j v h⟩ ⟨_, rfl, hB.1.size, rfl, Or.inr ⟨W.heap.size, 0, #[], rfl, hB.1.size, heap_top _ _, Nat.le_refl _, Nat.zero_le _, rfl, rfl⟩⟩ hK
    · intro vs W hB hC hd K hK
      have hcW := hC (Or.inr (by kernel_rfl))
      have e3 : vs 3 = .agg #[str s, .slice ao n c] := (hd 3 (by kernel_rfl))
      obtain ⟨g4, e4⟩ := (hd 4 (by kernel_rfl))
      obtain ⟨g5, e5, hg5, ho5⟩ := (hd 5 (by kernel_rfl))
      have hcall := HFR.out W hcW g4 (vs 5) ho5
      refine op_call (f := 34) (args := #[vs 3, vs 4, vs 5]) (by kernel_rfl) (wantedq_on (j := 2) (b := true) (u := vs 2) (by kernel_rfl) (by kernel_rfl) (hd 2 (by kernel_rfl))) (by kernel_rfl) ?_
      rw [e3, e4]
      refine hcall.mono ?_
      rintro e W2 ⟨v2, xs, rfl, hxs, ho2, hg2⟩
      rw [e5] at hg2
      have hg3 : W.grownBy W2 (some g5) := hg2
      refine ⟨v2, rfl, hK _ _ ⟨grow_ext hB hg3 hg5 HQL.out, fun _ h => h.grown hg3 h.size (fun k hk => by obtain rfl := Option.some.inj hk; exact hg5), fun j v hj hdj hu h => ?_⟩ (by rw [← hxs]; exact own_form2 ho2)⟩
      exact clKeep6 (fun e => by rw [e] at hu; exact (hu 6 rfl).1 rfl) (fun e => by rw [e] at hdj; rw [show depsOn _ 10 6 = true by kernel_rfl] at hdj; cases hdj) h
    · intro vs W hB hC hd K hK
      obtain ⟨ao6, cap6, e6⟩ := (hd 6 (by kernel_rfl))
      exact du_val (by kernel_rfl) (wantedq_on (j := 2) (b := true) (u := vs 2) (by kernel_rfl) (by kernel_rfl) (hd 2 (by kernel_rfl))) (ruf_len (x := .tmp 17) (by kernel_rfl) (Eq.trans (by kernel_rfl : _ = vs 6) e6)) hB rfl hK
    · intro vs W hB hC hd K hK
      exact du_val (by kernel_rfl) (wantedq_on (j := 2) (b := true) (u := vs 2) (by kernel_rfl) (by kernel_rfl) (hd 2 (by kernel_rfl))) (rq_eql (T := 3) (T' := 3) (x := .tmp 18) (y := .const (.int .i64 0)) (u := vs 7) (u' := .int .i64 0) (n := (L : Nat)) (m := 0) (by kernel_rfl) (by kernel_rfl) (hd 7 (by kernel_rfl)) (by kernel_rfl) rfl hb0) hB rfl hK
    · intro vs W hB hC hd K hK
      exact du_val (by kernel_rfl) (wantedq (by kernel_rfl)) (rq_pick (c := .tmp 13) (x := .tmp 19) (y := .const (.bool false)) (u := vs 2) (p := true) (r := .bool b0) (by kernel_rfl) (by kernel_rfl) (hd 2 (by kernel_rfl)) (by rw [if_pos rfl]; exact Eq.trans (by kernel_rfl : _ = vs 8) (hd 8 (by kernel_rfl)))) hB rfl hK
    · intro vs W hB hC hd K hK
      obtain ⟨p0, p1, hp⟩ := two_of (hB.cells HQ.out)
      have e0 : vs 0 = .agg #[str s, .slice ao n c] := (hd 0 (by kernel_rfl))
      obtain ⟨W2, hrun, hext, hfin⟩ := rq_store (ops := _) (A := frame _ _ vs) (i := 10) (x := .tmp 2) (y := .tmp 11) (u := .pointer (some ⟨w.heap.size, 0, none⟩)) (v := vs 0) (b := w.heap.size) (by kernel_rfl) (by kernel_rfl) rfl (by kernel_rfl) e0 hp rfl rfl
      refine op_skip (by kernel_rfl) (wantedq (by kernel_rfl)) hrun (hK _ _ ⟨hB.trans _ _ _ hext, fun h => absurd rfl h, fun j v hj hdj hu h => ?_⟩ hfin)
      exact clKeep10 (fun e => by rw [e] at hu; have h3 := (hu 6 rfl).2; exact absurd h3 (by rw [show depsOn _ 10 6 = true by kernel_rfl]; decide)) hj h
    intro vs W hB hd
    have e9 : vs 9 = .bool b0 := hd 9 (by decide) (fun c hc => by cases hc)
    have hst : W.heap[w.heap.size]? = some (.cells #[str s, .slice ao n c] 31 (0, 0)) := hd 10 (by decide) (fun c hc => by cases hc)
    refine op_val (i := 11) (w := W) (w' := W) (v := vs 9) (by kernel_rfl) (wantedq (by kernel_rfl)) (by kernel_rfl) ?_
    refine hKK _ _ ?_
    refine wp_frame (⟨#[str l, undef, .pointer (some ⟨w.heap.size, 0, none⟩), vs 9, .pointer (some ⟨w1.heap.size, 0, none⟩), .bool true, .tuple #[.agg #[str s, .slice ao n c], .bool true], str l, .tuple #[.agg #[str s, .slice ao n c], .bool true], .agg #[str s, .slice ao n c], .bool true, vs 0, vs 1, vs 2, vs 3, vs 4, vs 5, vs 6, vs 7, vs 8, vs 9], []⟩ : Act) (by kernel_rfl) ?_
    rw [e9]
    have HFIN : Hid (After w W ∧ ∀ t, o = some t → SV W w.heap.size t (.agg #[str s, .slice ao n c])) := fin_form HA.out HS.out (HX.out W hB)
    have k0 : W.cell? ⟨w.heap.size, 0, none⟩ = some (str s) := cell_of_heap (i := 0) hst
    have k1 : W.cell? ⟨w.heap.size, 1, none⟩ = some (.slice ao n c) := cell_of_heap (i := 1) hst
    clear hst hB hd e9
    go_wp2_with fail
    exact bodyPost_ret (v := .tuple #[.agg #[str s, .slice ao n c], .bool b0]) (by simp [results, Tryz.results23, go_sem, k0, k1]) rfl
      ⟨s, ao, n, c, by rw [HO.out, HB0.out]; rfl, HFIN.out.1, HFIN.out.2⟩

theorem s_closedf (w : World) (l : List UInt8) : Calls Tryz.prog 23 #[str l] w (MFPost w (Fm.mclosed l)) := by
  refine s_closed_core w l _ ((s_form (w.alloc (.cells #[.string ⟨#[]⟩, .slice none 0 0] 31)) l).mono ?_)
  rintro e w1 ⟨s, ao, n, c, rfl, ha, hv⟩
  rw [show (w.alloc (.cells #[.string ⟨#[]⟩, .slice none 0 0] 31)).heap.size = w.heap.size + 1 by simp] at hv
  cases hp : Fm.parse l with
  | none =>
    have hc : Fm.mclosed l = none := by unfold Fm.mclosed; rw [hp]
    rw [hc]
    have hm : Fm.mform l = none := by rw [Fm.mform_eq, hp]; rfl
    refine ⟨s, ao, n, c, false, 0, by rw [hm]; rfl, ha, (fun t ht => by cases ht), rfl, (fun h => by cases h)⟩
  | some f =>
    have hc : Fm.mclosed l = if Fm.occ f = [] then some (Fm.tree f) else none := by unfold Fm.mclosed; rw [hp]
    rw [hc]
    have hm : Fm.mform l = some (Fm.tree f) := by rw [Fm.mform_eq, hp]; rfl
    have hsv := hv _ hm
    obtain ⟨hl, hok, hat⟩ := Fm.parse_iff.1 hp
    obtain ⟨hom, _⟩ := (Fm.ok_iff f 1 (by omega) (by omega)).1 hok
    obtain ⟨t1, t2, t3⟩ := Fm.tree_ok f hom
    have hgood : GoodX (Fm.tree f) := ⟨t1, by rw [Fm.tree_text]; omega⟩
    refine ⟨s, ao, n, c, true, (Fm.free f).length, by rw [hm]; rfl, ha, fun t ht => ?_, ?_, fun _ Y hY W hW g4 v5 ho5 => ?_⟩
    · split at ht
      · obtain rfl := Option.some.inj ht; exact hsv
      · cases ht
    · by_cases h0 : Fm.occ f = []
      · rw [if_pos h0, (Fm.free_nil f).2 h0]; rfl
      · rw [if_neg h0]
        have : (Fm.free f).length ≠ 0 := fun e => h0 ((Fm.free_nil f).1 (List.length_eq_zero_iff.1 e))
        simp [this]
    · have hfree := free_fo (w := Y) f hom hgood _ ((hsv.after hY))
      refine (hfree.2 W hW _ [] ⟨g4, 0, rfl, Or.inl rfl⟩ v5 [] ho5 (Or.inl rfl) (by simp; omega) (by simp; omega)).mono ?_
      rintro e W' ⟨v', rfl, h1, h2, _⟩
      rw [Fm.outOf_nil] at h1
      exact ⟨v', _, rfl, rfl, h1, h2⟩
end Go.Proofs.YtlpgoelcadmcfaaGreatDoor
