/-
  The walk of the law of TrackIs.
-/
import Derived.Test.YtipmgfbncfkmiaaPkZ
import Derived.Test.YtipmgfbncfkmiaaPkW
import Derived.Test.YtipmgfbncfkmiaaRegP
namespace Go.Proofs.Ytipmgfbncfkmiaa
open Go.RowKit

set_option maxHeartbeats 4000000
set_option maxRecDepth 100000

theorem dlit_t {x0 x1 x2 x3 x4 x5 x6 x7 x8 x9 x10 x11 x12 x13 x14 x15 x16 x17 x18 x19 x20 x21 x22 x23 x24 x25 x26 x27 x28 x29 x30 x31 x32 x33 x34 x35 x36 x37 x38 x39 x40 x41 x42 x43 x44 x45 x46 x47 x48 x49 x50 x51 x52 x53 x54 x55 x56 x57 x58 x59 x60 x61 x62 x63 x64 x65 x66 x67 u : Value} {d : List Deferred} {vs : Nat → Value} : (putL ⟨#[x0, x1, x2, x3, x4, x5, x6, x7, x8, x9, x10, x11, x12, x13, x14, x15, x16, x17, x18, x19, x20, x21, x22, x23, x24, x25, x26, x27, x28, x29, x30, x31, x32, x33, x34, x35, x36, x37, x38, x39, x40, x41, x42, x43, x44, x45, x46, x47, x48, x49, x50, x51, x52, x53, x54, x55, x56, x57, x58, x59, x60, x61, x62, x63, x64, x65, x66, x67], d⟩ [some 31, some 32, some 33, some 34, some 35, some 36, some 37, some 38, some 10] vs 0).put (some 10) u = ⟨#[x0, x1, x2, x3, x4, x5, x6, x7, x8, x9, u, x11, x12, x13, x14, x15, x16, x17, x18, x19, x20, x21, x22, x23, x24, x25, x26, x27, x28, x29, x30, vs 0, vs 1, vs 2, vs 3, vs 4, vs 5, vs 6, vs 7, x39, x40, x41, x42, x43, x44, x45, x46, x47, x48, x49, x50, x51, x52, x53, x54, x55, x56, x57, x58, x59, x60, x61, x62, x63, x64, x65, x66, x67], d⟩ := by kernel_rfl

def Sp.ints (n : Nat) (ns : List Int) : Sp := ⟨fun v w => ∃ g, v = .slice (some ⟨g, 0, none⟩) n n ∧ HoldI w g n ns, fun _ _ _ ⟨g, e, h⟩ ha => ⟨g, e, h.later ha⟩⟩

theorem holdI_row {W : World} {g n : Nat} {ns : List Int} (h : HoldI W g n ns) (hn : ns.length = n) (hs : n ≤ 1048576) : RowU 0 W (.slice (some ⟨g, 0, none⟩) n n) ns.length (fun j => .int .i64 (ns.getD j 0)) := by
  subst hn
  exact ⟨_, _, rfl, fun j hj => ⟨g, 0, rfl, ⟨Nat.zero_le _, Nat.le_refl _, by omega⟩, h.2 j hj⟩⟩

theorem lens_bigT {a : List (List (List UInt8))} (h : Lens 1048576 a) : Lens 1000000000 a := ⟨by have := h.1; omega, fun ns hs => ⟨by have := (h.2 ns hs).1; omega, fun s hh => by have := (h.2 ns hs).2 s hh; omega⟩⟩

theorem law_trackIs (w : World) (sa sb sv : Value) (a b : List (List (List UInt8))) (n : Nat) (Z : Nat → Int) (l : List UInt8) (ha : SSU 0 w sa a) (hb : SSU 0 w sb b) (hla : Lens 9223372036854775807 a) (hlb : Lens 9223372036854775807 b)
    (h : ArgI w sv n Z) (hn : n ≤ 9223372036854775807) :
    Calls Try.prog 14 #[.agg #[sa], .agg #[sb], sv, str l] w fun e w' => e = .returned (.bool true) ∧ After w w' := by
  have hsz : (⟨l.toArray⟩ : ByteArray).size = l.length := by show l.toArray.size = _; simp
  obtain ⟨aov, capv, hsv⟩ : ∃ ao cap, sv = .slice ao n cap := by
    rcases h with ⟨ao, cap, rfl, rfl⟩ | ⟨b, off, cap, rfl, _⟩
    · exact ⟨_, _, rfl⟩
    · exact ⟨_, _, rfl⟩
  have hsza := fun W (hW : After w W) => l_szAsm W sa a (ha.later hW) hla 1048576 (by omega) (by omega)
  have hszb := fun W (hW : After w W) => l_szAsm W sb b (hb.later hW) hlb
  have hta := fun (h : Lens 1048576 a) W (hW : After w W) => l_toAsm W sa a (ha.later hW) h
  have htb := fun (h : Lens 1048576 b) W (hW : After w W) => l_toAsm W sb b (hb.later hW) h
  obtain ⟨p1, k1, rfl⟩ := ha.form
  obtain ⟨p2, k2, rfl⟩ := hb.form
  obtain ⟨na, hna⟩ : ∃ n, n = a.length := ⟨_, rfl⟩
  obtain ⟨nb, hnb⟩ : ∃ m, m = b.length := ⟨_, rfl⟩
  rw [← hna] at hsza hta ⊢
  rw [← hnb] at hszb htb ⊢
  obtain ⟨os, hos⟩ : ∃ os : List Obj, os = [.cells #[.slice p1 na k1] 54, .cells #[.slice p2 nb k2] 54] := ⟨_, rfl⟩
  have hX : allocL w os = (w.alloc (.cells #[.slice p1 na k1] 54)).alloc (.cells #[.slice p2 nb k2] 54) := by rw [hos]; rfl
  have hA0 : After w (allocL w os) := allocL_below w os
  have hba : (allocL w os).heap[w.heap.size]? = some (.cells #[.slice p1 na k1] 54 (0, 0)) := by have := allocL_heap w os 0 (by rw [hos]; simp); simpa [hos] using this
  have hbb : (allocL w os).heap[w.heap.size + 1]? = some (.cells #[.slice p2 nb k2] 54 (0, 0)) := by have := allocL_heap w os 1 (by rw [hos]; simp); simpa [hos] using this
  rw [hX] at hA0 hba hbb
  have HA0 := Lib.hid hA0
  have HN := Lib.hid hna
  have HM := Lib.hid hnb
  have H := Lib.hid h
  clear hX hos hA0 h hna hnb
  by_cases hbign : (1048576 : Int) < (n : Int)
  · subst hsv
    clear hsza hszb hta htb hba hbb
    go_enter Try.func14, Try.ntmps14
    go_wp2_with fail
    go_ret
    exact ⟨rfl, HA0.out⟩
  by_cases hbig : (1048576 : Int) < (l.length : Int)
  · subst hsv
    clear hsza hszb hta htb hba hbb
    go_enter Try.func14, Try.ntmps14
    go_wp2_with fail
    go_ret
    exact ⟨rfl, HA0.out⟩
  obtain ⟨ns, hns⟩ : ∃ ns, ns = (List.range n).map Z := ⟨_, rfl⟩
  have hlen : ns.length = n := by rw [hns]; simp
  have hget : ∀ j, j < n → ns[j]?.getD 0 = Z j := fun j hj => by rw [hns]; simp [hj]
  have hto : ∀ W, After w W → Calls Try.prog 58 #[sv] W fun e w' => ∃ g, e = .returned (.slice (some ⟨g, 0, none⟩) n n) ∧ HoldI w' g n ns ∧ After W w' := fun W hW => by
    refine li_to W sv n Z ns ?_ hlen hget (by omega)
    rcases H.out with h | ⟨b, off, cap, e, hc⟩
    · exact Or.inl h
    · exact Or.inr ⟨b, off, cap, e, fun j hj => hW.cell (hc j hj)⟩
  have he : ∀ W g g', HoldI W g n ns → HoldI W g' n ns → Calls Try.prog 61 #[.slice (some ⟨g, 0, none⟩) n n, .slice (some ⟨g', 0, none⟩) n n] W fun e w' => e = .returned (.bool true) ∧ After W w' := fun W g g' hg hg' =>
    li_eqv W g g' 0 0 n n n (fun j => ns[j]?.getD 0) (by omega) hg.2 hg'.2
  have hsp : Lens 1048576 a → Lens 1048576 b → ∀ W t1 t2 g, SSU 0 W t1 a → SSU 0 W t2 b → HoldI W g n ns → Calls Try.prog 56 #[.agg #[t1], .agg #[t2], .slice (some ⟨g, 0, none⟩) n n, str l] W fun e w' => e = .returned (.bool (Asm.pTrackIs a b ns l)) ∧ After W w' := fun x y W t1 t2 g h1 h2 h3 =>
    spec_trackIs W t1 t2 _ a b ns l h1 h2 x y (holdI_row h3 hlen (by omega)) (by omega) (by omega)
  have hip : Lens 1048576 a → Lens 1048576 b → ∀ W t1 t2 g, SSU 0 W t1 a → SSU 0 W t2 b → HoldI W g n ns → Calls Try.prog 59 #[.agg #[t1], .agg #[t2], .slice (some ⟨g, 0, none⟩) n n, str l] W fun e w' => e = .returned (.bool (Asm.pTrackIs a b ns l)) ∧ After W w' := fun x y W t1 t2 g h1 h2 h3 =>
    impl_trackIs W t1 t2 _ a b ns l h1 h2 (lens_bigT x) (lens_bigT y) (holdI_row h3 hlen (by omega)) (by omega) (by omega)
  generalize Asm.pTrackIs a b ns l = bb at hsp hip
  have HTO := Lib.hid hto
  have HE := Lib.hid he
  have HSP0 := Lib.hid hsp
  have HIP0 := Lib.hid hip
  have HSZB := Lib.hid hszb
  have HTA0 := Lib.hid hta
  have HTB0 := Lib.hid htb
  have HBA := Lib.hid hba
  have HBB := Lib.hid hbb
  have hc := hsza _ HA0.out
  obtain ⟨o0, o1, o2⟩ := one_facts hba (After.refl _)
  subst hsv
  clear hto he hsp hip hszb hta htb hba hbb hsza hget hlen hns H ha hb hla hlb
  go_enter Try.func14, Try.ntmps14
  go_wp2_with fail
  refine hc.mono ?_
  rintro e w1 ⟨⟨r, rfl, hr1, hr2, hr⟩, hb1⟩
  have HRA := Lib.hid hr
  have HA1 := Lib.hid (After.trans HA0.out hb1)
  clear hc hr
  by_cases hneg : r < 0
  · clear o0 o1 o2
    go_wp2_with fail
    go_ret
    exact ⟨rfl, HA1.out⟩
  have HLA := Lib.hid (HRA.out (by omega))
  obtain ⟨q0, q1, q2⟩ := one_facts HBB.out hb1
  have hc2 := HSZB.out w1 HA1.out r (by omega) (by omega)
  clear o0 o1 o2
  go_wp2_with fail
  refine hc2.mono ?_
  rintro e w2 ⟨⟨r', rfl, hs1, hs2, hs⟩, hb2⟩
  have HRB := Lib.hid hs
  have HA2 := Lib.hid (After.trans HA1.out hb2)
  clear hc2 hs q0 q1 q2
  by_cases hneg2 : r' < 0
  · go_wp2_with fail
    go_ret
    exact ⟨rfl, HA2.out⟩
  have HLB := Lib.hid (HRB.out (by omega))
  have HB2 := Lib.hid (After.trans hb1 hb2)
  have hxa : ∀ W, After w2 W → W.cell? ⟨w.heap.size, 0, none⟩ = some (.slice p1 na k1) := fun W hW => (one_facts HBA.out (HB2.out.trans hW)).1
  have hxb : ∀ W, After w2 W → W.cell? ⟨w.heap.size + 1, 0, none⟩ = some (.slice p2 nb k2) := fun W hW => (one_facts HBB.out (HB2.out.trans hW)).1
  have HXA := Lib.hid hxa
  have HXB := Lib.hid hxb
  have HTA : Hid (∀ W, After w2 W → Calls Try.prog 57 #[.agg #[.slice p1 na k1]] W fun e w' => ∃ sv', e = .returned (.agg #[sv']) ∧ SSU 0 w' sv' a ∧ After W w') := fun W hW => (HTA0.out HLA.out W (HA2.out.trans hW)).mono fun e w' ⟨s, h1, h2, h3⟩ => ⟨s, h1, h2.mono (Nat.zero_le _), h3⟩
  have HTB : Hid (∀ W, After w2 W → Calls Try.prog 57 #[.agg #[.slice p2 nb k2]] W fun e w' => ∃ sv', e = .returned (.agg #[sv']) ∧ SSU 0 w' sv' b ∧ After W w') := fun W hW => (HTB0.out HLB.out W (HA2.out.trans hW)).mono fun e w' ⟨s, h1, h2, h3⟩ => ⟨s, h1, h2.mono (Nat.zero_le _), h3⟩
  have HTI : Hid (∀ W, After w2 W → Calls Try.prog 58 #[.slice aov n capv] W fun e w' => ∃ g, e = .returned (.slice (some ⟨g, 0, none⟩) n n) ∧ HoldI w' g n ns ∧ After W w') := fun W hW => HTO.out W (HA2.out.trans hW)
  have HSP : Hid (∀ W t1 t2 g, SSU 0 W t1 a → SSU 0 W t2 b → HoldI W g n ns → _) := HSP0.out HLA.out HLB.out
  have HIP : Hid (∀ W t1 t2 g, SSU 0 W t1 a → SSU 0 W t2 b → HoldI W g n ns → _) := HIP0.out HLA.out HLB.out
  have hself := (After.refl w2).drew
  clear hb1 hb2 hxa hxb
  go_wp2_with fail
  rename_i KK hKK
  clear hneg hneg2
  refine wp_region_reg1 (n := 8) (by kernel_rfl) (by kernel_rfl) (by kernel_rfl) (by kernel_rfl) After After.refl (fun _ _ _ h g => h.trans g)
    (rl [Sp.lit (.agg #[.slice p1 na k1]), Sp.asm a, Sp.lit (.agg #[.slice p2 nb k2]), Sp.asm b, Sp.lit (.slice aov n capv), Sp.ints n ns, Sp.lit (str l), Sp.lit (.bool bb)]) rl_later (lt8 ?_ ?_ ?_ ?_ ?_ ?_ ?_ ?_) ?_
  · intro vs W hE hd K hK
    have hE' : After w2 W := hself.trans hE
    exact do_rp (v := .agg #[.slice p1 na k1]) (Sp.lit (.agg #[.slice p1 na k1])).p (by kernel_rfl) (wanted_of (by kernel_rfl)) (run_lda (x := .tmp 4) (by kernel_rfl) (by kernel_rfl) (HXA.out W hE')) (After.refl W) rfl hK
  · intro vs W hE hd K hK
    have hE' : After w2 W := hself.trans hE
    exact do_cp (Sp.asm a).p (by kernel_rfl) (wanted_of (by kernel_rfl)) (f := 57) (args := #[vs 0]) (by kernel_rfl) (by rw [show vs 0 = .agg #[.slice p1 na k1] from hd 0 (by kernel_rfl)]; exact (HTA.out W hE').mono fun e w' ⟨s, h1, h2, h3⟩ => ⟨_, h1, h3, ⟨s, rfl, h2⟩⟩) hK
  · intro vs W hE hd K hK
    have hE' : After w2 W := hself.trans hE
    exact do_rp (v := .agg #[.slice p2 nb k2]) (Sp.lit (.agg #[.slice p2 nb k2])).p (by kernel_rfl) (wanted_of (by kernel_rfl)) (run_lda (x := .tmp 5) (by kernel_rfl) (by kernel_rfl) (HXB.out W hE')) (After.refl W) rfl hK
  · intro vs W hE hd K hK
    have hE' : After w2 W := hself.trans hE
    exact do_cp (Sp.asm b).p (by kernel_rfl) (wanted_of (by kernel_rfl)) (f := 57) (args := #[vs 2]) (by kernel_rfl) (by rw [show vs 2 = .agg #[.slice p2 nb k2] from hd 2 (by kernel_rfl)]; exact (HTB.out W hE').mono fun e w' ⟨s, h1, h2, h3⟩ => ⟨_, h1, h3, ⟨s, rfl, h2⟩⟩) hK
  · intro vs W hE hd K hK
    exact do_rp (v := .slice aov n capv) (Sp.lit (.slice aov n capv)).p (by kernel_rfl) (wanted_of (by kernel_rfl)) (by kernel_rfl) (After.refl W) rfl hK
  · intro vs W hE hd K hK
    have hE' : After w2 W := hself.trans hE
    exact do_cp (Sp.ints n ns).p (by kernel_rfl) (wanted_of (by kernel_rfl)) (f := 58) (args := #[vs 4]) (by kernel_rfl) (by rw [show vs 4 = .slice aov n capv from hd 4 (by kernel_rfl)]; exact (HTI.out W hE').mono fun e w' ⟨g, h1, h2, h3⟩ => ⟨_, h1, h3, ⟨g, rfl, h2⟩⟩) hK
  · intro vs W hE hd K hK
    exact do_rp (v := str l) (Sp.lit (str l)).p (by kernel_rfl) (wanted_of (by kernel_rfl)) (by kernel_rfl) (After.refl W) rfl hK
  · intro vs W hE hd K hK
    obtain ⟨t1, e1, g1⟩ : (Sp.asm a).p (vs 1) W := hd 1 (by kernel_rfl)
    obtain ⟨t2, e2, g2⟩ : (Sp.asm b).p (vs 3) W := hd 3 (by kernel_rfl)
    obtain ⟨g, e5, g5⟩ : (Sp.ints n ns).p (vs 5) W := hd 5 (by kernel_rfl)
    have e6 : vs 6 = str l := hd 6 (by kernel_rfl)
    exact do_cp (Sp.lit (.bool bb)).p (by kernel_rfl) (wanted_of (by kernel_rfl)) (f := 56) (args := #[vs 1, vs 3, vs 5, vs 6]) (by kernel_rfl) (by rw [e1, e2, e5, e6]; exact (HSP.out W t1 t2 g g1 g2 g5).mono fun e w' ⟨h1, h3⟩ => ⟨_, h1, h3, rfl⟩) hK
  intro vs W hE hd K hK
  have hE' : After w2 W := hself.trans hE
  have e7 : vs 7 = .bool bb := hd 7 (by decide)
  refine op_val (v := vs 7) (w' := W) (by kernel_rfl) (wanted_of (by kernel_rfl)) (by kernel_rfl) (hK _ _ ?_)
  refine hKK _ _ ?_
  rw [frame_ds [some 31, some 32, some 33, some 34, some 35, some 36, some 37, some 38, some 10] (by kernel_rfl), put_dst (d := some 10) (by kernel_rfl), dlit_t, e7]
  clear hd hK e7
  generalize vs 0 = y0 at *
  generalize vs 1 = y1 at *
  generalize vs 2 = y2 at *
  generalize vs 3 = y3 at *
  generalize vs 4 = y4 at *
  generalize vs 5 = y5 at *
  generalize vs 6 = y6 at *
  have HA4 := Lib.hid hE'
  have t0 := HXA.out W hE'
  have hc3 := HTA.out W hE'
  clear hself hKK hE hE'
  go_wp2_with fail
  refine hc3.mono ?_
  rintro e w5 ⟨s5, rfl, ho5, hb5⟩
  obtain ⟨a5, c5, e5⟩ := ho5.form
  rw [← HN.out] at e5
  subst e5
  have hn5 := After.new w5 (.cells #[.slice a5 na c5] 58)
  have hx5 := heap_new' w5 (.cells #[.slice a5 na c5] 58)
  have HO5 := Lib.hid (ho5.later hn5)
  have HX5 := Lib.hid hx5
  have HA6 := Lib.hid (HA4.out.trans (After.trans hb5 hn5))
  have hc4 := HTB.out _ HA6.out
  have q0 := HXB.out _ HA6.out
  clear ho5 hn5 hx5 hc3 t0 hb5
  go_wp2_with fail
  generalize (w5.alloc (.cells #[.slice a5 na c5] 58)) = w6 at *
  generalize w5.heap.size = b8 at *
  refine hc4.mono ?_
  rintro e w7 ⟨s7, rfl, ho7, hb7⟩
  obtain ⟨a7, c7, e7⟩ := ho7.form
  rw [← HM.out] at e7
  subst e7
  have hn7 := After.new w7 (.cells #[.slice a7 nb c7] 58)
  have hx7 := heap_new' w7 (.cells #[.slice a7 nb c7] 58)
  have HO7 := Lib.hid (ho7.later hn7)
  have HX7 := Lib.hid hx7
  have HB67 := Lib.hid (After.trans hb7 hn7)
  have HA8 := Lib.hid (After.trans HA6.out HB67.out)
  have hc5 := HTI.out _ HA8.out
  clear ho7 hn7 hx7 hc4 q0 hb7
  go_wp2_with fail
  generalize (w7.alloc (.cells #[.slice a7 nb c7] 58)) = w8 at *
  generalize w7.heap.size = b9 at *
  refine hc5.mono ?_
  rintro e w9 ⟨g9, rfl, hg9, hb9⟩
  have HB9 := Lib.hid hb9
  have HG9 := Lib.hid hg9
  have HA9 := Lib.hid (HA8.out.trans hb9)
  have hc6 := HIP.out _ _ _ _ (SSU.later HO5.out (HB67.out.trans hb9)) (SSU.later HO7.out hb9) hg9
  obtain ⟨r0, r1, r2⟩ := one_facts HX5.out (HB67.out.trans hb9)
  obtain ⟨s0, s1, s2⟩ := one_facts HX7.out hb9
  clear hc5 hg9 hb9
  go_wp2_with fail
  refine hc6.mono ?_
  rintro e w11 ⟨rfl, hb11⟩
  have HB11 := Lib.hid hb11
  have HAK := Lib.hid (HA9.out.trans hb11)
  have x1 : ∀ W, After w11 W → W.cell? ⟨b8, 0, none⟩ = some (.slice a5 na c5) := fun W hW => (one_facts HX5.out (HB67.out.trans (HB9.out.trans (HB11.out.trans hW)))).1
  have x2 : ∀ W, After w11 W → W.cell? ⟨w.heap.size, 0, none⟩ = some (.slice p1 na k1) := fun W hW => HXA.out W (HAK.out.trans hW)
  have x3 : ∀ W, After w11 W → W.cell? ⟨b9, 0, none⟩ = some (.slice a7 nb c7) := fun W hW => (one_facts HX7.out (HB9.out.trans (HB11.out.trans hW))).1
  have x4 : ∀ W, After w11 W → W.cell? ⟨w.heap.size + 1, 0, none⟩ = some (.slice p2 nb k2) := fun W hW => HXB.out W (HAK.out.trans hW)
  have HSA := Lib.hid (SSU.later HO5.out (HB67.out.trans (HB9.out.trans HB11.out)))
  have HSB := Lib.hid (SSU.later HO7.out (HB9.out.trans HB11.out))
  have HGI := Lib.hid (HG9.out.later HB11.out)
  have hself := After.refl w11
  clear hb11 hc6 r0 r1 r2 s0 s1 s2
  cases bb
  all_goals
    go_wp2_with fail
    go_region_held3 (fun W' => After w11 W') (first | assumption | exact hself.drew | go_keep)
      (first
        | (go_at_call 57
           refine (HTA.out _ (HAK.out.trans (by first | assumption | exact hself.drew))).mono ?_
           rintro e w12 ⟨s12, rfl, hs12, hb12⟩
           obtain ⟨a12, c12, e12⟩ := hs12.form
           subst e12
           have hb12' := After.trans (by first | assumption | exact hself.drew) hb12
           have HS12 := Lib.hid hs12
           clear hs12)
        | (go_at_call 60
           refine (l_eqAsm _ _ _ a (HSA.out.later hb12') HS12.out (lens_bigT HLA.out)).mono ?_
           rintro e w13 ⟨rfl, hb13⟩
           have hb13' := After.trans hb12' hb13))
    all_goals
      trace "G1"
      go_wp2_with fail
      have hself := hb13'
      clear hb12 hb13 hb12' hb13' HS12 x1 x2
      go_region_held3 (fun W' => After w11 W') (first | assumption | exact hself.drew | go_keep)
        (first
          | (go_at_call 57
             refine (HTB.out _ (HAK.out.trans (by first | assumption | exact hself.drew))).mono ?_
             rintro e w12 ⟨s12, rfl, hs12, hb12⟩
             obtain ⟨a12, c12, e12⟩ := hs12.form
             subst e12
             have hb12' := After.trans (by first | assumption | exact hself.drew) hb12
             have HS12 := Lib.hid hs12
             clear hs12)
          | (go_at_call 60
             refine (l_eqAsm _ _ _ b (HSB.out.later hb12') HS12.out (lens_bigT HLB.out)).mono ?_
             rintro e w13 ⟨rfl, hb13⟩
             have hb13' := After.trans hb12' hb13))
      all_goals
        trace "G2"
        have HB13 := Lib.hid hb13'
        clear hb12 hb13 hb12' HS12 x3 x4 hb13' hself
        have hc7 := HTI.out _ (HAK.out.trans HB13.out)
        go_wp2_with fail
        refine hc7.mono ?_
        rintro e w14 ⟨g14, rfl, hg14, hb14⟩
        have hc8 := HE.out _ _ _ ((HGI.out.later HB13.out).later hb14) hg14
        clear hc7
        go_wp2_with fail
        refine hc8.mono ?_
        rintro e w15 ⟨rfl, hb15⟩
        go_wp2_with fail
        go_ret
        exact ⟨rfl, HA2.out.trans (HAK.out.trans (HB13.out.trans (hb14.trans hb15)))⟩
end Go.Proofs.Ytipmgfbncfkmiaa
