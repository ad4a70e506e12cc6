/-
  The walk of the law of AssemblyNumbers.
-/
import Derived.Test.YtfeeegnkmojpeaaPkY
namespace Go.Proofs.Ytfeeegnkmojpeaa
open Go.RowKit

set_option maxHeartbeats 2000000
set_option maxRecDepth 100000

theorem offA_le (m : Nat) (a : List (List (List UInt8))) (h : ∀ ns ∈ a, ns.length ≤ m) : ∀ j, j ≤ a.length → offA a j ≤ j * m
  | 0, _ => by simp [offA]
  | j + 1, hj => by
    rw [offA_succ, Nat.succ_mul]
    have h1 := offA_le m a h j (by omega)
    have h2 : (a.getD j []).length ≤ m := h _ (by rw [List.getD, List.getElem?_eq_getElem (show j < a.length by omega)]; exact List.getElem_mem _)
    omega

theorem law_nums (w : World) (N : Int) (_hN : (Lit.int .i64 N).wf = true) :
    Calls Try.prog 7 #[.int .i64 N] w fun e w' => e = .returned (.bool true) ∧ After w w' := by
  obtain ⟨a, ha⟩ : ∃ a, a = (pNums N).getD [] := ⟨_, rfl⟩
  have hl : Lens 1000 a := by
    rw [ha]
    unfold pNums
    split
    · exact nums_lens _ (by omega)
    · exact ⟨by simp, fun ns h => absurd h (by simp)⟩
  have hoff := offA_le 1000 a (fun ns hs => (hl.2 ns hs).1) a.length (Nat.le_refl _)
  have hal := hl.1
  have HLENS : Hid (Lens 1000000000 a) := ⟨by omega, fun ns hs => ⟨by have := (hl.2 ns hs).1; omega, fun s h => by have := (hl.2 ns hs).2 s h; omega⟩⟩
  have HOFF : Hid (1 + offA a a.length ≤ 1000000000) := by
    show _ ≤ _
    have : a.length * 1000 ≤ 1000 * 1000 := Nat.mul_le_mul hal (Nat.le_refl _)
    omega
  have HLN : Hid (a.length ≤ 1000000000) := by show _ ≤ _; omega
  have hsp : ∀ W, After w W → Calls Try.prog 21 #[.int .i64 N] W (AsmOwn W (pNums N)) := fun W _ => spec_nums W N
  have hip : ∀ W, After w W → Calls Try.prog 22 #[.int .i64 N] W (AsmOwn W (pNums N)) := fun W _ => impl_nums W N
  unfold AsmOwn at hsp hip
  rw [← ha] at hsp hip
  obtain ⟨n, hn⟩ : ∃ n, n = a.length := ⟨_, rfl⟩
  obtain ⟨m, hm⟩ : ∃ m, m = 1 + offA a a.length := ⟨_, rfl⟩
  have hm0 : (0 : Int) ≤ (m : Int) := by omega
  have HSP := Lib.hid hsp
  have HIP := Lib.hid hip
  have HN := Lib.hid hn
  have HM : Hid (m = 1 + offA a n) := by show _ = _; rw [hm, hn]
  have HW0 := Lib.hid (After.refl w)
  clear hsp hip hl hoff hal ha hm hn
  generalize (pNums N).isSome = b at *
  go_enter Try.func7, Try.ntmps7
  go_wp2_with fail
  refine (HSP.out _ HW0.out).mono ?_
  rintro e w1 ⟨sv0, rfl, ho0, hb1⟩
  obtain ⟨ao0, c0, e0⟩ := ho0.form
  rw [← HN.out] at e0
  subst e0
  have hn1 := After.new w1 (.cells #[.slice ao0 n c0] 27)
  have hx1 := heap_new' w1 (.cells #[.slice ao0 n c0] 27)
  have HS0 := Lib.hid ((ho0.ssu (Nat.zero_le _)).later hn1)
  have hA1 := (hb1.trans hn1)
  have HW1 := Lib.hid (After.trans HW0.out hA1)
  obtain ⟨p0, p1, p2⟩ := one_facts hx1 (After.refl _)
  have HX1 := Lib.hid hx1
  clear ho0 hx1
  go_wp2_with fail
  generalize w1.heap.size = b3 at *
  generalize w1.alloc (.cells #[.slice ao0 n c0] 27) = W1 at *
  refine (HIP.out W1 HW1.out).mono ?_
  rintro e w2 ⟨sv5, rfl, ho5, hb2⟩
  obtain ⟨ao5, c5, e5⟩ := ho5.form
  rw [← HN.out] at e5
  subst e5
  have hn2 := After.new w2 (.cells #[.slice ao5 n c5] 27)
  have hx2 := heap_new' w2 (.cells #[.slice ao5 n c5] 27)
  have HO5 := Lib.hid (ho5.later hn2)
  have hA2 := hb2.trans hn2
  obtain ⟨q0, q1, q2⟩ := one_facts hx2 (After.refl _)
  obtain ⟨p0', p1', p2'⟩ := one_facts HX1.out hA2
  have HX2 := Lib.hid hx2
  clear ho5 hx2 p0 p1 p2
  go_wp2_with (go_at_call 12
               refine (l_eqAsm _ _ _ a (HO5.out.ssu (Nat.zero_le _)) (HS0.out.later hA2) HLENS.out).mono ?_
               rintro e w3 ⟨rfl, hb3⟩
               have hmk := l_markAsm w3 W1.heap.size _ a 1 (HO5.out.later hb3) (Nat.le_trans hA2.size hb3.size) (by decide) HOFF.out HLN.out
               obtain ⟨r0, r1, r2⟩ := one_facts HX2.out hb3
               obtain ⟨s0, s1, s2⟩ := one_facts HX1.out (hA2.trans hb3)
               rw [← HN.out, ← HM.out] at hmk)
  cases b
  all_goals
    go_wp2_with (go_at_call 23
                 refine hmk.mono ?_
                 rintro e w4 ⟨rfl, hm4, hb4, hk4⟩
                 have hx24 := hk4 _ _ _ _ (by decide) ((After.heap hb3) HX2.out)
                 have HX24 := Lib.hid hx24
                 have HM4 := Lib.hid hm4
                 have hA4 : After W1 w4 := Below.trans (hA2.trans hb3) hb4
                 obtain ⟨t0, t1, t2⟩ := one_facts hx24 (After.refl _)
                 obtain ⟨u0, u1, u2⟩ := one_facts HX1.out hA4
                 have hhd := fun W (hW : After w4 W) => l_heldAsm W _ a 1 (by have := SSU.later (OwnSS.ssu HM4.out (Nat.zero_le 0 |> fun _ => Nat.zero_le _)) hW; rw [← HN.out]; exact this) (by decide) HOFF.out HLN.out
                 rw [← HN.out, ← HM.out] at hhd
                 have HHD := Lib.hid hhd
                 clear hmk hx24 hm4 hk4 hhd)
    refine (HHD.out _ (After.refl _)).mono ?_
    rintro e w5 ⟨rfl, hb5⟩
    obtain ⟨v0, v1, v2⟩ := one_facts HX24.out hb5
    obtain ⟨x0, x1, x2⟩ := one_facts HX1.out (hA4.trans hb5)
    have hA5 := hA4.trans hb5
    have HW5 := Lib.hid (After.trans HW1.out hA5)
    clear t0 t1 t2 u0 u1 u2 r0 r1 r2 s0 s1 s2 q0 q1 q2 p0' p1' p2'
    go_wp2_with fail
    refine (HIP.out w5 HW5.out).mono ?_
    rintro e w6 ⟨sv9, rfl, ho9, hb6⟩
    obtain ⟨ao9, c9, e9⟩ := ho9.form
    rw [← HN.out] at e9
    subst e9
    have hn6 := After.new w6 (.cells #[.slice ao9 n c9] 27)
    have hx6 := heap_new' w6 (.cells #[.slice ao9 n c9] 27)
    have HS9 := Lib.hid ((ho9.ssu (Nat.zero_le _)).later hn6)
    have hA6 := hb6.trans hn6
    obtain ⟨q0, q1, q2⟩ := one_facts hx6 (After.refl _)
    obtain ⟨y0, y1, y2⟩ := one_facts HX1.out (hA5.trans hA6)
    obtain ⟨z0, z1, z2⟩ := one_facts HX24.out (hb5.trans hA6)
    clear ho9 hx6 v0 v1 v2 x0 x1 x2
    go_wp2_with (go_at_call 12
                 refine (l_eqAsm _ _ _ a HS9.out (HS0.out.later (hA5.trans hA6)) HLENS.out).mono ?_
                 rintro e w7 ⟨rfl, hb7⟩
                 obtain ⟨f0, f1, f2⟩ := one_facts HX24.out ((hb5.trans hA6).trans hb7)
                 have hh7 := HHD.out w7 ((hb5.trans hA6).trans hb7))
    go_wp2_with (go_at_call 24; refine hh7.mono ?_; rintro e w8 ⟨rfl, hb8⟩)
    go_ret
    exact ⟨rfl, After.trans HW5.out ((hA6.trans hb7).trans hb8)⟩
end Go.Proofs.Ytfeeegnkmojpeaa
