/-
  The model's FunctionValue.
-/
import Derived.Test.YtjomocjlnjgkeaaPkBZ
import Derived.Test.YtjomocjlnjgkeaaPkCA
namespace Go.Proofs.Ytjomocjlnjgkeaa
open Go.RowKit

set_option maxHeartbeats 2000000
set_option maxRecDepth 100000

theorem inNum_drop {zs : List Int} {k : Nat} (hk : k < zs.length) (h : inNum zs[k] = false) : zs.all inNum = false := by
  rw [← List.take_append_drop (k + 1) zs, List.all_append, List.take_succ_eq_append_getElem hk, List.all_append]
  simp [h]

theorem ValPost.one {w w' : World} {o : Option (Nat × Nat)} {e : Ending} (h : ValPost w o e w') : e = .returned (.tuple #[.int .i64 (((o.getD (0, 0)).1 : Nat) : Int), .int .i64 (((o.getD (0, 0)).2 : Nat) : Int), .bool o.isSome]) ∧ After w w' := by
  obtain ⟨⟨v, s, b, he, hb⟩, ha⟩ := h
  refine ⟨?_, ha⟩
  rcases hb with ⟨rfl, rfl⟩ | ⟨rfl, rfl, rfl, rfl⟩
  · exact he
  · exact he

theorem spec_value (w : World) (l : List UInt8) (hl : l.length ≤ 1000000000) (sv : Value) (zs : List Int) (h : IntsZ w sv zs) (hn : zs.length ≤ 1048576) :
    Calls Try.prog 25 #[str l, sv] w (ValPost w (FT.pValue l zs)) := by
  have k1 := s_function w l hl
  obtain ⟨ao, cap, rfl⟩ := h.form
  have H := Lib.hid h
  clear h
  unfold S3Fn at k1
  cases hp : FT.parse l with
  | none =>
    have HP := Lib.hid (show FT.pValue l zs = none by simp [FT.pValue, hp])
    rw [hp] at k1
    clear hp
    generalize zs.length = N at *
    go_enter Try.func25, Try.ntmps25
    go_wp2_with fail
    refine k1.mono ?_
    rintro e w1 ⟨s1, ao1, n1, c1, a1, rfl, hb1, ht1⟩
    clear ht1 k1
    go_wp2_with fail
    go_ret3
    rw [HP.out]
    exact .no (hb1.alloc _)
  | some t =>
    obtain ⟨hok, hsz, _⟩ := FT.parse_facts hp
    have hp2 : FT.pValue l zs = if zs.length = FT.arity t ∧ ∀ a ∈ zs, 0 ≤ a ∧ a ≤ 60 then FT.ev t (zs.map Int.toNat) 0 else none := by simp [FT.pValue, hp]
    rw [hp] at k1
    clear hp
    have hall : (zs.all inNum = true) ↔ ∀ a ∈ zs, 0 ≤ a ∧ a ≤ 60 := by simp [List.all_eq_true, inNum]
    have har := FT.arity_le hok
    obtain ⟨N, hN⟩ : ∃ N, N = zs.length := ⟨_, rfl⟩
    obtain ⟨R, hR⟩ : ∃ R, R = FT.pValue l zs := ⟨_, rfl⟩
    rw [← hR]
    rw [← hR] at hp2
    by_cases hla : zs.length = FT.arity t
    · have h3 : N ≤ 3 := by omega
      have hcall : ∀ (w1 wr : World) (v : Value), SF w1 w.heap.size t v → After w w1 → After w1 wr → zs.all inNum = true → Calls Try.prog 51 #[ptr wr.heap.size, v, .slice ao zs.length cap] (wr.alloc (.cells #[.int .i64 0, .bool false] 79)) (MPost (wr.alloc (.cells #[.int .i64 0, .bool false] 79)) wr.heap.size 100000 R) := fun w1 wr v hS h1 h2 hin => by
        have aW : After wr (wr.alloc (.cells #[.int .i64 0, .bool false] 79)) := After.new _ _
        have hz0 : ∀ z ∈ zs, 0 ≤ z := fun z hz => (hall.1 hin z hz).1
        have hz6 : ∀ a ∈ zs.map Int.toNat, a ≤ 1000 := fun a ha => by
          obtain ⟨z, hz, rfl⟩ := List.mem_map.1 ha
          have := (hall.1 hin z hz).2
          omega
        have hlm : (zs.map Int.toNat).length = FT.arity t := by rw [List.length_map]; exact hla
        have hv := (vk_any hok (by omega) wr w.heap.size (wr.alloc (.cells #[.int .i64 0, .bool false] 79)) wr.heap.size 0 false v _ (zs.map Int.toNat) _ _ _ (hS.after h2) ⟨aW.size, fun k _ hk => aW.block k hk⟩ (Nat.le_refl _) (heap_top _ _) (by omega) rfl).2 rfl (by omega) (H.out.nats (h1.trans h2).size hz0 ((h1.trans h2).trans aW)) hlm hz6
        rw [FT.mv_eq _ _ _ hz6] at hv
        rw [show R = FT.ev t (zs.map Int.toNat) 0 by rw [hp2, if_pos ⟨hla, hall.1 hin⟩]]
        refine hv.mono ?_
        rintro e w' ⟨hg, x, rfl, hx⟩
        refine ⟨hg, x, rfl, ?_⟩
        cases hev : FT.ev t (zs.map Int.toNat) 0 with
        | none =>
          rw [hev] at hx
          obtain ⟨s', hs', hst⟩ := hx
          exact ⟨s', by omega, hst⟩
        | some p => rw [hev] at hx; exact hx
      have hno : zs.all inNum = false → R = none := fun h => by rw [hp2, if_neg (fun hc => by have := hall.2 hc.2; rw [h] at this; cases this)]
      have hRb : ∀ v s, R = some (v, s) → v ≤ 1000 ∧ s ≤ 2000 := fun v s h => by
        rw [hp2] at h
        split at h
        · have := (FT.ev_runs t _ 0).small _ _ h; exact ⟨this.1, this.2.2⟩
        · cases h
      have HCALL := Lib.hid hcall
      have HNO := Lib.hid hno
      have HRB := Lib.hid hRb
      have HR := Lib.hid hR
      have HLA := Lib.hid hla
      rw [← hN] at HCALL hn ⊢
      have HNN := Lib.hid hN
      clear hcall hno hRb hR hla hN hp2 hall har hok hsz
      go_enter Try.func25, Try.ntmps25
      go_wp2_with fail
      refine k1.mono ?_
      rintro e w1 ⟨s1, ao1, n1, c1, a1, rfl, hb1, ht1⟩
      have hst := ht1 t rfl
      obtain ⟨aof, nf, cf, hf⟩ := hst.form
      injection hf with hf
      injection hf with hf
      injection hf with f1 hf
      injection hf with f2 hf
      injection hf with f3 hf
      injection f3 with _ f3
      have f3' : a1 = (N : Int) := by rw [f3, HNN.out, HLA.out]
      subst f3'
      have HSF := Lib.hid hst
      clear ht1 k1 hst f3 f1 f2 hf
      obtain ⟨W2, hW2⟩ : ∃ W2, W2 = w1.alloc (.cells #[str s1, .slice ao1 n1 c1, .int .i64 (N : Int)] 65) := ⟨_, rfl⟩
      have a2 : After w1 W2 := by rw [hW2]; exact After.new _ _
      have hh2 : W2.heap[w1.heap.size]? = some (.cells #[str s1, .slice ao1 n1 c1, .int .i64 (N : Int)] 65 (0, 0)) := by rw [hW2]; exact heap_top _ _
      have HW2 := Lib.hid hW2
      have HH2 := Lib.hid hh2
      clear hW2 hh2
      go_wp2_with fail
      rw [← HW2.out]
      go_loopw [9] (fun i wr => ∃ k : Nat, i = .int .i64 k ∧ k ≤ N ∧ Hid ((zs.take k).all inNum = true) ∧ After W2 wr) (fun i _ => N - (intOf i).toNat)
      case atStart => exact ⟨0, rfl, Nat.zero_le _, rfl, After.refl _⟩
      case round =>
        obtain ⟨k, rfl, hk, HE, hA⟩ := hrel
        have hAw : After w wr := (hb1.trans a2).trans hA
        by_cases hlt : k < N
        · have hkl : k < zs.length := by rw [← HNN.out]; exact hlt
          obtain ⟨b, o, cap', hsv, hc⟩ := (H.out.after hAw).at k hkl
          injection hsv with e1 e2 e3
          subst e1
          clear e2 e3
          have hnext : (zs.take (k + 1)).all inNum = inNum zs[k] := by
            rw [List.take_succ_eq_append_getElem hkl, List.all_append, HE.out]; simp
          have hbad : inNum zs[k] = false → R = none := fun h => HNO.out (inNum_drop hkl h)
          generalize zs[k] = z at *
          have hltI : (k : Int) < (N : Int) := by omega
          have hin6 : ∀ W, Calls Try.prog 50 #[.int .i64 z, .int .i64 0, .int .i64 60] W fun e w' => e = .returned (.bool (inNum z)) ∧ W = w' := fun W => by
            have := in_any W z 0 60
            rwa [show decide (0 ≤ z ∧ z ≤ 60) = inNum z by simp [inNum]] at this
          cases hiz : inNum z with
          | false =>
            have HF := Lib.hid (hbad hiz)
            rw [hiz] at hin6
            clear hbad hnext hiz
            go_wp2_with (go_at_call 50; refine (hin6 _).mono ?_; rintro e w' ⟨rfl, rfl⟩)
            go_ret3
            rw [HF.out]
            exact .no hAw
          | true =>
            have HX := Lib.hid (show (zs.take (k + 1)).all inNum = true from hnext.trans hiz)
            rw [hiz] at hin6
            clear hbad hnext hiz
            go_wp2_with (go_at_call 50; refine (hin6 _).mono ?_; rintro e w' ⟨rfl, rfl⟩)
            go_roundw
            case rel => exact ⟨k + 1, by go_num, by omega, HX.out, hA⟩
            case measure => simp [intOf]; omega
        · obtain rfl : k = N := by omega
          have hin : zs.all inNum = true := by rw [← HE.out, HNN.out, List.take_length]
          have hk2 := HCALL.out w1 wr _ HSF.out hb1 (a2.trans hA) hin
          have hbx := hA.heap HH2.out
          have x0 : (wr.alloc (.cells #[.int .i64 0, .bool false] 79)).cell? ⟨w1.heap.size, 0, none⟩ = some (str s1) := cell_of_heap (i := 0) ((After.new _ _ : After wr _).heap hbx)
          have x1 : (wr.alloc (.cells #[.int .i64 0, .bool false] 79)).cell? ⟨w1.heap.size, 1, none⟩ = some (.slice ao1 n1 c1) := cell_of_heap (i := 1) ((After.new _ _ : After wr _).heap hbx)
          have x2 : (wr.alloc (.cells #[.int .i64 0, .bool false] 79)).cell? ⟨w1.heap.size, 2, none⟩ = some (.int .i64 (k : Int)) := cell_of_heap (i := 2) ((After.new _ _ : After wr _).heap hbx)
          clear hbx hin
          go_wp2_with fail
          refine hk2.mono ?_
          rintro e w4 ⟨g4, x, rfl, hx⟩
          have a4 : After w w4 := hAw.trans (after_own2 g4)
          clear hk2 x0 x1 x2
          cases R with
          | none =>
            obtain ⟨s', hs', hm⟩ := hx
            have m1 := hm.c1
            clear hm
            go_wp2_with fail
            go_ret3
            exact .no a4
          | some p =>
            obtain ⟨v, s'⟩ := p
            obtain ⟨rfl, hm⟩ := hx
            obtain ⟨hv1, hs1⟩ := HRB.out v s' rfl
            have m1 := hm.c1
            have m0 := hm.c0
            clear hm
            go_wp2_with fail
            go_region
            go_wp2_with fail
            go_ret3
            exact .yes (After.drew a4)
    · have HP := Lib.hid (show R = none by rw [hp2, if_neg (fun h => hla h.1)])
      have hne : ((zs.length : Int) != (FT.arity t : Int)) = true := by rw [bne_iff_ne]; omega
      clear hp2 hall hla hR
      rw [← hN] at hne hn ⊢
      clear hN
      go_enter Try.func25, Try.ntmps25
      go_wp2_with fail
      refine k1.mono ?_
      rintro e w1 ⟨s1, ao1, n1, c1, a1, rfl, hb1, ht1⟩
      have hst := ht1 t rfl
      obtain ⟨aof, nf, cf, hf⟩ := hst.form
      injection hf with hf
      injection hf with hf
      injection hf with f1 hf
      injection hf with f2 hf
      injection hf with f3 hf
      injection f3 with _ f3
      subst f3
      clear ht1 k1 hst
      go_wp2_with fail
      go_ret3
      rw [HP.out]
      exact .no (hb1.alloc _)
end Go.Proofs.Ytjomocjlnjgkeaa

namespace Go.Proofs.Ytjomocjlnjgkeaa
open Go.RowKit

set_option maxHeartbeats 1000000
set_option maxRecDepth 100000

theorem law_value (w : World) (sv : Value) (n : Nat) (Z : Nat → Int) (l : List UInt8) (h : ArgI w sv n Z) (hn : n ≤ 9223372036854775807) :
    Calls Try.prog 10 #[str l, sv] w fun e w' => e = .returned (.bool true) ∧ After w w' := by
  have hsz := str_size l
  obtain ⟨ao, cap, hsv⟩ : ∃ ao cap, sv = .slice ao n cap := by
    rcases h with ⟨ao, cap, rfl, rfl⟩ | ⟨b, off, cap, rfl, _⟩
    · exact ⟨_, _, rfl⟩
    · exact ⟨_, _, rfl⟩
  have H := Lib.hid h
  clear h
  by_cases hbig : (1048576 : Int) < (l.length : Int)
  · clear hsv
    go_enter Try.func10, Try.ntmps10
    go_wp2_with fail
    go_ret
    exact ⟨rfl, After.refl _⟩
  · by_cases hbign : (1048576 : Int) < (n : Int)
    · subst hsv
      go_enter Try.func10, Try.ntmps10
      go_wp2_with fail
      go_ret
      exact ⟨rfl, After.refl _⟩
    · obtain ⟨ns, hns⟩ : ∃ ns, ns = (List.range n).map Z := ⟨_, rfl⟩
      have hlen : ns.length = n := by rw [hns]; simp
      have hget : ∀ j, j < n → ns[j]?.getD 0 = Z j := fun j hj => by rw [hns]; simp [hj]
      have hto : ∀ W, After w W → Calls Try.prog 26 #[sv] W fun e w' => ∃ g, e = .returned (.slice (some ⟨g, 0, none⟩) n n) ∧ HoldI w' g n ns ∧ After W w' := fun W hW => by
        refine li_to W sv n Z ns ?_ hlen hget (by omega)
        rcases H.out with h | ⟨b, off, cap, e, hc⟩
        · exact Or.inl h
        · exact Or.inr ⟨b, off, cap, e, fun j hj => hW.cell (hc j hj)⟩
      have hs : ∀ W g, HoldI W g n ns → Calls Try.prog 25 #[str l, .slice (some ⟨g, 0, none⟩) n n] W fun e w' => e = .returned (.tuple #[.int .i64 ((((FT.pValue l ns).getD (0, 0)).1 : Nat) : Int), .int .i64 ((((FT.pValue l ns).getD (0, 0)).2 : Nat) : Int), .bool (FT.pValue l ns).isSome]) ∧ After W w' := fun W g hg => by
        have := spec_value W l (by omega) _ ns (HoldI.ints (by rw [hlen]; exact hg)) (by omega)
        rw [hlen] at this
        exact this.mono fun e w' h => h.one
      have hi : ∀ W g, HoldI W g n ns → Calls Try.prog 27 #[str l, .slice (some ⟨g, 0, none⟩) n n] W fun e w' => e = .returned (.tuple #[.int .i64 ((((FT.pValue l ns).getD (0, 0)).1 : Nat) : Int), .int .i64 ((((FT.pValue l ns).getD (0, 0)).2 : Nat) : Int), .bool (FT.pValue l ns).isSome]) ∧ After W w' := fun W g hg => by
        have := impl_value W l (by omega) _ ns (HoldI.ints (by rw [hlen]; exact hg)) (by omega)
        rw [hlen] at this
        exact this.mono fun e w' h => h.one
      have he : ∀ W g g', HoldI W g n ns → HoldI W g' n ns → Calls Try.prog 28 #[.slice (some ⟨g, 0, none⟩) n n, .slice (some ⟨g', 0, none⟩) n n] W fun e w' => e = .returned (.bool true) ∧ After W w' := fun W g g' hg hg' =>
        li_eqv W g g' 0 0 n n n (fun j => ns[j]?.getD 0) (by omega) hg.2 hg'.2
      have HTO := Lib.hid hto
      have HS := Lib.hid hs
      have HI := Lib.hid hi
      have HE := Lib.hid he
      subst hsv
      clear hto hs hi he hget hlen hns H
      generalize ((((FT.pValue l ns).getD (0, 0)).1 : Nat) : Int) = x at HS HI
      generalize ((((FT.pValue l ns).getD (0, 0)).2 : Nat) : Int) = y at HS HI
      generalize (FT.pValue l ns).isSome = b at HS HI
      go_enter Try.func10, Try.ntmps10
      go_wp2_with fail
      refine (HTO.out _ (After.refl _)).mono ?_
      rintro e w1 ⟨g1, rfl, hg1, hA1⟩
      have HG1 := Lib.hid hg1
      clear hg1
      go_wp2_with fail
      refine (HS.out _ _ HG1.out).mono ?_
      rintro e w2 ⟨rfl, hb2⟩
      have hA2 := hA1.trans hb2
      cases b
      all_goals
        go_wp2_with fail
        refine (HTO.out _ hA2).mono ?_
        rintro e w3 ⟨g3, rfl, hg3, hb3⟩
        have HG3 := Lib.hid hg3
        have hA3 := hA2.trans hb3
        clear hg3
        go_wp2_with fail
        refine (HI.out _ _ HG3.out).mono ?_
        rintro e w4 ⟨rfl, hb4⟩
        have HG4 := Lib.hid (HG3.out.later hb4)
        have hA4 := hA3.trans hb4
        go_wp2_with fail
        refine (HTO.out _ hA4).mono ?_
        rintro e w5 ⟨g5, rfl, hg5, hb5⟩
        have HG5 := Lib.hid hg5
        have HG6 := Lib.hid (HG4.out.later hb5)
        have hA5 := hA4.trans hb5
        clear hg5
        go_wp2_with fail
        refine (HE.out _ _ _ HG6.out HG5.out).mono ?_
        rintro e w6 ⟨rfl, hb6⟩
        go_wp2_with fail
        go_ret
        exact ⟨rfl, hA5.trans hb6⟩
end Go.Proofs.Ytjomocjlnjgkeaa
