/-
  The walk of a promise's law: sizes: whatever the code, the law returns true.
-/
import Derived.Test.YtipmgfbncfkmiaaDrawN
import Derived.Test.YtipmgfbncfkmiaaPromS
import Derived.Test.YtipmgfbncfkmiaaPkE
import Derived.Test.YtipmgfbncfkmiaaPkU
import Derived.Test.YtipmgfbncfkmiaaSFnC
import Derived.BigQuiet
import Derived.Deep.QuietTactic
namespace Go.Proofs.Ytipmgfbncfkmiaa
open Go.RowKit

set_option maxHeartbeats 2000000
set_option maxRecDepth 100000

theorem put_len {l n b x : List UInt8} (h : Tm.pPut l n b = some x) : x.length ≤ 21000 := by
  obtain ⟨_, _, _, _, _, _, _, _, _, _, _, h⟩ := Tm.put_facts h
  exact h

theorem law_psize (w : World) (v : Value) (n : Nat) (h : CodeArg w v n) :
    Calls Try.prog 3 #[v] w fun e w' => e = .returned (.bool true) ∧ After w w' := by
  obtain ⟨a0, cap, rfl⟩ := h.form
  have hdraw := draw_size w _ n h
  clear h
  by_cases hbig : (1048576 : Int) < (n : Int)
  · go_enter Try.func3, Try.ntmps3
    go_wp2_with fail
    go_ret
    exact ⟨rfl, After.refl _⟩
  · go_enter Try.func3, Try.ntmps3
    go_wp2_with fail
    refine hdraw.mono ?_
    rintro e w1 hd
    obtain ⟨l, rfl, hl, ha⟩ := hd.text
    clear hd
    have HA := Lib.hid ha
    clear hdraw ha
    have hi := fun W => impl_size W l (by omega)
    have hs := fun W => spec_size W l (by omega)
    cases hp : Tm.parse l with
    | none =>
      have e : Tm.pSize l = -1 := by simp [Tm.pSize, hp]
      simp only [e] at hi hs
      clear hp e
      go_wp2_with fail
      refine (hi _).mono ?_
      rintro e w2 ⟨rfl, hb2⟩
      go_wp2_with fail
      refine (hs _).mono ?_
      rintro e w3 ⟨rfl, hb3⟩
      go_wp2_with fail
      go_ret
      exact ⟨by simp, ((HA.out.trans hb2).trans hb3)⟩
    | some t =>
      obtain ⟨hl0, hg, hf⟩ := parse_text_iff hp
      have e : Tm.pSize l = ((t.size : Nat) : Int) := by simp [Tm.pSize, hp]
      have hnm := fun W => impl_names W l (by omega)
      obtain ⟨ns, hns⟩ : ∃ ns, ns = Tm.names [] t := ⟨_, rfl⟩
      have en : Tm.pNames l = some ns := by rw [hns]; simp [Tm.pNames, hp]
      obtain ⟨h1, h2, h3, _⟩ := Tm.names_facts hns hg
      have hz := (fits_size hf).1
      simp only [e] at hi hs
      rw [en] at hnm
      obtain ⟨z, hzz⟩ : ∃ z, z = t.size := ⟨_, rfl⟩
      have hput : ∀ j T, Tm.PutK t ns j T → j < ns.length → ∃ T', Tm.PutK t ns (j + 1) T' ∧ ∀ W, Calls Try.prog 19 #[str T.text, str (ns.getD j []), str [107]] W fun e w' => e = .returned (.tuple #[str T'.text, .bool true]) ∧ Below W.heap.size W w' := fun j T hT hj => by
        obtain ⟨hok, hsh⟩ := h2 _ (Tm.getD_mem hj)
        obtain ⟨T', q1, q2, q3⟩ := Tm.putK_step hT hf hj hok
        refine ⟨T', q2, fun W => ?_⟩
        have hlT : T.text.length ≤ 1000000 := by
          have := Tm.text_le T hT.1
          have := hT.2.1
          have := hT.2.2.1
          have := (fits_size hf).2
          omega
        have := impl_put W T.text (ns.getD j []) [107] (by omega) (by omega) (by decide)
        unfold TextRes at this
        rw [q1] at this
        exact this
      have hend : ∀ T, Tm.PutK t ns ns.length T → (∀ W, Calls Try.prog 16 #[str T.text] W fun e w' => e = .returned (.int .i64 ((z : Nat) : Int)) ∧ Below W.heap.size W w') ∧ ∀ W, Calls Try.prog 20 #[str T.text] W fun e w' => e = .returned (.bool true) ∧ Below W.heap.size W w' := fun T hT => by
        obtain ⟨q1, q2, q3⟩ := Tm.putK_end hT hf h1
        refine ⟨fun W => ?_, fun W => ?_⟩
        · have := impl_size W T.text (by omega)
          rw [q1, ← hzz] at this
          exact this
        · have := impl_closed W T.text (by omega)
          rw [q2] at this
          exact this
      have h0 : Hid (Tm.PutK t ns 0 t) := Tm.putK_zero hg
      have HPUT := Lib.hid hput
      have HEND := Lib.hid hend
      rw [← hzz] at hi hs h3
      have hzn : (ns.length : Int) ≤ (z : Int) := by omega
      have hnn : ns.length ≤ 3000 := by omega
      have hx : Hid (l = t.text) := hl0
      clear hput hend h1 h2 h3 hp e en hg hf hzz hns hl0 hz
      go_wp2_with fail
      refine (hi _).mono ?_
      rintro e w2 ⟨rfl, hb2⟩
      go_wp2_with fail
      refine (hs _).mono ?_
      rintro e w3 ⟨rfl, hb3⟩
      go_wp2_with fail
      refine (hnm _).mono ?_
      rintro e w4 hn4
      obtain ⟨ao1, cap1, rfl, hb4, hu1⟩ := names_row_some hn4
      have HU1 := Lib.hid hu1
      clear hn4 hu1
      have hA4 := Lib.hid ((((HA.out).trans hb2).trans hb3).trans hb4)
      obtain ⟨ao', cap', e', hc⟩ := id HU1.out
      simp only [Value.slice.injEq] at e'
      obtain ⟨rfl, _, rfl⟩ := e'
      have HC := Lib.hid hc
      have hstart : ∃ T, str l = str T.text ∧ Hid (Tm.PutK t ns 0 T) := ⟨t, by rw [hx.out], h0⟩
      clear hc hi hs hnm hx h0
      go_wp2_with fail
      go_loopw [8, 9] (fun x i wr => ∃ (k : Nat) (T : Tm), i = .int .i64 k ∧ x = str T.text ∧ k ≤ ns.length ∧ Hid (Tm.PutK t ns k T) ∧ After w4 wr) (fun _ i _ => ns.length - (intOf i).toNat)
      case atStart =>
        obtain ⟨T, e1, e2⟩ := hstart
        exact ⟨0, T, rfl, e1, Nat.zero_le _, e2, After.refl _⟩
      case round =>
        obtain ⟨k, T, rfl, rfl, hk, hT, hAw⟩ := hrel
        clear hstart
        by_cases hlt : k < ns.length
        · obtain ⟨b, off, rfl, ⟨_, hle, hcm⟩, h1⟩ := HC.out k hlt
          replace h1 := hAw.cell h1
          obtain ⟨T', hT', hput⟩ := HPUT.out k T hT.out hlt
          have HT' := Lib.hid hT'
          generalize ns.getD k [] = y at h1 hput
          have hlt' : (k : Int) < (ns.length : Int) := by omega
          clear hT'
          go_wp2_with fail
          refine (hput _).mono ?_
          rintro e w5 ⟨rfl, hb5⟩
          go_wp2_with fail
          go_roundw
          case rel => exact ⟨k + 1, T', by go_num, rfl, by omega, HT', hAw.trans hb5⟩
          case measure => simp [intOf]; omega
        · obtain rfl : k = ns.length := by omega
          obtain ⟨hsz, hcl⟩ := HEND.out T hT.out
          go_wp2_with fail
          refine (hsz _).mono ?_
          rintro e w5 ⟨rfl, hb5⟩
          go_wp2_with fail
          refine (hcl _).mono ?_
          rintro e w6 ⟨rfl, hb6⟩
          go_wp2_with fail
          go_ret
          exact ⟨by simp, ((hA4.out.trans hAw).trans hb5).trans hb6⟩

end Go.Proofs.Ytipmgfbncfkmiaa
