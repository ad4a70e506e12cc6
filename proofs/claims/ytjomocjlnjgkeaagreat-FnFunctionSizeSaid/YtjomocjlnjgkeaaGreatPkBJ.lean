/-
  The model's FunctionArity, FunctionSize, FunctionTotal; the walks of the three laws.
-/
import Derived.Test.YtjomocjlnjgkeaaGreatPkBI
import Derived.Test.YtjomocjlnjgkeaaGreatPkBA
import Derived.Test.YtjomocjlnjgkeaaGreatPkBB
import Derived.Test.YtjomocjlnjgkeaaGreatPkBH
namespace Go.Proofs.YtjomocjlnjgkeaaGreat
open Go.RowKit

set_option maxHeartbeats 1000000
set_option maxRecDepth 100000

theorem spec_arity (w : World) (l : List UInt8) (hl : l.length ≤ 1000000000) : Calls Tryz.prog 13 #[str l] w (IntPost w (pArity l)) := by
  have k1 := s_function w l hl
  cases hp : FT.parse l with
  | none =>
    have H := Lib.hid (show pArity l = -1 by simp [pArity, hp])
    unfold S3Fn at k1
    rw [hp] at k1
    clear hp
    go_enter Tryz.func13, Tryz.ntmps13
    go_wp2_with fail
    refine k1.mono ?_
    rintro e w1 ⟨s1, ao1, n1, c1, a1, rfl, hb1, ht1⟩
    clear ht1 k1
    go_wp2_with fail
    go_ret
    exact ⟨by rw [H.out]; rfl, hb1.alloc _⟩
  | some t =>
    have H := Lib.hid (show pArity l = (FT.arity t : Nat) by simp [pArity, hp])
    have hz := (FT.parse_facts hp).2.1
    unfold S3Fn at k1
    rw [hp] at k1
    clear hp
    go_enter Tryz.func13, Tryz.ntmps13
    go_wp2_with fail
    refine k1.mono ?_
    rintro e w1 ⟨s1, ao1, n1, c1, a1, rfl, hb1, ht1⟩
    have hst := ht1 t rfl
    obtain ⟨ao, n, c, hf⟩ := hst.form
    injection hf with hf
    injection hf with hf
    injection hf with f1 hf
    injection hf with f2 hf
    injection hf with f3 hf
    injection f3 with _ f3
    subst f3
    clear ht1 k1 hst
    go_wp2_with fail
    go_ret
    exact ⟨by rw [H.out]; rfl, hb1.alloc _⟩

theorem spec_fsize (w : World) (l : List UInt8) (hl : l.length ≤ 1000000000) : Calls Tryz.prog 19 #[str l] w (IntPost w (pSizeF l)) := by
  have k1 := s_function w l hl
  cases hp : FT.parse l with
  | none =>
    have H := Lib.hid (show pSizeF l = -1 by simp [pSizeF, hp])
    unfold S3Fn at k1
    rw [hp] at k1
    clear hp
    go_enter Tryz.func19, Tryz.ntmps19
    go_wp2_with fail
    refine k1.mono ?_
    rintro e w1 ⟨s1, ao1, n1, c1, a1, rfl, hb1, ht1⟩
    clear ht1 k1
    go_wp2_with fail
    go_ret
    exact ⟨by rw [H.out]; rfl, hb1.alloc _⟩
  | some t =>
    have H := Lib.hid (show pSizeF l = (FT.size t : Nat) by simp [pSizeF, hp])
    have hz := (FT.parse_facts hp).2.1
    unfold S3Fn at k1
    rw [hp] at k1
    clear hp
    go_enter Tryz.func19, Tryz.ntmps19
    go_wp2_with fail
    refine k1.mono ?_
    rintro e w1 ⟨s1, ao1, n1, c1, a1, rfl, hb1, ht1⟩
    have hst := ht1 t rfl
    have k2 := s_fsize _ t (w1.alloc (.cells #[str s1, .slice ao1 n1 c1, .int .i64 a1] 63)) w.heap.size _ (Nat.le_refl _) (by omega) (hst.after (After.new _ _))
    clear ht1 k1 hst
    go_wp2_with fail
    refine k2.mono ?_
    rintro e w2 ⟨rfl, hb2⟩
    go_wp2_with fail
    go_ret
    exact ⟨by rw [H.out]; rfl, (hb1.alloc _).trans hb2⟩

end Go.Proofs.YtjomocjlnjgkeaaGreat

namespace Go.Proofs.YtjomocjlnjgkeaaGreat
open Go.RowKit

set_option maxHeartbeats 1000000
set_option maxRecDepth 100000

theorem law_parity (w : World) (v : Value) (n : Nat) (h : CodeArg w v n) :
    Calls Tryz.prog 4 #[v] w fun e w' => e = .returned (.bool true) ∧ After w w' := by
  obtain ⟨a0, cap, rfl⟩ := h.form
  have hdraw := draw_arity w _ n h
  clear h
  by_cases hbig : (1048576 : Int) < (n : Int)
  · go_enter Tryz.func4, Tryz.ntmps4
    go_wp2_with fail
    go_ret
    exact ⟨rfl, After.refl _⟩
  · go_enter Tryz.func4, Tryz.ntmps4
    go_wp2_with fail
    refine hdraw.mono ?_
    rintro e w1 hd
    obtain ⟨l, rfl, hl, ha⟩ := hd.text
    have hi := fun W => impl_arity W l (by omega)
    have hs := fun W => spec_arity W l (by omega)
    have HA := Lib.hid ha
    unfold IntPost at hi hs
    clear hd hdraw ha
    cases hp : FT.parse l with
    | none =>
      have hb : pArity l = -1 := by simp [pArity, hp]
      simp only [hb] at hi hs
      clear hp hb
      go_wp2_with (first
        | (go_at_call 12; refine (hi _).mono ?_; rintro e w2 ⟨rfl, hb2⟩)
        | (go_at_call 13; refine (hs _).mono ?_; rintro e w3 ⟨rfl, hb3⟩))
      go_ret
      exact ⟨rfl, (HA.out.trans hb2).trans hb3⟩
    | some t =>
      obtain ⟨hok, hz, _⟩ := FT.parse_facts hp
      obtain ⟨m, hm⟩ : ∃ m : Nat, m = FT.arity t := ⟨_, rfl⟩
      have hr : m ≤ 3 := by rw [hm]; exact FT.arity_le hok
      have hb : pArity l = (m : Int) := by simp [pArity, hp, hm]
      simp only [hb] at hi hs
      obtain ⟨c1, c2, hfin, e1, e2⟩ := inc_string l (by omega)
      have hi2 := fun W => impl_arity W (FT.incOf l) (by rw [FT.inc_len]; omega)
      unfold IntPost at hi2
      have hout : pArity (FT.incOf l) = -1 ∨ pArity (FT.incOf l) = (m : Int) := by
        rcases FT.parse_inc hp with h | h
        · left; simp [pArity, h]
        · right; simp [pArity, h, hm, FT.arity]
      rw [hfin] at hi2
      have mi0 : (0 : Int) ≤ (m : Int) := by omega
      have mi3 : (m : Int) ≤ 3 := by omega
      clear hfin hp hb hm hok hz
      rcases hout with hout | hout
      all_goals
        rw [hout] at hi2
        clear hout
        go_wp2_with (first
          | (go_at_call_of 12 c2; refine (hi2 _).mono ?_; rintro e w5 ⟨rfl, hb5⟩)
          | (go_at_call 12; refine (hi _).mono ?_; rintro e w2 ⟨rfl, hb2⟩)
          | (go_at_call 13; refine (hs _).mono ?_; rintro e w3 ⟨rfl, hb3⟩))
        go_ret
        exact ⟨rfl, ((HA.out.trans hb2).trans hb3).trans hb5⟩

theorem law_pfsize (w : World) (v : Value) (n : Nat) (h : CodeArg w v n) :
    Calls Tryz.prog 6 #[v] w fun e w' => e = .returned (.bool true) ∧ After w w' := by
  obtain ⟨a0, cap, rfl⟩ := h.form
  have hdraw := draw_fsize w _ n h
  clear h
  by_cases hbig : (1048576 : Int) < (n : Int)
  · go_enter Tryz.func6, Tryz.ntmps6
    go_wp2_with fail
    go_ret
    exact ⟨rfl, After.refl _⟩
  · go_enter Tryz.func6, Tryz.ntmps6
    go_wp2_with fail
    refine hdraw.mono ?_
    rintro e w1 hd
    obtain ⟨l, rfl, hl, ha⟩ := hd.text
    have hi := fun W => impl_fsize W l (by omega)
    have hs := fun W => spec_fsize W l (by omega)
    have HA := Lib.hid ha
    unfold IntPost at hi hs
    clear hd hdraw ha
    cases hp : FT.parse l with
    | none =>
      have hb : pSizeF l = -1 := by simp [pSizeF, hp]
      simp only [hb] at hi hs
      clear hp hb
      go_wp2_with (first
        | (go_at_call 18; refine (hi _).mono ?_; rintro e w2 ⟨rfl, hb2⟩)
        | (go_at_call 19; refine (hs _).mono ?_; rintro e w3 ⟨rfl, hb3⟩))
      go_ret
      exact ⟨rfl, (HA.out.trans hb2).trans hb3⟩
    | some t =>
      obtain ⟨hok, hz, _⟩ := FT.parse_facts hp
      obtain ⟨m, hm⟩ : ∃ m : Nat, m = FT.size t := ⟨_, rfl⟩
      have hr : 1 ≤ m ∧ m ≤ 40 := by rw [hm]; exact ⟨FT.size_pos t, hz⟩
      have hb : pSizeF l = (m : Int) := by simp [pSizeF, hp, hm]
      simp only [hb] at hi hs
      obtain ⟨c1, c2, hfin, e1, e2⟩ := inc_string l (by omega)
      have hi2 := fun W => impl_fsize W (FT.incOf l) (by rw [FT.inc_len]; omega)
      unfold IntPost at hi2
      have hout : pSizeF (FT.incOf l) = -1 ∨ pSizeF (FT.incOf l) = (m : Int) + 2 := by
        rcases FT.parse_inc hp with h | h
        · left; simp [pSizeF, h]
        · right; simp [pSizeF, h, hm, FT.size]; omega
      rw [hfin] at hi2
      have mi0 : (1 : Int) ≤ (m : Int) := by omega
      have mi3 : (m : Int) ≤ 40 := by omega
      clear hfin hp hb hm hok hz
      rcases hout with hout | hout
      all_goals
        rw [hout] at hi2
        clear hout
        go_wp2_with (first
          | (go_at_call_of 18 c2; refine (hi2 _).mono ?_; rintro e w5 ⟨rfl, hb5⟩)
          | (go_at_call 18; refine (hi _).mono ?_; rintro e w2 ⟨rfl, hb2⟩)
          | (go_at_call 19; refine (hs _).mono ?_; rintro e w3 ⟨rfl, hb3⟩))
        go_ret
        exact ⟨rfl, ((HA.out.trans hb2).trans hb3).trans hb5⟩

end Go.Proofs.YtjomocjlnjgkeaaGreat

namespace Go.Proofs.YtjomocjlnjgkeaaGreat
open Go.RowKit

set_option maxHeartbeats 1000000
set_option maxRecDepth 100000

/-- w is as w0 was, from S on. -/
def Agree (w0 w : World) (S : Nat) : Prop := w0.heap.size ≤ w.heap.size ∧ ∀ k, S ≤ k → k < w0.heap.size → w.heap[k]? = w0.heap[k]?

theorem Agree.grown {w0 w w' : World} {S rb : Nat} (h : Agree w0 w S) (hg : w.grownBy w' (some rb)) (hr : w0.heap.size ≤ rb) : Agree w0 w' S :=
  ⟨Nat.le_trans h.1 hg.size, fun k h1 h2 => (hg.block k (Nat.lt_of_lt_of_le h2 h.1) (fun e => by injection e with e; omega)).trans (h.2 k h1 h2)⟩
theorem Agree.after {w0 w w' : World} {S : Nat} (h : Agree w0 w S) (ha : After w w') : Agree w0 w' S :=
  ⟨Nat.le_trans h.1 ha.size, fun k h1 h2 => (ha.block k (Nat.lt_of_lt_of_le h2 h.1)).trans (h.2 k h1 h2)⟩
theorem Agree.heap {w0 w : World} {S b : Nat} {o : Obj} (h : Agree w0 w S) (hb : S ≤ b) (e : w0.heap[b]? = some o) : w.heap[b]? = some o := (h.2 b hb (Array.getElem?_eq_some_iff.1 e).1).trans e

def Steps (w : World) (rb s : Nat) : Prop := w.heap[rb]? = some (.cells #[.int .i64 (s : Nat)] 70 (0, 0))
theorem Steps.after {w w' : World} {rb s : Nat} (h : Steps w rb s) (ha : After w w') : Steps w' rb s := ha.heap h
theorem Steps.set {w : World} {rb s : Nat} (h : Steps w rb s) (n : Nat) : Steps (w.setCell ⟨rb, 0, none⟩ (.int .i64 (n : Nat))) rb n := by
  unfold Steps at *
  simp [World.setCell, Array.getElem?_modify, h]

/-- A slice of numbers, not in block rb. -/
def IntsV (w : World) (rb : Nat) (sv : Value) (az : List Nat) : Prop :=
  (az = [] ∧ ∃ ao cap, sv = .slice ao 0 cap) ∨ ∃ b o cap, sv = .slice (some ⟨b, o, none⟩) az.length cap ∧ az.length ≤ cap ∧ b ≠ rb ∧ b < w.heap.size ∧ ∀ j, j < az.length → w.cell? ⟨b, o + j, none⟩ = some (.int .i64 (az.getD j 0 : Nat))

theorem IntsV.form {w : World} {rb : Nat} {sv : Value} {az : List Nat} (h : IntsV w rb sv az) : ∃ ao cap, sv = .slice ao az.length cap := by
  rcases h with ⟨rfl, ao, cap, rfl⟩ | ⟨b, o, cap, rfl, _⟩
  · exact ⟨_, _, rfl⟩
  · exact ⟨_, _, rfl⟩
theorem IntsV.grown {w w' : World} {rb : Nat} {sv : Value} {az : List Nat} (h : IntsV w rb sv az) (hg : w.grownBy w' (some rb)) : IntsV w' rb sv az := by
  rcases h with h | ⟨b, o, cap, hv, hl, hne, hb, hc⟩
  · exact Or.inl h
  · refine Or.inr ⟨b, o, cap, hv, hl, hne, Nat.lt_of_lt_of_le hb hg.size, fun j hj => ?_⟩
    have := hg.block b hb (fun e => by injection e with e; exact hne e)
    rw [← hc j hj]
    simp [World.cell?, this]

def ReckPost (w : World) (rb : Nat) (o : Option (Nat × Nat)) (e : Ending) (w' : World) : Prop :=
  w.grownBy w' (some rb) ∧ match o with
    | none => e = .returned (.tuple #[.int .i64 0, .bool false])
    | some (v, s) => e = .returned (.tuple #[.int .i64 (v : Nat), .bool true]) ∧ Steps w' rb s

theorem reck_over (w : World) (rb s : Nat) (v sv : Value) (hv : ∃ b, v = ptr b) (hs : Steps w rb s) (h2 : 2000 < s + 1) (h3 : s ≤ 100000) :
    Calls Tryz.prog 38 #[v, ptr rb, sv] w (ReckPost w rb none) := by
  obtain ⟨b, rfl⟩ := hv
  have c0 : w.cell? ⟨rb, 0, none⟩ = some (.int .i64 (s : Nat)) := cell_of_heap (i := 0) hs
  have f0 : w.frozen? ⟨rb, 0, none⟩ = false := by unfold Steps at hs; simp [World.frozen?, hs]
  have d0 : (w.setCell ⟨rb, 0, none⟩ (.int .i64 ((s : Int) + 1))).cell? ⟨rb, 0, none⟩ = some (.int .i64 ((s : Int) + 1)) := by
    have := cell_of_heap (i := 0) (hs.set (s + 1)); simpa using this
  have h2' : (2000 : Int) < (s : Int) + 1 := by omega
  clear hs h2
  go_enter Tryz.func38, Tryz.ntmps38
  go_wp2_with fail
  go_ret2
  exact ⟨grown_setx _ _ _ _, rfl⟩


theorem reck_zero (w W1 : World) (rb s b : Nat) (sv : Value) (o : Option (Nat × Nat)) (hs : Steps w rb s) (h2 : ¬ 2000 < s + 1) (hW1 : W1 = w.setCell ⟨rb, 0, none⟩ (.int .i64 ((s : Int) + 1)))
    (c4 : W1.cell? ⟨b, 4, none⟩ = some (.func (.func 121) #[] #[])) (hcl : Calls Tryz.prog 121 #[ptr rb, sv] W1 (ReckPost W1 rb o)) (hsm : ∀ v s', o = some (v, s') → v ≤ 100000) :
    Calls Tryz.prog 38 #[ptr b, ptr rb, sv] w (ReckPost w rb (FT.chk o)) := by
  have c0 : w.cell? ⟨rb, 0, none⟩ = some (.int .i64 (s : Nat)) := cell_of_heap (i := 0) hs
  have f0 : w.frozen? ⟨rb, 0, none⟩ = false := by unfold Steps at hs; simp [World.frozen?, hs]
  have hs1 : Steps W1 rb (s + 1) := by have := hs.set (s + 1); rw [hW1]; simpa using this
  have hg1 : w.grownBy W1 (some rb) := by rw [hW1]; exact grown_setx _ _ _ _
  have d0 : W1.cell? ⟨rb, 0, none⟩ = some (.int .i64 ((s : Int) + 1)) := by have := cell_of_heap (i := 0) hs1; simpa using this
  have h2' : ¬ (2000 : Int) < (s : Int) + 1 := by omega
  have hsb : s ≤ 2000 := by omega
  rw [hW1] at d0 c4
  have HW1 := Lib.hid hW1
  have HG1 := Lib.hid hg1
  clear hs hW1 hs1 hg1 h2
  cases o with
  | none =>
    clear hsm
    go_enter Tryz.func38, Tryz.ntmps38
    go_wp2_with fail
    rw [← HW1.out]
    refine hcl.mono ?_
    rintro e w2 ⟨hg2, rfl⟩
    clear hcl
    go_wp2_with fail
    go_ret2
    exact ⟨grown_trans HG1.out hg2, rfl⟩
  | some p =>
    obtain ⟨x, s'⟩ := p
    have hx := hsm x s' rfl
    clear hsm
    by_cases hle : x ≤ 1000
    · have hxi : ¬ (1000 : Int) < (x : Int) := by omega
      have HE := Lib.hid (show FT.chk (some (x, s')) = some (x, s') by simp [FT.chk, hle])
      clear hle
      go_enter Tryz.func38, Tryz.ntmps38
      go_wp2_with fail
      rw [← HW1.out]
      refine hcl.mono ?_
      rintro e w2 ⟨hg2, rfl, hs2⟩
      have HS2 := Lib.hid hs2
      clear hcl hs2
      go_wp2_with fail
      go_ret2
      exact ⟨grown_trans HG1.out hg2, by rw [HE.out]; exact ⟨rfl, HS2.out⟩⟩
    · have hxi : (1000 : Int) < (x : Int) := by omega
      have HE := Lib.hid (show FT.chk (some (x, s')) = none by simp [FT.chk, hle])
      clear hle
      go_enter Tryz.func38, Tryz.ntmps38
      go_wp2_with fail
      rw [← HW1.out]
      refine hcl.mono ?_
      rintro e w2 ⟨hg2, rfl, hs2⟩
      clear hcl hs2
      go_wp2_with fail
      go_ret2
      exact ⟨grown_trans HG1.out hg2, by rw [HE.out]; rfl⟩

theorem reck_next (w W1 : World) (rb s b : Nat) (sv : Value) (o : Option (Nat × Nat)) (hs : Steps w rb s) (h2 : ¬ 2000 < s + 1) (hW1 : W1 = w.setCell ⟨rb, 0, none⟩ (.int .i64 ((s : Int) + 1)))
    (c4 : W1.cell? ⟨b, 4, none⟩ = some (.func (.func 122) #[] #[])) (hcl : Calls Tryz.prog 122 #[ptr rb, sv] W1 (ReckPost W1 rb o)) (hsm : ∀ v s', o = some (v, s') → v ≤ 100000) :
    Calls Tryz.prog 38 #[ptr b, ptr rb, sv] w (ReckPost w rb (FT.chk o)) := by
  have c0 : w.cell? ⟨rb, 0, none⟩ = some (.int .i64 (s : Nat)) := cell_of_heap (i := 0) hs
  have f0 : w.frozen? ⟨rb, 0, none⟩ = false := by unfold Steps at hs; simp [World.frozen?, hs]
  have hs1 : Steps W1 rb (s + 1) := by have := hs.set (s + 1); rw [hW1]; simpa using this
  have hg1 : w.grownBy W1 (some rb) := by rw [hW1]; exact grown_setx _ _ _ _
  have d0 : W1.cell? ⟨rb, 0, none⟩ = some (.int .i64 ((s : Int) + 1)) := by have := cell_of_heap (i := 0) hs1; simpa using this
  have h2' : ¬ (2000 : Int) < (s : Int) + 1 := by omega
  have hsb : s ≤ 2000 := by omega
  rw [hW1] at d0 c4
  have HW1 := Lib.hid hW1
  have HG1 := Lib.hid hg1
  clear hs hW1 hs1 hg1 h2
  cases o with
  | none =>
    clear hsm
    go_enter Tryz.func38, Tryz.ntmps38
    go_wp2_with fail
    rw [← HW1.out]
    refine hcl.mono ?_
    rintro e w2 ⟨hg2, rfl⟩
    clear hcl
    go_wp2_with fail
    go_ret2
    exact ⟨grown_trans HG1.out hg2, rfl⟩
  | some p =>
    obtain ⟨x, s'⟩ := p
    have hx := hsm x s' rfl
    clear hsm
    by_cases hle : x ≤ 1000
    · have hxi : ¬ (1000 : Int) < (x : Int) := by omega
      have HE := Lib.hid (show FT.chk (some (x, s')) = some (x, s') by simp [FT.chk, hle])
      clear hle
      go_enter Tryz.func38, Tryz.ntmps38
      go_wp2_with fail
      rw [← HW1.out]
      refine hcl.mono ?_
      rintro e w2 ⟨hg2, rfl, hs2⟩
      have HS2 := Lib.hid hs2
      clear hcl hs2
      go_wp2_with fail
      go_ret2
      exact ⟨grown_trans HG1.out hg2, by rw [HE.out]; exact ⟨rfl, HS2.out⟩⟩
    · have hxi : (1000 : Int) < (x : Int) := by omega
      have HE := Lib.hid (show FT.chk (some (x, s')) = none by simp [FT.chk, hle])
      clear hle
      go_enter Tryz.func38, Tryz.ntmps38
      go_wp2_with fail
      rw [← HW1.out]
      refine hcl.mono ?_
      rintro e w2 ⟨hg2, rfl, hs2⟩
      clear hcl hs2
      go_wp2_with fail
      go_ret2
      exact ⟨grown_trans HG1.out hg2, by rw [HE.out]; rfl⟩

theorem reck_arg (w W1 : World) (rb s b : Nat) (sv : Value) (q0 : Nat) (o : Option (Nat × Nat)) (hs : Steps w rb s) (h2 : ¬ 2000 < s + 1) (hW1 : W1 = w.setCell ⟨rb, 0, none⟩ (.int .i64 ((s : Int) + 1)))
    (c4 : W1.cell? ⟨b, 4, none⟩ = some (.func (.func 123) #[] #[ptr q0])) (hcl : Calls Tryz.prog 123 #[ptr rb, sv, ptr q0] W1 (ReckPost W1 rb o)) (hsm : ∀ v s', o = some (v, s') → v ≤ 100000) :
    Calls Tryz.prog 38 #[ptr b, ptr rb, sv] w (ReckPost w rb (FT.chk o)) := by
  have c0 : w.cell? ⟨rb, 0, none⟩ = some (.int .i64 (s : Nat)) := cell_of_heap (i := 0) hs
  have f0 : w.frozen? ⟨rb, 0, none⟩ = false := by unfold Steps at hs; simp [World.frozen?, hs]
  have hs1 : Steps W1 rb (s + 1) := by have := hs.set (s + 1); rw [hW1]; simpa using this
  have hg1 : w.grownBy W1 (some rb) := by rw [hW1]; exact grown_setx _ _ _ _
  have d0 : W1.cell? ⟨rb, 0, none⟩ = some (.int .i64 ((s : Int) + 1)) := by have := cell_of_heap (i := 0) hs1; simpa using this
  have h2' : ¬ (2000 : Int) < (s : Int) + 1 := by omega
  have hsb : s ≤ 2000 := by omega
  rw [hW1] at d0 c4
  have HW1 := Lib.hid hW1
  have HG1 := Lib.hid hg1
  clear hs hW1 hs1 hg1 h2
  cases o with
  | none =>
    clear hsm
    go_enter Tryz.func38, Tryz.ntmps38
    go_wp2_with fail
    rw [← HW1.out]
    refine hcl.mono ?_
    rintro e w2 ⟨hg2, rfl⟩
    clear hcl
    go_wp2_with fail
    go_ret2
    exact ⟨grown_trans HG1.out hg2, rfl⟩
  | some p =>
    obtain ⟨x, s'⟩ := p
    have hx := hsm x s' rfl
    clear hsm
    by_cases hle : x ≤ 1000
    · have hxi : ¬ (1000 : Int) < (x : Int) := by omega
      have HE := Lib.hid (show FT.chk (some (x, s')) = some (x, s') by simp [FT.chk, hle])
      clear hle
      go_enter Tryz.func38, Tryz.ntmps38
      go_wp2_with fail
      rw [← HW1.out]
      refine hcl.mono ?_
      rintro e w2 ⟨hg2, rfl, hs2⟩
      have HS2 := Lib.hid hs2
      clear hcl hs2
      go_wp2_with fail
      go_ret2
      exact ⟨grown_trans HG1.out hg2, by rw [HE.out]; exact ⟨rfl, HS2.out⟩⟩
    · have hxi : (1000 : Int) < (x : Int) := by omega
      have HE := Lib.hid (show FT.chk (some (x, s')) = none by simp [FT.chk, hle])
      clear hle
      go_enter Tryz.func38, Tryz.ntmps38
      go_wp2_with fail
      rw [← HW1.out]
      refine hcl.mono ?_
      rintro e w2 ⟨hg2, rfl, hs2⟩
      clear hcl hs2
      go_wp2_with fail
      go_ret2
      exact ⟨grown_trans HG1.out hg2, by rw [HE.out]; rfl⟩

theorem reck_comp (w W1 : World) (rb s b : Nat) (sv : Value) (q0 : Nat) (q1 : Nat) (o : Option (Nat × Nat)) (hs : Steps w rb s) (h2 : ¬ 2000 < s + 1) (hW1 : W1 = w.setCell ⟨rb, 0, none⟩ (.int .i64 ((s : Int) + 1)))
    (c4 : W1.cell? ⟨b, 4, none⟩ = some (.func (.func 129) #[] #[ptr q0, ptr q1])) (hcl : Calls Tryz.prog 129 #[ptr rb, sv, ptr q0, ptr q1] W1 (ReckPost W1 rb o)) (hsm : ∀ v s', o = some (v, s') → v ≤ 100000) :
    Calls Tryz.prog 38 #[ptr b, ptr rb, sv] w (ReckPost w rb (FT.chk o)) := by
  have c0 : w.cell? ⟨rb, 0, none⟩ = some (.int .i64 (s : Nat)) := cell_of_heap (i := 0) hs
  have f0 : w.frozen? ⟨rb, 0, none⟩ = false := by unfold Steps at hs; simp [World.frozen?, hs]
  have hs1 : Steps W1 rb (s + 1) := by have := hs.set (s + 1); rw [hW1]; simpa using this
  have hg1 : w.grownBy W1 (some rb) := by rw [hW1]; exact grown_setx _ _ _ _
  have d0 : W1.cell? ⟨rb, 0, none⟩ = some (.int .i64 ((s : Int) + 1)) := by have := cell_of_heap (i := 0) hs1; simpa using this
  have h2' : ¬ (2000 : Int) < (s : Int) + 1 := by omega
  have hsb : s ≤ 2000 := by omega
  rw [hW1] at d0 c4
  have HW1 := Lib.hid hW1
  have HG1 := Lib.hid hg1
  clear hs hW1 hs1 hg1 h2
  cases o with
  | none =>
    clear hsm
    go_enter Tryz.func38, Tryz.ntmps38
    go_wp2_with fail
    rw [← HW1.out]
    refine hcl.mono ?_
    rintro e w2 ⟨hg2, rfl⟩
    clear hcl
    go_wp2_with fail
    go_ret2
    exact ⟨grown_trans HG1.out hg2, rfl⟩
  | some p =>
    obtain ⟨x, s'⟩ := p
    have hx := hsm x s' rfl
    clear hsm
    by_cases hle : x ≤ 1000
    · have hxi : ¬ (1000 : Int) < (x : Int) := by omega
      have HE := Lib.hid (show FT.chk (some (x, s')) = some (x, s') by simp [FT.chk, hle])
      clear hle
      go_enter Tryz.func38, Tryz.ntmps38
      go_wp2_with fail
      rw [← HW1.out]
      refine hcl.mono ?_
      rintro e w2 ⟨hg2, rfl, hs2⟩
      have HS2 := Lib.hid hs2
      clear hcl hs2
      go_wp2_with fail
      go_ret2
      exact ⟨grown_trans HG1.out hg2, by rw [HE.out]; exact ⟨rfl, HS2.out⟩⟩
    · have hxi : (1000 : Int) < (x : Int) := by omega
      have HE := Lib.hid (show FT.chk (some (x, s')) = none by simp [FT.chk, hle])
      clear hle
      go_enter Tryz.func38, Tryz.ntmps38
      go_wp2_with fail
      rw [← HW1.out]
      refine hcl.mono ?_
      rintro e w2 ⟨hg2, rfl, hs2⟩
      clear hcl hs2
      go_wp2_with fail
      go_ret2
      exact ⟨grown_trans HG1.out hg2, by rw [HE.out]; rfl⟩

theorem reck_rec (w W1 : World) (rb s b : Nat) (sv : Value) (q0 : Nat) (q1 : Nat) (o : Option (Nat × Nat)) (hs : Steps w rb s) (h2 : ¬ 2000 < s + 1) (hW1 : W1 = w.setCell ⟨rb, 0, none⟩ (.int .i64 ((s : Int) + 1)))
    (c4 : W1.cell? ⟨b, 4, none⟩ = some (.func (.func 132) #[] #[ptr q0, ptr q1])) (hcl : Calls Tryz.prog 132 #[ptr rb, sv, ptr q0, ptr q1] W1 (ReckPost W1 rb o)) (hsm : ∀ v s', o = some (v, s') → v ≤ 100000) :
    Calls Tryz.prog 38 #[ptr b, ptr rb, sv] w (ReckPost w rb (FT.chk o)) := by
  have c0 : w.cell? ⟨rb, 0, none⟩ = some (.int .i64 (s : Nat)) := cell_of_heap (i := 0) hs
  have f0 : w.frozen? ⟨rb, 0, none⟩ = false := by unfold Steps at hs; simp [World.frozen?, hs]
  have hs1 : Steps W1 rb (s + 1) := by have := hs.set (s + 1); rw [hW1]; simpa using this
  have hg1 : w.grownBy W1 (some rb) := by rw [hW1]; exact grown_setx _ _ _ _
  have d0 : W1.cell? ⟨rb, 0, none⟩ = some (.int .i64 ((s : Int) + 1)) := by have := cell_of_heap (i := 0) hs1; simpa using this
  have h2' : ¬ (2000 : Int) < (s : Int) + 1 := by omega
  have hsb : s ≤ 2000 := by omega
  rw [hW1] at d0 c4
  have HW1 := Lib.hid hW1
  have HG1 := Lib.hid hg1
  clear hs hW1 hs1 hg1 h2
  cases o with
  | none =>
    clear hsm
    go_enter Tryz.func38, Tryz.ntmps38
    go_wp2_with fail
    rw [← HW1.out]
    refine hcl.mono ?_
    rintro e w2 ⟨hg2, rfl⟩
    clear hcl
    go_wp2_with fail
    go_ret2
    exact ⟨grown_trans HG1.out hg2, rfl⟩
  | some p =>
    obtain ⟨x, s'⟩ := p
    have hx := hsm x s' rfl
    clear hsm
    by_cases hle : x ≤ 1000
    · have hxi : ¬ (1000 : Int) < (x : Int) := by omega
      have HE := Lib.hid (show FT.chk (some (x, s')) = some (x, s') by simp [FT.chk, hle])
      clear hle
      go_enter Tryz.func38, Tryz.ntmps38
      go_wp2_with fail
      rw [← HW1.out]
      refine hcl.mono ?_
      rintro e w2 ⟨hg2, rfl, hs2⟩
      have HS2 := Lib.hid hs2
      clear hcl hs2
      go_wp2_with fail
      go_ret2
      exact ⟨grown_trans HG1.out hg2, by rw [HE.out]; exact ⟨rfl, HS2.out⟩⟩
    · have hxi : (1000 : Int) < (x : Int) := by omega
      have HE := Lib.hid (show FT.chk (some (x, s')) = none by simp [FT.chk, hle])
      clear hle
      go_enter Tryz.func38, Tryz.ntmps38
      go_wp2_with fail
      rw [← HW1.out]
      refine hcl.mono ?_
      rintro e w2 ⟨hg2, rfl, hs2⟩
      clear hcl hs2
      go_wp2_with fail
      go_ret2
      exact ⟨grown_trans HG1.out hg2, by rw [HE.out]; rfl⟩

theorem reck_sea (w W1 : World) (rb s b : Nat) (sv : Value) (q0 : Nat) (o : Option (Nat × Nat)) (hs : Steps w rb s) (h2 : ¬ 2000 < s + 1) (hW1 : W1 = w.setCell ⟨rb, 0, none⟩ (.int .i64 ((s : Int) + 1)))
    (c4 : W1.cell? ⟨b, 4, none⟩ = some (.func (.func 134) #[] #[ptr q0])) (hcl : Calls Tryz.prog 134 #[ptr rb, sv, ptr q0] W1 (ReckPost W1 rb o)) (hsm : ∀ v s', o = some (v, s') → v ≤ 100000) :
    Calls Tryz.prog 38 #[ptr b, ptr rb, sv] w (ReckPost w rb (FT.chk o)) := by
  have c0 : w.cell? ⟨rb, 0, none⟩ = some (.int .i64 (s : Nat)) := cell_of_heap (i := 0) hs
  have f0 : w.frozen? ⟨rb, 0, none⟩ = false := by unfold Steps at hs; simp [World.frozen?, hs]
  have hs1 : Steps W1 rb (s + 1) := by have := hs.set (s + 1); rw [hW1]; simpa using this
  have hg1 : w.grownBy W1 (some rb) := by rw [hW1]; exact grown_setx _ _ _ _
  have d0 : W1.cell? ⟨rb, 0, none⟩ = some (.int .i64 ((s : Int) + 1)) := by have := cell_of_heap (i := 0) hs1; simpa using this
  have h2' : ¬ (2000 : Int) < (s : Int) + 1 := by omega
  have hsb : s ≤ 2000 := by omega
  rw [hW1] at d0 c4
  have HW1 := Lib.hid hW1
  have HG1 := Lib.hid hg1
  clear hs hW1 hs1 hg1 h2
  cases o with
  | none =>
    clear hsm
    go_enter Tryz.func38, Tryz.ntmps38
    go_wp2_with fail
    rw [← HW1.out]
    refine hcl.mono ?_
    rintro e w2 ⟨hg2, rfl⟩
    clear hcl
    go_wp2_with fail
    go_ret2
    exact ⟨grown_trans HG1.out hg2, rfl⟩
  | some p =>
    obtain ⟨x, s'⟩ := p
    have hx := hsm x s' rfl
    clear hsm
    by_cases hle : x ≤ 1000
    · have hxi : ¬ (1000 : Int) < (x : Int) := by omega
      have HE := Lib.hid (show FT.chk (some (x, s')) = some (x, s') by simp [FT.chk, hle])
      clear hle
      go_enter Tryz.func38, Tryz.ntmps38
      go_wp2_with fail
      rw [← HW1.out]
      refine hcl.mono ?_
      rintro e w2 ⟨hg2, rfl, hs2⟩
      have HS2 := Lib.hid hs2
      clear hcl hs2
      go_wp2_with fail
      go_ret2
      exact ⟨grown_trans HG1.out hg2, by rw [HE.out]; exact ⟨rfl, HS2.out⟩⟩
    · have hxi : (1000 : Int) < (x : Int) := by omega
      have HE := Lib.hid (show FT.chk (some (x, s')) = none by simp [FT.chk, hle])
      clear hle
      go_enter Tryz.func38, Tryz.ntmps38
      go_wp2_with fail
      rw [← HW1.out]
      refine hcl.mono ?_
      rintro e w2 ⟨hg2, rfl, hs2⟩
      clear hcl hs2
      go_wp2_with fail
      go_ret2
      exact ⟨grown_trans HG1.out hg2, by rw [HE.out]; rfl⟩

/-! ### the closures of words -/

theorem clo_zero (w : World) (rb s : Nat) (sv : Value) (hs : Steps w rb s) : Calls Tryz.prog 121 #[ptr rb, sv] w (ReckPost w rb (some (0, s))) := by
  have HS := Lib.hid hs
  clear hs
  go_enter Tryz.func121, Tryz.ntmps121
  go_wp2_with fail
  go_ret2
  exact ⟨World.grownBy.refl _ _, rfl, HS.out⟩

theorem clo_next (w : World) (rb s x : Nat) (sv : Value) (hs : Steps w rb s) (hv : IntsV w rb sv [x]) (hx : x ≤ 10000) : Calls Tryz.prog 122 #[ptr rb, sv] w (ReckPost w rb (some (x + 1, s))) := by
  have HS := Lib.hid hs
  rcases hv with ⟨h, _⟩ | ⟨b, o, cap, rfl, hl, hne, hb, hc⟩
  · cases h
  have hc0 := hc 0 (by simp)
  rw [Nat.add_zero] at hc0
  have hc0' : w.cell? ⟨b, o, none⟩ = some (.int .i64 (x : Nat)) := hc0
  clear hs hc hc0
  simp only [List.length_singleton]
  go_enter Tryz.func122, Tryz.ntmps122
  go_wp2_with fail
  go_ret2
  refine ⟨World.grownBy.refl _ _, ?_, HS.out⟩
  rw [show ((x + 1 : Nat) : Int) = (x : Int) + 1 by omega]
  rfl

theorem clo_arg (w : World) (rb s i q : Nat) (az : List Nat) (sv : Value) (hs : Steps w rb s) (hv : IntsV w rb sv az) (hi : i < az.length) (hq : w.heap[q]? = some (.cells #[.int .i64 (i : Nat)] 3 (0, 0))) :
    Calls Tryz.prog 123 #[ptr rb, sv, ptr q] w (ReckPost w rb (some (az.getD i 0, s))) := by
  have HS := Lib.hid hs
  rcases hv with ⟨h, _⟩ | ⟨b, o, cap, rfl, hl, hne, hb, hc⟩
  · rw [h] at hi; simp at hi
  have hc0 := hc i hi
  have q0 : w.cell? ⟨q, 0, none⟩ = some (.int .i64 (i : Nat)) := cell_of_heap (i := 0) hq
  have hii : (i : Int) < (az.length : Int) := by omega
  generalize hx : az.getD i 0 = x at *
  generalize az.length = n at *
  clear hs hc hq hx
  go_enter Tryz.func123, Tryz.ntmps123
  go_wp2_with fail
  go_ret2
  exact ⟨World.grownBy.refl _ _, rfl, HS.out⟩
end Go.Proofs.YtjomocjlnjgkeaaGreat
