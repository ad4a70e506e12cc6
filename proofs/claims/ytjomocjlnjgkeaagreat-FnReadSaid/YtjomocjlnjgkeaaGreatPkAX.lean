/-
  The model's exported functions StepMany, TermNormal, NormalOf.
-/
import Derived.Test.YtjomocjlnjgkeaaGreatPkAJ
import Derived.Test.YtjomocjlnjgkeaaGreatPkAQ
import Derived.Test.YtjomocjlnjgkeaaGreatPkAN
import Derived.Test.YtjomocjlnjgkeaaGreatPkAW
import Derived.Test.YtjomocjlnjgkeaaGreatPkAU
import Derived.Test.YtjomocjlnjgkeaaGreatPkAV
import Derived.Test.YtjomocjlnjgkeaaGreatPkAS
namespace Go.Proofs.YtjomocjlnjgkeaaGreat
open Go.RowKit

set_option maxHeartbeats 1000000
set_option maxRecDepth 100000

def SNum (w : World) (r : Option (List UInt8 × Nat)) (e : Ending) (w' : World) : Prop :=
  e = .returned (.tuple #[str ((r.map Prod.fst).getD []), .int .i64 (((r.map Prod.snd).getD 0 : Nat) : Int), .bool r.isSome]) ∧ After w w'

end Go.Proofs.YtjomocjlnjgkeaaGreat

namespace Go.Proofs.YtjomocjlnjgkeaaGreat
open Go.RowKit

set_option maxHeartbeats 1000000
set_option maxRecDepth 100000

def bitX (x : List UInt8) : Option Nat := if x = Tm.text .k then some 1 else if x = Tm.text Tm.no then some 0 else none
def pBit (l : List UInt8) : Option Nat := match Tm.pNorm l with | some (x, _) => bitX x | none => none

def BitRes (w : World) (r : Option Nat) (e : Ending) (w' : World) : Prop := e = .returned (.tuple #[.int .i64 ((r.getD 0 : Nat) : Int), .bool r.isSome]) ∧ Below w.heap.size w w'

theorem text_k (W : World) (v : Value) (h : TV W 0 .k v) : Calls Tryz.prog 32 #[v] W fun e w' => e = .returned (str (Tm.text .k)) ∧ Below W.heap.size W w' := textOf_any W 0 .k v h rfl (by decide)
theorem text_no (W : World) (v : Value) (h : TV W 0 Tm.no v) : Calls Tryz.prog 32 #[v] W fun e w' => e = .returned (str (Tm.text Tm.no)) ∧ Below W.heap.size W w' := textOf_any W 0 Tm.no v h rfl (by decide)

theorem pBit_norm (l : List UInt8) : pBit l = (Tm.normOf l).bind fun u => bitX u.text := by
  unfold pBit Tm.pNorm Tm.normOf
  cases Tm.parse l with
  | none => rfl
  | some t =>
    simp only
    cases t.norm with
    | none => rfl
    | some p => rfl

def SBit (w : World) (r : Option Nat) (e : Ending) (w' : World) : Prop := e = .returned (.tuple #[.int .i64 ((r.getD 0 : Nat) : Int), .bool r.isSome]) ∧ After w w'

theorem stext_k (W : World) (v : Value) (h : ST W .k v) : Calls Tryz.prog 42 #[v] W fun e w' => e = .returned (str (Tm.text .k)) ∧ After W w' := h.text rfl (by decide)
theorem stext_no (W : World) (v : Value) (h : ST W Tm.no v) : Calls Tryz.prog 42 #[v] W fun e w' => e = .returned (str (Tm.text Tm.no)) ∧ After W w' := h.text rfl (by decide)

end Go.Proofs.YtjomocjlnjgkeaaGreat

namespace Go.Proofs.YtjomocjlnjgkeaaGreat
open Go.RowKit

set_option maxHeartbeats 1000000
set_option maxRecDepth 100000

namespace Tm
theorem behind_is {F : Tm} {t a : Tm} (hF : F.good = true) (hg : t.good = true) (h : behind F.text t = some a) : t = app F a := by
  cases t with
  | app f b =>
    simp only [behind] at h
    split at h
    · rename_i he
      obtain rfl := Option.some.inj h
      simp only [good, Bool.and_eq_true] at hg
      rw [text_inj hg.1 hF he]
    · cases h
  | _ => simp [behind] at h

theorem parts_pair {t m n : Tm} (h : t.parts = some (m, n)) (hg : t.good = true) : t = pair m n := by
  cases t with
  | app x y =>
    have hg' := hg
    simp only [good, Bool.and_eq_true] at hg'
    simp only [parts] at h
    split at h
    · simp at h
    · rename_i n' e1
      split at h
      · simp at h
      · rename_i left e2
        split at h
        · simp at h
        · rename_i front e3
          split at h
          · simp at h
          · rename_i m' e4
            simp only [Option.some.injEq, Prod.mk.injEq] at h
            obtain ⟨rfl, rfl⟩ := h
            have g1 := behind_is (F := k) rfl hg'.2 e1
            have g2 := behind_is (F := s) rfl hg'.1 e2
            subst g1
            subst g2
            simp only [good, Bool.and_eq_true] at hg'
            have g3 := behind_is (F := app s I) rfl hg'.1.2 e3
            subst g3
            simp only [good, Bool.and_eq_true] at hg'
            have g4 := behind_is (F := k) rfl hg'.1.2.2 e4
            subst g4
            rfl
  | _ => simp [parts] at h

theorem parts_facts {l a b : List UInt8} (h : pParts l = some (a, b)) : pPair a b = some l ∧ a.length ≤ 21000 ∧ b.length ≤ 21000 := by
  unfold pParts at h
  cases hp : parse l with
  | none => rw [hp] at h; simp at h
  | some t =>
    rw [hp] at h
    obtain ⟨rfl, hg, hf⟩ := parse_text_iff hp
    simp only [Option.map_eq_some_iff] at h
    obtain ⟨⟨m, n⟩, hm, he⟩ := h
    simp only [Prod.mk.injEq] at he
    obtain ⟨rfl, rfl⟩ := he
    have ht := parts_pair hm hg
    obtain ⟨gm, gn, _, _⟩ := parts_good hm hg
    have hs := fits_size hf
    rw [ht] at hs
    simp only [pair, I, size, depth] at hs
    have fm : m.fits = true := by simp only [fits, Bool.and_eq_true, decide_eq_true_eq]; omega
    have fn : n.fits = true := by simp only [fits, Bool.and_eq_true, decide_eq_true_eq]; omega
    refine ⟨?_, (parse_facts (parse_text gm fm)).2.2.2.2, (parse_facts (parse_text gn fn)).2.2.2.2⟩
    unfold pPair
    rw [parse_text gm fm, parse_text gn fn]
    simp only
    rw [← ht, if_pos hf]

theorem rd_num : ∀ (f : Nat) {t : Tm} {n : Nat}, t.good = true → rd f t = some n → t = num n ∧ n < f
  | 0, _, _, _, h => by simp [rd] at h
  | f + 1, t, n, hg, h => by
    simp only [rd] at h
    split at h
    · rename_i he
      obtain rfl := Option.some.inj h
      exact ⟨text_inj hg rfl he, by omega⟩
    · split at h
      · rename_i m r hp
        split at h
        · rename_i hm
          simp only [Option.map_eq_some_iff] at h
          obtain ⟨j, hj, rfl⟩ := h
          obtain ⟨gm, gr, _, _⟩ := parts_good hp hg
          obtain ⟨h1, h2⟩ := rd_num f gr hj
          have ht := parts_pair hp hg
          rw [text_inj gm rfl hm, h1] at ht
          exact ⟨ht, by omega⟩
        · cases h
      · cases h

theorem numread_star {l : List UInt8} {n : Nat} (h : pNumRead l = some n) : ∃ t, parse l = some t ∧ Star t (num n) ∧ n ≤ 60 := by
  unfold pNumRead normOf at h
  cases hp : parse l with
  | none => rw [hp] at h; simp at h
  | some t =>
    rw [hp] at h
    obtain ⟨rfl, hg, hf⟩ := parse_text_iff hp
    simp only [Option.bind_eq_some_iff, Option.map_eq_some_iff] at h
    obtain ⟨u, ⟨⟨u', j⟩, hu, rfl⟩, hr⟩ := h
    obtain ⟨h1, h2⟩ := rd_num 61 (norm_good hu hg hf).1 hr
    have := (norm_star hu).1
    rw [h1] at this
    exact ⟨t, rfl, this, by omega⟩

theorem numread_of {t : Tm} {n m : Nat} (hg : t.good = true) (hs : Star t (num n)) (h : pNumRead t.text = some m) : m = n := by
  unfold pNumRead normOf at h
  cases hp : parse t.text with
  | none => rw [hp] at h; simp at h
  | some t' =>
    rw [hp] at h
    obtain ⟨rfl, hf⟩ := parse_of_text hg hp
    simp only [Option.bind_eq_some_iff, Option.map_eq_some_iff] at h
    obtain ⟨u, ⟨⟨u', j⟩, hu, rfl⟩, hr⟩ := h
    obtain ⟨h1, h2⟩ := rd_num 61 (norm_good hu hg hf).1 hr
    have := norm_unique hu hs (num_normal n)
    exact num_inj (h1.symm.trans this)

theorem read_up {l : List UInt8} {n : Nat} (h : pNumRead l = some n) : n ≤ 60 ∧ (∀ m, pNumRead (40 :: (succ.text ++ 32 :: (l ++ [41]))) = some m → m = n + 1) ∧
    (∀ m, pNumRead (40 :: (pred.text ++ 32 :: ((40 :: (succ.text ++ 32 :: (l ++ [41]))) ++ [41]))) = some m → m = n) := by
  obtain ⟨t, ht, hs, hn⟩ := numread_star h
  obtain ⟨rfl, hg, hf⟩ := parse_text_iff ht
  have h1 : Star (app succ t) (num (n + 1)) := ((Star.refl succ).app hs).trans (succ_star n)
  have h2 : Star (app pred (app succ t)) (num n) := ((Star.refl pred).app h1).trans (pred_star n)
  have gs : succ.good = true := by decide +kernel
  have gp : pred.good = true := by decide +kernel
  refine ⟨hn, fun m hm => numread_of (t := app succ t) (by simp [good, gs, hg]) h1 hm, fun m hm => numread_of (t := app pred (app succ t)) (by simp [good, gs, gp, hg]) h2 hm⟩

theorem bit_choice {l : List UInt8} {b : Nat} (h : pBit l = some b) : (b = 1 ∨ b = 0) ∧ ∀ x j, pNorm (40 :: ((40 :: (l ++ 32 :: ([120] ++ [41]))) ++ 32 :: ([121] ++ [41]))) = some (x, j) → x = if b = 1 then [120] else [121] := by
  unfold pBit pNorm at h
  cases hp : parse l with
  | none => rw [hp] at h; simp at h
  | some t =>
    rw [hp] at h
    obtain ⟨rfl, hg, hf⟩ := parse_text_iff hp
    cases hu : norm t with
    | none => simp [hu] at h
    | some q =>
      obtain ⟨u, i⟩ := q
      simp only [hu, Option.map_some] at h
      have hs := (norm_star hu).1
      have gu := (norm_good hu hg hf).1
      unfold bitX at h
      have hall : ∀ (c : Bool) (v : Tm), Star (app (app t X) Y) v → step v = none → ∀ x j, pNorm (app (app t X) Y).text = some (x, j) → x = v.text := by
        intro c v hv hn x j hx
        unfold pNorm at hx
        cases hq : parse (app (app t X) Y).text with
        | none => rw [hq] at hx; simp at hx
        | some t' =>
          rw [hq] at hx
          obtain ⟨rfl, _⟩ := parse_of_text (t := app (app t X) Y) (by simp [good, hg, X, Y, nameOk, lead]) hq
          simp only [Option.map_eq_some_iff] at hx
          obtain ⟨⟨a, i'⟩, ha, he⟩ := hx
          simp only [Prod.mk.injEq] at he
          obtain ⟨rfl, rfl⟩ := he
          rw [norm_unique ha hv hn]
      split at h
      · rename_i he
        obtain rfl := Option.some.inj h
        have e : u = k := text_inj gu rfl he
        rw [e] at hs
        exact ⟨Or.inl rfl, hall true X (((hs.app (.refl X)).app (.refl Y)).trans (star_k X Y)) (by decide +kernel)⟩
      · split at h
        · rename_i he
          obtain rfl := Option.some.inj h
          have e : u = no := text_inj gu rfl he
          rw [e] at hs
          refine ⟨Or.inr rfl, hall false Y (((hs.app (.refl X)).app (.refl Y)).trans (((star_k I X).app (.refl Y)).trans (star_i Y))) (by decide +kernel)⟩
        · cases h
end Tm

theorem law_pread (w : World) (v : Value) (n : Nat) (h : CodeArg w v n) :
    Calls Tryz.prog 3 #[v] w fun e w' => e = .returned (.bool true) ∧ After w w' := by
  obtain ⟨a0, cap, rfl⟩ := h.form
  have hdraw := draw_numread w _ n h
  clear h
  by_cases hbig : (1048576 : Int) < (n : Int)
  · go_enter Tryz.func3, Tryz.ntmps3
    go_wp2_with fail
    go_ret
    exact ⟨rfl, After.refl _⟩
  · go_enter Tryz.func3, Tryz.ntmps3
    go_wp2_with fail
    refine hdraw.mono ?_
    rintro e w1 hd
    obtain ⟨l, rfl, hl, ha⟩ := hd.text
    have hi := fun W => impl_numread W l (by omega)
    have hs := fun W => spec_numread W l (by omega)
    unfold IntRes at hi
    unfold SInt at hs
    have HA := Lib.hid ha
    clear hd hdraw ha
    cases hb : pNumRead l with
    | none =>
      simp only [hb] at hi hs
      clear hb
      go_wp2_with (first
        | (go_at_call 8; refine (hi _).mono ?_; rintro e w2 ⟨rfl, hb2⟩)
        | (go_at_call 9; refine (hs _).mono ?_; rintro e w3 ⟨rfl, hb3⟩))
      go_ret
      exact ⟨by simp, (HA.out.trans hb2).trans hb3⟩
    | some k =>
      obtain ⟨hk, f1, f2⟩ := Tm.read_up hb
      simp only [hb] at hi hs
      have hsu := fun W => impl_data W [115, 117, 99, 99]
      have hpr := fun W => impl_data W [112, 114, 101, 100]
      unfold NumOne at hsu hpr
      simp only [show pData [115, 117, 99, 99] = some Tm.succ.text from rfl] at hsu
      simp only [show pData [112, 114, 101, 100] = some Tm.pred.text from rfl] at hpr
      have hx1 : Tm.succ.text.length ≤ 1000 := by decide +kernel
      have hx2 : Tm.pred.text.length ≤ 1000 := by decide +kernel
      generalize Tm.succ.text = x at *
      generalize Tm.pred.text = y at *
      obtain ⟨L, hL⟩ : ∃ L : List UInt8, L = 40 :: (x ++ 32 :: (l ++ [41])) := ⟨_, rfl⟩
      obtain ⟨M, hM⟩ : ∃ M : List UInt8, M = 40 :: (y ++ 32 :: (L ++ [41])) := ⟨_, rfl⟩
      rw [← hL] at f1 f2
      rw [← hM] at f2
      have hlen : L.length ≤ 200000 := by rw [hL]; simp; omega
      have hlen2 : M.length ≤ 300000 := by rw [hM]; simp; omega
      have hn1 := fun W => impl_numread W L (by omega)
      have hn2 := fun W => impl_numread W M (by omega)
      unfold IntRes at hn1 hn2
      have zl := ssize l
      have zx := ssize x
      have zy := ssize y
      have q1 : (⟨#[40]⟩ : ByteArray).size = 1 := rfl
      have q2 : (⟨#[32]⟩ : ByteArray).size = 1 := rfl
      have q3 : (⟨#[41]⟩ : ByteArray).size = 1 := rfl
      have q4 : (⟨#[32, 40]⟩ : ByteArray).size = 2 := rfl
      have q5 : (⟨#[41, 41]⟩ : ByteArray).size = 2 := rfl
      obtain ⟨c1, d1, z1, e1⟩ := cat ⟨#[40]⟩ ⟨x.toArray⟩ (by omega)
      obtain ⟨c2, d2, z2, e2⟩ := cat c1 ⟨#[32]⟩ (by omega)
      obtain ⟨c3, d3, z3, e3⟩ := cat c2 ⟨l.toArray⟩ (by omega)
      obtain ⟨c4, d4, z4, e4⟩ := cat c3 ⟨#[41]⟩ (by omega)
      obtain ⟨b1, g1, y1, i1⟩ := cat ⟨#[40]⟩ ⟨y.toArray⟩ (by omega)
      obtain ⟨b2, g2, y2, i2⟩ := cat b1 ⟨#[32, 40]⟩ (by omega)
      obtain ⟨b3, g3, y3, i3⟩ := cat b2 ⟨x.toArray⟩ (by omega)
      obtain ⟨b4, g4, y4, i4⟩ := cat b3 ⟨#[32]⟩ (by omega)
      obtain ⟨b5, g5, y5, i5⟩ := cat b4 ⟨l.toArray⟩ (by omega)
      obtain ⟨b6, g6, y6, i6⟩ := cat b5 ⟨#[41, 41]⟩ (by omega)
      have hfin : str L = .string c4 := by
        refine congrArg Value.string (ByteArray.ext (Array.ext' ?_))
        rw [d4, d3, d2, d1, hL]
        simp
      have hfin2 : str M = .string b6 := by
        refine congrArg Value.string (ByteArray.ext (Array.ext' ?_))
        rw [g6, g5, g4, g3, g2, g1, hM, hL]
        simp
      rw [hfin] at hn1
      rw [hfin2] at hn2
      clear hfin hfin2 d1 d2 d3 d4 z1 z2 z3 z4 g1 g2 g3 g4 g5 g6 y1 y2 y3 y4 y5 y6 hL hM hb hlen hlen2 zl zx zy q1 q2 q3 q4 q5 hx1 hx2
      have hv1 : (pNumRead L).isSome = false ∨ pNumRead L = some (k + 1) := by
        cases hq : pNumRead L with
        | none => exact Or.inl rfl
        | some m => exact Or.inr (by rw [f1 m hq])
      have hv2 : (pNumRead M).isSome = false ∨ pNumRead M = some k := by
        cases hq : pNumRead M with
        | none => exact Or.inl rfl
        | some m => exact Or.inr (by rw [f2 m hq])
      clear f1 f2
      generalize pNumRead L = o1 at *
      generalize pNumRead M = o2 at *
      rcases hv1 with hv1 | hv1 <;> rcases hv2 with hv2 | hv2 <;> simp only [hv1] at hn1 <;> simp only [hv2] at hn2 <;> clear hv1 hv2
      all_goals
        go_wp2_with (first
          | (go_at_call 8; refine (hi _).mono ?_; rintro e w2 ⟨rfl, hb2⟩)
          | (go_at_call 9; refine (hs _).mono ?_; rintro e w3 ⟨rfl, hb3⟩))
        refine (hsu _).mono ?_
        rintro e w4 ⟨rfl, hb4⟩
        go_wp2_with fail
        refine (hpr _).mono ?_
        rintro e w5 ⟨rfl, hb5⟩
        go_wp2_with (first
          | (go_at_call_of 8 c4; refine (hn1 _).mono ?_; rintro e w6 ⟨rfl, hb6⟩)
          | (go_at_call_of 8 b6; refine (hn2 _).mono ?_; rintro e w7 ⟨rfl, hb7⟩))
        go_ret
        exact ⟨by simp, (((((HA.out.trans hb2).trans hb3).trans hb4).trans hb5).trans hb6).trans hb7⟩
end Go.Proofs.YtjomocjlnjgkeaaGreat
