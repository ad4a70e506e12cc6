/-
  The walk of the promise's law FnValue: values go on by function texts.
-/
import Derived.Test.YtjomocjlnjgkeaaGreatPkBM
import Derived.Test.YtjomocjlnjgkeaaGreatPkBJ
import Derived.Test.YtjomocjlnjgkeaaGreatPkBO
namespace Go.Proofs.YtjomocjlnjgkeaaGreat
open Go.RowKit

set_option maxHeartbeats 1000000
set_option maxRecDepth 100000

/-- A drawn function text with numbers. -/
def DrawArgs (w : World) (e : Ending) (w' : World) : Prop := ∃ (l : List UInt8) (sv : Value) (zs : List Int), e = .returned (.tuple #[str l, sv]) ∧ l.length ≤ 100000 ∧ IntsZ w' sv zs ∧ zs.length ≤ 4 ∧ After w w'

theorem text_of (s : ByteArray) : ∃ l : List UInt8, (.string s : Value) = str l ∧ l.length = s.size := by
  refine ⟨s.data.toList, ?_, ?_⟩
  · exact congrArg Value.string (ByteArray.ext (Array.ext' rfl))
  · show s.data.toList.length = s.data.size; simp

theorem draw_pvalue (w : World) (v : Value) (n : Nat) (h : CodeArg w v n) : Calls Tryz.prog 14 #[v] w (DrawArgs w) := by
  have hopen := open_any w v n h
  clear h
  go_enter Tryz.func14, Tryz.ntmps14
  go_wp2_with fail
  refine hopen.mono ?_
  rintro e w1 ⟨rb, rfl, hr, ha, hd⟩
  have hfs := functions_any w1 rb 0 hd (by omega)
  clear hopen hd
  go_wp2_with fail
  refine hfs.mono ?_
  rintro e w2 ⟨s, q, rfl, hs, hq, hg, hd⟩
  obtain ⟨vc, hdr, hco⟩ := hd
  obtain ⟨l, hsl, hll⟩ := text_of s
  rw [hsl]
  have hargs := args_any w2 rb q 6 vc l hdr hco (by omega) (by omega) (by omega) (by omega)
  clear hfs hdr hco hsl
  go_wp2_with fail
  refine hargs.mono ?_
  rintro e w3 ⟨sv, zs, q3, rfl, hz, hzl, hq3, hg3, hd3⟩
  have HZ := Lib.hid hz
  obtain ⟨ao, cap, rfl⟩ := hz.form
  clear hargs hd3 hz
  go_wp2_with fail
  go_ret2
  exact ⟨l, _, zs, rfl, by omega, HZ.out, hzl, after_open ha (grown_trans hg hg3) hr⟩

theorem value_facts {l : List UInt8} {zs : List Int} {v s : Nat} (h : FT.pValue l zs = some (v, s)) : v ≤ 1000 ∧ 1 ≤ s ∧ s ≤ 2000 ∧ (FT.pValue (FT.incOf l) zs = none ∨ FT.pValue (FT.incOf l) zs = some (v + 1, s + 2)) := by
  unfold FT.pValue at h ⊢
  cases hp : FT.parse l with
  | none => rw [hp] at h; simp at h
  | some t =>
    rw [hp] at h
    simp only at h
    split at h
    · rename_i hc
      have hr := (FT.ev_runs t (zs.map Int.toNat) 0).small _ _ h
      refine ⟨hr.1, by omega, hr.2.2, ?_⟩
      rcases FT.parse_inc hp with hi | hi
      · left; rw [hi]
      · rw [hi]
        have har : FT.arity (.c1 .inc t) = FT.arity t := rfl
        simp only [har]
        rw [if_pos hc]
        simp only [FT.ev]
        rw [if_neg (by omega)]
        cases h1 : FT.ev t (zs.map Int.toNat) (0 + 1) with
        | none => left; rfl
        | some q =>
          obtain ⟨x, s1⟩ := q
          obtain ⟨rfl, rfl⟩ := FT.ev_shift t _ 0 1 _ _ _ _ h h1
          simp only [List.headD_cons]
          by_cases hb : 2000 < s + 1 + 1
          · left; rw [if_pos hb]; rfl
          · rw [if_neg hb]
            by_cases hx : x + 1 ≤ 1000
            · right
              simp [FT.chk, hx]
            · left
              simp [FT.chk, hx]
    · cases h

theorem law_pvalue (w : World) (v : Value) (n : Nat) (h : CodeArg w v n) :
    Calls Tryz.prog 5 #[v] w fun e w' => e = .returned (.bool true) ∧ After w w' := by
  obtain ⟨a0, cap, rfl⟩ := h.form
  have hdraw := draw_pvalue w _ n h
  clear h
  by_cases hbig : (1048576 : Int) < (n : Int)
  · go_enter Tryz.func5, Tryz.ntmps5
    go_wp2_with fail
    go_ret
    exact ⟨rfl, After.refl _⟩
  · go_enter Tryz.func5, Tryz.ntmps5
    go_wp2_with fail
    refine hdraw.mono ?_
    rintro e w1 ⟨l, sv, zs, rfl, hl, hz, hzl, ha⟩
    have hi := fun W (hW : After w1 W) => (impl_value W l (by omega) sv zs (hz.after hW) (by omega)).mono fun e w' h => h.one
    have hs := fun W (hW : After w1 W) => (spec_value W l (by omega) sv zs (hz.after hW) (by omega)).mono fun e w' h => h.one
    have hi2 := fun W (hW : After w1 W) => (impl_value W (FT.incOf l) (by rw [FT.inc_len]; omega) sv zs (hz.after hW) (by omega)).mono fun e w' h => h.one
    obtain ⟨c1, c2, hfin, e1, e2⟩ := inc_string l (by omega)
    rw [hfin] at hi2
    have HA := Lib.hid ha
    obtain ⟨ao, capv, rfl⟩ := hz.form
    generalize zs.length = zl at *
    cases hp : FT.pValue l zs with
    | none =>
      rw [hp] at hi hs
      simp only [Option.getD_none, Option.isSome_none] at hi hs
      have HI := Lib.hid hi
      have HS := Lib.hid hs
      clear hi hs hi2 hdraw ha hz hfin hp
      go_wp2_with fail
      refine (HI.out w1 (After.refl _)).mono ?_
      rintro e w2 ⟨rfl, hb2⟩
      go_wp2_with fail
      refine (HS.out w2 hb2).mono ?_
      rintro e w3 ⟨rfl, hb3⟩
      go_wp2_with fail
      go_ret
      exact ⟨rfl, HA.out.trans (hb2.trans hb3)⟩
    | some q =>
      obtain ⟨x, s⟩ := q
      obtain ⟨f1, f2, f3, f4⟩ := value_facts hp
      rw [hp] at hi hs
      simp only [Option.getD_some, Option.isSome_some] at hi hs
      have HI := Lib.hid hi
      have HS := Lib.hid hs
      have g1 : (0 : Int) ≤ (x : Int) := by omega
      have g2 : (1 : Int) ≤ (s : Int) := by omega
      rcases f4 with f4 | f4
      · rw [f4] at hi2
        simp only [Option.getD_none, Option.isSome_none] at hi2
        have HI2 := Lib.hid hi2
        clear hi hs hi2 hdraw ha hz hfin hp f4
        go_wp2_with fail
        refine (HI.out w1 (After.refl _)).mono ?_
        rintro e w2 ⟨rfl, hb2⟩
        go_wp2_with fail
        refine (HS.out w2 hb2).mono ?_
        rintro e w3 ⟨rfl, hb3⟩
        go_wp2_with fail
        refine (HI2.out w3 (hb2.trans hb3)).mono ?_
        rintro e w4 ⟨rfl, hb4⟩
        go_wp2_with fail
        go_ret
        exact ⟨rfl, HA.out.trans ((hb2.trans hb3).trans hb4)⟩
      · rw [f4] at hi2
        simp only [Option.getD_some, Option.isSome_some] at hi2
        rw [show ((x + 1 : Nat) : Int) = (x : Int) + 1 by omega, show ((s + 2 : Nat) : Int) = (s : Int) + 2 by omega] at hi2
        have HI2 := Lib.hid hi2
        clear hi hs hi2 hdraw ha hz hfin hp f4
        go_wp2_with fail
        refine (HI.out w1 (After.refl _)).mono ?_
        rintro e w2 ⟨rfl, hb2⟩
        go_wp2_with fail
        refine (HS.out w2 hb2).mono ?_
        rintro e w3 ⟨rfl, hb3⟩
        go_wp2_with fail
        refine (HI2.out w3 (hb2.trans hb3)).mono ?_
        rintro e w4 ⟨rfl, hb4⟩
        go_wp2_with fail
        go_ret
        exact ⟨rfl, HA.out.trans ((hb2.trans hb3).trans hb4)⟩
end Go.Proofs.YtjomocjlnjgkeaaGreat
