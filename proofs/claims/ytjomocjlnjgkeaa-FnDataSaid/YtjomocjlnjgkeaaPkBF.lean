/-
  The walks of three promises' laws: sizes, closed terms, data: whatever the code, the law returns true.
-/
import Derived.Test.YtjomocjlnjgkeaaPkBD
import Derived.Test.YtjomocjlnjgkeaaPkAV
import Derived.Test.YtjomocjlnjgkeaaPkBE
import Derived.Test.YtjomocjlnjgkeaaPkAT
import Derived.Test.YtjomocjlnjgkeaaPkAX
import Derived.Test.YtjomocjlnjgkeaaPkAW
import Derived.Test.YtjomocjlnjgkeaaPkBB
namespace Go.Proofs.Ytjomocjlnjgkeaa
open Go.RowKit

set_option maxHeartbeats 1000000
set_option maxRecDepth 100000

theorem CodeArg.form {w : World} {v : Value} {n : Nat} (h : CodeArg w v n) : ∃ a0 cap, v = .slice a0 n cap := by
  rcases h with ⟨a0, cap, rfl, rfl⟩ | ⟨b, o, cap, _, _, _, rfl, _⟩
  · exact ⟨_, _, rfl⟩
  · exact ⟨_, _, rfl⟩

/-- Some text, as a list of bytes. -/
def TextPost (w : World) (e : Ending) (w' : World) : Prop := ∃ l : List UInt8, e = .returned (str l) ∧ l.length ≤ 100000 ∧ After w w'

theorem DrawPost.text {w w' : World} {e : Ending} (h : DrawPost w e w') : TextPost w e w' := by
  obtain ⟨s, rfl, hs, ha⟩ := h
  refine ⟨s.data.toList, congrArg Ending.returned (congrArg Value.string ?_), ?_, ha⟩
  · exact ByteArray.ext (by simp)
  · have : s.size = s.data.toList.length := by show s.data.size = _; simp
    omega

theorem parse_text_iff {l : List UInt8} {t : Tm} (h : Tm.parse l = some t) : l = t.text ∧ t.good = true ∧ t.fits = true := by
  obtain ⟨h1, h2, h3⟩ := Tm.parse_iff.1 h
  first | exact ⟨h1, h2, h3⟩ | exact ⟨h1.symm, h2, h3⟩

theorem size_outer {l : List UInt8} {t : Tm} (h : Tm.parse l = some t) (hb : (Tm.parse (40 :: (l ++ [32, 107, 41]))).isSome = true) : Tm.pSize (40 :: (l ++ [32, 107, 41])) = Tm.pSize l + 1 := by
  obtain ⟨rfl, hg, hf⟩ := parse_text_iff h
  have e : 40 :: (t.text ++ [32, 107, 41]) = (Tm.app t .k).text := by simp [Tm.text]
  rw [e] at hb ⊢
  obtain ⟨u, hu⟩ := Option.isSome_iff_exists.1 hb
  obtain ⟨rfl, _⟩ := Tm.parse_of_text (t := Tm.app t .k) (by simp [Tm.good, hg]) hu
  unfold Tm.pSize
  rw [hu, h]
  simp [Tm.size]

theorem size_range {l : List UInt8} {t : Tm} (h : Tm.parse l = some t) : (1 : Int) ≤ Tm.pSize l ∧ Tm.pSize l ≤ 3000 := by
  obtain ⟨rfl, hg, hf⟩ := parse_text_iff h
  have h1 := Tm.size_pos t
  have h2 := fits_size hf
  unfold Tm.pSize
  rw [h]
  simp only
  omega

end Go.Proofs.Ytjomocjlnjgkeaa

namespace Go.Proofs.Ytjomocjlnjgkeaa
open Go.RowKit

set_option maxHeartbeats 1000000
set_option maxRecDepth 100000

namespace Tm
theorem star_has {t u : Tm} (h : Star t u) (n : List UInt8) : has n u = true → has n t = true := by
  induction h with
  | refl => exact id
  | tail _ p ih => exact fun hu => ih (par_has p n hu)

theorem names_nil {t : Tm} : names [] t = [] ↔ ∀ n, has n t = false := by
  rw [List.eq_nil_iff_forall_not_mem]
  constructor
  · intro h n
    have := h n
    rw [mem_names] at this
    simpa using this
  · intro h n
    rw [mem_names]
    simp [h n]

theorem closed_text {t : Tm} (hg : t.good = true) (hf : t.fits = true) (h : ∀ n, has n t = false) : pClosed t.text = true := by
  unfold pClosed
  rw [parse_text hg hf]
  simp [names_nil.2 h]

theorem closed_factsP {l : List UInt8} (h : pClosed l = true) : pPut l [120] [107] = some l ∧ ∀ y n, pNorm l = some (y, n) → pClosed y = true ∧ y.length ≤ 21000 := by
  unfold pClosed at h
  cases hp : parse l with
  | none => rw [hp] at h; simp at h
  | some t =>
    rw [hp] at h
    obtain ⟨rfl, hg, hf⟩ := parse_text_iff hp
    have h0 : names [] t = [] := by simpa using h
    have hn := names_nil.1 h0
    refine ⟨?_, fun y n hy => ?_⟩
    · unfold pPut
      rw [hp, show parse [107] = some k from parse_text (t := k) rfl rfl]
      simp only
      rw [put_none _ _ _ (hn _), hf, if_pos (by decide +kernel)]
    · unfold pNorm at hy
      rw [hp] at hy
      simp only [Option.map_eq_some_iff] at hy
      obtain ⟨⟨u, m⟩, hu, he⟩ := hy
      simp only [Prod.mk.injEq] at he
      obtain ⟨rfl, rfl⟩ := he
      obtain ⟨g1, g2⟩ := norm_good hu hg hf
      refine ⟨closed_text g1 g2 fun n => ?_, (parse_facts (parse_text g1 g2)).2.2.2.2⟩
      cases hc : has n u with
      | false => rfl
      | true => have := star_has (norm_star hu).1 n hc; rw [hn n] at this; cases this

theorem pNorm_normal {t : Tm} (hg : t.good = true) (hf : t.fits = true) (h : step t = none) : (pNorm t.text).isSome = true := by
  unfold pNorm
  rw [parse_text hg hf]
  simp [norm_of_normal h]

theorem data_facts {l : List UInt8} {t : Tm} (h : data l = some t) : pClosed t.text = true ∧ ((l == [102, 105, 120]) = true ∨ ((l == [102, 105, 120]) = false ∧ (pNorm t.text).isSome = true)) := by
  obtain ⟨hg, hz⟩ := data_good h
  have hd := depth_lt t
  have hf : t.fits = true := by simp [fits]; omega
  refine ⟨?_, ?_⟩
  · unfold pClosed
    rw [parse_text hg hf]
    unfold data at h
    repeat' split at h
    all_goals first | (obtain rfl := Option.some.inj h; decide +kernel) | cases h
  · by_cases hl : l = [102, 105, 120]
    · left; simp [hl]
    · right
      refine ⟨by simp [hl], pNorm_normal hg hf ?_⟩
      unfold data at h
      repeat' split at h
      all_goals first | contradiction | (obtain rfl := Option.some.inj h; decide +kernel) | cases h
end Tm

theorem law_pclosedT (w : World) (v : Value) (n : Nat) (h : CodeArg w v n) :
    Calls Try.prog 5 #[v] w fun e w' => e = .returned (.bool true) ∧ After w w' := by
  obtain ⟨a0, cap, rfl⟩ := h.form
  have hdraw := draw_closed w _ n h
  clear h
  by_cases hbig : (1048576 : Int) < (n : Int)
  · go_enter Try.func5, Try.ntmps5
    go_wp2_with fail
    go_ret
    exact ⟨rfl, After.refl _⟩
  · go_enter Try.func5, Try.ntmps5
    go_wp2_with fail
    refine hdraw.mono ?_
    rintro e w1 hd
    obtain ⟨l, rfl, hl, ha⟩ := hd.text
    have hi := fun W => impl_closed W l (by omega)
    have hs := fun W => spec_closed W l (by omega)
    have HA := Lib.hid ha
    clear hd hdraw ha
    cases hb : Tm.pClosed l with
    | false =>
      simp only [hb] at hi hs
      clear hb
      go_wp2_with (first
        | (go_at_call 12; refine (hi _).mono ?_; rintro e w2 ⟨rfl, hb2⟩)
        | (go_at_call 11; refine (hs _).mono ?_; rintro e w3 ⟨rfl, hb3⟩))
      go_ret
      exact ⟨rfl, (HA.out.trans hb2).trans hb3⟩
    | true =>
      obtain ⟨f1, f2⟩ := Tm.closed_factsP hb
      simp only [hb] at hi hs
      have hput := fun W => impl_put W l [120] [107] (by omega) (by decide) (by decide)
      have hnorm := fun W => impl_norm W l (by omega)
      simp only [f1] at hput
      unfold TextRes at hput
      unfold NumRes at hnorm
      clear hb f1
      cases hq : Tm.pNorm l with
      | none =>
        simp only [hq] at hnorm
        clear f2 hq
        go_wp2_with (first
          | (go_at_call 12; refine (hi _).mono ?_; rintro e w2 ⟨rfl, hb2⟩)
          | (go_at_call 11; refine (hs _).mono ?_; rintro e w3 ⟨rfl, hb3⟩)
          | (go_at_call 16; refine (hput _).mono ?_; rintro e w4 ⟨rfl, hb4⟩)
          | (go_at_call 17; refine (hnorm _).mono ?_; rintro e w5 ⟨rfl, hb5⟩))
        go_ret
        exact ⟨by simp, (((HA.out.trans hb2).trans hb3).trans hb4).trans hb5⟩
      | some q =>
        obtain ⟨y, m⟩ := q
        obtain ⟨g1, g2⟩ := f2 y m hq
        simp only [hq] at hnorm
        have hi2 := fun W => impl_closed W y (by omega)
        simp only [g1] at hi2
        clear f2 hq g1
        go_wp2_with (first
          | (go_at_call_of 12 y; refine (hi2 _).mono ?_; rintro e w6 ⟨rfl, hb6⟩)
          | (go_at_call 12; refine (hi _).mono ?_; rintro e w2 ⟨rfl, hb2⟩)
          | (go_at_call 11; refine (hs _).mono ?_; rintro e w3 ⟨rfl, hb3⟩)
          | (go_at_call 16; refine (hput _).mono ?_; rintro e w4 ⟨rfl, hb4⟩)
          | (go_at_call 17; refine (hnorm _).mono ?_; rintro e w5 ⟨rfl, hb5⟩))
        go_ret
        exact ⟨by simp, ((((HA.out.trans hb2).trans hb3).trans hb4).trans hb5).trans hb6⟩

theorem law_pdata (w : World) (v : Value) (n : Nat) (h : CodeArg w v n) :
    Calls Try.prog 6 #[v] w fun e w' => e = .returned (.bool true) ∧ After w w' := by
  obtain ⟨a0, cap, rfl⟩ := h.form
  have hdraw := draw_data w _ n h
  clear h
  by_cases hbig : (1048576 : Int) < (n : Int)
  · go_enter Try.func6, Try.ntmps6
    go_wp2_with fail
    go_ret
    exact ⟨rfl, After.refl _⟩
  · go_enter Try.func6, Try.ntmps6
    go_wp2_with fail
    refine hdraw.mono ?_
    rintro e w1 hd
    obtain ⟨l, rfl, hl, ha⟩ := hd.text
    have hi := fun W => impl_data W l
    have hs := fun W => spec_data W l
    unfold NumOne at hi
    unfold SNumOne at hs
    have HA := Lib.hid ha
    clear hd hdraw ha
    cases hp : Tm.data l with
    | none =>
      have hb : pData l = none := by rw [pData, hp]; rfl
      simp only [hb] at hi hs
      clear hp hb
      go_wp2_with (first
        | (go_at_call 14; refine (hi _).mono ?_; rintro e w2 ⟨rfl, hb2⟩)
        | (go_at_call 13; refine (hs _).mono ?_; rintro e w3 ⟨rfl, hb3⟩))
      go_ret
      exact ⟨by simp, (HA.out.trans hb2).trans hb3⟩
    | some t =>
      have hb : pData l = some t.text := by rw [pData, hp]; rfl
      simp only [hb] at hi hs
      obtain ⟨f1, f2⟩ := Tm.data_facts hp
      have hlen : t.text.length ≤ 1000000 := by
        obtain ⟨hg, hz⟩ := Tm.data_good hp
        have := Tm.text_le t hg
        omega
      have hc := fun W => impl_closed W t.text (by omega)
      have hnorm := fun W => impl_norm W t.text (by omega)
      simp only [f1] at hc
      unfold NumRes at hnorm
      clear hp hb f1
      generalize t.text = x at *
      rcases f2 with f2 | ⟨f2, f3⟩
      · generalize Tm.pNorm x = o at *
        go_wp2_with (first
          | (go_at_call 14; refine (hi _).mono ?_; rintro e w2 ⟨rfl, hb2⟩)
          | (go_at_call 13; refine (hs _).mono ?_; rintro e w3 ⟨rfl, hb3⟩)
          | (go_at_call 17; refine (hnorm _).mono ?_; rintro e w4 ⟨rfl, hb4⟩)
          | (go_at_call 12; refine (hc _).mono ?_; rintro e w5 ⟨rfl, hb5⟩))
        go_ret
        exact ⟨by simp, (((HA.out.trans hb2).trans hb3).trans hb4).trans hb5⟩
      · simp only [f3] at hnorm
        generalize Tm.pNorm x = o at *
        clear f3
        go_wp2_with (first
          | (go_at_call 14; refine (hi _).mono ?_; rintro e w2 ⟨rfl, hb2⟩)
          | (go_at_call 13; refine (hs _).mono ?_; rintro e w3 ⟨rfl, hb3⟩)
          | (go_at_call 17; refine (hnorm _).mono ?_; rintro e w4 ⟨rfl, hb4⟩)
          | (go_at_call 12; refine (hc _).mono ?_; rintro e w5 ⟨rfl, hb5⟩))
        go_ret
        exact ⟨by simp, (((HA.out.trans hb2).trans hb3).trans hb4).trans hb5⟩
end Go.Proofs.Ytjomocjlnjgkeaa
