/-
  The drawing of inputs: closed terms and their codes; the walk of the law that what is read is coded.
-/
import Derived.Test.YtfpekihdoclncaaPkBC
import Derived.Test.YtfpekihdoclncaaPkBH
import Derived.Test.YtfpekihdoclncaaPkAW
namespace Go.Proofs.Ytfpekihdoclncaa
open Go.RowKit

set_option maxHeartbeats 1000000
set_option maxRecDepth 100000

theorem draw_codeRead (w : World) (v : Value) (n : Nat) (h : CodeArg w v n) : Calls Try.prog 22 #[v] w (DrawPost w) := by
  have hopen := open_any w v n h
  clear h
  go_enter Try.func22, Try.ntmps22
  go_wp2_with fail
  refine hopen.mono ?_
  rintro e w1 ⟨rb, rfl, hr, ha, hd⟩
  have hs := small_any w1 rb 0 hd (by omega)
  clear hopen hd
  go_wp2_with fail
  refine hs.mono ?_
  rintro e w2 ⟨s1, q1, rfl, hz1, hq1, hg1, hd1⟩
  have ha2 := after_open ha hg1 hr
  obtain ⟨l1, rfl⟩ : ∃ l : List UInt8, s1 = ⟨l.toArray⟩ := ⟨s1.data.toList, by simp⟩
  rw [ssize] at hz1
  have hcode := spec_codeOf w2 l1 (by omega)
  unfold SOne' at hcode
  have HD := Lib.hid hd1
  have HA := Lib.hid ha2
  clear hs hd1 ha2 hg1
  cases hp : Tm.pCodeOf l1 with
  | none =>
    rw [hp] at hcode
    go_wp2_with fail
    refine hcode.mono ?_
    rintro e w4 ⟨rfl, ha4⟩
    clear hcode hp
    go_wp2_with fail
    go_ret
    exact ⟨⟨l1.toArray⟩, rfl, by rw [ssize]; omega, HA.out.trans ha4⟩
  | some x =>
    have hx : x.length ≤ 21000 := by
      unfold Tm.pCodeOf at hp
      obtain ⟨c, hc, rfl⟩ := Option.map_eq_some_iff.1 hp
      obtain ⟨_, _, _, hf, hg⟩ := Tm.codeT_facts hc
      have := Tm.text_le c hg
      have := fits_size hf
      omega
    rw [hp] at hcode
    go_wp2_with fail
    refine hcode.mono ?_
    rintro e w4 ⟨rfl, ha4⟩
    have hpk := pick_any w4 rb q1 4 (HD.out.after ha4) (by omega) (by decide) (by decide)
    clear hcode hp
    go_wp2_with fail
    refine hpk.mono ?_
    rintro e w5 ⟨k, hk, rfl, hg5, hd5⟩
    have ha5 := after_open (HA.out.trans ha4) hg5 hr
    clear hpk hd5
    by_cases hk0 : k = 0
    · subst hk0
      go_wp2_with fail
      go_ret
      exact ⟨⟨l1.toArray⟩, rfl, by rw [ssize]; omega, ha5⟩
    · have hk1 : (0 : Int) < (k : Int) := by omega
      go_wp2_with fail
      go_ret
      exact ⟨⟨x.toArray⟩, rfl, by rw [ssize]; omega, ha5⟩

theorem CodeArg.form {w : World} {v : Value} {n : Nat} (h : CodeArg w v n) : ∃ a0 cap, v = .slice a0 n cap := by
  rcases h with ⟨a0, cap, rfl, rfl⟩ | ⟨b, o, cap, _, _, _, rfl, _⟩
  · exact ⟨_, _, rfl⟩
  · exact ⟨_, _, rfl⟩

/-- Some text, as a list of bytes. -/
def TextPost (w : World) (e : Ending) (w' : World) : Prop := ∃ l : List UInt8, e = .returned (str l) ∧ l.length ≤ 100000 ∧ After w w'

theorem DrawPost.text {w w' : World} {e : Ending} (h : DrawPost w e w') : TextPost w e w' := by
  obtain ⟨s, rfl, hs, ha⟩ := h
  refine ⟨s.data.toList, congrArg Ending.returned (congrArg Value.string ?_), ?_, ha⟩
  · exact ByteArray.ext (by simp)
  · have : s.size = s.data.toList.length := by show s.data.size = _; simp
    omega

theorem code_depth : ∀ t : Tm, t.depth ≤ t.code.depth
  | .k => by simp [Tm.depth]
  | .s => by simp [Tm.depth]
  | .nm _ => Nat.le_refl _
  | .app f a => by
    have := code_depth f
    have := code_depth a
    simp only [Tm.code, Tm.appC, Tm.pair, Tm.depth]
    omega

/-- What is read of a text: coded again it is the text. -/
theorem read_facts {l x : List UInt8} (h : Tm.pCodeRead l = some x) : Tm.pCodeOf x = some l ∧ Tm.pClosed x = true ∧ x.length ≤ 21000 := by
  unfold Tm.pCodeRead at h
  cases hp : Tm.parse l with
  | none => rw [hp] at h; cases h
  | some t =>
    rw [hp] at h
    simp only [Option.bind_some] at h
    obtain ⟨u, hu, rfl⟩ := Option.map_eq_some_iff.1 h
    obtain ⟨h1, h2, h3, h4⟩ := Tm.back_facts t.size t u hu
    obtain ⟨hg, hf, hs, hd, _⟩ := Tm.parse_facts hp
    have hl := (Tm.parse_iff.1 hp).1
    have hcd := code_depth u
    rw [h1] at hcd
    have huf : u.fits = true := by
      simp only [Tm.fits, Bool.and_eq_true, decide_eq_true_eq]
      exact ⟨by omega, by omega⟩
    have hpu := Tm.parse_text h3 huf
    have hn := names_of_has h4
    have hcl : Tm.closedOf u.text = some u := by simp [Tm.closedOf, hpu, hn]
    refine ⟨?_, ?_, ?_⟩
    · unfold Tm.pCodeOf Tm.codeT
      rw [hcl]
      show ((if u.code.fits = true then some u.code else none).map Tm.text) = some l
      rw [h1, if_pos hf, Option.map_some]
      first | rw [hl] | rw [← hl]
    · unfold Tm.pClosed
      rw [hpu]
      simp [hn]
    · have := Tm.text_le u h3
      omega

theorem law_pcodeRead (w : World) (v : Value) (n : Nat) (h : CodeArg w v n) :
    Calls Try.prog 9 #[v] w fun e w' => e = .returned (.bool true) ∧ After w w' := by
  obtain ⟨a0, cap, rfl⟩ := h.form
  have hdraw := draw_codeRead w _ n h
  clear h
  by_cases hbig : (1048576 : Int) < (n : Int)
  · go_enter Try.func9, Try.ntmps9
    go_wp2_with fail
    go_ret
    exact ⟨rfl, After.refl _⟩
  · go_enter Try.func9, Try.ntmps9
    go_wp2_with fail
    refine hdraw.mono ?_
    rintro e w1 hd
    obtain ⟨l, rfl, hl, ha⟩ := hd.text
    have hi := fun W => impl_codeRead W l (by omega)
    have hs := fun W => spec_codeRead W l (by omega)
    unfold TextRes' at hi
    unfold SOne' at hs
    have HA := Lib.hid ha
    clear hd hdraw ha
    cases hb : Tm.pCodeRead l with
    | none =>
      simp only [hb] at hi hs
      clear hb
      go_wp2_with (first
        | (go_at_call 23; refine (hi _).mono ?_; rintro e w2 ⟨rfl, hb2⟩)
        | (go_at_call 24; refine (hs _).mono ?_; rintro e w3 ⟨rfl, hb3⟩))
      go_ret
      exact ⟨by simp, (HA.out.trans hb2).trans hb3⟩
    | some x =>
      obtain ⟨f1, f2, f3⟩ := read_facts hb
      simp only [hb] at hi hs
      have hco := fun W => impl_codeOf W x (by omega)
      have hcl := fun W => impl_closed W x (by omega)
      unfold TextRes' at hco
      simp only [f1] at hco
      simp only [f2] at hcl
      clear hb f1 f2
      go_wp2_with (first
        | (go_at_call 23; refine (hi _).mono ?_; rintro e w2 ⟨rfl, hb2⟩)
        | (go_at_call 24; refine (hs _).mono ?_; rintro e w3 ⟨rfl, hb3⟩)
        | (go_at_call 13; refine (hco _).mono ?_; rintro e w4 ⟨rfl, hb4⟩)
        | (go_at_call 25; refine (hcl _).mono ?_; rintro e w5 ⟨rfl, hb5⟩))
      go_ret
      exact ⟨by simp, (((HA.out.trans hb2).trans hb3).trans hb4).trans hb5⟩
end Go.Proofs.Ytfpekihdoclncaa
