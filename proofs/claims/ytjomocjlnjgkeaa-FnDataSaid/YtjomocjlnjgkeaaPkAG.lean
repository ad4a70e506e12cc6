/-
  The reader of the model: l6In, l1Name, l1Atom.
-/
import Derived.Test.YtjomocjlnjgkeaaPkAD
import Derived.Test.YtjomocjlnjgkeaaPkAF
namespace Go.Proofs.Ytjomocjlnjgkeaa
open Go.RowKit

set_option maxHeartbeats 400000
set_option maxRecDepth 100000

theorem in_any (w : World) (n lo hi : Int) : Calls Try.prog 50 #[.int .i64 n, .int .i64 lo, .int .i64 hi] w fun e w' => e = .returned (.bool (decide (lo ≤ n ∧ n ≤ hi))) ∧ w = w' := by
  by_cases h1 : lo ≤ n
  · by_cases h2 : n ≤ hi
    · rw [show decide (lo ≤ n ∧ n ≤ hi) = true by simp [h1, h2]]
      go_enter Try.func50, Try.ntmps50
      go_wp2_with fail
      go_ret
      exact ⟨by simp, rfl⟩
    · rw [show decide (lo ≤ n ∧ n ≤ hi) = false by simp [h2]]
      go_enter Try.func50, Try.ntmps50
      go_wp2_with fail
      go_ret
      exact ⟨by simp, rfl⟩
  · rw [show decide (lo ≤ n ∧ n ≤ hi) = false by simp [h1]]
    go_enter Try.func50, Try.ntmps50
    go_wp2_with fail
    go_ret
    exact ⟨by simp, rfl⟩

theorem s_name (w : World) (l : List UInt8) (hl : l.length ≤ 1000000000) : Calls Try.prog 86 #[str l] w fun e w' => e = .returned (.bool (Tm.nameOk l)) ∧ w = w' := by
  have hsz : (⟨l.toArray⟩ : ByteArray).size = l.length := by show l.toArray.size = _; simp
  have hin := in_any w (l.length : Nat) 1 4
  by_cases hlen : 1 ≤ l.length ∧ l.length ≤ 4
  · rw [show decide ((1 : Int) ≤ ((l.length : Nat) : Int) ∧ ((l.length : Nat) : Int) ≤ 4) = true by rw [decide_eq_true_eq]; omega] at hin
    cases hcs : l with
    | nil => rw [hcs] at hlen; simp at hlen
    | cons c ds =>
      rw [← hcs]
      have hpos : 0 < l.length := by omega
      have hat : (⟨l.toArray⟩ : ByteArray)[0]'(by rw [hsz]; exact hpos) = c := by rw [byte_at l 0 hpos]; simp [hcs]
      have hok : Tm.nameOk l = (Tm.lead c && (l.drop 1).all Tm.dig) := by
        have : ds.length ≤ 3 := by have := hlen.2; rw [hcs] at this; simp at this; omega
        rw [hcs]; simp [Tm.nameOk, this]
      obtain ⟨hlen1, hlen4⟩ := hlen
      clear hcs
      by_cases hlead : Tm.lead c = true
      · have hfin : Hid (Tm.nameOk l = (l.drop 1).all Tm.dig) := by show _ = _; rw [hok, hlead]; rfl
        obtain ⟨hl1, hl2⟩ := (lead_int c).1 hlead
        clear hok hlead
        go_enter Try.func86, Try.ntmps86
        go_wp2_with (go_at_call 50; refine hin.mono ?_; rintro e w' ⟨rfl, rfl⟩)
        go_loop [3] (fun n => ∃ k : Nat, 1 ≤ k ∧ k ≤ l.length ∧ n = .int .i64 k ∧ Hid (Tm.nameOk l = (l.drop k).all Tm.dig)) (fun n => l.length - (intOf n).toNat)
        case atStart => exact ⟨1, by omega, by omega, rfl, hfin⟩
        case round =>
          obtain ⟨k, hk1, hkl, rfl, hk⟩ := hrel
          clear hat hfin
          by_cases hlt : k < l.length
          · have hatk := byte_at l k hlt (by rw [hsz]; exact hlt)
            have hdrop := List.drop_eq_getElem_cons hlt
            by_cases hd : Tm.dig l[k] = true
            · have HS : Hid (Tm.nameOk l = (l.drop (k + 1)).all Tm.dig) := by show _ = _; rw [hk.out, hdrop, List.all_cons, hd]; rfl
              obtain ⟨hd1, hd2⟩ := (dig_int _).1 hd
              rw [← hatk] at hd1 hd2
              clear hd hdrop hatk hk
              go_wp2_with fail
              go_round
              case rel => exact ⟨k + 1, by omega, by omega, by go_num, HS⟩
              case measure => simp [intOf]; omega
            · have HS : Hid (Tm.nameOk l = false) := by show _ = _; rw [hk.out, hdrop, List.all_cons]; simp [hd]
              rw [dig_int, ← hatk] at hd
              clear hdrop hatk hk
              by_cases hd1 : (48 : Int) ≤ (((⟨l.toArray⟩ : ByteArray)[k]'(by rw [hsz]; exact hlt)).toNat : Int)
              · have hd2 : (57 : Int) < (((⟨l.toArray⟩ : ByteArray)[k]'(by rw [hsz]; exact hlt)).toNat : Int) := by
                  have := fun h => hd ⟨hd1, h⟩
                  omega
                clear hd
                go_wp2_with fail
                go_ret
                exact ⟨by rw [HS.out]; rfl, rfl⟩
              · have hd2 : (((⟨l.toArray⟩ : ByteArray)[k]'(by rw [hsz]; exact hlt)).toNat : Int) < 48 := by omega
                clear hd hd1
                go_wp2_with fail
                go_ret
                exact ⟨by rw [HS.out]; rfl, rfl⟩
          · have HS : Hid (Tm.nameOk l = true) := by show _ = _; rw [hk.out, List.drop_eq_nil_of_le (by omega)]; rfl
            clear hk
            go_wp2_with fail
            go_ret
            exact ⟨by rw [HS.out]; rfl, rfl⟩
      · have hfin : Tm.nameOk l = false := by rw [hok]; simp [hlead]
        rw [hfin]
        rw [lead_int] at hlead
        clear hfin hok
        by_cases h1 : (c.toNat : Int) < 117
        · go_enter Try.func86, Try.ntmps86
          go_wp2_with (go_at_call 50; refine hin.mono ?_; rintro e w' ⟨rfl, rfl⟩)
          go_ret
          exact ⟨rfl, rfl⟩
        · have h2 : (122 : Int) < (c.toNat : Int) := by omega
          clear hlead
          go_enter Try.func86, Try.ntmps86
          go_wp2_with (go_at_call 50; refine hin.mono ?_; rintro e w' ⟨rfl, rfl⟩)
          go_ret
          exact ⟨rfl, rfl⟩
  · rw [show decide ((1 : Int) ≤ ((l.length : Nat) : Int) ∧ ((l.length : Nat) : Int) ≤ 4) = false by rw [decide_eq_false_iff_not]; omega] at hin
    have hfin : Tm.nameOk l = false := by
      cases hcs : l with
      | nil => rfl
      | cons c ds =>
        rw [hcs] at hlen
        simp at hlen
        have : ¬ ds.length ≤ 3 := by omega
        simp [Tm.nameOk, this]
    rw [hfin]
    clear hfin hlen
    go_enter Try.func86, Try.ntmps86
    go_wp2_with (go_at_call 50; refine hin.mono ?_; rintro e w' ⟨rfl, rfl⟩)
    go_ret
    exact ⟨rfl, rfl⟩

theorem atomEnd_mid (l : List UInt8) (k : Nat) (h : k < l.length) (hm : Tm.mid l[k] = true) : Tm.atomEnd l k = Tm.atomEnd l (k + 1) := by
  unfold Tm.atomEnd
  rw [List.drop_eq_getElem_cons h, List.takeWhile_cons]
  unfold Tm.mid at hm
  rw [hm]
  simp
  omega

theorem atomEnd_stop (l : List UInt8) (k : Nat) (h : k < l.length → Tm.mid (l.getD k 0) = false) : Tm.atomEnd l k = k := by
  unfold Tm.atomEnd
  by_cases hk : k < l.length
  · have hm := h hk
    rw [List.getD_eq_getElem?_getD, List.getElem?_eq_getElem hk] at hm
    rw [List.drop_eq_getElem_cons hk, List.takeWhile_cons]
    unfold Tm.mid at hm
    simp only [Option.getD_some] at hm
    rw [hm]
    simp
  · rw [List.drop_eq_nil_of_le (by omega)]
    simp

theorem byte_ne_lit (x : UInt8) (n : Nat) (h : n < 256) : ((x.toNat : Int) != (n : Int)) = (x != UInt8.ofNat n) := by
  have := byte_ne x (UInt8.ofNat n)
  rw [UInt8.toNat_ofNat_of_lt' (by simpa using h)] at this
  exact this

theorem s_atom (w : World) (l : List UInt8) (i : Nat) (hl : l.length ≤ 1000000000) (hi : i ≤ l.length) :
    Calls Try.prog 85 #[str l, .int .i64 i] w fun e w' => e = .returned (.int .i64 (Tm.atomEnd l i : Nat)) ∧ w = w' := by
  have hsz : (⟨l.toArray⟩ : ByteArray).size = l.length := by show l.toArray.size = _; simp
  go_enter Try.func85, Try.ntmps85
  go_wp2_with fail
  go_loop [1] (fun n => ∃ k : Nat, i ≤ k ∧ k ≤ l.length ∧ n = .int .i64 k ∧ Hid (Tm.atomEnd l i = Tm.atomEnd l k)) (fun n => l.length - (intOf n).toNat)
  case atStart => exact ⟨i, Nat.le_refl _, hi, rfl, rfl⟩
  case round =>
    obtain ⟨k, hk1, hkl, rfl, hk⟩ := hrel
    by_cases hlt : k < l.length
    · have hatk := byte_at l k hlt (by rw [hsz]; exact hlt)
      have n1 : ((l[k].toNat : Int) != 32) = (l[k] != (32 : UInt8)) := byte_ne_lit l[k] 32 (by omega)
      have n2 : ((l[k].toNat : Int) != 40) = (l[k] != (40 : UInt8)) := byte_ne_lit l[k] 40 (by omega)
      have n3 : ((l[k].toNat : Int) != 41) = (l[k] != (41 : UInt8)) := byte_ne_lit l[k] 41 (by omega)
      rw [← hatk] at n1 n2 n3
      by_cases hm : Tm.mid l[k] = true
      · have HS : Hid (Tm.atomEnd l i = Tm.atomEnd l (k + 1)) := by show _ = _; rw [hk.out, atomEnd_mid l k hlt hm]
        rw [← hatk] at hm
        simp only [Tm.mid, Bool.and_eq_true] at hm
        rw [hm.1.1] at n1
        rw [hm.1.2] at n2
        rw [hm.2] at n3
        clear hm hatk hk
        go_wp2_with fail
        go_round
        case rel => exact ⟨k + 1, by omega, by omega, by go_num, HS⟩
        case measure => simp [intOf]; omega
      · have HS : Hid (Tm.atomEnd l i = k) := by
          show _ = _
          rw [hk.out]
          exact atomEnd_stop l k (fun h => by rw [List.getD_eq_getElem?_getD, List.getElem?_eq_getElem h]; simpa using hm)
        rw [← hatk] at hm
        simp only [Tm.mid, Bool.and_eq_true, not_and, Bool.not_eq_true] at hm
        clear hatk hk
        cases m1 : ((((⟨l.toArray⟩ : ByteArray)[k]'(by rw [hsz]; exact hlt))) != (32 : UInt8)) with
        | false =>
          rw [m1] at n1
          clear m1 hm n2 n3
          go_wp2_with fail
          go_ret
          exact ⟨by rw [HS.out]; rfl, rfl⟩
        | true =>
          rw [m1] at n1
          cases m2 : ((((⟨l.toArray⟩ : ByteArray)[k]'(by rw [hsz]; exact hlt))) != (40 : UInt8)) with
          | false =>
            rw [m2] at n2
            clear m1 m2 hm n3
            go_wp2_with fail
            go_ret
            exact ⟨by rw [HS.out]; rfl, rfl⟩
          | true =>
            have m3 := hm ⟨m1, m2⟩
            rw [m2] at n2
            rw [m3] at n3
            clear m1 m2 m3 hm
            go_wp2_with fail
            go_ret
            exact ⟨by rw [HS.out]; rfl, rfl⟩
    · have HS : Hid (Tm.atomEnd l i = k) := by
        show _ = _
        rw [hk.out]
        exact atomEnd_stop l k (fun h => absurd h hlt)
      clear hk
      go_wp2_with fail
      go_ret
      exact ⟨by rw [HS.out]; rfl, rfl⟩
end Go.Proofs.Ytjomocjlnjgkeaa

namespace Go.Proofs.Ytjomocjlnjgkeaa
open Go.RowKit

set_option maxHeartbeats 400000
set_option maxRecDepth 100000

theorem TV.grown {w w' : World} {b : Nat} {t : Tm} {v : Value} (h : TV w (b + 1) t v) (hg : w.grownBy w' (some b)) : TV w' (b + 1) t v :=
  h.same fun k hk hl => hg.block k hl (fun e => by injection e with e; omega)

theorem size_le_text (t : Tm) (h : t.good = true) : t.size ≤ t.text.length := by
  induction t with
  | nm n => simp only [Tm.good] at h; cases n with
    | nil => simp [Tm.nameOk] at h
    | cons c ds => simp [Tm.size, Tm.text]
  | app f a ihf iha => simp only [Tm.good, Bool.and_eq_true] at h; have := ihf h.1; have := iha h.2; simp [Tm.size, Tm.text]; omega
  | _ => simp [Tm.size, Tm.text]

theorem reads_size {l : List UInt8} {d i j : Nat} {t : Tm} (h : Tm.Reads l d i t j) : t.size ≤ l.length ∧ j ≤ l.length := by
  obtain ⟨h1, h2, h3, h4, h5⟩ := h
  have := size_le_text t h4
  have e := congrArg List.length h1
  simp at e
  omega

theorem AtomPost.no {w w' : World} {b : Nat} {l : List UInt8} {r : Option (Tm × Nat)} (hr : r = none) (hg : w.grownBy w' (some b)) (v : Value) : AtomPost w b l r (.returned (.tuple #[v, .bool false])) w' :=
  ⟨v, by rw [hr]; rfl, hg, fun t j he => by rw [hr] at he; simp at he⟩

theorem read_any (l : List UInt8) (hl : l.length ≤ 1000000000) : ∀ (d : Nat) (a : Int) (w : World) (b i : Nat), Rd w b l i → i ≤ l.length → a + d = 1501 → d ≤ 1501 →
    Calls Try.prog 79 #[.pointer (some ⟨b, 0, none⟩), .int .i64 a] w (AtomPost w b l (Tm.read l d i)) := by
  intro d
  induction d with
  | zero =>
    intro a w b i h hi ha _
    have h1 : (1500 : Int) < a := by omega
    go_enter Try.func79, Try.ntmps79
    go_wp2_with fail
    go_ret2
    exact AtomPost.no rfl (grown_drawn w b 0) _
  | succ d ih =>
    intro a w b i h hi ha hd
    have h1 : a ≤ 1500 := by omega
    have h2 : 0 ≤ a := by omega
    have hsk := skip_any w b i l 40 40 rfl h hl hi
    by_cases h0 : l[i]? = some 40
    · have hdec : decide (l[i]? = some 40) = true := by simp [h0]
      rw [hdec] at hsk
      have hi1 : i + 1 ≤ l.length := (List.getElem?_eq_some_iff.1 h0).1
      cases hf : Tm.read l d (i + 1) with
      | none =>
        have hfin : Tm.read l (d + 1) i = none := by simp [Tm.read, h0, hf]
        have H := Lib.hid hfin
        have HF := Lib.hid hf
        have HA := Lib.hid ha
        have HIH := Lib.hid ih
        clear hfin hf ha ih hdec h0 h hi
        go_enter Try.func79, Try.ntmps79
        go_wp2_with fail
        refine hsk.mono ?_
        rintro e w1 ⟨rfl, hg1, hr1⟩
        go_wp2_with fail
        refine (HIH.out (a + 1) _ b (i + 1) hr1 hi1 (by have := HA.out; omega) (by omega)).mono ?_
        rintro e w2 ⟨v2, rfl, hg2, hr2⟩
        rw [HF.out]
        clear hr2
        go_wp2_with fail
        go_ret2
        exact AtomPost.no H.out (grown_trans hg1 hg2) _
      | some p =>
        obtain ⟨f, j⟩ := p
        obtain ⟨zf, hj⟩ := reads_size (Tm.read_sound hf)
        have H0 := Lib.hid h0
        have HF := Lib.hid hf
        have HA := Lib.hid ha
        have HIH := Lib.hid ih
        clear hf ha ih hdec h0 h hi
        by_cases h32 : l[j]? = some 32
        · have hj1 : j + 1 ≤ l.length := (List.getElem?_eq_some_iff.1 h32).1
          have hdec : decide (l[j]? = some 32) = true := by simp [h32]
          have HD := Lib.hid hdec
          cases hq : Tm.read l d (j + 1) with
          | none =>
            have hfin : Tm.read l (d + 1) i = none := by simp [Tm.read, H0.out, HF.out, h32, hq]
            have H := Lib.hid hfin
            have HQ := Lib.hid hq
            clear hfin hq hdec h32
            go_enter Try.func79, Try.ntmps79
            go_wp2_with fail
            refine hsk.mono ?_
            rintro e w1 ⟨rfl, hg1, hr1⟩
            go_wp2_with fail
            refine (HIH.out (a + 1) _ b (i + 1) hr1 hi1 (by have := HA.out; omega) (by omega)).mono ?_
            rintro e w2 ⟨v2, rfl, hg2, hr2⟩
            rw [HF.out]
            obtain ⟨hr2, ht2⟩ := hr2 f j HF.out
            have hsk2 := skip_any w2 b j l 32 32 rfl hr2 hl hj
            rw [HD.out] at hsk2
            go_wp2_with fail
            refine hsk2.mono ?_
            rintro e w3 ⟨rfl, hg3, hr3⟩
            clear hsk hsk2
            go_wp2_with fail
            refine (HIH.out (a + 1) _ b (j + 1) hr3 hj1 (by have := HA.out; omega) (by omega)).mono ?_
            rintro e w4 ⟨v4, rfl, hg4, hr4⟩
            rw [HQ.out]
            clear hr4
            go_wp2_with fail
            go_ret2
            exact AtomPost.no H.out (grown_trans (grown_trans hg1 hg2) (grown_trans hg3 hg4)) _
          | some p =>
            obtain ⟨g, m⟩ := p
            obtain ⟨zg, hm⟩ := reads_size (Tm.read_sound hq)
            by_cases h41 : l[m]? = some 41
            · have hdec2 : decide (l[m]? = some 41) = true := by simp [h41]
              have hfin : Tm.read l (d + 1) i = some (f.app g, m + 1) := by simp [Tm.read, H0.out, HF.out, h32, hq, h41]
              have H := Lib.hid hfin
              have HQ := Lib.hid hq
              have HD2 := Lib.hid hdec2
              clear hfin hq hdec h32 hdec2 h41
              go_enter Try.func79, Try.ntmps79
              go_wp2_with fail
              refine hsk.mono ?_
              rintro e w1 ⟨rfl, hg1, hr1⟩
              go_wp2_with fail
              refine (HIH.out (a + 1) _ b (i + 1) hr1 hi1 (by have := HA.out; omega) (by omega)).mono ?_
              rintro e w2 ⟨v2, rfl, hg2, hr2⟩
              rw [HF.out]
              obtain ⟨hr2, ht2⟩ := hr2 f j HF.out
              have hsk2 := skip_any w2 b j l 32 32 rfl hr2 hl hj
              rw [HD.out] at hsk2
              go_wp2_with fail
              refine hsk2.mono ?_
              rintro e w3 ⟨rfl, hg3, hr3⟩
              clear hsk hsk2
              go_wp2_with fail
              refine (HIH.out (a + 1) _ b (j + 1) hr3 hj1 (by have := HA.out; omega) (by omega)).mono ?_
              rintro e w4 ⟨v4, rfl, hg4, hr4⟩
              rw [HQ.out]
              obtain ⟨hr4, ht4⟩ := hr4 g m HQ.out
              have hsk3 := skip_any w4 b m l 41 41 rfl hr4 hl hm
              rw [HD2.out] at hsk3
              go_wp2_with fail
              refine hsk3.mono ?_
              rintro e w5 ⟨rfl, hg5, hr5⟩
              clear hsk3
              have htf := ((ht2.grown hg3).grown hg4).grown hg5
              have hta := ht4.grown hg5
              have hlt5 := Rd.lt hr5
              go_wp2_with fail
              refine (apply_any _ (b + 1) f g _ _ htf hta hlt5 (by omega)).mono ?_
              rintro e w6 ⟨v6, rfl, hb6, hv6⟩
              go_wp2_with fail
              go_ret2
              have hr6 : Rd w6 b l (m + 1) := by unfold Rd at *; rw [hb6.block b hlt5]; exact hr5
              have hg6 : w5.grownBy w6 (some b) := ⟨hb6.os, hb6.tape, hb6.output, hb6.size, fun k hk _ => hb6.block k hk⟩
              refine ⟨_, by rw [H.out]; rfl, grown_trans (grown_trans (grown_trans hg1 hg2) (grown_trans hg3 hg4)) (grown_trans hg5 hg6), fun t j' he => ?_⟩
              rw [H.out] at he
              simp only [Option.some.injEq, Prod.mk.injEq] at he
              obtain ⟨rfl, rfl⟩ := he
              exact ⟨hr6, hv6⟩
            · have hdec2 : decide (l[m]? = some 41) = false := by simp [h41]
              have hfin : Tm.read l (d + 1) i = none := by simp [Tm.read, H0.out, HF.out, h32, hq, h41]
              have H := Lib.hid hfin
              have HQ := Lib.hid hq
              have HD2 := Lib.hid hdec2
              clear hfin hq hdec h32 hdec2 h41
              go_enter Try.func79, Try.ntmps79
              go_wp2_with fail
              refine hsk.mono ?_
              rintro e w1 ⟨rfl, hg1, hr1⟩
              go_wp2_with fail
              refine (HIH.out (a + 1) _ b (i + 1) hr1 hi1 (by have := HA.out; omega) (by omega)).mono ?_
              rintro e w2 ⟨v2, rfl, hg2, hr2⟩
              rw [HF.out]
              obtain ⟨hr2, ht2⟩ := hr2 f j HF.out
              have hsk2 := skip_any w2 b j l 32 32 rfl hr2 hl hj
              rw [HD.out] at hsk2
              go_wp2_with fail
              refine hsk2.mono ?_
              rintro e w3 ⟨rfl, hg3, hr3⟩
              clear hsk hsk2
              go_wp2_with fail
              refine (HIH.out (a + 1) _ b (j + 1) hr3 hj1 (by have := HA.out; omega) (by omega)).mono ?_
              rintro e w4 ⟨v4, rfl, hg4, hr4⟩
              rw [HQ.out]
              obtain ⟨hr4, ht4⟩ := hr4 g m HQ.out
              have hsk3 := skip_any w4 b m l 41 41 rfl hr4 hl hm
              rw [HD2.out] at hsk3
              go_wp2_with fail
              refine hsk3.mono ?_
              rintro e w5 ⟨rfl, hg5, hr5⟩
              clear hsk3
              go_wp2_with fail
              go_ret2
              exact AtomPost.no H.out (grown_trans (grown_trans (grown_trans hg1 hg2) (grown_trans hg3 hg4)) hg5) _
        · have hdec : decide (l[j]? = some 32) = false := by simp [h32]
          have hfin : Tm.read l (d + 1) i = none := by simp [Tm.read, H0.out, HF.out, h32]
          have H := Lib.hid hfin
          have HD := Lib.hid hdec
          clear hfin hdec h32
          go_enter Try.func79, Try.ntmps79
          go_wp2_with fail
          refine hsk.mono ?_
          rintro e w1 ⟨rfl, hg1, hr1⟩
          go_wp2_with fail
          refine (HIH.out (a + 1) _ b (i + 1) hr1 hi1 (by have := HA.out; omega) (by omega)).mono ?_
          rintro e w2 ⟨v2, rfl, hg2, hr2⟩
          rw [HF.out]
          obtain ⟨hr2, ht2⟩ := hr2 f j HF.out
          have hsk2 := skip_any w2 b j l 32 32 rfl hr2 hl hj
          rw [HD.out] at hsk2
          go_wp2_with fail
          refine hsk2.mono ?_
          rintro e w3 ⟨rfl, hg3, hr3⟩
          clear hsk hsk2
          go_wp2_with fail
          go_ret2
          exact AtomPost.no H.out (grown_trans (grown_trans hg1 hg2) hg3) _
    · have hdec : decide (l[i]? = some 40) = false := by simp [h0]
      rw [hdec] at hsk
      have hfin : Tm.read l (d + 1) i = Tm.readAtom l i := by simp [Tm.read, h0]
      rw [hfin]
      have HI := Lib.hid hi
      clear hdec hfin h0 h ih hi
      go_enter Try.func79, Try.ntmps79
      go_wp2_with fail
      refine hsk.mono ?_
      rintro e w1 ⟨rfl, hg1, hr1⟩
      go_wp2_with fail
      refine (readAtom_any _ b i l hr1 hl HI.out).mono ?_
      rintro e w2 ⟨v2, rfl, hg2, hr2⟩
      have HR := Lib.hid hr2
      clear hr2
      go_wp2_with fail
      go_ret2
      exact ⟨_, rfl, grown_trans hg1 hg2, HR.out⟩

def ParsePost (w : World) (B : Nat) (l : List UInt8) (e : Ending) (w' : World) : Prop :=
  ∃ v, e = .returned (.tuple #[v, .bool (Tm.parse l).isSome]) ∧ Below w.heap.size w w' ∧ ∀ t, Tm.parse l = some t → TV w' B t v

theorem ParsePost.no {w w' : World} {B : Nat} {l : List UInt8} (hr : Tm.parse l = none) (hg : Below w.heap.size w w') (v : Value) : ParsePost w B l (.returned (.tuple #[v, .bool false])) w' :=
  ⟨v, by rw [hr]; rfl, hg, fun t he => by rw [hr] at he; simp at he⟩

theorem below_grown {w w' : World} {o : Obj} (hg : (w.alloc o).grownBy w' (some w.heap.size)) : Below w.heap.size w w' :=
  ((Below.refl _ _).alloc (Nat.le_refl _) o).grown hg (by simp) (fun k hk => by injection hk with hk; omega)

theorem below_drews {n : Nat} {a b : World} (h : Below n a b) (m : Nat) : Below n a (b.drewN m) := ⟨h.os, h.tape, h.output, h.size, h.block⟩

theorem readTerm_any (w : World) (B : Nat) (l : List UInt8) (hB : B ≤ w.heap.size) (hl : l.length ≤ 1000000000) :
    Calls Try.prog 43 #[str l] w (ParsePost w B l) := by
  have hrd : Rd (w.alloc (.cells #[str l, .int .i64 0] 114)) w.heap.size l 0 := heap_new _ _
  have hread := read_any l hl 1501 0 _ _ 0 hrd (Nat.zero_le _) (by omega) (by omega)
  have hsz : (⟨l.toArray⟩ : ByteArray).size = l.length := by show l.toArray.size = _; simp
  cases hq : Tm.read l 1501 0 with
  | none =>
    have hfin : Tm.parse l = none := by simp [Tm.parse, hq]
    have H := Lib.hid hfin
    rw [hq] at hread
    clear hfin hq hrd
    go_enter Try.func43, Try.ntmps43
    go_wp2_with fail
    refine hread.mono ?_
    rintro e w1 ⟨v1, rfl, hg1, hr1⟩
    clear hr1 hread
    go_wp2_with fail
    go_ret2
    exact ParsePost.no H.out (below_grown hg1) _
  | some p =>
    obtain ⟨t, j⟩ := p
    obtain ⟨zt, hj⟩ := reads_size (Tm.read_sound hq)
    rw [hq] at hread
    have hpf : Tm.parse l = if j = l.length ∧ t.fits = true then some t else none := by simp only [Tm.parse, hq]
    have HP := Lib.hid hpf
    clear hpf hq hrd
    by_cases hje : j = l.length
    · have hd : decide (j = l.length) = true := by simp [hje]
      cases hf : t.fits with
      | true =>
        have H := Lib.hid (show Tm.parse l = some t by rw [HP.out, hje, hf]; simp)
        have HF := Lib.hid hf
        clear hf HP
        go_enter Try.func43, Try.ntmps43
        go_wp2_with fail
        refine hread.mono ?_
        rintro e w1 ⟨v1, rfl, hg1, hr1⟩
        obtain ⟨hr1, ht1⟩ := hr1 t j rfl
        have hend := ended_any w1 _ j l (cell_of_heap hr1) (cell_of_heap hr1) hl
        rw [hd] at hend
        have hfit := fun m => fits_any (w1.drewN m) _ t v1 (TV.same (w := w1) (w' := w1.drewN m) (fun _ _ _ => rfl) ht1)
        rw [HF.out] at hfit
        clear hread hd
        go_wp2_with fail
        refine hend.mono ?_
        rintro e w3 ⟨rfl, m, rfl⟩
        go_wp2_with (go_at_call 42; refine (hfit _).mono ?_; rintro e w2 ⟨rfl, hb2⟩)
        go_ret2
        have hb2' : Below w1.heap.size w1 w2 := (below_drews (Below.refl _ _) m).trans hb2
        refine ⟨_, by rw [H.out]; rfl, (below_grown hg1).trans (hb2'.mono (Nat.le_of_lt (Rd.lt hr1))), fun t' he => ?_⟩
        rw [H.out] at he
        obtain rfl := Option.some.inj he
        exact (ht1.less (by omega)).below hb2'
      | false =>
        have H := Lib.hid (show Tm.parse l = none by rw [HP.out, hf]; simp)
        have HF := Lib.hid hf
        clear hf HP
        go_enter Try.func43, Try.ntmps43
        go_wp2_with fail
        refine hread.mono ?_
        rintro e w1 ⟨v1, rfl, hg1, hr1⟩
        obtain ⟨hr1, ht1⟩ := hr1 t j rfl
        have hend := ended_any w1 _ j l (cell_of_heap hr1) (cell_of_heap hr1) hl
        rw [hd] at hend
        have hfit := fun m => fits_any (w1.drewN m) _ t v1 (TV.same (w := w1) (w' := w1.drewN m) (fun _ _ _ => rfl) ht1)
        rw [HF.out] at hfit
        clear hread hd
        go_wp2_with fail
        refine hend.mono ?_
        rintro e w3 ⟨rfl, m, rfl⟩
        go_wp2_with (go_at_call 42; refine (hfit _).mono ?_; rintro e w2 ⟨rfl, hb2⟩)
        go_ret2
        have hb2' : Below w1.heap.size w1 w2 := (below_drews (Below.refl _ _) m).trans hb2
        exact ParsePost.no H.out ((below_grown hg1).trans (hb2'.mono (Nat.le_of_lt (Rd.lt hr1)))) _
    · have H := Lib.hid (show Tm.parse l = none by rw [HP.out]; simp [hje])
      have hd : decide (j = l.length) = false := by simp [hje]
      clear HP
      go_enter Try.func43, Try.ntmps43
      go_wp2_with fail
      refine hread.mono ?_
      rintro e w1 ⟨v1, rfl, hg1, hr1⟩
      obtain ⟨hr1, ht1⟩ := hr1 t j rfl
      have hend := ended_any w1 _ j l (cell_of_heap hr1) (cell_of_heap hr1) hl
      rw [hd] at hend
      clear hread hd
      go_wp2_with fail
      refine hend.mono ?_
      rintro e w3 ⟨rfl, m, rfl⟩
      go_wp2_with fail
      go_ret2
      exact ParsePost.no H.out (below_drews (below_grown hg1) _) _
end Go.Proofs.Ytjomocjlnjgkeaa
