/-
  The reader of the model: l6In, l1Name, l1Atom.
-/
import Derived.Test.YtfpekihdoclncaaGreatPkAD
namespace Go.Proofs.YtfpekihdoclncaaGreat
open Go.RowKit

set_option maxHeartbeats 400000
set_option maxRecDepth 100000

theorem in_any (w : World) (n lo hi : Int) : Calls Tryz.prog 78 #[.int .i64 n, .int .i64 lo, .int .i64 hi] w fun e w' => e = .returned (.bool (decide (lo ≤ n ∧ n ≤ hi))) ∧ w = w' := by
  by_cases h1 : lo ≤ n
  · by_cases h2 : n ≤ hi
    · rw [show decide (lo ≤ n ∧ n ≤ hi) = true by simp [h1, h2]]
      go_enter Tryz.func78, Tryz.ntmps78
      go_wp2_with fail
      go_ret
      exact ⟨by simp, rfl⟩
    · rw [show decide (lo ≤ n ∧ n ≤ hi) = false by simp [h2]]
      go_enter Tryz.func78, Tryz.ntmps78
      go_wp2_with fail
      go_ret
      exact ⟨by simp, rfl⟩
  · rw [show decide (lo ≤ n ∧ n ≤ hi) = false by simp [h1]]
    go_enter Tryz.func78, Tryz.ntmps78
    go_wp2_with fail
    go_ret
    exact ⟨by simp, rfl⟩

theorem s_name (w : World) (l : List UInt8) (hl : l.length ≤ 1000000000) : Calls Tryz.prog 70 #[str l] w fun e w' => e = .returned (.bool (Tm.nameOk l)) ∧ w = w' := by
  have hsz : (⟨l.toArray⟩ : ByteArray).size = l.length := by show l.toArray.size = _; simp
  have hin := in_any w (l.length : Nat) 1 4
  by_cases hlen : 1 ≤ l.length ∧ l.length ≤ 4
  · rw [show decide ((1 : Int) ≤ ((l.length : Nat) : Int) ∧ ((l.length : Nat) : Int) ≤ 4) = true by rw [decide_eq_true_eq]; omega] at hin
    cases hcs : l with
    | nil => rw [hcs] at hlen; simp at hlen
    | cons c ds =>
      rw [← hcs]
      have hpos : 0 < l.length := by omega
      have hat : (⟨l.toArray⟩ : ByteArray)[0]'(by rw [hsz]; exact hpos) = c := by rw [byte_at l 0 hpos]; simp [hcs]
      have hok : Tm.nameOk l = (Tm.lead c && (l.drop 1).all Tm.dig) := by
        have : ds.length ≤ 3 := by have := hlen.2; rw [hcs] at this; simp at this; omega
        rw [hcs]; simp [Tm.nameOk, this]
      obtain ⟨hlen1, hlen4⟩ := hlen
      clear hcs
      by_cases hlead : Tm.lead c = true
      · have hfin : Hid (Tm.nameOk l = (l.drop 1).all Tm.dig) := by show _ = _; rw [hok, hlead]; rfl
        obtain ⟨hl1, hl2⟩ := (lead_int c).1 hlead
        clear hok hlead
        go_enter Tryz.func70, Tryz.ntmps70
        go_wp2_with (go_at_call 78; refine hin.mono ?_; rintro e w' ⟨rfl, rfl⟩)
        go_loop [3] (fun n => ∃ k : Nat, 1 ≤ k ∧ k ≤ l.length ∧ n = .int .i64 k ∧ Hid (Tm.nameOk l = (l.drop k).all Tm.dig)) (fun n => l.length - (intOf n).toNat)
        case atStart => exact ⟨1, by omega, by omega, rfl, hfin⟩
        case round =>
          obtain ⟨k, hk1, hkl, rfl, hk⟩ := hrel
          clear hat hfin
          by_cases hlt : k < l.length
          · have hatk := byte_at l k hlt (by rw [hsz]; exact hlt)
            have hdrop := List.drop_eq_getElem_cons hlt
            by_cases hd : Tm.dig l[k] = true
            · have HS : Hid (Tm.nameOk l = (l.drop (k + 1)).all Tm.dig) := by show _ = _; rw [hk.out, hdrop, List.all_cons, hd]; rfl
              obtain ⟨hd1, hd2⟩ := (dig_int _).1 hd
              rw [← hatk] at hd1 hd2
              clear hd hdrop hatk hk
              go_wp2_with fail
              go_round
              case rel => exact ⟨k + 1, by omega, by omega, by go_num, HS⟩
              case measure => simp [intOf]; omega
            · have HS : Hid (Tm.nameOk l = false) := by show _ = _; rw [hk.out, hdrop, List.all_cons]; simp [hd]
              rw [dig_int, ← hatk] at hd
              clear hdrop hatk hk
              by_cases hd1 : (48 : Int) ≤ (((⟨l.toArray⟩ : ByteArray)[k]'(by rw [hsz]; exact hlt)).toNat : Int)
              · have hd2 : (57 : Int) < (((⟨l.toArray⟩ : ByteArray)[k]'(by rw [hsz]; exact hlt)).toNat : Int) := by
                  have := fun h => hd ⟨hd1, h⟩
                  omega
                clear hd
                go_wp2_with fail
                go_ret
                exact ⟨by rw [HS.out]; rfl, rfl⟩
              · have hd2 : (((⟨l.toArray⟩ : ByteArray)[k]'(by rw [hsz]; exact hlt)).toNat : Int) < 48 := by omega
                clear hd hd1
                go_wp2_with fail
                go_ret
                exact ⟨by rw [HS.out]; rfl, rfl⟩
          · have HS : Hid (Tm.nameOk l = true) := by show _ = _; rw [hk.out, List.drop_eq_nil_of_le (by omega)]; rfl
            clear hk
            go_wp2_with fail
            go_ret
            exact ⟨by rw [HS.out]; rfl, rfl⟩
      · have hfin : Tm.nameOk l = false := by rw [hok]; simp [hlead]
        rw [hfin]
        rw [lead_int] at hlead
        clear hfin hok
        by_cases h1 : (c.toNat : Int) < 117
        · go_enter Tryz.func70, Tryz.ntmps70
          go_wp2_with (go_at_call 78; refine hin.mono ?_; rintro e w' ⟨rfl, rfl⟩)
          go_ret
          exact ⟨rfl, rfl⟩
        · have h2 : (122 : Int) < (c.toNat : Int) := by omega
          clear hlead
          go_enter Tryz.func70, Tryz.ntmps70
          go_wp2_with (go_at_call 78; refine hin.mono ?_; rintro e w' ⟨rfl, rfl⟩)
          go_ret
          exact ⟨rfl, rfl⟩
  · rw [show decide ((1 : Int) ≤ ((l.length : Nat) : Int) ∧ ((l.length : Nat) : Int) ≤ 4) = false by rw [decide_eq_false_iff_not]; omega] at hin
    have hfin : Tm.nameOk l = false := by
      cases hcs : l with
      | nil => rfl
      | cons c ds =>
        rw [hcs] at hlen
        simp at hlen
        have : ¬ ds.length ≤ 3 := by omega
        simp [Tm.nameOk, this]
    rw [hfin]
    clear hfin hlen
    go_enter Tryz.func70, Tryz.ntmps70
    go_wp2_with (go_at_call 78; refine hin.mono ?_; rintro e w' ⟨rfl, rfl⟩)
    go_ret
    exact ⟨rfl, rfl⟩

theorem atomEnd_mid (l : List UInt8) (k : Nat) (h : k < l.length) (hm : Tm.mid l[k] = true) : Tm.atomEnd l k = Tm.atomEnd l (k + 1) := by
  unfold Tm.atomEnd
  rw [List.drop_eq_getElem_cons h, List.takeWhile_cons]
  unfold Tm.mid at hm
  rw [hm]
  simp
  omega

theorem atomEnd_stop (l : List UInt8) (k : Nat) (h : k < l.length → Tm.mid (l.getD k 0) = false) : Tm.atomEnd l k = k := by
  unfold Tm.atomEnd
  by_cases hk : k < l.length
  · have hm := h hk
    rw [List.getD_eq_getElem?_getD, List.getElem?_eq_getElem hk] at hm
    rw [List.drop_eq_getElem_cons hk, List.takeWhile_cons]
    unfold Tm.mid at hm
    simp only [Option.getD_some] at hm
    rw [hm]
    simp
  · rw [List.drop_eq_nil_of_le (by omega)]
    simp

theorem byte_ne_lit (x : UInt8) (n : Nat) (h : n < 256) : ((x.toNat : Int) != (n : Int)) = (x != UInt8.ofNat n) := by
  have := byte_ne x (UInt8.ofNat n)
  rw [UInt8.toNat_ofNat_of_lt' (by simpa using h)] at this
  exact this

theorem s_atom (w : World) (l : List UInt8) (i : Nat) (hl : l.length ≤ 1000000000) (hi : i ≤ l.length) :
    Calls Tryz.prog 69 #[str l, .int .i64 i] w fun e w' => e = .returned (.int .i64 (Tm.atomEnd l i : Nat)) ∧ w = w' := by
  have hsz : (⟨l.toArray⟩ : ByteArray).size = l.length := by show l.toArray.size = _; simp
  go_enter Tryz.func69, Tryz.ntmps69
  go_wp2_with fail
  go_loop [1] (fun n => ∃ k : Nat, i ≤ k ∧ k ≤ l.length ∧ n = .int .i64 k ∧ Hid (Tm.atomEnd l i = Tm.atomEnd l k)) (fun n => l.length - (intOf n).toNat)
  case atStart => exact ⟨i, Nat.le_refl _, hi, rfl, rfl⟩
  case round =>
    obtain ⟨k, hk1, hkl, rfl, hk⟩ := hrel
    by_cases hlt : k < l.length
    · have hatk := byte_at l k hlt (by rw [hsz]; exact hlt)
      have n1 : ((l[k].toNat : Int) != 32) = (l[k] != (32 : UInt8)) := byte_ne_lit l[k] 32 (by omega)
      have n2 : ((l[k].toNat : Int) != 40) = (l[k] != (40 : UInt8)) := byte_ne_lit l[k] 40 (by omega)
      have n3 : ((l[k].toNat : Int) != 41) = (l[k] != (41 : UInt8)) := byte_ne_lit l[k] 41 (by omega)
      rw [← hatk] at n1 n2 n3
      by_cases hm : Tm.mid l[k] = true
      · have HS : Hid (Tm.atomEnd l i = Tm.atomEnd l (k + 1)) := by show _ = _; rw [hk.out, atomEnd_mid l k hlt hm]
        rw [← hatk] at hm
        simp only [Tm.mid, Bool.and_eq_true] at hm
        rw [hm.1.1] at n1
        rw [hm.1.2] at n2
        rw [hm.2] at n3
        clear hm hatk hk
        go_wp2_with fail
        go_round
        case rel => exact ⟨k + 1, by omega, by omega, by go_num, HS⟩
        case measure => simp [intOf]; omega
      · have HS : Hid (Tm.atomEnd l i = k) := by
          show _ = _
          rw [hk.out]
          exact atomEnd_stop l k (fun h => by rw [List.getD_eq_getElem?_getD, List.getElem?_eq_getElem h]; simpa using hm)
        rw [← hatk] at hm
        simp only [Tm.mid, Bool.and_eq_true, not_and, Bool.not_eq_true] at hm
        clear hatk hk
        cases m1 : ((((⟨l.toArray⟩ : ByteArray)[k]'(by rw [hsz]; exact hlt))) != (32 : UInt8)) with
        | false =>
          rw [m1] at n1
          clear m1 hm n2 n3
          go_wp2_with fail
          go_ret
          exact ⟨by rw [HS.out]; rfl, rfl⟩
        | true =>
          rw [m1] at n1
          cases m2 : ((((⟨l.toArray⟩ : ByteArray)[k]'(by rw [hsz]; exact hlt))) != (40 : UInt8)) with
          | false =>
            rw [m2] at n2
            clear m1 m2 hm n3
            go_wp2_with fail
            go_ret
            exact ⟨by rw [HS.out]; rfl, rfl⟩
          | true =>
            have m3 := hm ⟨m1, m2⟩
            rw [m2] at n2
            rw [m3] at n3
            clear m1 m2 m3 hm
            go_wp2_with fail
            go_ret
            exact ⟨by rw [HS.out]; rfl, rfl⟩
    · have HS : Hid (Tm.atomEnd l i = k) := by
        show _ = _
        rw [hk.out]
        exact atomEnd_stop l k (fun h => absurd h hlt)
      clear hk
      go_wp2_with fail
      go_ret
      exact ⟨by rw [HS.out]; rfl, rfl⟩
end Go.Proofs.YtfpekihdoclncaaGreat

namespace Go.Proofs.YtfpekihdoclncaaGreat
open Go.RowKit

set_option maxHeartbeats 400000
set_option maxRecDepth 100000

theorem TV.grown {w w' : World} {b : Nat} {t : Tm} {v : Value} (h : TV w (b + 1) t v) (hg : w.grownBy w' (some b)) : TV w' (b + 1) t v :=
  h.same fun k hk hl => hg.block k hl (fun e => by injection e with e; omega)

theorem size_le_text (t : Tm) (h : t.good = true) : t.size ≤ t.text.length := by
  induction t with
  | nm n => simp only [Tm.good] at h; cases n with
    | nil => simp [Tm.nameOk] at h
    | cons c ds => simp [Tm.size, Tm.text]
  | app f a ihf iha => simp only [Tm.good, Bool.and_eq_true] at h; have := ihf h.1; have := iha h.2; simp [Tm.size, Tm.text]; omega
  | _ => simp [Tm.size, Tm.text]

theorem reads_size {l : List UInt8} {d i j : Nat} {t : Tm} (h : Tm.Reads l d i t j) : t.size ≤ l.length ∧ j ≤ l.length := by
  obtain ⟨h1, h2, h3, h4, h5⟩ := h
  have := size_le_text t h4
  have e := congrArg List.length h1
  simp at e
  omega

theorem AtomPost.no {w w' : World} {b : Nat} {l : List UInt8} {r : Option (Tm × Nat)} (hr : r = none) (hg : w.grownBy w' (some b)) (v : Value) : AtomPost w b l r (.returned (.tuple #[v, .bool false])) w' :=
  ⟨v, by rw [hr]; rfl, hg, fun t j he => by rw [hr] at he; simp at he⟩

theorem read_any (l : List UInt8) (hl : l.length ≤ 1000000000) : ∀ (d : Nat) (a : Int) (w : World) (b i : Nat), Rd w b l i → i ≤ l.length → a + d = 1501 → d ≤ 1501 →
    Calls Tryz.prog 42 #[.pointer (some ⟨b, 0, none⟩), .int .i64 a] w (AtomPost w b l (Tm.read l d i)) := by
  intro d
  induction d with
  | zero =>
    intro a w b i h hi ha _
    have h1 : (1500 : Int) < a := by omega
    go_enter Tryz.func42, Tryz.ntmps42
    go_wp2_with fail
    go_ret2
    exact AtomPost.no rfl (grown_drawn w b 0) _
  | succ d ih =>
    intro a w b i h hi ha hd
    have h1 : a ≤ 1500 := by omega
    have h2 : 0 ≤ a := by omega
    have hsk := skip_any w b i l 40 40 rfl h hl hi
    by_cases h0 : l[i]? = some 40
    · have hdec : decide (l[i]? = some 40) = true := by simp [h0]
      rw [hdec] at hsk
      have hi1 : i + 1 ≤ l.length := (List.getElem?_eq_some_iff.1 h0).1
      cases hf : Tm.read l d (i + 1) with
      | none =>
        have hfin : Tm.read l (d + 1) i = none := by simp [Tm.read, h0, hf]
        have H := Lib.hid hfin
        have HF := Lib.hid hf
        have HA := Lib.hid ha
        have HIH := Lib.hid ih
        clear hfin hf ha ih hdec h0 h hi
        go_enter Tryz.func42, Tryz.ntmps42
        go_wp2_with fail
        refine hsk.mono ?_
        rintro e w1 ⟨rfl, hg1, hr1⟩
        go_wp2_with fail
        refine (HIH.out (a + 1) _ b (i + 1) hr1 hi1 (by have := HA.out; omega) (by omega)).mono ?_
        rintro e w2 ⟨v2, rfl, hg2, hr2⟩
        rw [HF.out]
        clear hr2
        go_wp2_with fail
        go_ret2
        exact AtomPost.no H.out (grown_trans hg1 hg2) _
      | some p =>
        obtain ⟨f, j⟩ := p
        obtain ⟨zf, hj⟩ := reads_size (Tm.read_sound hf)
        have H0 := Lib.hid h0
        have HF := Lib.hid hf
        have HA := Lib.hid ha
        have HIH := Lib.hid ih
        clear hf ha ih hdec h0 h hi
        by_cases h32 : l[j]? = some 32
        · have hj1 : j + 1 ≤ l.length := (List.getElem?_eq_some_iff.1 h32).1
          have hdec : decide (l[j]? = some 32) = true := by simp [h32]
          have HD := Lib.hid hdec
          cases hq : Tm.read l d (j + 1) with
          | none =>
            have hfin : Tm.read l (d + 1) i = none := by simp [Tm.read, H0.out, HF.out, h32, hq]
            have H := Lib.hid hfin
            have HQ := Lib.hid hq
            clear hfin hq hdec h32
            go_enter Tryz.func42, Tryz.ntmps42
            go_wp2_with fail
            refine hsk.mono ?_
            rintro e w1 ⟨rfl, hg1, hr1⟩
            go_wp2_with fail
            refine (HIH.out (a + 1) _ b (i + 1) hr1 hi1 (by have := HA.out; omega) (by omega)).mono ?_
            rintro e w2 ⟨v2, rfl, hg2, hr2⟩
            rw [HF.out]
            obtain ⟨hr2, ht2⟩ := hr2 f j HF.out
            have hsk2 := skip_any w2 b j l 32 32 rfl hr2 hl hj
            rw [HD.out] at hsk2
            go_wp2_with fail
            refine hsk2.mono ?_
            rintro e w3 ⟨rfl, hg3, hr3⟩
            clear hsk hsk2
            go_wp2_with fail
            refine (HIH.out (a + 1) _ b (j + 1) hr3 hj1 (by have := HA.out; omega) (by omega)).mono ?_
            rintro e w4 ⟨v4, rfl, hg4, hr4⟩
            rw [HQ.out]
            clear hr4
            go_wp2_with fail
            go_ret2
            exact AtomPost.no H.out (grown_trans (grown_trans hg1 hg2) (grown_trans hg3 hg4)) _
          | some p =>
            obtain ⟨g, m⟩ := p
            obtain ⟨zg, hm⟩ := reads_size (Tm.read_sound hq)
            by_cases h41 : l[m]? = some 41
            · have hdec2 : decide (l[m]? = some 41) = true := by simp [h41]
              have hfin : Tm.read l (d + 1) i = some (f.app g, m + 1) := by simp [Tm.read, H0.out, HF.out, h32, hq, h41]
              have H := Lib.hid hfin
              have HQ := Lib.hid hq
              have HD2 := Lib.hid hdec2
              clear hfin hq hdec h32 hdec2 h41
              go_enter Tryz.func42, Tryz.ntmps42
              go_wp2_with fail
              refine hsk.mono ?_
              rintro e w1 ⟨rfl, hg1, hr1⟩
              go_wp2_with fail
              refine (HIH.out (a + 1) _ b (i + 1) hr1 hi1 (by have := HA.out; omega) (by omega)).mono ?_
              rintro e w2 ⟨v2, rfl, hg2, hr2⟩
              rw [HF.out]
              obtain ⟨hr2, ht2⟩ := hr2 f j HF.out
              have hsk2 := skip_any w2 b j l 32 32 rfl hr2 hl hj
              rw [HD.out] at hsk2
              go_wp2_with fail
              refine hsk2.mono ?_
              rintro e w3 ⟨rfl, hg3, hr3⟩
              clear hsk hsk2
              go_wp2_with fail
              refine (HIH.out (a + 1) _ b (j + 1) hr3 hj1 (by have := HA.out; omega) (by omega)).mono ?_
              rintro e w4 ⟨v4, rfl, hg4, hr4⟩
              rw [HQ.out]
              obtain ⟨hr4, ht4⟩ := hr4 g m HQ.out
              have hsk3 := skip_any w4 b m l 41 41 rfl hr4 hl hm
              rw [HD2.out] at hsk3
              go_wp2_with fail
              refine hsk3.mono ?_
              rintro e w5 ⟨rfl, hg5, hr5⟩
              clear hsk3
              have htf := ((ht2.grown hg3).grown hg4).grown hg5
              have hta := ht4.grown hg5
              have hlt5 := Rd.lt hr5
              go_wp2_with fail
              refine (apply_any _ (b + 1) f g _ _ htf hta hlt5 (by omega)).mono ?_
              rintro e w6 ⟨v6, rfl, hb6, hv6⟩
              go_wp2_with fail
              go_ret2
              have hr6 : Rd w6 b l (m + 1) := by unfold Rd at *; rw [hb6.block b hlt5]; exact hr5
              have hg6 : w5.grownBy w6 (some b) := ⟨hb6.os, hb6.tape, hb6.output, hb6.size, fun k hk _ => hb6.block k hk⟩
              refine ⟨_, by rw [H.out]; rfl, grown_trans (grown_trans (grown_trans hg1 hg2) (grown_trans hg3 hg4)) (grown_trans hg5 hg6), fun t j' he => ?_⟩
              rw [H.out] at he
              simp only [Option.some.injEq, Prod.mk.injEq] at he
              obtain ⟨rfl, rfl⟩ := he
              exact ⟨hr6, hv6⟩
            · have hdec2 : decide (l[m]? = some 41) = false := by simp [h41]
              have hfin : Tm.read l (d + 1) i = none := by simp [Tm.read, H0.out, HF.out, h32, hq, h41]
              have H := Lib.hid hfin
              have HQ := Lib.hid hq
              have HD2 := Lib.hid hdec2
              clear hfin hq hdec h32 hdec2 h41
              go_enter Tryz.func42, Tryz.ntmps42
              go_wp2_with fail
              refine hsk.mono ?_
              rintro e w1 ⟨rfl, hg1, hr1⟩
              go_wp2_with fail
              refine (HIH.out (a + 1) _ b (i + 1) hr1 hi1 (by have := HA.out; omega) (by omega)).mono ?_
              rintro e w2 ⟨v2, rfl, hg2, hr2⟩
              rw [HF.out]
              obtain ⟨hr2, ht2⟩ := hr2 f j HF.out
              have hsk2 := skip_any w2 b j l 32 32 rfl hr2 hl hj
              rw [HD.out] at hsk2
              go_wp2_with fail
              refine hsk2.mono ?_
              rintro e w3 ⟨rfl, hg3, hr3⟩
              clear hsk hsk2
              go_wp2_with fail
              refine (HIH.out (a + 1) _ b (j + 1) hr3 hj1 (by have := HA.out; omega) (by omega)).mono ?_
              rintro e w4 ⟨v4, rfl, hg4, hr4⟩
              rw [HQ.out]
              obtain ⟨hr4, ht4⟩ := hr4 g m HQ.out
              have hsk3 := skip_any w4 b m l 41 41 rfl hr4 hl hm
              rw [HD2.out] at hsk3
              go_wp2_with fail
              refine hsk3.mono ?_
              rintro e w5 ⟨rfl, hg5, hr5⟩
              clear hsk3
              go_wp2_with fail
              go_ret2
              exact AtomPost.no H.out (grown_trans (grown_trans (grown_trans hg1 hg2) (grown_trans hg3 hg4)) hg5) _
        · have hdec : decide (l[j]? = some 32) = false := by simp [h32]
          have hfin : Tm.read l (d + 1) i = none := by simp [Tm.read, H0.out, HF.out, h32]
          have H := Lib.hid hfin
          have HD := Lib.hid hdec
          clear hfin hdec h32
          go_enter Tryz.func42, Tryz.ntmps42
          go_wp2_with fail
          refine hsk.mono ?_
          rintro e w1 ⟨rfl, hg1, hr1⟩
          go_wp2_with fail
          refine (HIH.out (a + 1) _ b (i + 1) hr1 hi1 (by have := HA.out; omega) (by omega)).mono ?_
          rintro e w2 ⟨v2, rfl, hg2, hr2⟩
          rw [HF.out]
          obtain ⟨hr2, ht2⟩ := hr2 f j HF.out
          have hsk2 := skip_any w2 b j l 32 32 rfl hr2 hl hj
          rw [HD.out] at hsk2
          go_wp2_with fail
          refine hsk2.mono ?_
          rintro e w3 ⟨rfl, hg3, hr3⟩
          clear hsk hsk2
          go_wp2_with fail
          go_ret2
          exact AtomPost.no H.out (grown_trans (grown_trans hg1 hg2) hg3) _
    · have hdec : decide (l[i]? = some 40) = false := by simp [h0]
      rw [hdec] at hsk
      have hfin : Tm.read l (d + 1) i = Tm.readAtom l i := by simp [Tm.read, h0]
      rw [hfin]
      have HI := Lib.hid hi
      clear hdec hfin h0 h ih hi
      go_enter Tryz.func42, Tryz.ntmps42
      go_wp2_with fail
      refine hsk.mono ?_
      rintro e w1 ⟨rfl, hg1, hr1⟩
      go_wp2_with fail
      refine (readAtom_any _ b i l hr1 hl HI.out).mono ?_
      rintro e w2 ⟨v2, rfl, hg2, hr2⟩
      have HR := Lib.hid hr2
      clear hr2
      go_wp2_with fail
      go_ret2
      exact ⟨_, rfl, grown_trans hg1 hg2, HR.out⟩

def ParsePost (w : World) (B : Nat) (l : List UInt8) (e : Ending) (w' : World) : Prop :=
  ∃ v, e = .returned (.tuple #[v, .bool (Tm.parse l).isSome]) ∧ Below w.heap.size w w' ∧ ∀ t, Tm.parse l = some t → TV w' B t v

theorem ParsePost.no {w w' : World} {B : Nat} {l : List UInt8} (hr : Tm.parse l = none) (hg : Below w.heap.size w w') (v : Value) : ParsePost w B l (.returned (.tuple #[v, .bool false])) w' :=
  ⟨v, by rw [hr]; rfl, hg, fun t he => by rw [hr] at he; simp at he⟩

theorem below_grown {w w' : World} {o : Obj} (hg : (w.alloc o).grownBy w' (some w.heap.size)) : Below w.heap.size w w' :=
  ((Below.refl _ _).alloc (Nat.le_refl _) o).grown hg (by simp) (fun k hk => by injection hk with hk; omega)

theorem below_drews {n : Nat} {a b : World} (h : Below n a b) (m : Nat) : Below n a (b.drewN m) := ⟨h.os, h.tape, h.output, h.size, h.block⟩

theorem readTerm_any (w : World) (B : Nat) (l : List UInt8) (hB : B ≤ w.heap.size) (hl : l.length ≤ 1000000000) :
    Calls Tryz.prog 21 #[str l] w (ParsePost w B l) := by
  have hrd : Rd (w.alloc (.cells #[str l, .int .i64 0] 83)) w.heap.size l 0 := heap_new _ _
  have hread := read_any l hl 1501 0 _ _ 0 hrd (Nat.zero_le _) (by omega) (by omega)
  have hsz : (⟨l.toArray⟩ : ByteArray).size = l.length := by show l.toArray.size = _; simp
  cases hq : Tm.read l 1501 0 with
  | none =>
    have hfin : Tm.parse l = none := by simp [Tm.parse, hq]
    have H := Lib.hid hfin
    rw [hq] at hread
    clear hfin hq hrd
    go_enter Tryz.func21, Tryz.ntmps21
    go_wp2_with fail
    refine hread.mono ?_
    rintro e w1 ⟨v1, rfl, hg1, hr1⟩
    clear hr1 hread
    go_wp2_with fail
    go_ret2
    exact ParsePost.no H.out (below_grown hg1) _
  | some p =>
    obtain ⟨t, j⟩ := p
    obtain ⟨zt, hj⟩ := reads_size (Tm.read_sound hq)
    rw [hq] at hread
    have hpf : Tm.parse l = if j = l.length ∧ t.fits = true then some t else none := by simp only [Tm.parse, hq]
    have HP := Lib.hid hpf
    clear hpf hq hrd
    by_cases hje : j = l.length
    · have hd : decide (j = l.length) = true := by simp [hje]
      cases hf : t.fits with
      | true =>
        have H := Lib.hid (show Tm.parse l = some t by rw [HP.out, hje, hf]; simp)
        have HF := Lib.hid hf
        clear hf HP
        go_enter Tryz.func21, Tryz.ntmps21
        go_wp2_with fail
        refine hread.mono ?_
        rintro e w1 ⟨v1, rfl, hg1, hr1⟩
        obtain ⟨hr1, ht1⟩ := hr1 t j rfl
        have hend := ended_any w1 _ j l (cell_of_heap hr1) (cell_of_heap hr1) hl
        rw [hd] at hend
        have hfit := fun m => fits_any (w1.drewN m) _ t v1 (TV.same (w := w1) (w' := w1.drewN m) (fun _ _ _ => rfl) ht1)
        rw [HF.out] at hfit
        clear hread hd
        go_wp2_with fail
        refine hend.mono ?_
        rintro e w3 ⟨rfl, m, rfl⟩
        go_wp2_with (go_at_call 29; refine (hfit _).mono ?_; rintro e w2 ⟨rfl, hb2⟩)
        go_ret2
        have hb2' : Below w1.heap.size w1 w2 := (below_drews (Below.refl _ _) m).trans hb2
        refine ⟨_, by rw [H.out]; rfl, (below_grown hg1).trans (hb2'.mono (Nat.le_of_lt (Rd.lt hr1))), fun t' he => ?_⟩
        rw [H.out] at he
        obtain rfl := Option.some.inj he
        exact (ht1.less (by omega)).below hb2'
      | false =>
        have H := Lib.hid (show Tm.parse l = none by rw [HP.out, hf]; simp)
        have HF := Lib.hid hf
        clear hf HP
        go_enter Tryz.func21, Tryz.ntmps21
        go_wp2_with fail
        refine hread.mono ?_
        rintro e w1 ⟨v1, rfl, hg1, hr1⟩
        obtain ⟨hr1, ht1⟩ := hr1 t j rfl
        have hend := ended_any w1 _ j l (cell_of_heap hr1) (cell_of_heap hr1) hl
        rw [hd] at hend
        have hfit := fun m => fits_any (w1.drewN m) _ t v1 (TV.same (w := w1) (w' := w1.drewN m) (fun _ _ _ => rfl) ht1)
        rw [HF.out] at hfit
        clear hread hd
        go_wp2_with fail
        refine hend.mono ?_
        rintro e w3 ⟨rfl, m, rfl⟩
        go_wp2_with (go_at_call 29; refine (hfit _).mono ?_; rintro e w2 ⟨rfl, hb2⟩)
        go_ret2
        have hb2' : Below w1.heap.size w1 w2 := (below_drews (Below.refl _ _) m).trans hb2
        exact ParsePost.no H.out ((below_grown hg1).trans (hb2'.mono (Nat.le_of_lt (Rd.lt hr1)))) _
    · have H := Lib.hid (show Tm.parse l = none by rw [HP.out]; simp [hje])
      have hd : decide (j = l.length) = false := by simp [hje]
      clear HP
      go_enter Tryz.func21, Tryz.ntmps21
      go_wp2_with fail
      refine hread.mono ?_
      rintro e w1 ⟨v1, rfl, hg1, hr1⟩
      obtain ⟨hr1, ht1⟩ := hr1 t j rfl
      have hend := ended_any w1 _ j l (cell_of_heap hr1) (cell_of_heap hr1) hl
      rw [hd] at hend
      clear hread hd
      go_wp2_with fail
      refine hend.mono ?_
      rintro e w3 ⟨rfl, m, rfl⟩
      go_wp2_with fail
      go_ret2
      exact ParsePost.no H.out (below_drews (below_grown hg1) _) _
end Go.Proofs.YtfpekihdoclncaaGreat

namespace Go.Proofs.YtfpekihdoclncaaGreat
open Go.RowKit

set_option maxHeartbeats 400000
set_option maxRecDepth 100000

def place : Option (Tm × Nat) → Int
  | some (_, j) => (j : Nat)
  | none => -1

def SReadPost (w : World) (r : Option (Tm × Nat)) (e : Ending) (w' : World) : Prop :=
  ∃ s ao n c, e = .returned (.tuple #[.agg #[str s, .slice ao n c], .int .i64 (place r)]) ∧ After w w' ∧ ∀ t j, r = some (t, j) → ST w' t (.agg #[str s, .slice ao n c])

theorem box2 {w W : World} {x y : Value} {T : TypeId} (h : After (w.alloc (.cells #[x, y] T)) W) :
    W.cell? ⟨w.heap.size, 0, none⟩ = some x ∧ W.cell? ⟨w.heap.size, 1, none⟩ = some y ∧ W.frozen? ⟨w.heap.size, 0, none⟩ = false ∧ W.frozen? ⟨w.heap.size, 1, none⟩ = false ∧ w.heap.size < W.heap.size := by
  have hh := h.heap (heap_new' w (.cells #[x, y] T))
  refine ⟨cell_of_heap hh, cell_of_heap hh, by simp [World.frozen?, hh], by simp [World.frozen?, hh], (Array.getElem?_eq_some_iff.1 hh).1⟩

theorem byte_ne_lit' (x : UInt8) (n : Int) (c : UInt8) (hn : n = (c.toNat : Nat)) (_h : c = c) : ((x.toNat : Int) != n) = (x != c) := by
  subst hn; exact byte_ne x c

theorem ST_atom (w : World) (t : Tm) (h : t.depth = 0) : ST w t (.agg #[str t.text, .slice none 0 0]) := by
  cases t with
  | app f a => simp [Tm.depth] at h
  | k => rfl
  | s => rfl
  | nm n => rfl

theorem After.set {w W : World} {o : Obj} (h : After (w.alloc o) W) (i : Nat) (v : Value) : After w (W.setCell ⟨w.heap.size, i, none⟩ v) :=
  Below.setCell ((After.new w o).trans h) (Nat.le_refl _) v

theorem After.set2 {w W : World} {o : Obj} (h : After (w.alloc o) W) {i j : Nat} {v u : Value} : After w ((W.setCell ⟨w.heap.size, i, none⟩ v).setCell ⟨w.heap.size, j, none⟩ u) :=
  Below.setCell (h.set i v) (Nat.le_refl _) u

theorem SReadPost.no {w w' : World} {r : Option (Tm × Nat)} (hr : r = none) (hb : After w w') : SReadPost w r (.returned (.tuple #[.agg #[.string ⟨#[]⟩, .slice none 0 0], .int .i64 (-1)])) w' :=
  ⟨[], none, 0, 0, by rw [hr]; rfl, hb, fun t j he => by rw [hr] at he; simp at he⟩

theorem heap_new2 (W : World) (n : Nat) (o p : Obj) (h : W.heap.size = n) : ((W.alloc o).alloc p).heap[n + 1]? = some p := by
  have := heap_new' (W.alloc o) p
  rw [show (W.alloc o).heap.size = n + 1 by simp [h]] at this
  exact this

theorem ST.kept {W W' : World} (hk : ∀ (g : Nat) (cs : Array Value) (T : TypeId) (fr : Nat × Nat), cs.size = 4 → W.heap[g]? = some (.cells cs T fr) → W'.heap[g]? = some (.cells cs T fr)) : ∀ {t : Tm} {v : Value}, ST W t v → ST W' t v
  | .k, _, h => h
  | .s, _, h => h
  | .nm _, _, h => h
  | .app _ _, _, ⟨g, cap, fr, s0, p0, s1, p1, hv, hh, hf, ha⟩ => ⟨g, cap, fr, s0, p0, s1, p1, hv, hk _ _ _ _ rfl hh, hf.kept hk, ha.kept hk⟩

theorem ST.sets {w W : World} {x y u u' : Value} {T : TypeId} {t : Tm} {v : Value} (h : ST W t v) (hb : After (w.alloc (.cells #[x, y] T)) W) {i j : Nat} : ST ((W.setCell ⟨w.heap.size, i, none⟩ u).setCell ⟨w.heap.size, j, none⟩ u') t v := by
  have hh := hb.heap (heap_new' w (.cells #[x, y] T))
  refine h.kept fun g cs T' fr hs hg => ?_
  have hne : g ≠ w.heap.size := by
    rintro rfl
    rw [hh] at hg
    injection hg with hg
    injection hg with hg _ _
    subst hg
    simp at hs
  rw [Below.heap_setCell _ _ _ _ hne, Below.heap_setCell _ _ _ _ hne]
  exact hg

set_option maxHeartbeats 8000000 in
theorem s_read (l : List UInt8) (hl : l.length ≤ 1000000000) : ∀ (d : Nat) (i a : Int) (k : Nat) (w : World), i = k → k ≤ l.length → a + d = 1501 → d ≤ 1501 →
    Calls Tryz.prog 55 #[str l, .int .i64 i, .int .i64 a] w (SReadPost w (Tm.mread l d k)) := by
  intro d
  induction d with
  | zero =>
    intro i a k w hi hk ha _
    subst hi
    have h1 : (1500 : Int) < a := by omega
    clear ha
    go_enter Tryz.func55, Tryz.ntmps55
    go_wp2_with fail
    exact bodyPost_ret (v := .tuple #[.agg #[.string ⟨#[]⟩, .slice none 0 0], .int .i64 (-1)]) (by simp [results, Tryz.results55, go_sem]) rfl (SReadPost.no rfl (After.new _ _))
  | succ d ih =>
    intro i a k w hi hk ha hd
    subst hi
    have h1 : a ≤ 1500 := by omega
    have h2 : 0 ≤ a := by omega
    have hsz : (⟨l.toArray⟩ : ByteArray).size = l.length := by show l.toArray.size = _; simp
    by_cases hlen : l.length ≤ k
    · have hfin : Tm.mread l (d + 1) k = none := by simp [Tm.mread, hlen]
      rw [hfin]
      clear hfin ih ha
      go_enter Tryz.func55, Tryz.ntmps55
      go_wp2_with fail
      exact bodyPost_ret (v := .tuple #[.agg #[.string ⟨#[]⟩, .slice none 0 0], .int .i64 (-1)]) (by simp [results, Tryz.results55, go_sem]) rfl (SReadPost.no rfl (After.new _ _))
    · have hlt : k < l.length := by omega
      have hatk := byte_at l k hlt (by rw [hsz]; exact hlt)
      have hget : l[k]? = some l[k] := List.getElem?_eq_getElem hlt
      have h40e : ((((⟨l.toArray⟩ : ByteArray)[k]'(by rw [hsz]; exact hlt)).toNat : Int) != 40) = (l[k] != (40 : UInt8)) := by
        rw [hatk]; exact byte_ne_lit l[k] 40 (by omega)
      by_cases h40 : l[k] = 40
      · have hne : (l[k] != (40 : UInt8)) = false := by simpa using h40
        rw [hne] at h40e
        have h0 : l[k]? = some 40 := by rw [hget, h40]
        have HA := Lib.hid ha
        have HIH := Lib.hid ih
        have call1 : ∀ W, Calls Tryz.prog 55 #[str l, .int .i64 ((k : Int) + 1), .int .i64 (a + 1)] W (SReadPost W (Tm.mread l d (k + 1))) := fun W => ih _ _ (k + 1) W (by omega) (by omega) (by omega) (by omega)
        clear hne h40 hget hatk ha ih
        cases hf : Tm.mread l d (k + 1) with
        | none =>
          have hfin : Tm.mread l (d + 1) k = none := by simp [Tm.mread, hlen, h0, hf]
          rw [hfin]
          rw [hf] at call1
          clear hfin hf h0 hlen
          go_enter Tryz.func55, Tryz.ntmps55
          go_wp2_with fail
          refine (call1 _).mono ?_
          rintro e w1 ⟨s1, ao1, n1, c1, rfl, hb1, ht1⟩
          clear ht1 call1
          obtain ⟨r0, r1, f0, f1, hz⟩ := box2 hb1
          have hpl : place none = -1 := rfl
          go_wp2_with fail
          exact bodyPost_ret (v := .tuple #[.agg #[.string ⟨#[]⟩, .slice none 0 0], .int .i64 (-1)]) (by simp [results, Tryz.results55, go_sem, r0, r1, hz]) rfl (SReadPost.no rfl (After.alloc (After.set2 hb1) _))
        | some p =>
          obtain ⟨f, j⟩ := p
          obtain ⟨zf, hj⟩ := reads_size (Tm.mread_sound hf)
          rw [hf] at call1
          have hpl : place (some (f, j)) = (j : Int) := rfl
          by_cases h32 : l[j]? = some 32
          · obtain ⟨jlt, hjv⟩ := List.getElem?_eq_some_iff.1 h32
            have hatj : ((((⟨l.toArray⟩ : ByteArray)[j]'(by rw [hsz]; exact jlt)).toNat : Int) != 32) = false := by
              rw [byte_at l j jlt, byte_ne_lit' l[j] 32 32 rfl rfl, hjv]; rfl
            have call2 : ∀ W, Calls Tryz.prog 55 #[str l, .int .i64 ((j : Int) + 1), .int .i64 (a + 1)] W (SReadPost W (Tm.mread l d (j + 1))) := fun W => HIH.out _ _ (j + 1) W (by omega) (by omega) (by have := HA.out; omega) (by omega)
            cases hq : Tm.mread l d (j + 1) with
            | none =>
              have H := Lib.hid (show Tm.mread l (d + 1) k = none by simp [Tm.mread, hlen, h0, hf, h32, hq])
              rw [hq] at call2
              have hpl2 : place none = -1 := rfl
              clear hq hf h32 h0 hlen hjv
              go_enter Tryz.func55, Tryz.ntmps55
              go_wp2_with fail
              refine (call1 _).mono ?_
              rintro e w1 ⟨s1, ao1, n1, c1, rfl, hb1, ht1⟩
              have ht1' := Lib.hid (ht1 f _ rfl)
              clear ht1 call1
              obtain ⟨r0, r1, f0, f1, hz⟩ := box2 hb1
              go_wp2_with fail
              refine (call2 _).mono ?_
              rintro e w2 ⟨s2, ao2, n2, c2, rfl, hb2, ht2⟩
              have hb12 : After (w.alloc (.cells #[.string ⟨#[]⟩, .slice none 0 0] 42)) w2 := (After.alloc hb1 _).trans hb2
              clear r0 r1 f0 f1 hz call2
              obtain ⟨r0, r1, f0, f1, hz⟩ := box2 hb12
              clear ht2
              go_wp2_with fail
              exact bodyPost_ret (v := .tuple #[.agg #[.string ⟨#[]⟩, .slice none 0 0], .int .i64 (-1)]) (by simp [results, Tryz.results55, go_sem, r0, r1, hz]) rfl (SReadPost.no H.out (After.alloc (After.set2 hb12) _))
            | some p =>
              obtain ⟨g, m⟩ := p
              obtain ⟨zg, hm⟩ := reads_size (Tm.mread_sound hq)
              rw [hq] at call2
              have hpl2 : place (some (g, m)) = (m : Int) := rfl
              by_cases h41 : l[m]? = some 41
              · obtain ⟨mlt, hmv⟩ := List.getElem?_eq_some_iff.1 h41
                have hatm : ((((⟨l.toArray⟩ : ByteArray)[m]'(by rw [hsz]; exact mlt)).toNat : Int) != 41) = false := by
                  rw [byte_at l m mlt, byte_ne_lit' l[m] 41 41 rfl rfl, hmv]; rfl
                have H := Lib.hid (show Tm.mread l (d + 1) k = some (f.app g, m + 1) by simp [Tm.mread, hlen, h0, hf, h32, hq, h41])
                clear hq hf h32 h0 hlen hjv h41 hmv
                go_enter Tryz.func55, Tryz.ntmps55
                go_wp2_with fail
                refine (call1 _).mono ?_
                rintro e w1 ⟨s1, ao1, n1, c1, rfl, hb1, ht1⟩
                have ht1' := Lib.hid (ht1 f _ rfl)
                clear ht1 call1
                obtain ⟨r0, r1, f0, f1, hz⟩ := box2 hb1
                go_wp2_with fail
                refine (call2 _).mono ?_
                rintro e w2 ⟨s2, ao2, n2, c2, rfl, hb2, ht2⟩
                have hb12 : After (w.alloc (.cells #[.string ⟨#[]⟩, .slice none 0 0] 42)) w2 := (After.alloc hb1 _).trans hb2
                clear r0 r1 f0 f1 hz call2
                obtain ⟨r0, r1, f0, f1, hz⟩ := box2 hb12
                have ht2' := Lib.hid (ht2 g m rfl)
                clear ht2
                have a1 : w2.cell? ⟨w1.heap.size, 0, none⟩ = some (str s1) ∧ w2.cell? ⟨w1.heap.size, 1, none⟩ = some (.slice ao1 n1 c1) ∧ w1.heap.size < w2.heap.size := by
                  obtain ⟨q0, q1, _, _, q4⟩ := box2 hb2
                  exact ⟨q0, q1, q4⟩
                obtain ⟨q0, q1, q4⟩ := a1
                go_wp2_with fail
                refine bodyPost_ret (v := .tuple #[.agg #[.string ⟨#[]⟩, .slice (some ⟨w2.heap.size + 1, 0, none⟩) 2 2], .int .i64 ((m : Int) + 1)]) (by simp [results, Tryz.results55, go_sem, r0, r1, hz]) rfl ?_
                refine ⟨[], some ⟨w2.heap.size + 1, 0, none⟩, 2, 2, by rw [H.out]; rfl, After.alloc (After.alloc (After.set2 hb12) _) _, fun t j' he => ?_⟩
                rw [H.out] at he
                simp only [Option.some.injEq, Prod.mk.injEq] at he
                obtain ⟨rfl, rfl⟩ := he
                have k1 := (((ht1'.out.later ((After.new w1 _).trans hb2)).sets (i := 0) (j := 1) (u := .string ⟨#[]⟩) (u' := .slice (some ⟨w2.heap.size + 1, 0, none⟩) 2 2) hb12).later (After.new _ (.cells #[.string ⟨s2.toArray⟩, .slice ao2 n2 c2] 42))).later (After.new _ (.cells #[str s1, .slice ao1 n1 c1, .string ⟨s2.toArray⟩, .slice ao2 n2 c2] 42))
                have k2 := ((ht2'.out.sets (i := 0) (j := 1) (u := .string ⟨#[]⟩) (u' := .slice (some ⟨w2.heap.size + 1, 0, none⟩) 2 2) hb12).later (After.new _ (.cells #[.string ⟨s2.toArray⟩, .slice ao2 n2 c2] 42))).later (After.new _ (.cells #[str s1, .slice ao1 n1 c1, .string ⟨s2.toArray⟩, .slice ao2 n2 c2] 42))
                refine ⟨w2.heap.size + 1, 2, (0, 0), _, _, _, _, rfl, ?_, k1, k2⟩
                exact heap_new2 _ _ _ _ (by simp [World.setCell])
              · have H := Lib.hid (show Tm.mread l (d + 1) k = none by simp [Tm.mread, hlen, h0, hf, h32, hq, h41])
                by_cases hml : m = l.length
                · subst hml
                  clear hq hf h32 h0 hlen hjv h41
                  go_enter Tryz.func55, Tryz.ntmps55
                  go_wp2_with fail
                  refine (call1 _).mono ?_
                  rintro e w1 ⟨s1, ao1, n1, c1, rfl, hb1, ht1⟩
                  have ht1' := Lib.hid (ht1 f _ rfl)
                  clear ht1 call1
                  obtain ⟨r0, r1, f0, f1, hz⟩ := box2 hb1
                  go_wp2_with fail
                  refine (call2 _).mono ?_
                  rintro e w2 ⟨s2, ao2, n2, c2, rfl, hb2, ht2⟩
                  have hb12 : After (w.alloc (.cells #[.string ⟨#[]⟩, .slice none 0 0] 42)) w2 := (After.alloc hb1 _).trans hb2
                  clear r0 r1 f0 f1 hz call2
                  obtain ⟨r0, r1, f0, f1, hz⟩ := box2 hb12
                  clear ht2
                  go_wp2_with fail
                  exact bodyPost_ret (v := .tuple #[.agg #[.string ⟨#[]⟩, .slice none 0 0], .int .i64 (-1)]) (by simp [results, Tryz.results55, go_sem, r0, r1, hz]) rfl (SReadPost.no H.out (After.alloc (After.set2 hb12) _))
                · have mlt : m < l.length := by omega
                  have hatm : ((((⟨l.toArray⟩ : ByteArray)[m]'(by rw [hsz]; exact mlt)).toNat : Int) != 41) = true := by
                    rw [byte_at l m mlt, byte_ne_lit' l[m] 41 41 rfl rfl]
                    rw [List.getElem?_eq_getElem mlt] at h41
                    simpa using h41
                  clear hq hf h32 h0 hlen hjv h41
                  go_enter Tryz.func55, Tryz.ntmps55
                  go_wp2_with fail
                  refine (call1 _).mono ?_
                  rintro e w1 ⟨s1, ao1, n1, c1, rfl, hb1, ht1⟩
                  have ht1' := Lib.hid (ht1 f _ rfl)
                  clear ht1 call1
                  obtain ⟨r0, r1, f0, f1, hz⟩ := box2 hb1
                  go_wp2_with fail
                  refine (call2 _).mono ?_
                  rintro e w2 ⟨s2, ao2, n2, c2, rfl, hb2, ht2⟩
                  have hb12 : After (w.alloc (.cells #[.string ⟨#[]⟩, .slice none 0 0] 42)) w2 := (After.alloc hb1 _).trans hb2
                  clear r0 r1 f0 f1 hz call2
                  obtain ⟨r0, r1, f0, f1, hz⟩ := box2 hb12
                  clear ht2
                  go_wp2_with fail
                  exact bodyPost_ret (v := .tuple #[.agg #[.string ⟨#[]⟩, .slice none 0 0], .int .i64 (-1)]) (by simp [results, Tryz.results55, go_sem, r0, r1, hz]) rfl (SReadPost.no H.out (After.alloc (After.set2 hb12) _))
          · have H := Lib.hid (show Tm.mread l (d + 1) k = none by simp [Tm.mread, hlen, h0, hf, h32])
            by_cases hjl : j = l.length
            · subst hjl
              clear hf h32 h0 hlen
              go_enter Tryz.func55, Tryz.ntmps55
              go_wp2_with fail
              refine (call1 _).mono ?_
              rintro e w1 ⟨s1, ao1, n1, c1, rfl, hb1, ht1⟩
              have ht1' := Lib.hid (ht1 f _ rfl)
              clear ht1 call1
              obtain ⟨r0, r1, f0, f1, hz⟩ := box2 hb1
              go_wp2_with fail
              exact bodyPost_ret (v := .tuple #[.agg #[.string ⟨#[]⟩, .slice none 0 0], .int .i64 (-1)]) (by simp [results, Tryz.results55, go_sem, r0, r1, hz]) rfl (SReadPost.no H.out (After.alloc (After.set2 hb1) _))
            · have jlt : j < l.length := by omega
              have hatj : ((((⟨l.toArray⟩ : ByteArray)[j]'(by rw [hsz]; exact jlt)).toNat : Int) != 32) = true := by
                rw [byte_at l j jlt, byte_ne_lit' l[j] 32 32 rfl rfl]
                rw [List.getElem?_eq_getElem jlt] at h32
                simpa using h32
              clear hf h32 h0 hlen
              go_enter Tryz.func55, Tryz.ntmps55
              go_wp2_with fail
              refine (call1 _).mono ?_
              rintro e w1 ⟨s1, ao1, n1, c1, rfl, hb1, ht1⟩
              have ht1' := Lib.hid (ht1 f _ rfl)
              clear ht1 call1
              obtain ⟨r0, r1, f0, f1, hz⟩ := box2 hb1
              go_wp2_with fail
              exact bodyPost_ret (v := .tuple #[.agg #[.string ⟨#[]⟩, .slice none 0 0], .int .i64 (-1)]) (by simp [results, Tryz.results55, go_sem, r0, r1, hz]) rfl (SReadPost.no H.out (After.alloc (After.set2 hb1) _))
      · have hne : (l[k] != (40 : UInt8)) = true := by simpa using h40
        rw [hne] at h40e
        have hend := Tm.atomEnd_le l k hk
        have hat := s_atom w l k hl hk
        have hat' := fun W => s_atom W l k hl hk
        obtain ⟨m, hm⟩ : ∃ m, m = Tm.atomEnd l k := ⟨_, rfl⟩
        have hword : (⟨l.toArray⟩ : ByteArray).extract k m = ⟨((l.drop k).take (m - k)).toArray⟩ := bytes_ext l k m
        have hmr : Tm.mread l (d + 1) k = match Tm.mkAtom ((l.drop k).take (m - k)) with | some t => some (t, m) | none => none := by
          rw [hm]; simp [Tm.mread, hlen, hget, h40]; rfl
        rw [← hm] at hend hat'
        obtain ⟨x, hx⟩ : ∃ x, x = (l.drop k).take (m - k) := ⟨_, rfl⟩
        rw [← hx] at hword hmr
        have hxl : x.length ≤ 1000000000 := by rw [hx]; simp; omega
        have hname := fun W => s_name W x hxl
        have HM := Lib.hid hmr
        clear hmr hx hm hat hne h40 hatk hget ih hlen ha
        obtain ⟨hm1, hm2⟩ := hend
        cases hmk : Tm.mkAtom x with
        | none =>
          have hfin : Tm.mread l (d + 1) k = none := by rw [HM.out, hmk]
          have e1 : (x == [107]) = false := by
            rw [beq_eq_false_iff_ne]; rintro rfl; simp [Tm.mkAtom] at hmk
          have e2 : (x == [115]) = false := by
            rw [beq_eq_false_iff_ne]; rintro rfl; simp [Tm.mkAtom] at hmk
          have e3 : Tm.nameOk x = false := by
            cases hq : Tm.nameOk x with
            | false => rfl
            | true => simp only [beq_eq_false_iff_ne, ne_eq] at e1 e2; simp [Tm.mkAtom, e1, e2, hq] at hmk
          rw [e3] at hname
          rw [hfin]
          clear hfin hmk HM e3
          go_enter Tryz.func55, Tryz.ntmps55
          go_wp2_with (first
            | (go_at_call 69; refine (hat' _).mono ?_; rintro e w' ⟨rfl, rfl⟩)
            | (go_at_call 70; refine (hname _).mono ?_; rintro e w' ⟨rfl, rfl⟩))
          exact bodyPost_ret (v := .tuple #[.agg #[.string ⟨#[]⟩, .slice none 0 0], .int .i64 (-1)]) (by simp [results, Tryz.results55, go_sem]) rfl (SReadPost.no rfl (After.new _ _))
        | some t =>
          have hfin : Tm.mread l (d + 1) k = some (t, m) := by rw [HM.out, hmk]
          obtain ⟨ht, _, hd0, _, _⟩ := Tm.mkAtom_sound hmk
          rw [hfin]
          have hpost : ∀ W', After w W' → SReadPost w (some (t, m)) (.returned (.tuple #[.agg #[str x, .slice none 0 0], .int .i64 (m : Nat)])) W' := fun W' hb =>
            ⟨x, none, 0, 0, rfl, hb, fun t' j he => by
              simp only [Option.some.injEq, Prod.mk.injEq] at he
              obtain ⟨rfl, rfl⟩ := he
              rw [← ht]
              exact ST_atom _ _ hd0⟩
          have HP := Lib.hid hpost
          clear hpost
          by_cases e1 : x = [107]
          · subst e1
            clear hfin hmk HM hname ht hd0
            go_enter Tryz.func55, Tryz.ntmps55
            go_wp2_with (go_at_call 69; refine (hat' _).mono ?_; rintro e w' ⟨rfl, rfl⟩)
            exact bodyPost_ret (v := .tuple #[.agg #[str [107], .slice none 0 0], .int .i64 (m : Nat)]) (by simp [results, Tryz.results55, go_sem]) rfl (HP.out _ (After.new _ _))
          · by_cases e2 : x = [115]
            · subst e2
              clear hfin hmk HM hname ht hd0 e1
              go_enter Tryz.func55, Tryz.ntmps55
              go_wp2_with (go_at_call 69; refine (hat' _).mono ?_; rintro e w' ⟨rfl, rfl⟩)
              exact bodyPost_ret (v := .tuple #[.agg #[str [115], .slice none 0 0], .int .i64 (m : Nat)]) (by simp [results, Tryz.results55, go_sem]) rfl (HP.out _ (After.new _ _))
            · have e3 : Tm.nameOk x = true := by
                cases hq : Tm.nameOk x with
                | true => rfl
                | false => simp [Tm.mkAtom, e1, e2, hq] at hmk
              rw [e3] at hname
              have n1 : (x == [107]) = false := beq_eq_false_iff_ne.2 e1
              have n2 : (x == [115]) = false := beq_eq_false_iff_ne.2 e2
              clear hfin hmk HM ht hd0 e1 e2 e3
              go_enter Tryz.func55, Tryz.ntmps55
              go_wp2_with (first
                | (go_at_call 69; refine (hat' _).mono ?_; rintro e w' ⟨rfl, rfl⟩)
                | (go_at_call 70; refine (hname _).mono ?_; rintro e w' ⟨rfl, rfl⟩))
              exact bodyPost_ret (v := .tuple #[.agg #[str x, .slice none 0 0], .int .i64 (m : Nat)]) (by simp [results, Tryz.results55, go_sem]) rfl (HP.out _ (After.new _ _))
end Go.Proofs.YtfpekihdoclncaaGreat
