/-
  The program's reader of function texts: words.
-/
import Derived.Test.YtjomocjlnjgkeaaGreatPkAY
import Derived.Test.YtjomocjlnjgkeaaGreatPkAZ
import Derived.Test.YtjomocjlnjgkeaaGreatPkAG
import Derived.Test.YtjomocjlnjgkeaaGreatPkAR
import Derived.Test.YtjomocjlnjgkeaaGreatPkAT
namespace Go.Proofs.YtjomocjlnjgkeaaGreat
open Go.RowKit

set_option maxHeartbeats 1000000
set_option maxRecDepth 100000

theorem indexAny_mid : ∀ l : List UInt8, Lib.indexAny l delims.data.toList = if (l.takeWhile fun c => c != 32 && c != 40 && c != 41).length < l.length then (((l.takeWhile fun c => c != 32 && c != 40 && c != 41).length : Nat) : Int) else -1
  | [] => rfl
  | b :: l => by
    rw [Lib.indexAny, indexAny_mid l, delim_mem]
    have hm : Tm.mid b = (b != 32 && b != 40 && b != 41) := rfl
    rw [List.takeWhile_cons, ← hm]
    have hle : (l.takeWhile fun c => c != 32 && c != 40 && c != 41).length ≤ l.length := (List.takeWhile_prefix _).length_le
    cases Tm.mid b with
    | false => simp
    | true =>
      simp only [Bool.not_true, if_true, List.length_cons]
      generalize (l.takeWhile fun c => c != 32 && c != 40 && c != 41).length = m at *
      by_cases h : m < l.length
      · have : (((m : Nat) : Int) == -1) = false := by rw [beq_eq_false_iff_ne]; omega
        simp [h, this]
      · simp [h]

/-- The reader of a function text lies in block b: the text, the place, the atoms. -/
def FRd (w : World) (b : Nat) (l : List UInt8) (i n : Nat) : Prop := w.heap[b]? = some (.cells #[str l, .int .i64 i, .int .i64 n] 110 (0, 0))

theorem FRd.set1 {w : World} {b i n : Nat} {l : List UInt8} (h : FRd w b l i n) (j : Nat) : FRd (w.setCell ⟨b, 1, none⟩ (.int .i64 j)) b l j n := by
  unfold FRd at *
  simp [World.setCell, Array.getElem?_modify, h]
theorem FRd.set2 {w : World} {b i n : Nat} {l : List UInt8} (h : FRd w b l i n) (j : Nat) : FRd (w.setCell ⟨b, 2, none⟩ (.int .i64 j)) b l i j := by
  unfold FRd at *
  simp [World.setCell, Array.getElem?_modify, h]
theorem FRd.after {w W : World} {b i n : Nat} {l : List UInt8} (h : FRd w b l i n) (ha : After w W) : FRd W b l i n := ha.heap h
theorem FRd.lt {w : World} {b i n : Nat} {l : List UInt8} (h : FRd w b l i n) : b < w.heap.size := (Array.getElem?_eq_some_iff.1 h).1

def WordPost (w : World) (b : Nat) (l : List UInt8) (i n : Nat) (e : Ending) (w' : World) : Prop :=
  e = .returned (str (FT.sl l i (Tm.atomEnd l i))) ∧ w.grownBy w' (some b) ∧ FRd w' b l (Tm.atomEnd l i) n

theorem str_drop (l : List UInt8) (i j : Nat) (h : j = l.length) : (⟨l.toArray⟩ : ByteArray).extract i j = ⟨(l.drop i).toArray⟩ := by
  subst h
  refine ByteArray.ext (Array.ext' ?_)
  simp [ByteArray.data_extract]
  exact List.take_of_length_le (by simp)

theorem readWord_any (w : World) (b i n : Nat) (l : List UInt8) (h : FRd w b l i n) (hl : l.length ≤ 1000000000) (hi : i ≤ l.length) :
    Calls Tryz.prog 96 #[.pointer (some ⟨b, 0, none⟩)] w (WordPost w b l i n) := by
  have c0 : w.cell? ⟨b, 0, none⟩ = some (str l) := cell_of_heap h
  have c1 : w.cell? ⟨b, 1, none⟩ = some (.int .i64 (i : Nat)) := cell_of_heap h
  have hsz : (⟨l.toArray⟩ : ByteArray).size = l.length := by show l.toArray.size = _; simp
  have H := Lib.hid h
  clear h
  go_enter Tryz.func96, Tryz.ntmps96
  go_wp2_with fail
  go_quiet (fail)
  go_wp2_with fail
  obtain ⟨r, hr⟩ : ∃ r, r = (⟨l.toArray⟩ : ByteArray).extract i l.length := ⟨_, rfl⟩
  rw [← hr]
  rw [str_drop l i l.length rfl] at hr
  have hrl : r.data.toList = l.drop i := by rw [hr]
  have hrs : r.size = l.length - i := by rw [hr, ByteArray.size]; simp
  have hidx := index_any (w.drewN nq) r (by omega)
  rw [hrl, indexAny_mid] at hidx
  have hend : Tm.atomEnd l i = i + ((l.drop i).takeWhile fun c => c != 32 && c != 40 && c != 41).length := rfl
  have hle : ((l.drop i).takeWhile fun c => c != 32 && c != 40 && c != 41).length ≤ (l.drop i).length := (List.takeWhile_prefix _).length_le
  rw [List.length_drop] at hle hidx
  unfold WordPost
  generalize ((l.drop i).takeWhile fun c => c != 32 && c != 40 && c != 41).length = m at *
  rw [hend]
  have hres : ∀ k, k = m → Value.string (r.extract 0 k) = str (FT.sl l i (i + m)) := fun k hk => by
    subst hk
    refine congrArg Value.string (ByteArray.ext (Array.ext' ?_))
    simp [ByteArray.data_extract, hrl, FT.sl]
  have HR := Lib.hid hres
  have HE := Lib.hid hend
  clear hr hrl hend hres
  by_cases hm : m < l.length - i
  · rw [if_pos hm] at hidx
    have hneg : ¬ ((m : Int) < 0) := by omega
    refine hidx.mono ?_
    rintro e w1 ⟨rfl, ha⟩
    have hg0 := grown_drawn w b nq
    have H1 : FRd w1 b l i n := (show FRd (w.drewN nq) b l i n from H.out).after ha
    have hg1 := after_grown b ha
    have c1' : w1.cell? ⟨b, 1, none⟩ = some (.int .i64 (i : Nat)) := cell_of_heap H1
    have f1 : w1.frozen? ⟨b, 1, none⟩ = false := by unfold FRd at H1; simp [World.frozen?, H1]
    have hmr : (m : Int) ≤ (r.size : Int) := by omega
    have HH := Lib.hid H1
    clear hidx H1 ha
    go_wp2_with fail
    go_ret
    exact ⟨congrArg Ending.returned ((HR.out m rfl).trans (by rw [HE.out])), grown_trans (grown_trans hg0 hg1) (grown_setx _ _ _ _), by have := HH.out.set1 (i + m); rw [HE.out]; simpa using this⟩
  · rw [if_neg hm] at hidx
    refine hidx.mono ?_
    rintro e w1 ⟨rfl, ha⟩
    have hg0 := grown_drawn w b nq
    have H1 : FRd w1 b l i n := (show FRd (w.drewN nq) b l i n from H.out).after ha
    have hg1 := after_grown b ha
    have c1' : w1.cell? ⟨b, 1, none⟩ = some (.int .i64 (i : Nat)) := cell_of_heap H1
    have f1 : w1.frozen? ⟨b, 1, none⟩ = false := by unfold FRd at H1; simp [World.frozen?, H1]
    have hmD : l.length - i = m := by omega
    have HM := Lib.hid hmD
    clear hmD
    have HH := Lib.hid H1
    clear hidx H1 ha
    go_wp2_with fail
    go_ret
    exact ⟨congrArg Ending.returned ((HR.out _ HM.out).trans (by rw [HE.out])), grown_trans (grown_trans hg0 hg1) (grown_setx _ _ _ _), by have := HH.out.set1 (i + (l.length - i)); rw [HE.out, ← HM.out]; simpa using this⟩
end Go.Proofs.YtjomocjlnjgkeaaGreat

namespace Go.Proofs.YtjomocjlnjgkeaaGreat
open Go.RowKit

set_option maxHeartbeats 1000000
set_option maxRecDepth 100000

/-- A leaf of a function text. -/
theorem fun_leaf (w : World) (rb p a : Nat) (d : Int) (h : Dr w rb p) (hp : p ≤ 900000) (ha : a ≤ 3) (hd : d ≤ 0) :
    Calls Tryz.prog 68 #[.pointer (some ⟨rb, 0, none⟩), .int .i64 a, .int .i64 d] w (StrPost w rb p 12 8) := by
  have HD := Lib.hid h
  have hrefl : w.grownBy w (some rb) := World.grownBy.refl _ _
  clear h
  go_enter Tryz.func68, Tryz.ntmps68
  by_cases h1 : a = 1
  · have h1b : ((a : Int) == 1) = true := by rw [h1]; rfl
    have H1 := Lib.hid h1
    have h1p : 0 < a := by omega
    clear h1
    have hp1 := pick_any w rb (p) 2 HD.out (by omega) (by decide) (by decide)
    go_wp2_with fail
    refine hp1.mono ?_
    rintro e wp3 ⟨k2, k2lt, rfl, gp4, dp5⟩
    have DP6 := Lib.hid dp5
    clear hp1 dp5
    by_cases k2z : k2 = 0
    · subst k2z
      go_wp2_with fail
      go_ret
      exact ⟨⟨#[105, 110, 99]⟩, p + 1, rfl, by show (3 : Nat) ≤ _; omega, by omega, (grown_trans hrefl gp4), DP6.out⟩
    · have k2b : ((k2 : Int) == 0) = false := by rw [beq_eq_false_iff_ne]; omega
      have h0i : (0 : Int) < (a : Int) := by omega
      have hp7 := pick_any wp3 rb (p + 1) 4 DP6.out (by omega) (by decide) (by decide)
      go_wp2_with fail
      refine hp7.mono ?_
      rintro e wp9 ⟨k8, k8lt, rfl, gp10, dp11⟩
      have DP12 := Lib.hid dp11
      clear hp7 dp11
      by_cases k8z : k8 = 0
      · subst k8z
        go_wp2_with fail
        refine (dec_any 0 a wp9 (by have : (10:Nat) ^ (0 + 1) = 10 := rfl; omega) (by decide)).mono ?_
        rintro e wd13 ⟨rfl, hd14⟩
        have x15l := Tm.decs_len (0 + 1) a
        generalize Tm.decs (0 + 1) a = x15 at *
        have DD16 := Lib.hid (DP12.out.after hd14)
        have zx : (⟨x15.toArray⟩ : ByteArray).size ≤ 1 := by rw [ssize]; omega
        have zc : (⟨#[122]⟩ : ByteArray).size = 1 := rfl
        obtain ⟨t17, z18, e19⟩ := cat2 ⟨#[122]⟩ ⟨x15.toArray⟩ (by have := zc; have := zx; omega)
        have z18b : t17.size = (⟨#[122]⟩ : ByteArray).size + (⟨x15.toArray⟩ : ByteArray).size := z18
        clear z18
        go_wp2_with fail
        go_ret
        exact ⟨t17, p + 1 + 1, rfl, by omega, by omega, (grown_trans (grown_trans (grown_trans hrefl gp4) gp10) (after_grown rb hd14)), DD16.out⟩
      · have k8i : (0 : Int) < (k8 : Int) := by omega
        have hp20 := pick_any wp9 rb (p + 1 + 1) a DP12.out (by omega) (by omega) (by omega)
        go_wp2_with fail
        refine hp20.mono ?_
        rintro e wp22 ⟨k21, k21lt, rfl, gp23, dp24⟩
        have DP25 := Lib.hid dp24
        clear hp20 dp24
        go_wp2_with fail
        refine (dec_any 0 k21 wp22 (by have : (10:Nat) ^ (0 + 1) = 10 := rfl; omega) (by decide)).mono ?_
        rintro e wd26 ⟨rfl, hd27⟩
        have x28l := Tm.decs_len (0 + 1) k21
        generalize Tm.decs (0 + 1) k21 = x28 at *
        have DD29 := Lib.hid (DP25.out.after hd27)
        have zx : (⟨x28.toArray⟩ : ByteArray).size ≤ 1 := by rw [ssize]; omega
        have zc : (⟨#[112]⟩ : ByteArray).size = 1 := rfl
        obtain ⟨t30, z31, e32⟩ := cat2 ⟨#[112]⟩ ⟨x28.toArray⟩ (by have := zc; have := zx; omega)
        have z31b : t30.size = (⟨#[112]⟩ : ByteArray).size + (⟨x28.toArray⟩ : ByteArray).size := z31
        clear z31
        go_wp2_with fail
        refine (dec_any 0 a wd26 (by have : (10:Nat) ^ (0 + 1) = 10 := rfl; omega) (by decide)).mono ?_
        rintro e wd33 ⟨rfl, hd34⟩
        have x35l := Tm.decs_len (0 + 1) a
        generalize Tm.decs (0 + 1) a = x35 at *
        have DD36 := Lib.hid (DD29.out.after hd34)
        have zy : (⟨x35.toArray⟩ : ByteArray).size ≤ 1 := by rw [ssize]; omega
        obtain ⟨t37, z38, e39⟩ := cat2 t30 ⟨x35.toArray⟩ (by have := z31b; have := zy; omega)
        have z38b : t37.size = (t30 : ByteArray).size + (⟨x35.toArray⟩ : ByteArray).size := z38
        clear z38
        go_wp2_with fail
        go_ret
        exact ⟨t37, p + 1 + 1 + 1, rfl, by omega, by omega, (grown_trans (grown_trans (grown_trans (grown_trans (grown_trans hrefl gp4) gp10) gp23) (after_grown rb hd27)) (after_grown rb hd34)), DD36.out⟩
  · have h1b : ((a : Int) == 1) = false := by rw [beq_eq_false_iff_ne]; omega
    by_cases h0 : 0 < a
    · have h0i : (0 : Int) < (a : Int) := by omega
      have hp40 := pick_any w rb (p) 4 HD.out (by omega) (by decide) (by decide)
      go_wp2_with fail
      refine hp40.mono ?_
      rintro e wp42 ⟨k41, k41lt, rfl, gp43, dp44⟩
      have DP45 := Lib.hid dp44
      clear hp40 dp44
      by_cases k41z : k41 = 0
      · subst k41z
        go_wp2_with fail
        refine (dec_any 0 a wp42 (by have : (10:Nat) ^ (0 + 1) = 10 := rfl; omega) (by decide)).mono ?_
        rintro e wd46 ⟨rfl, hd47⟩
        have x48l := Tm.decs_len (0 + 1) a
        generalize Tm.decs (0 + 1) a = x48 at *
        have DD49 := Lib.hid (DP45.out.after hd47)
        have zx : (⟨x48.toArray⟩ : ByteArray).size ≤ 1 := by rw [ssize]; omega
        have zc : (⟨#[122]⟩ : ByteArray).size = 1 := rfl
        obtain ⟨t50, z51, e52⟩ := cat2 ⟨#[122]⟩ ⟨x48.toArray⟩ (by have := zc; have := zx; omega)
        have z51b : t50.size = (⟨#[122]⟩ : ByteArray).size + (⟨x48.toArray⟩ : ByteArray).size := z51
        clear z51
        go_wp2_with fail
        go_ret
        exact ⟨t50, p + 1, rfl, by omega, by omega, (grown_trans (grown_trans hrefl gp43) (after_grown rb hd47)), DD49.out⟩
      · have k41i : (0 : Int) < (k41 : Int) := by omega
        have hp53 := pick_any wp42 rb (p + 1) a DP45.out (by omega) (by omega) (by omega)
        go_wp2_with fail
        refine hp53.mono ?_
        rintro e wp55 ⟨k54, k54lt, rfl, gp56, dp57⟩
        have DP58 := Lib.hid dp57
        clear hp53 dp57
        go_wp2_with fail
        refine (dec_any 0 k54 wp55 (by have : (10:Nat) ^ (0 + 1) = 10 := rfl; omega) (by decide)).mono ?_
        rintro e wd59 ⟨rfl, hd60⟩
        have x61l := Tm.decs_len (0 + 1) k54
        generalize Tm.decs (0 + 1) k54 = x61 at *
        have DD62 := Lib.hid (DP58.out.after hd60)
        have zx : (⟨x61.toArray⟩ : ByteArray).size ≤ 1 := by rw [ssize]; omega
        have zc : (⟨#[112]⟩ : ByteArray).size = 1 := rfl
        obtain ⟨t63, z64, e65⟩ := cat2 ⟨#[112]⟩ ⟨x61.toArray⟩ (by have := zc; have := zx; omega)
        have z64b : t63.size = (⟨#[112]⟩ : ByteArray).size + (⟨x61.toArray⟩ : ByteArray).size := z64
        clear z64
        go_wp2_with fail
        refine (dec_any 0 a wd59 (by have : (10:Nat) ^ (0 + 1) = 10 := rfl; omega) (by decide)).mono ?_
        rintro e wd66 ⟨rfl, hd67⟩
        have x68l := Tm.decs_len (0 + 1) a
        generalize Tm.decs (0 + 1) a = x68 at *
        have DD69 := Lib.hid (DD62.out.after hd67)
        have zy : (⟨x68.toArray⟩ : ByteArray).size ≤ 1 := by rw [ssize]; omega
        obtain ⟨t70, z71, e72⟩ := cat2 t63 ⟨x68.toArray⟩ (by have := z64b; have := zy; omega)
        have z71b : t70.size = (t63 : ByteArray).size + (⟨x68.toArray⟩ : ByteArray).size := z71
        clear z71
        go_wp2_with fail
        go_ret
        exact ⟨t70, p + 1 + 1, rfl, by omega, by omega, (grown_trans (grown_trans (grown_trans (grown_trans hrefl gp43) gp56) (after_grown rb hd60)) (after_grown rb hd67)), DD69.out⟩
    · have h0i : ¬ (0 : Int) < (a : Int) := by omega
      go_wp2_with fail
      refine (dec_any 0 a w (by have : (10:Nat) ^ (0 + 1) = 10 := rfl; omega) (by decide)).mono ?_
      rintro e wd73 ⟨rfl, hd74⟩
      have x75l := Tm.decs_len (0 + 1) a
      generalize Tm.decs (0 + 1) a = x75 at *
      have DD76 := Lib.hid (HD.out.after hd74)
      have zx : (⟨x75.toArray⟩ : ByteArray).size ≤ 1 := by rw [ssize]; omega
      have zc : (⟨#[122]⟩ : ByteArray).size = 1 := rfl
      obtain ⟨t77, z78, e79⟩ := cat2 ⟨#[122]⟩ ⟨x75.toArray⟩ (by have := zc; have := zx; omega)
      have z78b : t77.size = (⟨#[122]⟩ : ByteArray).size + (⟨x75.toArray⟩ : ByteArray).size := z78
      clear z78
      go_wp2_with fail
      go_ret
      exact ⟨t77, p, rfl, by omega, by omega, (grown_trans hrefl (after_grown rb hd74)), DD76.out⟩

theorem fun_any : ∀ (n : Nat) (w : World) (rb p : Nat) (a d : Int), Dr w rb p → p + 8 * 4 ^ n ≤ 900000 → 0 ≤ a → a ≤ 3 → d ≤ n → -100 ≤ d → n ≤ 6 →
    Calls Tryz.prog 68 #[.pointer (some ⟨rb, 0, none⟩), .int .i64 a, .int .i64 d] w (StrPost w rb p (12 * 4 ^ n) (8 * 4 ^ n)) := by
  intro n
  induction n with
  | zero =>
    intro w rb p a d h hp ha0 ha hd _ _
    obtain ⟨a, rfl⟩ := Int.eq_ofNat_of_zero_le ha0
    exact fun_leaf w rb p a d h (by omega) (by omega) (by omega)
  | succ n ih =>
    intro w rb p a d h hp ha0 ha hd hd2 hn
    obtain ⟨a, rfl⟩ := Int.eq_ofNat_of_zero_le ha0
    have hpw := pow_pos4 n
    have hpn : 4 ^ n ≤ 4096 := Nat.pow_le_pow_right (by decide) (show n ≤ 6 by omega)
    rw [Nat.pow_succ] at hp ⊢
    by_cases hd0 : d ≤ 0
    · refine (fun_leaf w rb p a d h (by omega) (by omega) hd0).mono ?_
      rintro e w' ⟨s, q, rfl, hs, hq, hg, hd⟩
      exact ⟨s, q, rfl, by omega, by omega, hg, hd⟩
    · generalize 4 ^ n = P at *
      have HD := Lib.hid h
      have hrefl : w.grownBy w (some rb) := World.grownBy.refl _ _
      have HIH : Hid (∀ (w : World) (rb p : Nat) (a d : Int), Dr w rb p → p + 8 * P ≤ 900000 → 0 ≤ a → a ≤ 3 → d ≤ n → -100 ≤ d → Calls Tryz.prog 68 #[.pointer (some ⟨rb, 0, none⟩), .int .i64 a, .int .i64 d] w (StrPost w rb p (12 * P) (8 * P))) := fun w rb p a d h1 h2 h3 h4 h5 h6 => ih w rb p a d h1 h2 h3 h4 h5 h6 (by omega)
      clear ih h
      go_enter Tryz.func68, Tryz.ntmps68
      have hp80 := pick_any w rb (p) 4 HD.out (by omega) (by decide) (by decide)
      go_wp2_with fail
      refine hp80.mono ?_
      rintro e wp82 ⟨k81, k81lt, rfl, gp83, dp84⟩
      have DP85 := Lib.hid dp84
      clear hp80 dp84
      by_cases k81z : k81 = 0
      · subst k81z
        by_cases h1 : a = 1
        · have h1b : ((a : Int) == 1) = true := by rw [h1]; rfl
          have H1 := Lib.hid h1
          have h1p : 0 < a := by omega
          clear h1
          have hp86 := pick_any wp82 rb (p + 1) 2 DP85.out (by omega) (by decide) (by decide)
          go_wp2_with fail
          refine hp86.mono ?_
          rintro e wp88 ⟨k87, k87lt, rfl, gp89, dp90⟩
          have DP91 := Lib.hid dp90
          clear hp86 dp90
          by_cases k87z : k87 = 0
          · subst k87z
            go_wp2_with fail
            go_ret
            exact ⟨⟨#[105, 110, 99]⟩, p + 1 + 1, rfl, by show (3 : Nat) ≤ _; omega, by omega, (grown_trans (grown_trans hrefl gp83) gp89), DP91.out⟩
          · have k87b : ((k87 : Int) == 0) = false := by rw [beq_eq_false_iff_ne]; omega
            have h0i : (0 : Int) < (a : Int) := by omega
            have hp92 := pick_any wp88 rb (p + 1 + 1) 4 DP91.out (by omega) (by decide) (by decide)
            go_wp2_with fail
            refine hp92.mono ?_
            rintro e wp94 ⟨k93, k93lt, rfl, gp95, dp96⟩
            have DP97 := Lib.hid dp96
            clear hp92 dp96
            by_cases k93z : k93 = 0
            · subst k93z
              go_wp2_with fail
              refine (dec_any 0 a wp94 (by have : (10:Nat) ^ (0 + 1) = 10 := rfl; omega) (by decide)).mono ?_
              rintro e wd98 ⟨rfl, hd99⟩
              have x100l := Tm.decs_len (0 + 1) a
              generalize Tm.decs (0 + 1) a = x100 at *
              have DD101 := Lib.hid (DP97.out.after hd99)
              have zx : (⟨x100.toArray⟩ : ByteArray).size ≤ 1 := by rw [ssize]; omega
              have zc : (⟨#[122]⟩ : ByteArray).size = 1 := rfl
              obtain ⟨t102, z103, e104⟩ := cat2 ⟨#[122]⟩ ⟨x100.toArray⟩ (by have := zc; have := zx; omega)
              have z103b : t102.size = (⟨#[122]⟩ : ByteArray).size + (⟨x100.toArray⟩ : ByteArray).size := z103
              clear z103
              go_wp2_with fail
              go_ret
              exact ⟨t102, p + 1 + 1 + 1, rfl, by omega, by omega, (grown_trans (grown_trans (grown_trans (grown_trans hrefl gp83) gp89) gp95) (after_grown rb hd99)), DD101.out⟩
            · have k93i : (0 : Int) < (k93 : Int) := by omega
              have hp105 := pick_any wp94 rb (p + 1 + 1 + 1) a DP97.out (by omega) (by omega) (by omega)
              go_wp2_with fail
              refine hp105.mono ?_
              rintro e wp107 ⟨k106, k106lt, rfl, gp108, dp109⟩
              have DP110 := Lib.hid dp109
              clear hp105 dp109
              go_wp2_with fail
              refine (dec_any 0 k106 wp107 (by have : (10:Nat) ^ (0 + 1) = 10 := rfl; omega) (by decide)).mono ?_
              rintro e wd111 ⟨rfl, hd112⟩
              have x113l := Tm.decs_len (0 + 1) k106
              generalize Tm.decs (0 + 1) k106 = x113 at *
              have DD114 := Lib.hid (DP110.out.after hd112)
              have zx : (⟨x113.toArray⟩ : ByteArray).size ≤ 1 := by rw [ssize]; omega
              have zc : (⟨#[112]⟩ : ByteArray).size = 1 := rfl
              obtain ⟨t115, z116, e117⟩ := cat2 ⟨#[112]⟩ ⟨x113.toArray⟩ (by have := zc; have := zx; omega)
              have z116b : t115.size = (⟨#[112]⟩ : ByteArray).size + (⟨x113.toArray⟩ : ByteArray).size := z116
              clear z116
              go_wp2_with fail
              refine (dec_any 0 a wd111 (by have : (10:Nat) ^ (0 + 1) = 10 := rfl; omega) (by decide)).mono ?_
              rintro e wd118 ⟨rfl, hd119⟩
              have x120l := Tm.decs_len (0 + 1) a
              generalize Tm.decs (0 + 1) a = x120 at *
              have DD121 := Lib.hid (DD114.out.after hd119)
              have zy : (⟨x120.toArray⟩ : ByteArray).size ≤ 1 := by rw [ssize]; omega
              obtain ⟨t122, z123, e124⟩ := cat2 t115 ⟨x120.toArray⟩ (by have := z116b; have := zy; omega)
              have z123b : t122.size = (t115 : ByteArray).size + (⟨x120.toArray⟩ : ByteArray).size := z123
              clear z123
              go_wp2_with fail
              go_ret
              exact ⟨t122, p + 1 + 1 + 1 + 1, rfl, by omega, by omega, (grown_trans (grown_trans (grown_trans (grown_trans (grown_trans (grown_trans hrefl gp83) gp89) gp95) gp108) (after_grown rb hd112)) (after_grown rb hd119)), DD121.out⟩
        · have h1b : ((a : Int) == 1) = false := by rw [beq_eq_false_iff_ne]; omega
          by_cases h0 : 0 < a
          · have h0i : (0 : Int) < (a : Int) := by omega
            have hp125 := pick_any wp82 rb (p + 1) 4 DP85.out (by omega) (by decide) (by decide)
            go_wp2_with fail
            refine hp125.mono ?_
            rintro e wp127 ⟨k126, k126lt, rfl, gp128, dp129⟩
            have DP130 := Lib.hid dp129
            clear hp125 dp129
            by_cases k126z : k126 = 0
            · subst k126z
              go_wp2_with fail
              refine (dec_any 0 a wp127 (by have : (10:Nat) ^ (0 + 1) = 10 := rfl; omega) (by decide)).mono ?_
              rintro e wd131 ⟨rfl, hd132⟩
              have x133l := Tm.decs_len (0 + 1) a
              generalize Tm.decs (0 + 1) a = x133 at *
              have DD134 := Lib.hid (DP130.out.after hd132)
              have zx : (⟨x133.toArray⟩ : ByteArray).size ≤ 1 := by rw [ssize]; omega
              have zc : (⟨#[122]⟩ : ByteArray).size = 1 := rfl
              obtain ⟨t135, z136, e137⟩ := cat2 ⟨#[122]⟩ ⟨x133.toArray⟩ (by have := zc; have := zx; omega)
              have z136b : t135.size = (⟨#[122]⟩ : ByteArray).size + (⟨x133.toArray⟩ : ByteArray).size := z136
              clear z136
              go_wp2_with fail
              go_ret
              exact ⟨t135, p + 1 + 1, rfl, by omega, by omega, (grown_trans (grown_trans (grown_trans hrefl gp83) gp128) (after_grown rb hd132)), DD134.out⟩
            · have k126i : (0 : Int) < (k126 : Int) := by omega
              have hp138 := pick_any wp127 rb (p + 1 + 1) a DP130.out (by omega) (by omega) (by omega)
              go_wp2_with fail
              refine hp138.mono ?_
              rintro e wp140 ⟨k139, k139lt, rfl, gp141, dp142⟩
              have DP143 := Lib.hid dp142
              clear hp138 dp142
              go_wp2_with fail
              refine (dec_any 0 k139 wp140 (by have : (10:Nat) ^ (0 + 1) = 10 := rfl; omega) (by decide)).mono ?_
              rintro e wd144 ⟨rfl, hd145⟩
              have x146l := Tm.decs_len (0 + 1) k139
              generalize Tm.decs (0 + 1) k139 = x146 at *
              have DD147 := Lib.hid (DP143.out.after hd145)
              have zx : (⟨x146.toArray⟩ : ByteArray).size ≤ 1 := by rw [ssize]; omega
              have zc : (⟨#[112]⟩ : ByteArray).size = 1 := rfl
              obtain ⟨t148, z149, e150⟩ := cat2 ⟨#[112]⟩ ⟨x146.toArray⟩ (by have := zc; have := zx; omega)
              have z149b : t148.size = (⟨#[112]⟩ : ByteArray).size + (⟨x146.toArray⟩ : ByteArray).size := z149
              clear z149
              go_wp2_with fail
              refine (dec_any 0 a wd144 (by have : (10:Nat) ^ (0 + 1) = 10 := rfl; omega) (by decide)).mono ?_
              rintro e wd151 ⟨rfl, hd152⟩
              have x153l := Tm.decs_len (0 + 1) a
              generalize Tm.decs (0 + 1) a = x153 at *
              have DD154 := Lib.hid (DD147.out.after hd152)
              have zy : (⟨x153.toArray⟩ : ByteArray).size ≤ 1 := by rw [ssize]; omega
              obtain ⟨t155, z156, e157⟩ := cat2 t148 ⟨x153.toArray⟩ (by have := z149b; have := zy; omega)
              have z156b : t155.size = (t148 : ByteArray).size + (⟨x153.toArray⟩ : ByteArray).size := z156
              clear z156
              go_wp2_with fail
              go_ret
              exact ⟨t155, p + 1 + 1 + 1, rfl, by omega, by omega, (grown_trans (grown_trans (grown_trans (grown_trans (grown_trans hrefl gp83) gp128) gp141) (after_grown rb hd145)) (after_grown rb hd152)), DD154.out⟩
          · have h0i : ¬ (0 : Int) < (a : Int) := by omega
            go_wp2_with fail
            refine (dec_any 0 a wp82 (by have : (10:Nat) ^ (0 + 1) = 10 := rfl; omega) (by decide)).mono ?_
            rintro e wd158 ⟨rfl, hd159⟩
            have x160l := Tm.decs_len (0 + 1) a
            generalize Tm.decs (0 + 1) a = x160 at *
            have DD161 := Lib.hid (DP85.out.after hd159)
            have zx : (⟨x160.toArray⟩ : ByteArray).size ≤ 1 := by rw [ssize]; omega
            have zc : (⟨#[122]⟩ : ByteArray).size = 1 := rfl
            obtain ⟨t162, z163, e164⟩ := cat2 ⟨#[122]⟩ ⟨x160.toArray⟩ (by have := zc; have := zx; omega)
            have z163b : t162.size = (⟨#[122]⟩ : ByteArray).size + (⟨x160.toArray⟩ : ByteArray).size := z163
            clear z163
            go_wp2_with fail
            go_ret
            exact ⟨t162, p + 1, rfl, by omega, by omega, (grown_trans (grown_trans hrefl gp83) (after_grown rb hd159)), DD161.out⟩
      · have k81b : ((k81 : Int) == 0) = false := by rw [beq_eq_false_iff_ne]; omega
        have hp165 := pick_any wp82 rb (p + 1) 5 DP85.out (by omega) (by decide) (by decide)
        go_wp2_with fail
        refine hp165.mono ?_
        rintro e wp167 ⟨k166, k166lt, rfl, gp168, dp169⟩
        have DP170 := Lib.hid dp169
        clear hp165 dp169
        by_cases j0 : k166 = 0
        · subst j0
          have hp171 := pick_any wp167 rb (p + 1 + 1) 2 DP170.out (by omega) (by decide) (by decide)
          go_wp2_with fail
          refine hp171.mono ?_
          rintro e wp173 ⟨k172, k172lt, rfl, gp174, dp175⟩
          have DP176 := Lib.hid dp175
          clear hp171 dp175
          go_wp2_with fail
          refine (HIH.out wp173 rb (p + 1 + 1 + 1) (1 + (k172 : Int)) (d - 1) DP176.out (by omega) (by omega) (by omega) (by omega) (by omega)).mono ?_
          rintro e wf177 ⟨s178, q179, rfl, hs180, hq181, gf182, df183⟩
          have DF184 := Lib.hid df183
          clear df183
          have l1 : (⟨#[40, 99, 32]⟩ : ByteArray).size = 3 := rfl
          have l2 : (⟨#[32]⟩ : ByteArray).size = 1 := rfl
          have l3 : (⟨#[41]⟩ : ByteArray).size = 1 := rfl
          obtain ⟨t185, z186, e187⟩ := cat2 ⟨#[40, 99, 32]⟩ s178 (by have := l1; have := hs180; omega)
          have z186b : t185.size = (⟨#[40, 99, 32]⟩ : ByteArray).size + (s178 : ByteArray).size := z186
          clear z186
          obtain ⟨K, hK⟩ : ∃ K : Nat, K = 1 + k172 := ⟨_, rfl⟩
          have hK2 : K ≤ 2 := by omega
          have HKK := Lib.hid hK
          have GW := Lib.hid (grown_trans (grown_trans (grown_trans (grown_trans hrefl gp83) gp168) gp174) gf182)
          clear hK
          go_wp2_with fail
          go_loopw [8, 9] (fun out i wr => ∃ (s : ByteArray) (n q : Nat), out = .string s ∧ i = .int .i64 (n : Nat) ∧ n ≤ K ∧ Hid ((n = 0 → s.size ≤ 12 * P + 3) ∧ (n = 1 → s.size ≤ 24 * P + 4) ∧ (n = 2 → s.size ≤ 36 * P + 5)) ∧ Hid ((n = 0 → q ≤ q179) ∧ (n = 1 → q ≤ q179 + 8 * P) ∧ (n = 2 → q ≤ q179 + 16 * P)) ∧ Hid (w.grownBy wr (some rb)) ∧ Hid (Dr wr rb q)) (fun _ i _ => K - (intOf i).toNat)
          case atStart => exact ⟨t185, 0, q179, rfl, rfl, by omega, ⟨fun _ => by omega, fun h => by omega, fun h => by omega⟩, ⟨fun _ => by omega, fun h => by omega, fun h => by omega⟩, GW.out, DF184.out⟩
          case round =>
            obtain ⟨s, n, q, rfl, rfl, hn, HS, HQ, HG, HDR⟩ := hrel
            have hKK := HKK.out
            have hss : s.size ≤ 36 * P + 5 := by have := HS.out; rcases (show n = 0 ∨ n = 1 ∨ n = 2 by omega) with h | h | h <;> omega
            have hqq : q ≤ q179 + 16 * P := by have := HQ.out; rcases (show n = 0 ∨ n = 1 ∨ n = 2 by omega) with h | h | h <;> omega
            by_cases hlt : n < K
            · have hlti : (n : Int) < 1 + (k172 : Int) := by omega
              have hqn : q ≤ q179 + 8 * P := by have := HQ.out; rcases (show n = 0 ∨ n = 1 by omega) with h | h <;> omega
              have hsn : s.size ≤ 24 * P + 4 := by have := HS.out; rcases (show n = 0 ∨ n = 1 by omega) with h | h <;> omega
              clear hKK
              obtain ⟨t188, z189, e190⟩ := cat2 s ⟨#[32]⟩ (by have := hsn; have := l2; omega)
              have z189b : t188.size = (s : ByteArray).size + (⟨#[32]⟩ : ByteArray).size := z189
              clear z189
              go_wp2_with fail
              refine (HIH.out wr rb q (a : Int) (d - 1) HDR.out (by omega) (by omega) (by omega) (by omega) (by omega)).mono ?_
              rintro e w5 ⟨s5, q5, rfl, hs5, hq5, g5, d5⟩
              obtain ⟨t191, z192, e193⟩ := cat2 t188 s5 (by have := z189b; have := hs5; omega)
              have z192b : t191.size = (t188 : ByteArray).size + (s5 : ByteArray).size := z192
              clear z192
              have HD5 := Lib.hid d5
              have G5 := Lib.hid (grown_trans HG.out g5)
              clear d5 g5
              go_wp2_with fail
              go_roundw
              case rel => exact ⟨t191, n + 1, q5, rfl, by go_num, by omega, by have := HS.out; exact ⟨fun h => by omega, fun h => by omega, fun h => by omega⟩, by have := HQ.out; exact ⟨fun h => by omega, fun h => by omega, fun h => by omega⟩, G5.out, HD5.out⟩
              case measure => simp [intOf]; omega
            · have hlti : ¬ (n : Int) < 1 + (k172 : Int) := by omega
              clear hKK
              obtain ⟨t194, z195, e196⟩ := cat2 s ⟨#[41]⟩ (by have := hss; have := l3; omega)
              have z195b : t194.size = (s : ByteArray).size + (⟨#[41]⟩ : ByteArray).size := z195
              clear z195
              go_wp2_with fail
              go_ret
              exact ⟨t194, q, rfl, by omega, by omega, HG.out, HDR.out⟩
        have j0b : ((k166 : Int) == 0) = false := by rw [beq_eq_false_iff_ne]; omega
        by_cases j1 : k166 = 1
        · subst j1
          have hp197 := pick_any wp167 rb (p + 1 + 1) 2 DP170.out (by omega) (by decide) (by decide)
          go_wp2_with fail
          refine hp197.mono ?_
          rintro e wp199 ⟨k198, k198lt, rfl, gp200, dp201⟩
          have DP202 := Lib.hid dp201
          clear hp197 dp201
          go_wp2_with fail
          refine (HIH.out wp199 rb (p + 1 + 1 + 1) (1 + (k198 : Int)) (d - 1) DP202.out (by omega) (by omega) (by omega) (by omega) (by omega)).mono ?_
          rintro e wf203 ⟨s204, q205, rfl, hs206, hq207, gf208, df209⟩
          have DF210 := Lib.hid df209
          clear df209
          have l1 : (⟨#[40, 99, 32]⟩ : ByteArray).size = 3 := rfl
          have l2 : (⟨#[32]⟩ : ByteArray).size = 1 := rfl
          have l3 : (⟨#[41]⟩ : ByteArray).size = 1 := rfl
          obtain ⟨t211, z212, e213⟩ := cat2 ⟨#[40, 99, 32]⟩ s204 (by have := l1; have := hs206; omega)
          have z212b : t211.size = (⟨#[40, 99, 32]⟩ : ByteArray).size + (s204 : ByteArray).size := z212
          clear z212
          obtain ⟨K, hK⟩ : ∃ K : Nat, K = 1 + k198 := ⟨_, rfl⟩
          have hK2 : K ≤ 2 := by omega
          have HKK := Lib.hid hK
          have GW := Lib.hid (grown_trans (grown_trans (grown_trans (grown_trans hrefl gp83) gp168) gp200) gf208)
          clear hK
          go_wp2_with fail
          go_loopw [8, 9] (fun out i wr => ∃ (s : ByteArray) (n q : Nat), out = .string s ∧ i = .int .i64 (n : Nat) ∧ n ≤ K ∧ Hid ((n = 0 → s.size ≤ 12 * P + 3) ∧ (n = 1 → s.size ≤ 24 * P + 4) ∧ (n = 2 → s.size ≤ 36 * P + 5)) ∧ Hid ((n = 0 → q ≤ q205) ∧ (n = 1 → q ≤ q205 + 8 * P) ∧ (n = 2 → q ≤ q205 + 16 * P)) ∧ Hid (w.grownBy wr (some rb)) ∧ Hid (Dr wr rb q)) (fun _ i _ => K - (intOf i).toNat)
          case atStart => exact ⟨t211, 0, q205, rfl, rfl, by omega, ⟨fun _ => by omega, fun h => by omega, fun h => by omega⟩, ⟨fun _ => by omega, fun h => by omega, fun h => by omega⟩, GW.out, DF210.out⟩
          case round =>
            obtain ⟨s, n, q, rfl, rfl, hn, HS, HQ, HG, HDR⟩ := hrel
            have hKK := HKK.out
            have hss : s.size ≤ 36 * P + 5 := by have := HS.out; rcases (show n = 0 ∨ n = 1 ∨ n = 2 by omega) with h | h | h <;> omega
            have hqq : q ≤ q205 + 16 * P := by have := HQ.out; rcases (show n = 0 ∨ n = 1 ∨ n = 2 by omega) with h | h | h <;> omega
            by_cases hlt : n < K
            · have hlti : (n : Int) < 1 + (k198 : Int) := by omega
              have hqn : q ≤ q205 + 8 * P := by have := HQ.out; rcases (show n = 0 ∨ n = 1 by omega) with h | h <;> omega
              have hsn : s.size ≤ 24 * P + 4 := by have := HS.out; rcases (show n = 0 ∨ n = 1 by omega) with h | h <;> omega
              clear hKK
              obtain ⟨t214, z215, e216⟩ := cat2 s ⟨#[32]⟩ (by have := hsn; have := l2; omega)
              have z215b : t214.size = (s : ByteArray).size + (⟨#[32]⟩ : ByteArray).size := z215
              clear z215
              go_wp2_with fail
              refine (HIH.out wr rb q (a : Int) (d - 1) HDR.out (by omega) (by omega) (by omega) (by omega) (by omega)).mono ?_
              rintro e w5 ⟨s5, q5, rfl, hs5, hq5, g5, d5⟩
              obtain ⟨t217, z218, e219⟩ := cat2 t214 s5 (by have := z215b; have := hs5; omega)
              have z218b : t217.size = (t214 : ByteArray).size + (s5 : ByteArray).size := z218
              clear z218
              have HD5 := Lib.hid d5
              have G5 := Lib.hid (grown_trans HG.out g5)
              clear d5 g5
              go_wp2_with fail
              go_roundw
              case rel => exact ⟨t217, n + 1, q5, rfl, by go_num, by omega, by have := HS.out; exact ⟨fun h => by omega, fun h => by omega, fun h => by omega⟩, by have := HQ.out; exact ⟨fun h => by omega, fun h => by omega, fun h => by omega⟩, G5.out, HD5.out⟩
              case measure => simp [intOf]; omega
            · have hlti : ¬ (n : Int) < 1 + (k198 : Int) := by omega
              clear hKK
              obtain ⟨t220, z221, e222⟩ := cat2 s ⟨#[41]⟩ (by have := hss; have := l3; omega)
              have z221b : t220.size = (s : ByteArray).size + (⟨#[41]⟩ : ByteArray).size := z221
              clear z221
              go_wp2_with fail
              go_ret
              exact ⟨t220, q, rfl, by omega, by omega, HG.out, HDR.out⟩
        have j1b : ((k166 : Int) == 1) = false := by rw [beq_eq_false_iff_ne]; omega
        by_cases j4 : k166 = 4
        · subst j4
          by_cases a2 : a ≤ 2
          · have a2i : (a : Int) ≤ 2 := by omega
            have hp223 := pick_any wp167 rb (p + 1 + 1) 3 DP170.out (by omega) (by decide) (by decide)
            go_wp2_with fail
            refine hp223.mono ?_
            rintro e wp225 ⟨k224, k224lt, rfl, gp226, dp227⟩
            have DP228 := Lib.hid dp227
            clear hp223 dp227
            by_cases k224z : k224 = 0
            · subst k224z
              go_wp2_with fail
              refine (HIH.out wp225 rb (p + 1 + 1 + 1) ((a : Int) + 1) (d - 1) DP228.out (by omega) (by omega) (by omega) (by omega) (by omega)).mono ?_
              rintro e wf229 ⟨s230, q231, rfl, hs232, hq233, gf234, df235⟩
              have DF236 := Lib.hid df235
              clear df235
              have l1 : (⟨#[40, 109, 32]⟩ : ByteArray).size = 3 := rfl
              have l3 : (⟨#[41]⟩ : ByteArray).size = 1 := rfl
              obtain ⟨t237, z238, e239⟩ := cat2 ⟨#[40, 109, 32]⟩ s230 (by have := l1; have := hs232; omega)
              have z238b : t237.size = (⟨#[40, 109, 32]⟩ : ByteArray).size + (s230 : ByteArray).size := z238
              clear z238
              obtain ⟨t240, z241, e242⟩ := cat2 t237 ⟨#[41]⟩ (by have := z238b; have := l3; omega)
              have z241b : t240.size = (t237 : ByteArray).size + (⟨#[41]⟩ : ByteArray).size := z241
              clear z241
              go_wp2_with fail
              go_ret
              exact ⟨t240, q231, rfl, by omega, by omega, (grown_trans (grown_trans (grown_trans (grown_trans hrefl gp83) gp168) gp226) gf234), DF236.out⟩
            · have k224b : ((k224 : Int) == 0) = false := by rw [beq_eq_false_iff_ne]; omega
              go_wp2_with fail
              refine (HIH.out wp225 rb (p + 1 + 1 + 1) (a : Int) (d - 1) DP228.out (by omega) (by omega) (by omega) (by omega) (by omega)).mono ?_
              rintro e wf243 ⟨s244, q245, rfl, hs246, hq247, gf248, df249⟩
              have DF250 := Lib.hid df249
              clear df249
              have l1 : (⟨#[40, 99, 32, 105, 110, 99, 32]⟩ : ByteArray).size = 7 := rfl
              have l3 : (⟨#[41]⟩ : ByteArray).size = 1 := rfl
              obtain ⟨t251, z252, e253⟩ := cat2 ⟨#[40, 99, 32, 105, 110, 99, 32]⟩ s244 (by have := l1; have := hs246; omega)
              have z252b : t251.size = (⟨#[40, 99, 32, 105, 110, 99, 32]⟩ : ByteArray).size + (s244 : ByteArray).size := z252
              clear z252
              obtain ⟨t254, z255, e256⟩ := cat2 t251 ⟨#[41]⟩ (by have := z252b; have := l3; omega)
              have z255b : t254.size = (t251 : ByteArray).size + (⟨#[41]⟩ : ByteArray).size := z255
              clear z255
              go_wp2_with fail
              go_ret
              exact ⟨t254, q245, rfl, by omega, by omega, (grown_trans (grown_trans (grown_trans (grown_trans hrefl gp83) gp168) gp226) gf248), DF250.out⟩
          · have a2i : ¬ (a : Int) ≤ 2 := by omega
            go_wp2_with fail
            refine (HIH.out wp167 rb (p + 1 + 1) (a : Int) (d - 1) DP170.out (by omega) (by omega) (by omega) (by omega) (by omega)).mono ?_
            rintro e wf257 ⟨s258, q259, rfl, hs260, hq261, gf262, df263⟩
            have DF264 := Lib.hid df263
            clear df263
            have l1 : (⟨#[40, 99, 32, 105, 110, 99, 32]⟩ : ByteArray).size = 7 := rfl
            have l3 : (⟨#[41]⟩ : ByteArray).size = 1 := rfl
            obtain ⟨t265, z266, e267⟩ := cat2 ⟨#[40, 99, 32, 105, 110, 99, 32]⟩ s258 (by have := l1; have := hs260; omega)
            have z266b : t265.size = (⟨#[40, 99, 32, 105, 110, 99, 32]⟩ : ByteArray).size + (s258 : ByteArray).size := z266
            clear z266
            obtain ⟨t268, z269, e270⟩ := cat2 t265 ⟨#[41]⟩ (by have := z266b; have := l3; omega)
            have z269b : t268.size = (t265 : ByteArray).size + (⟨#[41]⟩ : ByteArray).size := z269
            clear z269
            go_wp2_with fail
            go_ret
            exact ⟨t268, q259, rfl, by omega, by omega, (grown_trans (grown_trans (grown_trans hrefl gp83) gp168) gf262), DF264.out⟩
        by_cases j2 : k166 = 2
        · subst j2
          by_cases b1 : 1 ≤ a
          · have b1i : (1 : Int) ≤ (a : Int) := by omega
            by_cases b2 : a ≤ 2
            · have b2i : (a : Int) ≤ 2 := by omega
              go_wp2_with fail
              refine (HIH.out wp167 rb (p + 1 + 1) ((a : Int) - 1) (d - 1) DP170.out (by omega) (by omega) (by omega) (by omega) (by omega)).mono ?_
              rintro e wf271 ⟨s272, q273, rfl, hs274, hq275, gf276, df277⟩
              have DF278 := Lib.hid df277
              clear df277
              have l1 : (⟨#[40, 114, 32]⟩ : ByteArray).size = 3 := rfl
              have l2 : (⟨#[32]⟩ : ByteArray).size = 1 := rfl
              have l3 : (⟨#[41]⟩ : ByteArray).size = 1 := rfl
              obtain ⟨t279, z280, e281⟩ := cat2 ⟨#[40, 114, 32]⟩ s272 (by have := l1; have := hs274; omega)
              have z280b : t279.size = (⟨#[40, 114, 32]⟩ : ByteArray).size + (s272 : ByteArray).size := z280
              clear z280
              obtain ⟨t282, z283, e284⟩ := cat2 t279 ⟨#[32]⟩ (by have := z280b; have := l2; omega)
              have z283b : t282.size = (t279 : ByteArray).size + (⟨#[32]⟩ : ByteArray).size := z283
              clear z283
              go_wp2_with fail
              refine (HIH.out wf271 rb (q273) ((a : Int) + 1) (d - 1) DF278.out (by omega) (by omega) (by omega) (by omega) (by omega)).mono ?_
              rintro e wf285 ⟨s286, q287, rfl, hs288, hq289, gf290, df291⟩
              have DF292 := Lib.hid df291
              clear df291
              obtain ⟨t293, z294, e295⟩ := cat2 t282 s286 (by have := z283b; have := hs288; omega)
              have z294b : t293.size = (t282 : ByteArray).size + (s286 : ByteArray).size := z294
              clear z294
              obtain ⟨t296, z297, e298⟩ := cat2 t293 ⟨#[41]⟩ (by have := z294b; have := l3; omega)
              have z297b : t296.size = (t293 : ByteArray).size + (⟨#[41]⟩ : ByteArray).size := z297
              clear z297
              go_wp2_with fail
              go_ret
              exact ⟨t296, q287, rfl, by omega, by omega, (grown_trans (grown_trans (grown_trans (grown_trans hrefl gp83) gp168) gf276) gf290), DF292.out⟩
            · have b2i : ¬ (a : Int) ≤ 2 := by omega
              go_wp2_with fail
              refine (HIH.out wp167 rb (p + 1 + 1) (a : Int) (d - 1) DP170.out (by omega) (by omega) (by omega) (by omega) (by omega)).mono ?_
              rintro e wf299 ⟨s300, q301, rfl, hs302, hq303, gf304, df305⟩
              have DF306 := Lib.hid df305
              clear df305
              have l1 : (⟨#[40, 99, 32, 105, 110, 99, 32]⟩ : ByteArray).size = 7 := rfl
              have l3 : (⟨#[41]⟩ : ByteArray).size = 1 := rfl
              obtain ⟨t307, z308, e309⟩ := cat2 ⟨#[40, 99, 32, 105, 110, 99, 32]⟩ s300 (by have := l1; have := hs302; omega)
              have z308b : t307.size = (⟨#[40, 99, 32, 105, 110, 99, 32]⟩ : ByteArray).size + (s300 : ByteArray).size := z308
              clear z308
              obtain ⟨t310, z311, e312⟩ := cat2 t307 ⟨#[41]⟩ (by have := z308b; have := l3; omega)
              have z311b : t310.size = (t307 : ByteArray).size + (⟨#[41]⟩ : ByteArray).size := z311
              clear z311
              go_wp2_with fail
              go_ret
              exact ⟨t310, q301, rfl, by omega, by omega, (grown_trans (grown_trans (grown_trans hrefl gp83) gp168) gf304), DF306.out⟩
          · have b1i : ¬ (1 : Int) ≤ (a : Int) := by omega
            have a2 : a ≤ 2 := by omega
            · have a2i : (a : Int) ≤ 2 := by omega
              have hp313 := pick_any wp167 rb (p + 1 + 1) 3 DP170.out (by omega) (by decide) (by decide)
              go_wp2_with fail
              refine hp313.mono ?_
              rintro e wp315 ⟨k314, k314lt, rfl, gp316, dp317⟩
              have DP318 := Lib.hid dp317
              clear hp313 dp317
              by_cases k314z : k314 = 0
              · subst k314z
                go_wp2_with fail
                refine (HIH.out wp315 rb (p + 1 + 1 + 1) ((a : Int) + 1) (d - 1) DP318.out (by omega) (by omega) (by omega) (by omega) (by omega)).mono ?_
                rintro e wf319 ⟨s320, q321, rfl, hs322, hq323, gf324, df325⟩
                have DF326 := Lib.hid df325
                clear df325
                have l1 : (⟨#[40, 109, 32]⟩ : ByteArray).size = 3 := rfl
                have l3 : (⟨#[41]⟩ : ByteArray).size = 1 := rfl
                obtain ⟨t327, z328, e329⟩ := cat2 ⟨#[40, 109, 32]⟩ s320 (by have := l1; have := hs322; omega)
                have z328b : t327.size = (⟨#[40, 109, 32]⟩ : ByteArray).size + (s320 : ByteArray).size := z328
                clear z328
                obtain ⟨t330, z331, e332⟩ := cat2 t327 ⟨#[41]⟩ (by have := z328b; have := l3; omega)
                have z331b : t330.size = (t327 : ByteArray).size + (⟨#[41]⟩ : ByteArray).size := z331
                clear z331
                go_wp2_with fail
                go_ret
                exact ⟨t330, q321, rfl, by omega, by omega, (grown_trans (grown_trans (grown_trans (grown_trans hrefl gp83) gp168) gp316) gf324), DF326.out⟩
              · have k314b : ((k314 : Int) == 0) = false := by rw [beq_eq_false_iff_ne]; omega
                go_wp2_with fail
                refine (HIH.out wp315 rb (p + 1 + 1 + 1) (a : Int) (d - 1) DP318.out (by omega) (by omega) (by omega) (by omega) (by omega)).mono ?_
                rintro e wf333 ⟨s334, q335, rfl, hs336, hq337, gf338, df339⟩
                have DF340 := Lib.hid df339
                clear df339
                have l1 : (⟨#[40, 99, 32, 105, 110, 99, 32]⟩ : ByteArray).size = 7 := rfl
                have l3 : (⟨#[41]⟩ : ByteArray).size = 1 := rfl
                obtain ⟨t341, z342, e343⟩ := cat2 ⟨#[40, 99, 32, 105, 110, 99, 32]⟩ s334 (by have := l1; have := hs336; omega)
                have z342b : t341.size = (⟨#[40, 99, 32, 105, 110, 99, 32]⟩ : ByteArray).size + (s334 : ByteArray).size := z342
                clear z342
                obtain ⟨t344, z345, e346⟩ := cat2 t341 ⟨#[41]⟩ (by have := z342b; have := l3; omega)
                have z345b : t344.size = (t341 : ByteArray).size + (⟨#[41]⟩ : ByteArray).size := z345
                clear z345
                go_wp2_with fail
                go_ret
                exact ⟨t344, q335, rfl, by omega, by omega, (grown_trans (grown_trans (grown_trans (grown_trans hrefl gp83) gp168) gp316) gf338), DF340.out⟩
        by_cases j3 : k166 = 3
        · subst j3
          by_cases b1 : 1 ≤ a
          · have b1i : (1 : Int) ≤ (a : Int) := by omega
            by_cases b2 : a ≤ 2
            · have b2i : (a : Int) ≤ 2 := by omega
              go_wp2_with fail
              refine (HIH.out wp167 rb (p + 1 + 1) ((a : Int) - 1) (d - 1) DP170.out (by omega) (by omega) (by omega) (by omega) (by omega)).mono ?_
              rintro e wf347 ⟨s348, q349, rfl, hs350, hq351, gf352, df353⟩
              have DF354 := Lib.hid df353
              clear df353
              have l1 : (⟨#[40, 114, 32]⟩ : ByteArray).size = 3 := rfl
              have l2 : (⟨#[32]⟩ : ByteArray).size = 1 := rfl
              have l3 : (⟨#[41]⟩ : ByteArray).size = 1 := rfl
              obtain ⟨t355, z356, e357⟩ := cat2 ⟨#[40, 114, 32]⟩ s348 (by have := l1; have := hs350; omega)
              have z356b : t355.size = (⟨#[40, 114, 32]⟩ : ByteArray).size + (s348 : ByteArray).size := z356
              clear z356
              obtain ⟨t358, z359, e360⟩ := cat2 t355 ⟨#[32]⟩ (by have := z356b; have := l2; omega)
              have z359b : t358.size = (t355 : ByteArray).size + (⟨#[32]⟩ : ByteArray).size := z359
              clear z359
              go_wp2_with fail
              refine (HIH.out wf347 rb (q349) ((a : Int) + 1) (d - 1) DF354.out (by omega) (by omega) (by omega) (by omega) (by omega)).mono ?_
              rintro e wf361 ⟨s362, q363, rfl, hs364, hq365, gf366, df367⟩
              have DF368 := Lib.hid df367
              clear df367
              obtain ⟨t369, z370, e371⟩ := cat2 t358 s362 (by have := z359b; have := hs364; omega)
              have z370b : t369.size = (t358 : ByteArray).size + (s362 : ByteArray).size := z370
              clear z370
              obtain ⟨t372, z373, e374⟩ := cat2 t369 ⟨#[41]⟩ (by have := z370b; have := l3; omega)
              have z373b : t372.size = (t369 : ByteArray).size + (⟨#[41]⟩ : ByteArray).size := z373
              clear z373
              go_wp2_with fail
              go_ret
              exact ⟨t372, q363, rfl, by omega, by omega, (grown_trans (grown_trans (grown_trans (grown_trans hrefl gp83) gp168) gf352) gf366), DF368.out⟩
            · have b2i : ¬ (a : Int) ≤ 2 := by omega
              go_wp2_with fail
              refine (HIH.out wp167 rb (p + 1 + 1) (a : Int) (d - 1) DP170.out (by omega) (by omega) (by omega) (by omega) (by omega)).mono ?_
              rintro e wf375 ⟨s376, q377, rfl, hs378, hq379, gf380, df381⟩
              have DF382 := Lib.hid df381
              clear df381
              have l1 : (⟨#[40, 99, 32, 105, 110, 99, 32]⟩ : ByteArray).size = 7 := rfl
              have l3 : (⟨#[41]⟩ : ByteArray).size = 1 := rfl
              obtain ⟨t383, z384, e385⟩ := cat2 ⟨#[40, 99, 32, 105, 110, 99, 32]⟩ s376 (by have := l1; have := hs378; omega)
              have z384b : t383.size = (⟨#[40, 99, 32, 105, 110, 99, 32]⟩ : ByteArray).size + (s376 : ByteArray).size := z384
              clear z384
              obtain ⟨t386, z387, e388⟩ := cat2 t383 ⟨#[41]⟩ (by have := z384b; have := l3; omega)
              have z387b : t386.size = (t383 : ByteArray).size + (⟨#[41]⟩ : ByteArray).size := z387
              clear z387
              go_wp2_with fail
              go_ret
              exact ⟨t386, q377, rfl, by omega, by omega, (grown_trans (grown_trans (grown_trans hrefl gp83) gp168) gf380), DF382.out⟩
          · have b1i : ¬ (1 : Int) ≤ (a : Int) := by omega
            have a2 : a ≤ 2 := by omega
            · have a2i : (a : Int) ≤ 2 := by omega
              have hp389 := pick_any wp167 rb (p + 1 + 1) 3 DP170.out (by omega) (by decide) (by decide)
              go_wp2_with fail
              refine hp389.mono ?_
              rintro e wp391 ⟨k390, k390lt, rfl, gp392, dp393⟩
              have DP394 := Lib.hid dp393
              clear hp389 dp393
              by_cases k390z : k390 = 0
              · subst k390z
                go_wp2_with fail
                refine (HIH.out wp391 rb (p + 1 + 1 + 1) ((a : Int) + 1) (d - 1) DP394.out (by omega) (by omega) (by omega) (by omega) (by omega)).mono ?_
                rintro e wf395 ⟨s396, q397, rfl, hs398, hq399, gf400, df401⟩
                have DF402 := Lib.hid df401
                clear df401
                have l1 : (⟨#[40, 109, 32]⟩ : ByteArray).size = 3 := rfl
                have l3 : (⟨#[41]⟩ : ByteArray).size = 1 := rfl
                obtain ⟨t403, z404, e405⟩ := cat2 ⟨#[40, 109, 32]⟩ s396 (by have := l1; have := hs398; omega)
                have z404b : t403.size = (⟨#[40, 109, 32]⟩ : ByteArray).size + (s396 : ByteArray).size := z404
                clear z404
                obtain ⟨t406, z407, e408⟩ := cat2 t403 ⟨#[41]⟩ (by have := z404b; have := l3; omega)
                have z407b : t406.size = (t403 : ByteArray).size + (⟨#[41]⟩ : ByteArray).size := z407
                clear z407
                go_wp2_with fail
                go_ret
                exact ⟨t406, q397, rfl, by omega, by omega, (grown_trans (grown_trans (grown_trans (grown_trans hrefl gp83) gp168) gp392) gf400), DF402.out⟩
              · have k390b : ((k390 : Int) == 0) = false := by rw [beq_eq_false_iff_ne]; omega
                go_wp2_with fail
                refine (HIH.out wp391 rb (p + 1 + 1 + 1) (a : Int) (d - 1) DP394.out (by omega) (by omega) (by omega) (by omega) (by omega)).mono ?_
                rintro e wf409 ⟨s410, q411, rfl, hs412, hq413, gf414, df415⟩
                have DF416 := Lib.hid df415
                clear df415
                have l1 : (⟨#[40, 99, 32, 105, 110, 99, 32]⟩ : ByteArray).size = 7 := rfl
                have l3 : (⟨#[41]⟩ : ByteArray).size = 1 := rfl
                obtain ⟨t417, z418, e419⟩ := cat2 ⟨#[40, 99, 32, 105, 110, 99, 32]⟩ s410 (by have := l1; have := hs412; omega)
                have z418b : t417.size = (⟨#[40, 99, 32, 105, 110, 99, 32]⟩ : ByteArray).size + (s410 : ByteArray).size := z418
                clear z418
                obtain ⟨t420, z421, e422⟩ := cat2 t417 ⟨#[41]⟩ (by have := z418b; have := l3; omega)
                have z421b : t420.size = (t417 : ByteArray).size + (⟨#[41]⟩ : ByteArray).size := z421
                clear z421
                go_wp2_with fail
                go_ret
                exact ⟨t420, q411, rfl, by omega, by omega, (grown_trans (grown_trans (grown_trans (grown_trans hrefl gp83) gp168) gp392) gf414), DF416.out⟩
        omega
end Go.Proofs.YtjomocjlnjgkeaaGreat

namespace Go.Proofs.YtjomocjlnjgkeaaGreat
open Go.RowKit

set_option maxHeartbeats 1000000
set_option maxRecDepth 100000

theorem add_eq (a b c : List UInt8) (h : c = a ++ b) (hl : a.length + b.length ≤ 1000000) (W : World) : (Op.stringOp .add ⟨a.toArray⟩ ⟨b.toArray⟩).run Tryz.prog W = .ok (str c) W := by
  have h1 := run_string_add_sum (P := Tryz.prog) W ⟨a.toArray⟩ ⟨b.toArray⟩ (by rw [ssize, ssize]; omega)
  rw [h1, h]
  congr 2

def knownL : List (List UInt8) := [[40, 114, 32, 112, 48, 49, 32, 40, 99, 32, 105, 110, 99, 32, 112, 49, 51, 41, 41], [40, 114, 32, 122, 49, 32, 40, 99, 32, 40, 114, 32, 112, 48, 49, 32, 40, 99, 32, 105, 110, 99, 32, 112, 49, 51, 41, 41, 32, 112, 49, 51, 32, 112, 50, 51, 41, 41], [40, 114, 32, 122, 48, 32, 112, 48, 50, 41], [40, 109, 32, 40, 99, 32, 40, 114, 32, 122, 48, 32, 112, 48, 50, 41, 32, 112, 48, 49, 41, 41], [40, 114, 32, 122, 48, 32, 40, 99, 32, 105, 110, 99, 32, 40, 99, 32, 105, 110, 99, 32, 112, 49, 50, 41, 41, 41], [40, 99, 32, 40, 114, 32, 112, 48, 49, 32, 40, 99, 32, 105, 110, 99, 32, 112, 49, 51, 41, 41, 32, 112, 48, 49, 32, 112, 48, 49, 41], [40, 114, 32, 40, 99, 32, 105, 110, 99, 32, 122, 48, 41, 32, 40, 99, 32, 122, 49, 32, 112, 48, 50, 41, 41], [40, 109, 32, 40, 114, 32, 112, 48, 49, 32, 40, 99, 32, 40, 114, 32, 122, 48, 32, 112, 48, 50, 41, 32, 112, 49, 51, 41, 41, 41]]
def oddF : List (List UInt8) := [[], [122, 52], [112, 49, 49], [40, 99, 32, 105, 110, 99, 41], [40, 114, 32, 122, 48, 41], [40, 99, 32, 112, 48, 50, 32, 105, 110, 99, 32, 122, 48, 41], [40, 109, 32, 122, 48, 41], [112, 51], [40, 114, 32, 122, 51, 32, 122, 51, 41], [105, 110, 99, 32]]

theorem known_any (w : World) (rb p : Nat) (h : Dr w rb p) (hp : p ≤ 900000) :
    Calls Tryz.prog 67 #[.pointer (some ⟨rb, 0, none⟩)] w (StrPost w rb p 100 3) := by
  have hlt := h.lt
  have hof := of_any (w.alloc (.cells (knownL.map str).toArray 9)) rb p w.heap.size (0, 0) knownL (heap_top w _) (by decide) (by decide) (by omega) (h.after (below_new w _)) (by omega)
  have HL := Lib.hid (show ∀ s ∈ knownL, s.length ≤ 100 by decide)
  have e1 := add_eq [40, 114, 32, 122, 49, 32, 40, 99, 32] [40, 114, 32, 112, 48, 49, 32, 40, 99, 32, 105, 110, 99, 32, 112, 49, 51, 41, 41] _ rfl (by decide)
  have e2 := add_eq [40, 114, 32, 122, 49, 32, 40, 99, 32, 40, 114, 32, 112, 48, 49, 32, 40, 99, 32, 105, 110, 99, 32, 112, 49, 51, 41, 41] [32, 112, 49, 51, 32, 112, 50, 51, 41, 41] _ rfl (by decide)
  have e3 := add_eq [40, 99, 32] [40, 114, 32, 112, 48, 49, 32, 40, 99, 32, 105, 110, 99, 32, 112, 49, 51, 41, 41] _ rfl (by decide)
  have e4 := add_eq [40, 99, 32, 40, 114, 32, 112, 48, 49, 32, 40, 99, 32, 105, 110, 99, 32, 112, 49, 51, 41, 41] [32, 112, 48, 49, 32, 112, 48, 49, 41] _ rfl (by decide)
  simp only [List.cons_append, List.nil_append] at e1 e2 e3 e4
  clear h
  go_enter Tryz.func67, Tryz.ntmps67
  go_wp2_with fail
  refine hof.mono ?_
  rintro e w1 ⟨s, hs, rfl, hg1, hd1⟩
  have HD := Lib.hid hd1
  have HS := Lib.hid hs
  clear hd1 hof hs
  go_wp2_with fail
  go_ret
  exact ⟨⟨s.toArray⟩, p + 1, rfl, by rw [ssize]; exact HL.out s HS.out, by omega, grown_new hg1 hlt, HD.out⟩

theorem functions_any (w : World) (rb p : Nat) (h : Dr w rb p) (hp : p ≤ 800000) :
    Calls Tryz.prog 33 #[.pointer (some ⟨rb, 0, none⟩)] w (StrPost w rb p 1000 200) := by
  have hp1 := pick_any w rb p 8 h (by omega) (by decide) (by decide)
  clear h
  go_enter Tryz.func33, Tryz.ntmps33
  go_wp2_with fail
  refine hp1.mono ?_
  rintro e w1 ⟨k, hk, rfl, hg1, hd1⟩
  have hlt := hd1.lt
  have HD1 := Lib.hid hd1
  clear hd1 hp1
  by_cases hk0 : k = 0
  · subst hk0
    have hof := of_any (w1.alloc (.cells (oddF.map str).toArray 9)) rb (p + 1) w1.heap.size (0, 0) oddF (heap_top w1 _) (by decide) (by decide) (by omega) (HD1.out.after (below_new w1 _)) (by omega)
    have HL := Lib.hid (show ∀ s ∈ oddF, s.length ≤ 1000 by decide)
    go_wp2_with fail
    refine hof.mono ?_
    rintro e w2 ⟨s, hs, rfl, hg2, hd2⟩
    have HD := Lib.hid hd2
    have HS := Lib.hid hs
    clear hd2 hof hs
    go_wp2_with fail
    go_ret
    exact ⟨⟨s.toArray⟩, p + 1 + 1, rfl, by rw [ssize]; exact HL.out s HS.out, by omega, grown_trans hg1 (grown_new hg2 hlt), HD.out⟩
  · have hk0b : ((k : Int) == 0) = false := by rw [beq_eq_false_iff_ne]; omega
    by_cases hk3 : k ≤ 3
    · have hkn := known_any w1 rb (p + 1) HD1.out (by omega)
      have hkk : k = 1 ∨ k = 2 ∨ k = 3 := by omega
      rcases hkk with rfl | rfl | rfl
      all_goals
        go_wp2_with fail
        refine hkn.mono ?_
        rintro e w2 ⟨s, q, rfl, hs, hq, hg2, hd2⟩
        have HD := Lib.hid hd2
        clear hd2 hkn
        go_wp2_with fail
        go_ret
        exact ⟨s, q, rfl, by omega, by omega, grown_trans hg1 hg2, HD.out⟩
    · have k1 : ((k : Int) == 1) = false := by rw [beq_eq_false_iff_ne]; omega
      have k2 : ((k : Int) == 2) = false := by rw [beq_eq_false_iff_ne]; omega
      have k3 : ((k : Int) == 3) = false := by rw [beq_eq_false_iff_ne]; omega
      have hp2 := pick_any w1 rb (p + 1) 3 HD1.out (by omega) (by decide) (by decide)
      go_wp2_with fail
      refine hp2.mono ?_
      rintro e w2 ⟨a, ha, rfl, hg2, hd2⟩
      have hf := fun_any 2 w2 rb (p + 1 + 1) (a : Int) 2 hd2 (by omega) (by omega) (by omega) (by omega) (by omega) (by omega)
      clear hd2 hp2
      go_wp2_with fail
      refine hf.mono ?_
      rintro e w3 ⟨s, q, rfl, hs, hq, hg3, hd3⟩
      have HD := Lib.hid hd3
      clear hd3 hf
      go_wp2_with fail
      go_ret
      exact ⟨s, q, rfl, by omega, by omega, grown_trans (grown_trans hg1 hg2) hg3, HD.out⟩

theorem draw_arity (w : World) (v : Value) (n : Nat) (h : CodeArg w v n) : Calls Tryz.prog 11 #[v] w (DrawPost w) := by
  have hopen := open_any w v n h
  clear h
  go_enter Tryz.func11, Tryz.ntmps11
  go_wp2_with fail
  refine hopen.mono ?_
  rintro e w1 ⟨rb, rfl, hr, ha, hd⟩
  have hfs := functions_any w1 rb 0 hd (by omega)
  clear hopen hd
  go_wp2_with fail
  refine hfs.mono ?_
  rintro e w2 ⟨s, q, rfl, hs, hq, hg, hd⟩
  clear hfs hd
  go_wp2_with fail
  go_ret
  exact ⟨s, rfl, by omega, after_open ha hg hr⟩

theorem draw_fsize (w : World) (v : Value) (n : Nat) (h : CodeArg w v n) : Calls Tryz.prog 17 #[v] w (DrawPost w) := by
  have hopen := open_any w v n h
  clear h
  go_enter Tryz.func17, Tryz.ntmps17
  go_wp2_with fail
  refine hopen.mono ?_
  rintro e w1 ⟨rb, rfl, hr, ha, hd⟩
  have hfs := functions_any w1 rb 0 hd (by omega)
  clear hopen hd
  go_wp2_with fail
  refine hfs.mono ?_
  rintro e w2 ⟨s, q, rfl, hs, hq, hg, hd⟩
  clear hfs hd
  go_wp2_with fail
  go_ret
  exact ⟨s, rfl, by omega, after_open ha hg hr⟩
end Go.Proofs.YtjomocjlnjgkeaaGreat
