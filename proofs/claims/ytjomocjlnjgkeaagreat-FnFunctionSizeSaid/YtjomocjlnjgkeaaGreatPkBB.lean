/-
  Function texts within others: (c inc F) is read where F is. No program is named here.
-/
import Derived.Test.YtjomocjlnjgkeaaGreatPkAY
import Derived.Test.YtjomocjlnjgkeaaGreatPkAD
import Derived.Test.YtjomocjlnjgkeaaGreatPkAG
import Derived.Test.YtjomocjlnjgkeaaGreatPkAL
import Derived.Test.YtjomocjlnjgkeaaGreatPkAZ
namespace Go.Proofs.YtjomocjlnjgkeaaGreat
namespace FT

/-- l stands in L from p on, and behind it nothing or a closing parenthesis. -/
structure In (l L : List UInt8) (p : Nat) : Prop where
  drop : ∀ i, i ≤ l.length → ∃ post, L.drop (p + i) = l.drop i ++ post ∧ (post = [] ∨ post.head? = some 41)

theorem takeWhile_post (p : UInt8 → Bool) (hp : p 41 = false) {post : List UInt8} (h : post = [] ∨ post.head? = some 41) : ∀ xs : List UInt8, (xs ++ post).takeWhile p = xs.takeWhile p
  | [] => by
    rcases h with rfl | h
    · rfl
    · cases post with
      | nil => rfl
      | cons c cs =>
        simp only [List.head?_cons, Option.some.injEq] at h
        subst h
        simp [hp]
  | x :: xs => by
    simp only [List.cons_append, List.takeWhile_cons]
    rw [takeWhile_post p hp h xs]

theorem In.atomEnd {l L : List UInt8} {p : Nat} (h : In l L p) (i : Nat) (hi : i ≤ l.length) : Tm.atomEnd L (p + i) = p + Tm.atomEnd l i := by
  obtain ⟨post, h1, h2⟩ := h.drop i hi
  unfold Tm.atomEnd
  rw [h1, takeWhile_post _ (by decide) h2]
  omega

theorem In.get {l L : List UInt8} {p : Nat} (h : In l L p) (i : Nat) (hi : i < l.length) : L[p + i]? = l[i]? := by
  obtain ⟨post, h1, h2⟩ := h.drop i (by omega)
  have e : L[p + i]? = (L.drop (p + i))[0]? := by rw [List.getElem?_drop]; rfl
  rw [e, h1, List.getElem?_append_left (by simp; omega), List.getElem?_drop]
  rfl

theorem In.end32 {l L : List UInt8} {p : Nat} (h : In l L p) : L[p + l.length]? ≠ some 32 := by
  obtain ⟨post, h1, h2⟩ := h.drop l.length (Nat.le_refl _)
  have e : L[p + l.length]? = (L.drop (p + l.length))[0]? := by rw [List.getElem?_drop]; rfl
  rw [e, h1, List.drop_length, List.nil_append]
  rcases h2 with rfl | h2
  · simp
  · cases post with
    | nil => simp
    | cons c cs =>
      simp only [List.head?_cons, Option.some.injEq] at h2
      subst h2
      simp

theorem In.is {l L : List UInt8} {p : Nat} (h : In l L p) (i : Nat) (hi : i ≤ l.length) : L[p + i]? = some 32 ↔ l[i]? = some 32 := by
  by_cases hl : i < l.length
  · rw [h.get i hl]
  · have : i = l.length := by omega
    subst this
    constructor
    · exact fun h' => absurd h' h.end32
    · intro h'; simp at h'

theorem In.sl {l L : List UInt8} {p : Nat} (h : In l L p) (i j : Nat) (hi : i ≤ l.length) (hj : j ≤ l.length) : sl L (p + i) (p + j) = sl l i j := by
  obtain ⟨post, h1, h2⟩ := h.drop i hi
  unfold FT.sl
  rw [h1, show p + j - (p + i) = j - i by omega, List.take_append_of_le_length (by simp; omega)]

theorem In.len {l L : List UInt8} {p : Nat} (h : In l L p) : p + l.length ≤ L.length ∨ l = [] := by
  cases l with
  | nil => exact Or.inr rfl
  | cons c cs =>
    left
    obtain ⟨post, h1, _⟩ := h.drop 0 (by omega)
    have := congrArg List.length h1
    simp at this ⊢
    omega

theorem mparts_in {rd rd' : Nat → Option (FT × Nat)} {l L : List UInt8} {p : Nat} (h : In l L p) (hrd : ∀ i t j, i ≤ l.length → rd i = some (t, j) → rd' (p + i) = some (t, p + j) ∧ j ≤ l.length) :
    ∀ (n n' i : Nat) (acc ps : List FT) (j : Nat), n ≤ n' → i ≤ l.length → mparts rd l n i acc = some (ps, j) → mparts rd' L n' (p + i) acc = some (ps, p + j)
  | 0, _, _, _, _, _, _, _, h => by simp [mparts] at h
  | n + 1, 0, _, _, _, _, hn, _, _ => by omega
  | n + 1, n' + 1, i, acc, ps, j, hn, hi, hm => by
    simp only [mparts] at hm ⊢
    by_cases h32 : l[i]? = some 32
    · rw [if_pos h32] at hm
      rw [if_pos ((h.is i hi).2 h32)]
      have hi1 : i + 1 ≤ l.length := (List.getElem?_eq_some_iff.1 h32).1
      cases hr : rd (i + 1) with
      | none => rw [hr] at hm; simp at hm
      | some q =>
        obtain ⟨t, k⟩ := q
        rw [hr] at hm
        simp only at hm
        obtain ⟨h1, h2⟩ := hrd _ _ _ hi1 hr
        rw [Nat.add_assoc, h1]
        exact mparts_in h hrd n n' k _ ps j (by omega) h2 hm
    · rw [if_neg h32] at hm
      rw [if_neg (fun e => h32 ((h.is i hi).1 e))]
      simp only [Option.some.injEq, Prod.mk.injEq] at hm
      obtain ⟨rfl, rfl⟩ := hm
      rfl

theorem mread_in {l L : List UInt8} {p : Nat} (h : In l L p) : ∀ (d d' i : Nat) (t : FT) (j : Nat), d ≤ d' → i ≤ l.length → mread l d i = some (t, j) → mread L d' (p + i) = some (t, p + j) ∧ j ≤ l.length
  | 0, _, _, _, _, _, _, hm => by simp [mread] at hm
  | d + 1, 0, _, _, _, hd, _, _ => by omega
  | d + 1, d' + 1, i, t, j, hd, hi, hm => by
    have hj := (mread_facts l (d + 1) i t j hi hm).2.2.1
    refine ⟨?_, hj⟩
    simp only [mread] at hm ⊢
    by_cases hlt : l.length ≤ i
    · rw [if_pos hlt] at hm; cases hm
    · rw [if_neg hlt] at hm
      have hL : ¬ L.length ≤ p + i := by
        rcases h.len with h1 | h1
        · omega
        · rw [h1] at hlt; simp at hlt
      rw [if_neg hL, h.get i (by omega)]
      by_cases h40 : l[i]? = some 40
      · rw [if_pos h40] at hm ⊢
        have hi1 : i + 1 ≤ l.length := by omega
        have ha2 := atomEnd_le l (i + 1) hi1
        rw [Nat.add_assoc, h.atomEnd (i + 1) hi1]
        cases hp : mparts (mread l d) l (l.length + 1) (Tm.atomEnd l (i + 1)) [] with
        | none => rw [hp] at hm; simp at hm
        | some q =>
          obtain ⟨ps, k⟩ := q
          rw [hp] at hm
          simp only at hm
          have hn : l.length + 1 ≤ L.length + 1 := by
            rcases h.len with h1 | h1
            · omega
            · rw [h1]; simp
          have hp' := mparts_in h (fun i t j hi h' => mread_in h d d' i t j (by omega) hi h') _ (L.length + 1) _ _ _ _ hn ha2 hp
          have hk := (mparts_facts (mread_facts l d) _ _ _ _ _ ha2 (by simp) hp).2.2.1
          rw [hp']
          simp only
          by_cases h41 : l[k]? = some 41
          · rw [if_pos h41] at hm
            have hkl : k < l.length := (List.getElem?_eq_some_iff.1 h41).1
            rw [h.get k hkl, if_pos h41, h.sl (i + 1) _ hi1 ha2]
            cases hc : comb (sl l (i + 1) (Tm.atomEnd l (i + 1))) ps with
            | none => rw [hc] at hm; simp at hm
            | some u =>
              rw [hc] at hm
              simp only [Option.some.injEq, Prod.mk.injEq] at hm ⊢
              obtain ⟨rfl, rfl⟩ := hm
              exact ⟨rfl, by omega⟩
          · rw [if_neg h41] at hm; cases hm
      · rw [if_neg h40] at hm ⊢
        have ha2 := atomEnd_le l i hi
        rw [h.atomEnd i hi, h.sl i _ hi ha2]
        cases hw : word (sl l i (Tm.atomEnd l i)) with
        | none => rw [hw] at hm; simp at hm
        | some u =>
          rw [hw] at hm
          simp only [Option.some.injEq, Prod.mk.injEq] at hm ⊢
          obtain ⟨rfl, rfl⟩ := hm
          exact ⟨rfl, rfl⟩

theorem in_self (l : List UInt8) : In l l 0 := ⟨fun i _ => ⟨[], by simp, Or.inl rfl⟩⟩

/-- The text (c inc F). -/
def incOf (l : List UInt8) : List UInt8 := 40 :: 99 :: 32 :: 105 :: 110 :: 99 :: 32 :: (l ++ [41])

theorem in_inc (l : List UInt8) : In l (incOf l) 7 := ⟨fun i hi => ⟨[41], by
  unfold incOf
  rw [show 7 + i = i + 7 by omega]
  simp only [List.drop_succ_cons]
  rw [List.drop_append_of_le_length hi], Or.inr rfl⟩⟩

theorem inc_len (l : List UInt8) : (incOf l).length = l.length + 8 := by simp [incOf]

theorem inc_read (l : List UInt8) : mread (incOf l) 41 0 = match mread (incOf l) 40 7 with
    | none => none
    | some (t, j) => match mparts (mread (incOf l) 40) (incOf l) (l.length + 7) j [inc, t] with
      | none => none
      | some (ps, k) => if (incOf l)[k]? = some 41 then match comb [99] ps with
          | none => none
          | some u => some (u, k + 1)
        else none := by
  have e1 : Tm.atomEnd (incOf l) 1 = 2 := by unfold Tm.atomEnd; simp [incOf]
  have e3 : Tm.atomEnd (incOf l) 3 = 6 := by unfold Tm.atomEnd; simp [incOf]
  have s1 : sl (incOf l) 1 2 = [99] := rfl
  have s3 : sl (incOf l) 3 6 = [105, 110, 99] := rfl
  have g0 : (incOf l)[0]? = some 40 := rfl
  have g2 : (incOf l)[2]? = some 32 := rfl
  have g6 : (incOf l)[6]? = some 32 := rfl
  have g3 : (incOf l)[3]? = some 105 := rfl
  have hl := inc_len l
  have w3 : mread (incOf l) 40 3 = some (inc, 6) := by
    show mread (incOf l) (39 + 1) 3 = _
    simp only [mread]
    rw [if_neg (by omega), g3, if_neg (by decide), e3, s3]
    rfl
  show mread (incOf l) (40 + 1) 0 = _
  rw [mread]
  rw [if_neg (by omega), g0, if_pos rfl, Nat.zero_add, e1, hl, s1]
  rw [show l.length + 8 + 1 = (l.length + 8) + 1 from rfl, mparts, g2, if_pos rfl, w3]
  simp only [List.nil_append]
  rw [show l.length + 8 = (l.length + 7) + 1 from rfl, mparts, g6, if_pos rfl]
  cases hm : mread (incOf l) 40 7 with
  | none => rfl
  | some q => rfl

theorem parse_inc {l : List UInt8} {t : FT} (h : parse l = some t) : parse (incOf l) = none ∨ (parse (incOf l) = some (c1 inc t)) := by
  rw [parse_eq] at h ⊢
  unfold mfun at h ⊢
  split at h
  · cases h
  · cases hm : mread l 41 0 with
    | none => rw [hm] at h; simp at h
    | some q =>
      obtain ⟨t', j⟩ := q
      rw [hm] at h
      simp only at h
      split at h
      · rename_i hc
        obtain ⟨hj, _⟩ := hc
        cases h
        subst hj
        split
        · exact Or.inl rfl
        · rw [inc_read]
          have hbig := (mread_in (in_inc l) 41 41 0 t l.length (Nat.le_refl _) (by omega) hm).1
          cases hx : mread (incOf l) 40 7 with
          | none => exact Or.inl rfl
          | some q =>
            obtain ⟨t2, j2⟩ := q
            have hup := (mread_in (in_self (incOf l)) 40 41 7 t2 j2 (by omega) (by rw [inc_len]; omega) hx).1
            rw [Nat.zero_add, Nat.zero_add] at hup
            rw [Nat.add_zero] at hbig
            rw [hbig] at hup
            simp only [Option.some.injEq, Prod.mk.injEq] at hup
            obtain ⟨rfl, rfl⟩ := hup
            have g41 : (incOf l)[7 + l.length]? = some 41 := by
              rw [show 7 + l.length = l.length + 7 by omega]
              simp [incOf]
            simp only
            rw [show l.length + 7 = (l.length + 6) + 1 from rfl, mparts, g41, if_neg (by decide)]
            simp only
            rw [g41, if_pos rfl]
            have hcomb : comb [99] [inc, t] = some (c1 inc t) := rfl
            rw [hcomb]
            simp only
            split
            · exact Or.inr rfl
            · exact Or.inl rfl
      · cases h

end FT
end Go.Proofs.YtjomocjlnjgkeaaGreat

namespace Go.Proofs.YtjomocjlnjgkeaaGreat
open Go.RowKit

set_option maxHeartbeats 1000000
set_option maxRecDepth 100000

theorem inc_string (l : List UInt8) (h : l.length ≤ 200000) : ∃ c1 c2 : ByteArray, str (FT.incOf l) = .string c2 ∧ (∀ W, (Op.stringOp .add ⟨#[40, 99, 32, 105, 110, 99, 32]⟩ ⟨l.toArray⟩).run Tryz.prog W = .ok (.string c1) W) ∧ ∀ W, (Op.stringOp .add c1 ⟨#[41]⟩).run Tryz.prog W = .ok (.string c2) W := by
  have zl := ssize l
  have q1 : (⟨#[40, 99, 32, 105, 110, 99, 32]⟩ : ByteArray).size = 7 := rfl
  have q2 : (⟨#[41]⟩ : ByteArray).size = 1 := rfl
  obtain ⟨c1, d1, z1, e1⟩ := cat ⟨#[40, 99, 32, 105, 110, 99, 32]⟩ ⟨l.toArray⟩ (by omega)
  obtain ⟨c2, d2, z2, e2⟩ := cat c1 ⟨#[41]⟩ (by omega)
  refine ⟨c1, c2, ?_, e1, e2⟩
  refine congrArg Value.string (ByteArray.ext (Array.ext' ?_))
  rw [d2, d1]
  simp [FT.incOf]

end Go.Proofs.YtjomocjlnjgkeaaGreat

namespace Go.Proofs.YtjomocjlnjgkeaaGreat
open Go.RowKit Go.Shelf

attribute [local go_sem] Oper.semAt_some

theorem absR_snoc (x : List UInt8) : ∀ (xs : List (List UInt8)) (t : Tm), absR (xs ++ [x]) t = Tm.abs x (absR xs t)
  | [], _ => rfl
  | y :: ys, t => by simp only [List.cons_append, absR]; exact absR_snoc x ys _

theorem absR_size : ∀ (xs : List (List UInt8)) (t : Tm), (absR xs t).size ≤ 4 ^ xs.length * t.size
  | [], t => by simp [absR]
  | x :: xs, t => by
    have h1 := absR_size xs (Tm.abs x t)
    have h2 := abs_size x t
    simp only [absR, List.length_cons, Nat.pow_succ]
    calc (absR xs (Tm.abs x t)).size ≤ 4 ^ xs.length * (Tm.abs x t).size := h1
      _ ≤ 4 ^ xs.length * (4 * t.size) := Nat.mul_le_mul_left _ (by omega)
      _ = 4 ^ xs.length * 4 * t.size := by rw [Nat.mul_assoc]

theorem absR_small (xs : List (List UInt8)) (t : Tm) (h5 : xs.length < 5) (hz : t.size ≤ 3900) : (absR xs t).size ≤ 1000000 := by
  have h1 := absR_size xs t
  have h3 : 4 ^ xs.length ≤ 4 ^ 4 := Nat.pow_le_pow_right (by decide) (by omega)
  have h4 : 4 ^ xs.length * t.size ≤ 256 * 3900 := Nat.mul_le_mul h3 hz
  omega

set_option maxRecDepth 100000 in
set_option maxHeartbeats 2000000 in
theorem absAll_any (w : World) (B : Nat) (names : List (List UInt8)) (sv : Value) (t : Tm) (v : Value) (hI : StrsB w.heap.size w sv names) (hT : TV w B t v) (hB : B ≤ w.heap.size) (hlen : names.length ≤ 5) (hz : t.size ≤ 3900) :
    Calls Tryz.prog 119 #[sv, v] w (TermPost w B (FT.absAll names t)) := by
  obtain ⟨T, x, rfl, _⟩ := hT.asks
  obtain ⟨ao, cap, rfl⟩ : ∃ ao cap, sv = .slice ao names.length cap := by
    rcases hI with ⟨ao, cap, rfl, rfl⟩ | ⟨b, off, cap, rfl, _⟩
    · exact ⟨_, _, rfl⟩
    · exact ⟨_, _, rfl⟩
  refine (callsIn_wide (n := 3)).1 ?_
  refine callsIn_of_wp_marks Tryz.func119 rfl trivial ?_ rfl
  simp only [Tryz.ntmps119, List.size_toArray, List.length_cons, List.length_nil, Nat.reduceAdd, Nat.reduceSub, Array.replicate_succ, Array.replicate_zero, List.push_toArray, List.append_toArray, List.nil_append, List.cons_append]
  gi_wp2_with (refine ⟨trivial, ?_⟩; gi_at_call 90; refine (back_in Fence.wide 2 trivial rfl _ _ _ _).mono ?_; rintro e w' ⟨rfl, rfl⟩)
  have b0 := Boxed.new w 43 (.iface T x)
  have b3 := Boxed.new (w.alloc (.cells #[.iface T x] 43)) 40 (.slice ao names.length cap)
  simp only [World.size_alloc] at b3
  have hB0 : Below w.heap.size w ((w.alloc (.cells #[.iface T x] 43)).alloc (.cells #[.slice ao names.length cap] 40)) := below_alloc (below_alloc (Below.refl _ _) _) _
  have hI' : StrsB w.heap.size ((w.alloc (.cells #[.iface T x] 43)).alloc (.cells #[.slice ao names.length cap] 40)) (.slice ao names.length cap) names := by
    rcases hI with h | ⟨b, off, cap', e, hb, hc⟩
    · exact Or.inl h
    · exact Or.inr ⟨b, off, cap', e, hb, fun j hj => cell_later' (hc j hj) _ hB0⟩
  refine wpIn_rangeFunc_ownG rfl (by omega) (gf := 105) (lb := #[.pointer (some ⟨w.heap.size + 1, 0, none⟩)]) rfl trivial (enters_of Tryz.func105 (by kernel_rfl) rfl)
    (back_stops Fence.wide 2 trivial rfl (by omega) (w.heap.size + 1) w.heap.size _ names (by omega) _ (by simp) (by simp; omega) b3.cell hI') KeepB.trans (keepB_b (by simp; omega) (by simp)) (Below.refl _ _) (fun _ => rfl)
    (fun pre W => (∃ u vu, absR (pre.map Prod.snd) t = u ∧ TV W B u vu ∧ Boxed W w.heap.size 43 vu ∧ w.heap.size + 1 < W.heap.size) ∧ Below w.heap.size w W)
    (fun _ _ _ => False)
    (OwnFrom.and (Own.from (fun s A C row hs hg hr => by
      obtain ⟨u, vu, h1, h3, h4, h7⟩ := hs
      exact ⟨u, vu, h1, h3.grownCells hg hr, box_kept h4 hg hr, Nat.lt_of_lt_of_le h7 hg.size⟩) _) (ownFrom_below (Nat.le_refl _) (by simp; omega)))
    (fun c => Own.from (fun s A C row hs hg hr => hs) _)
    ⟨⟨t, .iface T x, rfl, hT.below hB0, b0.alloc _, by simp⟩, hB0⟩
    (fun p => { tmps := #[.slice ao names.length cap, .iface T x, undef, .pointer (some ⟨w.heap.size, 0, none⟩), .nilIface, undef, str p.2, .slice ao names.length cap, .func (.func 105) #[] #[.pointer (some ⟨w.heap.size + 1, 0, none⟩)], .int .i64 (p.1 : Int), str p.2, undef, undef, undef, undef], defers := [] }) ?assign ?body ?done ?stop
  case assign =>
    intro l p W K hK
    gi_wp2
    exact hK
  case body =>
    rintro l pre p W ⟨⟨u, vu, h1, h3, h4, h7⟩, hBw⟩ hlt
    obtain ⟨T', x', rfl, _⟩ := h3.asks
    have c0 := h4.cell
    have hus : u.size ≤ 1000000 := by
      rw [← h1]
      exact absR_small _ _ (by rw [List.length_map]; omega) hz
    have hBW := Nat.le_trans hB hBw.size
    have hcall := abstraction_any W B p.2 u _ h3 hBW hus
    unfold TermPost at hcall
    gi_wp2_with (refine ⟨trivial, ?_⟩; gi_at_call 91; refine (CallsIn.inRound l (callsIn_wide.2 hcall)).mono ?_; rintro e w1 ⟨v1, rfl, hb1, ht1⟩; obtain ⟨T1, x1, rfl, _⟩ := ht1.asks; have g4 := box_later h4 hb1; have gc := g4.cell; have gf := g4.frozen; clear c0)
    have ht2 := TV.boxSet (u := .iface T1 x1) ht1 g4
    have e0 := Boxed.set (.iface T1 x1) g4
    have hs1 := hb1.size
    have hnext : absR ((pre ++ [p]).map Prod.snd) t = Tm.abs p.2 u := by
      rw [List.map_append, List.map_singleton, absR_snoc, h1]
    refine ⟨((keepsOthers_below hb1).trans (KeepsOthers.setCell _ _ _)).from _, (keepB_below hb1 (by omega) (by omega)).trans (keepB_set _ (Nat.le_refl _) (by omega)), ⟨Tm.abs p.2 u, .iface T1 x1, hnext, ht2, e0, by simp [World.setCell]; omega⟩, ?_⟩
    exact (hBw.trans (hb1.mono hBw.size)).trans ((Below.refl w.heap.size w1).setCell (p := ⟨w.heap.size, 0, none⟩) (Nat.le_refl _) _)
  case done =>
    rintro D ys W hD rfl ⟨⟨u, vu, h1, h3, h4, h7⟩, hBw⟩ hK
    rw [back_take _ _ (Nat.le_refl _), List.take_of_length_le (by simp)] at h1
    obtain ⟨T', x', rfl, _⟩ := h3.asks
    have c4 := h4.cell
    have HN := Lib.hid h1
    clear h1
    gi_wp2
    refine ⟨by simp, .inl ⟨_, _, rfl, run_takeDeferred hK, ?_⟩⟩
    have ht := TV.grownCells h3 (grownBy_putObj' _ D (.deferred none)) (fun r e => by cases e; exact ⟨_, hK, rfl⟩)
    refine ⟨.iface T' x', ?_, .iface T' x', rfl, ?_, ?_⟩
    · simp [results, Tryz.results119, go_sem]
    · exact hBw.trans (belowK_b (w := w) (Nat.le_refl _) _ D _ _ (by simp at hD; omega) hK rfl rfl)
    · unfold FT.absAll
      rw [HN.out]
      exact ht
  case stop => rintro D c pre W hD ⟨k, hk, rfl⟩ h hK; exact h.elim
end Go.Proofs.YtjomocjlnjgkeaaGreat
