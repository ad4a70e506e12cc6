/-
  The program's Abstract.
-/
import Derived.Test.YtfjohagdlaiapaaPkB
import Derived.Test.YtfjohagdlaiapaaPkU
import Derived.Test.YtfjohagdlaiapaaPkA
namespace Go.Proofs.Ytfjohagdlaiapaa
open Go.RowKit

set_option maxHeartbeats 1000000
set_option maxRecDepth 100000

/-- The slice value holds these texts. -/
def StrsV (W : World) (sv : Value) (zs : List (List UInt8)) : Prop :=
  (∃ ao cap, sv = .slice ao 0 cap ∧ zs = []) ∨ ∃ b off cap, sv = .slice (some ⟨b, off, none⟩) zs.length cap ∧ ∀ j, j < zs.length → W.cell? ⟨b, off + j, none⟩ = some (str (zs[j]?.getD []))

theorem index_any (w : World) (sv : Value) (ns : List (List UInt8)) (x : List UInt8) (h : StrsV w sv ns) (hn : ns.length ≤ 1000000000) :
    Calls Try.prog 70 #[sv, str x] w fun e w' => (∃ i : Int, e = .returned (.int .i64 i) ∧ (0 ≤ i ↔ x ∈ ns)) ∧ w = w' := by
  rcases h with ⟨ao, cap, rfl, rfl⟩ | ⟨b, off, cap, rfl, hc⟩
  · go_enter Try.func70, Try.ntmps70
    go_wp2_with fail
    go_loop [8] (fun i => i = .int .i64 0) (fun _ => 0)
    case atStart => rfl
    case round =>
      obtain rfl := hrel
      go_wp2_with fail
      go_ret
      exact ⟨⟨-1, rfl, by simp⟩, rfl⟩
  · have hstart : Hid (x ∈ ns ↔ x ∈ ns.drop 0) := by show _ ↔ _; simp
    have HC := Lib.hid hc
    clear hc
    go_enter Try.func70, Try.ntmps70
    go_wp2_with fail
    go_loop [8] (fun i => ∃ k : Nat, i = .int .i64 k ∧ k ≤ ns.length ∧ Hid (x ∈ ns ↔ x ∈ ns.drop k)) (fun i => ns.length - (intOf i).toNat)
    case atStart => exact ⟨0, rfl, Nat.zero_le _, hstart⟩
    case round =>
      clear hstart
      obtain ⟨k, rfl, hk, hr⟩ := hrel
      by_cases hlt : k < ns.length
      · have hck := HC.out k hlt
        have hd := List.drop_eq_getElem_cons hlt
        have hg : ns[k]?.getD [] = ns[k] := by simp [hlt]
        rw [hg] at hck
        rw [hd] at hr
        clear hd hg
        generalize ns[k] = y at hck hr
        by_cases he : x = y
        · subst he
          have HS : Hid (x ∈ ns) := hr.out.2 (by simp)
          clear hr
          go_wp2_with fail
          go_ret
          exact ⟨⟨(k : Int), rfl, by simp [HS.out]⟩, rfl⟩
        · have heq : (x == y) = false := beq_eq_false_iff_ne.2 he
          have HS : Hid (x ∈ ns ↔ x ∈ ns.drop (k + 1)) := by show _ ↔ _; rw [hr.out]; simp [he]
          clear hr he
          go_wp2_with fail
          go_round
          case rel => exact ⟨k + 1, by go_num, by omega, HS⟩
          case measure => simp [intOf]; omega
      · have HS : Hid (¬ x ∈ ns) := by show ¬ _; rw [hr.out, List.drop_eq_nil_of_le (by omega)]; simp
        clear hr
        go_wp2_with fail
        go_ret
        exact ⟨⟨-1, rfl, by simp [HS.out]⟩, rfl⟩

theorem contains_any (w : World) (sv : Value) (ns : List (List UInt8)) (x : List UInt8) (h : StrsV w sv ns) (hn : ns.length ≤ 1000000000) :
    Calls Try.prog 35 #[sv, str x] w fun e w' => e = .returned (.bool (decide (x ∈ ns))) ∧ w = w' := by
  have hi := index_any w sv ns x h hn
  obtain ⟨ao, n, cap, rfl⟩ : ∃ ao n cap, sv = .slice ao n cap := by
    rcases h with ⟨ao, cap, rfl, rfl⟩ | ⟨b, off, cap, rfl, _⟩
    · exact ⟨_, _, _, rfl⟩
    · exact ⟨_, _, _, rfl⟩
  go_enter Try.func35, Try.ntmps35
  go_wp2_with fail
  refine hi.mono ?_
  rintro e w1 ⟨⟨i, rfl, hiff⟩, rfl⟩
  have HI := Lib.hid hiff
  clear hiff hi
  go_wp2_with fail
  go_ret
  exact ⟨congrArg Ending.returned (congrArg Value.bool (by by_cases h : x ∈ ns <;> simp [h, HI.out])), rfl⟩

/-- Names, all different from each other and from those before. -/
def okL : List (List UInt8) → List (List UInt8) → Bool
  | _, [] => true
  | acc, x :: xs => Tm.nameOk x && (!decide (x ∈ acc) && okL (acc ++ [x]) xs)

/-- What Abstract answers. -/
def pAbs (names : List (List UInt8)) (l : List UInt8) : Option (List UInt8) :=
  if names.length ≤ 8 ∧ okL [] names = true then match Tm.parse l with
    | some t => (absL names.reverse t).map Tm.text
    | none => none
  else none

theorem absL_good : ∀ (xs : List (List UInt8)) {t u : Tm}, absL xs t = some u → t.good = true → t.fits = true → (∀ x ∈ xs, Tm.nameOk x = true) → u.good = true ∧ u.fits = true
  | [], t, u, h, hg, hf, _ => by obtain rfl := Option.some.inj h; exact ⟨hg, hf⟩
  | x :: xs, t, u, h, hg, hf, hx => by
    simp only [absL] at h
    split at h
    · rename_i hf'
      have hga : ∀ t : Tm, t.good = true → (Tm.abs x t).good = true := fun t => by
        induction t with
        | k => intro _; rfl
        | s => intro _; rfl
        | nm n => intro hn; by_cases he : n = x <;> simp [Tm.abs, he, Tm.I, Tm.good] <;> simpa [Tm.good] using hn
        | app f a ihf iha =>
          intro h
          have h' := h
          simp only [Tm.good, Bool.and_eq_true] at h'
          simp only [Tm.abs]
          split
          · simpa [Tm.good] using h'
          · split
            · exact h'.1
            · simp [Tm.good, ihf h'.1, iha h'.2]
      exact absL_good xs h (hga t hg) hf' (fun y hy => hx y (List.mem_cons_of_mem _ hy))
    · simp at h

theorem okL_names : ∀ (acc names : List (List UInt8)), okL acc names = true → ∀ x ∈ names, Tm.nameOk x = true
  | _, [], _, x, hx => by cases hx
  | acc, y :: ys, h, x, hx => by
    simp only [okL, Bool.and_eq_true] at h
    rcases List.mem_cons.1 hx with rfl | hx
    · exact h.1
    · exact okL_names _ ys h.2.2 x hx

def AbsRes (w : World) (r : Option (List UInt8)) (e : Ending) (w' : World) : Prop :=
  e = .returned (.tuple #[str (r.getD []), .bool r.isSome]) ∧ Below w.heap.size w w'

theorem abs_many (w : World) (l : List UInt8) (ao : Option Addr) (n cap : Nat) (hn : 8 < n) :
    Calls Try.prog 9 #[.slice ao n cap, str l] w (AbsRes w none) := by
  go_enter Try.func9, Try.ntmps9
  go_wp2_with fail
  go_ret2
  exact ⟨rfl, Below.refl _ _⟩

theorem impl_abs_some (w : World) (b off cap : Nat) (names : List (List UInt8)) (l : List UInt8) (hl : l.length ≤ 1000000000) (hn : names.length ≤ 8) (h1 : ∀ x ∈ names, x.length ≤ 1000000000) (hcap : names.length ≤ cap) (hb : b < w.heap.size)
    (hc : ∀ j, j < names.length → w.cell? ⟨b, off + j, none⟩ = some (str (names[j]?.getD []))) :
    Calls Try.prog 9 #[.slice (some ⟨b, off, none⟩) names.length cap, str l] w (AbsRes w (pAbs names l)) := by
  obtain ⟨R, hR⟩ : ∃ R, R = pAbs names l := ⟨_, rfl⟩
  rw [← hR]
  have HR : Hid (R = if okL [] names = true then (match Tm.parse l with | some t => (absL names.reverse t).map Tm.text | none => none) else none) := by
    show _ = _
    rw [hR, pAbs]
    by_cases h : okL [] names = true <;> simp [hn, h]
  obtain ⟨N, hN⟩ : ∃ N, N = names.length := ⟨_, rfl⟩
  rw [← hN] at hn hcap hc ⊢
  have HN := Lib.hid hN
  have HC := Lib.hid hc
  have H1 := Lib.hid h1
  have hstart : Hid (okL [] names = okL (names.take 0) (names.drop 0)) := by show _ = _; simp
  clear hR hN hc h1
  go_enter Try.func9, Try.ntmps9
  go_wp2_with fail
  go_loop [16] (fun i => ∃ k : Nat, i = .int .i64 k ∧ k ≤ N ∧ Hid (okL [] names = okL (names.take k) (names.drop k))) (fun i => N - (intOf i).toNat)
  case atStart => exact ⟨0, rfl, Nat.zero_le _, hstart⟩
  case round =>
    clear hstart
    obtain ⟨k, rfl, hk, hr⟩ := hrel
    by_cases hlt : k < N
    · have hlt' : k < names.length := by rw [← HN.out]; exact hlt
      have hck := HC.out k hlt
      have hg : names[k]?.getD [] = names[k] := by simp [hlt']
      rw [hg] at hck
      have hd : okL (names.take k) (names.drop k) = (Tm.nameOk names[k] && (!decide (names[k] ∈ names.take k) && okL (names.take (k + 1)) (names.drop (k + 1)))) := by
        rw [List.drop_eq_getElem_cons hlt', okL, List.take_succ_eq_append_getElem hlt']
      rw [hd] at hr
      have hlen := H1.out names[k] (List.getElem_mem hlt')
      have hcon := contains_any w (.slice (some ⟨b, off, none⟩) k cap) (names.take k) names[k] (Or.inr ⟨b, off, cap, by simp [Nat.le_of_lt hlt'], fun j hj => by
        have hj' : j < k := by simpa [Nat.le_of_lt hlt'] using hj
        rw [HC.out j (by omega)]
        simp [hj']⟩) (by simp; omega)
      clear hd hg
      generalize names[k] = y at hck hr hcon hlen
      generalize decide (y ∈ names.take k) = q at hr hcon
      have hval := nameValid_any w y hlen
      generalize Tm.nameOk y = o at hr hval
      cases o
      · have HB : Hid (okL [] names = false) := by show _ = _; rw [hr.out]; rfl
        clear hr hcon
        go_wp2_with (go_at_call 34; refine hval.mono ?_; rintro e w' ⟨rfl, rfl⟩)
        go_ret2
        exact ⟨by rw [HR.out, HB.out]; rfl, Below.refl _ _⟩
      · cases q
        · have HS : Hid (okL [] names = okL (names.take (k + 1)) (names.drop (k + 1))) := by show _ = _; rw [hr.out]; simp
          clear hr
          have hkc : k ≤ cap := by omega
          go_wp2_with (first
            | (go_at_call 34; refine hval.mono ?_; rintro e w' ⟨rfl, rfl⟩)
            | (go_at_call 35; refine hcon.mono ?_; rintro e w' ⟨rfl, rfl⟩))
          go_round
          case rel => exact ⟨k + 1, by go_num, by omega, HS⟩
          case measure => simp [intOf]; omega
        · have HB : Hid (okL [] names = false) := by show _ = _; rw [hr.out]; simp
          clear hr
          have hkc : k ≤ cap := by omega
          go_wp2_with (first
            | (go_at_call 34; refine hval.mono ?_; rintro e w' ⟨rfl, rfl⟩)
            | (go_at_call 35; refine hcon.mono ?_; rintro e w' ⟨rfl, rfl⟩))
          go_ret2
          exact ⟨by rw [HR.out, HB.out]; rfl, Below.refl _ _⟩
    · obtain rfl : k = N := by omega
      have hok : okL [] names = true := by rw [hr.out, List.drop_eq_nil_of_le (by rw [← HN.out]; exact Nat.le_refl _)]; rfl
      have HOK := Lib.hid hok
      clear hr hok
      have hread := readTerm_any w 0 l (Nat.zero_le _) hl
      unfold ParsePost at hread
      have HR2 : Hid (R = match Tm.parse l with | some t => (absL names.reverse t).map Tm.text | none => none) := by show _ = _; rw [HR.out, HOK.out]; rfl
      clear HR
      cases hp : Tm.parse l with
      | none =>
        rw [hp] at hread HR2
        clear hp
        go_wp2_with (go_at_call 36; refine hread.mono ?_; rintro e w1 ⟨v1, rfl, hb1, hv1⟩; clear hv1)
        go_ret2
        exact ⟨by rw [HR2.out]; rfl, hb1⟩
      | some t =>
        obtain ⟨hg, hf, hs, _, _⟩ := Tm.parse_facts hp
        rw [hp] at hread HR2
        clear hp
        simp only at HR2
        have habs := fun W (hW : Below w.heap.size w W) v (h : TV W 0 t v) => absN_any W 0 names (.slice (some ⟨b, off, none⟩) k cap) t v (Or.inr ⟨b, off, cap, by rw [HN.out], Nat.lt_of_lt_of_le hb hW.size, fun j hj => cell_later' (HC.out j (by rw [HN.out]; exact hj)) W hW⟩) h (Nat.zero_le _) hf (by rw [← HN.out]; omega)
        have hgood := fun u h => absL_good names.reverse (t := t) (u := u) h hg hf (fun x hx => okL_names [] names HOK.out x (List.mem_reverse.1 hx))
        cases hab : absL names.reverse t with
        | none =>
          rw [hab] at habs HR2
          clear hab hgood
          go_wp2_with fail
          refine hread.mono ?_
          rintro e w1 ⟨v1, rfl, hb1, hv1⟩
          have hcall := habs w1 hb1 v1 (hv1 t rfl)
          clear hv1 hread habs
          go_wp2_with (go_at_call 37; refine hcall.mono ?_; rintro e w2 ⟨v2, rfl, hb2, hv2⟩; clear hv2)
          go_ret2
          exact ⟨by rw [HR2.out]; rfl, below_trans hb1 hb2⟩
        | some u =>
          obtain ⟨hgu, hfu⟩ := hgood u hab
          have hsu := fits_size hfu
          have htl := Tm.text_le u hgu
          rw [hab] at habs HR2
          clear hab hgood
          go_wp2_with fail
          refine hread.mono ?_
          rintro e w1 ⟨v1, rfl, hb1, hv1⟩
          have hcall := habs w1 hb1 v1 (hv1 t rfl)
          clear hv1 hread habs
          go_wp2_with (first
            | (go_at_call 37; refine hcall.mono ?_; rintro e w2 ⟨v2, rfl, hb2, hv2⟩; have HV := Lib.hid (hv2 u rfl); clear hv2)
            | (go_at_call 38; refine (textOf_any _ 0 u _ HV.out hgu (by omega)).mono ?_; rintro e w3 ⟨rfl, hb3⟩))
          go_ret2
          exact ⟨by rw [HR2.out]; rfl, below_trans (below_trans hb1 hb2) hb3⟩
end Go.Proofs.Ytfjohagdlaiapaa
