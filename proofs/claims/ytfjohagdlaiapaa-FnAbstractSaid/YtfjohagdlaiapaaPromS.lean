/-
  Plain mathematics of the promises about names: what is put is gone, steps have no new names, what is put grows the term.
-/
import Derived.Test.YtfjohagdlaiapaaPkK
import Derived.Test.YtfjohagdlaiapaaSlT
namespace Go.Proofs.Ytfjohagdlaiapaa
namespace Tm

theorem has_ok {x : List UInt8} : ∀ {t : Tm}, has x t = true → t.good = true → nameOk x = true
  | nm n, h, g => by
    have e : n = x := by simpa [has] using h
    simp only [good] at g
    rwa [e] at g
  | app f a, h, g => by
    simp only [has, Bool.or_eq_true] at h
    simp only [good, Bool.and_eq_true] at g
    rcases h with h | h
    · exact has_ok h g.1
    · exact has_ok h g.2

theorem nameOk_short {x : List UInt8} (h : nameOk x = true) : x.length ≤ 4 := by
  cases x with
  | nil => cases h
  | cons c ds =>
    simp only [nameOk, Bool.and_eq_true, decide_eq_true_eq] at h
    simp only [List.length_cons]
    omega

theorem names_facts {t : Tm} {ns : List (List UInt8)} (hns : ns = names [] t) (hg : t.good = true) : (∀ x, x ∈ ns ↔ has x t = true) ∧ (∀ x ∈ ns, nameOk x = true ∧ x.length ≤ 4) ∧ ns.length ≤ t.size ∧ ns.Nodup := by
  have h1 : ∀ x, x ∈ ns ↔ has x t = true := fun x => by rw [hns, mem_names]; simp
  refine ⟨h1, fun x hx => ?_, by rw [hns]; have := names_len t []; simpa using this, by rw [hns]; exact names_nodup t [] List.nodup_nil⟩
  have := has_ok ((h1 x).1 hx) hg
  exact ⟨this, nameOk_short this⟩

theorem getD_mem {ns : List (List UInt8)} {j : Nat} (h : j < ns.length) : ns.getD j [] ∈ ns := by
  rw [List.getD, List.getElem?_eq_getElem h]
  exact List.getElem_mem h

theorem nodup_take {ns : List (List UInt8)} (h : ns.Nodup) {j : Nat} (hj : j < ns.length) : ns.getD j [] ∉ ns.take j := by
  intro hm
  have e : ns = ns.take j ++ ns.drop j := (List.take_append_drop j ns).symm
  have hd : ns.drop j = ns.getD j [] :: ns.drop (j + 1) := by rw [List.drop_eq_getElem_cons hj, List.getD, List.getElem?_eq_getElem hj]; rfl
  rw [e, List.nodup_append] at h
  refine h.2.2 _ hm (ns.getD j []) ?_ rfl
  rw [hd]
  exact List.mem_cons_self

/-! ### all names put as k -/

theorem depth_put (n : List UInt8) (b : Tm) (hb : b.depth = 0) : ∀ t : Tm, (put t n b).depth = t.depth
  | nm m => by
    simp only [put]
    split <;> simp [depth, hb]
  | app f a => by simp only [put, depth, depth_put n b hb f, depth_put n b hb a]
  | k => rfl
  | s => rfl

def PutK (t : Tm) (ns : List (List UInt8)) (j : Nat) (T : Tm) : Prop :=
  T.good = true ∧ T.size = t.size ∧ T.depth = t.depth ∧ ∀ m, has m T = true ↔ (has m t = true ∧ m ∉ ns.take j)

theorem putK_zero {t : Tm} {ns : List (List UInt8)} (hg : t.good = true) : PutK t ns 0 t := ⟨hg, rfl, rfl, fun m => by simp⟩

theorem putK_step {t T : Tm} {ns : List (List UInt8)} {j : Nat} (h : PutK t ns j T) (hf : t.fits = true) (hj : j < ns.length) (hok : nameOk (ns.getD j []) = true) :
    ∃ T', pPut T.text (ns.getD j []) [107] = some T'.text ∧ PutK t ns (j + 1) T' ∧ T'.text.length ≤ 21000 := by
  obtain ⟨h1, h2, h3, h4⟩ := h
  have hft : T.fits = true := by simp only [fits, Bool.and_eq_true, decide_eq_true_eq] at hf ⊢; omega
  have hz := size_put (ns.getD j []) k T
  have hd := depth_put (ns.getD j []) k rfl T
  have hsz : (put T (ns.getD j []) k).size = T.size := by have : (k : Tm).size = 1 := rfl; rw [this] at hz; omega
  have hg := good_put (ns.getD j []) k T rfl h1
  have hfp : (put T (ns.getD j []) k).fits = true := by
    have : T.fits = (put T (ns.getD j []) k).fits := by simp only [fits, hsz, hd]
    rw [← this]; exact hft
  refine ⟨put T (ns.getD j []) k, ?_, ⟨hg, by omega, by rw [hd, h3], fun m => ?_⟩, (parse_facts (parse_text hg hfp)).2.2.2.2⟩
  · unfold pPut
    rw [parse_text h1 hft, show parse [107] = some k from parse_text (t := k) rfl rfl]
    simp only [hok, hfp, Bool.and_self, if_true]
  · rw [has_put, show has m (k : Tm) = false from rfl, Bool.and_false, Bool.or_false, Bool.and_eq_true, decide_eq_true_eq, h4 m]
    have e : ns.take (j + 1) = ns.take j ++ [ns.getD j []] := by
      rw [List.take_add_one, List.getElem?_eq_getElem hj, List.getD, List.getElem?_eq_getElem hj]; rfl
    rw [e, List.mem_append, List.mem_singleton]
    constructor
    · rintro ⟨⟨a, b⟩, c⟩; exact ⟨a, fun h => h.elim b c⟩
    · rintro ⟨a, b⟩; exact ⟨⟨a, fun h => b (Or.inl h)⟩, fun h => b (Or.inr h)⟩

theorem putK_end {t T : Tm} {ns : List (List UInt8)} (h : PutK t ns ns.length T) (hf : t.fits = true) (hns : ∀ x, x ∈ ns ↔ has x t = true) : pSize T.text = (t.size : Nat) ∧ pClosed T.text = true ∧ T.text.length ≤ 21000 := by
  obtain ⟨h1, h2, h3, h4⟩ := h
  have hft : T.fits = true := by simp only [fits, Bool.and_eq_true, decide_eq_true_eq] at hf ⊢; omega
  have hp := parse_text h1 hft
  refine ⟨?_, closed_text h1 hft fun n => ?_, (parse_facts hp).2.2.2.2⟩
  · unfold pSize
    rw [hp]
    simp only [h2]
  · cases hc : has n T with
    | false => rfl
    | true =>
      obtain ⟨a, b⟩ := (h4 n).1 hc
      rw [List.take_length] at b
      exact (b ((hns n).2 a)).elim

/-! ### one name put as s -/

theorem put_first {t : Tm} {ns : List (List UInt8)} (hns : ns = names [] t) (hg : t.good = true) (hf : t.fits = true) (h0 : 0 < ns.length) :
    ∃ y, pPut t.text (ns.getD 0 []) [115] = some y ∧ y.length ≤ 21000 ∧ pNames y = some (ns.drop 1) := by
  obtain ⟨h1, h2, h3, h4⟩ := names_facts hns hg
  obtain ⟨hok, _⟩ := h2 _ (getD_mem h0)
  have hz := size_put (ns.getD 0 []) s t
  have hd := depth_put (ns.getD 0 []) s rfl t
  have hsz : (put t (ns.getD 0 []) s).size = t.size := by have : (s : Tm).size = 1 := rfl; rw [this] at hz; omega
  have hgp := good_put (ns.getD 0 []) s t rfl hg
  have hfp : (put t (ns.getD 0 []) s).fits = true := by
    have : t.fits = (put t (ns.getD 0 []) s).fits := by simp only [fits, hsz, hd]
    rw [← this]; exact hf
  have hp := parse_text hgp hfp
  refine ⟨(put t (ns.getD 0 []) s).text, ?_, (parse_facts hp).2.2.2.2, ?_⟩
  · unfold pPut
    rw [parse_text hg hf, show parse [115] = some s from parse_text (t := s) rfl rfl]
    simp only [hok, hfp, Bool.and_self, if_true]
  · unfold pNames
    rw [hp, Option.map_some]
    have hn := names_put (ns.getD 0 []) s t (fun acc => rfl) []
    rw [List.filter_nil] at hn
    rw [hn, ← hns]
    congr 1
    have hdr : ns = ns.getD 0 [] :: ns.drop 1 := by
      have := List.drop_eq_getElem_cons h0
      rw [List.drop_zero] at this
      rw [List.getD, List.getElem?_eq_getElem h0]
      exact this
    rw [hdr] at h4
    have h5 := (List.nodup_cons.1 h4).1
    generalize ns.getD 0 [] = a at *
    generalize ns.drop 1 = r at *
    rw [hdr, List.filter_cons, if_neg (by simp), List.filter_eq_self]
    intro x hx
    simp only [ne_eq, decide_eq_true_eq]
    intro e
    rw [e] at hx
    exact h5 hx

/-! ### steps -/

theorem norm_of_many {t a : Tm} {i : Nat} (h : many 6000 t = (a, i)) (hs : step a = none) : norm t = some (a, i) := by
  unfold norm
  rw [h]
  exact if_pos hs

theorem step_facts {l x : List UInt8} (h : pStep l = some x) : ∃ t u, parse l = some t ∧ parse x = some u ∧ pNormal l = false ∧ x.length ≤ 21000 ∧ (∀ n, has n u = true → has n t = true) ∧
    ∀ y m, pNorm l = some (y, m) → 1 ≤ m ∧ pNorm x = some (y, m - 1) := by
  unfold pStep at h
  cases hp : parse l with
  | none => rw [hp] at h; cases h
  | some t =>
    rw [hp] at h
    obtain ⟨rfl, hg, hf⟩ := parse_text_iff hp
    simp only [Option.map_eq_some_iff] at h
    obtain ⟨u, hu, rfl⟩ := h
    have hu' := hu
    unfold stepFit at hu'
    cases hs : step t with
    | none => rw [hs] at hu'; cases hu'
    | some v =>
      rw [hs] at hu'
      simp only at hu'
      split at hu'
      · rename_i hfv
        obtain rfl := Option.some.inj hu'
        have gv := step_good hs hg
        have hpv := parse_text gv hfv
        refine ⟨t, v, rfl, hpv, by simp [pNormal, hp, hs], (parse_facts hpv).2.2.2.2, fun n => par_has (step_par hs) n, fun y m hy => ?_⟩
        unfold pNorm at hy ⊢
        rw [hp] at hy
        rw [hpv]
        simp only [Option.map_eq_some_iff] at hy
        obtain ⟨⟨a, i⟩, ha, he⟩ := hy
        simp only [Prod.mk.injEq] at he
        obtain ⟨rfl, rfl⟩ := he
        have hsa := (norm_star ha).2
        have hm : many 6000 t = (a, i) := by
          unfold norm at ha
          split at ha
          · exact Option.some.inj ha
          · cases ha
        rw [show (6000 : Nat) = 5999 + 1 from rfl, many_succ, hu] at hm
        have hnx := many_next 5999 v
        obtain ⟨q, hq⟩ : ∃ q, q = many 5999 v := ⟨_, rfl⟩
        simp only [← hq] at hm hnx
        simp only [Prod.mk.injEq] at hm
        obtain ⟨e1, e2⟩ := hm
        have hsf : stepFit q.1 = none := by rw [e1]; simp [stepFit, hsa]
        rw [hsf] at hnx
        have hn : many (5999 + 1) v = (a, i - 1) := by
          rw [hnx]
          have : q = (a, i - 1) := Prod.ext e1 (by simp only; omega)
          split <;> exact this
        have hnv : norm v = some (a, i - 1) := norm_of_many hn hsa
        simp only [hnv]
        exact ⟨by omega, rfl⟩
      · cases hu'

/-! ### what is put -/

theorem put_facts {l n b x : List UInt8} (h : pPut l n b = some x) : ∃ t u, l = t.text ∧ t.good = true ∧ t.fits = true ∧ b = u.text ∧ u.good = true ∧ u.fits = true ∧ x = (put t n u).text ∧ (put t n u).good = true ∧ (put t n u).fits = true ∧ x.length ≤ 21000 := by
  unfold pPut at h
  cases hp : parse l with
  | none => rw [hp] at h; cases h
  | some t =>
    cases hq : parse b with
    | none => rw [hp, hq] at h; cases h
    | some u =>
      rw [hp, hq] at h
      simp only at h
      split at h
      · rename_i hc
        obtain ⟨hc1, hc2⟩ := Bool.and_eq_true_iff.1 hc
        obtain rfl := Option.some.inj h
        obtain ⟨rfl, hg, hf⟩ := parse_text_iff hp
        obtain ⟨rfl, hgu, hfu⟩ := parse_text_iff hq
        have g := good_put n u t hgu hg
        exact ⟨t, u, rfl, hg, hf, rfl, hgu, hfu, rfl, g, hc2, (parse_facts (parse_text g hc2)).2.2.2.2⟩
      · cases h

theorem put_names {l n b x : List UInt8} (h : pPut l n b = some x) : ∃ A B C, pNames l = some A ∧ pNames b = some B ∧ pNames x = some C ∧ A.length ≤ 3000 ∧ B.length ≤ 3000 ∧ C.length ≤ 3000 ∧ decide (n ∈ C) = (decide (n ∈ A) && decide (n ∈ B)) := by
  obtain ⟨t, u, rfl, hg, hf, rfl, hgu, hfu, rfl, g, f, _⟩ := put_facts h
  refine ⟨names [] t, names [] u, names [] (put t n u), by simp [pNames, parse_text hg hf], by simp [pNames, parse_text hgu hfu], by simp [pNames, parse_text g f], ?_, ?_, ?_, ?_⟩
  · have := (names_facts rfl hg).2.2.1; have := fits_size hf; omega
  · have := (names_facts rfl hgu).2.2.1; have := fits_size hfu; omega
  · have := (names_facts rfl g).2.2.1; have := fits_size f; omega
  · have m1 := (names_facts (t := t) rfl hg).1 n
    have m2 := (names_facts (t := u) rfl hgu).1 n
    have m3 := (names_facts (t := put t n u) rfl g).1 n
    rw [has_put] at m3
    rw [Bool.eq_iff_iff]
    simp only [decide_eq_true_eq, Bool.and_eq_true, m1, m2, m3]
    simp

/-- What is put into what the term comes to. -/
theorem put_ends {l n b x N X a c : List UInt8} {i j m : Nat} (h : pPut l n b = some x) (hN : pNorm l = some (N, i)) (hX : pPut N n b = some X) (ha : pNorm X = some (a, j)) (hb : pNorm x = some (c, m)) : a = c := by
  obtain ⟨t, u, rfl, hg, hf, rfl, hgu, hfu, rfl, g, f, _⟩ := put_facts h
  obtain ⟨v, rfl, sv, nv, gv, fv⟩ := pNorm_text hg hN
  obtain ⟨t', u', e1, hg', _, e2, hgu', _, rfl, g', f', _⟩ := put_facts hX
  have e1' := text_inj gv hg' e1
  have e2' := text_inj hgu hgu' e2
  subst e1'
  subst e2'
  exact (same_end g g' (Star.put n u sv) (.refl _) hb ha).symm
end Tm

theorem names_row_none {w w' : World} {e : Ending} (h : NamesRes w none e w') : ∃ ao cap, e = .returned (.tuple #[.slice ao 0 cap, .bool false]) ∧ After w w' ∧ StrsU 0 w' (.slice ao 0 cap) [] := names_row h
theorem snames_row_none {w w' : World} {e : Ending} (h : SNamesRes w none e w') : ∃ ao cap, e = .returned (.tuple #[.slice ao 0 cap, .bool false]) ∧ After w w' ∧ StrsU 0 w' (.slice ao 0 cap) [] := snames_row h
theorem names_row_some {w w' : World} {e : Ending} {ns : List (List UInt8)} (h : NamesRes w (some ns) e w') : ∃ ao cap, e = .returned (.tuple #[.slice ao ns.length cap, .bool true]) ∧ After w w' ∧ StrsU 0 w' (.slice ao ns.length cap) ns := names_row h
theorem snames_row_some {w w' : World} {e : Ending} {ns : List (List UInt8)} (h : SNamesRes w (some ns) e w') : ∃ ao cap, e = .returned (.tuple #[.slice ao ns.length cap, .bool true]) ∧ After w w' ∧ StrsU 0 w' (.slice ao ns.length cap) ns := snames_row h
theorem StrsU.cutU {B : Nat} {w : World} {b off n cap j : Nat} {ns : List (List UInt8)} (h : StrsU B w (.slice (some ⟨b, off, none⟩) n cap) ns) (hn : ns.length = n) (hj : j < n) : StrsU B w (.slice (some ⟨b, off, none⟩) j cap) (ns.take j) := by
  obtain ⟨ao, c, e, hc⟩ := h
  simp only [Value.slice.injEq] at e
  obtain ⟨rfl, _, rfl⟩ := e
  have hl : (ns.take j).length = j := by simp; omega
  refine ⟨some ⟨b, off, none⟩, cap, by rw [hl], fun i hi => ?_⟩
  rw [hl] at hi
  obtain ⟨b', off', e', hb', hcell⟩ := hc i (by omega)
  refine ⟨b', off', e', ⟨hb'.1, by rw [hl]; omega, hb'.2.2⟩, ?_⟩
  rw [hcell]
  simp only [List.getD, List.getElem?_take, hi, if_true]
theorem StrsU.dropU {B : Nat} {w : World} {b off n cap : Nat} {ns : List (List UInt8)} (h : StrsU B w (.slice (some ⟨b, off, none⟩) n cap) ns) (hn : ns.length = n) (hj : 0 < n) : StrsU B w (.slice (some ⟨b, off + 1, none⟩) (n - 1) (cap - 1)) (ns.drop 1) := by
  obtain ⟨ao, c, e, hc⟩ := h
  simp only [Value.slice.injEq] at e
  obtain ⟨rfl, _, rfl⟩ := e
  have hl : (ns.drop 1).length = n - 1 := by simp; omega
  refine ⟨some ⟨b, off + 1, none⟩, cap - 1, by rw [hl], fun i hi => ?_⟩
  rw [hl] at hi
  obtain ⟨b', off', e', hb', hcell⟩ := hc (i + 1) (by omega)
  simp only [Option.some.injEq, Addr.mk.injEq, and_true] at e'
  obtain ⟨rfl, rfl⟩ := e'
  refine ⟨b, off + 1, rfl, ⟨hb'.1, by rw [hl]; omega, by omega⟩, ?_⟩
  rw [show off + 1 + i = off + (i + 1) by omega, hcell]
  simp only [List.getD, List.getElem?_drop, Nat.add_comm 1 i]
end Go.Proofs.Ytfjohagdlaiapaa
