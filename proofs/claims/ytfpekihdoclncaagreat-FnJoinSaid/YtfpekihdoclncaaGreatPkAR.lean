/-
  The program's patterns are read: leaves.
-/
import Derived.Test.YtfpekihdoclncaaGreatPkAQ
import Derived.Test.YtfpekihdoclncaaGreatPkAL
import Derived.Laws.AppendOwnNone
import Derived.Deep.AppendLies
import Derived.Test.YtfpekihdoclncaaGreatPkAN
namespace Go.Proofs.YtfpekihdoclncaaGreat
open Go.RowKit

set_option maxHeartbeats 2000000
set_option maxRecDepth 100000

/-- A row of terms that the call owns. -/
def RowTV (w : World) (base B : Nat) (sv : Value) (l : List Tm) : Prop :=
  (l = [] ∧ sv = .slice none 0 0) ∨ (l ≠ [] ∧ ∃ vs, w.ownsRow base 33 1 sv l.length vs ∧ ∀ j (h : j < l.length), ∃ v, vs[j]? = some v ∧ TV w B l[j] v)

def RdPost (w : World) (B : Nat) (r : Option (List Tm)) (e : Ending) (w' : World) : Prop :=
  ∃ sv, e = .returned (.tuple #[sv, .bool r.isSome]) ∧ Below w.heap.size w w' ∧ ∀ l, r = some l → RowTV w' w.heap.size B sv l

theorem read_nm (w : World) (B : Nat) (n : List UInt8) (t : Tm) (p v : Value) (hp : PV w (.nm n) p) (h : TV w B t v) (_hB : B ≤ w.heap.size) : Calls Tryz.prog 45 #[p, v] w (RdPost w B (some [t])) := by
  obtain ⟨b, fr, rfl, hh⟩ := hp
  obtain ⟨T, x, rfl, _⟩ := h.asks
  have c0 := cell_of_heap (i := 0) hh
  simp at c0
  have hlit := World.ownsRow_lit (base := w.heap.size) (e := 33) (size := 1) w #[.iface T x] 1 (Nat.le_refl _) (by simp [maxLen]) (by simp)
  have HL := Lib.hid hlit
  have HT := Lib.hid (h.below (below_new w (.cells #[.iface T x] 33)))
  clear h hh hlit
  go_enter Tryz.func45, Tryz.ntmps45
  go_wp2_with fail
  go_ret2
  refine ⟨_, rfl, below_new w _, fun l hl => ?_⟩
  obtain rfl := Option.some.inj hl
  refine Or.inr ⟨by simp, _, HL.out, fun j hj => ?_⟩
  match j, hj with
  | 0, _ => exact ⟨_, rfl, HT.out⟩

theorem read_kk (w : World) (B : Nat) (p v : Value) (hp : PV w .k p) (h : TV w B .k v) : Calls Tryz.prog 45 #[p, v] w (RdPost w B (some [])) := by
  have hc := fun W (hW : Below w.heap.size w W) => atomOf_any W B .k v (h.below hW) rfl
  obtain ⟨b, fr, rfl, hh⟩ := hp
  obtain ⟨bt, frt, rfl, _, _⟩ := h
  have hself := Below.refl w.heap.size w
  have d0 := cell_later' (cell_of_heap (i := 0) hh) w hself
  have c0 := cell_of_heap (i := 0) hh
  have c1 := cell_later' (cell_of_heap (i := 1) hh)
  have c2 := cell_later' (cell_of_heap (i := 2) hh)
  simp at c0 c1 c2
  have ha := assert_k
  rw [show atV .k = .agg #[.int .u8 107, str []] from rfl] at hc
  clear hh d0
  go_enter Tryz.func45, Tryz.ntmps45
  go_wp2_with fail
  go_region_held3 (fun W' => Below w.heap.size w W') (first | assumption | exact hself.drew | exact below_alloc (by assumption) _ | go_keep)
    (first
      | (go_at_call 63; refine (hc _ (by first | assumption | exact hself.drew)).mono ?_; rintro e w1 ⟨rfl, hb1⟩; have hb1' := below_trans (by first | assumption | exact hself.drew) hb1))
  all_goals
    have hax := ha w1 (.pointer (some ⟨bt, 0, none⟩))
    go_wp2_with fail
    go_ret2
    exact ⟨_, rfl, hb1', fun l hl => by obtain rfl := Option.some.inj hl; exact Or.inl ⟨rfl, rfl⟩⟩

theorem read_ss (w : World) (B : Nat) (p v : Value) (hp : PV w .s p) (h : TV w B .s v) : Calls Tryz.prog 45 #[p, v] w (RdPost w B (some [])) := by
  have hc := fun W (hW : Below w.heap.size w W) => atomOf_any W B .s v (h.below hW) rfl
  obtain ⟨b, fr, rfl, hh⟩ := hp
  obtain ⟨bt, frt, rfl, _, _⟩ := h
  have hself := Below.refl w.heap.size w
  have c0 := cell_of_heap (i := 0) hh
  have c1 := cell_later' (cell_of_heap (i := 1) hh)
  have c2 := cell_later' (cell_of_heap (i := 2) hh)
  simp at c0 c1 c2
  have ha := assert_s
  rw [show atV .s = .agg #[.int .u8 115, str []] from rfl] at hc
  clear hh
  go_enter Tryz.func45, Tryz.ntmps45
  go_wp2_with fail
  go_region_held3 (fun W' => Below w.heap.size w W') (first | assumption | exact hself.drew | exact below_alloc (by assumption) _ | go_keep)
    (first
      | (go_at_call 63; refine (hc _ (by first | assumption | exact hself.drew)).mono ?_; rintro e w1 ⟨rfl, hb1⟩; have hb1' := below_trans (by first | assumption | exact hself.drew) hb1))
  all_goals
    have hax := ha w1 (.pointer (some ⟨bt, 0, none⟩))
    go_wp2_with fail
    go_ret2
    exact ⟨_, rfl, hb1', fun l hl => by obtain rfl := Option.some.inj hl; exact Or.inl ⟨rfl, rfl⟩⟩

/-- Atoms that differ. -/
theorem read_ne (w : World) (B b : Nat) (a y : Int) (d : List UInt8) (vf va v : Value) (fr : Nat × Nat) (t : Tm) (h : TV w B t v) (hg : t.good = true) (hh : w.heap[b]? = some (.cells #[.bool false, .int .u8 a, str [], vf, va] 118 fr)) (hy : atV t = .agg #[.int .u8 y, str d]) (hne : a ≠ y) : Calls Tryz.prog 45 #[.pointer (some ⟨b, 0, none⟩), v] w (RdPost w B none) := by
  have hc := fun W (hW : Below w.heap.size w W) => atomOf_any W B t v (h.below hW) hg
  rw [hy] at hc
  obtain ⟨T, x, rfl, _⟩ := h.asks
  have hself := Below.refl w.heap.size w
  have c0 := cell_of_heap (i := 0) hh
  have c1 := cell_later' (cell_of_heap (i := 1) hh)
  have c2 := cell_later' (cell_of_heap (i := 2) hh)
  simp at c0 c1 c2
  have hne1 : (a == y) = false := beq_eq_false_iff_ne.2 hne
  clear hh h hy
  go_enter Tryz.func45, Tryz.ntmps45
  go_wp2_with fail
  go_region_held3 (fun W' => Below w.heap.size w W') (first | assumption | exact hself.drew | exact below_alloc (by assumption) _ | go_keep)
    (first
      | (go_at_call 63; refine (hc _ (by first | assumption | exact hself.drew)).mono ?_; rintro e w1 ⟨rfl, hb1⟩; have hb1' := below_trans (by first | assumption | exact hself.drew) hb1))
  all_goals
    go_wp2_with fail
    go_ret2
    exact ⟨_, rfl, hb1', fun l hl => by cases hl⟩

/-- The letter of an atom, as a number. -/
def lett : Tm → Nat
  | .k => 107
  | .s => 115
  | .nm n => (n.headD 0).toNat
  | .app _ _ => 0
theorem atV_lett (t : Tm) : ∃ d, atV t = .agg #[.int .u8 (lett t : Nat), str d] := by
  cases t with
  | k => exact ⟨[], rfl⟩
  | s => exact ⟨[], rfl⟩
  | nm n => exact ⟨_, rfl⟩
  | app f a => exact ⟨[], rfl⟩
theorem lett_nm {n : List UInt8} (h : Tm.nameOk n = true) : 117 ≤ lett (.nm n) := by
  cases n with
  | nil => simp [Tm.nameOk] at h
  | cons c l =>
    simp only [Tm.nameOk, Tm.lead, Bool.and_eq_true, decide_eq_true_eq] at h
    have := h.1.1.1
    simp only [lett, List.headD_cons]
    exact UInt8.le_iff_toNat_le.1 this

theorem read_no {w : World} {B b a : Nat} {vf va v : Value} {fr : Nat × Nat} {t : Tm} (h : TV w B t v) (hg : t.good = true) (hh : w.heap[b]? = some (.cells #[.bool false, .int .u8 (a : Nat), str [], vf, va] 118 fr)) (hne : a ≠ lett t) : Calls Tryz.prog 45 #[.pointer (some ⟨b, 0, none⟩), v] w (RdPost w B none) := by
  obtain ⟨d, hd⟩ := atV_lett t
  exact read_ne w B b a (lett t) d vf va v fr t h hg hh hd (by omega)
end Go.Proofs.YtfpekihdoclncaaGreat

namespace Go.Proofs.YtfpekihdoclncaaGreat
open Go.RowKit

set_option maxHeartbeats 2000000
set_option maxRecDepth 100000

theorem RowTV.own {w : World} {base B : Nat} {sv : Value} {l : List Tm} (h : RowTV w base B sv l) : ∃ vs, w.ownsRow base 33 1 sv l.length vs ∧ ∀ j (h : j < l.length), ∃ v, vs[j]? = some v ∧ TV w B l[j] v := by
  rcases h with ⟨rfl, rfl⟩ | ⟨_, h⟩
  · exact ⟨[], World.ownsRow_nil _ _ _ _, fun j hj => absurd hj (by simp)⟩
  · exact h
theorem row_later {w W : World} {base : Nat} {sv : Value} {n : Nat} {vs : List Value} (h : w.ownsRow base 33 1 sv n vs) (hb : Below w.heap.size w W) : W.ownsRow base 33 1 sv n vs :=
  h.kept (row := none) ⟨hb.os, hb.tape, hb.output, hb.size, fun k hk _ => hb.block k hk⟩ (by
    cases hv : sv.ownBlock with
    | none => exact Or.inl rfl
    | some g => exact Or.inr (fun e => by cases e))
theorem row_base {w : World} {B B' n : Nat} {v : Value} {xs : List Value} (h : w.ownsRow B 33 1 v n xs) (hB : B' ≤ B) : w.ownsRow B' 33 1 v n xs := by
  refine ⟨h.1, ?_⟩
  rcases h.2 with h | ⟨g, cap, cur, e, hg, hr⟩
  · exact Or.inl h
  · exact Or.inr ⟨g, cap, cur, e, Nat.le_trans hB hg, hr⟩
theorem row_form {w : World} {base n : Nat} {v : Value} {xs : List Value} (h : w.ownsRow base 33 1 v n xs) : ∃ ao cap, v = .slice ao n cap := by
  rcases h.2 with ⟨rfl, rfl⟩ | ⟨g, cap, cur, rfl, _⟩
  · exact ⟨_, _, rfl⟩
  · exact ⟨_, _, rfl⟩
/-- Terms live through a growing row. -/
theorem TV.row {w W : World} {base n B : Nat} {sv : Value} {vs : List Value} (ho : w.ownsRow base 33 1 sv n vs) (hg : w.grownBy W sv.ownBlock) {t : Tm} {v : Value} (h : TV w B t v) : TV W B t v :=
  h.keptCells fun b cs T fr hT _ hb => by
    rw [hg.block b (Array.getElem?_eq_some_iff.1 hb).1 (fun e => by
      rcases ho.2 with ⟨rfl, _⟩ | ⟨g, cap, cur, rfl, _, hh, _⟩
      · cases e
      · injection e with e
        subst e
        rw [hb] at hh
        injection hh with hh
        injection hh with _ hh _
        exact hT hh)]
    exact hb

theorem info_termP : (Tryz.prog.info? 33).map (fun i => (i.zero, i.size, i.bytes)) = some (some .nilIface, 1, 16) := by kernel_rfl

theorem RdPost.own {w : World} {B : Nat} {l : List Tm} {e : Ending} {w' : World} (h : RdPost w B (some l) e w') : ∃ ao cap vs, e = .returned (.tuple #[.slice ao l.length cap, .bool true]) ∧ Below w.heap.size w w' ∧ w'.ownsRow w.heap.size 33 1 (.slice ao l.length cap) l.length vs ∧ (∀ j (h : j < l.length), ∃ v, vs[j]? = some v ∧ TV w' B l[j] v) ∧ (l = [] → ao = none ∧ cap = 0) := by
  obtain ⟨sv, rfl, hb, hr⟩ := h
  have h0 := hr l rfl
  obtain ⟨vs, ho, he⟩ := RowTV.own h0
  obtain ⟨ao, cap, rfl⟩ := row_form ho
  refine ⟨ao, cap, vs, rfl, hb, ho, he, fun hl => ?_⟩
  rcases h0 with ⟨_, h⟩ | ⟨h, _⟩
  · injection h with h1 h2 h3
    exact ⟨h1, h3⟩
  · exact absurd hl h
theorem elems_append {W : World} {B : Nat} {xs ys : List Tm} {vs us : List Value} (hl : vs.length = xs.length) (e1 : ∀ j (h : j < xs.length), ∃ v, vs[j]? = some v ∧ TV W B xs[j] v) (e2 : ∀ j (h : j < ys.length), ∃ v, us[j]? = some v ∧ TV W B ys[j] v) :
    ∀ j (h : j < (xs ++ ys).length), ∃ v, (vs ++ us)[j]? = some v ∧ TV W B (xs ++ ys)[j] v := by
  intro j h
  by_cases hj : j < xs.length
  · obtain ⟨v, h1, h2⟩ := e1 j hj
    refine ⟨v, ?_, ?_⟩
    · rw [List.getElem?_append_left (by omega)]; exact h1
    · rw [List.getElem_append_left hj]; exact h2
  · rw [List.length_append] at h
    obtain ⟨v, h1, h2⟩ := e2 (j - xs.length) (by omega)
    refine ⟨v, ?_, ?_⟩
    · rw [List.getElem?_append_right (by omega), hl]; exact h1
    · rw [List.getElem_append_right (by omega)]; exact h2

theorem mt_len : ∀ (u t : Tm) (l : List Tm), Tm.mt u t = some l → l.length ≤ u.size
  | .nm _, t, l, h => by simp only [Tm.mt] at h; obtain rfl := Option.some.inj h; simp [Tm.size]
  | .k, t, l, h => by cases t <;> simp [Tm.mt] at h; subst h; simp
  | .s, t, l, h => by cases t <;> simp [Tm.mt] at h; subst h; simp
  | .app f a, t, l, h => by
    cases t with
    | app g b =>
      simp only [Tm.mt, Option.bind_eq_some_iff] at h
      obtain ⟨xs, h1, ys, h2, h3⟩ := h
      obtain rfl := Option.some.inj h3
      have := mt_len f g xs h1
      have := mt_len a b ys h2
      simp only [List.length_append, Tm.size]
      omega
    | k => simp [Tm.mt] at h
    | s => simp [Tm.mt] at h
    | nm n => simp [Tm.mt] at h

theorem read_app (w : World) (B : Nat) (f a g b' : Tm) (p v : Value) (hp : PV w (.app f a) p) (h : TV w B (.app g b') v) (hz : f.size + a.size ≤ 1000)
    (ihf : ∀ {W : World} {p v : Value}, PV W f p → TV W B g v → B ≤ W.heap.size → Calls Tryz.prog 45 #[p, v] W (RdPost W B (Tm.mt f g)))
    (iha : ∀ {W : World} {p v : Value}, PV W a p → TV W B b' v → B ≤ W.heap.size → Calls Tryz.prog 45 #[p, v] W (RdPost W B (Tm.mt a b'))) (hgd : (Tm.app g b').good = true) (hB : B ≤ w.heap.size) :
    Calls Tryz.prog 45 #[p, v] w (RdPost w B (Tm.mt (.app f a) (.app g b'))) := by
  have hc := fun W (hW : Below w.heap.size w W) => atomOf_any W B (.app g b') v (h.below hW) hgd
  rw [show atV (.app g b') = .agg #[.int .u8 0, str []] from rfl] at hc
  obtain ⟨b, fr, vf, va, rfl, hh, hpf, hpa⟩ := hp
  obtain ⟨qf, rfl⟩ := hpf.form
  obtain ⟨qa, rfl⟩ := hpa.form
  obtain ⟨bt, frt, vg, vb, rfl, _, hht, htg, htb⟩ := h
  obtain ⟨T1, x1, rfl, _⟩ := htg.asks
  obtain ⟨T2, x2, rfl, _⟩ := htb.asks
  have hself := Below.refl w.heap.size w
  have c0 := cell_of_heap (i := 0) hh
  have c1 := cell_later' (cell_of_heap (i := 1) hh)
  have c2 := cell_later' (cell_of_heap (i := 2) hh)
  have c3 := cell_later' (cell_of_heap (i := 3) hh)
  have c4 := cell_later' (cell_of_heap (i := 4) hh)
  have d0 := cell_later' (cell_of_heap (i := 0) hht)
  have d1 := cell_later' (cell_of_heap (i := 1) hht)
  simp at c0 c1 c2 c3 c4 d0 d1
  have ha := assert_app
  have hcf := fun W (hW : Below w.heap.size w W) => ihf (hpf.below hW) (htg.below hW) (Nat.le_trans hB hW.size)
  have hca := fun W (hW : Below w.heap.size w W) => iha (hpa.below hW) (htb.below hW) (Nat.le_trans hB hW.size)
  unfold RdPost at hcf hca
  have hsz : w.heap.size ≤ w.heap.size := Nat.le_refl _
  clear hh hht hpf hpa htg htb ihf iha
  cases hf : Tm.mt f g with
  | none =>
    rw [show Tm.mt (.app f a) (.app g b') = none by simp [Tm.mt, hf]]
    simp only [hf] at hcf
    clear hf hca
    go_enter Tryz.func45, Tryz.ntmps45
    go_wp2_with fail
    go_region_held3 (fun W' => Below w.heap.size w W') (first | assumption | exact hself.drew | exact below_alloc (by assumption) _ | go_keep)
      (first
        | (go_at_call 63; refine (hc _ (by first | assumption | exact hself.drew)).mono ?_; rintro e w1 ⟨rfl, hb1⟩; have hb1' := below_trans (by first | assumption | exact hself.drew) hb1))
    all_goals
      have hax := ha w1 (.pointer (some ⟨bt, 0, none⟩))
      have hb1d := hb1'.drew
      go_wp2_with fail
      go_region_held3 (fun W' => Below w.heap.size w W') (first | assumption | exact hb1d | exact below_alloc (by assumption) _ | go_keep)
        (first
          | (go_at_call 45; refine (hcf _ (by first | assumption | exact hb1d)).mono ?_; rintro e w2 ⟨s2, rfl, hb2, hr2⟩; clear hr2; have hb2' := below_trans (by first | assumption | exact hb1d) hb2))
      all_goals
        go_wp2_with fail
        go_ret2
        exact ⟨_, rfl, hb2', fun l hl => by cases hl⟩
  | some xs =>
    have hx := mt_len f g xs hf
    simp only [hf] at hcf
    cases hm : Tm.mt a b' with
    | none =>
      rw [show Tm.mt (.app f a) (.app g b') = none by simp [Tm.mt, hf, hm]]
      simp only [hm] at hca
      clear hf hm
      go_enter Tryz.func45, Tryz.ntmps45
      go_wp2_with fail
      go_region_held3 (fun W' => Below w.heap.size w W') (first | assumption | exact hself.drew | exact below_alloc (by assumption) _ | go_keep)
        (first
          | (go_at_call 63; refine (hc _ (by first | assumption | exact hself.drew)).mono ?_; rintro e w1 ⟨rfl, hb1⟩; have hb1' := below_trans (by first | assumption | exact hself.drew) hb1))
      all_goals
        have hax := ha w1 (.pointer (some ⟨bt, 0, none⟩))
        have hb1d := hb1'.drew
        go_wp2_with fail
        go_region_held3 (fun W' => Below w.heap.size w W') (first | assumption | exact hb1d | exact below_alloc (by assumption) _ | go_keep)
          (first
            | (go_at_call 45; refine (hcf _ (by first | assumption | exact hb1d)).mono ?_; rintro e w2 ⟨s2, rfl, hb2, hr2⟩; clear hr2; have hb2' := below_trans (by first | assumption | exact hb1d) hb2))
        all_goals
          have hb2d := hb2'.drew
          go_wp2_with fail
          go_region_held3 (fun W' => Below w.heap.size w W') (first | assumption | exact hb2d | exact below_alloc (by assumption) _ | go_keep)
            (first
              | (go_at_call 45; refine (hca _ (by first | assumption | exact hb2d)).mono ?_; rintro e w3 ⟨s3, rfl, hb3, hr3⟩; clear hr3; have hb3' := below_trans (by first | assumption | exact hb2d) hb3))
          all_goals
            go_wp2_with fail
            go_ret2
            exact ⟨_, rfl, hb3', fun l hl => by cases hl⟩
    | some ys =>
      have hy := mt_len a b' ys hm
      rw [show Tm.mt (.app f a) (.app g b') = some (xs ++ ys) by simp [Tm.mt, hf, hm]]
      simp only [hm] at hca
      clear hf hm
      obtain ⟨i0, hi0, hz0, hz1, hz2⟩ := info_parts info_termP
      have hun : Tryz.prog.underlying 94 = some (.slice 33) := by kernel_rfl
      have hcf2 := fun W (hW : Below w.heap.size w W) => (hcf W hW).mono (fun e w' h => RdPost.own h)
      have hca2 := fun W (hW : Below w.heap.size w W) => (hca W hW).mono (fun e w' h => RdPost.own h)
      clear hcf hca
      go_enter Tryz.func45, Tryz.ntmps45
      go_wp2_with fail
      go_region_held3 (fun W' => Below w.heap.size w W') (first | assumption | exact hself.drew | exact below_alloc (by assumption) _ | go_keep)
        (first
          | (go_at_call 63; refine (hc _ (by first | assumption | exact hself.drew)).mono ?_; rintro e w1 ⟨rfl, hb1⟩; have hb1' := below_trans (by first | assumption | exact hself.drew) hb1))
      all_goals
        have hax := ha w1 (.pointer (some ⟨bt, 0, none⟩))
        have hb1d := hb1'.drew
        have hs1 : w.heap.size ≤ w1.heap.size := hb1'.size
        go_wp2_with fail
        go_region_held3 (fun W' => Below w.heap.size w W') (first | assumption | exact hb1d | exact below_alloc (by assumption) _ | go_keep)
          (first
            | (go_at_call 45; refine (hcf2 _ (by first | assumption | exact hb1d)).mono ?_; rintro e w2 ⟨ao2, ac2, vs2, rfl, hb2, ho2, he2, hn2⟩; have HN2 := Lib.hid hn2; have HR2 := Lib.hid (row_base ho2 (B' := w.heap.size) (by first | exact hb1d.size | exact hb1'.size)); have HE2 := Lib.hid he2; clear ho2 he2 hn2; have hb2' := below_trans (by first | assumption | exact hb1d) hb2))
        all_goals
          have hb2d := hb2'.drew
          go_wp2_with fail
          go_region_held3 (fun W' => Below w.heap.size w W') (first | assumption | exact hb2d | exact below_alloc (by assumption) _ | go_keep)
            (first
              | (go_at_call 45; refine (hca2 _ (by first | assumption | exact hb2d)).mono ?_; rintro e w3 ⟨ao3, ac3, vs3, rfl, hb3, ho3, he3, hn3⟩; have HN3 := Lib.hid hn3; have HR3 := Lib.hid ho3; have HE3 := Lib.hid he3; clear ho3 he3 hn3; have hb3' := below_trans (by first | assumption | exact hb2d) hb3))
          all_goals
            have HR2' := Lib.hid (row_later (row_later HR2.out (Below.refl _ _).drew) hb3)
            have HE2' := Lib.hid (fun j (h : j < xs.length) => (HE2.out j h).imp fun v hv => (⟨hv.1, (hv.2.below (Below.refl _ _).drew).below hb3⟩ : vs2[j]? = some v ∧ TV w3 B xs[j] v))
            clear HR2 HE2
            have hl2 := HR2'.out.1
            have hl3 := HR3.out.1
            cases ys with
            | nil =>
              obtain ⟨rfl, rfl⟩ := HN3.out rfl
              go_wp2_with (at_builtin; refine wpList_append_own_none (by rfl) _ _ 94 (by rfl) w.heap.size 33 i0 1 hun hi0 _ _ _ (by rfl) HR2'.out (by rfl) ?_)
              go_ret2
              refine ⟨_, rfl, hb3', fun l hl => ?_⟩
              obtain rfl := Option.some.inj hl
              try rw [List.append_nil]
              by_cases hxe : xs = []
              · obtain ⟨rfl, rfl⟩ := HN2.out hxe
                subst hxe
                exact Or.inl ⟨rfl, rfl⟩
              · exact Or.inr ⟨hxe, vs2, HR2'.out, HE2'.out⟩
            | cons y ys' =>
              obtain ⟨g3, q3, e3, hbg, hgl⟩ := HR3.out.form (by simp)
              injection e3 with e3 _ e4
              subst e3
              subst e4
              have hnews := HR3.out.cells (g := g3) rfl
              have hone : ∀ u ∈ vs3, u.oneCell' = true := fun u hu => by
                obtain ⟨k, hk, rfl⟩ := List.getElem_of_mem hu
                obtain ⟨v, hv, ht⟩ := HE3.out k (by omega)
                rw [List.getElem?_eq_getElem hk] at hv
                obtain rfl := Option.some.inj hv
                obtain ⟨T, x, e, _⟩ := ht.asks
                rw [e]
                rfl
              have hm : 0 < (y :: ys').length := by simp
              have hlen : xs.length + (y :: ys').length ≤ 1000 := by omega
              go_wp2_with (at_builtin; refine wpList_append_lies _ (by rfl) _ _ 94 (by rfl) w.heap.size 33 i0 .nilIface 1 16 hun hi0 hz0 hz1 hz2 rfl (by decide) _ _ _ (by rfl) HR2'.out ⟨g3, 0, none⟩ _ _ vs3 (by rfl) hl3 hnews hone hm (by unfold maxLen; omega) (by omega) hb3'.size _ rfl ?_; intro g4 q4 w4 ho4 hg4 _ hlt4; have HO4 := Lib.hid ho4; have HG4 := Lib.hid hg4; clear ho4 hg4)
              go_ret2
              refine ⟨_, rfl, hb3'.grown HG4.out hb3'.size (fun k hk => (HR2'.out.lt k hk).1), fun l hl => ?_⟩
              obtain rfl := Option.some.inj hl
              refine Or.inr ⟨by simp, vs2 ++ vs3, by rw [List.length_append]; exact HO4.out, elems_append (by omega) (fun j h => (HE2'.out j h).imp fun v hv => ⟨hv.1, hv.2.row HR2'.out HG4.out⟩) (fun j h => (HE3.out j h).imp fun v hv => ⟨hv.1, hv.2.row HR2'.out HG4.out⟩)⟩

theorem pat_any : ∀ {u t : Tm} {w : World} {B : Nat} {p v : Value}, PV w u p → TV w B t v → t.good = true → B ≤ w.heap.size → u.size ≤ 1000 → Calls Tryz.prog 45 #[p, v] w (RdPost w B (Tm.mt u t)) := by
  intro u
  induction u with
  | nm n =>
    intro t w B p v hp h hg hB _
    exact read_nm w B n t p v hp h hB
  | k =>
    intro t w B p v hp h hg hB _
    cases t with
    | k => exact read_kk w B p v hp h
    | s => obtain ⟨b, fr, rfl, hh⟩ := hp; exact read_no (a := 107) h hg hh (by simp [lett])
    | nm n => obtain ⟨b, fr, rfl, hh⟩ := hp; exact read_no (a := 107) h hg hh (by have := lett_nm (n := n) hg; omega)
    | app f a => obtain ⟨b, fr, rfl, hh⟩ := hp; exact read_no (a := 107) h hg hh (by simp [lett])
  | s =>
    intro t w B p v hp h hg hB _
    cases t with
    | k => obtain ⟨b, fr, rfl, hh⟩ := hp; exact read_no (a := 115) h hg hh (by simp [lett])
    | s => exact read_ss w B p v hp h
    | nm n => obtain ⟨b, fr, rfl, hh⟩ := hp; exact read_no (a := 115) h hg hh (by have := lett_nm (n := n) hg; omega)
    | app f a => obtain ⟨b, fr, rfl, hh⟩ := hp; exact read_no (a := 115) h hg hh (by simp [lett])
  | app f a ihf iha =>
    intro t w B p v hp h hg hB hz
    simp only [Tm.size] at hz
    cases t with
    | k => obtain ⟨b, fr, vf, va, rfl, hh, _⟩ := hp; exact read_no (a := 0) h hg hh (by simp [lett])
    | s => obtain ⟨b, fr, vf, va, rfl, hh, _⟩ := hp; exact read_no (a := 0) h hg hh (by simp [lett])
    | nm n => obtain ⟨b, fr, vf, va, rfl, hh, _⟩ := hp; exact read_no (a := 0) h hg hh (by have := lett_nm (n := n) hg; omega)
    | app g b' =>
      have hg' := hg
      simp only [Tm.good, Bool.and_eq_true] at hg'
      have z1 := Tm.size_pos f
      have z2 := Tm.size_pos a
      exact read_app w B f a g b' p v hp h (by omega) (fun hp ht hB => ihf hp ht hg'.1 hB (by omega)) (fun hp ht hB => iha hp ht hg'.2 hB (by omega)) hg hB
end Go.Proofs.YtfpekihdoclncaaGreat

namespace Go.Proofs.YtfpekihdoclncaaGreat
open Go.RowKit

set_option maxHeartbeats 1000000
set_option maxRecDepth 100000

theorem normalFitting_any (w : World) (B : Nat) (T : Tm) (v3 : Value) (hT : TV w B T v3) (hB : B ≤ w.heap.size) :
    Calls Tryz.prog 30 #[v3] w (DataPost w B (Tm.endOf T)) := by
  have hfit := fits_any w _ _ v3 hT
  rw [Tm.endOf_eq]
  cases hfa : T.fits with
  | false =>
    simp only [Bool.false_eq_true, if_false]
    rw [hfa] at hfit
    clear hT
    go_enter Tryz.func30, Tryz.ntmps30
    go_wp2_with (go_at_call 29; refine hfit.mono ?_; rintro e w4 ⟨rfl, hb4⟩)
    go_ret2
    exact ⟨_, rfl, hb4, fun t h => by cases h⟩
  | true =>
    have hnorm := fun W v h hB => normalTerm_any W B T v h hB hfa
    unfold NormPost at hnorm
    simp only [if_true]
    generalize hmm : T.many 6000 = mm at *
    clear hmm
    obtain ⟨x, c⟩ := mm
    simp only at hnorm ⊢
    generalize hb : x.normal = b at *
    rw [hfa] at hfit
    clear hb hfa
    have hpost : ∀ W v, Below w.heap.size w W → TV W B x v → DataPost w B (if b = true then some x else none) (.returned (.tuple #[v, .bool b])) W := fun W v hb' ht => by
      cases b with
      | true => exact ⟨_, rfl, hb', fun t' h => by obtain rfl := Option.some.inj h; exact ht⟩
      | false => exact ⟨_, rfl, hb', fun t' h => by cases h⟩
    generalize (if b = true then some x else none) = R at hpost ⊢
    have HPOST := Lib.hid hpost
    have HV3 := Lib.hid hT
    clear hpost hT
    go_enter Tryz.func30, Tryz.ntmps30
    go_wp2_with (go_at_call 29; refine hfit.mono ?_; rintro e w4 ⟨rfl, hb4⟩)
    have hcall2 := hnorm w4 v3 (HV3.out.below hb4) (Nat.le_trans hB hb4.size)
    clear hnorm hfit
    refine hcall2.mono ?_
    rintro e w6 ⟨v6, rfl, hb6, hv6⟩
    have HV6 := Lib.hid hv6
    clear hv6 hcall2
    go_wp2_with fail
    go_ret2
    exact HPOST.out _ _ (below_trans hb4 hb6) HV6.out

theorem applyNormal_any (w : World) (B : Nat) (f a : Tm) (vf va : Value) (hf : TV w B f vf) (ha : TV w B a va) (hB : B ≤ w.heap.size) (hz : f.size + a.size ≤ 1000000000) :
    Calls Tryz.prog 12 #[vf, va] w (DataPost w B (Tm.endOf (.app f a))) := by
  have happ := apply_any w B f a vf va hf ha hB (by omega)
  clear hf ha
  go_enter Tryz.func12, Tryz.ntmps12
  go_wp2_with fail
  refine happ.mono ?_
  rintro e w2 ⟨v3, rfl, hb2, hv3⟩
  have hcall := normalFitting_any w2 B _ v3 hv3 (Nat.le_trans hB hb2.size)
  unfold DataPost at hcall
  clear hv3 happ
  go_wp2_with fail
  refine hcall.mono ?_
  rintro e w4 ⟨v4, rfl, hb4, hv4⟩
  have HV := Lib.hid hv4
  clear hv4 hcall
  generalize Tm.endOf (.app f a) = R at *
  go_wp2_with fail
  go_ret2
  exact ⟨_, rfl, below_trans hb2 hb4, HV.out⟩
end Go.Proofs.YtfpekihdoclncaaGreat
