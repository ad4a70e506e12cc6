/-
  The program's patterns are read: applications; every pattern.
-/
import Derived.Test.YtfpekihdoclncaaPkBD
import Derived.Test.YtfpekihdoclncaaPkAN
import Derived.Laws.AppendOwnNone
import Derived.Deep.AppendLies
import Derived.Test.YtfpekihdoclncaaPkAZ
import Derived.Test.YtfpekihdoclncaaPkAP
import Derived.Test.YtfpekihdoclncaaPkAM
namespace Go.Proofs.Ytfpekihdoclncaa
open Go.RowKit

set_option maxHeartbeats 2000000
set_option maxRecDepth 100000

theorem RowTV.own {w : World} {base B : Nat} {sv : Value} {l : List Tm} (h : RowTV w base B sv l) : ∃ vs, w.ownsRow base 39 1 sv l.length vs ∧ ∀ j (h : j < l.length), ∃ v, vs[j]? = some v ∧ TV w B l[j] v := by
  rcases h with ⟨rfl, rfl⟩ | ⟨_, h⟩
  · exact ⟨[], World.ownsRow_nil _ _ _ _, fun j hj => absurd hj (by simp)⟩
  · exact h
theorem row_later {w W : World} {base : Nat} {sv : Value} {n : Nat} {vs : List Value} (h : w.ownsRow base 39 1 sv n vs) (hb : Below w.heap.size w W) : W.ownsRow base 39 1 sv n vs :=
  h.kept (row := none) ⟨hb.os, hb.tape, hb.output, hb.size, fun k hk _ => hb.block k hk⟩ (by
    cases hv : sv.ownBlock with
    | none => exact Or.inl rfl
    | some g => exact Or.inr (fun e => by cases e))
theorem row_base {w : World} {B B' n : Nat} {v : Value} {xs : List Value} (h : w.ownsRow B 39 1 v n xs) (hB : B' ≤ B) : w.ownsRow B' 39 1 v n xs := by
  refine ⟨h.1, ?_⟩
  rcases h.2 with h | ⟨g, cap, cur, e, hg, hr⟩
  · exact Or.inl h
  · exact Or.inr ⟨g, cap, cur, e, Nat.le_trans hB hg, hr⟩
theorem row_form {w : World} {base n : Nat} {v : Value} {xs : List Value} (h : w.ownsRow base 39 1 v n xs) : ∃ ao cap, v = .slice ao n cap := by
  rcases h.2 with ⟨rfl, rfl⟩ | ⟨g, cap, cur, rfl, _⟩
  · exact ⟨_, _, rfl⟩
  · exact ⟨_, _, rfl⟩
/-- Terms live through a growing row. -/
theorem TV.row {w W : World} {base n B : Nat} {sv : Value} {vs : List Value} (ho : w.ownsRow base 39 1 sv n vs) (hg : w.grownBy W sv.ownBlock) {t : Tm} {v : Value} (h : TV w B t v) : TV W B t v :=
  h.keptCells fun b cs T fr hT _ hb => by
    rw [hg.block b (Array.getElem?_eq_some_iff.1 hb).1 (fun e => by
      rcases ho.2 with ⟨rfl, _⟩ | ⟨g, cap, cur, rfl, _, hh, _⟩
      · cases e
      · injection e with e
        subst e
        rw [hb] at hh
        injection hh with hh
        injection hh with _ hh _
        exact hT hh)]
    exact hb

theorem info_termP : (Try.prog.info? 39).map (fun i => (i.zero, i.size, i.bytes)) = some (some .nilIface, 1, 16) := by kernel_rfl

theorem RdPost.own {w : World} {B : Nat} {l : List Tm} {e : Ending} {w' : World} (h : RdPost w B (some l) e w') : ∃ ao cap vs, e = .returned (.tuple #[.slice ao l.length cap, .bool true]) ∧ Below w.heap.size w w' ∧ w'.ownsRow w.heap.size 39 1 (.slice ao l.length cap) l.length vs ∧ (∀ j (h : j < l.length), ∃ v, vs[j]? = some v ∧ TV w' B l[j] v) ∧ (l = [] → ao = none ∧ cap = 0) := by
  obtain ⟨sv, rfl, hb, hr⟩ := h
  have h0 := hr l rfl
  obtain ⟨vs, ho, he⟩ := RowTV.own h0
  obtain ⟨ao, cap, rfl⟩ := row_form ho
  refine ⟨ao, cap, vs, rfl, hb, ho, he, fun hl => ?_⟩
  rcases h0 with ⟨_, h⟩ | ⟨h, _⟩
  · injection h with h1 h2 h3
    exact ⟨h1, h3⟩
  · exact absurd hl h
theorem elems_append {W : World} {B : Nat} {xs ys : List Tm} {vs us : List Value} (hl : vs.length = xs.length) (e1 : ∀ j (h : j < xs.length), ∃ v, vs[j]? = some v ∧ TV W B xs[j] v) (e2 : ∀ j (h : j < ys.length), ∃ v, us[j]? = some v ∧ TV W B ys[j] v) :
    ∀ j (h : j < (xs ++ ys).length), ∃ v, (vs ++ us)[j]? = some v ∧ TV W B (xs ++ ys)[j] v := by
  intro j h
  by_cases hj : j < xs.length
  · obtain ⟨v, h1, h2⟩ := e1 j hj
    refine ⟨v, ?_, ?_⟩
    · rw [List.getElem?_append_left (by omega)]; exact h1
    · rw [List.getElem_append_left hj]; exact h2
  · rw [List.length_append] at h
    obtain ⟨v, h1, h2⟩ := e2 (j - xs.length) (by omega)
    refine ⟨v, ?_, ?_⟩
    · rw [List.getElem?_append_right (by omega), hl]; exact h1
    · rw [List.getElem_append_right (by omega)]; exact h2

theorem mt_len : ∀ (u t : Tm) (l : List Tm), Tm.mt u t = some l → l.length ≤ u.size
  | .nm _, t, l, h => by simp only [Tm.mt] at h; obtain rfl := Option.some.inj h; simp [Tm.size]
  | .k, t, l, h => by cases t <;> simp [Tm.mt] at h; subst h; simp
  | .s, t, l, h => by cases t <;> simp [Tm.mt] at h; subst h; simp
  | .app f a, t, l, h => by
    cases t with
    | app g b =>
      simp only [Tm.mt, Option.bind_eq_some_iff] at h
      obtain ⟨xs, h1, ys, h2, h3⟩ := h
      obtain rfl := Option.some.inj h3
      have := mt_len f g xs h1
      have := mt_len a b ys h2
      simp only [List.length_append, Tm.size]
      omega
    | k => simp [Tm.mt] at h
    | s => simp [Tm.mt] at h
    | nm n => simp [Tm.mt] at h

theorem read_app (w : World) (B : Nat) (f a g b' : Tm) (p v : Value) (hp : PV w (.app f a) p) (h : TV w B (.app g b') v) (hz : f.size + a.size ≤ 1000)
    (ihf : ∀ {W : World} {p v : Value}, PV W f p → TV W B g v → B ≤ W.heap.size → Calls Try.prog 76 #[p, v] W (RdPost W B (Tm.mt f g)))
    (iha : ∀ {W : World} {p v : Value}, PV W a p → TV W B b' v → B ≤ W.heap.size → Calls Try.prog 76 #[p, v] W (RdPost W B (Tm.mt a b'))) (hgd : (Tm.app g b').good = true) (hB : B ≤ w.heap.size) :
    Calls Try.prog 76 #[p, v] w (RdPost w B (Tm.mt (.app f a) (.app g b'))) := by
  have hc := fun W (hW : Below w.heap.size w W) => atomOf_any W B (.app g b') v (h.below hW) hgd
  rw [show atV (.app g b') = .agg #[.int .u8 0, str []] from rfl] at hc
  obtain ⟨b, fr, vf, va, rfl, hh, hpf, hpa⟩ := hp
  obtain ⟨qf, rfl⟩ := hpf.form
  obtain ⟨qa, rfl⟩ := hpa.form
  obtain ⟨bt, frt, vg, vb, rfl, _, hht, htg, htb⟩ := h
  obtain ⟨T1, x1, rfl, _⟩ := htg.asks
  obtain ⟨T2, x2, rfl, _⟩ := htb.asks
  have hself := Below.refl w.heap.size w
  have c0 := cell_of_heap (i := 0) hh
  have c1 := cell_later' (cell_of_heap (i := 1) hh)
  have c2 := cell_later' (cell_of_heap (i := 2) hh)
  have c3 := cell_later' (cell_of_heap (i := 3) hh)
  have c4 := cell_later' (cell_of_heap (i := 4) hh)
  have d0 := cell_later' (cell_of_heap (i := 0) hht)
  have d1 := cell_later' (cell_of_heap (i := 1) hht)
  simp at c0 c1 c2 c3 c4 d0 d1
  have ha := assert_app
  have hcf := fun W (hW : Below w.heap.size w W) => ihf (hpf.below hW) (htg.below hW) (Nat.le_trans hB hW.size)
  have hca := fun W (hW : Below w.heap.size w W) => iha (hpa.below hW) (htb.below hW) (Nat.le_trans hB hW.size)
  unfold RdPost at hcf hca
  have hsz : w.heap.size ≤ w.heap.size := Nat.le_refl _
  clear hh hht hpf hpa htg htb ihf iha
  cases hf : Tm.mt f g with
  | none =>
    rw [show Tm.mt (.app f a) (.app g b') = none by simp [Tm.mt, hf]]
    simp only [hf] at hcf
    clear hf hca
    go_enter Try.func76, Try.ntmps76
    go_wp2_with fail
    go_region_held3 (fun W' => Below w.heap.size w W') (first | assumption | exact hself.drew | exact below_alloc (by assumption) _ | go_keep)
      (first
        | (go_at_call 95; refine (hc _ (by first | assumption | exact hself.drew)).mono ?_; rintro e w1 ⟨rfl, hb1⟩; have hb1' := below_trans (by first | assumption | exact hself.drew) hb1))
    all_goals
      have hax := ha w1 (.pointer (some ⟨bt, 0, none⟩))
      have hb1d := hb1'.drew
      go_wp2_with fail
      go_region_held3 (fun W' => Below w.heap.size w W') (first | assumption | exact hb1d | exact below_alloc (by assumption) _ | go_keep)
        (first
          | (go_at_call 76; refine (hcf _ (by first | assumption | exact hb1d)).mono ?_; rintro e w2 ⟨s2, rfl, hb2, hr2⟩; clear hr2; have hb2' := below_trans (by first | assumption | exact hb1d) hb2))
      all_goals
        go_wp2_with fail
        go_ret2
        exact ⟨_, rfl, hb2', fun l hl => by cases hl⟩
  | some xs =>
    have hx := mt_len f g xs hf
    simp only [hf] at hcf
    cases hm : Tm.mt a b' with
    | none =>
      rw [show Tm.mt (.app f a) (.app g b') = none by simp [Tm.mt, hf, hm]]
      simp only [hm] at hca
      clear hf hm
      go_enter Try.func76, Try.ntmps76
      go_wp2_with fail
      go_region_held3 (fun W' => Below w.heap.size w W') (first | assumption | exact hself.drew | exact below_alloc (by assumption) _ | go_keep)
        (first
          | (go_at_call 95; refine (hc _ (by first | assumption | exact hself.drew)).mono ?_; rintro e w1 ⟨rfl, hb1⟩; have hb1' := below_trans (by first | assumption | exact hself.drew) hb1))
      all_goals
        have hax := ha w1 (.pointer (some ⟨bt, 0, none⟩))
        have hb1d := hb1'.drew
        go_wp2_with fail
        go_region_held3 (fun W' => Below w.heap.size w W') (first | assumption | exact hb1d | exact below_alloc (by assumption) _ | go_keep)
          (first
            | (go_at_call 76; refine (hcf _ (by first | assumption | exact hb1d)).mono ?_; rintro e w2 ⟨s2, rfl, hb2, hr2⟩; clear hr2; have hb2' := below_trans (by first | assumption | exact hb1d) hb2))
        all_goals
          have hb2d := hb2'.drew
          go_wp2_with fail
          go_region_held3 (fun W' => Below w.heap.size w W') (first | assumption | exact hb2d | exact below_alloc (by assumption) _ | go_keep)
            (first
              | (go_at_call 76; refine (hca _ (by first | assumption | exact hb2d)).mono ?_; rintro e w3 ⟨s3, rfl, hb3, hr3⟩; clear hr3; have hb3' := below_trans (by first | assumption | exact hb2d) hb3))
          all_goals
            go_wp2_with fail
            go_ret2
            exact ⟨_, rfl, hb3', fun l hl => by cases hl⟩
    | some ys =>
      have hy := mt_len a b' ys hm
      rw [show Tm.mt (.app f a) (.app g b') = some (xs ++ ys) by simp [Tm.mt, hf, hm]]
      simp only [hm] at hca
      clear hf hm
      obtain ⟨i0, hi0, hz0, hz1, hz2⟩ := info_parts info_termP
      have hun : Try.prog.underlying 104 = some (.slice 39) := by kernel_rfl
      have hcf2 := fun W (hW : Below w.heap.size w W) => (hcf W hW).mono (fun e w' h => RdPost.own h)
      have hca2 := fun W (hW : Below w.heap.size w W) => (hca W hW).mono (fun e w' h => RdPost.own h)
      clear hcf hca
      go_enter Try.func76, Try.ntmps76
      go_wp2_with fail
      go_region_held3 (fun W' => Below w.heap.size w W') (first | assumption | exact hself.drew | exact below_alloc (by assumption) _ | go_keep)
        (first
          | (go_at_call 95; refine (hc _ (by first | assumption | exact hself.drew)).mono ?_; rintro e w1 ⟨rfl, hb1⟩; have hb1' := below_trans (by first | assumption | exact hself.drew) hb1))
      all_goals
        have hax := ha w1 (.pointer (some ⟨bt, 0, none⟩))
        have hb1d := hb1'.drew
        have hs1 : w.heap.size ≤ w1.heap.size := hb1'.size
        go_wp2_with fail
        go_region_held3 (fun W' => Below w.heap.size w W') (first | assumption | exact hb1d | exact below_alloc (by assumption) _ | go_keep)
          (first
            | (go_at_call 76; refine (hcf2 _ (by first | assumption | exact hb1d)).mono ?_; rintro e w2 ⟨ao2, ac2, vs2, rfl, hb2, ho2, he2, hn2⟩; have HN2 := Lib.hid hn2; have HR2 := Lib.hid (row_base ho2 (B' := w.heap.size) (by first | exact hb1d.size | exact hb1'.size)); have HE2 := Lib.hid he2; clear ho2 he2 hn2; have hb2' := below_trans (by first | assumption | exact hb1d) hb2))
        all_goals
          have hb2d := hb2'.drew
          go_wp2_with fail
          go_region_held3 (fun W' => Below w.heap.size w W') (first | assumption | exact hb2d | exact below_alloc (by assumption) _ | go_keep)
            (first
              | (go_at_call 76; refine (hca2 _ (by first | assumption | exact hb2d)).mono ?_; rintro e w3 ⟨ao3, ac3, vs3, rfl, hb3, ho3, he3, hn3⟩; have HN3 := Lib.hid hn3; have HR3 := Lib.hid ho3; have HE3 := Lib.hid he3; clear ho3 he3 hn3; have hb3' := below_trans (by first | assumption | exact hb2d) hb3))
          all_goals
            have HR2' := Lib.hid (row_later (row_later HR2.out (Below.refl _ _).drew) hb3)
            have HE2' := Lib.hid (fun j (h : j < xs.length) => (HE2.out j h).imp fun v hv => (⟨hv.1, (hv.2.below (Below.refl _ _).drew).below hb3⟩ : vs2[j]? = some v ∧ TV w3 B xs[j] v))
            clear HR2 HE2
            have hl2 := HR2'.out.1
            have hl3 := HR3.out.1
            cases ys with
            | nil =>
              obtain ⟨rfl, rfl⟩ := HN3.out rfl
              go_wp2_with (at_builtin; refine wpList_append_own_none (by rfl) _ _ 104 (by rfl) w.heap.size 39 i0 1 hun hi0 _ _ _ (by rfl) HR2'.out (by rfl) ?_)
              go_ret2
              refine ⟨_, rfl, hb3', fun l hl => ?_⟩
              obtain rfl := Option.some.inj hl
              try rw [List.append_nil]
              by_cases hxe : xs = []
              · obtain ⟨rfl, rfl⟩ := HN2.out hxe
                subst hxe
                exact Or.inl ⟨rfl, rfl⟩
              · exact Or.inr ⟨hxe, vs2, HR2'.out, HE2'.out⟩
            | cons y ys' =>
              obtain ⟨g3, q3, e3, hbg, hgl⟩ := HR3.out.form (by simp)
              injection e3 with e3 _ e4
              subst e3
              subst e4
              have hnews := HR3.out.cells (g := g3) rfl
              have hone : ∀ u ∈ vs3, u.oneCell' = true := fun u hu => by
                obtain ⟨k, hk, rfl⟩ := List.getElem_of_mem hu
                obtain ⟨v, hv, ht⟩ := HE3.out k (by omega)
                rw [List.getElem?_eq_getElem hk] at hv
                obtain rfl := Option.some.inj hv
                obtain ⟨T, x, e, _⟩ := ht.asks
                rw [e]
                rfl
              have hm : 0 < (y :: ys').length := by simp
              have hlen : xs.length + (y :: ys').length ≤ 1000 := by omega
              go_wp2_with (at_builtin; refine wpList_append_lies _ (by rfl) _ _ 104 (by rfl) w.heap.size 39 i0 .nilIface 1 16 hun hi0 hz0 hz1 hz2 rfl (by decide) _ _ _ (by rfl) HR2'.out ⟨g3, 0, none⟩ _ _ vs3 (by rfl) hl3 hnews hone hm (by unfold maxLen; omega) (by omega) hb3'.size _ rfl ?_; intro g4 q4 w4 ho4 hg4 _ hlt4; have HO4 := Lib.hid ho4; have HG4 := Lib.hid hg4; clear ho4 hg4)
              go_ret2
              refine ⟨_, rfl, hb3'.grown HG4.out hb3'.size (fun k hk => (HR2'.out.lt k hk).1), fun l hl => ?_⟩
              obtain rfl := Option.some.inj hl
              refine Or.inr ⟨by simp, vs2 ++ vs3, by rw [List.length_append]; exact HO4.out, elems_append (by omega) (fun j h => (HE2'.out j h).imp fun v hv => ⟨hv.1, hv.2.row HR2'.out HG4.out⟩) (fun j h => (HE3.out j h).imp fun v hv => ⟨hv.1, hv.2.row HR2'.out HG4.out⟩)⟩

theorem pat_any : ∀ {u t : Tm} {w : World} {B : Nat} {p v : Value}, PV w u p → TV w B t v → t.good = true → B ≤ w.heap.size → u.size ≤ 1000 → Calls Try.prog 76 #[p, v] w (RdPost w B (Tm.mt u t)) := by
  intro u
  induction u with
  | nm n =>
    intro t w B p v hp h hg hB _
    exact read_nm w B n t p v hp h hB
  | k =>
    intro t w B p v hp h hg hB _
    cases t with
    | k => exact read_kk w B p v hp h
    | s => obtain ⟨b, fr, rfl, hh⟩ := hp; exact read_no (a := 107) h hg hh (by simp [lett])
    | nm n => obtain ⟨b, fr, rfl, hh⟩ := hp; exact read_no (a := 107) h hg hh (by have := lett_nm (n := n) hg; omega)
    | app f a => obtain ⟨b, fr, rfl, hh⟩ := hp; exact read_no (a := 107) h hg hh (by simp [lett])
  | s =>
    intro t w B p v hp h hg hB _
    cases t with
    | k => obtain ⟨b, fr, rfl, hh⟩ := hp; exact read_no (a := 115) h hg hh (by simp [lett])
    | s => exact read_ss w B p v hp h
    | nm n => obtain ⟨b, fr, rfl, hh⟩ := hp; exact read_no (a := 115) h hg hh (by have := lett_nm (n := n) hg; omega)
    | app f a => obtain ⟨b, fr, rfl, hh⟩ := hp; exact read_no (a := 115) h hg hh (by simp [lett])
  | app f a ihf iha =>
    intro t w B p v hp h hg hB hz
    simp only [Tm.size] at hz
    cases t with
    | k => obtain ⟨b, fr, vf, va, rfl, hh, _⟩ := hp; exact read_no (a := 0) h hg hh (by simp [lett])
    | s => obtain ⟨b, fr, vf, va, rfl, hh, _⟩ := hp; exact read_no (a := 0) h hg hh (by simp [lett])
    | nm n => obtain ⟨b, fr, vf, va, rfl, hh, _⟩ := hp; exact read_no (a := 0) h hg hh (by have := lett_nm (n := n) hg; omega)
    | app g b' =>
      have hg' := hg
      simp only [Tm.good, Bool.and_eq_true] at hg'
      have z1 := Tm.size_pos f
      have z2 := Tm.size_pos a
      exact read_app w B f a g b' p v hp h (by omega) (fun hp ht hB => ihf hp ht hg'.1 hB (by omega)) (fun hp ht hB => iha hp ht hg'.2 hB (by omega)) hg hB
end Go.Proofs.Ytfpekihdoclncaa

namespace Go.Proofs.Ytfpekihdoclncaa
open Go.RowKit

set_option maxHeartbeats 2000000
set_option maxRecDepth 100000

namespace Tm
theorem mt_app_inv {f a t : Tm} {l : List Tm} (h : mt (app f a) t = some l) : ∃ g b xs ys, t = app g b ∧ mt f g = some xs ∧ mt a b = some ys ∧ l = xs ++ ys := by
  cases t with
  | app g b =>
    simp only [mt, Option.bind_eq_some_iff] at h
    obtain ⟨xs, h1, ys, h2, h3⟩ := h
    exact ⟨g, b, xs, ys, rfl, h1, h2, (Option.some.inj h3).symm⟩
  | k => simp [mt] at h
  | s => simp [mt] at h
  | nm n => simp [mt] at h
theorem mt_closed : ∀ (u t : Tm) (l : List Tm), (∀ n, has n u = false) → mt u t = some l → t = u ∧ l = []
  | .k, t, l, _, h => by cases t <;> simp [mt] at h; exact ⟨rfl, h⟩
  | .s, t, l, _, h => by cases t <;> simp [mt] at h; exact ⟨rfl, h⟩
  | .nm n, _, _, hn, _ => by have := hn n; simp [has] at this
  | .app f a, t, l, hn, h => by
    obtain ⟨g, b, xs, ys, rfl, h1, h2, rfl⟩ := mt_app_inv h
    have hf := mt_closed f g xs (fun n => by have := hn n; simp [has] at this; exact this.1) h1
    have ha := mt_closed a b ys (fun n => by have := hn n; simp [has] at this; exact this.2) h2
    rw [hf.1, ha.1, hf.2, ha.2]
    exact ⟨rfl, rfl⟩
theorem mt_self : ∀ (u : Tm), (∀ n, has n u = false) → mt u u = some []
  | .k, _ => rfl
  | .s, _ => rfl
  | .nm n, hn => by have := hn n; simp [has] at this
  | .app f a, hn => by
    simp only [mt, mt_self f (fun n => by have := hn n; simp [has] at this; exact this.1), mt_self a (fun n => by have := hn n; simp [has] at this; exact this.2)]
    rfl
theorem has_none {t : Tm} (h : names [] t = []) (n : List UInt8) : has n t = false := by
  cases hh : has n t with
  | false => rfl
  | true =>
    have := (mem_names n t []).2 (Or.inr hh)
    rw [h] at this
    cases this
theorem kC_has : ∀ n, has n kC = false := has_none (by kernel_rfl)
theorem sC_has : ∀ n, has n sC = false := has_none (by kernel_rfl)
theorem mt_appC {t : Tm} {l : List Tm} (h : mt (appC X Y) t = some l) : ∃ c d, l = [c, d] ∧ t = appC c d := by
  unfold appC pair at h
  obtain ⟨g1, b1, x1, y1, rfl, h1, h2, rfl⟩ := mt_app_inv h
  obtain ⟨g2, b2, x2, y2, rfl, h3, h4, rfl⟩ := mt_app_inv h2
  obtain ⟨g3, b3, x3, y3, rfl, h5, h6, rfl⟩ := mt_app_inv h4
  obtain ⟨g4, b4, x4, y4, rfl, h7, h8, rfl⟩ := mt_app_inv h5
  obtain ⟨g5, b5, x5, y5, rfl, h9, h10, rfl⟩ := mt_app_inv h6
  obtain ⟨g6, b6, x6, y6, rfl, h11, h12, rfl⟩ := mt_app_inv h8
  obtain ⟨g7, b7, x7, y7, rfl, h13, h14, rfl⟩ := mt_app_inv h11
  obtain ⟨g8, b8, x8, y8, rfl, h15, h16, rfl⟩ := mt_app_inv h12
  have k0 : ∀ n, has n .k = false := fun _ => rfl
  have s0 : ∀ n, has n .s = false := fun _ => rfl
  have i0 : ∀ n, has n I = false := fun _ => rfl
  obtain ⟨rfl, rfl⟩ := mt_closed _ _ _ k0 h1
  obtain ⟨rfl, rfl⟩ := mt_closed _ _ _ k0 h3
  obtain ⟨rfl, rfl⟩ := mt_closed _ _ _ s0 h7
  obtain ⟨rfl, rfl⟩ := mt_closed _ _ _ k0 h9
  obtain ⟨rfl, rfl⟩ := mt_closed _ _ _ s0 h13
  obtain ⟨rfl, rfl⟩ := mt_closed _ _ _ i0 h14
  obtain ⟨rfl, rfl⟩ := mt_closed _ _ _ k0 h15
  simp only [X, Y, mt] at h10 h16
  obtain rfl := Option.some.inj h10
  obtain rfl := Option.some.inj h16
  exact ⟨b8, b5, rfl, rfl⟩
theorem mt_appC_self (c d : Tm) : mt (appC X Y) (appC c d) = some [c, d] := rfl

/-- The term whose code a term is; n is enough steps. -/
def back : Nat → Tm → Option Tm
  | 0, _ => none
  | n + 1, t => if (mt kC t).isSome = true then some k else if (mt sC t).isSome = true then some s else match mt (appC X Y) t with
    | some [c, d] => (back n c).bind fun x => (back n d).bind fun y => some (app x y)
    | _ => none
theorem size_appC (c d : Tm) : (appC c d).size = c.size + d.size + 9 := by simp only [appC, size, size_pair]; omega
theorem back_facts : ∀ (n : Nat) (t u : Tm), back n t = some u → code u = t ∧ u.size ≤ t.size ∧ u.good = true ∧ ∀ m, has m u = false
  | 0, _, _, h => by cases h
  | n + 1, t, u, h => by
    simp only [back] at h
    split at h
    · rename_i hk
      obtain rfl := Option.some.inj h
      obtain ⟨l, hl⟩ := Option.isSome_iff_exists.1 hk
      exact ⟨(mt_closed _ _ _ kC_has hl).1.symm, size_pos t, rfl, fun _ => rfl⟩
    · split at h
      · rename_i hs
        obtain rfl := Option.some.inj h
        obtain ⟨l, hl⟩ := Option.isSome_iff_exists.1 hs
        exact ⟨(mt_closed _ _ _ sC_has hl).1.symm, size_pos t, rfl, fun _ => rfl⟩
      · split at h
        · rename_i c d hcd
          obtain ⟨c', d', e, rfl⟩ := mt_appC hcd
          simp only [List.cons.injEq, and_true] at e
          obtain ⟨rfl, rfl⟩ := e
          simp only [Option.bind_eq_some_iff] at h
          obtain ⟨x, hx, y, hy, h⟩ := h
          obtain rfl := Option.some.inj h
          obtain ⟨a1, a2, a3, a4⟩ := back_facts n _ _ hx
          obtain ⟨b1, b2, b3, b4⟩ := back_facts n _ _ hy
          refine ⟨by simp [code, a1, b1], by rw [size_appC]; simp only [size]; omega, by simp [good, a3, b3], fun m => by simp [has, a4 m, b4 m]⟩
        · cases h
def pCodeRead (l : List UInt8) : Option (List UInt8) := (parse l).bind fun t => (back t.size t).map text
end Tm

/-- A value is the reader of codes. -/
def RV (w : World) (r : Value) : Prop := ∃ b fr p1 p2 p3, r = .pointer (some ⟨b, 0, none⟩) ∧ w.heap[b]? = some (.cells #[p1, p2, p3] 103 fr) ∧ PV w Tm.kC p1 ∧ PV w Tm.sC p2 ∧ PV w (Tm.appC Tm.X Tm.Y) p3
theorem RV.below {w W : World} {r : Value} (h : RV w r) (hb : Below w.heap.size w W) : RV W r := by
  obtain ⟨b, fr, p1, p2, p3, e, hh, h1, h2, h3⟩ := h
  exact ⟨b, fr, p1, p2, p3, e, heap_later hh hb, h1.below hb, h2.below hb, h3.below hb⟩

theorem newReader_any (w : World) : Calls Try.prog 49 #[] w fun e w' => ∃ r, e = .returned r ∧ Below w.heap.size w w' ∧ RV w' r := by
  have hA1 : Below w.heap.size w (w.alloc (.cells #[] 76)) := below_alloc (Below.refl _ _) _
  have t1 : TV (w.alloc (.cells #[] 76)) w.heap.size .k (.iface 72 (.pointer (some ⟨w.heap.size, 0, none⟩))) := ⟨_, _, rfl, Nat.le_refl _, heap_top w _⟩
  have k1 := codeOf_any t1 hA1.size (by decide)
  unfold TermPost at k1
  rw [show Tm.code .k = Tm.kC from rfl] at k1
  clear t1
  go_enter Try.func49, Try.ntmps49
  go_wp2_with fail
  refine k1.mono ?_
  rintro e w1 ⟨v1, rfl, hb1, ht1⟩
  have hb01 := below_trans hA1 hb1
  have k2 := patternOf_any ht1 (by decide +kernel)
  unfold PatPost at k2
  clear ht1 k1
  go_wp2_with fail
  refine k2.mono ?_
  rintro e w2 ⟨p1, rfl, hb2, hp1⟩
  obtain ⟨q1, rfl⟩ := hp1.form
  have hb02 := below_trans hb01 hb2
  have hA2 : Below w2.heap.size w2 (w2.alloc (.cells #[] 78)) := below_alloc (Below.refl _ _) _
  have hb03 := below_trans hb02 hA2
  have t2 : TV (w2.alloc (.cells #[] 78)) w.heap.size .s (.iface 77 (.pointer (some ⟨w2.heap.size, 0, none⟩))) := ⟨_, _, rfl, hb02.size, heap_top w2 _⟩
  have k3 := codeOf_any t2 hb03.size (by decide)
  unfold TermPost at k3
  rw [show Tm.code .s = Tm.sC from rfl] at k3
  have HP1 := Lib.hid (hp1.below hA2)
  clear t2 hp1 k2
  go_wp2_with fail
  refine k3.mono ?_
  rintro e w3 ⟨v3, rfl, hb3, ht3⟩
  have hb04 := below_trans hb03 hb3
  have k4 := patternOf_any ht3 (by decide +kernel)
  unfold PatPost at k4
  clear ht3 k3
  go_wp2_with fail
  refine k4.mono ?_
  rintro e w4 ⟨p2, rfl, hb4, hp2⟩
  obtain ⟨q2, rfl⟩ := hp2.form
  have hb05 := below_trans hb04 hb4
  obtain ⟨os, hos⟩ : ∃ os : List Obj, os = [.cells #[str [120]] 87, .cells #[str [121]] 87] := ⟨_, rfl⟩
  have hX : allocL w4 os = (w4.alloc (.cells #[str [120]] 87)).alloc (.cells #[str [121]] 87) := by rw [hos]; rfl
  have hA := allocL_below w4 os
  have g0 : (allocL w4 os).heap[w4.heap.size]? = some (.cells #[str [120]] 87 (0, 0)) := by have := allocL_heap w4 os 0 (by rw [hos]; simp); simpa [hos] using this
  have g1 : (allocL w4 os).heap[w4.heap.size + 1]? = some (.cells #[str [121]] 87 (0, 0)) := by have := allocL_heap w4 os 1 (by rw [hos]; simp); simpa [hos] using this
  have hb06 := below_trans hb05 hA
  have hbs := hb05.size
  have k5 := apply_any (allocL w4 os) w.heap.size Tm.X Tm.Y _ _ (nm_val g0 hbs) (nm_val g1 (by omega)) hb06.size (by decide)
  have HP1' := Lib.hid (((HP1.out.below hb3).below hb4).below hA)
  have HP2 := Lib.hid (hp2.below hA)
  rw [hX] at k5 hb06 HP1' HP2
  clear g0 g1 hX hos hp2 k4 HP1 hA
  go_wp2_with fail
  refine k5.mono ?_
  rintro e w5 ⟨v5, rfl, hb5, ht5⟩
  have hb07 := below_trans hb06 hb5
  have k6 := codeOf_any ht5 hb07.size (by decide)
  unfold TermPost at k6
  rw [show Tm.code (.app Tm.X Tm.Y) = Tm.appC Tm.X Tm.Y from rfl] at k6
  clear ht5 k5
  go_wp2_with fail
  refine k6.mono ?_
  rintro e w6 ⟨v6, rfl, hb6, ht6⟩
  have hb08 := below_trans hb07 hb6
  have k7 := patternOf_any ht6 (by decide +kernel)
  unfold PatPost at k7
  clear ht6 k6
  go_wp2_with fail
  refine k7.mono ?_
  rintro e w7 ⟨p3, rfl, hb7, hp3⟩
  obtain ⟨q3, rfl⟩ := hp3.form
  have hb09 := below_trans hb08 hb7
  have hn := below_new w7 (.cells #[.pointer (some ⟨q1, 0, none⟩), .pointer (some ⟨q2, 0, none⟩), .pointer (some ⟨q3, 0, none⟩)] 103)
  have hh := heap_top w7 (.cells #[.pointer (some ⟨q1, 0, none⟩), .pointer (some ⟨q2, 0, none⟩), .pointer (some ⟨q3, 0, none⟩)] 103)
  have b57 := below_trans (below_trans hb5 hb6) hb7
  have HR := Lib.hid (show RV (w7.alloc (.cells #[.pointer (some ⟨q1, 0, none⟩), .pointer (some ⟨q2, 0, none⟩), .pointer (some ⟨q3, 0, none⟩)] 103)) (.pointer (some ⟨w7.heap.size, 0, none⟩)) from ⟨_, _, _, _, _, rfl, hh, (HP1'.out.below b57).below hn, (HP2.out.below b57).below hn, hp3.below hn⟩)
  clear hh hp3 k7
  go_wp2_with fail
  go_ret
  exact ⟨_, rfl, below_trans hb09 hn, HR.out⟩
end Go.Proofs.Ytfpekihdoclncaa

namespace Go.Proofs.Ytfpekihdoclncaa
namespace Tm

theorem text_inj {t u : Tm} (ht : t.good = true) (hu : u.good = true) (h : t.text = u.text) : t = u := by
  have h1 := read_of (l := t.text) (t := t) (d := max t.depth u.depth + 1) (i := 0) (r := []) (by simp) ht (by omega) (Or.inl rfl)
  have h2 := read_of (l := t.text) (t := u) (d := max t.depth u.depth + 1) (i := 0) (r := []) (by simp [h]) hu (by omega) (Or.inl rfl)
  rw [h1] at h2
  simp only [Option.some.injEq, Prod.mk.injEq] at h2
  exact h2.1


/-- What is read of the text of a term is that term. -/
theorem parse_of_text {t u : Tm} (hg : t.good = true) (h : parse t.text = some u) : u = t ∧ t.fits = true := by
  obtain ⟨h1, h2, h3⟩ := parse_iff.1 h
  have := text_inj h2 hg h1
  subst this
  exact ⟨rfl, h3⟩

theorem text_app (f a : Tm) : (app f a).text = 40 :: (f.text ++ 32 :: (a.text ++ [41])) := rfl

/-! ### names -/

theorem uses_has (x : List UInt8) : ∀ t : Tm, has x t = false ↔ uses x t = 0
  | nm n => by simp [has, uses]
  | app f a => by simp [has, uses, uses_has x f, uses_has x a]
  | k => by simp [has, uses]
  | s => by simp [has, uses]

theorem put_unused (x : List UInt8) (b : Tm) : ∀ {t : Tm}, uses x t = 0 → put t x b = t
  | nm n, h => by
    simp only [uses] at h
    split at h
    · simp at h
    · rename_i hn; simp [put, hn]
  | app f a, h => by simp only [uses] at h; simp [put, put_unused x b (t := f) (by omega), put_unused x b (t := a) (by omega)]
  | k, _ => rfl
  | s, _ => rfl

/-! ### abstractions applied -/

theorem star_k (m n : Tm) : Star (app (app k m) n) m := Star.one (.k n (.refl m))
theorem star_s (m n p : Tm) : Star (app (app (app s m) n) p) (app (app m p) (app n p)) := Star.one (.s (.refl m) (.refl n) (.refl p))
theorem star_i (a : Tm) : Star (app I a) a := (star_s k k a).trans (star_k a _)

theorem abs_star (x : List UInt8) (a : Tm) : ∀ t : Tm, Star (app (abs x t) a) (put t x a)
  | k => star_k _ _
  | s => star_k _ _
  | nm n => by
    by_cases hn : n = x
    · subst hn; simp only [abs, put, if_true]; exact star_i a
    · simp only [abs, put, hn, if_false]; exact star_k _ _
  | app f g => by
    simp only [abs]
    split
    · rename_i h; rw [put_unused x a h]; exact star_k _ _
    · split
      · rename_i h
        obtain ⟨h1, h2⟩ := h
        cases g with
        | nm n =>
          simp only [isNm, beq_iff_eq] at h1
          subst h1
          simp only [put, if_true, put_unused n a h2]
          exact .refl _
        | k => simp [isNm] at h1
        | s => simp [isNm] at h1
        | app _ _ => simp [isNm] at h1
      · exact (star_s _ _ _).trans ((abs_star x a f).app (abs_star x a g))

theorem pair_star (m n p : Tm) : Star (app (pair m n) p) (app (app p m) n) :=
  (star_s _ _ _).trans (((star_s _ _ _).trans ((star_i p).app (star_k m p))).app (star_k n p))

/-! ### numerals -/

theorem num_inj : ∀ {m n : Nat}, num m = num n → m = n := fun {m n} h => by
  have := congrArg size h
  rw [size_num, size_num] at this
  omega

theorem pair_normal {m n : Tm} (hm : step m = none) (hn : step n = none) : step (pair m n) = none := by
  simp [pair, step, redex, I, hm, hn]

theorem num_normal : ∀ n : Nat, step (num n) = none
  | 0 => by decide +kernel
  | n + 1 => pair_normal (by decide +kernel) (num_normal n)

theorem succ_star (n : Nat) : Star (app succ (num n)) (num (n + 1)) := abs_star [120] (num n) (pair no X)

theorem pred_star (n : Nat) : Star (app pred (num (n + 1))) (num n) := by
  have h := abs_star [120] (num (n + 1)) (app (app (app X .k) I) (app X no))
  have e : put (app (app (app X .k) I) (app X no)) [120] (num (n + 1)) = app (app (app (num (n + 1)) .k) I) (app (num (n + 1)) no) := rfl
  rw [e] at h
  have h1 : Star (app (num (n + 1)) k) no := (pair_star no (num n) k).trans (star_k _ _)
  have h2 : Star (app (num (n + 1)) no) (num n) := (pair_star no (num n) no).trans (((star_k I no).app (.refl _)).trans (star_i _))
  exact h.trans ((((h1.app (.refl I)).trans (star_k I I)).app h2).trans (star_i _))

theorem norm_unique {t u v : Tm} {n : Nat} (h : norm t = some (u, n)) (g : Star t v) (hv : step v = none) : u = v := by
  obtain ⟨h1, h2⟩ := norm_star h
  exact normal_one h1 g h2 hv

end Tm
end Go.Proofs.Ytfpekihdoclncaa
