/-
  The model's l2Parts for every tree; PairParts of the model, and the law.
-/
import Derived.Test.YtjgemiojjhfnoacSPartsB
import Derived.Test.YtjgemiojjhfnoacSTerm
namespace Go.Proofs.Ytjgemiojjhfnoac
open Go.RowKit

set_option maxHeartbeats 2000000
set_option maxRecDepth 100000

/-- Is a tree no atom. -/
def Tm.isApp : Tm → Bool
  | .app _ _ => true
  | _ => false

theorem empty_app {w : World} {t : Tm} {s : List UInt8} {y : Value} (h : ST w t (.agg #[str s, y])) (hg : t.good = true) : s.isEmpty = t.isApp := by
  cases t with
  | app f a => obtain ⟨rfl, _⟩ := app_form h; rfl
  | k => obtain rfl := atom_form h rfl; rfl
  | s => obtain rfl := atom_form h rfl; rfl
  | nm n =>
    have e := atom_form h rfl
    rw [e]
    have := Tm.text_ne (.nm n) hg
    simp only [Tm.text] at this ⊢
    cases n with
    | nil => exact absurd rfl this
    | cons => rfl

theorem text_app_ne (f a : Tm) (c : UInt8) : (Tm.app f a).text ≠ [c] := by
  intro h
  have := congrArg List.length h
  simp [Tm.text] at this

/-- The letter of an atom, as the model and as the program ask for it. -/
theorem letter_eq {w : World} {t : Tm} {s : List UInt8} {y : Value} (c : UInt8) (h : ST w t (.agg #[str s, y])) : s = [c] ↔ t.text = [c] := by
  cases t with
  | app f a => obtain ⟨rfl, _⟩ := app_form h; simp [text_app_ne]
  | k => obtain rfl := atom_form h rfl; exact Iff.rfl
  | s => obtain rfl := atom_form h rfl; exact Iff.rfl
  | nm n => obtain rfl := atom_form h rfl; exact Iff.rfl

theorem text_si (f a : Tm) (hf : f.good = true) : (Tm.app f a).text = [40, 115, 32, 40, 40, 115, 32, 107, 41, 32, 107, 41, 41] ↔ f.text = [115] ∧ a.text = Tm.text Tm.I := by
  have hI : Tm.text Tm.I = [40, 40, 115, 32, 107, 41, 32, 107, 41] := by decide
  constructor
  · intro h
    simp only [Tm.text, List.cons.injEq, true_and] at h
    have hs : f.text = [115] := by
      cases f with
      | k => simp [Tm.text] at h
      | s => rfl
      | app x y => simp [Tm.text] at h
      | nm n =>
        cases n with
        | nil => simp [Tm.good, Tm.nameOk] at hf
        | cons c ds =>
          simp only [Tm.good, Tm.nameOk, Bool.and_eq_true] at hf
          simp only [Tm.text, List.cons_append, List.cons.injEq] at h
          obtain ⟨hc, _⟩ := h
          have := hf.1.1
          rw [hc] at this
          exact absurd this (by decide)
    rw [hs] at h
    simp only [List.cons_append, List.nil_append, List.cons.injEq, true_and] at h
    refine ⟨hs, ?_⟩
    rw [hI]
    have h2 : a.text ++ [41] = [40, 40, 115, 32, 107, 41, 32, 107, 41] ++ [41] := by simpa using h
    exact List.append_cancel_right h2
  · rintro ⟨h1, h2⟩
    simp only [Tm.text, h1, h2, hI]
    rfl

theorem atom_short {t : Tm} (hg : t.good = true) (h : t.isApp = false) : t.text ≠ [40, 115, 32, 40, 40, 115, 32, 107, 41, 32, 107, 41, 41] := by
  cases t with
  | app f a => simp [Tm.isApp] at h
  | k => decide
  | s => decide
  | nm n =>
    intro e
    simp only [Tm.text] at e
    rw [e] at hg
    exact absurd hg (by decide)

theorem parts_y {x y : Tm} (h : y.isApp = false) : (Tm.app x y).parts = none := by
  cases y with
  | app f a => simp [Tm.isApp] at h
  | _ => simp [Tm.parts, Tm.behind]
theorem parts_x {x y : Tm} (h : x.isApp = false) : (Tm.app x y).parts = none := by
  have : Tm.behind [115] x = none := by
    cases x with
    | app f a => simp [Tm.isApp] at h
    | _ => simp [Tm.behind]
  simp only [Tm.parts, this]
  split <;> rfl
theorem behind_no {F : List UInt8} {t : Tm} (h : t.isApp = false) : Tm.behind F t = none := by
  cases t with
  | app f a => simp [Tm.isApp] at h
  | _ => simp [Tm.behind]

theorem parts_app (x y : Tm) : (Tm.app x y).parts = (Tm.behind [107] y).bind fun n => (Tm.behind [115] x).bind fun l => (Tm.behind [40, 115, 32, 40, 40, 115, 32, 107, 41, 32, 107, 41, 41] l).bind fun fr => (Tm.behind [107] fr).map fun m => (m, n) := by
  simp only [Tm.parts]
  cases Tm.behind [107] y with
  | none => rfl
  | some n =>
    cases Tm.behind [115] x with
    | none => rfl
    | some l =>
      simp only [Option.bind_some]
      cases Tm.behind [40, 115, 32, 40, 40, 115, 32, 107, 41, 32, 107, 41, 41] l with
      | none => rfl
      | some fr =>
        simp only [Option.bind_some]
        cases Tm.behind [107] fr with
        | none => rfl
        | some m => rfl
theorem behind_app (F : List UInt8) (f a : Tm) : Tm.behind F (.app f a) = if f.text = F then some a else none := rfl

theorem s_parts (w : World) (t : Tm) (v : Value) (h : ST w t v) (hg : t.good = true) (hz : t.size ≤ 3000) : Calls Try.prog 44 #[v] w (SPartsPost w t.parts) := by
  obtain ⟨sr, ar, nr, cr, rfl⟩ := h.form
  cases ht : t.isApp with
  | false =>
    have he := empty_app h hg
    rw [ht] at he
    rw [show t.parts = none by cases t <;> first | rfl | simp [Tm.isApp] at ht]
    exact pw_a w sr ar nr cr he
  | true =>
    cases t with
    | app x y =>
      obtain ⟨rfl, gr, qr, frr, x0, y0, x1, y1, e1, hr, hx, hy⟩ := app_form h
      simp only [Value.slice.injEq] at e1
      obtain ⟨rfl, rfl, rfl⟩ := e1
      obtain ⟨sx, ax, nx, cx, rfl, rfl⟩ := parts_form hx
      obtain ⟨sy, ay, ny, cy, rfl, rfl⟩ := parts_form hy
      simp only [Tm.good, Bool.and_eq_true] at hg
      simp only [Tm.size] at hz
      cases hya : y.isApp with
      | false =>
        have he := empty_app hy hg.2
        rw [hya] at he
        rw [parts_y hya]
        exact pw_b w gr _ frr sx ax nx cx sy ay ny cy hr he
      | true =>
        cases y with
        | app u v =>
          obtain ⟨rfl, gy, qy, fry, u0, v0, u1, v1, e1, hyh, hu, hv⟩ := app_form hy
          simp only [Value.slice.injEq] at e1
          obtain ⟨rfl, rfl, rfl⟩ := e1
          obtain ⟨su, au, nu, cu, rfl, rfl⟩ := parts_form hu
          obtain ⟨sv, av, nv, cv, rfl, rfl⟩ := parts_form hv
          have hgy := hg.2
          simp only [Tm.good, Bool.and_eq_true] at hgy
          cases hxa : x.isApp with
          | false =>
            have he := empty_app hx hg.1
            rw [hxa] at he
            rw [parts_x hxa]
            exact pw_c w gr _ frr sx ax nx cx gy _ fry su au nu cu sv av nv cv hr hyh he
          | true =>
            cases x with
            | app f i =>
              obtain ⟨rfl, gx, qx, frx, f0, i0, f1, i1, e1, hxh, hf, hi⟩ := app_form hx
              simp only [Value.slice.injEq] at e1
              obtain ⟨rfl, rfl, rfl⟩ := e1
              obtain ⟨sf, af, nf, cf, rfl, rfl⟩ := parts_form hf
              obtain ⟨si, ai, ni, ci, rfl, rfl⟩ := parts_form hi
              have hgx := hg.1
              simp only [Tm.good, Bool.and_eq_true] at hgx
              by_cases hfs : f.text = [115]
              · have hsf := (letter_eq 115 hf).2 hfs
                by_cases huk : u.text = [107]
                · have hsu := (letter_eq 107 hu).2 huk
                  cases hia : i.isApp with
                  | false =>
                    have he := empty_app hi hgx.2
                    rw [hia] at he
                    rw [show (Tm.app (.app f i) (.app u v)).parts = none by rw [parts_app, behind_app, behind_app, if_pos huk, if_pos hfs]; simp only [Option.bind_some]; rw [behind_no hia]; rfl]
                    exact pw_f w gr _ frr gx _ frx sf af nf cf si ai ni ci gy _ fry su au nu cu sv av nv cv hr hxh hyh hsf hsu he
                  | true =>
                    cases i with
                    | app m n =>
                      obtain ⟨rfl, gi, qi, fri, m0, n0, m1, n1, e1, hih, hm, hn⟩ := app_form hi
                      simp only [Value.slice.injEq] at e1
                      obtain ⟨rfl, rfl, rfl⟩ := e1
                      obtain ⟨sm, am, nm, cm, rfl, rfl⟩ := parts_form hm
                      obtain ⟨sn, an, nn, cn, rfl, rfl⟩ := parts_form hn
                      have hgi := hgx.2
                      simp only [Tm.good, Bool.and_eq_true] at hgi
                      have hpm : (Tm.app (.app f (.app m n)) (.app u v)).parts = if m.text = [40, 115, 32, 40, 40, 115, 32, 107, 41, 32, 107, 41, 41] then (Tm.behind [107] n).map fun e => (e, v) else none := by
                        rw [parts_app, behind_app, behind_app, if_pos huk, if_pos hfs]
                        simp only [Option.bind_some]
                        rw [behind_app]
                        split <;> rfl
                      cases hma : m.isApp with
                      | false =>
                        have he := empty_app hm hgi.1
                        rw [hma] at he
                        rw [hpm, if_neg (atom_short hgi.1 hma)]
                        exact pw_g w gr _ frr gx _ frx sf af nf cf gi _ fri sm am nm cm sn an nn cn gy _ fry su au nu cu sv av nv cv hr hxh hih hyh hsf hsu he
                      | true =>
                        cases m with
                        | app o p =>
                          obtain ⟨rfl, gm, qm, frm, o0, p0, o1, p1, e1, hmh, ho, hp⟩ := app_form hm
                          simp only [Value.slice.injEq] at e1
                          obtain ⟨rfl, rfl, rfl⟩ := e1
                          obtain ⟨so, ao, no, co, rfl, rfl⟩ := parts_form ho
                          obtain ⟨sp, ap, np, cp, rfl, rfl⟩ := parts_form hp
                          have hgm := hgi.1
                          simp only [Tm.good, Bool.and_eq_true] at hgm
                          cases hna : n.isApp with
                          | false =>
                            have he := empty_app hn hgi.2
                            rw [hna] at he
                            rw [hpm, behind_no hna, show (if (Tm.app o p).text = [40, 115, 32, 40, 40, 115, 32, 107, 41, 32, 107, 41, 41] then (none : Option Tm).map fun e => (e, v) else none) = none by split <;> rfl]
                            exact pw_h w gr _ frr gx _ frx sf af nf cf gi _ fri gm _ frm so ao no co sp ap np cp sn an nn cn gy _ fry su au nu cu sv av nv cv hr hxh hih hmh hyh hsf hsu he
                          | true =>
                            cases n with
                            | app j e =>
                              obtain ⟨rfl, gn, qn, frn, j0, e0, j1, e1', e1, hnh, hj, he⟩ := app_form hn
                              simp only [Value.slice.injEq] at e1
                              obtain ⟨rfl, rfl, rfl⟩ := e1
                              obtain ⟨sj, aj, nj, cj, rfl, rfl⟩ := parts_form hj
                              obtain ⟨se, ae, ne, ce, rfl, rfl⟩ := parts_form he
                              have hgn := hgi.2
                              simp only [Tm.good, Bool.and_eq_true] at hgn
                              rw [hpm]
                              by_cases hos : o.text = [115]
                              · have hso := (letter_eq 115 ho).2 hos
                                by_cases hjk : j.text = [107]
                                · have hsj := (letter_eq 107 hj).2 hjk
                                  simp only [Tm.size] at hz
                                  have htl := Tm.text_le p hgm.2
                                  by_cases hpi : p.text = Tm.text Tm.I
                                  · rw [if_pos ((text_si o p hgm.1).2 ⟨hos, hpi⟩)]
                                    simp only [Tm.behind, hjk, if_true, Option.map_some]
                                    exact pw_l w gr _ frr gx _ frx sf af nf cf gi _ fri gm _ frm so ao no co sp ap np cp gn _ frn sj aj nj cj se ae ne ce gy _ fry su au nu cu sv av nv cv hr hxh hih hmh hnh hyh hsf hsu hso hsj p e v hp he hv hgm.2 (by omega) hpi
                                  · rw [if_neg (fun h => hpi ((text_si o p hgm.1).1 h).2)]
                                    exact pw_k w gr _ frr gx _ frx sf af nf cf gi _ fri gm _ frm so ao no co sp ap np cp gn _ frn sj aj nj cj se ae ne ce gy _ fry su au nu cu sv av nv cv hr hxh hih hmh hnh hyh hsf hsu hso hsj p e v hp he hv hgm.2 (by omega) (beq_eq_false_iff_ne.2 hpi)
                                · have hsj := beq_eq_false_iff_ne.2 (fun h => hjk ((letter_eq 107 hj).1 h))
                                  rw [show (if (Tm.app o p).text = [40, 115, 32, 40, 40, 115, 32, 107, 41, 32, 107, 41, 41] then (Tm.behind [107] (Tm.app j e)).map fun e => (e, v) else none) = none by simp only [Tm.behind, hjk, if_false]; split <;> rfl]
                                  exact pw_j w gr _ frr gx _ frx sf af nf cf gi _ fri gm _ frm so ao no co sp ap np cp gn _ frn sj aj nj cj se ae ne ce gy _ fry su au nu cu sv av nv cv hr hxh hih hmh hnh hyh hsf hsu hso hsj
                              · have hso := beq_eq_false_iff_ne.2 (fun h => hos ((letter_eq 115 ho).1 h))
                                rw [if_neg (fun h => hos ((text_si o p hgm.1).1 h).1)]
                                exact pw_i w gr _ frr gx _ frx sf af nf cf gi _ fri gm _ frm so ao no co sp ap np cp gn _ frn sj aj nj cj se ae ne ce gy _ fry su au nu cu sv av nv cv hr hxh hih hmh hnh hyh hsf hsu hso
                            | _ => simp [Tm.isApp] at hna
                        | _ => simp [Tm.isApp] at hma
                    | _ => simp [Tm.isApp] at hia
                · have hsu := beq_eq_false_iff_ne.2 (fun h => huk ((letter_eq 107 hu).1 h))
                  rw [show (Tm.app (.app f i) (.app u v)).parts = none by simp only [Tm.parts, Tm.behind, huk, if_false]]
                  exact pw_e w gr _ frr gx _ frx sf af nf cf si ai ni ci gy _ fry su au nu cu sv av nv cv hr hxh hyh hsf hsu
              · have hsf := beq_eq_false_iff_ne.2 (fun h => hfs ((letter_eq 115 hf).1 h))
                rw [show (Tm.app (.app f i) (.app u v)).parts = none by simp only [Tm.parts, Tm.behind, hfs, if_false]; split <;> rfl]
                exact pw_d w gr _ frr gx _ frx sf af nf cf si ai ni ci gy _ fry su au nu cu sv av nv cv hr hxh hyh hsf
            | _ => simp [Tm.isApp] at hxa
        | _ => simp [Tm.isApp] at hya
    | _ => simp [Tm.isApp] at ht
end Go.Proofs.Ytjgemiojjhfnoac
