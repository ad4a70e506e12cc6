/-
  The program's combination, for every letter and all parts.
-/
import Derived.Test.YtjomocjlnjgkeaaGreatPkBE
import Derived.OwnWalk
import Derived.Laws.AppendOwn
namespace Go.Proofs.YtjomocjlnjgkeaaGreat
open Go.RowKit

set_option maxHeartbeats 2000000
set_option maxRecDepth 100000

theorem wf_no {w w' : World} {B : Nat} (h : After w w') (v : Value) : WFPost w B none (.returned (.tuple #[v, .bool false])) w' := ⟨v, rfl, h, fun t ht => by cases ht⟩

theorem comb_no_c (w : World) (B : Nat) (sv : Value) (ps : List FT) (h : PartsV w B sv ps) (hn : ps.length ≤ 1000) (ho : ∀ f ∈ ps, FT.arity f ≤ 3) (hok : compOk ps = false) :
    Calls Tryz.prog 97 #[str [99], sv] w (WFPost w B none) := by
  obtain ⟨W1, hW1⟩ : ∃ W1, W1 = w.alloc (.cells #[.int .i64 0, .int .i64 0, .bool false, .nilIface, .nilFunc] 60 (0, 0)) := ⟨_, rfl⟩
  have a1 : After w W1 := by rw [hW1]; exact After.new _ _
  have k1 := composes_any W1 B sv ps (h.after a1) hn ho
  rw [hok] at k1
  obtain ⟨ao, cap, rfl⟩ := h.form
  have HW1 := Lib.hid hW1
  clear h hok hW1
  go_enter Tryz.func97, Tryz.ntmps97
  go_wp2_with fail
  rw [← HW1.out]
  refine k1.mono ?_
  rintro e w2 ⟨rfl, ha2⟩
  go_wp2_with fail
  go_ret2
  exact wf_no (a1.trans ha2) _

theorem comb_no_r (w : World) (B : Nat) (sv : Value) (ps : List FT) (h : PartsV w B sv ps) (hn : ps.length ≤ 1000) (ho : ∀ f ∈ ps, FT.arity f ≤ 3) (hok : recOk ps = false) :
    Calls Tryz.prog 97 #[str [114], sv] w (WFPost w B none) := by
  obtain ⟨W1, hW1⟩ : ∃ W1, W1 = w.alloc (.cells #[.int .i64 0, .int .i64 0, .bool false, .nilIface, .nilFunc] 60 (0, 0)) := ⟨_, rfl⟩
  have a1 : After w W1 := by rw [hW1]; exact After.new _ _
  have k1 := recurs_any W1 B sv ps (h.after a1) hn ho
  rw [hok] at k1
  obtain ⟨ao, cap, rfl⟩ := h.form
  have HW1 := Lib.hid hW1
  clear h hok hW1
  go_enter Tryz.func97, Tryz.ntmps97
  go_wp2_with fail
  rw [← HW1.out]
  refine k1.mono ?_
  rintro e w2 ⟨rfl, ha2⟩
  go_wp2_with fail
  go_ret2
  exact wf_no (a1.trans ha2) _

theorem comb_no_m (w : World) (B : Nat) (sv : Value) (ps : List FT) (h : PartsV w B sv ps) (hn : ps.length ≤ 1000) (ho : ∀ f ∈ ps, FT.arity f ≤ 3) (hok : searOk ps = false) :
    Calls Tryz.prog 97 #[str [109], sv] w (WFPost w B none) := by
  obtain ⟨W1, hW1⟩ : ∃ W1, W1 = w.alloc (.cells #[.int .i64 0, .int .i64 0, .bool false, .nilIface, .nilFunc] 60 (0, 0)) := ⟨_, rfl⟩
  have a1 : After w W1 := by rw [hW1]; exact After.new _ _
  have k1 := searches_any W1 B sv ps (h.after a1) hn ho
  rw [hok] at k1
  obtain ⟨ao, cap, rfl⟩ := h.form
  have HW1 := Lib.hid hW1
  clear h hok hW1
  go_enter Tryz.func97, Tryz.ntmps97
  go_wp2_with fail
  rw [← HW1.out]
  refine k1.mono ?_
  rintro e w2 ⟨rfl, ha2⟩
  go_wp2_with fail
  go_ret2
  exact wf_no (a1.trans ha2) _

theorem comb_no (w : World) (B : Nat) (sv : Value) (l : List UInt8) (n1 : (l == [99]) = false) (n2 : (l == [114]) = false) (n3 : (l == [109]) = false) :
    Calls Tryz.prog 97 #[str l, sv] w (WFPost w B none) := by
  go_enter Tryz.func97, Tryz.ntmps97
  go_wp2_with fail
  go_ret2
  exact wf_no (After.new _ _) _

theorem comp_sum (F : FT) (hF : FT.ok F) (a : Nat) (ha : a ≤ 3) (gs : List FT) (hg : ∀ g ∈ gs, FT.ok g) (hn : gs.length ≤ 3) (hs : FT.size F + (gs.map FT.size).sum ≤ 39) : (compL (FT.real F) a gs).size ≤ 3900 := by
  rw [compL_size _ a ha]
  have h0 := (FT.real_small hF).1
  have hoff : ∀ a, FT.off a ≤ 21 := fun a => by
    match a with
    | 0 => decide
    | 1 => decide
    | 2 => decide
    | a + 3 => simp [FT.off]
  have h1 := hoff (FT.arity F)
  have hall : ((gs.map fun g => (FT.real g).size + a).sum : Int) ≤ 63 * ((gs.map FT.size).sum : Nat) + 24 * gs.length := by
    clear hn hs
    induction gs with
    | nil => simp
    | cons g gs ih =>
      have h2 := (FT.real_small (hg g (by simp))).1
      have h3 := hoff (FT.arity g)
      have := ih (fun q hq => hg q (by simp [hq]))
      simp only [List.map_cons, List.sum_cons, List.length_cons]
      omega
  omega

theorem combination_any (w : World) (B : Nat) (l : List UInt8) (sv : Value) (ps : List FT) (h : PartsV w B sv ps) (hB : B ≤ w.heap.size) (hn : ps.length ≤ 1000) (ho : ∀ f ∈ ps, FT.ok f) (hs : (ps.map FT.size).sum ≤ 39) :
    Calls Tryz.prog 97 #[str l, sv] w (WFPost w B (FT.comb l ps)) := by
  have ha : ∀ f ∈ ps, FT.arity f ≤ 3 := fun q hq => FT.arity_le (ho q hq)
  by_cases hc : l = [99]
  · subst hc
    cases hok : compOk ps with
    | false =>
      rw [show FT.comb [99] ps = none from ?_]
      · exact comb_no_c w B sv ps h hn ha hok
      · match ps, hok with
        | [], _ => rfl
        | [_], _ => rfl
        | [f, g], hok => simp [compOk] at hok; simp [FT.comb, hok]
        | [f, g, k], hok => simp [compOk] at hok; simp [FT.comb]; omega
        | [f, g, k, i], hok => simp [compOk] at hok; simp [FT.comb]; omega
        | _ :: _ :: _ :: _ :: _ :: _, _ => rfl
    | true =>
      match ps, hok with
      | [f, g], hok =>
        have h1 : FT.arity f = 1 := by simp [compOk] at hok; exact hok
        rw [show FT.comb [99] [f, g] = some (.c1 f g) by simp [FT.comb, h1]]
        exact comb_c1 w B sv f g h hB ho hs hok (comp_sum f (ho f (by simp)) _ (ha g (by simp)) _ (fun q hq => ho q (by simp at hq ⊢; simp [hq])) (by simp) (by simpa using hs))
      | [f, g, k], hok =>
        have h1 := hok
        simp [compOk] at h1
        rw [show FT.comb [99] [f, g, k] = some (.c2 f g k) by simp [FT.comb, h1]]
        exact comb_c2 w B sv f g k h hB ho hs hok (comp_sum f (ho f (by simp)) _ (ha g (by simp)) _ (fun q hq => ho q (by simp at hq ⊢; rcases hq with rfl | rfl <;> simp)) (by simp) (by simpa using hs))
      | [f, g, k, i], hok =>
        have h1 := hok
        simp [compOk] at h1
        rw [show FT.comb [99] [f, g, k, i] = some (.c3 f g k i) by simp [FT.comb, h1]]
        exact comb_c3 w B sv f g k i h hB ho hs hok (comp_sum f (ho f (by simp)) _ (ha g (by simp)) _ (fun q hq => ho q (by simp at hq ⊢; rcases hq with rfl | rfl | rfl <;> simp)) (by simp) (by simpa using hs))
      | f :: g :: k :: i :: j :: r, hok =>
        exfalso
        have h1 := ha f (by simp)
        simp [compOk] at hok
        omega
  by_cases hr : l = [114]
  · subst hr
    cases hok : recOk ps with
    | false =>
      rw [show FT.comb [114] ps = none from ?_]
      · exact comb_no_r w B sv ps h hn ha hok
      · match ps, hok with
        | [], _ => rfl
        | [_], _ => rfl
        | [f, g], hok => simp [recOk] at hok; simp [FT.comb, hok]
        | _ :: _ :: _ :: _, _ => rfl
    | true =>
      match ps, hok with
      | [f, g], hok =>
        have h1 : FT.arity g = FT.arity f + 2 := by simpa [recOk] using hok
        have h2 := ha g (by simp)
        rw [show FT.comb [114] [f, g] = some (.r f g) by simp [FT.comb, h1]]
        have h3 := comp_sum f (ho f (by simp)) 0 (by omega) [g] (fun q hq => ho q (by simp at hq ⊢; simp [hq])) (by simp) (by simpa using hs)
        have h4 := (FT.real_small (ho f (by simp))).1
        have h5 := (FT.real_small (ho g (by simp))).1
        have h6 : FT.off (FT.arity f) ≤ 21 := by
          obtain h | h : FT.arity f = 0 ∨ FT.arity f = 1 := by omega
          all_goals rw [h]; decide
        have h7 : FT.off (FT.arity g) ≤ 21 := by
          obtain h | h : FT.arity g = 2 ∨ FT.arity g = 3 := by omega
          all_goals rw [h]; decide
        exact comb_r w B sv f g h hB ho hs hok (by omega) (by simp at hs; omega)
  by_cases hm : l = [109]
  · subst hm
    cases hok : searOk ps with
    | false =>
      rw [show FT.comb [109] ps = none from ?_]
      · exact comb_no_m w B sv ps h hn ha hok
      · match ps, hok with
        | [], _ => rfl
        | [f], hok => simp [searOk] at hok; simp [FT.comb, hok]
        | _ :: _ :: _, _ => rfl
    | true =>
      match ps, hok with
      | [f], hok =>
        have h1 : 0 < FT.arity f := by simpa [searOk] using hok
        rw [show FT.comb [109] [f] = some (.m f) by simp [FT.comb, h1]]
        have hof := ho f (by simp)
        have hs' : FT.size f ≤ 39 := by simpa using hs
        have h2 := (FT.real_fits hof (by omega)).1
        have h3 := (FT.real_fits (t := .m f) ⟨hof, h1⟩ (by simp only [FT.size]; omega)).1
        have h4 := (absR_ge (FT.ns (FT.arity f - 1)).reverse (Tm.app (Tm.app Tm.fix (FT.absAll [[117], [118]] (FT.seaB (FT.real f) (FT.arity f - 1)))) Tm.I)).1
        have h5 : (FT.real (.m f)).size = (absR (FT.ns (FT.arity f - 1)).reverse (Tm.app (Tm.app Tm.fix (FT.absAll [[117], [118]] (FT.seaB (FT.real f) (FT.arity f - 1)))) Tm.I)).size := rfl
        rw [h5] at h3
        have h6 : (FT.ns (FT.arity f - 1)).reverse.length ≤ 3 := by rw [List.length_reverse, FT.ns, List.length_take]; simp; omega
        simp only [Tm.size] at h4
        exact comb_m w B sv f h hB hof hs' h1 (by omega) (by omega)
  rw [show FT.comb l ps = none by simp [FT.comb, hc, hr, hm]]
  exact comb_no w B sv l (by simpa using hc) (by simpa using hr) (by simpa using hm)
end Go.Proofs.YtjomocjlnjgkeaaGreat

namespace Go.Proofs.YtjomocjlnjgkeaaGreat
open Go

section
variable {P : Program} (w : World)

/-- An append's row is the old one or a new one. -/
theorem append_where {t ty e : TypeId} {i : TypeInfo} {z : Value} {base size bytes : Nat} (ht : P.underlying t = some (.slice e)) (hi : P.info? e = some i) (hz : i.zero = some z)
    (hsize : i.size = size) (hby : i.bytes = bytes)
    {v : Value} {n : Nat} {xs : List Value} (hown : w.ownsRow base e size v n xs)
    {a : Addr} {m c : Nat} {news : List Value} (hl : news.length = m * size) (hnews : ∀ j u, news[j]? = some u → w.cell? (a.add j) = some u) (h1 : ∀ u ∈ news, u.oneCell' = true)
    (h63 : n + m ≤ maxLen) (hbytes : (n + m) * bytes ≤ 140737488355328) (h0 : 0 < m) {v' : Value} {w' : World}
    (hr : (Builtin.append_ #[t, t] ty #[v, .slice (some a) m c]).run P w = .ok v' w') : v'.ownBlock = v.ownBlock ∨ v'.ownBlock = some w.heap.size := by
  subst hsize
  subst hby
  have hsmall : n + m ≤ 9223372036854775807 := by simp only [maxLen] at h63; omega
  rcases hown.2 with ⟨rfl, rfl⟩ | ⟨g, cap, cur, rfl, hbg, hg, hnc, hcm, hcs, htake⟩
  · have h2 := run_append_nil (P := P) w t ty e i z ht hi hz a m c news hl hnews h0 (by omega) (by have hb := hbytes; simp only [Nat.zero_add] at hb; omega)
    rw [h2] at hr
    injection hr with hr _
    subst hr
    exact Or.inr rfl
  · by_cases hroom : n + m ≤ cap
    · have hfit : n * i.size + news.length ≤ cur.size := by rw [hl, hcs, ← Nat.add_mul]; exact Nat.mul_le_mul_right _ hroom
      have h2 := run_append_room (P := P) w t ty e i ht hi g n cap cur hg a m c news hl hnews h1 hroom hfit
      rw [h2] at hr
      injection hr with hr _
      subst hr
      exact Or.inl rfl
    · have holds : ∀ j u, xs[j]? = some u → w.cell? ((⟨g, 0, none⟩ : Addr).add j) = some u := hown.cells (g := g) rfl
      have h2 := run_append_grow (P := P) w t ty e i z ht hi hz ⟨g, 0, none⟩ n cap xs hown.1 holds a m c news hl hnews (by omega) (by omega) (growslice_fits (by omega) hbytes)
      rw [h2] at hr
      injection hr with hr _
      subst hr
      exact Or.inr rfl

theorem wp_append_at {o : Oper} {a : Act} {K : Act → World → Prop} {Q : Exit → Act → World → Prop} (s x : Operand) (t : TypeId)
    (ho : o.op = .call { callee := .builtin .append, args := #[s, x], argTypes := #[t, t] })
    (base : Nat) (e : TypeId) (i : TypeInfo) (z : Value) (size bytes : Nat) (ht : P.underlying t = some (.slice e)) (hi : P.info? e = some i) (hz : i.zero = some z)
    (hsize : i.size = size) (hby : i.bytes = bytes) (hzs : z.cells.size = size) (hsz : 0 < size)
    (v : Value) (n : Nat) (xs : List Value) (hs : a.eval s = v) (hown : w.ownsRow base e size v n xs)
    (ad : Addr) (m c : Nat) (news : List Value) (hx : a.eval x = .slice (some ad) m c) (hl : news.length = m * size) (hnews : ∀ j u, news[j]? = some u → w.cell? (ad.add j) = some u) (h1 : ∀ u ∈ news, u.oneCell' = true)
    (h63 : n + m ≤ maxLen) (hbytes : (n + m) * bytes ≤ 140737488355328) (hbase : base ≤ w.heap.size) (h0 : 0 < m)
    (h : ∀ v' w', w'.ownsRow base e size v' (n + m) (xs ++ news) → w.grownBy w' v.ownBlock → (v'.ownBlock = v.ownBlock ∨ v'.ownBlock = some w.heap.size) → K (a.put o.dst v') w') : o.wp P a w K Q := by
  obtain ⟨v', w', hr, h2, h3, _⟩ := run_append_own (P := P) w base t o.type e i z size bytes ht hi hz hsize hby hzs hsz v n xs hown ad m c news hl hnews h1 h63 hbytes hbase
  have h4 := append_where w ht hi hz hsize hby hown hl hnews h1 h63 hbytes h0 hr
  unfold Oper.wp execOp
  simp only [ho, resolve, invoke, builtin, Sem.run_bind, Sem.run_pure, Result.andThen_ok, List.map_toArray, List.map_cons, List.map_nil, hs, hx, hr]
  exact h v' w' h2 h3 h4

theorem wpList_append_at {ops : Array Oper} {rest : List Oper} {o : Oper} {a : Act} {Q : Exit → Act → World → Prop} (hgd : o.guard = none) (s x : Operand) (t : TypeId)
    (ho : o.op = .call { callee := .builtin .append, args := #[s, x], argTypes := #[t, t] })
    (base : Nat) (e : TypeId) (i : TypeInfo) (z : Value) (size bytes : Nat) (ht : P.underlying t = some (.slice e)) (hi : P.info? e = some i) (hz : i.zero = some z)
    (hsize : i.size = size) (hby : i.bytes = bytes) (hzs : z.cells.size = size) (hsz : 0 < size)
    (v : Value) (n : Nat) (xs : List Value) (hs : a.eval s = v) (hown : w.ownsRow base e size v n xs)
    (ad : Addr) (m c : Nat) (news : List Value) (hx : a.eval x = .slice (some ad) m c) (hl : news.length = m * size) (hnews : ∀ j u, news[j]? = some u → w.cell? (ad.add j) = some u) (h1 : ∀ u ∈ news, u.oneCell' = true)
    (h63 : n + m ≤ maxLen) (hbytes : (n + m) * bytes ≤ 140737488355328) (hbase : base ≤ w.heap.size) (h0 : 0 < m)
    (h : ∀ v' w', w'.ownsRow base e size v' (n + m) (xs ++ news) → w.grownBy w' v.ownBlock → (v'.ownBlock = v.ownBlock ∨ v'.ownBlock = some w.heap.size) → wpList P ops Q rest (a.put o.dst v') w') : wpList P ops Q (o :: rest) a w :=
  wpList_plain hgd fun _ hK => wp_append_at w s x t ho base e i z size bytes ht hi hz hsize hby hzs hsz v n xs hs hown ad m c news hx hl hnews h1 h63 hbytes hbase h0 fun v' w' h2 h3 h4 => hK _ _ (h v' w' h2 h3 h4)
end
end Go.Proofs.YtjomocjlnjgkeaaGreat

namespace Go.Proofs.YtjomocjlnjgkeaaGreat
open Go.RowKit

set_option maxHeartbeats 1000000
set_option maxRecDepth 100000

theorem CVh.less {w : World} {B B' : Nat} (hB : B' ≤ B) {t : FT} {F F' : Value → Prop} (hF : ∀ v, F v → F' v) {v : Value} : CVh w B t F v → CVh w B' t F' v := by
  rintro ⟨b, vr, vf, hv, hb, hh, hr, hf⟩
  exact ⟨b, vr, vf, hv, Nat.le_trans hB hb, hh, hr.less hB, hF vf hf⟩

theorem FnV.less {w : World} {B B' : Nat} (hB : B' ≤ B) : ∀ {t : FT} {v : Value}, FnV w B t v → FnV w B' t v := by
  intro t
  induction t with
  | z _ => exact id
  | inc => exact id
  | p _ _ => rintro v ⟨q, hv, hb, hh⟩; exact ⟨q, hv, Nat.le_trans hB hb, hh⟩
  | c1 f g ihf ihg =>
    rintro v ⟨q1, q2, s, o, cap, cs, T, fr, pf, p1, hv, b1, h1, b2, h2, hf, bs, h3, e1, hg⟩
    exact ⟨q1, q2, s, o, cap, cs, T, fr, pf, p1, hv, Nat.le_trans hB b1, h1, Nat.le_trans hB b2, h2, hf.less hB (fun _ => ihf), Nat.le_trans hB bs, h3, e1, hg.less hB (fun _ => ihg)⟩
  | c2 f g k ihf ihg ihk =>
    rintro v ⟨q1, q2, s, o, cap, cs, T, fr, pf, p1, p2, hv, b1, h1, b2, h2, hf, bs, h3, e1, hg, e2, hh⟩
    exact ⟨q1, q2, s, o, cap, cs, T, fr, pf, p1, p2, hv, Nat.le_trans hB b1, h1, Nat.le_trans hB b2, h2, hf.less hB (fun _ => ihf), Nat.le_trans hB bs, h3, e1, hg.less hB (fun _ => ihg), e2, hh.less hB (fun _ => ihk)⟩
  | c3 f g k l ihf ihg ihk ihl =>
    rintro v ⟨q1, q2, s, o, cap, cs, T, fr, pf, p1, p2, p3, hv, b1, h1, b2, h2, hf, bs, h3, e1, hg, e2, hh, e3, hi⟩
    exact ⟨q1, q2, s, o, cap, cs, T, fr, pf, p1, p2, p3, hv, Nat.le_trans hB b1, h1, Nat.le_trans hB b2, h2, hf.less hB (fun _ => ihf), Nat.le_trans hB bs, h3, e1, hg.less hB (fun _ => ihg), e2, hh.less hB (fun _ => ihk), e3, hi.less hB (fun _ => ihl)⟩
  | r f g ihf ihg =>
    rintro v ⟨q1, q2, pf, pg, hv, b1, h1, b2, h2, hf, hg⟩
    exact ⟨q1, q2, pf, pg, hv, Nat.le_trans hB b1, h1, Nat.le_trans hB b2, h2, hf.less hB (fun _ => ihf), hg.less hB (fun _ => ihg)⟩
  | m f ihf =>
    rintro v ⟨q1, pf, hv, b1, h1, hf⟩
    exact ⟨q1, pf, hv, Nat.le_trans hB b1, h1, hf.less hB (fun _ => ihf)⟩

theorem CV.less {w : World} {B B' : Nat} {t : FT} {v : Value} (h : CV w B t v) (hB : B' ≤ B) : CV w B' t v := CVh.less hB (fun _ => FnV.less hB) h

/-- A compiled function text whose blocks lie from S on below E. -/
def CVr (w : World) (S E : Nat) (t : FT) (v : Value) : Prop := ∀ w'' : World, (∀ k, S ≤ k → k < E → w''.heap[k]? = w.heap[k]?) → CV w'' S t v

theorem CV.ranged {w : World} {S : Nat} {t : FT} {v : Value} (h : CV w S t v) : CVr w S w.heap.size t v := fun _ hk => h.same hk
theorem CVr.keep {w w' : World} {S E : Nat} {t : FT} {v : Value} (h : CVr w S E t v) (hk : ∀ k, S ≤ k → k < E → w'.heap[k]? = w.heap[k]?) : CVr w' S E t v := fun w'' h2 => h w'' fun k h1 h3 => (h2 k h1 h3).trans (hk k h1 h3)
theorem CVr.cv {w : World} {S E : Nat} {t : FT} {v : Value} (h : CVr w S E t v) : CV w S t v := h w fun _ _ _ => rfl

/-- A row of parts that may grow. -/
def RowV (w : World) (base : Nat) (sv : Value) (ps : List FT) (xs : List Value) : Prop :=
  w.ownsRow base 55 1 sv ps.length xs ∧ ∀ j (h : j < ps.length), ∃ v S E, xs[j]? = some v ∧ base ≤ S ∧ E ≤ w.heap.size ∧ (∀ g, sv.ownBlock = some g → g < S ∨ E ≤ g) ∧ CVr w S E ps[j] v

theorem RowV.nil (w : World) (base : Nat) : RowV w base (.slice none 0 0) [] [] := ⟨World.ownsRow_nil w base _ _, fun j h => absurd h (by simp)⟩

theorem RowV.grown {w w' : World} {base b : Nat} {sv : Value} {ps : List FT} {xs : List Value} (h : RowV w base sv ps xs) (hg : w.grownBy w' (some b)) (hb : b < base) : RowV w' base sv ps xs := by
  refine ⟨h.1.kept hg ?_, fun j hj => ?_⟩
  · cases hv : sv.ownBlock with
    | none => exact Or.inl rfl
    | some g => exact Or.inr (fun e => by injection e with e; have := (h.1.lt g hv).1; omega)
  · obtain ⟨v, S, E, h1, h2, h3, h4, h5⟩ := h.2 j hj
    exact ⟨v, S, E, h1, h2, Nat.le_trans h3 hg.size, h4, h5.keep fun k hk1 hk2 => hg.block k (by omega) (fun e => by injection e with e; omega)⟩

theorem RowV.push {w w' : World} {base S : Nat} {sv v' v : Value} {ps : List FT} {xs : List Value} {t : FT} (h : RowV w base sv ps xs) (hS : base ≤ S) (hgS : ∀ g, sv.ownBlock = some g → g < S) (ht : CV w S t v) (o : Obj)
    (ho : w'.ownsRow base 55 1 v' (ps.length + 1) (xs ++ [v])) (hg : (w.alloc o).grownBy w' sv.ownBlock) (hw : v'.ownBlock = sv.ownBlock ∨ v'.ownBlock = some (w.alloc o).heap.size) :
    RowV w' base v' (ps ++ [t]) (xs ++ [v]) := by
  have hxl : xs.length = ps.length := by have := h.1.1; omega
  have hsz : (w.alloc o).heap.size = w.heap.size + 1 := by simp
  have hkeep : ∀ k, k < w.heap.size → (∀ g, sv.ownBlock = some g → k ≠ g) → w'.heap[k]? = w.heap[k]? := fun k hk hne => by
    rw [hg.block k (by omega) (fun e => hne k e.symm rfl)]
    exact (below_new w o).block k hk
  refine ⟨by rw [List.length_append]; exact ho, fun j hj => ?_⟩
  by_cases hjl : j < ps.length
  · obtain ⟨u, S', E, h1, h2, h3, h4, h5⟩ := h.2 j hjl
    refine ⟨u, S', E, by rw [List.getElem?_append_left (by omega)]; exact h1, h2, by have := hg.size; omega, fun g hg' => ?_, ?_⟩
    · rcases hw with hw | hw
      · exact h4 g (hw ▸ hg')
      · rw [hw] at hg'; injection hg' with hg'; right; omega
    · rw [List.getElem_append_left hjl]
      exact h5.keep fun k hk1 hk2 => hkeep k (by omega) (fun g hg' e => by have := h4 g hg'; omega)
  · have hj' : j = ps.length := by rw [List.length_append, List.length_singleton] at hj; omega
    subst hj'
    refine ⟨v, S, w.heap.size, by rw [List.getElem?_append_right (by omega), hxl]; simp, hS, by have := hg.size; omega, fun g hg' => ?_, ?_⟩
    · rcases hw with hw | hw
      · exact Or.inl (hgS g (hw ▸ hg'))
      · rw [hw] at hg'; injection hg' with hg'; right; omega
    · simp only [List.getElem_concat_length]
      exact ht.ranged.keep fun k hk1 hk2 => hkeep k hk2 (fun g hg' e => by have := hgS g hg'; omega)

theorem RowV.parts {w : World} {base B : Nat} {sv : Value} {ps : List FT} {xs : List Value} (h : RowV w base sv ps xs) (hB : B ≤ base) : PartsV w B sv ps := by
  obtain ⟨ho, hc⟩ := h
  rcases ho.2 with ⟨h1, h2⟩ | ⟨g, cap, cur, hv, hb, hh, hle, _, hcs, hct⟩
  · exact Or.inl ⟨List.length_eq_zero_iff.1 h2, none, 0, h1⟩
  · refine Or.inr ⟨g, 0, cap, cur, _, _, hv, hle, Nat.le_trans hB hb, hh, fun j hj => ?_⟩
    obtain ⟨v, S, E, h1, h2, _, _, h5⟩ := hc j hj
    refine ⟨v, ?_, h5.cv.less (by omega)⟩
    rw [← hct, List.getElem?_take, if_pos (by omega)] at h1
    rw [Nat.zero_add]
    simpa using h1
end Go.Proofs.YtjomocjlnjgkeaaGreat
