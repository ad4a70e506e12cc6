/-
  How a compiled function text of the program lies in memory: its fields, its realizer, its closure.
-/
import Derived.Test.YtjomocjlnjgkeaaGreatPkBB
import Derived.Test.YtjomocjlnjgkeaaGreatPkBA
import Derived.OwnWalk
import Derived.Laws.OwnMore
import Derived.Lib.OwnKind
import Derived.Lib.SmallJoins
import Derived.Test.YtjomocjlnjgkeaaGreatPkAL
namespace Go.Proofs.YtjomocjlnjgkeaaGreat
open Go.RowKit

set_option maxHeartbeats 1000000
set_option maxRecDepth 100000

abbrev ptr (b : Nat) : Value := .pointer (some ⟨b, 0, none⟩)

/-- A compiled function text with a closure that F tells. -/
def CVh (w : World) (B : Nat) (t : FT) (F : Value → Prop) (v : Value) : Prop :=
  ∃ b vr vf, v = ptr b ∧ B ≤ b ∧ w.heap[b]? = some (.cells #[.int .i64 (FT.arity t : Nat), .int .i64 (FT.size t : Nat), .bool (FT.total t), vr, vf] 60 (0, 0)) ∧ TV w B (FT.real t) vr ∧ F vf

/-- The closure of a function text. -/
def FnV (w : World) (B : Nat) : FT → Value → Prop
  | .z _, vf => vf = .func (.func 121) #[] #[]
  | .inc, vf => vf = .func (.func 122) #[] #[]
  | .p i _, vf => ∃ q, vf = .func (.func 123) #[] #[ptr q] ∧ B ≤ q ∧ w.heap[q]? = some (.cells #[.int .i64 (i : Nat)] 3 (0, 0))
  | .c1 f g, vf => ∃ q1 q2 s o cap cs T fr pf p1, vf = .func (.func 129) #[] #[ptr q1, ptr q2] ∧ B ≤ q1 ∧ w.heap[q1]? = some (.cells #[.slice (some ⟨s, o, none⟩) 1 cap] 149 (0, 0)) ∧
      B ≤ q2 ∧ w.heap[q2]? = some (.cells #[pf] 55 (0, 0)) ∧ CVh w B f (FnV w B f) pf ∧ B ≤ s ∧ w.heap[s]? = some (.cells cs T fr) ∧ cs[o]? = some p1 ∧ CVh w B g (FnV w B g) p1
  | .c2 f g h, vf => ∃ q1 q2 s o cap cs T fr pf p1 p2, vf = .func (.func 129) #[] #[ptr q1, ptr q2] ∧ B ≤ q1 ∧ w.heap[q1]? = some (.cells #[.slice (some ⟨s, o, none⟩) 2 cap] 149 (0, 0)) ∧
      B ≤ q2 ∧ w.heap[q2]? = some (.cells #[pf] 55 (0, 0)) ∧ CVh w B f (FnV w B f) pf ∧ B ≤ s ∧ w.heap[s]? = some (.cells cs T fr) ∧ cs[o]? = some p1 ∧ CVh w B g (FnV w B g) p1 ∧ cs[o + 1]? = some p2 ∧ CVh w B h (FnV w B h) p2
  | .c3 f g h i, vf => ∃ q1 q2 s o cap cs T fr pf p1 p2 p3, vf = .func (.func 129) #[] #[ptr q1, ptr q2] ∧ B ≤ q1 ∧ w.heap[q1]? = some (.cells #[.slice (some ⟨s, o, none⟩) 3 cap] 149 (0, 0)) ∧
      B ≤ q2 ∧ w.heap[q2]? = some (.cells #[pf] 55 (0, 0)) ∧ CVh w B f (FnV w B f) pf ∧ B ≤ s ∧ w.heap[s]? = some (.cells cs T fr) ∧ cs[o]? = some p1 ∧ CVh w B g (FnV w B g) p1 ∧ cs[o + 1]? = some p2 ∧ CVh w B h (FnV w B h) p2 ∧
      cs[o + 2]? = some p3 ∧ CVh w B i (FnV w B i) p3
  | .r f g, vf => ∃ q1 q2 pf pg, vf = .func (.func 132) #[] #[ptr q1, ptr q2] ∧ B ≤ q1 ∧ w.heap[q1]? = some (.cells #[pf] 55 (0, 0)) ∧ B ≤ q2 ∧ w.heap[q2]? = some (.cells #[pg] 55 (0, 0)) ∧
      CVh w B f (FnV w B f) pf ∧ CVh w B g (FnV w B g) pg
  | .m f, vf => ∃ q1 pf, vf = .func (.func 134) #[] #[ptr q1] ∧ B ≤ q1 ∧ w.heap[q1]? = some (.cells #[pf] 55 (0, 0)) ∧ CVh w B f (FnV w B f) pf

def CV (w : World) (B : Nat) (t : FT) (v : Value) : Prop := CVh w B t (FnV w B t) v

theorem CVh.same {w w' : World} {B : Nat} (hs : ∀ b, B ≤ b → b < w.heap.size → w'.heap[b]? = w.heap[b]?) {t : FT} {F F' : Value → Prop} (hF : ∀ v, F v → F' v) {v : Value} : CVh w B t F v → CVh w' B t F' v := by
  rintro ⟨b, vr, vf, hv, hb, hh, hr, hf⟩
  exact ⟨b, vr, vf, hv, hb, by rw [hs b hb (Array.getElem?_eq_some_iff.1 hh).1]; exact hh, hr.same hs, hF vf hf⟩

theorem FnV.same {w w' : World} {B : Nat} (hs : ∀ b, B ≤ b → b < w.heap.size → w'.heap[b]? = w.heap[b]?) : ∀ {t : FT} {v : Value}, FnV w B t v → FnV w' B t v := by
  have hk : ∀ {b : Nat} {o : Obj}, B ≤ b → w.heap[b]? = some o → w'.heap[b]? = some o := fun {b o} hb h => by rw [hs b hb (Array.getElem?_eq_some_iff.1 h).1]; exact h
  intro t
  induction t with
  | z _ => exact id
  | inc => exact id
  | p _ _ => rintro v ⟨q, hv, hb, hh⟩; exact ⟨q, hv, hb, hk hb hh⟩
  | c1 f g ihf ihg =>
    rintro v ⟨q1, q2, s, o, cap, cs, T, fr, pf, p1, hv, b1, h1, b2, h2, hf, bs, h3, e1, hg⟩
    exact ⟨q1, q2, s, o, cap, cs, T, fr, pf, p1, hv, b1, hk b1 h1, b2, hk b2 h2, hf.same hs (fun _ => ihf), bs, hk bs h3, e1, hg.same hs (fun _ => ihg)⟩
  | c2 f g k ihf ihg ihk =>
    rintro v ⟨q1, q2, s, o, cap, cs, T, fr, pf, p1, p2, hv, b1, h1, b2, h2, hf, bs, h3, e1, hg, e2, hh⟩
    exact ⟨q1, q2, s, o, cap, cs, T, fr, pf, p1, p2, hv, b1, hk b1 h1, b2, hk b2 h2, hf.same hs (fun _ => ihf), bs, hk bs h3, e1, hg.same hs (fun _ => ihg), e2, hh.same hs (fun _ => ihk)⟩
  | c3 f g k l ihf ihg ihk ihl =>
    rintro v ⟨q1, q2, s, o, cap, cs, T, fr, pf, p1, p2, p3, hv, b1, h1, b2, h2, hf, bs, h3, e1, hg, e2, hh, e3, hi⟩
    exact ⟨q1, q2, s, o, cap, cs, T, fr, pf, p1, p2, p3, hv, b1, hk b1 h1, b2, hk b2 h2, hf.same hs (fun _ => ihf), bs, hk bs h3, e1, hg.same hs (fun _ => ihg), e2, hh.same hs (fun _ => ihk), e3, hi.same hs (fun _ => ihl)⟩
  | r f g ihf ihg =>
    rintro v ⟨q1, q2, pf, pg, hv, b1, h1, b2, h2, hf, hg⟩
    exact ⟨q1, q2, pf, pg, hv, b1, hk b1 h1, b2, hk b2 h2, hf.same hs (fun _ => ihf), hg.same hs (fun _ => ihg)⟩
  | m f ihf =>
    rintro v ⟨q1, pf, hv, b1, h1, hf⟩
    exact ⟨q1, pf, hv, b1, hk b1 h1, hf.same hs (fun _ => ihf)⟩

theorem CV.same {w w' : World} {B : Nat} (hs : ∀ b, B ≤ b → b < w.heap.size → w'.heap[b]? = w.heap[b]?) {t : FT} {v : Value} (h : CV w B t v) : CV w' B t v := CVh.same hs (fun _ => FnV.same hs) h
theorem CV.after {w w' : World} {B : Nat} {t : FT} {v : Value} (h : CV w B t v) (ha : After w w') : CV w' B t v := h.same fun b _ hl => ha.block b hl
theorem FnV.after {w w' : World} {B : Nat} {t : FT} {v : Value} (h : FnV w B t v) (ha : After w w') : FnV w' B t v := h.same fun b _ hl => ha.block b hl
theorem CV.grown {w w' : World} {b : Nat} {t : FT} {v : Value} (h : CV w (b + 1) t v) (hg : w.grownBy w' (some b)) : CV w' (b + 1) t v :=
  h.same fun k hk hl => hg.block k hl (fun e => by injection e with e; omega)

/-! ### the names of arguments -/

theorem argNames_any (w : World) (a : Nat) (ha : a ≤ 3) :
    Calls Tryz.prog 120 #[.int .i64 a] w fun e w' => e = .returned (.slice (some ⟨w.heap.size, 0, none⟩) a 3) ∧ w' = w.alloc (.cells #[str [120], str [121], str [122]] 9 (0, 0)) := by
  have ha' : (a : Int) ≤ 3 := by omega
  go_enter Tryz.func120, Tryz.ntmps120
  go_wp2_with fail
  go_ret
  exact ⟨rfl, rfl⟩
end Go.Proofs.YtjomocjlnjgkeaaGreat

namespace Go.Proofs.YtjomocjlnjgkeaaGreat
open Go.RowKit

set_option maxHeartbeats 1000000
set_option maxRecDepth 100000

/-- A slice of terms. -/
def ArgsT (w : World) (B : Nat) (sv : Value) (us : List Tm) : Prop :=
  (us = [] ∧ ∃ ao cap, sv = .slice ao 0 cap) ∨ ∃ b o cap, sv = .slice (some ⟨b, o, none⟩) us.length cap ∧ ∀ j (h : j < us.length), ∃ v, w.cell? ⟨b, o + j, none⟩ = some v ∧ TV w B us[j] v

theorem ArgsT.after {w W : World} {B : Nat} {sv : Value} {us : List Tm} (h : ArgsT w B sv us) (ha : After w W) : ArgsT W B sv us := by
  rcases h with h | ⟨b, o, cap, hv, hc⟩
  · exact Or.inl h
  · exact Or.inr ⟨b, o, cap, hv, fun j hj => by obtain ⟨v, h1, h2⟩ := hc j hj; exact ⟨v, cell_later' h1 _ ha, h2.below ha⟩⟩

theorem ArgsT.form {w : World} {B : Nat} {sv : Value} {us : List Tm} (h : ArgsT w B sv us) : ∃ ao cap, sv = .slice ao us.length cap := by
  rcases h with ⟨rfl, ao, cap, rfl⟩ | ⟨b, o, cap, rfl, _⟩
  · exact ⟨_, _, rfl⟩
  · exact ⟨_, _, rfl⟩

theorem applyAll_sl (w : World) (B : Nat) (f : Tm) (vf sv : Value) (us : List Tm) (ha : ArgsT w B sv us) (hf : TV w B f vf) (hB : B ≤ w.heap.size) (hz : f.size + (us.map Tm.size).sum ≤ 1000000000) (hn : us.length ≤ 1000000) :
    Calls Tryz.prog 60 #[vf, sv] w (TermPost w B (us.foldl Tm.app f)) := by
  have hstart : ∃ k : Nat, Value.int .i64 0 = .int .i64 k ∧ k ≤ us.length ∧ Hid (TV w B ((us.take k).foldl Tm.app f) vf) ∧ Below w.heap.size w w := ⟨0, rfl, Nat.zero_le _, by show TV _ _ _ _; simpa using hf, Below.refl _ _⟩
  obtain ⟨ao, cap, rfl⟩ := ha.form
  have HU := Lib.hid ha
  clear hf ha
  go_enter Tryz.func60, Tryz.ntmps60
  go_wp2_with fail
  go_loopw [0, 9] (fun v i wr => ∃ k : Nat, i = .int .i64 k ∧ k ≤ us.length ∧ Hid (TV wr B ((us.take k).foldl Tm.app f) v) ∧ Below w.heap.size w wr) (fun _ i _ => us.length - (intOf i).toNat)
  case atStart => exact hstart
  case round =>
    clear hstart
    obtain ⟨k, rfl, hk, ht, hb⟩ := hrel
    by_cases hlt : k < us.length
    · obtain ⟨b, o, hao, vk, hck, hu⟩ : ∃ b o, ao = some ⟨b, o, none⟩ ∧ ∃ vk, wr.cell? ⟨b, o + k, none⟩ = some vk ∧ TV wr B us[k] vk := by
        rcases HU.out with ⟨h, _⟩ | ⟨b, o, cap', hv, hc⟩
        · rw [h] at hlt; simp at hlt
        · injection hv with h1 h2 h3
          obtain ⟨v, h4, h5⟩ := hc k hlt
          exact ⟨b, o, h1, v, cell_later' h4 _ hb, h5.below hb⟩
      subst hao
      have hs1 := foldl_size f (us.take k)
      have hs2 : (us[k]).size + ((us.take k).map Tm.size).sum ≤ (us.map Tm.size).sum := by
        have h1 := sum_take (us.map Tm.size) (k + 1)
        rw [List.take_succ_eq_append_getElem (by simpa using hlt)] at h1
        simp only [List.sum_append, List.getElem_map, List.sum_cons, List.sum_nil, ← List.map_take] at h1
        omega
      have hcall := apply_any wr B _ _ _ _ ht.out hu (Nat.le_trans hB hb.size) (by omega)
      have hnext : (us.take (k + 1)).foldl Tm.app f = ((us.take k).foldl Tm.app f).app us[k] := by
        rw [List.take_succ_eq_append_getElem hlt, List.foldl_append]; rfl
      rw [← hnext] at hcall
      clear hu hs1 hs2 hnext
      go_wp2_with fail
      refine hcall.mono ?_
      rintro e w1 ⟨v1, rfl, hb1, ht1⟩
      have HT1 := Lib.hid ht1
      clear ht1
      go_wp2_with fail
      go_roundw
      case rel => exact ⟨k + 1, by go_num, by omega, HT1, below_trans hb hb1⟩
      case measure => simp [intOf]; omega
    · obtain rfl : k = us.length := by omega
      have HT := Lib.hid ht.out
      rw [List.take_length] at HT
      clear ht
      go_wp2_with fail
      go_ret
      exact ⟨_, rfl, hb, HT.out⟩

theorem o_slice_len {w : World} {base n size : Nat} {T : TypeId} {v : Value} {xs : List Value} (h : w.ownsRow base T size v n xs) : ∃ ao ac, v = .slice ao n ac := by
  rcases h.2 with ⟨rfl, rfl⟩ | ⟨g, cap, cur, rfl, _⟩
  · exact ⟨_, _, rfl⟩
  · exact ⟨_, _, rfl⟩
theorem o_slice {w : World} {base n size : Nat} {T : TypeId} {v : Value} {xs : List Value} (h : w.ownsRow base T size v n xs) : ∃ ao an ac, v = .slice ao an ac := by
  obtain ⟨ao, ac, h⟩ := o_slice_len h
  exact ⟨ao, n, ac, h⟩

/-! ### nameTerms -/

def NmAt (w : World) (base : Nat) (n : List UInt8) (v : Value) : Prop := ∃ b, v = .iface 96 (ptr b) ∧ base ≤ b ∧ w.heap[b]? = some (.cells #[str n] 100 (0, 0))

theorem NmAt.grown {w w' : World} {base : Nat} {n : List UInt8} {v sv : Value} {m : Nat} {xs : List Value} (h : NmAt w base n v) (ho : w.ownsRow base 43 1 sv m xs) (hg : w.grownBy w' sv.ownBlock) : NmAt w' base n v := by
  obtain ⟨b, hv, hb, hh⟩ := h
  refine ⟨b, hv, hb, ?_⟩
  rw [hg.block b (Array.getElem?_eq_some_iff.1 hh).1 (fun e => ?_)]
  · exact hh
  · obtain ⟨c, fz, hc⟩ := Lib.ownsRow_kind ho b e.symm
    rw [hh] at hc
    injection hc with hc
    injection hc with _ hc _
    exact absurd hc (by decide)

theorem NmAt.after {w w' : World} {base : Nat} {n : List UInt8} {v : Value} (h : NmAt w base n v) (ha : After w w') : NmAt w' base n v := by
  obtain ⟨b, hv, hb, hh⟩ := h
  exact ⟨b, hv, hb, ha.heap hh⟩

theorem cell_one_new2 (w : World) (o : Obj) (v : Value) (T : TypeId) : ∀ j u, [v][j]? = some u → ((w.alloc o).alloc (.cells #[v] T)).cell? ((⟨w.heap.size + 1, 0, none⟩ : Addr).add j) = some u := by
  intro j u h
  match j with
  | 0 =>
    simp at h
    subst h
    have := heap_top2 w o (.cells #[v] T)
    rw [show ((⟨w.heap.size + 1, 0, none⟩ : Addr).add 0) = ⟨w.heap.size + 1, 0, none⟩ from rfl, cell_of_heap this]
    rfl
  | j + 1 => simp at h

theorem nameTerms_any (w : World) (g cap : Nat) (nl : List (List UInt8)) (hc : ∀ j, j < nl.length → w.cell? ⟨g, j, none⟩ = some (str (nl[j]?.getD []))) (hn : nl.length ≤ 1000) :
    Calls Tryz.prog 139 #[.slice (some ⟨g, 0, none⟩) nl.length cap] w fun e w' => ∃ sv, e = .returned sv ∧ After w w' ∧ ArgsT w' w.heap.size sv (nl.map Tm.nm) := by
  obtain ⟨N, hN⟩ : ∃ N, N = nl.length := ⟨_, rfl⟩
  rw [← hN] at hc hn ⊢
  have HN := Lib.hid hN
  have HC := Lib.hid hc
  obtain ⟨i0, hi, hz0, hz1, hz2⟩ : ∃ i, (Tryz.prog).info? 43 = some i ∧ i.zero = some .nilIface ∧ i.size = 1 ∧ i.bytes = 16 := ⟨_, rfl, rfl, rfl, rfl⟩
  have hun : Tryz.prog.underlying 145 = some (.slice 43) := by kernel_rfl
  obtain ⟨base, hbase⟩ : ∃ base, base = w.heap.size := ⟨_, rfl⟩
  have HBS := Lib.hid hbase
  rw [← hbase]
  clear hN hc hbase
  go_enter Tryz.func139, Tryz.ntmps139
  go_wp2_with fail
  go_loopw [3, 5, 8] (fun sv _ i wr => ∃ (k : Nat) (xs : List Value), i = .int .i64 k ∧ k ≤ N ∧ Hid (wr.ownsRow base 43 1 sv k xs) ∧ After w wr ∧ Hid (∀ (j : Nat) (v : Value), xs[j]? = some v → NmAt wr base (nl[j]?.getD []) v)) (fun _ _ i _ => N - (intOf i).toNat)
  case atStart => exact ⟨0, [], rfl, Nat.zero_le _, ⟨rfl, Or.inl ⟨rfl, rfl⟩⟩, After.refl _, fun j v h => by simp at h⟩
  case round =>
    obtain ⟨k, xs, rfl, hk, HO, ha, HX⟩ := hrel
    by_cases hlt : k < N
    · have hck := cell_later' (HC.out k hlt) wr ha
      generalize hnm : nl[k]?.getD [] = nm at hck
      have HNM := Lib.hid hnm
      clear hnm
      have hbs : base ≤ wr.heap.size := by rw [HBS.out]; exact ha.size
      have HA := Lib.hid ha
      clear ha
      have hone : ∀ u ∈ [Value.iface 96 (ptr wr.heap.size)], u.oneCell' = true := by simp [Value.oneCell']
      have hmax : k + 1 ≤ maxLen := by unfold maxLen; omega
      have hm16 : (k + 1) * 16 ≤ 140737488355328 := by omega
      have hsz : base ≤ ((wr.alloc (.cells #[str nm] 100)).alloc (.cells #[.iface 96 (ptr wr.heap.size)] 43)).heap.size := by simp; omega
      obtain ⟨ao, an, ac, rfl⟩ := o_slice HO.out
      go_wp2_with (at_builtin; refine wpList_append_own _ rfl _ _ 145 rfl base 43 i0 .nilIface 1 16 hun hi hz0 hz1 hz2 rfl (by decide) _ _ _ rfl (World.ownsRow.alloc (World.ownsRow.alloc HO.out _) _) ⟨wr.heap.size + 1, 0, none⟩ 1 1 [.iface 96 (ptr wr.heap.size)] rfl rfl (cell_one_new2 _ _ _ _) hone hmax hm16 hsz ?_; intro v2 w2 ho2 hg2 hiff; clear hiff; obtain ⟨bo, bn, bc, rfl⟩ := o_slice ho2; have HO2 := Lib.hid ho2; have HG2 := Lib.hid hg2; clear ho2 hg2)
      go_roundw
      case measure => simp [intOf]; omega
      case rel =>
        have hal : After wr ((wr.alloc (.cells #[str nm] 100)).alloc (.cells #[.iface 96 (ptr wr.heap.size)] 43)) := (After.new _ _).alloc _
        have ho1 := World.ownsRow.alloc (World.ownsRow.alloc HO.out (.cells #[str nm] 100)) (.cells #[.iface 96 (ptr wr.heap.size)] 43)
        refine ⟨k + 1, _, by go_num, by omega, HO2, ?_, fun j v hj => ?_⟩
        · have h1 := HA.out.trans hal
          refine ⟨HG2.out.os.trans h1.os, HG2.out.tape.trans h1.tape, HG2.out.output.trans h1.output, Nat.le_trans h1.size HG2.out.size, fun q hq => ?_⟩
          rw [HG2.out.block q (Nat.lt_of_lt_of_le hq h1.size) (fun e => by have := (ho1.lt q e.symm).1; have := HBS.out; omega)]
          exact h1.block q hq
        · by_cases hjk : j < xs.length
          · rw [List.getElem?_append_left hjk] at hj
            exact ((HX.out j v hj).after hal).grown ho1 HG2.out
          · have hxl : xs.length = k := by have := HO.out.1; omega
            have hjk' : j = k := by
              have := (List.getElem?_eq_some_iff.1 hj).1
              simp at this
              omega
            subst hjk'
            rw [List.getElem?_append_right (by omega), hxl, Nat.sub_self] at hj
            simp at hj
            subst hj
            rw [HNM.out]
            refine NmAt.grown ⟨wr.heap.size, rfl, hbs, ?_⟩ ho1 HG2.out
            exact heap_below2 wr _ _
    · obtain rfl : k = N := by omega
      have HA := Lib.hid ha
      obtain ⟨ao, ac, rfl⟩ := o_slice_len HO.out
      clear ha
      go_wp2_with fail
      go_ret
      refine ⟨_, rfl, HA.out, ?_⟩
      have hlen := HN.out
      rcases HO.out.2 with ⟨h1, h2⟩ | ⟨g', cap', cur, h1, _, hh, hle, _, hcs, hct⟩
      · exact Or.inl ⟨by rw [List.map_eq_nil_iff]; exact List.length_eq_zero_iff.1 (by omega), ao, ac, by show Value.slice ao k ac = Value.slice ao 0 ac; rw [h2]⟩
      · refine Or.inr ⟨g', 0, cap', by show Value.slice ao k ac = _; rw [h1, List.length_map, ← hlen], fun j hj => ?_⟩
        rw [List.length_map] at hj
        have hxj : j < xs.length := by have := HO.out.1; omega
        obtain ⟨b, hv, hb, hh2⟩ := HX.out j _ (List.getElem?_eq_getElem hxj)
        refine ⟨xs[j], ?_, ?_⟩
        · rw [Nat.zero_add]
          have hc := World.ownsRow.cellAt (h1 ▸ HO.out) j (by omega)
          rw [hc, List.getElem?_eq_getElem hxj]
        · rw [List.getElem_map]
          refine ⟨b, (0, 0), hv, hb, ?_⟩
          rw [hh2]
          simp [List.getElem?_eq_getElem hj]
end Go.Proofs.YtjomocjlnjgkeaaGreat

namespace Go.Proofs.YtjomocjlnjgkeaaGreat
open Go.RowKit

set_option maxHeartbeats 1000000
set_option maxRecDepth 100000

/-- A new compiled function text, not yet counted. -/
def NewPost (w : World) (B : Nat) (t : FT) (e : Ending) (w' : World) : Prop :=
  ∃ b vr vf, e = .returned (ptr b) ∧ After w w' ∧ w.heap.size ≤ b ∧ w'.heap[b]? = some (.cells #[.int .i64 (FT.arity t : Nat), .int .i64 0, .bool false, vr, vf] 60 (0, 0)) ∧
    ∀ w'' : World, (∀ k, B ≤ k → k < w'.heap.size → k ≠ b → w''.heap[k]? = w'.heap[k]?) → TV w'' B (FT.real t) vr ∧ FnV w'' B t vf

theorem NewPost.mk {w W : World} {B : Nat} {t : FT} {vr vf : Value} (ha : After w W) (ht : TV W B (FT.real t) vr) (hf : FnV W B t vf) :
    NewPost w B t (.returned (ptr W.heap.size)) (W.alloc (.cells #[.int .i64 (FT.arity t : Nat), .int .i64 0, .bool false, vr, vf] 60 (0, 0))) := by
  refine ⟨_, vr, vf, rfl, ha.alloc _, ha.size, heap_top _ _, fun w'' hs => ?_⟩
  have hk : ∀ k, B ≤ k → k < W.heap.size → w''.heap[k]? = W.heap[k]? := fun k h1 h2 => by
    rw [hs k h1 (by simp; omega) (by omega)]
    exact (below_new W _).block k h2
  exact ⟨ht.same hk, hf.same hk⟩

theorem ns_len (a : Nat) (ha : a ≤ 3) : (FT.ns a).length = a := by simp [FT.ns]; omega

theorem ns_at (a j : Nat) (ha : a ≤ 3) (hj : j < a) : (#[str [120], str [121], str [122]] : Array Value)[j]? = some (str ((FT.ns a)[j]?.getD [])) := by
  match a, j, ha, hj with
  | 1, 0, _, _ => rfl
  | 2, 0, _, _ => rfl
  | 2, 1, _, _ => rfl
  | 3, 0, _, _ => rfl
  | 3, 1, _, _ => rfl
  | 3, 2, _, _ => rfl

/-- The names of arguments, as a slice. -/
def ArgN (w : World) (g _a : Nat) : Prop := w.heap[g]? = some (.cells #[str [120], str [121], str [122]] 9 (0, 0))

theorem ArgN.strs {w : World} {g a : Nat} (h : ArgN w g a) (ha : a ≤ 3) : StrsB w.heap.size w (.slice (some ⟨g, 0, none⟩) a 3) (FT.ns a) := by
  refine Or.inr ⟨g, 0, 3, by rw [ns_len a ha], (Array.getElem?_eq_some_iff.1 h).1, fun j hj => ?_⟩
  rw [ns_len a ha] at hj
  rw [Nat.zero_add, cell_of_heap h]
  exact ns_at a j ha hj

theorem ArgN.cells {w : World} {g a : Nat} (h : ArgN w g a) (ha : a ≤ 3) : ∀ j, j < (FT.ns a).length → w.cell? ⟨g, j, none⟩ = some (str ((FT.ns a)[j]?.getD [])) := fun j hj => by
  rw [ns_len a ha] at hj
  rw [cell_of_heap h]
  exact ns_at a j ha hj

theorem zeroFn_any (w : World) (B a : Nat) (ha : a ≤ 3) (hB : B ≤ w.heap.size) :
    Calls Tryz.prog 107 #[.int .i64 a] w (NewPost w B (.z a)) := by
  have h1 := argNames_any w a ha
  have hN : ArgN (w.alloc (.cells #[str [120], str [121], str [122]] 9 (0, 0))) w.heap.size a := heap_top _ _
  have hB1 : B ≤ (w.alloc (.cells #[str [120], str [121], str [122]] 9 (0, 0))).heap.size := by simp; omega
  have hW1 := After.new w (.cells #[str [120], str [121], str [122]] 9 (0, 0))
  have h2 := numeral_any (w.alloc (.cells #[str [120], str [121], str [122]] 9 (0, 0))) B 0 hB1 (by omega)
  unfold TermPost at h2
  generalize w.alloc (.cells #[str [120], str [121], str [122]] 9 (0, 0)) = W1 at *
  go_enter Tryz.func107, Tryz.ntmps107
  go_wp2_with (go_at_call 120; refine h1.mono ?_; rintro e w1 ⟨rfl, rfl⟩)
  refine h2.mono ?_
  rintro e w2 ⟨v2, rfl, hb2, ht2⟩
  have hN2 : ArgN w2 w.heap.size a := After.heap hb2 hN
  have h3 := absAll_any w2 B (FT.ns a) _ _ v2 (hN2.strs ha) ht2 (Nat.le_trans hB1 hb2.size) (by rw [ns_len a ha]; omega) (by decide)
  unfold TermPost at h3
  clear h1 h2 ht2 hN hN2
  go_wp2_with fail
  refine h3.mono ?_
  rintro e w3 ⟨v3, rfl, hb3, ht3⟩
  obtain ⟨T3, x3, rfl, _⟩ := ht3.asks
  have HT := Lib.hid ht3
  clear h3 ht3
  go_wp2_with fail
  go_ret
  have hal := (hW1.trans hb2).trans hb3
  exact NewPost.mk hal HT.out rfl

theorem next_any (w : World) (B : Nat) (hB : B ≤ w.heap.size) : Calls Tryz.prog 108 #[] w (NewPost w B .inc) := by
  have h1 := succ_any w B hB
  unfold TermPost at h1
  go_enter Tryz.func108, Tryz.ntmps108
  go_wp2_with fail
  refine h1.mono ?_
  rintro e w1 ⟨v1, rfl, hb1, ht1⟩
  obtain ⟨T1, x1, rfl, _⟩ := ht1.asks
  have HT := Lib.hid ht1
  clear h1 ht1
  go_wp2_with fail
  go_ret
  exact NewPost.mk hb1 HT.out rfl

theorem vs_at (i a : Nat) (hi : i < a) (ha : a ≤ 3) : (FT.vs a).getD i .k = .nm ((FT.ns a)[i]?.getD []) := by
  match a, i, ha, hi with
  | 1, 0, _, _ => rfl
  | 2, 0, _, _ => rfl
  | 2, 1, _, _ => rfl
  | 3, 0, _, _ => rfl
  | 3, 1, _, _ => rfl
  | 3, 2, _, _ => rfl

theorem arg_any (w : World) (B i a : Nat) (hi : i < a) (ha : a ≤ 3) (hB : B ≤ w.heap.size) :
    Calls Tryz.prog 109 #[.int .i64 i, .int .i64 a] w (NewPost w B (.p i a)) := by
  obtain ⟨W0, hW0⟩ : ∃ W0, W0 = w.alloc (.cells #[.int .i64 (i : Nat)] 3 (0, 0)) := ⟨_, rfl⟩
  have h1 := argNames_any W0 a ha
  have a0 : After w W0 := by rw [hW0]; exact After.new _ _
  have g0 : W0.heap[w.heap.size]? = some (.cells #[.int .i64 (i : Nat)] 3 (0, 0)) := by rw [hW0]; exact heap_top _ _
  obtain ⟨W1, hW1⟩ : ∃ W1, W1 = W0.alloc (.cells #[str [120], str [121], str [122]] 9 (0, 0)) := ⟨_, rfl⟩
  have hN : ArgN W1 W0.heap.size a := by rw [hW1]; exact heap_top _ _
  have a1 : After W0 W1 := by rw [hW1]; exact After.new _ _
  rw [← hW1] at h1
  have hci := cell_later' (cell_of_heap (i := 0) g0) W1 a1
  have hni := cell_of_heap (i := i) hN
  rw [ns_at a i ha hi] at hni
  obtain ⟨nm, hnm⟩ : ∃ nm, nm = (FT.ns a)[i]?.getD [] := ⟨_, rfl⟩
  rw [← hnm] at hni
  obtain ⟨W2, hW2⟩ : ∃ W2, W2 = W1.alloc (.cells #[str nm] 100 (0, 0)) := ⟨_, rfl⟩
  have a2 : After W1 W2 := by rw [hW2]; exact After.new _ _
  have hsz : B ≤ W2.heap.size := Nat.le_trans hB (Nat.le_trans a0.size (Nat.le_trans a1.size a2.size))
  have hT2 : TV W2 B (.nm nm) (.iface 96 (ptr W1.heap.size)) := ⟨_, (0, 0), rfl, Nat.le_trans hB (Nat.le_trans a0.size a1.size), by rw [hW2]; exact heap_top _ _⟩
  have h3 := absAll_any W2 B (FT.ns a) _ _ _ ((show ArgN W2 W0.heap.size a from a2.heap hN).strs ha) hT2 hsz (by rw [ns_len a ha]; omega) (by simp [Tm.size])
  rw [hnm, ← vs_at i a hi ha] at h3
  unfold TermPost at h3
  have hi' : (i : Int) < (a : Int) := by omega
  have HN := Lib.hid hnm
  have HW0 := Lib.hid hW0
  have HW2 := Lib.hid hW2
  clear hN hT2 hnm hW0 hW1 hW2
  go_enter Tryz.func109, Tryz.ntmps109
  go_wp2_with fail
  rw [← HW0.out]
  refine h1.mono ?_
  rintro e w1 ⟨rfl, rfl⟩
  clear h1
  go_wp2_with fail
  rw [← HW2.out]
  refine h3.mono ?_
  rintro e w3 ⟨v3, rfl, hb3, ht3⟩
  obtain ⟨T3, x3, rfl, _⟩ := ht3.asks
  have HT := Lib.hid ht3
  clear h3 ht3 hci hni
  go_wp2_with fail
  go_ret
  have hall := ((a0.trans a1).trans a2).trans hb3
  exact NewPost.mk hall HT.out ⟨_, rfl, hB, ((a1.trans a2).trans hb3).heap g0⟩
end Go.Proofs.YtjomocjlnjgkeaaGreat
