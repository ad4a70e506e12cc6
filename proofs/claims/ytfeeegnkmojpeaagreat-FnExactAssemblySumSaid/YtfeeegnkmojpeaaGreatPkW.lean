/-
  toStringSS, toAssembly: what they hand back is all of their own.
-/
import Derived.Test.YtfeeegnkmojpeaaGreatPkN
import Derived.Test.YtfeeegnkmojpeaaGreatPkY
import Derived.Test.YtfeeegnkmojpeaaGreatPkZ
namespace Go.Proofs.YtfeeegnkmojpeaaGreat
open Go.RowKit

set_option maxHeartbeats 1000000
set_option maxRecDepth 100000

theorem l_to_none2 (w : World) (ao : Option Addr) (cap : Nat) :
    Calls Tryz.prog 102 #[.slice ao 0 cap] w fun e w' =>
      e = .returned (.slice (some ⟨w.heap.size, 0, none⟩) 0 0) ∧ w.grownBy w' none ∧ w'.ownsRow w.heap.size 9 1 (.slice (some ⟨w.heap.size, 0, none⟩) 0 0) 0 [] := by
  have hi : ∃ i, (Tryz.prog).info? 9 = some i ∧ i.zero = some (str []) ∧ i.size = 1 ∧ i.bytes = 16 := ⟨_, rfl, rfl, rfl, rfl⟩
  obtain ⟨i0, hi, hz0, hz1, hz2⟩ := hi
  go_enter Tryz.func102, Tryz.ntmps102
  go_wp2_with (at_make; refine wpList_make_full _ rfl _ _ _ rfl w.heap.size 9 i0 (str []) 1 rfl hi hz0 hz1 .i64 .i64 _ _ 0 rfl rfl rfl rfl (by rw [hz2]; omega) (by unfold maxLen; omega) (Nat.le_refl _) ?_; intro w1 ho hg)
  have HO : Hid (w1.ownsRow w.heap.size 9 1 (.slice (some ⟨w.heap.size, 0, none⟩) 0 0) 0 []) := by rw [made_fill 0 []] at ho; exact ho
  clear ho
  go_loop [4] (fun i => i = .int .i64 0) (fun _ => 0)
  case atStart => rfl
  case round =>
    obtain rfl := hrel
    go_wp2_with fail
    go_ret
    exact ⟨rfl, hg, HO.out⟩

theorem l_toU2 (w : World) (sv : Value) (ns : List (List UInt8)) (h : StrsU 0 w sv ns) (hn : ns.length ≤ 1048576) :
    Calls Tryz.prog 102 #[sv] w fun e w' =>
      e = .returned (.slice (some ⟨w.heap.size, 0, none⟩) ns.length ns.length) ∧ w'.ownsRow w.heap.size 9 1 (.slice (some ⟨w.heap.size, 0, none⟩) ns.length ns.length) ns.length (ns.map str) ∧ After w w' := by
  obtain ⟨ao, cap, rfl, hc⟩ := h
  by_cases h0 : ns = []
  · subst h0
    refine (l_to_none2 w ao cap).mono ?_
    rintro e w' ⟨rfl, hg, ho⟩
    exact ⟨rfl, ho, (Below.refl _ _).grown hg (Nat.le_refl _) (fun k hk => by cases hk)⟩
  · have hpos : 0 < ns.length := List.length_pos_iff.2 h0
    obtain ⟨b, off, rfl, _, hc0⟩ := hc 0 hpos
    have hc' : ∀ j, j < ns.length → w.cell? ⟨b, off + j, none⟩ = some (str (ns[j]?.getD [])) := fun j hj => by
      obtain ⟨b', off', e, _, h⟩ := hc j hj
      simp only [Option.some.injEq, Addr.mk.injEq, and_true] at e
      obtain ⟨rfl, rfl⟩ := e
      exact h
    refine (l_to_some w b off cap ns hn (World.block_lt_of_cell? _ _ hc0) hc').mono ?_
    rintro e w' ⟨rfl, ho, hg⟩
    exact ⟨rfl, ho, (Below.refl _ _).grown hg (Nat.le_refl _) (fun k hk => by cases hk)⟩

theorem l_toSS2 (w : World) (sv : Value) (a : List (List (List UInt8))) (h : SSU 0 w sv a) (hl : Lens 1048576 a) :
    Calls Tryz.prog 62 #[sv] w fun e w' =>
      ∃ sv', e = .returned sv' ∧ OwnSS w' w.heap.size sv' a ∧ After w w' := by
  obtain ⟨f, ⟨ao, cap, rfl, hc⟩, hf⟩ := h
  obtain ⟨hn, hz⟩ := hl
  obtain ⟨n, hn'⟩ : ∃ n, n = a.length := ⟨_, rfl⟩
  have hcall : ∀ j, j < n → ∀ W, After w W → Calls Tryz.prog 102 #[f j] W fun e w' =>
      e = .returned (.slice (some ⟨W.heap.size, 0, none⟩) (a.getD j []).length (a.getD j []).length) ∧ w'.ownsRow W.heap.size 9 1 (.slice (some ⟨W.heap.size, 0, none⟩) (a.getD j []).length (a.getD j []).length) (a.getD j []).length ((a.getD j []).map str) ∧ After W w' := fun j hj W hW => by
    have hj' : j < a.length := by omega
    have hm : a.getD j [] ∈ a := by rw [List.getD, List.getElem?_eq_getElem hj']; exact List.getElem_mem hj'
    exact l_toU2 W (f j) _ ((hf j hj').later hW) (hz _ hm).1
  have hform : ∀ j, j < n → ∃ ao' m c, f j = .slice ao' m c := fun j hj => by
    obtain ⟨ao', c, e, _⟩ := hf j (by omega)
    exact ⟨_, _, _, e⟩
  rw [← hn'] at hc hn ⊢
  have HN := Lib.hid hn'
  have HC := Lib.hid hc
  have HCALL := Lib.hid hcall
  have HF := Lib.hid hform
  clear hn' hc hz hcall hform hf
  have hi : ∃ i, (Tryz.prog).info? 69 = some i ∧ i.zero = some (.slice none 0 0) ∧ i.size = 1 ∧ i.bytes = 24 := ⟨_, rfl, rfl, rfl, rfl⟩
  obtain ⟨i0, hi, hz0, hz1, hz2⟩ := hi
  go_enter Tryz.func62, Tryz.ntmps62
  go_wp2_with (at_make; refine wpList_make_full _ rfl _ _ _ rfl w.heap.size 69 i0 (.slice none 0 0) 1 rfl hi hz0 hz1 .i64 .i64 _ _ n rfl rfl rfl rfl (by rw [hz2]; omega) (by unfold maxLen; omega) (Nat.le_refl _) ?_; intro w1 ho hg)
  rw [made_nils n] at ho
  have hstart : Hid (w1.ownsRow w.heap.size 69 1 (.slice (some ⟨w.heap.size, 0, none⟩) n n) n (List.replicate n (Value.slice none 0 0))) := ho
  obtain ⟨g, hgg⟩ : ∃ g, g = w.heap.size := ⟨_, rfl⟩
  have hgw1 : g < w1.heap.size := by
    rcases ho.2 with ⟨h, _⟩ | ⟨g', cp, cur, h, _, hh, _⟩
    · cases h
    · cases h
      rw [hgg]
      exact (Array.getElem?_eq_some_iff.1 hh).1
  rw [← hgg] at hstart
  have HG := Lib.hid hgg
  simp only [← hgg]
  clear ho hgg
  go_loopw [4] (fun i wr => ∃ (k : Nat) (fs : List Value), i = .int .i64 k ∧ k ≤ n ∧ Hid (fs.length = k) ∧ Hid (wr.ownsRow g 69 1 (.slice (some ⟨g, 0, none⟩) n n) n (fs ++ List.replicate (n - k) (Value.slice none 0 0))) ∧ Hid (∀ j, j < k → wr.ownsRow (g + 1) 9 1 (fs.getD j undef) (a.getD j []).length ((a.getD j []).map str)) ∧ Hid (∀ (i j : Nat) (ri rj : Value), i < j → fs[i]? = some ri → fs[j]? = some rj → ri.ownBlock = none ∨ ri.ownBlock ≠ rj.ownBlock) ∧ g < wr.heap.size ∧ w.grownBy wr none) (fun i _ => n - (intOf i).toNat)
  case atStart => exact ⟨0, [], rfl, Nat.zero_le _, by show _ = _; rfl, by show World.ownsRow _ _ _ _ _ _ _; exact hstart.out, by show ∀ j, _; exact fun j hj => absurd hj (Nat.not_lt_zero j), by show ∀ i, _; exact fun i j ri rj _ h => by simp at h, hgw1, hg⟩
  case round =>
    obtain ⟨k, fs, rfl, hk, hfs, hrow, hrows, hdist, hgs, hgr⟩ := hrel
    clear hstart hg hgw1
    have hA : After w wr := ⟨hgr.os, hgr.tape, hgr.output, hgr.size, fun q hq => hgr.block q hq (by simp)⟩
    by_cases hlt : k < n
    · obtain ⟨b, off, rfl, _, h1⟩ := HC.out k hlt
      obtain ⟨ao', m', c', hfk⟩ := HF.out k hlt
      have hcall := HCALL.out k hlt wr hA
      have h1' := hA.cell h1
      rw [hfk] at h1' hcall
      have hlt' : (k : Int) < (n : Int) := by omega
      clear hfk h1
      go_wp2_with fail
      refine hcall.mono ?_
      rintro e w2 ⟨rfl, hst, hb2⟩
      have hrow2 := hrow.out.kept (row := none) (⟨hb2.os, hb2.tape, hb2.output, hb2.size, fun k hk _ => hb2.block k hk⟩) (Or.inr (by simp [Value.ownBlock]))
      have h2 := (hrow2.cellAt k (by omega)).trans (fill_at hfs.out hlt)
      have h3 := hrow2.frozenAt k
      have HR2 := Lib.hid hrow2
      have HST := Lib.hid hst
      clear hrow2 hst hcall
      obtain ⟨m, hm⟩ : ∃ m, m = (a.getD k []).length := ⟨_, rfl⟩
      rw [← hm]
      have HM := Lib.hid hm
      clear hm
      go_wp2_with fail
      go_roundw
      case rel =>
        have hkeep : ∀ (b : Nat) (cs : Array Value) (fr : Nat × Nat), w2.heap[b]? = some (.cells cs 9 fr) → (w2.setCell ⟨g, k, none⟩ (.slice (some ⟨wr.heap.size, 0, none⟩) m m)).heap[b]? = some (.cells cs 9 fr) := fun b cs fr hb => by
          rw [Below.heap_setCell _ _ _ _ (fun e => by
            have e' : b = g := e
            subst e'
            rcases HR2.out.2 with ⟨h, _⟩ | ⟨g', cp, cur, h, _, hh, _⟩
            · cases h
            · injection h with h
              injection h with h
              injection h with h
              subst h
              rw [hh] at hb
              injection hb with hb
              injection hb with _ hb _
              exact absurd hb (by decide))]
          exact hb
        refine ⟨k + 1, fs ++ [.slice (some ⟨wr.heap.size, 0, none⟩) m m], by go_num, by omega, ?_, ?_, ?_, ?_, ?_, ?_⟩
        · show _ = _; simp [hfs.out]
        · show World.ownsRow _ _ _ _ _ _ _
          have h := (HR2.out.stored k (.slice (some ⟨wr.heap.size, 0, none⟩) m m)).1
          rw [fill_set hfs.out hlt] at h
          exact h
        · show ∀ j, _
          intro j hj
          by_cases hjk : j < k
          · rw [List.getD, List.getElem?_append_left (by rw [hfs.out]; exact hjk), ← List.getD]
            exact own_keptT (own_later (hrows.out j hjk) hb2) hkeep
          · obtain rfl : j = k := by omega
            rw [List.getD, List.getElem?_append_right (by rw [hfs.out]; exact Nat.le_refl _), hfs.out, Nat.sub_self]
            have h := HST.out
            rw [← HM.out] at h ⊢
            exact own_keptT (own_mono h (by omega)) hkeep
        · show ∀ i, _
          intro i j ri rj hij hi hj
          by_cases hjl : j < k
          · rw [List.getElem?_append_left (by rw [hfs.out]; omega)] at hi
            rw [List.getElem?_append_left (by rw [hfs.out]; exact hjl)] at hj
            exact hdist.out i j ri rj hij hi hj
          · have hj2 := (List.getElem?_eq_some_iff.1 hj).1
            rw [List.length_append, hfs.out, List.length_singleton] at hj2
            obtain rfl : j = k := by omega
            rw [List.getElem?_append_left (by rw [hfs.out]; exact hij)] at hi
            rw [List.getElem?_append_right (by rw [hfs.out]; exact Nat.le_refl _), hfs.out, Nat.sub_self] at hj
            have e : rj = .slice (some ⟨wr.heap.size, 0, none⟩) m m := by simpa using hj.symm
            have hro := hrows.out i hij
            rw [List.getD, hi] at hro
            cases hb : ri.ownBlock with
            | none => exact Or.inl rfl
            | some q =>
              right
              rw [e]
              intro e2
              have := (hro.lt q hb).2
              simp only [Value.ownBlock, Option.some.injEq] at e2
              omega
        · have := hb2.size
          show g < (w2.setCell _ _).heap.size
          simp [World.setCell]; omega
        · refine ⟨hb2.os.trans hgr.os, hb2.tape.trans hgr.tape, hb2.output.trans hgr.output, by have h1 := hgr.size; have h2 := hb2.size; simp [World.setCell]; omega, fun b' hb' hne => ?_⟩
          rw [Below.heap_setCell _ _ _ _ (fun e => absurd ((show b' = g from e).trans HG.out) (Nat.ne_of_lt hb')), hb2.block b' (Nat.lt_of_lt_of_le hb' hgr.size)]
          exact hgr.block b' hb' hne
      case measure => simp [intOf]; omega
    · obtain rfl : k = n := by omega
      have HR := Lib.hid hrow.out
      clear hrow
      go_wp2_with fail
      go_ret
      have h := HR.out
      rw [Nat.sub_self, List.replicate_zero, List.append_nil] at h
      rw [← HG.out]
      refine ⟨.slice (some ⟨g, 0, none⟩) k k, rfl, ⟨fs, by rw [← HN.out]; exact h, fun j hj => ?_, hdist.out⟩, hA⟩
      have hj' : j < k := by rw [HN.out]; exact hj
      have hjf : j < fs.length := by rw [hfs.out]; exact hj'
      have hr := hrows.out j hj'
      rw [List.getD, List.getElem?_eq_getElem hjf] at hr
      exact ⟨fs[j], List.getElem?_eq_getElem hjf, own_mono hr (by omega)⟩
theorem own_less' {w : World} {base base' : Nat} {sv : Value} {a : List (List (List UInt8))} (h : OwnSS w base sv a) (hB : base' ≤ base) : OwnSS w base' sv a := by
  obtain ⟨cs, ho, hc, hd⟩ := h
  exact ⟨cs, own_mono ho hB, fun j hj => by obtain ⟨rv, h1, h2⟩ := hc j hj; exact ⟨rv, h1, own_mono h2 hB⟩, hd⟩

theorem l_toAsm2 (w : World) (sv : Value) (a : List (List (List UInt8))) (h : SSU 0 w sv a) (hl : Lens 1048576 a) :
    Calls Tryz.prog 25 #[.agg #[sv]] w fun e w' =>
      ∃ sv', e = .returned (.agg #[sv']) ∧ OwnSS w' w.heap.size sv' a ∧ After w w' := by
  have hcall := fun W (hW : After w W) => l_toSS2 W sv a (h.later hW) hl
  obtain ⟨ao, cap, rfl⟩ := h.form
  generalize a.length = n at *
  obtain ⟨os, hos⟩ : ∃ os : List Obj, os = [.cells #[.slice ao n cap] 43, .cells #[.slice none 0 0] 25, .cells #[.slice none 0 0] 25] := ⟨_, rfl⟩
  have hX : allocL w os = ((w.alloc (.cells #[.slice ao n cap] 43)).alloc (.cells #[.slice none 0 0] 25)).alloc (.cells #[.slice none 0 0] 25) := by rw [hos]; rfl
  have hA : After w (allocL w os) := allocL_below w os
  have h1 : (allocL w os).heap[w.heap.size + 1]? = some (.cells #[.slice none 0 0] 25 (0, 0)) := by have := allocL_heap w os 1 (by rw [hos]; simp); simpa [hos] using this
  have h2 : (allocL w os).heap[w.heap.size + 1 + 1]? = some (.cells #[.slice none 0 0] 25 (0, 0)) := by have := allocL_heap w os 2 (by rw [hos]; simp); simpa [hos] using this
  have hs : (allocL w os).heap.size = w.heap.size + 3 := by rw [hX]; simp
  rw [hX] at hA h1 h2 hs
  have H1 := Lib.hid h1
  have H2 := Lib.hid h2
  have HS := Lib.hid hs
  have hc := hcall _ hA
  have HA := Lib.hid hA
  clear hos hX h h1 h2 hs hcall hA hl
  go_enter Tryz.func25, Tryz.ntmps25
  go_wp2_with fail
  refine hc.mono ?_
  rintro e w1 ⟨sv', rfl, hsv, hb1⟩
  obtain ⟨ao', cap', rfl⟩ := hsv.form
  obtain ⟨r0, f0, z0⟩ := one_facts H1.out hb1
  obtain ⟨r1, f1, z1⟩ := one_facts H2.out hb1
  have HSV := Lib.hid hsv
  clear hc hsv
  generalize a.length = n' at *
  go_wp2_with fail
  refine bodyPost_ret (v := .agg #[.slice ao' n' cap']) (by simp [results, Tryz.results25, go_sem, r0]) rfl ⟨_, rfl, ?_, ?_⟩
  · refine own_less' (base := w.heap.size + 3) (OwnSS.keptT (by have := HSV.out; rw [HS.out] at this; exact this) fun b cs T fr hT hb => ?_) (by omega)
    have hh1 := hb1.heap H1.out
    have hh2 := hb1.heap H2.out
    rw [Below.heap_setCell _ _ _ _ (fun e => by have e' : b = w.heap.size + 1 := e; subst e'; rw [hh1] at hb; injection hb with hb; injection hb with _ hb _; exact hT hb.symm), Below.heap_setCell _ _ _ _ (fun e => by have e' : b = w.heap.size + 1 + 1 := e; subst e'; rw [hh2] at hb; injection hb with hb; injection hb with _ hb _; exact hT hb.symm)]
    exact hb
  · exact Below.setCell (Below.setCell (HA.out.trans hb1) (by show w.heap.size ≤ w.heap.size + 1 + 1; omega) _) (by show w.heap.size ≤ w.heap.size + 1; omega) _

end Go.Proofs.YtfeeegnkmojpeaaGreat

namespace Go.Proofs.YtfeeegnkmojpeaaGreat
open Go.RowKit

set_option maxHeartbeats 2000000
set_option maxRecDepth 100000

def Sp.asm (a : List (List (List UInt8))) : Sp := ⟨fun v w => ∃ s, v = .agg #[s] ∧ SSU 0 w s a, fun _ _ _ ⟨s, e, h⟩ ha => ⟨s, e, h.later ha⟩⟩
def Sp.asmO (C : Nat) (a : List (List (List UInt8))) : Sp := ⟨fun v w => ∃ s, v = .agg #[s] ∧ OwnSS w C s a, fun _ _ _ ⟨s, e, h⟩ ha => ⟨s, e, h.later ha⟩⟩
def Sp.res (C : Nat) (a : List (List (List UInt8))) (b : Bool) : Sp := ⟨fun v w => ∃ s, v = .tuple #[.agg #[s], .bool b] ∧ OwnSS w C s a, fun _ _ _ ⟨s, e, h⟩ ha => ⟨s, e, h.later ha⟩⟩
def Sp.cellA (C : Nat) : Sp := ⟨fun v w => ∃ b, v = .pointer (some ⟨b, 0, none⟩) ∧ C ≤ b ∧ w.heap[b]? = some (.cells #[.slice none 0 0] 25 (0, 0)), fun _ _ _ ⟨b, e, h, h2⟩ ha => ⟨b, e, h, ha.heap h2⟩⟩

def putL (a : Act) : List (Option Tmp) → (Nat → Value) → Nat → Act
  | [], _, _ => a
  | d :: ds, vs, i => putL (a.put d (vs i)) ds vs (i + 1)
theorem putL_snoc (vs : Nat → Value) (d : Option Tmp) : ∀ (ds : List (Option Tmp)) (a : Act) (i : Nat), putL a (ds ++ [d]) vs i = (putL a ds vs i).put d (vs (i + ds.length))
  | [], a, i => rfl
  | e :: ds, a, i => by
    show putL (a.put e (vs i)) (ds ++ [d]) vs (i + 1) = _
    rw [putL_snoc vs d ds]
    show _ = (putL (a.put e (vs i)) ds vs (i + 1)).put d (vs (i + (ds.length + 1)))
    rw [show i + 1 + ds.length = i + (ds.length + 1) by omega]
theorem frame_ds {a : Act} {ops : Array Oper} {vs : Nat → Value} (ds : List (Option Tmp)) (h : (List.range ops.size).map (dstOf ops) = ds) : frame a ops vs = putL a ds vs 0 := by
  have key : ∀ n, putAll a (dstOf ops) vs n = putL a ((List.range n).map (dstOf ops)) vs 0 := by
    intro n
    induction n with
    | zero => rfl
    | succ n ih =>
      rw [List.range_succ, List.map_append]
      show (putAll a (dstOf ops) vs n).put (dstOf ops n) (vs n) = putL a (_ ++ [dstOf ops n]) vs 0
      rw [putL_snoc, ih, List.length_map, List.length_range, Nat.zero_add]
  subst h
  exact key _

theorem put_dst {a : Act} {ops : Array Oper} {i : Nat} {v : Value} {d : Option Tmp} (h : dstOf ops i = d) : a.put (dstOf ops i) v = a.put d v := by rw [h]
theorem lt10n9 {q : Nat → Prop} (h0 : q 0) (h1 : q 1) (h2 : q 2) (h3 : q 3) (h4 : q 4) (h5 : q 5) (h6 : q 6) (h7 : q 7) (h8 : q 8) : ∀ i, i < 10 → i ≠ 9 → q i := fun i hi hne => lt9 h0 h1 h2 h3 h4 h5 h6 h7 h8 i (by omega)

section
variable {ops : Array Oper} {Q : Exit → Act → World → Prop} {A : Act} {i : Nat} {w : World} {K : Act → World → Prop}
theorem run_lda {x : Operand} {p : Addr} {v : Value} (hop : (opAt ops i).op = .load 43 x) (hx : A.eval x = .pointer (some p)) (hc : w.cell? p = some v) :
    (execOp A.eval (opAt ops i)).run Tryz.prog w = .ok (.value (.agg #[v])) w := by
  unfold execOp
  simp only [hop, hx]
  obtain ⟨b, off, spot⟩ := p
  simp [go_sem, hc]
theorem run_ex0 {x : Operand} {u a b : Value} (hop : (opAt ops i).op = .extract x 0) (hx : A.eval x = u) (hu : u = .tuple #[a, b]) : (execOp A.eval (opAt ops i)).run Tryz.prog w = .ok (.value a) w := by
  subst hu
  unfold execOp
  simp only [hop, hx]
  kernel_rfl
theorem run_ex1 {x : Operand} {u a b : Value} (hop : (opAt ops i).op = .extract x 1) (hx : A.eval x = u) (hu : u = .tuple #[a, b]) : (execOp A.eval (opAt ops i)).run Tryz.prog w = .ok (.value b) w := by
  subst hu
  unfold execOp
  simp only [hop, hx]
  kernel_rfl
theorem run_alA (hop : (opAt ops i).op = .alloc 25) : (execOp A.eval (opAt ops i)).run Tryz.prog w = .ok (.value (.pointer (some ⟨w.heap.size, 0, none⟩))) (w.alloc (.cells #[.slice none 0 0] 25)) := by
  unfold execOp
  simp only [hop]
  kernel_rfl
theorem do_stA {x y : Operand} {u u' s : Value} {b C : Nat} {z : List (List (List UInt8))} (hs : (ops[i]?).isSome = true) (hop : (opAt ops i).op = .store 25 x y) (hg : (opAt ops i).guard = none) (hd : dstOf ops i = none) (hx : A.eval x = u) (hu : u = .pointer (some ⟨b, 0, none⟩)) (hy : A.eval y = u') (hu' : u' = .agg #[s])
    (ho : OwnSS w C s z) (hb : w.heap[b]? = some (.cells #[.slice none 0 0] 25 (0, 0)))
    (hK : ∀ W, W.heap[b]? = some (.cells #[s] 25 (0, 0)) → OwnSS W C s z → (∀ {Y : World}, Y.heap.size ≤ w.heap.size → Y.heap.size ≤ b → Below Y.heap.size w W) → K (A.put (dstOf ops i) undef) W) : OpDo Tryz.prog ops Q A i w K := by
  rw [hd] at hK
  subst hu hu'
  obtain ⟨ao, cap, rfl⟩ := ho.form
  have r0 : w.cell? ⟨b, 0, none⟩ = some (.slice none 0 0) := cell_of_heap hb
  have f0 : w.frozen? ⟨b, 0, none⟩ = false := by simp [World.frozen?, hb]
  have hst : (Instr.storeAt 25 (.pointer (some ⟨b, 0, none⟩)) (.agg #[.slice ao z.length cap])).run Tryz.prog w = .ok () (w.setCell ⟨b, 0, none⟩ (.slice ao z.length cap)) := by
    simp [go_sem, r0, f0]
  constructor
  rw [opAt_of hs]
  simp only [wanted_of hg, if_true]
  unfold Oper.wp execOp
  simp only [hop, hx, hy, Sem.run_bind, hst, Result.andThen_ok, Sem.run_pure, Oper.upon_skip]
  rw [opAt_dst hs, hd]
  refine hK _ ?_ (ho.keptT fun b' cs T fr hT hb' => ?_) (fun {Y} h1 h2 => Below.setCell (Below.refl _ _) h2 _)
  · simp [World.setCell, Array.getElem?_modify, hb]
  · rw [Below.heap_setCell _ _ _ _ (fun e => by have e' : b' = b := e; subst e'; rw [hb] at hb'; injection hb' with hb'; injection hb' with _ hb' _; exact hT hb'.symm)]
    exact hb'
end

theorem own_hi {w w' : World} {base hi : Nat} (hf : FrameHi hi w w') (hb : hi ≤ base) {E : TypeId} {n : Nat} {v : Value} {vs : List Value} (h : w.ownsRow base E 1 v n vs) : w'.ownsRow base E 1 v n vs := by
  refine ⟨h.1, ?_⟩
  rcases h.2 with h | ⟨g, cap, cur, h1, h2, h3, h4⟩
  · exact Or.inl h
  · exact Or.inr ⟨g, cap, cur, h1, h2, by rw [hf g (by omega) (Array.getElem?_eq_some_iff.1 h3).1]; exact h3, h4⟩
theorem OwnSS.hi {w w' : World} {base hi : Nat} {sv : Value} {a : List (List (List UInt8))} (h : OwnSS w base sv a) (hf : FrameHi hi w w') (hb : hi ≤ base) : OwnSS w' base sv a := by
  obtain ⟨cs, ho, hc, hd⟩ := h
  exact ⟨cs, own_hi hf hb ho, fun j hj => by obtain ⟨rv, h1, h2⟩ := hc j hj; exact ⟨rv, h1, own_hi hf hb h2⟩, hd⟩
theorem RowsLo.hi {w w' : World} {base hi hi' : Nat} {sv : Value} {a : List (List (List UInt8))} (h : RowsLo hi' w base sv a.length) (ho : OwnSS w base sv a) (hf : FrameHi hi w w') (hb : hi ≤ base) : RowsLo hi' w' base sv a.length := by
  intro cs' hcs'
  obtain ⟨cs, ho, _⟩ := ho
  obtain rfl := own_unique hcs' (own_hi hf hb ho)
  exact h _ ho

theorem offA_le' (m : Nat) (a : List (List (List UInt8))) (h : ∀ ns ∈ a, ns.length ≤ m) : ∀ j, j ≤ a.length → offA a j ≤ j * m
  | 0, _ => by simp [offA]
  | j + 1, hj => by
    rw [offA_succ, Nat.succ_mul]
    have h1 := offA_le' m a h j (by omega)
    have h2 : (a.getD j []).length ≤ m := h _ (by rw [List.getD, List.getElem?_eq_getElem (show j < a.length by omega)]; exact List.getElem_mem _)
    omega
end Go.Proofs.YtfeeegnkmojpeaaGreat

namespace Go.Proofs.YtfeeegnkmojpeaaGreat
open Go.RowKit

set_option maxHeartbeats 1000000
set_option maxRecDepth 100000

theorem l_szU2 (w : World) (sv : Value) (ns : List (List UInt8)) (L0 : Int) (h : StrsU 0 w sv ns) (hn : ns.length ≤ 9223372036854775807) (hz : ∀ s ∈ ns, s.length ≤ 9223372036854775807) (h0 : 0 ≤ L0) (h1 : L0 ≤ 1048576) :
    Calls Tryz.prog 101 #[sv, .int .i64 L0] w fun e w' =>
      (∃ r : Int, e = .returned (.int .i64 r) ∧ r ≤ 1048576 ∧ -9223372036854775808 ≤ r ∧ (0 ≤ r → (ns.length ≤ 1048576 ∧ ∀ s ∈ ns, s.length ≤ 1048576) ∧ r + (ns.length : Int) ≤ L0)) ∧ w = w' := by
  obtain ⟨ao, cap, rfl, hc⟩ := h
  obtain ⟨n, hn'⟩ : ∃ n, n = ns.length := ⟨_, rfl⟩
  have hz' : ∀ j, j < n → (ns.getD j []).length ≤ 9223372036854775807 := fun j hj => by
    have hj' : j < ns.length := by omega
    rw [List.getD, List.getElem?_eq_getElem hj']
    exact hz _ (List.getElem_mem hj')
  have hall : (∀ j, j < n → (ns.getD j []).length ≤ 1048576) → ∀ s ∈ ns, s.length ≤ 1048576 := fun h s hs => by
    obtain ⟨j, hj, rfl⟩ := List.getElem_of_mem hs
    have := h j (by omega)
    rwa [List.getD, List.getElem?_eq_getElem hj] at this
  rw [← hn'] at hc hn ⊢
  have HN := Lib.hid hn'
  have HC := Lib.hid hc
  have HZ := Lib.hid hz'
  have HALL := Lib.hid hall
  clear hn' hc hz hz' hall
  by_cases hbig : L0 - (n : Int) < 0
  · go_enter Tryz.func101, Tryz.ntmps101
    go_wp2_with fail
    go_ret
    exact ⟨⟨-1, rfl, by omega, by omega, fun h => absurd h (by omega)⟩, rfl⟩
  · go_enter Tryz.func101, Tryz.ntmps101
    go_wp2_with fail
    go_loop [1, 5] (fun l i => ∃ (k : Nat) (L : Int), l = .int .i64 L ∧ i = .int .i64 k ∧ k ≤ n ∧ 0 ≤ L ∧ L ≤ 1048576 ∧ L + (n : Int) ≤ L0 ∧ ∀ j, j < k → (ns.getD j []).length ≤ 1048576) (fun _ i => n - (intOf i).toNat)
    case atStart => exact ⟨0, _, rfl, rfl, Nat.zero_le _, by omega, by omega, by omega, fun j hj => absurd hj (Nat.not_lt_zero j)⟩
    case round =>
      obtain ⟨k, L, rfl, rfl, hk, hL0, hL1, hLs, hall⟩ := hrel
      have HL := Lib.hid hall
      clear hall
      by_cases hlt : k < n
      · obtain ⟨b, off, rfl, _, h1⟩ := HC.out k hlt
        have h2 := HZ.out k hlt
        obtain ⟨z, hz⟩ : ∃ z, z = ns.getD k [] := ⟨_, rfl⟩
        rw [← hz] at h1 h2
        have HZ2 := Lib.hid hz
        clear hz
        have hlt' : (k : Int) < (n : Int) := by omega
        have hsz := str_sizeZ z
        by_cases hneg : L - (z.length : Int) < 0
        · go_wp2_with fail
          go_ret
          exact ⟨⟨-1, rfl, by omega, by omega, fun h => absurd h (by omega)⟩, rfl⟩
        · go_wp2_with fail
          go_round
          case rel =>
            refine ⟨k + 1, L - z.length, by go_num, by go_num, by omega, by omega, by omega, by omega, fun j hj => ?_⟩
            by_cases e : j = k
            · rw [e, ← HZ2.out]; omega
            · exact HL.out j (by omega)
          case measure => simp [intOf]; omega
      · obtain rfl : k = n := by omega
        go_wp2_with fail
        go_ret
        exact ⟨⟨L, rfl, by omega, by omega, fun _ => ⟨⟨by omega, HALL.out HL.out⟩, by omega⟩⟩, rfl⟩

theorem l_szSS2 (w : World) (sv : Value) (a : List (List (List UInt8))) (L0 : Int) (h : SSU 0 w sv a) (hl : Lens 9223372036854775807 a) (h0 : 0 ≤ L0) (h1 : L0 ≤ 1048576) :
    Calls Tryz.prog 61 #[sv, .int .i64 L0] w fun e w' =>
      (∃ r : Int, e = .returned (.int .i64 r) ∧ r ≤ 1048576 ∧ -9223372036854775808 ≤ r ∧ (0 ≤ r → Lens 1048576 a ∧ r + (offA a a.length : Int) ≤ L0)) ∧ w = w' := by
  obtain ⟨f, ⟨ao, cap, rfl, hc⟩, hf⟩ := h
  obtain ⟨hn, hz⟩ := hl
  have h00 : offA a 0 = 0 := rfl
  obtain ⟨n, hn'⟩ : ∃ n, n = a.length := ⟨_, rfl⟩
  have hcall : ∀ j, j < n → ∀ L : Int, 0 ≤ L → L ≤ 1048576 → Calls Tryz.prog 101 #[f j, .int .i64 L] w fun e w' =>
      (∃ r : Int, e = .returned (.int .i64 r) ∧ r ≤ 1048576 ∧ -9223372036854775808 ≤ r ∧ (0 ≤ r → ((a.getD j []).length ≤ 1048576 ∧ ∀ s ∈ a.getD j [], s.length ≤ 1048576) ∧ r + ((a.getD j []).length : Int) ≤ L)) ∧ w = w' := fun j hj L hL0 hL1 => by
    have hj' : j < a.length := by omega
    have hm : a.getD j [] ∈ a := by rw [List.getD, List.getElem?_eq_getElem hj']; exact List.getElem_mem hj'
    exact l_szU2 w (f j) _ L (hf j hj') (hz _ hm).1 (hz _ hm).2 hL0 hL1
  have hform : ∀ j, j < n → ∃ ao' m c, f j = .slice ao' m c := fun j hj => by
    obtain ⟨ao', c, e, _⟩ := hf j (by omega)
    exact ⟨_, _, _, e⟩
  have hall : n ≤ 1048576 → (∀ j, j < n → (a.getD j []).length ≤ 1048576 ∧ ∀ s ∈ a.getD j [], s.length ≤ 1048576) → Lens 1048576 a := fun hb h => ⟨by omega, fun ns hs => by
    obtain ⟨j, hj, rfl⟩ := List.getElem_of_mem hs
    have := h j (by omega)
    rwa [List.getD, List.getElem?_eq_getElem hj] at this⟩
  rw [← hn'] at hc hn ⊢
  have HN := Lib.hid hn'
  have HC := Lib.hid hc
  have HALL := Lib.hid hall
  have HCALL := Lib.hid hcall
  have HF := Lib.hid hform
  clear hn' hc hz hall hcall hform hf
  by_cases hbig : L0 - (n : Int) < 0
  · go_enter Tryz.func61, Tryz.ntmps61
    go_wp2_with fail
    go_ret
    exact ⟨⟨-1, rfl, by omega, by omega, fun h => absurd h (by omega)⟩, rfl⟩
  · go_enter Tryz.func61, Tryz.ntmps61
    go_wp2_with fail
    go_loopw [1, 5] (fun l i wr => ∃ (k : Nat) (L : Int), l = .int .i64 L ∧ i = .int .i64 k ∧ k ≤ n ∧ 0 ≤ L ∧ L ≤ 1048576 ∧ L + (offA a k : Int) ≤ L0 ∧ (∀ j, j < k → (a.getD j []).length ≤ 1048576 ∧ ∀ s ∈ a.getD j [], s.length ≤ 1048576) ∧ wr = w) (fun _ i _ => n - (intOf i).toNat)
    case atStart => exact ⟨0, _, rfl, rfl, Nat.zero_le _, by omega, by omega, by rw [h00]; simp; omega, fun j hj => absurd hj (Nat.not_lt_zero j), rfl⟩
    case round =>
      obtain ⟨k, L, rfl, rfl, hk, hL0, hL1, hLs, hall, rfl⟩ := hrel
      have HL := Lib.hid hall
      clear hall
      by_cases hlt : k < n
      · obtain ⟨b, off, rfl, _, h1⟩ := HC.out k hlt
        have hcall := HCALL.out k hlt L hL0 hL1
        obtain ⟨ao', m', c', hfk⟩ := HF.out k hlt
        rw [hfk] at h1 hcall
        have hlt' : (k : Int) < (n : Int) := by omega
        clear hfk
        go_wp2_with fail
        refine hcall.mono ?_
        rintro e w1 ⟨⟨r, rfl, hr1, hr2, hr⟩, rfl⟩
        have HR := Lib.hid hr
        clear hr hcall
        by_cases hneg : r < 0
        · go_wp2_with fail
          go_ret
          exact ⟨⟨-1, rfl, by omega, by omega, fun h => absurd h (by omega)⟩, rfl⟩
        · go_wp2_with fail
          go_roundw
          case rel =>
            refine ⟨k + 1, r, rfl, by go_num, by omega, by omega, by omega, by have := (HR.out (by omega)).2; rw [offA_succ]; omega, fun j hj => ?_, by first | rfl | trivial⟩
            by_cases e : j = k
            · rw [e]; exact (HR.out (by omega)).1
            · exact HL.out j (by omega)
          case measure => simp [intOf]; omega
      · obtain rfl : k = n := by omega
        go_wp2_with fail
        go_ret
        exact ⟨⟨L, rfl, by omega, by omega, fun _ => ⟨HALL.out (by omega) HL.out, by omega⟩⟩, rfl⟩

theorem l_szAsm2 (w : World) (sv : Value) (a : List (List (List UInt8))) (h : SSU 0 w sv a) (hl : Lens 9223372036854775807 a) (L0 : Int) (h0 : 0 ≤ L0) (h1 : L0 ≤ 1048576) :
    Calls Tryz.prog 24 #[.agg #[sv], .int .i64 L0] w fun e w' =>
      (∃ r : Int, e = .returned (.int .i64 r) ∧ r ≤ 1048576 ∧ -9223372036854775808 ≤ r ∧ (0 ≤ r → Lens 1048576 a ∧ r + (offA a a.length : Int) ≤ L0)) ∧ After w w' := by
  have hcall := fun W (hW : After w W) => l_szSS2 W sv a L0 (h.later hW) hl h0 h1
  obtain ⟨ao, n, cap, rfl⟩ : ∃ ao n cap, sv = .slice ao n cap := by obtain ⟨f, ⟨ao, cap, e, _⟩, _⟩ := h; exact ⟨_, _, _, e⟩
  have hA := After.new w (.cells #[.slice ao n cap] 43)
  clear h hl
  go_enter Tryz.func24, Tryz.ntmps24
  go_wp2_with fail
  refine (hcall _ hA).mono ?_
  rintro e w1 ⟨⟨r, rfl, hr1, hr2, hr⟩, rfl⟩
  have HR := Lib.hid hr
  clear hr hcall
  by_cases hneg : r < 0
  · go_wp2_with fail
    go_ret
    exact ⟨⟨-1, rfl, by omega, by omega, fun h => absurd h (by omega)⟩, hA⟩
  · go_wp2_with fail
    go_ret
    exact ⟨⟨r, rfl, by omega, by omega, HR.out⟩, hA⟩
end Go.Proofs.YtfeeegnkmojpeaaGreat
