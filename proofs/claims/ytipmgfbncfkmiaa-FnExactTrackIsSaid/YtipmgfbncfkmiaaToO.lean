/-
  toStringSS, toAssembly: what they hand back is all of their own.
-/
import Derived.Test.YtipmgfbncfkmiaaPkN
import Derived.Test.YtipmgfbncfkmiaaPkY
namespace Go.Proofs.Ytipmgfbncfkmiaa
open Go.RowKit

set_option maxHeartbeats 1000000
set_option maxRecDepth 100000

theorem l_to_none2 (w : World) (ao : Option Addr) (cap : Nat) :
    Calls Try.prog 138 #[.slice ao 0 cap] w fun e w' =>
      e = .returned (.slice (some ⟨w.heap.size, 0, none⟩) 0 0) ∧ w.grownBy w' none ∧ w'.ownsRow w.heap.size 9 1 (.slice (some ⟨w.heap.size, 0, none⟩) 0 0) 0 [] := by
  have hi : ∃ i, (Try.prog).info? 9 = some i ∧ i.zero = some (str []) ∧ i.size = 1 ∧ i.bytes = 16 := ⟨_, rfl, rfl, rfl, rfl⟩
  obtain ⟨i0, hi, hz0, hz1, hz2⟩ := hi
  go_enter Try.func138, Try.ntmps138
  go_wp2_with (at_make; refine wpList_make_full _ rfl _ _ _ rfl w.heap.size 9 i0 (str []) 1 rfl hi hz0 hz1 .i64 .i64 _ _ 0 rfl rfl rfl rfl (by rw [hz2]; omega) (by unfold maxLen; omega) (Nat.le_refl _) ?_; intro w1 ho hg)
  have HO : Hid (w1.ownsRow w.heap.size 9 1 (.slice (some ⟨w.heap.size, 0, none⟩) 0 0) 0 []) := by rw [made_fill 0 []] at ho; exact ho
  clear ho
  go_loop [4] (fun i => i = .int .i64 0) (fun _ => 0)
  case atStart => rfl
  case round =>
    obtain rfl := hrel
    go_wp2_with fail
    go_ret
    exact ⟨rfl, hg, HO.out⟩

theorem l_toU2 (w : World) (sv : Value) (ns : List (List UInt8)) (h : StrsU 0 w sv ns) (hn : ns.length ≤ 1048576) :
    Calls Try.prog 138 #[sv] w fun e w' =>
      e = .returned (.slice (some ⟨w.heap.size, 0, none⟩) ns.length ns.length) ∧ w'.ownsRow w.heap.size 9 1 (.slice (some ⟨w.heap.size, 0, none⟩) ns.length ns.length) ns.length (ns.map str) ∧ After w w' := by
  obtain ⟨ao, cap, rfl, hc⟩ := h
  by_cases h0 : ns = []
  · subst h0
    refine (l_to_none2 w ao cap).mono ?_
    rintro e w' ⟨rfl, hg, ho⟩
    exact ⟨rfl, ho, (Below.refl _ _).grown hg (Nat.le_refl _) (fun k hk => by cases hk)⟩
  · have hpos : 0 < ns.length := List.length_pos_iff.2 h0
    obtain ⟨b, off, rfl, _, hc0⟩ := hc 0 hpos
    have hc' : ∀ j, j < ns.length → w.cell? ⟨b, off + j, none⟩ = some (str (ns[j]?.getD [])) := fun j hj => by
      obtain ⟨b', off', e, _, h⟩ := hc j hj
      simp only [Option.some.injEq, Addr.mk.injEq, and_true] at e
      obtain ⟨rfl, rfl⟩ := e
      exact h
    refine (l_to_some w b off cap ns hn (World.block_lt_of_cell? _ _ hc0) hc').mono ?_
    rintro e w' ⟨rfl, ho, hg⟩
    exact ⟨rfl, ho, (Below.refl _ _).grown hg (Nat.le_refl _) (fun k hk => by cases hk)⟩

theorem l_toSS2 (w : World) (sv : Value) (a : List (List (List UInt8))) (h : SSU 0 w sv a) (hl : Lens 1048576 a) :
    Calls Try.prog 106 #[sv] w fun e w' =>
      ∃ sv', e = .returned sv' ∧ OwnSS w' w.heap.size sv' a ∧ After w w' := by
  obtain ⟨f, ⟨ao, cap, rfl, hc⟩, hf⟩ := h
  obtain ⟨hn, hz⟩ := hl
  obtain ⟨n, hn'⟩ : ∃ n, n = a.length := ⟨_, rfl⟩
  have hcall : ∀ j, j < n → ∀ W, After w W → Calls Try.prog 138 #[f j] W fun e w' =>
      e = .returned (.slice (some ⟨W.heap.size, 0, none⟩) (a.getD j []).length (a.getD j []).length) ∧ w'.ownsRow W.heap.size 9 1 (.slice (some ⟨W.heap.size, 0, none⟩) (a.getD j []).length (a.getD j []).length) (a.getD j []).length ((a.getD j []).map str) ∧ After W w' := fun j hj W hW => by
    have hj' : j < a.length := by omega
    have hm : a.getD j [] ∈ a := by rw [List.getD, List.getElem?_eq_getElem hj']; exact List.getElem_mem hj'
    exact l_toU2 W (f j) _ ((hf j hj').later hW) (hz _ hm).1
  have hform : ∀ j, j < n → ∃ ao' m c, f j = .slice ao' m c := fun j hj => by
    obtain ⟨ao', c, e, _⟩ := hf j (by omega)
    exact ⟨_, _, _, e⟩
  rw [← hn'] at hc hn ⊢
  have HN := Lib.hid hn'
  have HC := Lib.hid hc
  have HCALL := Lib.hid hcall
  have HF := Lib.hid hform
  clear hn' hc hz hcall hform hf
  have hi : ∃ i, (Try.prog).info? 25 = some i ∧ i.zero = some (.slice none 0 0) ∧ i.size = 1 ∧ i.bytes = 24 := ⟨_, rfl, rfl, rfl, rfl⟩
  obtain ⟨i0, hi, hz0, hz1, hz2⟩ := hi
  go_enter Try.func106, Try.ntmps106
  go_wp2_with (at_make; refine wpList_make_full _ rfl _ _ _ rfl w.heap.size 25 i0 (.slice none 0 0) 1 rfl hi hz0 hz1 .i64 .i64 _ _ n rfl rfl rfl rfl (by rw [hz2]; omega) (by unfold maxLen; omega) (Nat.le_refl _) ?_; intro w1 ho hg)
  rw [made_nils n] at ho
  have hstart : Hid (w1.ownsRow w.heap.size 25 1 (.slice (some ⟨w.heap.size, 0, none⟩) n n) n (List.replicate n (Value.slice none 0 0))) := ho
  obtain ⟨g, hgg⟩ : ∃ g, g = w.heap.size := ⟨_, rfl⟩
  have hgw1 : g < w1.heap.size := by
    rcases ho.2 with ⟨h, _⟩ | ⟨g', cp, cur, h, _, hh, _⟩
    · cases h
    · cases h
      rw [hgg]
      exact (Array.getElem?_eq_some_iff.1 hh).1
  rw [← hgg] at hstart
  have HG := Lib.hid hgg
  simp only [← hgg]
  clear ho hgg
  go_loopw [4] (fun i wr => ∃ (k : Nat) (fs : List Value), i = .int .i64 k ∧ k ≤ n ∧ Hid (fs.length = k) ∧ Hid (wr.ownsRow g 25 1 (.slice (some ⟨g, 0, none⟩) n n) n (fs ++ List.replicate (n - k) (Value.slice none 0 0))) ∧ Hid (∀ j, j < k → wr.ownsRow (g + 1) 9 1 (fs.getD j undef) (a.getD j []).length ((a.getD j []).map str)) ∧ Hid (∀ (i j : Nat) (ri rj : Value), i < j → fs[i]? = some ri → fs[j]? = some rj → ri.ownBlock = none ∨ ri.ownBlock ≠ rj.ownBlock) ∧ g < wr.heap.size ∧ w.grownBy wr none) (fun i _ => n - (intOf i).toNat)
  case atStart => exact ⟨0, [], rfl, Nat.zero_le _, by show _ = _; rfl, by show World.ownsRow _ _ _ _ _ _ _; exact hstart.out, by show ∀ j, _; exact fun j hj => absurd hj (Nat.not_lt_zero j), by show ∀ i, _; exact fun i j ri rj _ h => by simp at h, hgw1, hg⟩
  case round =>
    obtain ⟨k, fs, rfl, hk, hfs, hrow, hrows, hdist, hgs, hgr⟩ := hrel
    clear hstart hg hgw1
    have hA : After w wr := ⟨hgr.os, hgr.tape, hgr.output, hgr.size, fun q hq => hgr.block q hq (by simp)⟩
    by_cases hlt : k < n
    · obtain ⟨b, off, rfl, _, h1⟩ := HC.out k hlt
      obtain ⟨ao', m', c', hfk⟩ := HF.out k hlt
      have hcall := HCALL.out k hlt wr hA
      have h1' := hA.cell h1
      rw [hfk] at h1' hcall
      have hlt' : (k : Int) < (n : Int) := by omega
      clear hfk h1
      go_wp2_with fail
      refine hcall.mono ?_
      rintro e w2 ⟨rfl, hst, hb2⟩
      have hrow2 := hrow.out.kept (row := none) (⟨hb2.os, hb2.tape, hb2.output, hb2.size, fun k hk _ => hb2.block k hk⟩) (Or.inr (by simp [Value.ownBlock]))
      have h2 := (hrow2.cellAt k (by omega)).trans (fill_at hfs.out hlt)
      have h3 := hrow2.frozenAt k
      have HR2 := Lib.hid hrow2
      have HST := Lib.hid hst
      clear hrow2 hst hcall
      obtain ⟨m, hm⟩ : ∃ m, m = (a.getD k []).length := ⟨_, rfl⟩
      rw [← hm]
      have HM := Lib.hid hm
      clear hm
      go_wp2_with fail
      go_roundw
      case rel =>
        have hkeep : ∀ (b : Nat) (cs : Array Value) (fr : Nat × Nat), w2.heap[b]? = some (.cells cs 9 fr) → (w2.setCell ⟨g, k, none⟩ (.slice (some ⟨wr.heap.size, 0, none⟩) m m)).heap[b]? = some (.cells cs 9 fr) := fun b cs fr hb => by
          rw [Below.heap_setCell _ _ _ _ (fun e => by
            have e' : b = g := e
            subst e'
            rcases HR2.out.2 with ⟨h, _⟩ | ⟨g', cp, cur, h, _, hh, _⟩
            · cases h
            · injection h with h
              injection h with h
              injection h with h
              subst h
              rw [hh] at hb
              injection hb with hb
              injection hb with _ hb _
              exact absurd hb (by decide))]
          exact hb
        refine ⟨k + 1, fs ++ [.slice (some ⟨wr.heap.size, 0, none⟩) m m], by go_num, by omega, ?_, ?_, ?_, ?_, ?_, ?_⟩
        · show _ = _; simp [hfs.out]
        · show World.ownsRow _ _ _ _ _ _ _
          have h := (HR2.out.stored k (.slice (some ⟨wr.heap.size, 0, none⟩) m m)).1
          rw [fill_set hfs.out hlt] at h
          exact h
        · show ∀ j, _
          intro j hj
          by_cases hjk : j < k
          · rw [List.getD, List.getElem?_append_left (by rw [hfs.out]; exact hjk), ← List.getD]
            exact own_keptT (own_later (hrows.out j hjk) hb2) hkeep
          · obtain rfl : j = k := by omega
            rw [List.getD, List.getElem?_append_right (by rw [hfs.out]; exact Nat.le_refl _), hfs.out, Nat.sub_self]
            have h := HST.out
            rw [← HM.out] at h ⊢
            exact own_keptT (own_mono h (by omega)) hkeep
        · show ∀ i, _
          intro i j ri rj hij hi hj
          by_cases hjl : j < k
          · rw [List.getElem?_append_left (by rw [hfs.out]; omega)] at hi
            rw [List.getElem?_append_left (by rw [hfs.out]; exact hjl)] at hj
            exact hdist.out i j ri rj hij hi hj
          · have hj2 := (List.getElem?_eq_some_iff.1 hj).1
            rw [List.length_append, hfs.out, List.length_singleton] at hj2
            obtain rfl : j = k := by omega
            rw [List.getElem?_append_left (by rw [hfs.out]; exact hij)] at hi
            rw [List.getElem?_append_right (by rw [hfs.out]; exact Nat.le_refl _), hfs.out, Nat.sub_self] at hj
            have e : rj = .slice (some ⟨wr.heap.size, 0, none⟩) m m := by simpa using hj.symm
            have hro := hrows.out i hij
            rw [List.getD, hi] at hro
            cases hb : ri.ownBlock with
            | none => exact Or.inl rfl
            | some q =>
              right
              rw [e]
              intro e2
              have := (hro.lt q hb).2
              simp only [Value.ownBlock, Option.some.injEq] at e2
              omega
        · have := hb2.size
          show g < (w2.setCell _ _).heap.size
          simp [World.setCell]; omega
        · refine ⟨hb2.os.trans hgr.os, hb2.tape.trans hgr.tape, hb2.output.trans hgr.output, by have h1 := hgr.size; have h2 := hb2.size; simp [World.setCell]; omega, fun b' hb' hne => ?_⟩
          rw [Below.heap_setCell _ _ _ _ (fun e => absurd ((show b' = g from e).trans HG.out) (Nat.ne_of_lt hb')), hb2.block b' (Nat.lt_of_lt_of_le hb' hgr.size)]
          exact hgr.block b' hb' hne
      case measure => simp [intOf]; omega
    · obtain rfl : k = n := by omega
      have HR := Lib.hid hrow.out
      clear hrow
      go_wp2_with fail
      go_ret
      have h := HR.out
      rw [Nat.sub_self, List.replicate_zero, List.append_nil] at h
      rw [← HG.out]
      refine ⟨.slice (some ⟨g, 0, none⟩) k k, rfl, ⟨fs, by rw [← HN.out]; exact h, fun j hj => ?_, hdist.out⟩, hA⟩
      have hj' : j < k := by rw [HN.out]; exact hj
      have hjf : j < fs.length := by rw [hfs.out]; exact hj'
      have hr := hrows.out j hj'
      rw [List.getD, List.getElem?_eq_getElem hjf] at hr
      exact ⟨fs[j], List.getElem?_eq_getElem hjf, own_mono hr (by omega)⟩
theorem own_less' {w : World} {base base' : Nat} {sv : Value} {a : List (List (List UInt8))} (h : OwnSS w base sv a) (hB : base' ≤ base) : OwnSS w base' sv a := by
  obtain ⟨cs, ho, hc, hd⟩ := h
  exact ⟨cs, own_mono ho hB, fun j hj => by obtain ⟨rv, h1, h2⟩ := hc j hj; exact ⟨rv, h1, own_mono h2 hB⟩, hd⟩

theorem l_toAsm2 (w : World) (sv : Value) (a : List (List (List UInt8))) (h : SSU 0 w sv a) (hl : Lens 1048576 a) :
    Calls Try.prog 57 #[.agg #[sv]] w fun e w' =>
      ∃ sv', e = .returned (.agg #[sv']) ∧ OwnSS w' w.heap.size sv' a ∧ After w w' := by
  have hcall := fun W (hW : After w W) => l_toSS2 W sv a (h.later hW) hl
  obtain ⟨ao, cap, rfl⟩ := h.form
  generalize a.length = n at *
  obtain ⟨os, hos⟩ : ∃ os : List Obj, os = [.cells #[.slice ao n cap] 54, .cells #[.slice none 0 0] 58, .cells #[.slice none 0 0] 58] := ⟨_, rfl⟩
  have hX : allocL w os = ((w.alloc (.cells #[.slice ao n cap] 54)).alloc (.cells #[.slice none 0 0] 58)).alloc (.cells #[.slice none 0 0] 58) := by rw [hos]; rfl
  have hA : After w (allocL w os) := allocL_below w os
  have h1 : (allocL w os).heap[w.heap.size + 1]? = some (.cells #[.slice none 0 0] 58 (0, 0)) := by have := allocL_heap w os 1 (by rw [hos]; simp); simpa [hos] using this
  have h2 : (allocL w os).heap[w.heap.size + 1 + 1]? = some (.cells #[.slice none 0 0] 58 (0, 0)) := by have := allocL_heap w os 2 (by rw [hos]; simp); simpa [hos] using this
  have hs : (allocL w os).heap.size = w.heap.size + 3 := by rw [hX]; simp
  rw [hX] at hA h1 h2 hs
  have H1 := Lib.hid h1
  have H2 := Lib.hid h2
  have HS := Lib.hid hs
  have hc := hcall _ hA
  have HA := Lib.hid hA
  clear hos hX h h1 h2 hs hcall hA hl
  go_enter Try.func57, Try.ntmps57
  go_wp2_with fail
  refine hc.mono ?_
  rintro e w1 ⟨sv', rfl, hsv, hb1⟩
  obtain ⟨ao', cap', rfl⟩ := hsv.form
  obtain ⟨r0, f0, z0⟩ := one_facts H1.out hb1
  obtain ⟨r1, f1, z1⟩ := one_facts H2.out hb1
  have HSV := Lib.hid hsv
  clear hc hsv
  generalize a.length = n' at *
  go_wp2_with fail
  refine bodyPost_ret (v := .agg #[.slice ao' n' cap']) (by simp [results, Try.results57, go_sem, r0]) rfl ⟨_, rfl, ?_, ?_⟩
  · refine own_less' (base := w.heap.size + 3) (OwnSS.keptT (by have := HSV.out; rw [HS.out] at this; exact this) fun b cs T fr hT hb => ?_) (by omega)
    have hh1 := hb1.heap H1.out
    have hh2 := hb1.heap H2.out
    rw [Below.heap_setCell _ _ _ _ (fun e => by have e' : b = w.heap.size + 1 := e; subst e'; rw [hh1] at hb; injection hb with hb; injection hb with _ hb _; exact hT hb.symm), Below.heap_setCell _ _ _ _ (fun e => by have e' : b = w.heap.size + 1 + 1 := e; subst e'; rw [hh2] at hb; injection hb with hb; injection hb with _ hb _; exact hT hb.symm)]
    exact hb
  · exact Below.setCell (Below.setCell (HA.out.trans hb1) (by show w.heap.size ≤ w.heap.size + 1 + 1; omega) _) (by show w.heap.size ≤ w.heap.size + 1; omega) _

end Go.Proofs.Ytipmgfbncfkmiaa
