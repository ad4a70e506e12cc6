/-
  The program's reader of function texts: read, readFunction.
-/
import Derived.Test.YtjomocjlnjgkeaaPkBP
import Derived.Test.YtjomocjlnjgkeaaPkAF
namespace Go.Proofs.Ytjomocjlnjgkeaa
open Go.RowKit

set_option maxHeartbeats 2000000
set_option maxRecDepth 100000

def SkipF (w : World) (b : Nat) (l : List UInt8) (i n : Nat) (r : Bool) (e : Ending) (w' : World) : Prop :=
  e = .returned (.bool r) ∧ w.grownBy w' (some b) ∧ FRd w' b l (if r then i + 1 else i) n

theorem skipF (w : World) (b i n : Nat) (l : List UInt8) (m : Int) (c : UInt8) (hm : m = c.toNat) (h : FRd w b l i n) (hl : l.length ≤ 1000000000) (hi : i ≤ l.length) :
    Calls Try.prog 95 #[.pointer (some ⟨b, 0, none⟩), .int .u8 m] w (SkipF w b l i n (decide (l[i]? = some c))) := by
  refine (skip_on w b i l m c hm _ _ h rfl rfl hl hi).mono ?_
  rintro e w' ⟨h1, h2, h3⟩
  refine ⟨h1, h2, ?_⟩
  unfold FRd
  rw [h3]
  cases decide (l[i]? = some c) <;> rfl

theorem pread_facts (l : List UInt8) {d i k j k' : Nat} {t : FT} (hi : i ≤ l.length) (h : FT.pread l d i k = some (t, j, k')) : FT.ok t ∧ i + 1 ≤ j ∧ j ≤ l.length ∧ FT.size t + k' = k := by
  obtain ⟨h1, h2⟩ := FT.pread_m l d d i k t j k' (Nat.le_refl _) h
  obtain ⟨g1, g2, g3, _⟩ := FT.mread_facts l d i t j hi h1
  exact ⟨g1, g2, g3, h2⟩

def FReadPost (w : World) (b : Nat) (l : List UInt8) (o : Option (FT × Nat × Nat)) (e : Ending) (w' : World) : Prop :=
  ∃ v, e = .returned (.tuple #[v, .bool o.isSome]) ∧ w.grownBy w' (some b) ∧ ∀ t j k', o = some (t, j, k') → (∃ n', FRd w' b l j n' ∧ n' + k' = 40) ∧ CV w' w.heap.size t v

theorem FReadPost.no {w w' : World} {b : Nat} {l : List UInt8} {o : Option (FT × Nat × Nat)} (ho : o = none) (hg : w.grownBy w' (some b)) (v : Value) : FReadPost w b l o (.returned (.tuple #[v, .bool false])) w' :=
  ⟨v, by rw [ho]; rfl, hg, fun t j k' h => by rw [ho] at h; cases h⟩

theorem grown_after {w W : World} {b : Nat} (h : After w W) : w.grownBy W (some b) := ⟨h.os, h.tape, h.output, h.size, fun k hk _ => h.block k hk⟩

theorem grown_own {w a c : World} {b g : Nat} (h1 : w.grownBy a (some b)) (h2 : a.grownBy c (some g)) (hg : w.heap.size ≤ g) : w.grownBy c (some b) :=
  ⟨h2.os.trans h1.os, h2.tape.trans h1.tape, h2.output.trans h1.output, Nat.le_trans h1.size h2.size, fun k hk hne => by
    rw [h2.block k (Nat.lt_of_lt_of_le hk h1.size) (fun e => by injection e with e; omega)]
    exact h1.block k hk hne⟩

theorem fread_word (l : List UInt8) (hl : l.length ≤ 1000000000) (d k : Nat) (w : World) (b i n : Nat) (hi : i ≤ l.length) (h : FRd w b l i n) (hn : n + (k + 1) = 40) (h0 : ¬ l[i]? = some 40) :
    Calls Try.prog 83 #[.pointer (some ⟨b, 0, none⟩)] w (FReadPost w b l (FT.pread l (d + 1) i (k + 1))) := by
  have hfin : FT.pread l (d + 1) i (k + 1) = match FT.word (FT.sl l i (Tm.atomEnd l i)) with
      | none => none
      | some t => some (t, Tm.atomEnd l i, k) := by
    simp only [FT.pread, if_neg h0]
    cases FT.word (FT.sl l i (Tm.atomEnd l i)) <;> rfl
  have hlt := h.lt
  have c2 : w.cell? ⟨b, 2, none⟩ = some (.int .i64 (n : Nat)) := cell_of_heap h
  have f2 : w.frozen? ⟨b, 2, none⟩ = false := by unfold FRd at h; simp [World.frozen?, h]
  have hW1 : ∀ m : Int, m = (n : Int) + 1 → FRd (w.setCell ⟨b, 2, none⟩ (.int .i64 m)) b l i (n + 1) := fun m hm => by
    rw [hm, show (n : Int) + 1 = ((n + 1 : Nat) : Int) by omega]; exact h.set2 (n + 1)
  obtain ⟨W1, hWe⟩ : ∃ W1, W1 = w.setCell ⟨b, 2, none⟩ (.int .i64 ((n : Int) + 1)) := ⟨_, rfl⟩
  have h1 : FRd W1 b l i (n + 1) := by rw [hWe]; exact hW1 _ rfl
  have g1 : w.grownBy W1 (some b) := by rw [hWe]; exact grown_setx _ _ _ _
  have hd1 : W1.cell? ⟨b, 2, none⟩ = some (.int .i64 ((n : Int) + 1)) := by have := cell_of_heap (i := 2) h1; simpa using this
  have k1 := skipF W1 b i (n + 1) l 40 40 rfl h1 hl hi
  rw [show decide (l[i]? = some 40) = false by simp [h0]] at k1
  have hn1 : n ≤ 39 := by omega
  have hn40 : ¬ ((40 : Int) < (n : Int) + 1) := by omega
  have HF := Lib.hid hfin
  have HWE := Lib.hid hWe
  have HL := Lib.hid hlt
  have HN := Lib.hid hn
  rw [hWe] at hd1
  clear hfin h hW1 hWe h1 hn hlt
  go_enter Try.func83, Try.ntmps83
  go_wp2_with fail
  rw [← HWE.out]
  refine k1.mono ?_
  rintro e w2 ⟨rfl, g2, h2⟩
  have k2 := readWord_any w2 b i (n + 1) l h2 hl hi
  clear k1 c2 f2 hd1
  go_wp2_with fail
  refine k2.mono ?_
  rintro e w3 ⟨rfl, g3, h3⟩
  have h3l := h3.lt
  have gg := grown_trans g1 (grown_trans g2 g3)
  have k3 := wordF_any w3 w.heap.size (FT.sl l i (Tm.atomEnd l i)) gg.size
  have H3 := Lib.hid h3
  clear k2 h2 h3
  go_wp2_with fail
  refine k3.mono ?_
  rintro e w4 ⟨v4, rfl, a4, hv4⟩
  have HV := Lib.hid hv4
  clear hv4 k3
  go_wp2_with fail
  go_ret2
  refine ⟨v4, ?_, grown_trans gg (grown_after a4), fun t j k' ht => ?_⟩
  · rw [HF.out]
    cases FT.word (FT.sl l i (Tm.atomEnd l i)) <;> rfl
  · rw [HF.out] at ht
    cases hw : FT.word (FT.sl l i (Tm.atomEnd l i)) with
    | none => rw [hw] at ht; cases ht
    | some u =>
      rw [hw] at ht
      simp only [Option.some.injEq, Prod.mk.injEq] at ht
      obtain ⟨rfl, rfl, rfl⟩ := ht
      exact ⟨⟨n + 1, H3.out.after a4, by have := HN.out; omega⟩, HV.out u hw⟩

theorem fread_zero (l : List UInt8) (d : Nat) (w : World) (b i n : Nat) (h : FRd w b l i n) (hn : n = 40) :
    Calls Try.prog 83 #[.pointer (some ⟨b, 0, none⟩)] w (FReadPost w b l (FT.pread l d i 0)) := by
  subst hn
  have hfin : FT.pread l d i 0 = none := by cases d <;> simp [FT.pread]
  have c2 : w.cell? ⟨b, 2, none⟩ = some (.int .i64 40) := cell_of_heap h
  have f2 : w.frozen? ⟨b, 2, none⟩ = false := by unfold FRd at h; simp [World.frozen?, h]
  have d2 : (w.setCell ⟨b, 2, none⟩ (.int .i64 41)).cell? ⟨b, 2, none⟩ = some (.int .i64 41) := cell_of_heap (i := 2) (h.set2 41)
  have HF := Lib.hid hfin
  clear hfin h
  go_enter Try.func83, Try.ntmps83
  go_wp2_with fail
  go_ret2
  exact FReadPost.no HF.out (grown_setx _ _ _ _) _

/-- What holds ahead of each round of read's loop. -/
def FLoop (l : List UInt8) (d : Nat) (R : Option (List FT × Nat × Nat)) (w3 : World) (b K : Nat) (sv : Value) (wr : World) : Prop :=
  ∃ fuel m k' n' ps xs, FT.pparts (FT.pread l d) l fuel m k' ps = R ∧ m ≤ l.length ∧ l.length < fuel + m ∧ k' ≤ d ∧ n' + k' = 40 ∧ FRd wr b l m n' ∧ RowV wr w3.heap.size sv ps xs ∧ w3.grownBy wr (some b) ∧ (∀ f ∈ ps, FT.ok f) ∧ (ps.map FT.size).sum + k' = K

theorem ok_len : ∀ {ps : List FT}, (ps.map FT.size).sum ≤ 39 → ps.length ≤ 39 := by
  intro ps h
  have : ps.length ≤ (ps.map FT.size).sum := by
    clear h
    induction ps with
    | nil => simp
    | cons f ps ih => have := FT.size_pos f; simp only [List.length_cons, List.map_cons, List.sum_cons]; omega
  omega

set_option maxHeartbeats 4000000 in
theorem fread_any (l : List UInt8) (hl : l.length ≤ 1000000000) : ∀ (d k : Nat) (w : World) (b i n : Nat), k ≤ d → i ≤ l.length → FRd w b l i n → n + k = 40 →
    Calls Try.prog 83 #[.pointer (some ⟨b, 0, none⟩)] w (FReadPost w b l (FT.pread l d i k)) := by
  intro d
  induction d with
  | zero =>
    intro k w b i n hk hi h hn
    have e : k = 0 := by omega
    rw [e] at hn ⊢
    exact fread_zero l 0 w b i n h hn
  | succ d ih =>
    intro k w b i n hk hi h hn
    match k, hk, hn with
    | 0, _, hn => exact fread_zero l (d + 1) w b i n h (by omega)
    | k + 1, hk, hn =>
      by_cases h0 : l[i]? = some 40
      case neg => exact fread_word l hl d k w b i n hi h hn h0
      have hi1 : i + 1 ≤ l.length := (List.getElem?_eq_some_iff.1 h0).1
      obtain ⟨e1, he1⟩ : ∃ e1, e1 = Tm.atomEnd l (i + 1) := ⟨_, rfl⟩
      obtain ⟨lt, hlt⟩ : ∃ lt, lt = FT.sl l (i + 1) e1 := ⟨_, rfl⟩
      obtain ⟨R, hR⟩ : ∃ R, R = FT.pparts (FT.pread l d) l (l.length + 1) e1 k [] := ⟨_, rfl⟩
      have hel : e1 ≤ l.length := by rw [he1]; exact FT.atomEnd_le l (i + 1) hi1
      have hnone : R = none → FT.pread l (d + 1) i (k + 1) = none := fun e => by
        rw [hR, he1] at e
        simp only [FT.pread, if_pos h0, Nat.add_sub_cancel, e]
        rfl
      have hsome : ∀ ps j k', R = some (ps, j, k') → FT.pread l (d + 1) i (k + 1) = if l[j]? = some 41 then (match FT.comb lt ps with | none => none | some t => some (t, j + 1, k')) else none := fun ps j k' e => by
        rw [hR, he1] at e
        rw [hlt, he1]
        simp only [FT.pread, if_pos h0, Nat.add_sub_cancel, e]
        cases FT.comb (FT.sl l (i + 1) (Tm.atomEnd l (i + 1))) ps <;> rfl
      have hblt := h.lt
      have c2 : w.cell? ⟨b, 2, none⟩ = some (.int .i64 (n : Nat)) := cell_of_heap h
      have f2 : w.frozen? ⟨b, 2, none⟩ = false := by unfold FRd at h; simp [World.frozen?, h]
      obtain ⟨W1, hWe⟩ : ∃ W1, W1 = w.setCell ⟨b, 2, none⟩ (.int .i64 ((n : Int) + 1)) := ⟨_, rfl⟩
      have h1 : FRd W1 b l i (n + 1) := by rw [hWe, show (n : Int) + 1 = ((n + 1 : Nat) : Int) by omega]; exact h.set2 (n + 1)
      have g1 : w.grownBy W1 (some b) := by rw [hWe]; exact grown_setx _ _ _ _
      have hd1 : W1.cell? ⟨b, 2, none⟩ = some (.int .i64 ((n : Int) + 1)) := by have := cell_of_heap (i := 2) h1; simpa using this
      have k1 := skipF W1 b i (n + 1) l 40 40 rfl h1 hl hi
      rw [show decide (l[i]? = some 40) = true by simp [h0]] at k1
      have hn1 : n ≤ 39 := by omega
      have hn40 : ¬ ((40 : Int) < (n : Int) + 1) := by omega
      have HNO := Lib.hid hnone
      have HSO := Lib.hid hsome
      have HR := Lib.hid hR
      have HLT := Lib.hid hlt
      have HE1 := Lib.hid he1
      have HWE := Lib.hid hWe
      have HL := Lib.hid hblt
      have HN := Lib.hid hn
      have HIH := Lib.hid ih
      rw [hWe] at hd1
      clear hnone hsome hR hlt he1 hWe h h1 hn hblt ih h0
      go_enter Try.func83, Try.ntmps83
      go_wp2_with fail
      rw [← HWE.out]
      refine k1.mono ?_
      rintro e w2 ⟨rfl, g2, h2⟩
      have k2 := readWord_any w2 b (i + 1) (n + 1) l h2 hl hi1
      clear k1 c2 f2 hd1
      unfold WordPost at k2
      rw [← HE1.out, ← HLT.out] at k2
      go_wp2_with fail
      refine k2.mono ?_
      rintro e w3 ⟨rfl, g3, h3⟩
      have gg := grown_trans g1 (grown_trans g2 g3)
      have h3l := h3.lt
      have H3 := Lib.hid h3
      clear k2 h2 h3 g1 g2 g3
      go_wp2_with fail
      go_loopw [5, 6, 7] (fun sv _ _ wr => Hid (FLoop l d R w3 b k sv wr)) (fun _ _ _ wr => l.length - (intOf ((wr.cell? ⟨b, 1, none⟩).getD undef)).toNat)
      case atStart =>
        exact ⟨l.length + 1, e1, k, n + 1, [], [], HR.out.symm, hel, by omega, by omega, by have := HN.out; omega, H3.out, RowV.nil _ _, World.grownBy.refl _ _, by simp, by simp⟩
      case round =>
        obtain ⟨fuel, m, k', n', ps, xs, hP, hm, hfm, hkd, hnk, hF, hRow, hG, hok, hsum⟩ := hrel.out
        have k4 := skipF wr b m n' l 32 32 rfl hF hl hm
        obtain ⟨fu, rfl⟩ : ∃ fu, fuel = fu + 1 := ⟨fuel - 1, by omega⟩
        obtain ⟨ao, cap, rfl⟩ := o_slice_len hRow.1
        have hmeas : (intOf ((wr.cell? ⟨b, 1, none⟩).getD undef)).toNat = m := by
          have : wr.cell? ⟨b, 1, none⟩ = some (.int .i64 (m : Nat)) := cell_of_heap (i := 1) hF
          rw [this]; simp [intOf]
        by_cases h32 : l[m]? = some 32
        · rw [show decide (l[m]? = some 32) = true by simp [h32]] at k4
          have hm1 : m + 1 ≤ l.length := (List.getElem?_eq_some_iff.1 h32).1
          have HPd := Lib.hid hP
          have HRow := Lib.hid hRow
          have HG := Lib.hid hG
          have HOK := Lib.hid hok
          have HSUM := Lib.hid hsum
          have HNK := Lib.hid hnk
          have HM := Lib.hid hmeas
          have HFL := Lib.hid hF.lt
          have H32 := Lib.hid h32
          clear hP hRow hG hok hsum hnk hmeas hF h32 hrel
          go_wp2_with fail
          refine k4.mono ?_
          rintro e w4 ⟨rfl, g4, h4⟩
          have k5 := HIH.out k' w4 b (m + 1) n' hkd hm1 h4 HNK.out
          clear k4 h4
          cases hp : FT.pread l d (m + 1) k' with
          | none =>
            rw [hp] at k5
            have HF := Lib.hid (HNO.out (by rw [← HPd.out]; simp [FT.pparts, H32.out, hp]))
            go_wp2_with fail
            refine k5.mono ?_
            rintro e w5 ⟨v5, rfl, g5, hv5⟩
            clear hv5 k5
            go_wp2_with fail
            go_ret2
            exact FReadPost.no HF.out (grown_trans gg (grown_trans HG.out (grown_trans g4 g5))) _
          | some q =>
            obtain ⟨t, j, k''⟩ := q
            rw [hp] at k5
            obtain ⟨ht, hj1, hj2, hts⟩ := pread_facts l hm1 hp
            have HPn := Lib.hid (show FT.pparts (FT.pread l d) l fu j k'' (ps ++ [t]) = R by rw [← HPd.out]; simp [FT.pparts, H32.out, hp])
            clear hp
            go_wp2_with fail
            refine k5.mono ?_
            rintro e w5 ⟨v5, rfl, g5, hv5⟩
            obtain ⟨⟨n'', hF5, hn5⟩, hc5⟩ := hv5 t j k'' rfl
            obtain ⟨bv, Tv, xv, vfv, rfl, _⟩ := hc5.fields
            have hR5 := (HRow.out.grown g4 h3l).grown g5 h3l
            have hs34 : w3.heap.size ≤ w4.heap.size := Nat.le_trans HG.out.size g4.size
            have hs45 := g5.size
            have hgS : ∀ g, (Value.slice ao ps.length cap).ownBlock = some g → g < w4.heap.size := fun g hg => ((HRow.out.grown g4 h3l).1.lt g hg).2
            have hpl : ps.length ≤ 40 := by have := ok_len (ps := ps) (by have := HSUM.out; have := HN.out; omega); omega
            obtain ⟨i0, hi0, hz0, hz1, hz2⟩ : ∃ i, (Try.prog).info? 68 = some i ∧ i.zero = some (.pointer none) ∧ i.size = 1 ∧ i.bytes = 8 := ⟨_, rfl, rfl, rfl, rfl⟩
            have hun : Try.prog.underlying 150 = some (.slice 68) := by kernel_rfl
            have hown := World.ownsRow.alloc hR5.1 (.cells #[ptr bv] 68)
            have hnew : ∀ j u, [ptr bv][j]? = some u → (w5.alloc (.cells #[ptr bv] 68)).cell? ((⟨w5.heap.size, 0, none⟩ : Addr).add j) = some u := fun j u h => by
              match j with
              | 0 =>
                simp at h
                subst h
                rw [show ((⟨w5.heap.size, 0, none⟩ : Addr).add 0) = ⟨w5.heap.size, 0, none⟩ from rfl, cell_of_heap (heap_top w5 (.cells #[ptr bv] 68))]
                rfl
              | j + 1 => simp at h
            have hone : ∀ u ∈ [ptr bv], u.oneCell' = true := by simp [Value.oneCell']
            have hmax : ps.length + 1 ≤ maxLen := by unfold maxLen; omega
            have hm8 : (ps.length + 1) * 8 ≤ 140737488355328 := by omega
            have hsz : w3.heap.size ≤ (w5.alloc (.cells #[ptr bv] 68)).heap.size := by simp; omega
            have HF5 := Lib.hid hF5
            have HC5 := Lib.hid hc5
            have HR5 := Lib.hid hR5
            have HGS := Lib.hid hgS
            have HTS := Lib.hid hts
            have HN5 := Lib.hid hn5
            have HOT := Lib.hid ht
            clear hv5 hF5 hc5 hR5 hgS k5 hts hn5 ht
            go_wp2_with (at_builtin; refine wpList_append_at _ rfl _ _ 150 rfl w3.heap.size 68 i0 (.pointer none) 1 8 hun hi0 hz0 hz1 hz2 rfl (by decide) _ _ _ rfl hown ⟨w5.heap.size, 0, none⟩ 1 1 [ptr bv] rfl rfl hnew hone hmax hm8 hsz (by decide) ?_; intro v6 w6 ho6 hg6 hw6; obtain ⟨bo, bn, bc, rfl⟩ := o_slice ho6; have HO6 := Lib.hid ho6; have HG6 := Lib.hid hg6; have HW6 := Lib.hid hw6; clear ho6 hg6 hw6)
            go_roundw
            all_goals
              have hF6 : FRd w6 b l j n'' := by
                have h6 := HG6.out.block b (by have := HF5.out.lt; simp; omega) (fun e => by
                  have := (hown.lt b e.symm).1
                  omega)
                have h7 := (below_new w5 (.cells #[ptr bv] 68)).block b HF5.out.lt
                exact (h6.trans h7).trans HF5.out
            case measure =>
              have : w6.cell? ⟨b, 1, none⟩ = some (.int .i64 (j : Nat)) := cell_of_heap (i := 1) hF6
              simp only [this, HM.out]
              simp [intOf]
              omega
            case rel =>
              refine ⟨fu, j, k'', n'', ps ++ [t], _, HPn.out, hj2, by omega, by have := HTS.out; omega, HN5.out, hF6, HR5.out.push hs34 HGS.out HC5.out _ HO6.out HG6.out HW6.out, ?_, ?_, ?_⟩
              · have hlow : ∀ g, (Value.slice ao ps.length cap).ownBlock = some g → w3.heap.size ≤ g := fun g hg => (hown.lt g hg).1
                have h45 := grown_trans HG.out (grown_trans g4 g5)
                refine ⟨HG6.out.os.trans h45.os, HG6.out.tape.trans h45.tape, HG6.out.output.trans h45.output, by have := HG6.out.size; have := h45.size; simp at *; omega, fun q hq hne => ?_⟩
                have h45s := h45.size
                rw [HG6.out.block q (by simp; omega) (fun e => by have := hlow q e.symm; omega)]
                rw [(below_new w5 _).block q (by omega)]
                exact h45.block q hq hne
              · intro f hf
                rcases List.mem_append.1 hf with hf | hf
                · exact HOK.out f hf
                · simp at hf; subst hf; exact HOT.out
              · have := HSUM.out
                have := HTS.out
                simp only [List.map_append, List.sum_append, List.map_cons, List.map_nil, List.sum_cons, List.sum_nil]
                omega
        · have hfinR : R = some (ps, m, k') := by rw [← hP]; simp [FT.pparts, h32]
          have hS := HSO.out ps m k' hfinR
          rw [show decide (l[m]? = some 32) = false by simp [h32]] at k4
          have HRow := Lib.hid hRow
          have HG := Lib.hid hG
          have HOK := Lib.hid hok
          have HSUM := Lib.hid hsum
          have HNK := Lib.hid hnk
          clear hP hRow hG hok hsum hnk hmeas hF h32 hrel hfinR
          go_wp2_with fail
          refine k4.mono ?_
          rintro e w4 ⟨rfl, g4, h4⟩
          have k5 := skipF w4 b m n' l 41 41 rfl h4 hl hm
          clear k4 h4
          by_cases h41 : l[m]? = some 41
          · rw [show decide (l[m]? = some 41) = true by simp [h41]] at k5
            rw [if_pos h41] at hS
            have HS := Lib.hid hS
            clear h41 hS
            go_wp2_with fail
            refine k5.mono ?_
            rintro e w5 ⟨rfl, g5, h5⟩
            have hR5 := (HRow.out.grown g4 h3l).grown g5 h3l
            have g05 := grown_trans gg (grown_trans HG.out (grown_trans g4 g5))
            have k6 := combination_any w5 w.heap.size lt _ ps (hR5.parts gg.size) g05.size (by have := ok_len (ps := ps) (by have := HSUM.out; have := HN.out; omega); omega) HOK.out (by have := HSUM.out; have := HN.out; omega)
            have H5 := Lib.hid h5
            clear k5 h5 hR5
            go_wp2_with fail
            refine k6.mono ?_
            rintro e w6 ⟨v6, rfl, a6, hv6⟩
            have HV := Lib.hid hv6
            clear hv6 k6
            go_wp2_with fail
            go_ret2
            refine ⟨v6, ?_, grown_trans g05 (grown_after a6), fun t j k'' ht => ?_⟩
            · rw [HS.out]
              cases FT.comb lt ps <;> rfl
            · rw [HS.out] at ht
              cases hw : FT.comb lt ps with
              | none => rw [hw] at ht; cases ht
              | some u =>
                rw [hw] at ht
                simp only [Option.some.injEq, Prod.mk.injEq] at ht
                obtain ⟨rfl, rfl, rfl⟩ := ht
                exact ⟨⟨n', H5.out.after a6, HNK.out⟩, HV.out u hw⟩
          · rw [show decide (l[m]? = some 41) = false by simp [h41]] at k5
            rw [if_neg h41] at hS
            have HS := Lib.hid hS
            clear h41 hS
            go_wp2_with fail
            refine k5.mono ?_
            rintro e w5 ⟨rfl, g5, h5⟩
            clear h5 k5
            go_wp2_with fail
            go_ret2
            exact FReadPost.no HS.out (grown_trans gg (grown_trans HG.out (grown_trans g4 g5))) _
end Go.Proofs.Ytjomocjlnjgkeaa

namespace Go.Proofs.Ytjomocjlnjgkeaa
open Go.RowKit

set_option maxHeartbeats 2000000
set_option maxRecDepth 100000

theorem after_own2 {w w' : World} {o : Obj} (h : (w.alloc o).grownBy w' (some w.heap.size)) : After w w' :=
  ⟨h.os, h.tape, h.output, by have := h.size; simp at this; omega, fun k hk => by
    rw [h.block k (by simp; omega) (fun e => by injection e with e; omega)]
    exact (below_new w o).block k hk⟩

theorem readFunction_any (w : World) (l : List UInt8) (hl : l.length ≤ 1000000000) :
    Calls Try.prog 47 #[str l] w (WFPost w w.heap.size (FT.parse l)) := by
  obtain ⟨W1, hW1⟩ : ∃ W1, W1 = w.alloc (.cells #[str l, .int .i64 0, .int .i64 0] 123 (0, 0)) := ⟨_, rfl⟩
  have h1 : FRd W1 w.heap.size l 0 0 := by rw [hW1]; exact heap_top _ _
  have hg : ∀ w', W1.grownBy w' (some w.heap.size) → After w w' := fun w' h => by rw [hW1] at h; exact after_own2 h
  have hs1 : W1.heap.size = w.heap.size + 1 := by rw [hW1]; simp
  have k1 := fread_any l hl 40 40 W1 w.heap.size 0 0 (Nat.le_refl _) (Nat.zero_le _) h1 rfl
  have HW1 := Lib.hid hW1
  have HG := Lib.hid hg
  have HS := Lib.hid hs1
  clear hW1 h1 hg hs1
  cases hp : FT.pread l 40 0 40 with
  | none =>
    have H := Lib.hid (show FT.parse l = none by simp [FT.parse, hp])
    rw [hp] at k1
    clear hp
    go_enter Try.func47, Try.ntmps47
    go_wp2_with fail
    rw [← HW1.out]
    refine k1.mono ?_
    rintro e w2 ⟨v2, rfl, g2, hv2⟩
    clear hv2 k1
    go_wp2_with fail
    go_ret2
    rw [H.out]
    exact wf_no (HG.out _ g2) _
  | some q =>
    obtain ⟨t, j, k'⟩ := q
    obtain ⟨_, _, hj, _⟩ := pread_facts l (Nat.zero_le _) hp
    by_cases hje : j = l.length
    · have H := Lib.hid (show FT.parse l = some t by simp [FT.parse, hp, hje])
      rw [hp] at k1
      have hd : decide (j = l.length) = true := by simp [hje]
      clear hp
      go_enter Try.func47, Try.ntmps47
      go_wp2_with fail
      rw [← HW1.out]
      refine k1.mono ?_
      rintro e w2 ⟨v2, rfl, g2, hv2⟩
      obtain ⟨⟨n', hF, _⟩, hc⟩ := hv2 t j k' rfl
      have k2 := ended_any w2 w.heap.size j l (cell_of_heap (i := 0) hF) (cell_of_heap (i := 1) hF) hl
      rw [hd] at k2
      have HC := Lib.hid hc
      clear hv2 k1 hF hc hd
      go_wp2_with (go_at_call 80; refine k2.mono ?_; rintro e w3 ⟨rfl, q3, rfl⟩)
      go_ret2
      rw [H.out]
      refine ⟨_, rfl, below_drews (HG.out _ g2) _, fun u hu => ?_⟩
      obtain rfl := Option.some.inj hu
      exact (HC.out.less (by have := HS.out; omega)).after (below_drews (After.refl w2) _)
    · have H := Lib.hid (show FT.parse l = none by simp [FT.parse, hp, hje])
      rw [hp] at k1
      have hd : decide (j = l.length) = false := by simp [hje]
      clear hp hje
      go_enter Try.func47, Try.ntmps47
      go_wp2_with fail
      rw [← HW1.out]
      refine k1.mono ?_
      rintro e w2 ⟨v2, rfl, g2, hv2⟩
      obtain ⟨⟨n', hF, _⟩, hc⟩ := hv2 t j k' rfl
      have k2 := ended_any w2 w.heap.size j l (cell_of_heap (i := 0) hF) (cell_of_heap (i := 1) hF) hl
      rw [hd] at k2
      clear hv2 k1 hF hd hc
      go_wp2_with (go_at_call 80; refine k2.mono ?_; rintro e w3 ⟨rfl, q3, rfl⟩)
      go_ret2
      rw [H.out]
      exact wf_no (below_drews (HG.out _ g2) _) _

def IntPost (w : World) (n : Int) (e : Ending) (w' : World) : Prop := e = .returned (.int .i64 n) ∧ After w w'
def pArity (l : List UInt8) : Int := match FT.parse l with | some t => (FT.arity t : Nat) | none => -1
def pSizeF (l : List UInt8) : Int := match FT.parse l with | some t => (FT.size t : Nat) | none => -1
def pTotal (l : List UInt8) : Bool := match FT.parse l with | some t => FT.total t | none => false

theorem impl_arity (w : World) (l : List UInt8) (hl : l.length ≤ 1000000000) : Calls Try.prog 20 #[str l] w (IntPost w (pArity l)) := by
  have k1 := readFunction_any w l hl
  cases hp : FT.parse l with
  | none =>
    have H := Lib.hid (show pArity l = -1 by simp [pArity, hp])
    rw [hp] at k1
    clear hp
    go_enter Try.func20, Try.ntmps20
    go_wp2_with fail
    refine k1.mono ?_
    rintro e w2 ⟨v2, rfl, a2, hv2⟩
    clear hv2 k1
    go_wp2_with fail
    go_ret
    exact ⟨by rw [H.out]; rfl, a2⟩
  | some t =>
    have H := Lib.hid (show pArity l = (FT.arity t : Nat) by simp [pArity, hp])
    rw [hp] at k1
    clear hp
    go_enter Try.func20, Try.ntmps20
    go_wp2_with fail
    refine k1.mono ?_
    rintro e w2 ⟨v2, rfl, a2, hv2⟩
    obtain ⟨b, T, x, vf, rfl, _, hh, _, _⟩ := (hv2 t rfl).fields
    have c0 : w2.cell? ⟨b, 0, none⟩ = some (.int .i64 (FT.arity t : Nat)) := cell_of_heap (i := 0) hh
    clear hv2 k1 hh
    go_wp2_with fail
    go_ret
    exact ⟨by rw [H.out]; rfl, a2⟩

theorem impl_fsize (w : World) (l : List UInt8) (hl : l.length ≤ 1000000000) : Calls Try.prog 22 #[str l] w (IntPost w (pSizeF l)) := by
  have k1 := readFunction_any w l hl
  cases hp : FT.parse l with
  | none =>
    have H := Lib.hid (show pSizeF l = -1 by simp [pSizeF, hp])
    rw [hp] at k1
    clear hp
    go_enter Try.func22, Try.ntmps22
    go_wp2_with fail
    refine k1.mono ?_
    rintro e w2 ⟨v2, rfl, a2, hv2⟩
    clear hv2 k1
    go_wp2_with fail
    go_ret
    exact ⟨by rw [H.out]; rfl, a2⟩
  | some t =>
    have H := Lib.hid (show pSizeF l = (FT.size t : Nat) by simp [pSizeF, hp])
    rw [hp] at k1
    clear hp
    go_enter Try.func22, Try.ntmps22
    go_wp2_with fail
    refine k1.mono ?_
    rintro e w2 ⟨v2, rfl, a2, hv2⟩
    obtain ⟨b, T, x, vf, rfl, _, hh, _, _⟩ := (hv2 t rfl).fields
    have c1 : w2.cell? ⟨b, 1, none⟩ = some (.int .i64 (FT.size t : Nat)) := cell_of_heap (i := 1) hh
    clear hv2 k1 hh
    go_wp2_with fail
    go_ret
    exact ⟨by rw [H.out]; rfl, a2⟩

theorem impl_total (w : World) (l : List UInt8) (hl : l.length ≤ 1000000000) : Calls Try.prog 24 #[str l] w (BitPost w (pTotal l)) := by
  have k1 := readFunction_any w l hl
  cases hp : FT.parse l with
  | none =>
    have H := Lib.hid (show pTotal l = false by simp [pTotal, hp])
    rw [hp] at k1
    clear hp
    go_enter Try.func24, Try.ntmps24
    go_wp2_with fail
    refine k1.mono ?_
    rintro e w2 ⟨v2, rfl, a2, hv2⟩
    clear hv2 k1
    go_wp2_with fail
    go_ret
    exact ⟨by rw [H.out]; rfl, a2⟩
  | some t =>
    have H := Lib.hid (show pTotal l = FT.total t by simp [pTotal, hp])
    rw [hp] at k1
    clear hp
    go_enter Try.func24, Try.ntmps24
    go_wp2_with fail
    refine k1.mono ?_
    rintro e w2 ⟨v2, rfl, a2, hv2⟩
    obtain ⟨b, T, x, vf, rfl, _, hh, _, _⟩ := (hv2 t rfl).fields
    have c2 : w2.cell? ⟨b, 2, none⟩ = some (.bool (FT.total t)) := cell_of_heap (i := 2) hh
    clear hv2 k1 hh
    go_wp2_with fail
    go_ret
    exact ⟨by rw [H.out]; rfl, a2⟩
end Go.Proofs.Ytjomocjlnjgkeaa
