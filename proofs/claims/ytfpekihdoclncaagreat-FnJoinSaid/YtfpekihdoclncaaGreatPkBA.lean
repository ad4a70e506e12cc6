/-
  The model's joiner and quoter: l4Join, l4Quote.
-/
import Derived.Test.YtfpekihdoclncaaGreatPkAZ
import Derived.Test.YtfpekihdoclncaaGreatPkAJ
import Derived.Maps.AppendAt
import Derived.Test.YtfpekihdoclncaaGreatPkAS
import Derived.Test.YtfpekihdoclncaaGreatPkAH
namespace Go.Proofs.YtfpekihdoclncaaGreat
open Go.RowKit

set_option maxHeartbeats 2000000
set_option maxRecDepth 100000

theorem s_join4 (w : World) : Calls Tryz.prog 20 #[] w (TreePost w Tm.joinC) := by
  obtain ⟨Z, hZ⟩ : ∃ Z, Z = w.alloc (.cells #[.string ⟨#[]⟩, .slice none 0 0] 42) := ⟨_, rfl⟩
  have hAZ : After w Z := by rw [hZ]; exact After.new _ _
  have hGZ : Z.heap[w.heap.size]? = some (.cells #[.string ⟨#[]⟩, .slice none 0 0] 42 (0, 0)) := by rw [hZ]; exact heap_new' _ _
  have hselfZ := After.refl Z
  obtain ⟨Y, hY⟩ : ∃ Y, Y = Z.alloc (.cells #[str [117], str [118], str [120], str [121], str [122]] 9) := ⟨_, rfl⟩
  have hAY : After Z Y := by rw [hY]; exact After.new _ _
  have hGN : Y.heap[Z.heap.size]? = some (.cells #[str [117], str [118], str [120], str [121], str [122]] 9 (0, 0)) := by rw [hY]; exact heap_new' _ _
  have GN := Lib.hid hGN
  have GR := Lib.hid (hAY.heap hGZ)
  have AY := Lib.hid (hAZ.trans hAY)
  have szZ : Z.heap.size = w.heap.size + 1 := by rw [hZ]; simp
  have h1 := s_nm Y [122]
  have hn := fun W x => s_nm W x
  clear hAZ hGZ hAY hGN hselfZ
  go_enter Tryz.func20, Tryz.ntmps20
  go_wp2_with fail
  rw [← hZ, ← hY]
  clear hZ hY
  refine h1.mono ?_
  rintro e w1 ⟨rfl, hb1⟩
  clear h1
  go_wp2_with fail
  refine (hn w1 [117]).mono ?_
  rintro e w2 ⟨rfl, hb2⟩
  go_wp2_with fail
  refine (hn w2 [118]).mono ?_
  rintro e w3 ⟨rfl, hb3⟩
  have hA3 := (hb1.trans hb2).trans hb3
  have k4 := s_app2 (w3.alloc (.cells #[str [117], .slice none 0 0, str [118], .slice none 0 0] 42)) Tm.Z Tm.U Tm.VV [122] [117] [118] none none none 0 0 0 0 0 0 _ (0, 0) rfl rfl rfl (heap_new' w3 _)
  unfold TreePost at k4
  clear hn hb1 hb2 hb3
  go_wp2_with fail
  refine k4.mono ?_
  rintro e w4 ⟨t4, ao4, n4, c4, rfl, hb4, ht4⟩
  have hA4 := (hA3.alloc (.cells #[str [117], .slice none 0 0, str [118], .slice none 0 0] 42)).trans hb4
  have hc := hA4.heap GN.out
  have k5 := s_all w4 Z.heap.size 0 5 [[117], [118], [120], [121], [122]] (.app (.app Tm.Z Tm.U) Tm.VV) t4 ao4 n4 c4 ht4 (by decide +kernel) (by kernel_rfl) (by decide) (by decide) (fun j hj => by
    have hk := cell_of_heap (i := j) hc
    rw [Nat.zero_add]
    match j, hj with
    | 0, _ => simpa using hk
    | 1, _ => simpa using hk
    | 2, _ => simpa using hk
    | 3, _ => simpa using hk
    | 4, _ => simpa using hk)
  rw [show lastL (List.reverse [[117], [118], [120], [121], [122]]) (.app (.app Tm.Z Tm.U) Tm.VV) = Tm.joinC by kernel_rfl] at k5
  unfold TreePost at k5
  rw [szZ] at k5
  clear ht4 k4 hb4 hA3 hc
  go_wp2_with fail
  refine k5.mono ?_
  rintro e w5 ⟨t5, ao5, n5, c5, rfl, hb5, ht5⟩
  have hA5 := hA4.trans hb5
  have G := hA5.heap GR.out
  obtain ⟨z0, z1, _, _, _⟩ := pair_facts G (After.refl _)
  have HT := Lib.hid (ht5.sets2 (i := 0) (j := 1) (u := str t5) (u' := .slice ao5 n5 c5) G)
  have hAW := AY.out.trans hA5
  clear ht5 k5
  go_wp2_with fail
  refine bodyPost_ret (v := .agg #[str t5, .slice ao5 n5 c5]) (by simp [results, Tryz.results20, go_sem, z0, z1]) rfl
    ⟨t5, ao5, n5, c5, rfl, after_sets2 hAW G (Nat.le_refl _) _ _, HT.out⟩

theorem closed_of {t : Tm} (h : Tm.names [] t = []) (n : List UInt8) : Tm.has n t = false := by
  cases hh : Tm.has n t with
  | false => rfl
  | true =>
    have := (Tm.mem_names n t []).2 (Or.inr hh)
    rw [h] at this
    cases this
theorem join_closed : ∀ n : List UInt8, Tm.has n Tm.joinC = false := closed_of (by kernel_rfl)

end Go.Proofs.YtfpekihdoclncaaGreat

namespace Go.Proofs.YtfpekihdoclncaaGreat
open Go.RowKit

set_option maxHeartbeats 1000000
set_option maxRecDepth 100000

/-- The slice value holds these texts. -/
def Strs (w : World) (sv : Value) (ns : List (List UInt8)) : Prop :=
  (sv = .slice none 0 0 ∧ ns = []) ∨ ∃ b off cap, sv = .slice (some ⟨b, off, none⟩) ns.length cap ∧ ∀ j (h : j < ns.length), w.cell? ⟨b, off + j, none⟩ = some (str ns[j])

theorem ownsRow_strs {w : World} {base : Nat} {T : TypeId} {sv : Value} {ns : List (List UInt8)} (h : w.ownsRow base T 1 sv ns.length (ns.map str)) : Strs w sv ns := by
  rcases h.2 with ⟨rfl, h0⟩ | ⟨g, cap, cur, rfl, hb, hh, hn, hc, hs, ht⟩
  · exact Or.inl ⟨rfl, List.length_eq_zero_iff.1 h0⟩
  · refine Or.inr ⟨g, 0, cap, rfl, fun j hj => ?_⟩
    have := h.cells (g := g) rfl j (str ns[j]) (by simp [hj])
    have hadd : (⟨g, 0, none⟩ : Addr).add j = ⟨g, 0 + j, none⟩ := by unfold Addr.add; split <;> simp_all
    rw [hadd] at this
    exact this

theorem s_has (w : World) (sv : Value) (ns : List (List UInt8)) (x : List UInt8) (h : Strs w sv ns) (hn : ns.length ≤ 1000000000) :
    Calls Tryz.prog 56 #[sv, str x] w fun e w' => e = .returned (.bool (decide (x ∈ ns))) ∧ w = w' := by
  rcases h with ⟨rfl, rfl⟩ | ⟨b, off, cap, rfl, hc⟩
  · go_enter Tryz.func56, Tryz.ntmps56
    go_wp2_with fail
    go_loop [5] (fun i => i = .int .i64 0) (fun _ => 0)
    case atStart => rfl
    case round =>
      obtain rfl := hrel
      go_wp2_with fail
      go_ret
      exact ⟨by simp, rfl⟩
  · obtain ⟨r, hr⟩ : ∃ r, r = decide (x ∈ ns) := ⟨_, rfl⟩
    rw [← hr]
    have hstart : Hid (r = decide (x ∈ ns.drop 0)) := by show _ = _; rw [hr]; simp
    have HC := Lib.hid hc
    clear hr hc
    go_enter Tryz.func56, Tryz.ntmps56
    go_wp2_with fail
    go_loop [5] (fun i => ∃ k : Nat, i = .int .i64 k ∧ k ≤ ns.length ∧ Hid (r = decide (x ∈ ns.drop k))) (fun i => ns.length - (intOf i).toNat)
    case atStart => exact ⟨0, rfl, Nat.zero_le _, hstart⟩
    case round =>
      obtain ⟨k, rfl, hk, hr⟩ := hrel
      clear hstart
      by_cases hlt : k < ns.length
      · have hck := HC.out k hlt
        have hd := List.drop_eq_getElem_cons hlt
        rw [hd] at hr
        clear hd
        generalize ns[k] = y at hck hr
        by_cases he : y = x
        · subst he
          have HS : Hid (r = true) := by show _ = _; rw [hr.out]; simp
          clear hr
          go_wp2_with fail
          go_ret
          exact ⟨by rw [HS.out]; rfl, rfl⟩
        · have heq : (y == x) = false := beq_eq_false_iff_ne.2 he
          have HS : Hid (r = decide (x ∈ ns.drop (k + 1))) := by show _ = _; rw [hr.out]; simp [Ne.symm he]
          clear hr he
          go_wp2_with fail
          go_round
          case rel => exact ⟨k + 1, by go_num, by omega, HS⟩
          case measure => simp [intOf]; omega
      · have HS : Hid (r = false) := by show _ = _; rw [hr.out, List.drop_eq_nil_of_le (by omega)]; simp
        clear hr
        go_wp2_with fail
        go_ret
        exact ⟨by rw [HS.out]; rfl, rfl⟩

/-! ### growing -/

theorem grew_drew {a b : World} {r : Option Nat} (h : a.grownBy b r) : a.grownBy b.drew r := ⟨h.os, h.tape, h.output, h.size, h.block⟩
theorem grew_refl (a : World) (r : Option Nat) : a.grownBy a r := ⟨rfl, rfl, rfl, Nat.le_refl _, fun _ _ _ => rfl⟩
theorem grew_alloc {a b : World} {r : Option Nat} (h : a.grownBy b r) (o : Obj) : a.grownBy (b.alloc o) r :=
  ⟨h.os, h.tape, h.output, by simp; have := h.size; omega, fun k hk hr => by rw [Below.heap_alloc _ _ _ (Nat.lt_of_lt_of_le hk h.size)]; exact h.block k hk hr⟩
theorem grew_trans {a b c : World} {r r2 : Option Nat} (h1 : a.grownBy b r) (h2 : b.grownBy c r2) (hr : r2 = r ∨ ∃ k, r2 = some k ∧ a.heap.size ≤ k) : a.grownBy c r := by
  refine ⟨h2.os.trans h1.os, h2.tape.trans h1.tape, h2.output.trans h1.output, Nat.le_trans h1.size h2.size, fun k hk hne => ?_⟩
  rw [h2.block k (Nat.lt_of_lt_of_le hk h1.size) ?_]
  · exact h1.block k hk hne
  · rcases hr with rfl | ⟨k', rfl, hk'⟩
    · exact hne
    · intro e; injection e with e; omega

theorem grew_heap {a b : World} {r : Option Nat} (h : a.grownBy b r) {k : Nat} {o : Obj} (hk : a.heap[k]? = some o) (hr : some k ≠ r) : b.heap[k]? = some o := by
  rw [h.block k (Array.getElem?_eq_some_iff.1 hk).1 hr]; exact hk

def NamesP (mb : Nat) (w : World) (sv : Value) (ns : List (List UInt8)) (e : Ending) (w' : World) : Prop :=
  ∃ sv', e = .returned sv' ∧ w'.ownsRow mb 9 1 sv' ns.length (ns.map str) ∧ w.grownBy w' sv.ownBlock ∧ (sv'.ownBlock = sv.ownBlock ∨ ∃ k, sv'.ownBlock = some k ∧ w.heap.size ≤ k)

theorem name_ne {n : List UInt8} (h : Tm.nameOk n = true) : n.isEmpty = false ∧ (n == [107]) = false ∧ (n == [115]) = false := by
  refine ⟨?_, ?_, ?_⟩
  · cases n with
    | nil => simp [Tm.nameOk] at h
    | cons => rfl
  · rw [beq_eq_false_iff_ne]; rintro rfl; revert h; decide
  · rw [beq_eq_false_iff_ne]; rintro rfl; revert h; decide

theorem names_k (mb : Nat) (W : World) (v sv : Value) (ns : List (List UInt8)) (ho : W.ownsRow mb 9 1 sv ns.length (ns.map str)) :
    Calls Tryz.prog 34 #[.agg #[str [107], v], sv] W (NamesP mb W sv ns) := by
  have HO := Lib.hid ho
  clear ho
  go_enter Tryz.func34, Tryz.ntmps34
  go_wp2_with fail
  go_ret
  exact ⟨_, rfl, HO.out.alloc _, grew_alloc (grew_refl _ _) _, Or.inl rfl⟩

theorem names_s (mb : Nat) (W : World) (v sv : Value) (ns : List (List UInt8)) (ho : W.ownsRow mb 9 1 sv ns.length (ns.map str)) :
    Calls Tryz.prog 34 #[.agg #[str [115], v], sv] W (NamesP mb W sv ns) := by
  have HO := Lib.hid ho
  clear ho
  go_enter Tryz.func34, Tryz.ntmps34
  go_wp2_with fail
  go_ret
  exact ⟨_, rfl, HO.out.alloc _, grew_alloc (grew_refl _ _) _, Or.inl rfl⟩

theorem sinfo_string : (Tryz.prog.info? 9).map (fun i => (i.zero, i.size, i.bytes)) = some (some (.string ⟨#[]⟩), 1, 16) := by kernel_rfl

theorem names_nm (mb : Nat) (W : World) (n : List UInt8) (v sv : Value) (ns : List (List UInt8)) (hn : Tm.nameOk n = true) (ho : W.ownsRow mb 9 1 sv ns.length (ns.map str)) (hmb : mb ≤ W.heap.size) (hl : ns.length ≤ 1000000) :
    Calls Tryz.prog 34 #[.agg #[str n, v], sv] W (NamesP mb W sv ((Tm.nm n).names ns)) := by
  obtain ⟨e0, e1, e2⟩ := name_ne hn
  have hhas := s_has (W.alloc (.cells #[str n, v] 42)) sv ns n (ownsRow_strs (ho.alloc _)) (by omega)
  by_cases hm : n ∈ ns
  · rw [show (Tm.nm n).names ns = ns by simp [Tm.names, hm]]
    rw [show decide (n ∈ ns) = true by simpa using hm] at hhas
    have HO := Lib.hid ho
    clear ho hm hn
    go_enter Tryz.func34, Tryz.ntmps34
    go_wp2_with (go_at_call 56; refine hhas.mono ?_; rintro e w' ⟨rfl, rfl⟩)
    go_ret
    exact ⟨_, rfl, HO.out.alloc _, grew_alloc (grew_refl _ _) _, Or.inl rfl⟩
  · rw [show (Tm.nm n).names ns = ns ++ [n] by simp [Tm.names, hm]]
    rw [show decide (n ∈ ns) = false by simpa using hm] at hhas
    obtain ⟨i0, hi, hz0, hz1, hz2⟩ := info_parts sinfo_string
    have hun := Tryz.underlying69
    have hmax : ns.length + 1 ≤ maxLen := by unfold maxLen; omega
    have hm16 : (ns.length + 1) * 16 ≤ 140737488355328 := by omega
    have hone : ∀ u ∈ [str n], u.oneCell' = true := by simp [Value.oneCell']
    have hsz : mb ≤ ((W.alloc (.cells #[str n, v] 42)).alloc (.cells #[str n] 9)).heap.size := by simp; omega
    have hown := (ho.alloc (.cells #[str n, v] 42)).alloc (.cells #[str n] 9)
    have hnews := cell_one_new (W.alloc (.cells #[str n, v] 42)) (str n) 9
    rw [show (W.alloc (.cells #[str n, v] 42)).heap.size = W.heap.size + 1 by simp] at hnews
    have hlt := ho.lt
    have HLT := Lib.hid hlt
    have HO := Lib.hid hown
    clear ho hm hn hown hlt
    go_enter Tryz.func34, Tryz.ntmps34
    go_wp2_with (first
      | (go_at_call 56; refine hhas.mono ?_; rintro e w' ⟨rfl, rfl⟩)
      | (at_builtin; refine wpList_append_own_at _ rfl _ _ 69 rfl mb 9 i0 (.string ⟨#[]⟩) 1 16 hun hi hz0 hz1 hz2 rfl (by decide) _ _ _ rfl HO.out ⟨W.heap.size + 1, 0, none⟩ 1 1 [str n] rfl rfl hnews hone hmax hm16 hsz ?_; intro v2 w2 ho2 hg2 hiff hor2; clear hiff; have HO2 := Lib.hid ho2; have HG2 := Lib.hid hg2; have HOR := Lib.hid hor2; clear ho2 hg2 hor2))
    go_ret
    refine ⟨_, rfl, by simpa using HO2.out, grew_trans (grew_alloc (grew_alloc (grew_refl W sv.ownBlock) _) _) HG2.out (Or.inl rfl), ?_⟩
    rcases HOR.out with h | h
    · exact Or.inl h
    · exact Or.inr ⟨_, h, by simp; omega⟩

theorem names_app (mb : Nat) (w W : World) (g cap : Nat) (fr : Nat × Nat) (s0 s1 : List UInt8) (a0 a1 : Option Addr) (n0 c0 n1 c1 : Nat) (f a : Tm) (sv : Value) (ns : List (List UInt8))
    (hw : w.heap.size = mb) (hh : w.heap[g]? = some (.cells #[str s0, .slice a0 n0 c0, str s1, .slice a1 n1 c1] 42 fr)) (hW : After w W) (ho : W.ownsRow mb 9 1 sv ns.length (ns.map str)) (hl : ns.length + (f.size + a.size) ≤ 1000000)
    (hf : ∀ W, After w W → ∀ sv ns, W.ownsRow mb 9 1 sv ns.length (ns.map str) → ns.length + f.size ≤ 1000000 → Calls Tryz.prog 34 #[.agg #[str s0, .slice a0 n0 c0], sv] W (NamesP mb W sv (f.names ns)))
    (ha : ∀ W, After w W → ∀ sv ns, W.ownsRow mb 9 1 sv ns.length (ns.map str) → ns.length + a.size ≤ 1000000 → Calls Tryz.prog 34 #[.agg #[str s1, .slice a1 n1 c1], sv] W (NamesP mb W sv (a.names ns))) :
    Calls Tryz.prog 34 #[.agg #[str [], .slice (some ⟨g, 0, none⟩) 2 cap], sv] W (NamesP mb W sv ((f.app a).names ns)) := by
  have hlen := Tm.names_len f ns
  obtain ⟨X, hX⟩ : ∃ X, X = W.alloc (.cells #[str [], .slice (some ⟨g, 0, none⟩) 2 cap] 42) := ⟨_, rfl⟩
  obtain ⟨r, hr⟩ : ∃ r, r = sv.ownBlock := ⟨_, rfl⟩
  have hgw := (Array.getElem?_eq_some_iff.1 hh).1
  have hgW := hW.size
  have hrlt : ∀ k, r = some k → mb ≤ k ∧ k < W.heap.size := by rw [hr]; exact ho.lt
  have hWX : W.grownBy X r := by rw [hX]; exact grew_alloc (grew_refl _ _) _
  have hbX : X.heap[W.heap.size]? = some (.cells #[str [], .slice (some ⟨g, 0, none⟩) 2 cap] 42 (0, 0)) := by rw [hX]; exact heap_new' _ _
  have hgX : X.heap[g]? = some (.cells #[str s0, .slice a0 n0 c0, str s1, .slice a1 n1 c1] 42 fr) := grew_heap hWX (hW.heap hh) (fun e => by have := (hrlt _ e.symm).1; omega)
  have hXs : X.heap.size = W.heap.size + 1 := by rw [hX]; simp
  have hwX : After w X := by rw [hX]; exact hW.alloc _
  have hgne : some g ≠ r := fun e => by have := (hrlt _ e.symm).1; omega
  have hbne : some W.heap.size ≠ r := fun e => by have := (hrlt _ e.symm).2; omega
  have b1 : ∀ W', X.grownBy W' r → W'.cell? ⟨W.heap.size, 1, none⟩ = some (.slice (some ⟨g, 0, none⟩) 2 cap) := fun W' h => cell_of_heap (grew_heap h hbX hbne)
  have g0 : ∀ W', X.grownBy W' r → W'.cell? ⟨g, 0, none⟩ = some (str s0) := fun W' h => cell_of_heap (grew_heap h hgX hgne)
  have g1 : ∀ W', X.grownBy W' r → W'.cell? ⟨g, 1, none⟩ = some (.slice a0 n0 c0) := fun W' h => cell_of_heap (grew_heap h hgX hgne)
  have g2 : ∀ W', X.grownBy W' r → W'.cell? ⟨g, 2, none⟩ = some (str s1) := fun W' h => cell_of_heap (grew_heap h hgX hgne)
  have g3 : ∀ W', X.grownBy W' r → W'.cell? ⟨g, 3, none⟩ = some (.slice a1 n1 c1) := fun W' h => cell_of_heap (grew_heap h hgX hgne)
  have hlater : ∀ W', X.grownBy W' r → After w W' := fun W' h => hwX.grown h (by omega) (fun k hk => by have := (hrlt k hk).1; omega)
  have hself : X.grownBy X.drew r := grew_drew (grew_refl _ _)
  have hcf := hf X.drew (hlater _ hself) sv ns (by rw [hX]; exact (ho.alloc _).drew) (by omega)
  have hca := fun W' (h : X.grownBy W' r) sv' ho' => ha W' (hlater _ h) sv' (f.names ns) ho' (by omega)
  unfold NamesP at hcf hca
  rw [← hr] at hcf
  rw [show (f.app a).names ns = a.names (f.names ns) by simp [Tm.names]]
  generalize f.names ns = ns1 at *
  generalize a.names ns1 = ns2 at *
  have HWX := Lib.hid hWX
  have HR := Lib.hid hr
  go_enter Tryz.func34, Tryz.ntmps34
  go_wp2_with fail
  rw [← hX]
  clear hf ha ho hlater hwX hX hr hWX hrlt hgX hbX hh hgne hbne hlen
  go_region_held3 (fun W' => X.grownBy W' r) (first | assumption | exact grew_drew (by assumption) | go_keep)
    (first
      | (go_at_call_of 34 a0; refine hcf.mono ?_; rintro e w1 ⟨sv1, rfl, ho1, hg1, hor1⟩; have hG1 := grew_trans hself hg1 (Or.inl rfl); have HO1 := Lib.hid ho1; have HOR1 := Lib.hid hor1; clear ho1 hor1)
      | (go_at_call_of 34 a1; refine (hca _ hG1 _ HO1.out).mono ?_; rintro e w2 ⟨sv2, rfl, ho2, hg2, hor2⟩; have HO2 := Lib.hid ho2; have HOR2 := Lib.hid hor2; have HG2 := Lib.hid hg2; have hG2 := grew_trans hG1 hg2 (by rcases HOR1.out with h | ⟨k, h, hk⟩; exact Or.inl h; exact Or.inr ⟨k, h, hk⟩); clear ho2 hor2 hg2))
  go_wp2_with fail
  go_ret
  refine ⟨_, rfl, HO2.out, by rw [← HR.out]; exact grew_trans HWX.out hG2 (Or.inl rfl), ?_⟩
  rw [← HR.out]
  have hs1 := HWX.out.size
  have hs2 := hG1.size
  rcases HOR2.out with h | ⟨k, h, hk⟩
  · rcases HOR1.out with h' | ⟨k, h', hk⟩
    · exact Or.inl (h.trans h')
    · exact Or.inr ⟨k, h.trans h', by simp at hk; omega⟩
  · exact Or.inr ⟨k, h, by omega⟩

theorem ST.names {w : World} {t : Tm} : ∀ {v : Value}, ST w t v → t.good = true → ∀ W, After w W → ∀ sv ns, W.ownsRow w.heap.size 9 1 sv ns.length (ns.map str) → ns.length + t.size ≤ 1000000 →
    Calls Tryz.prog 34 #[v, sv] W (NamesP w.heap.size W sv (t.names ns)) := by
  induction t with
  | k => intro v h hg W hW sv ns ho hl; simp only [ST] at h; subst h; exact names_k _ W _ sv ns ho
  | s => intro v h hg W hW sv ns ho hl; simp only [ST] at h; subst h; exact names_s _ W _ sv ns ho
  | nm n => intro v h hg W hW sv ns ho hl; simp only [ST] at h; subst h; exact names_nm _ W n _ sv ns hg ho hW.size (by omega)
  | app f a ihf iha =>
    intro v h hg W hW sv ns ho hl
    obtain ⟨g, cap, fr, s0, p0, s1, p1, rfl, hh, hf, ha⟩ := h
    simp only [Tm.good, Bool.and_eq_true] at hg
    simp only [Tm.size] at hl
    obtain ⟨x0, a0, n0, c0, rfl, rfl⟩ := parts_form hf
    obtain ⟨x1, a1, n1, c1, rfl, rfl⟩ := parts_form ha
    exact names_app _ w W g cap fr x0 x1 a0 a1 n0 c0 n1 c1 f a sv ns rfl hh hW ho hl (ihf hf hg.1) (iha ha hg.2)
end Go.Proofs.YtfpekihdoclncaaGreat

namespace Go.Proofs.YtfpekihdoclncaaGreat
open Go.RowKit

set_option maxHeartbeats 1000000
set_option maxRecDepth 100000

theorem closedOf_isSome (l : List UInt8) : (Tm.closedOf l).isSome = Tm.pClosed l := by
  unfold Tm.pClosed
  cases hp : Tm.parse l with
  | none => simp [Tm.closedOf, hp]
  | some t =>
    rw [closed_if hp]
    by_cases h0 : (t.names []).length = 0
    · rw [if_pos h0]; simp [List.length_eq_zero_iff.1 h0]
    · rw [if_neg h0]
      have : t.names [] ≠ [] := fun e => h0 (by rw [e]; rfl)
      simp [this]

end Go.Proofs.YtfpekihdoclncaaGreat
