/-
  What the laws do with lists of lists of texts of an argument: szStringSS, toStringSS, eqStringSS, and the same of assemblies.
-/
import Derived.Test.YtidpkmkhcomcdaaGreatPkB
import Derived.Deep.QuietTactic
import Derived.Deep.RegionHeld3
import Derived.Maps.AppendAt
import Derived.Test.YtidpkmkhcomcdaaGreatPkA
import Derived.Maps.OwnSet
import Derived.Lib.AppendStr
namespace Go.Proofs.YtidpkmkhcomcdaaGreat
open Go.RowKit

set_option maxHeartbeats 1000000
set_option maxRecDepth 100000

/-- A slice of n cells, each with f j, in a block from B on. -/
def RowU (B : Nat) (w : World) (sv : Value) (n : Nat) (f : Nat → Value) : Prop :=
  ∃ ao cap, sv = .slice ao n cap ∧ ∀ j, j < n → ∃ b off, ao = some ⟨b, off, none⟩ ∧ (B ≤ b ∧ n ≤ cap ∧ cap ≤ 9223372036854775807) ∧ w.cell? ⟨b, off + j, none⟩ = some (f j)

def StrsU (B : Nat) (w : World) (sv : Value) (ns : List (List UInt8)) : Prop := RowU B w sv ns.length (fun j => str (ns.getD j []))

def SSU (B : Nat) (w : World) (sv : Value) (a : List (List (List UInt8))) : Prop :=
  ∃ f, RowU B w sv a.length f ∧ ∀ j, j < a.length → StrsU B w (f j) (a.getD j [])

theorem RowU.later {B : Nat} {w W : World} {sv : Value} {n : Nat} {f : Nat → Value} (h : RowU B w sv n f) (hA : After w W) : RowU B W sv n f := by
  obtain ⟨ao, cap, rfl, hc⟩ := h
  exact ⟨ao, cap, rfl, fun j hj => by obtain ⟨b, off, e, hb, h⟩ := hc j hj; exact ⟨b, off, e, hb, hA.cell h⟩⟩

theorem RowU.mono {B C : Nat} {w : World} {sv : Value} {n : Nat} {f : Nat → Value} (h : RowU B w sv n f) (hC : C ≤ B) : RowU C w sv n f := by
  obtain ⟨ao, cap, rfl, hc⟩ := h
  exact ⟨ao, cap, rfl, fun j hj => by obtain ⟨b, off, e, hb, h⟩ := hc j hj; exact ⟨b, off, e, ⟨by omega, hb.2⟩, h⟩⟩

theorem cell_same {w W : World} {b i : Nat} {v : Value} (h : w.cell? ⟨b, i, none⟩ = some v) (e : W.heap[b]? = w.heap[b]?) : W.cell? ⟨b, i, none⟩ = some v := by
  unfold World.cell? at h ⊢
  simp only at h ⊢
  rw [e]
  exact h

theorem RowU.same {B : Nat} {w W : World} {sv : Value} {n : Nat} {f : Nat → Value} (h : RowU B w sv n f) (hA : ∀ b, B ≤ b → b < w.heap.size → W.heap[b]? = w.heap[b]?) : RowU B W sv n f := by
  obtain ⟨ao, cap, rfl, hc⟩ := h
  exact ⟨ao, cap, rfl, fun j hj => by obtain ⟨b, off, e, hb, h⟩ := hc j hj; exact ⟨b, off, e, hb, cell_same h (hA b hb.1 (World.block_lt_of_cell? _ _ h))⟩⟩

theorem StrsU.later {B : Nat} {w W : World} {sv : Value} {ns : List (List UInt8)} (h : StrsU B w sv ns) (hA : After w W) : StrsU B W sv ns := RowU.later h hA
theorem SSU.later {B : Nat} {w W : World} {sv : Value} {a : List (List (List UInt8))} (h : SSU B w sv a) (hA : After w W) : SSU B W sv a := by
  obtain ⟨f, h1, h2⟩ := h
  exact ⟨f, h1.later hA, fun j hj => (h2 j hj).later hA⟩
theorem SSU.mono {B C : Nat} {w : World} {sv : Value} {a : List (List (List UInt8))} (h : SSU B w sv a) (hC : C ≤ B) : SSU C w sv a := by
  obtain ⟨f, h1, h2⟩ := h
  exact ⟨f, h1.mono hC, fun j hj => RowU.mono (h2 j hj) hC⟩

/-! ### sizes -/

/-- Every length is one of Go's. -/
def Lens (m : Nat) (a : List (List (List UInt8))) : Prop := a.length ≤ m ∧ ∀ ns ∈ a, ns.length ≤ m ∧ ∀ s ∈ ns, s.length ≤ m

end Go.Proofs.YtidpkmkhcomcdaaGreat

namespace Go.Proofs.YtidpkmkhcomcdaaGreat
open Go.RowKit

set_option maxHeartbeats 1000000
set_option maxRecDepth 100000

/-- The slice value holds these texts. -/
def Strs (w : World) (sv : Value) (ns : List (List UInt8)) : Prop :=
  (sv = .slice none 0 0 ∧ ns = []) ∨ ∃ b off cap, sv = .slice (some ⟨b, off, none⟩) ns.length cap ∧ ∀ j (h : j < ns.length), w.cell? ⟨b, off + j, none⟩ = some (str ns[j])

theorem ownsRow_strs {w : World} {base : Nat} {T : TypeId} {sv : Value} {ns : List (List UInt8)} (h : w.ownsRow base T 1 sv ns.length (ns.map str)) : Strs w sv ns := by
  rcases h.2 with ⟨rfl, h0⟩ | ⟨g, cap, cur, rfl, hb, hh, hn, hc, hs, ht⟩
  · exact Or.inl ⟨rfl, List.length_eq_zero_iff.1 h0⟩
  · refine Or.inr ⟨g, 0, cap, rfl, fun j hj => ?_⟩
    have := h.cells (g := g) rfl j (str ns[j]) (by simp [hj])
    have hadd : (⟨g, 0, none⟩ : Addr).add j = ⟨g, 0 + j, none⟩ := by unfold Addr.add; split <;> simp_all
    rw [hadd] at this
    exact this

theorem s_has (w : World) (sv : Value) (ns : List (List UInt8)) (x : List UInt8) (h : Strs w sv ns) (hn : ns.length ≤ 1000000000) :
    Calls Tryz.prog 49 #[sv, str x] w fun e w' => e = .returned (.bool (decide (x ∈ ns))) ∧ w = w' := by
  rcases h with ⟨rfl, rfl⟩ | ⟨b, off, cap, rfl, hc⟩
  · go_enter Tryz.func49, Tryz.ntmps49
    go_wp2_with fail
    go_loop [5] (fun i => i = .int .i64 0) (fun _ => 0)
    case atStart => rfl
    case round =>
      obtain rfl := hrel
      go_wp2_with fail
      go_ret
      exact ⟨by simp, rfl⟩
  · obtain ⟨r, hr⟩ : ∃ r, r = decide (x ∈ ns) := ⟨_, rfl⟩
    rw [← hr]
    have hstart : Hid (r = decide (x ∈ ns.drop 0)) := by show _ = _; rw [hr]; simp
    have HC := Lib.hid hc
    clear hr hc
    go_enter Tryz.func49, Tryz.ntmps49
    go_wp2_with fail
    go_loop [5] (fun i => ∃ k : Nat, i = .int .i64 k ∧ k ≤ ns.length ∧ Hid (r = decide (x ∈ ns.drop k))) (fun i => ns.length - (intOf i).toNat)
    case atStart => exact ⟨0, rfl, Nat.zero_le _, hstart⟩
    case round =>
      obtain ⟨k, rfl, hk, hr⟩ := hrel
      clear hstart
      by_cases hlt : k < ns.length
      · have hck := HC.out k hlt
        have hd := List.drop_eq_getElem_cons hlt
        rw [hd] at hr
        clear hd
        generalize ns[k] = y at hck hr
        by_cases he : y = x
        · subst he
          have HS : Hid (r = true) := by show _ = _; rw [hr.out]; simp
          clear hr
          go_wp2_with fail
          go_ret
          exact ⟨by rw [HS.out]; rfl, rfl⟩
        · have heq : (y == x) = false := beq_eq_false_iff_ne.2 he
          have HS : Hid (r = decide (x ∈ ns.drop (k + 1))) := by show _ = _; rw [hr.out]; simp [Ne.symm he]
          clear hr he
          go_wp2_with fail
          go_round
          case rel => exact ⟨k + 1, by go_num, by omega, HS⟩
          case measure => simp [intOf]; omega
      · have HS : Hid (r = false) := by show _ = _; rw [hr.out, List.drop_eq_nil_of_le (by omega)]; simp
        clear hr
        go_wp2_with fail
        go_ret
        exact ⟨by rw [HS.out]; rfl, rfl⟩

/-! ### growing -/

theorem grew_drew {a b : World} {r : Option Nat} (h : a.grownBy b r) : a.grownBy b.drew r := ⟨h.os, h.tape, h.output, h.size, h.block⟩
theorem grew_refl (a : World) (r : Option Nat) : a.grownBy a r := ⟨rfl, rfl, rfl, Nat.le_refl _, fun _ _ _ => rfl⟩
theorem grew_alloc {a b : World} {r : Option Nat} (h : a.grownBy b r) (o : Obj) : a.grownBy (b.alloc o) r :=
  ⟨h.os, h.tape, h.output, by simp; have := h.size; omega, fun k hk hr => by rw [Below.heap_alloc _ _ _ (Nat.lt_of_lt_of_le hk h.size)]; exact h.block k hk hr⟩
theorem grew_trans {a b c : World} {r r2 : Option Nat} (h1 : a.grownBy b r) (h2 : b.grownBy c r2) (hr : r2 = r ∨ ∃ k, r2 = some k ∧ a.heap.size ≤ k) : a.grownBy c r := by
  refine ⟨h2.os.trans h1.os, h2.tape.trans h1.tape, h2.output.trans h1.output, Nat.le_trans h1.size h2.size, fun k hk hne => ?_⟩
  rw [h2.block k (Nat.lt_of_lt_of_le hk h1.size) ?_]
  · exact h1.block k hk hne
  · rcases hr with rfl | ⟨k', rfl, hk'⟩
    · exact hne
    · intro e; injection e with e; omega

theorem grew_heap {a b : World} {r : Option Nat} (h : a.grownBy b r) {k : Nat} {o : Obj} (hk : a.heap[k]? = some o) (hr : some k ≠ r) : b.heap[k]? = some o := by
  rw [h.block k (Array.getElem?_eq_some_iff.1 hk).1 hr]; exact hk

def NamesP (mb : Nat) (w : World) (sv : Value) (ns : List (List UInt8)) (e : Ending) (w' : World) : Prop :=
  ∃ sv', e = .returned sv' ∧ w'.ownsRow mb 9 1 sv' ns.length (ns.map str) ∧ w.grownBy w' sv.ownBlock ∧ (sv'.ownBlock = sv.ownBlock ∨ ∃ k, sv'.ownBlock = some k ∧ w.heap.size ≤ k)

theorem name_ne {n : List UInt8} (h : Tm.nameOk n = true) : n.isEmpty = false ∧ (n == [107]) = false ∧ (n == [115]) = false := by
  refine ⟨?_, ?_, ?_⟩
  · cases n with
    | nil => simp [Tm.nameOk] at h
    | cons => rfl
  · rw [beq_eq_false_iff_ne]; rintro rfl; revert h; decide
  · rw [beq_eq_false_iff_ne]; rintro rfl; revert h; decide

theorem names_k (mb : Nat) (W : World) (v sv : Value) (ns : List (List UInt8)) (ho : W.ownsRow mb 9 1 sv ns.length (ns.map str)) :
    Calls Tryz.prog 74 #[.agg #[str [107], v], sv] W (NamesP mb W sv ns) := by
  have HO := Lib.hid ho
  clear ho
  go_enter Tryz.func74, Tryz.ntmps74
  go_wp2_with fail
  go_ret
  exact ⟨_, rfl, HO.out.alloc _, grew_alloc (grew_refl _ _) _, Or.inl rfl⟩

theorem names_s (mb : Nat) (W : World) (v sv : Value) (ns : List (List UInt8)) (ho : W.ownsRow mb 9 1 sv ns.length (ns.map str)) :
    Calls Tryz.prog 74 #[.agg #[str [115], v], sv] W (NamesP mb W sv ns) := by
  have HO := Lib.hid ho
  clear ho
  go_enter Tryz.func74, Tryz.ntmps74
  go_wp2_with fail
  go_ret
  exact ⟨_, rfl, HO.out.alloc _, grew_alloc (grew_refl _ _) _, Or.inl rfl⟩

theorem sinfo_string : (Tryz.prog.info? 9).map (fun i => (i.zero, i.size, i.bytes)) = some (some (.string ⟨#[]⟩), 1, 16) := by kernel_rfl

theorem names_nm (mb : Nat) (W : World) (n : List UInt8) (v sv : Value) (ns : List (List UInt8)) (hn : Tm.nameOk n = true) (ho : W.ownsRow mb 9 1 sv ns.length (ns.map str)) (hmb : mb ≤ W.heap.size) (hl : ns.length ≤ 1000000) :
    Calls Tryz.prog 74 #[.agg #[str n, v], sv] W (NamesP mb W sv ((Tm.nm n).names ns)) := by
  obtain ⟨e0, e1, e2⟩ := name_ne hn
  have hhas := s_has (W.alloc (.cells #[str n, v] 53)) sv ns n (ownsRow_strs (ho.alloc _)) (by omega)
  by_cases hm : n ∈ ns
  · rw [show (Tm.nm n).names ns = ns by simp [Tm.names, hm]]
    rw [show decide (n ∈ ns) = true by simpa using hm] at hhas
    have HO := Lib.hid ho
    clear ho hm hn
    go_enter Tryz.func74, Tryz.ntmps74
    go_wp2_with (go_at_call 49; refine hhas.mono ?_; rintro e w' ⟨rfl, rfl⟩)
    go_ret
    exact ⟨_, rfl, HO.out.alloc _, grew_alloc (grew_refl _ _) _, Or.inl rfl⟩
  · rw [show (Tm.nm n).names ns = ns ++ [n] by simp [Tm.names, hm]]
    rw [show decide (n ∈ ns) = false by simpa using hm] at hhas
    obtain ⟨i0, hi, hz0, hz1, hz2⟩ := info_parts sinfo_string
    have hun := Tryz.underlying40
    have hmax : ns.length + 1 ≤ maxLen := by unfold maxLen; omega
    have hm16 : (ns.length + 1) * 16 ≤ 140737488355328 := by omega
    have hone : ∀ u ∈ [str n], u.oneCell' = true := by simp [Value.oneCell']
    have hsz : mb ≤ ((W.alloc (.cells #[str n, v] 53)).alloc (.cells #[str n] 9)).heap.size := by simp; omega
    have hown := (ho.alloc (.cells #[str n, v] 53)).alloc (.cells #[str n] 9)
    have hnews := cell_one_new (W.alloc (.cells #[str n, v] 53)) (str n) 9
    rw [show (W.alloc (.cells #[str n, v] 53)).heap.size = W.heap.size + 1 by simp] at hnews
    have hlt := ho.lt
    have HLT := Lib.hid hlt
    have HO := Lib.hid hown
    clear ho hm hn hown hlt
    go_enter Tryz.func74, Tryz.ntmps74
    go_wp2_with (first
      | (go_at_call 49; refine hhas.mono ?_; rintro e w' ⟨rfl, rfl⟩)
      | (at_builtin; refine wpList_append_own_at _ rfl _ _ 40 rfl mb 9 i0 (.string ⟨#[]⟩) 1 16 hun hi hz0 hz1 hz2 rfl (by decide) _ _ _ rfl HO.out ⟨W.heap.size + 1, 0, none⟩ 1 1 [str n] rfl rfl hnews hone hmax hm16 hsz ?_; intro v2 w2 ho2 hg2 hiff hor2; clear hiff; have HO2 := Lib.hid ho2; have HG2 := Lib.hid hg2; have HOR := Lib.hid hor2; clear ho2 hg2 hor2))
    go_ret
    refine ⟨_, rfl, by simpa using HO2.out, grew_trans (grew_alloc (grew_alloc (grew_refl W sv.ownBlock) _) _) HG2.out (Or.inl rfl), ?_⟩
    rcases HOR.out with h | h
    · exact Or.inl h
    · exact Or.inr ⟨_, h, by simp; omega⟩

theorem names_app (mb : Nat) (w W : World) (g cap : Nat) (fr : Nat × Nat) (s0 s1 : List UInt8) (a0 a1 : Option Addr) (n0 c0 n1 c1 : Nat) (f a : Tm) (sv : Value) (ns : List (List UInt8))
    (hw : w.heap.size = mb) (hh : w.heap[g]? = some (.cells #[str s0, .slice a0 n0 c0, str s1, .slice a1 n1 c1] 53 fr)) (hW : After w W) (ho : W.ownsRow mb 9 1 sv ns.length (ns.map str)) (hl : ns.length + (f.size + a.size) ≤ 1000000)
    (hf : ∀ W, After w W → ∀ sv ns, W.ownsRow mb 9 1 sv ns.length (ns.map str) → ns.length + f.size ≤ 1000000 → Calls Tryz.prog 74 #[.agg #[str s0, .slice a0 n0 c0], sv] W (NamesP mb W sv (f.names ns)))
    (ha : ∀ W, After w W → ∀ sv ns, W.ownsRow mb 9 1 sv ns.length (ns.map str) → ns.length + a.size ≤ 1000000 → Calls Tryz.prog 74 #[.agg #[str s1, .slice a1 n1 c1], sv] W (NamesP mb W sv (a.names ns))) :
    Calls Tryz.prog 74 #[.agg #[str [], .slice (some ⟨g, 0, none⟩) 2 cap], sv] W (NamesP mb W sv ((f.app a).names ns)) := by
  have hlen := Tm.names_len f ns
  obtain ⟨X, hX⟩ : ∃ X, X = W.alloc (.cells #[str [], .slice (some ⟨g, 0, none⟩) 2 cap] 53) := ⟨_, rfl⟩
  obtain ⟨r, hr⟩ : ∃ r, r = sv.ownBlock := ⟨_, rfl⟩
  have hgw := (Array.getElem?_eq_some_iff.1 hh).1
  have hgW := hW.size
  have hrlt : ∀ k, r = some k → mb ≤ k ∧ k < W.heap.size := by rw [hr]; exact ho.lt
  have hWX : W.grownBy X r := by rw [hX]; exact grew_alloc (grew_refl _ _) _
  have hbX : X.heap[W.heap.size]? = some (.cells #[str [], .slice (some ⟨g, 0, none⟩) 2 cap] 53 (0, 0)) := by rw [hX]; exact heap_new' _ _
  have hgX : X.heap[g]? = some (.cells #[str s0, .slice a0 n0 c0, str s1, .slice a1 n1 c1] 53 fr) := grew_heap hWX (hW.heap hh) (fun e => by have := (hrlt _ e.symm).1; omega)
  have hXs : X.heap.size = W.heap.size + 1 := by rw [hX]; simp
  have hwX : After w X := by rw [hX]; exact hW.alloc _
  have hgne : some g ≠ r := fun e => by have := (hrlt _ e.symm).1; omega
  have hbne : some W.heap.size ≠ r := fun e => by have := (hrlt _ e.symm).2; omega
  have b1 : ∀ W', X.grownBy W' r → W'.cell? ⟨W.heap.size, 1, none⟩ = some (.slice (some ⟨g, 0, none⟩) 2 cap) := fun W' h => cell_of_heap (grew_heap h hbX hbne)
  have g0 : ∀ W', X.grownBy W' r → W'.cell? ⟨g, 0, none⟩ = some (str s0) := fun W' h => cell_of_heap (grew_heap h hgX hgne)
  have g1 : ∀ W', X.grownBy W' r → W'.cell? ⟨g, 1, none⟩ = some (.slice a0 n0 c0) := fun W' h => cell_of_heap (grew_heap h hgX hgne)
  have g2 : ∀ W', X.grownBy W' r → W'.cell? ⟨g, 2, none⟩ = some (str s1) := fun W' h => cell_of_heap (grew_heap h hgX hgne)
  have g3 : ∀ W', X.grownBy W' r → W'.cell? ⟨g, 3, none⟩ = some (.slice a1 n1 c1) := fun W' h => cell_of_heap (grew_heap h hgX hgne)
  have hlater : ∀ W', X.grownBy W' r → After w W' := fun W' h => hwX.grown h (by omega) (fun k hk => by have := (hrlt k hk).1; omega)
  have hself : X.grownBy X.drew r := grew_drew (grew_refl _ _)
  have hcf := hf X.drew (hlater _ hself) sv ns (by rw [hX]; exact (ho.alloc _).drew) (by omega)
  have hca := fun W' (h : X.grownBy W' r) sv' ho' => ha W' (hlater _ h) sv' (f.names ns) ho' (by omega)
  unfold NamesP at hcf hca
  rw [← hr] at hcf
  rw [show (f.app a).names ns = a.names (f.names ns) by simp [Tm.names]]
  generalize f.names ns = ns1 at *
  generalize a.names ns1 = ns2 at *
  have HWX := Lib.hid hWX
  have HR := Lib.hid hr
  go_enter Tryz.func74, Tryz.ntmps74
  go_wp2_with fail
  rw [← hX]
  clear hf ha ho hlater hwX hX hr hWX hrlt hgX hbX hh hgne hbne hlen
  go_region_held3 (fun W' => X.grownBy W' r) (first | assumption | exact grew_drew (by assumption) | go_keep)
    (first
      | (go_at_call_of 74 a0; refine hcf.mono ?_; rintro e w1 ⟨sv1, rfl, ho1, hg1, hor1⟩; have hG1 := grew_trans hself hg1 (Or.inl rfl); have HO1 := Lib.hid ho1; have HOR1 := Lib.hid hor1; clear ho1 hor1)
      | (go_at_call_of 74 a1; refine (hca _ hG1 _ HO1.out).mono ?_; rintro e w2 ⟨sv2, rfl, ho2, hg2, hor2⟩; have HO2 := Lib.hid ho2; have HOR2 := Lib.hid hor2; have HG2 := Lib.hid hg2; have hG2 := grew_trans hG1 hg2 (by rcases HOR1.out with h | ⟨k, h, hk⟩; exact Or.inl h; exact Or.inr ⟨k, h, hk⟩); clear ho2 hor2 hg2))
  go_wp2_with fail
  go_ret
  refine ⟨_, rfl, HO2.out, by rw [← HR.out]; exact grew_trans HWX.out hG2 (Or.inl rfl), ?_⟩
  rw [← HR.out]
  have hs1 := HWX.out.size
  have hs2 := hG1.size
  rcases HOR2.out with h | ⟨k, h, hk⟩
  · rcases HOR1.out with h' | ⟨k, h', hk⟩
    · exact Or.inl (h.trans h')
    · exact Or.inr ⟨k, h.trans h', by simp at hk; omega⟩
  · exact Or.inr ⟨k, h, by omega⟩

theorem ST.names {w : World} {t : Tm} : ∀ {v : Value}, ST w t v → t.good = true → ∀ W, After w W → ∀ sv ns, W.ownsRow w.heap.size 9 1 sv ns.length (ns.map str) → ns.length + t.size ≤ 1000000 →
    Calls Tryz.prog 74 #[v, sv] W (NamesP w.heap.size W sv (t.names ns)) := by
  induction t with
  | k => intro v h hg W hW sv ns ho hl; simp only [ST] at h; subst h; exact names_k _ W _ sv ns ho
  | s => intro v h hg W hW sv ns ho hl; simp only [ST] at h; subst h; exact names_s _ W _ sv ns ho
  | nm n => intro v h hg W hW sv ns ho hl; simp only [ST] at h; subst h; exact names_nm _ W n _ sv ns hg ho hW.size (by omega)
  | app f a ihf iha =>
    intro v h hg W hW sv ns ho hl
    obtain ⟨g, cap, fr, s0, p0, s1, p1, rfl, hh, hf, ha⟩ := h
    simp only [Tm.good, Bool.and_eq_true] at hg
    simp only [Tm.size] at hl
    obtain ⟨x0, a0, n0, c0, rfl, rfl⟩ := parts_form hf
    obtain ⟨x1, a1, n1, c1, rfl, rfl⟩ := parts_form ha
    exact names_app _ w W g cap fr x0 x1 a0 a1 n0 c0 n1 c1 f a sv ns rfl hh hW ho hl (ihf hf hg.1) (iha ha hg.2)
end Go.Proofs.YtidpkmkhcomcdaaGreat

namespace Go.Proofs.YtidpkmkhcomcdaaGreat
namespace Tm

theorem parse_facts {l : List UInt8} {t : Tm} (h : parse l = some t) : good t = true ∧ fits t = true ∧ size t ≤ 3000 ∧ depth t ≤ 1500 ∧ t.text.length ≤ 21000 := by
  obtain ⟨_, h2, h3⟩ := parse_iff.1 h
  have h4 := h3
  simp only [fits, Bool.and_eq_true, decide_eq_true_eq] at h4
  have := text_le t h2
  exact ⟨h2, h3, h4.1, h4.2, by omega⟩

def pSize (l : List UInt8) : Int := match parse l with | some t => (size t : Nat) | none => -1
def pNames (l : List UInt8) : Option (List (List UInt8)) := (parse l).map (names [])
def pClosed (l : List UInt8) : Bool := match parse l with | some t => (names [] t).isEmpty | none => false
def pPut (l n b : List UInt8) : Option (List UInt8) := match parse l, parse b with
  | some t, some u => if nameOk n && fits (put t n u) then some (text (put t n u)) else none
  | _, _ => none
def pStep (l : List UInt8) : Option (List UInt8) := match parse l with
  | some t => (stepFit t).map text
  | none => none
def pMany (l : List UInt8) (n : Int) : Option (List UInt8 × Nat) := match parse l with
  | some t => if 0 ≤ n ∧ n ≤ 6000 then some (text (many n.toNat t).1, (many n.toNat t).2) else none
  | none => none
def pNormal (l : List UInt8) : Bool := match parse l with | some t => (step t).isNone | none => false
def pNorm (l : List UInt8) : Option (List UInt8 × Nat) := match parse l with
  | some t => (norm t).map fun p => (text p.1, p.2)
  | none => none
def pApply (l m : List UInt8) : Option (List UInt8) := match parse l, parse m with
  | some t, some u => if fits (app t u) then (norm (app t u)).map fun p => text p.1 else none
  | _, _ => none
def pEqual (l m : List UInt8) : Bool := match pNorm l, pNorm m with
  | some p, some q => decide (p.1 = q.1)
  | _, _ => false

end Tm
end Go.Proofs.YtidpkmkhcomcdaaGreat

namespace Go.Proofs.YtidpkmkhcomcdaaGreat
open Go.RowKit

set_option maxHeartbeats 4000000
set_option maxRecDepth 100000

/-- What l1Term hands back: a tree, and whether it is a term. -/
def STermPost (w : World) (l : List UInt8) (e : Ending) (w' : World) : Prop :=
  ∃ s ao n c, e = .returned (.tuple #[.agg #[str s, .slice ao n c], .bool (Tm.parse l).isSome]) ∧ After w w' ∧ ∀ t, Tm.parse l = some t → ST w' t (.agg #[str s, .slice ao n c])

theorem mread_parse {l : List UInt8} (h : l.length ≤ 24000) : Tm.parse l = match Tm.mread l 1501 0 with
    | some (t, j) => if j = l.length ∧ t.size ≤ 3000 then some t else none
    | none => none := by
  rw [← Tm.mparse_eq]
  unfold Tm.mparse
  rw [if_neg (by omega)]
  rfl

theorem s_term (w : World) (l : List UInt8) (hl : l.length ≤ 1000000000) :
    Calls Tryz.prog 73 #[str l] w (STermPost w l) := by
  have hsz : (⟨l.toArray⟩ : ByteArray).size = l.length := by show l.toArray.size = _; simp
  by_cases hbig : 24000 < l.length
  · have hfin : Tm.parse l = none := by rw [← Tm.mparse_eq]; unfold Tm.mparse; rw [if_pos hbig]
    have H := Lib.hid hfin
    clear hfin
    go_enter Tryz.func73, Tryz.ntmps73
    go_wp2_with fail
    exact bodyPost_ret (v := .tuple #[.agg #[.string ⟨#[]⟩, .slice none 0 0], .bool false]) (by simp [results, Tryz.results73, go_sem]) rfl
      ⟨[], none, 0, 0, by rw [H.out]; rfl, After.new _ _, fun t he => by rw [H.out] at he; simp at he⟩
  · have hp := mread_parse (l := l) (by omega)
    have hcall : ∀ W, Calls Tryz.prog 97 #[str l, .int .i64 0, .int .i64 0] W (SReadPost W (Tm.mread l 1501 0)) := fun W => s_read l hl 1501 0 0 0 W rfl (Nat.zero_le _) (by omega) (by omega)
    cases hq : Tm.mread l 1501 0 with
    | none =>
      have H := Lib.hid (show Tm.parse l = none by rw [hp, hq])
      have hpl : place none = -1 := rfl
      rw [hq] at hcall
      have hne : ((-1 : Int) == (l.length : Int)) = false := by rw [beq_eq_false_iff_ne]; omega
      clear hp hq
      go_enter Tryz.func73, Tryz.ntmps73
      go_wp2_with fail
      refine (hcall _).mono ?_
      rintro e w1 ⟨s1, ao1, n1, c1, rfl, hb1, ht1⟩
      clear ht1 hcall
      obtain ⟨r0, r1, f0, f1, hz⟩ := box2 hb1
      go_wp2_with fail
      go_region
      go_wp2_with fail
      exact bodyPost_ret (v := .tuple #[.agg #[str s1, .slice ao1 n1 c1], .bool false]) (by simp [results, Tryz.results73, go_sem, r0, r1, hz]) rfl
        ⟨s1, ao1, n1, c1, by rw [H.out]; rfl, After.drew (After.alloc (After.set2 hb1) _), fun t he => by rw [H.out] at he; simp at he⟩
    | some p =>
      obtain ⟨t, j⟩ := p
      obtain ⟨zt, hj⟩ := reads_size (Tm.mread_sound hq)
      have hgd := (Tm.mread_sound hq).2.2.2.1
      have hpl : place (some (t, j)) = (j : Int) := rfl
      rw [hq] at hcall hp
      simp only at hp
      by_cases hjl : j = l.length
      · subst hjl
        by_cases h3 : t.size ≤ 3000
        · have H := Lib.hid (show Tm.parse l = some t by rw [hp]; simp [h3])
          have h3' : (t.size : Int) ≤ 3000 := by omega
          clear hp hq
          go_enter Tryz.func73, Tryz.ntmps73
          go_wp2_with fail
          refine (hcall _).mono ?_
          rintro e w1 ⟨s1, ao1, n1, c1, rfl, hb1, ht1⟩
          have hst := Lib.hid (ht1 t _ rfl)
          clear ht1 hcall
          obtain ⟨r0, r1, f0, f1, hz⟩ := box2 hb1
          have hal := After.new w1 (.cells #[str s1, .slice ao1 n1 c1] 53)
          go_wp2_with fail
          go_region_with (go_at_call 76; refine ((ST.later hal.drew hst.out).size hgd (by omega)).mono ?_; rintro e w2 ⟨rfl, hb2⟩; have hb3 := (hb1.trans hal.drew).trans hb2; obtain ⟨p0, p1, p2, p3, p4⟩ := box2 hb3; obtain ⟨q0, q1, q2, q3, q4⟩ := box2 ((After.refl (w1.alloc (.cells #[str s1, .slice ao1 n1 c1] 53))).drew.trans hb2); have hne : w1.heap.size ≠ w.heap.size := by omega)
          all_goals
            go_wp2_with fail
            exact bodyPost_ret (v := .tuple #[.agg #[str s1, .slice ao1 n1 c1], .bool true]) (by simp [results, Tryz.results73, go_sem, p0, p1]) rfl
              ⟨s1, ao1, n1, c1, by rw [H.out]; rfl, After.set2 hb3, fun t' he => by rw [H.out] at he; obtain rfl := Option.some.inj he; exact (ST.later (hal.drew.trans hb2) hst.out).sets (i := 0) (j := 1) hb3⟩
        · have H := Lib.hid (show Tm.parse l = none by rw [hp]; simp [h3])
          have h3' : (3000 : Int) < (t.size : Int) := by omega
          clear hp hq
          go_enter Tryz.func73, Tryz.ntmps73
          go_wp2_with fail
          refine (hcall _).mono ?_
          rintro e w1 ⟨s1, ao1, n1, c1, rfl, hb1, ht1⟩
          have hst := Lib.hid (ht1 t _ rfl)
          clear ht1 hcall
          obtain ⟨r0, r1, f0, f1, hz⟩ := box2 hb1
          have hal := After.new w1 (.cells #[str s1, .slice ao1 n1 c1] 53)
          go_wp2_with fail
          go_region_with (go_at_call 76; refine ((ST.later hal.drew hst.out).size hgd (by omega)).mono ?_; rintro e w2 ⟨rfl, hb2⟩; have hb3 := (hb1.trans hal.drew).trans hb2; obtain ⟨p0, p1, p2, p3, p4⟩ := box2 hb3; obtain ⟨q0, q1, q2, q3, q4⟩ := box2 ((After.refl (w1.alloc (.cells #[str s1, .slice ao1 n1 c1] 53))).drew.trans hb2); have hne : w1.heap.size ≠ w.heap.size := by omega)
          all_goals
            go_wp2_with fail
            exact bodyPost_ret (v := .tuple #[.agg #[str s1, .slice ao1 n1 c1], .bool false]) (by simp [results, Tryz.results73, go_sem, p0, p1]; exact h3') rfl
              ⟨s1, ao1, n1, c1, by rw [H.out]; rfl, After.set2 hb3, fun t' he => by rw [H.out] at he; simp at he⟩
      · have H := Lib.hid (show Tm.parse l = none by rw [hp]; simp [hjl])
        have hne : ((j : Int) == (l.length : Int)) = false := by rw [beq_eq_false_iff_ne]; omega
        clear hp hq
        go_enter Tryz.func73, Tryz.ntmps73
        go_wp2_with fail
        refine (hcall _).mono ?_
        rintro e w1 ⟨s1, ao1, n1, c1, rfl, hb1, ht1⟩
        clear ht1 hcall
        obtain ⟨r0, r1, f0, f1, hz⟩ := box2 hb1
        go_wp2_with fail
        go_region
        go_wp2_with fail
        exact bodyPost_ret (v := .tuple #[.agg #[str s1, .slice ao1 n1 c1], .bool false]) (by simp [results, Tryz.results73, go_sem, r0, r1, hz]) rfl
          ⟨s1, ao1, n1, c1, by rw [H.out]; rfl, After.drew (After.alloc (After.set2 hb1) _), fun t he => by rw [H.out] at he; simp at he⟩
end Go.Proofs.YtidpkmkhcomcdaaGreat

namespace Go.Proofs.YtidpkmkhcomcdaaGreat
open Go.RowKit Go.WideMaps Go.Maps

set_option maxHeartbeats 400000
set_option maxRecDepth 100000

theorem law_key : Keyed Tryz.prog 9 := string_keyed Tryz.underlying9
theorem zero_bool (w : World) : (zeroValue 4).run Tryz.prog w = .ok (.bool false) w := by kernel_rfl
theorem info_string : (Tryz.prog.info? 9).map (fun i => (i.zero, i.size, i.bytes)) = some (some (.string ⟨#[]⟩), 1, 16) := by kernel_rfl

/-- The list lies in the blocks from mb on: the map, the list's own block, the row of names. -/
def NL (w : World) (mb : Nat) (ns : List (List UInt8)) : Prop :=
  ∃ sv, w.heap[mb + 1]? = some (.cells #[sv, .map (some mb)] 138 (0, 0)) ∧ w.ownsRow (mb + 2) 9 1 sv ns.length (ns.map str) ∧
    ∃ D : DataW Unit, w.ownsMap Tryz.prog 9 (plainElem Tryz.prog 4) mb ns.length D ∧ ∀ x, D.atKey (.string x) (.lit (.bool false)) = .lit (.bool (decide (x ∈ ns)))

theorem NL.lt {w : World} {mb : Nat} {ns : List (List UInt8)} (h : NL w mb ns) : mb + 2 ≤ w.heap.size := by
  obtain ⟨sv, h, _⟩ := h
  exact (Array.getElem?_eq_some_iff.1 h).1

theorem key_str (n : List UInt8) (h : n.length ≤ maxLen) : keyOf Tryz.prog 9 (str n) = some (.string n) := by
  have := keyOf_string_mk Tryz.underlying9 (s := ⟨n.toArray⟩) (by show n.toArray.size ≤ _; simpa using h)
  simpa using this

theorem look_run {w : World} {mb k : Nat} {D : DataW Unit} {ns : List (List UInt8)} (ho : w.ownsMap Tryz.prog 9 (plainElem Tryz.prog 4) mb k D) (hD : ∀ x, D.atKey (.string x) (.lit (.bool false)) = .lit (.bool (decide (x ∈ ns)))) (n : List UInt8) (h : n.length ≤ maxLen) :
    (Instr.lookup 98 (.map (some mb)) (str n) false).run Tryz.prog w = .ok (.bool (decide (n ∈ ns))) w := by
  obtain ⟨v, ps, hrun, hv⟩ := ho.lookup law_key Tryz.underlying98 (zero_bool w) (plainElem_bool Tryz.underlying4 false) (key_str n h)
  rw [hD] at hv
  unfold plainElem at hv
  rw [Tryz.underlying4] at hv
  cases v <;> simp at hv
  obtain ⟨rfl, _⟩ := hv
  exact hrun

theorem add_old (w : World) (mb : Nat) (ns : List (List UInt8)) (n : List UInt8) (h : NL w mb ns) (hn : n ∈ ns) (hl : n.length ≤ maxLen) :
    Calls Tryz.prog 144 #[.pointer (some ⟨mb + 1, 0, none⟩), str n] w fun e w' => e = .returned (.tuple #[]) ∧ w = w' := by
  obtain ⟨sv, h0, hr, D, hm, hD⟩ := h
  have c1 : w.cell? ⟨mb + 1, 1, none⟩ = some (.map (some mb)) := cell_of_heap h0
  have hrun := look_run hm hD n hl
  rw [show decide (n ∈ ns) = true by simpa using hn] at hrun
  clear hD hm hr hn
  go_enter Tryz.func144, Tryz.ntmps144
  go_wp2_with fail
  go_end0
  exact ⟨rfl, rfl⟩

theorem list_kept {w1 w2 : World} {mb : Nat} {sv : Value} {k : Nat} {xs : List Value} {o : Obj} (h : w1.heap[mb + 1]? = some (.cells #[sv, .map (some mb)] 138 (0, 0))) (hr : w1.ownsRow (mb + 2) 9 1 sv k xs) (hg : (w1.alloc o).grownBy w2 sv.ownBlock) :
    w2.heap[mb + 1]? = some (.cells #[sv, .map (some mb)] 138 (0, 0)) := by
  have hlt := (Array.getElem?_eq_some_iff.1 h).1
  rw [hg.block _ (by simp; omega) (fun e => by have := (hr.lt _ e.symm).1; omega), Below.heap_alloc _ _ _ hlt]
  exact h

theorem list_free {w : World} {mb : Nat} {cs : Array Value} {T : TypeId} (h : w.heap[mb + 1]? = some (.cells cs T (0, 0))) : w.frozen? ⟨mb + 1, 0, none⟩ = false := by
  simp [World.frozen?, h]

theorem own_slice {w : World} {base n size : Nat} {T : TypeId} {v : Value} {xs : List Value} (h : w.ownsRow base T size v n xs) : ∃ ao an ac, v = .slice ao an ac := by
  rcases h.2 with ⟨rfl, _⟩ | ⟨g, cap, cur, rfl, _⟩
  · exact ⟨_, _, _, rfl⟩
  · exact ⟨_, _, _, rfl⟩

theorem own_slice_len {w : World} {base n size : Nat} {T : TypeId} {v : Value} {xs : List Value} (h : w.ownsRow base T size v n xs) : ∃ ao ac, v = .slice ao n ac := by
  rcases h.2 with ⟨rfl, rfl⟩ | ⟨g, cap, cur, rfl, _⟩
  · exact ⟨_, _, rfl⟩
  · exact ⟨_, _, rfl⟩

theorem add_new (w : World) (mb : Nat) (ns : List (List UInt8)) (n : List UInt8) (h : NL w mb ns) (hn : n ∉ ns) (hl : n.length ≤ maxLen) (hk : ns.length ≤ 1000000) :
    Calls Tryz.prog 144 #[.pointer (some ⟨mb + 1, 0, none⟩), str n] w fun e w' => e = .returned (.tuple #[]) ∧ NL w' mb (ns ++ [n]) ∧ Below mb w w' := by
  obtain ⟨sv, h0, hr, D, hm, hD⟩ := h
  have c1 : w.cell? ⟨mb + 1, 1, none⟩ = some (.map (some mb)) := cell_of_heap h0
  have c0 : w.cell? ⟨mb + 1, 0, none⟩ = some sv := cell_of_heap h0
  have hrun := look_run hm hD n hl
  rw [show decide (n ∈ ns) = false by simpa using hn] at hrun
  obtain ⟨i0, hi, hz0, hz1, hz2⟩ := info_parts info_string
  have hun := Tryz.underlying40
  have hkey := key_str n hl
  have hmax : ns.length < maxLen := by unfold maxLen; omega
  have HMI := hm.isMap
  have HD := Lib.hid hD
  have H0 := Lib.hid h0
  have hlt0 := (Array.getElem?_eq_some_iff.1 h0).1
  clear hD h0
  go_enter Tryz.func144, Tryz.ntmps144
  go_wp2_with (at_mapUpdate; refine wpList_mapUpdate_own _ rfl _ _ _ 98 rfl 9 4 law_key Tryz.underlying98 _ mb _ _ rfl hm hmax _ _ _ rfl rfl hkey _ [] (plainElem_bool Tryz.underlying4 true) ?_)
  intro w1 hm1 hg1
  have h1 : w1.heap[mb + 1]? = some (.cells #[sv, .map (some mb)] 138 (0, 0)) := by
    rw [hg1.block _ (Array.getElem?_eq_some_iff.1 H0.out).1 (fun e => by injection e with e; omega)]; exact H0.out
  have d0 : w1.cell? ⟨mb + 1, 0, none⟩ = some sv := cell_of_heap h1
  have H1 := Lib.hid h1
  have hr1 := hr.kept hg1 (by
    cases hv : sv.ownBlock with
    | none => exact Or.inl rfl
    | some k => right; intro e; injection e with e; have := (hr.lt k hv).1; omega)
  have hsz : mb + 2 ≤ (w1.alloc (.cells #[str n] 9)).heap.size := by
    have := (Array.getElem?_eq_some_iff.1 h1).1
    simp; omega
  have hone : ∀ u ∈ [str n], u.oneCell' = true := by simp [Value.oneCell']
  have hm16 : (ns.length + 1) * 16 ≤ 140737488355328 := by omega
  have HR := Lib.hid hr1
  have HM := Lib.hid hm1
  have HG := Lib.hid hg1
  clear h1 hrun c0 c1 hr hr1 hm hm1 hg1
  go_wp2_with (at_builtin; refine wpList_append_own _ rfl _ _ 40 rfl (mb + 2) 9 i0 (.string ⟨#[]⟩) 1 16 hun hi hz0 hz1 hz2 rfl (by decide) _ _ _ rfl (World.ownsRow.alloc HR.out _) ⟨w1.heap.size, 0, none⟩ 1 1 [str n] rfl rfl (cell_one_new _ _ _) hone hmax hm16 hsz ?_; intro v2 w2 ho2 hg2 hiff; clear hiff; obtain ⟨ao, an, ac, rfl⟩ := own_slice ho2; have H2 := Lib.hid (list_kept H1.out HR.out hg2); have f0 := list_free H2.out; have e0 : w2.cell? ⟨mb + 1, 0, none⟩ = some sv := cell_of_heap H2.out; have HG2 : Hid ((w1.alloc (.cells #[str n] 9)).grownBy w2 sv.ownBlock) := Lib.hid hg2; have HO2 : Hid (w2.ownsRow (mb + 2) 9 1 (.slice ao an ac) (ns.length + 1) (ns.map str ++ [str n])) := Lib.hid ho2; clear hg2 ho2)
  go_end0
  have hs1 := HG.out.size
  refine ⟨rfl, ⟨.slice ao an ac, ?_, ?_, D.put (.string n) (.lit (.bool true)), ?_, ?_⟩, ?_⟩
  · simp [World.setCell, Array.getElem?_modify, H2.out]
  · have := ownsRow_setCell_below HO2.out (a := ⟨mb + 1, 0, none⟩) (by simp) (.slice ao an ac)
    simpa using this
  · have h1 := (HM.out.alloc (.cells #[str n] 9)).kept HG2.out (by
      cases hv : sv.ownBlock with
      | none => simp
      | some k => intro e; injection e with e; have := (HR.out.lt k hv).1; omega)
    have := h1.setCell (a := ⟨mb + 1, 0, none⟩) (by simp) (.slice ao an ac)
    simpa using this
  · intro x
    by_cases hx : x = n
    · subst hx
      rw [atKey_put_same HMI (by trivial)]
      simp
    · rw [atKey_put_other (by intro e; injection e with e; exact hx e), HD.out]
      simp [hx]
  · exact ((((Below.refl mb w).grown HG.out (by omega) (fun k hk => by injection hk with hk; omega)).alloc (by omega) _).grown HG2.out (by omega) (fun k hk => by have := (HR.out.lt k hk).1; omega)).setCell (by simp) _

/-! ### listNames -/

def ListPost (mb : Nat) (w : World) (ns : List (List UInt8)) (e : Ending) (w' : World) : Prop := e = .returned (.tuple #[]) ∧ NL w' mb ns ∧ Below mb w w'

/-- The method listNames of v, a term in blocks below mb. -/
def ListOk (w : World) (mb : Nat) (v : Value) (t : Tm) : Prop :=
  ∃ T x f y, v = .iface T x ∧ (∀ W, Below mb w W → (method 296 T x "loop.example/realizers/impl.listNames").run Tryz.prog W = .ok (f, y) W) ∧ (∀ args w', (callFunc f args).run Tryz.prog w' = .ok (.enter f args) w') ∧
    ∀ W, Below mb w W → ∀ ns, NL W mb ns → ns.length + t.size ≤ 1000000 → Calls Tryz.prog f #[y, .pointer (some ⟨mb + 1, 0, none⟩)] W (ListPost mb W (t.names ns))

theorem leaf_list (w : World) (v : Value) : Calls Tryz.prog 145 #[.agg #[], v] w fun e w' => e = .returned (.tuple #[]) ∧ w' = w.alloc (.cells #[] 91) := by
  go_enter Tryz.func145, Tryz.ntmps145
  go_wp2_with fail
  go_end0
  exact ⟨rfl, rfl⟩

theorem NL.alloc {w : World} {mb : Nat} {ns : List (List UInt8)} (h : NL w mb ns) (o : Obj) : NL (w.alloc o) mb ns := by
  obtain ⟨sv, h0, hr, D, hm, hD⟩ := h
  exact ⟨sv, by rw [Below.heap_alloc _ _ _ (Array.getElem?_eq_some_iff.1 h0).1]; exact h0, hr.alloc _, D, hm.alloc _, hD⟩

theorem n_list (W : World) (b mb : Nat) (n : List UInt8) (ns : List (List UInt8)) (hc : W.cell? ⟨b, 0, none⟩ = some (str n)) (h : NL W mb ns) (hl : n.length ≤ maxLen) (hk : ns.length ≤ 1000000) :
    Calls Tryz.prog 138 #[.pointer (some ⟨b, 0, none⟩), .pointer (some ⟨mb + 1, 0, none⟩)] W (ListPost mb W ((Tm.nm n).names ns)) := by
  by_cases hn : n ∈ ns
  · have hf : (Tm.nm n).names ns = ns := by simp [Tm.names, hn]
    rw [hf]
    have hadd := add_old W mb ns n h hn hl
    have HN := Lib.hid h
    clear hf hn h
    go_enter Tryz.func138, Tryz.ntmps138
    go_wp2_with (go_at_call 144; refine hadd.mono ?_; rintro e w' ⟨rfl, rfl⟩)
    go_end0
    exact ⟨rfl, HN.out, Below.refl _ _⟩
  · have hf : (Tm.nm n).names ns = ns ++ [n] := by simp [Tm.names, hn]
    rw [hf]
    have hadd := add_new W mb ns n h hn hl hk
    clear hf hn h
    go_enter Tryz.func138, Tryz.ntmps138
    go_wp2_with (go_at_call 144; refine hadd.mono ?_; rintro e w' ⟨rfl, h1, h2⟩; have H1 := Lib.hid h1; clear h1)
    go_end0
    exact ⟨rfl, H1.out, h2⟩

theorem cell_mb {w : World} {mb b i : Nat} {v : Value} (h : w.cell? ⟨b, i, none⟩ = some v) (hb : b < mb) : ∀ W, Below mb w W → W.cell? ⟨b, i, none⟩ = some v := fun W hW => by rw [hW.cell (p := ⟨b, i, none⟩) hb]; exact h

theorem a_list (w W : World) (b mb : Nat) (T1 T2 : TypeId) (x1 x2 : Value) (f a : Tm) (ns : List (List UInt8)) (hW : Below mb w W)
    (h0 : ∀ W, Below mb w W → W.cell? ⟨b, 0, none⟩ = some (.iface T1 x1)) (h1 : ∀ W, Below mb w W → W.cell? ⟨b, 1, none⟩ = some (.iface T2 x2))
    (hf : ListOk w mb (.iface T1 x1) f) (ha : ListOk w mb (.iface T2 x2) a) (h : NL W mb ns) (hl : ns.length + (f.app a).size ≤ 1000000) :
    Calls Tryz.prog 159 #[.pointer (some ⟨b, 0, none⟩), .pointer (some ⟨mb + 1, 0, none⟩)] W (ListPost mb W ((f.app a).names ns)) := by
  obtain ⟨_, _, g4, z4, e0, k4, l4, d4⟩ := hf
  injection e0 with e1 e2
  subst e1; subst e2
  obtain ⟨_, _, g5, z5, e0, k5, l5, d5⟩ := ha
  injection e0 with e1 e2
  subst e1; subst e2
  have hnl := Tm.names_len f ns
  simp only [Tm.size] at hl
  have HN := Lib.hid h
  clear h
  go_enter Tryz.func159, Tryz.ntmps159
  go_wp2_with (first
    | (go_at_fn g4; refine (d4 _ hW _ HN.out (by omega)).mono ?_; rintro e w1 ⟨rfl, hn1, hb1⟩; have H1 := Lib.hid hn1; clear hn1; have hW1 := hW.trans hb1)
    | (go_at_fn g5; refine (d5 _ hW1 _ H1.out (by omega)).mono ?_; rintro e w2 ⟨rfl, hn2, hb2⟩; have H2 := Lib.hid hn2; clear hn2))
  go_end0
  exact ⟨rfl, H2.out, hb1.trans hb2⟩

theorem heap_mb {w W : World} {mb b : Nat} {o : Obj} (h : w.heap[b]? = some o) (hb : b < mb) (hW : Below mb w W) : W.heap[b]? = some o := by rw [hW.block b hb]; exact h

theorem TV.listOk {w : World} {B mb : Nat} (hmb : ∀ (b : Nat) (o : Obj), w.heap[b]? = some o → b < mb) : ∀ {t : Tm} {v : Value}, TV w B t v → t.good = true → ListOk w mb v t
  | .k, _, ⟨b, fr, hv, _, h⟩, _ => ⟨_, _, _, _, hv, fun W hb => (meth_kLetter_listNames b W fr _ (heap_mb h (hmb _ _ h) hb)).1, (meth_kLetter_listNames b w fr _ h).2, fun W hW ns hn _ => (leaf_list W _).mono fun e w' ⟨he, hw⟩ => ⟨he, hw ▸ NL.alloc hn _, hw ▸ (Below.refl mb W).alloc (by have := hn.lt; omega) _⟩⟩
  | .s, _, ⟨b, fr, hv, _, h⟩, _ => ⟨_, _, _, _, hv, fun W hb => (meth_sLetter_listNames b W fr _ (heap_mb h (hmb _ _ h) hb)).1, (meth_sLetter_listNames b w fr _ h).2, fun W hW ns hn _ => (leaf_list W _).mono fun e w' ⟨he, hw⟩ => ⟨he, hw ▸ NL.alloc hn _, hw ▸ (Below.refl mb W).alloc (by have := hn.lt; omega) _⟩⟩
  | .nm n, _, ⟨b, fr, hv, _, h⟩, hg => ⟨_, _, _, _, hv, fun W _ => (meth_nameAtom_listNames _ W).1, (meth_nameAtom_listNames ⟨b, 0, none⟩ w).2, fun W hW ns hn hl => n_list W b mb n ns (cell_of_heap (heap_mb h (hmb _ _ h) hW)) hn (by
      simp only [Tm.good] at hg
      cases n with
      | nil => simp [Tm.nameOk] at hg
      | cons c ds => simp only [Tm.nameOk, Bool.and_eq_true, decide_eq_true_eq] at hg; unfold maxLen; simp; omega) (by omega)⟩
  | .app f a, _, ⟨b, fr, vf, va, hv, _, h, hf, ha⟩, hg => by
    simp only [Tm.good, Bool.and_eq_true] at hg
    have sf := TV.listOk hmb hf hg.1
    have sa := TV.listOk hmb ha hg.2
    obtain ⟨T1, x1, rfl, _⟩ := hf.asks
    obtain ⟨T2, x2, rfl, _⟩ := ha.asks
    exact ⟨_, _, _, _, hv, fun W _ => (meth_application_listNames _ W).1, (meth_application_listNames ⟨b, 0, none⟩ w).2, fun W hW ns hn hl =>
      a_list w W b mb T1 T2 x1 x2 f a ns hW (cell_mb (cell_of_heap (i := 0) h) (hmb _ _ h)) (cell_mb (cell_of_heap (i := 1) h) (hmb _ _ h)) sf sa hn hl⟩

/-! ### namesOf -/

def NamesPost (w : World) (t : Tm) (e : Ending) (w' : World) : Prop :=
  ∃ sv, e = .returned sv ∧ Below w.heap.size w w' ∧ w'.ownsRow w.heap.size 9 1 sv (t.names []).length ((t.names []).map str)

theorem ownsRow_base {w : World} {B B' n size : Nat} {T : TypeId} {v : Value} {xs : List Value} (h : w.ownsRow B T size v n xs) (hB : B' ≤ B) : w.ownsRow B' T size v n xs := by
  obtain ⟨h1, h2⟩ := h
  refine ⟨h1, ?_⟩
  rcases h2 with h2 | ⟨g, cap, cur, hv, hg, r⟩
  · exact Or.inl h2
  · exact Or.inr ⟨g, cap, cur, hv, Nat.le_trans hB hg, r⟩

theorem NL.start (w : World) : NL ((w.alloc (.map #[] 0)).alloc (.cells #[.slice none 0 0, .map (some w.heap.size)] 138)) w.heap.size [] := by
  refine ⟨.slice none 0 0, ?_, World.ownsRow_nil _ _ _ _, .map [], (World.ownsMap_made w _ _ _).alloc _, fun x => by simp [DataW.atKey]⟩
  have := heap_new (w.alloc (.map #[] 0)) (.cells #[.slice none 0 0, .map (some w.heap.size)] 138)
  simpa using this

theorem namesOf_any (w : World) (B : Nat) (t : Tm) (v : Value) (h : TV w B t v) (hg : t.good = true) (hl : t.size ≤ 1000000) :
    Calls Tryz.prog 68 #[v] w (NamesPost w t) := by
  obtain ⟨T1, x1, f1, y1, rfl, m1, n1, c1⟩ := h.listOk (mb := w.heap.size) (fun b o hb => (Array.getElem?_eq_some_iff.1 hb).1) hg
  have hmm := @run_makeMap Tryz.prog
  have hst := NL.start w
  have hb1 : Below w.heap.size w ((w.alloc (.map #[] 0)).alloc (.cells #[.slice none 0 0, .map (some w.heap.size)] 138)) := ((Below.refl _ _).alloc (Nat.le_refl _) _).alloc (by simp) _
  have HS := Lib.hid hst
  clear hst
  go_enter Tryz.func68, Tryz.ntmps68
  go_wp2_with fail
  refine (c1 _ hb1 _ HS.out (by simpa using hl)).mono ?_
  rintro e w1 ⟨rfl, hn1, hb2⟩
  obtain ⟨sv, h0, hr, _⟩ := hn1
  obtain ⟨ao, an, ac, rfl⟩ := own_slice hr
  have d0 : w1.cell? ⟨w.heap.size + 1, 0, none⟩ = some (.slice ao an ac) := cell_of_heap h0
  have HR := Lib.hid (ownsRow_base hr (B' := w.heap.size) (by omega))
  clear hr h0
  go_wp2_with fail
  go_ret
  exact ⟨_, rfl, hb1.trans hb2, HR.out⟩

/-! ### nameValid -/

theorem nameOk_len (l : List UInt8) : Tm.nameOk l = (!l.isEmpty && decide (Tm.nameLen l 0 = l.length)) := by
  cases hl : l with
  | nil => rfl
  | cons c ds =>
    rw [← hl]
    have hne : l.isEmpty = false := by rw [hl]; rfl
    rw [hne, Bool.eq_iff_iff]
    simp only [Bool.not_false, Bool.true_and, decide_eq_true_eq]
    constructor
    · exact fun h => Tm.nameLen_of l l [] 0 (by simp) h (by simp)
    · intro h
      have := Tm.nameLen_sound l 0 (by rw [h, hl]; simp)
      rw [h] at this
      simpa using this.1

end Go.Proofs.YtidpkmkhcomcdaaGreat

namespace Go.Proofs.YtidpkmkhcomcdaaGreat
open Go.RowKit

set_option maxHeartbeats 400000
set_option maxRecDepth 100000

/-- Bytes as cells. -/
def bcells (l : List UInt8) : List Value := l.map fun c => Value.int .u8 c.toNat

theorem bcells_len (l : List UInt8) : (bcells l).length = l.length := by simp [bcells]
theorem bcells_append (a b : List UInt8) : bcells (a ++ b) = bcells a ++ bcells b := by simp [bcells]
theorem bcells_str (l : List UInt8) : Lib.strCells ⟨l.toArray⟩ = bcells l := by simp [Lib.strCells, bcells]

/-- The slice value sv owns the bytes xs. -/
def Own (w : World) (base : Nat) (sv : Value) (xs : List UInt8) : Prop := w.ownsRow base 5 1 sv xs.length (bcells xs)

theorem info_byte : (Tryz.prog.info? 5).map (fun i => (i.zero, i.size, i.bytes)) = some (some (.int .u8 0), 1, 1) := by kernel_rfl

def WritePost (w : World) (xs l : List UInt8) (e : Ending) (w' : World) : Prop :=
  ∃ sv, e = .returned sv ∧ Below w.heap.size w w' ∧ Own w' w.heap.size sv (xs ++ l)

def WriteOk (w : World) (v : Value) (t : Tm) : Prop :=
  ∃ T x f y, v = .iface T x ∧ (∀ W, Below w.heap.size w W → (method 296 T x "loop.example/realizers/impl.write").run Tryz.prog W = .ok (f, y) W) ∧ (∀ args w', (callFunc f args).run Tryz.prog w' = .ok (.enter f args) w') ∧
    ∀ W, Below w.heap.size w W → ∀ sv xs, Own W w.heap.size sv xs → xs.length + t.text.length ≤ 1000000 → Calls Tryz.prog f #[y, sv] W (WritePost w xs t.text)

theorem own_new {w W w' : World} {sv v' : Value} {xs l : List UInt8} {o : Obj} (hW : Below w.heap.size w W) (ho : w'.ownsRow w.heap.size 5 1 v' (xs.length + l.length) (bcells xs ++ bcells l)) (hg : (W.alloc o).grownBy w' sv.ownBlock)
    (hs : Own W w.heap.size sv xs) : Below w.heap.size w w' ∧ Own w' w.heap.size v' (xs ++ l) :=
  ⟨(below_alloc hW o).grown hg (below_alloc hW o).size (fun k hk => (hs.lt k hk).1), by unfold Own; rw [bcells_append, List.length_append]; exact ho⟩

theorem own_new' {w W w' : World} {sv v' : Value} {xs l : List UInt8} (hW : Below w.heap.size w W) (ho : w'.ownsRow w.heap.size 5 1 v' (xs.length + l.length) (bcells xs ++ bcells l)) (hg : W.grownBy w' sv.ownBlock)
    (hs : Own W w.heap.size sv xs) : Below w.heap.size w w' ∧ Own w' w.heap.size v' (xs ++ l) :=
  ⟨hW.grown hg hW.size (fun k hk => (hs.lt k hk).1), by unfold Own; rw [bcells_append, List.length_append]; exact ho⟩

theorem undrew {w w' : World} {row : Option Nat} (h : w.drew.grownBy w' row) : w.grownBy w' row := ⟨h.os, h.tape, h.output, h.size, h.block⟩

theorem k_write (w W : World) (y sv : Value) (xs : List UInt8) (hW : Below w.heap.size w W) (hs : Own W w.heap.size sv xs) (hl : xs.length + 1 ≤ 1000000) :
    Calls Tryz.prog 149 #[y, sv] W (WritePost w xs [107]) := by
  obtain ⟨i0, hi, hz0, hz1, hz2⟩ := info_parts info_byte
  have hun := Tryz.underlying22
  have hm : xs.length + 1 ≤ maxLen := by unfold maxLen; omega
  go_enter Tryz.func149, Tryz.ntmps149
  go_wp2_with (at_builtin; refine wpList_append_own _ rfl _ _ 22 rfl w.heap.size 5 i0 (.int .u8 0) 1 1 hun hi hz0 hz1 hz2 rfl (by decide) _ _ _ rfl (World.ownsRow.alloc hs _) ⟨W.heap.size, 0, none⟩ 1 1 (bcells [107]) rfl rfl (cell_one_new _ _ _) (by simp [bcells, Value.oneCell']) hm (by omega) (below_alloc hW _).size ?_; intro v1 w1 ho hg _; obtain ⟨hb1, ho1⟩ := own_new hW ho hg hs; clear ho hg)
  go_ret
  exact ⟨_, rfl, hb1, ho1⟩

theorem s_write (w W : World) (y sv : Value) (xs : List UInt8) (hW : Below w.heap.size w W) (hs : Own W w.heap.size sv xs) (hl : xs.length + 1 ≤ 1000000) :
    Calls Tryz.prog 153 #[y, sv] W (WritePost w xs [115]) := by
  obtain ⟨i0, hi, hz0, hz1, hz2⟩ := info_parts info_byte
  have hun := Tryz.underlying22
  have hm : xs.length + 1 ≤ maxLen := by unfold maxLen; omega
  go_enter Tryz.func153, Tryz.ntmps153
  go_wp2_with (at_builtin; refine wpList_append_own _ rfl _ _ 22 rfl w.heap.size 5 i0 (.int .u8 0) 1 1 hun hi hz0 hz1 hz2 rfl (by decide) _ _ _ rfl (World.ownsRow.alloc hs _) ⟨W.heap.size, 0, none⟩ 1 1 (bcells [115]) rfl rfl (cell_one_new _ _ _) (by simp [bcells, Value.oneCell']) hm (by omega) (below_alloc hW _).size ?_; intro v1 w1 ho hg _; obtain ⟨hb1, ho1⟩ := own_new hW ho hg hs; clear ho hg)
  go_ret
  exact ⟨_, rfl, hb1, ho1⟩

theorem n_write (w W : World) (b : Nat) (n : List UInt8) (sv : Value) (xs : List UInt8) (hc : W.cell? ⟨b, 0, none⟩ = some (str n)) (hW : Below w.heap.size w W) (hs : Own W w.heap.size sv xs) (hl : xs.length + n.length ≤ 1000000) :
    Calls Tryz.prog 143 #[.pointer (some ⟨b, 0, none⟩), sv] W (WritePost w xs n) := by
  obtain ⟨i0, hi, hz0, hz1, hz2⟩ := info_parts info_byte
  have hun := Tryz.underlying22
  have hus := Tryz.underlying9
  have hm : xs.length + (⟨n.toArray⟩ : ByteArray).size ≤ maxLen := by unfold maxLen; show xs.length + n.toArray.size ≤ _; simp; omega
  have hm2 : xs.length + (⟨n.toArray⟩ : ByteArray).size ≤ 140737488355328 := by show xs.length + n.toArray.size ≤ _; simp; omega
  have hsz : (⟨n.toArray⟩ : ByteArray).size = n.length := by show n.toArray.size = _; simp
  have HSZ := Lib.hid hsz
  clear hsz
  go_enter Tryz.func143, Tryz.ntmps143
  go_wp2_with (at_builtin; refine Lib.wpList_append_own_string _ rfl _ _ 22 9 rfl w.heap.size 5 i0 hun hus hi hz0 hz1 hz2 _ _ _ rfl hs ⟨n.toArray⟩ rfl hm hm2 hW.size ?_; intro v1 w1 ho hg _; rw [HSZ.out, bcells_str] at ho; obtain ⟨hb1, ho1⟩ := own_new' hW ho hg hs; clear ho hg)
  go_ret
  exact ⟨_, rfl, hb1, ho1⟩

theorem a_write (w W : World) (b : Nat) (T1 T2 : TypeId) (x1 x2 : Value) (f a : Tm) (sv : Value) (xs : List UInt8) (hW : Below w.heap.size w W)
    (h0 : ∀ W, Below w.heap.size w W → W.cell? ⟨b, 0, none⟩ = some (.iface T1 x1)) (h1 : ∀ W, Below w.heap.size w W → W.cell? ⟨b, 1, none⟩ = some (.iface T2 x2))
    (hf : WriteOk w (.iface T1 x1) f) (ha : WriteOk w (.iface T2 x2) a) (hs : Own W w.heap.size sv xs) (hl : xs.length + (f.app a).text.length ≤ 1000000) :
    Calls Tryz.prog 164 #[.pointer (some ⟨b, 0, none⟩), sv] W (WritePost w xs (f.app a).text) := by
  obtain ⟨i0, hi, hz0, hz1, hz2⟩ := info_parts info_byte
  have hun := Tryz.underlying22
  obtain ⟨_, _, g4, z4, e0, k4, l4, d4⟩ := hf
  injection e0 with e1 e2
  subst e1; subst e2
  obtain ⟨_, _, g5, z5, e0, k5, l5, d5⟩ := ha
  injection e0 with e1 e2
  subst e1; subst e2
  simp only [Tm.text, List.length_cons, List.length_append, List.length_nil] at hl
  have m1 : xs.length + 1 ≤ maxLen := by unfold maxLen; omega
  have hnew : Below w.heap.size w ((W.alloc (.cells #[.int .u8 40] 5)).drew) := (below_alloc hW _).drew
  have hone : ∀ u ∈ bcells [40], u.oneCell' = true := by simp [bcells, Value.oneCell']
  have hsz : ((W.alloc (.cells #[.int .u8 40] 5)).drew).heap.size = W.heap.size + 1 := by simp
  go_enter Tryz.func164, Tryz.ntmps164
  go_wp2_with fail
  go_region_held3 (fun W' => Below w.heap.size w W') (first | assumption | exact hW.drew | go_keep)
    (first
      | (refine step_append_lies _ (by rfl) _ _ 22 (by rfl) w.heap.size 5 i0 (.int .u8 0) 1 1 hun hi hz0 hz1 hz2 rfl (by omega) _ _ _ (by rfl) (World.ownsRow.drew (World.ownsRow.alloc hs _)) ⟨W.heap.size, 0, none⟩ 1 1 (bcells [40]) (by rfl) (by rfl) (cell_one_new _ _ _) hone (by omega) m1 (by omega) hnew.size (W.heap.size + 1) hsz ?_; intro g1 q1 w1 ho hg _ _; obtain ⟨hb1, ho1⟩ := own_new hW ho (undrew hg) hs; clear ho hg)
      | (go_at_fn g4; refine (d4 _ (by assumption) _ _ ho1 ?_).mono ?_; (simp; omega); rintro e w2 ⟨v2, rfl, hb2, ho2⟩))
  clear ho1 hb1
  obtain ⟨ys, hys⟩ : ∃ ys, ys = xs ++ [40] ++ f.text := ⟨_, rfl⟩
  rw [← hys] at ho2
  have hyl : ys.length ≤ xs.length + 1 + f.text.length := by rw [hys]; simp; omega
  have HY := Lib.hid hys
  clear hys
  have m2 : ys.length + 1 ≤ maxLen := by unfold maxLen; omega
  have hnew2 : Below w.heap.size w ((w2.alloc (.cells #[.int .u8 32] 5)).drew) := (below_alloc hb2 _).drew
  have hone2 : ∀ u ∈ bcells [32], u.oneCell' = true := by simp [bcells, Value.oneCell']
  have hsz2 : ((w2.alloc (.cells #[.int .u8 32] 5)).drew).heap.size = w2.heap.size + 1 := by simp
  go_wp2_with fail
  go_region_held3 (fun W' => Below w.heap.size w W') (first | assumption | exact hb2.drew | go_keep)
    (first
      | (refine step_append_lies _ (by rfl) _ _ 22 (by rfl) w.heap.size 5 i0 (.int .u8 0) 1 1 hun hi hz0 hz1 hz2 rfl (by omega) _ _ _ (by rfl) (World.ownsRow.drew (World.ownsRow.alloc ho2 _)) ⟨w2.heap.size, 0, none⟩ 1 1 (bcells [32]) (by rfl) (by rfl) (cell_one_new _ _ _) hone2 (by omega) m2 (by omega) hnew2.size (w2.heap.size + 1) hsz2 ?_; intro g3 q3 w3 ho hg _ _; obtain ⟨hb3, ho3⟩ := own_new hb2 ho (undrew hg) ho2; clear ho hg)
      | (go_at_fn g5; refine (d5 _ (by assumption) _ _ ho3 ?_).mono ?_; (simp; omega); rintro e w4 ⟨v4, rfl, hb4, ho4⟩))
  clear ho3 hb3
  obtain ⟨zs, hzs⟩ : ∃ zs, zs = ys ++ [32] ++ a.text := ⟨_, rfl⟩
  rw [← hzs] at ho4
  have hzl : zs.length ≤ ys.length + 1 + a.text.length := by rw [hzs]; simp; omega
  have HZ := Lib.hid hzs
  clear hzs
  have m3 : zs.length + 1 ≤ maxLen := by unfold maxLen; omega
  go_wp2_with (at_builtin; refine wpList_append_own _ rfl _ _ 22 rfl w.heap.size 5 i0 (.int .u8 0) 1 1 hun hi hz0 hz1 hz2 rfl (by decide) _ _ _ rfl (World.ownsRow.alloc ho4 _) ⟨w4.heap.size, 0, none⟩ 1 1 (bcells [41]) rfl rfl (cell_one_new _ _ _) (by simp [bcells, Value.oneCell']) m3 (by omega) (below_alloc hb4 _).size ?_; intro v5 w5 ho hg _; obtain ⟨hb5, ho5⟩ := own_new hb4 ho hg ho4; clear ho hg)
  go_ret
  refine ⟨_, rfl, hb5, ?_⟩
  rw [HZ.out, HY.out] at ho5
  simpa [Tm.text, List.append_assoc] using ho5

theorem TV.writeOk {w : World} {B : Nat} : ∀ {t : Tm} {v : Value}, TV w B t v → WriteOk w v t
  | .k, _, ⟨b, fr, hv, _, h⟩ => ⟨_, _, _, _, hv, fun W _ => (meth_kLetter_write _ W).1, (meth_kLetter_write ⟨b, 0, none⟩ w).2, fun W hW sv xs hs hl => k_write w W _ sv xs hW hs hl⟩
  | .s, _, ⟨b, fr, hv, _, h⟩ => ⟨_, _, _, _, hv, fun W _ => (meth_sLetter_write _ W).1, (meth_sLetter_write ⟨b, 0, none⟩ w).2, fun W hW sv xs hs hl => s_write w W _ sv xs hW hs hl⟩
  | .nm n, _, ⟨b, fr, hv, _, h⟩ => ⟨_, _, _, _, hv, fun W _ => (meth_nameAtom_write _ W).1, (meth_nameAtom_write ⟨b, 0, none⟩ w).2, fun W hW sv xs hs hl => n_write w W b n sv xs (cell_of_heap (heap_later h hW)) hW hs hl⟩
  | .app f a, _, ⟨b, fr, vf, va, hv, _, h, hf, ha⟩ => by
    have sf := TV.writeOk hf
    have sa := TV.writeOk ha
    obtain ⟨T1, x1, rfl, _⟩ := hf.asks
    obtain ⟨T2, x2, rfl, _⟩ := ha.asks
    exact ⟨_, _, _, _, hv, fun W _ => (meth_application_write _ W).1, (meth_application_write ⟨b, 0, none⟩ w).2, fun W hW sv xs hs hl =>
      a_write w W b T1 T2 x1 x2 f a sv xs hW (cell_later' (cell_of_heap (i := 0) h)) (cell_later' (cell_of_heap (i := 1) h)) sf sa hs hl⟩

theorem foldl_push (l : List UInt8) : ∀ s : ByteArray, (l.map fun c => (c.toNat : Int)).foldl (fun r n => r.push (UInt8.ofNat n.toNat)) s = ⟨(s.data.toList ++ l).toArray⟩ := by
  induction l with
  | nil => intro s; simp
  | cons c l ih =>
    intro s
    rw [List.map_cons, List.foldl_cons, ih]
    simp [ByteArray.push]

/-- A string made of the bytes that a slice value owns. -/
theorem run_text {w : World} {base : Nat} {sv : Value} {xs : List UInt8} (hs : Own w base sv xs) (hne : xs ≠ []) : (convert 22 9 sv).run Tryz.prog w = .ok (str xs) w := by
  have hl := hs.1
  rcases hs.2 with ⟨_, h0⟩ | ⟨g, cap, cur, rfl, _, hh, _⟩
  · exact absurd (List.length_eq_zero_iff.1 h0) hne
  · have hc := hs.cells (g := g) rfl
    rw [run_convert_bytes_string w _ _ _ _ _ _ Tryz.underlying22 Tryz.underlying5 Tryz.underlying9]
    rw [run_bytesToString w _ _ _ (xs.map fun c => (c.toNat : Int)) (by
      have := run_loadCells_list (P := Tryz.prog) (w := w) ⟨g, 0, none⟩ (bcells xs) hc
      rw [bcells_len] at this
      rw [show ((xs.map fun c => (c.toNat : Int)).map (Value.int .u8)) = bcells xs by simp [bcells, Function.comp_def]]
      exact this)]
    rw [foldl_push]
    rfl

theorem textOf_any (w : World) (B : Nat) (t : Tm) (v : Value) (h : TV w B t v) (hg : t.good = true) (hl : t.text.length ≤ 1000000) :
    Calls Tryz.prog 28 #[v] w fun e w' => e = .returned (str t.text) ∧ Below w.heap.size w w' := by
  obtain ⟨T1, x1, f1, y1, rfl, m1, n1, c1⟩ := h.writeOk
  have hb0 := Below.refl w.heap.size w
  have ho : Own w w.heap.size (.slice none 0 0) [] := World.ownsRow_nil w w.heap.size _ 1
  go_enter Tryz.func28, Tryz.ntmps28
  go_wp2_with (go_at_fn f1; refine (c1 _ hb0 _ [] ho (by simpa using hl)).mono ?_; rintro e w1 ⟨v1, rfl, hb1, ho1⟩; have hc := run_text ho1 (Tm.text_ne t hg))
  go_ret
  exact ⟨rfl, hb1⟩
end Go.Proofs.YtidpkmkhcomcdaaGreat

namespace Go.Proofs.YtidpkmkhcomcdaaGreat
open Go.RowKit

set_option maxHeartbeats 1000000
set_option maxRecDepth 100000

namespace Tm
def I : Tm := app (app s k) k
def no : Tm := app k I
def pair (m n : Tm) : Tm := app (app s (app (app s I) (app k m))) (app k n)
def num : Nat → Tm
  | 0 => I
  | n + 1 => pair no (num n)
theorem size_pair (m n : Tm) : (pair m n).size = m.size + n.size + 7 := by simp [pair, I, size]; omega
theorem size_num (n : Nat) : (num n).size = 11 * n + 3 := by
  induction n with
  | zero => rfl
  | succ n ih => simp only [num, size_pair, ih]; simp [no, I, size]; omega
theorem good_pair (m n : Tm) : (pair m n).good = (m.good && n.good) := by simp [pair, I, good]
theorem good_num (n : Nat) : (num n).good = true := by
  induction n with
  | zero => rfl
  | succ n ih => simp only [num, good_pair, ih]; rfl
end Tm

def TermPost (w : World) (B : Nat) (t : Tm) (e : Ending) (w' : World) : Prop := ∃ v, e = .returned v ∧ Below w.heap.size w w' ∧ TV w' B t v

theorem foldl_size (f : Tm) (us : List Tm) : (us.foldl Tm.app f).size = f.size + (us.map Tm.size).sum := by
  induction us generalizing f with
  | nil => simp
  | cons u us ih => rw [List.foldl_cons, ih]; simp [Tm.size]; omega

theorem sum_take (ns : List Nat) (k : Nat) : (ns.take k).sum ≤ ns.sum := by
  induction ns generalizing k with
  | nil => simp
  | cons n ns ih => cases k with
    | zero => simp
    | succ k => simp only [List.take_succ_cons, List.sum_cons]; have := ih k; omega

theorem applyAll_any (w : World) (B g : Nat) (f : Tm) (vf : Value) (us : List Tm) (vs : List Value) (fr : Nat × Nat) (hlen : vs.length = us.length) (hh : w.heap[g]? = some (.cells vs.toArray 46 fr))
    (hf : TV w B f vf) (hus : ∀ j (h : j < us.length), TV w B us[j] (vs[j]'(by omega))) (hB : B ≤ w.heap.size) (hz : f.size + (us.map Tm.size).sum ≤ 1000000000) (hn : us.length ≤ 1000000) :
    Calls Tryz.prog 59 #[vf, .slice (some ⟨g, 0, none⟩) us.length us.length] w (TermPost w B (us.foldl Tm.app f)) := by
  have hstart : ∃ k : Nat, Value.int .i64 0 = .int .i64 k ∧ k ≤ us.length ∧ Hid (TV w B ((us.take k).foldl Tm.app f) vf) ∧ Below w.heap.size w w := ⟨0, rfl, Nat.zero_le _, by show TV _ _ _ _; simpa using hf, Below.refl _ _⟩
  have HH := Lib.hid hh
  have HU := Lib.hid hus
  clear hf hus hh
  go_enter Tryz.func59, Tryz.ntmps59
  go_wp2_with fail
  go_loopw [0, 9] (fun v i wr => ∃ k : Nat, i = .int .i64 k ∧ k ≤ us.length ∧ Hid (TV wr B ((us.take k).foldl Tm.app f) v) ∧ Below w.heap.size w wr) (fun _ i _ => us.length - (intOf i).toNat)
  case atStart => exact hstart
  case round =>
    clear hstart
    obtain ⟨k, rfl, hk, ht, hb⟩ := hrel
    by_cases hlt : k < us.length
    · have hcell : ∀ W, Below wr.heap.size wr W → W.cell? ⟨g, k, none⟩ = some (vs[k]'(by omega)) := fun W hW => by
        have h1 : w.cell? ⟨g, k, none⟩ = some (vs[k]'(by omega)) := by
          rw [cell_of_heap HH.out]; simp [show k < vs.length by omega]
        exact cell_later' h1 _ (below_trans hb hW)
      have hu := (HU.out k hlt).below hb
      have hs1 := foldl_size f (us.take k)
      have hs2 : (us[k]).size + ((us.take k).map Tm.size).sum ≤ (us.map Tm.size).sum := by
        have h1 := sum_take (us.map Tm.size) (k + 1)
        rw [List.take_succ_eq_append_getElem (by simpa using hlt)] at h1
        simp only [List.sum_append, List.getElem_map, List.sum_cons, List.sum_nil, ← List.map_take] at h1
        omega
      have hcall := apply_any wr B _ _ _ _ ht.out hu (Nat.le_trans hB hb.size) (by omega)
      have hnext : (us.take (k + 1)).foldl Tm.app f = ((us.take k).foldl Tm.app f).app us[k] := by
        rw [List.take_succ_eq_append_getElem hlt, List.foldl_append]; rfl
      rw [← hnext] at hcall
      have c1 := hcell wr (Below.refl _ _)
      clear hcell hu hs1 hs2 hnext
      generalize vs[k]'(by omega) = vk at c1 hcall
      go_wp2_with fail
      refine hcall.mono ?_
      rintro e w1 ⟨v1, rfl, hb1, ht1⟩
      have HT1 := Lib.hid ht1
      clear ht1
      go_wp2_with fail
      go_roundw
      case rel => exact ⟨k + 1, by go_num, by omega, HT1, below_trans hb hb1⟩
      case measure => simp [intOf]; omega
    · obtain rfl : k = us.length := by omega
      have HT := Lib.hid ht.out
      rw [List.take_length] at HT
      clear ht
      go_wp2_with fail
      go_ret
      exact ⟨_, rfl, hb, HT.out⟩

/-- Several new blocks. -/
def allocL (w : World) : List Obj → World
  | [] => w
  | o :: os => allocL (w.alloc o) os

theorem allocL_below (w : World) (os : List Obj) : Below w.heap.size w (allocL w os) := by
  induction os generalizing w with
  | nil => exact Below.refl _ _
  | cons o os ih => exact below_trans (below_alloc (Below.refl _ _) o) (ih (w.alloc o))

theorem allocL_size (w : World) (os : List Obj) : (allocL w os).heap.size = w.heap.size + os.length := by
  induction os generalizing w with
  | nil => rfl
  | cons o os ih => simp only [allocL, ih, List.length_cons]; simp; omega

theorem allocL_heap (w : World) (os : List Obj) (i : Nat) (h : i < os.length) : (allocL w os).heap[w.heap.size + i]? = some os[i] := by
  induction os generalizing w i with
  | nil => simp at h
  | cons o os ih =>
    cases i with
    | zero =>
      have h1 : (w.alloc o).heap[w.heap.size]? = some o := by show (w.heap.push _)[_]? = _; simp
      exact heap_later h1 (allocL_below (w.alloc o) os)
    | succ i =>
      have := ih (w.alloc o) i (by simpa using h)
      rw [show (w.alloc o).heap.size + i = w.heap.size + (i + 1) by simp; omega] at this
      simpa only [allocL, List.getElem_cons_succ] using this

theorem identity_any (w : World) (B : Nat) (hB : B ≤ w.heap.size) : Calls Tryz.prog 54 #[] w (TermPost w B Tm.I) := by
  obtain ⟨os, hos⟩ : ∃ os : List Obj, os = [.cells #[] 114, .cells #[] 111, .cells #[] 111, .cells #[.iface 109 (.pointer (some ⟨w.heap.size + 1, 0, none⟩)), .iface 109 (.pointer (some ⟨w.heap.size + 1 + 1, 0, none⟩))] 46] := ⟨_, rfl⟩
  have hX : allocL w os = (((w.alloc (.cells #[] 114)).alloc (.cells #[] 111)).alloc (.cells #[] 111)).alloc (.cells #[.iface 109 (.pointer (some ⟨w.heap.size + 1, 0, none⟩)), .iface 109 (.pointer (some ⟨w.heap.size + 1 + 1, 0, none⟩))] 46) := by rw [hos]; rfl
  have hb := allocL_below w os
  have h0 : (allocL w os).heap[w.heap.size]? = some (.cells #[] 114 (0, 0)) := by have := allocL_heap w os 0 (by rw [hos]; simp); simpa [hos] using this
  have h1 : (allocL w os).heap[w.heap.size + 1]? = some (.cells #[] 111 (0, 0)) := by have := allocL_heap w os 1 (by rw [hos]; simp); simpa [hos] using this
  have h2 : (allocL w os).heap[w.heap.size + 1 + 1]? = some (.cells #[] 111 (0, 0)) := by have := allocL_heap w os 2 (by rw [hos]; simp); simpa [hos] using this
  have h3 : (allocL w os).heap[w.heap.size + 1 + 1 + 1]? = some (.cells ([.iface 109 (.pointer (some ⟨w.heap.size + 1, 0, none⟩)), .iface 109 (.pointer (some ⟨w.heap.size + 1 + 1, 0, none⟩))] : List Value).toArray 46 (0, 0)) := by have := allocL_heap w os 3 (by rw [hos]; simp); simpa [hos] using this
  have hcall := applyAll_any (allocL w os) B (w.heap.size + 1 + 1 + 1) .s (.iface 113 (.pointer (some ⟨w.heap.size, 0, none⟩))) [.k, .k] [.iface 109 (.pointer (some ⟨w.heap.size + 1, 0, none⟩)), .iface 109 (.pointer (some ⟨w.heap.size + 1 + 1, 0, none⟩))] (0, 0) rfl h3
    ⟨_, _, rfl, hB, h0⟩ (fun j hj => by
      match j, hj with
      | 0, _ => exact ⟨_, _, rfl, by omega, h1⟩
      | 1, _ => exact ⟨_, _, rfl, by omega, h2⟩) (Nat.le_trans hB hb.size) (by decide) (by decide)
  unfold TermPost at hcall
  rw [hX] at hcall hb
  clear h0 h1 h2 h3 hX hos
  go_enter Tryz.func54, Tryz.ntmps54
  go_wp2_with fail
  refine hcall.mono ?_
  rintro e w1 ⟨v1, rfl, hb1, ht1⟩
  have HT := Lib.hid ht1
  clear ht1 hcall
  go_wp2_with fail
  go_ret
  exact ⟨_, rfl, below_trans hb hb1, HT.out⟩

theorem bit_any (w : World) (B : Nat) (b : Bool) (hB : B ≤ w.heap.size) : Calls Tryz.prog 51 #[.bool b] w (TermPost w B (if b then .k else Tm.no)) := by
  have hk : (w.alloc (.cells #[] 111)).heap[w.heap.size]? = some (.cells #[] 111 (0, 0)) := by show (w.heap.push _)[_]? = _; simp
  have hA : Below w.heap.size w (w.alloc (.cells #[] 111)) := below_alloc (Below.refl _ _) _
  have hI := identity_any (w.alloc (.cells #[] 111)) B (Nat.le_trans hB hA.size)
  unfold TermPost at hI
  have HK := Lib.hid hk
  clear hk
  cases b
  · simp only [Bool.false_eq_true, if_false]
    go_enter Tryz.func51, Tryz.ntmps51
    go_wp2_with fail
    refine hI.mono ?_
    rintro e w1 ⟨v1, rfl, hb1, ht1⟩
    have hcall := apply_any w1 B .k Tm.I (.iface 109 (.pointer (some ⟨w.heap.size, 0, none⟩))) v1 (TV.below (w := w.alloc (.cells #[] 111)) ⟨_, _, rfl, hB, HK.out⟩ hb1) ht1 (Nat.le_trans hB (Nat.le_trans hA.size hb1.size)) (by decide)
    clear ht1 hI
    go_wp2_with fail
    refine hcall.mono ?_
    rintro e w2 ⟨v2, rfl, hb2, ht2⟩
    have HT := Lib.hid ht2
    clear ht2 hcall
    go_wp2_with fail
    go_ret
    exact ⟨_, rfl, below_trans (below_trans hA hb1) hb2, HT.out⟩
  · simp only [if_true]
    go_enter Tryz.func51, Tryz.ntmps51
    go_wp2_with fail
    go_ret
    exact ⟨_, rfl, hA, _, _, rfl, hB, HK.out⟩
end Go.Proofs.YtidpkmkhcomcdaaGreat

namespace Go.Proofs.YtidpkmkhcomcdaaGreat
open Go.RowKit

set_option maxHeartbeats 1000000
set_option maxRecDepth 100000

inductive Bd
  | itself
  | without (t : Tm)
  | atEnd (f : Tm)
  | inside (f a : Bd)

def Bd.term : Bd → Tm
  | .itself => Tm.I
  | .without t => .app .k t
  | .atEnd f => f
  | .inside f a => .app (.app .s f.term) a.term

/-- The value v is this body, its terms in blocks from B on. -/
def BV (w : World) (B : Nat) : Bd → Value → Prop
  | .itself, v => v = .iface 115 (.agg #[])
  | .without t, v => ∃ x, v = .iface 117 (.agg #[x]) ∧ TV w B t x
  | .atEnd t, v => ∃ x, v = .iface 175 (.agg #[x]) ∧ TV w B t x
  | .inside f a, v => ∃ x y, v = .iface 121 (.agg #[x, y]) ∧ BV w B f x ∧ BV w B a y

theorem BV.below {w w' : World} {B : Nat} (hb : Below w.heap.size w w') : ∀ {b : Bd} {v : Value}, BV w B b v → BV w' B b v
  | .itself, _, h => h
  | .without _, _, ⟨x, hv, h⟩ => ⟨x, hv, h.below hb⟩
  | .atEnd _, _, ⟨x, hv, h⟩ => ⟨x, hv, h.below hb⟩
  | .inside _ _, _, ⟨x, y, hv, hf, ha⟩ => ⟨x, y, hv, hf.below hb, ha.below hb⟩

theorem meth_itself (W : World) : (method 296 115 (.agg #[]) "loop.example/realizers/impl.abstract").run Tryz.prog W = .ok (154, .agg #[]) W := by kernel_rfl
theorem meth_without (W : World) (x : Value) : (method 296 117 (.agg #[x]) "loop.example/realizers/impl.abstract").run Tryz.prog W = .ok (155, .agg #[x]) W := by kernel_rfl
theorem meth_atEnd (W : World) (x : Value) : (method 296 175 (.agg #[x]) "loop.example/realizers/impl.abstract").run Tryz.prog W = .ok (165, .agg #[x]) W := by kernel_rfl
theorem meth_inside (W : World) (x y : Value) : (method 296 121 (.agg #[x, y]) "loop.example/realizers/impl.abstract").run Tryz.prog W = .ok (79, .agg #[x, y]) W := by kernel_rfl

def AbsOk (w : World) (B : Nat) (v : Value) (t : Tm) : Prop :=
  ∃ T x f y, v = .iface T x ∧ (∀ W, (method 296 T x "loop.example/realizers/impl.abstract").run Tryz.prog W = .ok (f, y) W) ∧ (∀ args w', (callFunc f args).run Tryz.prog w' = .ok (.enter f args) w') ∧
    ∀ W, Below w.heap.size w W → Calls Tryz.prog f #[y] W (TermPost W B t)

theorem itself_abs (W : World) (B : Nat) (hB : B ≤ W.heap.size) : Calls Tryz.prog 154 #[.agg #[]] W (TermPost W B Tm.I) := by
  have hA := below_alloc (Below.refl W.heap.size W) (.cells #[] 115)
  have hcall := identity_any (W.alloc (.cells #[] 115)) B (Nat.le_trans hB hA.size)
  unfold TermPost at hcall
  go_enter Tryz.func154, Tryz.ntmps154
  go_wp2_with fail
  refine hcall.mono ?_
  rintro e w1 ⟨v1, rfl, hb1, ht1⟩
  have HT := Lib.hid ht1
  clear ht1 hcall
  go_wp2_with fail
  go_ret
  exact ⟨_, rfl, below_trans hA hb1, HT.out⟩

theorem without_abs (W : World) (B : Nat) (t : Tm) (x : Value) (h : TV W B t x) (hB : B ≤ W.heap.size) (hz : t.size ≤ 1000000000) : Calls Tryz.prog 155 #[.agg #[x]] W (TermPost W B (.app .k t)) := by
  obtain ⟨os, hos⟩ : ∃ os : List Obj, os = [.cells #[x] 117, .cells #[] 111] := ⟨_, rfl⟩
  have hX : allocL W os = (W.alloc (.cells #[x] 117)).alloc (.cells #[] 111) := by rw [hos]; rfl
  have hA := allocL_below W os
  have hk : (allocL W os).heap[W.heap.size + 1]? = some (.cells #[] 111 (0, 0)) := by have := allocL_heap W os 1 (by rw [hos]; simp); simpa [hos] using this
  have hcall := apply_any (allocL W os) B .k t (.iface 109 (.pointer (some ⟨W.heap.size + 1, 0, none⟩))) x ⟨_, _, rfl, by omega, hk⟩ (h.below hA) (Nat.le_trans hB hA.size) (by simp only [Tm.size]; omega)
  rw [hX] at hcall hA
  obtain ⟨T, y, rfl, _⟩ := h.asks
  clear hk hX hos h
  go_enter Tryz.func155, Tryz.ntmps155
  go_wp2_with fail
  refine hcall.mono ?_
  rintro e w1 ⟨v1, rfl, hb1, ht1⟩
  have HT := Lib.hid ht1
  clear ht1 hcall
  go_wp2_with fail
  go_ret
  exact ⟨_, rfl, below_trans hA hb1, HT.out⟩

theorem atEnd_abs (W : World) (B : Nat) (t : Tm) (x : Value) (h : TV W B t x) : Calls Tryz.prog 165 #[.agg #[x]] W (TermPost W B t) := by
  have hA := below_alloc (Below.refl W.heap.size W) (.cells #[x] 175)
  have HT := Lib.hid (h.below hA)
  obtain ⟨T, y, rfl, _⟩ := h.asks
  clear h
  go_enter Tryz.func165, Tryz.ntmps165
  go_wp2_with fail
  go_ret
  exact ⟨_, rfl, hA, HT.out⟩

theorem heap_top (W : World) (o : Obj) : (W.alloc o).heap[W.heap.size]? = some o := by show (W.heap.push _)[_]? = _; simp
theorem heap_top2 (W : World) (o p : Obj) : ((W.alloc o).alloc p).heap[W.heap.size + 1]? = some p := by
  have := heap_top (W.alloc o) p
  rwa [show (W.alloc o).heap.size = W.heap.size + 1 by simp] at this
theorem below_new (W : World) (o : Obj) : Below W.heap.size W (W.alloc o) := below_alloc (Below.refl _ _) _
theorem heap_below2 (W : World) (o p : Obj) : ((W.alloc o).alloc p).heap[W.heap.size]? = some o := heap_later (heap_top W o) (below_new (W.alloc o) p)

theorem inside_call (W : World) (B b g : Nat) (f a : Tm) (T3 T4 : TypeId) (x3 x4 : Value) (hs : W.heap[b]? = some (.cells #[] 114 (0, 0))) (hBb : B ≤ b) (hg : W.heap[g]? = some (.cells #[.iface T3 x3, .iface T4 x4] 46 (0, 0)))
    (h1 : TV W B f (.iface T3 x3)) (h2 : TV W B a (.iface T4 x4)) (hz : f.size + a.size ≤ 999999999) :
    Calls Tryz.prog 59 #[.iface 113 (.pointer (some ⟨b, 0, none⟩)), .slice (some ⟨g, 0, none⟩) 2 2] W (TermPost W B (.app (.app .s f) a)) := by
  have hlt := (Array.getElem?_eq_some_iff.1 hs).1
  have hg' : W.heap[g]? = some (.cells ([.iface T3 x3, .iface T4 x4] : List Value).toArray 46 (0, 0)) := hg
  exact applyAll_any _ B g .s _ [f, a] [.iface T3 x3, .iface T4 x4] (0, 0) rfl hg' ⟨_, _, rfl, hBb, hs⟩ (fun j hj => by
    match j, hj with
    | 0, _ => exact h1
    | 1, _ => exact h2) (by omega) (by simp [Tm.size]; omega) (by simp)

theorem inside_abs (W : World) (B : Nat) (f a : Tm) (x y : Value) (hf : AbsOk W B x f) (ha : AbsOk W B y a) (hB : B ≤ W.heap.size) (hz : f.size + a.size ≤ 999999999) : Calls Tryz.prog 79 #[.agg #[x, y]] W (TermPost W B (.app (.app .s f) a)) := by
  obtain ⟨T1, x1, f1, y1, rfl, m1, n1, d1⟩ := hf
  obtain ⟨T2, x2, f2, y2, rfl, m2, n2, d2⟩ := ha
  obtain ⟨X, hX⟩ : ∃ X, X = W.alloc (.cells #[.iface T1 x1, .iface T2 x2] 121) := ⟨_, rfl⟩
  have hWX : Below W.heap.size W X := by rw [hX]; exact below_alloc (Below.refl _ _) _
  have hbox : X.heap[W.heap.size]? = some (.cells #[.iface T1 x1, .iface T2 x2] 121 (0, 0)) := by rw [hX]; show (W.heap.push _)[_]? = _; simp
  have h0 : ∀ W', Below X.heap.size X W' → W'.cell? ⟨W.heap.size, 0, none⟩ = some (.iface T1 x1) := cell_later' (cell_of_heap hbox)
  have h1 : ∀ W', Below X.heap.size X W' → W'.cell? ⟨W.heap.size, 1, none⟩ = some (.iface T2 x2) := cell_later' (cell_of_heap hbox)
  have hself := Below.refl X.heap.size X
  have c1 := fun W' (h : Below X.heap.size X W') => d1 W' (below_trans hWX h)
  have c2 := fun W' (h : Below X.heap.size X W') => d2 W' (below_trans hWX h)
  unfold TermPost at c1 c2
  have HWX := Lib.hid hWX
  have hBX : B ≤ X.heap.size := Nat.le_trans hB hWX.size
  go_enter Tryz.func79, Tryz.ntmps79
  go_wp2_with fail
  rw [← hX]
  clear hbox hWX hX d1 d2
  go_region_held3 (fun W' => Below X.heap.size X W') (first | assumption | exact hself.drew | exact (below_alloc hself _).drew | exact below_alloc (by assumption) _ | go_keep)
    (first
      | (go_at_fn f1; refine (c1 _ (by first | assumption | exact (below_alloc hself _).drew)).mono ?_; rintro e w1 ⟨r1, rfl, hb1, hv1⟩; obtain ⟨T3, x3, rfl, _⟩ := hv1.asks; have HV1 := Lib.hid hv1; clear hv1; have hb1' := below_trans (by first | assumption | exact (below_alloc hself _).drew) hb1)
      | (go_at_fn f2; refine (c2 _ (by assumption)).mono ?_; rintro e w2 ⟨r2, rfl, hb2, hv2⟩; obtain ⟨T4, x4, rfl, _⟩ := hv2.asks; have HV2 := Lib.hid hv2; clear hv2; have hb2' := below_trans (by assumption) hb2)
      | (go_at_call 59
         refine (inside_call _ B _ _ f a T3 T4 x3 x4 ?_ ?_ ?_ ?_ ?_ hz).mono ?_
         · first
             | exact heap_later (heap_later (heap_later (w := (X.alloc (.cells #[] 114)).drew) (heap_top X _) hb1) hb2) (below_new _ _)
             | exact heap_later (heap_later (heap_top w1 _) hb2) (below_new _ _)
             | exact heap_below2 w2 _ _
             | exact heap_top2 w2 _ _
         · have q1 := hb1.size
           have q2 := hb2.size
           try simp at q1
           try simp at q2
           omega
         · first
             | exact heap_top w2 _
             | exact heap_top2 w2 _ _
             | exact heap_below2 w2 _ _
         · first
             | exact HV1.out.below (below_trans hb2 (below_new _ _))
             | exact HV1.out.below (below_trans (below_new w1 _) (below_trans hb2 (below_new _ _)))
             | exact HV1.out.below (below_trans hb2 (below_trans (below_new w2 _) (below_new _ _)))
         · first
             | exact HV2.out.below (below_new w2 _)
             | exact HV2.out.below (below_trans (below_new w2 _) (below_new _ _))
         rintro e w3 ⟨r3, rfl, hb3, hv3⟩
         have HV3 := Lib.hid hv3
         clear hv3
         have hb3' := below_trans (by assumption) hb3))
  all_goals
    go_wp2_with fail
    go_ret
    exact ⟨_, rfl, below_trans HWX.out hb3', HV3.out⟩
end Go.Proofs.YtidpkmkhcomcdaaGreat

namespace Go.Proofs.YtidpkmkhcomcdaaGreat
open Go.RowKit

set_option maxHeartbeats 1000000
set_option maxRecDepth 100000

theorem AbsOk.later {w W : World} {B : Nat} {v : Value} {t : Tm} (h : AbsOk w B v t) (hb : Below w.heap.size w W) : AbsOk W B v t := by
  obtain ⟨T, x, f, y, hv, hm, hc, hd⟩ := h
  exact ⟨T, x, f, y, hv, hm, hc, fun W' hW' => hd W' (below_trans hb hW')⟩

theorem BV.absOk {w : World} {B : Nat} (hB : B ≤ w.heap.size) : ∀ {b : Bd} {v : Value}, BV w B b v → b.term.size ≤ 999999999 → AbsOk w B v b.term
  | .itself, _, h, _ => ⟨_, _, _, _, h, meth_itself, fun _ _ => by kernel_rfl, fun W hW => itself_abs W B (Nat.le_trans hB hW.size)⟩
  | .without t, _, ⟨x, hv, h⟩, hz => ⟨_, _, _, _, hv, fun W => meth_without W x, fun _ _ => by kernel_rfl, fun W hW => without_abs W B t x (h.below hW) (Nat.le_trans hB hW.size) (by simp only [Bd.term, Tm.size] at hz; omega)⟩
  | .atEnd t, _, ⟨x, hv, h⟩, hz => ⟨_, _, _, _, hv, fun W => meth_atEnd W x, fun _ _ => by kernel_rfl, fun W hW => atEnd_abs W B t x (h.below hW)⟩
  | .inside f a, _, ⟨x, y, hv, hf, ha⟩, hz => by
    simp only [Bd.term, Tm.size] at hz
    have sf := BV.absOk hB hf (by omega)
    have sa := BV.absOk hB ha (by omega)
    exact ⟨_, _, _, _, hv, fun W => meth_inside W x y, fun _ _ => by kernel_rfl, fun W hW => inside_abs W B _ _ x y (sf.later hW) (sa.later hW) (Nat.le_trans hB hW.size) (by omega)⟩

theorem pair_any (w : World) (B : Nat) (m n : Tm) (v1 v2 : Value) (h1 : TV w B m v1) (h2 : TV w B n v2) (hB : B ≤ w.heap.size) (hz : m.size + n.size ≤ 100000000) :
    Calls Tryz.prog 55 #[v1, v2] w (TermPost w B (Tm.pair m n)) := by
  have hx := BV.absOk (b := .inside .itself (.without m)) (v := .iface 121 (.agg #[.iface 115 (.agg #[]), .iface 117 (.agg #[v1])])) hB ⟨_, _, rfl, rfl, _, rfl, h1⟩ (by simp [Bd.term, Tm.I, Tm.size]; omega)
  have hy := BV.absOk (b := .without n) (v := .iface 117 (.agg #[v2])) hB ⟨_, rfl, h2⟩ (by simp [Bd.term, Tm.size]; omega)
  have hcall := inside_abs w B _ _ _ _ hx hy hB (by simp [Bd.term, Tm.I, Tm.size]; omega)
  obtain ⟨T1, x1, rfl, _⟩ := h1.asks
  obtain ⟨T2, x2, rfl, _⟩ := h2.asks
  have hfin : (Tm.app (.app .s (Bd.term (.inside .itself (.without m)))) (Bd.term (.without n))) = Tm.pair m n := rfl
  rw [hfin] at hcall
  unfold TermPost at hcall
  clear hx hy h1 h2 hfin
  go_enter Tryz.func55, Tryz.ntmps55
  go_wp2_with fail
  refine hcall.mono ?_
  rintro e w1 ⟨v3, rfl, hb1, ht1⟩
  have HT := Lib.hid ht1
  clear ht1 hcall
  go_wp2_with fail
  go_ret
  exact ⟨_, rfl, hb1, HT.out⟩

theorem numeral_any (w : World) (B n : Nat) (hB : B ≤ w.heap.size) (hn : n ≤ 1000000) :
    Calls Tryz.prog 29 #[.int .i64 n] w (TermPost w B (Tm.num n)) := by
  have hI := identity_any w B hB
  unfold TermPost at hI
  go_enter Tryz.func29, Tryz.ntmps29
  go_wp2_with fail
  refine hI.mono ?_
  rintro e w1 ⟨v1, rfl, hb1, ht1⟩
  have hstart : Hid (TV w1 B (Tm.num 0) v1) := ht1
  clear ht1 hI
  go_wp2_with fail
  go_loopw [3, 6] (fun v i wr => ∃ k : Nat, i = .int .i64 k ∧ k ≤ n ∧ Hid (TV wr B (Tm.num k) v) ∧ Below w.heap.size w wr) (fun _ i _ => n - (intOf i).toNat)
  case atStart => exact ⟨0, rfl, Nat.zero_le _, hstart, hb1⟩
  case round =>
    clear hstart
    obtain ⟨k, rfl, hk, ht, hb⟩ := hrel
    by_cases hlt : k < n
    · have hbit := bit_any wr B false (Nat.le_trans hB hb.size)
      unfold TermPost at hbit
      simp only [Bool.false_eq_true, if_false] at hbit
      go_wp2_with fail
      refine hbit.mono ?_
      rintro e w2 ⟨v2, rfl, hb2, ht2⟩
      have hz := Tm.size_num k
      have hcall := pair_any w2 B Tm.no (Tm.num k) v2 _ ht2 (ht.out.below hb2) (Nat.le_trans hB (below_trans hb hb2).size) (by rw [hz]; simp [Tm.no, Tm.I, Tm.size]; omega)
      rw [show Tm.pair Tm.no (Tm.num k) = Tm.num (k + 1) from rfl] at hcall
      unfold TermPost at hcall
      clear ht2 hbit hz
      go_wp2_with fail
      refine hcall.mono ?_
      rintro e w3 ⟨v3, rfl, hb3, ht3⟩
      have HT3 := Lib.hid ht3
      clear ht3 hcall
      go_wp2_with fail
      go_roundw
      case rel => exact ⟨k + 1, by go_num, by omega, HT3, below_trans (below_trans hb hb2) hb3⟩
      case measure => simp [intOf]; omega
    · obtain rfl : k = n := by omega
      go_wp2_with fail
      go_ret
      exact ⟨_, rfl, hb, ht.out⟩

/-- What NumberOf answers. -/
def pNumber (n : Int) : Option (List UInt8) := if 0 ≤ n ∧ n ≤ 60 then some (Tm.num n.toNat).text else none

def NumOne (w : World) (r : Option (List UInt8)) (e : Ending) (w' : World) : Prop :=
  e = .returned (.tuple #[str (r.getD []), .bool r.isSome]) ∧ Below w.heap.size w w'

end Go.Proofs.YtidpkmkhcomcdaaGreat

namespace Go.Proofs.YtidpkmkhcomcdaaGreat
open Go.RowKit

set_option maxHeartbeats 1000000
set_option maxRecDepth 100000

namespace Tm
def behind (F : List UInt8) : Tm → Option Tm
  | app f a => if text f = F then some a else none
  | _ => none
def parts : Tm → Option (Tm × Tm)
  | app x y => match behind [107] y with
    | none => none
    | some n => match behind [115] x with
      | none => none
      | some left => match behind [40, 115, 32, 40, 40, 115, 32, 107, 41, 32, 107, 41, 41] left with
        | none => none
        | some front => match behind [107] front with
          | none => none
          | some m => some (m, n)
  | _ => none
theorem behind_good {F : List UInt8} {t a : Tm} (h : behind F t = some a) (hg : good t = true) : good a = true ∧ a.size < t.size := by
  cases t with
  | app f b =>
    simp only [behind] at h
    split at h
    · obtain rfl := Option.some.inj h
      simp only [good, Bool.and_eq_true] at hg
      exact ⟨hg.2, by simp only [size]; have := size_pos f; omega⟩
    · simp at h
  | _ => simp [behind] at h
end Tm

def BehindPost (w : World) (B : Nat) (r : Option Tm) (e : Ending) (w' : World) : Prop :=
  ∃ v, e = .returned (.tuple #[v, .bool r.isSome]) ∧ Below w.heap.size w w' ∧ ∀ a, r = some a → TV w' B a v

theorem assert_app (W : World) (x : Value) : (Instr.typeAssert (.iface 151 x) 46 151 true).run Tryz.prog W = .ok (.tuple #[x, .bool true]) W := by kernel_rfl
theorem assert_k (W : World) (x : Value) : (Instr.typeAssert (.iface 109 x) 46 151 true).run Tryz.prog W = .ok (.tuple #[.pointer none, .bool false]) W := by kernel_rfl
theorem assert_s (W : World) (x : Value) : (Instr.typeAssert (.iface 113 x) 46 151 true).run Tryz.prog W = .ok (.tuple #[.pointer none, .bool false]) W := by kernel_rfl
theorem assert_n (W : World) (x : Value) : (Instr.typeAssert (.iface 89 x) 46 151 true).run Tryz.prog W = .ok (.tuple #[.pointer none, .bool false]) W := by kernel_rfl

def PartsPost (w : World) (B : Nat) (r : Option (Tm × Tm)) (e : Ending) (w' : World) : Prop :=
  ∃ v1 v2, e = .returned (.tuple #[v1, v2, .bool r.isSome]) ∧ Below w.heap.size w w' ∧ ∀ m n, r = some (m, n) → TV w' B m v1 ∧ TV w' B n v2

/-- What PairParts answers. -/
def pParts (l : List UInt8) : Option (List UInt8 × List UInt8) := match Tm.parse l with
  | some t => t.parts.map fun p => (p.1.text, p.2.text)
  | none => none

def TwoRes (w : World) (r : Option (List UInt8 × List UInt8)) (e : Ending) (w' : World) : Prop :=
  e = .returned (.tuple #[str ((r.map Prod.fst).getD []), str ((r.map Prod.snd).getD []), .bool r.isSome]) ∧ Below w.heap.size w w'

theorem parts_good {t m n : Tm} (h : t.parts = some (m, n)) (hg : t.good = true) : m.good = true ∧ n.good = true ∧ m.size < t.size ∧ n.size < t.size := by
  cases t with
  | app x y =>
    simp only [Tm.good, Bool.and_eq_true] at hg
    simp only [Tm.parts] at h
    split at h
    · simp at h
    · rename_i n' e1
      split at h
      · simp at h
      · rename_i left e2
        split at h
        · simp at h
        · rename_i front e3
          split at h
          · simp at h
          · rename_i m' e4
            simp only [Option.some.injEq, Prod.mk.injEq] at h
            obtain ⟨rfl, rfl⟩ := h
            have g1 := Tm.behind_good e1 hg.2
            have g2 := Tm.behind_good e2 hg.1
            have g3 := Tm.behind_good e3 g2.1
            have g4 := Tm.behind_good e4 g3.1
            simp only [Tm.size]
            exact ⟨g4.1, g1.1, by omega, by omega⟩
  | _ => simp [Tm.parts] at h

end Go.Proofs.YtidpkmkhcomcdaaGreat

namespace Go.Proofs.YtidpkmkhcomcdaaGreat
open Go.RowKit

set_option maxHeartbeats 2000000
set_option maxRecDepth 100000

def Bd.comb (f a : Tm) : Bd → Bd → Bd
  | .without _, .without _ => .without (.app f a)
  | .without _, .itself => .atEnd f
  | b1, b2 => .inside b1 b2
def Bd.of (x : List UInt8) : Tm → Bd
  | .nm n => if n = x then .itself else .without (.nm n)
  | .app f a => Bd.comb f a (Bd.of x f) (Bd.of x a)
  | t => .without t

def BodyPost (w : World) (B : Nat) (b : Bd) (e : Ending) (w' : World) : Prop := ∃ v, e = .returned v ∧ Below w.heap.size w w' ∧ BV w' B b v

theorem BV.form {w : World} {B : Nat} {b : Bd} {v : Value} (h : BV w B b v) : ∃ T x, v = .iface T x := by
  cases b with
  | itself => exact ⟨_, _, h⟩
  | without t => obtain ⟨x, rfl, _⟩ := h; exact ⟨_, _, rfl⟩
  | atEnd t => obtain ⟨x, rfl, _⟩ := h; exact ⟨_, _, rfl⟩
  | inside f a => obtain ⟨x, y, rfl, _⟩ := h; exact ⟨_, _, rfl⟩

theorem assert_nm_n (W : World) (x : Value) : (Instr.typeAssert (.iface 89 x) 46 89 true).run Tryz.prog W = .ok (.tuple #[x, .bool true]) W := by kernel_rfl
theorem assert_nm_k (W : World) (x : Value) : (Instr.typeAssert (.iface 109 x) 46 89 true).run Tryz.prog W = .ok (.tuple #[.pointer none, .bool false]) W := by kernel_rfl
theorem assert_nm_s (W : World) (x : Value) : (Instr.typeAssert (.iface 113 x) 46 89 true).run Tryz.prog W = .ok (.tuple #[.pointer none, .bool false]) W := by kernel_rfl
theorem assert_nm_a (W : World) (x : Value) : (Instr.typeAssert (.iface 151 x) 46 89 true).run Tryz.prog W = .ok (.tuple #[.pointer none, .bool false]) W := by kernel_rfl
theorem assert_wo_w (W : World) (x : Value) : (Instr.typeAssert (.iface 117 (.agg #[x])) 119 117 true).run Tryz.prog W = .ok (.tuple #[.agg #[x], .bool true]) W := by kernel_rfl
theorem assert_wo_i (W : World) (x : Value) : (Instr.typeAssert (.iface 115 x) 119 117 true).run Tryz.prog W = .ok (.tuple #[.agg #[.nilIface], .bool false]) W := by kernel_rfl
theorem assert_wo_e (W : World) (x : Value) : (Instr.typeAssert (.iface 175 x) 119 117 true).run Tryz.prog W = .ok (.tuple #[.agg #[.nilIface], .bool false]) W := by kernel_rfl
theorem assert_wo_s (W : World) (x : Value) : (Instr.typeAssert (.iface 121 x) 119 117 true).run Tryz.prog W = .ok (.tuple #[.agg #[.nilIface], .bool false]) W := by kernel_rfl
theorem assert_it_i (W : World) : (Instr.typeAssert (.iface 115 (.agg #[])) 119 115 true).run Tryz.prog W = .ok (.tuple #[.agg #[], .bool true]) W := by kernel_rfl
theorem assert_it_e (W : World) (x : Value) : (Instr.typeAssert (.iface 175 x) 119 115 true).run Tryz.prog W = .ok (.tuple #[.agg #[], .bool false]) W := by kernel_rfl
theorem assert_it_s (W : World) (x : Value) : (Instr.typeAssert (.iface 121 x) 119 115 true).run Tryz.prog W = .ok (.tuple #[.agg #[], .bool false]) W := by kernel_rfl

theorem body_leaf (w : World) (B : Nat) (x : List UInt8) (T : TypeId) (b : Nat) (t : Tm) (hT : T = 109 ∨ T = 113) (h : TV w B t (.iface T (.pointer (some ⟨b, 0, none⟩)))) :
    Calls Tryz.prog 101 #[.iface T (.pointer (some ⟨b, 0, none⟩)), str x] w (BodyPost w B (.without t)) := by
  have HT := Lib.hid h
  clear h
  have ha1 := assert_k w (.pointer (some ⟨b, 0, none⟩))
  have ha2 := assert_s w (.pointer (some ⟨b, 0, none⟩))
  have ha3 := assert_nm_k w (.pointer (some ⟨b, 0, none⟩))
  have ha4 := assert_nm_s w (.pointer (some ⟨b, 0, none⟩))
  rcases hT with rfl | rfl
  all_goals
    go_enter Tryz.func101, Tryz.ntmps101
    go_wp2_with fail
    go_ret
    exact ⟨_, rfl, Below.refl _ _, _, rfl, HT.out⟩

theorem body_name (w : World) (B : Nat) (x n : List UInt8) (b : Nat) (h : TV w B (.nm n) (.iface 89 (.pointer (some ⟨b, 0, none⟩)))) :
    Calls Tryz.prog 101 #[.iface 89 (.pointer (some ⟨b, 0, none⟩)), str x] w (BodyPost w B (Bd.of x (.nm n))) := by
  have HT := Lib.hid h
  obtain ⟨b', fr, hv, hb, hh⟩ := h
  injection hv with _ hv
  injection hv with hv
  injection hv with hv
  injection hv with hv _ _
  subst hv
  have c0 : w.cell? ⟨b, 0, none⟩ = some (str n) := cell_of_heap hh
  have ha1 := assert_nm_n w (.pointer (some ⟨b, 0, none⟩))
  have ha2 := assert_n w (.pointer (some ⟨b, 0, none⟩))
  clear hh
  by_cases hn : n = x
  · subst hn
    rw [show Bd.of n (.nm n) = .itself by simp [Bd.of]]
    go_enter Tryz.func101, Tryz.ntmps101
    go_wp2_with fail
    go_ret
    exact ⟨_, rfl, Below.refl _ _, rfl⟩
  · have hne : (n == x) = false := beq_eq_false_iff_ne.2 hn
    rw [show Bd.of x (.nm n) = .without (.nm n) by simp [Bd.of, hn]]
    clear hn
    go_enter Tryz.func101, Tryz.ntmps101
    go_wp2_with fail
    go_ret
    exact ⟨_, rfl, Below.refl _ _, _, rfl, HT.out⟩

/-- What is known when the parts of an application are looked at. -/
theorem body_parts (W : World) (B b : Nat) (x : List UInt8) (f a : Tm) (b1 b2 : Bd) (T1 T2 : TypeId) (x1 x2 : Value) (hT : TV W B (.app f a) (.iface 151 (.pointer (some ⟨b, 0, none⟩)))) (hTf : TV W B f (.iface T1 x1))
    (h0 : ∀ W', Below W.heap.size W W' → W'.cell? ⟨b, 0, none⟩ = some (.iface T1 x1)) (h1 : ∀ W', Below W.heap.size W W' → W'.cell? ⟨b, 1, none⟩ = some (.iface T2 x2))
    (hf : ∀ W', Below W.heap.size W W' → Calls Tryz.prog 101 #[.iface T1 x1, str x] W' (BodyPost W' B b1))
    (ha : ∀ W', Below W.heap.size W W' → Calls Tryz.prog 101 #[.iface T2 x2, str x] W' (BodyPost W' B b2)) :
    Calls Tryz.prog 114 #[.pointer (some ⟨b, 0, none⟩), str x] W (BodyPost W B (Bd.comb f a b1 b2)) := by
  have hself := Below.refl W.heap.size W
  have HT := Lib.hid hT
  have HTF := Lib.hid hTf
  clear hT hTf
  unfold BodyPost at hf ha
  cases b1 with
  | itself =>
    rw [show Bd.comb f a .itself b2 = .inside .itself b2 by cases b2 <;> rfl]
    go_enter Tryz.func114, Tryz.ntmps114
    go_wp2_with fail
    go_region_held3 (fun W' => Below W.heap.size W W') (first | assumption | exact hself.drew | go_keep)
      (first
        | (go_at_call_of 101 x1; refine (hf _ (by first | assumption | exact hself.drew)).mono ?_; rintro e w1 ⟨r1, rfl, hb1, hv1⟩; (obtain rfl : r1 = .iface 115 (.agg #[]) := hv1); have hb1' := below_trans (by first | assumption | exact hself.drew) hb1)
        | (go_at_call_of 101 x2; refine (ha _ (by assumption)).mono ?_; rintro e w2 ⟨r2, rfl, hb2, hv2⟩; obtain ⟨T4, x4, rfl⟩ := hv2.form; have HV2 := Lib.hid hv2; clear hv2; have hb2' := below_trans (by assumption) hb2))
    all_goals
      have has := fun W' => assert_wo_i W' (.agg #[])
      go_wp2_with fail
      go_ret
      exact ⟨_, rfl, (hb2'.alloc hb2'.size _), _, _, rfl, rfl, HV2.out.below (below_new _ _)⟩
  | atEnd t =>
    rw [show Bd.comb f a (.atEnd t) b2 = .inside (.atEnd t) b2 by cases b2 <;> rfl]
    go_enter Tryz.func114, Tryz.ntmps114
    go_wp2_with fail
    go_region_held3 (fun W' => Below W.heap.size W W') (first | assumption | exact hself.drew | go_keep)
      (first
        | (go_at_call_of 101 x1; refine (hf _ (by first | assumption | exact hself.drew)).mono ?_; rintro e w1 ⟨r1, rfl, hb1, hv1⟩; obtain ⟨y1, rfl, hy1⟩ := hv1; have HY1 := Lib.hid hy1; clear hy1; have hb1' := below_trans (by first | assumption | exact hself.drew) hb1)
        | (go_at_call_of 101 x2; refine (ha _ (by assumption)).mono ?_; rintro e w2 ⟨r2, rfl, hb2, hv2⟩; obtain ⟨T4, x4, rfl⟩ := hv2.form; have HV2 := Lib.hid hv2; clear hv2; have hb2' := below_trans (by assumption) hb2))
    all_goals
      have has := fun W' => assert_wo_e W' (.agg #[y1])
      go_wp2_with fail
      go_ret
      exact ⟨_, rfl, (hb2'.alloc hb2'.size _), _, _, rfl, ⟨_, rfl, HY1.out.below (below_trans hb2 (below_new _ _))⟩, HV2.out.below (below_new _ _)⟩
  | inside c d =>
    rw [show Bd.comb f a (.inside c d) b2 = .inside (.inside c d) b2 by cases b2 <;> rfl]
    go_enter Tryz.func114, Tryz.ntmps114
    go_wp2_with fail
    go_region_held3 (fun W' => Below W.heap.size W W') (first | assumption | exact hself.drew | go_keep)
      (first
        | (go_at_call_of 101 x1; refine (hf _ (by first | assumption | exact hself.drew)).mono ?_; rintro e w1 ⟨r1, rfl, hb1, hv1⟩; obtain ⟨y1, z1, rfl, hy1, hz1⟩ := hv1; have HY1 := Lib.hid hy1; have HZ1 := Lib.hid hz1; clear hy1 hz1; have hb1' := below_trans (by first | assumption | exact hself.drew) hb1)
        | (go_at_call_of 101 x2; refine (ha _ (by assumption)).mono ?_; rintro e w2 ⟨r2, rfl, hb2, hv2⟩; obtain ⟨T4, x4, rfl⟩ := hv2.form; have HV2 := Lib.hid hv2; clear hv2; have hb2' := below_trans (by assumption) hb2))
    all_goals
      have has := fun W' => assert_wo_s W' (.agg #[y1, z1])
      go_wp2_with fail
      go_ret
      exact ⟨_, rfl, (hb2'.alloc hb2'.size _), _, _, rfl, ⟨_, _, rfl, HY1.out.below (below_trans hb2 (below_new _ _)), HZ1.out.below (below_trans hb2 (below_new _ _))⟩, HV2.out.below (below_new _ _)⟩
  | without t =>
    cases b2 with
    | itself =>
      rw [show Bd.comb f a (.without t) .itself = .atEnd f from rfl]
      go_enter Tryz.func114, Tryz.ntmps114
      go_wp2_with fail
      go_region_held3 (fun W' => Below W.heap.size W W') (first | assumption | exact hself.drew | go_keep)
        (first
          | (go_at_call_of 101 x1; refine (hf _ (by first | assumption | exact hself.drew)).mono ?_; rintro e w1 ⟨r1, rfl, hb1, hv1⟩; obtain ⟨y1, rfl, hy1⟩ := hv1; obtain ⟨S1, z1, rfl, _⟩ := hy1.asks; clear hy1; have hb1' := below_trans (by first | assumption | exact hself.drew) hb1)
          | (go_at_call_of 101 x2; refine (ha _ (by assumption)).mono ?_; rintro e w2 ⟨r2, rfl, hb2, hv2⟩; (obtain rfl : r2 = .iface 115 (.agg #[]) := hv2); have hb2' := below_trans (by assumption) hb2))
      all_goals
        have has := fun W' => assert_wo_w W' (.iface S1 z1)
        have has2 := fun W' => assert_wo_i W' (.agg #[])
        have has3 := assert_it_i
        have h0' := h0 _ (hb2'.alloc hb2'.size (.cells #[.iface S1 z1] 117))
        go_wp2_with fail
        go_ret
        exact ⟨_, rfl, (hb2'.alloc hb2'.size _), _, rfl, HTF.out.below (hb2'.alloc hb2'.size _)⟩
    | atEnd u =>
      rw [show Bd.comb f a (.without t) (.atEnd u) = .inside (.without t) (.atEnd u) from rfl]
      go_enter Tryz.func114, Tryz.ntmps114
      go_wp2_with fail
      go_region_held3 (fun W' => Below W.heap.size W W') (first | assumption | exact hself.drew | go_keep)
        (first
          | (go_at_call_of 101 x1; refine (hf _ (by first | assumption | exact hself.drew)).mono ?_; rintro e w1 ⟨r1, rfl, hb1, hv1⟩; obtain ⟨y1, rfl, hy1⟩ := hv1; obtain ⟨S1, z1, rfl, _⟩ := hy1.asks; have HY1 := Lib.hid hy1; clear hy1; have hb1' := below_trans (by first | assumption | exact hself.drew) hb1)
          | (go_at_call_of 101 x2; refine (ha _ (by assumption)).mono ?_; rintro e w2 ⟨r2, rfl, hb2, hv2⟩; obtain ⟨y2, rfl, hy2⟩ := hv2; have HY2 := Lib.hid hy2; clear hy2; have hb2' := below_trans (by assumption) hb2))
      all_goals
        have has := fun W' => assert_wo_w W' (.iface S1 z1)
        have has2 := fun W' => assert_wo_e W' (.agg #[y2])
        have has3 := fun W' => assert_it_e W' (.agg #[y2])
        go_wp2_with fail
        go_ret
        exact ⟨_, rfl, (hb2'.alloc hb2'.size _), _, _, rfl, ⟨_, rfl, HY1.out.below (below_trans hb2 (below_new _ _))⟩, ⟨_, rfl, HY2.out.below (below_new _ _)⟩⟩
    | inside c d =>
      rw [show Bd.comb f a (.without t) (.inside c d) = .inside (.without t) (.inside c d) from rfl]
      go_enter Tryz.func114, Tryz.ntmps114
      go_wp2_with fail
      go_region_held3 (fun W' => Below W.heap.size W W') (first | assumption | exact hself.drew | go_keep)
        (first
          | (go_at_call_of 101 x1; refine (hf _ (by first | assumption | exact hself.drew)).mono ?_; rintro e w1 ⟨r1, rfl, hb1, hv1⟩; obtain ⟨y1, rfl, hy1⟩ := hv1; obtain ⟨S1, z1, rfl, _⟩ := hy1.asks; have HY1 := Lib.hid hy1; clear hy1; have hb1' := below_trans (by first | assumption | exact hself.drew) hb1)
          | (go_at_call_of 101 x2; refine (ha _ (by assumption)).mono ?_; rintro e w2 ⟨r2, rfl, hb2, hv2⟩; obtain ⟨y2, z2, rfl, hy2, hz2⟩ := hv2; have HY2 := Lib.hid hy2; have HZ2 := Lib.hid hz2; clear hy2 hz2; have hb2' := below_trans (by assumption) hb2))
      all_goals
        have has := fun W' => assert_wo_w W' (.iface S1 z1)
        have has2 := fun W' => assert_wo_s W' (.agg #[y2, z2])
        have has3 := fun W' => assert_it_s W' (.agg #[y2, z2])
        go_wp2_with fail
        go_ret
        exact ⟨_, rfl, (hb2'.alloc hb2'.size _), _, _, rfl, ⟨_, rfl, HY1.out.below (below_trans hb2 (below_new _ _))⟩, ⟨_, _, rfl, HY2.out.below (below_new _ _), HZ2.out.below (below_new _ _)⟩⟩
    | without u =>
      rw [show Bd.comb f a (.without t) (.without u) = .without (.app f a) from rfl]
      go_enter Tryz.func114, Tryz.ntmps114
      go_wp2_with fail
      go_region_held3 (fun W' => Below W.heap.size W W') (first | assumption | exact hself.drew | go_keep)
        (first
          | (go_at_call_of 101 x1; refine (hf _ (by first | assumption | exact hself.drew)).mono ?_; rintro e w1 ⟨r1, rfl, hb1, hv1⟩; obtain ⟨y1, rfl, hy1⟩ := hv1; obtain ⟨S1, z1, rfl, _⟩ := hy1.asks; clear hy1; have hb1' := below_trans (by first | assumption | exact hself.drew) hb1)
          | (go_at_call_of 101 x2; refine (ha _ (by assumption)).mono ?_; rintro e w2 ⟨r2, rfl, hb2, hv2⟩; obtain ⟨y2, rfl, hy2⟩ := hv2; obtain ⟨S2, z2, rfl, _⟩ := hy2.asks; clear hy2; have hb2' := below_trans (by assumption) hb2))
      all_goals
        have has := fun W' => assert_wo_w W' (.iface S1 z1)
        have has2 := fun W' => assert_wo_w W' (.iface S2 z2)
        go_wp2_with fail
        go_ret
        exact ⟨_, rfl, (hb2'.alloc hb2'.size _), _, rfl, HT.out.below (hb2'.alloc hb2'.size _)⟩
end Go.Proofs.YtidpkmkhcomcdaaGreat

namespace Go.Proofs.YtidpkmkhcomcdaaGreat
open Go.RowKit

set_option maxHeartbeats 1000000
set_option maxRecDepth 100000

theorem s_app2 (w : World) (f a b : Tm) (s1 s2 s3 : List UInt8) (a1 a2 a3 : Option Addr) (n1 c1 n2 c2 n3 c3 g : Nat) (fr : Nat × Nat) (hf : ST w f (.agg #[str s1, .slice a1 n1 c1])) (ha : ST w a (.agg #[str s2, .slice a2 n2 c2])) (hb : ST w b (.agg #[str s3, .slice a3 n3 c3]))
    (hg : w.heap[g]? = some (.cells #[str s2, .slice a2 n2 c2, str s3, .slice a3 n3 c3] 53 fr)) :
    Calls Tryz.prog 78 #[.agg #[str s1, .slice a1 n1 c1], .slice (some ⟨g, 0, none⟩) 2 2] w (TreePost w ((f.app a).app b)) := by
  have k0 : w.cell? ⟨g, 0, none⟩ = some (str s2) := cell_of_heap hg
  have k1 : w.cell? ⟨g, 1, none⟩ = some (.slice a2 n2 c2) := cell_of_heap hg
  have k2 : w.cell? ⟨g, 2, none⟩ = some (str s3) := cell_of_heap hg
  have k3 : w.cell? ⟨g, 3, none⟩ = some (.slice a3 n3 c3) := cell_of_heap hg
  have hlt := (Array.getElem?_eq_some_iff.1 hg).1
  have HF := Lib.hid hf
  have HA := Lib.hid ha
  have HB := Lib.hid hb
  clear hf ha hb hg
  go_enter Tryz.func78, Tryz.ntmps78
  go_wp2_with fail
  refine wp_loop_rounds 3 ?_
  rw [rounds_succ]
  go_wp2_with fail
  go_region
  go_wp2_with fail
  have hx := ((After.new w (.cells #[.string ⟨#[]⟩, .slice (some ⟨w.heap.size + 1 + 1, 0, none⟩) 2 2] 53)).alloc (.cells #[.string ⟨#[]⟩, .slice none 0 0] 53)).alloc (.cells #[str s1, .slice a1 n1 c1, str s2, .slice a2 n2 c2] 53)
  have x2 := hx.cell k2
  have x3 := hx.cell k3
  have hlt2 : g < w.heap.size + 1 + 1 + 1 := by omega
  rw [rounds_succ]
  go_wp2_with fail
  go_region
  go_wp2_with fail
  rw [rounds_succ]
  go_wp2_with fail
  obtain ⟨os, hos⟩ : ∃ os : List Obj, os = [.cells #[.string ⟨#[]⟩, .slice (some ⟨w.heap.size + 1 + 1 + 1, 0, none⟩) 2 2] 53, .cells #[.string ⟨#[]⟩, .slice (some ⟨w.heap.size + 1 + 1 + 1, 0, none⟩) 2 2] 53, .cells #[str s1, .slice a1 n1 c1, str s2, .slice a2 n2 c2] 53, .cells #[.string ⟨#[]⟩, .slice (some ⟨w.heap.size + 1 + 1, 0, none⟩) 2 2, str s3, .slice a3 n3 c3] 53] := ⟨_, rfl⟩
  have hX : allocL w os = (((w.alloc (.cells #[.string ⟨#[]⟩, .slice (some ⟨w.heap.size + 1 + 1 + 1, 0, none⟩) 2 2] 53)).alloc (.cells #[.string ⟨#[]⟩, .slice (some ⟨w.heap.size + 1 + 1 + 1, 0, none⟩) 2 2] 53)).alloc (.cells #[str s1, .slice a1 n1 c1, str s2, .slice a2 n2 c2] 53)).alloc (.cells #[.string ⟨#[]⟩, .slice (some ⟨w.heap.size + 1 + 1, 0, none⟩) 2 2, str s3, .slice a3 n3 c3] 53) := by rw [hos]; rfl
  have hy : After w (allocL w os) := allocL_below w os
  have h2 : (allocL w os).heap[w.heap.size + 1 + 1]? = some (.cells #[str s1, .slice a1 n1 c1, str s2, .slice a2 n2 c2] 53 (0, 0)) := by have := allocL_heap w os 2 (by rw [hos]; simp); simpa [hos] using this
  have h3 : (allocL w os).heap[w.heap.size + 1 + 1 + 1]? = some (.cells #[.string ⟨#[]⟩, .slice (some ⟨w.heap.size + 1 + 1, 0, none⟩) 2 2, str s3, .slice a3 n3 c3] 53 (0, 0)) := by have := allocL_heap w os 3 (by rw [hos]; simp); simpa [hos] using this
  rw [hX] at hy h2 h3
  refine bodyPost_ret (v := .agg #[.string ⟨#[]⟩, .slice (some ⟨w.heap.size + 1 + 1 + 1, 0, none⟩) 2 2]) (by simp [results, Tryz.results78, go_sem]) rfl ⟨[], some ⟨w.heap.size + 1 + 1 + 1, 0, none⟩, 2, 2, rfl, hy.drew.drew, ?_⟩
  exact ⟨_, 2, (0, 0), _, _, _, _, rfl, h3, ⟨_, 2, (0, 0), _, _, _, _, rfl, h2, HF.out.later hy.drew.drew, HA.out.later hy.drew.drew⟩, HB.out.later hy.drew.drew⟩

theorem s_i (w : World) : Calls Tryz.prog 56 #[] w (TreePost w Tm.I) := by
  have hAX : After w ((w.alloc (.cells #[.string ⟨#[]⟩, .slice none 0 0] 53)).alloc (.cells #[str [107], .slice none 0 0, str [107], .slice none 0 0] 53)) := (After.new _ _).alloc _
  have hres := heap_old2 w (.cells #[.string ⟨#[]⟩, .slice none 0 0] 53) (.cells #[str [107], .slice none 0 0, str [107], .slice none 0 0] 53)
  have hcall := s_app2 _ .s .k .k [115] [107] [107] none none none 0 0 0 0 0 0 (w.heap.size + 1) (0, 0) rfl rfl rfl (heap_new2 w _ (.cells #[.string ⟨#[]⟩, .slice none 0 0] 53) (.cells #[str [107], .slice none 0 0, str [107], .slice none 0 0] 53) rfl)
  unfold TreePost at hcall
  have HRES := Lib.hid hres
  clear hres
  go_enter Tryz.func56, Tryz.ntmps56
  go_wp2_with fail
  refine hcall.mono ?_
  rintro e w1 ⟨t1, ao1, n1, c1, rfl, hb1, ht1⟩
  have HT := Lib.hid ht1
  obtain ⟨z0, z1, z2, z3, l2⟩ := pair_facts HRES.out hb1
  clear ht1 hcall
  go_wp2_with fail
  refine bodyPost_ret (v := .agg #[str t1, .slice ao1 n1 c1]) (by simp [results, Tryz.results56, go_sem, z0, z1]) rfl
    ⟨t1, ao1, n1, c1, rfl, Below.setCell (Below.setCell (hAX.trans hb1) (by simp) _) (by simp) _, HT.out.sets2 (hb1.heap HRES.out)⟩

theorem s_true (w : World) : Calls Tryz.prog 52 #[] w (TreePost w .k) := by
  have hA := After.new w (.cells #[.string ⟨#[107]⟩, .slice none 0 0] 53)
  go_enter Tryz.func52, Tryz.ntmps52
  go_wp2_with fail
  refine bodyPost_ret (v := .agg #[.string ⟨#[107]⟩, .slice none 0 0]) (by simp [results, Tryz.results52, go_sem]) rfl
    ⟨[107], none, 0, 0, rfl, hA, rfl⟩

theorem s_false (w : World) : Calls Tryz.prog 53 #[] w (TreePost w Tm.no) := by
  have hres := heap_new' w (.cells #[.string ⟨#[]⟩, .slice none 0 0] 53)
  have hA := After.new w (.cells #[.string ⟨#[]⟩, .slice none 0 0] 53)
  have hI := s_i (w.alloc (.cells #[.string ⟨#[]⟩, .slice none 0 0] 53))
  unfold TreePost at hI
  have HRES := Lib.hid hres
  clear hres
  go_enter Tryz.func53, Tryz.ntmps53
  go_wp2_with fail
  refine hI.mono ?_
  rintro e w1 ⟨t1, ao1, n1, c1, rfl, hb1, ht1⟩
  have hcall := s_app (w1.alloc (.cells #[str t1, .slice ao1 n1 c1] 53)) .k Tm.I [107] t1 none ao1 0 0 n1 c1 w1.heap.size (0, 0) rfl (ht1.later (After.new _ _)) (heap_new' _ _)
  unfold TreePost at hcall
  have hA1 := After.alloc hb1 (.cells #[str t1, .slice ao1 n1 c1] 53)
  clear ht1 hI
  go_wp2_with fail
  refine hcall.mono ?_
  rintro e w2 ⟨t2, ao2, n2, c2, rfl, hb2, ht2⟩
  have HT := Lib.hid ht2
  have hA2 := hA1.trans hb2
  obtain ⟨z0, z1, z2, z3, l2⟩ := pair_facts HRES.out hA2
  clear ht2 hcall
  go_wp2_with fail
  refine bodyPost_ret (v := .agg #[str t2, .slice ao2 n2 c2]) (by simp [results, Tryz.results53, go_sem, z0, z1]) rfl
    ⟨t2, ao2, n2, c2, rfl, Below.setCell (Below.setCell (hA.trans hA2) (by simp) _) (by simp) _, HT.out.sets2 (hA2.heap HRES.out)⟩
end Go.Proofs.YtidpkmkhcomcdaaGreat
