/-
  Many steps of a term in memory: stepTerms, normalTerm.
-/
import Derived.Test.YtfpekihdoclncaaPkAD
import Derived.Test.YtfpekihdoclncaaPkAC
import Derived.Lib.AppendStr
import Derived.Test.YtfpekihdoclncaaPkAE
namespace Go.Proofs.Ytfpekihdoclncaa
open Go.RowKit

set_option maxHeartbeats 400000
set_option maxRecDepth 100000

def ManyPost (w : World) (B n : Nat) (t : Tm) (e : Ending) (w' : World) : Prop :=
  ∃ v', e = .returned (.tuple #[v', .int .i64 ((t.many n).2 : Nat)]) ∧ Below w.heap.size w w' ∧ TV w' B (t.many n).1 v'

/-- After k rounds. -/
def Rounds (w : World) (B n : Nat) (t : Tm) (v i : Value) (wr : World) : Prop :=
  ∃ (k : Nat) (u : Tm), i = .int .i64 k ∧ k ≤ n ∧ TV wr B u v ∧ u.fits = true ∧ Below w.heap.size w wr ∧ Hid (t.many n = ((u.many (n - k)).1, (u.many (n - k)).2 + k))

theorem stepTerms_any (w : World) (B n : Nat) (t : Tm) (v : Value) (h : TV w B t v) (hB : B ≤ w.heap.size) (hz : t.fits = true) (hn : n ≤ 1000000) :
    Calls Try.prog 99 #[v, .int .i64 n] w (ManyPost w B n t) := by
  go_enter Try.func99, Try.ntmps99
  go_wp2_with fail
  go_loopw [0, 10] (fun v i wr => Rounds w B n t v i wr) (fun _ i _ => n - (intOf i).toNat)
  case atStart => exact ⟨0, t, rfl, Nat.zero_le _, h, hz, Below.refl _ _, by simp [Hid]⟩
  case round =>
    obtain ⟨k, u, rfl, hk, hu, hf, hb, hm⟩ := hrel
    have hs := fits_size hf
    have hBr := Nat.le_trans hB hb.size
    by_cases hlt : k < n
    · cases hst : u.stepFit with
      | none =>
        have hsome : u.stepFit.isSome = false := by rw [hst]; rfl
        have hfin : t.many n = (u, k) := by
          rw [hm.out, show n - k = (n - k - 1) + 1 by omega, Tm.many_succ, hst]; simp
        have H := Lib.hid hfin
        clear hst hfin hm
        go_wp2_with (go_at_call 105; refine (stepTerm_any _ B u _ hu hBr (by omega)).mono ?_; rintro e w1 ⟨v1, rfl, hb1, hv1⟩; clear hv1)
        go_ret2
        exact ⟨_, by rw [H.out]; rfl, below_trans hb hb1, by rw [H.out]; exact hu.below hb1⟩
      | some u' =>
        have hsome : u.stepFit.isSome = true := by rw [hst]; rfl
        have hf' := stepFit_fits hst
        have hfin : t.many n = ((u'.many (n - (k + 1))).1, (u'.many (n - (k + 1))).2 + (k + 1)) := by
          rw [hm.out, show n - k = (n - (k + 1)) + 1 by omega, Tm.many_succ, hst]; simp; omega
        have H := Lib.hid hfin
        have H2 := Lib.hid hst
        clear hst hfin hm
        go_wp2_with (go_at_call 105; refine (stepTerm_any _ B u _ hu hBr (by omega)).mono ?_; rintro e w1 ⟨v1, rfl, hb1, hv1⟩; have HV := Lib.hid (hv1 u' H2.out); clear hv1)
        go_roundw
        case rel => exact ⟨k + 1, u', by go_num, by omega, HV.out, hf', below_trans hb hb1, H⟩
        case measure => simp [intOf]; omega
    · have hfin : t.many n = (u, n) := by
        rw [hm.out, show n - k = 0 by omega]; simp [Tm.many]; omega
      have H := Lib.hid hfin
      clear hfin hm
      go_wp2_with fail
      go_ret2
      exact ⟨_, by rw [H.out]; rfl, hb, by rw [H.out]; exact hu⟩

def NormPost (w : World) (B : Nat) (t : Tm) (e : Ending) (w' : World) : Prop :=
  ∃ v', e = .returned (.tuple #[v', .int .i64 ((t.many 6000).2 : Nat), .bool (t.many 6000).1.normal]) ∧ Below w.heap.size w w' ∧ TV w' B (t.many 6000).1 v'

theorem normalTerm_any (w : World) (B : Nat) (t : Tm) (v : Value) (h : TV w B t v) (hB : B ≤ w.heap.size) (hz : t.fits = true) :
    Calls Try.prog 83 #[v] w (NormPost w B t) := by
  go_enter Try.func83, Try.ntmps83
  go_wp2_with fail
  refine (stepTerms_any _ B 6000 t _ h hB hz (by omega)).mono ?_
  rintro e w1 ⟨v1, rfl, hb1, hv1⟩
  obtain ⟨T1, x1, rfl, _, _, _, ⟨f1, y1, m1, n1, c1⟩⟩ := hv1.asks
  have hb0 := Below.refl w1.heap.size w1
  generalize hn : (t.many 6000).2 = n
  generalize hl : (t.many 6000).1 = l at *
  have HN := Lib.hid hn
  have HL := Lib.hid hl
  clear hn hl
  go_wp2_with (go_at_fn f1; refine (c1 _ (by assumption)).mono ?_; rintro e w2 ⟨rfl, hb2⟩)
  go_ret3
  exact ⟨_, by rw [HN.out, HL.out]; rfl, below_trans hb1 hb2, by rw [HL.out]; exact hv1.below hb2⟩
end Go.Proofs.Ytfpekihdoclncaa

namespace Go.Proofs.Ytfpekihdoclncaa
open Go.RowKit

set_option maxHeartbeats 400000
set_option maxRecDepth 100000

/-- Bytes as cells. -/
def bcells (l : List UInt8) : List Value := l.map fun c => Value.int .u8 c.toNat

theorem bcells_len (l : List UInt8) : (bcells l).length = l.length := by simp [bcells]
theorem bcells_append (a b : List UInt8) : bcells (a ++ b) = bcells a ++ bcells b := by simp [bcells]
theorem bcells_str (l : List UInt8) : Lib.strCells ⟨l.toArray⟩ = bcells l := by simp [Lib.strCells, bcells]

/-- The slice value sv owns the bytes xs. -/
def Own (w : World) (base : Nat) (sv : Value) (xs : List UInt8) : Prop := w.ownsRow base 5 1 sv xs.length (bcells xs)

theorem info_byte : (Try.prog.info? 5).map (fun i => (i.zero, i.size, i.bytes)) = some (some (.int .u8 0), 1, 1) := by kernel_rfl

def WritePost (w : World) (xs l : List UInt8) (e : Ending) (w' : World) : Prop :=
  ∃ sv, e = .returned sv ∧ Below w.heap.size w w' ∧ Own w' w.heap.size sv (xs ++ l)

def WriteOk (w : World) (v : Value) (t : Tm) : Prop :=
  ∃ T x f y, v = .iface T x ∧ (∀ W, Below w.heap.size w W → (method 271 T x "loop.example/realizers/impl.write").run Try.prog W = .ok (f, y) W) ∧ (∀ args w', (callFunc f args).run Try.prog w' = .ok (.enter f args) w') ∧
    ∀ W, Below w.heap.size w W → ∀ sv xs, Own W w.heap.size sv xs → xs.length + t.text.length ≤ 1000000 → Calls Try.prog f #[y, sv] W (WritePost w xs t.text)

theorem own_new {w W w' : World} {sv v' : Value} {xs l : List UInt8} {o : Obj} (hW : Below w.heap.size w W) (ho : w'.ownsRow w.heap.size 5 1 v' (xs.length + l.length) (bcells xs ++ bcells l)) (hg : (W.alloc o).grownBy w' sv.ownBlock)
    (hs : Own W w.heap.size sv xs) : Below w.heap.size w w' ∧ Own w' w.heap.size v' (xs ++ l) :=
  ⟨(below_alloc hW o).grown hg (below_alloc hW o).size (fun k hk => (hs.lt k hk).1), by unfold Own; rw [bcells_append, List.length_append]; exact ho⟩

theorem own_new' {w W w' : World} {sv v' : Value} {xs l : List UInt8} (hW : Below w.heap.size w W) (ho : w'.ownsRow w.heap.size 5 1 v' (xs.length + l.length) (bcells xs ++ bcells l)) (hg : W.grownBy w' sv.ownBlock)
    (hs : Own W w.heap.size sv xs) : Below w.heap.size w w' ∧ Own w' w.heap.size v' (xs ++ l) :=
  ⟨hW.grown hg hW.size (fun k hk => (hs.lt k hk).1), by unfold Own; rw [bcells_append, List.length_append]; exact ho⟩

theorem undrew {w w' : World} {row : Option Nat} (h : w.drew.grownBy w' row) : w.grownBy w' row := ⟨h.os, h.tape, h.output, h.size, h.block⟩

theorem k_write (w W : World) (y sv : Value) (xs : List UInt8) (hW : Below w.heap.size w W) (hs : Own W w.heap.size sv xs) (hl : xs.length + 1 ≤ 1000000) :
    Calls Try.prog 129 #[y, sv] W (WritePost w xs [107]) := by
  obtain ⟨i0, hi, hz0, hz1, hz2⟩ := info_parts info_byte
  have hun := Try.underlying27
  have hm : xs.length + 1 ≤ maxLen := by unfold maxLen; omega
  go_enter Try.func129, Try.ntmps129
  go_wp2_with (at_builtin; refine wpList_append_own _ rfl _ _ 27 rfl w.heap.size 5 i0 (.int .u8 0) 1 1 hun hi hz0 hz1 hz2 rfl (by decide) _ _ _ rfl (World.ownsRow.alloc hs _) ⟨W.heap.size, 0, none⟩ 1 1 (bcells [107]) rfl rfl (cell_one_new _ _ _) (by simp [bcells, Value.oneCell']) hm (by omega) (below_alloc hW _).size ?_; intro v1 w1 ho hg _; obtain ⟨hb1, ho1⟩ := own_new hW ho hg hs; clear ho hg)
  go_ret
  exact ⟨_, rfl, hb1, ho1⟩

theorem s_write (w W : World) (y sv : Value) (xs : List UInt8) (hW : Below w.heap.size w W) (hs : Own W w.heap.size sv xs) (hl : xs.length + 1 ≤ 1000000) :
    Calls Try.prog 133 #[y, sv] W (WritePost w xs [115]) := by
  obtain ⟨i0, hi, hz0, hz1, hz2⟩ := info_parts info_byte
  have hun := Try.underlying27
  have hm : xs.length + 1 ≤ maxLen := by unfold maxLen; omega
  go_enter Try.func133, Try.ntmps133
  go_wp2_with (at_builtin; refine wpList_append_own _ rfl _ _ 27 rfl w.heap.size 5 i0 (.int .u8 0) 1 1 hun hi hz0 hz1 hz2 rfl (by decide) _ _ _ rfl (World.ownsRow.alloc hs _) ⟨W.heap.size, 0, none⟩ 1 1 (bcells [115]) rfl rfl (cell_one_new _ _ _) (by simp [bcells, Value.oneCell']) hm (by omega) (below_alloc hW _).size ?_; intro v1 w1 ho hg _; obtain ⟨hb1, ho1⟩ := own_new hW ho hg hs; clear ho hg)
  go_ret
  exact ⟨_, rfl, hb1, ho1⟩

theorem n_write (w W : World) (b : Nat) (n : List UInt8) (sv : Value) (xs : List UInt8) (hc : W.cell? ⟨b, 0, none⟩ = some (str n)) (hW : Below w.heap.size w W) (hs : Own W w.heap.size sv xs) (hl : xs.length + n.length ≤ 1000000) :
    Calls Try.prog 147 #[.pointer (some ⟨b, 0, none⟩), sv] W (WritePost w xs n) := by
  obtain ⟨i0, hi, hz0, hz1, hz2⟩ := info_parts info_byte
  have hun := Try.underlying27
  have hus := Try.underlying9
  have hm : xs.length + (⟨n.toArray⟩ : ByteArray).size ≤ maxLen := by unfold maxLen; show xs.length + n.toArray.size ≤ _; simp; omega
  have hm2 : xs.length + (⟨n.toArray⟩ : ByteArray).size ≤ 140737488355328 := by show xs.length + n.toArray.size ≤ _; simp; omega
  have hsz : (⟨n.toArray⟩ : ByteArray).size = n.length := by show n.toArray.size = _; simp
  have HSZ := Lib.hid hsz
  clear hsz
  go_enter Try.func147, Try.ntmps147
  go_wp2_with (at_builtin; refine Lib.wpList_append_own_string _ rfl _ _ 27 9 rfl w.heap.size 5 i0 hun hus hi hz0 hz1 hz2 _ _ _ rfl hs ⟨n.toArray⟩ rfl hm hm2 hW.size ?_; intro v1 w1 ho hg _; rw [HSZ.out, bcells_str] at ho; obtain ⟨hb1, ho1⟩ := own_new' hW ho hg hs; clear ho hg)
  go_ret
  exact ⟨_, rfl, hb1, ho1⟩

theorem a_write (w W : World) (b : Nat) (T1 T2 : TypeId) (x1 x2 : Value) (f a : Tm) (sv : Value) (xs : List UInt8) (hW : Below w.heap.size w W)
    (h0 : ∀ W, Below w.heap.size w W → W.cell? ⟨b, 0, none⟩ = some (.iface T1 x1)) (h1 : ∀ W, Below w.heap.size w W → W.cell? ⟨b, 1, none⟩ = some (.iface T2 x2))
    (hf : WriteOk w (.iface T1 x1) f) (ha : WriteOk w (.iface T2 x2) a) (hs : Own W w.heap.size sv xs) (hl : xs.length + (f.app a).text.length ≤ 1000000) :
    Calls Try.prog 142 #[.pointer (some ⟨b, 0, none⟩), sv] W (WritePost w xs (f.app a).text) := by
  obtain ⟨i0, hi, hz0, hz1, hz2⟩ := info_parts info_byte
  have hun := Try.underlying27
  obtain ⟨_, _, g4, z4, e0, k4, l4, d4⟩ := hf
  injection e0 with e1 e2
  subst e1; subst e2
  obtain ⟨_, _, g5, z5, e0, k5, l5, d5⟩ := ha
  injection e0 with e1 e2
  subst e1; subst e2
  simp only [Tm.text, List.length_cons, List.length_append, List.length_nil] at hl
  have m1 : xs.length + 1 ≤ maxLen := by unfold maxLen; omega
  have hnew : Below w.heap.size w ((W.alloc (.cells #[.int .u8 40] 5)).drew) := (below_alloc hW _).drew
  have hone : ∀ u ∈ bcells [40], u.oneCell' = true := by simp [bcells, Value.oneCell']
  have hsz : ((W.alloc (.cells #[.int .u8 40] 5)).drew).heap.size = W.heap.size + 1 := by simp
  go_enter Try.func142, Try.ntmps142
  go_wp2_with fail
  go_region_held3 (fun W' => Below w.heap.size w W') (first | assumption | exact hW.drew | go_keep)
    (first
      | (refine step_append_lies _ (by rfl) _ _ 27 (by rfl) w.heap.size 5 i0 (.int .u8 0) 1 1 hun hi hz0 hz1 hz2 rfl (by omega) _ _ _ (by rfl) (World.ownsRow.drew (World.ownsRow.alloc hs _)) ⟨W.heap.size, 0, none⟩ 1 1 (bcells [40]) (by rfl) (by rfl) (cell_one_new _ _ _) hone (by omega) m1 (by omega) hnew.size (W.heap.size + 1) hsz ?_; intro g1 q1 w1 ho hg _ _; obtain ⟨hb1, ho1⟩ := own_new hW ho (undrew hg) hs; clear ho hg)
      | (go_at_fn g4; refine (d4 _ (by assumption) _ _ ho1 ?_).mono ?_; (simp; omega); rintro e w2 ⟨v2, rfl, hb2, ho2⟩))
  clear ho1 hb1
  obtain ⟨ys, hys⟩ : ∃ ys, ys = xs ++ [40] ++ f.text := ⟨_, rfl⟩
  rw [← hys] at ho2
  have hyl : ys.length ≤ xs.length + 1 + f.text.length := by rw [hys]; simp; omega
  have HY := Lib.hid hys
  clear hys
  have m2 : ys.length + 1 ≤ maxLen := by unfold maxLen; omega
  have hnew2 : Below w.heap.size w ((w2.alloc (.cells #[.int .u8 32] 5)).drew) := (below_alloc hb2 _).drew
  have hone2 : ∀ u ∈ bcells [32], u.oneCell' = true := by simp [bcells, Value.oneCell']
  have hsz2 : ((w2.alloc (.cells #[.int .u8 32] 5)).drew).heap.size = w2.heap.size + 1 := by simp
  go_wp2_with fail
  go_region_held3 (fun W' => Below w.heap.size w W') (first | assumption | exact hb2.drew | go_keep)
    (first
      | (refine step_append_lies _ (by rfl) _ _ 27 (by rfl) w.heap.size 5 i0 (.int .u8 0) 1 1 hun hi hz0 hz1 hz2 rfl (by omega) _ _ _ (by rfl) (World.ownsRow.drew (World.ownsRow.alloc ho2 _)) ⟨w2.heap.size, 0, none⟩ 1 1 (bcells [32]) (by rfl) (by rfl) (cell_one_new _ _ _) hone2 (by omega) m2 (by omega) hnew2.size (w2.heap.size + 1) hsz2 ?_; intro g3 q3 w3 ho hg _ _; obtain ⟨hb3, ho3⟩ := own_new hb2 ho (undrew hg) ho2; clear ho hg)
      | (go_at_fn g5; refine (d5 _ (by assumption) _ _ ho3 ?_).mono ?_; (simp; omega); rintro e w4 ⟨v4, rfl, hb4, ho4⟩))
  clear ho3 hb3
  obtain ⟨zs, hzs⟩ : ∃ zs, zs = ys ++ [32] ++ a.text := ⟨_, rfl⟩
  rw [← hzs] at ho4
  have hzl : zs.length ≤ ys.length + 1 + a.text.length := by rw [hzs]; simp; omega
  have HZ := Lib.hid hzs
  clear hzs
  have m3 : zs.length + 1 ≤ maxLen := by unfold maxLen; omega
  go_wp2_with (at_builtin; refine wpList_append_own _ rfl _ _ 27 rfl w.heap.size 5 i0 (.int .u8 0) 1 1 hun hi hz0 hz1 hz2 rfl (by decide) _ _ _ rfl (World.ownsRow.alloc ho4 _) ⟨w4.heap.size, 0, none⟩ 1 1 (bcells [41]) rfl rfl (cell_one_new _ _ _) (by simp [bcells, Value.oneCell']) m3 (by omega) (below_alloc hb4 _).size ?_; intro v5 w5 ho hg _; obtain ⟨hb5, ho5⟩ := own_new hb4 ho hg ho4; clear ho hg)
  go_ret
  refine ⟨_, rfl, hb5, ?_⟩
  rw [HZ.out, HY.out] at ho5
  simpa [Tm.text, List.append_assoc] using ho5

theorem TV.writeOk {w : World} {B : Nat} : ∀ {t : Tm} {v : Value}, TV w B t v → WriteOk w v t
  | .k, _, ⟨b, fr, hv, _, h⟩ => ⟨_, _, _, _, hv, fun W _ => (meth_kLetter_write _ W).1, (meth_kLetter_write ⟨b, 0, none⟩ w).2, fun W hW sv xs hs hl => k_write w W _ sv xs hW hs hl⟩
  | .s, _, ⟨b, fr, hv, _, h⟩ => ⟨_, _, _, _, hv, fun W _ => (meth_sLetter_write _ W).1, (meth_sLetter_write ⟨b, 0, none⟩ w).2, fun W hW sv xs hs hl => s_write w W _ sv xs hW hs hl⟩
  | .nm n, _, ⟨b, fr, hv, _, h⟩ => ⟨_, _, _, _, hv, fun W _ => (meth_nameAtom_write _ W).1, (meth_nameAtom_write ⟨b, 0, none⟩ w).2, fun W hW sv xs hs hl => n_write w W b n sv xs (cell_of_heap (heap_later h hW)) hW hs hl⟩
  | .app f a, _, ⟨b, fr, vf, va, hv, _, h, hf, ha⟩ => by
    have sf := TV.writeOk hf
    have sa := TV.writeOk ha
    obtain ⟨T1, x1, rfl, _⟩ := hf.asks
    obtain ⟨T2, x2, rfl, _⟩ := ha.asks
    exact ⟨_, _, _, _, hv, fun W _ => (meth_application_write _ W).1, (meth_application_write ⟨b, 0, none⟩ w).2, fun W hW sv xs hs hl =>
      a_write w W b T1 T2 x1 x2 f a sv xs hW (cell_later' (cell_of_heap (i := 0) h)) (cell_later' (cell_of_heap (i := 1) h)) sf sa hs hl⟩

theorem foldl_push (l : List UInt8) : ∀ s : ByteArray, (l.map fun c => (c.toNat : Int)).foldl (fun r n => r.push (UInt8.ofNat n.toNat)) s = ⟨(s.data.toList ++ l).toArray⟩ := by
  induction l with
  | nil => intro s; simp
  | cons c l ih =>
    intro s
    rw [List.map_cons, List.foldl_cons, ih]
    simp [ByteArray.push]

/-- A string made of the bytes that a slice value owns. -/
theorem run_text {w : World} {base : Nat} {sv : Value} {xs : List UInt8} (hs : Own w base sv xs) (hne : xs ≠ []) : (convert 27 9 sv).run Try.prog w = .ok (str xs) w := by
  have hl := hs.1
  rcases hs.2 with ⟨_, h0⟩ | ⟨g, cap, cur, rfl, _, hh, _⟩
  · exact absurd (List.length_eq_zero_iff.1 h0) hne
  · have hc := hs.cells (g := g) rfl
    rw [run_convert_bytes_string w _ _ _ _ _ _ Try.underlying27 Try.underlying5 Try.underlying9]
    rw [run_bytesToString w _ _ _ (xs.map fun c => (c.toNat : Int)) (by
      have := run_loadCells_list (P := Try.prog) (w := w) ⟨g, 0, none⟩ (bcells xs) hc
      rw [bcells_len] at this
      rw [show ((xs.map fun c => (c.toNat : Int)).map (Value.int .u8)) = bcells xs by simp [bcells, Function.comp_def]]
      exact this)]
    rw [foldl_push]
    rfl

theorem textOf_any (w : World) (B : Nat) (t : Tm) (v : Value) (h : TV w B t v) (hg : t.good = true) (hl : t.text.length ≤ 1000000) :
    Calls Try.prog 32 #[v] w fun e w' => e = .returned (str t.text) ∧ Below w.heap.size w w' := by
  obtain ⟨T1, x1, f1, y1, rfl, m1, n1, c1⟩ := h.writeOk
  have hb0 := Below.refl w.heap.size w
  have ho : Own w w.heap.size (.slice none 0 0) [] := World.ownsRow_nil w w.heap.size _ 1
  go_enter Try.func32, Try.ntmps32
  go_wp2_with (go_at_fn f1; refine (c1 _ hb0 _ [] ho (by simpa using hl)).mono ?_; rintro e w1 ⟨v1, rfl, hb1, ho1⟩; have hc := run_text ho1 (Tm.text_ne t hg))
  go_ret
  exact ⟨rfl, hb1⟩
end Go.Proofs.Ytfpekihdoclncaa

namespace Go.Proofs.Ytfpekihdoclncaa
open Go.RowKit

set_option maxHeartbeats 400000
set_option maxRecDepth 100000

def BothPost (w : World) (B : Nat) (l m : List UInt8) (e : Ending) (w' : World) : Prop :=
  ∃ v1 v2, e = .returned (.tuple #[v1, v2, .bool ((Tm.parse l).isSome && (Tm.parse m).isSome)]) ∧ Below w.heap.size w w' ∧ ∀ t u, Tm.parse l = some t → Tm.parse m = some u → TV w' B t v1 ∧ TV w' B u v2

theorem readBoth_any (w : World) (B : Nat) (l m : List UInt8) (hB : B ≤ w.heap.size) (hl : l.length ≤ 1000000000) (hm : m.length ≤ 1000000000) :
    Calls Try.prog 30 #[str l, str m] w (BothPost w B l m) := by
  have hread := readTerm_any w B l hB hl
  have hread2 := fun W hB' => readTerm_any W B m hB' hm
  unfold BothPost
  unfold ParsePost at hread hread2
  cases hp : Tm.parse l with
  | none =>
    rw [hp] at hread
    clear hread2
    go_enter Try.func30, Try.ntmps30
    go_wp2_with (go_at_call 48; refine hread.mono ?_; rintro e w1 ⟨v1, rfl, hb1, hv1⟩; clear hv1)
    go_ret3
    exact ⟨_, _, rfl, hb1, fun t u h _ => by cases h⟩
  | some t =>
    rw [hp] at hread
    cases hq : Tm.parse m with
    | none =>
      rw [hq] at hread2
      clear hp hq
      go_enter Try.func30, Try.ntmps30
      go_wp2_with fail
      refine hread.mono ?_
      rintro e w1 ⟨v1, rfl, hb1, hv1⟩
      clear hv1 hread
      go_wp2_with (go_at_call 48; refine (hread2 _ (Nat.le_trans hB hb1.size)).mono ?_; rintro e w2 ⟨v2, rfl, hb2, hv2⟩; clear hv2)
      go_ret3
      exact ⟨_, _, rfl, below_trans hb1 hb2, fun t u _ h => by cases h⟩
    | some u =>
      rw [hq] at hread2
      clear hp hq
      go_enter Try.func30, Try.ntmps30
      go_wp2_with fail
      refine hread.mono ?_
      rintro e w1 ⟨v1, rfl, hb1, hv1⟩
      have HV1 := Lib.hid (hv1 t rfl)
      clear hv1 hread
      go_wp2_with (go_at_call 48; refine (hread2 _ (Nat.le_trans hB hb1.size)).mono ?_; rintro e w2 ⟨v2, rfl, hb2, hv2⟩; have HV2 := Lib.hid (hv2 u rfl); clear hv2)
      go_ret3
      refine ⟨_, _, rfl, below_trans hb1 hb2, fun t' u' h h' => ?_⟩
      obtain rfl := Option.some.inj h
      obtain rfl := Option.some.inj h'
      exact ⟨HV1.out.below hb2, HV2.out⟩
end Go.Proofs.Ytfpekihdoclncaa
