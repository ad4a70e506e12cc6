/-
  The reader of the model, further: l1Read, l1Term.
-/
import Derived.Test.YtjomocjlnjgkeaaPkAG
import Derived.Test.YtjomocjlnjgkeaaPkAE
namespace Go.Proofs.Ytjomocjlnjgkeaa
open Go.RowKit

set_option maxHeartbeats 400000
set_option maxRecDepth 100000

def place : Option (Tm × Nat) → Int
  | some (_, j) => (j : Nat)
  | none => -1

def SReadPost (w : World) (r : Option (Tm × Nat)) (e : Ending) (w' : World) : Prop :=
  ∃ s ao n c, e = .returned (.tuple #[.agg #[str s, .slice ao n c], .int .i64 (place r)]) ∧ After w w' ∧ ∀ t j, r = some (t, j) → ST w' t (.agg #[str s, .slice ao n c])

theorem box2 {w W : World} {x y : Value} {T : TypeId} (h : After (w.alloc (.cells #[x, y] T)) W) :
    W.cell? ⟨w.heap.size, 0, none⟩ = some x ∧ W.cell? ⟨w.heap.size, 1, none⟩ = some y ∧ W.frozen? ⟨w.heap.size, 0, none⟩ = false ∧ W.frozen? ⟨w.heap.size, 1, none⟩ = false ∧ w.heap.size < W.heap.size := by
  have hh := h.heap (heap_new' w (.cells #[x, y] T))
  refine ⟨cell_of_heap hh, cell_of_heap hh, by simp [World.frozen?, hh], by simp [World.frozen?, hh], (Array.getElem?_eq_some_iff.1 hh).1⟩

theorem byte_ne_lit' (x : UInt8) (n : Int) (c : UInt8) (hn : n = (c.toNat : Nat)) (_h : c = c) : ((x.toNat : Int) != n) = (x != c) := by
  subst hn; exact byte_ne x c

theorem ST_atom (w : World) (t : Tm) (h : t.depth = 0) : ST w t (.agg #[str t.text, .slice none 0 0]) := by
  cases t with
  | app f a => simp [Tm.depth] at h
  | k => rfl
  | s => rfl
  | nm n => rfl

theorem After.set {w W : World} {o : Obj} (h : After (w.alloc o) W) (i : Nat) (v : Value) : After w (W.setCell ⟨w.heap.size, i, none⟩ v) :=
  Below.setCell ((After.new w o).trans h) (Nat.le_refl _) v

theorem After.set2 {w W : World} {o : Obj} (h : After (w.alloc o) W) {i j : Nat} {v u : Value} : After w ((W.setCell ⟨w.heap.size, i, none⟩ v).setCell ⟨w.heap.size, j, none⟩ u) :=
  Below.setCell (h.set i v) (Nat.le_refl _) u

theorem SReadPost.no {w w' : World} {r : Option (Tm × Nat)} (hr : r = none) (hb : After w w') : SReadPost w r (.returned (.tuple #[.agg #[.string ⟨#[]⟩, .slice none 0 0], .int .i64 (-1)])) w' :=
  ⟨[], none, 0, 0, by rw [hr]; rfl, hb, fun t j he => by rw [hr] at he; simp at he⟩

theorem heap_new2 (W : World) (n : Nat) (o p : Obj) (h : W.heap.size = n) : ((W.alloc o).alloc p).heap[n + 1]? = some p := by
  have := heap_new' (W.alloc o) p
  rw [show (W.alloc o).heap.size = n + 1 by simp [h]] at this
  exact this

theorem ST.kept {W W' : World} (hk : ∀ (g : Nat) (cs : Array Value) (T : TypeId) (fr : Nat × Nat), cs.size = 4 → W.heap[g]? = some (.cells cs T fr) → W'.heap[g]? = some (.cells cs T fr)) : ∀ {t : Tm} {v : Value}, ST W t v → ST W' t v
  | .k, _, h => h
  | .s, _, h => h
  | .nm _, _, h => h
  | .app _ _, _, ⟨g, cap, fr, s0, p0, s1, p1, hv, hh, hf, ha⟩ => ⟨g, cap, fr, s0, p0, s1, p1, hv, hk _ _ _ _ rfl hh, hf.kept hk, ha.kept hk⟩

theorem ST.sets {w W : World} {x y u u' : Value} {T : TypeId} {t : Tm} {v : Value} (h : ST W t v) (hb : After (w.alloc (.cells #[x, y] T)) W) {i j : Nat} : ST ((W.setCell ⟨w.heap.size, i, none⟩ u).setCell ⟨w.heap.size, j, none⟩ u') t v := by
  have hh := hb.heap (heap_new' w (.cells #[x, y] T))
  refine h.kept fun g cs T' fr hs hg => ?_
  have hne : g ≠ w.heap.size := by
    rintro rfl
    rw [hh] at hg
    injection hg with hg
    injection hg with hg _ _
    subst hg
    simp at hs
  rw [Below.heap_setCell _ _ _ _ hne, Below.heap_setCell _ _ _ _ hne]
  exact hg

set_option maxHeartbeats 8000000 in
theorem s_read (l : List UInt8) (hl : l.length ≤ 1000000000) : ∀ (d : Nat) (i a : Int) (k : Nat) (w : World), i = k → k ≤ l.length → a + d = 1501 → d ≤ 1501 →
    Calls Try.prog 54 #[str l, .int .i64 i, .int .i64 a] w (SReadPost w (Tm.mread l d k)) := by
  intro d
  induction d with
  | zero =>
    intro i a k w hi hk ha _
    subst hi
    have h1 : (1500 : Int) < a := by omega
    clear ha
    go_enter Try.func54, Try.ntmps54
    go_wp2_with fail
    exact bodyPost_ret (v := .tuple #[.agg #[.string ⟨#[]⟩, .slice none 0 0], .int .i64 (-1)]) (by simp [results, Try.results54, go_sem]) rfl (SReadPost.no rfl (After.new _ _))
  | succ d ih =>
    intro i a k w hi hk ha hd
    subst hi
    have h1 : a ≤ 1500 := by omega
    have h2 : 0 ≤ a := by omega
    have hsz : (⟨l.toArray⟩ : ByteArray).size = l.length := by show l.toArray.size = _; simp
    by_cases hlen : l.length ≤ k
    · have hfin : Tm.mread l (d + 1) k = none := by simp [Tm.mread, hlen]
      rw [hfin]
      clear hfin ih ha
      go_enter Try.func54, Try.ntmps54
      go_wp2_with fail
      exact bodyPost_ret (v := .tuple #[.agg #[.string ⟨#[]⟩, .slice none 0 0], .int .i64 (-1)]) (by simp [results, Try.results54, go_sem]) rfl (SReadPost.no rfl (After.new _ _))
    · have hlt : k < l.length := by omega
      have hatk := byte_at l k hlt (by rw [hsz]; exact hlt)
      have hget : l[k]? = some l[k] := List.getElem?_eq_getElem hlt
      have h40e : ((((⟨l.toArray⟩ : ByteArray)[k]'(by rw [hsz]; exact hlt)).toNat : Int) != 40) = (l[k] != (40 : UInt8)) := by
        rw [hatk]; exact byte_ne_lit l[k] 40 (by omega)
      by_cases h40 : l[k] = 40
      · have hne : (l[k] != (40 : UInt8)) = false := by simpa using h40
        rw [hne] at h40e
        have h0 : l[k]? = some 40 := by rw [hget, h40]
        have HA := Lib.hid ha
        have HIH := Lib.hid ih
        have call1 : ∀ W, Calls Try.prog 54 #[str l, .int .i64 ((k : Int) + 1), .int .i64 (a + 1)] W (SReadPost W (Tm.mread l d (k + 1))) := fun W => ih _ _ (k + 1) W (by omega) (by omega) (by omega) (by omega)
        clear hne h40 hget hatk ha ih
        cases hf : Tm.mread l d (k + 1) with
        | none =>
          have hfin : Tm.mread l (d + 1) k = none := by simp [Tm.mread, hlen, h0, hf]
          rw [hfin]
          rw [hf] at call1
          clear hfin hf h0 hlen
          go_enter Try.func54, Try.ntmps54
          go_wp2_with fail
          refine (call1 _).mono ?_
          rintro e w1 ⟨s1, ao1, n1, c1, rfl, hb1, ht1⟩
          clear ht1 call1
          obtain ⟨r0, r1, f0, f1, hz⟩ := box2 hb1
          have hpl : place none = -1 := rfl
          go_wp2_with fail
          exact bodyPost_ret (v := .tuple #[.agg #[.string ⟨#[]⟩, .slice none 0 0], .int .i64 (-1)]) (by simp [results, Try.results54, go_sem, r0, r1, hz]) rfl (SReadPost.no rfl (After.alloc (After.set2 hb1) _))
        | some p =>
          obtain ⟨f, j⟩ := p
          obtain ⟨zf, hj⟩ := reads_size (Tm.mread_sound hf)
          rw [hf] at call1
          have hpl : place (some (f, j)) = (j : Int) := rfl
          by_cases h32 : l[j]? = some 32
          · obtain ⟨jlt, hjv⟩ := List.getElem?_eq_some_iff.1 h32
            have hatj : ((((⟨l.toArray⟩ : ByteArray)[j]'(by rw [hsz]; exact jlt)).toNat : Int) != 32) = false := by
              rw [byte_at l j jlt, byte_ne_lit' l[j] 32 32 rfl rfl, hjv]; rfl
            have call2 : ∀ W, Calls Try.prog 54 #[str l, .int .i64 ((j : Int) + 1), .int .i64 (a + 1)] W (SReadPost W (Tm.mread l d (j + 1))) := fun W => HIH.out _ _ (j + 1) W (by omega) (by omega) (by have := HA.out; omega) (by omega)
            cases hq : Tm.mread l d (j + 1) with
            | none =>
              have H := Lib.hid (show Tm.mread l (d + 1) k = none by simp [Tm.mread, hlen, h0, hf, h32, hq])
              rw [hq] at call2
              have hpl2 : place none = -1 := rfl
              clear hq hf h32 h0 hlen hjv
              go_enter Try.func54, Try.ntmps54
              go_wp2_with fail
              refine (call1 _).mono ?_
              rintro e w1 ⟨s1, ao1, n1, c1, rfl, hb1, ht1⟩
              have ht1' := Lib.hid (ht1 f _ rfl)
              clear ht1 call1
              obtain ⟨r0, r1, f0, f1, hz⟩ := box2 hb1
              go_wp2_with fail
              refine (call2 _).mono ?_
              rintro e w2 ⟨s2, ao2, n2, c2, rfl, hb2, ht2⟩
              have hb12 : After (w.alloc (.cells #[.string ⟨#[]⟩, .slice none 0 0] 40)) w2 := (After.alloc hb1 _).trans hb2
              clear r0 r1 f0 f1 hz call2
              obtain ⟨r0, r1, f0, f1, hz⟩ := box2 hb12
              clear ht2
              go_wp2_with fail
              exact bodyPost_ret (v := .tuple #[.agg #[.string ⟨#[]⟩, .slice none 0 0], .int .i64 (-1)]) (by simp [results, Try.results54, go_sem, r0, r1, hz]) rfl (SReadPost.no H.out (After.alloc (After.set2 hb12) _))
            | some p =>
              obtain ⟨g, m⟩ := p
              obtain ⟨zg, hm⟩ := reads_size (Tm.mread_sound hq)
              rw [hq] at call2
              have hpl2 : place (some (g, m)) = (m : Int) := rfl
              by_cases h41 : l[m]? = some 41
              · obtain ⟨mlt, hmv⟩ := List.getElem?_eq_some_iff.1 h41
                have hatm : ((((⟨l.toArray⟩ : ByteArray)[m]'(by rw [hsz]; exact mlt)).toNat : Int) != 41) = false := by
                  rw [byte_at l m mlt, byte_ne_lit' l[m] 41 41 rfl rfl, hmv]; rfl
                have H := Lib.hid (show Tm.mread l (d + 1) k = some (f.app g, m + 1) by simp [Tm.mread, hlen, h0, hf, h32, hq, h41])
                clear hq hf h32 h0 hlen hjv h41 hmv
                go_enter Try.func54, Try.ntmps54
                go_wp2_with fail
                refine (call1 _).mono ?_
                rintro e w1 ⟨s1, ao1, n1, c1, rfl, hb1, ht1⟩
                have ht1' := Lib.hid (ht1 f _ rfl)
                clear ht1 call1
                obtain ⟨r0, r1, f0, f1, hz⟩ := box2 hb1
                go_wp2_with fail
                refine (call2 _).mono ?_
                rintro e w2 ⟨s2, ao2, n2, c2, rfl, hb2, ht2⟩
                have hb12 : After (w.alloc (.cells #[.string ⟨#[]⟩, .slice none 0 0] 40)) w2 := (After.alloc hb1 _).trans hb2
                clear r0 r1 f0 f1 hz call2
                obtain ⟨r0, r1, f0, f1, hz⟩ := box2 hb12
                have ht2' := Lib.hid (ht2 g m rfl)
                clear ht2
                have a1 : w2.cell? ⟨w1.heap.size, 0, none⟩ = some (str s1) ∧ w2.cell? ⟨w1.heap.size, 1, none⟩ = some (.slice ao1 n1 c1) ∧ w1.heap.size < w2.heap.size := by
                  obtain ⟨q0, q1, _, _, q4⟩ := box2 hb2
                  exact ⟨q0, q1, q4⟩
                obtain ⟨q0, q1, q4⟩ := a1
                go_wp2_with fail
                refine bodyPost_ret (v := .tuple #[.agg #[.string ⟨#[]⟩, .slice (some ⟨w2.heap.size + 1, 0, none⟩) 2 2], .int .i64 ((m : Int) + 1)]) (by simp [results, Try.results54, go_sem, r0, r1, hz]) rfl ?_
                refine ⟨[], some ⟨w2.heap.size + 1, 0, none⟩, 2, 2, by rw [H.out]; rfl, After.alloc (After.alloc (After.set2 hb12) _) _, fun t j' he => ?_⟩
                rw [H.out] at he
                simp only [Option.some.injEq, Prod.mk.injEq] at he
                obtain ⟨rfl, rfl⟩ := he
                have k1 := (((ht1'.out.later ((After.new w1 _).trans hb2)).sets (i := 0) (j := 1) (u := .string ⟨#[]⟩) (u' := .slice (some ⟨w2.heap.size + 1, 0, none⟩) 2 2) hb12).later (After.new _ (.cells #[.string ⟨s2.toArray⟩, .slice ao2 n2 c2] 40))).later (After.new _ (.cells #[str s1, .slice ao1 n1 c1, .string ⟨s2.toArray⟩, .slice ao2 n2 c2] 40))
                have k2 := ((ht2'.out.sets (i := 0) (j := 1) (u := .string ⟨#[]⟩) (u' := .slice (some ⟨w2.heap.size + 1, 0, none⟩) 2 2) hb12).later (After.new _ (.cells #[.string ⟨s2.toArray⟩, .slice ao2 n2 c2] 40))).later (After.new _ (.cells #[str s1, .slice ao1 n1 c1, .string ⟨s2.toArray⟩, .slice ao2 n2 c2] 40))
                refine ⟨w2.heap.size + 1, 2, (0, 0), _, _, _, _, rfl, ?_, k1, k2⟩
                exact heap_new2 _ _ _ _ (by simp [World.setCell])
              · have H := Lib.hid (show Tm.mread l (d + 1) k = none by simp [Tm.mread, hlen, h0, hf, h32, hq, h41])
                by_cases hml : m = l.length
                · subst hml
                  clear hq hf h32 h0 hlen hjv h41
                  go_enter Try.func54, Try.ntmps54
                  go_wp2_with fail
                  refine (call1 _).mono ?_
                  rintro e w1 ⟨s1, ao1, n1, c1, rfl, hb1, ht1⟩
                  have ht1' := Lib.hid (ht1 f _ rfl)
                  clear ht1 call1
                  obtain ⟨r0, r1, f0, f1, hz⟩ := box2 hb1
                  go_wp2_with fail
                  refine (call2 _).mono ?_
                  rintro e w2 ⟨s2, ao2, n2, c2, rfl, hb2, ht2⟩
                  have hb12 : After (w.alloc (.cells #[.string ⟨#[]⟩, .slice none 0 0] 40)) w2 := (After.alloc hb1 _).trans hb2
                  clear r0 r1 f0 f1 hz call2
                  obtain ⟨r0, r1, f0, f1, hz⟩ := box2 hb12
                  clear ht2
                  go_wp2_with fail
                  exact bodyPost_ret (v := .tuple #[.agg #[.string ⟨#[]⟩, .slice none 0 0], .int .i64 (-1)]) (by simp [results, Try.results54, go_sem, r0, r1, hz]) rfl (SReadPost.no H.out (After.alloc (After.set2 hb12) _))
                · have mlt : m < l.length := by omega
                  have hatm : ((((⟨l.toArray⟩ : ByteArray)[m]'(by rw [hsz]; exact mlt)).toNat : Int) != 41) = true := by
                    rw [byte_at l m mlt, byte_ne_lit' l[m] 41 41 rfl rfl]
                    rw [List.getElem?_eq_getElem mlt] at h41
                    simpa using h41
                  clear hq hf h32 h0 hlen hjv h41
                  go_enter Try.func54, Try.ntmps54
                  go_wp2_with fail
                  refine (call1 _).mono ?_
                  rintro e w1 ⟨s1, ao1, n1, c1, rfl, hb1, ht1⟩
                  have ht1' := Lib.hid (ht1 f _ rfl)
                  clear ht1 call1
                  obtain ⟨r0, r1, f0, f1, hz⟩ := box2 hb1
                  go_wp2_with fail
                  refine (call2 _).mono ?_
                  rintro e w2 ⟨s2, ao2, n2, c2, rfl, hb2, ht2⟩
                  have hb12 : After (w.alloc (.cells #[.string ⟨#[]⟩, .slice none 0 0] 40)) w2 := (After.alloc hb1 _).trans hb2
                  clear r0 r1 f0 f1 hz call2
                  obtain ⟨r0, r1, f0, f1, hz⟩ := box2 hb12
                  clear ht2
                  go_wp2_with fail
                  exact bodyPost_ret (v := .tuple #[.agg #[.string ⟨#[]⟩, .slice none 0 0], .int .i64 (-1)]) (by simp [results, Try.results54, go_sem, r0, r1, hz]) rfl (SReadPost.no H.out (After.alloc (After.set2 hb12) _))
          · have H := Lib.hid (show Tm.mread l (d + 1) k = none by simp [Tm.mread, hlen, h0, hf, h32])
            by_cases hjl : j = l.length
            · subst hjl
              clear hf h32 h0 hlen
              go_enter Try.func54, Try.ntmps54
              go_wp2_with fail
              refine (call1 _).mono ?_
              rintro e w1 ⟨s1, ao1, n1, c1, rfl, hb1, ht1⟩
              have ht1' := Lib.hid (ht1 f _ rfl)
              clear ht1 call1
              obtain ⟨r0, r1, f0, f1, hz⟩ := box2 hb1
              go_wp2_with fail
              exact bodyPost_ret (v := .tuple #[.agg #[.string ⟨#[]⟩, .slice none 0 0], .int .i64 (-1)]) (by simp [results, Try.results54, go_sem, r0, r1, hz]) rfl (SReadPost.no H.out (After.alloc (After.set2 hb1) _))
            · have jlt : j < l.length := by omega
              have hatj : ((((⟨l.toArray⟩ : ByteArray)[j]'(by rw [hsz]; exact jlt)).toNat : Int) != 32) = true := by
                rw [byte_at l j jlt, byte_ne_lit' l[j] 32 32 rfl rfl]
                rw [List.getElem?_eq_getElem jlt] at h32
                simpa using h32
              clear hf h32 h0 hlen
              go_enter Try.func54, Try.ntmps54
              go_wp2_with fail
              refine (call1 _).mono ?_
              rintro e w1 ⟨s1, ao1, n1, c1, rfl, hb1, ht1⟩
              have ht1' := Lib.hid (ht1 f _ rfl)
              clear ht1 call1
              obtain ⟨r0, r1, f0, f1, hz⟩ := box2 hb1
              go_wp2_with fail
              exact bodyPost_ret (v := .tuple #[.agg #[.string ⟨#[]⟩, .slice none 0 0], .int .i64 (-1)]) (by simp [results, Try.results54, go_sem, r0, r1, hz]) rfl (SReadPost.no H.out (After.alloc (After.set2 hb1) _))
      · have hne : (l[k] != (40 : UInt8)) = true := by simpa using h40
        rw [hne] at h40e
        have hend := Tm.atomEnd_le l k hk
        have hat := s_atom w l k hl hk
        have hat' := fun W => s_atom W l k hl hk
        obtain ⟨m, hm⟩ : ∃ m, m = Tm.atomEnd l k := ⟨_, rfl⟩
        have hword : (⟨l.toArray⟩ : ByteArray).extract k m = ⟨((l.drop k).take (m - k)).toArray⟩ := bytes_ext l k m
        have hmr : Tm.mread l (d + 1) k = match Tm.mkAtom ((l.drop k).take (m - k)) with | some t => some (t, m) | none => none := by
          rw [hm]; simp [Tm.mread, hlen, hget, h40]; rfl
        rw [← hm] at hend hat'
        obtain ⟨x, hx⟩ : ∃ x, x = (l.drop k).take (m - k) := ⟨_, rfl⟩
        rw [← hx] at hword hmr
        have hxl : x.length ≤ 1000000000 := by rw [hx]; simp; omega
        have hname := fun W => s_name W x hxl
        have HM := Lib.hid hmr
        clear hmr hx hm hat hne h40 hatk hget ih hlen ha
        obtain ⟨hm1, hm2⟩ := hend
        cases hmk : Tm.mkAtom x with
        | none =>
          have hfin : Tm.mread l (d + 1) k = none := by rw [HM.out, hmk]
          have e1 : (x == [107]) = false := by
            rw [beq_eq_false_iff_ne]; rintro rfl; simp [Tm.mkAtom] at hmk
          have e2 : (x == [115]) = false := by
            rw [beq_eq_false_iff_ne]; rintro rfl; simp [Tm.mkAtom] at hmk
          have e3 : Tm.nameOk x = false := by
            cases hq : Tm.nameOk x with
            | false => rfl
            | true => simp only [beq_eq_false_iff_ne, ne_eq] at e1 e2; simp [Tm.mkAtom, e1, e2, hq] at hmk
          rw [e3] at hname
          rw [hfin]
          clear hfin hmk HM e3
          go_enter Try.func54, Try.ntmps54
          go_wp2_with (first
            | (go_at_call 85; refine (hat' _).mono ?_; rintro e w' ⟨rfl, rfl⟩)
            | (go_at_call 86; refine (hname _).mono ?_; rintro e w' ⟨rfl, rfl⟩))
          exact bodyPost_ret (v := .tuple #[.agg #[.string ⟨#[]⟩, .slice none 0 0], .int .i64 (-1)]) (by simp [results, Try.results54, go_sem]) rfl (SReadPost.no rfl (After.new _ _))
        | some t =>
          have hfin : Tm.mread l (d + 1) k = some (t, m) := by rw [HM.out, hmk]
          obtain ⟨ht, _, hd0, _, _⟩ := Tm.mkAtom_sound hmk
          rw [hfin]
          have hpost : ∀ W', After w W' → SReadPost w (some (t, m)) (.returned (.tuple #[.agg #[str x, .slice none 0 0], .int .i64 (m : Nat)])) W' := fun W' hb =>
            ⟨x, none, 0, 0, rfl, hb, fun t' j he => by
              simp only [Option.some.injEq, Prod.mk.injEq] at he
              obtain ⟨rfl, rfl⟩ := he
              rw [← ht]
              exact ST_atom _ _ hd0⟩
          have HP := Lib.hid hpost
          clear hpost
          by_cases e1 : x = [107]
          · subst e1
            clear hfin hmk HM hname ht hd0
            go_enter Try.func54, Try.ntmps54
            go_wp2_with (go_at_call 85; refine (hat' _).mono ?_; rintro e w' ⟨rfl, rfl⟩)
            exact bodyPost_ret (v := .tuple #[.agg #[str [107], .slice none 0 0], .int .i64 (m : Nat)]) (by simp [results, Try.results54, go_sem]) rfl (HP.out _ (After.new _ _))
          · by_cases e2 : x = [115]
            · subst e2
              clear hfin hmk HM hname ht hd0 e1
              go_enter Try.func54, Try.ntmps54
              go_wp2_with (go_at_call 85; refine (hat' _).mono ?_; rintro e w' ⟨rfl, rfl⟩)
              exact bodyPost_ret (v := .tuple #[.agg #[str [115], .slice none 0 0], .int .i64 (m : Nat)]) (by simp [results, Try.results54, go_sem]) rfl (HP.out _ (After.new _ _))
            · have e3 : Tm.nameOk x = true := by
                cases hq : Tm.nameOk x with
                | true => rfl
                | false => simp [Tm.mkAtom, e1, e2, hq] at hmk
              rw [e3] at hname
              have n1 : (x == [107]) = false := beq_eq_false_iff_ne.2 e1
              have n2 : (x == [115]) = false := beq_eq_false_iff_ne.2 e2
              clear hfin hmk HM ht hd0 e1 e2 e3
              go_enter Try.func54, Try.ntmps54
              go_wp2_with (first
                | (go_at_call 85; refine (hat' _).mono ?_; rintro e w' ⟨rfl, rfl⟩)
                | (go_at_call 86; refine (hname _).mono ?_; rintro e w' ⟨rfl, rfl⟩))
              exact bodyPost_ret (v := .tuple #[.agg #[str x, .slice none 0 0], .int .i64 (m : Nat)]) (by simp [results, Try.results54, go_sem]) rfl (HP.out _ (After.new _ _))
end Go.Proofs.Ytjomocjlnjgkeaa

namespace Go.Proofs.Ytjomocjlnjgkeaa
open Go.RowKit

set_option maxHeartbeats 4000000
set_option maxRecDepth 100000

def TreePost (w : World) (t : Tm) (e : Ending) (w' : World) : Prop :=
  ∃ s ao n c, e = .returned (.agg #[str s, .slice ao n c]) ∧ After w w' ∧ ST w' t (.agg #[str s, .slice ao n c])

theorem s_app (w : World) (f a : Tm) (s1 s2 : List UInt8) (a1 a2 : Option Addr) (n1 c1 n2 c2 g : Nat) (fr : Nat × Nat) (hf : ST w f (.agg #[str s1, .slice a1 n1 c1])) (ha : ST w a (.agg #[str s2, .slice a2 n2 c2]))
    (hg : w.heap[g]? = some (.cells #[str s2, .slice a2 n2 c2] 40 fr)) :
    Calls Try.prog 63 #[.agg #[str s1, .slice a1 n1 c1], .slice (some ⟨g, 0, none⟩) 1 1] w (TreePost w (f.app a)) := by
  have k0 : w.cell? ⟨g, 0, none⟩ = some (str s2) := cell_of_heap hg
  have k1 : w.cell? ⟨g, 1, none⟩ = some (.slice a2 n2 c2) := cell_of_heap hg
  have hlt := (Array.getElem?_eq_some_iff.1 hg).1
  have HF := Lib.hid hf
  have HA := Lib.hid ha
  clear hf ha hg
  go_enter Try.func63, Try.ntmps63
  go_wp2_with fail
  refine wp_loop_rounds 2 ?_
  rw [rounds_succ]
  go_wp2_with fail
  go_region
  go_wp2_with fail
  rw [rounds_succ]
  go_wp2_with fail
  have hx := ((After.new w (.cells #[.string ⟨#[]⟩, .slice (some ⟨w.heap.size + 1 + 1, 0, none⟩) 2 2] 40)).alloc (.cells #[.string ⟨#[]⟩, .slice (some ⟨w.heap.size + 1 + 1, 0, none⟩) 2 2] 40)).alloc (.cells #[str s1, .slice a1 n1 c1, str s2, .slice a2 n2 c2] 40)
  refine bodyPost_ret (v := .agg #[.string ⟨#[]⟩, .slice (some ⟨w.heap.size + 1 + 1, 0, none⟩) 2 2]) (by simp [results, Try.results63, go_sem]) rfl ⟨[], some ⟨w.heap.size + 1 + 1, 0, none⟩, 2, 2, rfl, hx.drew, ?_⟩
  exact ⟨w.heap.size + 1 + 1, 2, (0, 0), _, _, _, _, rfl, heap_new2 _ _ _ _ (by simp), HF.out.later hx.drew, HA.out.later hx.drew⟩

def RedexPost (w : World) (r : Option Tm) (e : Ending) (w' : World) : Prop :=
  ∃ s ao n c, e = .returned (.tuple #[.agg #[str s, .slice ao n c], .bool r.isSome]) ∧ After w w' ∧ ∀ u, r = some u → ST w' u (.agg #[str s, .slice ao n c])

theorem RedexPost.no {w w' : World} (hb : After w w') (s : List UInt8) (ao : Option Addr) (n c : Nat) : RedexPost w none (.returned (.tuple #[.agg #[str s, .slice ao n c], .bool false])) w' :=
  ⟨s, ao, n, c, rfl, hb, fun u hu => by simp at hu⟩

/-- W is X but for new blocks and block r. -/
def ButFor (X : World) (r : Nat) (W : World) : Prop := X.heap.size ≤ W.heap.size ∧ ∀ k, k < X.heap.size → k ≠ r → W.heap[k]? = X.heap[k]?

theorem ButFor.cell {X W : World} {r b i : Nat} {v : Value} (h : ButFor X r W) (hr : b ≠ r) (hc : X.cell? ⟨b, i, none⟩ = some v) : W.cell? ⟨b, i, none⟩ = some v := by
  rw [World.cell?_of_block (w := X) (a := ⟨b, i, none⟩) (h.2 b (World.block_lt_of_cell? _ _ hc) hr)]; exact hc
theorem ButFor.alloc {X W : World} {r : Nat} (h : ButFor X r W) (o : Obj) : ButFor X r (W.alloc o) := ⟨by simp; have := h.1; omega, fun k hk hr => by rw [Below.heap_alloc _ _ _ (Nat.lt_of_lt_of_le hk h.1)]; exact h.2 k hk hr⟩
theorem ButFor.after {X W W' : World} {r : Nat} (h : ButFor X r W) (g : After W W') : ButFor X r W' := ⟨Nat.le_trans h.1 g.size, fun k hk hr => by rw [g.block k (Nat.lt_of_lt_of_le hk h.1)]; exact h.2 k hk hr⟩
theorem ButFor.set {X W : World} {r : Nat} (h : ButFor X r W) (i : Nat) (v : Value) : ButFor X r (W.setCell ⟨r, i, none⟩ v) := ⟨by simp [World.setCell]; exact h.1, fun k hk hr => by rw [Below.heap_setCell _ _ _ _ (by simpa using hr)]; exact h.2 k hk hr⟩

theorem After.butFor {X W : World} {r : Nat} (h : After X W) : ButFor X r W := ⟨h.size, fun k hk _ => h.block k hk⟩
theorem ST.sets2 {W : World} {b : Nat} {x y u u' : Value} {T : TypeId} {fr : Nat × Nat} {t : Tm} {v : Value} (h : ST W t v) (hh : W.heap[b]? = some (.cells #[x, y] T fr)) {i j : Nat} : ST ((W.setCell ⟨b, i, none⟩ u).setCell ⟨b, j, none⟩ u') t v := by
  refine h.kept fun g cs T' fr' hs hg => ?_
  have hne : g ≠ b := by
    rintro rfl
    rw [hh] at hg
    injection hg with hg
    injection hg with hg _ _
    subst hg
    simp at hs
  rw [Below.heap_setCell _ _ _ _ hne, Below.heap_setCell _ _ _ _ hne]
  exact hg

theorem heap_old2 (W : World) (o p : Obj) : ((W.alloc o).alloc p).heap[W.heap.size]? = some o := by
  rw [Below.heap_alloc _ _ _ (by simp)]; exact heap_new' W o

theorem heap_new3 (w : World) (a b c : Obj) : (((w.alloc a).alloc b).alloc c).heap[w.heap.size + 1 + 1]? = some c := heap_new2 (w.alloc a) (w.heap.size + 1) b c (by simp)
theorem heap_new4 (w : World) (a b c d : Obj) : ((((w.alloc a).alloc b).alloc c).alloc d).heap[w.heap.size + 1 + 1 + 1]? = some d := heap_new2 ((w.alloc a).alloc b) (w.heap.size + 1 + 1) c d (by simp)

section
variable (w : World) (g1 q1 g2 q2 : Nat) (y1 x2 y2 : List UInt8) (b1 a2 b2 : Option Addr) (m1 d1 n2 m2 c2 d2 : Nat)
  (k0 : w.cell? ⟨g1, 0, none⟩ = some (str [])) (k1 : w.cell? ⟨g1, 1, none⟩ = some (.slice (some ⟨g2, 0, none⟩) 2 q2)) (k2 : w.cell? ⟨g1, 2, none⟩ = some (str y1)) (k3 : w.cell? ⟨g1, 3, none⟩ = some (.slice b1 m1 d1)) (hlt : g1 < w.heap.size)
  (j0 : w.cell? ⟨g2, 0, none⟩ = some (str x2)) (j1 : w.cell? ⟨g2, 1, none⟩ = some (.slice a2 n2 c2)) (j2 : w.cell? ⟨g2, 2, none⟩ = some (str y2)) (j3 : w.cell? ⟨g2, 3, none⟩ = some (.slice b2 m2 d2)) (hlt2 : g2 < w.heap.size)
include k0 k1 k2 k3 hlt j0 j1 j2 j3 hlt2
end

section
variable (w : World) (g1 q1 g2 q2 g3 q3 : Nat) (y1 y2 x3 y3 : List UInt8) (b1 b2 a3 b3 : Option Addr) (m1 d1 m2 d2 n3 c3 m3 d3 : Nat)
  (k0 : w.cell? ⟨g1, 0, none⟩ = some (str [])) (k1 : w.cell? ⟨g1, 1, none⟩ = some (.slice (some ⟨g2, 0, none⟩) 2 q2)) (k2 : w.cell? ⟨g1, 2, none⟩ = some (str y1)) (k3 : w.cell? ⟨g1, 3, none⟩ = some (.slice b1 m1 d1)) (hlt : g1 < w.heap.size)
  (j0 : w.cell? ⟨g2, 0, none⟩ = some (str [])) (j1 : w.cell? ⟨g2, 1, none⟩ = some (.slice (some ⟨g3, 0, none⟩) 2 q3)) (j2 : w.cell? ⟨g2, 2, none⟩ = some (str y2)) (j3 : w.cell? ⟨g2, 3, none⟩ = some (.slice b2 m2 d2)) (hlt2 : g2 < w.heap.size)
  (i0 : w.cell? ⟨g3, 0, none⟩ = some (str x3)) (i1 : w.cell? ⟨g3, 1, none⟩ = some (.slice a3 n3 c3)) (i2 : w.cell? ⟨g3, 2, none⟩ = some (str y3)) (i3 : w.cell? ⟨g3, 3, none⟩ = some (.slice b3 m3 d3)) (hlt3 : g3 < w.heap.size)
include k0 k1 k2 k3 hlt j0 j1 j2 j3 hlt2 i0 i1 i2 i3 hlt3
end
end Go.Proofs.Ytjomocjlnjgkeaa
