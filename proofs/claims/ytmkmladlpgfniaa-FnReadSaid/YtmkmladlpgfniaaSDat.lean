/-
  The closed terms of chapter 2 in the model: l1App of two terms, l2I, l2True, l2False.
-/
import Derived.Test.YtmkmladlpgfniaaSMany
import Derived.Test.YtmkmladlpgfniaaPkDat
namespace Go.Proofs.Ytmkmladlpgfniaa
open Go.RowKit

set_option maxHeartbeats 1000000
set_option maxRecDepth 100000

theorem s_app2 (w : World) (f a b : Tm) (s1 s2 s3 : List UInt8) (a1 a2 a3 : Option Addr) (n1 c1 n2 c2 n3 c3 g : Nat) (fr : Nat × Nat) (hf : ST w f (.agg #[str s1, .slice a1 n1 c1])) (ha : ST w a (.agg #[str s2, .slice a2 n2 c2])) (hb : ST w b (.agg #[str s3, .slice a3 n3 c3]))
    (hg : w.heap[g]? = some (.cells #[str s2, .slice a2 n2 c2, str s3, .slice a3 n3 c3] 46 fr)) :
    Calls Try.prog 81 #[.agg #[str s1, .slice a1 n1 c1], .slice (some ⟨g, 0, none⟩) 2 2] w (TreePost w ((f.app a).app b)) := by
  have k0 : w.cell? ⟨g, 0, none⟩ = some (str s2) := cell_of_heap hg
  have k1 : w.cell? ⟨g, 1, none⟩ = some (.slice a2 n2 c2) := cell_of_heap hg
  have k2 : w.cell? ⟨g, 2, none⟩ = some (str s3) := cell_of_heap hg
  have k3 : w.cell? ⟨g, 3, none⟩ = some (.slice a3 n3 c3) := cell_of_heap hg
  have hlt := (Array.getElem?_eq_some_iff.1 hg).1
  have HF := Lib.hid hf
  have HA := Lib.hid ha
  have HB := Lib.hid hb
  clear hf ha hb hg
  go_enter Try.func81, Try.ntmps81
  go_wp2_with fail
  refine wp_loop_rounds 3 ?_
  rw [rounds_succ]
  go_wp2_with fail
  go_region
  go_wp2_with fail
  have hx := ((After.new w (.cells #[.string ⟨#[]⟩, .slice (some ⟨w.heap.size + 1 + 1, 0, none⟩) 2 2] 46)).alloc (.cells #[.string ⟨#[]⟩, .slice none 0 0] 46)).alloc (.cells #[str s1, .slice a1 n1 c1, str s2, .slice a2 n2 c2] 46)
  have x2 := hx.cell k2
  have x3 := hx.cell k3
  have hlt2 : g < w.heap.size + 1 + 1 + 1 := by omega
  rw [rounds_succ]
  go_wp2_with fail
  go_region
  go_wp2_with fail
  rw [rounds_succ]
  go_wp2_with fail
  obtain ⟨os, hos⟩ : ∃ os : List Obj, os = [.cells #[.string ⟨#[]⟩, .slice (some ⟨w.heap.size + 1 + 1 + 1, 0, none⟩) 2 2] 46, .cells #[.string ⟨#[]⟩, .slice (some ⟨w.heap.size + 1 + 1 + 1, 0, none⟩) 2 2] 46, .cells #[str s1, .slice a1 n1 c1, str s2, .slice a2 n2 c2] 46, .cells #[.string ⟨#[]⟩, .slice (some ⟨w.heap.size + 1 + 1, 0, none⟩) 2 2, str s3, .slice a3 n3 c3] 46] := ⟨_, rfl⟩
  have hX : allocL w os = (((w.alloc (.cells #[.string ⟨#[]⟩, .slice (some ⟨w.heap.size + 1 + 1 + 1, 0, none⟩) 2 2] 46)).alloc (.cells #[.string ⟨#[]⟩, .slice (some ⟨w.heap.size + 1 + 1 + 1, 0, none⟩) 2 2] 46)).alloc (.cells #[str s1, .slice a1 n1 c1, str s2, .slice a2 n2 c2] 46)).alloc (.cells #[.string ⟨#[]⟩, .slice (some ⟨w.heap.size + 1 + 1, 0, none⟩) 2 2, str s3, .slice a3 n3 c3] 46) := by rw [hos]; rfl
  have hy : After w (allocL w os) := allocL_below w os
  have h2 : (allocL w os).heap[w.heap.size + 1 + 1]? = some (.cells #[str s1, .slice a1 n1 c1, str s2, .slice a2 n2 c2] 46 (0, 0)) := by have := allocL_heap w os 2 (by rw [hos]; simp); simpa [hos] using this
  have h3 : (allocL w os).heap[w.heap.size + 1 + 1 + 1]? = some (.cells #[.string ⟨#[]⟩, .slice (some ⟨w.heap.size + 1 + 1, 0, none⟩) 2 2, str s3, .slice a3 n3 c3] 46 (0, 0)) := by have := allocL_heap w os 3 (by rw [hos]; simp); simpa [hos] using this
  rw [hX] at hy h2 h3
  refine bodyPost_ret (v := .agg #[.string ⟨#[]⟩, .slice (some ⟨w.heap.size + 1 + 1 + 1, 0, none⟩) 2 2]) (by simp [results, Try.results81, go_sem]) rfl ⟨[], some ⟨w.heap.size + 1 + 1 + 1, 0, none⟩, 2, 2, rfl, hy.drew.drew, ?_⟩
  exact ⟨_, 2, (0, 0), _, _, _, _, rfl, h3, ⟨_, 2, (0, 0), _, _, _, _, rfl, h2, HF.out.later hy.drew.drew, HA.out.later hy.drew.drew⟩, HB.out.later hy.drew.drew⟩

theorem s_i (w : World) : Calls Try.prog 79 #[] w (TreePost w Tm.I) := by
  have hAX : After w ((w.alloc (.cells #[.string ⟨#[]⟩, .slice none 0 0] 46)).alloc (.cells #[str [107], .slice none 0 0, str [107], .slice none 0 0] 46)) := (After.new _ _).alloc _
  have hres := heap_old2 w (.cells #[.string ⟨#[]⟩, .slice none 0 0] 46) (.cells #[str [107], .slice none 0 0, str [107], .slice none 0 0] 46)
  have hcall := s_app2 _ .s .k .k [115] [107] [107] none none none 0 0 0 0 0 0 (w.heap.size + 1) (0, 0) rfl rfl rfl (heap_new2 w _ (.cells #[.string ⟨#[]⟩, .slice none 0 0] 46) (.cells #[str [107], .slice none 0 0, str [107], .slice none 0 0] 46) rfl)
  unfold TreePost at hcall
  have HRES := Lib.hid hres
  clear hres
  go_enter Try.func79, Try.ntmps79
  go_wp2_with fail
  refine hcall.mono ?_
  rintro e w1 ⟨t1, ao1, n1, c1, rfl, hb1, ht1⟩
  have HT := Lib.hid ht1
  obtain ⟨z0, z1, z2, z3, l2⟩ := pair_facts HRES.out hb1
  clear ht1 hcall
  go_wp2_with fail
  refine bodyPost_ret (v := .agg #[str t1, .slice ao1 n1 c1]) (by simp [results, Try.results79, go_sem, z0, z1]) rfl
    ⟨t1, ao1, n1, c1, rfl, Below.setCell (Below.setCell (hAX.trans hb1) (by simp) _) (by simp) _, HT.out.sets2 (hb1.heap HRES.out)⟩

theorem s_true (w : World) : Calls Try.prog 60 #[] w (TreePost w .k) := by
  have hA := After.new w (.cells #[.string ⟨#[107]⟩, .slice none 0 0] 46)
  go_enter Try.func60, Try.ntmps60
  go_wp2_with fail
  refine bodyPost_ret (v := .agg #[.string ⟨#[107]⟩, .slice none 0 0]) (by simp [results, Try.results60, go_sem]) rfl
    ⟨[107], none, 0, 0, rfl, hA, rfl⟩

theorem s_false (w : World) : Calls Try.prog 61 #[] w (TreePost w Tm.no) := by
  have hres := heap_new' w (.cells #[.string ⟨#[]⟩, .slice none 0 0] 46)
  have hA := After.new w (.cells #[.string ⟨#[]⟩, .slice none 0 0] 46)
  have hI := s_i (w.alloc (.cells #[.string ⟨#[]⟩, .slice none 0 0] 46))
  unfold TreePost at hI
  have HRES := Lib.hid hres
  clear hres
  go_enter Try.func61, Try.ntmps61
  go_wp2_with fail
  refine hI.mono ?_
  rintro e w1 ⟨t1, ao1, n1, c1, rfl, hb1, ht1⟩
  have hcall := s_app (w1.alloc (.cells #[str t1, .slice ao1 n1 c1] 46)) .k Tm.I [107] t1 none ao1 0 0 n1 c1 w1.heap.size (0, 0) rfl (ht1.later (After.new _ _)) (heap_new' _ _)
  unfold TreePost at hcall
  have hA1 := After.alloc hb1 (.cells #[str t1, .slice ao1 n1 c1] 46)
  clear ht1 hI
  go_wp2_with fail
  refine hcall.mono ?_
  rintro e w2 ⟨t2, ao2, n2, c2, rfl, hb2, ht2⟩
  have HT := Lib.hid ht2
  have hA2 := hA1.trans hb2
  obtain ⟨z0, z1, z2, z3, l2⟩ := pair_facts HRES.out hA2
  clear ht2 hcall
  go_wp2_with fail
  refine bodyPost_ret (v := .agg #[str t2, .slice ao2 n2 c2]) (by simp [results, Try.results61, go_sem, z0, z1]) rfl
    ⟨t2, ao2, n2, c2, rfl, Below.setCell (Below.setCell (hA.trans hA2) (by simp) _) (by simp) _, HT.out.sets2 (hA2.heap HRES.out)⟩
end Go.Proofs.Ytmkmladlpgfniaa
