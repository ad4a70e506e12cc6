/-
  An append of a slice that may be empty, to a row that the call owns. Program-independent.
-/
import Derived.OwnWalk
import Derived.Laws.AppendOwn
import Derived.Deep.AppendLies
import Derived.Test.YtmkmladlpgfniacGreatPkE
namespace Go.Proofs.YtmkmladlpgfniacGreat
open Go

section
variable {P : Program} (w : World)

/-- What is appended: nothing, or cells that lie there. -/
def SrcOk (w : World) (sv : Value) (news : List Value) : Prop :=
  (news = [] ∧ ∃ ao cap, sv = .slice ao 0 cap) ∨ ∃ ad m c, sv = .slice (some ad) m c ∧ 0 < m ∧ news.length = m ∧ ∀ j u, news[j]? = some u → w.cell? (ad.add j) = some u

theorem run_app {t ty e : TypeId} {i : TypeInfo} {z : Value} {base bytes : Nat} (ht : P.underlying t = some (.slice e)) (hi : P.info? e = some i) (hz : i.zero = some z)
    (hsize : i.size = 1) (hby : i.bytes = bytes) (hzs : z.cells.size = 1)
    {v : Value} {n : Nat} {xs : List Value} (hown : w.ownsRow base e 1 v n xs) {sv : Value} {news : List Value} (hsrc : SrcOk w sv news) (h1 : ∀ u ∈ news, u.oneCell' = true)
    (h63 : n + news.length ≤ maxLen) (hbytes : (n + news.length) * bytes ≤ 140737488355328) (hbase : base ≤ w.heap.size) :
    ∃ v' w', (Builtin.append_ #[t, t] ty #[v, sv]).run P w = .ok v' w' ∧ w'.ownsRow base e 1 v' (n + news.length) (xs ++ news) ∧ w.grownBy w' v.ownBlock := by
  rcases hsrc with ⟨rfl, ao, cap, rfl⟩ | ⟨ad, m, c, rfl, hm, hl, hc⟩
  · refine ⟨v, w, ?_, by simpa using hown, World.grownBy.refl _ _⟩
    rcases hown.2 with ⟨rfl, rfl⟩ | ⟨g, cap', cur, rfl, _, _, hnc, _⟩
    · cases ao <;> simp [Builtin.append_, run_underlying ht, sizeOf, typeInfo, hi, Builtin.lenOf, Builtin.firstCells, loadCells, loadCellsFrom]
    · cases ao <;> simp [Builtin.append_, run_underlying ht, sizeOf, typeInfo, hi, Builtin.lenOf, Builtin.firstCells, loadCells, loadCellsFrom, hnc, storeCells]
  · subst hl
    obtain ⟨v', w', h2, h3, h4, _⟩ := run_append_own (P := P) w base t ty e i z 1 bytes ht hi hz hsize hby hzs (by decide) v n xs hown ad news.length c news (by omega) hc h1 h63 hbytes hbase
    exact ⟨v', w', h2, h3, h4⟩

theorem wp_app {o : Oper} {a : Act} {K : Act → World → Prop} {Q : Exit → Act → World → Prop} (s x : Operand) (t : TypeId)
    (ho : o.op = .call { callee := .builtin .append, args := #[s, x], argTypes := #[t, t] })
    (base : Nat) (e : TypeId) (i : TypeInfo) (z : Value) (bytes : Nat) (ht : P.underlying t = some (.slice e)) (hi : P.info? e = some i) (hz : i.zero = some z)
    (hsize : i.size = 1) (hby : i.bytes = bytes) (hzs : z.cells.size = 1)
    (v : Value) (n : Nat) (xs : List Value) (hs : a.eval s = v) (hown : w.ownsRow base e 1 v n xs) (sv : Value) (news : List Value) (hx : a.eval x = sv) (hsrc : SrcOk w sv news) (h1 : ∀ u ∈ news, u.oneCell' = true)
    (h63 : n + news.length ≤ maxLen) (hbytes : (n + news.length) * bytes ≤ 140737488355328) (hbase : base ≤ w.heap.size)
    (h : ∀ v' w', w'.ownsRow base e 1 v' (n + news.length) (xs ++ news) → w.grownBy w' v.ownBlock → K (a.put o.dst v') w') : o.wp P a w K Q := by
  obtain ⟨v', w', hr, h2, h3⟩ := run_app (P := P) w (t := t) (ty := o.type) ht hi hz hsize hby hzs hown hsrc h1 h63 hbytes hbase
  unfold Oper.wp execOp
  simp only [ho, resolve, invoke, builtin, Sem.run_bind, Sem.run_pure, Result.andThen_ok, List.map_toArray, List.map_cons, List.map_nil, hs, hx, hr]
  exact h v' w' h2 h3

theorem wpList_app {ops : Array Oper} {rest : List Oper} {o : Oper} {a : Act} {Q : Exit → Act → World → Prop} (hgd : o.guard = none) (s x : Operand) (t : TypeId)
    (ho : o.op = .call { callee := .builtin .append, args := #[s, x], argTypes := #[t, t] })
    (base : Nat) (e : TypeId) (i : TypeInfo) (z : Value) (bytes : Nat) (ht : P.underlying t = some (.slice e)) (hi : P.info? e = some i) (hz : i.zero = some z)
    (hsize : i.size = 1) (hby : i.bytes = bytes) (hzs : z.cells.size = 1)
    (v : Value) (n : Nat) (xs : List Value) (hs : a.eval s = v) (hown : w.ownsRow base e 1 v n xs) (sv : Value) (news : List Value) (hx : a.eval x = sv) (hsrc : SrcOk w sv news) (h1 : ∀ u ∈ news, u.oneCell' = true)
    (h63 : n + news.length ≤ maxLen) (hbytes : (n + news.length) * bytes ≤ 140737488355328) (hbase : base ≤ w.heap.size)
    (h : ∀ v' w', w'.ownsRow base e 1 v' (n + news.length) (xs ++ news) → w.grownBy w' v.ownBlock → wpList P ops Q rest (a.put o.dst v') w') : wpList P ops Q (o :: rest) a w :=
  wpList_plain hgd fun _ hK => wp_app w s x t ho base e i z bytes ht hi hz hsize hby hzs v n xs hs hown sv news hx hsrc h1 h63 hbytes hbase fun v' w' h2 h3 => hK _ _ (h v' w' h2 h3)

theorem step_app {ops : Array Oper} {o : Oper} {a : Act} {K : Act → World → Prop} {Q : Exit → Act → World → Prop} {E : Prop} (hgd : o.guard = none) (s x : Operand) (t : TypeId)
    (ho : o.op = .call { callee := .builtin .append, args := #[s, x], argTypes := #[t, t] })
    (base : Nat) (e : TypeId) (i : TypeInfo) (z : Value) (bytes : Nat) (ht : P.underlying t = some (.slice e)) (hi : P.info? e = some i) (hz : i.zero = some z)
    (hsize : i.size = 1) (hby : i.bytes = bytes) (hzs : z.cells.size = 1)
    (v : Value) (n : Nat) (xs : List Value) (hs : a.eval s = v) (hown : w.ownsRow base e 1 v n xs) (sv : Value) (news : List Value) (hx : a.eval x = sv) (hsrc : SrcOk w sv news) (h1 : ∀ u ∈ news, u.oneCell' = true)
    (h63 : n + news.length ≤ maxLen) (hbytes : (n + news.length) * bytes ≤ 140737488355328) (hbase : base ≤ w.heap.size)
    (h : ∀ v' w', w'.ownsRow base e 1 v' (n + news.length) (xs ++ news) → w.grownBy w' v.ownBlock → K (a.put o.dst v') w') :
    if Region.wanted o (yielded ops a.tmps) = true then Oper.wp P o a w K Q else E := by
  have hw : Region.wanted o (yielded ops a.tmps) = true := by simp [Region.wanted, hgd]
  rw [if_pos hw]
  exact wp_app w s x t ho base e i z bytes ht hi hz hsize hby hzs v n xs hs hown sv news hx hsrc h1 h63 hbytes hbase h
end
end Go.Proofs.YtmkmladlpgfniacGreat

namespace Go.Proofs.YtmkmladlpgfniacGreat
open Go.RowKit

set_option maxHeartbeats 1000000
set_option maxRecDepth 100000

/-- w is as w0 was, from S on. -/
def Agree (w0 w : World) (S : Nat) : Prop := w0.heap.size ≤ w.heap.size ∧ ∀ k, S ≤ k → k < w0.heap.size → w.heap[k]? = w0.heap[k]?

theorem Agree.grown {w0 w w' : World} {S rb : Nat} (h : Agree w0 w S) (hg : w.grownBy w' (some rb)) (hr : w0.heap.size ≤ rb) : Agree w0 w' S :=
  ⟨Nat.le_trans h.1 hg.size, fun k h1 h2 => (hg.block k (Nat.lt_of_lt_of_le h2 h.1) (fun e => by injection e with e; omega)).trans (h.2 k h1 h2)⟩
theorem Agree.after {w0 w w' : World} {S : Nat} (h : Agree w0 w S) (ha : After w w') : Agree w0 w' S :=
  ⟨Nat.le_trans h.1 ha.size, fun k h1 h2 => (ha.block k (Nat.lt_of_lt_of_le h2 h.1)).trans (h.2 k h1 h2)⟩
theorem Agree.heap {w0 w : World} {S b : Nat} {o : Obj} (h : Agree w0 w S) (hb : S ≤ b) (e : w0.heap[b]? = some o) : w.heap[b]? = some o := (h.2 b hb (Array.getElem?_eq_some_iff.1 e).1).trans e

def Steps (w : World) (rb s : Nat) : Prop := w.heap[rb]? = some (.cells #[.int .i64 (s : Nat)] 71 (0, 0))
theorem Steps.after {w w' : World} {rb s : Nat} (h : Steps w rb s) (ha : After w w') : Steps w' rb s := ha.heap h
theorem Steps.set {w : World} {rb s : Nat} (h : Steps w rb s) (n : Nat) : Steps (w.setCell ⟨rb, 0, none⟩ (.int .i64 (n : Nat))) rb n := by
  unfold Steps at *
  simp [World.setCell, Array.getElem?_modify, h]

/-- A slice of numbers, not in block rb. -/
def IntsV (w : World) (rb : Nat) (sv : Value) (az : List Nat) : Prop :=
  (az = [] ∧ ∃ ao cap, sv = .slice ao 0 cap) ∨ ∃ b o cap, sv = .slice (some ⟨b, o, none⟩) az.length cap ∧ az.length ≤ cap ∧ b ≠ rb ∧ b < w.heap.size ∧ ∀ j, j < az.length → w.cell? ⟨b, o + j, none⟩ = some (.int .i64 (az.getD j 0 : Nat))

theorem IntsV.form {w : World} {rb : Nat} {sv : Value} {az : List Nat} (h : IntsV w rb sv az) : ∃ ao cap, sv = .slice ao az.length cap := by
  rcases h with ⟨rfl, ao, cap, rfl⟩ | ⟨b, o, cap, rfl, _⟩
  · exact ⟨_, _, rfl⟩
  · exact ⟨_, _, rfl⟩
theorem IntsV.grown {w w' : World} {rb : Nat} {sv : Value} {az : List Nat} (h : IntsV w rb sv az) (hg : w.grownBy w' (some rb)) : IntsV w' rb sv az := by
  rcases h with h | ⟨b, o, cap, hv, hl, hne, hb, hc⟩
  · exact Or.inl h
  · refine Or.inr ⟨b, o, cap, hv, hl, hne, Nat.lt_of_lt_of_le hb hg.size, fun j hj => ?_⟩
    have := hg.block b hb (fun e => by injection e with e; exact hne e)
    rw [← hc j hj]
    simp [World.cell?, this]

def ReckPost (w : World) (rb : Nat) (o : Option (Nat × Nat)) (e : Ending) (w' : World) : Prop :=
  w.grownBy w' (some rb) ∧ match o with
    | none => e = .returned (.tuple #[.int .i64 0, .bool false])
    | some (v, s) => e = .returned (.tuple #[.int .i64 (v : Nat), .bool true]) ∧ Steps w' rb s

theorem reck_over (w : World) (rb s : Nat) (v sv : Value) (hv : ∃ b, v = ptr b) (hs : Steps w rb s) (h2 : 2000 < s + 1) (h3 : s ≤ 100000) :
    Calls Tryz.prog 39 #[v, ptr rb, sv] w (ReckPost w rb none) := by
  obtain ⟨b, rfl⟩ := hv
  have c0 : w.cell? ⟨rb, 0, none⟩ = some (.int .i64 (s : Nat)) := cell_of_heap (i := 0) hs
  have f0 : w.frozen? ⟨rb, 0, none⟩ = false := by unfold Steps at hs; simp [World.frozen?, hs]
  have d0 : (w.setCell ⟨rb, 0, none⟩ (.int .i64 ((s : Int) + 1))).cell? ⟨rb, 0, none⟩ = some (.int .i64 ((s : Int) + 1)) := by
    have := cell_of_heap (i := 0) (hs.set (s + 1)); simpa using this
  have h2' : (2000 : Int) < (s : Int) + 1 := by omega
  clear hs h2
  go_enter Tryz.func39, Tryz.ntmps39
  go_wp2_with fail
  go_ret2
  exact ⟨grown_setx _ _ _ _, rfl⟩


theorem reck_zero (w W1 : World) (rb s b : Nat) (sv : Value) (o : Option (Nat × Nat)) (hs : Steps w rb s) (h2 : ¬ 2000 < s + 1) (hW1 : W1 = w.setCell ⟨rb, 0, none⟩ (.int .i64 ((s : Int) + 1)))
    (c4 : W1.cell? ⟨b, 4, none⟩ = some (.func (.func 117) #[] #[])) (hcl : Calls Tryz.prog 117 #[ptr rb, sv] W1 (ReckPost W1 rb o)) (hsm : ∀ v s', o = some (v, s') → v ≤ 100000) :
    Calls Tryz.prog 39 #[ptr b, ptr rb, sv] w (ReckPost w rb (FT.chk o)) := by
  have c0 : w.cell? ⟨rb, 0, none⟩ = some (.int .i64 (s : Nat)) := cell_of_heap (i := 0) hs
  have f0 : w.frozen? ⟨rb, 0, none⟩ = false := by unfold Steps at hs; simp [World.frozen?, hs]
  have hs1 : Steps W1 rb (s + 1) := by have := hs.set (s + 1); rw [hW1]; simpa using this
  have hg1 : w.grownBy W1 (some rb) := by rw [hW1]; exact grown_setx _ _ _ _
  have d0 : W1.cell? ⟨rb, 0, none⟩ = some (.int .i64 ((s : Int) + 1)) := by have := cell_of_heap (i := 0) hs1; simpa using this
  have h2' : ¬ (2000 : Int) < (s : Int) + 1 := by omega
  have hsb : s ≤ 2000 := by omega
  rw [hW1] at d0 c4
  have HW1 := Lib.hid hW1
  have HG1 := Lib.hid hg1
  clear hs hW1 hs1 hg1 h2
  cases o with
  | none =>
    clear hsm
    go_enter Tryz.func39, Tryz.ntmps39
    go_wp2_with fail
    rw [← HW1.out]
    refine hcl.mono ?_
    rintro e w2 ⟨hg2, rfl⟩
    clear hcl
    go_wp2_with fail
    go_ret2
    exact ⟨grown_trans HG1.out hg2, rfl⟩
  | some p =>
    obtain ⟨x, s'⟩ := p
    have hx := hsm x s' rfl
    clear hsm
    by_cases hle : x ≤ 1000
    · have hxi : ¬ (1000 : Int) < (x : Int) := by omega
      have HE := Lib.hid (show FT.chk (some (x, s')) = some (x, s') by simp [FT.chk, hle])
      clear hle
      go_enter Tryz.func39, Tryz.ntmps39
      go_wp2_with fail
      rw [← HW1.out]
      refine hcl.mono ?_
      rintro e w2 ⟨hg2, rfl, hs2⟩
      have HS2 := Lib.hid hs2
      clear hcl hs2
      go_wp2_with fail
      go_ret2
      exact ⟨grown_trans HG1.out hg2, by rw [HE.out]; exact ⟨rfl, HS2.out⟩⟩
    · have hxi : (1000 : Int) < (x : Int) := by omega
      have HE := Lib.hid (show FT.chk (some (x, s')) = none by simp [FT.chk, hle])
      clear hle
      go_enter Tryz.func39, Tryz.ntmps39
      go_wp2_with fail
      rw [← HW1.out]
      refine hcl.mono ?_
      rintro e w2 ⟨hg2, rfl, hs2⟩
      clear hcl hs2
      go_wp2_with fail
      go_ret2
      exact ⟨grown_trans HG1.out hg2, by rw [HE.out]; rfl⟩

theorem reck_next (w W1 : World) (rb s b : Nat) (sv : Value) (o : Option (Nat × Nat)) (hs : Steps w rb s) (h2 : ¬ 2000 < s + 1) (hW1 : W1 = w.setCell ⟨rb, 0, none⟩ (.int .i64 ((s : Int) + 1)))
    (c4 : W1.cell? ⟨b, 4, none⟩ = some (.func (.func 119) #[] #[])) (hcl : Calls Tryz.prog 119 #[ptr rb, sv] W1 (ReckPost W1 rb o)) (hsm : ∀ v s', o = some (v, s') → v ≤ 100000) :
    Calls Tryz.prog 39 #[ptr b, ptr rb, sv] w (ReckPost w rb (FT.chk o)) := by
  have c0 : w.cell? ⟨rb, 0, none⟩ = some (.int .i64 (s : Nat)) := cell_of_heap (i := 0) hs
  have f0 : w.frozen? ⟨rb, 0, none⟩ = false := by unfold Steps at hs; simp [World.frozen?, hs]
  have hs1 : Steps W1 rb (s + 1) := by have := hs.set (s + 1); rw [hW1]; simpa using this
  have hg1 : w.grownBy W1 (some rb) := by rw [hW1]; exact grown_setx _ _ _ _
  have d0 : W1.cell? ⟨rb, 0, none⟩ = some (.int .i64 ((s : Int) + 1)) := by have := cell_of_heap (i := 0) hs1; simpa using this
  have h2' : ¬ (2000 : Int) < (s : Int) + 1 := by omega
  have hsb : s ≤ 2000 := by omega
  rw [hW1] at d0 c4
  have HW1 := Lib.hid hW1
  have HG1 := Lib.hid hg1
  clear hs hW1 hs1 hg1 h2
  cases o with
  | none =>
    clear hsm
    go_enter Tryz.func39, Tryz.ntmps39
    go_wp2_with fail
    rw [← HW1.out]
    refine hcl.mono ?_
    rintro e w2 ⟨hg2, rfl⟩
    clear hcl
    go_wp2_with fail
    go_ret2
    exact ⟨grown_trans HG1.out hg2, rfl⟩
  | some p =>
    obtain ⟨x, s'⟩ := p
    have hx := hsm x s' rfl
    clear hsm
    by_cases hle : x ≤ 1000
    · have hxi : ¬ (1000 : Int) < (x : Int) := by omega
      have HE := Lib.hid (show FT.chk (some (x, s')) = some (x, s') by simp [FT.chk, hle])
      clear hle
      go_enter Tryz.func39, Tryz.ntmps39
      go_wp2_with fail
      rw [← HW1.out]
      refine hcl.mono ?_
      rintro e w2 ⟨hg2, rfl, hs2⟩
      have HS2 := Lib.hid hs2
      clear hcl hs2
      go_wp2_with fail
      go_ret2
      exact ⟨grown_trans HG1.out hg2, by rw [HE.out]; exact ⟨rfl, HS2.out⟩⟩
    · have hxi : (1000 : Int) < (x : Int) := by omega
      have HE := Lib.hid (show FT.chk (some (x, s')) = none by simp [FT.chk, hle])
      clear hle
      go_enter Tryz.func39, Tryz.ntmps39
      go_wp2_with fail
      rw [← HW1.out]
      refine hcl.mono ?_
      rintro e w2 ⟨hg2, rfl, hs2⟩
      clear hcl hs2
      go_wp2_with fail
      go_ret2
      exact ⟨grown_trans HG1.out hg2, by rw [HE.out]; rfl⟩

theorem reck_arg (w W1 : World) (rb s b : Nat) (sv : Value) (q0 : Nat) (o : Option (Nat × Nat)) (hs : Steps w rb s) (h2 : ¬ 2000 < s + 1) (hW1 : W1 = w.setCell ⟨rb, 0, none⟩ (.int .i64 ((s : Int) + 1)))
    (c4 : W1.cell? ⟨b, 4, none⟩ = some (.func (.func 120) #[] #[ptr q0])) (hcl : Calls Tryz.prog 120 #[ptr rb, sv, ptr q0] W1 (ReckPost W1 rb o)) (hsm : ∀ v s', o = some (v, s') → v ≤ 100000) :
    Calls Tryz.prog 39 #[ptr b, ptr rb, sv] w (ReckPost w rb (FT.chk o)) := by
  have c0 : w.cell? ⟨rb, 0, none⟩ = some (.int .i64 (s : Nat)) := cell_of_heap (i := 0) hs
  have f0 : w.frozen? ⟨rb, 0, none⟩ = false := by unfold Steps at hs; simp [World.frozen?, hs]
  have hs1 : Steps W1 rb (s + 1) := by have := hs.set (s + 1); rw [hW1]; simpa using this
  have hg1 : w.grownBy W1 (some rb) := by rw [hW1]; exact grown_setx _ _ _ _
  have d0 : W1.cell? ⟨rb, 0, none⟩ = some (.int .i64 ((s : Int) + 1)) := by have := cell_of_heap (i := 0) hs1; simpa using this
  have h2' : ¬ (2000 : Int) < (s : Int) + 1 := by omega
  have hsb : s ≤ 2000 := by omega
  rw [hW1] at d0 c4
  have HW1 := Lib.hid hW1
  have HG1 := Lib.hid hg1
  clear hs hW1 hs1 hg1 h2
  cases o with
  | none =>
    clear hsm
    go_enter Tryz.func39, Tryz.ntmps39
    go_wp2_with fail
    rw [← HW1.out]
    refine hcl.mono ?_
    rintro e w2 ⟨hg2, rfl⟩
    clear hcl
    go_wp2_with fail
    go_ret2
    exact ⟨grown_trans HG1.out hg2, rfl⟩
  | some p =>
    obtain ⟨x, s'⟩ := p
    have hx := hsm x s' rfl
    clear hsm
    by_cases hle : x ≤ 1000
    · have hxi : ¬ (1000 : Int) < (x : Int) := by omega
      have HE := Lib.hid (show FT.chk (some (x, s')) = some (x, s') by simp [FT.chk, hle])
      clear hle
      go_enter Tryz.func39, Tryz.ntmps39
      go_wp2_with fail
      rw [← HW1.out]
      refine hcl.mono ?_
      rintro e w2 ⟨hg2, rfl, hs2⟩
      have HS2 := Lib.hid hs2
      clear hcl hs2
      go_wp2_with fail
      go_ret2
      exact ⟨grown_trans HG1.out hg2, by rw [HE.out]; exact ⟨rfl, HS2.out⟩⟩
    · have hxi : (1000 : Int) < (x : Int) := by omega
      have HE := Lib.hid (show FT.chk (some (x, s')) = none by simp [FT.chk, hle])
      clear hle
      go_enter Tryz.func39, Tryz.ntmps39
      go_wp2_with fail
      rw [← HW1.out]
      refine hcl.mono ?_
      rintro e w2 ⟨hg2, rfl, hs2⟩
      clear hcl hs2
      go_wp2_with fail
      go_ret2
      exact ⟨grown_trans HG1.out hg2, by rw [HE.out]; rfl⟩

theorem reck_comp (w W1 : World) (rb s b : Nat) (sv : Value) (q0 : Nat) (q1 : Nat) (o : Option (Nat × Nat)) (hs : Steps w rb s) (h2 : ¬ 2000 < s + 1) (hW1 : W1 = w.setCell ⟨rb, 0, none⟩ (.int .i64 ((s : Int) + 1)))
    (c4 : W1.cell? ⟨b, 4, none⟩ = some (.func (.func 126) #[] #[ptr q0, ptr q1])) (hcl : Calls Tryz.prog 126 #[ptr rb, sv, ptr q0, ptr q1] W1 (ReckPost W1 rb o)) (hsm : ∀ v s', o = some (v, s') → v ≤ 100000) :
    Calls Tryz.prog 39 #[ptr b, ptr rb, sv] w (ReckPost w rb (FT.chk o)) := by
  have c0 : w.cell? ⟨rb, 0, none⟩ = some (.int .i64 (s : Nat)) := cell_of_heap (i := 0) hs
  have f0 : w.frozen? ⟨rb, 0, none⟩ = false := by unfold Steps at hs; simp [World.frozen?, hs]
  have hs1 : Steps W1 rb (s + 1) := by have := hs.set (s + 1); rw [hW1]; simpa using this
  have hg1 : w.grownBy W1 (some rb) := by rw [hW1]; exact grown_setx _ _ _ _
  have d0 : W1.cell? ⟨rb, 0, none⟩ = some (.int .i64 ((s : Int) + 1)) := by have := cell_of_heap (i := 0) hs1; simpa using this
  have h2' : ¬ (2000 : Int) < (s : Int) + 1 := by omega
  have hsb : s ≤ 2000 := by omega
  rw [hW1] at d0 c4
  have HW1 := Lib.hid hW1
  have HG1 := Lib.hid hg1
  clear hs hW1 hs1 hg1 h2
  cases o with
  | none =>
    clear hsm
    go_enter Tryz.func39, Tryz.ntmps39
    go_wp2_with fail
    rw [← HW1.out]
    refine hcl.mono ?_
    rintro e w2 ⟨hg2, rfl⟩
    clear hcl
    go_wp2_with fail
    go_ret2
    exact ⟨grown_trans HG1.out hg2, rfl⟩
  | some p =>
    obtain ⟨x, s'⟩ := p
    have hx := hsm x s' rfl
    clear hsm
    by_cases hle : x ≤ 1000
    · have hxi : ¬ (1000 : Int) < (x : Int) := by omega
      have HE := Lib.hid (show FT.chk (some (x, s')) = some (x, s') by simp [FT.chk, hle])
      clear hle
      go_enter Tryz.func39, Tryz.ntmps39
      go_wp2_with fail
      rw [← HW1.out]
      refine hcl.mono ?_
      rintro e w2 ⟨hg2, rfl, hs2⟩
      have HS2 := Lib.hid hs2
      clear hcl hs2
      go_wp2_with fail
      go_ret2
      exact ⟨grown_trans HG1.out hg2, by rw [HE.out]; exact ⟨rfl, HS2.out⟩⟩
    · have hxi : (1000 : Int) < (x : Int) := by omega
      have HE := Lib.hid (show FT.chk (some (x, s')) = none by simp [FT.chk, hle])
      clear hle
      go_enter Tryz.func39, Tryz.ntmps39
      go_wp2_with fail
      rw [← HW1.out]
      refine hcl.mono ?_
      rintro e w2 ⟨hg2, rfl, hs2⟩
      clear hcl hs2
      go_wp2_with fail
      go_ret2
      exact ⟨grown_trans HG1.out hg2, by rw [HE.out]; rfl⟩

theorem reck_rec (w W1 : World) (rb s b : Nat) (sv : Value) (q0 : Nat) (q1 : Nat) (o : Option (Nat × Nat)) (hs : Steps w rb s) (h2 : ¬ 2000 < s + 1) (hW1 : W1 = w.setCell ⟨rb, 0, none⟩ (.int .i64 ((s : Int) + 1)))
    (c4 : W1.cell? ⟨b, 4, none⟩ = some (.func (.func 129) #[] #[ptr q0, ptr q1])) (hcl : Calls Tryz.prog 129 #[ptr rb, sv, ptr q0, ptr q1] W1 (ReckPost W1 rb o)) (hsm : ∀ v s', o = some (v, s') → v ≤ 100000) :
    Calls Tryz.prog 39 #[ptr b, ptr rb, sv] w (ReckPost w rb (FT.chk o)) := by
  have c0 : w.cell? ⟨rb, 0, none⟩ = some (.int .i64 (s : Nat)) := cell_of_heap (i := 0) hs
  have f0 : w.frozen? ⟨rb, 0, none⟩ = false := by unfold Steps at hs; simp [World.frozen?, hs]
  have hs1 : Steps W1 rb (s + 1) := by have := hs.set (s + 1); rw [hW1]; simpa using this
  have hg1 : w.grownBy W1 (some rb) := by rw [hW1]; exact grown_setx _ _ _ _
  have d0 : W1.cell? ⟨rb, 0, none⟩ = some (.int .i64 ((s : Int) + 1)) := by have := cell_of_heap (i := 0) hs1; simpa using this
  have h2' : ¬ (2000 : Int) < (s : Int) + 1 := by omega
  have hsb : s ≤ 2000 := by omega
  rw [hW1] at d0 c4
  have HW1 := Lib.hid hW1
  have HG1 := Lib.hid hg1
  clear hs hW1 hs1 hg1 h2
  cases o with
  | none =>
    clear hsm
    go_enter Tryz.func39, Tryz.ntmps39
    go_wp2_with fail
    rw [← HW1.out]
    refine hcl.mono ?_
    rintro e w2 ⟨hg2, rfl⟩
    clear hcl
    go_wp2_with fail
    go_ret2
    exact ⟨grown_trans HG1.out hg2, rfl⟩
  | some p =>
    obtain ⟨x, s'⟩ := p
    have hx := hsm x s' rfl
    clear hsm
    by_cases hle : x ≤ 1000
    · have hxi : ¬ (1000 : Int) < (x : Int) := by omega
      have HE := Lib.hid (show FT.chk (some (x, s')) = some (x, s') by simp [FT.chk, hle])
      clear hle
      go_enter Tryz.func39, Tryz.ntmps39
      go_wp2_with fail
      rw [← HW1.out]
      refine hcl.mono ?_
      rintro e w2 ⟨hg2, rfl, hs2⟩
      have HS2 := Lib.hid hs2
      clear hcl hs2
      go_wp2_with fail
      go_ret2
      exact ⟨grown_trans HG1.out hg2, by rw [HE.out]; exact ⟨rfl, HS2.out⟩⟩
    · have hxi : (1000 : Int) < (x : Int) := by omega
      have HE := Lib.hid (show FT.chk (some (x, s')) = none by simp [FT.chk, hle])
      clear hle
      go_enter Tryz.func39, Tryz.ntmps39
      go_wp2_with fail
      rw [← HW1.out]
      refine hcl.mono ?_
      rintro e w2 ⟨hg2, rfl, hs2⟩
      clear hcl hs2
      go_wp2_with fail
      go_ret2
      exact ⟨grown_trans HG1.out hg2, by rw [HE.out]; rfl⟩

theorem reck_sea (w W1 : World) (rb s b : Nat) (sv : Value) (q0 : Nat) (o : Option (Nat × Nat)) (hs : Steps w rb s) (h2 : ¬ 2000 < s + 1) (hW1 : W1 = w.setCell ⟨rb, 0, none⟩ (.int .i64 ((s : Int) + 1)))
    (c4 : W1.cell? ⟨b, 4, none⟩ = some (.func (.func 131) #[] #[ptr q0])) (hcl : Calls Tryz.prog 131 #[ptr rb, sv, ptr q0] W1 (ReckPost W1 rb o)) (hsm : ∀ v s', o = some (v, s') → v ≤ 100000) :
    Calls Tryz.prog 39 #[ptr b, ptr rb, sv] w (ReckPost w rb (FT.chk o)) := by
  have c0 : w.cell? ⟨rb, 0, none⟩ = some (.int .i64 (s : Nat)) := cell_of_heap (i := 0) hs
  have f0 : w.frozen? ⟨rb, 0, none⟩ = false := by unfold Steps at hs; simp [World.frozen?, hs]
  have hs1 : Steps W1 rb (s + 1) := by have := hs.set (s + 1); rw [hW1]; simpa using this
  have hg1 : w.grownBy W1 (some rb) := by rw [hW1]; exact grown_setx _ _ _ _
  have d0 : W1.cell? ⟨rb, 0, none⟩ = some (.int .i64 ((s : Int) + 1)) := by have := cell_of_heap (i := 0) hs1; simpa using this
  have h2' : ¬ (2000 : Int) < (s : Int) + 1 := by omega
  have hsb : s ≤ 2000 := by omega
  rw [hW1] at d0 c4
  have HW1 := Lib.hid hW1
  have HG1 := Lib.hid hg1
  clear hs hW1 hs1 hg1 h2
  cases o with
  | none =>
    clear hsm
    go_enter Tryz.func39, Tryz.ntmps39
    go_wp2_with fail
    rw [← HW1.out]
    refine hcl.mono ?_
    rintro e w2 ⟨hg2, rfl⟩
    clear hcl
    go_wp2_with fail
    go_ret2
    exact ⟨grown_trans HG1.out hg2, rfl⟩
  | some p =>
    obtain ⟨x, s'⟩ := p
    have hx := hsm x s' rfl
    clear hsm
    by_cases hle : x ≤ 1000
    · have hxi : ¬ (1000 : Int) < (x : Int) := by omega
      have HE := Lib.hid (show FT.chk (some (x, s')) = some (x, s') by simp [FT.chk, hle])
      clear hle
      go_enter Tryz.func39, Tryz.ntmps39
      go_wp2_with fail
      rw [← HW1.out]
      refine hcl.mono ?_
      rintro e w2 ⟨hg2, rfl, hs2⟩
      have HS2 := Lib.hid hs2
      clear hcl hs2
      go_wp2_with fail
      go_ret2
      exact ⟨grown_trans HG1.out hg2, by rw [HE.out]; exact ⟨rfl, HS2.out⟩⟩
    · have hxi : (1000 : Int) < (x : Int) := by omega
      have HE := Lib.hid (show FT.chk (some (x, s')) = none by simp [FT.chk, hle])
      clear hle
      go_enter Tryz.func39, Tryz.ntmps39
      go_wp2_with fail
      rw [← HW1.out]
      refine hcl.mono ?_
      rintro e w2 ⟨hg2, rfl, hs2⟩
      clear hcl hs2
      go_wp2_with fail
      go_ret2
      exact ⟨grown_trans HG1.out hg2, by rw [HE.out]; rfl⟩

/-! ### the closures of words -/

theorem clo_zero (w : World) (rb s : Nat) (sv : Value) (hs : Steps w rb s) : Calls Tryz.prog 117 #[ptr rb, sv] w (ReckPost w rb (some (0, s))) := by
  have HS := Lib.hid hs
  clear hs
  go_enter Tryz.func117, Tryz.ntmps117
  go_wp2_with fail
  go_ret2
  exact ⟨World.grownBy.refl _ _, rfl, HS.out⟩

theorem clo_next (w : World) (rb s x : Nat) (sv : Value) (hs : Steps w rb s) (hv : IntsV w rb sv [x]) (hx : x ≤ 10000) : Calls Tryz.prog 119 #[ptr rb, sv] w (ReckPost w rb (some (x + 1, s))) := by
  have HS := Lib.hid hs
  rcases hv with ⟨h, _⟩ | ⟨b, o, cap, rfl, hl, hne, hb, hc⟩
  · cases h
  have hc0 := hc 0 (by simp)
  rw [Nat.add_zero] at hc0
  have hc0' : w.cell? ⟨b, o, none⟩ = some (.int .i64 (x : Nat)) := hc0
  clear hs hc hc0
  simp only [List.length_singleton]
  go_enter Tryz.func119, Tryz.ntmps119
  go_wp2_with fail
  go_ret2
  refine ⟨World.grownBy.refl _ _, ?_, HS.out⟩
  rw [show ((x + 1 : Nat) : Int) = (x : Int) + 1 by omega]
  rfl

theorem clo_arg (w : World) (rb s i q : Nat) (az : List Nat) (sv : Value) (hs : Steps w rb s) (hv : IntsV w rb sv az) (hi : i < az.length) (hq : w.heap[q]? = some (.cells #[.int .i64 (i : Nat)] 3 (0, 0))) :
    Calls Tryz.prog 120 #[ptr rb, sv, ptr q] w (ReckPost w rb (some (az.getD i 0, s))) := by
  have HS := Lib.hid hs
  rcases hv with ⟨h, _⟩ | ⟨b, o, cap, rfl, hl, hne, hb, hc⟩
  · rw [h] at hi; simp at hi
  have hc0 := hc i hi
  have q0 : w.cell? ⟨q, 0, none⟩ = some (.int .i64 (i : Nat)) := cell_of_heap (i := 0) hq
  have hii : (i : Int) < (az.length : Int) := by omega
  generalize hx : az.getD i 0 = x at *
  generalize az.length = n at *
  clear hs hc hq hx
  go_enter Tryz.func120, Tryz.ntmps120
  go_wp2_with fail
  go_ret2
  exact ⟨World.grownBy.refl _ _, rfl, HS.out⟩
end Go.Proofs.YtmkmladlpgfniacGreat

namespace Go.Proofs.YtmkmladlpgfniacGreat
open Go.RowKit

set_option maxHeartbeats 2000000
set_option maxRecDepth 100000

/-- reckon does for g what it has to. -/
def RK (w0 : World) (S : Nat) (g : FT) : Prop := ∀ (w : World) (rb s : Nat) (v sv : Value) (az : List Nat), CV w0 S g v → Agree w0 w S → w0.heap.size ≤ rb → Steps w rb s → s ≤ 2000 → IntsV w rb sv az → az.length = FT.arity g → (∀ a ∈ az, a ≤ 10000) →
  Calls Tryz.prog 39 #[v, ptr rb, sv] w (ReckPost w rb (FT.ev g az s))

def evAll : List FT → List Nat → Nat → Option (List Nat × Nat)
  | [], _, s => some ([], s)
  | g :: gs, az, s => match FT.ev g az s with
    | none => none
    | some (x, s1) => match evAll gs az s1 with
      | none => none
      | some (xs, s2) => some (x :: xs, s2)

theorem evAll_append (ls bs : List FT) (az : List Nat) (s : Nat) : evAll (ls ++ bs) az s = match evAll ls az s with
    | none => none
    | some (xs, s1) => match evAll bs az s1 with
      | none => none
      | some (ys, s2) => some (xs ++ ys, s2) := by
  induction ls generalizing s with
  | nil => simp only [List.nil_append, evAll]; cases evAll bs az s with | none => rfl | some p => rfl
  | cons a ls ih =>
    simp only [List.cons_append, evAll]
    cases FT.ev a az s with
    | none => rfl
    | some p =>
      obtain ⟨x, s1⟩ := p
      simp only [ih]
      cases evAll ls az s1 with
      | none => rfl
      | some q =>
        obtain ⟨xs, s2⟩ := q
        simp only
        cases evAll bs az s2 with
        | none => rfl
        | some r => rfl

theorem evAll_none {gs : List FT} {az : List Nat} {s k : Nat} (h : evAll (gs.take k) az s = none) : evAll gs az s = none := by
  rw [← List.take_append_drop k gs, evAll_append, h]

theorem evAll_one (g : FT) (az : List Nat) (s : Nat) : evAll [g] az s = match FT.ev g az s with | none => none | some (x, s1) => some ([x], s1) := by
  simp only [evAll]

theorem evAll_facts : ∀ {gs : List FT} {az : List Nat} {s : Nat} {xs : List Nat} {s' : Nat}, evAll gs az s = some (xs, s') → xs.length = gs.length ∧ (∀ x ∈ xs, x ≤ 1000) ∧ (s ≤ 2000 → s' ≤ 2000)
  | [], _, _, _, _, h => by simp only [evAll, Option.some.injEq, Prod.mk.injEq] at h; obtain ⟨rfl, rfl⟩ := h; exact ⟨rfl, by simp, id⟩
  | g :: gs, az, s, xs, s', h => by
    simp only [evAll] at h
    cases hg : FT.ev g az s with
    | none => rw [hg] at h; simp at h
    | some p =>
      obtain ⟨x, s1⟩ := p
      rw [hg] at h
      simp only at h
      have h1 := (FT.ev_runs g az s).small _ _ hg
      cases hs : evAll gs az s1 with
      | none => rw [hs] at h; simp at h
      | some q =>
        obtain ⟨ys, s2⟩ := q
        rw [hs] at h
        simp only [Option.some.injEq, Prod.mk.injEq] at h
        obtain ⟨rfl, rfl⟩ := h
        obtain ⟨h2, h3, h4⟩ := evAll_facts hs
        refine ⟨by simp [h2], ?_, fun _ => h4 h1.2.2⟩
        intro y hy
        rcases List.mem_cons.1 hy with rfl | hy
        · exact h1.1
        · exact h3 y hy

def AllPost (w : World) (rb : Nat) (o : Option (List Nat × Nat)) (e : Ending) (w' : World) : Prop :=
  w.grownBy w' (some rb) ∧ match o with
    | none => e = .returned (.tuple #[.slice none 0 0, .bool false])
    | some (xs, s) => ∃ sv, e = .returned (.tuple #[sv, .bool true]) ∧ IntsV w' rb sv xs ∧ Steps w' rb s

def intL (xs : List Nat) : List Value := xs.map fun x => Value.int .i64 (x : Nat)

theorem ints_own {w : World} {base rb n : Nat} {v : Value} {vs : List Value} (xs : List Nat) (hn : n = xs.length) (hvs : vs = intL xs) (h : w.ownsRow base 3 1 v n vs) (hb : rb < base) : IntsV w rb v xs := by
  subst hn
  subst hvs
  rcases h.2 with ⟨h1, h2⟩ | ⟨g, cap, cur, h1, hg, hh, hle, _⟩
  · exact Or.inl ⟨List.length_eq_zero_iff.1 h2, none, 0, h1⟩
  · refine Or.inr ⟨g, 0, cap, h1, hle, by omega, (Array.getElem?_eq_some_iff.1 hh).1, fun j hj => ?_⟩
    rw [Nat.zero_add, World.ownsRow.cellAt (h1 ▸ h) j (by omega)]
    simp [intL, List.getElem?_map, List.getElem?_eq_getElem hj]

/-- Parts of a compiled function text, where they lie. -/
def PartsU (w : World) (B : Nat) (sv : Value) (ps : List FT) : Prop :=
  ∃ s o cap cs T fr, sv = .slice (some ⟨s, o, none⟩) ps.length cap ∧ B ≤ s ∧ w.heap[s]? = some (.cells cs T fr) ∧ ∀ j (h : j < ps.length), ∃ v, cs[o + j]? = some v ∧ CV w B ps[j] v

theorem PartsU.form {w : World} {B : Nat} {sv : Value} {ps : List FT} (h : PartsU w B sv ps) : ∃ ao cap, sv = .slice ao ps.length cap := by
  obtain ⟨s, o, cap, _, _, _, hv, _⟩ := h
  exact ⟨_, _, hv⟩

theorem PartsU.agree {w0 w : World} {S : Nat} {sl : Value} {ps : List FT} (h : PartsU w0 S sl ps) (hA : Agree w0 w S) (j : Nat) (hj : j < ps.length) : ∃ s o cap v, sl = .slice (some ⟨s, o, none⟩) ps.length cap ∧ w.cell? ⟨s, o + j, none⟩ = some v ∧ CV w0 S ps[j] v := by
  obtain ⟨s, o, cap, cs, T, fr, hv, hs, hh, hc⟩ := h
  obtain ⟨v, h1, h2⟩ := hc j hj
  exact ⟨s, o, cap, v, hv, by rw [cell_of_heap (hA.heap hs hh)]; exact h1, h2⟩

theorem reckAll_any (w0 : World) (S : Nat) (gs : List FT) (sl : Value) (hP : PartsU w0 S sl gs) (hn : gs.length ≤ 10) (ih : ∀ g ∈ gs, RK w0 S g) (w : World) (rb s : Nat) (sv : Value) (az : List Nat) (hA : Agree w0 w S) (hr : w0.heap.size ≤ rb) (hs : Steps w rb s) (hs2 : s ≤ 2000)
    (hv : IntsV w rb sv az) (har : ∀ g ∈ gs, az.length = FT.arity g) (haz : ∀ a ∈ az, a ≤ 10000) :
    Calls Tryz.prog 127 #[sl, ptr rb, sv] w (AllPost w rb (evAll gs az s)) := by
  obtain ⟨ao, cap, rfl⟩ := hP.form
  obtain ⟨N, hN⟩ : ∃ N, N = gs.length := ⟨_, rfl⟩
  obtain ⟨R, hR⟩ : ∃ R, R = evAll gs az s := ⟨_, rfl⟩
  obtain ⟨base, hbase⟩ : ∃ base, base = w.heap.size := ⟨_, rfl⟩
  have hrb : rb < base := by rw [hbase]; exact (Array.getElem?_eq_some_iff.1 hs).1
  rw [← hR]
  rw [← hN] at hn ⊢
  have HBS := Lib.hid hbase
  have HN := Lib.hid hN
  have HR := Lib.hid hR
  have HP := Lib.hid hP
  have HIH := Lib.hid ih
  have HA := Lib.hid hA
  have HS := Lib.hid hs
  have HV := Lib.hid hv
  have HAR := Lib.hid har
  have HAZ := Lib.hid haz
  have hrbN : ¬ rb = base := by omega
  clear hR hN hP ih hA hs hv har haz hbase
  go_enter Tryz.func127, Tryz.ntmps127
  go_wp2_with fail
  go_loopw [8, 15] (fun vs i wr => ∃ (k : Nat) (xs : List Nat) (sk : Nat), i = .int .i64 k ∧ k ≤ N ∧ Hid (evAll (gs.take k) az s = some (xs, sk)) ∧ Hid (wr.ownsRow base 3 1 vs k (intL xs)) ∧ Hid (Steps wr rb sk) ∧ Hid (w.grownBy wr (some rb))) (fun _ i _ => N - (intOf i).toNat)
  case atStart => exact ⟨0, [], s, rfl, Nat.zero_le _, rfl, World.ownsRow_nil _ _ _ _, HS.out, World.grownBy.refl _ _⟩
  case round =>
    obtain ⟨k, xs, sk, rfl, hk, HE, HO, HST, HG⟩ := hrel
    obtain ⟨hxl, hx1, hsk⟩ := evAll_facts HE.out
    obtain ⟨bo, bc, rfl⟩ := o_slice_len HO.out
    have hsk2 := hsk hs2
    by_cases hlt : k < N
    · have hkl : k < gs.length := by rw [← HN.out]; exact hlt
      obtain ⟨b, o, cap', vk, hsv, hck, hcv⟩ := HP.out.agree (HA.out.grown HG.out hr) k hkl
      injection hsv with e1 e2 e3
      subst e1
      clear e2 e3
      have hcall := HIH.out gs[k] (List.getElem_mem hkl) wr rb sk vk sv az hcv (HA.out.grown HG.out hr) hr HST.out hsk2 (HV.out.grown HG.out) (HAR.out _ (List.getElem_mem hkl)) HAZ.out
      have hnext : evAll (gs.take (k + 1)) az s = match FT.ev gs[k] az sk with | none => none | some (x, s2) => some (xs ++ [x], s2) := by
        rw [List.take_succ_eq_append_getElem hkl, evAll_append, HE.out]
        simp only [evAll_one]
        cases FT.ev gs[k] az sk with
        | none => rfl
        | some p => rfl
      cases hev : FT.ev gs[k] az sk with
      | none =>
        rw [hev] at hcall hnext
        have HF := Lib.hid (show R = none by rw [HR.out]; exact evAll_none hnext)
        clear hnext hev hcv hx1 hsk
        go_wp2_with fail
        refine hcall.mono ?_
        rintro e w1 ⟨hg1, rfl⟩
        have HG1 := Lib.hid hg1
        clear hcall hg1
        go_wp2_with fail
        go_ret2
        exact ⟨grown_trans HG.out HG1.out, by rw [HF.out]; rfl⟩
      | some p =>
        obtain ⟨x, s1⟩ := p
        have hxv := (FT.ev_runs gs[k] az sk).small _ _ hev
        rw [hev] at hcall hnext
        have HX := Lib.hid hnext
        clear hnext hev hcv hx1 hsk
        go_wp2_with fail
        refine hcall.mono ?_
        rintro e w1 ⟨hg1, rfl, hs1⟩
        have hg0 := grown_trans HG.out hg1
        have hO1 : w1.ownsRow base 3 1 (.slice bo k bc) k (intL xs) := HO.out.kept hg1 (by
          cases hv : (Value.slice bo k bc).ownBlock with
          | none => exact Or.inl rfl
          | some g => exact Or.inr (fun e => by injection e with e; have := (HO.out.lt g hv).1; omega))
        obtain ⟨i0, hi0, hz0, hz1, hz2⟩ : ∃ i, (Tryz.prog).info? 3 = some i ∧ i.zero = some (.int .i64 0) ∧ i.size = 1 ∧ i.bytes = 8 := ⟨_, rfl, rfl, rfl, rfl⟩
        have hun : Tryz.prog.underlying 22 = some (.slice 3) := by kernel_rfl
        have hown := World.ownsRow.alloc hO1 (.cells #[.int .i64 (x : Nat)] 3)
        have hnew : ∀ j u, [Value.int .i64 (x : Nat)][j]? = some u → (w1.alloc (.cells #[.int .i64 (x : Nat)] 3)).cell? ((⟨w1.heap.size, 0, none⟩ : Addr).add j) = some u := fun j u h => by
          match j with
          | 0 =>
            simp at h
            subst h
            rw [show ((⟨w1.heap.size, 0, none⟩ : Addr).add 0) = ⟨w1.heap.size, 0, none⟩ from rfl, cell_of_heap (heap_top w1 (.cells #[.int .i64 (x : Nat)] 3))]
            rfl
          | j + 1 => simp at h
        have hone : ∀ u ∈ [Value.int .i64 (x : Nat)], u.oneCell' = true := by simp [Value.oneCell']
        have hmax : k + 1 ≤ maxLen := by unfold maxLen; omega
        have hm8 : (k + 1) * 8 ≤ 140737488355328 := by omega
        have hb1 : base ≤ w1.heap.size := by rw [HBS.out]; exact hg0.size
        have hsz : base ≤ (w1.alloc (.cells #[.int .i64 (x : Nat)] 3)).heap.size := by simp; omega
        have HG0 := Lib.hid hg0
        have HS1 := Lib.hid hs1
        clear hcall hg1 hs1 hO1 hg0
        go_wp2_with (at_builtin; refine wpList_append_own _ rfl _ _ 22 rfl base 3 i0 (.int .i64 0) 1 8 hun hi0 hz0 hz1 hz2 rfl (by decide) _ _ _ rfl hown ⟨w1.heap.size, 0, none⟩ 1 1 [.int .i64 (x : Nat)] rfl rfl hnew hone hmax hm8 hsz ?_; intro v2 w2 ho2 hg2 hiff; clear hiff; obtain ⟨co, cn, cc, rfl⟩ := o_slice ho2; have HO2 := Lib.hid ho2; have HG2 := Lib.hid hg2; clear ho2 hg2)
        go_roundw
        case measure => simp [intOf]; omega
        case rel =>
          have hlow : ∀ g, (Value.slice bo k bc).ownBlock = some g → base ≤ g := fun g hg => (hown.lt g hg).1
          have hg02 : w.grownBy w2 (some rb) := by
            have h45 := HG0.out
            refine ⟨HG2.out.os.trans h45.os, HG2.out.tape.trans h45.tape, HG2.out.output.trans h45.output, by have := HG2.out.size; have := h45.size; simp at *; omega, fun q hq hne => ?_⟩
            have h45s := h45.size
            rw [HG2.out.block q (by simp; omega) (fun e => by have := hlow q e.symm; have := HBS.out; omega)]
            rw [(below_new w1 _).block q (by omega)]
            exact h45.block q hq hne
          refine ⟨k + 1, xs ++ [x], s1, by go_num, by omega, HX.out, (by show World.ownsRow _ _ _ _ _ _ _; simpa [intL] using HO2.out), ?_, hg02⟩
          have h6 := HG2.out.block rb (by have := (Array.getElem?_eq_some_iff.1 HS1.out).1; simp; omega) (fun e => by have := hlow rb e.symm; omega)
          have h7 := (below_new w1 (.cells #[.int .i64 (x : Nat)] 3)).block rb (Array.getElem?_eq_some_iff.1 HS1.out).1
          exact (h6.trans h7).trans HS1.out
    · obtain rfl : k = N := by omega
      have HF := Lib.hid (show R = some (xs, sk) by rw [HR.out, ← HE.out, HN.out, List.take_length])
      have hkx : k = xs.length := by have := HO.out.1; simp [intL] at this; omega
      have HK := Lib.hid hkx
      clear hkx hx1 hsk
      go_wp2_with fail
      go_ret2
      exact ⟨HG.out, by rw [HF.out]; exact ⟨_, rfl, ints_own xs HK.out rfl HO.out hrb, HST.out⟩⟩
end Go.Proofs.YtmkmladlpgfniacGreat

namespace Go.Proofs.YtmkmladlpgfniacGreat
open Go.RowKit

set_option maxHeartbeats 2000000
set_option maxRecDepth 100000

def evComp (f : FT) (gs : List FT) (az : List Nat) (s : Nat) : Option (Nat × Nat) := match evAll gs az s with
  | none => none
  | some (xs, s1) => FT.ev f xs s1

theorem clo_comp (w0 : World) (S : Nat) (f : FT) (gs : List FT) (sl pf : Value) (q1 q2 : Nat) (hP : PartsU w0 S sl gs) (hf : CV w0 S f pf) (h1 : w0.heap[q1]? = some (.cells #[sl] 138 (0, 0))) (b1 : S ≤ q1) (h2 : w0.heap[q2]? = some (.cells #[pf] 51 (0, 0))) (b2 : S ≤ q2)
    (hn : gs.length ≤ 10) (ihf : RK w0 S f) (ih : ∀ g ∈ gs, RK w0 S g) (hfl : FT.arity f = gs.length) (w : World) (rb s : Nat) (sv : Value) (az : List Nat) (hA : Agree w0 w S) (hr : w0.heap.size ≤ rb) (hs : Steps w rb s) (hs2 : s ≤ 2000)
    (hv : IntsV w rb sv az) (har : ∀ g ∈ gs, az.length = FT.arity g) (haz : ∀ a ∈ az, a ≤ 10000) :
    Calls Tryz.prog 126 #[ptr rb, sv, ptr q1, ptr q2] w (ReckPost w rb (evComp f gs az s)) := by
  have k1 := reckAll_any w0 S gs sl hP hn ih w rb s sv az hA hr hs hs2 hv har haz
  have c1 : w.cell? ⟨q1, 0, none⟩ = some sl := cell_of_heap (i := 0) (hA.heap b1 h1)
  have c2 : ∀ w', w.grownBy w' (some rb) → w'.cell? ⟨q2, 0, none⟩ = some pf := fun w' hg => cell_of_heap (i := 0) ((hA.grown hg hr).heap b2 h2)
  obtain ⟨ao, cap, rfl⟩ := hP.form
  obtain ⟨bo, bc, rfl⟩ := hv.form
  obtain ⟨bf, Tf, xf, vf, rfl, _⟩ := hf.fields
  have HF := Lib.hid hf
  have HIF := Lib.hid ihf
  have HA := Lib.hid hA
  have HFL := Lib.hid hfl
  clear hP hf h1 h2 ih ihf hA hv hs
  cases he : evAll gs az s with
  | none =>
    have HE := Lib.hid (show evComp f gs az s = none by simp [evComp, he])
    rw [he] at k1
    clear he c2
    generalize gs.length = n at *
    generalize az.length = m at *
    go_enter Tryz.func126, Tryz.ntmps126
    go_wp2_with fail
    refine k1.mono ?_
    rintro e w1 ⟨hg1, rfl⟩
    clear k1
    go_wp2_with fail
    go_ret2
    exact ⟨hg1, by rw [HE.out]; rfl⟩
  | some p =>
    obtain ⟨xs, s1⟩ := p
    obtain ⟨hxl, hx1, hss⟩ := evAll_facts he
    have hs1 := hss hs2
    have HE := Lib.hid (show evComp f gs az s = FT.ev f xs s1 by simp [evComp, he])
    rw [he] at k1
    have HXL := Lib.hid hxl
    have HX1 := Lib.hid hx1
    clear he hxl hx1 hss
    generalize hng : gs.length = n at *
    generalize az.length = m at *
    go_enter Tryz.func126, Tryz.ntmps126
    go_wp2_with fail
    refine k1.mono ?_
    rintro e w1 ⟨hg1, sv1, rfl, hv1, hst1⟩
    obtain ⟨co, cc, rfl⟩ := hv1.form
    have c2' := c2 w1 hg1
    have k2 := HIF.out w1 rb s1 _ _ xs HF.out (HA.out.grown hg1 hr) hr hst1 hs1 hv1 (by rw [HFL.out, HXL.out]) (fun a ha => Nat.le_trans (HX1.out a ha) (by omega))
    clear k1 c2 hv1 hst1
    generalize xs.length = xl at *
    go_wp2_with fail
    refine k2.mono ?_
    rintro e w2 ⟨hg2, hp2⟩
    cases hev : FT.ev f xs s1 with
    | none =>
      have HEV := Lib.hid (HE.out.trans hev)
      rw [hev] at hp2
      simp only at hp2
      subst hp2
      go_wp2_with fail
      go_ret2
      exact ⟨grown_trans hg1 hg2, by rw [HEV.out]; rfl⟩
    | some r =>
      obtain ⟨x, s2⟩ := r
      have HEV := Lib.hid (HE.out.trans hev)
      rw [hev] at hp2
      obtain ⟨rfl, hst2⟩ := hp2
      have HS2 := Lib.hid hst2
      clear hst2
      go_wp2_with fail
      go_ret2
      exact ⟨grown_trans hg1 hg2, by rw [HEV.out]; exact ⟨rfl, HS2.out⟩⟩
end Go.Proofs.YtmkmladlpgfniacGreat

namespace Go.Proofs.YtmkmladlpgfniacGreat
open Go.RowKit

set_option maxHeartbeats 2000000
set_option maxRecDepth 100000

/-- Behind wr, but for block rb. -/
def GB (wr : World) (rb : Nat) (W : World) : Prop := wr.grownBy W (some rb)
theorem GB.refl (w : World) (rb : Nat) : GB w rb w := World.grownBy.refl _ _
theorem GB.drew {w W : World} {rb : Nat} (h : GB w rb W) : GB w rb W.drew := ⟨h.os, h.tape, h.output, h.size, h.block⟩
theorem GB.alloc {w W : World} {rb : Nat} (h : GB w rb W) (o : Obj) : GB w rb (W.alloc o) := grown_trans h (grown_alloc W rb o)
theorem GB.after {w W : World} (h : After w W) (rb : Nat) : GB w rb W := after_grown rb h
theorem GB.trans {w W W' : World} {rb : Nat} (h : GB w rb W) (g : GB W rb W') : GB w rb W' := grown_trans h g

theorem row_call {w0 : World} {S : Nat} {f : FT} {pf : Value} (ih : RK w0 S f) (hf : CV w0 S f pf) (wr : World) (rb s : Nat) (hA : Agree w0 wr S) (hr : w0.heap.size ≤ rb) (hs : Steps wr rb s) (hs2 : s ≤ 2000) (xs : List Nat) (hl : xs.length = FT.arity f) (hx : ∀ a ∈ xs, a ≤ 10000)
    (W : World) (v : Value) (n : Nat) (vs : List Value) (hn : n = xs.length) (hvs : vs = intL xs) (ho : W.ownsRow wr.heap.size 3 1 v n vs) (ha : After wr W) : Calls Tryz.prog 39 #[pf, ptr rb, v] W (ReckPost W rb (FT.ev f xs s)) := by
  have hrb : rb < wr.heap.size := (Array.getElem?_eq_some_iff.1 hs).1
  exact ih W rb s pf v xs hf (hA.after ha) hr (hs.after ha) hs2 (ints_own xs hn hvs ho hrb) hl hx

theorem src_ints {w W : World} {rb : Nat} {sv : Value} {az : List Nat} (h : IntsV w rb sv az) (ha : After w W) : SrcOk W sv (intL az) := by
  rcases h with ⟨rfl, ao, cap, rfl⟩ | ⟨b, o, cap, rfl, hl, hne, hb, hc⟩
  · exact Or.inl ⟨rfl, ao, cap, rfl⟩
  · by_cases h0 : az.length = 0
    · exact Or.inl ⟨by rw [List.length_eq_zero_iff.1 h0]; rfl, _, _, by rw [h0]⟩
    · refine Or.inr ⟨_, _, _, rfl, by omega, by simp [intL], fun j u hu => ?_⟩
      have hj : j < az.length := by have := (List.getElem?_eq_some_iff.1 hu).1; simpa [intL] using this
      rw [add_plain', ha.cell (hc j hj)]
      simp [intL, List.getElem?_map, List.getElem?_eq_getElem hj] at hu
      simp [← hu, List.getD_eq_getElem?_getD, List.getElem?_eq_getElem hj]

theorem one_ints (az : List Nat) : ∀ u ∈ intL az, u.oneCell' = true := fun u hu => by obtain ⟨x, _, rfl⟩ := List.mem_map.1 hu; rfl

theorem owns_two (W : World) (v u : Value) (T : TypeId) : (W.alloc (.cells #[v, u] T)).ownsRow W.heap.size T 1 (.slice (some ⟨W.heap.size, 0, none⟩) 2 2) 2 [v, u] := by
  refine ⟨rfl, Or.inr ⟨W.heap.size, 2, #[v, u], rfl, Nat.le_refl _, ?_, Nat.le_refl _, by unfold maxLen; omega, rfl, rfl⟩⟩
  show (W.heap.push _)[_]? = _
  simp

theorem loopM_step (f : FT) (az : List Nat) (k s : Nat) (hk : k ≤ 2000) : FT.loopM (FT.ev f) az (2001 - k) k s = match FT.ev f (k :: az) s with
    | none => none
    | some (v, s') => if v = 0 then some (k, s') else FT.loopM (FT.ev f) az (2001 - (k + 1)) (k + 1) s' := by
  rw [show 2001 - k = (2001 - (k + 1)) + 1 by omega]
  rfl

theorem clo_sea (w0 : World) (S : Nat) (f : FT) (pf : Value) (q1 : Nat) (hf : CV w0 S f pf) (h1 : w0.heap[q1]? = some (.cells #[pf] 51 (0, 0))) (b1 : S ≤ q1) (ihf : RK w0 S f) (h0 : 0 < FT.arity f) (h3 : FT.arity f ≤ 3)
    (w : World) (rb s : Nat) (sv : Value) (az : List Nat) (hA : Agree w0 w S) (hr : w0.heap.size ≤ rb) (hs : Steps w rb s) (hs2 : s ≤ 2000) (hv : IntsV w rb sv az) (hl : az.length = FT.arity (.m f)) (ha : ∀ a ∈ az, a ≤ 10000) :
    Calls Tryz.prog 131 #[ptr rb, sv, ptr q1] w (ReckPost w rb (FT.loopM (FT.ev f) az 2001 0 s)) := by
  have c1 : ∀ w', GB w rb w' → w'.cell? ⟨q1, 0, none⟩ = some pf := fun w' hg => cell_of_heap (i := 0) ((hA.grown hg hr).heap b1 h1)
  obtain ⟨ao, cap, rfl⟩ := hv.form
  obtain ⟨bf, Tf, xf, vf, rfl, _⟩ := hf.fields
  obtain ⟨R, hR⟩ : ∃ R, R = FT.loopM (FT.ev f) az 2001 0 s := ⟨_, rfl⟩
  rw [← hR]
  have hlf : az.length + 1 = FT.arity f := by simp only [FT.arity] at hl; omega
  obtain ⟨m, hm⟩ : ∃ m, m = az.length := ⟨_, rfl⟩
  rw [← hm] at hlf ⊢
  have hm2 : m ≤ 2 := by omega
  have hv' : IntsV w rb (.slice ao m cap) az := by rw [hm]; exact hv
  have hun : Tryz.prog.underlying 22 = some (.slice 3) := by kernel_rfl
  obtain ⟨i0, hi0, hz0, hz1, hz2⟩ : ∃ i, (Tryz.prog).info? 3 = some i ∧ i.zero = some (.int .i64 0) ∧ i.size = 1 ∧ i.bytes = 8 := ⟨_, rfl, rfl, rfl, rfl⟩
  have hone := one_ints az
  have hnl : (intL az).length = m := by simp [intL, hm]
  have HM := Lib.hid hm
  have HLF := Lib.hid hlf
  have HR := Lib.hid hR
  have HF := Lib.hid hf
  have HIF := Lib.hid ihf
  have HA := Lib.hid hA
  have HV := Lib.hid hv'
  have HS := Lib.hid hs
  have HAZ := Lib.hid ha
  have HC := Lib.hid c1
  have HONE := Lib.hid hone
  have HNL := Lib.hid hnl
  clear hR hf ihf hA hv hv' hs ha hl h1 c1 hm hlf hone hnl
  go_enter Tryz.func131, Tryz.ntmps131
  go_wp2_with fail
  go_loopw [7] (fun n wr => ∃ (k sk : Nat), n = .int .i64 k ∧ k ≤ sk ∧ sk ≤ 2000 ∧ Hid (R = FT.loopM (FT.ev f) az (2001 - k) k sk) ∧ Hid (Steps wr rb sk) ∧ Hid (w.grownBy wr (some rb))) (fun n _ => 2001 - (intOf n).toNat)
  case atStart => exact ⟨0, s, rfl, by omega, hs2, HR.out, HS.out, World.grownBy.refl _ _⟩
  case round =>
    obtain ⟨k, sk, rfl, hks, hsk, HE, HST, HG⟩ := hrel
    have hself := GB.refl wr rb
    have c1 : ∀ W, GB wr rb W → W.cell? ⟨q1, 0, none⟩ = some (ptr bf) := fun W hW => HC.out W (GB.trans HG.out hW)
    have hcall := row_call HIF.out HF.out wr rb sk (HA.out.grown HG.out hr) hr HST.out hsk (k :: az) (by rw [List.length_cons, ← HM.out]; exact HLF.out) (fun a h => by
      rcases List.mem_cons.1 h with rfl | h
      · omega
      · exact HAZ.out a h)
    have hwr : After wr ((wr.alloc (.cells #[.int .i64 (k : Nat)] 3)).drew) := After.drew (After.new _ _)
    have hsrc := src_ints (HV.out.grown HG.out) hwr
    have hl2 : 1 + m = (k :: az).length := by rw [List.length_cons, ← HM.out]; omega
    have hl3 : [Value.int .i64 (k : Nat)] ++ intL az = intL (k :: az) := rfl
    have hstep := loopM_step f az k sk (by omega)
    have HSRC := Lib.hid hsrc
    have HL2 := Lib.hid hl2
    have HL3 := Lib.hid hl3
    have hsz : wr.heap.size ≤ ((wr.alloc (.cells #[.int .i64 (k : Nat)] 3)).drew).heap.size := hwr.size
    have hmax : 1 + (intL az).length ≤ maxLen := by rw [HNL.out]; unfold maxLen; omega
    have hm8 : (1 + (intL az).length) * 8 ≤ 140737488355328 := by rw [HNL.out]; omega
    have HMAX := Lib.hid hmax
    have HM8 := Lib.hid hm8
    have hruns := FT.ev_runs f (k :: az) sk
    cases hev : FT.ev f (k :: az) sk with
    | none =>
      rw [hev] at hcall hstep
      have HCALL := Lib.hid hcall
      have HN := Lib.hid (show R = none from HE.out.trans hstep)
      clear hcall hsrc hl2 hl3 hstep hmax hm8 hev hruns
      go_wp2_with fail
      go_region_held3 (fun W' => GB wr rb W') (first | assumption | exact hself.drew | exact GB.drew (by assumption) | exact GB.alloc (by assumption) _ | exact GB.drew (GB.alloc (by assumption) _))
        (first
          | (refine step_app _ (by rfl) _ _ 22 (by rfl) wr.heap.size 3 i0 (.int .i64 0) 8 hun hi0 hz0 hz1 hz2 rfl _ 1 [.int .i64 (k : Nat)] (by rfl) ((owns_built wr (.int .i64 (k : Nat)) _).drew) _ (intL az) (by rfl) HSRC.out HONE.out HMAX.out HM8.out hsz ?_; intro v2 w2 ho2 hg2; obtain ⟨co, cn, cc, rfl⟩ := o_slice ho2; have ha2 := after_own2 (undrew hg2); have HA2 := Lib.hid ha2; have HO2 := Lib.hid ho2; have hb2 : GB wr rb w2 := GB.after ha2 rb; clear ho2 hg2 ha2)
          | (go_at_call 39; refine (HCALL.out _ _ _ _ (by rw [HNL.out]; exact HL2.out) HL3.out HO2.out HA2.out).mono ?_; rintro e w3 ⟨hg3, rfl⟩; have hb3 : GB wr rb w3 := GB.trans hb2 hg3))
      all_goals
        go_wp2_with fail
        go_ret2
        exact ⟨GB.trans HG.out hb3, by rw [HN.out]; rfl⟩
    | some p =>
      obtain ⟨x, s'⟩ := p
      have hx := hruns.small _ _ hev
      rw [hev] at hcall hstep
      have HCALL := Lib.hid hcall
      by_cases hx0 : x = 0
      · subst hx0
        have HN := Lib.hid (show R = some (k, s') from HE.out.trans hstep)
        clear hcall hsrc hl2 hl3 hstep hmax hm8 hev hruns hx
        go_wp2_with fail
        go_region_held3 (fun W' => GB wr rb W') (first | assumption | exact hself.drew | exact GB.drew (by assumption) | exact GB.alloc (by assumption) _ | exact GB.drew (GB.alloc (by assumption) _))
          (first
            | (refine step_app _ (by rfl) _ _ 22 (by rfl) wr.heap.size 3 i0 (.int .i64 0) 8 hun hi0 hz0 hz1 hz2 rfl _ 1 [.int .i64 (k : Nat)] (by rfl) ((owns_built wr (.int .i64 (k : Nat)) _).drew) _ (intL az) (by rfl) HSRC.out HONE.out HMAX.out HM8.out hsz ?_; intro v2 w2 ho2 hg2; obtain ⟨co, cn, cc, rfl⟩ := o_slice ho2; have ha2 := after_own2 (undrew hg2); have HA2 := Lib.hid ha2; have HO2 := Lib.hid ho2; have hb2 : GB wr rb w2 := GB.after ha2 rb; clear ho2 hg2 ha2)
            | (go_at_call 39; refine (HCALL.out _ _ _ _ (by rw [HNL.out]; exact HL2.out) HL3.out HO2.out HA2.out).mono ?_; rintro e w3 ⟨hg3, rfl, hs3⟩; have hb3 : GB wr rb w3 := GB.trans hb2 hg3; have HS3 := Lib.hid hs3; clear hs3))
        all_goals
          go_wp2_with fail
          go_ret2
          exact ⟨GB.trans HG.out hb3, by rw [HN.out]; exact ⟨rfl, HS3.out⟩⟩
      · have HN := Lib.hid (show R = FT.loopM (FT.ev f) az (2001 - (k + 1)) (k + 1) s' from (HE.out.trans hstep).trans (if_neg hx0))
        have hxi : ((x : Int) == 0) = false := by rw [beq_eq_false_iff_ne]; omega
        clear hcall hsrc hl2 hl3 hstep hmax hm8 hev hruns
        go_wp2_with fail
        go_region_held3 (fun W' => GB wr rb W') (first | assumption | exact hself.drew | exact GB.drew (by assumption) | exact GB.alloc (by assumption) _ | exact GB.drew (GB.alloc (by assumption) _))
          (first
            | (refine step_app _ (by rfl) _ _ 22 (by rfl) wr.heap.size 3 i0 (.int .i64 0) 8 hun hi0 hz0 hz1 hz2 rfl _ 1 [.int .i64 (k : Nat)] (by rfl) ((owns_built wr (.int .i64 (k : Nat)) _).drew) _ (intL az) (by rfl) HSRC.out HONE.out HMAX.out HM8.out hsz ?_; intro v2 w2 ho2 hg2; obtain ⟨co, cn, cc, rfl⟩ := o_slice ho2; have ha2 := after_own2 (undrew hg2); have HA2 := Lib.hid ha2; have HO2 := Lib.hid ho2; have hb2 : GB wr rb w2 := GB.after ha2 rb; clear ho2 hg2 ha2)
            | (go_at_call 39; refine (HCALL.out _ _ _ _ (by rw [HNL.out]; exact HL2.out) HL3.out HO2.out HA2.out).mono ?_; rintro e w3 ⟨hg3, rfl, hs3⟩; have hb3 : GB wr rb w3 := GB.trans hb2 hg3; have HS3 := Lib.hid hs3; clear hs3))
        all_goals
          go_wp2_with fail
          go_roundw
          case rel => exact ⟨k + 1, s', by go_num, by omega, by omega, HN.out, HS3.out, GB.trans HG.out hb3⟩
          case measure => simp [intOf]; omega
end Go.Proofs.YtmkmladlpgfniacGreat

namespace Go.Proofs.YtmkmladlpgfniacGreat
open Go.RowKit

set_option maxHeartbeats 2000000
set_option maxRecDepth 100000

def evRec (f g : FT) (az : List Nat) (s : Nat) : Option (Nat × Nat) := match FT.ev f az.tail s with
  | none => none
  | some (v, s1) => FT.loopR (FT.ev g) az.tail (az.headD 0) 0 v s1

theorem evRec_small {f g : FT} {az : List Nat} {s : Nat} : ∀ v s', evRec f g az s = some (v, s') → v ≤ 100000 := by
  intro v s' h
  unfold evRec at h
  cases he : FT.ev f az.tail s with
  | none => rw [he] at h; simp at h
  | some p =>
    obtain ⟨x, s1⟩ := p
    rw [he] at h
    have h1 := (FT.ev_runs f az.tail s).small _ _ he
    have := (FT.loopR_facts (FT.ev_runs g) az.tail _ _ _ _ _ _ h1.1 h1.2.2 h).1
    omega

theorem loopR_step (g : FT) (rest : List Nat) (n0 k v s : Nat) (hk : k < n0) : FT.loopR (FT.ev g) rest (n0 - k) k v s = match FT.ev g (k :: v :: rest) s with
    | none => none
    | some (v', s') => FT.loopR (FT.ev g) rest (n0 - (k + 1)) (k + 1) v' s' := by
  rw [show n0 - k = (n0 - (k + 1)) + 1 by omega]
  rfl

/-- What lies behind the first number. -/
theorem IntsV.rest {w : World} {rb b o n cap x : Nat} {rest : List Nat} (h : IntsV w rb (.slice (some ⟨b, o, none⟩) n cap) (x :: rest)) : IntsV w rb (.slice (some ⟨b, o + 1, none⟩) rest.length (cap - 1)) rest := by
  rcases h with ⟨h, _⟩ | ⟨b', o', cap', hv, hl, hne, hb, hc⟩
  · cases h
  · injection hv with e1 e2 e3
    injection e1 with e1
    injection e1 with e1 e4
    subst e1
    subst e4
    subst e3
    refine Or.inr ⟨b, o + 1, cap - 1, rfl, by simp at hl; omega, hne, hb, fun j hj => ?_⟩
    have := hc (j + 1) (by simp; omega)
    rw [show o + 1 + j = o + (j + 1) by omega, this]
    rfl

theorem clo_rec_at (w0 : World) (S : Nat) (f g : FT) (pf pg : Value) (q1 q2 : Nat) (hf : CV w0 S f pf) (hg : CV w0 S g pg) (h1 : w0.heap[q1]? = some (.cells #[pf] 51 (0, 0))) (b1 : S ≤ q1) (h2 : w0.heap[q2]? = some (.cells #[pg] 51 (0, 0))) (b2 : S ≤ q2)
    (ihf : RK w0 S f) (ihg : RK w0 S g) (hgf : FT.arity g = FT.arity f + 2) (h3 : FT.arity g ≤ 3)
    (w : World) (rb s : Nat) (b o cap n0 : Nat) (rest : List Nat) (sv2 : Value) (hA : Agree w0 w S) (hr : w0.heap.size ≤ rb) (hs : Steps w rb s) (hs2 : s ≤ 2000) (hv : IntsV w rb (.slice (some ⟨b, o, none⟩) (rest.length + 1) cap) (n0 :: rest)) (hl : rest.length = FT.arity f) (ha : ∀ a ∈ n0 :: rest, a ≤ 10000)
    (hmc0 : rest.length + 1 ≤ cap) (hsv2 : (cap = 1 ∧ sv2 = .slice (some ⟨b, o, none⟩) rest.length 0) ∨ (¬ cap = 1 ∧ sv2 = .slice (some ⟨b, o + 1, none⟩) rest.length (cap - 1))) (hiv2 : IntsV w rb sv2 rest) :
    Calls Tryz.prog 129 #[ptr rb, .slice (some ⟨b, o, none⟩) (rest.length + 1) cap, ptr q1, ptr q2] w (ReckPost w rb (evRec f g (n0 :: rest) s)) := by
  have c1 : w.cell? ⟨q1, 0, none⟩ = some pf := cell_of_heap (i := 0) (hA.heap b1 h1)
  have c2 : ∀ w', GB w rb w' → w'.cell? ⟨q2, 0, none⟩ = some pg := fun w' hg => cell_of_heap (i := 0) ((hA.grown hg hr).heap b2 h2)
  have cn : ∀ w', GB w rb w' → w'.cell? ⟨b, o, none⟩ = some (.int .i64 (n0 : Nat)) := fun w' hg => by
    rcases IntsV.grown hv hg with ⟨h, _⟩ | ⟨b', o', cap', hv, hl, hne, hb, hc⟩
    · cases h
    · injection hv with e1 e2 e3
      injection e1 with e1
      injection e1 with e1 e4
      subst e1
      subst e4
      exact hc 0 (by simp)
  obtain ⟨bf, Tf, xf, vf, rfl, _⟩ := hf.fields
  obtain ⟨bg, Tg, xg, vg, rfl, _⟩ := hg.fields
  obtain ⟨R, hR⟩ : ∃ R, R = evRec f g (n0 :: rest) s := ⟨_, rfl⟩
  rw [← hR]
  have hk1 := ihf w rb s _ sv2 rest hf hA hr hs hs2 hiv2 hl (fun a h => ha a (by simp [h]))
  have hn0 : n0 ≤ 10000 := ha n0 (by simp)
  obtain ⟨m, hm⟩ : ∃ m, m = rest.length := ⟨_, rfl⟩
  have hlg : m + 2 = FT.arity g := by omega
  have hm1 : m ≤ 1 := by omega
  have hfr := FT.ev_runs f rest s
  have hRe : R = match FT.ev f rest s with | none => none | some (v, s1) => FT.loopR (FT.ev g) rest n0 0 v s1 := hR
  have hun : Tryz.prog.underlying 22 = some (.slice 3) := by kernel_rfl
  obtain ⟨i0, hi0, hz0, hz1, hz2⟩ : ∃ i, (Tryz.prog).info? 3 = some i ∧ i.zero = some (.int .i64 0) ∧ i.size = 1 ∧ i.bytes = 8 := ⟨_, rfl, rfl, rfl, rfl⟩
  have hone := one_ints rest
  have hnl : (intL rest).length = m := by simp [intL, hm]
  have hmc : m + 1 ≤ cap := by omega
  clear hmc0
  rw [← hm] at hsv2 ⊢
  have HM := Lib.hid hm
  have HLG := Lib.hid hlg
  have HRE := Lib.hid hRe
  have HG := Lib.hid hg
  have HIG := Lib.hid ihg
  have HA := Lib.hid hA
  have HV := Lib.hid hiv2
  have HS := Lib.hid hs
  have HAZ := Lib.hid ha
  have HC2 := Lib.hid c2
  have HCN := Lib.hid cn
  have HONE := Lib.hid hone
  have HNL := Lib.hid hnl
  clear hR hRe hf hg ihf ihg hA hv hs ha hl h1 h2 c2 cn hm hlg hone hnl hgf h3 hiv2
  have hmi : (1 : Int) ≤ (m : Int) + 1 := by omega
  rcases hsv2 with ⟨hc1, rfl⟩ | ⟨hc1, rfl⟩
  · have hm0 : m = 0 := by omega
    subst hm0
    subst hc1
    cases hef : FT.ev f rest s with
    | none =>
      rw [hef] at hk1
      have HN := Lib.hid (show R = none by rw [HRE.out, hef])
      clear hef hfr
      go_enter Tryz.func129, Tryz.ntmps129
      go_wp2_with fail
      refine hk1.mono ?_
      rintro e w1 ⟨hg1, rfl⟩
      clear hk1 c1
      have HG1 := Lib.hid hg1
      clear hg1
      go_wp2_with fail
      go_loopw [9, 10, 11] (fun vl okv n wr => vl = .int .i64 0 ∧ okv = .bool false ∧ n = .int .i64 0 ∧ Hid (w.grownBy wr (some rb))) (fun _ _ _ _ => 0)
      case atStart => exact ⟨rfl, rfl, rfl, HG1.out⟩
      case round =>
        obtain ⟨rfl, rfl, rfl, HGR⟩ := hrel
        go_wp2_with fail
        go_ret2
        exact ⟨HGR.out, by rw [HN.out]; rfl⟩
    | some p =>
      obtain ⟨v1, s1⟩ := p
      have hr1 := hfr.small _ _ hef
      rw [hef] at hk1
      have HN := Lib.hid (show R = FT.loopR (FT.ev g) rest n0 0 v1 s1 by rw [HRE.out, hef])
      clear hef hfr
      go_enter Tryz.func129, Tryz.ntmps129
      go_wp2_with fail
      refine hk1.mono ?_
      rintro e w1 ⟨hg1, rfl, hs1⟩
      clear hk1 c1
      have HG1 := Lib.hid hg1
      have HS1 := Lib.hid hs1
      clear hg1 hs1
      go_wp2_with fail
      go_loopw [9, 10, 11] (fun vl okv n wr => ∃ (k : Nat) (v : Nat) (okb : Bool), vl = .int .i64 v ∧ okv = .bool okb ∧ n = .int .i64 k ∧ k ≤ n0 ∧ v ≤ 1000 ∧ Hid (w.grownBy wr (some rb)) ∧ Hid (okb = false → v = 0 ∧ R = none) ∧ Hid (okb = true → ∃ sk, sk ≤ 2000 ∧ R = FT.loopR (FT.ev g) rest (n0 - k) k v sk ∧ Steps wr rb sk)) (fun _ _ n _ => n0 - (intOf n).toNat)
      case atStart => exact ⟨0, v1, true, rfl, rfl, rfl, by omega, hr1.1, HG1.out, (fun h => by cases h), fun _ => ⟨s1, hr1.2.2, HN.out, HS1.out⟩⟩
      case round =>
        obtain ⟨k, v, okb, rfl, rfl, rfl, hk, hvm, HGR, HF0, HT0⟩ := hrel
        cases okb with
        | false =>
          obtain ⟨hv0, hR0⟩ := HF0.out rfl
          have HN0 := Lib.hid hR0
          subst hv0
          clear hR0
          have cnr := HCN.out wr HGR.out
          go_wp2_with fail
          go_ret2
          exact ⟨HGR.out, by rw [HN0.out]; rfl⟩
        | true =>
          obtain ⟨sk, hsk, hRk, hsts⟩ := HT0.out rfl
          have HRK := Lib.hid hRk
          have HST := Lib.hid hsts
          clear hRk hsts
          have cnr := HCN.out wr HGR.out
          by_cases hlt : k < n0
          · have hself := GB.refl wr rb
            have c2r : ∀ W, GB wr rb W → W.cell? ⟨q2, 0, none⟩ = some (ptr bg) := fun W hW => HC2.out W (GB.trans HGR.out hW)
            have hltI : (k : Int) < (n0 : Int) := by omega
            have hcall := row_call HIG.out HG.out wr rb sk (HA.out.grown HGR.out hr) hr HST.out hsk (k :: v :: rest) (by simp only [List.length_cons, ← HM.out]; exact HLG.out) (fun a h => by
              rcases List.mem_cons.1 h with rfl | h
              · omega
              · rcases List.mem_cons.1 h with rfl | h
                · omega
                · exact HAZ.out a (List.mem_cons_of_mem _ h))
            have hwr : After wr ((wr.alloc (.cells #[.int .i64 (k : Nat), .int .i64 (v : Nat)] 3)).drew) := After.drew (After.new _ _)
            have hsrc := src_ints (HV.out.grown HGR.out) hwr
            have hl2 : 2 + (intL rest).length = (k :: v :: rest).length := by simp only [intL, List.length_map, List.length_cons]; omega
            have hl3 : [Value.int .i64 (k : Nat), Value.int .i64 (v : Nat)] ++ intL rest = intL (k :: v :: rest) := rfl
            have hstep := loopR_step g rest n0 k v sk hlt
            have hmax : 2 + (intL rest).length ≤ maxLen := by rw [HNL.out]; unfold maxLen; omega
            have hm8 : (2 + (intL rest).length) * 8 ≤ 140737488355328 := by rw [HNL.out]; omega
            have hsz : wr.heap.size ≤ ((wr.alloc (.cells #[.int .i64 (k : Nat), .int .i64 (v : Nat)] 3)).drew).heap.size := hwr.size
            have HSRC := Lib.hid hsrc
            have HL2 := Lib.hid hl2
            have HL3 := Lib.hid hl3
            have HMAX := Lib.hid hmax
            have HM8 := Lib.hid hm8
            have hruns := FT.ev_runs g (k :: v :: rest) sk
            cases hev : FT.ev g (k :: v :: rest) sk with
            | none =>
              rw [hev] at hcall hstep
              have HCALL := Lib.hid hcall
              have HN0 := Lib.hid (show R = none from HRK.out.trans hstep)
              clear hcall hsrc hl2 hl3 hstep hmax hm8 hev hruns
              go_wp2_with fail
              go_region_held3 (fun W' => GB wr rb W') (first | assumption | exact hself.drew | exact GB.drew (by assumption) | exact GB.alloc (by assumption) _ | exact GB.drew (GB.alloc (by assumption) _))
                (first
                  | (refine step_app _ (by rfl) _ _ 22 (by rfl) wr.heap.size 3 i0 (.int .i64 0) 8 hun hi0 hz0 hz1 hz2 rfl _ 2 [.int .i64 (k : Nat), .int .i64 (v : Nat)] (by rfl) ((owns_two wr (.int .i64 (k : Nat)) (.int .i64 (v : Nat)) _).drew) _ (intL rest) (by rfl) HSRC.out HONE.out HMAX.out HM8.out hsz ?_; intro v2 w2 ho2 hg2; obtain ⟨co, cn, cc, rfl⟩ := o_slice ho2; have ha2 := after_own2 (undrew hg2); have HA2 := Lib.hid ha2; have HO2 := Lib.hid ho2; have hb2 : GB wr rb w2 := GB.after ha2 rb; clear ho2 hg2 ha2)
                  | (go_at_call 39; refine (HCALL.out _ _ _ _ HL2.out HL3.out HO2.out HA2.out).mono ?_; rintro e w3 ⟨hg3, rfl⟩; have hb3 : GB wr rb w3 := GB.trans hb2 hg3))
              all_goals
                go_wp2_with fail
                go_roundw
                case rel => exact ⟨k + 1, 0, false, rfl, rfl, by go_num, by omega, by omega, GB.trans HGR.out hb3, (fun _ => ⟨rfl, HN0.out⟩), fun h => by cases h⟩
                case measure => simp [intOf]; omega
            | some p =>
              obtain ⟨x, s'⟩ := p
              have hx := hruns.small _ _ hev
              rw [hev] at hcall hstep
              have HCALL := Lib.hid hcall
              have HN0 := Lib.hid (show R = FT.loopR (FT.ev g) rest (n0 - (k + 1)) (k + 1) x s' from HRK.out.trans hstep)
              clear hcall hsrc hl2 hl3 hstep hmax hm8 hev hruns
              go_wp2_with fail
              go_region_held3 (fun W' => GB wr rb W') (first | assumption | exact hself.drew | exact GB.drew (by assumption) | exact GB.alloc (by assumption) _ | exact GB.drew (GB.alloc (by assumption) _))
                (first
                  | (refine step_app _ (by rfl) _ _ 22 (by rfl) wr.heap.size 3 i0 (.int .i64 0) 8 hun hi0 hz0 hz1 hz2 rfl _ 2 [.int .i64 (k : Nat), .int .i64 (v : Nat)] (by rfl) ((owns_two wr (.int .i64 (k : Nat)) (.int .i64 (v : Nat)) _).drew) _ (intL rest) (by rfl) HSRC.out HONE.out HMAX.out HM8.out hsz ?_; intro v2 w2 ho2 hg2; obtain ⟨co, cn, cc, rfl⟩ := o_slice ho2; have ha2 := after_own2 (undrew hg2); have HA2 := Lib.hid ha2; have HO2 := Lib.hid ho2; have hb2 : GB wr rb w2 := GB.after ha2 rb; clear ho2 hg2 ha2)
                  | (go_at_call 39; refine (HCALL.out _ _ _ _ HL2.out HL3.out HO2.out HA2.out).mono ?_; rintro e w3 ⟨hg3, rfl, hs3⟩; have hb3 : GB wr rb w3 := GB.trans hb2 hg3; have HS3 := Lib.hid hs3; clear hs3))
              all_goals
                go_wp2_with fail
                go_roundw
                case rel => exact ⟨k + 1, x, true, rfl, rfl, by go_num, by omega, hx.1, GB.trans HGR.out hb3, (fun h => by cases h), fun _ => ⟨s', hx.2.2, HN0.out, HS3.out⟩⟩
                case measure => simp [intOf]; omega
          · obtain rfl : k = n0 := by omega
            have HN0 := Lib.hid (show R = some (v, sk) by rw [HRK.out, Nat.sub_self]; rfl)
            go_wp2_with fail
            go_ret2
            exact ⟨HGR.out, by rw [HN0.out]; exact ⟨rfl, HST.out⟩⟩
  · cases hef : FT.ev f rest s with
    | none =>
      rw [hef] at hk1
      have HN := Lib.hid (show R = none by rw [HRE.out, hef])
      clear hef hfr
      go_enter Tryz.func129, Tryz.ntmps129
      go_wp2_with fail
      refine hk1.mono ?_
      rintro e w1 ⟨hg1, rfl⟩
      clear hk1 c1
      have HG1 := Lib.hid hg1
      clear hg1
      go_wp2_with fail
      go_loopw [9, 10, 11] (fun vl okv n wr => vl = .int .i64 0 ∧ okv = .bool false ∧ n = .int .i64 0 ∧ Hid (w.grownBy wr (some rb))) (fun _ _ _ _ => 0)
      case atStart => exact ⟨rfl, rfl, rfl, HG1.out⟩
      case round =>
        obtain ⟨rfl, rfl, rfl, HGR⟩ := hrel
        go_wp2_with fail
        go_ret2
        exact ⟨HGR.out, by rw [HN.out]; rfl⟩
    | some p =>
      obtain ⟨v1, s1⟩ := p
      have hr1 := hfr.small _ _ hef
      rw [hef] at hk1
      have HN := Lib.hid (show R = FT.loopR (FT.ev g) rest n0 0 v1 s1 by rw [HRE.out, hef])
      clear hef hfr
      go_enter Tryz.func129, Tryz.ntmps129
      go_wp2_with fail
      refine hk1.mono ?_
      rintro e w1 ⟨hg1, rfl, hs1⟩
      clear hk1 c1
      have HG1 := Lib.hid hg1
      have HS1 := Lib.hid hs1
      clear hg1 hs1
      go_wp2_with fail
      go_loopw [9, 10, 11] (fun vl okv n wr => ∃ (k : Nat) (v : Nat) (okb : Bool), vl = .int .i64 v ∧ okv = .bool okb ∧ n = .int .i64 k ∧ k ≤ n0 ∧ v ≤ 1000 ∧ Hid (w.grownBy wr (some rb)) ∧ Hid (okb = false → v = 0 ∧ R = none) ∧ Hid (okb = true → ∃ sk, sk ≤ 2000 ∧ R = FT.loopR (FT.ev g) rest (n0 - k) k v sk ∧ Steps wr rb sk)) (fun _ _ n _ => n0 - (intOf n).toNat)
      case atStart => exact ⟨0, v1, true, rfl, rfl, rfl, by omega, hr1.1, HG1.out, (fun h => by cases h), fun _ => ⟨s1, hr1.2.2, HN.out, HS1.out⟩⟩
      case round =>
        obtain ⟨k, v, okb, rfl, rfl, rfl, hk, hvm, HGR, HF0, HT0⟩ := hrel
        cases okb with
        | false =>
          obtain ⟨hv0, hR0⟩ := HF0.out rfl
          have HN0 := Lib.hid hR0
          subst hv0
          clear hR0
          have cnr := HCN.out wr HGR.out
          go_wp2_with fail
          go_ret2
          exact ⟨HGR.out, by rw [HN0.out]; rfl⟩
        | true =>
          obtain ⟨sk, hsk, hRk, hsts⟩ := HT0.out rfl
          have HRK := Lib.hid hRk
          have HST := Lib.hid hsts
          clear hRk hsts
          have cnr := HCN.out wr HGR.out
          by_cases hlt : k < n0
          · have hself := GB.refl wr rb
            have c2r : ∀ W, GB wr rb W → W.cell? ⟨q2, 0, none⟩ = some (ptr bg) := fun W hW => HC2.out W (GB.trans HGR.out hW)
            have hltI : (k : Int) < (n0 : Int) := by omega
            have hcall := row_call HIG.out HG.out wr rb sk (HA.out.grown HGR.out hr) hr HST.out hsk (k :: v :: rest) (by simp only [List.length_cons, ← HM.out]; exact HLG.out) (fun a h => by
              rcases List.mem_cons.1 h with rfl | h
              · omega
              · rcases List.mem_cons.1 h with rfl | h
                · omega
                · exact HAZ.out a (List.mem_cons_of_mem _ h))
            have hwr : After wr ((wr.alloc (.cells #[.int .i64 (k : Nat), .int .i64 (v : Nat)] 3)).drew) := After.drew (After.new _ _)
            have hsrc := src_ints (HV.out.grown HGR.out) hwr
            have hl2 : 2 + (intL rest).length = (k :: v :: rest).length := by simp only [intL, List.length_map, List.length_cons]; omega
            have hl3 : [Value.int .i64 (k : Nat), Value.int .i64 (v : Nat)] ++ intL rest = intL (k :: v :: rest) := rfl
            have hstep := loopR_step g rest n0 k v sk hlt
            have hmax : 2 + (intL rest).length ≤ maxLen := by rw [HNL.out]; unfold maxLen; omega
            have hm8 : (2 + (intL rest).length) * 8 ≤ 140737488355328 := by rw [HNL.out]; omega
            have hsz : wr.heap.size ≤ ((wr.alloc (.cells #[.int .i64 (k : Nat), .int .i64 (v : Nat)] 3)).drew).heap.size := hwr.size
            have HSRC := Lib.hid hsrc
            have HL2 := Lib.hid hl2
            have HL3 := Lib.hid hl3
            have HMAX := Lib.hid hmax
            have HM8 := Lib.hid hm8
            have hruns := FT.ev_runs g (k :: v :: rest) sk
            cases hev : FT.ev g (k :: v :: rest) sk with
            | none =>
              rw [hev] at hcall hstep
              have HCALL := Lib.hid hcall
              have HN0 := Lib.hid (show R = none from HRK.out.trans hstep)
              clear hcall hsrc hl2 hl3 hstep hmax hm8 hev hruns
              go_wp2_with fail
              go_region_held3 (fun W' => GB wr rb W') (first | assumption | exact hself.drew | exact GB.drew (by assumption) | exact GB.alloc (by assumption) _ | exact GB.drew (GB.alloc (by assumption) _))
                (first
                  | (refine step_app _ (by rfl) _ _ 22 (by rfl) wr.heap.size 3 i0 (.int .i64 0) 8 hun hi0 hz0 hz1 hz2 rfl _ 2 [.int .i64 (k : Nat), .int .i64 (v : Nat)] (by rfl) ((owns_two wr (.int .i64 (k : Nat)) (.int .i64 (v : Nat)) _).drew) _ (intL rest) (by rfl) HSRC.out HONE.out HMAX.out HM8.out hsz ?_; intro v2 w2 ho2 hg2; obtain ⟨co, cn, cc, rfl⟩ := o_slice ho2; have ha2 := after_own2 (undrew hg2); have HA2 := Lib.hid ha2; have HO2 := Lib.hid ho2; have hb2 : GB wr rb w2 := GB.after ha2 rb; clear ho2 hg2 ha2)
                  | (go_at_call 39; refine (HCALL.out _ _ _ _ HL2.out HL3.out HO2.out HA2.out).mono ?_; rintro e w3 ⟨hg3, rfl⟩; have hb3 : GB wr rb w3 := GB.trans hb2 hg3))
              all_goals
                go_wp2_with fail
                go_roundw
                case rel => exact ⟨k + 1, 0, false, rfl, rfl, by go_num, by omega, by omega, GB.trans HGR.out hb3, (fun _ => ⟨rfl, HN0.out⟩), fun h => by cases h⟩
                case measure => simp [intOf]; omega
            | some p =>
              obtain ⟨x, s'⟩ := p
              have hx := hruns.small _ _ hev
              rw [hev] at hcall hstep
              have HCALL := Lib.hid hcall
              have HN0 := Lib.hid (show R = FT.loopR (FT.ev g) rest (n0 - (k + 1)) (k + 1) x s' from HRK.out.trans hstep)
              clear hcall hsrc hl2 hl3 hstep hmax hm8 hev hruns
              go_wp2_with fail
              go_region_held3 (fun W' => GB wr rb W') (first | assumption | exact hself.drew | exact GB.drew (by assumption) | exact GB.alloc (by assumption) _ | exact GB.drew (GB.alloc (by assumption) _))
                (first
                  | (refine step_app _ (by rfl) _ _ 22 (by rfl) wr.heap.size 3 i0 (.int .i64 0) 8 hun hi0 hz0 hz1 hz2 rfl _ 2 [.int .i64 (k : Nat), .int .i64 (v : Nat)] (by rfl) ((owns_two wr (.int .i64 (k : Nat)) (.int .i64 (v : Nat)) _).drew) _ (intL rest) (by rfl) HSRC.out HONE.out HMAX.out HM8.out hsz ?_; intro v2 w2 ho2 hg2; obtain ⟨co, cn, cc, rfl⟩ := o_slice ho2; have ha2 := after_own2 (undrew hg2); have HA2 := Lib.hid ha2; have HO2 := Lib.hid ho2; have hb2 : GB wr rb w2 := GB.after ha2 rb; clear ho2 hg2 ha2)
                  | (go_at_call 39; refine (HCALL.out _ _ _ _ HL2.out HL3.out HO2.out HA2.out).mono ?_; rintro e w3 ⟨hg3, rfl, hs3⟩; have hb3 : GB wr rb w3 := GB.trans hb2 hg3; have HS3 := Lib.hid hs3; clear hs3))
              all_goals
                go_wp2_with fail
                go_roundw
                case rel => exact ⟨k + 1, x, true, rfl, rfl, by go_num, by omega, hx.1, GB.trans HGR.out hb3, (fun h => by cases h), fun _ => ⟨s', hx.2.2, HN0.out, HS3.out⟩⟩
                case measure => simp [intOf]; omega
          · obtain rfl : k = n0 := by omega
            have HN0 := Lib.hid (show R = some (v, sk) by rw [HRK.out, Nat.sub_self]; rfl)
            go_wp2_with fail
            go_ret2
            exact ⟨HGR.out, by rw [HN0.out]; exact ⟨rfl, HST.out⟩⟩

theorem clo_rec (w0 : World) (S : Nat) (f g : FT) (pf pg : Value) (q1 q2 : Nat) (hf : CV w0 S f pf) (hg : CV w0 S g pg) (h1 : w0.heap[q1]? = some (.cells #[pf] 51 (0, 0))) (b1 : S ≤ q1) (h2 : w0.heap[q2]? = some (.cells #[pg] 51 (0, 0))) (b2 : S ≤ q2)
    (ihf : RK w0 S f) (ihg : RK w0 S g) (hgf : FT.arity g = FT.arity f + 2) (h3 : FT.arity g ≤ 3)
    (w : World) (rb s : Nat) (sv : Value) (az : List Nat) (hA : Agree w0 w S) (hr : w0.heap.size ≤ rb) (hs : Steps w rb s) (hs2 : s ≤ 2000) (hv : IntsV w rb sv az) (hl : az.length = FT.arity (.r f g)) (ha : ∀ a ∈ az, a ≤ 10000) :
    Calls Tryz.prog 129 #[ptr rb, sv, ptr q1, ptr q2] w (ReckPost w rb (evRec f g az s)) := by
  match az, hl, hv, ha with
  | n0 :: rest, hl, hv, ha =>
    have hvc := hv
    rcases hv with ⟨h, _⟩ | ⟨b, o, cap, rfl, hle, hne, hb, hc⟩
    · cases h
    · have hrl : rest.length = FT.arity f := by simp only [FT.arity, List.length_cons] at hl; omega
      have hcap : rest.length + 1 ≤ cap := by simpa using hle
      by_cases hc1 : cap = 1
      · have hr0 : rest = [] := List.length_eq_zero_iff.1 (by omega)
        exact clo_rec_at w0 S f g pf pg q1 q2 hf hg h1 b1 h2 b2 ihf ihg hgf h3 w rb s b o cap n0 rest (.slice (some ⟨b, o, none⟩) rest.length 0) hA hr hs hs2 hvc hrl ha hcap (Or.inl ⟨hc1, rfl⟩) (Or.inl ⟨hr0, _, _, by rw [hr0]; rfl⟩)
      · exact clo_rec_at w0 S f g pf pg q1 q2 hf hg h1 b1 h2 b2 ihf ihg hgf h3 w rb s b o cap n0 rest _ hA hr hs hs2 hvc hrl ha hcap (Or.inr ⟨hc1, rfl⟩) (hvc.rest)
  | [], hl, _, _ => simp [FT.arity] at hl
end Go.Proofs.YtmkmladlpgfniacGreat

namespace Go.Proofs.YtmkmladlpgfniacGreat
open Go.RowKit

set_option maxHeartbeats 2000000
set_option maxRecDepth 100000

theorem evComp_one (f g : FT) (az : List Nat) (s : Nat) : evComp f [g] az s = match FT.ev g az s with | none => none | some (x, s1) => FT.ev f [x] s1 := by
  simp only [evComp, evAll]
  cases FT.ev g az s with
  | none => rfl
  | some p => rfl
theorem evComp_two (f g h : FT) (az : List Nat) (s : Nat) : evComp f [g, h] az s = match FT.ev g az s with | none => none | some (x, s1) => match FT.ev h az s1 with | none => none | some (y, s2) => FT.ev f [x, y] s2 := by
  simp only [evComp, evAll]
  cases FT.ev g az s with
  | none => rfl
  | some p =>
    obtain ⟨x, s1⟩ := p
    simp only
    cases FT.ev h az s1 with
    | none => rfl
    | some q => rfl
theorem evComp_three (f g h i : FT) (az : List Nat) (s : Nat) : evComp f [g, h, i] az s = match FT.ev g az s with | none => none | some (x, s1) => match FT.ev h az s1 with | none => none | some (y, s2) => match FT.ev i az s2 with | none => none | some (t, s3) => FT.ev f [x, y, t] s3 := by
  simp only [evComp, evAll]
  cases FT.ev g az s with
  | none => rfl
  | some p =>
    obtain ⟨x, s1⟩ := p
    simp only
    cases FT.ev h az s1 with
    | none => rfl
    | some q =>
      obtain ⟨y, s2⟩ := q
      simp only
      cases FT.ev i az s2 with
      | none => rfl
      | some r => rfl

theorem evComp_small {f : FT} {gs : List FT} {az : List Nat} {s : Nat} : ∀ v s', evComp f gs az s = some (v, s') → v ≤ 100000 := by
  intro v s' h
  unfold evComp at h
  cases he : evAll gs az s with
  | none => rw [he] at h; simp at h
  | some p =>
    obtain ⟨xs, s1⟩ := p
    rw [he] at h
    have := ((FT.ev_runs f xs s1).small _ _ h).1
    omega

theorem loopM_lt {f : List Nat → Nat → Option (Nat × Nat)} (rest : List Nat) : ∀ (k n s v' s' : Nat), FT.loopM f rest k n s = some (v', s') → v' < n + k
  | 0, _, _, _, _, h => by simp [FT.loopM] at h
  | k + 1, n, s, v', s', h => by
    simp only [FT.loopM] at h
    cases hq : f (n :: rest) s with
    | none => rw [hq] at h; simp at h
    | some q =>
      obtain ⟨a, b⟩ := q
      rw [hq] at h
      simp only at h
      split at h
      · simp only [Option.some.injEq, Prod.mk.injEq] at h
        obtain ⟨rfl, rfl⟩ := h
        omega
      · have := loopM_lt rest k (n + 1) b v' s' h
        omega

/-- What stands ahead of a closure. -/
theorem rk_ahead {w0 w : World} {S rb s b : Nat} {sv vf : Value} {az : List Nat} {t : FT} {vr : Value} (hA : Agree w0 w S) (hr : w0.heap.size ≤ rb) (hs : Steps w rb s) (hv : IntsV w rb sv az) (hb : S ≤ b)
    (hh : w0.heap[b]? = some (.cells #[.int .i64 (FT.arity t : Nat), .int .i64 (FT.size t : Nat), .bool (FT.total t), vr, vf] 58 (0, 0))) :
    ∃ W1, W1 = w.setCell ⟨rb, 0, none⟩ (.int .i64 ((s : Int) + 1)) ∧ Steps W1 rb (s + 1) ∧ Agree w0 W1 S ∧ IntsV W1 rb sv az ∧ W1.cell? ⟨b, 4, none⟩ = some vf := by
  have hg : w.grownBy (w.setCell ⟨rb, 0, none⟩ (.int .i64 ((s : Int) + 1))) (some rb) := grown_setx _ _ _ _
  have hA1 := hA.grown hg hr
  refine ⟨_, rfl, ?_, hA1, hv.grown hg, cell_of_heap (i := 4) (hA1.heap hb hh)⟩
  have := hs.set (s + 1)
  simpa using this

theorem rk_any : ∀ {g : FT}, FT.ok g → ∀ (w0 : World) (S : Nat), RK w0 S g := by
  intro g
  induction g with
  | z a =>
    intro _ w0 S w rb s v sv az hC hA hr hs hs2 hv hl ha
    obtain ⟨b, vr, vf, rfl, hb, hh, _, rfl⟩ := hC
    by_cases h2 : 2000 < s + 1
    · rw [show FT.ev (.z a) az s = none by simp only [FT.ev]; rw [if_pos h2]]
      exact reck_over w rb s _ sv ⟨_, rfl⟩ hs h2 (by omega)
    · obtain ⟨W1, hW1, hs1, hA1, hv1, c4⟩ := rk_ahead (t := .z a) hA hr hs hv hb hh
      have := reck_zero w W1 rb s b sv (some (0, s + 1)) hs h2 hW1 c4 (clo_zero W1 rb (s + 1) sv hs1) (fun v s' h => by simp at h; omega)
      rw [show FT.ev (.z a) az s = FT.chk (some (0, s + 1)) by simp only [FT.ev]; rw [if_neg h2]; rfl]
      exact this
  | inc =>
    intro _ w0 S w rb s v sv az hC hA hr hs hs2 hv hl ha
    obtain ⟨b, vr, vf, rfl, hb, hh, _, rfl⟩ := hC
    by_cases h2 : 2000 < s + 1
    · rw [show FT.ev .inc az s = none by simp only [FT.ev]; rw [if_pos h2]]
      exact reck_over w rb s _ sv ⟨_, rfl⟩ hs h2 (by omega)
    · obtain ⟨W1, hW1, hs1, hA1, hv1, c4⟩ := rk_ahead (t := .inc) hA hr hs hv hb hh
      match az, hl, ha, hv1 with
      | [x], _, ha, hv1 =>
        have hx := ha x (by simp)
        have := reck_next w W1 rb s b sv (some (x + 1, s + 1)) hs h2 hW1 c4 (clo_next W1 rb (s + 1) x sv hs1 hv1 hx) (fun v s' h => by simp at h; omega)
        rw [show FT.ev .inc [x] s = FT.chk (some (x + 1, s + 1)) by simp only [FT.ev]; rw [if_neg h2]; rfl]
        exact this
  | p i a =>
    intro ho w0 S w rb s v sv az hC hA hr hs hs2 hv hl ha
    obtain ⟨b, vr, vf, rfl, hb, hh, _, q, rfl, hq, hqh⟩ := hC
    by_cases h2 : 2000 < s + 1
    · rw [show FT.ev (.p i a) az s = none by simp only [FT.ev]; rw [if_pos h2]]
      exact reck_over w rb s _ sv ⟨_, rfl⟩ hs h2 (by omega)
    · obtain ⟨W1, hW1, hs1, hA1, hv1, c4⟩ := rk_ahead (t := .p i a) hA hr hs hv hb hh
      have hi : i < az.length := by rw [hl]; exact ho.1
      have hle : az.getD i 0 ≤ 10000 := by
        rw [List.getD_eq_getElem?_getD, List.getElem?_eq_getElem hi]
        exact ha _ (List.getElem_mem hi)
      have := reck_arg w W1 rb s b sv q (some (az.getD i 0, s + 1)) hs h2 hW1 c4 (clo_arg W1 rb (s + 1) i q az sv hs1 hv1 hi (hA1.heap hq hqh)) (fun v s' h => by simp only [Option.some.injEq, Prod.mk.injEq] at h; omega)
      rw [show FT.ev (.p i a) az s = FT.chk (some (az.getD i 0, s + 1)) by simp only [FT.ev]; rw [if_neg h2]]
      exact this
  | c1 f g ihf ihg =>
    intro ho w0 S w rb s v sv az hC hA hr hs hs2 hv hl ha
    obtain ⟨b, vr, vf, rfl, hb, hh, _, q1, q2, so, o, cap, cs, T, fr, pf, p1, rfl, b1, h1, b2, hq2, hf, bs, h3, e1, hg⟩ := hC
    by_cases h2 : 2000 < s + 1
    · rw [show FT.ev (.c1 f g) az s = none by simp only [FT.ev]; rw [if_pos h2]]
      exact reck_over w rb s _ sv ⟨_, rfl⟩ hs h2 (by omega)
    · obtain ⟨W1, hW1, hs1, hA1, hv1, c4⟩ := rk_ahead (t := .c1 f g) hA hr hs hv hb hh
      have hP : PartsU w0 S (.slice (some ⟨so, o, none⟩) 1 cap) [g] := ⟨so, o, cap, cs, T, fr, rfl, bs, h3, fun j hj => by match j, hj with | 0, _ => exact ⟨_, e1, hg⟩⟩
      have hclo := clo_comp w0 S f [g] _ pf q1 q2 hP hf h1 b1 hq2 b2 (by simp) (ihf ho.1 w0 S) (fun k hk => by simp at hk; subst hk; exact ihg ho.2.1 w0 S) (by simpa using ho.2.2) W1 rb (s + 1) sv az hA1 hr hs1 (by omega) hv1 (fun k hk => by simp at hk; subst hk; exact hl) ha
      have := reck_comp w W1 rb s b sv q1 q2 _ hs h2 hW1 c4 hclo evComp_small
      rw [show FT.ev (.c1 f g) az s = FT.chk (evComp f [g] az (s + 1)) by simp only [FT.ev]; rw [if_neg h2, evComp_one]; rfl]
      exact this
  | c2 f g k ihf ihg ihk =>
    intro ho w0 S w rb s v sv az hC hA hr hs hs2 hv hl ha
    obtain ⟨b, vr, vf, rfl, hb, hh, _, q1, q2, so, o, cap, cs, T, fr, pf, p1, p2, rfl, b1, h1, b2, hq2, hf, bs, h3, e1, hg, e2, hk⟩ := hC
    by_cases h2 : 2000 < s + 1
    · rw [show FT.ev (.c2 f g k) az s = none by simp only [FT.ev]; rw [if_pos h2]]
      exact reck_over w rb s _ sv ⟨_, rfl⟩ hs h2 (by omega)
    · obtain ⟨W1, hW1, hs1, hA1, hv1, c4⟩ := rk_ahead (t := .c2 f g k) hA hr hs hv hb hh
      have hP : PartsU w0 S (.slice (some ⟨so, o, none⟩) 2 cap) [g, k] := ⟨so, o, cap, cs, T, fr, rfl, bs, h3, fun j hj => by match j, hj with | 0, _ => exact ⟨_, e1, hg⟩ | 1, _ => exact ⟨_, e2, hk⟩⟩
      have hclo := clo_comp w0 S f [g, k] _ pf q1 q2 hP hf h1 b1 hq2 b2 (by simp) (ihf ho.1 w0 S) (fun j hj => by
        simp only [List.mem_cons, List.not_mem_nil, or_false] at hj
        rcases hj with rfl | rfl
        · exact ihg ho.2.1 w0 S
        · exact ihk ho.2.2.1 w0 S) (by simpa using ho.2.2.2.1) W1 rb (s + 1) sv az hA1 hr hs1 (by omega) hv1 (fun j hj => by
        simp only [List.mem_cons, List.not_mem_nil, or_false] at hj
        rcases hj with rfl | rfl
        · exact hl
        · exact hl.trans ho.2.2.2.2.symm) ha
      have := reck_comp w W1 rb s b sv q1 q2 _ hs h2 hW1 c4 hclo evComp_small
      rw [show FT.ev (.c2 f g k) az s = FT.chk (evComp f [g, k] az (s + 1)) by simp only [FT.ev]; rw [if_neg h2, evComp_two]; rfl]
      exact this
  | c3 f g k l ihf ihg ihk ihl =>
    intro ho w0 S w rb s v sv az hC hA hr hs hs2 hv hl ha
    obtain ⟨b, vr, vf, rfl, hb, hh, _, q1, q2, so, o, cap, cs, T, fr, pf, p1, p2, p3, rfl, b1, h1, b2, hq2, hf, bs, h3, e1, hg, e2, hk, e3, hl3⟩ := hC
    by_cases h2 : 2000 < s + 1
    · rw [show FT.ev (.c3 f g k l) az s = none by simp only [FT.ev]; rw [if_pos h2]]
      exact reck_over w rb s _ sv ⟨_, rfl⟩ hs h2 (by omega)
    · obtain ⟨W1, hW1, hs1, hA1, hv1, c4⟩ := rk_ahead (t := .c3 f g k l) hA hr hs hv hb hh
      have hP : PartsU w0 S (.slice (some ⟨so, o, none⟩) 3 cap) [g, k, l] := ⟨so, o, cap, cs, T, fr, rfl, bs, h3, fun j hj => by match j, hj with | 0, _ => exact ⟨_, e1, hg⟩ | 1, _ => exact ⟨_, e2, hk⟩ | 2, _ => exact ⟨_, e3, hl3⟩⟩
      have hclo := clo_comp w0 S f [g, k, l] _ pf q1 q2 hP hf h1 b1 hq2 b2 (by simp) (ihf ho.1 w0 S) (fun j hj => by
        simp only [List.mem_cons, List.not_mem_nil, or_false] at hj
        rcases hj with rfl | rfl | rfl
        · exact ihg ho.2.1 w0 S
        · exact ihk ho.2.2.1 w0 S
        · exact ihl ho.2.2.2.1 w0 S) (by simpa using ho.2.2.2.2.1) W1 rb (s + 1) sv az hA1 hr hs1 (by omega) hv1 (fun j hj => by
        simp only [List.mem_cons, List.not_mem_nil, or_false] at hj
        rcases hj with rfl | rfl | rfl
        · exact hl
        · exact hl.trans ho.2.2.2.2.2.1.symm
        · exact hl.trans ho.2.2.2.2.2.2.symm) ha
      have := reck_comp w W1 rb s b sv q1 q2 _ hs h2 hW1 c4 hclo evComp_small
      rw [show FT.ev (.c3 f g k l) az s = FT.chk (evComp f [g, k, l] az (s + 1)) by simp only [FT.ev]; rw [if_neg h2, evComp_three]; rfl]
      exact this
  | r f g ihf ihg =>
    intro ho w0 S w rb s v sv az hC hA hr hs hs2 hv hl ha
    obtain ⟨b, vr, vf, rfl, hb, hh, _, q1, q2, pf, pg, rfl, b1, h1, b2, hq2, hf, hg⟩ := hC
    by_cases h2 : 2000 < s + 1
    · rw [show FT.ev (.r f g) az s = none by simp only [FT.ev]; rw [if_pos h2]]
      exact reck_over w rb s _ sv ⟨_, rfl⟩ hs h2 (by omega)
    · obtain ⟨W1, hW1, hs1, hA1, hv1, c4⟩ := rk_ahead (t := .r f g) hA hr hs hv hb hh
      have hclo := clo_rec w0 S f g pf pg q1 q2 hf hg h1 b1 hq2 b2 (ihf ho.1 w0 S) (ihg ho.2.1 w0 S) ho.2.2 (FT.arity_le ho.2.1) W1 rb (s + 1) sv az hA1 hr hs1 (by omega) hv1 hl ha
      have := reck_rec w W1 rb s b sv q1 q2 _ hs h2 hW1 c4 hclo (evRec_small)
      rw [show FT.ev (.r f g) az s = FT.chk (evRec f g az (s + 1)) by simp only [FT.ev]; rw [if_neg h2]; rfl]
      exact this
  | m f ihf =>
    intro ho w0 S w rb s v sv az hC hA hr hs hs2 hv hl ha
    obtain ⟨b, vr, vf, rfl, hb, hh, _, q1, pf, rfl, b1, h1, hf⟩ := hC
    by_cases h2 : 2000 < s + 1
    · rw [show FT.ev (.m f) az s = none by simp only [FT.ev]; rw [if_pos h2]]
      exact reck_over w rb s _ sv ⟨_, rfl⟩ hs h2 (by omega)
    · obtain ⟨W1, hW1, hs1, hA1, hv1, c4⟩ := rk_ahead (t := .m f) hA hr hs hv hb hh
      have hclo := clo_sea w0 S f pf q1 hf h1 b1 (ihf ho.1 w0 S) ho.2 (FT.arity_le ho.1) W1 rb (s + 1) sv az hA1 hr hs1 (by omega) hv1 hl ha
      have := reck_sea w W1 rb s b sv q1 _ hs h2 hW1 c4 hclo (fun v s' h => by have := loopM_lt _ _ _ _ _ _ h; omega)
      rw [show FT.ev (.m f) az s = FT.chk (FT.loopM (FT.ev f) az 2001 0 (s + 1)) by simp only [FT.ev]; rw [if_neg h2]]
      exact this
end Go.Proofs.YtmkmladlpgfniacGreat
