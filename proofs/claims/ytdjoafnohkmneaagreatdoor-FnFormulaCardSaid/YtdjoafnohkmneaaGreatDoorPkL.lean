/-
  The program's put of formulas.
-/
import Derived.Test.YtdjoafnohkmneaaGreatDoorPkI
import Derived.Shelf.Strconv.AppendIntPublic10
import Derived.Test.YtdjoafnohkmneaaGreatDoorProg
import Derived.Test.YtdjoafnohkmneaaGreatDoorPkB
import Derived.Deep.AppendLies
import Derived.Lib.AppendStr
import Derived.Test.YtdjoafnohkmneaaGreatDoorPkH
import Derived.Test.YtdjoafnohkmneaaGreatDoorPkK
import Derived.Test.YtdjoafnohkmneaaGreatDoorPkJ
import Derived.LaidEql
import Derived.Stop.Asserts
import Derived.RowKitTokens
namespace Go.Proofs.YtdjoafnohkmneaaGreatDoor
open Go.RowKit

set_option maxHeartbeats 2000000
set_option maxRecDepth 100000

theorem and_put (w W : World) (name : List UInt8) (vb : Value) (T1 T2 : TypeId) (x1 x2 : Value) (a b : Fo) (hW : After w W) (h1 : FPOk w (.iface T1 x1) a name vb) (h2 : FPOk w (.iface T2 x2) b name vb) :
    Calls Tryz.prog 163 #[.agg #[.iface T1 x1, .iface T2 x2], str name, vb] W (FPP w.heap.size W (.and a b)) := by
  have hj := fun V hV => joined_put w V name vb T1 T2 x1 x2 a b hV h1 h2
  unfold JPP at hj
  have hA := After.new W (.cells #[.iface T1 x1, .iface T2 x2] 92)
  have hj1 := hj _ (hW.trans hA)
  have HA := Lib.hid hA
  clear hj hA h1 h2
  go_enter Tryz.func163, Tryz.ntmps163
  go_wp2_with fail
  refine hj1.mono ?_
  rintro e w2 ⟨S1, r1, S2, r2, rfl, ha2, hv1, hv2⟩
  have HA2 := Lib.hid ha2
  have H1 := Lib.hid hv1
  have H2 := Lib.hid hv2
  clear hj1 ha2 hv1 hv2
  go_wp2_with fail
  go_ret
  have hs := HA.out.size
  have g1 := H1.out.keep (S' := W.heap.size) (E' := w2.heap.size) hs (Nat.le_refl _) fun _ _ => rfl
  have g2 := H2.out.keep (S' := W.heap.size) (E' := w2.heap.size) hs (Nat.le_refl _) fun _ _ => rfl
  exact ⟨_, _, rfl, HA.out.trans HA2.out, fun w'' hk => ⟨_, _, rfl, g1 w'' hk, g2 w'' hk⟩⟩

theorem or_put (w W : World) (name : List UInt8) (vb : Value) (T1 T2 : TypeId) (x1 x2 : Value) (a b : Fo) (hW : After w W) (h1 : FPOk w (.iface T1 x1) a name vb) (h2 : FPOk w (.iface T2 x2) b name vb) :
    Calls Tryz.prog 167 #[.agg #[.iface T1 x1, .iface T2 x2], str name, vb] W (FPP w.heap.size W (.or a b)) := by
  have hj := fun V hV => joined_put w V name vb T1 T2 x1 x2 a b hV h1 h2
  unfold JPP at hj
  have hA := After.new W (.cells #[.iface T1 x1, .iface T2 x2] 93)
  have hj1 := hj _ (hW.trans hA)
  have HA := Lib.hid hA
  clear hj hA h1 h2
  go_enter Tryz.func167, Tryz.ntmps167
  go_wp2_with fail
  refine hj1.mono ?_
  rintro e w2 ⟨S1, r1, S2, r2, rfl, ha2, hv1, hv2⟩
  have HA2 := Lib.hid ha2
  have H1 := Lib.hid hv1
  have H2 := Lib.hid hv2
  clear hj1 ha2 hv1 hv2
  go_wp2_with fail
  go_ret
  have hs := HA.out.size
  have g1 := H1.out.keep (S' := W.heap.size) (E' := w2.heap.size) hs (Nat.le_refl _) fun _ _ => rfl
  have g2 := H2.out.keep (S' := W.heap.size) (E' := w2.heap.size) hs (Nat.le_refl _) fun _ _ => rfl
  exact ⟨_, _, rfl, HA.out.trans HA2.out, fun w'' hk => ⟨_, _, rfl, g1 w'' hk, g2 w'' hk⟩⟩

theorem imp_put (w W : World) (name : List UInt8) (vb : Value) (T1 T2 : TypeId) (x1 x2 : Value) (a b : Fo) (hW : After w W) (h1 : FPOk w (.iface T1 x1) a name vb) (h2 : FPOk w (.iface T2 x2) b name vb) :
    Calls Tryz.prog 169 #[.agg #[.iface T1 x1, .iface T2 x2], str name, vb] W (FPP w.heap.size W (.imp a b)) := by
  have hj := fun V hV => joined_put w V name vb T1 T2 x1 x2 a b hV h1 h2
  unfold JPP at hj
  have hA := After.new W (.cells #[.iface T1 x1, .iface T2 x2] 94)
  have hj1 := hj _ (hW.trans hA)
  have HA := Lib.hid hA
  clear hj hA h1 h2
  go_enter Tryz.func169, Tryz.ntmps169
  go_wp2_with fail
  refine hj1.mono ?_
  rintro e w2 ⟨S1, r1, S2, r2, rfl, ha2, hv1, hv2⟩
  have HA2 := Lib.hid ha2
  have H1 := Lib.hid hv1
  have H2 := Lib.hid hv2
  clear hj1 ha2 hv1 hv2
  go_wp2_with fail
  go_ret
  have hs := HA.out.size
  have g1 := H1.out.keep (S' := W.heap.size) (E' := w2.heap.size) hs (Nat.le_refl _) fun _ _ => rfl
  have g2 := H2.out.keep (S' := W.heap.size) (E' := w2.heap.size) hs (Nat.le_refl _) fun _ _ => rfl
  exact ⟨_, _, rfl, HA.out.trans HA2.out, fun w'' hk => ⟨_, _, rfl, g1 w'' hk, g2 w'' hk⟩⟩

theorem all_put_ne (w W : World) (name x : List UInt8) (vb : Value) (m : Nat) (T1 : TypeId) (x1 : Value) (a : Fo) (hne : name ≠ x) (hW : After w W) (h1 : FPOk w (.iface T1 x1) a name vb) :
    Calls Tryz.prog 176 #[.agg #[str x, .int .i64 (m : Nat), .iface T1 x1], str name, vb] W (FPP w.heap.size W (.all x m a)) := by
  have hj := fun V hV => bound_put_ne w V name x vb m T1 x1 a hne hV h1
  unfold BPP at hj
  have hA := After.new W (.cells #[str x, .int .i64 (m : Nat), .iface T1 x1] 98)
  have hj1 := hj _ (hW.trans hA)
  have HA := Lib.hid hA
  clear hj hA h1 hne
  go_enter Tryz.func176, Tryz.ntmps176
  go_wp2_with fail
  refine hj1.mono ?_
  rintro e w2 ⟨S1, r1, rfl, ha2, hv1⟩
  have HA2 := Lib.hid ha2
  have H1 := Lib.hid hv1
  clear hj1 ha2 hv1
  go_wp2_with fail
  go_ret
  have hs := HA.out.size
  have g1 := H1.out.keep (S' := W.heap.size) (E' := w2.heap.size) hs (Nat.le_refl _) fun _ _ => rfl
  exact ⟨_, _, rfl, HA.out.trans HA2.out, fun w'' hk => ⟨_, rfl, g1 w'' hk⟩⟩
theorem all_put_eq (W : World) (x : List UInt8) (vb : Value) (m : Nat) (T1 : TypeId) (x1 : Value) :
    Calls Tryz.prog 176 #[.agg #[str x, .int .i64 (m : Nat), .iface T1 x1], str x, vb] W fun e w' => e = .returned (.iface 98 (.agg #[str x, .int .i64 (m : Nat), .iface T1 x1])) ∧ After W w' := by
  have hj1 := bound_put_eq (W.alloc (.cells #[str x, .int .i64 (m : Nat), .iface T1 x1] 98)) x vb m T1 x1
  have hA := After.new W (.cells #[str x, .int .i64 (m : Nat), .iface T1 x1] 98)
  have HA := Lib.hid hA
  clear hA
  go_enter Tryz.func176, Tryz.ntmps176
  go_wp2_with fail
  refine hj1.mono ?_
  rintro e w2 ⟨rfl, ha2⟩
  have HA2 := Lib.hid ha2
  clear hj1 ha2
  go_wp2_with fail
  go_ret
  exact ⟨rfl, HA.out.trans HA2.out⟩

theorem ex_put_ne (w W : World) (name x : List UInt8) (vb : Value) (m : Nat) (T1 : TypeId) (x1 : Value) (a : Fo) (hne : name ≠ x) (hW : After w W) (h1 : FPOk w (.iface T1 x1) a name vb) :
    Calls Tryz.prog 181 #[.agg #[str x, .int .i64 (m : Nat), .iface T1 x1], str name, vb] W (FPP w.heap.size W (.ex x m a)) := by
  have hj := fun V hV => bound_put_ne w V name x vb m T1 x1 a hne hV h1
  unfold BPP at hj
  have hA := After.new W (.cells #[str x, .int .i64 (m : Nat), .iface T1 x1] 102)
  have hj1 := hj _ (hW.trans hA)
  have HA := Lib.hid hA
  clear hj hA h1 hne
  go_enter Tryz.func181, Tryz.ntmps181
  go_wp2_with fail
  refine hj1.mono ?_
  rintro e w2 ⟨S1, r1, rfl, ha2, hv1⟩
  have HA2 := Lib.hid ha2
  have H1 := Lib.hid hv1
  clear hj1 ha2 hv1
  go_wp2_with fail
  go_ret
  have hs := HA.out.size
  have g1 := H1.out.keep (S' := W.heap.size) (E' := w2.heap.size) hs (Nat.le_refl _) fun _ _ => rfl
  exact ⟨_, _, rfl, HA.out.trans HA2.out, fun w'' hk => ⟨_, rfl, g1 w'' hk⟩⟩
theorem ex_put_eq (W : World) (x : List UInt8) (vb : Value) (m : Nat) (T1 : TypeId) (x1 : Value) :
    Calls Tryz.prog 181 #[.agg #[str x, .int .i64 (m : Nat), .iface T1 x1], str x, vb] W fun e w' => e = .returned (.iface 102 (.agg #[str x, .int .i64 (m : Nat), .iface T1 x1])) ∧ After W w' := by
  have hj1 := bound_put_eq (W.alloc (.cells #[str x, .int .i64 (m : Nat), .iface T1 x1] 102)) x vb m T1 x1
  have hA := After.new W (.cells #[str x, .int .i64 (m : Nat), .iface T1 x1] 102)
  have HA := Lib.hid hA
  clear hA
  go_enter Tryz.func181, Tryz.ntmps181
  go_wp2_with fail
  refine hj1.mono ?_
  rintro e w2 ⟨rfl, ha2⟩
  have HA2 := Lib.hid ha2
  clear hj1 ha2
  go_wp2_with fail
  go_ret
  exact ⟨rfl, HA.out.trans HA2.out⟩

theorem EPP.same {N : Nat} {W : World} {u : Ex} {T : TypeId} {y : Value} {w' : World} (ha : After W w') (h : EVn w' N W.heap.size w'.heap.size u (.iface T y)) : EPP N W u (.returned (.iface T y)) w' := ⟨_, _, rfl, ha, h⟩
theorem FPP.same {N : Nat} {W : World} {u : Fo} {T : TypeId} {y : Value} {w' : World} (ha : After W w') (h : FVn w' N W.heap.size w'.heap.size u (.iface T y)) : FPP N W u (.returned (.iface T y)) w' := ⟨_, _, rfl, ha, h⟩
theorem cell_x {w W : World} {b i : Nat} {cs : Array Value} {T : TypeId} {fr : Nat × Nat} {x : Value} (hh : w.heap[b]? = some (.cells cs T fr)) (hx : cs[i]? = some x) (ha : After w W) : W.cell? ⟨b, i, none⟩ = some x := by
  unfold World.cell?
  rw [ha.heap hh]
  exact hx

theorem EV.putOk {w : World} {name : List UInt8} {b : Ex} {vb : Value} (hb : EV w 0 b vb) : ∀ {e : Ex} {v : Value}, EV w 0 e v → EPOk w v (Fm.putE name b e) name vb
  | .num n, _, h => ⟨_, _, 144, .int .i64 (n : Nat), h, fun _ => by kernel_rfl, fun _ _ => by kernel_rfl, fun W _ => (num_put W _ _ _).mono fun e w' h => by
      rw [h.1]; exact EPP.same h.2 fun _ _ => rfl⟩
  | .var x, _, h => ⟨_, _, 189, str x, h, fun _ => by kernel_rfl, fun _ _ => by kernel_rfl, fun W hW => (var_put W x name vb).mono fun e w' h => by
      rw [h.1]
      by_cases hx : x = name
      · rw [if_pos hx, show Fm.putE name b (.var x) = b from if_pos hx]
        obtain ⟨T, y, rfl⟩ := hb.form
        exact EPP.same h.2 (hb.old (hW.trans h.2) _)
      · rw [if_neg hx, show Fm.putE name b (.var x) = .var x from if_neg hx]
        exact EPP.same h.2 fun _ _ => rfl⟩
  | .suc e, _, ⟨bl, cap, cs, fr, x, hv, _, hh, hx, he⟩ => by
    have k1 := EV.putOk (name := name) hb he
    refine ⟨_, _, 193, .agg #[str Fm.wSuc, .slice (some ⟨bl, 0, none⟩) 1 cap], hv, fun _ => by kernel_rfl, fun _ _ => by kernel_rfl, fun W hW => ?_⟩
    exact op_put w W Fm.wSuc name vb bl cap 1 [Fm.putE name b e] [] hW rfl (by decide) (by decide) rfl fun j hj => by
      obtain rfl : j = 0 := by simp at hj; omega
      exact ⟨x, cell_x hh hx hW, k1⟩
  | .add e f, _, ⟨bl, cap, cs, fr, x, y, hv, _, hh, hx, hy, he, hf⟩ => by
    have k1 := EV.putOk (name := name) hb he
    have k2 := EV.putOk (name := name) hb hf
    refine ⟨_, _, 193, .agg #[str Fm.wAdd, .slice (some ⟨bl, 0, none⟩) 2 cap], hv, fun _ => by kernel_rfl, fun _ _ => by kernel_rfl, fun W hW => ?_⟩
    exact op_put w W Fm.wAdd name vb bl cap 2 [Fm.putE name b e, Fm.putE name b f] [] hW rfl (by decide) (by decide) rfl fun j hj => by
      match j, hj with
      | 0, _ => exact ⟨x, cell_x hh hx hW, k1⟩
      | 1, _ => exact ⟨y, cell_x hh hy hW, k2⟩
      | j + 2, hj => exact absurd hj (by simp)
  | .mul e f, _, ⟨bl, cap, cs, fr, x, y, hv, _, hh, hx, hy, he, hf⟩ => by
    have k1 := EV.putOk (name := name) hb he
    have k2 := EV.putOk (name := name) hb hf
    refine ⟨_, _, 193, .agg #[str Fm.wMul, .slice (some ⟨bl, 0, none⟩) 2 cap], hv, fun _ => by kernel_rfl, fun _ _ => by kernel_rfl, fun W hW => ?_⟩
    exact op_put w W Fm.wMul name vb bl cap 2 [Fm.putE name b e, Fm.putE name b f] [] hW rfl (by decide) (by decide) rfl fun j hj => by
      match j, hj with
      | 0, _ => exact ⟨x, cell_x hh hx hW, k1⟩
      | 1, _ => exact ⟨y, cell_x hh hy hW, k2⟩
      | j + 2, hj => exact absurd hj (by simp)

theorem FoV.putOk {w : World} {name : List UInt8} {b : Ex} {vb : Value} (hb : EV w 0 b vb) : ∀ {f : Fo} {v : Value}, FoV w 0 f v → FPOk w v (Fm.putF name b f) name vb
  | .top, _, h => ⟨_, _, 152, .agg #[], h, fun _ => by kernel_rfl, fun _ _ => by kernel_rfl, fun W _ => (top_put W _ _).mono fun e w' h => by
      rw [h.1]; exact FPP.same h.2 fun _ _ => rfl⟩
  | .bot, _, h => ⟨_, _, 185, .agg #[], h, fun _ => by kernel_rfl, fun _ _ => by kernel_rfl, fun W _ => (bot_put W _ _).mono fun e w' h => by
      rw [h.1]; exact FPP.same h.2 fun _ _ => rfl⟩
  | .eq e f, _, ⟨x, y, h, he, hf⟩ => by
    have k1 := EV.putOk (name := name) hb he
    have k2 := EV.putOk (name := name) hb hf
    obtain ⟨T1, x1, rfl⟩ := he.form
    obtain ⟨T2, x2, rfl⟩ := hf.form
    exact ⟨_, _, 157, .agg #[.iface T1 x1, .iface T2 x2], h, fun _ => by kernel_rfl, fun _ _ => by kernel_rfl, fun W hW => equality_put w W name vb T1 T2 x1 x2 _ _ hW k1 k2⟩
  | .and f g, _, ⟨x, y, h, hf, hg⟩ => by
    have k1 := hf.putOk (name := name) hb
    have k2 := hg.putOk (name := name) hb
    obtain ⟨T1, x1, rfl⟩ := hf.form
    obtain ⟨T2, x2, rfl⟩ := hg.form
    exact ⟨_, _, 163, .agg #[.iface T1 x1, .iface T2 x2], h, fun _ => by kernel_rfl, fun _ _ => by kernel_rfl, fun W hW => and_put w W name vb T1 T2 x1 x2 _ _ hW k1 k2⟩
  | .or f g, _, ⟨x, y, h, hf, hg⟩ => by
    have k1 := hf.putOk (name := name) hb
    have k2 := hg.putOk (name := name) hb
    obtain ⟨T1, x1, rfl⟩ := hf.form
    obtain ⟨T2, x2, rfl⟩ := hg.form
    exact ⟨_, _, 167, .agg #[.iface T1 x1, .iface T2 x2], h, fun _ => by kernel_rfl, fun _ _ => by kernel_rfl, fun W hW => or_put w W name vb T1 T2 x1 x2 _ _ hW k1 k2⟩
  | .imp f g, _, ⟨x, y, h, hf, hg⟩ => by
    have k1 := hf.putOk (name := name) hb
    have k2 := hg.putOk (name := name) hb
    obtain ⟨T1, x1, rfl⟩ := hf.form
    obtain ⟨T2, x2, rfl⟩ := hg.form
    exact ⟨_, _, 169, .agg #[.iface T1 x1, .iface T2 x2], h, fun _ => by kernel_rfl, fun _ _ => by kernel_rfl, fun W hW => imp_put w W name vb T1 T2 x1 x2 _ _ hW k1 k2⟩
  | .all x n f, _, ⟨y, h, hf⟩ => by
    have k1 := hf.putOk (name := name) hb
    have hold := fun (W w' : World) (hW : After w W) (ha : After W w') => FoV.old (w := w) (t := .all x n f) (v := .iface 98 (.agg #[str x, .int .i64 (n : Nat), y])) ⟨y, rfl, hf⟩ (hW.trans ha) W.heap.size
    obtain ⟨T1, x1, rfl⟩ := hf.form
    refine ⟨_, _, 176, .agg #[str x, .int .i64 (n : Nat), .iface T1 x1], h, fun _ => by kernel_rfl, fun _ _ => by kernel_rfl, fun W hW => ?_⟩
    by_cases hx : name = x
    · subst hx
      rw [show Fm.putF name b (.all name n f) = .all name n f from if_pos rfl]
      exact (all_put_eq W name vb n T1 x1).mono fun e w' h => by rw [h.1]; exact FPP.same h.2 (hold W w' hW h.2)
    · rw [show Fm.putF name b (.all x n f) = .all x n (Fm.putF name b f) from if_neg hx]
      exact all_put_ne w W name x vb n T1 x1 _ hx hW k1
  | .ex x n f, _, ⟨y, h, hf⟩ => by
    have k1 := hf.putOk (name := name) hb
    have hold := fun (W w' : World) (hW : After w W) (ha : After W w') => FoV.old (w := w) (t := .ex x n f) (v := .iface 102 (.agg #[str x, .int .i64 (n : Nat), y])) ⟨y, rfl, hf⟩ (hW.trans ha) W.heap.size
    obtain ⟨T1, x1, rfl⟩ := hf.form
    refine ⟨_, _, 181, .agg #[str x, .int .i64 (n : Nat), .iface T1 x1], h, fun _ => by kernel_rfl, fun _ _ => by kernel_rfl, fun W hW => ?_⟩
    by_cases hx : name = x
    · subst hx
      rw [show Fm.putF name b (.ex name n f) = .ex name n f from if_pos rfl]
      exact (ex_put_eq W name vb n T1 x1).mono fun e w' h => by rw [h.1]; exact FPP.same h.2 (hold W w' hW h.2)
    · rw [show Fm.putF name b (.ex x n f) = .ex x n (Fm.putF name b f) from if_neg hx]
      exact ex_put_ne w W name x vb n T1 x1 _ hx hW k1
end Go.Proofs.YtdjoafnohkmneaaGreatDoor

namespace Go.Proofs.YtdjoafnohkmneaaGreatDoor
open Go.RowKit Go.Shelf

def laysAppR : Ren := ⟨fun
  | 176 => 147
  | 249 => 148
  | 288 => 149
  | 283 => 111
  | 284 => 112
  | 285 => 113
  | 286 => 114
  | 129 => 119
  | 317 => 118
  | 318 => 120
  | 319 => 121
  | 320 => 122
  | 337 => 124
  | 338 => 125
  | n => n, fun
  | 3 => 3
  | 9 => 9
  | 2 => 2
  | 4 => 4
  | 171 => 182
  | 0 => 0
  | 53 => 175
  | 37 => 28
  | 5 => 5
  | 173 => 185
  | 212 => 193
  | 51 => 194
  | 20 => 20
  | 213 => 195
  | 46 => 173
  | 232 => 198
  | 233 => 199
  | n => n, fun
  | 17 => 4
  | 18 => 5
  | 19 => 6
  | n => n⟩

set_option maxRecDepth 100000 in
theorem laysApp : LaysM.n176 Tryz.prog laysAppR := {
  mixed := by kernel_rfl
  f129 := Tryz.func119.trans (congrArg some (by kernel_rfl))
  f176 := Tryz.func147.trans (congrArg some (by kernel_rfl))
  f249 := Tryz.func148.trans (congrArg some (by kernel_rfl))
  f288 := Tryz.func149.trans (congrArg some (by kernel_rfl))
  f283 := Tryz.func111.trans (congrArg some (by kernel_rfl))
  f284 := Tryz.func112.trans (congrArg some (by kernel_rfl))
  f285 := Tryz.func113.trans (congrArg some (by kernel_rfl))
  f286 := Tryz.func114.trans (congrArg some (by kernel_rfl))
  f317 := Tryz.func118.trans (congrArg some (by kernel_rfl))
  f318 := Tryz.func120.trans (congrArg some (by kernel_rfl))
  f319 := Tryz.func121.trans (congrArg some (by kernel_rfl))
  f320 := Tryz.func122.trans (congrArg some (by kernel_rfl))
  f337 := Tryz.func124.trans (congrArg some (by kernel_rfl))
  f338 := Tryz.func125.trans (congrArg some (by kernel_rfl))
  t0 := Tryz.underlying0
  a0 := Tryz.isAgg0
  z0 := Tryz.sizeOf0
  v0 := Tryz.zeroValue0
  t2 := Tryz.underlying2
  a2 := Tryz.isAgg2
  z2 := Tryz.sizeOf2
  v2 := Tryz.zeroValue2
  t3 := Tryz.underlying3
  a3 := Tryz.isAgg3
  z3 := Tryz.sizeOf3
  v3 := Tryz.zeroValue3
  t4 := Tryz.underlying4
  a4 := Tryz.isAgg4
  z4 := Tryz.sizeOf4
  v4 := Tryz.zeroValue4
  t5 := Tryz.underlying5
  a5 := Tryz.isAgg5
  z5 := Tryz.sizeOf5
  v5 := Tryz.zeroValue5
  t9 := Tryz.underlying9
  a9 := Tryz.isAgg9
  z9 := Tryz.sizeOf9
  v9 := Tryz.zeroValue9
  t20 := Tryz.underlying20
  a20 := Tryz.isAgg20
  z20 := Tryz.sizeOf20
  v20 := Tryz.zeroValue20
  t37 := Tryz.underlying28
  a37 := Tryz.isAgg28
  z37 := Tryz.sizeOf28
  v37 := Tryz.zeroValue28
  t46 := Tryz.underlying173
  a46 := Tryz.isAgg173
  z46 := Tryz.sizeOf173
  v46 := Tryz.zeroValue173
  t51 := Tryz.underlying194
  a51 := Tryz.isAgg194
  z51 := Tryz.sizeOf194
  v51 := Tryz.zeroValue194
  t53 := Tryz.underlying175
  a53 := Tryz.isAgg175
  z53 := Tryz.sizeOf175
  v53 := Tryz.zeroValue175
  t171 := Tryz.underlying182
  a171 := Tryz.isAgg182
  z171 := Tryz.sizeOf182
  v171 := Tryz.zeroValue182
  t173 := Tryz.underlying185
  a173 := Tryz.isAgg185
  z173 := Tryz.sizeOf185
  v173 := Tryz.zeroValue185
  t212 := Tryz.underlying193
  a212 := Tryz.isAgg193
  z212 := Tryz.sizeOf193
  v212 := Tryz.zeroValue193
  t213 := Tryz.underlying195
  a213 := Tryz.isAgg195
  z213 := Tryz.sizeOf195
  t232 := Tryz.underlying198
  a232 := Tryz.isAgg198
  z232 := Tryz.sizeOf198
  v232 := Tryz.zeroValue198
  t233 := Tryz.underlying199
  a233 := Tryz.isAgg199
  z233 := Tryz.sizeOf199
  v233 := Tryz.zeroValue199
  g17 := by kernel_rfl
  g18 := by kernel_rfl
  g19 := by kernel_rfl
  i0 := by kernel_rfl
  i2 := by kernel_rfl
  i3 := by kernel_rfl
  i4 := by kernel_rfl
  i5 := by kernel_rfl
  i9 := by kernel_rfl
  i20 := by kernel_rfl
  i37 := by kernel_rfl
  i46 := by kernel_rfl
  i51 := by kernel_rfl
  i53 := by kernel_rfl
  i171 := by kernel_rfl
  i173 := by kernel_rfl
  i212 := by kernel_rfl
  i232 := by kernel_rfl
  i233 := by kernel_rfl
  m17 := by kernel_rfl
  m18 := by kernel_rfl
  m19 := by kernel_rfl }

end Go.Proofs.YtdjoafnohkmneaaGreatDoor

namespace Go.Proofs.YtdjoafnohkmneaaGreatDoor
open Go.RowKit Go.Shelf

set_option maxHeartbeats 2000000
set_option maxRecDepth 100000

section
variable {ops : Array Oper} {o : Oper} {a : Act} {w : World} {K : Act → World → Prop} {Q : Exit → Act → World → Prop} {E : Prop}
/-- A string appended, as a step of a region that draws its order. -/
theorem step_str (hgd : o.guard = none) (s x : Operand) (u : TypeId) (ho : o.op = .call { callee := .builtin .append, args := #[s, x], argTypes := #[28, u] }) (hu : Tryz.prog.underlying u = some .string) {base : Nat} {v : Value} {xs l : List UInt8}
    (hs : a.eval s = v) (hown : Own w base v xs) (hx : a.eval x = str l) (hl : xs.length + l.length ≤ 1000000) (hb : base ≤ w.heap.size)
    (h : ∀ v' w', Own w' base v' (xs ++ l) → w.grownBy w' v.ownBlock → K (a.put o.dst v') w') : if Region.wanted o (yielded ops a.tmps) = true then Oper.wp Tryz.prog o a w K Q else E := by
  obtain ⟨i0, hi, hz0, hz1, hz2⟩ := info_parts info_byte
  have hsz : (⟨l.toArray⟩ : ByteArray).size = l.length := by show l.toArray.size = _; simp
  have hw : Region.wanted o (yielded ops a.tmps) = true := by simp [Region.wanted, hgd]
  rw [if_pos hw]
  obtain ⟨v', w', hr, h2, h3, _⟩ := Lib.run_append_own_string (P := Tryz.prog) w base 28 u o.type 5 i0 Tryz.underlying28 hu hi hz0 hz1 hz2 v xs.length (bcells xs) hown ⟨l.toArray⟩ (by rw [hsz]; unfold maxLen; omega) (by rw [hsz]; omega) hb
  rw [hsz, bcells_str, ← bcells_append, ← List.length_append] at h2
  unfold Oper.wp execOp
  simp only [ho, resolve, invoke, builtin, Sem.run_bind, Sem.run_pure, Result.andThen_ok, List.map_toArray, List.map_cons, List.map_nil, hs, hx, str, hr]
  exact h v' w' h2 h3
/-- One byte appended. -/
theorem step_byte (hgd : o.guard = none) (s x : Operand) (ho : o.op = .call { callee := .builtin .append, args := #[s, x], argTypes := #[28, 28] }) {base : Nat} {v : Value} {xs : List UInt8} (c : UInt8) {ad : Addr}
    (hs : a.eval s = v) (hown : Own w base v xs) (hx : a.eval x = .slice (some ad) 1 1) (hc : ∀ j u, (bcells [c])[j]? = some u → w.cell? (ad.add j) = some u) (hl : xs.length + 1 ≤ 1000000) (hb : base ≤ w.heap.size)
    (h : ∀ v' w', Own w' base v' (xs ++ [c]) → w.grownBy w' v.ownBlock → K (a.put o.dst v') w') : if Region.wanted o (yielded ops a.tmps) = true then Oper.wp Tryz.prog o a w K Q else E := by
  obtain ⟨i0, hi, hz0, hz1, hz2⟩ := info_parts info_byte
  refine step_append_lies w hgd s x 28 ho base 5 i0 (.int .u8 0) 1 1 Tryz.underlying28 hi hz0 hz1 hz2 rfl (by omega) v xs.length (bcells xs) hs hown ad 1 1 (bcells [c]) hx (by simp [bcells]) hc (by simp [bcells, Value.oneCell']) (by omega) (by unfold maxLen; omega) (by omega) hb w.heap.size rfl ?_
  intro g cap w' h1 h2 _ _
  exact h _ _ (by unfold Own; rw [bcells_append, List.length_append]; exact h1) h2
end

/-- What write hands back: the bytes with these behind them; whatever is no row of bytes stays. -/
def WP (w W : World) (xs l : List UInt8) (e : Ending) (w' : World) : Prop :=
  ∃ sv, e = .returned sv ∧ Below w.heap.size w w' ∧ Own w' w.heap.size sv (xs ++ l) ∧ W.heap.size ≤ w'.heap.size ∧ Lib.OthersKept 5 none W w'

/-- A world in which what lies in w stays, and what is no row of bytes in X. -/
structure Kp (w X V : World) : Prop where
  b : Below w.heap.size w V
  k : Lib.OthersKept 5 none X V
  s : X.heap.size ≤ V.heap.size
theorem Kp.refl {w X : World} (h : Below w.heap.size w X) : Kp w X X := ⟨h, Lib.OthersKept.refl _ _ _, Nat.le_refl _⟩
theorem Kp.drew {w X V : World} (h : Kp w X V) : Kp w X V.drew := ⟨h.b.drew, h.k, h.s⟩
theorem Kp.alloc {w X V : World} (h : Kp w X V) (o : Obj) : Kp w X (V.alloc o) := ⟨below_alloc h.b o, fun k o' hk hn ho => by
  have h1 := h.k k o' hk hn ho
  rw [(below_new V o).block k (Array.getElem?_eq_some_iff.1 h1).1]
  exact h1, by have := h.s; simp; omega⟩
theorem Kp.grown {w X V V' : World} {sv : Value} {xs : List UInt8} (h : Kp w X V) (hs : Own V w.heap.size sv xs) (hg : V.grownBy V' sv.ownBlock) : Kp w X V' := ⟨h.b.grown hg h.b.size (fun k hk => (hs.lt k hk).1), fun k o hk hn ho => by
  have h1 := h.k k o hk hn ho
  rw [hg.block k (Array.getElem?_eq_some_iff.1 h1).1 ?_]
  · exact h1
  · intro e
    rcases hs.2 with ⟨h2, _⟩ | ⟨g, cap, cur, h2, _, hh, _⟩
    · rw [h2] at e; cases e
    · rw [h2] at e
      have e' : k = g := by simpa [Value.ownBlock] using e
      subst e'
      rw [h1] at hh
      injection hh with hh
      exact ho _ _ hh, Nat.le_trans h.s hg.size⟩
theorem Kp.on {w X V V' : World} (h : Kp w X V) (hb : Below w.heap.size w V') (hs : V.heap.size ≤ V'.heap.size) (hk : Lib.OthersKept 5 none V V') : Kp w X V' := ⟨hb, h.k.trans hk, Nat.le_trans h.s hs⟩
theorem Kp.old {w W X V : World} (h : Kp w X V) (h2 : Kp w W X) : Kp w W V := ⟨h.b, h2.k.trans h.k, Nat.le_trans h2.s h.s⟩
theorem Kp.cell {w X V : World} (h : Kp w X V) {b i : Nat} {cs : Array Value} {T : TypeId} {fr : Nat × Nat} {x : Value} (hh : X.heap[b]? = some (.cells cs T fr)) (hT : T ≠ 5) (hx : cs[i]? = some x) : V.cell? ⟨b, i, none⟩ = some x := by
  have := h.k b _ hh (by simp) (fun c fz e => hT (by injection e))
  unfold World.cell?
  rw [this]
  exact hx

/-- The value answers write: it adds these bytes. -/
def WOk (w : World) (v : Value) (l : List UInt8) : Prop :=
  ∃ T x f y, v = .iface T x ∧ (∀ W, (method 335 T x "loop.example/realizers/impl.write").run Tryz.prog W = .ok (f, y) W) ∧ (∀ args w', (callFunc f args).run Tryz.prog w' = .ok (.enter f args) w') ∧
    ∀ W, Below w.heap.size w W → ∀ sv xs, Own W w.heap.size sv xs → xs.length + l.length ≤ 1000000 → Calls Tryz.prog f #[y, sv] W (WP w W xs l)

theorem app_int (w W : World) (n : Nat) (hn : n < 100) (hS : LaidS w) (hW : Below w.heap.size w W) (sv : Value) (xs : List UInt8) (hs : Own W w.heap.size sv xs) (hl : xs.length + (Fm.dec n).length ≤ 1000000) :
    Calls Tryz.prog 147 #[sv, .int .i64 (n : Nat), .int .i64 10] W (WP w W xs (Fm.dec n)) := by
  have h := Any.strconv_AppendInt_10 laysApp w.heap.size xs.length (n : Int) (by omega) (by omega) sv (bcells xs) W hs hW.size (by omega) ((Lib.tabBelow_of_tabIs hS.tab).on hW)
  rw [itoa_dec hn] at h
  refine h.mono ?_
  rintro e w' ⟨v', rfl, ho, hb, hk⟩
  exact ⟨v', rfl, hW.trans hb, by unfold Own; rw [List.length_append, bcells_append]; exact ho, hb.size, hk⟩

theorem num_write (w W : World) (n : Nat) (hn : n < 100) (hS : LaidS w) (sv : Value) (xs : List UInt8) (hW : Below w.heap.size w W) (hs : Own W w.heap.size sv xs) (hl : xs.length + (Fm.dec n).length ≤ 1000000) :
    Calls Tryz.prog 146 #[.int .i64 (n : Nat), sv] W (WP w W xs (Fm.dec n)) := by
  have k := app_int w W n hn hS hW sv xs hs hl
  unfold WP at *
  go_enter Tryz.func146, Tryz.ntmps146
  go_wp2_with fail
  refine k.mono ?_
  rintro e w' ⟨v', rfl, hb, ho, hsz, hk⟩
  have HO := Lib.hid ho
  have HK := Lib.hid hk
  clear k ho hk
  go_wp2_with fail
  go_ret
  exact ⟨_, rfl, hb, HO.out, hsz, HK.out⟩

theorem word_write (w W : World) (n : List UInt8) (sv : Value) (xs : List UInt8) (hW : Below w.heap.size w W) (hs : Own W w.heap.size sv xs) (hl : xs.length + n.length ≤ 1000000) :
    Calls Tryz.prog 191 #[str n, sv] W (WP w W xs n) := by
  obtain ⟨i0, hi, hz0, hz1, hz2⟩ := info_parts info_byte
  have hun := Tryz.underlying28
  have hus := Tryz.underlying110
  have hm : xs.length + (⟨n.toArray⟩ : ByteArray).size ≤ maxLen := by unfold maxLen; show xs.length + n.toArray.size ≤ _; simp; omega
  have hm2 : xs.length + (⟨n.toArray⟩ : ByteArray).size ≤ 140737488355328 := by show xs.length + n.toArray.size ≤ _; simp; omega
  have hsz : (⟨n.toArray⟩ : ByteArray).size = n.length := by show n.toArray.size = _; simp
  have HSZ := Lib.hid hsz
  clear hsz
  go_enter Tryz.func191, Tryz.ntmps191
  go_wp2_with (at_builtin; refine Lib.wpList_append_own_string _ rfl _ _ 28 110 rfl w.heap.size 5 i0 hun hus hi hz0 hz1 hz2 _ _ _ rfl hs ⟨n.toArray⟩ rfl hm hm2 hW.size ?_; intro v1 w1 ho hg _; rw [HSZ.out, bcells_str] at ho; obtain ⟨hb1, ho1⟩ := own_new' hW ho hg hs; have hk1 := (Kp.refl hW).grown hs hg; clear ho hg)
  go_ret
  exact ⟨_, rfl, hb1, ho1, hk1.s, hk1.k⟩

theorem own_step {w W w' : World} {sv : Value} {xs : List UInt8} (hW : Below w.heap.size w W) (hg : W.grownBy w' sv.ownBlock) (hs : Own W w.heap.size sv xs) : Below w.heap.size w w' :=
  hW.grown hg hW.size (fun k hk => (hs.lt k hk).1)
theorem byte_new (w : World) (c : UInt8) (T : TypeId) : ∀ j u, (bcells [c])[j]? = some u → (w.alloc (.cells #[.int .u8 c.toNat] T)).cell? ((⟨w.heap.size, 0, none⟩ : Addr).add j) = some u := cell_one_new w _ _

theorem truth_write (w W : World) (sv : Value) (xs : List UInt8) (hW : Below w.heap.size w W) (hs : Own W w.heap.size sv xs) (hl : xs.length + 3 ≤ 1000000) :
    Calls Tryz.prog 154 #[.agg #[], sv] W (WP w W xs Fm.wTop) := by
  obtain ⟨i0, hi, hz0, hz1, hz2⟩ := info_parts info_byte
  have hun := Tryz.underlying28
  have hus := Tryz.underlying9
  have hm : xs.length + (⟨#[116, 111, 112]⟩ : ByteArray).size ≤ maxLen := by unfold maxLen; show xs.length + 3 ≤ _; omega
  have hm2 : xs.length + (⟨#[116, 111, 112]⟩ : ByteArray).size ≤ 140737488355328 := by show xs.length + 3 ≤ _; omega
  go_enter Tryz.func154, Tryz.ntmps154
  go_wp2_with (at_builtin; refine Lib.wpList_append_own_string _ rfl _ _ 28 9 rfl w.heap.size 5 i0 hun hus hi hz0 hz1 hz2 _ _ _ rfl (World.ownsRow.alloc hs _) ⟨#[116, 111, 112]⟩ rfl hm hm2 (below_alloc hW _).size ?_; intro v1 w1 ho hg _; rw [show Lib.strCells ⟨#[116, 111, 112]⟩ = bcells Fm.wTop from rfl] at ho; obtain ⟨hb1, ho1⟩ := own_new (l := Fm.wTop) hW ho hg hs; have hk1 := ((Kp.refl hW).alloc _).grown (World.ownsRow.alloc hs _) hg; clear ho hg)
  go_ret
  exact ⟨_, rfl, hb1, ho1, hk1.s, hk1.k⟩
theorem falsity_write (w W : World) (sv : Value) (xs : List UInt8) (hW : Below w.heap.size w W) (hs : Own W w.heap.size sv xs) (hl : xs.length + 3 ≤ 1000000) :
    Calls Tryz.prog 187 #[.agg #[], sv] W (WP w W xs Fm.wBot) := by
  obtain ⟨i0, hi, hz0, hz1, hz2⟩ := info_parts info_byte
  have hun := Tryz.underlying28
  have hus := Tryz.underlying9
  have hm : xs.length + (⟨#[98, 111, 116]⟩ : ByteArray).size ≤ maxLen := by unfold maxLen; show xs.length + 3 ≤ _; omega
  have hm2 : xs.length + (⟨#[98, 111, 116]⟩ : ByteArray).size ≤ 140737488355328 := by show xs.length + 3 ≤ _; omega
  go_enter Tryz.func187, Tryz.ntmps187
  go_wp2_with (at_builtin; refine Lib.wpList_append_own_string _ rfl _ _ 28 9 rfl w.heap.size 5 i0 hun hus hi hz0 hz1 hz2 _ _ _ rfl (World.ownsRow.alloc hs _) ⟨#[98, 111, 116]⟩ rfl hm hm2 (below_alloc hW _).size ?_; intro v1 w1 ho hg _; rw [show Lib.strCells ⟨#[98, 111, 116]⟩ = bcells Fm.wBot from rfl] at ho; obtain ⟨hb1, ho1⟩ := own_new (l := Fm.wBot) hW ho hg hs; have hk1 := ((Kp.refl hW).alloc _).grown (World.ownsRow.alloc hs _) hg; clear ho hg)
  go_ret
  exact ⟨_, rfl, hb1, ho1, hk1.s, hk1.k⟩
end Go.Proofs.YtdjoafnohkmneaaGreatDoor

namespace Go.Proofs.YtdjoafnohkmneaaGreatDoor
open Go.RowKit Go.Shelf

set_option maxHeartbeats 2000000
set_option maxRecDepth 100000

theorem equality_write (w W : World) (T1 T2 : TypeId) (x1 x2 : Value) (l1 l2 : List UInt8) (sv : Value) (xs : List UInt8) (hW : Below w.heap.size w W) (h1 : WOk w (.iface T1 x1) l1) (h2 : WOk w (.iface T2 x2) l2) (hs : Own W w.heap.size sv xs)
    (hl : xs.length + (6 + l1.length + l2.length) ≤ 1000000) :
    Calls Tryz.prog 159 #[.agg #[.iface T1 x1, .iface T2 x2], sv] W (WP w W xs (40 :: (Fm.wEq ++ 32 :: (l1 ++ 32 :: (l2 ++ [41]))))) := by
  obtain ⟨_, _, f1, y1, e0, m1, n1, d1⟩ := h1
  injection e0 with ea eb
  subst ea; subst eb
  obtain ⟨_, _, f2, y2, e0, m2, n2, d2⟩ := h2
  injection e0 with ea eb
  subst ea; subst eb
  obtain ⟨i0, hi, hz0, hz1, hz2⟩ := info_parts info_byte
  have hun := Tryz.underlying28
  have hus := Tryz.underlying9
  obtain ⟨X, hX⟩ : ∃ X, X = W.alloc (.cells #[.iface T1 x1, .iface T2 x2] 88) := ⟨_, rfl⟩
  have hXh : X.heap[W.heap.size]? = some (.cells #[.iface T1 x1, .iface T2 x2] 88 (0, 0)) := by rw [hX]; exact heap_new' _ _
  have hXK : Kp w W X := by rw [hX]; exact (Kp.refl hW).alloc _
  have p0 : ∀ V, Kp w X V → V.cell? ⟨W.heap.size, 0, none⟩ = some (.iface T1 x1) := fun V hV => hV.cell (i := 0) hXh (by decide) rfl
  have p1 : ∀ V, Kp w X V → V.cell? ⟨W.heap.size, 1, none⟩ = some (.iface T2 x2) := fun V hV => hV.cell (i := 1) hXh (by decide) rfl
  have hs0 : Own X w.heap.size sv xs := by rw [hX]; exact World.ownsRow.alloc hs _
  have hself : Kp w X X := Kp.refl hXK.b
  have HX := Lib.hid hX
  have HXK := Lib.hid hXK
  clear hXh hXK hs hW
  unfold WP at d1 d2
  go_enter Tryz.func159, Tryz.ntmps159
  clear hX
  go_wp2_with fail
  try rw [← HX.out]
  have hs0' : Own X.drew w.heap.size sv xs := World.ownsRow.drew hs0
  go_region_held3 (fun W' => Kp w X W') (first | assumption | exact hself.drew | go_keep)
    (first
      | (refine step_str (by rfl) _ _ 9 (by rfl) hus (l := [40, 101, 113, 32]) (by rfl) (by first | exact hs0' | exact hs0) (by rfl) (by simp; omega) hself.b.size ?_; intro v1 w1 ho1 hg1; have hk1 : Kp w X w1 := (hself.drew).grown hs0' (by exact hg1))
      | (go_at_fn f1; refine (d1 _ (by exact hk1.b) _ _ ho1 ?_).mono ?_; (simp; omega); rintro e w2 ⟨v2, rfl, hb2, ho2, hzz2, hq2⟩; have hk2 : Kp w X w2 := hk1.on hb2 hzz2 hq2))
  clear hs0' hs0 hself ho1 hg1 hk1 hb2 hzz2 hq2
  obtain ⟨ys, hys⟩ : ∃ ys, ys = xs ++ [40, 101, 113, 32] ++ l1 := ⟨_, rfl⟩
  rw [← hys] at ho2
  have hlys : ys.length ≤ xs.length + 4 + l1.length := by rw [hys]; simp; omega
  have Hys := Lib.hid hys
  clear hys
  have hsB2 : Own ((w2.alloc (.cells #[.int .u8 32] 5)).drew) w.heap.size v2 ys := World.ownsRow.drew (World.ownsRow.alloc ho2 _)
  have hkB2 : Kp w X ((w2.alloc (.cells #[.int .u8 32] 5)).drew) := (hk2.alloc _).drew
  go_wp2_with fail
  go_region_held3 (fun W' => Kp w X W') (first | assumption | exact hk2.drew | exact (hk2.alloc _).drew | go_keep)
    (first
      | (refine step_byte (by rfl) _ _ (by rfl) 32 (ad := ⟨w2.heap.size, 0, none⟩) (by rfl) (by exact hsB2) (by rfl) (by exact byte_new w2 32 _) (by omega) hkB2.b.size ?_; intro vB2 wB2 hoB2 hgB2; have hkC2 : Kp w X wB2 := hkB2.grown hsB2 (by exact hgB2))
      | (go_at_fn f2; refine (d2 _ (by exact hkC2.b) _ _ hoB2 ?_).mono ?_; (simp; omega); rintro e w4 ⟨v4, rfl, hbD2, ho4, hzD2, hqD2⟩; have hk4 : Kp w X w4 := hkC2.on hbD2 hzD2 hqD2))
  clear hsB2 hkB2 hoB2 hgB2 hkC2 hbD2 hzD2 hqD2
  obtain ⟨zs, hzs⟩ : ∃ zs, zs = ys ++ [32] ++ l2 := ⟨_, rfl⟩
  rw [← hzs] at ho4
  have hlzs : zs.length ≤ ys.length + 1 + l2.length := by rw [hzs]; simp; omega
  have Hzs := Lib.hid hzs
  clear hzs
  have m3 : zs.length + 1 ≤ maxLen := by unfold maxLen; omega
  have hb4 := hk4.b
  go_wp2_with (at_builtin; refine wpList_append_own _ rfl _ _ 28 rfl w.heap.size 5 i0 (.int .u8 0) 1 1 hun hi hz0 hz1 hz2 rfl (by decide) _ _ _ rfl (World.ownsRow.alloc ho4 _) ⟨w4.heap.size, 0, none⟩ 1 1 (bcells [41]) rfl rfl (cell_one_new _ _ _) (by simp [bcells, Value.oneCell']) m3 (by omega) (below_alloc hb4 _).size ?_; intro v5 w5 ho hg _; obtain ⟨hb5, ho5⟩ := own_new hb4 ho hg ho4; have hk5 := (hk4.alloc _).grown (World.ownsRow.alloc ho4 _) hg; clear ho hg)
  go_ret
  have hk6 := hk5.old HXK.out
  refine ⟨_, rfl, hb5, ?_, hk6.s, hk6.k⟩
  rw [Hzs.out, Hys.out] at ho5
  simpa [Fm.wEq, List.append_assoc] using ho5
end Go.Proofs.YtdjoafnohkmneaaGreatDoor

namespace Go.Proofs.YtdjoafnohkmneaaGreatDoor
open Go.RowKit Go.Shelf

set_option maxHeartbeats 2000000
set_option maxRecDepth 100000

theorem joined_write (w W : World) (T1 T2 : TypeId) (x1 x2 : Value) (word l1 l2 : List UInt8) (sv : Value) (xs : List UInt8) (hwl : word.length ≤ 3) (hW : Below w.heap.size w W) (h1 : WOk w (.iface T1 x1) l1) (h2 : WOk w (.iface T2 x2) l2) (hs : Own W w.heap.size sv xs)
    (hl : xs.length + (4 + word.length + l1.length + l2.length) ≤ 1000000) :
    Calls Tryz.prog 166 #[.agg #[.iface T1 x1, .iface T2 x2], sv, str word] W (WP w W xs (40 :: (word ++ 32 :: (l1 ++ 32 :: (l2 ++ [41]))))) := by
  obtain ⟨_, _, f1, y1, e0, m1, n1, d1⟩ := h1
  injection e0 with ea eb
  subst ea; subst eb
  obtain ⟨_, _, f2, y2, e0, m2, n2, d2⟩ := h2
  injection e0 with ea eb
  subst ea; subst eb
  obtain ⟨i0, hi, hz0, hz1, hz2⟩ := info_parts info_byte
  have hun := Tryz.underlying28
  have hus := Tryz.underlying9
  obtain ⟨X, hX⟩ : ∃ X, X = W.alloc (.cells #[.iface T1 x1, .iface T2 x2] 90) := ⟨_, rfl⟩
  have hXh : X.heap[W.heap.size]? = some (.cells #[.iface T1 x1, .iface T2 x2] 90 (0, 0)) := by rw [hX]; exact heap_new' _ _
  have hXK : Kp w W X := by rw [hX]; exact (Kp.refl hW).alloc _
  have p0 : ∀ V, Kp w X V → V.cell? ⟨W.heap.size, 0, none⟩ = some (.iface T1 x1) := fun V hV => hV.cell (i := 0) hXh (by decide) rfl
  have p1 : ∀ V, Kp w X V → V.cell? ⟨W.heap.size, 1, none⟩ = some (.iface T2 x2) := fun V hV => hV.cell (i := 1) hXh (by decide) rfl
  have hs0 : Own X w.heap.size sv xs := by rw [hX]; exact World.ownsRow.alloc hs _
  have hself : Kp w X X := Kp.refl hXK.b
  have HX := Lib.hid hX
  have HXK := Lib.hid hXK
  clear hXh hXK hs hW
  unfold WP at d1 d2
  have m0 : xs.length + 1 ≤ maxLen := by unfold maxLen; omega
  have hwz : (⟨word.toArray⟩ : ByteArray).size = word.length := by show word.toArray.size = _; simp
  have hm1 : (xs ++ [40]).length + (⟨word.toArray⟩ : ByteArray).size ≤ maxLen := by rw [hwz]; unfold maxLen; simp; omega
  have hm2 : (xs ++ [40]).length + (⟨word.toArray⟩ : ByteArray).size ≤ 140737488355328 := by rw [hwz]; simp; omega
  have HWZ := Lib.hid hwz
  have hs0L := hs0
  have hselfL := hself
  rw [HX.out] at hs0L hselfL
  have hcL := byte_new (W.alloc (.cells #[.iface T1 x1, .iface T2 x2] 90)) 40 5
  have hbL := (below_alloc hselfL.b (.cells #[.int .u8 40] 5)).size
  rw [show (W.alloc (.cells #[.iface T1 x1, .iface T2 x2] 90)).heap.size = W.heap.size + 1 by simp] at hcL
  have HCL := Lib.hid hcL
  have HBL := Lib.hid hbL
  have HSL := Lib.hid hs0L
  have HSF := Lib.hid hselfL
  clear hcL hbL hs0L hselfL
  clear hwz hs0 hself
  go_enter Tryz.func166, Tryz.ntmps166
  clear hX
  go_wp2_with (first
    | (at_builtin; refine wpList_append_own _ rfl _ _ 28 rfl w.heap.size 5 i0 (.int .u8 0) 1 1 hun hi hz0 hz1 hz2 rfl (by decide) _ _ _ rfl (World.ownsRow.alloc HSL.out _) ⟨W.heap.size + 1, 0, none⟩ 1 1 (bcells [40]) rfl rfl HCL.out (by simp [bcells, Value.oneCell']) m0 (by omega) HBL.out ?_; intro v1 w1 ho hg _; obtain ⟨hb1, ho1⟩ := own_new HSF.out.b ho hg HSL.out; have hk1 := (HSF.out.alloc _).grown (World.ownsRow.alloc HSL.out _) hg; clear ho hg)
    | (at_builtin; refine Lib.wpList_append_own_string _ rfl _ _ 28 9 rfl w.heap.size 5 i0 hun hus hi hz0 hz1 hz2 _ _ _ rfl ho1 ⟨word.toArray⟩ rfl hm1 hm2 hb1.size ?_; intro v2 w2 ho hg _; rw [HWZ.out, bcells_str] at ho; obtain ⟨hb2, ho2⟩ := own_new' hb1 ho hg ho1; have hk2 := hk1.grown ho1 hg; clear ho hg))
  have hk2x : Kp w X w2 := by rw [HX.out]; exact hk2
  clear hk1 ho1 hb1 hb2 hk2 HCL HBL HSL HSF hm1 hm2 m0
  obtain ⟨ys, hys⟩ : ∃ ys, ys = xs ++ [40] ++ word := ⟨_, rfl⟩
  rw [← hys] at ho2
  have hlys : ys.length ≤ xs.length + 1 + word.length := by rw [hys]; simp; omega
  have Hys := Lib.hid hys
  clear hys
  have hsB2 : Own ((w2.alloc (.cells #[.int .u8 32] 5)).drew) w.heap.size v2 ys := World.ownsRow.drew (World.ownsRow.alloc ho2 _)
  have hkB2 : Kp w X ((w2.alloc (.cells #[.int .u8 32] 5)).drew) := (hk2x.alloc _).drew
  go_wp2_with fail
  go_region_held3 (fun W' => Kp w X W') (first | assumption | exact hk2x.drew | exact (hk2x.alloc _).drew | go_keep)
    (first
      | (refine step_byte (by rfl) _ _ (by rfl) 32 (ad := ⟨w2.heap.size, 0, none⟩) (by rfl) (by exact hsB2) (by rfl) (by exact byte_new w2 32 _) (by omega) hkB2.b.size ?_; intro vB2 wB2 hoB2 hgB2; have hkC2 : Kp w X wB2 := hkB2.grown hsB2 (by exact hgB2))
      | (go_at_fn f1; refine (d1 _ (by exact hkC2.b) _ _ hoB2 ?_).mono ?_; (simp; omega); rintro e w4 ⟨v4, rfl, hbD2, ho4, hzD2, hqD2⟩; have hk4 : Kp w X w4 := hkC2.on hbD2 hzD2 hqD2))
  clear hsB2 hkB2 hoB2 hgB2 hkC2 hbD2 hzD2 hqD2
  obtain ⟨zs, hzs⟩ : ∃ zs, zs = ys ++ [32] ++ l1 := ⟨_, rfl⟩
  rw [← hzs] at ho4
  have hlzs : zs.length ≤ ys.length + 1 + l1.length := by rw [hzs]; simp; omega
  have Hzs := Lib.hid hzs
  clear hzs
  have hsB3 : Own ((w4.alloc (.cells #[.int .u8 32] 5)).drew) w.heap.size v4 zs := World.ownsRow.drew (World.ownsRow.alloc ho4 _)
  have hkB3 : Kp w X ((w4.alloc (.cells #[.int .u8 32] 5)).drew) := (hk4.alloc _).drew
  go_wp2_with fail
  go_region_held3 (fun W' => Kp w X W') (first | assumption | exact hk4.drew | exact (hk4.alloc _).drew | go_keep)
    (first
      | (refine step_byte (by rfl) _ _ (by rfl) 32 (ad := ⟨w4.heap.size, 0, none⟩) (by rfl) (by exact hsB3) (by rfl) (by exact byte_new w4 32 _) (by omega) hkB3.b.size ?_; intro vB3 wB3 hoB3 hgB3; have hkC3 : Kp w X wB3 := hkB3.grown hsB3 (by exact hgB3))
      | (go_at_fn f2; refine (d2 _ (by exact hkC3.b) _ _ hoB3 ?_).mono ?_; (simp; omega); rintro e w6 ⟨v6, rfl, hbD3, ho6, hzD3, hqD3⟩; have hk6 : Kp w X w6 := hkC3.on hbD3 hzD3 hqD3))
  clear hsB3 hkB3 hoB3 hgB3 hkC3 hbD3 hzD3 hqD3
  obtain ⟨us, hus⟩ : ∃ us, us = zs ++ [32] ++ l2 := ⟨_, rfl⟩
  rw [← hus] at ho6
  have hlus : us.length ≤ zs.length + 1 + l2.length := by rw [hus]; simp; omega
  have Hus := Lib.hid hus
  clear hus
  have m3 : us.length + 1 ≤ maxLen := by unfold maxLen; omega
  have hb4 := hk6.b
  go_wp2_with (at_builtin; refine wpList_append_own _ rfl _ _ 28 rfl w.heap.size 5 i0 (.int .u8 0) 1 1 hun hi hz0 hz1 hz2 rfl (by decide) _ _ _ rfl (World.ownsRow.alloc ho6 _) ⟨w6.heap.size, 0, none⟩ 1 1 (bcells [41]) rfl rfl (cell_one_new _ _ _) (by simp [bcells, Value.oneCell']) m3 (by omega) (below_alloc hb4 _).size ?_; intro v5 w5 ho hg _; obtain ⟨hb5, ho5⟩ := own_new hb4 ho hg ho6; have hk5 := (hk6.alloc _).grown (World.ownsRow.alloc ho6 _) hg; clear ho hg)
  go_ret
  have hk7 := hk5.old HXK.out
  refine ⟨_, rfl, hb5, ?_, hk7.s, hk7.k⟩
  rw [Hus.out, Hzs.out, Hys.out] at ho5
  simpa [List.append_assoc] using ho5
end Go.Proofs.YtdjoafnohkmneaaGreatDoor

namespace Go.Proofs.YtdjoafnohkmneaaGreatDoor
open Go.RowKit Go.Shelf

set_option maxHeartbeats 2000000
set_option maxRecDepth 100000

theorem bound_write (w W : World) (T1 : TypeId) (x1 : Value) (n : Nat) (x word l1 : List UInt8) (sv : Value) (xs : List UInt8) (hn : n < 100) (hS : LaidS w) (hwl : word.length ≤ 3) (hW : Below w.heap.size w W) (h1 : WOk w (.iface T1 x1) l1) (hs : Own W w.heap.size sv xs)
    (hl : xs.length + (5 + word.length + x.length + (Fm.dec n).length + l1.length) ≤ 1000000) :
    Calls Tryz.prog 180 #[.agg #[str x, .int .i64 (n : Nat), .iface T1 x1], sv, str word] W (WP w W xs (40 :: (word ++ 32 :: (x ++ 32 :: (Fm.dec n ++ 32 :: (l1 ++ [41])))))) := by
  have hdl : (Fm.dec n).length ≤ 2 := by unfold Fm.dec; split <;> simp
  obtain ⟨_, _, f1, y1, e0, m1, n1, d1⟩ := h1
  injection e0 with ea eb
  subst ea; subst eb
  obtain ⟨i0, hi, hz0, hz1, hz2⟩ := info_parts info_byte
  have hun := Tryz.underlying28
  have hus := Tryz.underlying9
  obtain ⟨X, hX⟩ : ∃ X, X = W.alloc (.cells #[str x, .int .i64 (n : Nat), .iface T1 x1] 96) := ⟨_, rfl⟩
  have hXh : X.heap[W.heap.size]? = some (.cells #[str x, .int .i64 (n : Nat), .iface T1 x1] 96 (0, 0)) := by rw [hX]; exact heap_new' _ _
  have hXK : Kp w W X := by rw [hX]; exact (Kp.refl hW).alloc _
  have p0 : ∀ V, Kp w X V → V.cell? ⟨W.heap.size, 0, none⟩ = some (str x) := fun V hV => hV.cell (i := 0) hXh (by decide) rfl
  have p1 : ∀ V, Kp w X V → V.cell? ⟨W.heap.size, 1, none⟩ = some (.int .i64 (n : Nat)) := fun V hV => hV.cell (i := 1) hXh (by decide) rfl
  have p2 : ∀ V, Kp w X V → V.cell? ⟨W.heap.size, 2, none⟩ = some (.iface T1 x1) := fun V hV => hV.cell (i := 2) hXh (by decide) rfl
  have hs0 : Own X w.heap.size sv xs := by rw [hX]; exact World.ownsRow.alloc hs _
  have hself : Kp w X X := Kp.refl hXK.b
  have HX := Lib.hid hX
  have HXK := Lib.hid hXK
  clear hXh hXK hs hW
  have happ := fun V hV => app_int w V n hn hS hV
  unfold WP at d1 happ
  have m0 : xs.length + 1 ≤ maxLen := by unfold maxLen; omega
  have hwz : (⟨word.toArray⟩ : ByteArray).size = word.length := by show word.toArray.size = _; simp
  have hm1 : (xs ++ [40]).length + (⟨word.toArray⟩ : ByteArray).size ≤ maxLen := by rw [hwz]; unfold maxLen; simp; omega
  have hm2 : (xs ++ [40]).length + (⟨word.toArray⟩ : ByteArray).size ≤ 140737488355328 := by rw [hwz]; simp; omega
  have HWZ := Lib.hid hwz
  have hs0L := hs0
  have hselfL := hself
  rw [HX.out] at hs0L hselfL
  have hcL := byte_new (W.alloc (.cells #[str x, .int .i64 (n : Nat), .iface T1 x1] 96)) 40 5
  have hbL := (below_alloc hselfL.b (.cells #[.int .u8 40] 5)).size
  rw [show (W.alloc (.cells #[str x, .int .i64 (n : Nat), .iface T1 x1] 96)).heap.size = W.heap.size + 1 by simp] at hcL
  have HCL := Lib.hid hcL
  have HBL := Lib.hid hbL
  have HSL := Lib.hid hs0L
  have HSF := Lib.hid hselfL
  clear hcL hbL hs0L hselfL
  clear hwz hs0 hself
  go_enter Tryz.func180, Tryz.ntmps180
  clear hX
  go_wp2_with (first
    | (at_builtin; refine wpList_append_own _ rfl _ _ 28 rfl w.heap.size 5 i0 (.int .u8 0) 1 1 hun hi hz0 hz1 hz2 rfl (by decide) _ _ _ rfl (World.ownsRow.alloc HSL.out _) ⟨W.heap.size + 1, 0, none⟩ 1 1 (bcells [40]) rfl rfl HCL.out (by simp [bcells, Value.oneCell']) m0 (by omega) HBL.out ?_; intro v1 w1 ho hg _; obtain ⟨hb1, ho1⟩ := own_new HSF.out.b ho hg HSL.out; have hk1 := (HSF.out.alloc _).grown (World.ownsRow.alloc HSL.out _) hg; clear ho hg)
    | (at_builtin; refine Lib.wpList_append_own_string _ rfl _ _ 28 9 rfl w.heap.size 5 i0 hun hus hi hz0 hz1 hz2 _ _ _ rfl ho1 ⟨word.toArray⟩ rfl hm1 hm2 hb1.size ?_; intro v2 w2 ho hg _; rw [HWZ.out, bcells_str] at ho; obtain ⟨hb2, ho2⟩ := own_new' hb1 ho hg ho1; have hk2 := hk1.grown ho1 hg; clear ho hg))
  have hk2x : Kp w X w2 := by rw [HX.out]; exact hk2
  clear hk1 ho1 hb1 hb2 hk2 HCL HBL HSL HSF hm1 hm2 m0
  obtain ⟨ys, hys⟩ : ∃ ys, ys = xs ++ [40] ++ word := ⟨_, rfl⟩
  rw [← hys] at ho2
  have hlys : ys.length ≤ xs.length + 1 + word.length := by rw [hys]; simp; omega
  have Hys := Lib.hid hys
  clear hys
  have hsE : Own ((w2.alloc (.cells #[.int .u8 32] 5)).drew) w.heap.size v2 ys := World.ownsRow.drew (World.ownsRow.alloc ho2 _)
  have hkE : Kp w X ((w2.alloc (.cells #[.int .u8 32] 5)).drew) := (hk2x.alloc _).drew
  go_wp2_with fail
  go_region_held3 (fun W' => Kp w X W') (first | assumption | exact hk2x.drew | exact (hk2x.alloc _).drew | go_keep)
    (first
      | (refine step_byte (by rfl) _ _ (by rfl) 32 (ad := ⟨w2.heap.size, 0, none⟩) (by rfl) (by exact hsE) (by rfl) (by exact byte_new w2 32 _) (by omega) hkE.b.size ?_; intro vE wE hoE hgE; have hkF : Kp w X wE := hkE.grown hsE (by exact hgE))
      | (refine step_str (by rfl) _ _ 9 (by rfl) hus (l := x) (by rfl) (by exact hoE) (by rfl) (by simp; omega) hkF.b.size ?_; intro v3 w3 ho3 hg3; have hk3 : Kp w X w3 := hkF.grown hoE (by exact hg3)))
  clear hsE hkE hoE hgE hkF hg3
  obtain ⟨zs, hzs⟩ : ∃ zs, zs = ys ++ [32] ++ x := ⟨_, rfl⟩
  rw [← hzs] at ho3
  have hlzs : zs.length ≤ ys.length + 1 + x.length := by rw [hzs]; simp; omega
  have Hzs := Lib.hid hzs
  clear hzs
  have hsB4 : Own ((w3.alloc (.cells #[.int .u8 32] 5)).drew) w.heap.size v3 zs := World.ownsRow.drew (World.ownsRow.alloc ho3 _)
  have hkB4 : Kp w X ((w3.alloc (.cells #[.int .u8 32] 5)).drew) := (hk3.alloc _).drew
  go_wp2_with fail
  go_region_held3 (fun W' => Kp w X W') (first | assumption | exact hk3.drew | exact (hk3.alloc _).drew | go_keep)
    (first
      | (refine step_byte (by rfl) _ _ (by rfl) 32 (ad := ⟨w3.heap.size, 0, none⟩) (by rfl) (by exact hsB4) (by rfl) (by exact byte_new w3 32 _) (by omega) hkB4.b.size ?_; intro vB4 wB4 hoB4 hgB4; have hkC4 : Kp w X wB4 := hkB4.grown hsB4 (by exact hgB4))
      | (go_at_call 147; refine (happ _ (by exact hkC4.b) _ _ hoB4 ?_).mono ?_; (simp; omega); rintro e w4 ⟨v4, rfl, hbD4, ho4, hzD4, hqD4⟩; have hk4 : Kp w X w4 := hkC4.on hbD4 hzD4 hqD4))
  clear hsB4 hkB4 hoB4 hgB4 hkC4 hbD4 hzD4 hqD4
  obtain ⟨us, hus⟩ : ∃ us, us = zs ++ [32] ++ Fm.dec n := ⟨_, rfl⟩
  rw [← hus] at ho4
  have hlus : us.length ≤ zs.length + 1 + (Fm.dec n).length := by rw [hus]; simp; omega
  have Hus := Lib.hid hus
  clear hus
  have hsB5 : Own ((w4.alloc (.cells #[.int .u8 32] 5)).drew) w.heap.size v4 us := World.ownsRow.drew (World.ownsRow.alloc ho4 _)
  have hkB5 : Kp w X ((w4.alloc (.cells #[.int .u8 32] 5)).drew) := (hk4.alloc _).drew
  go_wp2_with fail
  go_region_held3 (fun W' => Kp w X W') (first | assumption | exact hk4.drew | exact (hk4.alloc _).drew | go_keep)
    (first
      | (refine step_byte (by rfl) _ _ (by rfl) 32 (ad := ⟨w4.heap.size, 0, none⟩) (by rfl) (by exact hsB5) (by rfl) (by exact byte_new w4 32 _) (by omega) hkB5.b.size ?_; intro vB5 wB5 hoB5 hgB5; have hkC5 : Kp w X wB5 := hkB5.grown hsB5 (by exact hgB5))
      | (go_at_fn f1; refine (d1 _ (by exact hkC5.b) _ _ hoB5 ?_).mono ?_; (simp; omega); rintro e w6 ⟨v6, rfl, hbD5, ho6, hzD5, hqD5⟩; have hk6 : Kp w X w6 := hkC5.on hbD5 hzD5 hqD5))
  clear hsB5 hkB5 hoB5 hgB5 hkC5 hbD5 hzD5 hqD5
  obtain ⟨ts, hts⟩ : ∃ ts, ts = us ++ [32] ++ l1 := ⟨_, rfl⟩
  rw [← hts] at ho6
  have hlts : ts.length ≤ us.length + 1 + l1.length := by rw [hts]; simp; omega
  have Hts := Lib.hid hts
  clear hts
  have m3 : ts.length + 1 ≤ maxLen := by unfold maxLen; omega
  have hb4 := hk6.b
  go_wp2_with (at_builtin; refine wpList_append_own _ rfl _ _ 28 rfl w.heap.size 5 i0 (.int .u8 0) 1 1 hun hi hz0 hz1 hz2 rfl (by decide) _ _ _ rfl (World.ownsRow.alloc ho6 _) ⟨w6.heap.size, 0, none⟩ 1 1 (bcells [41]) rfl rfl (cell_one_new _ _ _) (by simp [bcells, Value.oneCell']) m3 (by omega) (below_alloc hb4 _).size ?_; intro v5 w5 ho hg _; obtain ⟨hb5, ho5⟩ := own_new hb4 ho hg ho6; have hk5 := (hk6.alloc _).grown (World.ownsRow.alloc ho6 _) hg; clear ho hg)
  go_ret
  have hk7 := hk5.old HXK.out
  refine ⟨_, rfl, hb5, ?_, hk7.s, hk7.k⟩
  rw [Hts.out, Hus.out, Hzs.out, Hys.out] at ho5
  simpa [List.append_assoc] using ho5
end Go.Proofs.YtdjoafnohkmneaaGreatDoor

namespace Go.Proofs.YtdjoafnohkmneaaGreatDoor
open Go.RowKit Go.Shelf

set_option maxHeartbeats 2000000
set_option maxRecDepth 100000

/-- The interface value holds no nil pointer: its method write may be taken. -/
def NAh (v : Value) : Prop := ∃ T x, v = .iface T x ∧ ∀ W, (nilAhead 335 T x "loop.example/realizers/impl.write").run Tryz.prog W = .ok (some false) W
theorem EV.nah {w : World} {B : Nat} : ∀ {e : Ex} {v : Value}, EV w B e v → NAh v
  | .num n, _, h => ⟨_, _, h, fun _ => by kernel_rfl⟩
  | .var x, _, h => ⟨_, _, h, fun _ => by kernel_rfl⟩
  | .suc e, _, ⟨_, _, _, _, _, h, _⟩ => ⟨_, _, h, fun _ => by kernel_rfl⟩
  | .add e f, _, ⟨_, _, _, _, _, _, h, _⟩ => ⟨_, _, h, fun _ => by kernel_rfl⟩
  | .mul e f, _, ⟨_, _, _, _, _, _, h, _⟩ => ⟨_, _, h, fun _ => by kernel_rfl⟩

theorem op_write (w W : World) (word : List UInt8) (b cap n : Nat) (ls : List (List UInt8)) (sv : Value) (xs : List UInt8) (hwl : word.length ≤ 3) (hn : n = ls.length) (hn2 : n ≤ 2) (hW : Below w.heap.size w W) (hs : Own W w.heap.size sv xs)
    (hx : ∀ j (h : j < ls.length), ∃ x, w.cell? ⟨b, j, none⟩ = some x ∧ WOk w x ls[j] ∧ NAh x) (hl : xs.length + (5 + (ls.flatMap fun l => 32 :: l).length) ≤ 1000000) :
    Calls Tryz.prog 195 #[.agg #[str word, .slice (some ⟨b, 0, none⟩) n cap], sv] W (WP w W xs (40 :: (word ++ ((ls.flatMap fun l => 32 :: l) ++ [41])))) := by
  subst hn
  obtain ⟨i0, hi, hz0, hz1, hz2⟩ := info_parts info_byte
  have hun := Tryz.underlying28
  have hus := Tryz.underlying9
  obtain ⟨X, hX⟩ : ∃ X, X = W.alloc (.cells #[str word, .slice (some ⟨b, 0, none⟩) ls.length cap] 123) := ⟨_, rfl⟩
  have hXh : X.heap[W.heap.size]? = some (.cells #[str word, .slice (some ⟨b, 0, none⟩) ls.length cap] 123 (0, 0)) := by rw [hX]; exact heap_new' _ _
  have hXK : Kp w W X := by rw [hX]; exact (Kp.refl hW).alloc _
  have p0 : ∀ V, Kp w X V → V.cell? ⟨W.heap.size, 0, none⟩ = some (str word) := fun V hV => hV.cell (i := 0) hXh (by decide) rfl
  have p1 : ∀ V, Kp w X V → V.cell? ⟨W.heap.size, 1, none⟩ = some (.slice (some ⟨b, 0, none⟩) ls.length cap) := fun V hV => hV.cell (i := 1) hXh (by decide) rfl
  have hs0 : Own X w.heap.size sv xs := by rw [hX]; exact World.ownsRow.alloc hs _
  have hself : Kp w X X := Kp.refl hXK.b
  have HX := Lib.hid hX
  have HXK := Lib.hid hXK
  clear hXh hXK hs hW
  obtain ⟨F, hF⟩ : ∃ F, F = (ls.flatMap fun l => 32 :: l).length := ⟨_, rfl⟩
  rw [← hF] at hl
  have HF := Lib.hid hF
  clear hF
  have HXX := Lib.hid hx
  have HP1 := Lib.hid p1
  clear hx p1
  go_enter Tryz.func195, Tryz.ntmps195
  clear hX
  go_wp2_with fail
  try rw [← HX.out]
  have hsE : Own ((X.alloc (.cells #[.int .u8 40] 5)).drew) w.heap.size sv xs := World.ownsRow.drew (World.ownsRow.alloc hs0 _)
  have hkE : Kp w X ((X.alloc (.cells #[.int .u8 40] 5)).drew) := (hself.alloc _).drew
  go_region_held3 (fun W' => Kp w X W') (first | assumption | exact hself.drew | exact (hself.alloc _).drew | go_keep)
    (first
      | (refine step_byte (by rfl) _ _ (by rfl) 40 (ad := ⟨X.heap.size, 0, none⟩) (by rfl) (by exact hsE) (by rfl) (by exact byte_new X 40 _) (by omega) hkE.b.size ?_; intro vE wE hoE hgE; have hkF : Kp w X wE := hkE.grown hsE (by exact hgE))
      | (refine step_str (by rfl) _ _ 9 (by rfl) hus (l := word) (by rfl) (by exact hoE) (by rfl) (by simp; omega) hkF.b.size ?_; intro v3 w3 ho3 hg3; have hk3 : Kp w X w3 := hkF.grown hoE (by exact hg3)))
  clear hsE hkE hoE hgE hkF hg3 hs0 hself
  obtain ⟨ys, hys⟩ : ∃ ys, ys = xs ++ [40] ++ word := ⟨_, rfl⟩
  rw [← hys] at ho3
  have hlys : ys.length ≤ xs.length + 4 := by rw [hys]; simp; omega
  have Hys := Lib.hid hys
  clear hys
  have q1 := HP1.out w3 hk3
  have HK3 := Lib.hid hk3
  have HO3 := Lib.hid ho3
  clear hk3 ho3
  go_wp2_with fail
  go_loopw [1, 16] (fun v i wr => ∃ (k : Nat) (u : Value), i = .int .i64 k ∧ u = v ∧ k ≤ ls.length ∧ Hid (Kp w X wr) ∧ Hid (Own wr w.heap.size u (ys ++ (ls.take k).flatMap fun l => 32 :: l))) (fun _ i _ => ls.length - (intOf i).toNat)
  case atStart => exact ⟨0, _, rfl, rfl, Nat.zero_le _, HK3, Lib.hid (by simpa using HO3.out)⟩
  case round =>
    obtain ⟨k, v, rfl, rfl, hk, HK, HO⟩ := hrel
    have hK := HK.out
    have hO := HO.out
    by_cases hlt : k < ls.length
    · have hlti : (k : Int) < (ls.length : Int) := by omega
      obtain ⟨x, hx0, ⟨T, z, f, y, rfl, m1, n1, d1⟩, T', z', e0, a1⟩ := HXX.out k hlt
      injection e0 with ea eb
      subst ea; subst eb
      have hbl : b < w.heap.size := by
        rcases Nat.lt_or_ge b w.heap.size with h1 | h1
        · exact h1
        · simp [World.cell?, Array.getElem?_eq_none h1] at hx0
      have hx1 : wr.cell? ⟨b, k, none⟩ = some (.iface T z) := by
        unfold World.cell? at hx0 ⊢
        rw [hK.b.block b hbl]
        exact hx0
      have htk : (ls.take (k + 1)).flatMap (fun l => 32 :: l) = (ls.take k).flatMap (fun l => 32 :: l) ++ 32 :: ls[k] := by
        rw [List.take_succ_eq_append_getElem hlt, List.flatMap_append]
        simp
      have hle : ((ls.take (k + 1)).flatMap (fun l => 32 :: l)).length ≤ (ls.flatMap fun l => 32 :: l).length := by
        conv => rhs; rw [← List.take_append_drop (k + 1) ls, List.flatMap_append, List.length_append]
        omega
      rw [htk] at hle
      rw [List.length_append, List.length_cons, ← HF.out] at hle
      have HTK := Lib.hid htk
      generalize ls[k] = l at *
      generalize (ls.take k).flatMap (fun l => 32 :: l) = zs at *
      have hsum : ys.length + zs.length + (l.length + 1) ≤ 1000000 := by omega
      unfold WP at d1
      clear hx0 htk HO hle
      have hsB : Own ((wr.alloc (.cells #[.int .u8 32] 5)).drew) w.heap.size v (ys ++ zs) := World.ownsRow.drew (World.ownsRow.alloc hO _)
      have hkB : Kp w X ((wr.alloc (.cells #[.int .u8 32] 5)).drew) := (hK.alloc _).drew
      go_wp2_with fail
      go_region_held3 (fun W' => Kp w X W') (first | assumption | exact hK.drew | exact (hK.alloc _).drew | go_keep)
        (first
          | (refine step_byte (by rfl) _ _ (by rfl) 32 (ad := ⟨wr.heap.size, 0, none⟩) (by rfl) (by exact hsB) (by rfl) (by exact byte_new wr 32 _) (by simp; omega) hkB.b.size ?_; intro vB wB hoB hgB; have hkC : Kp w X wB := hkB.grown hsB (by exact hgB))
          | (go_at_fn f; refine (d1 _ (by exact hkC.b) _ _ hoB ?_).mono ?_; (simp; omega); rintro e w4 ⟨v4, rfl, hbD, ho4, hzD, hqD⟩; have hk4 : Kp w X w4 := hkC.on hbD hzD hqD))
      all_goals
        have HK4 := Lib.hid hk4
        have HO4 : Hid (Own w4 w.heap.size v4 (ys ++ (ls.take (k + 1)).flatMap fun l => 32 :: l)) := by
          show Own _ _ _ _
          rw [HTK.out]
          simpa [List.append_assoc] using ho4
        clear hsB hkB hoB hgB hkC hbD hzD hqD ho4 hk4
        go_wp2_with fail
        try go_roundw
        all_goals first | exact ⟨k + 1, _, by go_num, rfl, by omega, HK4, HO4⟩ | (simp [intOf]; omega) | exact ⟨⟨k + 1, _, by go_num, rfl, by omega, HK4, HO4⟩, by simp [intOf]; omega⟩
    · obtain rfl : k = ls.length := by omega
      rw [List.take_length] at hO
      have hzl : (ys ++ ls.flatMap fun l => 32 :: l).length + 1 ≤ 1000000 := by rw [List.length_append, ← HF.out]; omega
      generalize hzs : (ys ++ ls.flatMap fun l => 32 :: l) = zs at *
      have HZS := Lib.hid hzs
      have HYS := Hys
      clear HO hlt hzs
      have m3 : zs.length + 1 ≤ maxLen := by unfold maxLen; omega
      have hb4 := hK.b
      go_wp2_with (at_builtin; refine wpList_append_own _ rfl _ _ 28 rfl w.heap.size 5 i0 (.int .u8 0) 1 1 hun hi hz0 hz1 hz2 rfl (by decide) _ _ _ rfl (World.ownsRow.alloc hO _) ⟨wr.heap.size, 0, none⟩ 1 1 (bcells [41]) rfl rfl (cell_one_new _ _ _) (by simp [bcells, Value.oneCell']) m3 (by omega) (below_alloc hb4 _).size ?_; intro v5 w5 ho hg _; obtain ⟨hb5, ho5⟩ := own_new hb4 ho hg hO; have hk5 := (hK.alloc _).grown (World.ownsRow.alloc hO _) hg; clear ho hg)
      go_ret
      have hk6 := hk5.old HXK.out
      refine ⟨_, rfl, hb5, ?_, hk6.s, hk6.k⟩
      rw [← HZS.out, Hys.out] at ho5
      simpa [List.append_assoc] using ho5
end Go.Proofs.YtdjoafnohkmneaaGreatDoor

namespace Go.Proofs.YtdjoafnohkmneaaGreatDoor
open Go.RowKit Go.Shelf

set_option maxHeartbeats 2000000
set_option maxRecDepth 100000

theorem and_write (w W : World) (T1 T2 : TypeId) (x1 x2 : Value) (l1 l2 : List UInt8) (sv : Value) (xs : List UInt8) (hW : Below w.heap.size w W) (h1 : WOk w (.iface T1 x1) l1) (h2 : WOk w (.iface T2 x2) l2) (hs : Own W w.heap.size sv xs)
    (hl : xs.length + (4 + Fm.wAnd.length + l1.length + l2.length) ≤ 1000000) :
    Calls Tryz.prog 164 #[.agg #[.iface T1 x1, .iface T2 x2], sv] W (WP w W xs (40 :: (Fm.wAnd ++ 32 :: (l1 ++ 32 :: (l2 ++ [41]))))) := by
  have hj := joined_write w (W.alloc (.cells #[.iface T1 x1, .iface T2 x2] 92)) T1 T2 x1 x2 Fm.wAnd l1 l2 sv xs (by decide) (below_alloc hW _) h1 h2 (World.ownsRow.alloc hs _) hl
  have hk := (Kp.refl hW).alloc (.cells #[.iface T1 x1, .iface T2 x2] 92)
  unfold WP at *
  have HK := Lib.hid hk
  clear hk h1 h2 hs
  go_enter Tryz.func164, Tryz.ntmps164
  go_wp2_with fail
  refine hj.mono ?_
  rintro e w2 ⟨v2, rfl, hb2, ho2, hz2, hq2⟩
  have HO := Lib.hid ho2
  have hk2 := HK.out.on hb2 hz2 hq2
  have HK2 := Lib.hid hk2
  clear hj ho2 hq2 hk2
  go_wp2_with fail
  go_ret
  exact ⟨_, rfl, HK2.out.b, HO.out, HK2.out.s, HK2.out.k⟩

theorem or_write (w W : World) (T1 T2 : TypeId) (x1 x2 : Value) (l1 l2 : List UInt8) (sv : Value) (xs : List UInt8) (hW : Below w.heap.size w W) (h1 : WOk w (.iface T1 x1) l1) (h2 : WOk w (.iface T2 x2) l2) (hs : Own W w.heap.size sv xs)
    (hl : xs.length + (4 + Fm.wOr.length + l1.length + l2.length) ≤ 1000000) :
    Calls Tryz.prog 168 #[.agg #[.iface T1 x1, .iface T2 x2], sv] W (WP w W xs (40 :: (Fm.wOr ++ 32 :: (l1 ++ 32 :: (l2 ++ [41]))))) := by
  have hj := joined_write w (W.alloc (.cells #[.iface T1 x1, .iface T2 x2] 93)) T1 T2 x1 x2 Fm.wOr l1 l2 sv xs (by decide) (below_alloc hW _) h1 h2 (World.ownsRow.alloc hs _) hl
  have hk := (Kp.refl hW).alloc (.cells #[.iface T1 x1, .iface T2 x2] 93)
  unfold WP at *
  have HK := Lib.hid hk
  clear hk h1 h2 hs
  go_enter Tryz.func168, Tryz.ntmps168
  go_wp2_with fail
  refine hj.mono ?_
  rintro e w2 ⟨v2, rfl, hb2, ho2, hz2, hq2⟩
  have HO := Lib.hid ho2
  have hk2 := HK.out.on hb2 hz2 hq2
  have HK2 := Lib.hid hk2
  clear hj ho2 hq2 hk2
  go_wp2_with fail
  go_ret
  exact ⟨_, rfl, HK2.out.b, HO.out, HK2.out.s, HK2.out.k⟩

theorem imp_write (w W : World) (T1 T2 : TypeId) (x1 x2 : Value) (l1 l2 : List UInt8) (sv : Value) (xs : List UInt8) (hW : Below w.heap.size w W) (h1 : WOk w (.iface T1 x1) l1) (h2 : WOk w (.iface T2 x2) l2) (hs : Own W w.heap.size sv xs)
    (hl : xs.length + (4 + Fm.wImp.length + l1.length + l2.length) ≤ 1000000) :
    Calls Tryz.prog 171 #[.agg #[.iface T1 x1, .iface T2 x2], sv] W (WP w W xs (40 :: (Fm.wImp ++ 32 :: (l1 ++ 32 :: (l2 ++ [41]))))) := by
  have hj := joined_write w (W.alloc (.cells #[.iface T1 x1, .iface T2 x2] 94)) T1 T2 x1 x2 Fm.wImp l1 l2 sv xs (by decide) (below_alloc hW _) h1 h2 (World.ownsRow.alloc hs _) hl
  have hk := (Kp.refl hW).alloc (.cells #[.iface T1 x1, .iface T2 x2] 94)
  unfold WP at *
  have HK := Lib.hid hk
  clear hk h1 h2 hs
  go_enter Tryz.func171, Tryz.ntmps171
  go_wp2_with fail
  refine hj.mono ?_
  rintro e w2 ⟨v2, rfl, hb2, ho2, hz2, hq2⟩
  have HO := Lib.hid ho2
  have hk2 := HK.out.on hb2 hz2 hq2
  have HK2 := Lib.hid hk2
  clear hj ho2 hq2 hk2
  go_wp2_with fail
  go_ret
  exact ⟨_, rfl, HK2.out.b, HO.out, HK2.out.s, HK2.out.k⟩

theorem all_write (w W : World) (T1 : TypeId) (x1 : Value) (n : Nat) (x l1 : List UInt8) (sv : Value) (xs : List UInt8) (hn : n < 100) (hS : LaidS w) (hW : Below w.heap.size w W) (h1 : WOk w (.iface T1 x1) l1) (hs : Own W w.heap.size sv xs)
    (hl : xs.length + (5 + Fm.wAll.length + x.length + (Fm.dec n).length + l1.length) ≤ 1000000) :
    Calls Tryz.prog 178 #[.agg #[str x, .int .i64 (n : Nat), .iface T1 x1], sv] W (WP w W xs (40 :: (Fm.wAll ++ 32 :: (x ++ 32 :: (Fm.dec n ++ 32 :: (l1 ++ [41])))))) := by
  have hj := bound_write w (W.alloc (.cells #[str x, .int .i64 (n : Nat), .iface T1 x1] 98)) T1 x1 n x Fm.wAll l1 sv xs hn hS (by decide) (below_alloc hW _) h1 (World.ownsRow.alloc hs _) hl
  have hk := (Kp.refl hW).alloc (.cells #[str x, .int .i64 (n : Nat), .iface T1 x1] 98)
  unfold WP at *
  have HK := Lib.hid hk
  clear hk h1 hs
  go_enter Tryz.func178, Tryz.ntmps178
  go_wp2_with fail
  refine hj.mono ?_
  rintro e w2 ⟨v2, rfl, hb2, ho2, hz2, hq2⟩
  have HO := Lib.hid ho2
  have hk2 := HK.out.on hb2 hz2 hq2
  have HK2 := Lib.hid hk2
  clear hj ho2 hq2 hk2
  go_wp2_with fail
  go_ret
  exact ⟨_, rfl, HK2.out.b, HO.out, HK2.out.s, HK2.out.k⟩

theorem ex_write (w W : World) (T1 : TypeId) (x1 : Value) (n : Nat) (x l1 : List UInt8) (sv : Value) (xs : List UInt8) (hn : n < 100) (hS : LaidS w) (hW : Below w.heap.size w W) (h1 : WOk w (.iface T1 x1) l1) (hs : Own W w.heap.size sv xs)
    (hl : xs.length + (5 + Fm.wEx.length + x.length + (Fm.dec n).length + l1.length) ≤ 1000000) :
    Calls Tryz.prog 182 #[.agg #[str x, .int .i64 (n : Nat), .iface T1 x1], sv] W (WP w W xs (40 :: (Fm.wEx ++ 32 :: (x ++ 32 :: (Fm.dec n ++ 32 :: (l1 ++ [41])))))) := by
  have hj := bound_write w (W.alloc (.cells #[str x, .int .i64 (n : Nat), .iface T1 x1] 102)) T1 x1 n x Fm.wEx l1 sv xs hn hS (by decide) (below_alloc hW _) h1 (World.ownsRow.alloc hs _) hl
  have hk := (Kp.refl hW).alloc (.cells #[str x, .int .i64 (n : Nat), .iface T1 x1] 102)
  unfold WP at *
  have HK := Lib.hid hk
  clear hk h1 hs
  go_enter Tryz.func182, Tryz.ntmps182
  go_wp2_with fail
  refine hj.mono ?_
  rintro e w2 ⟨v2, rfl, hb2, ho2, hz2, hq2⟩
  have HO := Lib.hid ho2
  have hk2 := HK.out.on hb2 hz2 hq2
  have HK2 := Lib.hid hk2
  clear hj ho2 hq2 hk2
  go_wp2_with fail
  go_ret
  exact ⟨_, rfl, HK2.out.b, HO.out, HK2.out.s, HK2.out.k⟩

theorem cell_h {w : World} {b i : Nat} {cs : Array Value} {T : TypeId} {fr : Nat × Nat} {x : Value} (hh : w.heap[b]? = some (.cells cs T fr)) (hx : cs[i]? = some x) : w.cell? ⟨b, i, none⟩ = some x := by
  unfold World.cell?
  rw [hh]
  exact hx

theorem EV.wOk {w : World} (hS : LaidS w) : ∀ {e : Ex} {v : Value}, EV w 0 e v → Fm.exOk e → WOk w v (Fm.exText e)
  | .num n, _, h, ho => ⟨_, _, 146, .int .i64 (n : Nat), h, fun _ => by kernel_rfl, fun _ _ => by kernel_rfl, fun W hW sv xs hs hl => num_write w W n (by have : n ≤ 60 := ho; omega) hS sv xs hW hs hl⟩
  | .var x, _, h, _ => ⟨_, _, 191, str x, h, fun _ => by kernel_rfl, fun _ _ => by kernel_rfl, fun W hW sv xs hs hl => word_write w W x sv xs hW hs hl⟩
  | .suc e, _, ⟨bl, cap, cs, fr, x, hv, _, hh, hx, he⟩, ho => by
    have k1 := EV.wOk hS he ho
    refine ⟨_, _, 195, .agg #[str Fm.wSuc, .slice (some ⟨bl, 0, none⟩) 1 cap], hv, fun _ => by kernel_rfl, fun _ _ => by kernel_rfl, fun W hW sv xs hs hl => ?_⟩
    have h := op_write w W Fm.wSuc bl cap 1 [Fm.exText e] sv xs (by decide) rfl (by decide) hW hs (fun j hj => by
      obtain rfl : j = 0 := by simp at hj; omega
      exact ⟨x, cell_h hh hx, k1, he.nah⟩) (by simp [Fm.exText, Fm.wSuc] at hl ⊢; omega)
    simpa [Fm.exText] using h
  | .add e f, _, ⟨bl, cap, cs, fr, x, y, hv, _, hh, hx, hy, he, hf⟩, ho => by
    have k1 := EV.wOk hS he ho.1
    have k2 := EV.wOk hS hf ho.2
    refine ⟨_, _, 195, .agg #[str Fm.wAdd, .slice (some ⟨bl, 0, none⟩) 2 cap], hv, fun _ => by kernel_rfl, fun _ _ => by kernel_rfl, fun W hW sv xs hs hl => ?_⟩
    have h := op_write w W Fm.wAdd bl cap 2 [Fm.exText e, Fm.exText f] sv xs (by decide) rfl (by decide) hW hs (fun j hj => by
      match j, hj with
      | 0, _ => exact ⟨x, cell_h hh hx, k1, he.nah⟩
      | 1, _ => exact ⟨y, cell_h hh hy, k2, hf.nah⟩
      | j + 2, hj => exact absurd hj (by simp)) (by simp [Fm.exText, Fm.wAdd] at hl ⊢; omega)
    simpa [Fm.exText] using h
  | .mul e f, _, ⟨bl, cap, cs, fr, x, y, hv, _, hh, hx, hy, he, hf⟩, ho => by
    have k1 := EV.wOk hS he ho.1
    have k2 := EV.wOk hS hf ho.2
    refine ⟨_, _, 195, .agg #[str Fm.wMul, .slice (some ⟨bl, 0, none⟩) 2 cap], hv, fun _ => by kernel_rfl, fun _ _ => by kernel_rfl, fun W hW sv xs hs hl => ?_⟩
    have h := op_write w W Fm.wMul bl cap 2 [Fm.exText e, Fm.exText f] sv xs (by decide) rfl (by decide) hW hs (fun j hj => by
      match j, hj with
      | 0, _ => exact ⟨x, cell_h hh hx, k1, he.nah⟩
      | 1, _ => exact ⟨y, cell_h hh hy, k2, hf.nah⟩
      | j + 2, hj => exact absurd hj (by simp)) (by simp [Fm.exText, Fm.wMul] at hl ⊢; omega)
    simpa [Fm.exText] using h

theorem FoV.wOk {w : World} (hS : LaidS w) : ∀ {f : Fo} {v : Value}, FoV w 0 f v → Fm.okm f → WOk w v (Fm.text f)
  | .top, _, h, _ => ⟨_, _, 154, .agg #[], h, fun _ => by kernel_rfl, fun _ _ => by kernel_rfl, fun W hW sv xs hs hl => truth_write w W sv xs hW hs hl⟩
  | .bot, _, h, _ => ⟨_, _, 187, .agg #[], h, fun _ => by kernel_rfl, fun _ _ => by kernel_rfl, fun W hW sv xs hs hl => falsity_write w W sv xs hW hs hl⟩
  | .eq e f, _, ⟨x, y, h, he, hf⟩, ho => by
    have k1 := he.wOk hS ho.1
    have k2 := hf.wOk hS ho.2
    obtain ⟨T1, x1, rfl⟩ := he.form
    obtain ⟨T2, x2, rfl⟩ := hf.form
    exact ⟨_, _, 159, .agg #[.iface T1 x1, .iface T2 x2], h, fun _ => by kernel_rfl, fun _ _ => by kernel_rfl, fun W hW sv xs hs hl => equality_write w W T1 T2 x1 x2 _ _ sv xs hW k1 k2 hs (by simp [Fm.text, Fm.wEq] at hl; omega)⟩
  | .and f g, _, ⟨x, y, h, hf, hg⟩, ho => by
    have k1 := FoV.wOk hS hf ho.1
    have k2 := FoV.wOk hS hg ho.2
    obtain ⟨T1, x1, rfl⟩ := hf.form
    obtain ⟨T2, x2, rfl⟩ := hg.form
    exact ⟨_, _, 164, .agg #[.iface T1 x1, .iface T2 x2], h, fun _ => by kernel_rfl, fun _ _ => by kernel_rfl, fun W hW sv xs hs hl => and_write w W T1 T2 x1 x2 _ _ sv xs hW k1 k2 hs (by simp [Fm.text, Fm.wAnd] at hl ⊢; omega)⟩
  | .or f g, _, ⟨x, y, h, hf, hg⟩, ho => by
    have k1 := FoV.wOk hS hf ho.1
    have k2 := FoV.wOk hS hg ho.2
    obtain ⟨T1, x1, rfl⟩ := hf.form
    obtain ⟨T2, x2, rfl⟩ := hg.form
    exact ⟨_, _, 168, .agg #[.iface T1 x1, .iface T2 x2], h, fun _ => by kernel_rfl, fun _ _ => by kernel_rfl, fun W hW sv xs hs hl => or_write w W T1 T2 x1 x2 _ _ sv xs hW k1 k2 hs (by simp [Fm.text, Fm.wOr] at hl ⊢; omega)⟩
  | .imp f g, _, ⟨x, y, h, hf, hg⟩, ho => by
    have k1 := FoV.wOk hS hf ho.1
    have k2 := FoV.wOk hS hg ho.2.1
    obtain ⟨T1, x1, rfl⟩ := hf.form
    obtain ⟨T2, x2, rfl⟩ := hg.form
    exact ⟨_, _, 171, .agg #[.iface T1 x1, .iface T2 x2], h, fun _ => by kernel_rfl, fun _ _ => by kernel_rfl, fun W hW sv xs hs hl => imp_write w W T1 T2 x1 x2 _ _ sv xs hW k1 k2 hs (by simp [Fm.text, Fm.wImp] at hl ⊢; omega)⟩
  | .all x n f, _, ⟨y, h, hf⟩, ho => by
    have k1 := FoV.wOk hS hf ho.2.2.2
    obtain ⟨T1, x1, rfl⟩ := hf.form
    exact ⟨_, _, 178, .agg #[str x, .int .i64 (n : Nat), .iface T1 x1], h, fun _ => by kernel_rfl, fun _ _ => by kernel_rfl, fun W hW sv xs hs hl => all_write w W T1 x1 n x _ sv xs (by have := ho.2.2.1; omega) hS hW k1 hs (by simp [Fm.text, Fm.wAll] at hl ⊢; omega)⟩
  | .ex x n f, _, ⟨y, h, hf⟩, ho => by
    have k1 := FoV.wOk hS hf ho.2.2.2
    obtain ⟨T1, x1, rfl⟩ := hf.form
    exact ⟨_, _, 182, .agg #[str x, .int .i64 (n : Nat), .iface T1 x1], h, fun _ => by kernel_rfl, fun _ _ => by kernel_rfl, fun W hW sv xs hs hl => ex_write w W T1 x1 n x _ sv xs (by have := ho.2.2.1; omega) hS hW k1 hs (by simp [Fm.text, Fm.wEx] at hl ⊢; omega)⟩
end Go.Proofs.YtdjoafnohkmneaaGreatDoor

namespace Go.Proofs.YtdjoafnohkmneaaGreatDoor
open Go.RowKit

set_option maxHeartbeats 4000000
set_option maxRecDepth 100000

namespace Fm
theorem putE_ok (x : List UInt8) (b : Ex) (hb : exOk b) : ∀ e : Ex, exOk e → exOk (putE x b e)
  | .num _, h => h
  | .var y, h => by unfold putE; split; exact hb; exact h
  | .suc e, h => putE_ok x b hb e h
  | .add e f, h => ⟨putE_ok x b hb e h.1, putE_ok x b hb f h.2⟩
  | .mul e f, h => ⟨putE_ok x b hb e h.1, putE_ok x b hb f h.2⟩
theorem putE_atoms (x : List UInt8) (b : Ex) (hb : exAtoms b = 1) : ∀ e : Ex, exAtoms (putE x b e) = exAtoms e
  | .num _ => rfl
  | .var y => by unfold putE; split; exact hb; rfl
  | .suc e => by simp [putE, exAtoms, putE_atoms x b hb e]
  | .add e f => by simp [putE, exAtoms, putE_atoms x b hb e, putE_atoms x b hb f]
  | .mul e f => by simp [putE, exAtoms, putE_atoms x b hb e, putE_atoms x b hb f]
theorem putF_simple (x : List UInt8) (b : Ex) : ∀ f : Fo, simple (putF x b f) = simple f
  | .top => rfl
  | .bot => rfl
  | .eq _ _ => rfl
  | .and f g => by simp [putF, simple, putF_simple x b f, putF_simple x b g]
  | .or f g => by simp [putF, simple, putF_simple x b f, putF_simple x b g]
  | .imp _ _ => rfl
  | .all y n f => by unfold putF; split <;> rfl
  | .ex y n f => by
    unfold putF
    split
    · rfl
    · simp [simple, putF_simple x b f]
theorem putF_ok (x : List UInt8) (b : Ex) (hb : exOk b) : ∀ f : Fo, okm f → okm (putF x b f)
  | .top, h => h
  | .bot, h => h
  | .eq e f, h => ⟨putE_ok x b hb e h.1, putE_ok x b hb f h.2⟩
  | .and f g, h => ⟨putF_ok x b hb f h.1, putF_ok x b hb g h.2⟩
  | .or f g, h => ⟨putF_ok x b hb f h.1, putF_ok x b hb g h.2⟩
  | .imp f g, h => ⟨putF_ok x b hb f h.1, putF_ok x b hb g h.2.1, by rw [putF_simple]; exact h.2.2⟩
  | .all y n f, h => by unfold putF; split; exact h; exact ⟨h.1, h.2.1, h.2.2.1, putF_ok x b hb f h.2.2.2⟩
  | .ex y n f, h => by unfold putF; split; exact h; exact ⟨h.1, h.2.1, h.2.2.1, putF_ok x b hb f h.2.2.2⟩
theorem putF_atoms (x : List UInt8) (b : Ex) (hb : exAtoms b = 1) : ∀ f : Fo, atoms (putF x b f) = atoms f
  | .top => rfl
  | .bot => rfl
  | .eq e f => by simp [putF, atoms, putE_atoms x b hb e, putE_atoms x b hb f]
  | .and f g => by simp [putF, atoms, putF_atoms x b hb f, putF_atoms x b hb g]
  | .or f g => by simp [putF, atoms, putF_atoms x b hb f, putF_atoms x b hb g]
  | .imp f g => by simp [putF, atoms, putF_atoms x b hb f, putF_atoms x b hb g]
  | .all y n f => by
    unfold putF
    split
    · rfl
    · simp [atoms, putF_atoms x b hb f]
  | .ex y n f => by
    unfold putF
    split
    · rfl
    · simp [atoms, putF_atoms x b hb f]
theorem text_ne : ∀ f : Fo, text f ≠ [] := by intro f; cases f <;> simp [text, wTop, wBot]

/-- What the program's FormulaPut answers. -/
def pPut (l name : List UInt8) (n : Int) : List UInt8 × Bool :=
  match parse l with
  | none => ([], false)
  | some f => if Tm.nameOk name = true ∧ 0 ≤ n ∧ n ≤ 60 then (text (putF name (.num n.toNat) f), true) else ([], false)
end Fm

theorem formulaText_any (w : World) (f : Fo) (v : Value) (hS : LaidS w) (h : FoV w 0 f v) (hok : Fm.okm f) (ha : Fm.atoms f ≤ 1000) :
    Calls Tryz.prog 31 #[v] w fun e w' => e = .returned (str (Fm.text f)) ∧ After w w' := by
  have hl : (Fm.text f).length ≤ 1000000 := by have := (Fm.tree_ok f hok).2.2; omega
  obtain ⟨T1, x1, f1, y1, rfl, m1, n1, c1⟩ := h.wOk hS hok
  have hb0 := Below.refl w.heap.size w
  have ho : Own w w.heap.size (.slice none 0 0) [] := World.ownsRow_nil w w.heap.size _ 1
  have k1 := c1 _ hb0 _ [] ho (by simpa using hl)
  unfold WP at k1
  have hne := Fm.text_ne f
  clear c1 ho hl h
  go_enter Tryz.func31, Tryz.ntmps31
  go_wp2_with fail
  refine k1.mono ?_
  rintro e w1 ⟨v1, rfl, hb1, ho1, _⟩
  have hc := run_text ho1 (by simpa using hne)
  rw [List.nil_append] at hc
  clear k1 ho1
  go_wp2_with fail
  go_ret
  exact ⟨rfl, hb1⟩

theorem impl_formulaPut (w : World) (l name : List UInt8) (n : Int) (hl : l.length ≤ 1000000000) (hnl : name.length ≤ 1000000000) (hS : LaidS w) :
    Calls Tryz.prog 11 #[str l, str name, .int .i64 n] w fun e w' => e = .returned (.tuple #[str (Fm.pPut l name n).1, .bool (Fm.pPut l name n).2]) ∧ After w w' := by
  have k1 := readFormula_any w l hl hS
  have hp : ∀ f, Fm.parse l = some f → Fm.okm f ∧ Fm.atoms f ≤ 60 := fun f h => ⟨(Fm.parse_okm h).1, (Fm.parse_okm h).2.1⟩
  have hnv := fun W => nameValid_any W name hnl
  obtain ⟨R, hR⟩ : ∃ R, R = Fm.pPut l name n := ⟨_, rfl⟩
  rw [← hR]
  unfold Fm.pPut at hR
  generalize Fm.parse l = o at *
  have HR := Lib.hid hR
  have HP := Lib.hid hp
  have HS := Lib.hid hS
  clear hR hp hS
  unfold RFPost at k1
  cases o with
  | none =>
    go_enter Tryz.func11, Tryz.ntmps11
    go_wp2_with fail
    refine k1.mono ?_
    rintro e w2 ⟨v, rfl, hA, _, hi⟩
    have HA := Lib.hid hA
    clear k1 hA
    go_wp2_with fail
    go_ret2
    exact ⟨by rw [HR.out]; rfl, HA.out⟩
  | some f =>
    obtain ⟨hok, hat⟩ := HP.out f rfl
    obtain ⟨B, hB⟩ : ∃ B, B = Tm.nameOk name := ⟨_, rfl⟩
    rw [← hB] at hnv
    have HB := Lib.hid hB
    clear hB
    by_cases hc : B = true ∧ 0 ≤ n ∧ n ≤ 60
    · obtain ⟨hb, hn0, hn1⟩ := hc
      subst hb
      obtain ⟨m, rfl⟩ : ∃ m : Nat, n = (m : Int) := ⟨n.toNat, by omega⟩
      have hRR : R = (Fm.text (Fm.putF name (.num m) f), true) := by
        rw [HR.out]
        show (if _ then _ else _) = _
        rw [if_pos ⟨HB.out.symm, by omega, by omega⟩]
        simp
      have hok2 := Fm.putF_ok name (.num m) (show m ≤ 60 by omega) f hok
      have hat2 : Fm.atoms (Fm.putF name (.num m) f) ≤ 1000 := by rw [Fm.putF_atoms name _ rfl f]; omega
      have HRR := Lib.hid hRR
      have HOK := Lib.hid hok2
      have HAT := Lib.hid hat2
      clear hRR hok2 hat2 hok hat
      go_enter Tryz.func11, Tryz.ntmps11
      go_wp2_with fail
      refine k1.mono ?_
      rintro e w2 ⟨v, rfl, hA, hv, hi⟩
      have hfv := (hv f rfl).less (Nat.zero_le _)
      obtain ⟨T1, x1, f1, y1, rfl, m1, n1, c1⟩ := FoV.putOk (name := name) (b := .num m) (vb := .iface 47 (.int .i64 (m : Nat))) (w := w2) rfl hfv
      have k2 := c1 w2 (After.refl _)
      unfold FPP at k2
      have hn1' := hnv w2
      have HA := Lib.hid hA
      clear k1 hA hv hfv c1 hi hnv
      go_wp2_with (go_at_call 30; refine hn1'.mono ?_; rintro e w3 ⟨rfl, rfl⟩)
      refine k2.mono ?_
      rintro e w4 ⟨T4, y4, rfl, hA4, hv4⟩
      have k3 := formulaText_any w4 _ _ (HS.out.after (HA.out.trans hA4)) hv4.fv HOK.out HAT.out
      have HA4 := Lib.hid hA4
      clear k2 hA4 hv4 hn1'
      go_wp2_with fail
      refine k3.mono ?_
      rintro e w5 ⟨rfl, hA5⟩
      have HA5 := Lib.hid hA5
      clear k3 hA5
      go_wp2_with fail
      go_ret2
      exact ⟨by rw [HRR.out]; rfl, (HA.out.trans HA4.out).trans HA5.out⟩
    · have hRR : R = ([], false) := by
        rw [HR.out]
        show (if _ then _ else _) = _
        rw [if_neg (by rw [← HB.out]; exact hc)]
      have HRR := Lib.hid hRR
      clear hRR hok hat
      have hcases : B = false ∨ (B = true ∧ n < 0) ∨ (B = true ∧ ¬ n < 0 ∧ 60 < n) := by
        cases B with
        | false => exact Or.inl rfl
        | true =>
          by_cases h0 : n < 0
          · exact Or.inr (Or.inl ⟨rfl, h0⟩)
          · exact Or.inr (Or.inr ⟨rfl, h0, Int.not_le.1 fun h => hc ⟨rfl, by omega, h⟩⟩)
      clear hc
      rcases hcases with rfl | ⟨rfl, h0⟩ | ⟨rfl, h0, h6⟩
      all_goals
        go_enter Tryz.func11, Tryz.ntmps11
        go_wp2_with fail
        refine k1.mono ?_
        rintro e w2 ⟨v, rfl, hA, hv, hi⟩
        have hn1' := hnv w2
        have HA := Lib.hid hA
        clear k1 hA hv hnv
        go_wp2_with (go_at_call 30; refine hn1'.mono ?_; rintro e w3 ⟨rfl, rfl⟩)
        go_ret2
        exact ⟨by rw [HRR.out]; rfl, HA.out⟩
end Go.Proofs.YtdjoafnohkmneaaGreatDoor

namespace Go.Proofs.YtdjoafnohkmneaaGreatDoor
namespace Fm

def valE : Ex → Nat
  | .num n => n
  | .var _ => 0
  | .suc e => min 1000001 (valE e + 1)
  | .add a b => min 1000001 (valE a + valE b)
  | .mul a b => min 1000001 (valE a * valE b)

theorem valE_le : ∀ e : Ex, exOk e → valE e ≤ 1000001
  | .num n, h => by have : n ≤ 60 := h; simp only [valE]; omega
  | .var _, _ => Nat.zero_le _
  | .suc _, _ => Nat.min_le_left _ _
  | .add _ _, _ => Nat.min_le_left _ _
  | .mul _ _, _ => Nat.min_le_left _ _

def holdsF : Nat → Fo → Bool
  | 0, _ => false
  | _ + 1, .top => true
  | _ + 1, .bot => false
  | _ + 1, .eq a b => decide (valE a = valE b)
  | d + 1, .and f g => holdsF d f && holdsF d g
  | d + 1, .or f g => holdsF d f || holdsF d g
  | d + 1, .imp f g => !holdsF d f || holdsF d g
  | d + 1, .all x n f => (List.range n).all fun m => holdsF d (putF x (.num m) f)
  | d + 1, .ex x n f => (List.range n).any fun m => holdsF d (putF x (.num m) f)

theorem occE_put (x : List UInt8) (m : Nat) : ∀ e : Ex, occE (putE x (.num m) e) = (occE e).filter fun y => decide (y ≠ x)
  | .num _ => rfl
  | .var y => by
    by_cases h : y = x
    · simp [putE, occE, h]
    · simp [putE, occE, h]
  | .suc e => occE_put x m e
  | .add a b => by simp only [putE, occE, List.filter_append, occE_put x m a, occE_put x m b]
  | .mul a b => by simp only [putE, occE, List.filter_append, occE_put x m a, occE_put x m b]
theorem filter_comm' {α : Type} (p q : α → Bool) (l : List α) : (l.filter p).filter q = (l.filter q).filter p := by
  rw [List.filter_filter, List.filter_filter]
  exact List.filter_congr fun a _ => Bool.and_comm _ _
theorem occ_put (x : List UInt8) (m : Nat) : ∀ f : Fo, occ (putF x (.num m) f) = (occ f).filter fun y => decide (y ≠ x)
  | .top => rfl
  | .bot => rfl
  | .eq a b => by simp only [putF, occ, List.filter_append, occE_put]
  | .and f g => by simp only [putF, occ, List.filter_append, occ_put x m f, occ_put x m g]
  | .or f g => by simp only [putF, occ, List.filter_append, occ_put x m f, occ_put x m g]
  | .imp f g => by simp only [putF, occ, List.filter_append, occ_put x m f, occ_put x m g]
  | .all y n f => by
    by_cases h : x = y
    · subst h; simp [putF, occ, List.filter_filter]
    · simp only [putF, if_neg h, occ, occ_put x m f]; exact filter_comm' _ _ _
  | .ex y n f => by
    by_cases h : x = y
    · subst h; simp [putF, occ, List.filter_filter]
    · simp only [putF, if_neg h, occ, occ_put x m f]; exact filter_comm' _ _ _

theorem exOk_put (x : List UInt8) (m : Nat) (hm : m ≤ 60) : ∀ e : Ex, exOk e → exOk (putE x (.num m) e)
  | .num _, h => h
  | .var y, h => by
    simp only [putE]
    split
    · exact hm
    · exact h
  | .suc e, h => exOk_put x m hm e h
  | .add a b, h => ⟨exOk_put x m hm a h.1, exOk_put x m hm b h.2⟩
  | .mul a b, h => ⟨exOk_put x m hm a h.1, exOk_put x m hm b h.2⟩
theorem simple_put (x : List UInt8) (b : Ex) : ∀ f : Fo, simple (putF x b f) = simple f
  | .top => rfl
  | .bot => rfl
  | .eq _ _ => rfl
  | .and f g => by simp only [putF, simple, simple_put x b f, simple_put x b g]
  | .or f g => by simp only [putF, simple, simple_put x b f, simple_put x b g]
  | .imp _ _ => rfl
  | .all y n f => by simp only [putF]; split <;> rfl
  | .ex y n f => by
    simp only [putF]
    split
    · rfl
    · simp only [simple, simple_put x b f]
theorem okm_put (x : List UInt8) (m : Nat) (hm : m ≤ 60) : ∀ f : Fo, okm f → okm (putF x (.num m) f)
  | .top, _ => trivial
  | .bot, _ => trivial
  | .eq a b, h => ⟨exOk_put x m hm a h.1, exOk_put x m hm b h.2⟩
  | .and f g, h => ⟨okm_put x m hm f h.1, okm_put x m hm g h.2⟩
  | .or f g, h => ⟨okm_put x m hm f h.1, okm_put x m hm g h.2⟩
  | .imp f g, h => ⟨okm_put x m hm f h.1, okm_put x m hm g h.2.1, by rw [simple_put]; exact h.2.2⟩
  | .all y n f, h => by
    simp only [putF]
    split
    · exact h
    · exact ⟨h.1, h.2.1, h.2.2.1, okm_put x m hm f h.2.2.2⟩
  | .ex y n f, h => by
    simp only [putF]
    split
    · exact h
    · exact ⟨h.1, h.2.1, h.2.2.1, okm_put x m hm f h.2.2.2⟩
theorem ok_put (x : List UInt8) (m : Nat) (hm : m ≤ 60) : ∀ (f : Fo) (r : Nat), ok r f → ok r (putF x (.num m) f)
  | .top, _, _ => trivial
  | .bot, _, _ => trivial
  | .eq a b, _, h => ⟨exOk_put x m hm a h.1, exOk_put x m hm b h.2⟩
  | .and f g, r, h => ⟨ok_put x m hm f r h.1, ok_put x m hm g r h.2⟩
  | .or f g, r, h => ⟨ok_put x m hm f r h.1, ok_put x m hm g r h.2⟩
  | .imp f g, r, h => ⟨ok_put x m hm f r h.1, ok_put x m hm g r h.2.1, by rw [simple_put]; exact h.2.2⟩
  | .all y n f, r, h => by
    simp only [putF]
    split
    · exact h
    · exact ⟨h.1, h.2.1, h.2.2.1, h.2.2.2.1, ok_put x m hm f _ h.2.2.2.2⟩
  | .ex y n f, r, h => by
    simp only [putF]
    split
    · exact h
    · exact ⟨h.1, h.2.1, h.2.2.1, h.2.2.2.1, ok_put x m hm f _ h.2.2.2.2⟩
theorem exAtoms_put (x : List UInt8) (m : Nat) : ∀ e : Ex, exAtoms (putE x (.num m) e) = exAtoms e
  | .num _ => rfl
  | .var y => by
    simp only [putE]
    split <;> rfl
  | .suc e => by simp only [putE, exAtoms, exAtoms_put x m e]
  | .add a b => by simp only [putE, exAtoms, exAtoms_put x m a, exAtoms_put x m b]
  | .mul a b => by simp only [putE, exAtoms, exAtoms_put x m a, exAtoms_put x m b]
theorem atoms_put (x : List UInt8) (m : Nat) : ∀ f : Fo, atoms (putF x (.num m) f) = atoms f
  | .top => rfl
  | .bot => rfl
  | .eq a b => by simp only [putF, atoms, exAtoms_put]
  | .and f g => by simp only [putF, atoms, atoms_put x m f, atoms_put x m g]
  | .or f g => by simp only [putF, atoms, atoms_put x m f, atoms_put x m g]
  | .imp f g => by simp only [putF, atoms, atoms_put x m f, atoms_put x m g]
  | .all y n f => by
    simp only [putF]
    split
    · rfl
    · simp only [atoms, atoms_put x m f]
  | .ex y n f => by
    simp only [putF]
    split
    · rfl
    · simp only [atoms, atoms_put x m f]
theorem exDepth_put (x : List UInt8) (m : Nat) : ∀ e : Ex, sxDepth (exTree (putE x (.num m) e)) = sxDepth (exTree e)
  | .num _ => rfl
  | .var y => by
    simp only [putE]
    split <;> rfl
  | .suc e => by simp only [putE, exTree, sxDepth, sxDepths, exDepth_put x m e]
  | .add a b => by simp only [putE, exTree, sxDepth, sxDepths, exDepth_put x m a, exDepth_put x m b]
  | .mul a b => by simp only [putE, exTree, sxDepth, sxDepths, exDepth_put x m a, exDepth_put x m b]
theorem depth_put (x : List UInt8) (m : Nat) : ∀ f : Fo, sxDepth (tree (putF x (.num m) f)) = sxDepth (tree f)
  | .top => rfl
  | .bot => rfl
  | .eq a b => by simp only [putF, tree, sxDepth, sxDepths, exDepth_put]
  | .and f g => by simp only [putF, tree, sxDepth, sxDepths, depth_put x m f, depth_put x m g]
  | .or f g => by simp only [putF, tree, sxDepth, sxDepths, depth_put x m f, depth_put x m g]
  | .imp f g => by simp only [putF, tree, sxDepth, sxDepths, depth_put x m f, depth_put x m g]
  | .all y n f => by
    simp only [putF]
    split
    · rfl
    · simp only [tree, sxDepth, sxDepths, depth_put x m f]
  | .ex y n f => by
    simp only [putF]
    split
    · rfl
    · simp only [tree, sxDepth, sxDepths, depth_put x m f]
theorem put_freeE (x : List UInt8) (b : Ex) : ∀ e : Ex, x ∉ occE e → putE x b e = e
  | .num _, _ => rfl
  | .var y, h => by
    have : y ≠ x := fun e => h (by simp [occE, e])
    simp only [putE, if_neg this]
  | .suc e, h => by simp only [putE, put_freeE x b e h]
  | .add a c, h => by
    simp only [occE, List.mem_append, not_or] at h
    simp only [putE, put_freeE x b a h.1, put_freeE x b c h.2]
  | .mul a c, h => by
    simp only [occE, List.mem_append, not_or] at h
    simp only [putE, put_freeE x b a h.1, put_freeE x b c h.2]
theorem put_free (x : List UInt8) (b : Ex) : ∀ f : Fo, x ∉ occ f → putF x b f = f
  | .top, _ => rfl
  | .bot, _ => rfl
  | .eq a c, h => by
    simp only [occ, List.mem_append, not_or] at h
    simp only [putF, put_freeE x b a h.1, put_freeE x b c h.2]
  | .and f g, h => by
    simp only [occ, List.mem_append, not_or] at h
    simp only [putF, put_free x b f h.1, put_free x b g h.2]
  | .or f g, h => by
    simp only [occ, List.mem_append, not_or] at h
    simp only [putF, put_free x b f h.1, put_free x b g h.2]
  | .imp f g, h => by
    simp only [occ, List.mem_append, not_or] at h
    simp only [putF, put_free x b f h.1, put_free x b g h.2]
  | .all y n f, h => by
    by_cases e : x = y
    · simp only [putF, if_pos e]
    · have : x ∉ occ f := fun hm => h (by simp only [occ, List.mem_filter, decide_eq_true_eq]; exact ⟨hm, e⟩)
      simp only [putF, if_neg e, put_free x b f this]
  | .ex y n f, h => by
    by_cases e : x = y
    · simp only [putF, if_pos e]
    · have : x ∉ occ f := fun hm => h (by simp only [occ, List.mem_filter, decide_eq_true_eq]; exact ⟨hm, e⟩)
      simp only [putF, if_neg e, put_free x b f this]
end Fm
end Go.Proofs.YtdjoafnohkmneaaGreatDoor

namespace Go.Proofs.YtdjoafnohkmneaaGreatDoor
open Go.RowKit

set_option maxHeartbeats 2000000
set_option maxRecDepth 100000

theorem goodX_tree (f : Fo) (h : Fm.okm f) (ha : Fm.atoms f ≤ 1000) : GoodX (Fm.tree f) := by
  obtain ⟨h1, _, h3⟩ := Fm.tree_ok f h
  exact ⟨h1, by rw [Fm.tree_text]; omega⟩

theorem spec_formulaPut (w : World) (l name : List UInt8) (n : Int) (hnl : name.length ≤ 1000000000) :
    Calls Tryz.prog 10 #[str l, str name, .int .i64 n] w fun e w' => e = .returned (.tuple #[str (Fm.pPut l name n).1, .bool (Fm.pPut l name n).2]) ∧ After w w' := by
  have hc := s_form w l
  have hp : ∀ f, Fm.parse l = some f → Fm.okm f ∧ Fm.atoms f ≤ 60 := fun f h => ⟨(Fm.parse_okm h).1, (Fm.parse_okm h).2.1⟩
  rw [Fm.mform_eq] at hc
  have hnm := fun W => s_name W name hnl
  obtain ⟨R, hR⟩ : ∃ R, R = Fm.pPut l name n := ⟨_, rfl⟩
  rw [← hR]
  unfold Fm.pPut at hR
  obtain ⟨o, ho⟩ : ∃ o, o = Fm.parse l := ⟨_, rfl⟩
  rw [← ho] at hR hc hp
  clear ho
  unfold MFPost at hc
  cases o with
  | none =>
    have HR := Lib.hid hR
    clear hR hp
    go_enter Tryz.func10, Tryz.ntmps10
    go_wp2_with fail
    refine hc.mono ?_
    rintro e w1 ⟨s, ao, m, c, rfl, ha, _⟩
    have ha2 := ha.alloc (.cells #[str s, .slice ao m c] 35)
    clear hc
    go_wp2_with fail
    go_ret2
    exact ⟨by rw [HR.out]; rfl, ha2⟩
  | some f =>
    obtain ⟨hok, hat⟩ := hp f rfl
    clear hp
    by_cases hcs : Tm.nameOk name = true ∧ 0 ≤ n ∧ n ≤ 60
    · obtain ⟨hb, h0, h6⟩ := hcs
      obtain ⟨m, rfl⟩ : ∃ m : Nat, n = (m : Nat) := ⟨n.toNat, by omega⟩
      have hm : m ≤ 60 := by omega
      have hRR : R = (Fm.text (Fm.putF name (.num m) f), true) := by
        rw [hR]
        show (if _ then _ else _) = _
        rw [if_pos ⟨hb, by omega, by omega⟩]
        simp
      have hdep : Fm.sxDepth (Fm.tree f) < 151 := by have := (Fm.tree_ok f hok).2.1; omega
      have hsp := Fm.sput_fo name m hb f 151 hdep hok
      have hwith := fun W v (hv : SV W 0 (Fm.tree f) v) V hV => s_with W V (Fm.tree f) v name m 151 hv (goodX_tree f hok (by omega)) (Fm.wOk_fo f 151 hdep) (by omega) hV
      rw [hsp] at hwith
      have hok2 := Fm.okm_put name m hm f hok
      have hat2 : Fm.atoms (Fm.putF name (.num m) f) ≤ 60 := by rw [Fm.atoms_put]; exact hat
      have hdep2 : Fm.sxDepth (Fm.tree (Fm.putF name (.num m) f)) < 151 := by rw [Fm.depth_put]; exact hdep
      have htext := fun W v (hv : SV W 0 (Fm.tree (Fm.putF name (.num m) f)) v) => s_ltext 151 _ W 0 v hv (goodX_tree _ hok2 (by omega)) hdep2
      simp only [Fm.tree_text] at htext
      rw [hb] at hnm
      have hin := fun W => in_any W (m : Nat) 0 60
      have hinb : decide ((0 : Int) ≤ (m : Nat) ∧ ((m : Nat) : Int) ≤ 60) = true := decide_eq_true ⟨by omega, by omega⟩
      rw [hinb] at hin
      have HRR := Lib.hid hRR
      have HTEXT := Lib.hid htext
      have HWITH := Lib.hid hwith
      clear hRR htext hwith hinb hok2 hat2 hdep2 hsp hdep hok hat hR hb
      generalize Fm.tree (Fm.putF name (.num m) f) = u at *
      go_enter Tryz.func10, Tryz.ntmps10
      go_wp2_with fail
      refine hc.mono ?_
      rintro e w1 ⟨s, ao, k, c, rfl, ha, hsv⟩
      have hv1 := (hsv _ rfl).less (Nat.zero_le _)
      have hA := ha.alloc (.cells #[str s, .slice ao k c] 35)
      have hwi := HWITH.out w1 _ hv1 _ ((After.refl w1).alloc (.cells #[str s, .slice ao k c] 35))
      have hb0 := heap_new' w1 (.cells #[str s, .slice ao k c] 35)
      have hn1 := hnm (w1.alloc (.cells #[str s, .slice ao k c] 35))
      have hi1 := hin (w1.alloc (.cells #[str s, .slice ao k c] 35))
      have HA := Lib.hid hA
      unfold SPPost at hwi
      clear hc hsv hv1 ha hA hnm hin hb0
      go_wp2_with fail
      refine hn1.mono ?_
      rintro e w2 ⟨rfl, rfl⟩
      go_wp2_with fail
      refine hi1.mono ?_
      rintro e w2 ⟨rfl, rfl⟩
      go_wp2_with fail
      refine hwi.mono ?_
      rintro e w3 ⟨s3, ao3, n3, c3, rfl, ha3, hv3⟩
      have ht3 := HTEXT.out w3 _ hv3.sv
      have HA3 := Lib.hid ha3
      clear hwi hn1 hi1 ha3 hv3
      go_wp2_with fail
      refine ht3.mono ?_
      rintro e w4 ⟨rfl, ha4⟩
      have HA4 := Lib.hid ha4
      clear ht3 ha4
      go_wp2_with fail
      go_ret2
      exact ⟨by rw [HRR.out]; rfl, (HA.out.trans HA3.out).trans HA4.out⟩
    · have hRR : R = ([], false) := by
        rw [hR]
        show (if _ then _ else _) = _
        rw [if_neg hcs]
      have HRR := Lib.hid hRR
      have hin := fun W => in_any W n 0 60
      obtain ⟨B, hB⟩ : ∃ B, B = Tm.nameOk name := ⟨_, rfl⟩
      rw [← hB] at hnm hcs
      obtain ⟨I, hI⟩ : ∃ I, I = decide ((0 : Int) ≤ n ∧ n ≤ 60) := ⟨_, rfl⟩
      rw [← hI] at hin
      have hBI : B = false ∨ (B = true ∧ I = false) := by
        cases B with
        | false => exact Or.inl rfl
        | true => exact Or.inr ⟨rfl, by rw [hI]; exact decide_eq_false fun h => hcs ⟨rfl, h.1, h.2⟩⟩
      clear hRR hR hok hat hcs hB hI
      rcases hBI with rfl | ⟨rfl, rfl⟩
      · go_enter Tryz.func10, Tryz.ntmps10
        go_wp2_with fail
        refine hc.mono ?_
        rintro e w1 ⟨s, ao, k, c, rfl, ha, _⟩
        have hA := ha.alloc (.cells #[str s, .slice ao k c] 35)
        have hn1 := hnm (w1.alloc (.cells #[str s, .slice ao k c] 35))
        have HA := Lib.hid hA
        clear hc ha hA hnm hin
        go_wp2_with fail
        refine hn1.mono ?_
        rintro e w2 ⟨rfl, rfl⟩
        go_wp2_with fail
        go_ret2
        exact ⟨by rw [HRR.out]; rfl, HA.out⟩
      · go_enter Tryz.func10, Tryz.ntmps10
        go_wp2_with fail
        refine hc.mono ?_
        rintro e w1 ⟨s, ao, k, c, rfl, ha, _⟩
        have hA := ha.alloc (.cells #[str s, .slice ao k c] 35)
        have hn1 := hnm (w1.alloc (.cells #[str s, .slice ao k c] 35))
        have hi1 := hin (w1.alloc (.cells #[str s, .slice ao k c] 35))
        have HA := Lib.hid hA
        clear hc ha hA hnm hin
        go_wp2_with fail
        refine hn1.mono ?_
        rintro e w2 ⟨rfl, rfl⟩
        go_wp2_with fail
        refine hi1.mono ?_
        rintro e w2 ⟨rfl, rfl⟩
        go_wp2_with fail
        go_ret2
        exact ⟨by rw [HRR.out]; rfl, HA.out⟩

theorem law_formulaPut (w : World) (l name : List UInt8) (n : Int) (hS : LaidS w) :
    Calls Tryz.prog 3 #[str l, str name, .int .i64 n] w fun e w' => e = .returned (.bool true) ∧ After w w' := by
  have hsz : (⟨l.toArray⟩ : ByteArray).size = l.length := by show l.toArray.size = _; simp
  have hsz2 : (⟨name.toArray⟩ : ByteArray).size = name.length := by show name.toArray.size = _; simp
  by_cases hbig : 1048576 < l.length
  · have hb : (1048576 : Int) < (l.length : Int) := by omega
    clear hbig
    go_enter Tryz.func3, Tryz.ntmps3
    go_wp2_with fail
    go_ret
    exact ⟨rfl, After.refl _⟩
  have hb : (l.length : Int) ≤ 1048576 := by omega
  by_cases hbig2 : 1048576 < name.length
  · have hb2 : (1048576 : Int) < (name.length : Int) := by omega
    clear hbig hbig2
    go_enter Tryz.func3, Tryz.ntmps3
    go_wp2_with fail
    go_ret
    exact ⟨rfl, After.refl _⟩
  have hb2 : (name.length : Int) ≤ 1048576 := by omega
  have hs := spec_formulaPut w l name n (by omega)
  have hi := fun W (hW : After w W) => impl_formulaPut W l name n (by omega) (by omega) (hS.after hW)
  generalize Fm.pPut l name n = r at *
  obtain ⟨rt, rb⟩ := r
  clear hbig hbig2 hS
  go_enter Tryz.func3, Tryz.ntmps3
  go_wp2_with fail
  refine hs.mono ?_
  rintro e w1 ⟨rfl, ha⟩
  have hi1 := hi w1 ha
  clear hs hi
  go_wp2_with fail
  refine hi1.mono ?_
  rintro e w2 ⟨rfl, ha2⟩
  clear hi1
  have hne : (rt != rt) = false := by simp
  cases rb with
  | true =>
    go_wp2_with fail
    go_ret
    exact ⟨rfl, ha.trans ha2⟩
  | false =>
    go_wp2_with fail
    go_ret
    exact ⟨rfl, ha.trans ha2⟩
end Go.Proofs.YtdjoafnohkmneaaGreatDoor

namespace Go.Proofs.YtdjoafnohkmneaaGreatDoor
open Go.RowKit Go.Extern.Stop Go.Stop Go.Extern

set_option maxRecDepth 100000

/-- errors.As(nil, target). -/
theorem as_nil (t : Value) (w : World) :
    Calls Tryz.prog 82 #[.nilIface, t] w fun e w' => e = .returned (.bool false) ∧ w' = w := by
  go_enter Tryz.func82, Tryz.ntmps82
  go_wp2
  go_ret
  exact ⟨rfl, rfl⟩


theorem tl_valueOf27 (t : Addr) (w : World) : (ReflectliteValue.unpack (.iface 127 (.pointer (some t)))).run Tryz.prog w
    = .ok (.agg #[.pointer (some ⟨8, 127, none⟩), .pointer (some ⟨w.heap.size, 0, none⟩), .int .u64 150]) (w.alloc (.cells #[.pointer (some t)] 127)) := by kernel_rfl
theorem tl_type27 (a : Addr) (w : World) : (ReflectliteValue.methodAny (ReflectliteValue.valueError "reflectlite.Value.Type" 0) (fun t _ _ _ => ReflectliteType.toType t) #[.agg #[.pointer (some ⟨8, 127, none⟩), .pointer (some a), .int .u64 150]]).run Tryz.prog w
    = .ok (.iface 158 (.agg #[.pointer (some ⟨8, 127, none⟩)])) w := by kernel_rfl
theorem tl_methodKind (h : Value) (w : World) : (Go.method 335 158 (.agg #[h]) "Kind").run Tryz.prog w = .ok (140, h) w := by kernel_rfl
theorem tl_kind27 (w : World) : ((ReflectliteType.abiMethod fun t => (fun a : Nat => Value.int IntKind.u8 (a : Int)) <$> Rtype.kind t) #[.pointer (some ⟨8, 127, none⟩)]).run Tryz.prog w = .ok (.int .u8 22) w := by kernel_rfl
theorem tl_kind25 (w : World) : ((ReflectliteType.abiMethod fun t => (fun a : Nat => Value.int IntKind.u8 (a : Int)) <$> Rtype.kind t) #[.pointer (some ⟨8, 125, none⟩)]).run Tryz.prog w = .ok (.int .u8 22) w := by kernel_rfl

theorem tl_rlm (z : Sem Value) (f : TypeId → Addr → Nat → Nat → Sem Value) (v : Value) :
    ReflectliteValue.method z f #[v] = (do match ← ReflectliteValue.parts v with | none => z | some (t, a, fl) => f t a fl (fl % 32)) := rfl
theorem tl_parts27 (a : Addr) (w : World) : (ReflectliteValue.parts (.agg #[.pointer (some ⟨8, 127, none⟩), .pointer (some a), .int .u64 150])).run Tryz.prog w = .ok (some (127, a, 150)) w := by kernel_rfl
/-- (Value).IsNil at the Value of a **p.E that is not nil. -/
theorem tl_isNil27 (a p : Addr) (W : World) (ha : W.cell? a = some (.pointer (some p))) :
    (ReflectliteValue.method (ReflectliteValue.valueError "reflectlite.Value.IsNil" 0) ReflectliteValue.isNil #[.agg #[.pointer (some ⟨8, 127, none⟩), .pointer (some a), .int .u64 150]]).run Tryz.prog W = .ok (.bool false) W := by
  rw [tl_rlm]
  simp only [Sem.run_bind, tl_parts27, Result.andThen]
  simp [ReflectliteValue.isNil, loadVar, isAgg, underlying, Tryz.underlying127, ha, Result.andThen]

theorem tl_methodElem (h : Value) (w : World) : (Go.method 335 158 (.agg #[h]) "Elem").run Tryz.prog w = .ok (206, .agg #[h]) w := by kernel_rfl
theorem tl_methodImplements (h : Value) (w : World) : (Go.method 335 158 (.agg #[h]) "Implements").run Tryz.prog w = .ok (207, .agg #[h]) w := by kernel_rfl
theorem tl_methodAssignableTo (h : Value) (w : World) : (Go.method 335 158 (.agg #[h]) "AssignableTo").run Tryz.prog w = .ok (204, .agg #[h]) w := by kernel_rfl
theorem tl_elem27 (w : World) : (ReflectliteType.method ReflectliteType.elem #[.agg #[.pointer (some ⟨8, 127, none⟩)]]).run Tryz.prog w = .ok (.iface 158 (.agg #[.pointer (some ⟨8, 125, none⟩)])) w := by kernel_rfl
theorem tl_implements25 (w : World) : (ReflectliteType.relation "Implements" ReflectliteType.implements_ #[.agg #[.pointer (some ⟨8, 125, none⟩)], .iface 158 (.agg #[.pointer (some ⟨8, 59, none⟩)])]).run Tryz.prog w = .ok (.bool true) w := by kernel_rfl
theorem tl_typeOf25 (v : Value) (w : World) : (ReflectliteType.typeOf #[.iface 125 v]).run Tryz.prog w = .ok (.iface 158 (.agg #[.pointer (some ⟨8, 125, none⟩)])) w := by kernel_rfl
theorem tl_assignable25 (w : World) : (ReflectliteType.relation "AssignableTo" ReflectliteType.assignableTo #[.agg #[.pointer (some ⟨8, 125, none⟩)], .iface 158 (.agg #[.pointer (some ⟨8, 125, none⟩)])]).run Tryz.prog w = .ok (.bool true) w := by kernel_rfl
theorem tl_valueOf25 (e : Addr) (w : World) : (ReflectliteValue.unpack (.iface 125 (.pointer (some e)))).run Tryz.prog w
    = .ok (.agg #[.pointer (some ⟨8, 125, none⟩), .pointer (some ⟨w.heap.size, 0, none⟩), .int .u64 150]) (w.alloc (.cells #[.pointer (some e)] 125)) := by kernel_rfl

theorem tl_elemOf27 (w : World) : (Rtype.elem? 127).run Tryz.prog w = .ok (some 125) w := by kernel_rfl
theorem tl_mk25 (p : Addr) (w : World) : (ReflectliteValue.mk 125 p ReflectliteValue.flagAddr).run Tryz.prog w = .ok (.agg #[.pointer (some ⟨8, 125, none⟩), .pointer (some p), .int .u64 406]) w := by kernel_rfl
/-- (Value).Elem at the Value of a **p.E that is not nil: the Value of the *p.E variable that it points to, addressable. -/
theorem tl_elemV27 (a p : Addr) (W : World) (ha : W.cell? a = some (.pointer (some p))) :
    (ReflectliteValue.method (ReflectliteValue.valueError "reflectlite.Value.Elem" 0) ReflectliteValue.elem #[.agg #[.pointer (some ⟨8, 127, none⟩), .pointer (some a), .int .u64 150]]).run Tryz.prog W
      = .ok (.agg #[.pointer (some ⟨8, 125, none⟩), .pointer (some p), .int .u64 406]) W := by
  rw [tl_rlm]
  simp only [Sem.run_bind, tl_parts27, Result.andThen]
  simp [ReflectliteValue.elem, loadVar, isAgg, underlying, Tryz.underlying127, ha, Result.andThen, tl_elemOf27, tl_mk25]
theorem tl_rls (v x : Value) : ReflectliteValue.set #[v, x] = (do
    let (some (dst, a, fl), some (src, b, _)) := (← ReflectliteValue.parts v, ← ReflectliteValue.parts x)
      | unsupported (.noEntry "extern/(internal/reflectlite.Value).Set.zeroValue")
    if fl / ReflectliteValue.flagAddr % 2 == 0 then unsupported (.noEntry "extern/(internal/reflectlite.Value).Set.unaddressable")
    let val ← loadVar src b
    if ← Rtype.directlyAssignable dst src then storeVar dst a val
    else if ← Rtype.implements dst src then
      if (← Rtype.kind src) == 20 then
        match val with
        | .nilIface => unsupported (.noEntry "extern/reflectlite: a nil value of one interface type handed on as a value of another")
        | _ => storeVar dst a val
      else storeVar dst a (.iface src val)
    else panicString ("reflectlite.Set: value of type " ++ (← Rtype.spelt src) ++ " is not assignable to type " ++ (← Rtype.spelt dst))
    pure (.tuple #[])) := rfl
theorem tl_parts25a (a : Addr) (w : World) : (ReflectliteValue.parts (.agg #[.pointer (some ⟨8, 125, none⟩), .pointer (some a), .int .u64 406])).run Tryz.prog w = .ok (some (125, a, 406)) w := by kernel_rfl
theorem tl_parts25 (a : Addr) (w : World) : (ReflectliteValue.parts (.agg #[.pointer (some ⟨8, 125, none⟩), .pointer (some a), .int .u64 150])).run Tryz.prog w = .ok (some (125, a, 150)) w := by kernel_rfl
theorem tl_direct25 (w : World) : (Rtype.directlyAssignable 125 125).run Tryz.prog w = .ok true w := by kernel_rfl
theorem tl_size25 (w : World) : (sizeOf 125).run Tryz.prog w = .ok 1 w := by kernel_rfl
/-- (Value).Set: the *p.E variable at 'ta' gets what the Value's own variable 'b' holds. -/
theorem tl_set25 (ta b e : Addr) (old : Value) (W : World) (hb : W.cell? b = some (.pointer (some e))) (ht : W.cell? ta = some old) (hf : W.frozen? ta = false) :
    (ReflectliteValue.set #[.agg #[.pointer (some ⟨8, 125, none⟩), .pointer (some ta), .int .u64 406], .agg #[.pointer (some ⟨8, 125, none⟩), .pointer (some b), .int .u64 150]]).run Tryz.prog W
      = .ok (.tuple #[]) (W.setCell ta (.pointer (some e))) := by
  rw [tl_rls]
  simp only [Sem.run_bind, tl_parts25a, tl_parts25, Result.andThen]
  simp [ReflectliteValue.flagAddr, loadVar, isAgg, underlying, Tryz.underlying125, hb, Result.andThen, tl_direct25, storeVar, Value.cells, storeCells, Addr.add]
  rw [run_store Tryz.prog W ta _ _ (by rfl)]
  simp [ht, hf]

set_option maxHeartbeats 4000000 in
theorem as_hit (e t : Addr) (old : Value) (w : World) (hg : w.cell? ⟨0, 0, none⟩ = some (.iface 158 (.agg #[.pointer (some ⟨8, 59, none⟩)]))) (ht0 : w.cell? t = some old) (hf0 : w.frozen? t = false) :
    Calls Tryz.prog 82 #[.iface 125 (.pointer (some e)), .iface 127 (.pointer (some t))] w fun ev w' => ev = .returned (.bool true) ∧ w' = ((((w.alloc (.cells #[.pointer (some t)] 127)).alloc (.cells #[.pointer (some ⟨8, 127, none⟩), .pointer (some ⟨w.heap.size, 0, none⟩), .int .u64 150] 135)).alloc (.cells #[.pointer (some ⟨8, 127, none⟩), .pointer (some ⟨w.heap.size, 0, none⟩), .int .u64 150] 135)).alloc (.cells #[.pointer (some e)] 125)).setCell t (.pointer (some e)) := by
  have h6 := @run_callFunc_extern Tryz.prog 87 _ (fun args => ReflectliteValue.unpack (args.getD 0 (.tuple #[]))) Tryz.func87 (by kernel_rfl) (by kernel_rfl) (by kernel_rfl) (by kernel_rfl)
  have h7 := @run_callFunc_extern Tryz.prog 88 _ (ReflectliteValue.methodAny (ReflectliteValue.valueError "reflectlite.Value.Type" 0) (fun t _ _ _ => ReflectliteType.toType t)) Tryz.func88 (by kernel_rfl) (by kernel_rfl) (by kernel_rfl) (by kernel_rfl)
  have h8 := @run_callFunc_extern Tryz.prog 89 _ (ReflectliteValue.method (ReflectliteValue.valueError "reflectlite.Value.IsNil" 0) ReflectliteValue.isNil) Tryz.func89 (by kernel_rfl) (by kernel_rfl) (by kernel_rfl) (by kernel_rfl)
  have h27 := @run_callFunc_extern Tryz.prog 140 _ (ReflectliteType.abiMethod fun t => do pure (.int .u8 (← Rtype.kind t))) Tryz.func140 (by kernel_rfl) (by kernel_rfl) (by kernel_rfl) (by kernel_rfl)
  have h37 := @run_callFunc_extern Tryz.prog 206 _ (ReflectliteType.method ReflectliteType.elem) Tryz.func206 (by kernel_rfl) (by kernel_rfl) (by kernel_rfl) (by kernel_rfl)
  have h38 := @run_callFunc_extern Tryz.prog 207 _ (ReflectliteType.relation "Implements" ReflectliteType.implements_) Tryz.func207 (by kernel_rfl) (by kernel_rfl) (by kernel_rfl) (by kernel_rfl)
  have h10 := @run_callFunc_extern Tryz.prog 101 _ ReflectliteType.typeOf Tryz.func101 (by kernel_rfl) (by kernel_rfl) (by kernel_rfl) (by kernel_rfl)
  have h35 := @run_callFunc_extern Tryz.prog 204 _ (ReflectliteType.relation "AssignableTo" ReflectliteType.assignableTo) Tryz.func204 (by kernel_rfl) (by kernel_rfl) (by kernel_rfl) (by kernel_rfl)
  have h11 := @run_callFunc_extern Tryz.prog 102 _ (ReflectliteValue.method (ReflectliteValue.valueError "reflectlite.Value.Elem" 0) ReflectliteValue.elem) Tryz.func102 (by kernel_rfl) (by kernel_rfl) (by kernel_rfl) (by kernel_rfl)
  have h12 := @run_callFunc_extern Tryz.prog 103 _ ReflectliteValue.set Tryz.func103 (by kernel_rfl) (by kernel_rfl) (by kernel_rfl) (by kernel_rfl)
  have tO := tl_typeOf25
  have mA := tl_methodAssignableTo
  have a25 := tl_assignable25
  have v25 := tl_valueOf25
  have f6 := tl_valueOf27
  have f7 := tl_type27
  have mK := tl_methodKind
  have mE := tl_methodElem
  have mI := tl_methodImplements
  have k27 := tl_kind27
  have k25 := tl_kind25
  have e27 := tl_elem27
  have i25 := tl_implements25
  have n8 := tl_isNil27 ⟨w.heap.size, 0, none⟩ t ((w.alloc (.cells #[.pointer (some t)] 127)).alloc (.cells #[.pointer (some ⟨8, 127, none⟩), .pointer (some ⟨w.heap.size, 0, none⟩), .int .u64 150] 135)) (by simp)
  have hlt : 0 < w.heap.size := by
    rcases Nat.eq_zero_or_pos w.heap.size with h0 | h
    · simp [World.cell?, h0] at hg
    · exact h
  have hg2 : ((w.alloc (.cells #[.pointer (some t)] 127)).alloc (.cells #[.pointer (some ⟨8, 127, none⟩), .pointer (some ⟨w.heap.size, 0, none⟩), .int .u64 150] 135)).cell? ⟨0, 0, none⟩ = some (.iface 158 (.agg #[.pointer (some ⟨8, 59, none⟩)])) := by
    rw [World.cell?_alloc_lt _ _ ⟨0, 0, none⟩ (by simp), World.cell?_alloc_lt _ _ ⟨0, 0, none⟩ hlt]; exact hg
  have htl : t.block < w.heap.size := by
    rcases Nat.lt_or_ge t.block w.heap.size with h | h
    · exact h
    · simp [World.cell?, Array.getElem?_eq_none h] at ht0
  have el := tl_elemV27 ⟨w.heap.size, 0, none⟩ t (((w.alloc (.cells #[.pointer (some t)] 127)).alloc (.cells #[.pointer (some ⟨8, 127, none⟩), .pointer (some ⟨w.heap.size, 0, none⟩), .int .u64 150] 135)).alloc (.cells #[.pointer (some ⟨8, 127, none⟩), .pointer (some ⟨w.heap.size, 0, none⟩), .int .u64 150] 135)) (by rw [World.cell?_alloc_lt _ _ ⟨w.heap.size, 0, none⟩ (by simp; omega)]; simp)
  have st := tl_set25 t ⟨w.heap.size + 1 + 1 + 1, 0, none⟩ e old ((((w.alloc (.cells #[.pointer (some t)] 127)).alloc (.cells #[.pointer (some ⟨8, 127, none⟩), .pointer (some ⟨w.heap.size, 0, none⟩), .int .u64 150] 135)).alloc (.cells #[.pointer (some ⟨8, 127, none⟩), .pointer (some ⟨w.heap.size, 0, none⟩), .int .u64 150] 135)).alloc (.cells #[.pointer (some e)] 125))
    (by rw [World.cell?_alloc_at _ _ _ _ (by simp)]; rfl)
    (by rw [World.cell?_alloc_lt _ _ t (by simp; omega), World.cell?_alloc_lt _ _ t (by simp; omega), World.cell?_alloc_lt _ _ t (by simp; omega), World.cell?_alloc_lt _ _ t htl]; exact ht0)
    (by rw [World.frozen?_alloc_old _ _ t (by simp; omega), World.frozen?_alloc_old _ _ t (by simp; omega), World.frozen?_alloc_old _ _ t (by simp; omega), World.frozen?_alloc_old _ _ t (Nat.ne_of_lt htl)]; exact hf0)
  go_enter Tryz.func82, Tryz.ntmps82
  go_wp2
  refine wp_loop_rounds 1 ?_
  rw [rounds_succ]
  go_wp2
  go_ret
  exact ⟨rfl, rfl⟩

end Go.Proofs.YtdjoafnohkmneaaGreatDoor
