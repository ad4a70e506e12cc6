/-
  Worlds that grow but for one block.
-/
import Derived.Test.YtjfdindlfakmcaaPkA
import Derived.Test.YtjfdindlfakmcaaPkB1
namespace Go.Proofs.Ytjfdindlfakmcaa
open Go.RowKit

theorem after_grown {w W : World} (b : Nat) (h : After w W) : w.grownBy W (some b) := ⟨h.os, h.tape, h.output, h.size, fun k hk _ => h.block k hk⟩
theorem grown_setx (w : World) (b i : Nat) (v : Value) : w.grownBy (w.setCell ⟨b, i, none⟩ v) (some b) := by
  refine ⟨rfl, rfl, rfl, by simp [World.setCell], fun k hk hne => ?_⟩
  have : b ≠ k := fun e => hne (e ▸ rfl)
  simp [World.setCell, Array.getElem?_modify, this]

theorem after_own {w w3 wr : World} {b : Nat} (ha : After w w3) (hb : w.heap.size ≤ b) (hg : w3.grownBy wr (some b)) : After w wr :=
  ⟨hg.os.trans ha.os, hg.tape.trans ha.tape, hg.output.trans ha.output, Nat.le_trans ha.size hg.size, fun q hq => by
    rw [hg.block q (Nat.lt_of_lt_of_le hq ha.size) (fun e => by injection e with e; omega)]
    exact ha.block q hq⟩

end Go.Proofs.Ytjfdindlfakmcaa
