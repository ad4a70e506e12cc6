/-
  The walk of a promise's law: function texts without m have parts without m: whatever the code, the law returns true.
-/
import Derived.Test.YtfjohagdlaiapaaGreatPkQ
import Derived.Test.YtfjohagdlaiapaaGreatPkH
namespace Go.Proofs.YtfjohagdlaiapaaGreat
open Go.RowKit

set_option maxHeartbeats 1000000
set_option maxRecDepth 100000

theorem draw_total (w : World) (v : Value) (n : Nat) (h : CodeArg w v n) : Calls Tryz.prog 6 #[v] w (DrawPost w) := by
  have hopen := open_any w v n h
  clear h
  go_enter Tryz.func6, Tryz.ntmps6
  go_wp2_with fail
  refine hopen.mono ?_
  rintro e w1 ⟨rb, rfl, hr, ha, hd⟩
  have hfs := functions_any w1 rb 0 hd (by omega)
  clear hopen hd
  go_wp2_with fail
  refine hfs.mono ?_
  rintro e w2 ⟨s, q, rfl, hs, hq, hg, hd⟩
  clear hfs hd
  go_wp2_with fail
  go_ret
  exact ⟨s, rfl, by omega, after_open ha hg hr⟩

end Go.Proofs.YtfjohagdlaiapaaGreat
