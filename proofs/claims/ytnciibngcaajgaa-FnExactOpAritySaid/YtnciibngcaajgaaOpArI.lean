/-
  The contract of the program's OpArity.
-/
import Derived.Test.YtnciibngcaajgaaTmNode
namespace Go.Proofs.Ytnciibngcaajgaa
open Go Go.RowKit

set_option maxRecDepth 100000 in
set_option maxHeartbeats 1000000 in
theorem opArI_any (s : ByteArray) (w : World) : Calls Try.prog 45 #[.string s] w fun e w' => e = .returned (.int .i64 (opAr s.toList)) ∧ w' = w := by
  go_enter Try.func45, Try.ntmps45
  go_wp2
  all_goals
    go_ret
    exact ⟨by unfold opAr; simp_all, rfl⟩
end Go.Proofs.Ytnciibngcaajgaa

