/-
  The contract of the test for great codes.
-/
import Derived.Test.YtjobmgbchpoheaaProg
import Derived.Test.YtjobmgbchpoheaaKit
namespace Go.Proofs.Ytjobmgbchpoheaa
open Go Go.RowKit

set_option maxHeartbeats 400000 in
theorem big_yes (a : Option Addr) (len cap : Nat) (w : World) (_hl : len ≤ 9223372036854775807) (h : 1048576 < (len : Int)) :
    Calls Try.prog 5 #[.slice a len cap] w fun e w' => e = .returned (.bool true) ∧ w = w' := by
  go_enter Try.func5, Try.ntmps5
  go_wp2_with fail
  go_ret
  exact ⟨rfl, rfl⟩
set_option maxHeartbeats 400000 in
theorem big_no (a : Option Addr) (len cap : Nat) (w : World) (h : ¬ 1048576 < (len : Int)) :
    Calls Try.prog 5 #[.slice a len cap] w fun e w' => e = .returned (.bool false) ∧ w = w' := by
  go_enter Try.func5, Try.ntmps5
  go_wp2_with fail
  go_ret
  exact ⟨rfl, rfl⟩
end Go.Proofs.Ytjobmgbchpoheaa

