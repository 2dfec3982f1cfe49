/-
  The walk of the law on OpArity.
-/
import Derived.Test.YtnciibngcaajgaaOpArI
namespace Go.Proofs.Ytnciibngcaajgaa
open Go Go.RowKit

theorem lawOa_big (op : ByteArray) (w : World) (_hs : op.size ≤ 9223372036854775807) (hlen : 1048576 < (op.size : Int)) :
    Calls Try.prog 12 #[.string op] w fun e w' => e = .returned (.bool true) ∧ Below w.heap.size w w' := by
  go_enter Try.func12, Try.ntmps12
  go_wp2_with fail
  go_ret
  exact ⟨rfl, Below.refl _ _⟩

set_option maxHeartbeats 400000 in
theorem lawOpArity (op : ByteArray) (w : World) (hs : op.size ≤ 9223372036854775807) :
    Calls Try.prog 12 #[.string op] w fun e w' => e = .returned (.bool true) ∧ Below w.heap.size w w' := by
  by_cases hlen : 1048576 < (op.size : Int)
  · exact lawOa_big op w hs hlen
  obtain ⟨p, hp⟩ : ∃ p, p = opAr op.toList := ⟨_, rfl⟩
  have HS := opArS_any op w
  have HI := opArI_any op w
  rw [← hp] at HS HI
  clear hp
  go_enter Try.func12, Try.ntmps12
  go_wp2_with fail
  refine HS.mono ?_
  rintro e w1 ⟨rfl, rfl⟩
  go_wp2_with fail
  refine HI.mono ?_
  rintro e w1 ⟨rfl, rfl⟩
  go_wp2_with fail
  go_ret
  exact ⟨rfl, Below.refl _ _⟩
#print axioms lawOpArity
end Go.Proofs.Ytnciibngcaajgaa

