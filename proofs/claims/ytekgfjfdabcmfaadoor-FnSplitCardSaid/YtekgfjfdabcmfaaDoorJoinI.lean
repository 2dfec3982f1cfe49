/-
  The contract of the program's Join, out of the library's.
-/
import Derived.Test.YtekgfjfdabcmfaaDoorStrs
import Derived.Test.YtekgfjfdabcmfaaDoorShelf
import Derived.Lib.Join
namespace Go.Proofs.YtekgfjfdabcmfaaDoor
open Go Go.RowKit

theorem joinL_any (xs : List ByteArray) (v : Value) (sep : ByteArray) (w : World) (hn : xs.length ≤ 1048576) (hlen : (Lib.join (bs xs) sep.data.toList).length ≤ 140737488355328) (h : SS w v xs) :
    Calls Tryd.prog 36 #[v, .string sep] w fun e w' => e = .returned (.string ⟨(Lib.join (bs xs) sep.data.toList).toArray⟩) ∧ Below w.heap.size w w' := by
  rcases h with ⟨rfl, a, c, rfl⟩ | ⟨h1, b, o, c, rfl, hc, hb, hcell⟩
  · exact (Tryd.strings_Join_none a c sep w).mono fun e w' ⟨he, hw⟩ => ⟨he, by rw [hw]; exact Below.refl _ _⟩
  · exact Tryd.strings_Join b o c xs sep w hcell hb (by omega) hc hlen

set_option maxHeartbeats 400000 in
theorem joinI_any (xs : List ByteArray) (v : Value) (sep : ByteArray) (w : World) (hn : xs.length ≤ 1048576) (hlen : (Lib.join (bs xs) sep.data.toList).length ≤ 140737488355328) (h : SS w v xs) :
    Calls Tryd.prog 19 #[v, .string sep] w fun e w' => e = .returned (.string ⟨(Lib.join (bs xs) sep.data.toList).toArray⟩) ∧ Below w.heap.size w w' := by
  have HC := Lib.hid (joinL_any xs v sep w hn hlen h)
  clear hn hlen h
  go_enter Tryd.func19, Tryd.ntmps19
  go_wp2_with (go_at_call 36; refine HC.out.mono ?_; rintro e w1 ⟨rfl, hb1⟩)
  go_ret
  exact ⟨rfl, hb1⟩
end Go.Proofs.YtekgfjfdabcmfaaDoor
