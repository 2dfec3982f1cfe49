/-
  The walks of the laws on ParseNumber and ParseInt: the program answers as the model does at every string.
-/
import Derived.Test.YtekgfjfdabcmfaaDoorMust
namespace Go.Proofs.YtekgfjfdabcmfaaDoor
open Go Go.RowKit

set_option maxRecDepth 100000 in
set_option maxHeartbeats 400000 in
theorem lawN_yes (s : ByteArray) (w : World) (he : Env w) (hlen : ¬ (1048576 < (s.size : Int))) (n : Int) (e : numOut (0) 999999 s.data.toList = .tuple #[.int .i64 n, .bool true]) :
    Calls Tryd.prog 6 #[.string s] w fun e w' => e = .returned (.bool true) ∧ Below w.heap.size w w' := by
  have HS := Lib.hid (specNumber_any s w (by unfold maxLen; omega))
  have HI := Lib.hid (fun W hb => implNumber_any s (by omega) W (he.below (w' := W) hb))
  rw [e] at HS HI
  clear he e
  go_enter Tryd.func6, Tryd.ntmps6
  go_wp2_with fail
  refine HS.out.mono ?_
  rintro e w1 ⟨rfl, hb1⟩
  have HJ := Lib.hid (HI.out _ hb1)
  go_wp2_with fail
  refine HJ.out.mono ?_
  rintro e w2 ⟨rfl, hb2⟩
  go_wp2_with fail
  go_ret
  exact ⟨rfl, hb1.trans (hb2.mono hb1.size)⟩
set_option maxRecDepth 100000 in
set_option maxHeartbeats 400000 in
theorem lawN_no (s : ByteArray) (w : World) (he : Env w) (hlen : ¬ (1048576 < (s.size : Int))) (e : numOut (0) 999999 s.data.toList = .tuple #[.int .i64 0, .bool false]) :
    Calls Tryd.prog 6 #[.string s] w fun e w' => e = .returned (.bool true) ∧ Below w.heap.size w w' := by
  have HS := Lib.hid (specNumber_any s w (by unfold maxLen; omega))
  have HI := Lib.hid (fun W hb => implNumber_any s (by omega) W (he.below (w' := W) hb))
  rw [e] at HS HI
  clear he e
  go_enter Tryd.func6, Tryd.ntmps6
  go_wp2_with fail
  refine HS.out.mono ?_
  rintro e w1 ⟨rfl, hb1⟩
  have HJ := Lib.hid (HI.out _ hb1)
  go_wp2_with fail
  refine HJ.out.mono ?_
  rintro e w2 ⟨rfl, hb2⟩
  go_wp2_with fail
  go_ret
  exact ⟨rfl, hb1.trans (hb2.mono hb1.size)⟩
set_option maxHeartbeats 400000 in
theorem lawN_big (s : ByteArray) (w : World) (_hs : s.size ≤ maxLen) (hlen : 1048576 < (s.size : Int)) :
    Calls Tryd.prog 6 #[.string s] w fun e w' => e = .returned (.bool true) ∧ Below w.heap.size w w' := by
  unfold maxLen at _hs
  go_enter Tryd.func6, Tryd.ntmps6
  go_wp2_with fail
  go_ret
  exact ⟨rfl, Below.refl _ _⟩
theorem lawN_any (s : ByteArray) (w : World) (hs : s.size ≤ maxLen) (he : Env w) :
    Calls Tryd.prog 6 #[.string s] w fun e w' => e = .returned (.bool true) ∧ Below w.heap.size w w' := by
  by_cases hlen : 1048576 < (s.size : Int)
  · exact lawN_big s w hs hlen
  · rcases num_cases (0) 999999 s.data.toList with ⟨n, _, _, _, e⟩ | ⟨_, e⟩
    · exact lawN_yes s w he hlen n e
    · exact lawN_no s w he hlen e
set_option maxRecDepth 100000 in
set_option maxHeartbeats 400000 in
theorem lawI_yes (s : ByteArray) (w : World) (he : Env w) (hlen : ¬ (1048576 < (s.size : Int))) (n : Int) (e : numOut (-999999999999) 999999999999 s.data.toList = .tuple #[.int .i64 n, .bool true]) :
    Calls Tryd.prog 7 #[.string s] w fun e w' => e = .returned (.bool true) ∧ Below w.heap.size w w' := by
  have HS := Lib.hid (specInt_any s w (by unfold maxLen; omega))
  have HI := Lib.hid (fun W hb => implInt_any s (by omega) W (he.below (w' := W) hb))
  rw [e] at HS HI
  clear he e
  go_enter Tryd.func7, Tryd.ntmps7
  go_wp2_with fail
  refine HS.out.mono ?_
  rintro e w1 ⟨rfl, hb1⟩
  have HJ := Lib.hid (HI.out _ hb1)
  go_wp2_with fail
  refine HJ.out.mono ?_
  rintro e w2 ⟨rfl, hb2⟩
  go_wp2_with fail
  go_ret
  exact ⟨rfl, hb1.trans (hb2.mono hb1.size)⟩
set_option maxRecDepth 100000 in
set_option maxHeartbeats 400000 in
theorem lawI_no (s : ByteArray) (w : World) (he : Env w) (hlen : ¬ (1048576 < (s.size : Int))) (e : numOut (-999999999999) 999999999999 s.data.toList = .tuple #[.int .i64 0, .bool false]) :
    Calls Tryd.prog 7 #[.string s] w fun e w' => e = .returned (.bool true) ∧ Below w.heap.size w w' := by
  have HS := Lib.hid (specInt_any s w (by unfold maxLen; omega))
  have HI := Lib.hid (fun W hb => implInt_any s (by omega) W (he.below (w' := W) hb))
  rw [e] at HS HI
  clear he e
  go_enter Tryd.func7, Tryd.ntmps7
  go_wp2_with fail
  refine HS.out.mono ?_
  rintro e w1 ⟨rfl, hb1⟩
  have HJ := Lib.hid (HI.out _ hb1)
  go_wp2_with fail
  refine HJ.out.mono ?_
  rintro e w2 ⟨rfl, hb2⟩
  go_wp2_with fail
  go_ret
  exact ⟨rfl, hb1.trans (hb2.mono hb1.size)⟩
set_option maxHeartbeats 400000 in
theorem lawI_big (s : ByteArray) (w : World) (_hs : s.size ≤ maxLen) (hlen : 1048576 < (s.size : Int)) :
    Calls Tryd.prog 7 #[.string s] w fun e w' => e = .returned (.bool true) ∧ Below w.heap.size w w' := by
  unfold maxLen at _hs
  go_enter Tryd.func7, Tryd.ntmps7
  go_wp2_with fail
  go_ret
  exact ⟨rfl, Below.refl _ _⟩
theorem lawI_any (s : ByteArray) (w : World) (hs : s.size ≤ maxLen) (he : Env w) :
    Calls Tryd.prog 7 #[.string s] w fun e w' => e = .returned (.bool true) ∧ Below w.heap.size w w' := by
  by_cases hlen : 1048576 < (s.size : Int)
  · exact lawI_big s w hs hlen
  · rcases num_cases (-999999999999) 999999999999 s.data.toList with ⟨n, _, _, _, e⟩ | ⟨_, e⟩
    · exact lawI_yes s w he hlen n e
    · exact lawI_no s w he hlen e
#print axioms lawN_any
#print axioms lawI_any
end Go.Proofs.YtekgfjfdabcmfaaDoor
