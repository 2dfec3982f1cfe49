/-
  The walk of the law on IndexOf: the program answers as the model does at every slice of strings.
-/
import Derived.Test.YtjipomnemgeaeaaIndex
import Derived.Test.YtjipomnemgeaeaaSz
import Derived.Test.YtjipomnemgeaeaaCopy
import Derived.Test.YtjipomnemgeaeaaEqs
namespace Go.Proofs.Ytjipomnemgeaeaa
open Go Go.RowKit

set_option maxHeartbeats 400000 in
theorem lawIx_big (v : Value) (s : ByteArray) (w : World) (_hs : s.size ≤ 9223372036854775807) (hlen : 1048576 < (s.size : Int)) :
    Calls Try.prog 4 #[v, .string s] w fun e w' => e = .returned (.bool true) ∧ Below w.heap.size w w' := by
  go_enter Try.func4, Try.ntmps4
  go_wp2_with fail
  go_ret
  exact ⟨rfl, Below.refl _ _⟩

set_option maxRecDepth 100000 in
set_option maxHeartbeats 1000000 in
theorem lawIx_any (xs : List ByteArray) (v : Value) (s : ByteArray) (w : World) (hn : xs.length ≤ 9223372036854775807) (hz : ∀ x ∈ xs, x.size ≤ 9223372036854775807) (hs : s.size ≤ 9223372036854775807) (h : SS w v xs) :
    Calls Try.prog 4 #[v, .string s] w fun e w' => e = .returned (.bool true) ∧ Below w.heap.size w w' := by
  by_cases hlen : 1048576 < (s.size : Int)
  · exact lawIx_big v s w hs hlen
  have HS := Lib.hid h
  have HZ := Lib.hid (sz_any xs v 1048576 w (by decide) (by decide) hn hz h)
  clear h hz
  go_enter Try.func4, Try.ntmps4
  go_wp2_with fail
  refine HZ.out.mono ?_
  rintro e w' ⟨n, hr, rfl, rfl⟩
  rcases hr with ⟨hr0, hr1⟩ | ⟨rfl, _⟩
  · have hn' : xs.length ≤ 1048576 := by omega
    clear hr1 HZ
    go_wp2_with fail
    refine (copy_any xs v w hn' HS.out).mono ?_
    rintro e w1 ⟨v1, rfl, ho1, hv1, hb1⟩
    have HO1 := Lib.hid (SS_of_row ho1)
    have HB1 := Lib.hid hb1
    clear hv1 ho1 hb1
    go_wp2_with fail
    refine (ixS_any xs v1 s w1 hn HO1.out).mono ?_
    rintro e w2 ⟨rfl, rfl⟩
    go_wp2_with fail
    refine (copy_any xs v w2 hn' (HS.out.below HB1.out)).mono ?_
    rintro e w3 ⟨v3, rfl, ho3, hv3, hb3⟩
    have HO3 := Lib.hid (SS_of_row ho3)
    have HB3 := Lib.hid (HB1.out.trans (hb3.mono HB1.out.size))
    clear hv3 ho3 hb3
    go_wp2_with fail
    refine (ixI_any xs v3 s w3 hn HO3.out).mono ?_
    rintro e w4 ⟨rfl, rfl⟩
    go_wp2_with fail
    refine (copy_any xs v w4 hn' (HS.out.below HB3.out)).mono ?_
    rintro e w5 ⟨v5, rfl, ho5, hv5, hb5⟩
    have HO5 := Lib.hid (SS_of_row ho5)
    have HO6 := Lib.hid (HO3.out.below hb5)
    have HB5 := Lib.hid (HB3.out.trans (hb5.mono HB3.out.size))
    clear hv5 ho5 hb5
    go_wp2_with fail
    refine (eqs_any xs v3 v5 w5 hn HO6.out HO5.out).mono ?_
    rintro e w6 ⟨rfl, hb6⟩
    go_wp2_with fail
    go_ret
    exact ⟨rfl, HB5.out.trans (hb6.mono HB5.out.size)⟩
  · clear HZ
    go_wp2_with fail
    go_ret
    exact ⟨rfl, Below.refl _ _⟩
#print axioms lawIx_any
end Go.Proofs.Ytjipomnemgeaeaa
