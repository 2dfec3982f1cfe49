/-
  The walk of the law on Join: the program answers as the model does at every slice of strings.
-/
import Derived.Test.YtekgfjfdabcmfaaJoinImpl
import Derived.Test.YtekgfjfdabcmfaaCopy
import Derived.Test.YtekgfjfdabcmfaaEqs
namespace Go.Proofs.Ytekgfjfdabcmfaa
open Go Go.RowKit

set_option maxHeartbeats 400000 in
theorem lawJ_sep (v : Value) (sep : ByteArray) (w : World) (_hs : sep.size ≤ 9223372036854775807) (hlen : 1048576 < (sep.size : Int)) :
    Calls Try.prog 3 #[v, .string sep] w fun e w' => e = .returned (.bool true) ∧ Below w.heap.size w w' := by
  go_enter Try.func3, Try.ntmps3
  go_wp2_with fail
  go_ret
  exact ⟨rfl, Below.refl _ _⟩

set_option maxRecDepth 100000 in
set_option maxHeartbeats 1000000 in
theorem lawJ_any (xs : List ByteArray) (v : Value) (sep : ByteArray) (w : World) (hn : xs.length ≤ 9223372036854775807) (hz : ∀ x ∈ xs, x.size ≤ 9223372036854775807) (hs : sep.size ≤ 9223372036854775807) (h : SS w v xs) :
    Calls Try.prog 3 #[v, .string sep] w fun e w' => e = .returned (.bool true) ∧ Below w.heap.size w w' := by
  by_cases hlen : 1048576 < (sep.size : Int)
  · exact lawJ_sep v sep w hs hlen
  have HS := Lib.hid h
  have HZ := Lib.hid (sz_any xs v 1048576 w (by decide) (by decide) hn hz h)
  clear h hz
  go_enter Try.func3, Try.ntmps3
  go_wp2_with fail
  refine HZ.out.mono ?_
  rintro e w' ⟨n, hr, rfl, rfl⟩
  rcases hr with ⟨hr0, hr1⟩ | ⟨rfl, _⟩
  · have hn' : xs.length ≤ 1048576 := by omega
    have hsum : sumSz xs ≤ 1048576 := by omega
    have hJ := join_small (sep := sep) hn' (by omega) hsum
    have HJ := Lib.hid hJ
    clear hr1 hsum hJ
    go_wp2_with fail
    refine (copy_any xs v w hn' HS.out).mono ?_
    rintro e w1 ⟨v1, rfl, ho1, hv1, hb1⟩
    have HO1 := Lib.hid (SS_of_row ho1)
    clear hv1 ho1
    go_wp2_with fail
    refine (joinS_any xs v1 sep w1 hn HJ.out HO1.out).mono ?_
    rintro e w2 ⟨rfl, hb2⟩
    have HB2 := Lib.hid (hb1.trans (hb2.mono hb1.size))
    clear hb1 hb2
    go_wp2_with fail
    refine (copy_any xs v w2 hn' (HS.out.below HB2.out)).mono ?_
    rintro e w3 ⟨v3, rfl, ho3, hv3, hb3⟩
    have HO3 := Lib.hid (SS_of_row ho3)
    have HB3 := Lib.hid (HB2.out.trans (hb3.mono HB2.out.size))
    clear hv3 ho3 hb3
    go_wp2_with fail
    refine (joinI_any xs v3 sep w3 hn' HJ.out HO3.out).mono ?_
    rintro e w4 ⟨rfl, hb4⟩
    have HO4 := Lib.hid (HO3.out.below hb4)
    have HB4 := Lib.hid (HB3.out.trans (hb4.mono HB3.out.size))
    clear hb4
    go_wp2_with fail
    refine (copy_any xs v w4 hn' (HS.out.below HB4.out)).mono ?_
    rintro e w5 ⟨v5, rfl, ho5, hv5, hb5⟩
    have HO5 := Lib.hid (SS_of_row ho5)
    have HO6 := Lib.hid (HO4.out.below hb5)
    have HB5 := Lib.hid (HB4.out.trans (hb5.mono HB4.out.size))
    clear hv5 ho5 hb5
    go_wp2_with fail
    refine (eqs_any xs v3 v5 w5 hn HO6.out HO5.out).mono ?_
    rintro e w6 ⟨rfl, hb6⟩
    go_wp2_with fail
    go_ret
    exact ⟨rfl, HB5.out.trans (hb6.mono HB5.out.size)⟩
  · go_wp2_with fail
    go_ret
    exact ⟨rfl, Below.refl _ _⟩
#print axioms lawJ_any
end Go.Proofs.Ytekgfjfdabcmfaa
