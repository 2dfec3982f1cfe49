/-
  The walk of the law on FreshName: the program answers as the model does at every slice of strings.
-/
import Derived.Test.YtjipomnemgeaeaaDoorFreshWalk
import Derived.Test.YtjipomnemgeaeaaDoorSz
import Derived.Test.YtjipomnemgeaeaaDoorCopy
import Derived.Test.YtjipomnemgeaeaaDoorEqs
import Derived.Test.YtjipomnemgeaeaaDoorSumSz
namespace Go.Proofs.YtjipomnemgeaeaaDoor
open Go Go.RowKit

set_option maxRecDepth 100000 in
set_option maxHeartbeats 1000000 in
theorem lawFr_any (xs : List ByteArray) (v : Value) (w : World) (hn : xs.length ≤ 9223372036854775807) (hz : ∀ x ∈ xs, x.size ≤ 9223372036854775807) (h : SS w v xs) (hp : Pow w) :
    Calls Tryd.prog 4 #[v] w fun e w' => e = .returned (.bool true) ∧ Below w.heap.size w w' := by
  have HS := Lib.hid h
  have HP := Lib.hid hp
  have HZ := Lib.hid (sz_any xs v 1048576 w (by decide) (by decide) hn hz h)
  obtain ⟨N, hN⟩ := fresh_ex xs
  have HN := Lib.hid hN
  clear h hz hp hN
  go_enter Tryd.func4, Tryd.ntmps4
  go_wp2_with fail
  refine HZ.out.mono ?_
  rintro e w' ⟨n, hr, rfl, rfl⟩
  clear HZ
  rcases hr with ⟨hr0, hr1⟩ | ⟨rfl, _⟩
  · have hnx : xs.length ≤ 1048576 := by omega
    have zx : ∀ x ∈ xs, x.size ≤ 1048576 := fun x hx => by
      have := size_le_sum hx
      omega
    have ZX := Lib.hid zx
    clear hr1 zx
    go_wp2_with fail
    refine (copy_any xs v w hnx HS.out).mono ?_
    rintro e w1 ⟨v1, rfl, ho1, hv1, hb1⟩
    have HO1 := Lib.hid (SS_of_row ho1)
    have HB1 := Lib.hid hb1
    clear hv1 ho1 hb1
    go_wp2_with fail
    refine (frS_any xs v1 N w1 hnx HO1.out HN.out).mono ?_
    rintro e w2 ⟨rfl, hb2⟩
    have HB2 := Lib.hid (HB1.out.trans (hb2.mono HB1.out.size))
    clear hb2 HO1
    obtain ⟨name, hname⟩ : ∃ name, name = vName N := ⟨_, rfl⟩
    rw [← hname]
    have HNM := Lib.hid hname
    clear hname
    go_wp2_with fail
    refine (copy_any xs v w2 hnx (HS.out.below HB2.out)).mono ?_
    rintro e w3 ⟨v3, rfl, ho3, hv3, hb3⟩
    have HO3 := Lib.hid (SS_of_row ho3)
    have HB3 := Lib.hid (HB2.out.trans (hb3.mono HB2.out.size))
    clear hv3 ho3 hb3
    go_wp2_with fail
    refine (frI_any xs v3 N w3 hnx ZX.out HO3.out HN.out (HP.out.below HB3.out)).mono ?_
    rintro e w4 ⟨rfl, hb4⟩
    have HO4 := Lib.hid (HO3.out.below hb4)
    have HB4 := Lib.hid (HB3.out.trans (hb4.mono HB3.out.size))
    rw [← HNM.out]
    clear hb4 HO3
    go_wp2_with fail
    refine (copy_any xs v w4 hnx (HS.out.below HB4.out)).mono ?_
    rintro e w5 ⟨v5, rfl, ho5, hv5, hb5⟩
    have HO5 := Lib.hid (SS_of_row ho5)
    have HO6 := Lib.hid (HO4.out.below hb5)
    have HB5 := Lib.hid (HB4.out.trans (hb5.mono HB4.out.size))
    clear hv5 ho5 hb5
    go_wp2_with fail
    refine (eqs_any xs v3 v5 w5 hn HO6.out HO5.out).mono ?_
    rintro e w6 ⟨rfl, hb6⟩
    go_wp2_with fail
    go_ret
    exact ⟨rfl, HB5.out.trans (hb6.mono HB5.out.size)⟩
  · go_wp2_with fail
    go_ret
    exact ⟨rfl, Below.refl _ _⟩
#print axioms lawFr_any
end Go.Proofs.YtjipomnemgeaeaaDoor
