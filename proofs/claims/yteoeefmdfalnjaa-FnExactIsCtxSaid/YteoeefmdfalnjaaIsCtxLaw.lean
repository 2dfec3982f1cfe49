/-
  The walk of the law that IsCtx answers as its model does.
-/
import Derived.Test.YteoeefmdfalnjaaOpenCx
import Derived.Test.YteoeefmdfalnjaaCxSz
import Derived.Test.YteoeefmdfalnjaaCxCopy
import Derived.Test.YteoeefmdfalnjaaCxEq
import Derived.Test.YteoeefmdfalnjaaCxIsS
import Derived.Test.YteoeefmdfalnjaaCxIsI
namespace Go.Proofs.Yteoeefmdfalnjaa
open Go Go.RowKit

set_option maxRecDepth 100000 in
set_option maxHeartbeats 2000000 in
theorem lawIsCtx {C : Nat → Prop} (L : List Tg) (v : Value) (w : World) (h : DM w C (cxD L) v) (hf : fitC L) :
    Calls Try.prog 3 #[v] w fun e w' => e = .returned (.bool true) ∧ Below w.heap.size w w' := by
  have HT := Lib.hid (fun w' (hb : Below w.heap.size w w') => h.keep hb)
  obtain ⟨q, d, rfl⟩ := h.form
  have hlen := h.len.1
  clear h
  go_enter Try.func3, Try.ntmps3
  go_wp2_with fail
  refine (szCS_any (HT.out _ (Below.refl _ _)) 1048576 (by omega) (by omega) hf).mono ?_
  rintro e w1 ⟨r, hr, rfl, hb1⟩
  have HB1 := Lib.hid hb1
  have HR := Lib.hid hr
  clear hr hb1
  by_cases h0 : r < 0
  · go_wp2_with fail
    go_ret
    exact ⟨rfl, HB1.out⟩
  have hn : wtC L ≤ 1048576 := by have := HR.out; unfold SzEnds at this; omega
  go_wp2_with fail
  refine (toCS_any (HT.out _ HB1.out) hn).mono ?_
  rintro e w2 ⟨v1, rfl, ho1, hb2⟩
  have HO1 := Lib.hid ho1.dm
  have HB2 := Lib.hid (HB1.out.trans (hb2.mono HB1.out.size))
  clear ho1 hb2
  go_wp2_with fail
  refine (isCxS_any HO1.out hn).mono ?_
  rintro e w3 ⟨r1, hr1, rfl, hb3⟩
  have HB3 := Lib.hid (HB2.out.trans (hb3.mono HB2.out.size))
  have HR1 := Lib.hid hr1
  clear hb3 hr1
  go_wp2_with fail
  refine (toCS_any (HT.out _ HB3.out) hn).mono ?_
  rintro e w4 ⟨v2, rfl, ho2, hb4⟩
  have HO2 := Lib.hid ho2.dm
  have HB4 := Lib.hid (HB3.out.trans (hb4.mono HB3.out.size))
  clear ho2 hb4
  go_wp2_with fail
  refine (isCxI_any HO2.out hn).mono ?_
  rintro e w5 ⟨r2, hr2, rfl, hb5⟩
  have HB5 := Lib.hid (HB4.out.trans (hb5.mono HB4.out.size))
  have HO3 := Lib.hid (HO2.out.keep hb5)
  obtain rfl : r2 = r1 := Bool.eq_iff_iff.2 (hr2.trans HR1.out.symm)
  clear hr2 HR1 hb5
  go_wp2_with fail
  refine (toCS_any (HT.out _ HB5.out) hn).mono ?_
  rintro e w6 ⟨v3, rfl, ho3, hb6⟩
  have HO4 := Lib.hid ho3.dm
  have HO5 := Lib.hid (HO3.out.keep hb6)
  have HB6 := Lib.hid (HB5.out.trans (hb6.mono HB5.out.size))
  clear ho3 hb6
  go_wp2_with fail
  refine (eqCS_any HO5.out HO4.out).mono ?_
  rintro e w7 ⟨b7, he7, rfl, hb7⟩
  have HB7 := Lib.hid (HB6.out.trans (hb7.mono HB6.out.size))
  obtain rfl : b7 = true := by simpa using he7
  clear hb7
  go_wp2_with fail
  go_ret
  exact ⟨rfl, HB7.out⟩
#print axioms lawIsCtx
end Go.Proofs.Yteoeefmdfalnjaa

