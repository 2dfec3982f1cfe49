/-
  The walk of the law that operations have results among the numbers of the language, and fresh names are not in the list.
-/
import Derived.Test.YtjipomnemgeaeaaDoorDrawNames
import Derived.Test.YtjipomnemgeaeaaDoorFreshWalk
import Derived.Test.YtjipomnemgeaeaaDoorSame
import Derived.Test.YtjipomnemgeaeaaDoorBig
import Derived.Test.YtjipomnemgeaeaaDoorApply
import Derived.Test.YtjipomnemgeaeaaDoorIsNameI
import Derived.Test.YtjipomnemgeaeaaDoorWithout
namespace Go.Proofs.YtjipomnemgeaeaaDoor
open Go Go.RowKit

theorem ix_absent {xs : List ByteArray} {s : ByteArray} (h : s ∉ xs) : ixOf xs s = -1 := by
  have h1 := ixOf_neg.2 h
  have h2 := ixOf_range s xs
  omega
theorem un_small (a b : List ByteArray) (ha : a.length ≤ 6) (hb : b.length ≤ 6) : (un a b).length ≤ 9223372036854775807 := by
  have h1 := add_length b (add [] a)
  have h2 := add_length a []
  simp only [List.length_nil, Nat.zero_add] at h2
  unfold un
  omega
theorem bit_range (x : Bool) : 0 ≤ bit x ∧ bit x < 10007 := by cases x <;> exact ⟨by decide, by decide⟩
theorem ap_range (op : ByteArray) (a b : Int) : 0 ≤ (ap op a b).1 ∧ (ap op a b).1 < 10007 := by
  unfold ap
  split
  · unfold apOp
    repeat' split
    all_goals first
    | exact ⟨Int.emod_nonneg _ (by decide), Int.emod_lt_of_pos _ (by decide)⟩
    | exact bit_range _
    | exact ⟨by decide, by decide⟩
  · exact ⟨by decide, by decide⟩
set_option maxRecDepth 100000 in
set_option maxHeartbeats 400000 in
theorem lawNa_big (a : Option Addr) (len cap : Nat) (w : World) (hl : len ≤ 9223372036854775807) (h : 1048576 < (len : Int)) :
    Calls Tryd.prog 3 #[.slice a len cap] w fun e w' => e = .returned (.bool true) ∧ Below w.heap.size w w' := by
  go_enter Tryd.func3, Tryd.ntmps3
  go_wp2_with fail
  refine (big_yes a len cap w hl h).mono ?_
  rintro e w' ⟨rfl, rfl⟩
  go_wp2_with fail
  go_ret
  exact ⟨rfl, Below.refl _ _⟩

set_option maxRecDepth 100000 in
set_option maxHeartbeats 4000000 in
theorem lawNa_small (a : Option Addr) (len cap : Nat) (w : World) (hl : len ≤ 1048576) (hv : Bytes w (.slice a len cap)) (hp : Pow w) :
    Calls Tryd.prog 3 #[.slice a len cap] w fun e w' => e = .returned (.bool true) ∧ Below w.heap.size w w' := by
  have HV := Lib.hid hv
  have HP := Lib.hid hp
  clear hv hp
  go_enter Tryd.func3, Tryd.ntmps3
  go_wp2_with fail
  refine (big_no a len cap w (by omega)).mono ?_
  rintro e w' ⟨rfl, rfl⟩
  have HB0 := Lib.hid (Below.refl w.heap.size w)
  go_wp2_with fail
  refine (drawFresh_any _ w (HV.out.below HB0.out) hl).mono ?_
  rintro e w1 ⟨vl, xl, rfl, hsm, hss, hb⟩
  have SMl := Lib.hid hsm
  clear hsm
  have HB1 := Lib.hid (HB0.out.trans (hb.mono HB0.out.size))
  clear HB0 hb
  have Hl1 := Lib.hid hss
  clear hss
  obtain ⟨N, hN⟩ := fresh_ex xl
  have HN := Lib.hid hN
  have hxl := SMl.out.len
  have hzl : ∀ x ∈ xl, x.size ≤ 1048576 := fun x hx => Nat.le_trans (SMl.out.all x hx) (by decide)
  have ZL := Lib.hid hzl
  clear hN hzl
  go_wp2_with fail
  refine (frI_any xl vl N w1 (by omega) ZL.out Hl1.out HN.out (HP.out.below HB1.out)).mono ?_
  rintro e w2 ⟨rfl, hb⟩
  have Hl2 := Lib.hid (Hl1.out.below hb)
  have HB2 := Lib.hid (HB1.out.trans (hb.mono HB1.out.size))
  clear Hl1 HB1 hb
  obtain ⟨nm, hnm⟩ : ∃ nm, nm = vName N := ⟨_, rfl⟩
  rw [← hnm]
  have HNM := Lib.hid hnm
  have hix : ixOf xl nm = -1 := by rw [hnm]; exact ix_absent HN.out.out
  have HIX := Lib.hid hix
  clear hnm hix
  go_wp2_with fail
  refine (drawUnite_any _ w2 (HV.out.below HB2.out) hl).mono ?_
  rintro e w3 ⟨va, vb, xa, xb, rfl, hs1, hs2, hss1, hss2, hb⟩
  have hla := hs1.len
  have hlb := hs2.len
  have SMa := Lib.hid hs1
  have SMb := Lib.hid hs2
  clear hs1 hs2
  have ZA : Hid (∀ x ∈ xa, x.size ≤ 1048576) := Lib.hid (fun x hx => Nat.le_trans (SMa.out.all x hx) (by decide))
  have ZB : Hid (∀ x ∈ xb, x.size ≤ 1048576) := Lib.hid (fun x hx => Nat.le_trans (SMb.out.all x hx) (by decide))
  have Hl3 := Lib.hid (Hl2.out.below hb)
  have HB3 := Lib.hid (HB2.out.trans (hb.mono HB2.out.size))
  clear Hl2 HB2 hb
  have Ha3 := Lib.hid hss1
  clear hss1
  have Hb3 := Lib.hid hss2
  clear hss2
  go_wp2_with fail
  refine (unI_any xa xb va vb w3 (by omega) (by omega) ZA.out ZB.out Ha3.out Hb3.out).mono ?_
  rintro e w4 ⟨vu, rfl, ho, hb⟩
  have hss := ho.ss
  clear ho
  have Hl4 := Lib.hid (Hl3.out.below hb)
  have Ha4 := Lib.hid (Ha3.out.below hb)
  have Hb4 := Lib.hid (Hb3.out.below hb)
  have HB4 := Lib.hid (HB3.out.trans (hb.mono HB3.out.size))
  clear Hl3 Ha3 Hb3 HB3 hb
  have Hu4 := Lib.hid hss
  clear hss
  go_wp2_with fail
  refine (drawWithout_any _ w4 (HV.out.below HB4.out) hl).mono ?_
  rintro e w5 ⟨vx, y, xx, rfl, hsm, hsy, hss, hb⟩
  have hlx := hsm.len
  clear hsm
  have Hl5 := Lib.hid (Hl4.out.below hb)
  have Ha5 := Lib.hid (Ha4.out.below hb)
  have Hb5 := Lib.hid (Hb4.out.below hb)
  have Hu5 := Lib.hid (Hu4.out.below hb)
  have HB5 := Lib.hid (HB4.out.trans (hb.mono HB4.out.size))
  clear Hl4 Ha4 Hb4 Hu4 HB4 hb
  have Hx5 := Lib.hid hss
  clear hss
  go_wp2_with fail
  refine (drawReduce_any _ w5 (HV.out.below HB5.out) hl).mono ?_
  rintro e w6 ⟨n, rfl, hb⟩
  have Hl6 := Lib.hid (Hl5.out.below hb)
  have Ha6 := Lib.hid (Ha5.out.below hb)
  have Hb6 := Lib.hid (Hb5.out.below hb)
  have Hu6 := Lib.hid (Hu5.out.below hb)
  have Hx6 := Lib.hid (Hx5.out.below hb)
  have HB6 := Lib.hid (HB5.out.trans (hb.mono HB5.out.size))
  clear Hl5 Ha5 Hb5 Hu5 Hx5 HB5 hb
  go_wp2_with fail
  refine (redI_any n w6).mono ?_
  rintro e w7 ⟨rfl, rfl⟩
  obtain ⟨m, hm⟩ : ∃ m, m = n % 10007 := ⟨_, rfl⟩
  have hm0 : 0 ≤ m := by omega
  have hm1 : m < 10007 := by omega
  have hmm : m % 10007 = m := Int.emod_eq_of_lt hm0 hm1
  rw [← hm]
  have HM := Lib.hid hm
  have HMM := Lib.hid hmm
  clear hm hmm
  go_wp2_with fail
  refine (frS_any xl vl N w7 (by omega) Hl6.out HN.out).mono ?_
  rintro e w8 ⟨rfl, hb⟩
  have Hl8 := Lib.hid (Hl6.out.below hb)
  have Ha8 := Lib.hid (Ha6.out.below hb)
  have Hb8 := Lib.hid (Hb6.out.below hb)
  have Hu8 := Lib.hid (Hu6.out.below hb)
  have Hx8 := Lib.hid (Hx6.out.below hb)
  have HB8 := Lib.hid (HB6.out.trans (hb.mono HB6.out.size))
  clear Hl6 Ha6 Hb6 Hu6 Hx6 HB6 hb
  rw [← HNM.out]
  go_wp2_with fail
  refine (ixI_any xl vl nm w8 (by omega) Hl8.out).mono ?_
  rintro e w9 ⟨rfl, rfl⟩
  rw [HIX.out]
  go_wp2_with fail
  refine (unS_any xa xb va vb w9 (by omega) (by omega) Ha8.out Hb8.out).mono ?_
  rintro e w10 ⟨vu2, rfl, ho, hb⟩
  have hss := ho.ss
  clear ho
  have Hl10 := Lib.hid (Hl8.out.below hb)
  have Ha10 := Lib.hid (Ha8.out.below hb)
  have Hb10 := Lib.hid (Hb8.out.below hb)
  have Hu10 := Lib.hid (Hu8.out.below hb)
  have Hx10 := Lib.hid (Hx8.out.below hb)
  have HB10 := Lib.hid (HB8.out.trans (hb.mono HB8.out.size))
  clear Hl8 Ha8 Hb8 Hu8 Hx8 HB8 hb
  have Ht10 := Lib.hid hss
  clear hss
  go_wp2_with fail
  refine (same_any (un xa xb) vu vu2 w10 (un_small xa xb (by omega) (by omega)) Hu10.out Ht10.out).mono ?_
  rintro e w11 ⟨rfl, hb⟩
  have Hl11 := Lib.hid (Hl10.out.below hb)
  have Ha11 := Lib.hid (Ha10.out.below hb)
  have Hb11 := Lib.hid (Hb10.out.below hb)
  have Hu11 := Lib.hid (Hu10.out.below hb)
  have Hx11 := Lib.hid (Hx10.out.below hb)
  have Ht11 := Lib.hid (Ht10.out.below hb)
  have HB11 := Lib.hid (HB10.out.trans (hb.mono HB10.out.size))
  clear Hl10 Ha10 Hb10 Hu10 Hx10 Ht10 HB10 hb
  go_wp2_with fail
  refine (woI_any xx vx y w11 (by omega) Hx11.out).mono ?_
  rintro e w12 ⟨vw, rfl, ho, hb⟩
  have hss := ho.ss
  clear ho
  have Hl12 := Lib.hid (Hl11.out.below hb)
  have Ha12 := Lib.hid (Ha11.out.below hb)
  have Hb12 := Lib.hid (Hb11.out.below hb)
  have Hu12 := Lib.hid (Hu11.out.below hb)
  have Hx12 := Lib.hid (Hx11.out.below hb)
  have Ht12 := Lib.hid (Ht11.out.below hb)
  have HB12 := Lib.hid (HB11.out.trans (hb.mono HB11.out.size))
  clear Hl11 Ha11 Hb11 Hu11 Hx11 Ht11 HB11 hb
  have Hp12 := Lib.hid hss
  clear hss
  go_wp2_with fail
  refine (woS_any xx vx y w12 (by omega) Hx12.out).mono ?_
  rintro e w13 ⟨vw2, rfl, ho, hb⟩
  have hss := ho.ss
  clear ho
  have Hl13 := Lib.hid (Hl12.out.below hb)
  have Ha13 := Lib.hid (Ha12.out.below hb)
  have Hb13 := Lib.hid (Hb12.out.below hb)
  have Hu13 := Lib.hid (Hu12.out.below hb)
  have Hx13 := Lib.hid (Hx12.out.below hb)
  have Ht13 := Lib.hid (Ht12.out.below hb)
  have Hp13 := Lib.hid (Hp12.out.below hb)
  have HB13 := Lib.hid (HB12.out.trans (hb.mono HB12.out.size))
  clear Hl12 Ha12 Hb12 Hu12 Hx12 Ht12 Hp12 HB12 hb
  have Hq13 := Lib.hid hss
  clear hss
  go_wp2_with fail
  refine (same_any (wo y xx) vw vw2 w13 (by have := wo_length y xx; omega) Hp13.out Hq13.out).mono ?_
  rintro e w14 ⟨rfl, hb⟩
  have Hl14 := Lib.hid (Hl13.out.below hb)
  have Ha14 := Lib.hid (Ha13.out.below hb)
  have Hb14 := Lib.hid (Hb13.out.below hb)
  have Hu14 := Lib.hid (Hu13.out.below hb)
  have Hx14 := Lib.hid (Hx13.out.below hb)
  have Ht14 := Lib.hid (Ht13.out.below hb)
  have Hp14 := Lib.hid (Hp13.out.below hb)
  have Hq14 := Lib.hid (Hq13.out.below hb)
  have HB14 := Lib.hid (HB13.out.trans (hb.mono HB13.out.size))
  clear Hl13 Ha13 Hb13 Hu13 Hx13 Ht13 Hp13 Hq13 HB13 hb
  go_wp2_with fail
  refine (redS_any n w14).mono ?_
  rintro e w15 ⟨rfl, rfl⟩
  rw [← HM.out]
  go_wp2_with fail
  refine (redI_any m w15).mono ?_
  rintro e w16 ⟨rfl, rfl⟩
  rw [HMM.out]
  go_wp2_with fail
  refine (drawApply_any _ w16 (HV.out.below HB14.out) hl).mono ?_
  rintro e w17 ⟨op, ga, gb, rfl, hb⟩
  have Hl17 := Lib.hid (Hl14.out.below hb)
  have Ha17 := Lib.hid (Ha14.out.below hb)
  have Hb17 := Lib.hid (Hb14.out.below hb)
  have Hu17 := Lib.hid (Hu14.out.below hb)
  have Hx17 := Lib.hid (Hx14.out.below hb)
  have Ht17 := Lib.hid (Ht14.out.below hb)
  have Hp17 := Lib.hid (Hp14.out.below hb)
  have Hq17 := Lib.hid (Hq14.out.below hb)
  have HB17 := Lib.hid (HB14.out.trans (hb.mono HB14.out.size))
  clear Hl14 Ha14 Hb14 Hu14 Hx14 Ht14 Hp14 Hq14 HB14 hb
  obtain ⟨⟨r, ok⟩, hr⟩ : ∃ p, p = ap op ga gb := ⟨_, rfl⟩
  have hrr := ap_range op ga gb
  rw [← hr] at hrr
  obtain ⟨hr0, hr1⟩ := hrr
  simp only at hr0 hr1
  have HR := Lib.hid hr
  clear hr
  go_wp2_with fail
  refine (apI_any op ga gb w17).mono ?_
  rintro e w18 ⟨rfl, rfl⟩
  rw [← HR.out]
  unfold pairOf
  go_wp2_with fail
  refine (apS_any op ga gb w18).mono ?_
  rintro e w19 ⟨rfl, rfl⟩
  rw [← HR.out]
  unfold pairOf
  go_wp2_with fail
  refine (drawIsName_any _ w19 (HV.out.below HB17.out) hl).mono ?_
  rintro e w20 ⟨s, rfl, hs5, hb⟩
  have Hl20 := Lib.hid (Hl17.out.below hb)
  have Ha20 := Lib.hid (Ha17.out.below hb)
  have Hb20 := Lib.hid (Hb17.out.below hb)
  have Hu20 := Lib.hid (Hu17.out.below hb)
  have Hx20 := Lib.hid (Hx17.out.below hb)
  have Ht20 := Lib.hid (Ht17.out.below hb)
  have Hp20 := Lib.hid (Hp17.out.below hb)
  have Hq20 := Lib.hid (Hq17.out.below hb)
  have HB20 := Lib.hid (HB17.out.trans (hb.mono HB17.out.size))
  clear Hl17 Ha17 Hb17 Hu17 Hx17 Ht17 Hp17 Hq17 HB17 hb
  go_wp2_with fail
  refine (nmI_any s w20 (by omega)).mono ?_
  rintro e w21 ⟨c1, hc1, rfl, hb⟩
  have HC := Lib.hid hc1
  clear hc1
  have Hl21 := Lib.hid (Hl20.out.below hb)
  have Ha21 := Lib.hid (Ha20.out.below hb)
  have Hb21 := Lib.hid (Hb20.out.below hb)
  have Hu21 := Lib.hid (Hu20.out.below hb)
  have Hx21 := Lib.hid (Hx20.out.below hb)
  have Ht21 := Lib.hid (Ht20.out.below hb)
  have Hp21 := Lib.hid (Hp20.out.below hb)
  have Hq21 := Lib.hid (Hq20.out.below hb)
  have HB21 := Lib.hid (HB20.out.trans (hb.mono HB20.out.size))
  clear Hl20 Ha20 Hb20 Hu20 Hx20 Ht20 Hp20 Hq20 HB20 hb
  go_wp2_with fail
  refine (nmS_any s w21 (by omega)).mono ?_
  rintro e w22 ⟨c2, hc2, rfl, hb⟩
  obtain rfl : c2 = c1 := tells_same hc2 HC.out
  clear hc2
  have Hl22 := Lib.hid (Hl21.out.below hb)
  have Ha22 := Lib.hid (Ha21.out.below hb)
  have Hb22 := Lib.hid (Hb21.out.below hb)
  have Hu22 := Lib.hid (Hu21.out.below hb)
  have Hx22 := Lib.hid (Hx21.out.below hb)
  have Ht22 := Lib.hid (Ht21.out.below hb)
  have Hp22 := Lib.hid (Hp21.out.below hb)
  have Hq22 := Lib.hid (Hq21.out.below hb)
  have HB22 := Lib.hid (HB21.out.trans (hb.mono HB21.out.size))
  clear Hl21 Ha21 Hb21 Hu21 Hx21 Ht21 Hp21 Hq21 HB21 hb
  go_wp2_with fail
  go_ret
  exact ⟨rfl, HB22.out⟩

theorem lawNa_any (a : Option Addr) (len cap : Nat) (w : World) (hl : len ≤ 9223372036854775807) (hv : Bytes w (.slice a len cap)) (hp : Pow w) :
    Calls Tryd.prog 3 #[.slice a len cap] w fun e w' => e = .returned (.bool true) ∧ Below w.heap.size w w' := by
  by_cases h : 1048576 < (len : Int)
  · exact lawNa_big a len cap w hl h
  · exact lawNa_small a len cap w (by omega) hv hp
#print axioms lawNa_any
end Go.Proofs.YtjipomnemgeaeaaDoor
