/-
  The walk of the law on UniteNames: the program answers as the model does at every two slices of strings, and what it returns is its own memory.
-/
import Derived.Test.YtjipomnemgeaeaaUniteImpl
import Derived.Test.YtjipomnemgeaeaaWithoutLaw
namespace Go.Proofs.Ytjipomnemgeaeaa
open Go Go.RowKit

theorem size_le_sum {xs : List ByteArray} {x : ByteArray} (h : x ∈ xs) : x.size ≤ sumSz xs := by
  induction xs with
  | nil => cases h
  | cons y ys ih =>
    simp only [sumSz]
    rcases List.mem_cons.1 h with rfl | h
    · omega
    · have := ih h
      omega

/-- .. told of the earlier one. -/
theorem own_apart' {w1 w2 : World} {b1 b2 : Nat} {u v : Value} {xs ys : List ByteArray} (hu : Own w1 b1 u xs) (hv : Own w2 b2 v ys) (h : w1.heap.size ≤ b2) : ∀ g, u.ownBlock = some g → v.ownBlock ≠ some g :=
  fun g hg hc => own_apart hu hv h g hc hg

set_option maxRecDepth 100000 in
set_option maxHeartbeats 2000000 in
theorem lawUn_any (xs ys : List ByteArray) (u v : Value) (w : World) (hn : xs.length ≤ 9223372036854775807) (hz : ∀ x ∈ xs, x.size ≤ 9223372036854775807) (hn2 : ys.length ≤ 9223372036854775807) (hz2 : ∀ x ∈ ys, x.size ≤ 9223372036854775807) (h : SS w u xs) (h2 : SS w v ys) :
    Calls Try.prog 5 #[u, v] w fun e w' => e = .returned (.bool true) ∧ Below w.heap.size w w' := by
  have HS := Lib.hid h
  have HT := Lib.hid h2
  have HZ := Lib.hid (sz_any xs u 1048576 w (by decide) (by decide) hn hz h)
  have HY := Lib.hid (fun left h0 hl => sz_any ys v left w h0 hl hn2 hz2 h2)
  clear h hz h2 hz2
  go_enter Try.func5, Try.ntmps5
  go_wp2_with fail
  refine HZ.out.mono ?_
  rintro e w' ⟨n, hr, rfl, rfl⟩
  clear HZ
  rcases hr with ⟨hr0, hr1⟩ | ⟨rfl, _⟩
  · have hnx : xs.length ≤ 1048576 := by omega
    have zx : ∀ x ∈ xs, x.size ≤ 1048576 := fun x hx => by
      have := size_le_sum hx
      omega
    have ZX := Lib.hid zx
    have hnb : n ≤ 1048576 := by omega
    clear hr1 zx
    go_wp2_with fail
    refine (HY.out n hr0 hnb).mono ?_
    rintro e w' ⟨n2, hr2, rfl, rfl⟩
    clear HY
    rcases hr2 with ⟨hr2, hr3⟩ | ⟨rfl, _⟩
    · have hny : ys.length ≤ 1048576 := by omega
      have zy : ∀ x ∈ ys, x.size ≤ 1048576 := fun x hx => by
        have := size_le_sum hx
        omega
      have ZY := Lib.hid zy
      clear hr3 zy
      obtain ⟨us, hus⟩ : ∃ us, us = un xs ys := ⟨_, rfl⟩
      have hul : us.length ≤ 2097152 := by
        have h1 := add_length ys (add [] xs)
        have h2 := add_length xs []
        rw [hus]
        unfold un
        simp only [List.length_nil, Nat.zero_add] at h2
        omega
      have HU := Lib.hid hus
      clear hus
      have HB0 := Lib.hid (Below.refl w.heap.size w)
      go_wp2_with fail
      refine (copy_any xs u w hnx (HS.out.below HB0.out)).mono ?_
      rintro e w1 ⟨va, rfl, ho, hv, hb⟩
      clear hv
      have ho' : Own w1 w.heap.size va _ := ho
      have Ha1 := Lib.hid ho'
      clear ho ho'
      have HB1 := Lib.hid (HB0.out.trans (hb.mono HB0.out.size))
      clear HB0 hb
      go_wp2_with fail
      refine (copy_any ys v w1 hny (HT.out.below HB1.out)).mono ?_
      rintro e w2 ⟨vb, rfl, ho, hv, hb⟩
      clear hv
      have ho' : Own w2 w1.heap.size vb _ := ho
      have Hb2 := Lib.hid ho'
      clear ho ho'
      have Ha2 := Lib.hid (Ha1.out.below hb)
      have HB2 := Lib.hid (HB1.out.trans (hb.mono HB1.out.size))
      clear Ha1 HB1 hb
      go_wp2_with fail
      refine (unS_any xs ys va vb w2 hnx hny Ha2.out.ss Hb2.out.ss).mono ?_
      rintro e w3 ⟨vw, rfl, ho, hb⟩
      rw [← HU.out] at ho
      have ho' : Own w3 w2.heap.size vw _ := ho
      have Hr3 := Lib.hid ho'
      clear ho ho'
      have Ha3 := Lib.hid (Ha2.out.below hb)
      have Hb3 := Lib.hid (Hb2.out.below hb)
      have HB3 := Lib.hid (HB2.out.trans (hb.mono HB2.out.size))
      clear Ha2 Hb2 HB2 hb
      clear Ha3
      clear Hb3
      go_wp2_with fail
      refine (copy_any xs u w3 hnx (HS.out.below HB3.out)).mono ?_
      rintro e w4 ⟨vx, rfl, ho, hv, hb⟩
      clear hv
      have ho' : Own w4 w3.heap.size vx _ := ho
      have AP_r_x := Lib.hid (own_apart' Hr3.out ho' (Nat.le_refl _))
      have SB_x := Lib.hid HB3.out.size
      have Hx4 := Lib.hid ho'
      clear ho ho'
      have Hr4 := Lib.hid (Hr3.out.below hb)
      have HB4 := Lib.hid (HB3.out.trans (hb.mono HB3.out.size))
      clear Hr3 HB3 hb
      go_wp2_with fail
      refine (copy_any ys v w4 hny (HT.out.below HB4.out)).mono ?_
      rintro e w5 ⟨vy, rfl, ho, hv, hb⟩
      clear hv
      have ho' : Own w5 w4.heap.size vy _ := ho
      have AP_r_y := Lib.hid (own_apart' Hr4.out ho' (Nat.le_refl _))
      have AP_y_x := Lib.hid (own_apart Hx4.out ho' (Nat.le_refl _))
      have AP_x_y := Lib.hid (own_apart' Hx4.out ho' (Nat.le_refl _))
      have SB_y := Lib.hid HB4.out.size
      have Hy5 := Lib.hid ho'
      clear ho ho'
      have Hr5 := Lib.hid (Hr4.out.below hb)
      have Hx5 := Lib.hid (Hx4.out.below hb)
      have HB5 := Lib.hid (HB4.out.trans (hb.mono HB4.out.size))
      clear Hr4 Hx4 HB4 hb
      go_wp2_with fail
      refine (unI_any xs ys vx vy w5 hnx hny ZX.out ZY.out Hx5.out.ss Hy5.out.ss).mono ?_
      rintro e w6 ⟨vg, rfl, ho, hb⟩
      rw [← HU.out] at ho
      have ho' : Own w6 w5.heap.size vg _ := ho
      have AP_r_g := Lib.hid (own_apart' Hr5.out ho' (Nat.le_refl _))
      have AP_g_x := Lib.hid (own_apart Hx5.out ho' (Nat.le_refl _))
      have AP_x_g := Lib.hid (own_apart' Hx5.out ho' (Nat.le_refl _))
      have AP_g_y := Lib.hid (own_apart Hy5.out ho' (Nat.le_refl _))
      have AP_y_g := Lib.hid (own_apart' Hy5.out ho' (Nat.le_refl _))
      have SB_g := Lib.hid HB5.out.size
      have Hg6 := Lib.hid ho'
      clear ho ho'
      have Hr6 := Lib.hid (Hr5.out.below hb)
      have Hx6 := Lib.hid (Hx5.out.below hb)
      have Hy6 := Lib.hid (Hy5.out.below hb)
      have HB6 := Lib.hid (HB5.out.trans (hb.mono HB5.out.size))
      clear Hr5 Hx5 Hy5 HB5 hb
      go_wp2_with fail
      refine (eqs_any us vg vw w6 (by omega) Hg6.out.ss Hr6.out.ss).mono ?_
      rintro e w7 ⟨rfl, hb⟩
      have Hr7 := Lib.hid (Hr6.out.below hb)
      have Hx7 := Lib.hid (Hx6.out.below hb)
      have Hy7 := Lib.hid (Hy6.out.below hb)
      have Hg7 := Lib.hid (Hg6.out.below hb)
      have HB7 := Lib.hid (HB6.out.trans (hb.mono HB6.out.size))
      clear Hr6 Hx6 Hy6 Hg6 HB6 hb
      go_wp2_with fail
      refine (copy_any xs u w7 hnx (HS.out.below HB7.out)).mono ?_
      rintro e w8 ⟨vc, rfl, ho, hv, hb⟩
      clear hv
      have ho' : Own w8 w7.heap.size vc _ := ho
      have AP_c_x := Lib.hid (own_apart Hx7.out ho' (Nat.le_refl _))
      have AP_c_y := Lib.hid (own_apart Hy7.out ho' (Nat.le_refl _))
      have AP_c_g := Lib.hid (own_apart Hg7.out ho' (Nat.le_refl _))
      have Hc8 := Lib.hid ho'
      clear ho ho'
      have Hr8 := Lib.hid (Hr7.out.below hb)
      have Hx8 := Lib.hid (Hx7.out.below hb)
      have Hy8 := Lib.hid (Hy7.out.below hb)
      have Hg8 := Lib.hid (Hg7.out.below hb)
      have HB8 := Lib.hid (HB7.out.trans (hb.mono HB7.out.size))
      clear Hr7 Hx7 Hy7 Hg7 HB7 hb
      go_wp2_with fail
      refine (eqs_any xs vx vc w8 hn Hx8.out.ss Hc8.out.ss).mono ?_
      rintro e w9 ⟨rfl, hb⟩
      have Hr9 := Lib.hid (Hr8.out.below hb)
      have Hx9 := Lib.hid (Hx8.out.below hb)
      have Hy9 := Lib.hid (Hy8.out.below hb)
      have Hg9 := Lib.hid (Hg8.out.below hb)
      have Hc9 := Lib.hid (Hc8.out.below hb)
      have HB9 := Lib.hid (HB8.out.trans (hb.mono HB8.out.size))
      clear Hr8 Hx8 Hy8 Hg8 Hc8 HB8 hb
      clear Hc9
      go_wp2_with fail
      refine (copy_any ys v w9 hny (HT.out.below HB9.out)).mono ?_
      rintro e w10 ⟨vd, rfl, ho, hv, hb⟩
      clear hv
      have ho' : Own w10 w9.heap.size vd _ := ho
      have AP_d_x := Lib.hid (own_apart Hx9.out ho' (Nat.le_refl _))
      have AP_d_y := Lib.hid (own_apart Hy9.out ho' (Nat.le_refl _))
      have AP_d_g := Lib.hid (own_apart Hg9.out ho' (Nat.le_refl _))
      have Hd10 := Lib.hid ho'
      clear ho ho'
      have Hr10 := Lib.hid (Hr9.out.below hb)
      have Hx10 := Lib.hid (Hx9.out.below hb)
      have Hy10 := Lib.hid (Hy9.out.below hb)
      have Hg10 := Lib.hid (Hg9.out.below hb)
      have HB10 := Lib.hid (HB9.out.trans (hb.mono HB9.out.size))
      clear Hr9 Hx9 Hy9 Hg9 HB9 hb
      go_wp2_with fail
      refine (eqs_any ys vy vd w10 hn2 Hy10.out.ss Hd10.out.ss).mono ?_
      rintro e w11 ⟨rfl, hb⟩
      have Hr11 := Lib.hid (Hr10.out.below hb)
      have Hx11 := Lib.hid (Hx10.out.below hb)
      have Hy11 := Lib.hid (Hy10.out.below hb)
      have Hg11 := Lib.hid (Hg10.out.below hb)
      have Hd11 := Lib.hid (Hd10.out.below hb)
      have HB11 := Lib.hid (HB10.out.trans (hb.mono HB10.out.size))
      clear Hr10 Hx10 Hy10 Hg10 Hd10 HB10 hb
      clear Hd11
      go_wp2_with fail
      refine (mark_1 xs vx w11 _ (by omega) Hx11.out).mono ?_
      rintro e w12 ⟨rfl, _, hb, hu⟩
      have Hr12 := Lib.hid (Hr11.out.but AP_r_x.out hu)
      have Hy12 := Lib.hid (Hy11.out.but AP_y_x.out hu)
      have Hg12 := Lib.hid (Hg11.out.but AP_g_x.out hu)
      have HB12 := Lib.hid (HB11.out.trans (hb.mono SB_x.out))
      clear Hr11 Hx11 Hy11 Hg11 HB11 hb hu
      go_wp2_with fail
      refine (mark_2 xs.length ys vy w12 _ (by omega) Hy12.out).mono ?_
      rintro e w13 ⟨rfl, _, hb, hu⟩
      have Hr13 := Lib.hid (Hr12.out.but AP_r_y.out hu)
      have Hg13 := Lib.hid (Hg12.out.but AP_g_y.out hu)
      have HB13 := Lib.hid (HB12.out.trans (hb.mono SB_y.out))
      clear Hr12 Hy12 Hg12 HB12 hb hu
      go_wp2_with fail
      refine (eqs_any us vg vw w13 (by omega) Hg13.out.ss Hr13.out.ss).mono ?_
      rintro e w14 ⟨rfl, hb⟩
      have Hr14 := Lib.hid (Hr13.out.below hb)
      have Hg14 := Lib.hid (Hg13.out.below hb)
      have HB14 := Lib.hid (HB13.out.trans (hb.mono HB13.out.size))
      clear Hr13 Hg13 HB13 hb
      go_wp2_with fail
      refine (mark_1 us vg w14 _ (by omega) Hg14.out).mono ?_
      rintro e w15 ⟨rfl, hm, hb, hu⟩
      have HM15 := Lib.hid hm
      clear hm
      have Hr15 := Lib.hid (Hr14.out.but AP_r_g.out hu)
      have HB15 := Lib.hid (HB14.out.trans (hb.mono SB_g.out))
      clear Hr14 Hg14 HB14 hb hu
      go_wp2_with fail
      refine (held_1 us.length vg w15 (by omega) HM15.out).mono ?_
      rintro e w16 ⟨rfl, hb⟩
      have Hr16 := Lib.hid (Hr15.out.below hb)
      have HM16 := Lib.hid (HM15.out.below hb)
      have HB16 := Lib.hid (HB15.out.trans (hb.mono HB15.out.size))
      clear Hr15 HM15 HB15 hb
      go_wp2_with fail
      refine (copy_any xs u w16 hnx (HS.out.below HB16.out)).mono ?_
      rintro e w17 ⟨vp, rfl, ho, hv, hb⟩
      clear hv
      have ho' : Own w17 w16.heap.size vp _ := ho
      have Hp17 := Lib.hid ho'
      clear ho ho'
      have Hr17 := Lib.hid (Hr16.out.below hb)
      have HM17 := Lib.hid (HM16.out.below hb)
      have HB17 := Lib.hid (HB16.out.trans (hb.mono HB16.out.size))
      clear Hr16 HM16 HB16 hb
      go_wp2_with fail
      refine (copy_any ys v w17 hny (HT.out.below HB17.out)).mono ?_
      rintro e w18 ⟨vq, rfl, ho, hv, hb⟩
      clear hv
      have ho' : Own w18 w17.heap.size vq _ := ho
      have Hq18 := Lib.hid ho'
      clear ho ho'
      have Hr18 := Lib.hid (Hr17.out.below hb)
      have HM18 := Lib.hid (HM17.out.below hb)
      have Hp18 := Lib.hid (Hp17.out.below hb)
      have HB18 := Lib.hid (HB17.out.trans (hb.mono HB17.out.size))
      clear Hr17 HM17 Hp17 HB17 hb
      go_wp2_with fail
      refine (unI_any xs ys vp vq w18 hnx hny ZX.out ZY.out Hp18.out.ss Hq18.out.ss).mono ?_
      rintro e w19 ⟨vh, rfl, ho, hb⟩
      rw [← HU.out] at ho
      have ho' : Own w19 w18.heap.size vh _ := ho
      have Hh19 := Lib.hid ho'
      clear ho ho'
      have Hr19 := Lib.hid (Hr18.out.below hb)
      have HM19 := Lib.hid (HM18.out.below hb)
      have Hp19 := Lib.hid (Hp18.out.below hb)
      have Hq19 := Lib.hid (Hq18.out.below hb)
      have HB19 := Lib.hid (HB18.out.trans (hb.mono HB18.out.size))
      clear Hr18 HM18 Hp18 Hq18 HB18 hb
      clear Hp19
      clear Hq19
      go_wp2_with fail
      refine (eqs_any us vh vw w19 (by omega) Hh19.out.ss Hr19.out.ss).mono ?_
      rintro e w20 ⟨rfl, hb⟩
      have Hr20 := Lib.hid (Hr19.out.below hb)
      have HM20 := Lib.hid (HM19.out.below hb)
      have Hh20 := Lib.hid (Hh19.out.below hb)
      have HB20 := Lib.hid (HB19.out.trans (hb.mono HB19.out.size))
      clear Hr19 HM19 Hh19 HB19 hb
      go_wp2_with fail
      refine (held_1 us.length vg w20 (by omega) HM20.out).mono ?_
      rintro e w21 ⟨rfl, hb⟩
      have Hr21 := Lib.hid (Hr20.out.below hb)
      have HM21 := Lib.hid (HM20.out.below hb)
      have Hh21 := Lib.hid (Hh20.out.below hb)
      have HB21 := Lib.hid (HB20.out.trans (hb.mono HB20.out.size))
      clear Hr20 HM20 Hh20 HB20 hb
      go_wp2_with fail
      go_ret
      exact ⟨rfl, HB21.out⟩
    · go_wp2_with fail
      go_ret
      exact ⟨rfl, Below.refl _ _⟩
  · go_wp2_with fail
    go_ret
    exact ⟨rfl, Below.refl _ _⟩
#print axioms lawUn_any
end Go.Proofs.Ytjipomnemgeaeaa
