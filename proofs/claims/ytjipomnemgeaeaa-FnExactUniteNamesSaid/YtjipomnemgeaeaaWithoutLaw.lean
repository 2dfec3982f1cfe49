/-
  The walk of the law on WithoutName: the program answers as the model does at every slice of strings, and what it returns is its own memory.
-/
import Derived.Test.YtjipomnemgeaeaaWithout
import Derived.Test.YtjipomnemgeaeaaMarkRow
import Derived.Test.YtjipomnemgeaeaaSz
import Derived.Test.YtjipomnemgeaeaaEqs
namespace Go.Proofs.Ytjipomnemgeaeaa
open Go Go.RowKit

set_option maxHeartbeats 400000 in
theorem lawWo_big (v : Value) (s : ByteArray) (w : World) (_hs : s.size ≤ 9223372036854775807) (hlen : 1048576 < (s.size : Int)) :
    Calls Try.prog 6 #[v, .string s] w fun e w' => e = .returned (.bool true) ∧ Below w.heap.size w w' := by
  go_enter Try.func6, Try.ntmps6
  go_wp2_with fail
  go_ret
  exact ⟨rfl, Below.refl _ _⟩

/-- Two rows of calls that came one after the other lie in different blocks. -/
theorem own_apart {w1 w2 : World} {b1 b2 : Nat} {u v : Value} {xs ys : List ByteArray} (hu : Own w1 b1 u xs) (hv : Own w2 b2 v ys) (h : w1.heap.size ≤ b2) : ∀ g, v.ownBlock = some g → u.ownBlock ≠ some g := by
  intro g hg hc
  have h1 := (hu.lt g hc).2
  have h2 := (hv.lt g hg).1
  omega

set_option maxRecDepth 100000 in
set_option maxHeartbeats 1000000 in
theorem lawWo_any (xs : List ByteArray) (v : Value) (s : ByteArray) (w : World) (hn : xs.length ≤ 9223372036854775807) (hz : ∀ x ∈ xs, x.size ≤ 9223372036854775807) (hs : s.size ≤ 9223372036854775807) (h : SS w v xs) :
    Calls Try.prog 6 #[v, .string s] w fun e w' => e = .returned (.bool true) ∧ Below w.heap.size w w' := by
  by_cases hlen : 1048576 < (s.size : Int)
  · exact lawWo_big v s w hs hlen
  have HS := Lib.hid h
  have HZ := Lib.hid (sz_any xs v 1048576 w (by decide) (by decide) hn hz h)
  clear h hz
  go_enter Try.func6, Try.ntmps6
  go_wp2_with fail
  refine HZ.out.mono ?_
  rintro e w' ⟨n, hr, rfl, rfl⟩
  rcases hr with ⟨hr0, hr1⟩ | ⟨rfl, _⟩
  · have hn' : xs.length ≤ 1048576 := by omega
    clear hr1 HZ
    obtain ⟨ys, hys⟩ : ∃ ys, ys = wo s xs := ⟨_, rfl⟩
    have hyl : ys.length ≤ 1048576 := by
      have := wo_length s xs
      rw [← hys] at this
      omega
    have HY := Lib.hid hys
    clear hys
    go_wp2_with fail
    refine (copy_any xs v w hn' HS.out).mono ?_
    rintro e w1 ⟨v1, rfl, ho1, hv1, hb1⟩
    have HO1 := Lib.hid (SS_of_row ho1)
    have HB1 := Lib.hid hb1
    clear hv1 ho1 hb1
    go_wp2_with fail
    refine (woS_any xs v1 s w1 (by omega) HO1.out).mono ?_
    rintro e w2 ⟨v2, rfl, ho2, hb2⟩
    rw [← HY.out] at ho2
    have HW0 := Lib.hid ho2.ss
    have HB2 := Lib.hid (HB1.out.trans (hb2.mono HB1.out.size))
    clear ho2 hb2
    go_wp2_with fail
    refine (copy_any xs v w2 (by omega) (HS.out.below HB2.out)).mono ?_
    rintro e w3 ⟨v3, rfl, ho3, hv3, hb3⟩
    have HX0 : Hid (Own w3 w2.heap.size v3 xs) := Lib.hid ho3
    have HF3 := Lib.hid hb3
    have HS3 := Lib.hid hb3.size
    clear hv3 ho3 hb3
    go_wp2_with fail
    refine (woI_any xs v3 s w3 (by omega) HX0.out.ss).mono ?_
    rintro e w4 ⟨v4, rfl, ho4, hb4⟩
    rw [← HY.out] at ho4
    have HAP := Lib.hid (own_apart HX0.out ho4 (Nat.le_refl _))
    have HG0 := Lib.hid ho4
    have HX4 := Lib.hid (HX0.out.below hb4)
    have HF4 := Lib.hid (HF3.out.trans (hb4.mono HF3.out.size))
    clear ho4 hb4 HX0 HF3
    go_wp2_with fail
    refine (eqs_any ys v4 v2 w4 (by omega) HG0.out.ss (HW0.out.below HF4.out)).mono ?_
    rintro e w5 ⟨rfl, hb5⟩
    have HG5 := Lib.hid (HG0.out.below hb5)
    have HX5 := Lib.hid (HX4.out.below hb5)
    have HF5 := Lib.hid (HF4.out.trans (hb5.mono HF4.out.size))
    clear hb5 HG0 HX4 HF4
    go_wp2_with fail
    refine (copy_any xs v w5 hn' (HS.out.below (HB2.out.trans (HF5.out.mono HB2.out.size)))).mono ?_
    rintro e w6 ⟨v6, rfl, ho6, hv6, hb6⟩
    have HO6 := Lib.hid (SS_of_row ho6)
    have HG6 := Lib.hid (HG5.out.below hb6)
    have HX6 := Lib.hid (HX5.out.below hb6)
    have HF6 := Lib.hid (HF5.out.trans (hb6.mono HF5.out.size))
    clear hv6 ho6 hb6 HG5 HX5 HF5
    go_wp2_with fail
    refine (eqs_any xs v3 v6 w6 hn HX6.out.ss HO6.out).mono ?_
    rintro e w7 ⟨rfl, hb7⟩
    have HG7 := Lib.hid (HG6.out.below hb7)
    have HX7 := Lib.hid (HX6.out.below hb7)
    have HF7 := Lib.hid (HF6.out.trans (hb7.mono HF6.out.size))
    clear hb7 HG6 HX6 HF6 HO6
    go_wp2_with fail
    refine (mark_1 xs v3 w7 w2.heap.size (by omega) HX7.out).mono ?_
    rintro e w8 ⟨rfl, _, hb8, hu8⟩
    have HG8 := Lib.hid (HG7.out.but HAP.out hu8)
    have HF8 := Lib.hid (HF7.out.trans hb8)
    clear hb8 hu8 HG7 HX7 HF7
    go_wp2_with fail
    refine (eqs_any ys v4 v2 w8 (by omega) HG8.out.ss (HW0.out.below HF8.out)).mono ?_
    rintro e w9 ⟨rfl, hb9⟩
    have HG9 := Lib.hid (HG8.out.below hb9)
    have HF9 := Lib.hid (HF8.out.trans (hb9.mono HF8.out.size))
    clear hb9 HG8 HF8
    go_wp2_with fail
    refine (mark_1 ys v4 w9 w3.heap.size (by omega) HG9.out).mono ?_
    rintro e w10 ⟨rfl, hm10, hb10, _⟩
    have HM10 := Lib.hid hm10
    have HF10 := Lib.hid (HF9.out.trans (hb10.mono (show w2.heap.size ≤ w3.heap.size from HS3.out)))
    clear hm10 hb10 HF9 HG9
    go_wp2_with fail
    refine (held_1 ys.length v4 w10 (by omega) HM10.out).mono ?_
    rintro e w11 ⟨rfl, hb11⟩
    have HM11 := Lib.hid (HM10.out.below hb11)
    have HF11 := Lib.hid (HF10.out.trans (hb11.mono HF10.out.size))
    clear hb11 HM10 HF10
    go_wp2_with fail
    refine (copy_any xs v w11 hn' (HS.out.below (HB2.out.trans (HF11.out.mono HB2.out.size)))).mono ?_
    rintro e w12 ⟨v12, rfl, ho12, hv12, hb12⟩
    have HO12 := Lib.hid (SS_of_row ho12)
    have HM12 := Lib.hid (HM11.out.below hb12)
    have HF12 := Lib.hid (HF11.out.trans (hb12.mono HF11.out.size))
    clear hv12 ho12 hb12 HM11 HF11
    go_wp2_with fail
    refine (woI_any xs v12 s w12 (by omega) HO12.out).mono ?_
    rintro e w13 ⟨v13, rfl, ho13, hb13⟩
    rw [← HY.out] at ho13
    have HO13 := Lib.hid ho13.ss
    have HM13 := Lib.hid (HM12.out.below hb13)
    have HF13 := Lib.hid (HF12.out.trans (hb13.mono HF12.out.size))
    clear ho13 hb13 HM12 HF12 HO12
    go_wp2_with fail
    refine (eqs_any ys v13 v2 w13 (by omega) HO13.out (HW0.out.below HF13.out)).mono ?_
    rintro e w14 ⟨rfl, hb14⟩
    have HM14 := Lib.hid (HM13.out.below hb14)
    have HF14 := Lib.hid (HF13.out.trans (hb14.mono HF13.out.size))
    clear hb14 HM13 HF13 HO13
    go_wp2_with fail
    refine (held_1 ys.length v4 w14 (by omega) HM14.out).mono ?_
    rintro e w15 ⟨rfl, hb15⟩
    go_wp2_with fail
    go_ret
    exact ⟨rfl, HB2.out.trans ((HF14.out.trans (hb15.mono HF14.out.size)).mono HB2.out.size)⟩
  · clear HZ
    go_wp2_with fail
    go_ret
    exact ⟨rfl, Below.refl _ _⟩
#print axioms lawWo_any
end Go.Proofs.Ytjipomnemgeaeaa
