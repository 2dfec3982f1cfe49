/-
  The walk of the law on SplitByte: the program answers as the model does, and what it returns is its own memory.
-/
import Derived.Test.YtekgfjfdabcmfaaDoorSplitImpl
import Derived.Test.YtekgfjfdabcmfaaDoorMark
import Derived.Test.YtekgfjfdabcmfaaDoorEqs
namespace Go.Proofs.YtekgfjfdabcmfaaDoor
open Go Go.RowKit

theorem mark_one (xs : List ByteArray) (g cap : Nat) (w : World) (base : Nat) (hn : xs.length ≤ 2097152) (h : w.ownsRow base 9 1 (.slice (some ⟨g, 0, none⟩) xs.length cap) xs.length (xs.map Value.string)) :
    Calls Tryd.prog 23 #[.slice (some ⟨g, 0, none⟩) xs.length cap, .int .i64 1] w fun e w' => e = .returned (.int .i64 (1 + (xs.length : Int))) ∧
      w'.ownsRow base 9 1 (.slice (some ⟨g, 0, none⟩) xs.length cap) xs.length ((marks 1 xs.length).map Value.string) ∧ Below g w w' := by
  have h1 := mark_any xs g cap 1 w base (Nat.le_refl _) (by omega) h
  rw [show ((1 + xs.length : Nat) : Int) = 1 + (xs.length : Int) by omega] at h1
  exact h1
theorem held_one (n : Nat) (v : Value) (w : World) (hn : n ≤ 2097152) (h : SS w v (marks 1 n)) :
    Calls Tryd.prog 24 #[v, .int .i64 1] w fun e w' => e = .returned (.int .i64 (1 + (n : Int))) ∧ Below w.heap.size w w' := by
  have h1 := held_any n v 1 w (Nat.le_refl _) (by omega) h
  rw [show ((1 + n : Nat) : Int) = 1 + (n : Int) by omega] at h1
  exact h1
/-- A row of strings that is not empty: its head. -/
theorem row_head {w : World} {base : Nat} {e : TypeId} {v : Value} {xs : List ByteArray} (h : w.ownsRow base e 1 v xs.length (xs.map Value.string)) (hne : xs ≠ []) :
    ∃ g cap, v = .slice (some ⟨g, 0, none⟩) xs.length cap ∧ base ≤ g := by
  rcases h.2 with ⟨_, h0⟩ | ⟨g, cap, cur, rfl, hg, _⟩
  · exact absurd (List.eq_nil_of_length_eq_zero h0) hne
  · exact ⟨g, cap, rfl, hg⟩

set_option maxHeartbeats 400000 in
theorem lawS_big (s : ByteArray) (c : UInt8) (w : World) (_hs : s.size ≤ 9223372036854775807) (hlen : 1048576 < (s.size : Int)) :
    Calls Tryd.prog 8 #[.string s, .int .u8 c.toNat] w fun e w' => e = .returned (.bool true) ∧ Below w.heap.size w w' := by
  go_enter Tryd.func8, Tryd.ntmps8
  go_wp2_with fail
  go_ret
  exact ⟨rfl, Below.refl _ _⟩

set_option maxRecDepth 100000 in
set_option maxHeartbeats 1000000 in
theorem lawS_any (s : ByteArray) (c : UInt8) (w : World) (hs : s.size ≤ 9223372036854775807) (hm : MaxLenIs w) :
    Calls Tryd.prog 8 #[.string s, .int .u8 c.toNat] w fun e w' => e = .returned (.bool true) ∧ Below w.heap.size w w' := by
  by_cases hlen : 1048576 < (s.size : Int)
  · exact lawS_big s c w hs hlen
  have hs1 : s.size ≤ 1048576 := by omega
  have HM := Lib.hid hm
  clear hm
  go_enter Tryd.func8, Tryd.ntmps8
  go_wp2_with fail
  refine (splitS_any s c w hs1).mono ?_
  rintro e w1 ⟨v0, xs, rfl, hxs, hown0, hb1⟩
  have hne : xs ≠ [] := fun h => cutL_ne c s.data.toList (by rw [← hxs, h]; rfl)
  have hlx : xs.length ≤ 1048577 := by
    have e1 : (bs xs).length = (cutL c s.data.toList).length := by rw [hxs]
    have e2 := cut_length c s.data.toList
    rw [bs, List.length_map] at e1
    rw [← Lib.size_eq] at e2
    omega
  have HX := Lib.hid hxs
  have HN := Lib.hid hne
  have HO0 := Lib.hid (SS_of_row hown0)
  have HB1 := Lib.hid hb1
  clear hxs hne hown0 hb1
  go_wp2_with fail
  refine (splitI_any s c w1 hs1 (HM.out.below HB1.out)).mono ?_
  rintro e w2 ⟨v1, ys, rfl, hys, hown1, hb2⟩
  obtain rfl : ys = xs := bs_inj (hys.trans HX.out.symm)
  obtain ⟨g, cap, rfl, hg⟩ := row_head hown1 HN.out
  have HG := Lib.hid hg
  have HO1 := Lib.hid hown1
  have HB2 := Lib.hid hb2
  clear hys hown1 hb2 hg
  go_wp2_with fail
  refine (eqs_any ys _ _ w2 (by omega) (SS_of_row HO1.out) (HO0.out.below HB2.out)).mono ?_
  rintro e w3 ⟨rfl, hb3⟩
  have HO1' := Lib.hid (ownsRow_below HO1.out hb3)
  have HB3 := Lib.hid (HB2.out.trans (hb3.mono HB2.out.size))
  clear hb3 HO1
  go_wp2_with fail
  refine (mark_one ys g cap w3 w1.heap.size (by omega) HO1'.out).mono ?_
  rintro e w4 ⟨rfl, hown4, hb4⟩
  have HB4 := Lib.hid (HB3.out.trans (hb4.mono HG.out))
  have HS4 : Hid (SS w4 (.slice (some ⟨g, 0, none⟩) ys.length cap) (marks 1 ys.length)) := Lib.hid (SS_of_row hown4)
  clear hown4 hb4 HO1'
  go_wp2_with fail
  refine (held_one ys.length _ w4 (by omega) HS4.out).mono ?_
  rintro e w5 ⟨rfl, hb5⟩
  have HS5 := Lib.hid (HS4.out.below hb5)
  have HB5 := Lib.hid (HB4.out.trans (hb5.mono HB4.out.size))
  clear hb5
  go_wp2_with fail
  refine (splitI_any s c w5 hs1 ((HM.out.below HB1.out).below HB5.out)).mono ?_
  rintro e w6 ⟨v2, zs, rfl, hzs, hown6, hb6⟩
  obtain rfl : zs = ys := bs_inj (hzs.trans HX.out.symm)
  have HO6 := Lib.hid (SS_of_row hown6)
  have HS6 := Lib.hid (HS5.out.below hb6)
  have HB6 := Lib.hid (HB5.out.trans (hb6.mono HB5.out.size))
  clear hzs hown6 hb6
  go_wp2_with fail
  refine (eqs_any zs _ _ w6 (by omega) HO6.out (HO0.out.below HB6.out)).mono ?_
  rintro e w7 ⟨rfl, hb7⟩
  have HS7 := Lib.hid (HS6.out.below hb7)
  have HB7 := Lib.hid (HB6.out.trans (hb7.mono HB6.out.size))
  clear hb7
  go_wp2_with fail
  refine (held_one zs.length _ w7 (by omega) HS7.out).mono ?_
  rintro e w8 ⟨rfl, hb8⟩
  go_wp2_with fail
  go_ret
  exact ⟨rfl, HB1.out.trans ((HB7.out.trans (hb8.mono HB7.out.size)).mono HB1.out.size)⟩
#print axioms lawS_any
end Go.Proofs.YtekgfjfdabcmfaaDoor
