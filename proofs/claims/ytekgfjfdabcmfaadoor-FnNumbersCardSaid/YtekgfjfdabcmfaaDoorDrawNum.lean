/-
  The contracts of the draws of integers and of texts to be parsed.
-/
import Derived.Test.YtekgfjfdabcmfaaDoorDraw
import Derived.Test.YtekgfjfdabcmfaaDoorFmt
namespace Go.Proofs.YtekgfjfdabcmfaaDoor
open Go Go.RowKit

def In64 (x : Int) : Prop := -9223372036854775808 ≤ x ∧ x ≤ 9223372036854775807
theorem draws_int {P : Int → Prop} {b : Nat} {w w' : World} {x : Int} (h : P x) (hl : Left b w w') : DrawsInt P b w (.returned (.int .i64 x)) w' := ⟨x, h, rfl, hl⟩

set_option maxRecDepth 100000 in
set_option maxHeartbeats 1000000 in
theorem whole_any (b : Nat) (w : World) (hc : Cur w b) :
    Calls Tryd.prog 25 #[.pointer (some ⟨b, 0, none⟩)] w (DrawsInt In64 b w) := by
  have HC := Lib.hid (below_left b 3 w (by decide) (by decide) hc)
  clear hc
  go_enter Tryd.func25, Tryd.ntmps25
  go_wp2_with fail
  refine HC.out.mono ?_
  rintro e w1 ⟨x, hx, rfl, hl1⟩
  have HL1 := Lib.hid hl1
  clear hl1
  by_cases h0 : x = 0
  · subst h0
    clear hx
    go_wp2_with fail
    refine (pickInt_lit [0, 1, -1, 9, 10, 999999, 1000000, 999999999999, 1000000000000, -999999999999, 9223372036854775807, -9223372036854775808] 12 b w1 _ rfl (by decide) (by decide) rfl HL1.out.1).mono ?_
    rintro e w2 ⟨y, hy, rfl, hl2⟩
    have HL2 := Lib.hid (HL1.out.trans hl2)
    have HY : Hid (In64 y) := Lib.hid (by
      simp only [List.mem_cons, List.mem_nil_iff, or_false] at hy
      unfold In64
      omega)
    clear hl2 hy
    go_wp2_with fail
    go_ret
    exact draws_int HY.out HL2.out
  · have t0 : (x == 0) = false := beq_eq_false_iff_ne.2 h0
    clear h0
    by_cases h1 : x = 1
    · subst h1
      clear hx t0
      go_wp2_with fail
      refine (below_left b 1000000 w1 (by decide) (by decide) HL1.out.1).mono ?_
      rintro e w2 ⟨y, hy, rfl, hl2⟩
      have HL2 := Lib.hid (HL1.out.trans hl2)
      obtain ⟨hy0, hy1⟩ := hy
      clear hl2
      go_wp2_with fail
      go_ret
      exact draws_int (show In64 _ from ⟨by omega, by omega⟩) HL2.out
    · have t1 : (x == 1) = false := beq_eq_false_iff_ne.2 h1
      clear h1 hx
      go_wp2_with fail
      refine (below_left b 20 w1 (by decide) (by decide) HL1.out.1).mono ?_
      rintro e w2 ⟨y, hy, rfl, hl2⟩
      have HL2 := Lib.hid (HL1.out.trans hl2)
      obtain ⟨hy0, hy1⟩ := hy
      clear hl2
      go_wp2_with fail
      go_ret
      exact draws_int (show In64 _ from ⟨by omega, by omega⟩) HL2.out

set_option maxRecDepth 100000 in
set_option maxHeartbeats 1000000 in
theorem drawFmt_any (v : Value) (w : World) (hv : Bytes w v) (hlen : sliceLen v ≤ 1048576) :
    Calls Tryd.prog 10 #[v] w fun e w' => ∃ n : Int, e = .returned (.int .i64 n) ∧ In64 n ∧ Below w.heap.size w w' := by
  have HN := Lib.hid (new_any v w hv hlen)
  clear hv hlen
  go_enter Tryd.func10, Tryd.ntmps10
  go_wp2_with fail
  refine HN.out.mono ?_
  rintro e w1 ⟨rfl, hc1, hb1, hs1⟩
  have HC1 := Lib.hid hc1
  have HB1 := Lib.hid hb1
  clear hc1 hb1 hs1
  go_wp2_with fail
  refine (whole_any _ w1 HC1.out).mono ?_
  rintro e w2 ⟨n, hn, rfl, _, hb2⟩
  have HB2 := Lib.hid (HB1.out.trans hb2)
  have HNn := Lib.hid hn
  clear hb2 hn
  go_wp2_with fail
  go_ret
  exact ⟨n, rfl, HNn.out, HB2.out⟩

def TextRet (w : World) (e : Ending) (w' : World) : Prop := ∃ t : ByteArray, e = .returned (.string t) ∧ t.size ≤ 20 ∧ Below w.heap.size w w'
set_option maxRecDepth 100000 in
set_option maxHeartbeats 1000000 in
theorem drawParse_any (v : Value) (w : World) (hv : Bytes w v) (hlen : sliceLen v ≤ 1048576) :
    Calls Tryd.prog 14 #[v] w (TextRet w) := by
  have HN := Lib.hid (new_any v w hv hlen)
  clear hv hlen
  go_enter Tryd.func14, Tryd.ntmps14
  go_wp2_with fail
  refine HN.out.mono ?_
  rintro e w1 ⟨rfl, hc1, hb1, hs1⟩
  have HC1 := Lib.hid hc1
  have HB1 := Lib.hid hb1
  clear hc1 hb1 hs1
  go_wp2_with fail
  refine (once_left _ 2 w1 (by decide) (by decide) HC1.out).mono ?_
  rintro e w2 ⟨x, rfl, hc2, hb2⟩
  have HC2 := Lib.hid hc2
  have HB2 := Lib.hid (HB1.out.trans hb2)
  clear hc2 hb2
  cases x with
  | true =>
    go_wp2_with fail
    refine (whole_any _ w2 HC2.out).mono ?_
    rintro e w3 ⟨n, hn, rfl, _, hb3⟩
    have HB3 := Lib.hid (HB2.out.trans hb3)
    have HNn := Lib.hid hn
    clear hb3 hn
    go_wp2_with fail
    refine (fmt_any n HNn.out.1 HNn.out.2 w3).mono ?_
    rintro e w4 ⟨rfl, hb4⟩
    have HB4 := Lib.hid (HB3.out.trans (hb4.mono HB3.out.size))
    clear hb4
    go_wp2_with fail
    go_ret
    exact ⟨_, rfl, (itoa_length_le HNn.out.1 HNn.out.2 : (Lib.itoa n).length ≤ 20), HB4.out⟩
  | false =>
    go_wp2_with fail
    refine (pick_lit [⟨#[]⟩, ⟨#[48, 48]⟩, ⟨#[48, 49]⟩, ⟨#[45, 49]⟩, ⟨#[43, 49]⟩, ⟨#[120]⟩, ⟨#[57, 57, 57, 57, 57, 57]⟩, ⟨#[49, 48, 48, 48, 48, 48, 48]⟩, ⟨#[45, 48]⟩, ⟨#[45]⟩, ⟨#[32, 49]⟩, ⟨#[49, 32]⟩] 12 _ w2 _ rfl (by decide) (by decide) rfl HC2.out).mono ?_
    rintro e w3 ⟨s, hs, rfl, hc3, hb3⟩
    have hs6 : s.size ≤ 20 := by
      simp only [List.mem_cons, List.mem_nil_iff, or_false] at hs
      rcases hs with rfl | rfl | rfl | rfl | rfl | rfl | rfl | rfl | rfl | rfl | rfl | rfl <;> decide
    have HB3 := Lib.hid (HB2.out.trans hb3)
    clear hb3 hc3 hs
    go_wp2_with fail
    go_ret
    exact ⟨s, rfl, hs6, HB3.out⟩
#print axioms drawFmt_any
#print axioms drawParse_any
end Go.Proofs.YtekgfjfdabcmfaaDoor
