/-
  The contract of the draw for SplitByte, and of the test for great codes.
-/
import Derived.Test.YtekgfjfdabcmfaaDoorDraw
namespace Go.Proofs.YtekgfjfdabcmfaaDoor
open Go Go.RowKit

set_option maxHeartbeats 400000 in
theorem big_yes (a : Option Addr) (len cap : Nat) (w : World) (_hl : len ≤ 9223372036854775807) (h : 1048576 < (len : Int)) :
    Calls Tryd.prog 9 #[.slice a len cap] w fun e w' => e = .returned (.bool true) ∧ w = w' := by
  go_enter Tryd.func9, Tryd.ntmps9
  go_wp2_with fail
  go_ret
  exact ⟨rfl, rfl⟩
set_option maxHeartbeats 400000 in
theorem big_no (a : Option Addr) (len cap : Nat) (w : World) (h : ¬ 1048576 < (len : Int)) :
    Calls Tryd.prog 9 #[.slice a len cap] w fun e w' => e = .returned (.bool false) ∧ w = w' := by
  go_enter Tryd.func9, Tryd.ntmps9
  go_wp2_with fail
  go_ret
  exact ⟨rfl, rfl⟩

set_option maxRecDepth 100000 in
set_option maxHeartbeats 1000000 in
theorem drawSplit_any (v : Value) (w : World) (hv : Bytes w v) (hlen : sliceLen v ≤ 1048576) :
    Calls Tryd.prog 17 #[v] w fun e w' => ∃ (s : ByteArray) (c : UInt8), e = .returned (.tuple #[.string s, .int .u8 c.toNat]) ∧ s.size ≤ 6 ∧ Below w.heap.size w w' := by
  have HN := Lib.hid (new_any v w hv hlen)
  clear hv hlen
  go_enter Tryd.func17, Tryd.ntmps17
  go_wp2_with fail
  refine HN.out.mono ?_
  rintro e w1 ⟨rfl, hc1, hb1, hs1⟩
  have HC1 := Lib.hid hc1
  have HB1 := Lib.hid hb1
  clear hc1 hb1 hs1
  go_wp2_with fail
  refine (pick_lit [⟨#[]⟩, ⟨#[97]⟩, ⟨#[97, 44, 98]⟩, ⟨#[44]⟩, ⟨#[97, 44, 44, 98, 44]⟩, ⟨#[97, 10, 98, 10]⟩] 6 _ w1 _ rfl (by decide) (by decide) rfl HC1.out).mono ?_
  rintro e w2 ⟨s, hs, rfl, hc2, hb2⟩
  have hs6 : s.size ≤ 6 := by
    simp only [List.mem_cons, List.mem_nil_iff, or_false] at hs
    rcases hs with rfl | rfl | rfl | rfl | rfl | rfl <;> decide
  have HC2 := Lib.hid hc2
  have HB2 := Lib.hid (HB1.out.trans hb2)
  clear hc2 hb2 hs
  go_wp2_with fail
  refine (pickInt_lit [44, 10] 2 _ w2 _ rfl (by decide) (by decide) rfl HC2.out).mono ?_
  rintro e w3 ⟨x, hx, rfl, hc3, hb3⟩
  have HB3 := Lib.hid (HB2.out.trans hb3)
  have hx0 : 0 ≤ x ∧ x ≤ 255 := by
    simp only [List.mem_cons, List.mem_nil_iff, or_false] at hx
    omega
  clear hc3 hb3 hx
  obtain ⟨x0, x1⟩ := hx0
  go_wp2_with fail
  go_ret2
  refine ⟨s, UInt8.ofNat x.toNat, ?_, hs6, HB3.out⟩
  have e1 : ((UInt8.ofNat x.toNat).toNat : Int) = x := by
    have : (UInt8.ofNat x.toNat).toNat = x.toNat := by simp; omega
    omega
  rw [e1]
  rfl
#print axioms drawSplit_any
end Go.Proofs.YtekgfjfdabcmfaaDoor
