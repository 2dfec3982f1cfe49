/-
  The contracts of the draws of chapter 2: lists of names, names, numbers, operations.
-/
import Derived.Test.YtjipomnemgeaeaaDoorDrawG
namespace Go.Proofs.YtjipomnemgeaeaaDoor
open Go Go.RowKit


theorem grown_start {w w1 w2 : World} (h : Below w.heap.size w w1) (hs : w1.heap.size = w.heap.size + 1) (hg : w1.grownBy w2 (some w.heap.size)) : Below w.heap.size w w2 :=
  h.grown hg (by omega) (fun k hk => by cases hk; exact Nat.le_refl _)
theorem _root_.Go.RowKit.Below.keepCur {w w1 w2 : World} {b : Nat} (h : Below b w w1) (hg : w1.grownBy w2 (some b)) (hb : b ≤ w1.heap.size) : Below b w w2 :=
  h.grown hg hb (fun k hk => by cases hk; exact Nat.le_refl _)

def DList (w : World) (e : Ending) (w' : World) : Prop := ∃ v xs, e = .returned v ∧ Small xs ∧ SS w' v xs ∧ Below w.heap.size w w'
def DList2 (w : World) (e : Ending) (w' : World) : Prop := ∃ u v xs ys, e = .returned (.tuple #[u, v]) ∧ Small xs ∧ Small ys ∧ SS w' u xs ∧ SS w' v ys ∧ Below w.heap.size w w'
def DListS (w : World) (e : Ending) (w' : World) : Prop := ∃ v s xs, e = .returned (.tuple #[v, .string s]) ∧ Small xs ∧ s.size ≤ 5 ∧ SS w' v xs ∧ Below w.heap.size w w'

set_option maxRecDepth 100000 in
set_option maxHeartbeats 1000000 in
theorem drawFresh_any (v : Value) (w : World) (hv : Bytes w v) (hlen : sliceLen v ≤ 1048576) :
    Calls Tryd.prog 6 #[v] w (DList w) := by
  have HN := Lib.hid (new_any v w hv hlen)
  clear hv hlen
  go_enter Tryd.func6, Tryd.ntmps6
  go_wp2_with fail
  refine HN.out.mono ?_
  rintro e w1 ⟨rfl, hc1, hb1, hs1⟩
  have HC1 := Lib.hid hc1
  have HB1 := Lib.hid hb1
  have HS1 := Lib.hid hs1
  clear hc1 hb1 hs1
  go_wp2_with fail
  refine (list_any _ w1 HC1.out).mono ?_
  rintro e w2 ⟨v2, xs, rfl, hsm, hown, _, hg⟩
  have HO := Lib.hid hown.ss
  have HB2 := Lib.hid (grown_start HB1.out HS1.out hg)
  have HM := Lib.hid hsm
  clear hown hg hsm
  go_wp2_with fail
  go_ret
  exact ⟨_, xs, rfl, HM.out, HO.out, HB2.out⟩

set_option maxRecDepth 100000 in
set_option maxHeartbeats 1000000 in
theorem drawUnite_any (v : Value) (w : World) (hv : Bytes w v) (hlen : sliceLen v ≤ 1048576) :
    Calls Tryd.prog 8 #[v] w (DList2 w) := by
  have HN := Lib.hid (new_any v w hv hlen)
  clear hv hlen
  go_enter Tryd.func8, Tryd.ntmps8
  go_wp2_with fail
  refine HN.out.mono ?_
  rintro e w1 ⟨rfl, hc1, hb1, hs1⟩
  have HC1 := Lib.hid hc1
  have HB1 := Lib.hid hb1
  have HS1 := Lib.hid hs1
  clear hc1 hb1 hs1
  go_wp2_with fail
  refine (list_any _ w1 HC1.out).mono ?_
  rintro e w2 ⟨v2, xs, rfl, hsm, hown, hc2, hg⟩
  have HO := Lib.hid hown
  have hlt1 : w.heap.size < w1.heap.size := by have := HS1.out; omega
  have HB2 := Lib.hid (grown_start HB1.out HS1.out hg)
  have HM := Lib.hid hsm
  have HC2 := Lib.hid hc2
  have hsz2 := hg.size
  clear hown hg hsm hc2
  go_wp2_with fail
  refine (list_any _ w2 HC2.out).mono ?_
  rintro e w3 ⟨v3, ys, rfl, hsm, hown, _, hg⟩
  have HO2 := Lib.hid (HO.out.kept hlt1 hg).ss
  have HO3 := Lib.hid hown.ss
  have HB3 := Lib.hid (HB2.out.keepCur hg (by omega))
  have HM3 := Lib.hid hsm
  clear hown hg hsm
  go_wp2_with fail
  go_ret2
  exact ⟨_, _, xs, ys, rfl, HM.out, HM3.out, HO2.out, HO3.out, HB3.out⟩

set_option maxRecDepth 100000 in
set_option maxHeartbeats 1000000 in
theorem drawIndex_any (v : Value) (w : World) (hv : Bytes w v) (hlen : sliceLen v ≤ 1048576) :
    Calls Tryd.prog 32 #[v] w (DListS w) := by
  have HN := Lib.hid (new_any v w hv hlen)
  clear hv hlen
  go_enter Tryd.func32, Tryd.ntmps32
  go_wp2_with fail
  refine HN.out.mono ?_
  rintro e w1 ⟨rfl, hc1, hb1, hs1⟩
  have HC1 := Lib.hid hc1
  have HB1 := Lib.hid hb1
  have HS1 := Lib.hid hs1
  clear hc1 hb1 hs1
  go_wp2_with fail
  refine (list_any _ w1 HC1.out).mono ?_
  rintro e w2 ⟨v2, xs, rfl, hsm, hown, hc2, hg⟩
  have HO := Lib.hid hown
  have hlt1 : w.heap.size < w1.heap.size := by have := HS1.out; omega
  have HB2 := Lib.hid (grown_start HB1.out HS1.out hg)
  have HM := Lib.hid hsm
  have HC2 := Lib.hid hc2
  have hsz2 := hg.size
  clear hown hg hsm hc2
  go_wp2_with fail
  refine (pick_litG [⟨#[120]⟩, ⟨#[102]⟩, ⟨#[113]⟩] 3 _ w2 _ rfl (by decide) (by decide) rfl HC2.out).mono ?_
  rintro e w3 ⟨s, hs, rfl, _, hg⟩
  have hs5 : s.size ≤ 5 := by
    simp only [List.mem_cons, List.mem_nil_iff, or_false] at hs
    rcases hs with rfl | rfl | rfl <;> decide
  have HO2 := Lib.hid (HO.out.kept hlt1 hg).ss
  have HB3 := Lib.hid (HB2.out.keepCur hg (by omega))
  clear hg hs
  go_wp2_with fail
  go_ret2
  exact ⟨_, s, xs, rfl, HM.out, hs5, HO2.out, HB3.out⟩

set_option maxHeartbeats 400000 in
theorem drawWithout_any (v : Value) (w : World) (hv : Bytes w v) (hlen : sliceLen v ≤ 1048576) :
    Calls Tryd.prog 10 #[v] w (DListS w) := by
  have HN := Lib.hid (drawIndex_any v w hv hlen)
  clear hv hlen
  go_enter Tryd.func10, Tryd.ntmps10
  go_wp2_with fail
  refine HN.out.mono ?_
  rintro e w1 ⟨u, s, xs, rfl, hm, hs, hss, hb⟩
  have HX := Lib.hid (⟨hm, hs, hss, hb⟩ : Small xs ∧ s.size ≤ 5 ∧ SS w1 u xs ∧ Below w.heap.size w w1)
  clear hm hs hss hb HN
  go_wp2_with fail
  go_ret2
  exact ⟨_, s, xs, rfl, HX.out⟩

set_option maxRecDepth 100000 in
set_option maxHeartbeats 1000000 in
theorem drawReduce_any (v : Value) (w : World) (hv : Bytes w v) (hlen : sliceLen v ≤ 1048576) :
    Calls Tryd.prog 11 #[v] w fun e w' => ∃ n : Int, e = .returned (.int .i64 n) ∧ Below w.heap.size w w' := by
  have HN := Lib.hid (new_any v w hv hlen)
  clear hv hlen
  go_enter Tryd.func11, Tryd.ntmps11
  go_wp2_with fail
  refine HN.out.mono ?_
  rintro e w1 ⟨rfl, hc1, hb1, hs1⟩
  have HC1 := Lib.hid hc1
  have HB1 := Lib.hid hb1
  have HS1 := Lib.hid hs1
  clear hc1 hb1 hs1
  go_wp2_with fail
  refine (below_any _ 30000 w1 (by decide) (by decide) HC1.out).mono ?_
  rintro e w2 ⟨x, hx, rfl, hc2, hg⟩
  have HB2 := Lib.hid (grown_start HB1.out HS1.out hg)
  have HC2 := Lib.hid hc2
  have hlt : w.heap.size ≤ w2.heap.size := by have := HB2.out.size; omega
  clear hg hc2 hx
  go_wp2_with fail
  refine (pickInt_litG [0, 10006, 10007, -1, -10007, -10008, 123456789, 9223372036854775807, -9223372036854775808, x] 10 _ w2 _ rfl (by decide) (by decide) rfl HC2.out).mono ?_
  rintro e w3 ⟨n, _, rfl, _, hg⟩
  have HB3 := Lib.hid (HB2.out.keepCur hg hlt)
  clear hg
  go_wp2_with fail
  go_ret
  exact ⟨n, rfl, HB3.out⟩

set_option maxRecDepth 100000 in
set_option maxHeartbeats 1000000 in
theorem drawApply_any (v : Value) (w : World) (hv : Bytes w v) (hlen : sliceLen v ≤ 1048576) :
    Calls Tryd.prog 20 #[v] w fun e w' => ∃ (op : ByteArray) (a b : Int), e = .returned (.tuple #[.string op, .int .i64 a, .int .i64 b]) ∧ Below w.heap.size w w' := by
  have HN := Lib.hid (new_any v w hv hlen)
  clear hv hlen
  go_enter Tryd.func20, Tryd.ntmps20
  go_wp2_with fail
  refine HN.out.mono ?_
  rintro e w1 ⟨rfl, hc1, hb1, hs1⟩
  have HC1 := Lib.hid hc1
  have HB1 := Lib.hid hb1
  have HS1 := Lib.hid hs1
  clear hc1 hb1 hs1
  go_wp2_with fail
  refine (pick_litG [⟨#[43]⟩, ⟨#[45]⟩, ⟨#[42]⟩, ⟨#[61]⟩, ⟨#[60]⟩, ⟨#[38]⟩, ⟨#[124]⟩, ⟨#[33]⟩, ⟨#[47]⟩, ⟨#[]⟩] 10 _ w1 _ rfl (by decide) (by decide) rfl HC1.out).mono ?_
  rintro e w2 ⟨op, _, rfl, hc2, hg⟩
  have HB2 := Lib.hid (grown_start HB1.out HS1.out hg)
  have HC2 := Lib.hid hc2
  have hlt : w.heap.size ≤ w2.heap.size := by have := HB2.out.size; omega
  clear hg hc2
  go_wp2_with fail
  refine (pickInt_litG [0, 1, 2, 10006, 10007, -1, 5000] 7 _ w2 _ rfl (by decide) (by decide) rfl HC2.out).mono ?_
  rintro e w3 ⟨a, _, rfl, hc3, hg⟩
  have HB3 := Lib.hid (HB2.out.keepCur hg hlt)
  have HC3 := Lib.hid hc3
  have hlt3 : w.heap.size ≤ w3.heap.size := by have := HB3.out.size; omega
  clear hg hc3
  go_wp2_with fail
  refine (pickInt_litG [0, 1, 3, 10006, 10007, 5008] 6 _ w3 _ rfl (by decide) (by decide) rfl HC3.out).mono ?_
  rintro e w4 ⟨b, _, rfl, _, hg⟩
  have HB4 := Lib.hid (HB3.out.keepCur hg hlt3)
  clear hg
  go_wp2_with fail
  go_ret3
  exact ⟨op, a, b, rfl, HB4.out⟩

set_option maxRecDepth 100000 in
set_option maxHeartbeats 1000000 in
theorem drawIsName_any (v : Value) (w : World) (hv : Bytes w v) (hlen : sliceLen v ≤ 1048576) :
    Calls Tryd.prog 23 #[v] w fun e w' => ∃ s : ByteArray, e = .returned (.string s) ∧ s.size ≤ 5 ∧ Below w.heap.size w w' := by
  have HN := Lib.hid (new_any v w hv hlen)
  clear hv hlen
  go_enter Tryd.func23, Tryd.ntmps23
  go_wp2_with fail
  refine HN.out.mono ?_
  rintro e w1 ⟨rfl, hc1, hb1, hs1⟩
  have HC1 := Lib.hid hc1
  have HB1 := Lib.hid hb1
  have HS1 := Lib.hid hs1
  clear hc1 hb1 hs1
  go_wp2_with fail
  refine (pick_litG [⟨#[120]⟩, ⟨#[120, 49]⟩, ⟨#[49, 120]⟩, ⟨#[88]⟩, ⟨#[97, 98, 99, 100]⟩, ⟨#[97, 98, 99, 100, 101]⟩, ⟨#[]⟩, ⟨#[105, 102]⟩, ⟨#[108, 101, 116]⟩, ⟨#[114, 101, 99]⟩, ⟨#[114, 117, 110]⟩, ⟨#[108, 105, 102, 116]⟩, ⟨#[114, 117, 110, 115]⟩, ⟨#[97, 45]⟩] 14 _ w1 _ rfl (by decide) (by decide) rfl HC1.out).mono ?_
  rintro e w2 ⟨s, hs, rfl, _, hg⟩
  have hs5 : s.size ≤ 5 := by
    simp only [List.mem_cons, List.mem_nil_iff, or_false] at hs
    rcases hs with rfl | rfl | rfl | rfl | rfl | rfl | rfl | rfl | rfl | rfl | rfl | rfl | rfl | rfl <;> decide
  have HB2 := Lib.hid (grown_start HB1.out HS1.out hg)
  clear hg hs
  go_wp2_with fail
  go_ret
  exact ⟨s, rfl, hs5, HB2.out⟩
end Go.Proofs.YtjipomnemgeaeaaDoor
