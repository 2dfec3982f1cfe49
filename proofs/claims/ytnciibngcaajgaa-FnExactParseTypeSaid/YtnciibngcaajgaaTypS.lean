/-
  The contracts of the model's l4Must and l4Type: what stands in the text at the reader's place.
-/
import Derived.Test.YtnciibngcaajgaaRdrS
import Derived.Test.YtnciibngcaajgaaDrawT1
namespace Go.Proofs.Ytnciibngcaajgaa
open Go Go.RowKit

abbrev bt (s : ByteArray) (i : Nat) : Option UInt8 := s.data.toList[i]?
theorem take_or (R : Nat) (s : ByteArray) (i : Nat) (c : UInt8) (w : World) (hs : s.size ≤ 1073741824) (hi : i ≤ s.size) (hr : Rd w R s i false) :
    Calls Try.prog 102 #[.pointer (some ⟨R, 0, none⟩), .string ⟨#[c]⟩] w fun e w' =>
      (bt s i = some c ∧ e = .returned (.bool true) ∧ Rd w' R s (i + 1) false ∧ w.grownBy w' (some R)) ∨ (¬ bt s i = some c ∧ e = .returned (.bool false) ∧ Rd w' R s i false ∧ w.grownBy w' (some R)) := by
  refine (take_any R s i false c w hs hi hr).mono ?_
  rintro e w' ⟨b, hb, rfl, h1, h2⟩
  cases b
  · exact Or.inr ⟨fun h => (by have := hb.2 ⟨rfl, h⟩; cases this), rfl, h1, h2⟩
  · exact Or.inl ⟨(hb.1 rfl).2, rfl, h1, h2⟩

set_option maxRecDepth 100000 in
set_option maxHeartbeats 1000000 in
theorem must_bad (R : Nat) (s : ByteArray) (i : Nat) (c : UInt8) (w : World) (hr : Rd w R s i true) :
    Calls Try.prog 104 #[.pointer (some ⟨R, 0, none⟩), .string ⟨#[c]⟩] w fun e w' => e = .returned (.tuple #[]) ∧ Rd w' R s i true ∧ w.grownBy w' (some R) := by
  obtain ⟨c0, c1, c2, z1, z2⟩ := hr.cells
  have HR := Lib.hid hr
  clear hr
  go_enter Try.func104, Try.ntmps104
  go_wp2_with fail
  go_end0
  exact ⟨rfl, HR.out.set true⟩

set_option maxRecDepth 100000 in
set_option maxHeartbeats 1000000 in
theorem must_or (R : Nat) (s : ByteArray) (i : Nat) (c : UInt8) (w : World) (hs : s.size ≤ 1073741824) (hi : i ≤ s.size) (hr : Rd w R s i false) :
    Calls Try.prog 104 #[.pointer (some ⟨R, 0, none⟩), .string ⟨#[c]⟩] w fun e w' =>
      (bt s i = some c ∧ e = .returned (.tuple #[]) ∧ Rd w' R s (i + 1) false ∧ w.grownBy w' (some R)) ∨ (¬ bt s i = some c ∧ e = .returned (.tuple #[]) ∧ Rd w' R s i true ∧ w.grownBy w' (some R)) := by
  obtain ⟨c0, c1, c2, z1, z2⟩ := hr.cells
  have HC := Lib.hid (take_or R s i c w hs hi hr)
  clear hr
  go_enter Try.func104, Try.ntmps104
  go_wp2_with fail
  refine HC.out.mono ?_
  rintro e w1 (⟨h, rfl, hr1, hg1⟩ | ⟨h, rfl, hr1, hg1⟩)
  all_goals
    clear c0 c1 c2 z1 z2
    obtain ⟨c0, c1, c2, z1, z2⟩ := hr1.cells
    have HR := Lib.hid hr1
    have HG := Lib.hid hg1
    have HH := Lib.hid h
    clear hr1 hg1 h
    go_wp2_with fail
    go_end0
    first
    | exact Or.inl ⟨HH.out, rfl, (HR.out.set false).1, grownBy_trans HG.out (HR.out.set false).2⟩
    | exact Or.inr ⟨HH.out, rfl, (HR.out.set true).1, grownBy_trans HG.out (HR.out.set true).2⟩

set_option maxRecDepth 100000 in
set_option maxHeartbeats 1000000 in
theorem l3Bool_any (w : World) : Calls Try.prog 103 #[] w fun e w' => e = .returned (.agg #[.int .i64 2, .slice none 0 0]) ∧ Below w.heap.size w w' := by
  have HB := Lib.hid ((Below.refl _ w).alloc (Nat.le_refl _) (.cells #[.int .i64 2, .slice none 0 0] 26))
  go_enter Try.func103, Try.ntmps103
  go_wp2_with fail
  refine bodyPost_ret (v := .agg #[.int .i64 2, .slice none 0 0]) ?_ rfl ?_
  · rw [results_cell1 rfl]
    go_simp
  · exact ⟨rfl, HB.out⟩
end Go.Proofs.Ytnciibngcaajgaa

