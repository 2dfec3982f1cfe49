/-
  The model's reader of texts: l4Take and l4Must at one byte.
-/
import Derived.Test.YtnciibngcaajgaaTyText
import Derived.Test.YtnciibngcaajgaaCur
import Derived.BigQuiet
import Derived.Deep.QuietTactic
namespace Go.Proofs.Ytnciibngcaajgaa
open Go Go.RowKit

/-- The reader's record in block R. -/
def Rd (w : World) (R : Nat) (s : ByteArray) (i : Nat) (bad : Bool) : Prop := w.heap[R]? = some (.cells #[.string s, .int .i64 i, .bool bad] 88 (0, 0))
theorem Rd.cells {w : World} {R : Nat} {s : ByteArray} {i : Nat} {bad : Bool} (h : Rd w R s i bad) :
    w.cell? ⟨R, 0, none⟩ = some (.string s) ∧ w.cell? ⟨R, 1, none⟩ = some (.int .i64 i) ∧ w.cell? ⟨R, 2, none⟩ = some (.bool bad) ∧ w.frozen? ⟨R, 1, none⟩ = false ∧ w.frozen? ⟨R, 2, none⟩ = false :=
  ⟨by rw [cell_of_row w R 0 _ _ _ h]; rfl, by rw [cell_of_row w R 1 _ _ _ h]; rfl, by rw [cell_of_row w R 2 _ _ _ h]; rfl, frozen_of_row w R 1 _ _ h, frozen_of_row w R 2 _ _ h⟩
theorem Rd.lt {w : World} {R : Nat} {s : ByteArray} {i : Nat} {bad : Bool} (h : Rd w R s i bad) : R < w.heap.size := (Array.getElem?_eq_some_iff.1 h).1
theorem Rd.drew {w : World} {R : Nat} {s : ByteArray} {i : Nat} {bad : Bool} (h : Rd w R s i bad) (n : Nat) : Rd (w.drewN n) R s i bad := h
theorem grown_refl (w : World) (r : Option Nat) : w.grownBy w r := ⟨rfl, rfl, rfl, Nat.le_refl _, fun _ _ _ => rfl⟩
theorem Rd.at {w : World} {R : Nat} {s : ByteArray} {i : Nat} {bad : Bool} (h : Rd w R s i bad) (j : Nat) : Rd (w.setCell ⟨R, 1, none⟩ (.int .i64 j)) R s j bad ∧ w.grownBy (w.setCell ⟨R, 1, none⟩ (.int .i64 j)) (some R) :=
  ⟨heap_setCell_same w R 1 _ _ _ h, ⟨rfl, rfl, rfl, by simp, fun k _ hk => heap_setCell_other w ⟨R, 1, none⟩ k _ (fun e => hk (by simp [e]))⟩⟩
theorem Rd.set {w : World} {R : Nat} {s : ByteArray} {i : Nat} {bad : Bool} (h : Rd w R s i bad) (b : Bool) : Rd (w.setCell ⟨R, 2, none⟩ (.bool b)) R s i b ∧ w.grownBy (w.setCell ⟨R, 2, none⟩ (.bool b)) (some R) :=
  ⟨heap_setCell_same w R 2 _ _ _ h, ⟨rfl, rfl, rfl, by simp, fun k _ hk => heap_setCell_other w ⟨R, 2, none⟩ k _ (fun e => hk (by simp [e]))⟩⟩

theorem one_byte {s : ByteArray} {i : Nat} (h : i < s.size) : (s.extract i (i + 1)).toList = [s[i]] := by
  have h1 : i < s.data.toList.length := by simpa using h
  rw [ByteArray.toList_eq, ByteArray.data_extract, Array.toList_extract, List.extract_eq_take_drop]
  rw [show i + 1 - i = 1 by omega, List.drop_eq_getElem_cons h1, List.take_succ_cons, List.take_zero, Array.getElem_toList]
  rfl
theorem at_byte {s : ByteArray} {i : Nat} (h : i < s.size) : s.data.toList[i]? = some s[i] := by
  rw [List.getElem?_eq_getElem (by simpa using h), Array.getElem_toList]; rfl
theorem at_none {s : ByteArray} {i : Nat} (h : ¬ i < s.size) : s.data.toList[i]? = none := List.getElem?_eq_none (by simpa using h)

/-- What l4Take leaves: whether the byte stood there, and the place behind it. -/
def TakeRet (R : Nat) (s : ByteArray) (i : Nat) (bad : Bool) (c : UInt8) (w : World) (e : Ending) (w' : World) : Prop :=
  ∃ b : Bool, (b = true ↔ bad = false ∧ s.data.toList[i]? = some c) ∧ e = .returned (.bool b) ∧ Rd w' R s (if b then i + 1 else i) bad ∧ w.grownBy w' (some R)
theorem take_yes {R : Nat} {s : ByteArray} {i : Nat} {c : UInt8} {w w1 : World} (h : Rd w1 R s i false) (hc : s.data.toList[i]? = some c) (hg : w.grownBy w1 (some R)) :
    TakeRet R s i false c w (.returned (.bool true)) (w1.setCell ⟨R, 1, none⟩ (.int .i64 ((i : Int) + 1))) := by
  have := h.at (i + 1)
  rw [show ((i : Int) + 1) = ((i + 1 : Nat) : Int) by omega]
  exact ⟨true, ⟨fun _ => ⟨rfl, hc⟩, fun _ => rfl⟩, rfl, this.1, grownBy_trans hg this.2⟩
theorem take_no {R : Nat} {s : ByteArray} {i : Nat} {bad : Bool} {c : UInt8} {w w1 : World} (h : Rd w1 R s i bad) (hc : ¬ (bad = false ∧ s.data.toList[i]? = some c)) (hg : w.grownBy w1 (some R)) :
    TakeRet R s i bad c w (.returned (.bool false)) w1 :=
  ⟨false, ⟨fun h => (by cases h), fun h => absurd h hc⟩, rfl, h, hg⟩

set_option maxRecDepth 100000 in
set_option maxHeartbeats 1000000 in
theorem take_bad (R : Nat) (s : ByteArray) (i : Nat) (c : UInt8) (w : World) (hr : Rd w R s i true) :
    Calls Try.prog 102 #[.pointer (some ⟨R, 0, none⟩), .string ⟨#[c]⟩] w (TakeRet R s i true c w) := by
  obtain ⟨c0, c1, c2, z1, z2⟩ := hr.cells
  have HR := Lib.hid hr
  clear hr
  go_enter Try.func102, Try.ntmps102
  go_wp2_with fail
  go_quiet (fail)
  go_wp2_with fail
  go_ret
  exact take_no (HR.out.drew _) (by simp) (grownBy_drewN (grown_refl _ _) _)

set_option maxRecDepth 100000 in
set_option maxHeartbeats 1000000 in
theorem take_end (R : Nat) (s : ByteArray) (i : Nat) (c : UInt8) (w : World) (hs : s.size ≤ 1073741824) (hi : i ≤ s.size) (hlt : ¬ i < s.size) (hr : Rd w R s i false) :
    Calls Try.prog 102 #[.pointer (some ⟨R, 0, none⟩), .string ⟨#[c]⟩] w (TakeRet R s i false c w) := by
  obtain ⟨c0, c1, c2, z1, z2⟩ := hr.cells
  have HR := Lib.hid hr
  clear hr
  have hw : IntKind.i64.wrap ((i : Int) + 1) = (i : Int) + 1 := IntWalk.i64_in _ (by omega)
  have h1 : decide ((s.size : Int) < (i : Int) + 1) = true := decide_eq_true (by omega)
  go_enter Try.func102, Try.ntmps102
  go_wp2_with fail
  go_quiet (fail)
  go_wp2_with fail
  go_ret
  exact take_no (HR.out.drew _) (by rw [at_none hlt]; simp) (grownBy_drewN (grown_refl _ _) _)

set_option maxRecDepth 100000 in
set_option maxHeartbeats 1000000 in
theorem take_at (R : Nat) (s : ByteArray) (i : Nat) (c : UInt8) (w : World) (hs : s.size ≤ 1073741824) (hlt : i < s.size) (hr : Rd w R s i false) :
    Calls Try.prog 102 #[.pointer (some ⟨R, 0, none⟩), .string ⟨#[c]⟩] w (TakeRet R s i false c w) := by
  obtain ⟨c0, c1, c2, z1, z2⟩ := hr.cells
  have HR := Lib.hid hr
  clear hr
  have h0 : (0 : Int) ≤ (i : Int) := by omega
  have hw : IntKind.i64.wrap ((i : Int) + 1) = (i : Int) + 1 := IntWalk.i64_in _ (by omega)
  have h1 : decide ((s.size : Int) < (i : Int) + 1) = false := decide_eq_false (by omega)
  have h2 : (i : Int) + 1 ≤ (s.size : Int) := by omega
  have HX := Lib.hid (one_byte hlt)
  by_cases hc : s[i] = c
  · have he : ((s.extract i (i + 1)).toList == [c]) = true := by rw [HX.out, hc]; simp
    go_enter Try.func102, Try.ntmps102
    go_wp2_with fail
    go_quiet (fail)
    go_wp2_with fail
    go_ret
    exact take_yes (HR.out.drew _) (by rw [at_byte hlt, hc]) (grownBy_drewN (grown_refl _ _) _)
  · have he : ((s.extract i (i + 1)).toList == [c]) = false := by rw [HX.out]; simpa using hc
    go_enter Try.func102, Try.ntmps102
    go_wp2_with fail
    go_quiet (fail)
    go_wp2_with fail
    go_ret
    exact take_no (HR.out.drew _) (by rw [at_byte hlt]; simpa using hc) (grownBy_drewN (grown_refl _ _) _)

/-- ONE BYTE IS TAKEN, where it stands there. -/
theorem take_any (R : Nat) (s : ByteArray) (i : Nat) (bad : Bool) (c : UInt8) (w : World) (hs : s.size ≤ 1073741824) (hi : i ≤ s.size) (hr : Rd w R s i bad) :
    Calls Try.prog 102 #[.pointer (some ⟨R, 0, none⟩), .string ⟨#[c]⟩] w (TakeRet R s i bad c w) := by
  cases bad
  · by_cases hlt : i < s.size
    · exact take_at R s i c w hs hlt hr
    · exact take_end R s i c w hs hi hlt hr
  · exact take_bad R s i c w hr
end Go.Proofs.Ytnciibngcaajgaa

