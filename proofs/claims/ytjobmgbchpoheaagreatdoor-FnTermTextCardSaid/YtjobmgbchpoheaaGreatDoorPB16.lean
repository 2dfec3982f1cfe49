/-
  Several texts of the proof in one (each says below what it holds): RdI1 RdO RdW.
-/
import Derived.Test.YtjobmgbchpoheaaGreatDoorPB13
import Derived.Test.YtjobmgbchpoheaaGreatDoorPB14
import Derived.Test.YtjobmgbchpoheaaGreatDoorPB2
import Derived.Test.YtjobmgbchpoheaaGreatDoorPB15
import Derived.Test.YtjobmgbchpoheaaGreatDoorPB6
import Derived.Test.YtjobmgbchpoheaaGreatDoorPB12
import Derived.Test.YtjobmgbchpoheaaGreatDoorPB4
import Derived.Shelf.Strings.SlTrimAscii
namespace Go.Proofs.YtjobmgbchpoheaaGreatDoor
open Go Go.RowKit

abbrev fE (b : Nat) : Value := .func (.func 94) #[] #[.pointer (some ⟨b, 0, none⟩)]
def tabC (E : Nat → Nat) : Array Value :=
  #[.string ⟨#[35, 102]⟩, fE (E 0), .string ⟨#[35, 116]⟩, fE (E 1), .string ⟨#[60]⟩, fE (E 2), .string ⟨#[126]⟩, fE (E 3), .string ⟨#[40, 33]⟩, fE (E 4), .string ⟨#[40, 105, 102, 32]⟩, fE (E 5), .string ⟨#[40, 114, 117, 110, 32]⟩, fE (E 6), .string ⟨#[40, 108, 105, 102, 116, 32]⟩, fE (E 7),
    .string ⟨#[40, 108, 101, 116, 32]⟩, .func (.func 54) #[] #[], .string ⟨#[40, 114, 101, 99, 32]⟩, .func (.func 55) #[] #[],
    .string ⟨#[40, 92]⟩, .func (.func 56) #[] #[], .string ⟨#[40]⟩, .func (.func 57) #[] #[]]
def capE : Nat → Tm
  | 0 => eFalse
  | 1 => eTrue
  | 2 => eQuote
  | 3 => eSplice
  | 4 => eNot
  | 5 => eIf
  | 6 => eRun
  | _ => eLift
structure Rdr (R FB : Nat) (E : Nat → Nat) (l : List UInt8) (k : Nat) (W : World) : Prop where
  blk : W.heap[R]? = some (.cells #[.string ⟨l.toArray⟩, .int .i64 k, .slice (some ⟨FB, 0, none⟩) 12 12] 45 (0, 0))
  tab : W.heap[FB]? = some (.cells (tabC E) 89 (0, 0))
  caps : ∀ i, i < 8 → W.heap[E i]? = some (.cells (tmC (capE i) none 0 none 0 none 0) 29 (0, 0))
  nFB : FB ≠ R
  nE : ∀ i, i < 8 → E i ≠ R
  env : ∃ w00 : World, Env w00 ∧ w00.heap.size ≤ R ∧ Below w00.heap.size w00 W
theorem gb_below {W W' : World} (hb : Below W.heap.size W W') (r : Option Nat) : W.grownBy W' r := ⟨hb.os, hb.tape, hb.output, hb.size, fun k hk _ => hb.block k hk⟩
theorem gb_drew {w W : World} {r : Option Nat} (h : w.grownBy W r) : w.grownBy W.drew r := ⟨h.os, h.tape, h.output, h.size, h.block⟩
theorem gb_more {w w1 w2 : World} {r : Option Nat} {D : Nat} (h : w.grownBy w1 r) (hD : w.heap.size ≤ D) (hb : Below D w1 w2) : w.grownBy w2 r :=
  ⟨hb.os.trans h.os, hb.tape.trans h.tape, hb.output.trans h.output, Nat.le_trans h.size hb.size, fun k hk hne => (hb.block k (by omega)).trans (h.block k hk hne)⟩
namespace Rdr
variable {R FB : Nat} {E : Nat → Nat} {l l' : List UInt8} {k k' : Nat} {W W' : World}
theorem lt (h : Rdr R FB E l k W) : R < W.heap.size := (Array.getElem?_eq_some_iff.1 h.blk).1
theorem ltF (h : Rdr R FB E l k W) : FB < W.heap.size := (Array.getElem?_eq_some_iff.1 h.tab).1
theorem ltE (h : Rdr R FB E l k W) (i : Nat) (hi : i < 8) : E i < W.heap.size := (Array.getElem?_eq_some_iff.1 (h.caps i hi)).1
theorem cells (h : Rdr R FB E l k W) : W.cell? ⟨R, 0, none⟩ = some (.string ⟨l.toArray⟩) ∧ W.cell? ⟨R, 1, none⟩ = some (.int .i64 k) ∧ W.cell? ⟨R, 2, none⟩ = some (.slice (some ⟨FB, 0, none⟩) 12 12) ∧ ∀ j, W.frozen? ⟨R, j, none⟩ = false :=
  ⟨cell_of_blk h.blk 0, cell_of_blk h.blk 1, cell_of_blk h.blk 2, unfrozen_of_blk h.blk⟩
def Under (R FB : Nat) (E : Nat → Nat) (D : Nat) : Prop := R < D ∧ FB < D ∧ ∀ i, i < 8 → E i < D
theorem under (h : Rdr R FB E l k W) : Under R FB E W.heap.size := ⟨h.lt, h.ltF, h.ltE⟩
theorem belowAt {D : Nat} (h : Rdr R FB E l k W) (hD : Under R FB E D) (hb : Below D W W') : Rdr R FB E l k W' :=
  ⟨(hb.block _ hD.1).trans h.blk, (hb.block _ hD.2.1).trans h.tab, fun i hi => (hb.block _ (hD.2.2 i hi)).trans (h.caps i hi), h.nFB, h.nE, by
    obtain ⟨w00, h1, h2, h3⟩ := h.env
    exact ⟨w00, h1, h2, h3.trans (hb.mono (by have := hD.1; omega))⟩⟩
theorem below (h : Rdr R FB E l k W) (hb : Below W.heap.size W W') : Rdr R FB E l k W' := h.belowAt h.under hb
theorem drew (h : Rdr R FB E l k W) : Rdr R FB E l k W.drew := ⟨h.blk, h.tab, h.caps, h.nFB, h.nE, by
  obtain ⟨w00, h1, h2, h3⟩ := h.env
  exact ⟨w00, h1, h2, h3.drew⟩⟩
theorem envAt (h : Rdr R FB E l k W) : Env W := by
  obtain ⟨w00, h1, h2, h3⟩ := h.env
  exact h1.below h3
theorem put (h : Rdr R FB E l k W) (l' : List UInt8) : Rdr R FB E l' k (W.setCell ⟨R, 0, none⟩ (.string ⟨l'.toArray⟩)) ∧ W.grownBy (W.setCell ⟨R, 0, none⟩ (.string ⟨l'.toArray⟩)) (some R) := by
  have o : ∀ b, b ≠ R → (W.setCell ⟨R, 0, none⟩ (.string ⟨l'.toArray⟩)).heap[b]? = W.heap[b]? := fun b hb => heap_setCell_other W ⟨R, 0, none⟩ b _ hb
  exact ⟨⟨heap_setCell_same W R 0 _ _ _ h.blk, (o _ h.nFB).trans h.tab, fun i hi => (o _ (h.nE i hi)).trans (h.caps i hi), h.nFB, h.nE, by
    obtain ⟨w00, h1, h2, h3⟩ := h.env
    exact ⟨w00, h1, h2, h3.setCell (p := ⟨R, 0, none⟩) h2 _⟩⟩, ⟨rfl, rfl, rfl, by simp, fun b _ hb => o b (fun e => hb (by simp [e]))⟩⟩
theorem tick (h : Rdr R FB E l k W) (k' : Nat) : Rdr R FB E l k' (W.setCell ⟨R, 1, none⟩ (.int .i64 k')) ∧ W.grownBy (W.setCell ⟨R, 1, none⟩ (.int .i64 k')) (some R) := by
  have o : ∀ b, b ≠ R → (W.setCell ⟨R, 1, none⟩ (.int .i64 k')).heap[b]? = W.heap[b]? := fun b hb => heap_setCell_other W ⟨R, 1, none⟩ b _ hb
  exact ⟨⟨heap_setCell_same W R 1 _ _ _ h.blk, (o _ h.nFB).trans h.tab, fun i hi => (o _ (h.nE i hi)).trans (h.caps i hi), h.nFB, h.nE, by
    obtain ⟨w00, h1, h2, h3⟩ := h.env
    exact ⟨w00, h1, h2, h3.setCell (p := ⟨R, 1, none⟩) h2 _⟩⟩, ⟨rfl, rfl, rfl, by simp, fun b _ hb => o b (fun e => hb (by simp [e]))⟩⟩
end Rdr

abbrev bx (l : List UInt8) : ByteArray := ⟨l.toArray⟩
theorem bx_take (l : List UInt8) (n : Nat) : (bx l).extract 0 n = bx (l.take n) := by
  apply ByteArray.ext
  simp
theorem bx_drop (l : List UInt8) (n : Nat) : (bx l).extract n l.length = bx (l.drop n) := by
  apply ByteArray.ext
  simp only [ByteArray.data_extract, List.extract_toArray, List.extract_eq_take_drop]
  rw [List.take_of_length_le (by simp)]
theorem pre_take {q l : List UInt8} (h : q.length ≤ l.length) : q.isPrefixOf l = (l.take q.length == q) := by
  rw [Bool.eq_iff_iff, List.isPrefixOf_iff_prefix, beq_iff_eq]
  constructor
  · rintro ⟨r, rfl⟩; simp
  · intro e; rw [← e]; exact List.take_prefix _ _
theorem pre_long {q l : List UInt8} (h : ¬ q.length ≤ l.length) : q.isPrefixOf l = false := by
  rw [Bool.eq_false_iff]
  intro e
  rw [List.isPrefixOf_iff_prefix] at e
  exact h e.length_le
set_option maxRecDepth 100000 in
set_option maxHeartbeats 1000000 in
theorem hasp_any (q l : List UInt8) (w : World) :
    Calls Tryz.prog 146 #[.string (bx l), .string (bx q)] w fun e w' => e = .returned (.bool (q.isPrefixOf l)) ∧ w' = w := by
  by_cases h : q.length ≤ l.length
  · have h1 : ((bx l).extract 0 q.length) = bx (l.take q.length) := bx_take l _
    have hd : decide ((q.length : Int) ≤ (l.length : Int)) = true := decide_eq_true (by omega)
    have hd2 : decide (q.length ≤ l.length) = true := decide_eq_true h
    have HP := Lib.hid (pre_take h)
    go_enter Tryz.func146, Tryz.ntmps146
    go_wp2_with fail
    go_ret
    exact ⟨by rw [HP.out]; rfl, rfl⟩
  · have hd : decide ((q.length : Int) ≤ (l.length : Int)) = false := decide_eq_false (by omega)
    have hd2 : decide (q.length ≤ l.length) = false := decide_eq_false h
    have HP := Lib.hid (pre_long h)
    go_enter Tryz.func146, Tryz.ntmps146
    go_wp2_with fail
    go_ret
    exact ⟨by rw [HP.out]; rfl, rfl⟩
set_option maxRecDepth 100000 in
set_option maxHeartbeats 1000000 in
theorem cutl_any (q l : List UInt8) (w : World) :
    Calls Tryz.prog 129 #[.string (bx l), .string (bx q)] w fun e w' => e = .returned (.tuple #[.string (bx (cut q l)), .bool (q.isPrefixOf l)]) ∧ w' = w := by
  have HC := Lib.hid (hasp_any q l w)
  by_cases h : q.isPrefixOf l = true
  · have hle : q.length ≤ l.length := (List.isPrefixOf_iff_prefix.1 h).length_le
    have h1 : ((bx l).extract q.length l.length) = bx (l.drop q.length) := bx_drop l _
    have hi : (q.length : Int) ≤ (l.length : Int) := by omega
    have HX := Lib.hid (show cut q l = l.drop q.length by unfold cut; rw [if_pos h])
    rw [h] at HC ⊢
    go_enter Tryz.func129, Tryz.ntmps129
    go_wp2_with fail
    refine HC.out.mono ?_
    rintro e w1 ⟨rfl, rfl⟩
    go_wp2_with fail
    go_ret2
    exact ⟨by rw [HX.out]; rfl, rfl⟩
  · have h' : q.isPrefixOf l = false := Bool.eq_false_iff.2 h
    have HX := Lib.hid (show cut q l = l by unfold cut; rw [if_neg h])
    rw [h'] at HC ⊢
    go_enter Tryz.func129, Tryz.ntmps129
    go_wp2_with fail
    refine HC.out.mono ?_
    rintro e w1 ⟨rfl, rfl⟩
    go_wp2_with fail
    go_ret2
    exact ⟨by rw [HX.out]; rfl, rfl⟩
set_option maxRecDepth 100000 in
set_option maxHeartbeats 1000000 in
theorem cutp_any (q l : List UInt8) (w : World) :
    Calls Tryz.prog 98 #[.string (bx l), .string (bx q)] w fun e w' => e = .returned (.tuple #[.string (bx (cut q l)), .bool (q.isPrefixOf l)]) ∧ w' = w := by
  have HC := Lib.hid (cutl_any q l w)
  go_enter Tryz.func98, Tryz.ntmps98
  go_wp2_with fail
  refine HC.out.mono ?_
  rintro e w1 ⟨rfl, rfl⟩
  go_wp2_with fail
  go_ret2
  exact ⟨rfl, rfl⟩
theorem letters (c : UInt8) : ([97, 98, 99, 100, 101, 102, 103, 104, 105, 106, 107, 108, 109, 110, 111, 112, 113, 114, 115, 116, 117, 118, 119, 120, 121, 122, 48, 49, 50, 51, 52, 53, 54, 55, 56, 57] : List UInt8).contains c = isW c := by
  have h : ∀ n : Fin 256, ([97, 98, 99, 100, 101, 102, 103, 104, 105, 106, 107, 108, 109, 110, 111, 112, 113, 114, 115, 116, 117, 118, 119, 120, 121, 122, 48, 49, 50, 51, 52, 53, 54, 55, 56, 57] : List UInt8).contains (UInt8.ofNat n.val) = isW (UInt8.ofNat n.val) := by decide +kernel
  have := h ⟨c.toNat, c.toNat_lt⟩
  simpa using this
theorem trim_any (l : List UInt8) (w : World) :
    Calls Tryz.prog 99 #[.string (bx l), .string ⟨#[97, 98, 99, 100, 101, 102, 103, 104, 105, 106, 107, 108, 109, 110, 111, 112, 113, 114, 115, 116, 117, 118, 119, 120, 121, 122, 48, 49, 50, 51, 52, 53, 54, 55, 56, 57]⟩] w fun e w' => e = .returned (.string (bx (wrest l))) ∧ Below w.heap.size w w' := by
  refine (Any.strings_TrimLeft_laid Tryz.lays161 (by kernel_rfl) (bx l) ⟨#[97, 98, 99, 100, 101, 102, 103, 104, 105, 106, 107, 108, 109, 110, 111, 112, 113, 114, 115, 116, 117, 118, 119, 120, 121, 122, 48, 49, 50, 51, 52, 53, 54, 55, 56, 57]⟩ w (by decide) (ascii_of_all (by decide))).mono ?_
  rintro e w' ⟨rfl, hb⟩
  refine ⟨?_, hb⟩
  have e1 : Lib.trimLeftS l [97, 98, 99, 100, 101, 102, 103, 104, 105, 106, 107, 108, 109, 110, 111, 112, 113, 114, 115, 116, 117, 118, 119, 120, 121, 122, 48, 49, 50, 51, 52, 53, 54, 55, 56, 57] = wrest l := by
    unfold Lib.trimLeftS wrest
    congr 1
    funext c
    exact letters c
  rw [← e1]
abbrev Small (l : List UInt8) : Prop := l.length ≤ 1048576
set_option maxRecDepth 100000 in
set_option maxHeartbeats 1000000 in
theorem skip_any {R FB : Nat} {E : Nat → Nat} {l : List UInt8} {k : Nat} {W : World} (q : List UInt8) (hr : Rdr R FB E l k W) :
    Calls Tryz.prog 58 #[.pointer (some ⟨R, 0, none⟩), .string (bx q)] W fun e w' => e = .returned (.bool (q.isPrefixOf l)) ∧ Rdr R FB E (cut q l) k w' ∧ W.grownBy w' (some R) := by
  obtain ⟨c0, c1, c2, cz⟩ := hr.cells
  have HR := Lib.hid hr
  have HC := Lib.hid (cutp_any q l W)
  clear hr
  go_enter Tryz.func58, Tryz.ntmps58
  go_wp2_with fail
  refine HC.out.mono ?_
  rintro e w1 ⟨rfl, rfl⟩
  go_wp2_with fail
  go_ret
  exact ⟨rfl, HR.out.put _⟩
theorem word_take (l : List UInt8) : l.take (l.length - (wrest l).length) = wd l := by
  have h1 := wd_wrest l
  have h2 := wd_len l
  have h3 : l.length - (wrest l).length = (wd l).length := by omega
  rw [h3]
  have h4 : (wd l ++ wrest l).take (wd l).length = wd l := List.take_left
  rwa [h1] at h4
set_option maxRecDepth 100000 in
set_option maxHeartbeats 1000000 in
theorem word_any {R FB : Nat} {E : Nat → Nat} {l : List UInt8} {k : Nat} {W : World} (hl : Small l) (hr : Rdr R FB E l k W) :
    Calls Tryz.prog 59 #[.pointer (some ⟨R, 0, none⟩)] W fun e w' => e = .returned (.string (bx (wd l))) ∧ Rdr R FB E (wrest l) k w' ∧ W.grownBy w' (some R) := by
  obtain ⟨c0, c1, c2, cz⟩ := hr.cells
  have HR := Lib.hid hr
  have HC := Lib.hid (trim_any l W)
  clear hr
  have hlen := wd_len l
  have hle : (wrest l).length ≤ l.length := by omega
  have hx : (bx l).extract 0 (l.length - (wrest l).length) = bx (wd l) := by rw [bx_take, word_take]
  have i0 : (0 : Int) ≤ (l.length : Int) - (wrest l).length := by omega
  have i1 : (l.length : Int) - (wrest l).length ≤ l.length := by omega
  have i2 : ((l.length : Int) - (wrest l).length) = ((l.length - (wrest l).length : Nat) : Int) := by omega
  clear hlen
  go_enter Tryz.func59, Tryz.ntmps59
  go_wp2_with fail
  refine HC.out.mono ?_
  rintro e w1 ⟨rfl, hb1⟩
  have hr1 := HR.out.below hb1
  obtain ⟨c0, c1, c2, cz⟩ := hr1.cells
  have HR1 := Lib.hid hr1
  have HB1 := Lib.hid hb1
  clear hr1 hb1
  go_wp2_with fail
  go_region
  go_wp2_with fail
  go_ret
  obtain ⟨h1, h2⟩ := HR1.out.put (wrest l)
  exact ⟨rfl, h1.drew, gb_drew (grownBy_trans (gb_below HB1.out _) h2)⟩
set_option maxRecDepth 100000 in
set_option maxHeartbeats 1000000 in
theorem name_any {R FB : Nat} {E : Nat → Nat} {l : List UInt8} {k : Nat} {W : World} (q : List UInt8) (hl : Small l) (hr : Rdr R FB E l k W) :
    Calls Tryz.prog 96 #[.pointer (some ⟨R, 0, none⟩), .string (bx q)] W fun e w' => e = .returned (.string (bx (wd l))) ∧ Rdr R FB E (cut q (wrest l)) k w' ∧ W.grownBy w' (some R) := by
  have HC := Lib.hid (word_any hl hr)
  have HQ := Lib.hid (fun (W' : World) (h : Rdr R FB E (wrest l) k W') => skip_any q h)
  clear hr
  go_enter Tryz.func96, Tryz.ntmps96
  go_wp2_with fail
  refine HC.out.mono ?_
  rintro e w1 ⟨rfl, hr1, hg1⟩
  have HG1 := Lib.hid hg1
  have HC2 := Lib.hid (HQ.out w1 hr1)
  clear hr1 hg1
  go_wp2_with fail
  refine HC2.out.mono ?_
  rintro e w2 ⟨rfl, hr2, hg2⟩
  have HR2 := Lib.hid hr2
  have HG2 := Lib.hid (grownBy_trans HG1.out hg2)
  clear hr2 hg2
  go_wp2_with fail
  go_ret
  exact ⟨rfl, HR2.out, HG2.out⟩
end Go.Proofs.YtjobmgbchpoheaaGreatDoor
namespace Go.Proofs.YtjobmgbchpoheaaGreatDoor
open Go Go.RowKit
def RdO (w : World) (R : Nat) (s : ByteArray) : Option Nat → Prop
  | some i => i ≤ s.size ∧ Rd w R s i false
  | none => ∃ i, i ≤ s.size ∧ Rd w R s i true
theorem pre_len {q s : List UInt8} {i : Nat} (h : pre q s i = true) (hi : i ≤ s.length) : i + q.length ≤ s.length := by
  unfold pre at h
  have := (List.isPrefixOf_iff_prefix.1 h).length_le
  rw [List.length_drop] at this
  omega
theorem pre_ext {q : List UInt8} {s : ByteArray} {i : Nat} (h : i + q.length ≤ s.size) : pre q s.data.toList i = ((s.extract i (i + q.length)).toList == q) := by
  have h1 : i + q.length ≤ s.data.toList.length := by simpa using h
  unfold pre
  rw [pre_take (by rw [List.length_drop]; omega), ByteArray.toList_eq, ByteArray.data_extract, Array.toList_extract, List.extract_eq_take_drop]
  rw [show i + q.length - i = q.length by omega]
theorem pre_out {q s : List UInt8} {i : Nat} (hi : i ≤ s.length) (h : ¬ i + q.length ≤ s.length) : pre q s i = false := by
  rw [Bool.eq_false_iff]
  exact fun e => h (pre_len e hi)
def TakeS (R : Nat) (s : ByteArray) (q : List UInt8) (i : Nat) (w : World) (e : Ending) (w' : World) : Prop :=
  e = .returned (.bool (pre q s.data.toList i)) ∧ Rd w' R s (if pre q s.data.toList i then i + q.length else i) false ∧ w.grownBy w' (some R)
set_option maxRecDepth 100000 in
set_option maxHeartbeats 1000000 in
theorem takeS_bad (R : Nat) (s : ByteArray) (q : List UInt8) (i : Nat) (w : World) (hr : Rd w R s i true) :
    Calls Tryz.prog 71 #[.pointer (some ⟨R, 0, none⟩), .string (bx q)] w fun e w' => e = .returned (.bool false) ∧ Rd w' R s i true ∧ w.grownBy w' (some R) := by
  obtain ⟨c0, c1, c2, z1, z2⟩ := hr.cells
  have HR := Lib.hid hr
  clear hr
  go_enter Tryz.func71, Tryz.ntmps71
  go_wp2_with fail
  go_quiet (fail)
  go_wp2_with fail
  go_ret
  exact ⟨rfl, HR.out.drew _, grownBy_drewN (grown_refl _ _) _⟩
set_option maxRecDepth 100000 in
set_option maxHeartbeats 1000000 in
theorem takeS_end (R : Nat) (s : ByteArray) (q : List UInt8) (i : Nat) (w : World) (hs : s.size ≤ 1073741824) (hq : q.length ≤ 1000) (hi : i ≤ s.size) (hlt : ¬ i + q.length ≤ s.size) (hr : Rd w R s i false) :
    Calls Tryz.prog 71 #[.pointer (some ⟨R, 0, none⟩), .string (bx q)] w (TakeS R s q i w) := by
  obtain ⟨c0, c1, c2, z1, z2⟩ := hr.cells
  have HR := Lib.hid hr
  clear hr
  have hw : IntKind.i64.wrap ((i : Int) + (q.length : Int)) = (i : Int) + (q.length : Int) := IntWalk.i64_in _ (by omega)
  have h1 : decide ((s.size : Int) < (i : Int) + (q.length : Int)) = true := decide_eq_true (by omega)
  have HP := Lib.hid (pre_out (q := q) (s := s.data.toList) (i := i) (by simpa using hi) (by simpa using hlt))
  go_enter Tryz.func71, Tryz.ntmps71
  go_wp2_with fail
  go_quiet (fail)
  go_wp2_with fail
  go_ret
  exact ⟨by rw [HP.out]; rfl, by rw [HP.out]; exact HR.out.drew _, grownBy_drewN (grown_refl _ _) _⟩
set_option maxRecDepth 100000 in
set_option maxHeartbeats 1000000 in
theorem takeS_at (R : Nat) (s : ByteArray) (q : List UInt8) (i : Nat) (w : World) (hs : s.size ≤ 1073741824) (hlt : i + q.length ≤ s.size) (hr : Rd w R s i false) :
    Calls Tryz.prog 71 #[.pointer (some ⟨R, 0, none⟩), .string (bx q)] w (TakeS R s q i w) := by
  obtain ⟨c0, c1, c2, z1, z2⟩ := hr.cells
  have HR := Lib.hid hr
  clear hr
  have h0 : (0 : Int) ≤ (i : Int) := by omega
  have hw : IntKind.i64.wrap ((i : Int) + (q.length : Int)) = (i : Int) + (q.length : Int) := IntWalk.i64_in _ (by omega)
  have h1 : decide ((s.size : Int) < (i : Int) + (q.length : Int)) = false := decide_eq_false (by omega)
  have h2 : (i : Int) + (q.length : Int) ≤ (s.size : Int) := by omega
  have h3 : (i : Int) ≤ (i : Int) + (q.length : Int) := by omega
  have HX := Lib.hid (pre_ext hlt)
  obtain ⟨b, hb⟩ : ∃ b, ((s.extract i (i + q.length)).toList == q) = b := ⟨_, rfl⟩
  rw [hb] at HX
  have hn : ((i : Int) + (q.length : Int)).toNat = i + q.length := by omega
  cases b
  · go_enter Tryz.func71, Tryz.ntmps71
    go_wp2_with fail
    go_quiet (fail)
    go_wp2_with fail
    go_ret
    exact ⟨by rw [HX.out]; rfl, by rw [HX.out]; exact HR.out.drew _, grownBy_drewN (grown_refl _ _) _⟩
  · go_enter Tryz.func71, Tryz.ntmps71
    go_wp2_with fail
    go_quiet (fail)
    go_wp2_with fail
    go_ret
    refine ⟨by rw [HX.out]; rfl, ?_⟩
    rw [HX.out]
    rw [show ((i : Int) + (q.length : Int)) = ((i + q.length : Nat) : Int) by omega]
    exact ⟨((HR.out.drew _).at (i + q.length)).1, grownBy_trans (grownBy_drewN (grown_refl _ _) _) ((HR.out.drew _).at (i + q.length)).2⟩
def takes (q s : List UInt8) : Option Nat → Bool
  | some i => pre q s i
  | none => false
def takeO (q s : List UInt8) : Option Nat → Option Nat
  | some i => some (if pre q s i then i + q.length else i)
  | none => none
def mustO (q s : List UInt8) : Option Nat → Option Nat
  | some i => if pre q s i then some (i + q.length) else none
  | none => none
theorem takeO_any (q : List UInt8) (hq : q.length ≤ 1000) {R : Nat} {s : ByteArray} {o : Option Nat} {w : World} (hs : s.size ≤ 1073741824) (hr : RdO w R s o) :
    Calls Tryz.prog 71 #[.pointer (some ⟨R, 0, none⟩), .string (bx q)] w fun e w' => e = .returned (.bool (takes q s.data.toList o)) ∧ RdO w' R s (takeO q s.data.toList o) ∧ w.grownBy w' (some R) := by
  cases o with
  | none =>
    obtain ⟨i, hi, hr⟩ := hr
    refine (takeS_bad R s q i w hr).mono ?_
    rintro e w' ⟨rfl, h1, h2⟩
    exact ⟨rfl, ⟨i, hi, h1⟩, h2⟩
  | some i =>
    obtain ⟨hi, hr⟩ := hr
    have hT : Calls Tryz.prog 71 #[.pointer (some ⟨R, 0, none⟩), .string (bx q)] w (TakeS R s q i w) := by
      by_cases h : i + q.length ≤ s.size
      · exact takeS_at R s q i w hs h hr
      · exact takeS_end R s q i w hs hq hi h hr
    refine hT.mono ?_
    rintro e w' ⟨rfl, h1, h2⟩
    refine ⟨rfl, ⟨?_, h1⟩, h2⟩
    split
    · rename_i hp
      have := pre_len hp (by simpa using hi)
      simpa using this
    · exact hi
theorem RdO.cells {w : World} {R : Nat} {s : ByteArray} {o : Option Nat} (h : RdO w R s o) : ∃ i, i ≤ s.size ∧ Rd w R s i o.isNone := by
  cases o with
  | none => exact h
  | some i => exact ⟨i, h⟩
set_option maxRecDepth 100000 in
set_option maxHeartbeats 1000000 in
theorem mustO_any (q : List UInt8) (hq : q.length ≤ 1000) {R : Nat} {s : ByteArray} {o : Option Nat} {w : World} (hs : s.size ≤ 1073741824) (hr : RdO w R s o) :
    Calls Tryz.prog 73 #[.pointer (some ⟨R, 0, none⟩), .string (bx q)] w fun e w' => e = .returned (.tuple #[]) ∧ RdO w' R s (mustO q s.data.toList o) ∧ w.grownBy w' (some R) := by
  cases o with
  | none =>
    obtain ⟨i, hi, hr⟩ := hr
    obtain ⟨c0, c1, c2, z1, z2⟩ := hr.cells
    have HR := Lib.hid hr
    clear hr
    go_enter Tryz.func73, Tryz.ntmps73
    go_wp2_with fail
    go_end0
    exact ⟨rfl, ⟨i, hi, (HR.out.set true).1⟩, (HR.out.set true).2⟩
  | some i =>
    obtain ⟨hi, hr⟩ := hr
    obtain ⟨c0, c1, c2, z1, z2⟩ := hr.cells
    have hc := takeO_any q hq hs (o := some i) ⟨hi, hr⟩
    clear hr
    simp only [takes, takeO] at hc
    have HLE := Lib.hid hi
    obtain ⟨b, hb⟩ : ∃ b, pre q s.data.toList i = b := ⟨_, rfl⟩
    rw [hb] at hc
    have HC := Lib.hid hc
    clear hc
    have HB := Lib.hid hb
    clear hi hb
    go_enter Tryz.func73, Tryz.ntmps73
    go_wp2_with fail
    refine HC.out.mono ?_
    rintro e w1 ⟨rfl, ⟨hi1, hr1⟩, hg1⟩
    clear c0 c1 c2 z1 z2
    obtain ⟨c0, c1, c2, z1, z2⟩ := hr1.cells
    have HR := Lib.hid hr1
    have HG := Lib.hid hg1
    have HI := Lib.hid hi1
    clear hr1 hg1 hi1
    cases b
    · go_wp2_with fail
      go_end0
      refine ⟨rfl, ?_, grownBy_trans HG.out (HR.out.set true).2⟩
      rw [show mustO q s.data.toList (some i) = none by simp [mustO, HB.out]]
      exact ⟨i, HLE.out, (HR.out.set true).1⟩
    · go_wp2_with fail
      go_end0
      refine ⟨rfl, ?_, grownBy_trans HG.out (HR.out.set false).2⟩
      rw [show mustO q s.data.toList (some i) = some (i + q.length) by simp [mustO, HB.out]]
      exact ⟨HI.out, (HR.out.set false).1⟩
end Go.Proofs.YtjobmgbchpoheaaGreatDoor
namespace Go.Proofs.YtjobmgbchpoheaaGreatDoor
open Go Go.RowKit

theorem word_in {s : List UInt8} {i j : Nat} (h0 : i ≤ j) (h1 : j < i + (word s i).length) : ∃ c, s[j]? = some c ∧ isW c = true := by
  unfold word at h1
  have h2 : j - i < ((s.drop i).takeWhile isW).length := by omega
  have h3 : ((s.drop i).takeWhile isW)[j - i]? = some (((s.drop i).takeWhile isW)[j - i]) := List.getElem?_eq_getElem h2
  refine ⟨((s.drop i).takeWhile isW)[j - i], ?_, ?_⟩
  · have h4 := List.takeWhile_prefix isW (l := s.drop i)
    obtain ⟨r, hr⟩ := h4
    have h5 : (s.drop i)[j - i]? = some (((s.drop i).takeWhile isW)[j - i]) := by
      conv => lhs; rw [← hr]
      rw [List.getElem?_append_left h2, h3]
    rw [List.getElem?_drop] at h5
    rwa [show i + (j - i) = j by omega] at h5
  · exact List.all_eq_true.1 (List.all_takeWhile (p := isW) (l := s.drop i)) _ (List.getElem_mem h2)
theorem word_end {s : List UInt8} {i : Nat} {c : UInt8} (h : s[i + (word s i).length]? = some c) : isW c = false := by
  have h2 : (s.drop i).takeWhile isW ++ (s.drop i).dropWhile isW = s.drop i := List.takeWhile_append_dropWhile
  have h3 : (s.drop i)[((s.drop i).takeWhile isW).length]? = some c := by rw [List.getElem?_drop]; exact h
  rw [← h2] at h3
  rw [List.getElem?_append_right (by simp)] at h3
  rw [h2, Nat.sub_self] at h3
  have h4 := List.head?_dropWhile_not isW (s.drop i)
  rw [show ((s.drop i).dropWhile isW).head? = some c by rw [← h3]; cases ((s.drop i).dropWhile isW) <;> rfl] at h4
  exact h4
theorem isW_cases {c : UInt8} (h : isW c = true) : (48 ≤ c.toNat ∧ c.toNat ≤ 57) ∨ (97 ≤ c.toNat ∧ c.toNat ≤ 122) := by
  simpa [isW] using h
theorem isW_not {c : UInt8} (h : isW c = false) : c.toNat < 48 ∨ (57 < c.toNat ∧ c.toNat < 97) ∨ 122 < c.toNat := by
  have : ¬ ((48 ≤ c.toNat ∧ c.toNat ≤ 57) ∨ (97 ≤ c.toNat ∧ c.toNat ≤ 122)) := fun h2 => by
    have : isW c = true := by simpa [isW] using h2
    rw [h] at this; cases this
  omega
theorem word_le {s : List UInt8} {i : Nat} (hi : i ≤ s.length) : i + (word s i).length ≤ s.length := by
  have h := (List.takeWhile_prefix isW (l := s.drop i)).length_le
  rw [List.length_drop] at h
  unfold word
  omega
def atOf (W : World) (R : Nat) : Nat := match W.cell? ⟨R, 1, none⟩ with
  | some (.int _ n) => n.toNat
  | _ => 0
theorem Rd.atOf {W : World} {R : Nat} {s : ByteArray} {j : Nat} {bad : Bool} (h : Rd W R s j bad) : atOf W R = j := by
  unfold Go.Proofs.YtjobmgbchpoheaaGreatDoor.atOf
  rw [h.cells.2.1]
  simp
set_option maxRecDepth 100000 in
set_option maxHeartbeats 1000000 in
theorem wordS_any (R : Nat) (s : ByteArray) (i : Nat) (bad : Bool) (w : World) (hs : s.size ≤ 1073741824) (hi : i ≤ s.size) (hr : Rd w R s i bad) :
    Calls Tryz.prog 76 #[.pointer (some ⟨R, 0, none⟩)] w fun e w' => e = .returned (.string (bx (word s.data.toList i))) ∧ Rd w' R s (i + (word s.data.toList i).length) bad ∧ w.grownBy w' (some R) := by
  obtain ⟨c0, c1, c2, z1, z2⟩ := hr.cells
  have HR := Lib.hid hr
  have HLE := Lib.hid hi
  have HWL := Lib.hid (word_le (s := s.data.toList) (i := i) (by simpa using hi))
  clear hr hi
  go_enter Tryz.func76, Tryz.ntmps76
  go_wp2_with fail
  go_loopw [] (fun wr => ∃ j, i ≤ j ∧ j ≤ i + (word s.data.toList i).length ∧ Rd wr R s j bad ∧ w.grownBy wr (some R)) (fun wr => s.size - atOf wr R)
  case atStart => exact ⟨i, Nat.le_refl _, Nat.le_add_right _ _, HR.out, grown_refl _ _⟩
  case round =>
    obtain ⟨j, hij, hjl, hrj, hgj⟩ := hrel
    clear c0 c1 c2 z1 z2
    obtain ⟨c0, c1, c2, z1, z2⟩ := hrj.cells
    have HRJ := Lib.hid hrj
    have HGJ := Lib.hid hgj
    have HJ := Lib.hid (And.intro hij hjl)
    clear hrj hgj
    by_cases hlt : j < i + (word s.data.toList i).length
    · obtain ⟨c, hc, hw⟩ := word_in hij hlt
      have hjs : j < s.size := by have := HWL.out; simp at this; omega
      have hsj : s[j] = c := by
        have := at_byte hjs
        rw [hc] at this
        simpa using this.symm
      have hbc := isW_cases hw
      rw [← hsj] at hbc
      have j0 : (0 : Int) ≤ (j : Int) := by omega
      have j1 : (j : Int) < (s.size : Int) := by omega
      have j2 : (j : Int) + 1 ≤ 9223372036854775807 := by omega
      have hd1 : decide ((j : Int) < (s.size : Int)) = true := decide_eq_true j1
      clear hc hw hsj
      rcases hbc with ⟨b1, b2⟩ | ⟨b1, b2⟩
      · have p48 : decide ((48 : Int) ≤ (s[j].toNat : Int)) = true := by simp; omega
        have p57 : decide ((s[j].toNat : Int) ≤ 57) = true := by simp; omega
        go_wp2_with fail
        go_quiet (fail)
        go_wp2_with fail
        go_roundw
        case rel =>
          rw [show ((j : Int) + 1) = ((j + 1 : Nat) : Int) by omega]
          exact ⟨j + 1, by have := HJ.out.1; omega, by omega, ((HRJ.out.drew _).at (j + 1)).1, grownBy_trans (grownBy_drewN HGJ.out _) ((HRJ.out.drew _).at (j + 1)).2⟩
        case measure =>
          rw [show ((j : Int) + 1) = ((j + 1 : Nat) : Int) by omega, ((HRJ.out.drew _).at (j + 1)).1.atOf, HRJ.out.atOf]
          omega
      · have p48 : decide ((48 : Int) ≤ (s[j].toNat : Int)) = true := by simp; omega
        have p57 : decide ((s[j].toNat : Int) ≤ 57) = false := by simp; omega
        have p97 : decide ((97 : Int) ≤ (s[j].toNat : Int)) = true := by simp; omega
        have p122 : decide ((s[j].toNat : Int) ≤ 122) = true := by simp; omega
        go_wp2_with fail
        go_quiet (fail)
        go_wp2_with fail
        go_roundw
        case rel =>
          rw [show ((j : Int) + 1) = ((j + 1 : Nat) : Int) by omega]
          exact ⟨j + 1, by have := HJ.out.1; omega, by omega, ((HRJ.out.drew _).at (j + 1)).1, grownBy_trans (grownBy_drewN HGJ.out _) ((HRJ.out.drew _).at (j + 1)).2⟩
        case measure =>
          rw [show ((j : Int) + 1) = ((j + 1 : Nat) : Int) by omega, ((HRJ.out.drew _).at (j + 1)).1.atOf, HRJ.out.atOf]
          omega
    · obtain rfl : j = i + (word s.data.toList i).length := by omega
      obtain ⟨j, hj⟩ : ∃ j, i + (word s.data.toList i).length = j := ⟨_, rfl⟩
      rw [hj] at HRJ c1
      have hex : s.extract i j = bx (word s.data.toList i) := by
        rw [← hj]
        apply ByteArray.ext
        rw [ByteArray.data_extract]
        apply Array.ext'
        rw [Array.toList_extract, List.extract_eq_take_drop]
        rw [show i + (word s.data.toList i).length - i = (word s.data.toList i).length by omega]
        have h4 := List.takeWhile_prefix isW (l := s.data.toList.drop i)
        show _ = word s.data.toList i
        exact (List.prefix_iff_eq_take.1 h4).symm
      have HEX := Lib.hid hex
      have HJE := Lib.hid hj
      rw [hj]
      have hjw : j ≤ s.size := by have := HWL.out; rw [hj] at this; simpa using this
      have hij' : i ≤ j := by omega
      have j0 : (0 : Int) ≤ (j : Int) := by omega
      have k0 : (0 : Int) ≤ (i : Int) := by omega
      have k1 : (i : Int) ≤ (j : Int) := by omega
      have k2 : (j : Int) ≤ (s.size : Int) := by omega
      by_cases hlj : j < s.size
      · have hbc := isW_not (word_end (s := s.data.toList) (i := i) (c := s[j]) (by rw [hj]; exact at_byte hlj))
        have j1 : (j : Int) < (s.size : Int) := by omega
        have hd1 : decide ((j : Int) < (s.size : Int)) = true := decide_eq_true j1
        clear hex hj hij hjl hlt
        rcases hbc with b1 | ⟨b1, b2⟩ | b1
        · have p48 : decide ((48 : Int) ≤ (s[j].toNat : Int)) = false := by simp; omega
          have p97 : decide ((97 : Int) ≤ (s[j].toNat : Int)) = false := by simp; omega
          go_wp2_with fail
          go_quiet (fail)
          go_wp2_with fail
          go_quiet (fail)
          go_wp2_with fail
          go_ret
          refine ⟨by rw [HEX.out]; rfl, ?_, grownBy_drewN (grownBy_drewN HGJ.out _) _⟩
          exact HJE.out.symm ▸ (HRJ.out.drew _).drew _
        · have p48 : decide ((48 : Int) ≤ (s[j].toNat : Int)) = true := by simp; omega
          have p57 : decide ((s[j].toNat : Int) ≤ 57) = false := by simp; omega
          have p97 : decide ((97 : Int) ≤ (s[j].toNat : Int)) = false := by simp; omega
          go_wp2_with fail
          go_quiet (fail)
          go_wp2_with fail
          go_quiet (fail)
          go_wp2_with fail
          go_ret
          refine ⟨by rw [HEX.out]; rfl, ?_, grownBy_drewN (grownBy_drewN HGJ.out _) _⟩
          exact HJE.out.symm ▸ (HRJ.out.drew _).drew _
        · have p48 : decide ((48 : Int) ≤ (s[j].toNat : Int)) = true := by simp; omega
          have p57 : decide ((s[j].toNat : Int) ≤ 57) = false := by simp; omega
          have p97 : decide ((97 : Int) ≤ (s[j].toNat : Int)) = true := by simp; omega
          have p122 : decide ((s[j].toNat : Int) ≤ 122) = false := by simp; omega
          go_wp2_with fail
          go_quiet (fail)
          go_wp2_with fail
          go_quiet (fail)
          go_wp2_with fail
          go_ret
          refine ⟨by rw [HEX.out]; rfl, ?_, grownBy_drewN (grownBy_drewN HGJ.out _) _⟩
          exact HJE.out.symm ▸ (HRJ.out.drew _).drew _
      · have hd1 : decide ((j : Int) < (s.size : Int)) = false := by simp; omega
        clear hex hj hij hjl hlt
        go_wp2_with fail
        go_quiet (fail)
        go_wp2_with fail
        go_quiet (fail)
        go_wp2_with fail
        go_ret
        refine ⟨by rw [HEX.out]; rfl, ?_, grownBy_drewN (grownBy_drewN HGJ.out _) _⟩
        exact HJE.out.symm ▸ (HRJ.out.drew _).drew _
def wordO (s : List UInt8) : Option Nat → Option Nat
  | some i => some (i + (word s i).length)
  | none => none
theorem wordO_any {R : Nat} {s : ByteArray} {o : Option Nat} {w : World} (hs : s.size ≤ 1073741824) (hr : RdO w R s o) :
    Calls Tryz.prog 76 #[.pointer (some ⟨R, 0, none⟩)] w fun e w' => ∃ a : List UInt8, e = .returned (.string (bx a)) ∧ a.length ≤ s.size ∧ (∀ i, o = some i → a = word s.data.toList i) ∧ RdO w' R s (wordO s.data.toList o) ∧ w.grownBy w' (some R) := by
  obtain ⟨i, hi, h⟩ := hr.cells
  refine (wordS_any R s i _ w hs hi h).mono ?_
  rintro e w' ⟨rfl, h1, h2⟩
  have hl := word_le (s := s.data.toList) (i := i) (by simpa using hi)
  have hl2 : i + (word s.data.toList i).length ≤ s.size := by simpa using hl
  cases o with
  | none => exact ⟨_, rfl, by omega, (fun j hj => by cases hj), ⟨_, hl2, h1⟩, h2⟩
  | some k =>
    have hk : i = k := by
      have := hr.2.cells.2.1
      rw [h.cells.2.1] at this
      have := Option.some.inj this
      injection this with _ h3
      omega
    subst hk
    exact ⟨_, rfl, by omega, (fun j hj => by cases hj; rfl), ⟨hl2, h1⟩, h2⟩
end Go.Proofs.YtjobmgbchpoheaaGreatDoor
