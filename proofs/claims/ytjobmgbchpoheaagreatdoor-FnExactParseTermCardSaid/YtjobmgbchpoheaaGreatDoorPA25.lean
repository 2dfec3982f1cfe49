/-
  Several texts of the proof in one (each says below what it holds): RdY DrawT4 TmBox RdB RdA.
-/
import Derived.Test.YtjobmgbchpoheaaGreatDoorPA16
import Derived.Test.YtjobmgbchpoheaaGreatDoorPA17
import Derived.Test.YtjobmgbchpoheaaGreatDoorPA15
import Derived.Test.YtjobmgbchpoheaaGreatDoorPA13
import Derived.Test.YtjobmgbchpoheaaGreatDoorPA24
import Derived.RegionTactic
import Derived.ChangeAlike
namespace Go.Proofs.YtjobmgbchpoheaaGreatDoor
open Go Go.RowKit

def typO (s : List UInt8) : Option Nat → Ty → Option Nat → Prop
  | some i, t, o' => (∃ j, pty s 8 i = some (t, j) ∧ o' = some j) ∨ (pty s 8 i = none ∧ o' = none)
  | none, _, o' => o' = none
set_option maxRecDepth 100000 in
set_option maxHeartbeats 1000000 in
theorem typ_bad (D : Int) (R : Nat) (s : ByteArray) (i : Nat) (w : World) (hr : Rd w R s i true) :
    Calls Tryz.prog 115 #[.pointer (some ⟨R, 0, none⟩), .int .i64 D] w fun e w' => e = .returned (.agg #[.int .i64 0, .slice none 0 0]) ∧ Rd w' R s i true ∧ w.grownBy w' (some R) := by
  have hlt := hr.lt
  obtain ⟨w0, hw0, hs0, hb0, r0⟩ := box_new w #[.int .i64 0, .slice none 0 0] 26
  have hr0 : Rd w0 R s i true := (hb0.block _ hlt).trans hr
  obtain ⟨c0, c1, c2, z1, z2⟩ := hr0.cells
  obtain ⟨h1, h2⟩ := hr0.set true
  obtain ⟨w1, hw1⟩ : ∃ w1, w0.setCell ⟨R, 2, none⟩ (.bool true) = w1 := ⟨_, rfl⟩
  rw [hw1] at h1 h2
  have hR1 := (h2.block w.heap.size (by omega) (fun e => by have := Option.some.inj e; omega)).trans r0
  obtain ⟨d0, d1, d2, y1, y2⟩ := h1.cells
  have g0 : w1.cell? ⟨w.heap.size, 0, none⟩ = some (.int .i64 0) := cell_of_blk hR1 0
  have g1 : w1.cell? ⟨w.heap.size, 1, none⟩ = some (.slice none 0 0) := cell_of_blk hR1 1
  have gz := unfrozen_of_blk hR1
  have HX := Lib.hid (And.intro h1 (And.intro (grownBy_trans (gb_below hb0 (some R)) h2) hlt))
  clear hr hr0 hb0 h1 h2 r0 hR1 hlt hs0
  go_enter Tryz.func115, Tryz.ntmps115
  go_wp2_with fail
  refine bodyPost_ret (v := .agg #[.int .i64 0, .slice none 0 0]) ?_ rfl ?_
  · rw [results_cell1 rfl]
    go_simp
  · obtain ⟨x1, x2, x3⟩ := HX.out
    have hbl : Below w.heap.size w1 ((w1.setCell ⟨w.heap.size, 0, none⟩ (.int .i64 0)).setCell ⟨w.heap.size, 1, none⟩ (.slice none 0 0)) := ((Below.refl _ w1).setCell (p := ⟨w.heap.size, 0, none⟩) (Nat.le_refl _) _).setCell (p := ⟨w.heap.size, 1, none⟩) (Nat.le_refl _) _
    exact ⟨rfl, (hbl.block _ x3).trans x1, gb_more x2 (Nat.le_refl _) hbl⟩
theorem typO_any {R : Nat} {s : ByteArray} {o : Option Nat} {w : World} (hs : s.size ≤ 1073741824) (hr : RdO w R s o) :
    Calls Tryz.prog 115 #[.pointer (some ⟨R, 0, none⟩), .int .i64 1] w fun e w' => ∃ v t o', e = .returned v ∧ TT w' (fun z => w.heap.size ≤ z) t v ∧ typO s.data.toList o t o' ∧ RdO w' R s o' ∧ w.grownBy w' (some R) := by
  cases o with
  | none =>
    obtain ⟨i, hi, h⟩ := hr
    refine (typ_bad 1 R s i w h).mono ?_
    rintro e w' ⟨rfl, h1, h2⟩
    exact ⟨_, .mk 0 [], none, rfl, ⟨_, rfl, .nil _ _⟩, rfl, ⟨i, hi, h1⟩, h2⟩
  | some i =>
    obtain ⟨hi, h⟩ := hr
    refine (typ_any R s hs 8 (Nat.le_refl _) i w hi h).mono ?_
    rintro e w' ⟨v, t, rfl, hT, hg, ho⟩
    rcases ho with ⟨j, hp, h1⟩ | ⟨hp, j, hj, h1⟩
    · have hle := (pty_good _ _ _ _ _ hp).le
      exact ⟨v, t, some j, rfl, hT, Or.inl ⟨j, hp, rfl⟩, ⟨by simpa using hle, h1⟩, hg⟩
    · exact ⟨v, t, none, rfl, hT, Or.inr ⟨hp, rfl⟩, ⟨j, hj, h1⟩, hg⟩
theorem RdO.belowAt {W W' : World} {R : Nat} {s : ByteArray} {o : Option Nat} {D : Nat} (h : RdO W R s o) (hR : R < D) (hb : Below D W W') : RdO W' R s o := by
  cases o with
  | none =>
    obtain ⟨i, hi, h⟩ := h
    exact ⟨i, hi, (hb.block _ hR).trans h⟩
  | some i => exact ⟨h.1, (hb.block _ hR).trans h.2⟩
theorem RdO.lt {W : World} {R : Nat} {s : ByteArray} {o : Option Nat} (h : RdO W R s o) : R < W.heap.size := by
  obtain ⟨i, _, h⟩ := h.cells
  exact h.lt
theorem RdO.below {W W' : World} {R : Nat} {s : ByteArray} {o : Option Nat} (h : RdO W R s o) (hb : Below W.heap.size W W') : RdO W' R s o := h.belowAt h.lt hb
theorem set9_out {w W : World} {R : Nat} {s : ByteArray} {o : Option Nat} (v0 v1 v2 v3 v4 v5 v6 v7 v8 : Value) (hg : w.grownBy W (some R)) (hR : R < w.heap.size) (hr : RdO W R s o) :
    RdO (((((((((W.setCell ⟨w.heap.size, 0, none⟩ v0).setCell ⟨w.heap.size, 1, none⟩ v1).setCell ⟨w.heap.size, 2, none⟩ v2).setCell ⟨w.heap.size, 3, none⟩ v3).setCell ⟨w.heap.size, 4, none⟩ v4).setCell ⟨w.heap.size, 5, none⟩ v5).setCell ⟨w.heap.size, 6, none⟩ v6).setCell ⟨w.heap.size, 7, none⟩ v7).setCell ⟨w.heap.size, 8, none⟩ v8) R s o ∧
    w.grownBy (((((((((W.setCell ⟨w.heap.size, 0, none⟩ v0).setCell ⟨w.heap.size, 1, none⟩ v1).setCell ⟨w.heap.size, 2, none⟩ v2).setCell ⟨w.heap.size, 3, none⟩ v3).setCell ⟨w.heap.size, 4, none⟩ v4).setCell ⟨w.heap.size, 5, none⟩ v5).setCell ⟨w.heap.size, 6, none⟩ v6).setCell ⟨w.heap.size, 7, none⟩ v7).setCell ⟨w.heap.size, 8, none⟩ v8) (some R) :=
  have hb := set9_below W w.heap.size w.heap.size v0 v1 v2 v3 v4 v5 v6 v7 v8 (Nat.le_refl _)
  ⟨hr.belowAt hR hb, gb_more hg (Nat.le_refl _) hb⟩
def numO (s : List UInt8) (i : Nat) (t : Tm) (o' : Option Nat) : Prop :=
  (okNum 0 999999 (word s i) = true ∧ t = leaf 2 E0 (rd (word s i)) ∧ o' = some (i + (word s i).length)) ∨ (okNum 0 999999 (word s i) = false ∧ t = leaf 2 E0 0 ∧ o' = none)
set_option maxRecDepth 100000 in
set_option maxHeartbeats 1000000 in
theorem numO_any {R : Nat} {s : ByteArray} {i : Nat} {w : World} (hs : s.size ≤ 1073741824) (hi : i ≤ s.size) (hr : Rd w R s i false) :
    Calls Tryz.prog 75 #[.pointer (some ⟨R, 0, none⟩)] w fun e w' => ∃ t o', e = .returned (leafV t.kind t.name t.n) ∧ numO s.data.toList i t o' ∧ RdO w' R s o' ∧ w.grownBy w' (some R) := by
  have hle := word_le (s := s.data.toList) (i := i) (by simpa using hi)
  have hle2 : i + (word s.data.toList i).length ≤ s.size := by simpa using hle
  have hlt := hr.lt
  obtain ⟨w0, hw0, hs0, hb0, r0⟩ := box_new w zeroC 29
  have HS := Lib.hid (And.intro hlt (And.intro hb0 r0))
  have hr0 : Rd w0 R s i false := (hb0.block _ hlt).trans hr
  have HW := Lib.hid (wordS_any R s i false w0 hs hi hr0)
  have HL := Lib.hid hle2
  have HN := Lib.hid (fun W => specNumber_any (bx (word s.data.toList i)) W (by have : (bx (word s.data.toList i)).size = (word s.data.toList i).length := bsz _; unfold maxLen; omega))
  clear hr hle hle2 hi hr0 hb0 r0 hlt hs0
  go_enter Tryz.func75, Tryz.ntmps75
  go_wp2_with fail
  refine HW.out.mono ?_
  rintro e w1 ⟨rfl, hr1, hg1⟩
  have HR1 := Lib.hid hr1
  have HG1 := Lib.hid hg1
  clear hr1 hg1
  go_wp2_with fail
  refine (HN.out w1).mono ?_
  rintro e w2 ⟨rfl, hb2⟩
  have hr2 : Rd w2 R s (i + (word s.data.toList i).length) false := (hb2.block _ HR1.out.lt).trans HR1.out
  obtain ⟨c0, c1, c2, z1, z2⟩ := hr2.cells
  have HR2 := Lib.hid hr2
  have HG2 := Lib.hid (gb_more HG1.out HG1.out.size hb2)
  have hnum : numOut 0 999999 (bx (word s.data.toList i)).data.toList = if okNum 0 999999 (word s.data.toList i) then .tuple #[.int .i64 (rd (word s.data.toList i)), .bool true] else .tuple #[.int .i64 0, .bool false] := rfl
  rw [hnum]
  clear hnum hr2 hb2
  obtain ⟨b, hb⟩ : ∃ b, okNum 0 999999 (word s.data.toList i) = b := ⟨_, rfl⟩
  rw [hb]
  have HB := Lib.hid hb
  clear hb
  cases b
  · have HI := Lib.hid (fun W => l5Int_any 0 W)
    have hx := HR2.out.set true
    have HX := Lib.hid hx
    obtain ⟨d0, d1, d2, y1, y2⟩ := hx.1.cells
    clear hx
    simp only [Bool.false_eq_true, if_false]
    go_wp2_with fail
    refine (HI.out _).mono ?_
    rintro e w3 ⟨rfl, hb3⟩
    have hg3 := gb_more (grownBy_trans HG2.out HX.out.2) (grownBy_trans HG2.out HX.out.2).size hb3
    have ho3 := (hg3.block w.heap.size (Array.getElem?_eq_some_iff.1 HS.out.2.2).1 (fun e => by have := Option.some.inj e; have := HS.out.1; omega)).trans HS.out.2.2
    have r0 := cell_of_blk ho3 0
    have r1 := cell_of_blk ho3 1
    have r2 := cell_of_blk ho3 2
    have r3 := cell_of_blk ho3 3
    have r4 := cell_of_blk ho3 4
    have r5 := cell_of_blk ho3 5
    have r6 := cell_of_blk ho3 6
    have r7 := cell_of_blk ho3 7
    have r8 := cell_of_blk ho3 8
    have rz := unfrozen_of_blk ho3
    simp only [List.getElem?_toArray, List.getElem?_cons_zero, List.getElem?_cons_succ] at r0 r1 r2 r3 r4 r5 r6 r7 r8
    have HG3 := Lib.hid (grownBy_trans (gb_below HS.out.2.1 (some R)) hg3)
    have HR3 : Hid (RdO w3 R s none) := Lib.hid ⟨_, HL.out, (hb3.block _ HX.out.1.lt).trans HX.out.1⟩
    clear hg3 ho3 hb3 c0 c1 c2 z1 z2 d0 d1 d2 y1 y2
    go_wp2_with fail
    refine bodyPost_ret (v := leafV 2 E0 0) ?_ rfl ?_
    · rw [results_cell1 rfl]
      go_simp
    · obtain ⟨x1, x2⟩ := set9_out (.int .i64 2) (.string E0) (.string E0) (.int .i64 0) (.int .i64 0) (.slice none 0 0) (.int .i64 0) (.slice none 0 0) (.slice none 0 0) HG3.out HS.out.1 HR3.out
      exact ⟨leaf 2 E0 0, none, rfl, Or.inr ⟨HB.out, rfl, rfl⟩, x1, x2⟩
  · have HI := Lib.hid (fun W => l5Int_any (rd (word s.data.toList i)) W)
    have hx := HR2.out.set false
    have HX := Lib.hid hx
    obtain ⟨d0, d1, d2, y1, y2⟩ := hx.1.cells
    clear hx
    simp only [if_true]
    go_wp2_with fail
    refine (HI.out _).mono ?_
    rintro e w3 ⟨rfl, hb3⟩
    have hg3 := gb_more (grownBy_trans HG2.out HX.out.2) (grownBy_trans HG2.out HX.out.2).size hb3
    have ho3 := (hg3.block w.heap.size (Array.getElem?_eq_some_iff.1 HS.out.2.2).1 (fun e => by have := Option.some.inj e; have := HS.out.1; omega)).trans HS.out.2.2
    have r0 := cell_of_blk ho3 0
    have r1 := cell_of_blk ho3 1
    have r2 := cell_of_blk ho3 2
    have r3 := cell_of_blk ho3 3
    have r4 := cell_of_blk ho3 4
    have r5 := cell_of_blk ho3 5
    have r6 := cell_of_blk ho3 6
    have r7 := cell_of_blk ho3 7
    have r8 := cell_of_blk ho3 8
    have rz := unfrozen_of_blk ho3
    simp only [List.getElem?_toArray, List.getElem?_cons_zero, List.getElem?_cons_succ] at r0 r1 r2 r3 r4 r5 r6 r7 r8
    have HG3 := Lib.hid (grownBy_trans (gb_below HS.out.2.1 (some R)) hg3)
    have HR3 : Hid (RdO w3 R s (some (i + (word s.data.toList i).length))) := Lib.hid ⟨HL.out, (hb3.block _ HX.out.1.lt).trans HX.out.1⟩
    clear hg3 ho3 hb3 c0 c1 c2 z1 z2 d0 d1 d2 y1 y2
    go_wp2_with fail
    refine bodyPost_ret (v := leafV 2 E0 (rd (word s.data.toList i))) ?_ rfl ?_
    · rw [results_cell1 rfl]
      go_simp
    · obtain ⟨x1, x2⟩ := set9_out (.int .i64 2) (.string E0) (.string E0) (.int .i64 (rd (word s.data.toList i))) (.int .i64 0) (.slice none 0 0) (.int .i64 0) (.slice none 0 0) (.slice none 0 0) HG3.out HS.out.1 HR3.out
      exact ⟨leaf 2 E0 (rd (word s.data.toList i)), (some (i + (word s.data.toList i).length)), rfl, Or.inl ⟨HB.out, rfl, rfl⟩, x1, x2⟩
end Go.Proofs.YtjobmgbchpoheaaGreatDoor
namespace Go.Proofs.YtjobmgbchpoheaaGreatDoor
open Go Go.RowKit
structure Box (w : World) (b bx : Nat) (W : World) (t : Ty) (s : Value) : Prop where
  rdy : Rdy w b W
  box : W.heap[bx]? = some (.cells #[.int .i64 t.kind, s] 26 (0, 0))
  ts : TS W (fun z => w.heap.size + 1 ≤ z ∧ z ≠ bx) t.args s
  lt : w.heap.size + 1 ≤ bx
def BentT (b : Nat) (w : World) (e : Ending) (w' : World) : Prop := ∃ v t, e = .returned v ∧ t.nodes ≤ 200 ∧ TT w' (fun z => w.heap.size ≤ z) t v ∧ Cur w' b ∧ w.grownBy w' (some b)
end Go.Proofs.YtjobmgbchpoheaaGreatDoor
namespace Go.Proofs.YtjobmgbchpoheaaGreatDoor
open Go Go.RowKit

abbrev InBox (w : World) (bx : Nat) : Nat → Prop := fun z => w.heap.size + 1 ≤ z ∧ z ≠ bx
structure BoxM (w : World) (b bx : Nat) (W : World) (t : Tm) (tp : Option Addr) (tc : Nat) (rp : Option Addr) (rc : Nat) (p : Option Addr) (c : Nat) (xs : List Value) : Prop where
  rdy : RdyM w b W
  box : W.heap[bx]? = some (.cells (tmC t tp tc rp rc p c) 29 (0, 0))
  new : NewTm W (w.heap.size + 1) (InBox w bx) t tp tc rp rc p c xs
  lt : w.heap.size + 1 ≤ bx

section
variable {w W W' : World} {b bx : Nat} {t : Tm} {k n : Int} {a o : ByteArray} {ty res : Ty} {ts : List Tm} {tp rp p : Option Addr} {tc rc c : Nat} {xs : List Value}
end
def DrawM (m b : Nat) (w : World) (e : Ending) (w' : World) : Prop := ∃ (t : Tm) (tp : Option Addr) (tc : Nat) (rp : Option Addr) (rc : Nat) (p : Option Addr) (c : Nat) (xs : List Value),
  e = .returned (tmV t tp tc rp rc p c) ∧ t.wt ≤ m ∧ NewTm w' w.heap.size (fun z => w.heap.size ≤ z) t tp tc rp rc p c xs ∧ Cur w' b ∧ w.grownBy w' (some b)
end Go.Proofs.YtjobmgbchpoheaaGreatDoor
namespace Go.Proofs.YtjobmgbchpoheaaGreatDoor
open Go Go.RowKit

abbrev InR (C : Nat → Prop) (bx rb : Nat) : Nat → Prop := fun z => C z ∧ z ≠ bx ∧ z ≠ rb
structure BoxR (wb : World) (C : Nat → Prop) (R : Nat) (s : ByteArray) (bx rb : Nat) (o : Option Nat) (W : World) (t : Tm) (tp : Option Addr) (tc : Nat) (rp : Option Addr) (rc : Nat) (p : Option Addr) (c : Nat) (xs : List Value) : Prop where
  rd : RdO W R s o
  grown : wb.grownBy W (some R)
  out : W.heap[rb]? = some (.cells zeroC 29 (0, 0))
  box : W.heap[bx]? = some (.cells (tmC t tp tc rp rc p c) 29 (0, 0))
  new : NewTm W wb.heap.size (InR C bx rb) t tp tc rp rc p c xs
  hR : R < wb.heap.size
  hCR : ∀ z, C z → z ≠ R
  hCb : ∀ z, wb.heap.size ≤ z → C z
  hb : wb.heap.size ≤ bx
  hr : wb.heap.size ≤ rb
  ne : bx ≠ rb

section
variable {wb W W' : World} {C : Nat → Prop} {R bx rb : Nat} {s : ByteArray} {q q' : Option Nat} {t : Tm} {k n : Int} {a o : ByteArray} {ty res : Ty} {ts : List Tm} {tp rp p : Option Addr} {tc rc c : Nat} {xs : List Value}
theorem BoxR.bxlt (h : BoxR wb C R s bx rb q W t tp tc rp rc p c xs) : bx < W.heap.size := (Array.getElem?_eq_some_iff.1 h.box).1
theorem BoxR.rblt (h : BoxR wb C R s bx rb q W t tp tc rp rc p c xs) : rb < W.heap.size := (Array.getElem?_eq_some_iff.1 h.out).1
theorem BoxR.step (h : BoxR wb C R s bx rb q W t tp tc rp rc p c xs) (hr : RdO W' R s q') (hg : W.grownBy W' (some R)) : BoxR wb C R s bx rb q' W' t tp tc rp rc p c xs := by
  have hR := h.hR
  have hCR := h.hCR
  have hb := h.hb
  have hr' := h.hr
  exact ⟨hr, grownBy_trans h.grown hg, (hg.block _ h.rblt (fun e => by have := Option.some.inj e; omega)).trans h.out, (hg.block _ h.bxlt (fun e => by have := Option.some.inj e; omega)).trans h.box,
    h.new.stays ⟨hg.size, fun z hz hl => hg.block z hl (fun e => hCR z hz.1 (Option.some.inj e))⟩, h.hR, h.hCR, h.hCb, h.hb, h.hr, h.ne⟩
theorem inr_stays (i : Nat) (v : Value) : Stays (InR C bx rb) W (W.setCell ⟨bx, i, none⟩ v) := setCell_stays _ _ _ _ _ (by simp)
theorem BoxR.app {g cap : Nat} {x : Tm} {us : List Value} (h : BoxR wb C R s bx rb q W (.mk k a o n ty res ts) tp tc rp rc p c xs)
    (hA : Appd W W' wb.heap.size 29 9 (.slice p ts.length c) ts.length xs us g cap) (hx : MS W (fun z => InR C bx rb z ∧ (Value.slice p ts.length c).ownBlock ≠ some z) x.ds us) :
    BoxR wb C R s bx rb q (W'.setCell ⟨bx, 8, none⟩ (.slice (some ⟨g, 0, none⟩) (ts.length + 1) cap)) (.mk k a o n ty res (ts ++ [x])) tp tc rp rc (some ⟨g, 0, none⟩) cap (xs ++ us) := by
  have hR := h.hR
  have hCR := h.hCR
  have hb := h.hb
  have hr' := h.hr
  have hob : (Value.slice p ts.length c).ownBlock ≠ some bx := fun e => (h.new.row.blk _ e).2.1 rfl
  have hor : (Value.slice p ts.length c).ownBlock ≠ some rb := fun e => (h.new.row.blk _ e).2.2 rfl
  have hkb := hA.kept bx h.bxlt hob
  have hkr := hA.kept rb h.rblt hor
  have hblk := hkb.1.trans h.box
  have hbs : Below wb.heap.size W' (W'.setCell ⟨bx, 8, none⟩ (.slice (some ⟨g, 0, none⟩) (ts.length + 1) cap)) := (Below.refl _ W').setCell (p := ⟨bx, 8, none⟩) hb _
  have hbl := hA.below.trans hbs
  have hgb : InR C bx rb g := ⟨h.hCb g (hA.own.lt g rfl).1, hkb.2, hkr.2⟩
  have go : ∀ {us : List Ty} {v : Value}, TS W (fun z => InR C bx rb z ∧ (Value.slice p ts.length c).ownBlock ≠ some z) us v → TS (W'.setCell ⟨bx, 8, none⟩ (.slice (some ⟨g, 0, none⟩) (ts.length + 1) cap)) (fun z => InR C bx rb z ∧ (Value.slice (some ⟨g, 0, none⟩) (ts.length + 1) cap).ownBlock ≠ some z) us v := fun {us v} hd => by
    refine (((hd.mono (C' := fun z => (InR C bx rb z ∧ (Value.slice p ts.length c).ownBlock ≠ some z) ∧ z < W.heap.size) (fun _ hz hl => ⟨hz, hl⟩)).stays (w' := W') ⟨hA.size, fun z hz hl => (hA.kept z hl hz.1.2).1⟩).stays (setCell_stays _ _ _ _ _ (fun hz => hz.1.1.2.1 rfl))).mono (fun z hz _ => ⟨hz.1.1, fun e => ?_⟩)
    have := (hA.kept z hz.2 hz.1.2).2
    simp [Value.ownBlock] at e
    omega
  have hrow := (h.new.row.app hA hgb hx).stays (inr_stays 8 (.slice (some ⟨g, 0, none⟩) (ts.length + 1) cap))
  have e1 : (ts ++ [x]).length = ts.length + 1 := by simp
  refine ⟨h.rd.belowAt hR hbl, gb_more h.grown (Nat.le_refl _) hbl, ?_, ?_, ⟨?_, ?_, ?_⟩, h.hR, h.hCR, h.hCb, h.hb, h.hr, h.ne⟩
  · rw [heap_setCell_other W' ⟨bx, 8, none⟩ rb _ h.ne.symm]
    exact hkr.1.trans h.out
  · rw [Go.Joins.block_setCell hblk _]
    show _ = some (Obj.cells (tmC (.mk k a o n ty res (ts ++ [x])) tp tc rp rc (some ⟨g, 0, none⟩) cap) _ _)
    simp only [tmC, Tm.args, e1]
    rfl
  · show TS _ (fun z => _ ∧ (Value.slice _ (ts ++ [x]).length _).ownBlock ≠ _) _ _
    rw [e1]; exact go h.new.ty
  · show TS _ (fun z => _ ∧ (Value.slice _ (ts ++ [x]).length _).ownBlock ≠ _) _ _
    rw [e1]; exact go h.new.res
  · show RowM _ _ _ (.slice _ (ts ++ [x]).length _) _ _
    rw [e1]; exact hrow
end
def termO (f : Nat → Option (Tm × Nat)) : Option Nat → Tm → Option Nat → Prop
  | some i, t, o' => (∃ j, f i = some (t, j) ∧ o' = some j) ∨ (f i = none ∧ o' = none)
  | none, _, o' => o' = none
def argsO (f : Nat → Option (Tm × Nat)) (s : List UInt8) : Nat → Option Nat → List Tm → Option Nat → Prop
  | 0, o, ts, o' => ts = [] ∧ o' = o
  | m + 1, o, ts, o' => ∃ ts0 o0 t, argsO f s m o ts0 o0 ∧ o0 ≠ none ∧ termO f (if m = 0 then o0 else mustO [32] s o0) t o' ∧ ts = ts0 ++ [t]
theorem argsO_len {f : Nat → Option (Tm × Nat)} {s : List UInt8} : ∀ {m : Nat} {o : Option Nat} {ts : List Tm} {o' : Option Nat}, argsO f s m o ts o' → ts.length = m
  | 0, _, _, _, h => by rw [h.1]; rfl
  | m + 1, _, _, _, h => by
    obtain ⟨ts0, o0, t, h0, _, _, rfl⟩ := h
    rw [List.length_append, argsO_len h0]
    rfl
def TermRet (f : Nat → Option (Tm × Nat)) (R : Nat) (s : ByteArray) (o : Option Nat) (w : World) (e : Ending) (w' : World) : Prop :=
  ∃ v t o', e = .returned v ∧ TM w' (fun z => w.heap.size ≤ z) t v ∧ termO f o t o' ∧ RdO w' R s o' ∧ w.grownBy w' (some R)
def TermIs (f : Nat → Option (Tm × Nat)) (R : Nat) (s : ByteArray) (D : Int) : Prop := ∀ (o : Option Nat) (W : World), RdO W R s o →
  Calls Tryz.prog 37 #[.pointer (some ⟨R, 0, none⟩), .int .i64 D] W (TermRet f R s o W)
def ArgsRet (f : Nat → Option (Tm × Nat)) (R : Nat) (s : ByteArray) (N : Nat) (e0 : Tm) (o : Option Nat) (wb : World) (C : Nat → Prop) (e : Ending) (w' : World) : Prop :=
  ∃ m ts o1 tp tc rp rc p c xs, m ≤ N ∧ (m = N ∨ o1 = none) ∧ argsO f s.data.toList m o ts o1 ∧ e = .returned (tmV (withM e0 (e0.args ++ ts)) tp tc rp rc p c) ∧
    NewTm w' wb.heap.size C (withM e0 (e0.args ++ ts)) tp tc rp rc p c xs ∧ RdO w' R s (mustO [41] s.data.toList o1) ∧ wb.grownBy w' (some R)
end Go.Proofs.YtjobmgbchpoheaaGreatDoor
namespace Go.Proofs.YtjobmgbchpoheaaGreatDoor
open Go Go.RowKit

theorem rdo_drewN {W : World} {R : Nat} {s : ByteArray} {o : Option Nat} (h : RdO W R s o) (k : Nat) : RdO (W.drewN k) R s o := by
  cases o with
  | none => exact h
  | some i => exact h
theorem rdo_drew {W : World} {R : Nat} {s : ByteArray} {o : Option Nat} (h : RdO W R s o) : RdO W.drew R s o := by
  cases o with
  | none => exact h
  | some i => exact h
theorem args_fin {wb W : World} {C : Nat → Prop} {R bx rb : Nat} {s : ByteArray} {q : Option Nat} {t : Tm} {tp rp p : Option Addr} {tc rc c : Nat} {xs : List Value} (h : BoxR wb C R s bx rb q W t tp tc rp rc p c xs) :
    NewTm (((((((((W.setCell ⟨rb, 0, none⟩ (.int .i64 t.kind)).setCell ⟨rb, 1, none⟩ (.string t.name)).setCell ⟨rb, 2, none⟩ (.string t.other)).setCell ⟨rb, 3, none⟩ (.int .i64 t.n)).setCell ⟨rb, 4, none⟩ (.int .i64 t.ty.kind)).setCell ⟨rb, 5, none⟩ (.slice tp t.ty.args.length tc)).setCell ⟨rb, 6, none⟩ (.int .i64 t.res.kind)).setCell ⟨rb, 7, none⟩ (.slice rp t.res.args.length rc)).setCell ⟨rb, 8, none⟩ (.slice p t.args.length c)) wb.heap.size C t tp tc rp rc p c xs ∧ RdO (((((((((W.setCell ⟨rb, 0, none⟩ (.int .i64 t.kind)).setCell ⟨rb, 1, none⟩ (.string t.name)).setCell ⟨rb, 2, none⟩ (.string t.other)).setCell ⟨rb, 3, none⟩ (.int .i64 t.n)).setCell ⟨rb, 4, none⟩ (.int .i64 t.ty.kind)).setCell ⟨rb, 5, none⟩ (.slice tp t.ty.args.length tc)).setCell ⟨rb, 6, none⟩ (.int .i64 t.res.kind)).setCell ⟨rb, 7, none⟩ (.slice rp t.res.args.length rc)).setCell ⟨rb, 8, none⟩ (.slice p t.args.length c)) R s q ∧ wb.grownBy (((((((((W.setCell ⟨rb, 0, none⟩ (.int .i64 t.kind)).setCell ⟨rb, 1, none⟩ (.string t.name)).setCell ⟨rb, 2, none⟩ (.string t.other)).setCell ⟨rb, 3, none⟩ (.int .i64 t.n)).setCell ⟨rb, 4, none⟩ (.int .i64 t.ty.kind)).setCell ⟨rb, 5, none⟩ (.slice tp t.ty.args.length tc)).setCell ⟨rb, 6, none⟩ (.int .i64 t.res.kind)).setCell ⟨rb, 7, none⟩ (.slice rp t.res.args.length rc)).setCell ⟨rb, 8, none⟩ (.slice p t.args.length c)) (some R) := by
  have hb := set9_below W rb rb (.int .i64 t.kind) (.string t.name) (.string t.other) (.int .i64 t.n) (.int .i64 t.ty.kind) (.slice tp t.ty.args.length tc) (.int .i64 t.res.kind) (.slice rp t.res.args.length rc) (.slice p t.args.length c) (Nat.le_refl _)
  have hst := set9_stays W rb (.int .i64 t.kind) (.string t.name) (.string t.other) (.int .i64 t.n) (.int .i64 t.ty.kind) (.slice tp t.ty.args.length tc) (.int .i64 t.res.kind) (.slice rp t.res.args.length rc) (.slice p t.args.length c) (InR C bx rb) (fun h => h.2.2 rfl)
  have hR := h.hR
  have hr := h.hr
  exact ⟨(h.new.stays hst).base (Nat.le_refl _) (fun z hz _ => hz.1), h.rd.belowAt (by omega) hb, gb_more h.grown hr hb⟩
set_option maxRecDepth 100000 in
set_option maxHeartbeats 6000000 in
theorem l6Args_any {f : Nat → Option (Tm × Nat)} {R : Nat} {s : ByteArray} {D : Int} (hT : TermIs f R s D) (hs : s.size ≤ 1073741824) (N : Nat) (hN : N ≤ 3) (kk : Int) (a o : ByteArray) (n : Int) (ty res : Ty) (es : List Tm) (he : es.length ≤ 1) (tp : Option Addr) (tc : Nat) (rp : Option Addr) (rc : Nat) (p : Option Addr) (c : Nat) (xs : List Value) (wb w : World) (q : Option Nat)
    (hr : RdO w R s q) (hg : wb.grownBy w (some R)) (C : Nat → Prop) (hRb : R < wb.heap.size) (hCR : ∀ z, C z → z ≠ R) (hCb : ∀ z, wb.heap.size ≤ z → C z) (hn : NewTm w wb.heap.size C (.mk kk a o n ty res es) tp tc rp rc p c xs) :
    Calls Tryz.prog 116 #[.pointer (some ⟨R, 0, none⟩), tmV (.mk kk a o n ty res es) tp tc rp rc p c, .int .i64 N, .int .i64 D] w (ArgsRet f R s N (.mk kk a o n ty res es) q wb C) := by
  obtain ⟨i0, hi, hz0, hz1, hz2⟩ := info_parts infoTm
  obtain ⟨w0, hw0, hs0, hb0, r0, r1⟩ := box_new2 w (tmC (.mk kk a o n ty res es) tp tc rp rc p c) zeroC 29 29
  have hwz := hg.size
  have hB0 : BoxR wb C R s w.heap.size (w.heap.size + 1) q w0 (.mk kk a o n ty res es) tp tc rp rc p c xs :=
    ⟨hr.below hb0, gb_more hg hwz hb0, r1, r0, (hn.base (Nat.le_refl _) (fun z hz hl => ⟨hz, by omega, by omega⟩)).stays (.of_below (hb0.mono (by omega))) , hRb, hCR, hCb, hwz, by omega, by omega⟩
  have HB0 := Lib.hid hB0
  have HT := Lib.hid hT
  clear hB0 hb0 r0 r1 hs0 hr hg hn hT hwz hCR hCb
  go_enter Tryz.func116, Tryz.ntmps116
  go_wp2_with fail
  go_loopw [9] (fun v wr => ∃ m ts us o1 p c xs, m ≤ N ∧ v = .int .i64 (m : Nat) ∧ argsO f s.data.toList m q ts o1 ∧ us = es ++ ts ∧ BoxR wb C R s w.heap.size (w.heap.size + 1) o1 wr (.mk kk a o n ty res us) tp tc rp rc p c xs) (fun v _ => N - (intOf v).toNat)
  case atStart => exact ⟨0, [], es, q, p, c, xs, Nat.zero_le _, rfl, ⟨rfl, rfl⟩, by rw [List.append_nil], HB0.out⟩
  case round =>
    obtain ⟨m, ts, us, o1, p, c, xs, hm, rfl, har, hus, hB⟩ := hrel
    have hlen := argsO_len har
    have hl4 : us.length ≤ 4 := by rw [hus, List.length_append]; omega
    have HUS := Lib.hid hus
    have HL4 := Lib.hid hlen
    have HAR := Lib.hid har
    have HB := Lib.hid hB
    have j0 : (0 : Int) ≤ (m : Int) := Int.natCast_nonneg _
    clear har hlen hus
    by_cases hgo : m < N ∧ o1 ≠ none
    · obtain ⟨hlt, hno⟩ := hgo
      obtain ⟨i, rfl⟩ : ∃ i, o1 = some i := by
        cases o1 with
        | none => exact absurd rfl hno
        | some i => exact ⟨i, rfl⟩
      obtain ⟨c0, c1, c2, z1, z2⟩ := hB.rd.2.cells
      have hd : decide ((m : Int) < (N : Int)) = true := decide_eq_true (by omega)
      clear hB hno
      by_cases hm0 : m = 0
      · have HOSTEP := Lib.hid (fun t o' (h : termO f (some i) t o') => show termO f (if m = 0 then some i else mustO [32] s.data.toList (some i)) t o' by rw [if_pos hm0]; exact h)
        have hgt : decide (0 < m) = false := decide_eq_false (by omega)
        have HB2 := Lib.hid HB.out
        clear hm0
        have hB2d : BoxR wb C R s w.heap.size (w.heap.size + 1) (some i) wr.drew (.mk kk a o n ty res us) tp tc rp rc p c xs := HB2.out.step (rdo_drew HB2.out.rd) (gb_drew (grown_refl _ _))
        have HB2D := Lib.hid hB2d
        have hcall := HT.out (some i) wr.drew hB2d.rd
        have HC := Lib.hid hcall
        have d8 := cell_of_blk HB2.out.box 8
        simp only [tmC, List.getElem?_toArray, List.getElem?_cons_zero, List.getElem?_cons_succ, Tm.args] at d8
        have dz := unfrozen_of_blk HB2.out.box
        clear hB2d hcall
        go_wp2_with fail
        go_region_law (first
          | (refine step_app1 (w0 := w6) (v := .slice p us.length c) (n := us.length) (xs := xs) rfl (.tmp 27) (.tmp 31) rfl Tryz.underlying27 hi hz0 hz1 hz2 rfl (by decide) rfl HB6.out.new.row.own _ rfl (by simp) rfl (fun u hu => by simp at hu; rcases hu with rfl | rfl | rfl | rfl | rfl | rfl | rfl | rfl | rfl <;> rfl) (by unfold maxLen; omega) (by omega) (by have := HB6.out.bxlt; have := HB6.out.hb; omega) ?_; intro w' g2' cap2 hA; have d6b := (hA.kept w.heap.size HB6.out.bxlt (fun e => (HB6.out.new.row.blk _ e).2.1 rfl)).1.trans HB6.out.box; have d6 : w'.cell? ⟨w.heap.size, 8, none⟩ = some (.slice p us.length c) := cell_of_blk d6b 8; have d6z := unfrozen_of_blk d6b)
          | (go_simp; go_at_call 37; refine HC.out.mono ?_; rintro e w6 ⟨v6, t6, o6, rfl, ⟨tp6, tc6, rp6, rc6, p6, c6, rfl, hN6⟩, ho6, hr6, hg6⟩; have hb6 := HB2D.out.step hr6 hg6; have HB6 := Lib.hid hb6; have HO6 := Lib.hid ho6; have d4 : w6.cell? ⟨w.heap.size, 8, none⟩ = some (.slice p us.length c) := cell_of_blk hb6.box 8; have d4z := unfrozen_of_blk hb6.box; have d5 := fun (o : Obj) => al_cell d4 o; clear hb6 ho6 hr6))
        all_goals
          have hown : ∀ z, wr.drew.heap.size ≤ z → (Value.slice p us.length c).ownBlock ≠ some z := fun z hz e => by
            have := (HB2D.out.new.row.own.lt z e).2
            omega
          have hx := (hN6.mono (C' := fun z => InR C w.heap.size (w.heap.size + 1) z ∧ (Value.slice p us.length c).ownBlock ≠ some z) (fun z hz _ => ⟨⟨HB2D.out.hCb z (by have := HB2D.out.bxlt; have := HB2D.out.hb; omega), by have := HB2D.out.bxlt; omega, by have := HB2D.out.rblt; omega⟩, hown z hz⟩)).ms
          have HBZ := Lib.hid (HB6.out.app hA hx)
          have HAZ := Lib.hid (show argsO f s.data.toList (m + 1) q (ts ++ [t6]) o6 from ⟨ts, _, t6, HAR.out, by simp, (HOSTEP.out _ _ HO6.out), rfl⟩)
          clear hx hown hA hN6 hg6 d4 d4z d5 d6b d6 d6z d8 dz
          go_wp2_with fail
          go_roundw
          case rel => exact ⟨m + 1, ts ++ [t6], us ++ [t6], o6, some ⟨g2', 0, none⟩, cap2, _, by omega, by go_num, HAZ.out, by rw [HUS.out, List.append_assoc], HBZ.out⟩
          case measure => simp [intOf]; omega
      · have HOSTEP := Lib.hid (fun t o' (h : termO f (mustO [32] s.data.toList (some i)) t o') => show termO f (if m = 0 then some i else mustO [32] s.data.toList (some i)) t o' by rw [if_neg hm0]; exact h)
        have hgt : decide (0 < m) = true := decide_eq_true (by omega)
        have HQ := Lib.hid (mustO_any (o := some i) [32] (by decide) hs HB.out.rd)
        clear hm0
        go_wp2_with fail
        refine HQ.out.mono ?_
        rintro e w2 ⟨rfl, hr2, hg2⟩
        have HB2 := Lib.hid (HB.out.step hr2 hg2)
        clear hr2 hg2 c0 c1 c2 z1 z2
        have hB2d : BoxR wb C R s w.heap.size (w.heap.size + 1) (mustO [32] s.data.toList (some i)) w2.drew (.mk kk a o n ty res us) tp tc rp rc p c xs := HB2.out.step (rdo_drew HB2.out.rd) (gb_drew (grown_refl _ _))
        have HB2D := Lib.hid hB2d
        have hcall := HT.out (mustO [32] s.data.toList (some i)) w2.drew hB2d.rd
        have HC := Lib.hid hcall
        have d8 := cell_of_blk HB2.out.box 8
        simp only [tmC, List.getElem?_toArray, List.getElem?_cons_zero, List.getElem?_cons_succ, Tm.args] at d8
        have dz := unfrozen_of_blk HB2.out.box
        clear hB2d hcall
        go_wp2_with fail
        go_region_law (first
          | (refine step_app1 (w0 := w6) (v := .slice p us.length c) (n := us.length) (xs := xs) rfl (.tmp 27) (.tmp 31) rfl Tryz.underlying27 hi hz0 hz1 hz2 rfl (by decide) rfl HB6.out.new.row.own _ rfl (by simp) rfl (fun u hu => by simp at hu; rcases hu with rfl | rfl | rfl | rfl | rfl | rfl | rfl | rfl | rfl <;> rfl) (by unfold maxLen; omega) (by omega) (by have := HB6.out.bxlt; have := HB6.out.hb; omega) ?_; intro w' g2' cap2 hA; have d6b := (hA.kept w.heap.size HB6.out.bxlt (fun e => (HB6.out.new.row.blk _ e).2.1 rfl)).1.trans HB6.out.box; have d6 : w'.cell? ⟨w.heap.size, 8, none⟩ = some (.slice p us.length c) := cell_of_blk d6b 8; have d6z := unfrozen_of_blk d6b)
          | (go_simp; go_at_call 37; refine HC.out.mono ?_; rintro e w6 ⟨v6, t6, o6, rfl, ⟨tp6, tc6, rp6, rc6, p6, c6, rfl, hN6⟩, ho6, hr6, hg6⟩; have hb6 := HB2D.out.step hr6 hg6; have HB6 := Lib.hid hb6; have HO6 := Lib.hid ho6; have d4 : w6.cell? ⟨w.heap.size, 8, none⟩ = some (.slice p us.length c) := cell_of_blk hb6.box 8; have d4z := unfrozen_of_blk hb6.box; have d5 := fun (o : Obj) => al_cell d4 o; clear hb6 ho6 hr6))
        all_goals
          have hown : ∀ z, w2.drew.heap.size ≤ z → (Value.slice p us.length c).ownBlock ≠ some z := fun z hz e => by
            have := (HB2D.out.new.row.own.lt z e).2
            omega
          have hx := (hN6.mono (C' := fun z => InR C w.heap.size (w.heap.size + 1) z ∧ (Value.slice p us.length c).ownBlock ≠ some z) (fun z hz _ => ⟨⟨HB2D.out.hCb z (by have := HB2D.out.bxlt; have := HB2D.out.hb; omega), by have := HB2D.out.bxlt; omega, by have := HB2D.out.rblt; omega⟩, hown z hz⟩)).ms
          have HBZ := Lib.hid (HB6.out.app hA hx)
          have HAZ := Lib.hid (show argsO f s.data.toList (m + 1) q (ts ++ [t6]) o6 from ⟨ts, _, t6, HAR.out, by simp, (HOSTEP.out _ _ HO6.out), rfl⟩)
          clear hx hown hA hN6 hg6 d4 d4z d5 d6b d6 d6z d8 dz
          go_wp2_with fail
          go_roundw
          case rel => exact ⟨m + 1, ts ++ [t6], us ++ [t6], o6, some ⟨g2', 0, none⟩, cap2, _, by omega, by go_num, HAZ.out, by rw [HUS.out, List.append_assoc], HBZ.out⟩
          case measure => simp [intOf]; omega
    · have HEND := Lib.hid (show m = N ∨ o1 = none by
        by_cases h : o1 = none
        · exact Or.inr h
        · exact Or.inl (by have : ¬ m < N := fun h2 => hgo ⟨h2, h⟩; omega))
      obtain ⟨i, -, hrd⟩ := hB.rd.cells
      obtain ⟨c0, c1, c2, z1, z2⟩ := hrd.cells
      have HQ := Lib.hid (mustO_any (o := o1) [41] (by decide) hs hB.rd)
      have hd : decide (m < N) = false ∨ (decide (m < N) = true ∧ o1.isNone = true) := by
        by_cases h : m < N
        · refine Or.inr ⟨decide_eq_true (by omega), ?_⟩
          cases o1 with
          | none => rfl
          | some i => exact absurd ⟨h, by simp⟩ hgo
        · exact Or.inl (decide_eq_false (by omega))
      clear hB hgo hrd
      rcases hd with hd | ⟨hd, hbad⟩
      · go_wp2_with fail
        refine HQ.out.mono ?_
        rintro e w2 ⟨rfl, hr2, hg2⟩
        have hB2 := HB.out.step hr2 hg2
        have HB2 := Lib.hid hB2
        have g0 := cell_of_blk hB2.box 0
        have g1 := cell_of_blk hB2.box 1
        have g2 := cell_of_blk hB2.box 2
        have g3 := cell_of_blk hB2.box 3
        have g4 := cell_of_blk hB2.box 4
        have g5 := cell_of_blk hB2.box 5
        have g6 := cell_of_blk hB2.box 6
        have g7 := cell_of_blk hB2.box 7
        have g8 := cell_of_blk hB2.box 8
        have r0 := cell_of_blk hB2.out 0
        have r1 := cell_of_blk hB2.out 1
        have r2 := cell_of_blk hB2.out 2
        have r3 := cell_of_blk hB2.out 3
        have r4 := cell_of_blk hB2.out 4
        have r5 := cell_of_blk hB2.out 5
        have r6 := cell_of_blk hB2.out 6
        have r7 := cell_of_blk hB2.out 7
        have r8 := cell_of_blk hB2.out 8
        have rz := unfrozen_of_blk hB2.out
        simp only [tmC, List.getElem?_toArray, List.getElem?_cons_zero, List.getElem?_cons_succ, Tm.kind, Tm.name, Tm.other, Tm.n, Tm.ty, Tm.res, Tm.args] at g0 g1 g2 g3 g4 g5 g6 g7 g8 r0 r1 r2 r3 r4 r5 r6 r7 r8
        clear hB2 hr2 hg2 c0 c1 c2 z1 z2 hd
        go_wp2_with fail
        refine bodyPost_ret (v := tmV (.mk kk a o n ty res us) tp tc rp rc p c) ?_ rfl ?_
        · rw [results_cell1 rfl]
          go_simp
          all_goals (repeat' apply And.intro) <;> rfl
        · obtain ⟨x1, x2, x3⟩ := args_fin HB2.out
          rw [HUS.out] at x1 x2 x3 ⊢
          exact ⟨m, ts, o1, tp, tc, rp, rc, p, c, xs, hm, HEND.out, HAR.out, rfl, x1, x2, x3⟩
      · rw [hbad] at c2
        clear hbad
        go_wp2_with fail
        refine HQ.out.mono ?_
        rintro e w2 ⟨rfl, hr2, hg2⟩
        have hB2 := HB.out.step hr2 hg2
        have HB2 := Lib.hid hB2
        have g0 := cell_of_blk hB2.box 0
        have g1 := cell_of_blk hB2.box 1
        have g2 := cell_of_blk hB2.box 2
        have g3 := cell_of_blk hB2.box 3
        have g4 := cell_of_blk hB2.box 4
        have g5 := cell_of_blk hB2.box 5
        have g6 := cell_of_blk hB2.box 6
        have g7 := cell_of_blk hB2.box 7
        have g8 := cell_of_blk hB2.box 8
        have r0 := cell_of_blk hB2.out 0
        have r1 := cell_of_blk hB2.out 1
        have r2 := cell_of_blk hB2.out 2
        have r3 := cell_of_blk hB2.out 3
        have r4 := cell_of_blk hB2.out 4
        have r5 := cell_of_blk hB2.out 5
        have r6 := cell_of_blk hB2.out 6
        have r7 := cell_of_blk hB2.out 7
        have r8 := cell_of_blk hB2.out 8
        have rz := unfrozen_of_blk hB2.out
        simp only [tmC, List.getElem?_toArray, List.getElem?_cons_zero, List.getElem?_cons_succ, Tm.kind, Tm.name, Tm.other, Tm.n, Tm.ty, Tm.res, Tm.args] at g0 g1 g2 g3 g4 g5 g6 g7 g8 r0 r1 r2 r3 r4 r5 r6 r7 r8
        clear hB2 hr2 hg2 c0 c1 c2 z1 z2 hd
        go_wp2_with fail
        refine bodyPost_ret (v := tmV (.mk kk a o n ty res us) tp tc rp rc p c) ?_ rfl ?_
        · rw [results_cell1 rfl]
          go_simp
          all_goals (repeat' apply And.intro) <;> rfl
        · obtain ⟨x1, x2, x3⟩ := args_fin HB2.out
          rw [HUS.out] at x1 x2 x3 ⊢
          exact ⟨m, ts, o1, tp, tc, rp, rc, p, c, xs, hm, HEND.out, HAR.out, rfl, x1, x2, x3⟩
end Go.Proofs.YtjobmgbchpoheaaGreatDoor
