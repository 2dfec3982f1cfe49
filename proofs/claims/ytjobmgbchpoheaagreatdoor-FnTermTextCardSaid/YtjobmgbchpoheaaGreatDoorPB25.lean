/-
  Several texts of the proof in one (each says below what it holds): RdY DrawT4 TmBox RdB.
-/
import Derived.Test.YtjobmgbchpoheaaGreatDoorPB16
import Derived.Test.YtjobmgbchpoheaaGreatDoorPB18
import Derived.Test.YtjobmgbchpoheaaGreatDoorPB15
import Derived.Test.YtjobmgbchpoheaaGreatDoorPB13
import Derived.Test.YtjobmgbchpoheaaGreatDoorPB24
namespace Go.Proofs.YtjobmgbchpoheaaGreatDoor
open Go Go.RowKit

def typO (s : List UInt8) : Option Nat → Ty → Option Nat → Prop
  | some i, t, o' => (∃ j, pty s 8 i = some (t, j) ∧ o' = some j) ∨ (pty s 8 i = none ∧ o' = none)
  | none, _, o' => o' = none
set_option maxRecDepth 100000 in
set_option maxHeartbeats 1000000 in
theorem typ_bad (D : Int) (R : Nat) (s : ByteArray) (i : Nat) (w : World) (hr : Rd w R s i true) :
    Calls Tryz.prog 115 #[.pointer (some ⟨R, 0, none⟩), .int .i64 D] w fun e w' => e = .returned (.agg #[.int .i64 0, .slice none 0 0]) ∧ Rd w' R s i true ∧ w.grownBy w' (some R) := by
  have hlt := hr.lt
  obtain ⟨w0, hw0, hs0, hb0, r0⟩ := box_new w #[.int .i64 0, .slice none 0 0] 26
  have hr0 : Rd w0 R s i true := (hb0.block _ hlt).trans hr
  obtain ⟨c0, c1, c2, z1, z2⟩ := hr0.cells
  obtain ⟨h1, h2⟩ := hr0.set true
  obtain ⟨w1, hw1⟩ : ∃ w1, w0.setCell ⟨R, 2, none⟩ (.bool true) = w1 := ⟨_, rfl⟩
  rw [hw1] at h1 h2
  have hR1 := (h2.block w.heap.size (by omega) (fun e => by have := Option.some.inj e; omega)).trans r0
  obtain ⟨d0, d1, d2, y1, y2⟩ := h1.cells
  have g0 : w1.cell? ⟨w.heap.size, 0, none⟩ = some (.int .i64 0) := cell_of_blk hR1 0
  have g1 : w1.cell? ⟨w.heap.size, 1, none⟩ = some (.slice none 0 0) := cell_of_blk hR1 1
  have gz := unfrozen_of_blk hR1
  have HX := Lib.hid (And.intro h1 (And.intro (grownBy_trans (gb_below hb0 (some R)) h2) hlt))
  clear hr hr0 hb0 h1 h2 r0 hR1 hlt hs0
  go_enter Tryz.func115, Tryz.ntmps115
  go_wp2_with fail
  refine bodyPost_ret (v := .agg #[.int .i64 0, .slice none 0 0]) ?_ rfl ?_
  · rw [results_cell1 rfl]
    go_simp
  · obtain ⟨x1, x2, x3⟩ := HX.out
    have hbl : Below w.heap.size w1 ((w1.setCell ⟨w.heap.size, 0, none⟩ (.int .i64 0)).setCell ⟨w.heap.size, 1, none⟩ (.slice none 0 0)) := ((Below.refl _ w1).setCell (p := ⟨w.heap.size, 0, none⟩) (Nat.le_refl _) _).setCell (p := ⟨w.heap.size, 1, none⟩) (Nat.le_refl _) _
    exact ⟨rfl, (hbl.block _ x3).trans x1, gb_more x2 (Nat.le_refl _) hbl⟩
theorem typO_any {R : Nat} {s : ByteArray} {o : Option Nat} {w : World} (hs : s.size ≤ 1073741824) (hr : RdO w R s o) :
    Calls Tryz.prog 115 #[.pointer (some ⟨R, 0, none⟩), .int .i64 1] w fun e w' => ∃ v t o', e = .returned v ∧ TT w' (fun z => w.heap.size ≤ z) t v ∧ typO s.data.toList o t o' ∧ RdO w' R s o' ∧ w.grownBy w' (some R) := by
  cases o with
  | none =>
    obtain ⟨i, hi, h⟩ := hr
    refine (typ_bad 1 R s i w h).mono ?_
    rintro e w' ⟨rfl, h1, h2⟩
    exact ⟨_, .mk 0 [], none, rfl, ⟨_, rfl, .nil _ _⟩, rfl, ⟨i, hi, h1⟩, h2⟩
  | some i =>
    obtain ⟨hi, h⟩ := hr
    refine (typ_any R s hs 8 (Nat.le_refl _) i w hi h).mono ?_
    rintro e w' ⟨v, t, rfl, hT, hg, ho⟩
    rcases ho with ⟨j, hp, h1⟩ | ⟨hp, j, hj, h1⟩
    · have hle := (pty_good _ _ _ _ _ hp).le
      exact ⟨v, t, some j, rfl, hT, Or.inl ⟨j, hp, rfl⟩, ⟨by simpa using hle, h1⟩, hg⟩
    · exact ⟨v, t, none, rfl, hT, Or.inr ⟨hp, rfl⟩, ⟨j, hj, h1⟩, hg⟩
theorem RdO.belowAt {W W' : World} {R : Nat} {s : ByteArray} {o : Option Nat} {D : Nat} (h : RdO W R s o) (hR : R < D) (hb : Below D W W') : RdO W' R s o := by
  cases o with
  | none =>
    obtain ⟨i, hi, h⟩ := h
    exact ⟨i, hi, (hb.block _ hR).trans h⟩
  | some i => exact ⟨h.1, (hb.block _ hR).trans h.2⟩
theorem RdO.lt {W : World} {R : Nat} {s : ByteArray} {o : Option Nat} (h : RdO W R s o) : R < W.heap.size := by
  obtain ⟨i, _, h⟩ := h.cells
  exact h.lt
theorem RdO.below {W W' : World} {R : Nat} {s : ByteArray} {o : Option Nat} (h : RdO W R s o) (hb : Below W.heap.size W W') : RdO W' R s o := h.belowAt h.lt hb
theorem set9_out {w W : World} {R : Nat} {s : ByteArray} {o : Option Nat} (v0 v1 v2 v3 v4 v5 v6 v7 v8 : Value) (hg : w.grownBy W (some R)) (hR : R < w.heap.size) (hr : RdO W R s o) :
    RdO (((((((((W.setCell ⟨w.heap.size, 0, none⟩ v0).setCell ⟨w.heap.size, 1, none⟩ v1).setCell ⟨w.heap.size, 2, none⟩ v2).setCell ⟨w.heap.size, 3, none⟩ v3).setCell ⟨w.heap.size, 4, none⟩ v4).setCell ⟨w.heap.size, 5, none⟩ v5).setCell ⟨w.heap.size, 6, none⟩ v6).setCell ⟨w.heap.size, 7, none⟩ v7).setCell ⟨w.heap.size, 8, none⟩ v8) R s o ∧
    w.grownBy (((((((((W.setCell ⟨w.heap.size, 0, none⟩ v0).setCell ⟨w.heap.size, 1, none⟩ v1).setCell ⟨w.heap.size, 2, none⟩ v2).setCell ⟨w.heap.size, 3, none⟩ v3).setCell ⟨w.heap.size, 4, none⟩ v4).setCell ⟨w.heap.size, 5, none⟩ v5).setCell ⟨w.heap.size, 6, none⟩ v6).setCell ⟨w.heap.size, 7, none⟩ v7).setCell ⟨w.heap.size, 8, none⟩ v8) (some R) :=
  have hb := set9_below W w.heap.size w.heap.size v0 v1 v2 v3 v4 v5 v6 v7 v8 (Nat.le_refl _)
  ⟨hr.belowAt hR hb, gb_more hg (Nat.le_refl _) hb⟩
def numO (s : List UInt8) (i : Nat) (t : Tm) (o' : Option Nat) : Prop :=
  (okNum 0 999999 (word s i) = true ∧ t = leaf 2 E0 (rd (word s i)) ∧ o' = some (i + (word s i).length)) ∨ (okNum 0 999999 (word s i) = false ∧ t = leaf 2 E0 0 ∧ o' = none)
set_option maxRecDepth 100000 in
set_option maxHeartbeats 1000000 in
theorem numO_any {R : Nat} {s : ByteArray} {i : Nat} {w : World} (hs : s.size ≤ 1073741824) (hi : i ≤ s.size) (hr : Rd w R s i false) :
    Calls Tryz.prog 75 #[.pointer (some ⟨R, 0, none⟩)] w fun e w' => ∃ t o', e = .returned (leafV t.kind t.name t.n) ∧ numO s.data.toList i t o' ∧ RdO w' R s o' ∧ w.grownBy w' (some R) := by
  have hle := word_le (s := s.data.toList) (i := i) (by simpa using hi)
  have hle2 : i + (word s.data.toList i).length ≤ s.size := by simpa using hle
  have hlt := hr.lt
  obtain ⟨w0, hw0, hs0, hb0, r0⟩ := box_new w zeroC 29
  have HS := Lib.hid (And.intro hlt (And.intro hb0 r0))
  have hr0 : Rd w0 R s i false := (hb0.block _ hlt).trans hr
  have HW := Lib.hid (wordS_any R s i false w0 hs hi hr0)
  have HL := Lib.hid hle2
  have HN := Lib.hid (fun W => specNumber_any (bx (word s.data.toList i)) W (by have : (bx (word s.data.toList i)).size = (word s.data.toList i).length := bsz _; unfold maxLen; omega))
  clear hr hle hle2 hi hr0 hb0 r0 hlt hs0
  go_enter Tryz.func75, Tryz.ntmps75
  go_wp2_with fail
  refine HW.out.mono ?_
  rintro e w1 ⟨rfl, hr1, hg1⟩
  have HR1 := Lib.hid hr1
  have HG1 := Lib.hid hg1
  clear hr1 hg1
  go_wp2_with fail
  refine (HN.out w1).mono ?_
  rintro e w2 ⟨rfl, hb2⟩
  have hr2 : Rd w2 R s (i + (word s.data.toList i).length) false := (hb2.block _ HR1.out.lt).trans HR1.out
  obtain ⟨c0, c1, c2, z1, z2⟩ := hr2.cells
  have HR2 := Lib.hid hr2
  have HG2 := Lib.hid (gb_more HG1.out HG1.out.size hb2)
  have hnum : numOut 0 999999 (bx (word s.data.toList i)).data.toList = if okNum 0 999999 (word s.data.toList i) then .tuple #[.int .i64 (rd (word s.data.toList i)), .bool true] else .tuple #[.int .i64 0, .bool false] := rfl
  rw [hnum]
  clear hnum hr2 hb2
  obtain ⟨b, hb⟩ : ∃ b, okNum 0 999999 (word s.data.toList i) = b := ⟨_, rfl⟩
  rw [hb]
  have HB := Lib.hid hb
  clear hb
  cases b
  · have HI := Lib.hid (fun W => l5Int_any 0 W)
    have hx := HR2.out.set true
    have HX := Lib.hid hx
    obtain ⟨d0, d1, d2, y1, y2⟩ := hx.1.cells
    clear hx
    simp only [Bool.false_eq_true, if_false]
    go_wp2_with fail
    refine (HI.out _).mono ?_
    rintro e w3 ⟨rfl, hb3⟩
    have hg3 := gb_more (grownBy_trans HG2.out HX.out.2) (grownBy_trans HG2.out HX.out.2).size hb3
    have ho3 := (hg3.block w.heap.size (Array.getElem?_eq_some_iff.1 HS.out.2.2).1 (fun e => by have := Option.some.inj e; have := HS.out.1; omega)).trans HS.out.2.2
    have r0 := cell_of_blk ho3 0
    have r1 := cell_of_blk ho3 1
    have r2 := cell_of_blk ho3 2
    have r3 := cell_of_blk ho3 3
    have r4 := cell_of_blk ho3 4
    have r5 := cell_of_blk ho3 5
    have r6 := cell_of_blk ho3 6
    have r7 := cell_of_blk ho3 7
    have r8 := cell_of_blk ho3 8
    have rz := unfrozen_of_blk ho3
    simp only [List.getElem?_toArray, List.getElem?_cons_zero, List.getElem?_cons_succ] at r0 r1 r2 r3 r4 r5 r6 r7 r8
    have HG3 := Lib.hid (grownBy_trans (gb_below HS.out.2.1 (some R)) hg3)
    have HR3 : Hid (RdO w3 R s none) := Lib.hid ⟨_, HL.out, (hb3.block _ HX.out.1.lt).trans HX.out.1⟩
    clear hg3 ho3 hb3 c0 c1 c2 z1 z2 d0 d1 d2 y1 y2
    go_wp2_with fail
    refine bodyPost_ret (v := leafV 2 E0 0) ?_ rfl ?_
    · rw [results_cell1 rfl]
      go_simp
    · obtain ⟨x1, x2⟩ := set9_out (.int .i64 2) (.string E0) (.string E0) (.int .i64 0) (.int .i64 0) (.slice none 0 0) (.int .i64 0) (.slice none 0 0) (.slice none 0 0) HG3.out HS.out.1 HR3.out
      exact ⟨leaf 2 E0 0, none, rfl, Or.inr ⟨HB.out, rfl, rfl⟩, x1, x2⟩
  · have HI := Lib.hid (fun W => l5Int_any (rd (word s.data.toList i)) W)
    have hx := HR2.out.set false
    have HX := Lib.hid hx
    obtain ⟨d0, d1, d2, y1, y2⟩ := hx.1.cells
    clear hx
    simp only [if_true]
    go_wp2_with fail
    refine (HI.out _).mono ?_
    rintro e w3 ⟨rfl, hb3⟩
    have hg3 := gb_more (grownBy_trans HG2.out HX.out.2) (grownBy_trans HG2.out HX.out.2).size hb3
    have ho3 := (hg3.block w.heap.size (Array.getElem?_eq_some_iff.1 HS.out.2.2).1 (fun e => by have := Option.some.inj e; have := HS.out.1; omega)).trans HS.out.2.2
    have r0 := cell_of_blk ho3 0
    have r1 := cell_of_blk ho3 1
    have r2 := cell_of_blk ho3 2
    have r3 := cell_of_blk ho3 3
    have r4 := cell_of_blk ho3 4
    have r5 := cell_of_blk ho3 5
    have r6 := cell_of_blk ho3 6
    have r7 := cell_of_blk ho3 7
    have r8 := cell_of_blk ho3 8
    have rz := unfrozen_of_blk ho3
    simp only [List.getElem?_toArray, List.getElem?_cons_zero, List.getElem?_cons_succ] at r0 r1 r2 r3 r4 r5 r6 r7 r8
    have HG3 := Lib.hid (grownBy_trans (gb_below HS.out.2.1 (some R)) hg3)
    have HR3 : Hid (RdO w3 R s (some (i + (word s.data.toList i).length))) := Lib.hid ⟨HL.out, (hb3.block _ HX.out.1.lt).trans HX.out.1⟩
    clear hg3 ho3 hb3 c0 c1 c2 z1 z2 d0 d1 d2 y1 y2
    go_wp2_with fail
    refine bodyPost_ret (v := leafV 2 E0 (rd (word s.data.toList i))) ?_ rfl ?_
    · rw [results_cell1 rfl]
      go_simp
    · obtain ⟨x1, x2⟩ := set9_out (.int .i64 2) (.string E0) (.string E0) (.int .i64 (rd (word s.data.toList i))) (.int .i64 0) (.slice none 0 0) (.int .i64 0) (.slice none 0 0) (.slice none 0 0) HG3.out HS.out.1 HR3.out
      exact ⟨leaf 2 E0 (rd (word s.data.toList i)), (some (i + (word s.data.toList i).length)), rfl, Or.inl ⟨HB.out, rfl, rfl⟩, x1, x2⟩
end Go.Proofs.YtjobmgbchpoheaaGreatDoor
namespace Go.Proofs.YtjobmgbchpoheaaGreatDoor
open Go Go.RowKit
theorem draw_any : ∀ k : Nat, 1 ≤ k → k ≤ 4 → ∀ (b : Nat) (w : World), Cur w b → Calls Tryz.prog 83 #[.pointer (some ⟨b, 0, none⟩), .int .i64 k] w (DrawT k b w)
  | 0, h, _ => by omega
  | k + 1, _, h4 => fun b w hc => draw_step k ((k + 1 : Nat) : Int) (by simp) (by omega) (fun h1 b W hW => by
      have := draw_any k h1 (by omega) b W hW
      rwa [show (((k + 1 : Nat) : Int) - 1) = (k : Int) by omega]) b w hc
structure Box (w : World) (b bx : Nat) (W : World) (t : Ty) (s : Value) : Prop where
  rdy : Rdy w b W
  box : W.heap[bx]? = some (.cells #[.int .i64 t.kind, s] 26 (0, 0))
  ts : TS W (fun z => w.heap.size + 1 ≤ z ∧ z ≠ bx) t.args s
  lt : w.heap.size + 1 ≤ bx
theorem Box.bxlt {w W : World} {b bx : Nat} {t : Ty} {s : Value} (h : Box w b bx W t s) : bx < W.heap.size := (Array.getElem?_eq_some_iff.1 h.box).1
theorem Box.step {w W W' : World} {b bx : Nat} {t : Ty} {s : Value} (h : Box w b bx W t s) (hbw : b < w.heap.size) (hc : Cur W' b) (hg : W.grownBy W' (some b)) : Box w b bx W' t s :=
  have hl := h.lt
  ⟨h.rdy.step hbw hc hg, (hg.block _ h.bxlt (fun e => by have := Option.some.inj e; omega)).trans h.box, h.ts.stays ⟨hg.size, fun z hz hl => hg.block z hl (fun e => by have := Option.some.inj e; omega)⟩, h.lt⟩
theorem Box.below {w W W' : World} {b bx : Nat} {t : Ty} {s : Value} (h : Box w b bx W t s) (hb : Below W.heap.size W W') : Box w b bx W' t s :=
  ⟨h.rdy.below hb, (hb.block _ h.bxlt).trans h.box, h.ts.keep hb, h.lt⟩
theorem Rdy.set {w W : World} {b bx i : Nat} {v : Value} (h : Rdy w b W) (hbw : b < w.heap.size) (hlt : w.heap.size < bx) : Rdy w b (W.setCell ⟨bx, i, none⟩ v) := by
  have hb : Below bx W (W.setCell ⟨bx, i, none⟩ v) := (Below.refl _ W).setCell (p := ⟨bx, i, none⟩) (Nat.le_refl _) _
  exact ⟨h.cur.belowAt (by omega) hb, grown_below h.grown (by omega) hb, (hb.block _ hlt).trans h.r⟩
theorem Box.set {w W : World} {b bx : Nat} {t u : Ty} {s s' : Value} (h : Box w b bx W t s) (hbw : b < w.heap.size) (hu : TS W (fun z => w.heap.size + 1 ≤ z ∧ z ≠ bx) u.args s') :
    Box w b bx ((W.setCell ⟨bx, 0, none⟩ (.int .i64 u.kind)).setCell ⟨bx, 1, none⟩ s') u s' := by
  have hl := h.lt
  refine ⟨(h.rdy.set hbw (by omega)).set hbw (by omega), ?_, hu.stays ((setCell_stays _ _ _ _ _ (by omega)).trans (setCell_stays _ _ _ _ _ (by omega))), h.lt⟩
  rw [Go.Joins.block_setCell (Go.Joins.block_setCell h.box _) _]
  rfl
theorem Box.setKind {w W : World} {b bx : Nat} {t : Ty} {s : Value} (h : Box w b bx W t s) (hbw : b < w.heap.size) (y : Int) : Box w b bx (W.setCell ⟨bx, 0, none⟩ (.int .i64 y)) (.mk y t.args) s := by
  have hl := h.lt
  refine ⟨h.rdy.set hbw (by omega), ?_, h.ts.stays (setCell_stays _ _ _ _ _ (by omega)), h.lt⟩
  rw [Go.Joins.block_setCell h.box _]
  rfl
theorem NewG.ts {u : Ty} {w W W' : World} {bx : Nat} {v : Value} (h : NewG u W.heap.size W' v) (h1 : w.heap.size + 1 ≤ W.heap.size) (h2 : bx < W.heap.size) : ∃ s, v = .agg #[.int .i64 u.kind, s] ∧ TS W' (fun z => w.heap.size + 1 ≤ z ∧ z ≠ bx) u.args s := by
  obtain ⟨s, rfl, hs⟩ := h.tt
  exact ⟨s, rfl, hs.mono (fun z hz _ => by have : W.heap.size ≤ z := hz; exact ⟨by omega, by omega⟩)⟩
theorem Grow.stays {w w' : World} {base : Nat} {v : Value} {st : Got} (h : Grow w base v st) (hst : Stays (fun z => base ≤ z) w w') : Grow w' base v st := by
  refine ⟨⟨h.own.1, ?_⟩, fun e he => ((h.ts e he).stays (hst.mono (fun z hz => hz.1)))⟩
  rcases h.own.2 with h0 | ⟨g, cap, cur, rfl, hbg, hblk, r⟩
  · exact Or.inl h0
  · exact Or.inr ⟨g, cap, cur, rfl, hbg, (hst.2 g hbg (Array.getElem?_eq_some_iff.1 hblk).1).trans hblk, r⟩
theorem Box.tt {w W : World} {b bx : Nat} {t : Ty} {s : Value} (h : Box w b bx W t s) : TT W (fun z => w.heap.size + 1 ≤ z ∧ z ≠ bx) t (.agg #[.int .i64 t.kind, s]) := ⟨s, rfl, h.ts⟩
theorem Box.facts {w W : World} {b bx : Nat} {t : Ty} {s : Value} (h : Box w b bx W t s) :
    (W.cell? ⟨bx, 0, none⟩ = some (.int .i64 t.kind) ∧ W.cell? ⟨bx, 1, none⟩ = some s ∧ ∀ i, W.frozen? ⟨bx, i, none⟩ = false) ∧
    W.cell? ⟨w.heap.size, 0, none⟩ = some (.int .i64 0) ∧ W.cell? ⟨w.heap.size, 1, none⟩ = some (.slice none 0 0) ∧ ∀ i, W.frozen? ⟨w.heap.size, i, none⟩ = false :=
  ⟨⟨cell_of_blk h.box 0, cell_of_blk h.box 1, unfrozen_of_blk h.box⟩, cell_of_blk h.rdy.r 0, cell_of_blk h.rdy.r 1, unfrozen_of_blk h.rdy.r⟩
def BentT (b : Nat) (w : World) (e : Ending) (w' : World) : Prop := ∃ v t, e = .returned v ∧ t.nodes ≤ 200 ∧ TT w' (fun z => w.heap.size ≤ z) t v ∧ Cur w' b ∧ w.grownBy w' (some b)
theorem bent_fin {w W : World} {b bx : Nat} {t : Ty} {s : Value} (h : Box w b bx W t s) (hbw : b < w.heap.size) (hn : t.nodes ≤ 200) :
    BentT b w (.returned (.agg #[.int .i64 t.kind, s])) ((W.setCell ⟨w.heap.size, 0, none⟩ (.int .i64 t.kind)).setCell ⟨w.heap.size, 1, none⟩ s) := by
  have hbl : Below w.heap.size W ((W.setCell ⟨w.heap.size, 0, none⟩ (.int .i64 t.kind)).setCell ⟨w.heap.size, 1, none⟩ s) := ((Below.refl _ W).setCell (p := ⟨w.heap.size, 0, none⟩) (Nat.le_refl _) _).setCell (p := ⟨w.heap.size, 1, none⟩) (Nat.le_refl _) _
  exact ⟨_, t, rfl, hn, ⟨s, rfl, (h.ts.stays ((setCell_stays _ _ _ _ _ (by omega)).trans (setCell_stays _ _ _ _ _ (by omega)))).mono (fun z hz _ => by omega)⟩, h.rdy.cur.belowAt hbw hbl, grown_below h.rdy.grown (Nat.le_refl _) hbl⟩

theorem ts_of_row {w : World} {C : Nat → Prop} {base : Nat} {v : Value} {st : Got} (h : w.ownsRow base 26 2 v st.length (ecells st)) (hC : ∀ g, v.ownBlock = some g → C g) (hts : ∀ e ∈ st, TS w C e.1.args e.2) : TS w C (st.map (·.1)) v := by
  rcases h.2 with ⟨rfl, h0⟩ | ⟨g, cap, cur, rfl, hg, hblk, h1, h2, h3, h4⟩
  · obtain rfl := List.eq_nil_of_length_eq_zero h0
    exact .nil _ _
  · by_cases hz : st.length = 0
    · obtain rfl := List.eq_nil_of_length_eq_zero hz
      exact .nil _ _
    · have hlt := (Array.getElem?_eq_some_iff.1 hblk).1
      have hl : (st.map (·.1)).length = st.length := List.length_map _
      have at_ : ∀ j x, (st.map (·.1))[j]? = some x → ∃ hj : j < st.length, x = st[j].1 := fun j x hj => by
        rw [List.getElem?_map, Option.map_eq_some_iff] at hj
        obtain ⟨e, he, rfl⟩ := hj
        obtain ⟨hj, rfl⟩ := List.getElem?_eq_some_iff.1 he
        exact ⟨hj, rfl⟩
      have key := TS.cons (w := w) (C := C) (ts := st.map (·.1)) (b := g) (o := 0) (c := cap) (fun j => (st[j]?.getD (.mk 0 [], .nilIface)).2) (by omega) (by omega) (by unfold maxLen at h2; omega) (hC g rfl) hlt
        (fun j x hj => by
          obtain ⟨hj', rfl⟩ := at_ j x hj
          rw [Nat.zero_add, h.cellAt (j * 2) (by omega), (ecells_at st j hj').1])
        (fun j x hj => by
          obtain ⟨hj', rfl⟩ := at_ j x hj
          rw [Nat.zero_add, h.cellAt (j * 2 + 1) (by omega), (ecells_at st j hj').2, List.getElem?_eq_getElem hj']
          rfl)
        (fun j x hj => by
          obtain ⟨hj', rfl⟩ := at_ j x hj
          rw [List.getElem?_eq_getElem hj']
          exact hts _ (List.getElem_mem hj'))
      rw [hl] at key
      exact key
theorem Grow.app_at {w1 W w' : World} {base bx g cap : Nat} {v s u : Value} {st : Got} {x : Ty} (h : Grow w1 base v st) (hbx : bx = w1.heap.size) (hs : Stays (fun z => base ≤ z) w1 W) (hlt : bx < W.heap.size)
    (hA : Appd W w' base 26 2 v st.length (ecells st) [.int .i64 x.kind, s] g cap) (hx : x.args = []) (hsv : s = .slice none 0 0) :
    TS (w'.setCell ⟨bx, 1, none⟩ u) (fun z => base ≤ z ∧ z ≠ bx) (st.map (·.1) ++ [x]) (.slice (some ⟨g, 0, none⟩) (st.length + 1) cap) := by
  have hgb : g ≠ bx := (hA.kept bx hlt (fun e => by have := (h.own.lt _ e).2; omega)).2
  have hst : Stays (fun z => base ≤ z ∧ v.ownBlock ≠ some z ∧ z < bx) w1 (w'.setCell ⟨bx, 1, none⟩ u) := by
    refine ⟨Nat.le_trans hs.1 (Nat.le_trans hA.size (by simp [World.setCell])), fun z hz hl => ?_⟩
    rw [Below.heap_setCell _ _ _ _ (by show z ≠ bx; omega)]
    exact (hA.kept z (Nat.lt_of_lt_of_le hl hs.1) hz.2.1).1.trans (hs.2 z hz.1 hl)
  have key := ts_of_row (w := w'.setCell ⟨bx, 1, none⟩ u) (C := fun z => base ≤ z ∧ z ≠ bx) (base := base) (v := .slice (some ⟨g, 0, none⟩) (st.length + 1) cap) (st := st ++ [(x, s)]) ?_ ?_ ?_
  · rw [List.map_append] at key
    exact key
  · rw [List.length_append, ecells_snoc]
    refine ⟨hA.own.1, ?_⟩
    rcases hA.own.2 with h0 | ⟨g', cap', cur, hv, hg, hblk, r⟩
    · exact Or.inl h0
    · have : g = g' := by cases hv; rfl
      subst this
      exact Or.inr ⟨g, cap', cur, hv, hg, (Below.heap_setCell _ _ _ _ hgb).trans hblk, r⟩
  · intro g' hg'
    have : g' = g := by simp [Value.ownBlock] at hg'; omega
    subst this
    exact ⟨(hA.own.lt g' hg').1, hgb⟩
  · intro e he
    rcases List.mem_append.1 he with he | he
    · exact (((h.ts e he).mono (C' := fun z => base ≤ z ∧ v.ownBlock ≠ some z ∧ z < bx) (fun z hz hl => ⟨hz.1, hz.2, by omega⟩)).stays hst).mono (fun z hz _ => ⟨hz.1, by omega⟩)
    · simp only [List.mem_singleton] at he
      subst he
      show TS _ _ x.args s
      rw [hx, hsv]
      exact .nil _ _
theorem box_app {w w1 W w' : World} {b bx g cap : Nat} {t : Ty} {v : Value} {st : Got} (h : Box w b bx W t v) (hbw : b < w.heap.size) (hG : Grow w1 (w.heap.size + 1) v st) (hbx : bx = w1.heap.size) (hs : Stays (fun z => w.heap.size + 1 ≤ z) w1 W)
    (hA : Appd W w' (w.heap.size + 1) 26 2 v st.length (ecells st) [.int .i64 1, .slice none 0 0] g cap) (hes : st.map (·.1) = t.args) :
    Box w b bx (w'.setCell ⟨bx, 1, none⟩ (.slice (some ⟨g, 0, none⟩) (st.length + 1) cap)) (.mk t.kind (t.args ++ [.mk 1 []])) (.slice (some ⟨g, 0, none⟩) (st.length + 1) cap) := by
  have hl := h.lt
  have hblk := (hA.kept bx h.bxlt (fun e => by have := (hG.own.lt _ e).2; omega)).1.trans h.box
  have hr : Rdy w b w' := ⟨h.rdy.cur.belowAt (by omega) hA.below, grown_below h.rdy.grown (by omega) hA.below, (hA.below.block _ (by omega)).trans h.rdy.r⟩
  have ht := hG.app_at (x := .mk 1 []) (u := .slice (some ⟨g, 0, none⟩) (st.length + 1) cap) hbx hs h.bxlt hA rfl rfl
  rw [hes] at ht
  refine ⟨hr.set hbw (by omega), ?_, ht, hl⟩
  rw [Go.Joins.block_setCell hblk _]
  rfl
end Go.Proofs.YtjobmgbchpoheaaGreatDoor
namespace Go.Proofs.YtjobmgbchpoheaaGreatDoor
open Go Go.RowKit

abbrev InBox (w : World) (bx : Nat) : Nat → Prop := fun z => w.heap.size + 1 ≤ z ∧ z ≠ bx
structure BoxM (w : World) (b bx : Nat) (W : World) (t : Tm) (tp : Option Addr) (tc : Nat) (rp : Option Addr) (rc : Nat) (p : Option Addr) (c : Nat) (xs : List Value) : Prop where
  rdy : RdyM w b W
  box : W.heap[bx]? = some (.cells (tmC t tp tc rp rc p c) 29 (0, 0))
  new : NewTm W (w.heap.size + 1) (InBox w bx) t tp tc rp rc p c xs
  lt : w.heap.size + 1 ≤ bx

section
variable {w W W' : World} {b bx : Nat} {t : Tm} {k n : Int} {a o : ByteArray} {ty res : Ty} {ts : List Tm} {tp rp p : Option Addr} {tc rc c : Nat} {xs : List Value}
theorem BoxM.bxlt (h : BoxM w b bx W t tp tc rp rc p c xs) : bx < W.heap.size := (Array.getElem?_eq_some_iff.1 h.box).1
theorem BoxM.step (h : BoxM w b bx W t tp tc rp rc p c xs) (hbw : b < w.heap.size) (hc : Cur W' b) (hg : W.grownBy W' (some b)) : BoxM w b bx W' t tp tc rp rc p c xs :=
  have hl := h.lt
  ⟨h.rdy.step hbw hc hg, (hg.block _ h.bxlt (fun e => by have := Option.some.inj e; omega)).trans h.box, h.new.stays ⟨hg.size, fun z hz hl => hg.block z hl (fun e => by have := Option.some.inj e; omega)⟩, h.lt⟩
theorem BoxM.below (h : BoxM w b bx W t tp tc rp rc p c xs) (hb : Below W.heap.size W W') : BoxM w b bx W' t tp tc rp rc p c xs :=
  ⟨h.rdy.below hb, (hb.block _ h.bxlt).trans h.box, h.new.stays (.of_below hb), h.lt⟩
theorem RdyM.set (h : RdyM w b W) (hbw : b < w.heap.size) (hlt : w.heap.size < bx) (i : Nat) (v : Value) : RdyM w b (W.setCell ⟨bx, i, none⟩ v) := by
  have hb : Below bx W (W.setCell ⟨bx, i, none⟩ v) := (Below.refl _ W).setCell (p := ⟨bx, i, none⟩) (Nat.le_refl _) _
  exact ⟨h.cur.belowAt (by omega) hb, grown_below h.grown (by omega) hb, (hb.block _ hlt).trans h.r⟩
theorem inbox_stays (i : Nat) (v : Value) : Stays (InBox w bx) W (W.setCell ⟨bx, i, none⟩ v) := setCell_stays _ _ _ _ _ (by simp)
theorem BoxM.setName (h : BoxM w b bx W (.mk k a o n ty res ts) tp tc rp rc p c xs) (hbw : b < w.heap.size) (a' : ByteArray) : BoxM w b bx (W.setCell ⟨bx, 1, none⟩ (.string a')) (.mk k a' o n ty res ts) tp tc rp rc p c xs := by
  have hl := h.lt
  have hn := h.new.stays (inbox_stays 1 (.string a'))
  refine ⟨h.rdy.set hbw (by omega) _ _, ?_, ⟨hn.ty, hn.res, hn.row⟩, h.lt⟩
  rw [Go.Joins.block_setCell h.box _]
  rfl
theorem BoxM.setOther (h : BoxM w b bx W (.mk k a o n ty res ts) tp tc rp rc p c xs) (hbw : b < w.heap.size) (a' : ByteArray) : BoxM w b bx (W.setCell ⟨bx, 2, none⟩ (.string a')) (.mk k a a' n ty res ts) tp tc rp rc p c xs := by
  have hl := h.lt
  have hn := h.new.stays (inbox_stays 2 (.string a'))
  refine ⟨h.rdy.set hbw (by omega) _ _, ?_, ⟨hn.ty, hn.res, hn.row⟩, h.lt⟩
  rw [Go.Joins.block_setCell h.box _]
  rfl
theorem BoxM.setKind (h : BoxM w b bx W (.mk k a o n ty res ts) tp tc rp rc p c xs) (hbw : b < w.heap.size) (y : Int) : BoxM w b bx (W.setCell ⟨bx, 0, none⟩ (.int .i64 y)) (.mk y a o n ty res ts) tp tc rp rc p c xs := by
  have hl := h.lt
  have hn := h.new.stays (inbox_stays 0 (.int .i64 y))
  refine ⟨h.rdy.set hbw (by omega) _ _, ?_, ⟨hn.ty, hn.res, hn.row⟩, h.lt⟩
  rw [Go.Joins.block_setCell h.box _]
  rfl
theorem BoxM.setNum (h : BoxM w b bx W (.mk k a o n ty res ts) tp tc rp rc p c xs) (hbw : b < w.heap.size) (y : Int) : BoxM w b bx (W.setCell ⟨bx, 3, none⟩ (.int .i64 y)) (.mk k a o y ty res ts) tp tc rp rc p c xs := by
  have hl := h.lt
  have hn := h.new.stays (inbox_stays 3 (.int .i64 y))
  refine ⟨h.rdy.set hbw (by omega) _ _, ?_, ⟨hn.ty, hn.res, hn.row⟩, h.lt⟩
  rw [Go.Joins.block_setCell h.box _]
  rfl
theorem BoxM.setTy {u : Ty} {q : Option Addr} {d : Nat} (h : BoxM w b bx W (.mk k a o n ty res ts) tp tc rp rc p c xs) (hbw : b < w.heap.size)
    (hu : TS W (fun z => InBox w bx z ∧ (Value.slice p ts.length c).ownBlock ≠ some z) u.args (.slice q u.args.length d)) :
    BoxM w b bx ((W.setCell ⟨bx, 4, none⟩ (.int .i64 u.kind)).setCell ⟨bx, 5, none⟩ (.slice q u.args.length d)) (.mk k a o n u res ts) q d rp rc p c xs := by
  have hl := h.lt
  have st : Stays (InBox w bx) W ((W.setCell ⟨bx, 4, none⟩ (.int .i64 u.kind)).setCell ⟨bx, 5, none⟩ (.slice q u.args.length d)) := (inbox_stays _ _).trans (inbox_stays _ _)
  have hn := h.new.stays st
  refine ⟨(h.rdy.set hbw (by omega) _ _).set hbw (by omega) _ _, ?_, ⟨hu.stays (st.mono (fun _ hz => hz.1)), hn.res, hn.row⟩, h.lt⟩
  rw [Go.Joins.block_setCell (Go.Joins.block_setCell h.box _) _]
  rfl
theorem BoxM.setRes {u : Ty} {q : Option Addr} {d : Nat} (h : BoxM w b bx W (.mk k a o n ty res ts) tp tc rp rc p c xs) (hbw : b < w.heap.size)
    (hu : TS W (fun z => InBox w bx z ∧ (Value.slice p ts.length c).ownBlock ≠ some z) u.args (.slice q u.args.length d)) :
    BoxM w b bx ((W.setCell ⟨bx, 6, none⟩ (.int .i64 u.kind)).setCell ⟨bx, 7, none⟩ (.slice q u.args.length d)) (.mk k a o n ty u ts) tp tc q d p c xs := by
  have hl := h.lt
  have st : Stays (InBox w bx) W ((W.setCell ⟨bx, 6, none⟩ (.int .i64 u.kind)).setCell ⟨bx, 7, none⟩ (.slice q u.args.length d)) := (inbox_stays _ _).trans (inbox_stays _ _)
  have hn := h.new.stays st
  refine ⟨(h.rdy.set hbw (by omega) _ _).set hbw (by omega) _ _, ?_, ⟨hn.ty, hu.stays (st.mono (fun _ hz => hz.1)), hn.row⟩, h.lt⟩
  rw [Go.Joins.block_setCell (Go.Joins.block_setCell h.box _) _]
  rfl
theorem BoxM.app {g cap : Nat} {x : Tm} {us : List Value} (h : BoxM w b bx W (.mk k a o n ty res ts) tp tc rp rc p c xs) (hbw : b < w.heap.size)
    (hA : Appd W W' (w.heap.size + 1) 29 9 (.slice p ts.length c) ts.length xs us g cap) (hx : MS W (fun z => InBox w bx z ∧ (Value.slice p ts.length c).ownBlock ≠ some z) x.ds us) :
    BoxM w b bx (W'.setCell ⟨bx, 8, none⟩ (.slice (some ⟨g, 0, none⟩) (ts.length + 1) cap)) (.mk k a o n ty res (ts ++ [x])) tp tc rp rc (some ⟨g, 0, none⟩) cap (xs ++ us) := by
  have hl := h.lt
  have hob : (Value.slice p ts.length c).ownBlock ≠ some bx := fun e => (h.new.row.blk _ e).2 rfl
  have hkb := hA.kept bx h.bxlt hob
  have hblk := hkb.1.trans h.box
  have hgb : InBox w bx g := ⟨(hA.own.lt g rfl).1, hkb.2⟩
  have hr : RdyM w b W' := ⟨h.rdy.cur.belowAt (by omega) hA.below, grown_below h.rdy.grown (by omega) hA.below, (hA.below.block _ (by omega)).trans h.rdy.r⟩
  have go : ∀ {us : List Ty} {v : Value}, TS W (fun z => InBox w bx z ∧ (Value.slice p ts.length c).ownBlock ≠ some z) us v → TS (W'.setCell ⟨bx, 8, none⟩ (.slice (some ⟨g, 0, none⟩) (ts.length + 1) cap)) (fun z => InBox w bx z ∧ (Value.slice (some ⟨g, 0, none⟩) (ts.length + 1) cap).ownBlock ≠ some z) us v := fun {us v} hd => by
    refine (((hd.mono (C' := fun z => (InBox w bx z ∧ (Value.slice p ts.length c).ownBlock ≠ some z) ∧ z < W.heap.size) (fun _ hz hl => ⟨hz, hl⟩)).stays (w' := W') ⟨hA.size, fun z hz hl => (hA.kept z hl hz.1.2).1⟩).stays (setCell_stays _ _ _ _ _ (fun hz => hz.1.1.2 rfl))).mono (fun z hz _ => ⟨hz.1.1, fun e => ?_⟩)
    have := (hA.kept z hz.2 hz.1.2).2
    simp [Value.ownBlock] at e
    omega
  have hrow := (h.new.row.app hA hgb hx).stays (inbox_stays 8 (.slice (some ⟨g, 0, none⟩) (ts.length + 1) cap))
  have e1 : (ts ++ [x]).length = ts.length + 1 := by simp
  refine ⟨hr.set hbw (by omega) _ _, ?_, ⟨?_, ?_, ?_⟩, h.lt⟩
  · rw [Go.Joins.block_setCell hblk _]
    show _ = some (Obj.cells (tmC (.mk k a o n ty res (ts ++ [x])) tp tc rp rc (some ⟨g, 0, none⟩) cap) _ _)
    simp only [tmC, Tm.args, e1]
    rfl
  · show TS _ (fun z => _ ∧ (Value.slice _ (ts ++ [x]).length _).ownBlock ≠ _) _ _
    rw [e1]; exact go h.new.ty
  · show TS _ (fun z => _ ∧ (Value.slice _ (ts ++ [x]).length _).ownBlock ≠ _) _ _
    rw [e1]; exact go h.new.res
  · show RowM _ _ _ (.slice _ (ts ++ [x]).length _) _ _
    rw [e1]; exact hrow
theorem BoxM.facts (h : BoxM w b bx W (.mk k a o n ty res ts) tp tc rp rc p c xs) :
    (W.cell? ⟨bx, 0, none⟩ = some (.int .i64 k) ∧ W.cell? ⟨bx, 1, none⟩ = some (.string a) ∧ W.cell? ⟨bx, 2, none⟩ = some (.string o) ∧ W.cell? ⟨bx, 3, none⟩ = some (.int .i64 n) ∧ W.cell? ⟨bx, 4, none⟩ = some (.int .i64 ty.kind) ∧ W.cell? ⟨bx, 5, none⟩ = some (.slice tp ty.args.length tc) ∧ W.cell? ⟨bx, 6, none⟩ = some (.int .i64 res.kind) ∧ W.cell? ⟨bx, 7, none⟩ = some (.slice rp res.args.length rc) ∧ W.cell? ⟨bx, 8, none⟩ = some (.slice p ts.length c)) ∧ ∀ i, W.frozen? ⟨bx, i, none⟩ = false :=
  ⟨⟨cell_of_blk h.box 0, cell_of_blk h.box 1, cell_of_blk h.box 2, cell_of_blk h.box 3, cell_of_blk h.box 4, cell_of_blk h.box 5, cell_of_blk h.box 6, cell_of_blk h.box 7, cell_of_blk h.box 8⟩, unfrozen_of_blk h.box⟩
end
def DrawM (m b : Nat) (w : World) (e : Ending) (w' : World) : Prop := ∃ (t : Tm) (tp : Option Addr) (tc : Nat) (rp : Option Addr) (rc : Nat) (p : Option Addr) (c : Nat) (xs : List Value),
  e = .returned (tmV t tp tc rp rc p c) ∧ t.wt ≤ m ∧ NewTm w' w.heap.size (fun z => w.heap.size ≤ z) t tp tc rp rc p c xs ∧ Cur w' b ∧ w.grownBy w' (some b)
theorem BoxM.fin {w W : World} {b bx m : Nat} {t : Tm} {tp rp p : Option Addr} {tc rc c : Nat} {xs : List Value} (h : BoxM w b bx W t tp tc rp rc p c xs) (hbw : b < w.heap.size) (hn : t.wt ≤ m) :
    DrawM m b w (.returned (tmV t tp tc rp rc p c)) (setN W w.heap.size 0 [.int .i64 t.kind, .string t.name, .string t.other, .int .i64 t.n, .int .i64 t.ty.kind, .slice tp t.ty.args.length tc, .int .i64 t.res.kind, .slice rp t.res.args.length rc, .slice p t.args.length c]) :=
  have hf := h.rdy.fin hbw _
  have h1 : NewTm W (w.heap.size + 1) (fun z => w.heap.size + 1 ≤ z) t tp tc rp rc p c xs := h.new.base (Nat.le_refl _) (fun _ hz _ => hz.1)
  ⟨t, tp, tc, rp, rc, p, c, xs, rfl, hn, (h1.stays hf.2.2).base (by omega) (fun z hz _ => by have : w.heap.size + 1 ≤ z := hz; omega), hf.1, hf.2.1⟩
end Go.Proofs.YtjobmgbchpoheaaGreatDoor
namespace Go.Proofs.YtjobmgbchpoheaaGreatDoor
open Go Go.RowKit

abbrev InR (C : Nat → Prop) (bx rb : Nat) : Nat → Prop := fun z => C z ∧ z ≠ bx ∧ z ≠ rb
structure BoxR (wb : World) (C : Nat → Prop) (R : Nat) (s : ByteArray) (bx rb : Nat) (o : Option Nat) (W : World) (t : Tm) (tp : Option Addr) (tc : Nat) (rp : Option Addr) (rc : Nat) (p : Option Addr) (c : Nat) (xs : List Value) : Prop where
  rd : RdO W R s o
  grown : wb.grownBy W (some R)
  out : W.heap[rb]? = some (.cells zeroC 29 (0, 0))
  box : W.heap[bx]? = some (.cells (tmC t tp tc rp rc p c) 29 (0, 0))
  new : NewTm W wb.heap.size (InR C bx rb) t tp tc rp rc p c xs
  hR : R < wb.heap.size
  hCR : ∀ z, C z → z ≠ R
  hCb : ∀ z, wb.heap.size ≤ z → C z
  hb : wb.heap.size ≤ bx
  hr : wb.heap.size ≤ rb
  ne : bx ≠ rb

section
variable {wb W W' : World} {C : Nat → Prop} {R bx rb : Nat} {s : ByteArray} {q q' : Option Nat} {t : Tm} {k n : Int} {a o : ByteArray} {ty res : Ty} {ts : List Tm} {tp rp p : Option Addr} {tc rc c : Nat} {xs : List Value}
theorem BoxR.bxlt (h : BoxR wb C R s bx rb q W t tp tc rp rc p c xs) : bx < W.heap.size := (Array.getElem?_eq_some_iff.1 h.box).1
theorem BoxR.rblt (h : BoxR wb C R s bx rb q W t tp tc rp rc p c xs) : rb < W.heap.size := (Array.getElem?_eq_some_iff.1 h.out).1
theorem BoxR.step (h : BoxR wb C R s bx rb q W t tp tc rp rc p c xs) (hr : RdO W' R s q') (hg : W.grownBy W' (some R)) : BoxR wb C R s bx rb q' W' t tp tc rp rc p c xs := by
  have hR := h.hR
  have hCR := h.hCR
  have hb := h.hb
  have hr' := h.hr
  exact ⟨hr, grownBy_trans h.grown hg, (hg.block _ h.rblt (fun e => by have := Option.some.inj e; omega)).trans h.out, (hg.block _ h.bxlt (fun e => by have := Option.some.inj e; omega)).trans h.box,
    h.new.stays ⟨hg.size, fun z hz hl => hg.block z hl (fun e => hCR z hz.1 (Option.some.inj e))⟩, h.hR, h.hCR, h.hCb, h.hb, h.hr, h.ne⟩
theorem inr_stays (i : Nat) (v : Value) : Stays (InR C bx rb) W (W.setCell ⟨bx, i, none⟩ v) := setCell_stays _ _ _ _ _ (by simp)
theorem BoxR.app {g cap : Nat} {x : Tm} {us : List Value} (h : BoxR wb C R s bx rb q W (.mk k a o n ty res ts) tp tc rp rc p c xs)
    (hA : Appd W W' wb.heap.size 29 9 (.slice p ts.length c) ts.length xs us g cap) (hx : MS W (fun z => InR C bx rb z ∧ (Value.slice p ts.length c).ownBlock ≠ some z) x.ds us) :
    BoxR wb C R s bx rb q (W'.setCell ⟨bx, 8, none⟩ (.slice (some ⟨g, 0, none⟩) (ts.length + 1) cap)) (.mk k a o n ty res (ts ++ [x])) tp tc rp rc (some ⟨g, 0, none⟩) cap (xs ++ us) := by
  have hR := h.hR
  have hCR := h.hCR
  have hb := h.hb
  have hr' := h.hr
  have hob : (Value.slice p ts.length c).ownBlock ≠ some bx := fun e => (h.new.row.blk _ e).2.1 rfl
  have hor : (Value.slice p ts.length c).ownBlock ≠ some rb := fun e => (h.new.row.blk _ e).2.2 rfl
  have hkb := hA.kept bx h.bxlt hob
  have hkr := hA.kept rb h.rblt hor
  have hblk := hkb.1.trans h.box
  have hbs : Below wb.heap.size W' (W'.setCell ⟨bx, 8, none⟩ (.slice (some ⟨g, 0, none⟩) (ts.length + 1) cap)) := (Below.refl _ W').setCell (p := ⟨bx, 8, none⟩) hb _
  have hbl := hA.below.trans hbs
  have hgb : InR C bx rb g := ⟨h.hCb g (hA.own.lt g rfl).1, hkb.2, hkr.2⟩
  have go : ∀ {us : List Ty} {v : Value}, TS W (fun z => InR C bx rb z ∧ (Value.slice p ts.length c).ownBlock ≠ some z) us v → TS (W'.setCell ⟨bx, 8, none⟩ (.slice (some ⟨g, 0, none⟩) (ts.length + 1) cap)) (fun z => InR C bx rb z ∧ (Value.slice (some ⟨g, 0, none⟩) (ts.length + 1) cap).ownBlock ≠ some z) us v := fun {us v} hd => by
    refine (((hd.mono (C' := fun z => (InR C bx rb z ∧ (Value.slice p ts.length c).ownBlock ≠ some z) ∧ z < W.heap.size) (fun _ hz hl => ⟨hz, hl⟩)).stays (w' := W') ⟨hA.size, fun z hz hl => (hA.kept z hl hz.1.2).1⟩).stays (setCell_stays _ _ _ _ _ (fun hz => hz.1.1.2.1 rfl))).mono (fun z hz _ => ⟨hz.1.1, fun e => ?_⟩)
    have := (hA.kept z hz.2 hz.1.2).2
    simp [Value.ownBlock] at e
    omega
  have hrow := (h.new.row.app hA hgb hx).stays (inr_stays 8 (.slice (some ⟨g, 0, none⟩) (ts.length + 1) cap))
  have e1 : (ts ++ [x]).length = ts.length + 1 := by simp
  refine ⟨h.rd.belowAt hR hbl, gb_more h.grown (Nat.le_refl _) hbl, ?_, ?_, ⟨?_, ?_, ?_⟩, h.hR, h.hCR, h.hCb, h.hb, h.hr, h.ne⟩
  · rw [heap_setCell_other W' ⟨bx, 8, none⟩ rb _ h.ne.symm]
    exact hkr.1.trans h.out
  · rw [Go.Joins.block_setCell hblk _]
    show _ = some (Obj.cells (tmC (.mk k a o n ty res (ts ++ [x])) tp tc rp rc (some ⟨g, 0, none⟩) cap) _ _)
    simp only [tmC, Tm.args, e1]
    rfl
  · show TS _ (fun z => _ ∧ (Value.slice _ (ts ++ [x]).length _).ownBlock ≠ _) _ _
    rw [e1]; exact go h.new.ty
  · show TS _ (fun z => _ ∧ (Value.slice _ (ts ++ [x]).length _).ownBlock ≠ _) _ _
    rw [e1]; exact go h.new.res
  · show RowM _ _ _ (.slice _ (ts ++ [x]).length _) _ _
    rw [e1]; exact hrow
end
def termO (f : Nat → Option (Tm × Nat)) : Option Nat → Tm → Option Nat → Prop
  | some i, t, o' => (∃ j, f i = some (t, j) ∧ o' = some j) ∨ (f i = none ∧ o' = none)
  | none, _, o' => o' = none
def argsO (f : Nat → Option (Tm × Nat)) (s : List UInt8) : Nat → Option Nat → List Tm → Option Nat → Prop
  | 0, o, ts, o' => ts = [] ∧ o' = o
  | m + 1, o, ts, o' => ∃ ts0 o0 t, argsO f s m o ts0 o0 ∧ o0 ≠ none ∧ termO f (if m = 0 then o0 else mustO [32] s o0) t o' ∧ ts = ts0 ++ [t]
theorem argsO_len {f : Nat → Option (Tm × Nat)} {s : List UInt8} : ∀ {m : Nat} {o : Option Nat} {ts : List Tm} {o' : Option Nat}, argsO f s m o ts o' → ts.length = m
  | 0, _, _, _, h => by rw [h.1]; rfl
  | m + 1, _, _, _, h => by
    obtain ⟨ts0, o0, t, h0, _, _, rfl⟩ := h
    rw [List.length_append, argsO_len h0]
    rfl
def TermRet (f : Nat → Option (Tm × Nat)) (R : Nat) (s : ByteArray) (o : Option Nat) (w : World) (e : Ending) (w' : World) : Prop :=
  ∃ v t o', e = .returned v ∧ TM w' (fun z => w.heap.size ≤ z) t v ∧ termO f o t o' ∧ RdO w' R s o' ∧ w.grownBy w' (some R)
def TermIs (f : Nat → Option (Tm × Nat)) (R : Nat) (s : ByteArray) (D : Int) : Prop := ∀ (o : Option Nat) (W : World), RdO W R s o →
  Calls Tryz.prog 37 #[.pointer (some ⟨R, 0, none⟩), .int .i64 D] W (TermRet f R s o W)
def ArgsRet (f : Nat → Option (Tm × Nat)) (R : Nat) (s : ByteArray) (N : Nat) (e0 : Tm) (o : Option Nat) (wb : World) (C : Nat → Prop) (e : Ending) (w' : World) : Prop :=
  ∃ m ts o1 tp tc rp rc p c xs, m ≤ N ∧ (m = N ∨ o1 = none) ∧ argsO f s.data.toList m o ts o1 ∧ e = .returned (tmV (withM e0 (e0.args ++ ts)) tp tc rp rc p c) ∧
    NewTm w' wb.heap.size C (withM e0 (e0.args ++ ts)) tp tc rp rc p c xs ∧ RdO w' R s (mustO [41] s.data.toList o1) ∧ wb.grownBy w' (some R)
end Go.Proofs.YtjobmgbchpoheaaGreatDoor
