/-
  The walk of the law that FormatType answers as its model does.
-/
import Derived.Test.YtnciibngcaajgaaOpenT
import Derived.Test.YtnciibngcaajgaaTextI
namespace Go.Proofs.Ytnciibngcaajgaa
open Go Go.RowKit

set_option maxRecDepth 100000 in
set_option maxHeartbeats 1000000 in
theorem lawFormatType {C : Nat → Prop} (t : Ty) (v : Value) (w : World) (h : TT w C t v) :
    Calls Try.prog 10 #[v] w fun e w' => e = .returned (.bool true) ∧ Below w.heap.size w w' := by
  have HT := Lib.hid (fun w' (hb : Below w.heap.size w w') => h.keep hb)
  obtain ⟨s, rfl, hS⟩ := h
  obtain ⟨p, c, rfl⟩ := hS.form
  clear hS
  have HB0 := Lib.hid ((Below.refl w.heap.size w).alloc (Nat.le_refl _) (Obj.cells #[.int .i64 t.kind, .slice p t.args.length c] 40))
  go_enter Try.func10, Try.ntmps10
  go_wp2_with fail
  refine (szT_any (HT.out _ HB0.out) 1048576 (by omega) (by omega)).mono ?_
  rintro e w1 ⟨r, hr, rfl, hb1⟩
  obtain ⟨c0, c1⟩ := box2 hb1
  have hlt := World.block_lt_of_cell? w1 _ c0
  have HB1 := Lib.hid (HB0.out.trans (hb1.mono HB0.out.size))
  have HR := Lib.hid hr
  clear hr hb1
  by_cases h0 : r < 0
  · go_wp2_with fail
    go_ret
    exact ⟨rfl, HB1.out⟩
  have hn : nodesS t.args ≤ 1048576 := by have := HR.out; unfold SzEnds at this; omega
  go_wp2_with fail
  refine (toT_any (HT.out _ HB1.out) hn).mono ?_
  rintro e w2 ⟨v1, rfl, ho1, hb2⟩
  have HO1 := Lib.hid ho1
  have HB2 := Lib.hid (HB1.out.trans (hb2.mono HB1.out.size))
  have c20 := (hb2.cell (p := ⟨w.heap.size, 0, none⟩) hlt).trans c0
  have c21 := (hb2.cell (p := ⟨w.heap.size, 1, none⟩) hlt).trans c1
  have hlt2 := Nat.lt_of_lt_of_le hlt hb2.size
  clear ho1 hb2 c0 c1 hlt
  go_wp2_with fail
  refine (spFmt_any HO1.out.tt hn).mono ?_
  rintro e w3 ⟨rfl, hb3⟩
  have HB3 := Lib.hid (HB2.out.trans (hb3.mono HB2.out.size))
  have c30 := (hb3.cell (p := ⟨w.heap.size, 0, none⟩) hlt2).trans c20
  have c31 := (hb3.cell (p := ⟨w.heap.size, 1, none⟩) hlt2).trans c21
  have hlt3 := Nat.lt_of_lt_of_le hlt2 hb3.size
  clear hb3 c20 c21 hlt2
  go_wp2_with fail
  refine (toT_any (HT.out _ HB3.out) hn).mono ?_
  rintro e w4 ⟨v2, rfl, ho2, hb4⟩
  have HX := Lib.hid (fun w' (hb : Below w4.heap.size w4 w') => ho2.tt.keep hb)
  obtain ⟨s2, rfl, hS2⟩ := ho2
  obtain ⟨p2, q2, rfl⟩ := hS2.form
  have HB4 := Lib.hid (HB3.out.trans (hb4.mono HB3.out.size))
  have hbx := (Below.refl w4.heap.size w4).alloc (Nat.le_refl _) (Obj.cells #[.int .i64 t.kind, .slice p2 t.args.length q2] 26)
  have HBX := Lib.hid hbx
  have c40 := (hb4.cell (p := ⟨w.heap.size, 0, none⟩) hlt3).trans c30
  have c41 := (hb4.cell (p := ⟨w.heap.size, 1, none⟩) hlt3).trans c31
  have hlt4 := Nat.lt_of_lt_of_le hlt3 hb4.size
  clear hS2 hb4 hbx c30 c31 hlt3
  go_wp2_with fail
  refine (imFmt_any (HX.out _ HBX.out) hn).mono ?_
  rintro e w5 ⟨rfl, hb5⟩
  obtain ⟨x0, x1⟩ := box2 hb5
  have hbb := below_box hb5
  have HB5 := Lib.hid (HB4.out.trans (hbb.mono HB4.out.size))
  have HXB := Lib.hid hbb
  have c50 := (hbb.cell (p := ⟨w.heap.size, 0, none⟩) hlt4).trans c40
  have c51 := (hbb.cell (p := ⟨w.heap.size, 1, none⟩) hlt4).trans c41
  clear hb5 hbb c40 c41 hlt4
  go_wp2_with fail
  go_region_held3 (fun w' => w'.cell? ⟨w.heap.size, 0, none⟩ = some (.int .i64 t.kind) ∧ w'.cell? ⟨w.heap.size, 1, none⟩ = some (.slice p t.args.length c) ∧ w'.cell? ⟨w4.heap.size, 0, none⟩ = some (.int .i64 t.kind) ∧ w'.cell? ⟨w4.heap.size, 1, none⟩ = some (.slice p2 t.args.length q2) ∧ Below w5.heap.size w5 w')
    (first
      | (go_keep; done)
      | exact ⟨by simp [*], by simp [*], by simp [*], by simp [*], (Below.refl _ _).drew⟩
      | exact keep4 hb7 (by assumption)
      | exact keep4 hb6 (by assumption))
    (first
      | (go_at_call 39; refine (toT_any (HT.out _ (HB5.out.trans (((Below.refl _ _).drew).mono HB5.out.size))) hn).mono ?_; rintro e w6 ⟨v3, rfl, ho3, hb6⟩)
      | (go_at_call 40; refine (eqT_any (HX.out _ (HXB.out.trans (((Below.refl _ _).drew.trans hb6).mono HXB.out.size))) ho3.tt).mono ?_; rintro e w7 ⟨b7, he7, rfl, hb7⟩))
  rename_i hH
  have HBL := Lib.hid (HB5.out.trans (hH.2.2.2.2.mono HB5.out.size))
  obtain rfl : b7 = true := by simpa using he7
  clear hH
  go_wp2_with fail
  go_ret
  exact ⟨rfl, HBL.out⟩
end Go.Proofs.Ytnciibngcaajgaa

