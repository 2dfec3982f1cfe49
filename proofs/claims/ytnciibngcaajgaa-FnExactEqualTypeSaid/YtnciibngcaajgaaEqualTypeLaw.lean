/-
  The walk of the law that EqualType answers as its model does.
-/
import Derived.Test.YtnciibngcaajgaaOpenT
import Derived.Test.YtnciibngcaajgaaSpecEq
import Derived.Test.YtnciibngcaajgaaAid
import Derived.Test.YtnciibngcaajgaaEqT
namespace Go.Proofs.Ytnciibngcaajgaa
open Go Go.RowKit

theorem two_boxes {w wl : World} {A B : Array Value} {tA tB : TypeId} (h : Below ((w.alloc (.cells A tA)).alloc (.cells B tB)).heap.size ((w.alloc (.cells A tA)).alloc (.cells B tB)) wl) :
    wl.heap[w.heap.size]? = some (.cells A tA (0, 0)) ∧ wl.heap[w.heap.size + 1]? = some (.cells B tB (0, 0)) := by
  constructor
  · rw [h.block _ (by simp; omega)]; exact two_blk0 w A B tA tB
  · rw [h.block _ (by simp)]; exact two_blk1 w A B tA tB
theorem blk_keep {w w' : World} {b : Nat} {o : Obj} (h : w.heap[b]? = some o) (hb : Below w.heap.size w w') : w'.heap[b]? = some o := (hb.block b (Array.getElem?_eq_some_iff.1 h).1).trans h
theorem cells2 {w : World} {b : Nat} {x y : Value} {t : TypeId} (h : w.heap[b]? = some (.cells #[x, y] t (0, 0))) : w.cell? ⟨b, 0, none⟩ = some x ∧ w.cell? ⟨b, 1, none⟩ = some y := ⟨cell_of_blk h 0, cell_of_blk h 1⟩

set_option maxRecDepth 100000 in
set_option maxHeartbeats 1000000 in
theorem lawEqualType {C C' : Nat → Prop} (t u : Ty) (v x : Value) (w : World) (h : TT w C t v) (h2 : TT w C' u x) :
    Calls Try.prog 8 #[v, x] w fun e w' => e = .returned (.bool true) ∧ Below w.heap.size w w' := by
  have HT := Lib.hid (fun w' (hb : Below w.heap.size w w') => h.keep hb)
  have HU := Lib.hid (fun w' (hb : Below w.heap.size w w') => h2.keep hb)
  obtain ⟨s, rfl, hS⟩ := h
  obtain ⟨p, c, rfl⟩ := hS.form
  obtain ⟨s2, rfl, hS2⟩ := h2
  obtain ⟨p2, c2, rfl⟩ := hS2.form
  clear hS hS2
  have HB0 := Lib.hid (((Below.refl w.heap.size w).alloc (Nat.le_refl _) (Obj.cells #[.int .i64 t.kind, .slice p t.args.length c] 40)).alloc (by simp) (Obj.cells #[.int .i64 u.kind, .slice p2 u.args.length c2] 40))
  go_enter Try.func8, Try.ntmps8
  go_wp2_with fail
  refine (szT_any (HT.out _ HB0.out) 1048576 (by omega) (by omega)).mono ?_
  rintro e w1 ⟨r, hr, rfl, hb1⟩
  obtain ⟨kA, kB⟩ := two_boxes hb1
  have HKA := Lib.hid kA
  have HKB := Lib.hid kB
  obtain ⟨a0, a1⟩ := cells2 kA
  obtain ⟨b0, b1⟩ := cells2 kB
  have HB1 := Lib.hid (HB0.out.trans (hb1.mono HB0.out.size))
  have HR := Lib.hid hr
  have hrr := hr.range (by omega)
  clear hr hb1 kA kB
  by_cases h0 : r < 0
  · go_wp2_with fail
    go_ret
    exact ⟨rfl, HB1.out⟩
  have hn : nodesS t.args ≤ 1048576 := by have := HR.out; unfold SzEnds at this; omega
  go_wp2_with fail
  refine (szT_any (HU.out _ HB1.out) r (by omega) (by omega)).mono ?_
  rintro e w2 ⟨r2, hr2, rfl, hb2⟩
  have HKA2 := Lib.hid (blk_keep HKA.out hb2)
  have HKB2 := Lib.hid (blk_keep HKB.out hb2)
  have HB2 := Lib.hid (HB1.out.trans (hb2.mono HB1.out.size))
  have HR2 := Lib.hid hr2
  clear hr2 hb2 HKA HKB a0 a1 b0 b1
  obtain ⟨a0, a1⟩ := cells2 HKA2.out
  obtain ⟨b0, b1⟩ := cells2 HKB2.out
  by_cases h02 : r2 < 0
  · go_wp2_with fail
    go_ret
    exact ⟨rfl, HB2.out⟩
  have hn2 : nodesS u.args ≤ 1048576 := by have := HR2.out; unfold SzEnds at this; omega
  go_wp2_with fail
  go_region_held3 (fun w' => w'.cell? ⟨w.heap.size, 0, none⟩ = some (.int .i64 t.kind) ∧ w'.cell? ⟨w.heap.size, 1, none⟩ = some (.slice p t.args.length c) ∧ w'.cell? ⟨w.heap.size + 1, 0, none⟩ = some (.int .i64 u.kind) ∧ w'.cell? ⟨w.heap.size + 1, 1, none⟩ = some (.slice p2 u.args.length c2) ∧ Below w2.heap.size w2 w')
    (first
      | (go_keep; done)
      | exact ⟨by simp [*], by simp [*], by simp [*], by simp [*], (Below.refl _ _).drew⟩
      | exact keep4 hb5 (by assumption)
      | exact keep4 hb4 (by assumption)
      | exact keep4 hb3 (by assumption))
    (first
      | (go_at_call_of 39 (Value.agg #[.int .i64 t.kind, .slice p t.args.length c]); refine (toT_any (HT.out _ (HB2.out.trans (((Below.refl _ _).drew).mono HB2.out.size))) hn).mono ?_; rintro e w3 ⟨v3, rfl, ho3, hb3⟩)
      | (go_at_call_of 39 (Value.agg #[.int .i64 u.kind, .slice p2 u.args.length c2]); refine (toT_any (HU.out _ (HB2.out.trans (((Below.refl _ _).drew.trans hb3).mono HB2.out.size))) hn2).mono ?_; rintro e w4 ⟨v4, rfl, ho4, hb4⟩)
      | (go_at_call 25; refine (eqSpT_any (ho3.tt.keep hb4) ho4.tt).mono ?_; rintro e w5 ⟨q1, hq1, rfl, hb5⟩))
  rename_i hH
  have HB5 := Lib.hid (HB2.out.trans (hH.2.2.2.2.mono HB2.out.size))
  have HKA5 := Lib.hid (blk_keep HKA2.out hH.2.2.2.2)
  have HKB5 := Lib.hid (blk_keep HKB2.out hH.2.2.2.2)
  have HQ1 := Lib.hid hq1
  clear hH a0 a1 b0 b1 hq1 ho3 ho4 hb3 hb4 hb5 HKA2 HKB2
  obtain ⟨a0, a1⟩ := cells2 HKA5.out
  obtain ⟨b0, b1⟩ := cells2 HKB5.out
  go_wp2_with fail
  refine (toT_any (HT.out _ HB5.out) hn).mono ?_
  rintro e w6 ⟨v6, rfl, ho6, hb6⟩
  obtain ⟨s6, rfl, hS6⟩ := ho6
  obtain ⟨p6, c6, rfl⟩ := hS6.form
  have hbx6 : Below w6.heap.size w6 (w6.alloc (.cells #[.int .i64 t.kind, .slice p6 t.args.length c6] 26)) := (Below.refl _ _).alloc (Nat.le_refl _) _
  have HX6 := Lib.hid (fun w' (hb : Below w6.heap.size w6 w') => (⟨_, rfl, hS6.ts.keep hb⟩ : TT w' _ t (.agg #[.int .i64 t.kind, .slice p6 t.args.length c6])))
  have HKX := Lib.hid (blk_new w6 (.cells #[.int .i64 t.kind, .slice p6 t.args.length c6] 26))
  have HB6 := Lib.hid (HB5.out.trans (hb6.mono HB5.out.size))
  have HBX6 := Lib.hid hbx6
  have HB6x := Lib.hid (HB6.out.trans (hbx6.mono HB6.out.size))
  have HKA6 := Lib.hid (blk_keep (blk_keep HKA5.out hb6) hbx6)
  have HKB6 := Lib.hid (blk_keep (blk_keep HKB5.out hb6) hbx6)
  clear hS6 hb6 hbx6 a0 a1 b0 b1 HKA5 HKB5
  obtain ⟨a0, a1⟩ := cells2 HKA6.out
  obtain ⟨b0, b1⟩ := cells2 HKB6.out
  go_wp2_with fail
  refine (toT_any (HU.out _ HB6x.out) hn2).mono ?_
  rintro e w7 ⟨v7, rfl, ho7, hb7⟩
  obtain ⟨s7, rfl, hS7⟩ := ho7
  obtain ⟨p7, c7, rfl⟩ := hS7.form
  have hbx7 : Below w7.heap.size w7 (w7.alloc (.cells #[.int .i64 u.kind, .slice p7 u.args.length c7] 26)) := (Below.refl _ _).alloc (Nat.le_refl _) _
  have HX7 := Lib.hid (fun w' (hb : Below w7.heap.size w7 w') => (⟨_, rfl, hS7.ts.keep hb⟩ : TT w' _ u (.agg #[.int .i64 u.kind, .slice p7 u.args.length c7])))
  have HKY := Lib.hid (blk_new w7 (.cells #[.int .i64 u.kind, .slice p7 u.args.length c7] 26))
  have HB67 := Lib.hid (HBX6.out.trans (hb7.mono HBX6.out.size))
  have HB7 := Lib.hid (HB6x.out.trans (hb7.mono HB6x.out.size))
  have HBX7 := Lib.hid hbx7
  have HB7x := Lib.hid (HB7.out.trans (hbx7.mono HB7.out.size))
  have HB67x := Lib.hid (HB67.out.trans (hbx7.mono HB67.out.size))
  have HKX7 := Lib.hid (blk_keep (blk_keep HKX.out hb7) hbx7)
  have HKA7 := Lib.hid (blk_keep (blk_keep HKA6.out hb7) hbx7)
  have HKB7 := Lib.hid (blk_keep (blk_keep HKB6.out hb7) hbx7)
  clear hS7 hb7 hbx7 a0 a1 b0 b1 HKA6 HKB6 HKX
  obtain ⟨x0, x1⟩ := cells2 HKX7.out
  go_wp2_with fail
  refine (eqI_any (HX6.out _ HB67x.out) (HX7.out _ HBX7.out) hn).mono ?_
  rintro e w8 ⟨q2, hq2, rfl, hb8⟩
  have hqq : q2 = q1 := by
    rw [Bool.eq_iff_iff]
    exact hq2.trans HQ1.out.symm
  subst hqq
  have HKX8 := Lib.hid (blk_keep HKX7.out hb8)
  have HKY8 := Lib.hid (blk_keep HKY.out hb8)
  have HKA8 := Lib.hid (blk_keep HKA7.out hb8)
  have HKB8 := Lib.hid (blk_keep HKB7.out hb8)
  have HB8 := Lib.hid (HB7x.out.trans (hb8.mono HB7x.out.size))
  have HX68 := Lib.hid (HB67x.out.trans (hb8.mono HB67x.out.size))
  have HX78 := Lib.hid (HBX7.out.trans (hb8.mono HBX7.out.size))
  clear hq2 hb8 x0 x1 HKX7 HKY HKA7 HKB7 HQ1
  obtain ⟨x0, x1⟩ := cells2 HKX8.out
  obtain ⟨a0, a1⟩ := cells2 HKA8.out
  go_wp2_with fail
  go_region_held3 (fun w' => w'.cell? ⟨w.heap.size, 0, none⟩ = some (.int .i64 t.kind) ∧ w'.cell? ⟨w.heap.size, 1, none⟩ = some (.slice p t.args.length c) ∧ w'.cell? ⟨w6.heap.size, 0, none⟩ = some (.int .i64 t.kind) ∧ w'.cell? ⟨w6.heap.size, 1, none⟩ = some (.slice p6 t.args.length c6) ∧ Below w8.heap.size w8 w')
    (first
      | (go_keep; done)
      | exact ⟨by simp [*], by simp [*], by simp [*], by simp [*], (Below.refl _ _).drew⟩
      | exact keep4 hb10 (by assumption)
      | exact keep4 hb9 (by assumption))
    (first
      | (go_at_call 39; refine (toT_any (HT.out _ (HB8.out.trans (((Below.refl _ _).drew).mono HB8.out.size))) hn).mono ?_; rintro e w9 ⟨v9, rfl, ho9, hb9⟩)
      | (go_at_call 40; refine (eqT_any (HX6.out _ (HX68.out.trans (((Below.refl _ _).drew.trans hb9).mono HX68.out.size))) ho9.tt).mono ?_; rintro e w10 ⟨b10, he10, rfl, hb10⟩))
  rename_i hH
  have HKB10 := Lib.hid (blk_keep HKB8.out hH.2.2.2.2)
  have HKY10 := Lib.hid (blk_keep HKY8.out hH.2.2.2.2)
  have HB10 := Lib.hid (HB8.out.trans (hH.2.2.2.2.mono HB8.out.size))
  have HX710 := Lib.hid (HX78.out.trans (hH.2.2.2.2.mono HX78.out.size))
  obtain rfl : b10 = true := by simpa using he10
  clear hH he10 hb9 hb10 ho9 x0 x1 a0 a1
  obtain ⟨y0, y1⟩ := cells2 HKY10.out
  obtain ⟨b0, b1⟩ := cells2 HKB10.out
  go_wp2_with fail
  go_region_held3 (fun w' => w'.cell? ⟨w.heap.size + 1, 0, none⟩ = some (.int .i64 u.kind) ∧ w'.cell? ⟨w.heap.size + 1, 1, none⟩ = some (.slice p2 u.args.length c2) ∧ w'.cell? ⟨w7.heap.size, 0, none⟩ = some (.int .i64 u.kind) ∧ w'.cell? ⟨w7.heap.size, 1, none⟩ = some (.slice p7 u.args.length c7) ∧ Below w10.heap.size w10 w')
    (first
      | (go_keep; done)
      | exact ⟨by simp [*], by simp [*], by simp [*], by simp [*], (Below.refl _ _).drew⟩
      | exact keep4 hb12 (by assumption)
      | exact keep4 hb11 (by assumption))
    (first
      | (go_at_call 39; refine (toT_any (HU.out _ (HB10.out.trans (((Below.refl _ _).drew).mono HB10.out.size))) hn2).mono ?_; rintro e w11 ⟨v11, rfl, ho11, hb11⟩)
      | (go_at_call 40; refine (eqT_any (HX7.out _ (HX710.out.trans (((Below.refl _ _).drew.trans hb11).mono HX710.out.size))) ho11.tt).mono ?_; rintro e w12 ⟨b12, he12, rfl, hb12⟩))
  rename_i hH
  have HBL := Lib.hid (HB10.out.trans (hH.2.2.2.2.mono HB10.out.size))
  obtain rfl : b12 = true := by simpa using he12
  clear hH
  go_wp2_with fail
  go_ret
  exact ⟨rfl, HBL.out⟩
end Go.Proofs.Ytnciibngcaajgaa

